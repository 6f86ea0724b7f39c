/- What wire.GetInt does: it reads a string's bytes and answers the number at their front, in how many bytes, and the error; memory stands. -/
import Derived.Test.YtcjmeaikdfgapaaDoorWireInt
import Derived.ScopeJumps
import Derived.WalkMore
namespace Go.Proofs.YtcjmeaikdfgapaaDoor
open Go.RowKit

theorem i64_or_nat (a b : Nat) (ha : a < 9223372036854775808) (hb : b < 9223372036854775808) : bits .or .i64 (a : Int) (b : Int) = ((a ||| b : Nat) : Int) := by
  have hx : a ||| b < 2 ^ 63 := Nat.or_lt_two_pow (by omega) (by omega)
  show IntKind.i64.wrap ((BitVec.ofInt 64 (a : Int) ||| BitVec.ofInt 64 (b : Int)).toNat : Int) = _
  rw [BitVec.toNat_or, ofInt_u64 a (by omega), ofInt_u64 b (by omega)]
  simp [IntKind.wrap, IntKind.bits, IntKind.signed]
  omega

theorem wrap64_id (n : Nat) (h : n < 9223372036854775808) : wrap64 (n : Int) = (n : Int) := by
  unfold wrap64
  omega

theorem or_step (acc i c : Nat) (hi : i ≤ 8) (ha : acc < 128 ^ i) : bits .or .i64 (acc : Int) (wrap64 ((c : Int) % 128 * 2 ^ (7 * i))) = ((acc + c % 128 * 128 ^ i : Nat) : Int) := by
  have hp : (2 : Nat) ^ (7 * i) = 128 ^ i := by rw [Nat.pow_mul]
  have h63 := step_lt63 acc i c hi ha
  have e : ((c : Int) % 128 * 2 ^ (7 * i)) = ((c % 128 * 128 ^ i : Nat) : Int) := by
    rw [← hp]; simp
  rw [e, wrap64_id _ (by omega), i64_or_nat _ _ (by omega) (by omega)]
  congr 1
  rw [Nat.or_comm, ← hp, nat_join (7 * i) _ _ (by simp) (by rw [hp]; exact ha)]
  omega

theorem or_first (c : Nat) : bits .or .i64 0 ((c : Int) % 128) = ((c % 128 : Nat) : Int) := by
  have h := i64_or_nat 0 (c % 128) (by omega) (by omega)
  rw [Nat.zero_or] at h
  rw [show ((0 : Int)) = ((0 : Nat) : Int) from rfl, show ((c : Int) % 128) = ((c % 128 : Nat) : Int) from by omega]
  exact h

theorem andNot_byte (c : Nat) (h : c < 256) : bits .andNot .u8 (c : Int) 128 = ((c % 128 : Nat) : Int) := by
  have h1 := u8_andNot_nat c 128 h (by omega)
  rw [show ((128 : Int)) = ((128 : Nat) : Int) from rfl, h1]
  congr 1
  exact nat_mask7 c

theorem drop_cons (s : ByteArray) (i : Nat) (h : i < s.size) : s.data.toList.drop i = s[i] :: s.data.toList.drop (i + 1) := by
  rw [List.drop_eq_getElem_cons (by simpa using h)]; rfl

def giVal (r : Nat × Nat × Nat) : Value := .tuple #[.int .i64 r.1, .int .i64 r.2.1, .int .i64 r.2.2]

theorem giEnd {r : Nat × Nat × Nat} {a b c : Nat} (h : r = (a, b, c)) : Ending.returned (.tuple #[.int .i64 (a : Int), .int .i64 (b : Int), .int .i64 (c : Int)]) = .returned (giVal r) := by
  rw [h]; rfl
end Go.Proofs.YtcjmeaikdfgapaaDoor
