/- Texts as one: MixMath, MixBlend, MixArr, RegionHead, MixWords, MixNumbers, MixText, MixFoldMath, MixStir, MixFold, MixDigMath, MixDigest, MixFace, MixLaid. -/
import Derived.Laws.BitsAllLaws
import Derived.Test.YthhildeocedpiaaDoorRows
import Derived.WalkKit
import Derived.WalkSpells
import Derived.WalkLawsBesides
import Derived.Deep.QuietTactic
import Derived.BigQuiet
import Derived.Below
import Derived.Laws.Rows
import Derived.Laws.Tables
import Derived.WalkSmall
import Derived.Deep.MidRow
import Derived.StillTail
import Derived.Deep.Quiet
import Derived.Lib.QuietBelow
import Derived.BigRegion
import Derived.ProofKit
import Derived.LaidMore
import Derived.OpenShut
import Derived.ShutString
import Derived.ChangeOld
import Derived.SizedLaws
import Derived.Stop.Joined
/- The digest of layer 2 as plain functions of lists: words of thirty-two bits, their mixing, blocks, the digest of a text under a key. -/
namespace Go.Proofs.YthhildeocedpiaaDoor.Mx

def rotr (x : UInt32) (n : Nat) : UInt32 := UInt32.ofNat ((x.toNat / 2 ^ n) ||| (x.toNat * 2 ^ (32 - n) % 4294967296))

/-- A word as a value. -/
def wv (x : UInt32) : Value := .int .u32 (x.toNat : Int)

theorem wv_one (x : UInt32) : (wv x).oneCell' = true := rfl

theorem u32_lt (x : UInt32) : x.toNat < 4294967296 := x.toNat_lt

def wadd (x y : UInt32) : UInt32 := x + y
def wxor (x y : UInt32) : UInt32 := x ^^^ y
def wor (x y : UInt32) : UInt32 := x ||| y

theorem fold_add (x y : UInt32) : ((x.toNat : Int) + (y.toNat : Int)) % 4294967296 = ((wadd x y).toNat : Int) := by
  unfold wadd; rw [UInt32.toNat_add]; omega
theorem fold_xor (x y : UInt32) : bits .xor .u32 (x.toNat : Int) (y.toNat : Int) = ((wxor x y).toNat : Int) := by
  unfold wxor; rw [u32_xor_nat _ _ x.toNat_lt y.toNat_lt, UInt32.toNat_xor]
theorem fold_or (x y : UInt32) : bits .or .u32 (x.toNat : Int) (y.toNat : Int) = ((wor x y).toNat : Int) := by
  unfold wor; rw [u32_or_nat _ _ x.toNat_lt y.toNat_lt, UInt32.toNat_or]
theorem wadd_assoc (x y z : UInt32) : wadd (wadd x y) z = wadd x (wadd y z) := UInt32.add_assoc x y z
theorem wxor_assoc (x y z : UInt32) : wxor (wxor x y) z = wxor x (wxor y z) := UInt32.xor_assoc x y z

theorem rotr_toNat (x : UInt32) (n : Nat) : (rotr x n).toNat = (x.toNat / 2 ^ n) ||| (x.toNat * 2 ^ (32 - n) % 4294967296) := by
  unfold rotr
  rw [UInt32.toNat_ofNat']
  refine Nat.mod_eq_of_lt (Nat.or_lt_two_pow (n := 32) (Nat.lt_of_le_of_lt (Nat.div_le_self _ _) x.toNat_lt) (Nat.mod_lt _ (by decide)))

/-- Four words, mixed with two. -/
structure Quad where
  a : UInt32
  b : UInt32
  c : UInt32
  d : UInt32

def quad (a b c d x y : UInt32) : Quad :=
  let a1 := wadd a (wadd b x)
  let d1 := rotr (wxor d a1) 16
  let c1 := wadd c d1
  let b1 := rotr (wxor b c1) 12
  let a2 := wadd a1 (wadd b1 y)
  let d2 := rotr (wxor d1 a2) 8
  let c2 := wadd c1 d2
  let b2 := rotr (wxor b1 c2) 7
  ⟨a2, b2, c2, d2⟩

def rv (r : Nat) : Value := .int .u8 (r : Int)

/-- Four words of a row, mixed with two. -/
def stepQ (ws : List UInt32) (p q u v : Nat) (x y : UInt32) : List UInt32 :=
  let r := quad (ws.getD p 0) (ws.getD q 0) (ws.getD u 0) (ws.getD v 0) x y
  (((ws.set p r.a).set q r.b).set u r.c).set v r.d

/-- Columns, then diagonals. -/
def stirL (ws ms : List UInt32) (rs : List Nat) : List UInt32 :=
  let s0 := stepQ ws 0 4 8 12 (ms.getD (rs.getD 0 0) 0) (ms.getD (rs.getD 1 0) 0)
  let s1 := stepQ s0 1 5 9 13 (ms.getD (rs.getD 2 0) 0) (ms.getD (rs.getD 3 0) 0)
  let s2 := stepQ s1 2 6 10 14 (ms.getD (rs.getD 4 0) 0) (ms.getD (rs.getD 5 0) 0)
  let s3 := stepQ s2 3 7 11 15 (ms.getD (rs.getD 6 0) 0) (ms.getD (rs.getD 7 0) 0)
  let s4 := stepQ s3 0 5 10 15 (ms.getD (rs.getD 8 0) 0) (ms.getD (rs.getD 9 0) 0)
  let s5 := stepQ s4 1 6 11 12 (ms.getD (rs.getD 10 0) 0) (ms.getD (rs.getD 11 0) 0)
  let s6 := stepQ s5 2 7 8 13 (ms.getD (rs.getD 12 0) 0) (ms.getD (rs.getD 13 0) 0)
  stepQ s6 3 4 9 14 (ms.getD (rs.getD 14 0) 0) (ms.getD (rs.getD 15 0) 0)
end Go.Proofs.YthhildeocedpiaaDoor.Mx

/- What mix.blend and the reference's mixed do: four words mixed with two; nothing in memory is turned. -/
namespace Go.Proofs.YthhildeocedpiaaDoor.Mx
open Go.RowKit

theorem results_tmp4 {fn : Func} {t u v x : Tmp} (h : fn.results = #[.tmp t, .tmp u, .tmp v, .tmp x]) (tmps : Array Value) (P : Program) (w : World) :
    (results fn tmps).run P w = .ok (.tuple #[tmps.getD t undef, tmps.getD u undef, tmps.getD v undef, tmps.getD x undef]) w := by
  simp [results, h]

theorem or_comm_nat (a b : Nat) : a ||| b = b ||| a := Nat.or_comm a b

theorem rot_spell_16 (x : UInt32) : bits .or .u32 ((x.toNat : Int) * 65536 % 4294967296) ((x.toNat : Int) / 65536) = ((rotr x 16).toNat : Int) := by
  have hx := x.toNat_lt
  have h := u32_or_nat (x.toNat * 65536 % 4294967296) (x.toNat / 65536) (Nat.mod_lt _ (by decide)) (by omega)
  rw [rotr_toNat, Nat.or_comm]
  simpa using h

theorem rot_spell'_16 (x : UInt32) : bits .or .u32 ((x.toNat : Int) / 65536) ((x.toNat : Int) * 65536 % 4294967296) = ((rotr x 16).toNat : Int) := by
  have hx := x.toNat_lt
  have h := u32_or_nat (x.toNat / 65536) (x.toNat * 65536 % 4294967296) (by omega) (Nat.mod_lt _ (by decide))
  rw [rotr_toNat]
  simpa using h

set_option maxRecDepth 100000 in
theorem rot_16 (x : UInt32) (w : World) :
    Calls Tryd.prog 124 #[.int .u32 x.toNat, .int .i64 (-16)] w fun e w' => e = .returned (.int .u32 (rotr x 16).toNat) ∧ w' = w := by
  have hx := x.toNat_lt
  have h1 : bits BinOp.and IntKind.u64 (IntKind.u64.wrap (-16)) 31 = 16 := by decide +kernel
  go_enter Tryd.func124, Tryd.ntmps124
  go_wp2
  go_ret
  refine ⟨?_, rfl⟩
  simp [rot_spell_16]

set_option maxRecDepth 100000 in
theorem right_16 (x : UInt32) (w : World) :
    Calls Tryd.prog 123 #[.int .u32 x.toNat, .int .i64 16] w fun e w' => e = .returned (.int .u32 (rotr x 16).toNat) ∧ w' = w := by
  go_enter Tryd.func123, Tryd.ntmps123
  go_wp2_with fail
  refine (rot_16 x w).mono ?_
  rintro e w' ⟨rfl, rfl⟩
  go_wp2
  go_ret
  exact ⟨rfl, rfl⟩

set_option maxRecDepth 100000 in
theorem round_16 (x : UInt32) (w : World) :
    Calls Tryd.prog 122 #[.int .u32 x.toNat, .int .i64 16] w fun e w' => e = .returned (.int .u32 (rotr x 16).toNat) ∧ ∃ m, w' = w.drewN m := by
  have hx := x.toNat_lt
  go_enter Tryd.func122, Tryd.ntmps122
  go_wp2
  go_quiet (fail)
  go_wp2
  go_ret
  refine ⟨?_, nq, rfl⟩
  simp [rot_spell'_16]

theorem rot_spell_12 (x : UInt32) : bits .or .u32 ((x.toNat : Int) * 1048576 % 4294967296) ((x.toNat : Int) / 4096) = ((rotr x 12).toNat : Int) := by
  have hx := x.toNat_lt
  have h := u32_or_nat (x.toNat * 1048576 % 4294967296) (x.toNat / 4096) (Nat.mod_lt _ (by decide)) (by omega)
  rw [rotr_toNat, Nat.or_comm]
  simpa using h

theorem rot_spell'_12 (x : UInt32) : bits .or .u32 ((x.toNat : Int) / 4096) ((x.toNat : Int) * 1048576 % 4294967296) = ((rotr x 12).toNat : Int) := by
  have hx := x.toNat_lt
  have h := u32_or_nat (x.toNat / 4096) (x.toNat * 1048576 % 4294967296) (by omega) (Nat.mod_lt _ (by decide))
  rw [rotr_toNat]
  simpa using h

set_option maxRecDepth 100000 in
theorem rot_12 (x : UInt32) (w : World) :
    Calls Tryd.prog 124 #[.int .u32 x.toNat, .int .i64 (-12)] w fun e w' => e = .returned (.int .u32 (rotr x 12).toNat) ∧ w' = w := by
  have hx := x.toNat_lt
  have h1 : bits BinOp.and IntKind.u64 (IntKind.u64.wrap (-12)) 31 = 20 := by decide +kernel
  go_enter Tryd.func124, Tryd.ntmps124
  go_wp2
  go_ret
  refine ⟨?_, rfl⟩
  simp [rot_spell_12]

set_option maxRecDepth 100000 in
theorem right_12 (x : UInt32) (w : World) :
    Calls Tryd.prog 123 #[.int .u32 x.toNat, .int .i64 12] w fun e w' => e = .returned (.int .u32 (rotr x 12).toNat) ∧ w' = w := by
  go_enter Tryd.func123, Tryd.ntmps123
  go_wp2_with fail
  refine (rot_12 x w).mono ?_
  rintro e w' ⟨rfl, rfl⟩
  go_wp2
  go_ret
  exact ⟨rfl, rfl⟩

set_option maxRecDepth 100000 in
theorem round_12 (x : UInt32) (w : World) :
    Calls Tryd.prog 122 #[.int .u32 x.toNat, .int .i64 12] w fun e w' => e = .returned (.int .u32 (rotr x 12).toNat) ∧ ∃ m, w' = w.drewN m := by
  have hx := x.toNat_lt
  go_enter Tryd.func122, Tryd.ntmps122
  go_wp2
  go_quiet (fail)
  go_wp2
  go_ret
  refine ⟨?_, nq, rfl⟩
  simp [rot_spell'_12]

theorem rot_spell_8 (x : UInt32) : bits .or .u32 ((x.toNat : Int) * 16777216 % 4294967296) ((x.toNat : Int) / 256) = ((rotr x 8).toNat : Int) := by
  have hx := x.toNat_lt
  have h := u32_or_nat (x.toNat * 16777216 % 4294967296) (x.toNat / 256) (Nat.mod_lt _ (by decide)) (by omega)
  rw [rotr_toNat, Nat.or_comm]
  simpa using h

theorem rot_spell'_8 (x : UInt32) : bits .or .u32 ((x.toNat : Int) / 256) ((x.toNat : Int) * 16777216 % 4294967296) = ((rotr x 8).toNat : Int) := by
  have hx := x.toNat_lt
  have h := u32_or_nat (x.toNat / 256) (x.toNat * 16777216 % 4294967296) (by omega) (Nat.mod_lt _ (by decide))
  rw [rotr_toNat]
  simpa using h

set_option maxRecDepth 100000 in
theorem rot_8 (x : UInt32) (w : World) :
    Calls Tryd.prog 124 #[.int .u32 x.toNat, .int .i64 (-8)] w fun e w' => e = .returned (.int .u32 (rotr x 8).toNat) ∧ w' = w := by
  have hx := x.toNat_lt
  have h1 : bits BinOp.and IntKind.u64 (IntKind.u64.wrap (-8)) 31 = 24 := by decide +kernel
  go_enter Tryd.func124, Tryd.ntmps124
  go_wp2
  go_ret
  refine ⟨?_, rfl⟩
  simp [rot_spell_8]

set_option maxRecDepth 100000 in
theorem right_8 (x : UInt32) (w : World) :
    Calls Tryd.prog 123 #[.int .u32 x.toNat, .int .i64 8] w fun e w' => e = .returned (.int .u32 (rotr x 8).toNat) ∧ w' = w := by
  go_enter Tryd.func123, Tryd.ntmps123
  go_wp2_with fail
  refine (rot_8 x w).mono ?_
  rintro e w' ⟨rfl, rfl⟩
  go_wp2
  go_ret
  exact ⟨rfl, rfl⟩

set_option maxRecDepth 100000 in
theorem round_8 (x : UInt32) (w : World) :
    Calls Tryd.prog 122 #[.int .u32 x.toNat, .int .i64 8] w fun e w' => e = .returned (.int .u32 (rotr x 8).toNat) ∧ ∃ m, w' = w.drewN m := by
  have hx := x.toNat_lt
  go_enter Tryd.func122, Tryd.ntmps122
  go_wp2
  go_quiet (fail)
  go_wp2
  go_ret
  refine ⟨?_, nq, rfl⟩
  simp [rot_spell'_8]

theorem rot_spell_7 (x : UInt32) : bits .or .u32 ((x.toNat : Int) * 33554432 % 4294967296) ((x.toNat : Int) / 128) = ((rotr x 7).toNat : Int) := by
  have hx := x.toNat_lt
  have h := u32_or_nat (x.toNat * 33554432 % 4294967296) (x.toNat / 128) (Nat.mod_lt _ (by decide)) (by omega)
  rw [rotr_toNat, Nat.or_comm]
  simpa using h

theorem rot_spell'_7 (x : UInt32) : bits .or .u32 ((x.toNat : Int) / 128) ((x.toNat : Int) * 33554432 % 4294967296) = ((rotr x 7).toNat : Int) := by
  have hx := x.toNat_lt
  have h := u32_or_nat (x.toNat / 128) (x.toNat * 33554432 % 4294967296) (by omega) (Nat.mod_lt _ (by decide))
  rw [rotr_toNat]
  simpa using h

set_option maxRecDepth 100000 in
theorem rot_7 (x : UInt32) (w : World) :
    Calls Tryd.prog 124 #[.int .u32 x.toNat, .int .i64 (-7)] w fun e w' => e = .returned (.int .u32 (rotr x 7).toNat) ∧ w' = w := by
  have hx := x.toNat_lt
  have h1 : bits BinOp.and IntKind.u64 (IntKind.u64.wrap (-7)) 31 = 25 := by decide +kernel
  go_enter Tryd.func124, Tryd.ntmps124
  go_wp2
  go_ret
  refine ⟨?_, rfl⟩
  simp [rot_spell_7]

set_option maxRecDepth 100000 in
theorem right_7 (x : UInt32) (w : World) :
    Calls Tryd.prog 123 #[.int .u32 x.toNat, .int .i64 7] w fun e w' => e = .returned (.int .u32 (rotr x 7).toNat) ∧ w' = w := by
  go_enter Tryd.func123, Tryd.ntmps123
  go_wp2_with fail
  refine (rot_7 x w).mono ?_
  rintro e w' ⟨rfl, rfl⟩
  go_wp2
  go_ret
  exact ⟨rfl, rfl⟩

set_option maxRecDepth 100000 in
theorem round_7 (x : UInt32) (w : World) :
    Calls Tryd.prog 122 #[.int .u32 x.toNat, .int .i64 7] w fun e w' => e = .returned (.int .u32 (rotr x 7).toNat) ∧ ∃ m, w' = w.drewN m := by
  have hx := x.toNat_lt
  go_enter Tryd.func122, Tryd.ntmps122
  go_wp2
  go_quiet (fail)
  go_wp2
  go_ret
  refine ⟨?_, nq, rfl⟩
  simp [rot_spell'_7]

set_option maxRecDepth 100000 in
theorem blend_any (a b c d x y : UInt32) (w : World) :
    Calls Tryd.prog 121 #[wv a, wv b, wv c, wv d, wv x, wv y] w fun e w' => e = .returned (.tuple #[wv (quad a b c d x y).a, wv (quad a b c d x y).b, wv (quad a b c d x y).c, wv (quad a b c d x y).d]) ∧ w' = w := by
  unfold quad wv
  have F := fold_add
  have X := fold_xor
  go_enter Tryd.func121, Tryd.ntmps121
  go_wp2_with fail
  refine (right_16 _ _).mono ?_
  rintro e w' ⟨rfl, rfl⟩
  go_wp2_with fail
  refine (right_12 _ _).mono ?_
  rintro e w' ⟨rfl, rfl⟩
  go_wp2_with fail
  refine (right_8 _ _).mono ?_
  rintro e w' ⟨rfl, rfl⟩
  go_wp2_with fail
  refine (right_7 _ _).mono ?_
  rintro e w' ⟨rfl, rfl⟩
  go_wp2
  (try simp only [Exit.inBlock, Exit.then])
  refine bodyPost_ret (results_tmp4 rfl _ _ _) rfl ?_
  exact ⟨rfl, rfl⟩

set_option maxRecDepth 100000 in
theorem mixed_any (a b c d x y : UInt32) (w : World) :
    Calls Tryd.prog 119 #[wv a, wv b, wv c, wv d, wv x, wv y] w fun e w' => e = .returned (.tuple #[wv (quad a b c d x y).a, wv (quad a b c d x y).b, wv (quad a b c d x y).c, wv (quad a b c d x y).d]) ∧ ∃ m, w' = w.drewN m := by
  unfold quad wv
  have F := fold_add
  have X := fold_xor
  go_enter Tryd.func119, Tryd.ntmps119
  go_wp2_with fail
  refine (round_16 _ _).mono ?_
  rintro e w' ⟨rfl, m0, rfl⟩
  go_wp2_with fail
  refine (round_12 _ _).mono ?_
  rintro e w' ⟨rfl, m1, rfl⟩
  go_wp2_with fail
  refine (round_8 _ _).mono ?_
  rintro e w' ⟨rfl, m2, rfl⟩
  go_wp2_with fail
  refine (round_7 _ _).mono ?_
  rintro e w' ⟨rfl, m3, rfl⟩
  go_wp2
  (try simp only [Exit.inBlock, Exit.then])
  refine bodyPost_ret (results_tmp4 rfl _ _ _) rfl ?_
  refine ⟨?_, m0 + m1 + m2 + m3, ?_⟩
  · simp [wadd_assoc]
  · simp [Nat.add_assoc]
end Go.Proofs.YthhildeocedpiaaDoor.Mx

/- A block that holds a known row of cells, none of them frozen; what becomes of it by a store, by new blocks, by a draw. -/
namespace Go.Proofs.YthhildeocedpiaaDoor.Mx
open Go.RowKit

/-- Block g is a row of the cells cs. -/
def Arr (w : World) (g : Nat) (t : TypeId) (cs : List Value) : Prop := w.heap[g]? = some (.cells cs.toArray t (0, 0))

theorem Arr.lt {w : World} {g : Nat} {t : TypeId} {cs : List Value} (h : Arr w g t cs) : g < w.heap.size := by
  unfold Arr at h
  by_cases hl : g < w.heap.size
  · exact hl
  · simp [Nat.not_lt.1 hl] at h

theorem Arr.cell {w : World} {g : Nat} {t : TypeId} {cs : List Value} (h : Arr w g t cs) {i : Nat} {v : Value} (hv : cs[i]? = some v) : w.cell? ⟨g, i, none⟩ = some v := by
  unfold Arr at h
  simp [World.cell?, h, hv]

theorem Arr.frozen {w : World} {g : Nat} {t : TypeId} {cs : List Value} (h : Arr w g t cs) (i : Nat) : w.frozen? ⟨g, i, none⟩ = false := by
  unfold Arr at h
  simp [World.frozen?, h]

theorem Arr.drew {w : World} {g : Nat} {t : TypeId} {cs : List Value} (h : Arr w g t cs) : Arr w.drew g t cs := h
theorem Arr.drewN {w : World} {g : Nat} {t : TypeId} {cs : List Value} (h : Arr w g t cs) (n : Nat) : Arr (w.drewN n) g t cs := h

theorem Arr.alloc {w : World} {g : Nat} {t : TypeId} {cs : List Value} (h : Arr w g t cs) (o : Obj) : Arr (w.alloc o) g t cs := by
  have := h.lt
  unfold Arr at h ⊢
  rw [Below.heap_alloc w o g this, h]

theorem Arr.new (w : World) (t : TypeId) (cs : List Value) : Arr (w.alloc (.cells cs.toArray t)) w.heap.size t cs := heap_alloc_new w _

theorem Arr.other {w : World} {g : Nat} {t : TypeId} {cs : List Value} (h : Arr w g t cs) {p : Addr} (hp : g ≠ p.block) (u : Value) : Arr (w.setCell p u) g t cs := by
  unfold Arr at h ⊢
  rw [Below.heap_setCell w p u g hp, h]

theorem Arr.set {w : World} {g : Nat} {t : TypeId} {cs : List Value} (h : Arr w g t cs) (i : Nat) (u : Value) : Arr (w.setCell ⟨g, i, none⟩ u) g t (cs.set i u) := by
  unfold Arr at h ⊢
  show (w.heap.modify g _)[g]? = _
  rw [Array.getElem?_modify, if_pos rfl, h]
  simp

theorem Arr.row {w : World} {g : Nat} {t : TypeId} {cs : List Value} (h : Arr w g t cs) (c' : List Value) : Arr (w.setRow g c'.toArray) g t c' := by
  unfold Arr at h ⊢
  show (w.heap.modify g _)[g]? = _
  rw [Array.getElem?_modify, if_pos rfl, h]
  simp

theorem Arr.rowOther {w : World} {g g' : Nat} {t : TypeId} {cs : List Value} (h : Arr w g t cs) (hg : g ≠ g') (c' : Array Value) : Arr (w.setRow g' c') g t cs := by
  unfold Arr at h ⊢
  show (w.heap.modify g' _)[g]? = _
  rw [Array.getElem?_modify, if_neg (fun e => hg e.symm), h]

theorem below_setRow {B : Nat} {a w : World} (h : Below B a w) {g : Nat} (hg : B ≤ g) (c' : Array Value) : Below B a (w.setRow g c') := by
  refine h.trans ⟨rfl, rfl, rfl, by show _ ≤ (w.heap.modify g _).size; simp, fun k hk => ?_⟩
  show (w.heap.modify g _)[k]? = _
  rw [Array.getElem?_modify, if_neg (by omega)]

theorem Arr.below {w w' : World} {g B : Nat} {t : TypeId} {cs : List Value} (h : Arr w g t cs) (hb : Below B w w') (hg : g < B) : Arr w' g t cs := by
  unfold Arr at h ⊢
  rw [hb.block g hg, h]

theorem Arr.range {w : World} {g : Nat} {t : TypeId} {cs : List Value} (h : Arr w g t cs) : w.rangeAt g 0 cs := fun j v hv => by
  rw [Nat.zero_add]; exact h.cell hv

theorem range_below {w w' : World} {b o : Nat} {cs : List Value} (h : w.rangeAt b o cs) (hb : Below w.heap.size w w') : w'.rangeAt b o cs := fun j v hv => by
  have := h j v hv
  rw [hb.cell (World.block_lt_of_cell? w _ this)]; exact this

theorem one_all (l : List UInt32) : ((l.map wv).toArray).all (·.oneCell') = true := by
  rw [Array.all_eq_true_iff_forall_mem]
  intro v hv
  simp at hv
  obtain ⟨x, _, rfl⟩ := hv
  rfl

theorem alloc_size (w : World) (o : Obj) : (w.alloc o).heap.size = w.heap.size + 1 := by
  show (w.heap.push o).size = _
  simp

theorem two_new (w : World) (t1 t2 : TypeId) (l1 l2 : List Value) :
    Arr ((w.alloc (.cells l1.toArray t1)).alloc (.cells l2.toArray t2)) w.heap.size t1 l1 ∧ Arr ((w.alloc (.cells l1.toArray t1)).alloc (.cells l2.toArray t2)) (w.heap.size + 1) t2 l2
      ∧ Below w.heap.size w ((w.alloc (.cells l1.toArray t1)).alloc (.cells l2.toArray t2)) := by
  refine ⟨(Arr.new _ _ _).alloc _, ?_, ((Below.refl _ w).alloc (Nat.le_refl _) _).alloc (by rw [alloc_size]; omega) _⟩
  have := Arr.new (w.alloc (.cells l1.toArray t1)) t2 l2
  rwa [alloc_size] at this

theorem four_new (w : World) (t1 t2 t3 t4 : TypeId) (l1 l2 l3 l4 : List Value) (W : World) (hW : W = (((w.alloc (.cells l1.toArray t1)).alloc (.cells l2.toArray t2)).alloc (.cells l3.toArray t3)).alloc (.cells l4.toArray t4)) :
    Arr W w.heap.size t1 l1 ∧ Arr W (w.heap.size + 1) t2 l2 ∧ Arr W (w.heap.size + 1 + 1) t3 l3 ∧ Arr W (w.heap.size + 1 + 1 + 1) t4 l4 ∧ Below w.heap.size w W := by
  subst hW
  obtain ⟨h1, h2, hb⟩ := two_new w t1 t2 l1 l2
  have e2 : ((w.alloc (.cells l1.toArray t1)).alloc (.cells l2.toArray t2)).heap.size = w.heap.size + 1 + 1 := by rw [alloc_size, alloc_size]
  obtain ⟨h3, h4, hb'⟩ := two_new ((w.alloc (.cells l1.toArray t1)).alloc (.cells l2.toArray t2)) t3 t4 l3 l4
  rw [e2] at h3 h4 hb'
  exact ⟨(h1.alloc _).alloc _, (h2.alloc _).alloc _, h3, h4, hb.trans (hb'.mono (by omega))⟩
end Go.Proofs.YthhildeocedpiaaDoor.Mx

/- A region that draws its order, in two parts: a head whose operations are quiet in a class of worlds, each waited for by the tail; then the tail, in whatever order. One walk of the head in the text's order serves every order. -/
namespace Go.Proofs.YthhildeocedpiaaDoor.Mx
open Go Go.Sort Go.RowKit

section
variable {P : Program} {ops : Array Oper} {md : Region.Mode} {C : World → Prop}

/-- Each operation ahead of n is waited for by a later one ahead of n, or by all from n on. -/
def barB (md : Region.Mode) (ops : Array Oper) (n : Nat) : Bool :=
  (List.range n).all fun i => ((List.range n).any fun j => decide (i < j) && Region.waitsFor md ops j i) || ((List.range ops.size).all fun t => decide (t < n) || Region.waitsFor md ops t i)

theorem bar_waits {n : Nat} {listed : Array Bool} (hs : barB md ops n = true) (_hn : n ≤ ops.size) (inv : HeadInv md ops n listed) :
    ∀ (d i : Nat), n - i = d → i < n → listed.getD i true = false → ∀ t, n ≤ t → t ∉ Region.ready md ops listed := by
  intro d
  induction d using Nat.strongRecOn with
  | _ d ih =>
    intro i hd hi hun t ht hr
    obtain ⟨_, ot, hot, hall⟩ := mem_ready.1 hr
    have htlt : t < ops.size := (Array.getElem?_eq_some_iff.1 hot).1
    have h1 := List.all_eq_true.1 hs i (List.mem_range.2 hi)
    simp only [Bool.or_eq_true] at h1
    rcases h1 with h1 | h1
    · obtain ⟨j, hj, hj2⟩ := List.any_eq_true.1 h1
      simp only [Bool.and_eq_true, decide_eq_true_eq] at hj2
      obtain ⟨oj, hoj, e, he, hb, hon⟩ := Region.waitsFor_spec hj2.2
      have hjn := List.mem_range.1 hj
      cases hl : listed.getD j false with
      | true =>
        have h2 := inv.closed j oj hoj hl e he hb
        rw [hon, getD_both hun] at h2
        cases h2
      | false =>
        have hjs : j < listed.size := by rw [inv.size]; omega
        exact ih (n - j) (by omega) j rfl (by omega) (getD_in hjs hl) t ht hr
    · have h2 := List.all_eq_true.1 h1 t (List.mem_range.2 htlt)
      simp only [Bool.or_eq_true, decide_eq_true_eq] at h2
      rcases h2 with h2 | h2
      · omega
      · obtain ⟨o', ho', e, he, hb, hon⟩ := Region.waitsFor_spec h2
        have : o' = ot := Option.some.inj (ho'.symm.trans hot)
        subst this
        have h3 := hall e he hb
        rw [hon, getD_both hun] at h3
        cases h3

def wpAnyT (P : Program) (md : Region.Mode) (ops : Array Oper) (C : World → Prop) (n : Nat) (T : Array Bool → Act → Prop) : Nat → Array Bool → Act → Prop
  | 0, listed, a => T listed a
  | f + 1, listed, a =>
    Region.ready md ops listed ≠ [] ∧ ∀ i ∈ Region.ready md ops listed, i < n ∧ qOp P ops C i (wpAnyT P md ops C n T f (listed.setIfInBounds i true)) a

theorem wpAny_of_headT {n g : Nat} {T : Array Bool → Act → Prop} {Q' : Exit → Act → World → Prop} (hT : ∀ listed a w, C w → T listed a → wpAny P md ops Q' g listed a w) :
    ∀ (f : Nat) (listed : Array Bool) (a : Act) (w : World), C w → wpAnyT P md ops C n T f listed a → wpAny P md ops Q' (f + g) listed a w
  | 0, listed, a, w, hC, h => by rw [Nat.zero_add]; exact hT _ _ _ hC h
  | f + 1, listed, a, w, hC, h => by
    rw [show f + 1 + g = (f + g) + 1 by omega]
    exact ⟨fun h0 => absurd h0 h.1, fun i hi => wpOp_of_qOp hC (fun a' w' hw' h' => wpAny_of_headT hT f _ a' w' hw' h') (h.2 i hi).2⟩

theorem wpAnyT_first {n i : Nat} {oi : Oper} {v : Value} {T : Array Bool → Act → Prop} (hi : ops[i]? = some oi) (hsel : ∀ (j : Nat) (o : Oper) cs b, ops[j]? = some o → o.op ≠ .select cs b)
    (hs : barB md ops n = true) (hn : n ≤ ops.size) (hin : i < n)
    (hdone : ∀ listed a, T listed a → ∀ j ∈ Region.ready md ops listed, n ≤ j) :
    ∀ (f : Nat) (listed : Array Bool) (a : Act), HeadInv md ops n listed →
      (∀ j oj, ops[j]? = some oj → j ≠ i → listed.getD j true = false → (∀ e ∈ oj.after, Region.binds md e = true → e.on ≠ i) → oi.apart ops oj = true) →
      i ∈ Region.ready md ops listed → YieldsIn P ops C oi v a →
      wpAnyT P md ops C n T f (listed.setIfInBounds i true) (a.put oi.dst v) → wpAnyT P md ops C n T (f + 1) listed a := by
  intro f
  induction f with
  | zero =>
    intro listed a inv _ hr hy H
    have hun := (mem_ready.1 hr).1
    refine ⟨fun h => (by rw [h] at hr; cases hr), fun j hj => ?_⟩
    have hjn : j < n := by
      rcases Nat.lt_or_ge j n with h | h
      · exact h
      · exact absurd hj (bar_waits hs hn inv _ i rfl hin hun j h)
    refine ⟨hjn, ?_⟩
    by_cases hji : j = i
    · subst hji; exact hy.qOp hi H
    · have := hdone _ _ H j (ready_mono hj hji)
      omega
  | succ f ih =>
    intro listed a inv hfree hr hy H
    have hun := (mem_ready.1 hr).1
    refine ⟨fun h => (by rw [h] at hr; cases hr), fun j hj => ?_⟩
    have hjn : j < n := by
      rcases Nat.lt_or_ge j n with h | h
      · exact h
      · exact absurd hj (bar_waits hs hn inv _ i rfl hin hun j h)
    refine ⟨hjn, ?_⟩
    by_cases hji : j = i
    · subst hji; exact hy.qOp hi H
    · have h1 := (H.2 j (ready_mono hj hji)).2
      obtain ⟨hjun, oj, hoj, hall⟩ := mem_ready.1 hj
      have hnot : ∀ e ∈ oj.after, Region.binds md e = true → e.on ≠ i := fun e he hb heq => by
        have h1 := hall e he hb
        rw [heq, getD_both hun] at h1
        cases h1
      have h2 := qOp_put hoj (hfree j oj hoj hji hjun hnot) (fun cs b => hsel i oi cs b hi) (fun cs b => hsel j oj cs b hoj) hy h1
      have hfree' : ∀ k ok, ops[k]? = some ok → k ≠ i → (listed.setIfInBounds j true).getD k true = false →
          (∀ e ∈ ok.after, Region.binds md e = true → e.on ≠ i) → oi.apart ops ok = true := fun k ok hk hki hun hno => by
        refine hfree k ok hk hki ?_ hno
        by_cases hjk : j = k
        · subst hjk; exact hjun
        · rw [getD_set_ne true hjk] at hun; exact hun
      refine qOp_mono (fun a' h3 => ih (listed.setIfInBounds j true) a' (inv.set hj hjn) hfree' (ready_mono hr (Ne.symm hji)) h3.1 ?_) h2
      rw [Array.setIfInBounds_comm _ _ hji]
      exact h3.2

/-- The marks behind the head. -/
def headMarks : Nat → Nat → Array Bool → Array Bool
  | 0, _, listed => listed
  | f + 1, k, listed => headMarks f (k + 1) (listed.setIfInBounds k true)

/-- The head's operations may come up one by one, in the text's order. -/
def headLex (md : Region.Mode) (ops : Array Oper) : Nat → Nat → Array Bool → Bool
  | 0, _, _ => true
  | f + 1, k, listed => (Region.ready md ops listed).contains k && Region.free md ops listed k && headLex md ops f (k + 1) (listed.setIfInBounds k true)

/-- What the kernel looks at. -/
def headB (md : Region.Mode) (ops : Array Oper) (n : Nat) : Bool :=
  Region.noSelect ops && decide (n ≤ ops.size) && barB md ops n && headLex md ops n 0 (Array.replicate ops.size false) &&
    ((Region.ready md ops (headMarks n 0 (Array.replicate ops.size false))).all fun j => decide (n ≤ j))

theorem wpAnyT_lex {n : Nat} {Lq : Act → Prop} (L : Array Bool) (hsel : Region.noSelect ops = true) (hs : barB md ops n = true) (hn : n ≤ ops.size)
    (hL : ∀ j ∈ Region.ready md ops L, n ≤ j) :
    ∀ (l : List Oper) (k : Nat) (listed : Array Bool) (a : Act), (∀ j, j < l.length → l[j]? = ops[k + j]?) → k + l.length = n → HeadInv md ops n listed → headMarks l.length k listed = L →
    headLex md ops l.length k listed = true → wpQuiet P ops C Lq l a →
    wpAnyT P md ops C n (fun listed' a' => listed' = L ∧ Lq a') l.length listed a
  | [], k, listed, a, _, hk, _, hM, _, h => ⟨hM, h⟩
  | o :: l, k, listed, a, hl, hk, inv, hM, hB, h => by
    have h0 : ops[k]? = some o := by simpa using (hl 0 (by simp)).symm
    simp only [List.length_cons, headLex, Bool.and_eq_true] at hB
    obtain ⟨⟨hr, hf⟩, hB'⟩ := hB
    have hkn : k < n := by simp only [List.length_cons] at hk; omega
    have hr' : k ∈ Region.ready md ops listed := by simpa using hr
    have hst : qOp P ops C k (wpQuiet P ops C Lq l) a := by unfold qOp; simp only [h0]; exact h
    obtain ⟨v, hy, hK⟩ := yieldsIn_of_qOp h0 hst
    exact wpAnyT_first h0 (Region.noSelect_spec hsel) hs hn hkn (fun listed' a' hT => by rw [hT.1]; exact hL) l.length listed a inv (Region.free_spec h0 hf) hr' hy
      (wpAnyT_lex L hsel hs hn hL l (k + 1) _ _ (fun j hj => by have := hl (j + 1) (by simp; omega); simpa [Nat.add_assoc, Nat.add_comm 1 j] using this) (by simp only [List.length_cons] at hk; omega) (inv.set hr' hkn) hM hB' hK)

/-- THE LAW: the head, walked once in the text's order, every operation quiet in the class C; then the tail in whatever order, from every world of C. -/
theorem wp_region_head {id : Nat} {Q : Exit → Act → World → Prop} {a : Act} {w : World} {l : List Oper} (n : Nat) (hm : P.follows .mixedOrders = true) (hB : headB .any l.toArray n = true)
    (hC : C { w with drawn := w.drawn + 1 })
    (h : wpQuiet P l.toArray C (fun a' => ∀ w', C w' → wpAny P .any l.toArray Q (l.length - n) (headMarks n 0 (Array.replicate l.length false)) a' w') (l.take n) a) : (Code.region id l.toArray true).wp P Q a w := by
  simp only [headB, Bool.and_eq_true, decide_eq_true_eq] at hB
  obtain ⟨⟨⟨⟨hsel, hn⟩, hs⟩, hlex⟩, hL⟩ := hB
  have hn' : n ≤ l.length := by simpa using hn
  have htl : (l.take n).length = n := by simp; omega
  have inv0 : HeadInv .any l.toArray n (Array.replicate l.toArray.size false) :=
    ⟨by simp, fun j oj _ hl => (by rw [getD_replicate_false] at hl; cases hl), fun t _ ht => getD_in (by simpa using ht) (getD_replicate_false _ _)⟩
  have H := wpAnyT_lex (md := .any) (headMarks n 0 (Array.replicate l.toArray.size false)) hsel hs hn (fun j hj => by
      have := List.all_eq_true.1 hL j hj
      simpa using this) (l.take n) 0 _ a (fun j hj => by
    have hj' : j < n := by rw [htl] at hj; exact hj
    simp [hj']) (by simpa using htl) inv0 (by rw [htl]) (by rw [htl]; exact hlex) h
  refine wp_region_any hm ?_
  have := wpAny_of_headT (Q' := Q) (g := l.length - n) (fun listed a' w' hC' hT => by
    rw [hT.1]; simpa using hT.2 w' hC') _ _ _ { w with drawn := w.drawn + 1 } hC H
  rw [htl, show n + (l.length - n) = l.toArray.size by simp; omega] at this
  exact this

/-- The same at the class 'w after some draws'. -/
theorem wp_region_head_draws {id : Nat} {Q : Exit → Act → World → Prop} {a : Act} {w : World} {l : List Oper} (n : Nat) (hm : P.follows .mixedOrders = true) (hB : headB .any l.toArray n = true)
    (h : wpQuiet P l.toArray (fun w' => ∃ k, w' = w.drewN k) (fun a' => ∀ w', (∃ k, w' = w.drewN k) → wpAny P .any l.toArray Q (l.length - n) (headMarks n 0 (Array.replicate l.length false)) a' w') (l.take n) a) : (Code.region id l.toArray true).wp P Q a w :=
  wp_region_head (C := fun w' => ∃ k, w' = w.drewN k) n hm hB ⟨1, rfl⟩ h

/-- A list of operations, each of which yields its value in whatever world. -/
def wpPure (P : Program) (ops : Array Oper) (Q : Act → Prop) : List Oper → Act → Prop
  | [], a => Q a
  | o :: rest, a => ∃ v, Yields P ops o v a ∧ wpPure P ops Q rest (a.put o.dst v)

theorem wpAny_pure {Q : Exit → Act → World → Prop} {g : Nat} (hsel : Region.noSelect ops = true) (hQ : ∀ c a d v w, Q (.panic c) (a.put d v) w → Q (.panic c) a w) :
    ∀ (l : List Oper) (k : Nat) (listed : Array Bool) (a : Act) (w : World), (∀ j, j < l.length → l[j]? = ops[k + j]?) → headLex md ops l.length k listed = true →
      wpPure P ops (fun a' => wpAny P md ops Q g (headMarks l.length k listed) a' w) l a → wpAny P md ops Q (l.length + g) listed a w
  | [], _, _, _, _, _, _, h => by simpa [headMarks, wpPure] using h
  | o :: l, k, listed, a, w, hl, hB, h => by
    have h0 : ops[k]? = some o := by simpa using (hl 0 (by simp)).symm
    simp only [List.length_cons, headLex, Bool.and_eq_true] at hB
    obtain ⟨⟨hr, hf⟩, hB'⟩ := hB
    obtain ⟨v, hy, hK⟩ := h
    have := wpAny_pure (g := g) hsel hQ l (k + 1) (listed.setIfInBounds k true) (a.put o.dst v) w (fun j hj => by have := hl (j + 1) (by simp; omega); simpa [Nat.add_assoc, Nat.add_comm 1 j] using this) hB' hK
    rw [List.length_cons, show l.length + 1 + g = l.length + g + 1 by omega]
    exact wpAny_first h0 (Region.noSelect_spec hsel) (fun c a w h => hQ c a _ _ w h) (l.length + g) listed a w (Region.free_spec h0 hf) (by simpa using hr) hy this

theorem yields_extract {a : Act} (o : Oper) (t i : Nat) (vs : Array Value) (v : Value) (ho : o.op = .extract (.tmp t) i) (hg : o.guard = none) (ha : a.tmps.getD t undef = .tuple vs) (hv : vs[i]? = some v) : Yields P ops o v a := by
  refine .inl ⟨by simp [Region.wanted, hg], fun w => ?_⟩
  have he : a.eval (.tmp t) = .tuple vs := ha
  simp [execOp, ho, he, Instr.extract, hv]

/-- What the kernel looks at: a head of n, then m that yield in whatever world, then the rest one by one. -/
def headSeqB (md : Region.Mode) (ops : Array Oper) (n m : Nat) : Bool :=
  headB md ops n && decide (n + m ≤ ops.size) && headLex md ops m n (headMarks n 0 (Array.replicate ops.size false)) &&
    Region.seqB md ops (ops.size - (n + m)) (n + m) (headMarks m n (headMarks n 0 (Array.replicate ops.size false)))

/-- THE LAW, the tail being m operations that yield in whatever world and then the rest, one by one. -/
theorem wp_region_head_seq {id : Nat} {Q : Exit → Act → World → Prop} {a : Act} {w : World} {l : List Oper} (n m : Nat) (hm : P.follows .mixedOrders = true) (hB : headSeqB .any l.toArray n m = true)
    (hC : C { w with drawn := w.drawn + 1 }) (hQ : ∀ c a d v w, Q (.panic c) (a.put d v) w → Q (.panic c) a w)
    (h : wpQuiet P l.toArray C (fun a' => wpPure P l.toArray (fun a'' => ∀ w', C w' → wpList P l.toArray Q (l.drop (n + m)) a'' w') ((l.drop n).take m) a') (l.take n) a) : (Code.region id l.toArray true).wp P Q a w := by
  simp only [headSeqB, Bool.and_eq_true, decide_eq_true_eq] at hB
  obtain ⟨⟨⟨hB1, hnm⟩, hlex⟩, hseq⟩ := hB
  have hsel : Region.noSelect l.toArray = true := by simp only [headB, Bool.and_eq_true] at hB1; exact hB1.1.1.1.1
  have hnm' : n + m ≤ l.length := by simpa using hnm
  refine wp_region_head n hm hB1 hC ?_
  have mono : ∀ (l' : List Oper) (a : Act) (A B : Act → Prop), (∀ a, A a → B a) → wpQuiet P l.toArray C A l' a → wpQuiet P l.toArray C B l' a := by
    intro l'
    induction l' with
    | nil => intro a A B hAB h; exact hAB _ h
    | cons o r ih =>
      intro a A B hAB h
      unfold wpQuiet at h ⊢
      split
      · rename_i hw
        simp only [hw, if_true] at h
        exact Oper.quiet_mono (fun a' h' => ih a' A B hAB h') h
      · rename_i hw
        simp only [hw] at h
        exact ih _ A B hAB h
  have pmono : ∀ (l' : List Oper) (a : Act) (A B : Act → Prop), (∀ a, A a → B a) → wpPure P l.toArray A l' a → wpPure P l.toArray B l' a := by
    intro l'
    induction l' with
    | nil => intro a A B hAB h; exact hAB _ h
    | cons o r ih => intro a A B hAB ⟨v, hy, h⟩; exact ⟨v, hy, ih _ A B hAB h⟩
  refine mono _ _ _ _ (fun a' h' w' hw' => ?_) h
  have hlen : ((l.drop n).take m).length = m := by simp; omega
  have hdl : (l.drop (n + m)).length = l.toArray.size - (n + m) := by simp
  have := wpAny_pure (md := .any) (Q := Q) (g := l.toArray.size - (n + m)) hsel hQ ((l.drop n).take m) n (headMarks n 0 (Array.replicate l.length false)) a' w' (fun j hj => by
      rw [hlen] at hj
      simp [hj, List.getElem?_drop]) (by rw [hlen]; simpa using hlex) (pmono _ _ _ _ (fun a'' h'' => by
        have := wpAny_of_seq (md := .any) (Q' := Q) (l.drop (n + m)) (n + m) (headMarks m n (headMarks n 0 (Array.replicate l.length false))) a'' w' (fun j => by simp [List.getElem?_drop]) (by rw [hdl]; simpa using hseq) (h'' w' hw')
        rw [hdl] at this
        rw [hlen]
        exact this) h')
  rw [hlen, show m + (l.toArray.size - (n + m)) = l.length - n by simp; omega] at this
  exact this

/-- A whole array is read, in every world of the class. -/
theorem wpQuiet_load {Q : Act → Prop} {a : Act} {o : Oper} {rest : List Oper} (hg : o.guard = none) (ty : TypeId) (x : Operand) (ho : o.op = .load ty x) (b off : Nat) (hx : a.eval x = .pointer (some ⟨b, off, none⟩))
    (cs : List Value) (d : TypeDesc) (hC : ∀ w, C w → w.rangeAt b off cs) (hu : P.underlying ty = some d) (hd : d.isRow = true) (hi : (P.info? ty).map (·.size) = some cs.length)
    (h : wpQuiet P ops C Q rest (a.put o.dst (.agg cs.toArray))) : wpQuiet P ops C Q (o :: rest) a := by
  unfold wpQuiet
  rw [if_pos (by simp [Region.wanted, hg])]
  refine ⟨_, fun w hw => ?_, h⟩
  unfold Oper.quietAt execOp
  simp only [ho, hx, Instr.loadAt, Instr.sureAddr, Sem.run_bind, Sem.run_pure, Result.andThen_ok, run_loadVar_mid w b off ty cs d (hC w hw) hu hd hi]
  exact ⟨rfl, rfl⟩

/-- THE LAW at the class 'nothing old is turned'. -/
theorem wp_region_head_below {id : Nat} {Q : Exit → Act → World → Prop} {a : Act} {w : World} {l : List Oper} (n m : Nat) (hm : P.follows .mixedOrders = true) (hB : headSeqB .any l.toArray n m = true)
    (hQ : ∀ c a d v w, Q (.panic c) (a.put d v) w → Q (.panic c) a w)
    (h : wpQuiet P l.toArray (fun w' => ∃ p : Regrown, w' = grow (redrawn w p.d) p.os) (fun a' => wpPure P l.toArray (fun a'' => ∀ w', (∃ p : Regrown, w' = grow (redrawn w p.d) p.os) → wpList P l.toArray Q (l.drop (n + m)) a'' w') ((l.drop n).take m) a') (l.take n) a) : (Code.region id l.toArray true).wp P Q a w :=
  wp_region_head_seq (C := fun w' => ∃ p : Regrown, w' = grow (redrawn w p.d) p.os) n m hm hB ⟨⟨w.drawn + 1, #[]⟩, by rw [grow_empty]; rfl⟩ hQ h

/-- A range of an old block, in every world of the class. -/
theorem range_regrown {w : World} {b o : Nat} {cs : List Value} (h : w.rangeAt b o cs) : ∀ w', (∃ p : Regrown, w' = grow (redrawn w p.d) p.os) → w'.rangeAt b o cs := by
  rintro w' ⟨p, rfl⟩ j v hv
  exact cell_regrown (h j v hv) p.d p.os
end
end Go.Proofs.YthhildeocedpiaaDoor.Mx

/- The words of a block, byte by byte. -/
namespace Go.Proofs.YthhildeocedpiaaDoor.Mx

def byteAt (bs : List UInt8) (i : Nat) : Nat := (bs.getD i 0).toNat

def wordAt (bs : List UInt8) (j : Nat) : UInt32 := UInt32.ofNat (byteAt bs (4 * j) + 256 * byteAt bs (4 * j + 1) + 65536 * byteAt bs (4 * j + 2) + 16777216 * byteAt bs (4 * j + 3))

def wordsL (bs : List UInt8) : List UInt32 := (List.range 16).map (wordAt bs)

theorem byteAt_lt (bs : List UInt8) (i : Nat) : byteAt bs i < 256 := (bs.getD i 0).toNat_lt

theorem byteAt_take (bs : List UInt8) (n i : Nat) : byteAt (bs.take n) i = if i < n then byteAt bs i else 0 := by
  unfold byteAt
  by_cases h : i < n
  · simp [List.getD, h]
  · simp [List.getD, List.getElem?_take, h]

theorem wordAt_toNat (bs : List UInt8) (j : Nat) : (wordAt bs j).toNat = byteAt bs (4 * j) + 256 * byteAt bs (4 * j + 1) + 65536 * byteAt bs (4 * j + 2) + 16777216 * byteAt bs (4 * j + 3) := by
  unfold wordAt
  rw [UInt32.toNat_ofNat']
  have h0 := byteAt_lt bs (4 * j)
  have h1 := byteAt_lt bs (4 * j + 1)
  have h2 := byteAt_lt bs (4 * j + 2)
  have h3 := byteAt_lt bs (4 * j + 3)
  exact Nat.mod_eq_of_lt (by omega)

theorem or_high (a b n : Nat) (h : a < 2 ^ n) : a ||| b * 2 ^ n = a + b * 2 ^ n := by
  rw [Nat.or_comm, Nat.mul_comm b, ← Nat.two_pow_add_eq_or_of_lt h b, Nat.add_comm]

/-- The word that byte number i goes into, behind it. -/
def wordStep (bs : List UInt8) (i : Nat) : UInt32 := wor (wordAt (bs.take i) (i / 4)) (UInt32.ofNat (byteAt bs i * 2 ^ (i % 4 * 8)))

theorem wordStep_eq (bs : List UInt8) (i : Nat) : wordStep bs i = wordAt (bs.take (i + 1)) (i / 4) := by
  apply UInt32.toNat.inj
  unfold wordStep wor
  rw [UInt32.toNat_or, wordAt_toNat, wordAt_toNat, UInt32.toNat_ofNat']
  have h0 := byteAt_lt bs (4 * (i / 4))
  have h1 := byteAt_lt bs (4 * (i / 4) + 1)
  have h2 := byteAt_lt bs (4 * (i / 4) + 2)
  have hi := byteAt_lt bs i
  simp only [byteAt_take]
  have hr : i % 4 = 0 ∨ i % 4 = 1 ∨ i % 4 = 2 ∨ i % 4 = 3 := by omega
  rcases hr with hr | hr | hr | hr
  · rw [hr]
    have e : 4 * (i / 4) = i := by omega
    simp only [e]
    rw [Nat.mod_eq_of_lt (by simp; omega), if_neg (by omega), if_neg (by omega), if_neg (by omega), if_neg (by omega), if_pos (by omega), if_neg (by omega), if_neg (by omega), if_neg (by omega)]
    simp
  · rw [hr]
    have e : 4 * (i / 4) = i - 1 := by omega
    have e' : 1 ≤ i := by omega
    rw [Nat.mod_eq_of_lt (by simp; omega), or_high _ _ _ (by simp only [e]; rw [if_pos (by omega), if_neg (by omega), if_neg (by omega), if_neg (by omega)]; simp; rw [e] at h0; omega)]
    simp only [e]
    rw [if_pos (by omega), if_neg (by omega), if_neg (by omega), if_neg (by omega), if_pos (by omega), if_pos (by omega), if_neg (by omega), if_neg (by omega), show i - 1 + 1 = i by omega]
    omega
  · rw [hr]
    have e : 4 * (i / 4) = i - 2 := by omega
    rw [Nat.mod_eq_of_lt (by simp; omega), or_high _ _ _ (by simp only [e]; rw [if_pos (by omega), if_pos (by omega), if_neg (by omega), if_neg (by omega)]; simp; rw [e] at h0 h1; omega)]
    simp only [e]
    rw [if_pos (by omega), if_pos (by omega), if_neg (by omega), if_neg (by omega), if_pos (by omega), if_pos (by omega), if_pos (by omega), if_neg (by omega), show i - 2 + 2 = i by omega]
    omega
  · rw [hr]
    have e : 4 * (i / 4) = i - 3 := by omega
    rw [Nat.mod_eq_of_lt (by simp; omega), or_high _ _ _ (by simp only [e]; rw [if_pos (by omega), if_pos (by omega), if_pos (by omega), if_neg (by omega)]; simp; rw [e] at h0 h1 h2; omega)]
    simp only [e]
    rw [if_pos (by omega), if_pos (by omega), if_pos (by omega), if_neg (by omega), if_pos (by omega), if_pos (by omega), if_pos (by omega), if_pos (by omega), show i - 3 + 3 = i by omega]
    omega

theorem wordAt_other (bs : List UInt8) (i j : Nat) (h : j ≠ i / 4) : wordAt (bs.take (i + 1)) j = wordAt (bs.take i) j := by
  apply UInt32.toNat.inj
  rw [wordAt_toNat, wordAt_toNat]
  simp only [byteAt_take]
  have e : ∀ k, k < 4 → (4 * j + k < i + 1 ↔ 4 * j + k < i) := fun k hk => by omega
  have e0 := e 0 (by omega)
  simp only [Nat.add_zero] at e0
  simp only [e0, e 1 (by omega), e 2 (by omega), e 3 (by omega)]

theorem wordsL_step (bs : List UInt8) (i : Nat) : wordsL (bs.take (i + 1)) = (wordsL (bs.take i)).set (i / 4) (wordStep bs i) := by
  unfold wordsL
  apply List.ext_getElem
  · simp
  · intro j h1 h2
    simp only [List.getElem_map, List.getElem_range, List.getElem_set]
    split
    · rename_i h; subst h; exact (wordStep_eq bs i).symm
    · rename_i h; exact wordAt_other bs i j (fun e => h e.symm)

theorem wordsL_len (bs : List UInt8) : (wordsL bs).length = 16 := by simp [wordsL]

theorem wordsL_get (bs : List UInt8) (j : Nat) (h : j < 16) : (wordsL bs)[j]? = some (wordAt bs j) := by simp [wordsL, h]

/-- Zeros behind are not seen. -/
theorem wordsL_zeros (bs : List UInt8) (n : Nat) : wordsL (bs ++ List.replicate n 0) = wordsL bs := by
  have e : ∀ i, byteAt (bs ++ List.replicate n 0) i = byteAt bs i := fun i => by
    unfold byteAt
    congr 1
    simp only [List.getD, List.getElem?_append]
    split
    · rfl
    · rename_i h
      rw [List.getElem?_eq_none (Nat.not_lt.1 h), List.getElem?_replicate]
      split <;> rfl
  unfold wordsL wordAt
  simp only [e]
end Go.Proofs.YthhildeocedpiaaDoor.Mx

/- What mix.numbers does: the sixteen words of a block of at most sixty-four bytes, bytes that it lacks being 0; nothing old in memory is turned. -/
namespace Go.Proofs.YthhildeocedpiaaDoor.Mx
open Go.RowKit
set_option linter.unusedVariables false

theorem info16 : (Tryd.prog.info? 160).map (·.size) = some 16 := by kernel_rfl

set_option maxRecDepth 100000 in
set_option maxHeartbeats 1000000 in
theorem numbers_any (s : ByteArray) (w : World) (hs : s.size ≤ 64) :
    Calls Tryd.prog 104 #[.string s] w fun e w' => e = .returned (.agg ((wordsL s.data.toList).map wv).toArray) ∧ Below w.heap.size w w' := by
  have hs' : (s.size : Int) ≤ 64 := by omega
  go_enter Tryd.func104, Tryd.ntmps104
  go_wp2
  go_loopw [7] (fun v7 wr => ∃ i : Nat, i ≤ s.size ∧ v7 = .int .i64 i ∧ Arr wr (w.heap.size + 1) 160 ((wordsL (s.data.toList.take i)).map wv) ∧ Arr wr w.heap.size 160 (List.replicate 16 (.int .u32 0)) ∧ Below w.heap.size w wr) (fun v7 _ => s.size - (intOf v7).toNat)
  case atStart =>
    obtain ⟨h1, h2, h3⟩ := two_new w 160 160 (List.replicate 16 (.int .u32 0)) (List.replicate 16 (.int .u32 0))
    exact ⟨0, Nat.zero_le _, rfl, h2, h1, h3⟩
  case round =>
    obtain ⟨i, hi, rfl, hA, hZ, hB⟩ := hrel
    by_cases hlt : i < s.size
    · have h1 : (i : Int) < (s.size : Int) := by omega
      have h0 : (0 : Int) ≤ (i : Int) := by omega
      obtain ⟨m, hm⟩ : ∃ z, Hid (z = wordAt (s.data.toList.take i) (i / 4)) := ⟨_, rfl⟩
      obtain ⟨b, hb⟩ : ∃ z : UInt8, Hid (z = s.data.toList.getD i 0) := ⟨_, rfl⟩
      have hc : wr.cell? ⟨w.heap.size + 1, i / 4, none⟩ = some (.int .u32 (m.toNat : Int)) := by
        rw [hm.out]
        refine hA.cell ?_
        rw [List.getElem?_map, wordsL_get _ _ (by omega)]; rfl
      have hf := hA.frozen (i / 4)
      go_wp2
      refine wp_region_head_seq (C := fun w' => ∃ j, w' = wr.drewN j) 13 0 (by kernel_rfl) (by kernel_rfl) ⟨1, rfl⟩ (fun c a d v w h => by cases d <;> exact h) ?_
      simp only [List.take_succ_cons, List.take_zero, List.drop_succ_cons, List.drop_zero]
      repeat (go_big_quiet_step (fail))
      refine wpQuiet_nil ?_
      rintro w' ⟨nq, rfl⟩
      go_wp2
      have hval : bits BinOp.or IntKind.u32 (m.toNat : Int) ((s[i].toNat : Int) % 4294967296 * 2 ^ (i % 4 * 8) % 4294967296) = ((wordStep s.data.toList i).toNat : Int) := by
        have e1 : ((s[i].toNat : Int) % 4294967296 * 2 ^ (i % 4 * 8) % 4294967296) = ((UInt32.ofNat (byteAt s.data.toList i * 2 ^ (i % 4 * 8))).toNat : Int) := by
          rw [UInt32.toNat_ofNat']
          have hbt : byteAt s.data.toList i = s[i].toNat := by
            unfold byteAt
            have hl : i < s.data.toList.length := by simpa using hlt
            rw [List.getD, List.getElem?_eq_getElem hl]
            rfl
          rw [hbt]
          have h256 := s[i].toNat_lt
          rw [show ((s[i].toNat : Int) % 4294967296) = (s[i].toNat : Int) from Int.emod_eq_of_lt (by omega) (by omega)]
          simp
        rw [e1, fold_or, hm.out]
        rfl
      rw [hval]
      have hA' := (hA.drewN nq).set (i / 4) (.int .u32 ((wordStep s.data.toList i).toNat : Int))
      have hZ' := (hZ.drewN nq).other (p := ⟨w.heap.size + 1, i / 4, none⟩) (by simp) (.int .u32 ((wordStep s.data.toList i).toNat : Int))
      have hB' := (below_drewN hB nq).setCell (p := ⟨w.heap.size + 1, i / 4, none⟩) (by simp) (.int .u32 ((wordStep s.data.toList i).toNat : Int))
      go_roundw
      case rel =>
        refine ⟨i + 1, by omega, by go_num, ?_, hZ', hB'⟩
        rw [wordsL_step]
        rw [List.map_set]
        exact hA'
      case measure => simp [intOf]; omega
    · have h1 : ¬ (i : Int) < (s.size : Int) := by omega
      have hfin : s.data.toList.take i = s.data.toList := List.take_of_length_le (by simp; omega)
      rw [hfin] at hA
      have hR := hZ.row ((wordsL s.data.toList).map wv)
      have hBR := below_setRow hB (Nat.le_refl _) ((wordsL s.data.toList).map wv).toArray
      have hi16 : (Tryd.prog.info? 160).map (·.size) = some (((wordsL s.data.toList).map wv).toArray).size := by
        rw [info16]; simp [wordsL_len]
      go_wp2_with (first | refine wpList_load_row (by rfl) 160 _ (by rfl) (w.heap.size + 1) (by rfl) 160 _ (0, 0) _ hA Tryd.underlying160 (by rfl) hi16 ?_ | refine wpList_store_row (by rfl) 160 _ _ (by rfl) w.heap.size ((wordsL s.data.toList).map wv).toArray (by rfl) (by rfl) 160 _ hZ hi16 (by simp [wordsL_len]) (one_all _) ?_)
      refine bodyPost_ret (v := .agg ((wordsL s.data.toList).map wv).toArray) ?r1 ?r2 ?r3
      case r1 => exact results_cell_row rfl _ _ w.heap.size 160 _ (0, 0) _ rfl hR Tryd.underlying160 rfl hi16
      case r2 => rfl
      exact ⟨rfl, hBR⟩
end Go.Proofs.YthhildeocedpiaaDoor.Mx

/- What mix.text and mix.cut do: eight words as thirty-two bytes; a block off the front; nothing old in memory is turned. -/
namespace Go.Proofs.YthhildeocedpiaaDoor.Mx
open Go.RowKit
set_option linter.unusedVariables false

def outByte (h : List UInt32) (i : Nat) : UInt8 := UInt8.ofNat ((h.getD (i / 4) 0).toNat / 2 ^ (i % 4 * 8))
def textL (h : List UInt32) : List UInt8 := (List.range 32).map (outByte h)
def byteVal (b : UInt8) : Value := .int .u8 (b.toNat : Int)

def outCells (h : List UInt32) (i : Nat) : List Value := (List.range 32).map fun j => if j < i then byteVal (outByte h j) else .int .u8 0

theorem outCells_step (h : List UInt32) (i : Nat) : outCells h (i + 1) = (outCells h i).set i (byteVal (outByte h i)) := by
  unfold outCells
  apply List.ext_getElem
  · simp
  · intro j h1 h2
    simp only [List.getElem_map, List.getElem_range, List.getElem_set]
    by_cases e : i = j
    · subst e; simp
    · rw [if_neg e]
      by_cases hj : j < i
      · rw [if_pos hj, if_pos (by omega)]
      · rw [if_neg hj, if_neg (by omega)]

theorem outCells_all (h : List UInt32) : outCells h 32 = (textL h).map byteVal := by
  unfold outCells textL
  rw [List.map_map]
  apply List.map_congr_left
  intro j hj
  have := List.mem_range.1 hj
  rw [if_pos this]
  rfl

set_option maxRecDepth 100000 in
set_option maxHeartbeats 1000000 in
theorem text_any (h : List UInt32) (w : World) (hh : h.length = 8) :
    Calls Tryd.prog 105 #[.agg (h.map wv).toArray] w fun e w' => e = .returned (.string ⟨(textL h).toArray⟩) ∧ Below w.heap.size w w' := by
  go_enter Tryd.func105, Tryd.ntmps105
  go_wp2
  go_loopw [5] (fun v5 wr => ∃ i : Nat, i ≤ 32 ∧ v5 = .int .i64 i ∧ Arr wr w.heap.size 156 (h.map wv) ∧ Arr wr (w.heap.size + 1) 179 (outCells h i) ∧ Below w.heap.size w wr) (fun v5 _ => 32 - (intOf v5).toNat)
  case atStart =>
    obtain ⟨h1, h2, h3⟩ := two_new w 156 179 (h.map wv) (List.replicate 32 (.int .u8 0))
    exact ⟨0, Nat.zero_le _, rfl, h1, h2, h3⟩
  case round =>
    obtain ⟨i, hi, rfl, hA, hO, hB⟩ := hrel
    by_cases hlt : i < 32
    · have h1 : (i : Int) < 32 := by omega
      have h0 : (0 : Int) ≤ (i : Int) := by omega
      obtain ⟨m, hm⟩ : ∃ z, Hid (z = h.getD (i / 4) 0) := ⟨_, rfl⟩
      have hc : wr.cell? ⟨w.heap.size, i / 4, none⟩ = some (.int .u32 (m.toNat : Int)) := by
        rw [hm.out]
        refine hA.cell ?_
        rw [List.getElem?_map, List.getElem?_eq_getElem (by omega), List.getD, List.getElem?_eq_getElem (by omega)]; rfl
      have hf := hO.frozen i
      have hc2 : wr.cell? ⟨w.heap.size + 1, i, none⟩ = some (.int .u8 0) := hO.cell (by simp [outCells, hlt])
      go_wp2
      have hv : Value.int .u8 ((m.toNat : Int) / 2 ^ (i % 4 * 8) % 256) = byteVal (outByte h i) := by
        unfold byteVal outByte
        rw [← hm.out]
        simp
      rw [hv]
      have hO' := hO.set i (byteVal (outByte h i))
      rw [← outCells_step] at hO'
      exact ⟨⟨i + 1, by omega, by simp, hA.other (by simp) _, hO', hB.setCell (by simp) _⟩, by simp [intOf]; omega⟩
    · obtain rfl : i = 32 := by omega
      rw [outCells_all] at hO
      have hcv : (convert 72 9 (.slice (some ⟨w.heap.size + 1, 0, none⟩) 32 32)).run Tryd.prog wr = .ok (.string ⟨(textL h).toArray⟩) wr := by
        have := run_convert_bytes_back (P := Tryd.prog) wr 72 9 5 ⟨w.heap.size + 1, 0, none⟩ 32 (textL h) Tryd.underlying72 Tryd.underlying5 Tryd.underlying9 (fun j hj => by
          have e : (⟨w.heap.size + 1, 0, none⟩ : Addr).add j = ⟨w.heap.size + 1, j, none⟩ := by unfold Addr.add; split <;> simp_all
          rw [e]
          exact hO.cell (by simp [List.getElem?_eq_getElem hj, byteVal]))
        have hl : (textL h).length = 32 := by simp [textL]
        rw [hl] at this
        exact this
      go_wp2
      go_ret
      exact ⟨rfl, hB⟩

set_option maxRecDepth 100000 in
theorem cut_any (s : ByteArray) (w : World) :
    Calls Tryd.prog 102 #[.string s] w fun e w' => e = .returned (.tuple #[.string (s.extract 0 (min s.size 64)), .string (s.extract (min s.size 64) s.size)]) ∧ ∃ m, w' = w.drewN m := by
  go_enter Tryd.func102, Tryd.ntmps102
  by_cases h : s.size ≤ 64
  · have h1 : min (s.size : Int) 64 = s.size := by omega
    have h0 : (0 : Int) ≤ (s.size : Int) := by omega
    go_wp2
    go_quiet (fail)
    go_wp2
    go_ret2
    refine ⟨?_, nq, rfl⟩
    rw [Nat.min_eq_left h]
    simp
  · have h1 : min (s.size : Int) 64 = 64 := by omega
    have h2 : (64 : Int) ≤ (s.size : Int) := by omega
    go_wp2
    go_quiet (fail)
    go_wp2
    go_ret2
    refine ⟨?_, nq, rfl⟩
    rw [Nat.min_eq_right (by omega)]
    simp
end Go.Proofs.YthhildeocedpiaaDoor.Mx

/- What becomes of eight words by a block's words: as plain functions of lists. -/
namespace Go.Proofs.YthhildeocedpiaaDoor.Mx

def firstsL : List UInt32 := [1779033703, 3144134277, 1013904242, 2773480762, 1359893119, 2600822924, 528734635, 1541459225]
def rowsL : List (List Nat) := [
  [0, 1, 2, 3, 4, 5, 6, 7, 8, 9, 10, 11, 12, 13, 14, 15],
  [14, 10, 4, 8, 9, 15, 13, 6, 1, 12, 0, 2, 11, 7, 5, 3],
  [11, 8, 12, 0, 5, 2, 15, 13, 10, 14, 3, 6, 7, 1, 9, 4],
  [7, 9, 3, 1, 13, 12, 11, 14, 2, 6, 5, 10, 4, 0, 15, 8],
  [9, 0, 5, 7, 2, 4, 10, 15, 14, 1, 11, 12, 6, 8, 3, 13],
  [2, 12, 6, 10, 0, 11, 8, 3, 4, 13, 7, 5, 15, 14, 1, 9],
  [12, 5, 1, 15, 14, 13, 4, 10, 0, 7, 6, 3, 9, 2, 8, 11],
  [13, 11, 7, 14, 12, 1, 3, 9, 5, 0, 15, 4, 8, 6, 2, 10],
  [6, 15, 14, 9, 11, 3, 0, 8, 12, 2, 13, 7, 1, 4, 10, 5],
  [10, 2, 8, 4, 7, 6, 1, 5, 15, 11, 9, 14, 3, 12, 13, 0]]
def rowL (i : Nat) : List Nat := rowsL.getD i []

theorem rowL_len : ∀ i, i < 10 → (rowL i).length = 16 := by decide
theorem rowL_lt : ∀ i, i < 10 → ∀ r ∈ rowL i, r < 16 := by decide

theorem stepQ_len (ws : List UInt32) (p q u v : Nat) (x y : UInt32) : (stepQ ws p q u v x y).length = ws.length := by simp [stepQ]
theorem stirL_len (ws ms : List UInt32) (rs : List Nat) : (stirL ws ms rs).length = ws.length := by simp [stirL, stepQ_len]

def rounds (m w : List UInt32) : Nat → List UInt32
  | 0 => w
  | i + 1 => stirL (rounds m w i) m (rowL i)

theorem rounds_len (m w : List UInt32) : ∀ i, (rounds m w i).length = w.length
  | 0 => rfl
  | i + 1 => by rw [rounds, stirL_len, rounds_len m w i]

/-- The sixteen words ahead of the rounds. -/
def startL (h : List UInt32) (t : UInt32) (last : Bool) : List UInt32 :=
  let w1 := (h ++ firstsL).set 12 (wxor ((h ++ firstsL).getD 12 0) t)
  if last then w1.set 14 (wxor (w1.getD 14 0) 4294967295) else w1

theorem startL_len (h : List UInt32) (t : UInt32) (last : Bool) (hh : h.length = 8) : (startL h t last).length = 16 := by
  unfold startL
  cases last <;> simp [hh, firstsL]

def foldL (h m : List UInt32) (t : UInt32) (last : Bool) : List UInt32 :=
  (List.range 8).map fun i => wxor (h.getD i 0) (wxor ((rounds m (startL h t last) 10).getD i 0) ((rounds m (startL h t last) 10).getD (i + 8) 0))

theorem foldL_len (h m : List UInt32) (t : UInt32) (last : Bool) : (foldL h m t last).length = 8 := by simp [foldL]

theorem wxor_comm (x y : UInt32) : wxor x y = wxor y x := UInt32.xor_comm x y

/-- The cells of the sixteen words while they are laid. -/
def layCells (h : List UInt32) (i : Nat) : List Value :=
  (List.range 16).map fun j => if j < 8 then (if j < i then wv (h.getD j 0) else .int .u32 0) else (if j - 8 < i then wv (firstsL.getD (j - 8) 0) else .int .u32 0)

theorem layCells_len (h : List UInt32) (i : Nat) : (layCells h i).length = 16 := by simp [layCells]

theorem layCells_step (h : List UInt32) (i : Nat) (hi : i < 8) : layCells h (i + 1) = ((layCells h i).set i (wv (h.getD i 0))).set (i + 8) (wv (firstsL.getD i 0)) := by
  unfold layCells
  apply List.ext_getElem
  · simp
  · intro j h1 h2
    simp only [List.getElem_map, List.getElem_range, List.getElem_set]
    by_cases e : i + 8 = j
    · subst e
      rw [if_neg (by omega), if_pos (by omega), if_pos rfl, Nat.add_sub_cancel]
    · rw [if_neg e]
      by_cases e2 : i = j
      · subst e2
        rw [if_pos hi, if_pos (by omega), if_pos rfl]
      · rw [if_neg e2]
        by_cases hj : j < 8
        · rw [if_pos hj, if_pos hj]
          by_cases hj2 : j < i
          · rw [if_pos hj2, if_pos (by omega)]
          · rw [if_neg hj2, if_neg (by omega)]
        · rw [if_neg hj, if_neg hj]
          by_cases hj2 : j - 8 < i
          · rw [if_pos hj2, if_pos (by omega)]
          · rw [if_neg hj2, if_neg (by omega)]

theorem layCells_all (h : List UInt32) (hh : h.length = 8) : layCells h 8 = (h ++ firstsL).map wv := by
  match h, hh with
  | [a, b, c, d, e, f, g, k], _ => rfl

/-- The eight words while they are turned. -/
def turnL (h w : List UInt32) (i : Nat) : List UInt32 :=
  (List.range 8).map fun j => if j < i then wxor (h.getD j 0) (wxor (w.getD j 0) (w.getD (j + 8) 0)) else h.getD j 0

theorem turnL_zero (h w : List UInt32) (hh : h.length = 8) : turnL h w 0 = h := by
  match h, hh with
  | [a, b, c, d, e, f, g, k], _ => rfl

theorem turnL_step (h w : List UInt32) (i : Nat) : turnL h w (i + 1) = (turnL h w i).set i (wxor (h.getD i 0) (wxor (w.getD i 0) (w.getD (i + 8) 0))) := by
  unfold turnL
  apply List.ext_getElem
  · simp
  · intro j h1 h2
    simp only [List.getElem_map, List.getElem_range, List.getElem_set]
    by_cases e : i = j
    · subst e; simp
    · rw [if_neg e]
      by_cases hj : j < i
      · rw [if_pos hj, if_pos (by omega)]
      · rw [if_neg hj, if_neg (by omega)]

theorem turnL_all (h m : List UInt32) (t : UInt32) (last : Bool) : turnL h (rounds m (startL h t last) 10) 8 = foldL h m t last := by
  unfold turnL foldL
  apply List.map_congr_left
  intro j hj
  rw [if_pos (List.mem_range.1 hj)]

theorem turnL_get (h w : List UInt32) (i : Nat) (hi : i < 8) : (turnL h w i)[i]? = some (h.getD i 0) := by simp [turnL, hi]

theorem getD_get (l : List UInt32) (i : Nat) (hi : i < l.length) : (l.map wv)[i]? = some (wv (l.getD i 0)) := by
  simp [List.getElem?_eq_getElem hi]
end Go.Proofs.YthhildeocedpiaaDoor.Mx

/- What mix.stir does: columns, then diagonals, mixed with a block's words in the row's order; nothing old in memory is turned. -/
namespace Go.Proofs.YthhildeocedpiaaDoor.Mx
open Go.RowKit
set_option linter.unusedVariables false

theorem cut_wp {P : Program} {c : Code} {Q : Exit → Act → World → Prop} {a : Act} {W : World} (F : World → Prop) (hF : F W) (h : ∀ W1, F W1 → c.wp P Q a W1) : c.wp P Q a W := h W hF

theorem cell_word {w : World} {g : Nat} {ms : List UInt32} (h : Arr w g 160 (ms.map wv)) {i : Nat} (hi : i < ms.length) : w.cell? ⟨g, i, none⟩ = some (wv (ms.getD i 0)) := by
  refine h.cell ?_
  simp [List.getElem?_eq_getElem hi]

set_option maxRecDepth 100000 in
set_option maxHeartbeats 4000000 in
theorem stir_walk (w0 w1 w2 w3 w4 w5 w6 w7 w8 w9 w10 w11 w12 w13 w14 w15 : UInt32) (ms : List UInt32) (r0 r1 r2 r3 r4 r5 r6 r7 r8 r9 r10 r11 r12 r13 r14 r15 : Nat) (w : World) (hm : ms.length = 16) (h0 : r0 < 16) (h1 : r1 < 16) (h2 : r2 < 16) (h3 : r3 < 16) (h4 : r4 < 16) (h5 : r5 < 16) (h6 : r6 < 16) (h7 : r7 < 16) (h8 : r8 < 16) (h9 : r9 < 16) (h10 : r10 < 16) (h11 : r11 < 16) (h12 : r12 < 16) (h13 : r13 < 16) (h14 : r14 < 16) (h15 : r15 < 16) :
    Calls Tryd.prog 116 #[.agg #[.int .u32 (w0.toNat : Int), .int .u32 (w1.toNat : Int), .int .u32 (w2.toNat : Int), .int .u32 (w3.toNat : Int), .int .u32 (w4.toNat : Int), .int .u32 (w5.toNat : Int), .int .u32 (w6.toNat : Int), .int .u32 (w7.toNat : Int), .int .u32 (w8.toNat : Int), .int .u32 (w9.toNat : Int), .int .u32 (w10.toNat : Int), .int .u32 (w11.toNat : Int), .int .u32 (w12.toNat : Int), .int .u32 (w13.toNat : Int), .int .u32 (w14.toNat : Int), .int .u32 (w15.toNat : Int)], .agg (ms.map wv).toArray, .agg #[.int .u8 (r0 : Int), .int .u8 (r1 : Int), .int .u8 (r2 : Int), .int .u8 (r3 : Int), .int .u8 (r4 : Int), .int .u8 (r5 : Int), .int .u8 (r6 : Int), .int .u8 (r7 : Int), .int .u8 (r8 : Int), .int .u8 (r9 : Int), .int .u8 (r10 : Int), .int .u8 (r11 : Int), .int .u8 (r12 : Int), .int .u8 (r13 : Int), .int .u8 (r14 : Int), .int .u8 (r15 : Int)]] w fun e w' => e = .returned (.agg ((stirL [w0, w1, w2, w3, w4, w5, w6, w7, w8, w9, w10, w11, w12, w13, w14, w15] ms [r0, r1, r2, r3, r4, r5, r6, r7, r8, r9, r10, r11, r12, r13, r14, r15]).map wv).toArray) ∧ Below w.heap.size w w' := by
  have g0 : (0 : Int) ≤ (r0 : Int) := by omega
  have k0 : (r0 : Int) < 16 := by omega
  have g1 : (0 : Int) ≤ (r1 : Int) := by omega
  have k1 : (r1 : Int) < 16 := by omega
  have g2 : (0 : Int) ≤ (r2 : Int) := by omega
  have k2 : (r2 : Int) < 16 := by omega
  have g3 : (0 : Int) ≤ (r3 : Int) := by omega
  have k3 : (r3 : Int) < 16 := by omega
  have g4 : (0 : Int) ≤ (r4 : Int) := by omega
  have k4 : (r4 : Int) < 16 := by omega
  have g5 : (0 : Int) ≤ (r5 : Int) := by omega
  have k5 : (r5 : Int) < 16 := by omega
  have g6 : (0 : Int) ≤ (r6 : Int) := by omega
  have k6 : (r6 : Int) < 16 := by omega
  have g7 : (0 : Int) ≤ (r7 : Int) := by omega
  have k7 : (r7 : Int) < 16 := by omega
  have g8 : (0 : Int) ≤ (r8 : Int) := by omega
  have k8 : (r8 : Int) < 16 := by omega
  have g9 : (0 : Int) ≤ (r9 : Int) := by omega
  have k9 : (r9 : Int) < 16 := by omega
  have g10 : (0 : Int) ≤ (r10 : Int) := by omega
  have k10 : (r10 : Int) < 16 := by omega
  have g11 : (0 : Int) ≤ (r11 : Int) := by omega
  have k11 : (r11 : Int) < 16 := by omega
  have g12 : (0 : Int) ≤ (r12 : Int) := by omega
  have k12 : (r12 : Int) < 16 := by omega
  have g13 : (0 : Int) ≤ (r13 : Int) := by omega
  have k13 : (r13 : Int) < 16 := by omega
  have g14 : (0 : Int) ≤ (r14 : Int) := by omega
  have k14 : (r14 : Int) < 16 := by omega
  have g15 : (0 : Int) ≤ (r15 : Int) := by omega
  have k15 : (r15 : Int) < 16 := by omega
  have e1 : w.heap.size + 1 ≠ w.heap.size := by omega
  have e2 : w.heap.size + 1 + 1 ≠ w.heap.size := by omega
  have e3 : w.heap.size + 1 + 1 + 1 ≠ w.heap.size := by omega
  have hi : (Tryd.prog.info? 160).map (·.size) = some 16 := by kernel_rfl
  go_enter Tryd.func116, Tryd.ntmps116
  go_wp2
  refine cut_wp (fun W => Arr W w.heap.size 160 [.int .u32 (w0.toNat : Int), .int .u32 (w1.toNat : Int), .int .u32 (w2.toNat : Int), .int .u32 (w3.toNat : Int), .int .u32 (w4.toNat : Int), .int .u32 (w5.toNat : Int), .int .u32 (w6.toNat : Int), .int .u32 (w7.toNat : Int), .int .u32 (w8.toNat : Int), .int .u32 (w9.toNat : Int), .int .u32 (w10.toNat : Int), .int .u32 (w11.toNat : Int), .int .u32 (w12.toNat : Int), .int .u32 (w13.toNat : Int), .int .u32 (w14.toNat : Int), .int .u32 (w15.toNat : Int)] ∧ Arr W (w.heap.size + 1) 160 (ms.map wv) ∧ Arr W (w.heap.size + 1 + 1) 176 [.int .u8 (r0 : Int), .int .u8 (r1 : Int), .int .u8 (r2 : Int), .int .u8 (r3 : Int), .int .u8 (r4 : Int), .int .u8 (r5 : Int), .int .u8 (r6 : Int), .int .u8 (r7 : Int), .int .u8 (r8 : Int), .int .u8 (r9 : Int), .int .u8 (r10 : Int), .int .u8 (r11 : Int), .int .u8 (r12 : Int), .int .u8 (r13 : Int), .int .u8 (r14 : Int), .int .u8 (r15 : Int)] ∧ Arr W (w.heap.size + 1 + 1 + 1) 160 [.int .u32 0, .int .u32 0, .int .u32 0, .int .u32 0, .int .u32 0, .int .u32 0, .int .u32 0, .int .u32 0, .int .u32 0, .int .u32 0, .int .u32 0, .int .u32 0, .int .u32 0, .int .u32 0, .int .u32 0, .int .u32 0] ∧ Below w.heap.size w W) ?_ ?_
  · exact four_new w 160 160 176 160 [.int .u32 (w0.toNat : Int), .int .u32 (w1.toNat : Int), .int .u32 (w2.toNat : Int), .int .u32 (w3.toNat : Int), .int .u32 (w4.toNat : Int), .int .u32 (w5.toNat : Int), .int .u32 (w6.toNat : Int), .int .u32 (w7.toNat : Int), .int .u32 (w8.toNat : Int), .int .u32 (w9.toNat : Int), .int .u32 (w10.toNat : Int), .int .u32 (w11.toNat : Int), .int .u32 (w12.toNat : Int), .int .u32 (w13.toNat : Int), .int .u32 (w14.toNat : Int), .int .u32 (w15.toNat : Int)] (ms.map wv) [.int .u8 (r0 : Int), .int .u8 (r1 : Int), .int .u8 (r2 : Int), .int .u8 (r3 : Int), .int .u8 (r4 : Int), .int .u8 (r5 : Int), .int .u8 (r6 : Int), .int .u8 (r7 : Int), .int .u8 (r8 : Int), .int .u8 (r9 : Int), .int .u8 (r10 : Int), .int .u8 (r11 : Int), .int .u8 (r12 : Int), .int .u8 (r13 : Int), .int .u8 (r14 : Int), .int .u8 (r15 : Int)] [.int .u32 0, .int .u32 0, .int .u32 0, .int .u32 0, .int .u32 0, .int .u32 0, .int .u32 0, .int .u32 0, .int .u32 0, .int .u32 0, .int .u32 0, .int .u32 0, .int .u32 0, .int .u32 0, .int .u32 0, .int .u32 0] _ rfl
  rintro W ⟨A3, A4, A5, A6, hB⟩

  have c0 := A3.cell (i := 0) rfl
  have f0 := A3.frozen 0
  have c4 := A3.cell (i := 4) rfl
  have f4 := A3.frozen 4
  have c8 := A3.cell (i := 8) rfl
  have f8 := A3.frozen 8
  have c12 := A3.cell (i := 12) rfl
  have f12 := A3.frozen 12
  have cr0 := A5.cell (i := 0) rfl
  have cr1 := A5.cell (i := 1) rfl
  obtain ⟨x0, hx0⟩ : ∃ z, Hid (z = ms.getD r0 0) := ⟨_, rfl⟩
  have cm0 : W.cell? ⟨w.heap.size + 1, r0, none⟩ = some (.int .u32 (x0.toNat : Int)) := by rw [hx0.out]; exact cell_word A4 (by omega)
  obtain ⟨x1, hx1⟩ : ∃ z, Hid (z = ms.getD r1 0) := ⟨_, rfl⟩
  have cm1 : W.cell? ⟨w.heap.size + 1, r1, none⟩ = some (.int .u32 (x1.toNat : Int)) := by rw [hx1.out]; exact cell_word A4 (by omega)
  obtain ⟨q0, hq0⟩ : ∃ z, Hid (z = quad w0 w4 w8 w12 x0 x1) := ⟨_, rfl⟩
  have cb : ∀ W : World, Calls Tryd.prog 121 #[.int .u32 (w0.toNat : Int), .int .u32 (w4.toNat : Int), .int .u32 (w8.toNat : Int), .int .u32 (w12.toNat : Int), .int .u32 (x0.toNat : Int), .int .u32 (x1.toNat : Int)] W fun e w' => e = .returned (.tuple #[.int .u32 (q0.a.toNat : Int), .int .u32 (q0.b.toNat : Int), .int .u32 (q0.c.toNat : Int), .int .u32 (q0.d.toNat : Int)]) ∧ w' = W := fun W => by
    rw [hq0.out]; exact blend_any _ _ _ _ _ _ W
  refine wp_region_head_seq (C := fun w' => ∃ j, w' = W.drewN j) 18 4 (by kernel_rfl) (by kernel_rfl) ⟨1, rfl⟩ (fun c a d v w h => by cases d <;> exact h) ?_
  simp only [List.take_succ_cons, List.take_zero, List.drop_succ_cons, List.drop_zero]
  iterate 18 (go_big_quiet_step (exact Calls.quiet_of_same (cb _)))
  refine ⟨_, yields_extract _ 7 0 #[.int .u32 (q0.a.toNat : Int), .int .u32 (q0.b.toNat : Int), .int .u32 (q0.c.toNat : Int), .int .u32 (q0.d.toNat : Int)] _ rfl rfl rfl rfl, _, yields_extract _ 7 1 #[.int .u32 (q0.a.toNat : Int), .int .u32 (q0.b.toNat : Int), .int .u32 (q0.c.toNat : Int), .int .u32 (q0.d.toNat : Int)] _ rfl rfl rfl rfl, _, yields_extract _ 7 2 #[.int .u32 (q0.a.toNat : Int), .int .u32 (q0.b.toNat : Int), .int .u32 (q0.c.toNat : Int), .int .u32 (q0.d.toNat : Int)] _ rfl rfl rfl rfl, _, yields_extract _ 7 3 #[.int .u32 (q0.a.toNat : Int), .int .u32 (q0.b.toNat : Int), .int .u32 (q0.c.toNat : Int), .int .u32 (q0.d.toNat : Int)] _ rfl rfl rfl rfl, ?_⟩
  rintro w' ⟨nq, rfl⟩
  go_wp2
  clear cb cr0 cr1 cm0 cm1 c0 f0 c4 f4 c8 f8 c12 f12
  refine cut_wp (fun W => Arr W w.heap.size 160 [.int .u32 (q0.a.toNat : Int), .int .u32 (w1.toNat : Int), .int .u32 (w2.toNat : Int), .int .u32 (w3.toNat : Int), .int .u32 (q0.b.toNat : Int), .int .u32 (w5.toNat : Int), .int .u32 (w6.toNat : Int), .int .u32 (w7.toNat : Int), .int .u32 (q0.c.toNat : Int), .int .u32 (w9.toNat : Int), .int .u32 (w10.toNat : Int), .int .u32 (w11.toNat : Int), .int .u32 (q0.d.toNat : Int), .int .u32 (w13.toNat : Int), .int .u32 (w14.toNat : Int), .int .u32 (w15.toNat : Int)] ∧ Arr W (w.heap.size + 1) 160 (ms.map wv) ∧ Arr W (w.heap.size + 1 + 1) 176 [.int .u8 (r0 : Int), .int .u8 (r1 : Int), .int .u8 (r2 : Int), .int .u8 (r3 : Int), .int .u8 (r4 : Int), .int .u8 (r5 : Int), .int .u8 (r6 : Int), .int .u8 (r7 : Int), .int .u8 (r8 : Int), .int .u8 (r9 : Int), .int .u8 (r10 : Int), .int .u8 (r11 : Int), .int .u8 (r12 : Int), .int .u8 (r13 : Int), .int .u8 (r14 : Int), .int .u8 (r15 : Int)] ∧ Arr W (w.heap.size + 1 + 1 + 1) 160 [.int .u32 0, .int .u32 0, .int .u32 0, .int .u32 0, .int .u32 0, .int .u32 0, .int .u32 0, .int .u32 0, .int .u32 0, .int .u32 0, .int .u32 0, .int .u32 0, .int .u32 0, .int .u32 0, .int .u32 0, .int .u32 0] ∧ Below w.heap.size w W) ?_ ?_
  · exact ⟨(((((A3.drewN _).set 0 _).set 4 _).set 8 _).set 12 _), (((((A4.drewN _).other e1 _).other e1 _).other e1 _).other e1 _), (((((A5.drewN _).other e2 _).other e2 _).other e2 _).other e2 _), (((((A6.drewN _).other e3 _).other e3 _).other e3 _).other e3 _), ((((below_drewN hB _).setCell (Nat.le_refl _) _).setCell (Nat.le_refl _) _).setCell (Nat.le_refl _) _).setCell (Nat.le_refl _) _⟩
  clear A3 A4 A5 A6 hB
  rintro W1 ⟨A3, A4, A5, A6, hB⟩
  have c1 := A3.cell (i := 1) rfl
  have f1 := A3.frozen 1
  have c5 := A3.cell (i := 5) rfl
  have f5 := A3.frozen 5
  have c9 := A3.cell (i := 9) rfl
  have f9 := A3.frozen 9
  have c13 := A3.cell (i := 13) rfl
  have f13 := A3.frozen 13
  have cr2 := A5.cell (i := 2) rfl
  have cr3 := A5.cell (i := 3) rfl
  obtain ⟨x2, hx2⟩ : ∃ z, Hid (z = ms.getD r2 0) := ⟨_, rfl⟩
  have cm2 : W1.cell? ⟨w.heap.size + 1, r2, none⟩ = some (.int .u32 (x2.toNat : Int)) := by rw [hx2.out]; exact cell_word A4 (by omega)
  obtain ⟨x3, hx3⟩ : ∃ z, Hid (z = ms.getD r3 0) := ⟨_, rfl⟩
  have cm3 : W1.cell? ⟨w.heap.size + 1, r3, none⟩ = some (.int .u32 (x3.toNat : Int)) := by rw [hx3.out]; exact cell_word A4 (by omega)
  obtain ⟨q1, hq1⟩ : ∃ z, Hid (z = quad w1 w5 w9 w13 x2 x3) := ⟨_, rfl⟩
  have cb : ∀ W : World, Calls Tryd.prog 121 #[.int .u32 (w1.toNat : Int), .int .u32 (w5.toNat : Int), .int .u32 (w9.toNat : Int), .int .u32 (w13.toNat : Int), .int .u32 (x2.toNat : Int), .int .u32 (x3.toNat : Int)] W fun e w' => e = .returned (.tuple #[.int .u32 (q1.a.toNat : Int), .int .u32 (q1.b.toNat : Int), .int .u32 (q1.c.toNat : Int), .int .u32 (q1.d.toNat : Int)]) ∧ w' = W := fun W => by
    rw [hq1.out]; exact blend_any _ _ _ _ _ _ W
  refine wp_region_head_seq (C := fun w' => ∃ j, w' = W1.drewN j) 18 4 (by kernel_rfl) (by kernel_rfl) ⟨1, rfl⟩ (fun c a d v w h => by cases d <;> exact h) ?_
  simp only [List.take_succ_cons, List.take_zero, List.drop_succ_cons, List.drop_zero]
  iterate 18 (go_big_quiet_step (exact Calls.quiet_of_same (cb _)))
  refine ⟨_, yields_extract _ 33 0 #[.int .u32 (q1.a.toNat : Int), .int .u32 (q1.b.toNat : Int), .int .u32 (q1.c.toNat : Int), .int .u32 (q1.d.toNat : Int)] _ rfl rfl rfl rfl, _, yields_extract _ 33 1 #[.int .u32 (q1.a.toNat : Int), .int .u32 (q1.b.toNat : Int), .int .u32 (q1.c.toNat : Int), .int .u32 (q1.d.toNat : Int)] _ rfl rfl rfl rfl, _, yields_extract _ 33 2 #[.int .u32 (q1.a.toNat : Int), .int .u32 (q1.b.toNat : Int), .int .u32 (q1.c.toNat : Int), .int .u32 (q1.d.toNat : Int)] _ rfl rfl rfl rfl, _, yields_extract _ 33 3 #[.int .u32 (q1.a.toNat : Int), .int .u32 (q1.b.toNat : Int), .int .u32 (q1.c.toNat : Int), .int .u32 (q1.d.toNat : Int)] _ rfl rfl rfl rfl, ?_⟩
  rintro w' ⟨nq, rfl⟩
  go_wp2
  clear cb cr2 cr3 cm2 cm3 c1 f1 c5 f5 c9 f9 c13 f13
  refine cut_wp (fun W => Arr W w.heap.size 160 [.int .u32 (q0.a.toNat : Int), .int .u32 (q1.a.toNat : Int), .int .u32 (w2.toNat : Int), .int .u32 (w3.toNat : Int), .int .u32 (q0.b.toNat : Int), .int .u32 (q1.b.toNat : Int), .int .u32 (w6.toNat : Int), .int .u32 (w7.toNat : Int), .int .u32 (q0.c.toNat : Int), .int .u32 (q1.c.toNat : Int), .int .u32 (w10.toNat : Int), .int .u32 (w11.toNat : Int), .int .u32 (q0.d.toNat : Int), .int .u32 (q1.d.toNat : Int), .int .u32 (w14.toNat : Int), .int .u32 (w15.toNat : Int)] ∧ Arr W (w.heap.size + 1) 160 (ms.map wv) ∧ Arr W (w.heap.size + 1 + 1) 176 [.int .u8 (r0 : Int), .int .u8 (r1 : Int), .int .u8 (r2 : Int), .int .u8 (r3 : Int), .int .u8 (r4 : Int), .int .u8 (r5 : Int), .int .u8 (r6 : Int), .int .u8 (r7 : Int), .int .u8 (r8 : Int), .int .u8 (r9 : Int), .int .u8 (r10 : Int), .int .u8 (r11 : Int), .int .u8 (r12 : Int), .int .u8 (r13 : Int), .int .u8 (r14 : Int), .int .u8 (r15 : Int)] ∧ Arr W (w.heap.size + 1 + 1 + 1) 160 [.int .u32 0, .int .u32 0, .int .u32 0, .int .u32 0, .int .u32 0, .int .u32 0, .int .u32 0, .int .u32 0, .int .u32 0, .int .u32 0, .int .u32 0, .int .u32 0, .int .u32 0, .int .u32 0, .int .u32 0, .int .u32 0] ∧ Below w.heap.size w W) ?_ ?_
  · exact ⟨(((((A3.drewN _).set 1 _).set 5 _).set 9 _).set 13 _), (((((A4.drewN _).other e1 _).other e1 _).other e1 _).other e1 _), (((((A5.drewN _).other e2 _).other e2 _).other e2 _).other e2 _), (((((A6.drewN _).other e3 _).other e3 _).other e3 _).other e3 _), ((((below_drewN hB _).setCell (Nat.le_refl _) _).setCell (Nat.le_refl _) _).setCell (Nat.le_refl _) _).setCell (Nat.le_refl _) _⟩
  clear A3 A4 A5 A6 hB
  rintro W2 ⟨A3, A4, A5, A6, hB⟩
  have c2 := A3.cell (i := 2) rfl
  have f2 := A3.frozen 2
  have c6 := A3.cell (i := 6) rfl
  have f6 := A3.frozen 6
  have c10 := A3.cell (i := 10) rfl
  have f10 := A3.frozen 10
  have c14 := A3.cell (i := 14) rfl
  have f14 := A3.frozen 14
  have cr4 := A5.cell (i := 4) rfl
  have cr5 := A5.cell (i := 5) rfl
  obtain ⟨x4, hx4⟩ : ∃ z, Hid (z = ms.getD r4 0) := ⟨_, rfl⟩
  have cm4 : W2.cell? ⟨w.heap.size + 1, r4, none⟩ = some (.int .u32 (x4.toNat : Int)) := by rw [hx4.out]; exact cell_word A4 (by omega)
  obtain ⟨x5, hx5⟩ : ∃ z, Hid (z = ms.getD r5 0) := ⟨_, rfl⟩
  have cm5 : W2.cell? ⟨w.heap.size + 1, r5, none⟩ = some (.int .u32 (x5.toNat : Int)) := by rw [hx5.out]; exact cell_word A4 (by omega)
  obtain ⟨q2, hq2⟩ : ∃ z, Hid (z = quad w2 w6 w10 w14 x4 x5) := ⟨_, rfl⟩
  have cb : ∀ W : World, Calls Tryd.prog 121 #[.int .u32 (w2.toNat : Int), .int .u32 (w6.toNat : Int), .int .u32 (w10.toNat : Int), .int .u32 (w14.toNat : Int), .int .u32 (x4.toNat : Int), .int .u32 (x5.toNat : Int)] W fun e w' => e = .returned (.tuple #[.int .u32 (q2.a.toNat : Int), .int .u32 (q2.b.toNat : Int), .int .u32 (q2.c.toNat : Int), .int .u32 (q2.d.toNat : Int)]) ∧ w' = W := fun W => by
    rw [hq2.out]; exact blend_any _ _ _ _ _ _ W
  refine wp_region_head_seq (C := fun w' => ∃ j, w' = W2.drewN j) 18 4 (by kernel_rfl) (by kernel_rfl) ⟨1, rfl⟩ (fun c a d v w h => by cases d <;> exact h) ?_
  simp only [List.take_succ_cons, List.take_zero, List.drop_succ_cons, List.drop_zero]
  iterate 18 (go_big_quiet_step (exact Calls.quiet_of_same (cb _)))
  refine ⟨_, yields_extract _ 59 0 #[.int .u32 (q2.a.toNat : Int), .int .u32 (q2.b.toNat : Int), .int .u32 (q2.c.toNat : Int), .int .u32 (q2.d.toNat : Int)] _ rfl rfl rfl rfl, _, yields_extract _ 59 1 #[.int .u32 (q2.a.toNat : Int), .int .u32 (q2.b.toNat : Int), .int .u32 (q2.c.toNat : Int), .int .u32 (q2.d.toNat : Int)] _ rfl rfl rfl rfl, _, yields_extract _ 59 2 #[.int .u32 (q2.a.toNat : Int), .int .u32 (q2.b.toNat : Int), .int .u32 (q2.c.toNat : Int), .int .u32 (q2.d.toNat : Int)] _ rfl rfl rfl rfl, _, yields_extract _ 59 3 #[.int .u32 (q2.a.toNat : Int), .int .u32 (q2.b.toNat : Int), .int .u32 (q2.c.toNat : Int), .int .u32 (q2.d.toNat : Int)] _ rfl rfl rfl rfl, ?_⟩
  rintro w' ⟨nq, rfl⟩
  go_wp2
  clear cb cr4 cr5 cm4 cm5 c2 f2 c6 f6 c10 f10 c14 f14
  refine cut_wp (fun W => Arr W w.heap.size 160 [.int .u32 (q0.a.toNat : Int), .int .u32 (q1.a.toNat : Int), .int .u32 (q2.a.toNat : Int), .int .u32 (w3.toNat : Int), .int .u32 (q0.b.toNat : Int), .int .u32 (q1.b.toNat : Int), .int .u32 (q2.b.toNat : Int), .int .u32 (w7.toNat : Int), .int .u32 (q0.c.toNat : Int), .int .u32 (q1.c.toNat : Int), .int .u32 (q2.c.toNat : Int), .int .u32 (w11.toNat : Int), .int .u32 (q0.d.toNat : Int), .int .u32 (q1.d.toNat : Int), .int .u32 (q2.d.toNat : Int), .int .u32 (w15.toNat : Int)] ∧ Arr W (w.heap.size + 1) 160 (ms.map wv) ∧ Arr W (w.heap.size + 1 + 1) 176 [.int .u8 (r0 : Int), .int .u8 (r1 : Int), .int .u8 (r2 : Int), .int .u8 (r3 : Int), .int .u8 (r4 : Int), .int .u8 (r5 : Int), .int .u8 (r6 : Int), .int .u8 (r7 : Int), .int .u8 (r8 : Int), .int .u8 (r9 : Int), .int .u8 (r10 : Int), .int .u8 (r11 : Int), .int .u8 (r12 : Int), .int .u8 (r13 : Int), .int .u8 (r14 : Int), .int .u8 (r15 : Int)] ∧ Arr W (w.heap.size + 1 + 1 + 1) 160 [.int .u32 0, .int .u32 0, .int .u32 0, .int .u32 0, .int .u32 0, .int .u32 0, .int .u32 0, .int .u32 0, .int .u32 0, .int .u32 0, .int .u32 0, .int .u32 0, .int .u32 0, .int .u32 0, .int .u32 0, .int .u32 0] ∧ Below w.heap.size w W) ?_ ?_
  · exact ⟨(((((A3.drewN _).set 2 _).set 6 _).set 10 _).set 14 _), (((((A4.drewN _).other e1 _).other e1 _).other e1 _).other e1 _), (((((A5.drewN _).other e2 _).other e2 _).other e2 _).other e2 _), (((((A6.drewN _).other e3 _).other e3 _).other e3 _).other e3 _), ((((below_drewN hB _).setCell (Nat.le_refl _) _).setCell (Nat.le_refl _) _).setCell (Nat.le_refl _) _).setCell (Nat.le_refl _) _⟩
  clear A3 A4 A5 A6 hB
  rintro W3 ⟨A3, A4, A5, A6, hB⟩
  have c3 := A3.cell (i := 3) rfl
  have f3 := A3.frozen 3
  have c7 := A3.cell (i := 7) rfl
  have f7 := A3.frozen 7
  have c11 := A3.cell (i := 11) rfl
  have f11 := A3.frozen 11
  have c15 := A3.cell (i := 15) rfl
  have f15 := A3.frozen 15
  have cr6 := A5.cell (i := 6) rfl
  have cr7 := A5.cell (i := 7) rfl
  obtain ⟨x6, hx6⟩ : ∃ z, Hid (z = ms.getD r6 0) := ⟨_, rfl⟩
  have cm6 : W3.cell? ⟨w.heap.size + 1, r6, none⟩ = some (.int .u32 (x6.toNat : Int)) := by rw [hx6.out]; exact cell_word A4 (by omega)
  obtain ⟨x7, hx7⟩ : ∃ z, Hid (z = ms.getD r7 0) := ⟨_, rfl⟩
  have cm7 : W3.cell? ⟨w.heap.size + 1, r7, none⟩ = some (.int .u32 (x7.toNat : Int)) := by rw [hx7.out]; exact cell_word A4 (by omega)
  obtain ⟨q3, hq3⟩ : ∃ z, Hid (z = quad w3 w7 w11 w15 x6 x7) := ⟨_, rfl⟩
  have cb : ∀ W : World, Calls Tryd.prog 121 #[.int .u32 (w3.toNat : Int), .int .u32 (w7.toNat : Int), .int .u32 (w11.toNat : Int), .int .u32 (w15.toNat : Int), .int .u32 (x6.toNat : Int), .int .u32 (x7.toNat : Int)] W fun e w' => e = .returned (.tuple #[.int .u32 (q3.a.toNat : Int), .int .u32 (q3.b.toNat : Int), .int .u32 (q3.c.toNat : Int), .int .u32 (q3.d.toNat : Int)]) ∧ w' = W := fun W => by
    rw [hq3.out]; exact blend_any _ _ _ _ _ _ W
  refine wp_region_head_seq (C := fun w' => ∃ j, w' = W3.drewN j) 18 4 (by kernel_rfl) (by kernel_rfl) ⟨1, rfl⟩ (fun c a d v w h => by cases d <;> exact h) ?_
  simp only [List.take_succ_cons, List.take_zero, List.drop_succ_cons, List.drop_zero]
  iterate 18 (go_big_quiet_step (exact Calls.quiet_of_same (cb _)))
  refine ⟨_, yields_extract _ 85 0 #[.int .u32 (q3.a.toNat : Int), .int .u32 (q3.b.toNat : Int), .int .u32 (q3.c.toNat : Int), .int .u32 (q3.d.toNat : Int)] _ rfl rfl rfl rfl, _, yields_extract _ 85 1 #[.int .u32 (q3.a.toNat : Int), .int .u32 (q3.b.toNat : Int), .int .u32 (q3.c.toNat : Int), .int .u32 (q3.d.toNat : Int)] _ rfl rfl rfl rfl, _, yields_extract _ 85 2 #[.int .u32 (q3.a.toNat : Int), .int .u32 (q3.b.toNat : Int), .int .u32 (q3.c.toNat : Int), .int .u32 (q3.d.toNat : Int)] _ rfl rfl rfl rfl, _, yields_extract _ 85 3 #[.int .u32 (q3.a.toNat : Int), .int .u32 (q3.b.toNat : Int), .int .u32 (q3.c.toNat : Int), .int .u32 (q3.d.toNat : Int)] _ rfl rfl rfl rfl, ?_⟩
  rintro w' ⟨nq, rfl⟩
  go_wp2
  clear cb cr6 cr7 cm6 cm7 c3 f3 c7 f7 c11 f11 c15 f15
  refine cut_wp (fun W => Arr W w.heap.size 160 [.int .u32 (q0.a.toNat : Int), .int .u32 (q1.a.toNat : Int), .int .u32 (q2.a.toNat : Int), .int .u32 (q3.a.toNat : Int), .int .u32 (q0.b.toNat : Int), .int .u32 (q1.b.toNat : Int), .int .u32 (q2.b.toNat : Int), .int .u32 (q3.b.toNat : Int), .int .u32 (q0.c.toNat : Int), .int .u32 (q1.c.toNat : Int), .int .u32 (q2.c.toNat : Int), .int .u32 (q3.c.toNat : Int), .int .u32 (q0.d.toNat : Int), .int .u32 (q1.d.toNat : Int), .int .u32 (q2.d.toNat : Int), .int .u32 (q3.d.toNat : Int)] ∧ Arr W (w.heap.size + 1) 160 (ms.map wv) ∧ Arr W (w.heap.size + 1 + 1) 176 [.int .u8 (r0 : Int), .int .u8 (r1 : Int), .int .u8 (r2 : Int), .int .u8 (r3 : Int), .int .u8 (r4 : Int), .int .u8 (r5 : Int), .int .u8 (r6 : Int), .int .u8 (r7 : Int), .int .u8 (r8 : Int), .int .u8 (r9 : Int), .int .u8 (r10 : Int), .int .u8 (r11 : Int), .int .u8 (r12 : Int), .int .u8 (r13 : Int), .int .u8 (r14 : Int), .int .u8 (r15 : Int)] ∧ Arr W (w.heap.size + 1 + 1 + 1) 160 [.int .u32 0, .int .u32 0, .int .u32 0, .int .u32 0, .int .u32 0, .int .u32 0, .int .u32 0, .int .u32 0, .int .u32 0, .int .u32 0, .int .u32 0, .int .u32 0, .int .u32 0, .int .u32 0, .int .u32 0, .int .u32 0] ∧ Below w.heap.size w W) ?_ ?_
  · exact ⟨(((((A3.drewN _).set 3 _).set 7 _).set 11 _).set 15 _), (((((A4.drewN _).other e1 _).other e1 _).other e1 _).other e1 _), (((((A5.drewN _).other e2 _).other e2 _).other e2 _).other e2 _), (((((A6.drewN _).other e3 _).other e3 _).other e3 _).other e3 _), ((((below_drewN hB _).setCell (Nat.le_refl _) _).setCell (Nat.le_refl _) _).setCell (Nat.le_refl _) _).setCell (Nat.le_refl _) _⟩
  clear A3 A4 A5 A6 hB
  rintro W4 ⟨A3, A4, A5, A6, hB⟩
  have c0 := A3.cell (i := 0) rfl
  have f0 := A3.frozen 0
  have c5 := A3.cell (i := 5) rfl
  have f5 := A3.frozen 5
  have c10 := A3.cell (i := 10) rfl
  have f10 := A3.frozen 10
  have c15 := A3.cell (i := 15) rfl
  have f15 := A3.frozen 15
  have cr8 := A5.cell (i := 8) rfl
  have cr9 := A5.cell (i := 9) rfl
  obtain ⟨x8, hx8⟩ : ∃ z, Hid (z = ms.getD r8 0) := ⟨_, rfl⟩
  have cm8 : W4.cell? ⟨w.heap.size + 1, r8, none⟩ = some (.int .u32 (x8.toNat : Int)) := by rw [hx8.out]; exact cell_word A4 (by omega)
  obtain ⟨x9, hx9⟩ : ∃ z, Hid (z = ms.getD r9 0) := ⟨_, rfl⟩
  have cm9 : W4.cell? ⟨w.heap.size + 1, r9, none⟩ = some (.int .u32 (x9.toNat : Int)) := by rw [hx9.out]; exact cell_word A4 (by omega)
  obtain ⟨q4, hq4⟩ : ∃ z, Hid (z = quad q0.a q1.b q2.c q3.d x8 x9) := ⟨_, rfl⟩
  have cb : ∀ W : World, Calls Tryd.prog 121 #[.int .u32 (q0.a.toNat : Int), .int .u32 (q1.b.toNat : Int), .int .u32 (q2.c.toNat : Int), .int .u32 (q3.d.toNat : Int), .int .u32 (x8.toNat : Int), .int .u32 (x9.toNat : Int)] W fun e w' => e = .returned (.tuple #[.int .u32 (q4.a.toNat : Int), .int .u32 (q4.b.toNat : Int), .int .u32 (q4.c.toNat : Int), .int .u32 (q4.d.toNat : Int)]) ∧ w' = W := fun W => by
    rw [hq4.out]; exact blend_any _ _ _ _ _ _ W
  refine wp_region_head_seq (C := fun w' => ∃ j, w' = W4.drewN j) 18 4 (by kernel_rfl) (by kernel_rfl) ⟨1, rfl⟩ (fun c a d v w h => by cases d <;> exact h) ?_
  simp only [List.take_succ_cons, List.take_zero, List.drop_succ_cons, List.drop_zero]
  iterate 18 (go_big_quiet_step (exact Calls.quiet_of_same (cb _)))
  refine ⟨_, yields_extract _ 111 0 #[.int .u32 (q4.a.toNat : Int), .int .u32 (q4.b.toNat : Int), .int .u32 (q4.c.toNat : Int), .int .u32 (q4.d.toNat : Int)] _ rfl rfl rfl rfl, _, yields_extract _ 111 1 #[.int .u32 (q4.a.toNat : Int), .int .u32 (q4.b.toNat : Int), .int .u32 (q4.c.toNat : Int), .int .u32 (q4.d.toNat : Int)] _ rfl rfl rfl rfl, _, yields_extract _ 111 2 #[.int .u32 (q4.a.toNat : Int), .int .u32 (q4.b.toNat : Int), .int .u32 (q4.c.toNat : Int), .int .u32 (q4.d.toNat : Int)] _ rfl rfl rfl rfl, _, yields_extract _ 111 3 #[.int .u32 (q4.a.toNat : Int), .int .u32 (q4.b.toNat : Int), .int .u32 (q4.c.toNat : Int), .int .u32 (q4.d.toNat : Int)] _ rfl rfl rfl rfl, ?_⟩
  rintro w' ⟨nq, rfl⟩
  go_wp2
  clear cb cr8 cr9 cm8 cm9 c0 f0 c5 f5 c10 f10 c15 f15
  refine cut_wp (fun W => Arr W w.heap.size 160 [.int .u32 (q4.a.toNat : Int), .int .u32 (q1.a.toNat : Int), .int .u32 (q2.a.toNat : Int), .int .u32 (q3.a.toNat : Int), .int .u32 (q0.b.toNat : Int), .int .u32 (q4.b.toNat : Int), .int .u32 (q2.b.toNat : Int), .int .u32 (q3.b.toNat : Int), .int .u32 (q0.c.toNat : Int), .int .u32 (q1.c.toNat : Int), .int .u32 (q4.c.toNat : Int), .int .u32 (q3.c.toNat : Int), .int .u32 (q0.d.toNat : Int), .int .u32 (q1.d.toNat : Int), .int .u32 (q2.d.toNat : Int), .int .u32 (q4.d.toNat : Int)] ∧ Arr W (w.heap.size + 1) 160 (ms.map wv) ∧ Arr W (w.heap.size + 1 + 1) 176 [.int .u8 (r0 : Int), .int .u8 (r1 : Int), .int .u8 (r2 : Int), .int .u8 (r3 : Int), .int .u8 (r4 : Int), .int .u8 (r5 : Int), .int .u8 (r6 : Int), .int .u8 (r7 : Int), .int .u8 (r8 : Int), .int .u8 (r9 : Int), .int .u8 (r10 : Int), .int .u8 (r11 : Int), .int .u8 (r12 : Int), .int .u8 (r13 : Int), .int .u8 (r14 : Int), .int .u8 (r15 : Int)] ∧ Arr W (w.heap.size + 1 + 1 + 1) 160 [.int .u32 0, .int .u32 0, .int .u32 0, .int .u32 0, .int .u32 0, .int .u32 0, .int .u32 0, .int .u32 0, .int .u32 0, .int .u32 0, .int .u32 0, .int .u32 0, .int .u32 0, .int .u32 0, .int .u32 0, .int .u32 0] ∧ Below w.heap.size w W) ?_ ?_
  · exact ⟨(((((A3.drewN _).set 0 _).set 5 _).set 10 _).set 15 _), (((((A4.drewN _).other e1 _).other e1 _).other e1 _).other e1 _), (((((A5.drewN _).other e2 _).other e2 _).other e2 _).other e2 _), (((((A6.drewN _).other e3 _).other e3 _).other e3 _).other e3 _), ((((below_drewN hB _).setCell (Nat.le_refl _) _).setCell (Nat.le_refl _) _).setCell (Nat.le_refl _) _).setCell (Nat.le_refl _) _⟩
  clear A3 A4 A5 A6 hB
  rintro W5 ⟨A3, A4, A5, A6, hB⟩
  have c1 := A3.cell (i := 1) rfl
  have f1 := A3.frozen 1
  have c6 := A3.cell (i := 6) rfl
  have f6 := A3.frozen 6
  have c11 := A3.cell (i := 11) rfl
  have f11 := A3.frozen 11
  have c12 := A3.cell (i := 12) rfl
  have f12 := A3.frozen 12
  have cr10 := A5.cell (i := 10) rfl
  have cr11 := A5.cell (i := 11) rfl
  obtain ⟨x10, hx10⟩ : ∃ z, Hid (z = ms.getD r10 0) := ⟨_, rfl⟩
  have cm10 : W5.cell? ⟨w.heap.size + 1, r10, none⟩ = some (.int .u32 (x10.toNat : Int)) := by rw [hx10.out]; exact cell_word A4 (by omega)
  obtain ⟨x11, hx11⟩ : ∃ z, Hid (z = ms.getD r11 0) := ⟨_, rfl⟩
  have cm11 : W5.cell? ⟨w.heap.size + 1, r11, none⟩ = some (.int .u32 (x11.toNat : Int)) := by rw [hx11.out]; exact cell_word A4 (by omega)
  obtain ⟨q5, hq5⟩ : ∃ z, Hid (z = quad q1.a q2.b q3.c q0.d x10 x11) := ⟨_, rfl⟩
  have cb : ∀ W : World, Calls Tryd.prog 121 #[.int .u32 (q1.a.toNat : Int), .int .u32 (q2.b.toNat : Int), .int .u32 (q3.c.toNat : Int), .int .u32 (q0.d.toNat : Int), .int .u32 (x10.toNat : Int), .int .u32 (x11.toNat : Int)] W fun e w' => e = .returned (.tuple #[.int .u32 (q5.a.toNat : Int), .int .u32 (q5.b.toNat : Int), .int .u32 (q5.c.toNat : Int), .int .u32 (q5.d.toNat : Int)]) ∧ w' = W := fun W => by
    rw [hq5.out]; exact blend_any _ _ _ _ _ _ W
  refine wp_region_head_seq (C := fun w' => ∃ j, w' = W5.drewN j) 18 4 (by kernel_rfl) (by kernel_rfl) ⟨1, rfl⟩ (fun c a d v w h => by cases d <;> exact h) ?_
  simp only [List.take_succ_cons, List.take_zero, List.drop_succ_cons, List.drop_zero]
  iterate 18 (go_big_quiet_step (exact Calls.quiet_of_same (cb _)))
  refine ⟨_, yields_extract _ 137 0 #[.int .u32 (q5.a.toNat : Int), .int .u32 (q5.b.toNat : Int), .int .u32 (q5.c.toNat : Int), .int .u32 (q5.d.toNat : Int)] _ rfl rfl rfl rfl, _, yields_extract _ 137 1 #[.int .u32 (q5.a.toNat : Int), .int .u32 (q5.b.toNat : Int), .int .u32 (q5.c.toNat : Int), .int .u32 (q5.d.toNat : Int)] _ rfl rfl rfl rfl, _, yields_extract _ 137 2 #[.int .u32 (q5.a.toNat : Int), .int .u32 (q5.b.toNat : Int), .int .u32 (q5.c.toNat : Int), .int .u32 (q5.d.toNat : Int)] _ rfl rfl rfl rfl, _, yields_extract _ 137 3 #[.int .u32 (q5.a.toNat : Int), .int .u32 (q5.b.toNat : Int), .int .u32 (q5.c.toNat : Int), .int .u32 (q5.d.toNat : Int)] _ rfl rfl rfl rfl, ?_⟩
  rintro w' ⟨nq, rfl⟩
  go_wp2
  clear cb cr10 cr11 cm10 cm11 c1 f1 c6 f6 c11 f11 c12 f12
  refine cut_wp (fun W => Arr W w.heap.size 160 [.int .u32 (q4.a.toNat : Int), .int .u32 (q5.a.toNat : Int), .int .u32 (q2.a.toNat : Int), .int .u32 (q3.a.toNat : Int), .int .u32 (q0.b.toNat : Int), .int .u32 (q4.b.toNat : Int), .int .u32 (q5.b.toNat : Int), .int .u32 (q3.b.toNat : Int), .int .u32 (q0.c.toNat : Int), .int .u32 (q1.c.toNat : Int), .int .u32 (q4.c.toNat : Int), .int .u32 (q5.c.toNat : Int), .int .u32 (q5.d.toNat : Int), .int .u32 (q1.d.toNat : Int), .int .u32 (q2.d.toNat : Int), .int .u32 (q4.d.toNat : Int)] ∧ Arr W (w.heap.size + 1) 160 (ms.map wv) ∧ Arr W (w.heap.size + 1 + 1) 176 [.int .u8 (r0 : Int), .int .u8 (r1 : Int), .int .u8 (r2 : Int), .int .u8 (r3 : Int), .int .u8 (r4 : Int), .int .u8 (r5 : Int), .int .u8 (r6 : Int), .int .u8 (r7 : Int), .int .u8 (r8 : Int), .int .u8 (r9 : Int), .int .u8 (r10 : Int), .int .u8 (r11 : Int), .int .u8 (r12 : Int), .int .u8 (r13 : Int), .int .u8 (r14 : Int), .int .u8 (r15 : Int)] ∧ Arr W (w.heap.size + 1 + 1 + 1) 160 [.int .u32 0, .int .u32 0, .int .u32 0, .int .u32 0, .int .u32 0, .int .u32 0, .int .u32 0, .int .u32 0, .int .u32 0, .int .u32 0, .int .u32 0, .int .u32 0, .int .u32 0, .int .u32 0, .int .u32 0, .int .u32 0] ∧ Below w.heap.size w W) ?_ ?_
  · exact ⟨(((((A3.drewN _).set 1 _).set 6 _).set 11 _).set 12 _), (((((A4.drewN _).other e1 _).other e1 _).other e1 _).other e1 _), (((((A5.drewN _).other e2 _).other e2 _).other e2 _).other e2 _), (((((A6.drewN _).other e3 _).other e3 _).other e3 _).other e3 _), ((((below_drewN hB _).setCell (Nat.le_refl _) _).setCell (Nat.le_refl _) _).setCell (Nat.le_refl _) _).setCell (Nat.le_refl _) _⟩
  clear A3 A4 A5 A6 hB
  rintro W6 ⟨A3, A4, A5, A6, hB⟩
  have c2 := A3.cell (i := 2) rfl
  have f2 := A3.frozen 2
  have c7 := A3.cell (i := 7) rfl
  have f7 := A3.frozen 7
  have c8 := A3.cell (i := 8) rfl
  have f8 := A3.frozen 8
  have c13 := A3.cell (i := 13) rfl
  have f13 := A3.frozen 13
  have cr12 := A5.cell (i := 12) rfl
  have cr13 := A5.cell (i := 13) rfl
  obtain ⟨x12, hx12⟩ : ∃ z, Hid (z = ms.getD r12 0) := ⟨_, rfl⟩
  have cm12 : W6.cell? ⟨w.heap.size + 1, r12, none⟩ = some (.int .u32 (x12.toNat : Int)) := by rw [hx12.out]; exact cell_word A4 (by omega)
  obtain ⟨x13, hx13⟩ : ∃ z, Hid (z = ms.getD r13 0) := ⟨_, rfl⟩
  have cm13 : W6.cell? ⟨w.heap.size + 1, r13, none⟩ = some (.int .u32 (x13.toNat : Int)) := by rw [hx13.out]; exact cell_word A4 (by omega)
  obtain ⟨q6, hq6⟩ : ∃ z, Hid (z = quad q2.a q3.b q0.c q1.d x12 x13) := ⟨_, rfl⟩
  have cb : ∀ W : World, Calls Tryd.prog 121 #[.int .u32 (q2.a.toNat : Int), .int .u32 (q3.b.toNat : Int), .int .u32 (q0.c.toNat : Int), .int .u32 (q1.d.toNat : Int), .int .u32 (x12.toNat : Int), .int .u32 (x13.toNat : Int)] W fun e w' => e = .returned (.tuple #[.int .u32 (q6.a.toNat : Int), .int .u32 (q6.b.toNat : Int), .int .u32 (q6.c.toNat : Int), .int .u32 (q6.d.toNat : Int)]) ∧ w' = W := fun W => by
    rw [hq6.out]; exact blend_any _ _ _ _ _ _ W
  refine wp_region_head_seq (C := fun w' => ∃ j, w' = W6.drewN j) 18 4 (by kernel_rfl) (by kernel_rfl) ⟨1, rfl⟩ (fun c a d v w h => by cases d <;> exact h) ?_
  simp only [List.take_succ_cons, List.take_zero, List.drop_succ_cons, List.drop_zero]
  iterate 18 (go_big_quiet_step (exact Calls.quiet_of_same (cb _)))
  refine ⟨_, yields_extract _ 163 0 #[.int .u32 (q6.a.toNat : Int), .int .u32 (q6.b.toNat : Int), .int .u32 (q6.c.toNat : Int), .int .u32 (q6.d.toNat : Int)] _ rfl rfl rfl rfl, _, yields_extract _ 163 1 #[.int .u32 (q6.a.toNat : Int), .int .u32 (q6.b.toNat : Int), .int .u32 (q6.c.toNat : Int), .int .u32 (q6.d.toNat : Int)] _ rfl rfl rfl rfl, _, yields_extract _ 163 2 #[.int .u32 (q6.a.toNat : Int), .int .u32 (q6.b.toNat : Int), .int .u32 (q6.c.toNat : Int), .int .u32 (q6.d.toNat : Int)] _ rfl rfl rfl rfl, _, yields_extract _ 163 3 #[.int .u32 (q6.a.toNat : Int), .int .u32 (q6.b.toNat : Int), .int .u32 (q6.c.toNat : Int), .int .u32 (q6.d.toNat : Int)] _ rfl rfl rfl rfl, ?_⟩
  rintro w' ⟨nq, rfl⟩
  go_wp2
  clear cb cr12 cr13 cm12 cm13 c2 f2 c7 f7 c8 f8 c13 f13
  refine cut_wp (fun W => Arr W w.heap.size 160 [.int .u32 (q4.a.toNat : Int), .int .u32 (q5.a.toNat : Int), .int .u32 (q6.a.toNat : Int), .int .u32 (q3.a.toNat : Int), .int .u32 (q0.b.toNat : Int), .int .u32 (q4.b.toNat : Int), .int .u32 (q5.b.toNat : Int), .int .u32 (q6.b.toNat : Int), .int .u32 (q6.c.toNat : Int), .int .u32 (q1.c.toNat : Int), .int .u32 (q4.c.toNat : Int), .int .u32 (q5.c.toNat : Int), .int .u32 (q5.d.toNat : Int), .int .u32 (q6.d.toNat : Int), .int .u32 (q2.d.toNat : Int), .int .u32 (q4.d.toNat : Int)] ∧ Arr W (w.heap.size + 1) 160 (ms.map wv) ∧ Arr W (w.heap.size + 1 + 1) 176 [.int .u8 (r0 : Int), .int .u8 (r1 : Int), .int .u8 (r2 : Int), .int .u8 (r3 : Int), .int .u8 (r4 : Int), .int .u8 (r5 : Int), .int .u8 (r6 : Int), .int .u8 (r7 : Int), .int .u8 (r8 : Int), .int .u8 (r9 : Int), .int .u8 (r10 : Int), .int .u8 (r11 : Int), .int .u8 (r12 : Int), .int .u8 (r13 : Int), .int .u8 (r14 : Int), .int .u8 (r15 : Int)] ∧ Arr W (w.heap.size + 1 + 1 + 1) 160 [.int .u32 0, .int .u32 0, .int .u32 0, .int .u32 0, .int .u32 0, .int .u32 0, .int .u32 0, .int .u32 0, .int .u32 0, .int .u32 0, .int .u32 0, .int .u32 0, .int .u32 0, .int .u32 0, .int .u32 0, .int .u32 0] ∧ Below w.heap.size w W) ?_ ?_
  · exact ⟨(((((A3.drewN _).set 2 _).set 7 _).set 8 _).set 13 _), (((((A4.drewN _).other e1 _).other e1 _).other e1 _).other e1 _), (((((A5.drewN _).other e2 _).other e2 _).other e2 _).other e2 _), (((((A6.drewN _).other e3 _).other e3 _).other e3 _).other e3 _), ((((below_drewN hB _).setCell (Nat.le_refl _) _).setCell (Nat.le_refl _) _).setCell (Nat.le_refl _) _).setCell (Nat.le_refl _) _⟩
  clear A3 A4 A5 A6 hB
  rintro W7 ⟨A3, A4, A5, A6, hB⟩
  have c3 := A3.cell (i := 3) rfl
  have f3 := A3.frozen 3
  have c4 := A3.cell (i := 4) rfl
  have f4 := A3.frozen 4
  have c9 := A3.cell (i := 9) rfl
  have f9 := A3.frozen 9
  have c14 := A3.cell (i := 14) rfl
  have f14 := A3.frozen 14
  have cr14 := A5.cell (i := 14) rfl
  have cr15 := A5.cell (i := 15) rfl
  obtain ⟨x14, hx14⟩ : ∃ z, Hid (z = ms.getD r14 0) := ⟨_, rfl⟩
  have cm14 : W7.cell? ⟨w.heap.size + 1, r14, none⟩ = some (.int .u32 (x14.toNat : Int)) := by rw [hx14.out]; exact cell_word A4 (by omega)
  obtain ⟨x15, hx15⟩ : ∃ z, Hid (z = ms.getD r15 0) := ⟨_, rfl⟩
  have cm15 : W7.cell? ⟨w.heap.size + 1, r15, none⟩ = some (.int .u32 (x15.toNat : Int)) := by rw [hx15.out]; exact cell_word A4 (by omega)
  obtain ⟨q7, hq7⟩ : ∃ z, Hid (z = quad q3.a q0.b q1.c q2.d x14 x15) := ⟨_, rfl⟩
  have cb : ∀ W : World, Calls Tryd.prog 121 #[.int .u32 (q3.a.toNat : Int), .int .u32 (q0.b.toNat : Int), .int .u32 (q1.c.toNat : Int), .int .u32 (q2.d.toNat : Int), .int .u32 (x14.toNat : Int), .int .u32 (x15.toNat : Int)] W fun e w' => e = .returned (.tuple #[.int .u32 (q7.a.toNat : Int), .int .u32 (q7.b.toNat : Int), .int .u32 (q7.c.toNat : Int), .int .u32 (q7.d.toNat : Int)]) ∧ w' = W := fun W => by
    rw [hq7.out]; exact blend_any _ _ _ _ _ _ W
  rename_i K hK
  replace hK : Hid _ := hK
  refine wp_region_head_seq (C := fun w' => ∃ j, w' = W7.drewN j) 18 4 (by kernel_rfl) (by kernel_rfl) ⟨1, rfl⟩ (fun c a d v w h => by cases d <;> exact h) ?_
  simp only [List.take_succ_cons, List.take_zero, List.drop_succ_cons, List.drop_zero]
  iterate 18 (go_big_quiet_step (exact Calls.quiet_of_same (cb _)))
  refine ⟨_, yields_extract _ 189 0 #[.int .u32 (q7.a.toNat : Int), .int .u32 (q7.b.toNat : Int), .int .u32 (q7.c.toNat : Int), .int .u32 (q7.d.toNat : Int)] _ rfl rfl rfl rfl, _, yields_extract _ 189 1 #[.int .u32 (q7.a.toNat : Int), .int .u32 (q7.b.toNat : Int), .int .u32 (q7.c.toNat : Int), .int .u32 (q7.d.toNat : Int)] _ rfl rfl rfl rfl, _, yields_extract _ 189 2 #[.int .u32 (q7.a.toNat : Int), .int .u32 (q7.b.toNat : Int), .int .u32 (q7.c.toNat : Int), .int .u32 (q7.d.toNat : Int)] _ rfl rfl rfl rfl, _, yields_extract _ 189 3 #[.int .u32 (q7.a.toNat : Int), .int .u32 (q7.b.toNat : Int), .int .u32 (q7.c.toNat : Int), .int .u32 (q7.d.toNat : Int)] _ rfl rfl rfl rfl, ?_⟩
  rintro w' ⟨nq, rfl⟩
  go_wp2
  clear cb cr14 cr15 cm14 cm15 c3 f3 c4 f4 c9 f9 c14 f14
  refine hK.out _ _ ?_
  clear hK
  refine cut_wp (fun W => Arr W w.heap.size 160 [.int .u32 (q4.a.toNat : Int), .int .u32 (q5.a.toNat : Int), .int .u32 (q6.a.toNat : Int), .int .u32 (q7.a.toNat : Int), .int .u32 (q7.b.toNat : Int), .int .u32 (q4.b.toNat : Int), .int .u32 (q5.b.toNat : Int), .int .u32 (q6.b.toNat : Int), .int .u32 (q6.c.toNat : Int), .int .u32 (q7.c.toNat : Int), .int .u32 (q4.c.toNat : Int), .int .u32 (q5.c.toNat : Int), .int .u32 (q5.d.toNat : Int), .int .u32 (q6.d.toNat : Int), .int .u32 (q7.d.toNat : Int), .int .u32 (q4.d.toNat : Int)] ∧ Arr W (w.heap.size + 1) 160 (ms.map wv) ∧ Arr W (w.heap.size + 1 + 1) 176 [.int .u8 (r0 : Int), .int .u8 (r1 : Int), .int .u8 (r2 : Int), .int .u8 (r3 : Int), .int .u8 (r4 : Int), .int .u8 (r5 : Int), .int .u8 (r6 : Int), .int .u8 (r7 : Int), .int .u8 (r8 : Int), .int .u8 (r9 : Int), .int .u8 (r10 : Int), .int .u8 (r11 : Int), .int .u8 (r12 : Int), .int .u8 (r13 : Int), .int .u8 (r14 : Int), .int .u8 (r15 : Int)] ∧ Arr W (w.heap.size + 1 + 1 + 1) 160 [.int .u32 0, .int .u32 0, .int .u32 0, .int .u32 0, .int .u32 0, .int .u32 0, .int .u32 0, .int .u32 0, .int .u32 0, .int .u32 0, .int .u32 0, .int .u32 0, .int .u32 0, .int .u32 0, .int .u32 0, .int .u32 0] ∧ Below w.heap.size w W) ?_ ?_
  · exact ⟨(((((A3.drewN _).set 3 _).set 4 _).set 9 _).set 14 _), (((((A4.drewN _).other e1 _).other e1 _).other e1 _).other e1 _), (((((A5.drewN _).other e2 _).other e2 _).other e2 _).other e2 _), (((((A6.drewN _).other e3 _).other e3 _).other e3 _).other e3 _), ((((below_drewN hB _).setCell (Nat.le_refl _) _).setCell (Nat.le_refl _) _).setCell (Nat.le_refl _) _).setCell (Nat.le_refl _) _⟩
  clear A3 A4 A5 A6 hB
  rintro W8 ⟨A3, A4, A5, A6, hB⟩
  have hR := Arr.row A6 [.int .u32 (q4.a.toNat : Int), .int .u32 (q5.a.toNat : Int), .int .u32 (q6.a.toNat : Int), .int .u32 (q7.a.toNat : Int), .int .u32 (q7.b.toNat : Int), .int .u32 (q4.b.toNat : Int), .int .u32 (q5.b.toNat : Int), .int .u32 (q6.b.toNat : Int), .int .u32 (q6.c.toNat : Int), .int .u32 (q7.c.toNat : Int), .int .u32 (q4.c.toNat : Int), .int .u32 (q5.c.toNat : Int), .int .u32 (q5.d.toNat : Int), .int .u32 (q6.d.toNat : Int), .int .u32 (q7.d.toNat : Int), .int .u32 (q4.d.toNat : Int)]
  have hBR := below_setRow hB (show w.heap.size ≤ w.heap.size + 1 + 1 + 1 by omega) #[.int .u32 (q4.a.toNat : Int), .int .u32 (q5.a.toNat : Int), .int .u32 (q6.a.toNat : Int), .int .u32 (q7.a.toNat : Int), .int .u32 (q7.b.toNat : Int), .int .u32 (q4.b.toNat : Int), .int .u32 (q5.b.toNat : Int), .int .u32 (q6.b.toNat : Int), .int .u32 (q6.c.toNat : Int), .int .u32 (q7.c.toNat : Int), .int .u32 (q4.c.toNat : Int), .int .u32 (q5.c.toNat : Int), .int .u32 (q5.d.toNat : Int), .int .u32 (q6.d.toNat : Int), .int .u32 (q7.d.toNat : Int), .int .u32 (q4.d.toNat : Int)]
  go_wp2_with (first | refine wpList_load_row (by rfl) 160 _ (by rfl) w.heap.size (by rfl) 160 #[.int .u32 (q4.a.toNat : Int), .int .u32 (q5.a.toNat : Int), .int .u32 (q6.a.toNat : Int), .int .u32 (q7.a.toNat : Int), .int .u32 (q7.b.toNat : Int), .int .u32 (q4.b.toNat : Int), .int .u32 (q5.b.toNat : Int), .int .u32 (q6.b.toNat : Int), .int .u32 (q6.c.toNat : Int), .int .u32 (q7.c.toNat : Int), .int .u32 (q4.c.toNat : Int), .int .u32 (q5.c.toNat : Int), .int .u32 (q5.d.toNat : Int), .int .u32 (q6.d.toNat : Int), .int .u32 (q7.d.toNat : Int), .int .u32 (q4.d.toNat : Int)] (0, 0) _ A3 Tryd.underlying160 (by rfl) hi ?_ | refine wpList_store_row (by rfl) 160 _ _ (by rfl) (w.heap.size + 1 + 1 + 1) #[.int .u32 (q4.a.toNat : Int), .int .u32 (q5.a.toNat : Int), .int .u32 (q6.a.toNat : Int), .int .u32 (q7.a.toNat : Int), .int .u32 (q7.b.toNat : Int), .int .u32 (q4.b.toNat : Int), .int .u32 (q5.b.toNat : Int), .int .u32 (q6.b.toNat : Int), .int .u32 (q6.c.toNat : Int), .int .u32 (q7.c.toNat : Int), .int .u32 (q4.c.toNat : Int), .int .u32 (q5.c.toNat : Int), .int .u32 (q5.d.toNat : Int), .int .u32 (q6.d.toNat : Int), .int .u32 (q7.d.toNat : Int), .int .u32 (q4.d.toNat : Int)] (by rfl) (by rfl) 160 _ A6 hi (by rfl) (one_all [q4.a, q5.a, q6.a, q7.a, q7.b, q4.b, q5.b, q6.b, q6.c, q7.c, q4.c, q5.c, q5.d, q6.d, q7.d, q4.d]) ?_)
  (try simp only [Exit.inBlock, Exit.then])
  refine bodyPost_ret (v := .agg #[.int .u32 (q4.a.toNat : Int), .int .u32 (q5.a.toNat : Int), .int .u32 (q6.a.toNat : Int), .int .u32 (q7.a.toNat : Int), .int .u32 (q7.b.toNat : Int), .int .u32 (q4.b.toNat : Int), .int .u32 (q5.b.toNat : Int), .int .u32 (q6.b.toNat : Int), .int .u32 (q6.c.toNat : Int), .int .u32 (q7.c.toNat : Int), .int .u32 (q4.c.toNat : Int), .int .u32 (q5.c.toNat : Int), .int .u32 (q5.d.toNat : Int), .int .u32 (q6.d.toNat : Int), .int .u32 (q7.d.toNat : Int), .int .u32 (q4.d.toNat : Int)]) ?r1 ?r2 ?r3
  case r1 => exact results_cell_row rfl _ _ (w.heap.size + 1 + 1 + 1) 160 #[.int .u32 (q4.a.toNat : Int), .int .u32 (q5.a.toNat : Int), .int .u32 (q6.a.toNat : Int), .int .u32 (q7.a.toNat : Int), .int .u32 (q7.b.toNat : Int), .int .u32 (q4.b.toNat : Int), .int .u32 (q5.b.toNat : Int), .int .u32 (q6.b.toNat : Int), .int .u32 (q6.c.toNat : Int), .int .u32 (q7.c.toNat : Int), .int .u32 (q4.c.toNat : Int), .int .u32 (q5.c.toNat : Int), .int .u32 (q5.d.toNat : Int), .int .u32 (q6.d.toNat : Int), .int .u32 (q7.d.toNat : Int), .int .u32 (q4.d.toNat : Int)] (0, 0) _ rfl hR Tryd.underlying160 rfl hi
  case r2 => rfl
  refine ⟨?_, hBR⟩
  rw [show stirL [w0, w1, w2, w3, w4, w5, w6, w7, w8, w9, w10, w11, w12, w13, w14, w15] ms [r0, r1, r2, r3, r4, r5, r6, r7, r8, r9, r10, r11, r12, r13, r14, r15] = [q4.a, q5.a, q6.a, q7.a, q7.b, q4.b, q5.b, q6.b, q6.c, q7.c, q4.c, q5.c, q5.d, q6.d, q7.d, q4.d] from ?_]
  · rfl
  · have s0 : stepQ [w0, w1, w2, w3, w4, w5, w6, w7, w8, w9, w10, w11, w12, w13, w14, w15] 0 4 8 12 (ms.getD r0 0) (ms.getD r1 0) = [q0.a, w1, w2, w3, q0.b, w5, w6, w7, q0.c, w9, w10, w11, q0.d, w13, w14, w15] := by
      rw [hq0.out, hx0.out, hx1.out]; rfl
    have s1 : stepQ [q0.a, w1, w2, w3, q0.b, w5, w6, w7, q0.c, w9, w10, w11, q0.d, w13, w14, w15] 1 5 9 13 (ms.getD r2 0) (ms.getD r3 0) = [q0.a, q1.a, w2, w3, q0.b, q1.b, w6, w7, q0.c, q1.c, w10, w11, q0.d, q1.d, w14, w15] := by
      rw [hq1.out, hx2.out, hx3.out]; rfl
    have s2 : stepQ [q0.a, q1.a, w2, w3, q0.b, q1.b, w6, w7, q0.c, q1.c, w10, w11, q0.d, q1.d, w14, w15] 2 6 10 14 (ms.getD r4 0) (ms.getD r5 0) = [q0.a, q1.a, q2.a, w3, q0.b, q1.b, q2.b, w7, q0.c, q1.c, q2.c, w11, q0.d, q1.d, q2.d, w15] := by
      rw [hq2.out, hx4.out, hx5.out]; rfl
    have s3 : stepQ [q0.a, q1.a, q2.a, w3, q0.b, q1.b, q2.b, w7, q0.c, q1.c, q2.c, w11, q0.d, q1.d, q2.d, w15] 3 7 11 15 (ms.getD r6 0) (ms.getD r7 0) = [q0.a, q1.a, q2.a, q3.a, q0.b, q1.b, q2.b, q3.b, q0.c, q1.c, q2.c, q3.c, q0.d, q1.d, q2.d, q3.d] := by
      rw [hq3.out, hx6.out, hx7.out]; rfl
    have s4 : stepQ [q0.a, q1.a, q2.a, q3.a, q0.b, q1.b, q2.b, q3.b, q0.c, q1.c, q2.c, q3.c, q0.d, q1.d, q2.d, q3.d] 0 5 10 15 (ms.getD r8 0) (ms.getD r9 0) = [q4.a, q1.a, q2.a, q3.a, q0.b, q4.b, q2.b, q3.b, q0.c, q1.c, q4.c, q3.c, q0.d, q1.d, q2.d, q4.d] := by
      rw [hq4.out, hx8.out, hx9.out]; rfl
    have s5 : stepQ [q4.a, q1.a, q2.a, q3.a, q0.b, q4.b, q2.b, q3.b, q0.c, q1.c, q4.c, q3.c, q0.d, q1.d, q2.d, q4.d] 1 6 11 12 (ms.getD r10 0) (ms.getD r11 0) = [q4.a, q5.a, q2.a, q3.a, q0.b, q4.b, q5.b, q3.b, q0.c, q1.c, q4.c, q5.c, q5.d, q1.d, q2.d, q4.d] := by
      rw [hq5.out, hx10.out, hx11.out]; rfl
    have s6 : stepQ [q4.a, q5.a, q2.a, q3.a, q0.b, q4.b, q5.b, q3.b, q0.c, q1.c, q4.c, q5.c, q5.d, q1.d, q2.d, q4.d] 2 7 8 13 (ms.getD r12 0) (ms.getD r13 0) = [q4.a, q5.a, q6.a, q3.a, q0.b, q4.b, q5.b, q6.b, q6.c, q1.c, q4.c, q5.c, q5.d, q6.d, q2.d, q4.d] := by
      rw [hq6.out, hx12.out, hx13.out]; rfl
    have s7 : stepQ [q4.a, q5.a, q6.a, q3.a, q0.b, q4.b, q5.b, q6.b, q6.c, q1.c, q4.c, q5.c, q5.d, q6.d, q2.d, q4.d] 3 4 9 14 (ms.getD r14 0) (ms.getD r15 0) = [q4.a, q5.a, q6.a, q7.a, q7.b, q4.b, q5.b, q6.b, q6.c, q7.c, q4.c, q5.c, q5.d, q6.d, q7.d, q4.d] := by
      rw [hq7.out, hx14.out, hx15.out]; rfl
    show stepQ (stepQ (stepQ (stepQ (stepQ (stepQ (stepQ (stepQ ([w0, w1, w2, w3, w4, w5, w6, w7, w8, w9, w10, w11, w12, w13, w14, w15]) 0 4 8 12 (ms.getD r0 0) (ms.getD r1 0)) 1 5 9 13 (ms.getD r2 0) (ms.getD r3 0)) 2 6 10 14 (ms.getD r4 0) (ms.getD r5 0)) 3 7 11 15 (ms.getD r6 0) (ms.getD r7 0)) 0 5 10 15 (ms.getD r8 0) (ms.getD r9 0)) 1 6 11 12 (ms.getD r10 0) (ms.getD r11 0)) 2 7 8 13 (ms.getD r12 0) (ms.getD r13 0)) 3 4 9 14 (ms.getD r14 0) (ms.getD r15 0) = _
    rw [s0, s1, s2, s3, s4, s5, s6, s7]

theorem stir_any (ws ms : List UInt32) (rs : List Nat) (w : World) (hw : ws.length = 16) (hm : ms.length = 16) (hr : rs.length = 16) (hlt : ∀ r ∈ rs, r < 16) :
    Calls Tryd.prog 116 #[.agg (ws.map wv).toArray, .agg (ms.map wv).toArray, .agg (rs.map rv).toArray] w fun e w' => e = .returned (.agg ((stirL ws ms rs).map wv).toArray) ∧ Below w.heap.size w w' := by
  match ws, hw, rs, hr, hlt with
  | [w0, w1, w2, w3, w4, w5, w6, w7, w8, w9, w10, w11, w12, w13, w14, w15], _, [r0, r1, r2, r3, r4, r5, r6, r7, r8, r9, r10, r11, r12, r13, r14, r15], _, hlt =>
    exact stir_walk w0 w1 w2 w3 w4 w5 w6 w7 w8 w9 w10 w11 w12 w13 w14 w15 ms r0 r1 r2 r3 r4 r5 r6 r7 r8 r9 r10 r11 r12 r13 r14 r15 w hm (hlt r0 (by simp)) (hlt r1 (by simp)) (hlt r2 (by simp)) (hlt r3 (by simp)) (hlt r4 (by simp)) (hlt r5 (by simp)) (hlt r6 (by simp)) (hlt r7 (by simp)) (hlt r8 (by simp)) (hlt r9 (by simp)) (hlt r10 (by simp)) (hlt r11 (by simp)) (hlt r12 (by simp)) (hlt r13 (by simp)) (hlt r14 (by simp)) (hlt r15 (by simp))

end Go.Proofs.YthhildeocedpiaaDoor.Mx

/- What mix.fold does: eight words turned by a block's words; nothing old in memory is turned. -/
namespace Go.Proofs.YthhildeocedpiaaDoor.Mx
open Go.RowKit Go.Sort
set_option linter.unusedVariables false

/-- The two tables, as the program's text lays them. -/
structure Glob (w : World) : Prop where
  first : w.rangeAt 0 0 (firstsL.map wv)
  rows : ∀ i, i < 10 → w.rangeAt 1 (i * 16) ((rowL i).map rv)

theorem Glob.below {w w' : World} (h : Glob w) (hb : Below w.heap.size w w') : Glob w' := ⟨range_below h.first hb, fun i hi => range_below (h.rows i hi) hb⟩

theorem range_of_below {w w' : World} {b o B : Nat} {cs : List Value} (h : w.rangeAt b o cs) (hb : Below B w w') (hB : b < B) : w'.rangeAt b o cs := fun j v hv => by
  rw [hb.cell (p := ⟨b, o + j, none⟩) hB]; exact h j v hv

theorem info8 : (Tryd.prog.info? 156).map (·.size) = some 8 := by kernel_rfl
theorem info16b : (Tryd.prog.info? 176).map (·.size) = some 16 := by kernel_rfl

theorem Glob.first_lt {w : World} (h : Glob w) : 0 < w.heap.size := by
  have := h.first 0 (wv 1779033703) rfl
  exact World.block_lt_of_cell? w _ this
theorem Glob.rows_lt {w : World} (h : Glob w) : 1 < w.heap.size := by
  have := h.rows 0 (by omega) 0 (rv 0) rfl
  exact World.block_lt_of_cell? w _ this

set_option maxRecDepth 100000 in
set_option maxHeartbeats 400000 in
theorem fold_false (h m : List UInt32) (t : UInt32) (w : World) (hh : h.length = 8) (hm : m.length = 16) (hG : Glob w) :
    Calls Tryd.prog 103 #[.agg (h.map wv).toArray, .agg (m.map wv).toArray, .int .u32 (t.toNat : Int), .bool false] w fun e w' => e = .returned (.agg ((foldL h m t false).map wv).toArray) ∧ Below w.heap.size w w' := by
  have hN0 := hG.first_lt
  have hN1 := hG.rows_lt
  have X := fold_xor
  have n1 : ¬ (w.heap.size + 1 + 1 + 1 = 0) := by omega
  have n2 : ¬ (w.heap.size + 1 + 1 + 1 = w.heap.size) := by omega
  have e0 : w.heap.size ≠ w.heap.size + 1 + 1 + 1 := by omega
  have e1 : w.heap.size + 1 ≠ w.heap.size + 1 + 1 + 1 := by omega
  have e2 : w.heap.size + 1 + 1 ≠ w.heap.size + 1 + 1 + 1 := by omega
  have e3 : w.heap.size + 1 + 1 ≠ w.heap.size := by omega
  have le3 : w.heap.size ≤ w.heap.size + 1 + 1 + 1 := by omega
  go_enter Tryd.func103, Tryd.ntmps103
  go_wp2
  go_loopw [13] (fun v13 wr => ∃ i : Nat, i ≤ 8 ∧ v13 = .int .i64 i ∧ Arr wr w.heap.size 156 (h.map wv) ∧ Arr wr (w.heap.size + 1) 160 (m.map wv) ∧ Arr wr (w.heap.size + 1 + 1) 156 (List.replicate 8 (.int .u32 0)) ∧ Arr wr (w.heap.size + 1 + 1 + 1) 160 (layCells h i) ∧ Below w.heap.size w wr) (fun v13 _ => 8 - (intOf v13).toNat)
  case atStart =>
    obtain ⟨h1, h2, h3, h4, h5⟩ := four_new w 156 160 156 160 (h.map wv) (m.map wv) (List.replicate 8 (.int .u32 0)) (List.replicate 16 (.int .u32 0)) _ rfl
    exact ⟨0, Nat.zero_le _, rfl, h1, h2, h3, h4, h5⟩
  case round =>
    obtain ⟨i, hi, rfl, hH, hM, hZ, hW, hB⟩ := hrel
    by_cases hlt : i < 8
    · have h1 : (i : Int) < 8 := by omega
      have h0 : (0 : Int) ≤ (i : Int) := by omega
      obtain ⟨x, hx⟩ : ∃ z, Hid (z = h.getD i 0) := ⟨_, rfl⟩
      obtain ⟨f, hf⟩ : ∃ z, Hid (z = firstsL.getD i 0) := ⟨_, rfl⟩
      have c1 : wr.cell? ⟨w.heap.size, i, none⟩ = some (.int .u32 (x.toNat : Int)) := by
        rw [hx.out]; exact hH.cell (getD_get h i (by omega))
      have c2 : wr.cell? ⟨0, i, none⟩ = some (.int .u32 (f.toNat : Int)) := by
        rw [hf.out, hB.cell (p := ⟨0, i, none⟩) hN0]
        have := hG.first i _ (getD_get firstsL i (by simp [firstsL]; omega))
        rwa [Nat.zero_add] at this
      have f1 := hW.frozen i
      have f2 := hW.frozen (i + 8)
      have d1 : (wr.cell? ⟨w.heap.size + 1 + 1 + 1, i, none⟩) = some (layCells h i)[i]! := hW.cell (by simp [layCells_len, show i < 16 by omega])
      have d2 : (wr.cell? ⟨w.heap.size + 1 + 1 + 1, i + 8, none⟩) = some (layCells h i)[i + 8]! := hW.cell (by simp [layCells_len, show i + 8 < 16 by omega])
      generalize (layCells h i)[i]! = y1 at d1
      generalize (layCells h i)[i + 8]! = y2 at d2
      go_wp2
      go_region
      go_wp2
      have hW' := ((hW.set i (wv x)).set (i + 8) (wv f)).drew
      rw [hx.out, hf.out, ← layCells_step h i hlt, ← hx.out, ← hf.out] at hW'
      exact ⟨⟨i + 1, by omega, by simp, ((hH.other e0 _).other e0 _).drew, ((hM.other e1 _).other e1 _).drew, ((hZ.other e2 _).other e2 _).drew, hW', ((hB.setCell le3 _).setCell le3 _).drew⟩, by simp [intOf]; omega⟩
    · obtain rfl : i = 8 := by omega
      rw [layCells_all h hh] at hW
      have hl16 : (h ++ firstsL).length = 16 := by simp [hh, firstsL]
      obtain ⟨x, hx⟩ : ∃ z, Hid (z = (h ++ firstsL).getD 12 0) := ⟨_, rfl⟩
      have c12 : wr.cell? ⟨w.heap.size + 1 + 1 + 1, 12, none⟩ = some (.int .u32 (x.toNat : Int)) := by
        rw [hx.out]; exact hW.cell (getD_get _ 12 (by omega))
      have f12 := hW.frozen 12
      have hS : Arr (wr.setCell ⟨w.heap.size + 1 + 1 + 1, 12, none⟩ (wv (wxor x t))) (w.heap.size + 1 + 1 + 1) 160 ((startL h t false).map wv) := by
        have := hW.set 12 (wv (wxor x t))
        rw [← List.map_set] at this
        have e : startL h t false = (h ++ firstsL).set 12 (wxor x t) := by
          rw [hx.out]; rfl
        rw [e]; exact this
      obtain ⟨s0, hs0⟩ : ∃ z, Hid (z = startL h t false) := ⟨_, rfl⟩
      have hsl : s0.length = 16 := by rw [hs0.out]; exact startL_len h t false hh
      rw [← hs0.out] at hS
      go_wp2
      go_loopw [38] (fun v38 wr => ∃ i : Nat, i ≤ 10 ∧ v38 = .int .i64 i ∧ Arr wr w.heap.size 156 (h.map wv) ∧ Arr wr (w.heap.size + 1) 160 (m.map wv) ∧ Arr wr (w.heap.size + 1 + 1) 156 (List.replicate 8 (.int .u32 0)) ∧ Arr wr (w.heap.size + 1 + 1 + 1) 160 ((rounds m s0 i).map wv) ∧ Below w.heap.size w wr) (fun v38 _ => 10 - (intOf v38).toNat)
      case atStart =>
        exact ⟨0, Nat.zero_le _, rfl, hH.other e0 _, hM.other e1 _, hZ.other e2 _, hS, hB.setCell le3 _⟩
      case round =>
        clear hS hH hM hZ hW hB c12 f12
        obtain ⟨i, hi, rfl, hH, hM, hZ, hW, hB⟩ := hrel
        by_cases hlt : i < 10
        · have h1 : (i : Int) < 10 := by omega
          have h0 : (0 : Int) ≤ (i : Int) := by omega
          go_wp2
          refine wp_region_head_below 6 0 (by kernel_rfl) (by kernel_rfl) (fun c a d v w h => by cases d <;> exact h) ?_
          simp only [List.take_succ_cons, List.take_zero, List.drop_succ_cons, List.drop_zero]
          refine wpQuiet_load (by rfl) 160 _ (by rfl) (w.heap.size + 1 + 1 + 1) 0 (by rfl) ((rounds m s0 i).map wv) _ (range_regrown hW.range) Tryd.underlying160 rfl (by rw [info16]; simp [rounds_len, hsl]) ?_
          refine wpQuiet_load (by rfl) 160 _ (by rfl) (w.heap.size + 1) 0 (by rfl) (m.map wv) _ (range_regrown hM.range) Tryd.underlying160 rfl (by rw [info16]; simp [hm]) ?_
          simp only [Act.put, List.setIfInBounds_toArray, List.set_cons_zero, List.set_cons_succ]
          iterate 2 (go_big_quiet_step (fail))
          refine wpQuiet_load (by rfl) 176 _ (by rfl) 1 (i * 16) (by rfl) ((rowL i).map rv) _ (range_regrown (range_of_below (hG.rows i hlt) hB hN1)) Tryd.underlying176 rfl (by rw [info16b]; simp [rowL_len i hlt]) ?_
          simp only [Act.put, List.setIfInBounds_toArray, List.set_cons_zero, List.set_cons_succ]
          go_big_quiet_step (exact Calls.regrown_of (stir_any (rounds m s0 i) m (rowL i) _ (by rw [rounds_len, hsl]) hm (rowL_len i hlt) (rowL_lt i hlt)))
          refine wpQuiet_nil ?_
          rintro w' ⟨p, rfl⟩
          have hb' := below_regrown wr p.d p.os
          have hH1 := hH.below hb' hH.lt
          have hM1 := hM.below hb' hM.lt
          have hZ1 := hZ.below hb' hZ.lt
          have hW1 := hW.below hb' hW.lt
          have hB1 := hB.trans (hb'.mono hB.size)
          generalize grow (redrawn wr p.d) p.os = w1 at hH1 hM1 hZ1 hW1 hB1
          refine wpList_store_row (by rfl) 160 _ _ (by rfl) (w.heap.size + 1 + 1 + 1) ((stirL (rounds m s0 i) m (rowL i)).map wv).toArray (by rfl) (by rfl) 160 _ hW1 (by rw [info16]; simp [stirL_len, rounds_len, hsl]) (by simp [stirL_len]) (one_all _) ?_
          have hW2 := hW1.row ((stirL (rounds m s0 i) m (rowL i)).map wv)
          have hH2 := hH1.rowOther e0 ((stirL (rounds m s0 i) m (rowL i)).map wv).toArray
          have hM2 := hM1.rowOther e1 ((stirL (rounds m s0 i) m (rowL i)).map wv).toArray
          have hZ2 := hZ1.rowOther e2 ((stirL (rounds m s0 i) m (rowL i)).map wv).toArray
          have hB2 := below_setRow hB1 le3 ((stirL (rounds m s0 i) m (rowL i)).map wv).toArray
          generalize w1.setRow _ _ = w2 at hW2 hH2 hM2 hZ2 hB2
          try simp only [Act.put]
          go_wp2
          go_roundw
          case rel => exact ⟨i + 1, by omega, by go_num, hH2, hM2, hZ2, hW2, hB2⟩
          case measure => simp [intOf]; omega
        · obtain rfl : i = 10 := by omega
          obtain ⟨s1, hs1⟩ : ∃ z, Hid (z = rounds m s0 10) := ⟨_, rfl⟩
          have hsl1 : s1.length = 16 := by rw [hs1.out, rounds_len]; exact hsl
          rw [← hs1.out] at hW
          go_wp2
          go_loopw [48] (fun v48 wr => ∃ i : Nat, i ≤ 8 ∧ v48 = .int .i64 i ∧ Arr wr w.heap.size 156 ((turnL h s1 i).map wv) ∧ Arr wr (w.heap.size + 1 + 1) 156 (List.replicate 8 (.int .u32 0)) ∧ Arr wr (w.heap.size + 1 + 1 + 1) 160 (s1.map wv) ∧ Below w.heap.size w wr) (fun v48 _ => 8 - (intOf v48).toNat)
          case atStart => exact ⟨0, Nat.zero_le _, rfl, by rw [turnL_zero h s1 hh]; exact hH, hZ, hW, hB⟩
          case round =>
            clear hH hM hZ hW hB
            obtain ⟨i, hi, rfl, hH, hZ, hW, hB⟩ := hrel
            by_cases hlt : i < 8
            · have h1 : (i : Int) < 8 := by omega
              have h0 : (0 : Int) ≤ (i : Int) := by omega
              obtain ⟨a, ha⟩ : ∃ z, Hid (z = h.getD i 0) := ⟨_, rfl⟩
              obtain ⟨b, hb⟩ : ∃ z, Hid (z = s1.getD i 0) := ⟨_, rfl⟩
              obtain ⟨c, hc⟩ : ∃ z, Hid (z = s1.getD (i + 8) 0) := ⟨_, rfl⟩
              have c1 : wr.cell? ⟨w.heap.size, i, none⟩ = some (.int .u32 (a.toNat : Int)) := by
                rw [ha.out]; exact hH.cell (by rw [List.getElem?_map, turnL_get h s1 i hlt]; rfl)
              have c2 : wr.cell? ⟨w.heap.size + 1 + 1 + 1, i, none⟩ = some (.int .u32 (b.toNat : Int)) := by
                rw [hb.out]; exact hW.cell (getD_get s1 i (by omega))
              have c3 : wr.cell? ⟨w.heap.size + 1 + 1 + 1, i + 8, none⟩ = some (.int .u32 (c.toNat : Int)) := by
                rw [hc.out]; exact hW.cell (getD_get s1 (i + 8) (by omega))
              have f1 := hH.frozen i
              go_wp2
              go_region
              go_wp2
              have hH' := (hH.set i (wv (wxor a (wxor b c)))).drew
              rw [← List.map_set, ha.out, hb.out, hc.out, ← turnL_step, ← ha.out, ← hb.out, ← hc.out] at hH'
              exact ⟨⟨i + 1, by omega, by simp, hH', (hZ.other e3 _).drew, (hW.other n2 _).drew, (hB.setCell (Nat.le_refl _) _).drew⟩, by simp [intOf]; omega⟩
            · obtain rfl : i = 8 := by omega
              rw [hs1.out, hs0.out, turnL_all] at hH
              have hi8 : (Tryd.prog.info? 156).map (·.size) = some (((foldL h m t false).map wv).toArray).size := by
                rw [info8]; simp [foldL_len]
              have hR := hZ.row ((foldL h m t false).map wv)
              have hBR := below_setRow hB (show w.heap.size ≤ w.heap.size + 1 + 1 by omega) ((foldL h m t false).map wv).toArray
              go_wp2_with (first | refine wpList_load_row (by rfl) 156 _ (by rfl) w.heap.size (by rfl) 156 _ (0, 0) _ hH Tryd.underlying156 (by rfl) hi8 ?_ | refine wpList_store_row (by rfl) 156 _ _ (by rfl) (w.heap.size + 1 + 1) ((foldL h m t false).map wv).toArray (by rfl) (by rfl) 156 _ hZ hi8 (by simp [foldL_len]) (one_all _) ?_)
              refine bodyPost_ret (v := .agg ((foldL h m t false).map wv).toArray) ?r1 ?r2 ?r3
              case r1 => exact results_cell_row rfl _ _ (w.heap.size + 1 + 1) 156 _ (0, 0) _ rfl hR Tryd.underlying156 rfl hi8
              case r2 => rfl
              exact ⟨rfl, hBR⟩

set_option maxRecDepth 100000 in
set_option maxHeartbeats 400000 in
theorem fold_true (h m : List UInt32) (t : UInt32) (w : World) (hh : h.length = 8) (hm : m.length = 16) (hG : Glob w) :
    Calls Tryd.prog 103 #[.agg (h.map wv).toArray, .agg (m.map wv).toArray, .int .u32 (t.toNat : Int), .bool true] w fun e w' => e = .returned (.agg ((foldL h m t true).map wv).toArray) ∧ Below w.heap.size w w' := by
  have hN0 := hG.first_lt
  have hN1 := hG.rows_lt
  have X := fold_xor
  have n1 : ¬ (w.heap.size + 1 + 1 + 1 = 0) := by omega
  have n2 : ¬ (w.heap.size + 1 + 1 + 1 = w.heap.size) := by omega
  have e0 : w.heap.size ≠ w.heap.size + 1 + 1 + 1 := by omega
  have e1 : w.heap.size + 1 ≠ w.heap.size + 1 + 1 + 1 := by omega
  have e2 : w.heap.size + 1 + 1 ≠ w.heap.size + 1 + 1 + 1 := by omega
  have e3 : w.heap.size + 1 + 1 ≠ w.heap.size := by omega
  have le3 : w.heap.size ≤ w.heap.size + 1 + 1 + 1 := by omega
  go_enter Tryd.func103, Tryd.ntmps103
  go_wp2
  go_loopw [13] (fun v13 wr => ∃ i : Nat, i ≤ 8 ∧ v13 = .int .i64 i ∧ Arr wr w.heap.size 156 (h.map wv) ∧ Arr wr (w.heap.size + 1) 160 (m.map wv) ∧ Arr wr (w.heap.size + 1 + 1) 156 (List.replicate 8 (.int .u32 0)) ∧ Arr wr (w.heap.size + 1 + 1 + 1) 160 (layCells h i) ∧ Below w.heap.size w wr) (fun v13 _ => 8 - (intOf v13).toNat)
  case atStart =>
    obtain ⟨h1, h2, h3, h4, h5⟩ := four_new w 156 160 156 160 (h.map wv) (m.map wv) (List.replicate 8 (.int .u32 0)) (List.replicate 16 (.int .u32 0)) _ rfl
    exact ⟨0, Nat.zero_le _, rfl, h1, h2, h3, h4, h5⟩
  case round =>
    obtain ⟨i, hi, rfl, hH, hM, hZ, hW, hB⟩ := hrel
    by_cases hlt : i < 8
    · have h1 : (i : Int) < 8 := by omega
      have h0 : (0 : Int) ≤ (i : Int) := by omega
      obtain ⟨x, hx⟩ : ∃ z, Hid (z = h.getD i 0) := ⟨_, rfl⟩
      obtain ⟨f, hf⟩ : ∃ z, Hid (z = firstsL.getD i 0) := ⟨_, rfl⟩
      have c1 : wr.cell? ⟨w.heap.size, i, none⟩ = some (.int .u32 (x.toNat : Int)) := by
        rw [hx.out]; exact hH.cell (getD_get h i (by omega))
      have c2 : wr.cell? ⟨0, i, none⟩ = some (.int .u32 (f.toNat : Int)) := by
        rw [hf.out, hB.cell (p := ⟨0, i, none⟩) hN0]
        have := hG.first i _ (getD_get firstsL i (by simp [firstsL]; omega))
        rwa [Nat.zero_add] at this
      have f1 := hW.frozen i
      have f2 := hW.frozen (i + 8)
      have d1 : (wr.cell? ⟨w.heap.size + 1 + 1 + 1, i, none⟩) = some (layCells h i)[i]! := hW.cell (by simp [layCells_len, show i < 16 by omega])
      have d2 : (wr.cell? ⟨w.heap.size + 1 + 1 + 1, i + 8, none⟩) = some (layCells h i)[i + 8]! := hW.cell (by simp [layCells_len, show i + 8 < 16 by omega])
      generalize (layCells h i)[i]! = y1 at d1
      generalize (layCells h i)[i + 8]! = y2 at d2
      go_wp2
      go_region
      go_wp2
      have hW' := ((hW.set i (wv x)).set (i + 8) (wv f)).drew
      rw [hx.out, hf.out, ← layCells_step h i hlt, ← hx.out, ← hf.out] at hW'
      exact ⟨⟨i + 1, by omega, by simp, ((hH.other e0 _).other e0 _).drew, ((hM.other e1 _).other e1 _).drew, ((hZ.other e2 _).other e2 _).drew, hW', ((hB.setCell le3 _).setCell le3 _).drew⟩, by simp [intOf]; omega⟩
    · obtain rfl : i = 8 := by omega
      rw [layCells_all h hh] at hW
      have hl16 : (h ++ firstsL).length = 16 := by simp [hh, firstsL]
      obtain ⟨x, hx⟩ : ∃ z, Hid (z = (h ++ firstsL).getD 12 0) := ⟨_, rfl⟩
      have c12 : wr.cell? ⟨w.heap.size + 1 + 1 + 1, 12, none⟩ = some (.int .u32 (x.toNat : Int)) := by
        rw [hx.out]; exact hW.cell (getD_get _ 12 (by omega))
      have f12 := hW.frozen 12
      obtain ⟨y, hy⟩ : ∃ z, Hid (z = (h ++ firstsL).getD 14 0) := ⟨_, rfl⟩
      have c14 : wr.cell? ⟨w.heap.size + 1 + 1 + 1, 14, none⟩ = some (.int .u32 (y.toNat : Int)) := by
        rw [hy.out]; exact hW.cell (getD_get _ 14 (by omega))
      have f14 := hW.frozen 14
      have hsg : IntKind.u32.signed = false := rfl
      have hmx : IntKind.u32.max = 4294967295 := rfl
      have hnot : bits BinOp.xor IntKind.u32 4294967295 (y.toNat : Int) = ((wxor y 4294967295).toNat : Int) := by
        have := fold_xor 4294967295 y
        rw [wxor_comm] at this
        exact this
      have hS : Arr ((wr.setCell ⟨w.heap.size + 1 + 1 + 1, 12, none⟩ (wv (wxor x t))).setCell ⟨w.heap.size + 1 + 1 + 1, 14, none⟩ (wv (wxor y 4294967295))) (w.heap.size + 1 + 1 + 1) 160 ((startL h t true).map wv) := by
        have := (hW.set 12 (wv (wxor x t))).set 14 (wv (wxor y 4294967295))
        rw [← List.map_set, ← List.map_set] at this
        have e : startL h t true = ((h ++ firstsL).set 12 (wxor x t)).set 14 (wxor y 4294967295) := by
          rw [hx.out, hy.out]
          match h, hh with
          | [_, _, _, _, _, _, _, _], _ => rfl
        rw [e]; exact this
      obtain ⟨s0, hs0⟩ : ∃ z, Hid (z = startL h t true) := ⟨_, rfl⟩
      have hsl : s0.length = 16 := by rw [hs0.out]; exact startL_len h t true hh
      rw [← hs0.out] at hS
      go_wp2
      go_loopw [38] (fun v38 wr => ∃ i : Nat, i ≤ 10 ∧ v38 = .int .i64 i ∧ Arr wr w.heap.size 156 (h.map wv) ∧ Arr wr (w.heap.size + 1) 160 (m.map wv) ∧ Arr wr (w.heap.size + 1 + 1) 156 (List.replicate 8 (.int .u32 0)) ∧ Arr wr (w.heap.size + 1 + 1 + 1) 160 ((rounds m s0 i).map wv) ∧ Below w.heap.size w wr) (fun v38 _ => 10 - (intOf v38).toNat)
      case atStart =>
        exact ⟨0, Nat.zero_le _, rfl, (hH.other e0 _).other e0 _, (hM.other e1 _).other e1 _, (hZ.other e2 _).other e2 _, hS, (hB.setCell le3 _).setCell le3 _⟩
      case round =>
        clear hS hH hM hZ hW hB c12 f12 c14 f14 hnot hy hsg hmx
        obtain ⟨i, hi, rfl, hH, hM, hZ, hW, hB⟩ := hrel
        by_cases hlt : i < 10
        · have h1 : (i : Int) < 10 := by omega
          have h0 : (0 : Int) ≤ (i : Int) := by omega
          go_wp2
          refine wp_region_head_below 6 0 (by kernel_rfl) (by kernel_rfl) (fun c a d v w h => by cases d <;> exact h) ?_
          simp only [List.take_succ_cons, List.take_zero, List.drop_succ_cons, List.drop_zero]
          refine wpQuiet_load (by rfl) 160 _ (by rfl) (w.heap.size + 1 + 1 + 1) 0 (by rfl) ((rounds m s0 i).map wv) _ (range_regrown hW.range) Tryd.underlying160 rfl (by rw [info16]; simp [rounds_len, hsl]) ?_
          refine wpQuiet_load (by rfl) 160 _ (by rfl) (w.heap.size + 1) 0 (by rfl) (m.map wv) _ (range_regrown hM.range) Tryd.underlying160 rfl (by rw [info16]; simp [hm]) ?_
          simp only [Act.put, List.setIfInBounds_toArray, List.set_cons_zero, List.set_cons_succ]
          iterate 2 (go_big_quiet_step (fail))
          refine wpQuiet_load (by rfl) 176 _ (by rfl) 1 (i * 16) (by rfl) ((rowL i).map rv) _ (range_regrown (range_of_below (hG.rows i hlt) hB hN1)) Tryd.underlying176 rfl (by rw [info16b]; simp [rowL_len i hlt]) ?_
          simp only [Act.put, List.setIfInBounds_toArray, List.set_cons_zero, List.set_cons_succ]
          go_big_quiet_step (exact Calls.regrown_of (stir_any (rounds m s0 i) m (rowL i) _ (by rw [rounds_len, hsl]) hm (rowL_len i hlt) (rowL_lt i hlt)))
          refine wpQuiet_nil ?_
          rintro w' ⟨p, rfl⟩
          have hb' := below_regrown wr p.d p.os
          have hH1 := hH.below hb' hH.lt
          have hM1 := hM.below hb' hM.lt
          have hZ1 := hZ.below hb' hZ.lt
          have hW1 := hW.below hb' hW.lt
          have hB1 := hB.trans (hb'.mono hB.size)
          generalize grow (redrawn wr p.d) p.os = w1 at hH1 hM1 hZ1 hW1 hB1
          refine wpList_store_row (by rfl) 160 _ _ (by rfl) (w.heap.size + 1 + 1 + 1) ((stirL (rounds m s0 i) m (rowL i)).map wv).toArray (by rfl) (by rfl) 160 _ hW1 (by rw [info16]; simp [stirL_len, rounds_len, hsl]) (by simp [stirL_len]) (one_all _) ?_
          have hW2 := hW1.row ((stirL (rounds m s0 i) m (rowL i)).map wv)
          have hH2 := hH1.rowOther e0 ((stirL (rounds m s0 i) m (rowL i)).map wv).toArray
          have hM2 := hM1.rowOther e1 ((stirL (rounds m s0 i) m (rowL i)).map wv).toArray
          have hZ2 := hZ1.rowOther e2 ((stirL (rounds m s0 i) m (rowL i)).map wv).toArray
          have hB2 := below_setRow hB1 le3 ((stirL (rounds m s0 i) m (rowL i)).map wv).toArray
          generalize w1.setRow _ _ = w2 at hW2 hH2 hM2 hZ2 hB2
          try simp only [Act.put]
          go_wp2
          go_roundw
          case rel => exact ⟨i + 1, by omega, by go_num, hH2, hM2, hZ2, hW2, hB2⟩
          case measure => simp [intOf]; omega
        · obtain rfl : i = 10 := by omega
          obtain ⟨s1, hs1⟩ : ∃ z, Hid (z = rounds m s0 10) := ⟨_, rfl⟩
          have hsl1 : s1.length = 16 := by rw [hs1.out, rounds_len]; exact hsl
          rw [← hs1.out] at hW
          go_wp2
          go_loopw [48] (fun v48 wr => ∃ i : Nat, i ≤ 8 ∧ v48 = .int .i64 i ∧ Arr wr w.heap.size 156 ((turnL h s1 i).map wv) ∧ Arr wr (w.heap.size + 1 + 1) 156 (List.replicate 8 (.int .u32 0)) ∧ Arr wr (w.heap.size + 1 + 1 + 1) 160 (s1.map wv) ∧ Below w.heap.size w wr) (fun v48 _ => 8 - (intOf v48).toNat)
          case atStart => exact ⟨0, Nat.zero_le _, rfl, by rw [turnL_zero h s1 hh]; exact hH, hZ, hW, hB⟩
          case round =>
            clear hH hM hZ hW hB
            obtain ⟨i, hi, rfl, hH, hZ, hW, hB⟩ := hrel
            by_cases hlt : i < 8
            · have h1 : (i : Int) < 8 := by omega
              have h0 : (0 : Int) ≤ (i : Int) := by omega
              obtain ⟨a, ha⟩ : ∃ z, Hid (z = h.getD i 0) := ⟨_, rfl⟩
              obtain ⟨b, hb⟩ : ∃ z, Hid (z = s1.getD i 0) := ⟨_, rfl⟩
              obtain ⟨c, hc⟩ : ∃ z, Hid (z = s1.getD (i + 8) 0) := ⟨_, rfl⟩
              have c1 : wr.cell? ⟨w.heap.size, i, none⟩ = some (.int .u32 (a.toNat : Int)) := by
                rw [ha.out]; exact hH.cell (by rw [List.getElem?_map, turnL_get h s1 i hlt]; rfl)
              have c2 : wr.cell? ⟨w.heap.size + 1 + 1 + 1, i, none⟩ = some (.int .u32 (b.toNat : Int)) := by
                rw [hb.out]; exact hW.cell (getD_get s1 i (by omega))
              have c3 : wr.cell? ⟨w.heap.size + 1 + 1 + 1, i + 8, none⟩ = some (.int .u32 (c.toNat : Int)) := by
                rw [hc.out]; exact hW.cell (getD_get s1 (i + 8) (by omega))
              have f1 := hH.frozen i
              go_wp2
              go_region
              go_wp2
              have hH' := (hH.set i (wv (wxor a (wxor b c)))).drew
              rw [← List.map_set, ha.out, hb.out, hc.out, ← turnL_step, ← ha.out, ← hb.out, ← hc.out] at hH'
              exact ⟨⟨i + 1, by omega, by simp, hH', (hZ.other e3 _).drew, (hW.other n2 _).drew, (hB.setCell (Nat.le_refl _) _).drew⟩, by simp [intOf]; omega⟩
            · obtain rfl : i = 8 := by omega
              rw [hs1.out, hs0.out, turnL_all] at hH
              have hi8 : (Tryd.prog.info? 156).map (·.size) = some (((foldL h m t true).map wv).toArray).size := by
                rw [info8]; simp [foldL_len]
              have hR := hZ.row ((foldL h m t true).map wv)
              have hBR := below_setRow hB (show w.heap.size ≤ w.heap.size + 1 + 1 by omega) ((foldL h m t true).map wv).toArray
              go_wp2_with (first | refine wpList_load_row (by rfl) 156 _ (by rfl) w.heap.size (by rfl) 156 _ (0, 0) _ hH Tryd.underlying156 (by rfl) hi8 ?_ | refine wpList_store_row (by rfl) 156 _ _ (by rfl) (w.heap.size + 1 + 1) ((foldL h m t true).map wv).toArray (by rfl) (by rfl) 156 _ hZ hi8 (by simp [foldL_len]) (one_all _) ?_)
              refine bodyPost_ret (v := .agg ((foldL h m t true).map wv).toArray) ?r1 ?r2 ?r3
              case r1 => exact results_cell_row rfl _ _ (w.heap.size + 1 + 1) 156 _ (0, 0) _ rfl hR Tryd.underlying156 rfl hi8
              case r2 => rfl
              exact ⟨rfl, hBR⟩

theorem fold_any (h m : List UInt32) (t : UInt32) (last : Bool) (w : World) (hh : h.length = 8) (hm : m.length = 16) (hG : Glob w) :
    Calls Tryd.prog 103 #[.agg (h.map wv).toArray, .agg (m.map wv).toArray, .int .u32 (t.toNat : Int), .bool last] w fun e w' => e = .returned (.agg ((foldL h m t last).map wv).toArray) ∧ Below w.heap.size w w' := by
  cases last
  · exact fold_false h m t w hh hm hG
  · exact fold_true h m t w hh hm hG
end Go.Proofs.YthhildeocedpiaaDoor.Mx

/- The digest of a text, block by block, as a plain function of lists. -/
namespace Go.Proofs.YthhildeocedpiaaDoor.Mx

/-- What becomes of h by the bytes bs, n bytes being ahead of them; f bounds how many blocks there are. -/
def digF : Nat → List UInt32 → List UInt8 → Nat → List UInt32
  | 0, h, bs, n => foldL h (wordsL bs) (UInt32.ofNat (n + bs.length)) true
  | f + 1, h, bs, n => if bs.length ≤ 64 then foldL h (wordsL bs) (UInt32.ofNat (n + bs.length)) true
      else digF f (foldL h (wordsL (bs.take 64)) (UInt32.ofNat (n + 64)) false) (bs.drop 64) (n + 64)

theorem digF_more : ∀ (f : Nat) (h : List UInt32) (bs : List UInt8) (n : Nat), bs.length ≤ 64 * (f + 1) → digF (f + 1) h bs n = digF f h bs n
  | 0, h, bs, n, hb => by
    unfold digF
    rw [if_pos (by omega)]
  | f + 1, h, bs, n, hb => by
    rw [digF]
    conv => rhs; rw [digF]
    split
    · rfl
    · exact digF_more f _ _ _ (by simp; omega)

/-- The digest of the bytes bs, n ahead of them. -/
def dig (h : List UInt32) (bs : List UInt8) (n : Nat) : List UInt32 := digF bs.length h bs n

theorem digF_ge (h : List UInt32) (bs : List UInt8) (n : Nat) : ∀ (d f : Nat), bs.length ≤ 64 * (f + 1) → digF (f + d) h bs n = digF f h bs n
  | 0, f, _ => rfl
  | d + 1, f, hb => by rw [← Nat.add_assoc, digF_more _ _ _ _ (by omega), digF_ge h bs n d f hb]

theorem dig_eq (h : List UInt32) (bs : List UInt8) (n f : Nat) (hf : bs.length ≤ 64 * (f + 1)) : digF f h bs n = dig h bs n := by
  unfold dig
  rcases Nat.le_total f bs.length with hle | hle
  · have := digF_ge h bs n (bs.length - f) f hf
    rw [show f + (bs.length - f) = bs.length by omega] at this
    exact this.symm
  · have := digF_ge h bs n (f - bs.length) bs.length (by omega)
    rw [show bs.length + (f - bs.length) = f by omega] at this
    exact this

theorem dig_last (h : List UInt32) (bs : List UInt8) (n : Nat) (hb : bs.length ≤ 64) : dig h bs n = foldL h (wordsL bs) (UInt32.ofNat (n + bs.length)) true := by
  rw [← dig_eq h bs n 0 (by omega)]
  rfl

theorem dig_more (h : List UInt32) (bs : List UInt8) (n : Nat) (hb : 64 < bs.length) : dig h bs n = dig (foldL h (wordsL (bs.take 64)) (UInt32.ofNat (n + 64)) false) (bs.drop 64) (n + 64) := by
  rw [← dig_eq h bs n (bs.length + 1) (by omega)]
  rw [digF, if_neg (by omega)]
  exact dig_eq _ _ _ _ (by simp; omega)

/-- What is to come behind a block. -/
def restL (h : List UInt32) (blk rest : List UInt8) (en : Nat) : List UInt32 :=
  if rest = [] then foldL h (wordsL blk) (UInt32.ofNat en) true else dig (foldL h (wordsL blk) (UInt32.ofNat en) false) rest en

theorem dig_cut (h : List UInt32) (bs : List UInt8) (n : Nat) : dig h bs n = restL h (bs.take 64) (bs.drop 64) (n + (bs.take 64).length) := by
  unfold restL
  by_cases hb : bs.length ≤ 64
  · rw [if_pos (List.drop_eq_nil_of_le hb), dig_last h bs n hb, List.take_of_length_le hb]
  · rw [if_neg (by intro e; have := congrArg List.length e; simp at this; omega), dig_more h bs n (by omega), show (bs.take 64).length = 64 by simp; omega]

theorem restL_next (h : List UInt32) (blk rest : List UInt8) (en : Nat) (hr : rest ≠ []) :
    restL h blk rest en = restL (foldL h (wordsL blk) (UInt32.ofNat en) false) (rest.take 64) (rest.drop 64) (en + (rest.take 64).length) := by
  rw [← dig_cut]
  unfold restL
  rw [if_neg hr]

theorem restL_end (h : List UInt32) (blk : List UInt8) (en : Nat) : restL h blk [] en = foldL h (wordsL blk) (UInt32.ofNat en) true := by simp [restL]

theorem dig_key (h : List UInt32) (key s : List UInt8) (hk : key.length ≤ 64) : dig h (key ++ List.replicate (64 - key.length) 0 ++ s) 0 = restL h key s 64 := by
  have hl : (key ++ List.replicate (64 - key.length) (0 : UInt8)).length = 64 := by simp; omega
  rw [dig_cut, List.take_append_of_le_length (by omega), List.take_of_length_le (by omega), List.drop_append_of_le_length (by omega), List.drop_eq_nil_of_le (by omega), hl]
  unfold restL
  rw [wordsL_zeros]
  rfl

/-- The words ahead of all blocks, under a key of k bytes. -/
def seedL (k : Nat) : List UInt32 := firstsL.set 0 (wxor (firstsL.getD 0 0) (wxor 16842784 (UInt32.ofNat (256 * k))))

theorem seedL_len (k : Nat) : (seedL k).length = 8 := rfl

/-- The bytes of a digest. -/
def digestL (bs : List UInt8) (k : Nat) : List UInt8 := textL (dig (seedL k) bs 0)

theorem digestL_len (bs : List UInt8) (k : Nat) : (digestL bs k).length = 32 := by simp [digestL, textL]

def sumL (s : List UInt8) : List UInt8 := digestL s 0

/-- Under a key of at most thirty-two bytes. -/
def keyedS (key s : List UInt8) : List UInt8 := if key = [] then sumL s else digestL (key ++ List.replicate (64 - key.length) 0 ++ s) key.length

def keyedL (key s : List UInt8) : List UInt8 := keyedS (if key.length > 32 then sumL key else key) s

theorem keyedL_nil (s : List UInt8) : keyedL [] s = sumL s := rfl
theorem keyedS_len (key s : List UInt8) : (keyedS key s).length = 32 := by
  unfold keyedS
  split
  · exact digestL_len _ _
  · exact digestL_len _ _
theorem keyedL_len (key s : List UInt8) : (keyedL key s).length = 32 := keyedS_len _ _
end Go.Proofs.YthhildeocedpiaaDoor.Mx

/- What mix.digest does: the digest of a text under a key of at most thirty-two bytes; nothing old in memory is turned. -/
namespace Go.Proofs.YthhildeocedpiaaDoor.Mx
open Go.RowKit Go.Sort
set_option linter.unusedVariables false

theorem cut_list (s : ByteArray) : (s.extract 0 (min s.size 64)).data.toList = s.data.toList.take 64 ∧ (s.extract (min s.size 64) s.size).data.toList = s.data.toList.drop 64 := by
  have hs : s.data.toList.length = s.size := by simp
  constructor
  · simp only [ByteArray.data_extract, Array.toList_extract, List.extract_eq_take_drop, List.drop_zero, Nat.sub_zero]
    rcases Nat.le_total s.size 64 with h | h
    · rw [Nat.min_eq_left h, List.take_of_length_le (by omega), List.take_of_length_le (by omega)]
    · rw [Nat.min_eq_right h]
  · simp only [ByteArray.data_extract, Array.toList_extract, List.extract_eq_take_drop]
    rcases Nat.le_total s.size 64 with h | h
    · rw [Nat.min_eq_left h, List.drop_eq_nil_of_le (by omega), List.drop_eq_nil_of_le (by omega)]; simp
    · rw [Nat.min_eq_right h, List.take_of_length_le (by simp)]

theorem Glob.below2 {w w' : World} (h : Glob w) (hb : Below w.heap.size w w') : Glob w' := h.below hb

def strSize : Value → Nat
  | .string s => s.size
  | _ => 0

set_option maxRecDepth 100000 in
set_option maxHeartbeats 400000 in
theorem digest_any (key s : ByteArray) (w : World) (hk : key.size ≤ 32) (hs : s.size ≤ 140737488351232) (hG : Glob w) :
    Calls Tryd.prog 85 #[.string key, .string s] w fun e w' => e = .returned (.string ⟨(keyedS key.data.toList s.data.toList).toArray⟩) ∧ Below w.heap.size w w' := by
  have hA0 := (Arr.new w 156 [.int .u32 0, .int .u32 0, .int .u32 0, .int .u32 0, .int .u32 0, .int .u32 0, .int .u32 0, .int .u32 0])
  have hA1 := hA0.row (firstsL.map wv)
  have hB1 := below_setRow ((Below.refl w.heap.size w).alloc (Nat.le_refl _) (.cells #[.int .u32 0, .int .u32 0, .int .u32 0, .int .u32 0, .int .u32 0, .int .u32 0, .int .u32 0, .int .u32 0] 156)) (Nat.le_refl _) (firstsL.map wv).toArray
  have c0 := hA1.cell (i := 0) (v := .int .u32 1779033703) rfl
  have f0 := hA1.frozen 0
  have hi8 : (Tryd.prog.info? 156).map (·.size) = some (firstsL.map wv).length := info8
  have hi8' : (Tryd.prog.info? 156).map (·.size) = some (firstsL.map wv).toArray.size := info8
  go_enter Tryd.func85, Tryd.ntmps85
  go_wp2_with (first | refine wpList_load_mid (by rfl) 156 _ (by rfl) 0 0 (by rfl) (firstsL.map wv) _ hG.first Tryd.underlying156 (by rfl) hi8 ?_ | refine wpList_store_row (by rfl) 156 _ _ (by rfl) w.heap.size (firstsL.map wv).toArray (by rfl) (by rfl) 156 _ hA0 hi8' (by rfl) (one_all _) ?_)
  have hpar : bits BinOp.xor IntKind.u32 1779033703 (bits BinOp.xor IntKind.u32 16842784 ((key.size : Int) * 256)) = (((seedL key.size).getD 0 0).toNat : Int) := by
    have e1 : ((key.size : Int) * 256) = ((UInt32.ofNat (256 * key.size)).toNat : Int) := by
      rw [UInt32.toNat_ofNat']; omega
    rw [e1]
    have h1 := fold_xor 16842784 (UInt32.ofNat (256 * key.size))
    have h2 := fold_xor 1779033703 (wxor 16842784 (UInt32.ofNat (256 * key.size)))
    rw [show ((16842784 : UInt32).toNat : Int) = 16842784 from rfl] at h1
    rw [show ((1779033703 : UInt32).toNat : Int) = 1779033703 from rfl] at h2
    rw [h1, h2]
    rfl
  rw [hpar]
  have hA2 := hA1.set 0 (.int .u32 (((seedL key.size).getD 0 0).toNat : Int))
  rw [show (firstsL.map wv).set 0 (.int .u32 (((seedL key.size).getD 0 0).toNat : Int)) = (seedL key.size).map wv from rfl] at hA2
  have hB2 := hB1.setCell (p := ⟨w.heap.size, 0, none⟩) (Nat.le_refl _) (.int .u32 (((seedL key.size).getD 0 0).toNat : Int))
  generalize (((w.alloc (.cells #[.int .u32 0, .int .u32 0, .int .u32 0, .int .u32 0, .int .u32 0, .int .u32 0, .int .u32 0, .int .u32 0] 156)).setRow w.heap.size (firstsL.map wv).toArray).setCell ⟨w.heap.size, 0, none⟩ (.int .u32 (((seedL key.size).getD 0 0).toNat : Int))) = W at hA2 hB2 ⊢
  clear hA0 hA1 hB1 c0 f0 hpar
  refine (cut_any s W).mono ?_
  rintro e w' ⟨rfl, m0, rfl⟩
  have hA3 := hA2.drewN m0
  have hB3 := below_drewN hB2 m0
  obtain ⟨hcl, hcr⟩ := cut_list s
  have hsz1 : (s.extract 0 (min s.size 64)).size = (s.data.toList.take 64).length := by rw [← hcl]; simp
  have hsz2 : (s.extract (min s.size 64) s.size).size = (s.data.toList.drop 64).length := by rw [← hcr]; simp
  generalize s.extract 0 (min s.size 64) = b1 at hcl hsz1 ⊢
  generalize s.extract (min s.size 64) s.size = b2 at hcr hsz2 ⊢
  generalize W.drewN m0 = W1 at hA3 hB3 ⊢
  by_cases hke : key = ⟨#[]⟩
  · subst hke
    obtain ⟨tgt, htg⟩ : ∃ z, Hid (z = dig (seedL 0) s.data.toList 0) := ⟨_, rfl⟩
    have htgt : Hid (keyedS [] s.data.toList = textL tgt) := by
      show _ = _
      rw [htg.out]; rfl
    have hst : Hid (tgt = restL (seedL 0) b1.data.toList b2.data.toList (min 64 s.size)) := by
      show _ = _
      rw [htg.out, dig_cut, hcl, hcr]
      congr 1
      simp
    have hb64 : b1.size ≤ 64 := by rw [hsz1]; simp; omega
    have hbb : min 64 s.size + b2.size ≤ 140737488351232 + 64 := by rw [hsz2]; simp; omega
    go_wp2
    go_loopw [6, 7, 8] (fun v6 v7 v8 wr => ∃ (h : List UInt32) (blk rest : ByteArray) (en : Nat), v6 = .string blk ∧ v7 = .string rest ∧ v8 = .int .i64 en ∧ blk.size ≤ 64 ∧ en + rest.size ≤ 140737488351232 + 64 ∧ h.length = 8 ∧ Arr wr w.heap.size 156 (h.map wv) ∧ Below w.heap.size w wr ∧ Hid (tgt = restL h blk.data.toList rest.data.toList en)) (fun _ v7 _ _ => strSize v7)
    case atStart =>
      exact ⟨seedL 0, b1, b2, min 64 s.size, rfl, rfl, rfl, hb64, hbb, rfl, hA3, hB3, hst⟩
    case round =>
      clear hA2 hB2 hA3 hB3
      obtain ⟨h, blk, rest, en, rfl, rfl, rfl, hblk, hen, hh, hA, hB, ht⟩ := hrel
      obtain ⟨t, htt⟩ : ∃ z, Hid (z = UInt32.ofNat en) := ⟨_, rfl⟩
      have hte : (en : Int) % 4294967296 = (t.toNat : Int) := by rw [htt.out, UInt32.toNat_ofNat']; omega
      have hG' : ∀ p : Regrown, Glob (grow (redrawn wr p.d) p.os) := fun p => (Glob.below2 hG hB).below (below_regrown wr p.d p.os)
      have hi8 : (Tryd.prog.info? 156).map (·.size) = some (h.map wv).length := by rw [info8]; simp [hh]
      by_cases hr : rest.data.toList = []
      · have hre : rest.toList.isEmpty = true := by rw [ByteArray.toList_eq, hr]; rfl
        go_wp2
        refine wp_region_quiet_below (by kernel_rfl) (by kernel_rfl) ?_
        refine wpQuiet_load (by rfl) 156 _ (by rfl) w.heap.size 0 (by rfl) (h.map wv) _ (range_regrown hA.range) Tryd.underlying156 rfl hi8 ?_
        simp only [Act.put, List.setIfInBounds_toArray, List.set_cons_zero, List.set_cons_succ]
        go_big_quiet_step (fail)
        go_big_quiet_step (exact Calls.regrown_of (numbers_any blk _ hblk))
        iterate 2 (go_big_quiet_step (fail))
        go_big_quiet_step (exact Calls.regrown_of (fold_any h (wordsL blk.data.toList) t true _ hh (wordsL_len _) (hG' _)))
        go_big_quiet_step (exact Calls.regrown_of (text_any (foldL h (wordsL blk.data.toList) t true) _ (foldL_len _ _ _ _)))
        go_big_quiet_step (fail)
        refine wpQuiet_nil ?_
        rintro w' ⟨p, rfl⟩
        have hb' := below_regrown wr p.d p.os
        have hB1 := hB.trans (hb'.mono hB.size)
        generalize grow (redrawn wr p.d) p.os = w1 at hB1 ⊢
        go_wp2
        go_ret
        refine ⟨?_, hB1⟩
        rw [htgt.out, ht.out, hr, restL_end, htt.out]
        rfl
      · have hre : rest.toList.isEmpty = false := by
          rw [ByteArray.toList_eq]
          cases hl : rest.data.toList with
          | nil => exact absurd hl hr
          | cons _ _ => rfl
        go_wp2
        refine wp_region_head_below 6 0 (by kernel_rfl) (by kernel_rfl) (fun c a d v w h => by cases d <;> exact h) ?_
        simp only [List.take_succ_cons, List.take_zero, List.drop_succ_cons, List.drop_zero]
        refine wpQuiet_load (by rfl) 156 _ (by rfl) w.heap.size 0 (by rfl) (h.map wv) _ (range_regrown hA.range) Tryd.underlying156 rfl hi8 ?_
        simp only [Act.put, List.setIfInBounds_toArray, List.set_cons_zero, List.set_cons_succ]
        go_big_quiet_step (fail)
        go_big_quiet_step (exact Calls.regrown_of (numbers_any blk _ hblk))
        iterate 2 (go_big_quiet_step (fail))
        go_big_quiet_step (exact Calls.regrown_of (fold_any h (wordsL blk.data.toList) t false _ hh (wordsL_len _) (hG' _)))
        refine wpQuiet_nil ?_
        rintro w' ⟨p, rfl⟩
        have hb' := below_regrown wr p.d p.os
        have hA1 := hA.below hb' hA.lt
        have hB1 := hB.trans (hb'.mono hB.size)
        generalize grow (redrawn wr p.d) p.os = w1 at hA1 hB1 ⊢
        refine wpList_store_row (by rfl) 156 _ _ (by rfl) w.heap.size ((foldL h (wordsL blk.data.toList) t false).map wv).toArray (by rfl) (by rfl) 156 _ hA1 (by rw [info8]; simp [foldL_len]) (by simp [foldL_len, hh]) (one_all _) ?_
        have hA2 := hA1.row ((foldL h (wordsL blk.data.toList) t false).map wv)
        have hB2 := below_setRow hB1 (Nat.le_refl _) ((foldL h (wordsL blk.data.toList) t false).map wv).toArray
        generalize w1.setRow _ _ = w2 at hA2 hB2 ⊢
        try simp only [Act.put]
        go_wp2_with fail
        refine (cut_any rest w2).mono ?_
        rintro e w' ⟨rfl, m1, rfl⟩
        have hA4 := hA2.drewN m1
        have hB4 := below_drewN hB2 m1
        obtain ⟨hcl, hcr⟩ := cut_list rest
        have hsz1 : (rest.extract 0 (min rest.size 64)).size = (rest.data.toList.take 64).length := by rw [← hcl]; simp
        have hsz2 : (rest.extract (min rest.size 64) rest.size).size = (rest.data.toList.drop 64).length := by rw [← hcr]; simp
        generalize rest.extract 0 (min rest.size 64) = b1' at hcl hsz1 ⊢
        generalize rest.extract (min rest.size 64) rest.size = b2' at hcr hsz2 ⊢
        generalize w2.drewN m1 = w3 at hA4 hB4 ⊢
        have hrs : rest.data.toList.length = rest.size := by simp
        have hrp : 0 < rest.size := by
          rw [← hrs]
          exact List.length_pos_iff.2 hr
        have hz1 : b1'.size ≤ 64 := by rw [hsz1]; simp; omega
        have hz2 : b1'.size + b2'.size = rest.size := by rw [hsz1, hsz2]; simp; omega
        have hz3 : b2'.size < rest.size := by rw [hsz2]; simp; omega
        have hnx : Hid (tgt = restL (foldL h (wordsL blk.data.toList) t false) b1'.data.toList b2'.data.toList (en + b1'.size)) := by
          show _ = _
          rw [ht.out, restL_next _ _ _ _ hr, hcl, hcr, hsz1, htt.out]
        clear hsz1 hsz2
        go_wp2
        go_roundw
        case rel => exact ⟨_, b1', b2', en + b1'.size, rfl, rfl, by go_num, hz1, by omega, foldL_len _ _ _ _, hA4, hB4, hnx⟩
        case measure => simp [strSize]; omega
  · have hkl : key.data.toList ≠ [] := fun e => hke (by
      cases key with
      | mk d => simp only at e; rw [show d = #[] from by cases d; simp_all])
    have hkb : key.toList.isEmpty = false := by
      rw [ByteArray.toList_eq]
      cases hl : key.data.toList with
      | nil => exact absurd hl hkl
      | cons _ _ => rfl
    have hks : key.data.toList.length = key.size := by simp
    obtain ⟨tgt, htg⟩ : ∃ z, Hid (z = restL (seedL key.size) key.data.toList s.data.toList 64) := ⟨_, rfl⟩
    have htgt : Hid (keyedS key.data.toList s.data.toList = textL tgt) := by
      show _ = _
      unfold keyedS digestL
      rw [if_neg hkl, hks, htg.out, ← dig_key _ _ _ (by omega), hks]
    go_wp2
    go_loopw [6, 7, 8] (fun v6 v7 v8 wr => ∃ (h : List UInt32) (blk rest : ByteArray) (en : Nat), v6 = .string blk ∧ v7 = .string rest ∧ v8 = .int .i64 en ∧ blk.size ≤ 64 ∧ en + rest.size ≤ 140737488351232 + 64 ∧ h.length = 8 ∧ Arr wr w.heap.size 156 (h.map wv) ∧ Below w.heap.size w wr ∧ Hid (tgt = restL h blk.data.toList rest.data.toList en)) (fun _ v7 _ _ => strSize v7)
    case atStart =>
      exact ⟨seedL key.size, key, s, 64, rfl, rfl, rfl, by omega, by omega, rfl, hA3, hB3, htg⟩
    case round =>
      clear hA2 hB2 hA3 hB3
      obtain ⟨h, blk, rest, en, rfl, rfl, rfl, hblk, hen, hh, hA, hB, ht⟩ := hrel
      obtain ⟨t, htt⟩ : ∃ z, Hid (z = UInt32.ofNat en) := ⟨_, rfl⟩
      have hte : (en : Int) % 4294967296 = (t.toNat : Int) := by rw [htt.out, UInt32.toNat_ofNat']; omega
      have hG' : ∀ p : Regrown, Glob (grow (redrawn wr p.d) p.os) := fun p => (Glob.below2 hG hB).below (below_regrown wr p.d p.os)
      have hi8 : (Tryd.prog.info? 156).map (·.size) = some (h.map wv).length := by rw [info8]; simp [hh]
      by_cases hr : rest.data.toList = []
      · have hre : rest.toList.isEmpty = true := by rw [ByteArray.toList_eq, hr]; rfl
        go_wp2
        refine wp_region_quiet_below (by kernel_rfl) (by kernel_rfl) ?_
        refine wpQuiet_load (by rfl) 156 _ (by rfl) w.heap.size 0 (by rfl) (h.map wv) _ (range_regrown hA.range) Tryd.underlying156 rfl hi8 ?_
        simp only [Act.put, List.setIfInBounds_toArray, List.set_cons_zero, List.set_cons_succ]
        go_big_quiet_step (fail)
        go_big_quiet_step (exact Calls.regrown_of (numbers_any blk _ hblk))
        iterate 2 (go_big_quiet_step (fail))
        go_big_quiet_step (exact Calls.regrown_of (fold_any h (wordsL blk.data.toList) t true _ hh (wordsL_len _) (hG' _)))
        go_big_quiet_step (exact Calls.regrown_of (text_any (foldL h (wordsL blk.data.toList) t true) _ (foldL_len _ _ _ _)))
        go_big_quiet_step (fail)
        refine wpQuiet_nil ?_
        rintro w' ⟨p, rfl⟩
        have hb' := below_regrown wr p.d p.os
        have hB1 := hB.trans (hb'.mono hB.size)
        generalize grow (redrawn wr p.d) p.os = w1 at hB1 ⊢
        go_wp2
        go_ret
        refine ⟨?_, hB1⟩
        rw [htgt.out, ht.out, hr, restL_end, htt.out]
        rfl
      · have hre : rest.toList.isEmpty = false := by
          rw [ByteArray.toList_eq]
          cases hl : rest.data.toList with
          | nil => exact absurd hl hr
          | cons _ _ => rfl
        go_wp2
        refine wp_region_head_below 6 0 (by kernel_rfl) (by kernel_rfl) (fun c a d v w h => by cases d <;> exact h) ?_
        simp only [List.take_succ_cons, List.take_zero, List.drop_succ_cons, List.drop_zero]
        refine wpQuiet_load (by rfl) 156 _ (by rfl) w.heap.size 0 (by rfl) (h.map wv) _ (range_regrown hA.range) Tryd.underlying156 rfl hi8 ?_
        simp only [Act.put, List.setIfInBounds_toArray, List.set_cons_zero, List.set_cons_succ]
        go_big_quiet_step (fail)
        go_big_quiet_step (exact Calls.regrown_of (numbers_any blk _ hblk))
        iterate 2 (go_big_quiet_step (fail))
        go_big_quiet_step (exact Calls.regrown_of (fold_any h (wordsL blk.data.toList) t false _ hh (wordsL_len _) (hG' _)))
        refine wpQuiet_nil ?_
        rintro w' ⟨p, rfl⟩
        have hb' := below_regrown wr p.d p.os
        have hA1 := hA.below hb' hA.lt
        have hB1 := hB.trans (hb'.mono hB.size)
        generalize grow (redrawn wr p.d) p.os = w1 at hA1 hB1 ⊢
        refine wpList_store_row (by rfl) 156 _ _ (by rfl) w.heap.size ((foldL h (wordsL blk.data.toList) t false).map wv).toArray (by rfl) (by rfl) 156 _ hA1 (by rw [info8]; simp [foldL_len]) (by simp [foldL_len, hh]) (one_all _) ?_
        have hA2 := hA1.row ((foldL h (wordsL blk.data.toList) t false).map wv)
        have hB2 := below_setRow hB1 (Nat.le_refl _) ((foldL h (wordsL blk.data.toList) t false).map wv).toArray
        generalize w1.setRow _ _ = w2 at hA2 hB2 ⊢
        try simp only [Act.put]
        go_wp2_with fail
        refine (cut_any rest w2).mono ?_
        rintro e w' ⟨rfl, m1, rfl⟩
        have hA4 := hA2.drewN m1
        have hB4 := below_drewN hB2 m1
        obtain ⟨hcl, hcr⟩ := cut_list rest
        have hsz1 : (rest.extract 0 (min rest.size 64)).size = (rest.data.toList.take 64).length := by rw [← hcl]; simp
        have hsz2 : (rest.extract (min rest.size 64) rest.size).size = (rest.data.toList.drop 64).length := by rw [← hcr]; simp
        generalize rest.extract 0 (min rest.size 64) = b1' at hcl hsz1 ⊢
        generalize rest.extract (min rest.size 64) rest.size = b2' at hcr hsz2 ⊢
        generalize w2.drewN m1 = w3 at hA4 hB4 ⊢
        have hrs : rest.data.toList.length = rest.size := by simp
        have hrp : 0 < rest.size := by
          rw [← hrs]
          exact List.length_pos_iff.2 hr
        have hz1 : b1'.size ≤ 64 := by rw [hsz1]; simp; omega
        have hz2 : b1'.size + b2'.size = rest.size := by rw [hsz1, hsz2]; simp; omega
        have hz3 : b2'.size < rest.size := by rw [hsz2]; simp; omega
        have hnx : Hid (tgt = restL (foldL h (wordsL blk.data.toList) t false) b1'.data.toList b2'.data.toList (en + b1'.size)) := by
          show _ = _
          rw [ht.out, restL_next _ _ _ _ hr, hcl, hcr, hsz1, htt.out]
        clear hsz1 hsz2
        go_wp2
        go_roundw
        case rel => exact ⟨_, b1', b2', en + b1'.size, rfl, rfl, by go_num, hz1, by omega, foldL_len _ _ _ _, hA4, hB4, hnx⟩
        case measure => simp [strSize]; omega
end Go.Proofs.YthhildeocedpiaaDoor.Mx

/- What mix.Sum, mix.Keyed and mix.Short do; nothing old in memory is turned. -/
namespace Go.Proofs.YthhildeocedpiaaDoor.Mx
open Go.RowKit Go.Sort
set_option linter.unusedVariables false

def bytes (l : List UInt8) : ByteArray := ⟨l.toArray⟩
theorem bytes_size (l : List UInt8) : (bytes l).size = l.length := by simp [bytes, ByteArray.size]
theorem bytes_list (l : List UInt8) : (bytes l).data.toList = l := by simp [bytes]

set_option maxRecDepth 100000 in
theorem sum_any (s : ByteArray) (w : World) (hs : s.size ≤ 140737488351232) (hG : Glob w) :
    Calls Tryd.prog 63 #[.string s] w fun e w' => e = .returned (.string (bytes (sumL s.data.toList))) ∧ Below w.heap.size w w' := by
  go_enter Tryd.func63, Tryd.ntmps63
  go_wp2_with fail
  refine (digest_any ⟨#[]⟩ s w (by decide) hs hG).mono ?_
  rintro e w' ⟨rfl, hB⟩
  go_wp2
  go_ret
  exact ⟨rfl, hB⟩

set_option maxRecDepth 100000 in
theorem keyed_any (key s : ByteArray) (w : World) (hk : key.size ≤ 140737488351232) (hs : s.size ≤ 140737488351232) (hG : Glob w) :
    Calls Tryd.prog 76 #[.string key, .string s] w fun e w' => e = .returned (.string (bytes (keyedL key.data.toList s.data.toList))) ∧ Below w.heap.size w w' := by
  have hkl : key.data.toList.length = key.size := by simp
  go_enter Tryd.func76, Tryd.ntmps76
  by_cases h : 32 < key.size
  · have h1 : (32 : Int) < (key.size : Int) := by omega
    go_wp2_with fail
    refine (sum_any key w hk hG).mono ?_
    rintro e w' ⟨rfl, hB⟩
    have hG' := hG.below hB
    have hz : (bytes (sumL key.data.toList)).size = 32 := by rw [bytes_size]; exact digestL_len _ _
    go_wp2_with fail
    refine (digest_any _ s w' (by omega) hs hG').mono ?_
    rintro e w2 ⟨rfl, hB2⟩
    have hB3 := hB.trans (hB2.mono hB.size)
    go_wp2
    go_ret
    refine ⟨?_, hB3⟩
    unfold keyedL
    rw [if_pos (by omega), bytes_list]
    rfl
  · have h1 : ¬ (32 : Int) < (key.size : Int) := by omega
    go_wp2_with fail
    refine (digest_any key s w (by omega) hs hG).mono ?_
    rintro e w2 ⟨rfl, hB2⟩
    go_wp2
    go_ret
    refine ⟨?_, hB2⟩
    unfold keyedL
    rw [if_neg (by omega)]
    rfl

set_option maxRecDepth 100000 in
theorem short_any (key s : ByteArray) (w : World) (hk : key.size ≤ 140737488351232) (hs : s.size ≤ 140737488351232) (hG : Glob w) :
    Calls Tryd.prog 120 #[.string key, .string s] w fun e w' => e = .returned (.string ((bytes (keyedL key.data.toList s.data.toList)).extract 0 16)) ∧ Below w.heap.size w w' := by
  go_enter Tryd.func120, Tryd.ntmps120
  go_wp2_with fail
  refine (keyed_any key s w hk hs hG).mono ?_
  rintro e w' ⟨rfl, hB⟩
  have hz : (bytes (keyedL key.data.toList s.data.toList)).size = 32 := by rw [bytes_size]; exact keyedL_len _ _
  obtain ⟨x, hx⟩ : ∃ z, Hid (z = bytes (keyedL key.data.toList s.data.toList)) := ⟨_, rfl⟩
  rw [← hx.out] at hz ⊢
  have h16 : (16 : Int) ≤ (x.size : Int) := by omega
  go_wp2
  go_ret
  rw [← hx.out]
  exact ⟨rfl, hB⟩
end Go.Proofs.YthhildeocedpiaaDoor.Mx

/- What the two listed variables give the walks: the tables' cells. -/
namespace Go.Proofs.YthhildeocedpiaaDoor.Mx
open Go.ChangeShapes Go.WideShapes Go.ChangeAt Go.WideElems Go.RowKit

theorem ownKnob_none : ownKnob Tryd.prog.godebug = none := by kernel_rfl
theorem laidOut_true : laidOutB Tryd.prog = true := by kernel_rfl
theorem gFirst : Tryd.prog.globalNamed "tusk/mix.firstNumbers" = some 0 := by kernel_rfl
theorem gRows : Tryd.prog.globalNamed "tusk/mix.rows" = some 1 := by kernel_rfl
theorem tFirst : (Tryd.prog.globals[0]?).map (·.type) = some 156 := by kernel_rfl
theorem tRows : (Tryd.prog.globals[1]?).map (·.type) = some 177 := by kernel_rfl
theorem cells32 : Tryd.prog.cellsOf 155 = 1 := by kernel_rfl
theorem cells8 : Tryd.prog.cellsOf 5 = 1 := by kernel_rfl
theorem cellsRow : Tryd.prog.cellsOf 176 = 16 := by kernel_rfl

abbrev laid2 : List (String × DataW Unit) := [("tusk/mix.firstNumbers", Rows.laid_tusk_mix_firstNumbers), ("tusk/mix.rows", Rows.laid_tusk_mix_rows)]

/-- An array of integers that reads as these has these cells. -/
theorem int_cells {H : Type} {enc : TypeId × Value → H} {P : Program} {w : World} {base : Nat} {spare : Nat → Bool} {held : Bool} {fuel : Nat} {t e : TypeId} {n : Nat} {k : IntKind} {cs : List Value} {vals : List Int} {ps : List MemPlace}
    (ht : P.underlying t = some (.array n e)) (he : P.underlying e = some (.int k)) (hc : P.cellsOf e = 1) (hn : vals.length = n)
    (h : DataW.trod enc P w base spare held fuel t cs = some (.agg (vals.map fun v => .lit (.int k v)), ps)) : ∀ (i : Nat) (v : Int), vals[i]? = some v → cs[i]? = some (.int k v) := by
  obtain ⟨xs, m, _, hx, _, hlen, hel⟩ := DataW.trod_array ht h
  intro i v hv
  have hi : i < n := by rw [← hn]; exact (List.getElem?_eq_some_iff.1 hv).1
  have h1 := hel i hi
  rw [hc, Nat.mul_one] at h1
  have hxi : xs[i]? = some xs[i] := List.getElem?_eq_getElem (by omega)
  rw [hxi] at h1
  obtain ⟨z, hz1, hz2, _⟩ := DataW.trod_int he h1
  have hmap : (xs.map (·.1))[i]? = (vals.map fun v => (DataW.lit (.int k v) : DataW H))[i]? := by
    have := congrArg Prod.fst hx
    simp only [DataW.agg.injEq] at this
    rw [this]
  rw [List.getElem?_map, List.getElem?_map, hxi, hv, hz2] at hmap
  simp at hmap
  subst hmap
  have h2 : ((cs.drop i).take 1)[0]? = some (.int k z) := by rw [hz1]; rfl
  rw [List.getElem?_take, if_pos (by omega), List.getElem?_drop] at h2
  simpa using h2

theorem of_laid {W : World} (h : laidMetH Tryd.prog laid2 W) : Glob W := by
  rw [MakeChecks.laidMetH_plain _ _ _ (by kernel_rfl)] at h
  obtain ⟨ps, ⟨g0, t0, cs0, f0, p0, q0, hg0, ht0, hv0, hd0, ⟨g1, t1, cs1, f1, p1, q1, hg1, ht1, hv1, hd1, _, _⟩, _⟩, _, _⟩ := h
  obtain rfl := Option.some.inj (gFirst.symm.trans hg0)
  obtain rfl := Option.some.inj (gRows.symm.trans hg1)
  obtain rfl := Option.some.inj (tFirst.symm.trans ht0)
  obtain rfl := Option.some.inj (tRows.symm.trans ht1)
  refine ⟨?_, ?_⟩
  · intro j v hv
    rw [Nat.zero_add, World.var?_cell hg0 hv0 j]
    have := int_cells (vals := firstsL.map fun x => (x.toNat : Int)) Tryd.underlying156 Tryd.underlying155 cells32 rfl hd0 j
    rw [List.getElem?_map] at hv
    cases hx : firstsL[j]? with
    | none => rw [hx] at hv; cases hv
    | some x =>
      rw [hx] at hv
      have e : v = .int .u32 (x.toNat : Int) := by simpa [wv] using hv.symm
      subst e
      have := this (x.toNat : Int) (by rw [List.getElem?_map, hx]; rfl)
      simpa using this
  · intro i hi j v hv
    rw [World.var?_cell hg1 hv1]
    obtain ⟨xs, m, _, hx, _, hlen, hel⟩ := DataW.trod_array Tryd.underlying177 hd1
    have h1 := hel i hi
    rw [cellsRow] at h1
    have hxi : xs[i]? = some xs[i] := List.getElem?_eq_getElem (by omega)
    rw [hxi] at h1
    have hrow : xs[i].1 = .agg (((rowL i).map fun (r : Nat) => (r : Int)).map fun v => .lit (.int .u8 v)) := by
      have := congrArg Prod.fst hx
      have e2 : xs.map (·.1) = rowsL.map fun l => (DataW.agg ((l.map fun (r : Nat) => (r : Int)).map fun v => .lit (.int .u8 v)) : DataW Unit) := by
        have : (DataW.agg (xs.map (·.1)) : DataW Unit) = .agg (rowsL.map fun l => (DataW.agg ((l.map fun (r : Nat) => (r : Int)).map fun v => .lit (.int .u8 v)) : DataW Unit)) := this.symm
        simpa using this
      have e3 := congrArg (fun l => l[i]?) e2
      simp only [List.getElem?_map, hxi] at e3
      have hr : rowsL[i]? = some (rowL i) := by
        have : i < rowsL.length := hi
        unfold rowL
        simp [List.getElem?_eq_getElem this]
      rw [hr] at e3
      simpa using e3
    have h2 := int_cells (vals := (rowL i).map fun (r : Nat) => (r : Int)) Tryd.underlying176 Tryd.underlying5 cells8 (by simp [rowL_len i hi]) (show DataW.trod _ _ _ _ _ _ _ _ _ = some (_, _) by rw [h1, ← hrow]) j
    rw [List.getElem?_map] at hv
    cases hx2 : (rowL i)[j]? with
    | none => rw [hx2] at hv; cases hv
    | some x =>
      rw [hx2] at hv
      have e : v = .int .u8 (x : Int) := by simpa [rv] using hv.symm
      subst e
      have h3 := h2 (x : Int) (by rw [List.getElem?_map, hx2]; rfl)
      have hj : j < 16 := by
        have := (List.getElem?_eq_some_iff.1 hx2).1
        rw [rowL_len i hi] at this
        exact this
      rw [List.getElem?_take, if_pos hj, List.getElem?_drop] at h3
      simpa using h3

/-- The door's own heap meets the condition. -/
theorem door_met (os : Os) (args : Array Value) : laidMetH Tryd.prog laid2 ((World.doorLaid Tryd.prog 400 os).forCall (fun _ _ => 0) ⟨#[], args, []⟩).memory :=
  laidMetH_of_parts3 (fuel := 8) (laidMet_of_run' 8 (by kernel_rfl) (by kernel_rfl)) (by kernel_rfl) (by kernel_rfl)
end Go.Proofs.YthhildeocedpiaaDoor.Mx
