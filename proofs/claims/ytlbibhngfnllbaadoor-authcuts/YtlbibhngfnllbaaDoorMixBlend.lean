/- What mix.blend and the reference's mixed do: four words mixed with two; nothing in memory is turned. -/
import Derived.Test.YtlbibhngfnllbaaDoorMixMath
import Derived.Test.YtlbibhngfnllbaaDoorRows
import Derived.WalkKit
import Derived.WalkSpells
import Derived.WalkLawsBesides
import Derived.Deep.QuietTactic
import Derived.BigQuiet
namespace Go.Proofs.YtlbibhngfnllbaaDoor
open Go.RowKit

theorem results_tmp4 {fn : Func} {t u v x : Tmp} (h : fn.results = #[.tmp t, .tmp u, .tmp v, .tmp x]) (tmps : Array Value) (P : Program) (w : World) :
    (results fn tmps).run P w = .ok (.tuple #[tmps.getD t undef, tmps.getD u undef, tmps.getD v undef, tmps.getD x undef]) w := by
  simp [results, h]

theorem or_comm_nat (a b : Nat) : a ||| b = b ||| a := Nat.or_comm a b

theorem rot_spell_16 (x : UInt32) : bits .or .u32 ((x.toNat : Int) * 65536 % 4294967296) ((x.toNat : Int) / 65536) = ((rotr x 16).toNat : Int) := by
  have hx := x.toNat_lt
  have h := u32_or_nat (x.toNat * 65536 % 4294967296) (x.toNat / 65536) (Nat.mod_lt _ (by decide)) (by omega)
  rw [rotr_toNat, Nat.or_comm]
  simpa using h

theorem rot_spell'_16 (x : UInt32) : bits .or .u32 ((x.toNat : Int) / 65536) ((x.toNat : Int) * 65536 % 4294967296) = ((rotr x 16).toNat : Int) := by
  have hx := x.toNat_lt
  have h := u32_or_nat (x.toNat / 65536) (x.toNat * 65536 % 4294967296) (by omega) (Nat.mod_lt _ (by decide))
  rw [rotr_toNat]
  simpa using h

set_option maxRecDepth 100000 in
theorem rot_16 (x : UInt32) (w : World) :
    Calls Tryd.prog 49 #[.int .u32 x.toNat, .int .i64 (-16)] w fun e w' => e = .returned (.int .u32 (rotr x 16).toNat) ∧ w' = w := by
  have hx := x.toNat_lt
  have h1 : bits BinOp.and IntKind.u64 (IntKind.u64.wrap (-16)) 31 = 16 := by decide +kernel
  go_enter Tryd.func49, Tryd.ntmps49
  go_wp2
  go_ret
  refine ⟨?_, rfl⟩
  simp [rot_spell_16]

set_option maxRecDepth 100000 in
theorem right_16 (x : UInt32) (w : World) :
    Calls Tryd.prog 48 #[.int .u32 x.toNat, .int .i64 16] w fun e w' => e = .returned (.int .u32 (rotr x 16).toNat) ∧ w' = w := by
  go_enter Tryd.func48, Tryd.ntmps48
  go_wp2_with fail
  refine (rot_16 x w).mono ?_
  rintro e w' ⟨rfl, rfl⟩
  go_wp2
  go_ret
  exact ⟨rfl, rfl⟩

set_option maxRecDepth 100000 in
theorem round_16 (x : UInt32) (w : World) :
    Calls Tryd.prog 47 #[.int .u32 x.toNat, .int .i64 16] w fun e w' => e = .returned (.int .u32 (rotr x 16).toNat) ∧ ∃ m, w' = w.drewN m := by
  have hx := x.toNat_lt
  go_enter Tryd.func47, Tryd.ntmps47
  go_wp2
  go_quiet (fail)
  go_wp2
  go_ret
  refine ⟨?_, nq, rfl⟩
  simp [rot_spell'_16]

theorem rot_spell_12 (x : UInt32) : bits .or .u32 ((x.toNat : Int) * 1048576 % 4294967296) ((x.toNat : Int) / 4096) = ((rotr x 12).toNat : Int) := by
  have hx := x.toNat_lt
  have h := u32_or_nat (x.toNat * 1048576 % 4294967296) (x.toNat / 4096) (Nat.mod_lt _ (by decide)) (by omega)
  rw [rotr_toNat, Nat.or_comm]
  simpa using h

theorem rot_spell'_12 (x : UInt32) : bits .or .u32 ((x.toNat : Int) / 4096) ((x.toNat : Int) * 1048576 % 4294967296) = ((rotr x 12).toNat : Int) := by
  have hx := x.toNat_lt
  have h := u32_or_nat (x.toNat / 4096) (x.toNat * 1048576 % 4294967296) (by omega) (Nat.mod_lt _ (by decide))
  rw [rotr_toNat]
  simpa using h

set_option maxRecDepth 100000 in
theorem rot_12 (x : UInt32) (w : World) :
    Calls Tryd.prog 49 #[.int .u32 x.toNat, .int .i64 (-12)] w fun e w' => e = .returned (.int .u32 (rotr x 12).toNat) ∧ w' = w := by
  have hx := x.toNat_lt
  have h1 : bits BinOp.and IntKind.u64 (IntKind.u64.wrap (-12)) 31 = 20 := by decide +kernel
  go_enter Tryd.func49, Tryd.ntmps49
  go_wp2
  go_ret
  refine ⟨?_, rfl⟩
  simp [rot_spell_12]

set_option maxRecDepth 100000 in
theorem right_12 (x : UInt32) (w : World) :
    Calls Tryd.prog 48 #[.int .u32 x.toNat, .int .i64 12] w fun e w' => e = .returned (.int .u32 (rotr x 12).toNat) ∧ w' = w := by
  go_enter Tryd.func48, Tryd.ntmps48
  go_wp2_with fail
  refine (rot_12 x w).mono ?_
  rintro e w' ⟨rfl, rfl⟩
  go_wp2
  go_ret
  exact ⟨rfl, rfl⟩

set_option maxRecDepth 100000 in
theorem round_12 (x : UInt32) (w : World) :
    Calls Tryd.prog 47 #[.int .u32 x.toNat, .int .i64 12] w fun e w' => e = .returned (.int .u32 (rotr x 12).toNat) ∧ ∃ m, w' = w.drewN m := by
  have hx := x.toNat_lt
  go_enter Tryd.func47, Tryd.ntmps47
  go_wp2
  go_quiet (fail)
  go_wp2
  go_ret
  refine ⟨?_, nq, rfl⟩
  simp [rot_spell'_12]

theorem rot_spell_8 (x : UInt32) : bits .or .u32 ((x.toNat : Int) * 16777216 % 4294967296) ((x.toNat : Int) / 256) = ((rotr x 8).toNat : Int) := by
  have hx := x.toNat_lt
  have h := u32_or_nat (x.toNat * 16777216 % 4294967296) (x.toNat / 256) (Nat.mod_lt _ (by decide)) (by omega)
  rw [rotr_toNat, Nat.or_comm]
  simpa using h

theorem rot_spell'_8 (x : UInt32) : bits .or .u32 ((x.toNat : Int) / 256) ((x.toNat : Int) * 16777216 % 4294967296) = ((rotr x 8).toNat : Int) := by
  have hx := x.toNat_lt
  have h := u32_or_nat (x.toNat / 256) (x.toNat * 16777216 % 4294967296) (by omega) (Nat.mod_lt _ (by decide))
  rw [rotr_toNat]
  simpa using h

set_option maxRecDepth 100000 in
theorem rot_8 (x : UInt32) (w : World) :
    Calls Tryd.prog 49 #[.int .u32 x.toNat, .int .i64 (-8)] w fun e w' => e = .returned (.int .u32 (rotr x 8).toNat) ∧ w' = w := by
  have hx := x.toNat_lt
  have h1 : bits BinOp.and IntKind.u64 (IntKind.u64.wrap (-8)) 31 = 24 := by decide +kernel
  go_enter Tryd.func49, Tryd.ntmps49
  go_wp2
  go_ret
  refine ⟨?_, rfl⟩
  simp [rot_spell_8]

set_option maxRecDepth 100000 in
theorem right_8 (x : UInt32) (w : World) :
    Calls Tryd.prog 48 #[.int .u32 x.toNat, .int .i64 8] w fun e w' => e = .returned (.int .u32 (rotr x 8).toNat) ∧ w' = w := by
  go_enter Tryd.func48, Tryd.ntmps48
  go_wp2_with fail
  refine (rot_8 x w).mono ?_
  rintro e w' ⟨rfl, rfl⟩
  go_wp2
  go_ret
  exact ⟨rfl, rfl⟩

set_option maxRecDepth 100000 in
theorem round_8 (x : UInt32) (w : World) :
    Calls Tryd.prog 47 #[.int .u32 x.toNat, .int .i64 8] w fun e w' => e = .returned (.int .u32 (rotr x 8).toNat) ∧ ∃ m, w' = w.drewN m := by
  have hx := x.toNat_lt
  go_enter Tryd.func47, Tryd.ntmps47
  go_wp2
  go_quiet (fail)
  go_wp2
  go_ret
  refine ⟨?_, nq, rfl⟩
  simp [rot_spell'_8]

theorem rot_spell_7 (x : UInt32) : bits .or .u32 ((x.toNat : Int) * 33554432 % 4294967296) ((x.toNat : Int) / 128) = ((rotr x 7).toNat : Int) := by
  have hx := x.toNat_lt
  have h := u32_or_nat (x.toNat * 33554432 % 4294967296) (x.toNat / 128) (Nat.mod_lt _ (by decide)) (by omega)
  rw [rotr_toNat, Nat.or_comm]
  simpa using h

theorem rot_spell'_7 (x : UInt32) : bits .or .u32 ((x.toNat : Int) / 128) ((x.toNat : Int) * 33554432 % 4294967296) = ((rotr x 7).toNat : Int) := by
  have hx := x.toNat_lt
  have h := u32_or_nat (x.toNat / 128) (x.toNat * 33554432 % 4294967296) (by omega) (Nat.mod_lt _ (by decide))
  rw [rotr_toNat]
  simpa using h

set_option maxRecDepth 100000 in
theorem rot_7 (x : UInt32) (w : World) :
    Calls Tryd.prog 49 #[.int .u32 x.toNat, .int .i64 (-7)] w fun e w' => e = .returned (.int .u32 (rotr x 7).toNat) ∧ w' = w := by
  have hx := x.toNat_lt
  have h1 : bits BinOp.and IntKind.u64 (IntKind.u64.wrap (-7)) 31 = 25 := by decide +kernel
  go_enter Tryd.func49, Tryd.ntmps49
  go_wp2
  go_ret
  refine ⟨?_, rfl⟩
  simp [rot_spell_7]

set_option maxRecDepth 100000 in
theorem right_7 (x : UInt32) (w : World) :
    Calls Tryd.prog 48 #[.int .u32 x.toNat, .int .i64 7] w fun e w' => e = .returned (.int .u32 (rotr x 7).toNat) ∧ w' = w := by
  go_enter Tryd.func48, Tryd.ntmps48
  go_wp2_with fail
  refine (rot_7 x w).mono ?_
  rintro e w' ⟨rfl, rfl⟩
  go_wp2
  go_ret
  exact ⟨rfl, rfl⟩

set_option maxRecDepth 100000 in
theorem round_7 (x : UInt32) (w : World) :
    Calls Tryd.prog 47 #[.int .u32 x.toNat, .int .i64 7] w fun e w' => e = .returned (.int .u32 (rotr x 7).toNat) ∧ ∃ m, w' = w.drewN m := by
  have hx := x.toNat_lt
  go_enter Tryd.func47, Tryd.ntmps47
  go_wp2
  go_quiet (fail)
  go_wp2
  go_ret
  refine ⟨?_, nq, rfl⟩
  simp [rot_spell'_7]

set_option maxRecDepth 100000 in
theorem blend_any (a b c d x y : UInt32) (w : World) :
    Calls Tryd.prog 46 #[wv a, wv b, wv c, wv d, wv x, wv y] w fun e w' => e = .returned (.tuple #[wv (quad a b c d x y).a, wv (quad a b c d x y).b, wv (quad a b c d x y).c, wv (quad a b c d x y).d]) ∧ w' = w := by
  unfold quad wv
  have F := fold_add
  have X := fold_xor
  go_enter Tryd.func46, Tryd.ntmps46
  go_wp2_with fail
  refine (right_16 _ _).mono ?_
  rintro e w' ⟨rfl, rfl⟩
  go_wp2_with fail
  refine (right_12 _ _).mono ?_
  rintro e w' ⟨rfl, rfl⟩
  go_wp2_with fail
  refine (right_8 _ _).mono ?_
  rintro e w' ⟨rfl, rfl⟩
  go_wp2_with fail
  refine (right_7 _ _).mono ?_
  rintro e w' ⟨rfl, rfl⟩
  go_wp2
  (try simp only [Exit.inBlock, Exit.then])
  refine bodyPost_ret (results_tmp4 rfl _ _ _) rfl ?_
  exact ⟨rfl, rfl⟩

set_option maxRecDepth 100000 in
theorem mixed_any (a b c d x y : UInt32) (w : World) :
    Calls Tryd.prog 45 #[wv a, wv b, wv c, wv d, wv x, wv y] w fun e w' => e = .returned (.tuple #[wv (quad a b c d x y).a, wv (quad a b c d x y).b, wv (quad a b c d x y).c, wv (quad a b c d x y).d]) ∧ ∃ m, w' = w.drewN m := by
  unfold quad wv
  have F := fold_add
  have X := fold_xor
  go_enter Tryd.func45, Tryd.ntmps45
  go_wp2_with fail
  refine (round_16 _ _).mono ?_
  rintro e w' ⟨rfl, m0, rfl⟩
  go_wp2_with fail
  refine (round_12 _ _).mono ?_
  rintro e w' ⟨rfl, m1, rfl⟩
  go_wp2_with fail
  refine (round_8 _ _).mono ?_
  rintro e w' ⟨rfl, m2, rfl⟩
  go_wp2_with fail
  refine (round_7 _ _).mono ?_
  rintro e w' ⟨rfl, m3, rfl⟩
  go_wp2
  (try simp only [Exit.inBlock, Exit.then])
  refine bodyPost_ret (results_tmp4 rfl _ _ _) rfl ?_
  refine ⟨?_, m0 + m1 + m2 + m3, ?_⟩
  · simp [wadd_assoc]
  · simp [Nat.add_assoc]
end Go.Proofs.YtlbibhngfnllbaaDoor
