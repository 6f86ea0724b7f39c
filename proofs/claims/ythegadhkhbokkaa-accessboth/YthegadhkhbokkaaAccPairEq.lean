/- Pairs are compared. -/
import Derived.Test.YthegadhkhbokkaaAccTx
import Derived.ChangeKeysEq
import Derived.Laws.StructEq
namespace Go.Proofs.Ythegadhkhbokkaa
open Go Go.RowKit
set_option linter.unusedVariables false

theorem cellsIntP : Try.prog.cellsOf 3 = 1 := by kernel_rfl

theorem pair_eqIn (w : World) (d : Nat) (a b a' b' : Int) : (Op.equalIn (d + 2) 37 (.agg #[.int .i64 a, .int .i64 b]) (.agg #[.int .i64 a', .int .i64 b'])).run Try.prog w = .ok (a == a' && b == b') w := by
  obtain ⟨i, z, hi, _⟩ := intInfoA
  rw [run_equalIn_array (P := Try.prog) w (d + 1) _ _ Try.underlying37 hi, cellsIntP]
  have p3 : (part 3 #[.int .i64 a, .int .i64 b] 0).run Try.prog w = .ok (.int .i64 a) w := by rfl
  have p4 : (part 3 #[.int .i64 a, .int .i64 b] 1).run Try.prog w = .ok (.int .i64 b) w := by rfl
  have p5 : (part 3 #[.int .i64 a', .int .i64 b'] 0).run Try.prog w = .ok (.int .i64 a') w := by rfl
  have p6 : (part 3 #[.int .i64 a', .int .i64 b'] 1).run Try.prog w = .ok (.int .i64 b') w := by rfl
  have e : List.range 2 = [0, 1] := rfl
  rw [e]
  simp only [Op.eqItems, Sem.run_bind, Nat.mul_one, p3, p5, Result.andThen_ok, run_equalIn_int w d 3 .i64 .i64 _ _ Try.underlying3]
  cases h1 : (a == a') <;> cases h2 : (b == b') <;> simp [Sem.run_bind, p4, p6, run_equalIn_int w d 3 .i64 .i64 _ _ Try.underlying3, h2]
end Go.Proofs.Ythegadhkhbokkaa
