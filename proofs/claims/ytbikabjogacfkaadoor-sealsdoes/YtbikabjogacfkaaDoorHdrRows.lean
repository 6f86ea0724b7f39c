/- Tags, Refs and headers as they lie in memory. -/
import Derived.Test.YtbikabjogacfkaaDoorHeaderMath
import Derived.Test.YtbikabjogacfkaaDoorKinds
namespace Go.Proofs.YtbikabjogacfkaaDoor
open Go.RowKit
set_option linter.unusedVariables false

/-- Tags. -/
def tagK : Kind TagD where
  n := 2
  c t := [.int .i64 t.who, .string t.mac]
  foot _ _ := False
  At _ _ := True
  pos := by decide
  len _ := rfl
  one x u hu := by
    simp only [List.mem_cons, List.not_mem_nil, or_false] at hu
    rcases hu with rfl | rfl <;> rfl
  lt _ h := h.elim
  keep _ _ := trivial

/-- The two cells of a tag in a row. -/
theorem RowAt.tag {w : World} {ao : Option Addr} {l : List TagD} (h : RowAt tagK w ao l) {i : Nat} {t : TagD} (ht : l[i]? = some t) :
    ∃ b off, ao = some ⟨b, off, none⟩ ∧ b < w.heap.size ∧ w.cell? ⟨b, off + i * 2, none⟩ = some (.int .i64 t.who) ∧ w.cell? ⟨b, off + i * 2 + 1, none⟩ = some (.string t.mac) := by
  obtain ⟨b, off, h1, h2, h3⟩ := h.cell i t ht
  exact ⟨b, off, h1, h2, h3 0 _ rfl, h3 1 _ rfl⟩

theorem infoTag6 : (Tryd.prog.info? 32).map (fun i => (i.zero, i.size, i.bytes)) = some (some (.agg #[.int .i64 0, .string ⟨#[]⟩]), 2, 24) := by kernel_rfl
end Go.Proofs.YtbikabjogacfkaaDoor
