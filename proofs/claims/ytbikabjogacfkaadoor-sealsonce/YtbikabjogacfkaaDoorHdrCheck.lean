/- What package header's Check does; nothing old in memory is turned. -/
import Derived.Test.YtbikabjogacfkaaDoorHdrRows
import Derived.Test.YtbikabjogacfkaaDoorAuthAll
namespace Go.Proofs.YtbikabjogacfkaaDoor
open Go.RowKit
set_option linter.unusedVariables false

def pairT (l : List TagD) : List (Int × ByteArray) := l.map (fun t => (t.who, t.mac))

theorem pairT_length (l : List TagD) : (pairT l).length = l.length := by simp [pairT]

theorem RowAt.pairs {w : World} {ao : Option Addr} {l : List TagD} (h : RowAt tagK w ao l) : Mx.TagsAt w ao (pairT l) := by
  intro j x hx
  obtain ⟨t, ht, rfl⟩ : ∃ t, l[j]? = some t ∧ (t.who, t.mac) = x := by
    simp [pairT] at hx
    exact hx
  exact h.tag ht
end Go.Proofs.YtbikabjogacfkaaDoor
