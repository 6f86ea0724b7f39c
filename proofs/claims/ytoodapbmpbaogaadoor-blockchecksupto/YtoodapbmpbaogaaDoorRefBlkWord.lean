/- What tuskref08.Word does; nothing old in memory is turned. -/
import Derived.Test.YtoodapbmpbaogaaDoorBlkRepeat
import Derived.Test.YtoodapbmpbaogaaDoorRefInt
namespace Go.Proofs.YtoodapbmpbaogaaDoor
open Go.RowKit
set_option linter.unusedVariables false

set_option maxRecDepth 100000 in
theorem refWord_any (v : Int) (id : ByteArray) (w : World) (hid : id.size ≤ 140737488351232) :
    Calls Tryd.prog 51 #[.int .i64 v, .string id] w fun e w' => e = .returned (.string (wordB v id)) ∧ Below w.heap.size w w' := by
  have c := refInt_any v w
  have hg := goInt_length v
  have hjo : Hid _ := word_join v id
  have hz : (⟨(goInt v).toArray⟩ : ByteArray).size ≤ 9 := by rw [size_mk]; exact hg
  generalize (⟨(goInt v).toArray⟩ : ByteArray) = q at *
  generalize wordB v id = out at *
  clear hg
  go_enter Tryd.func51, Tryd.ntmps51
  go_wp2_with fail
  refine c.mono ?_
  rintro e w1 ⟨rfl, hb⟩
  clear c
  go_wp2
  go_ret
  exact ⟨by rw [← hjo.out]; rfl, hb⟩
end Go.Proofs.YtoodapbmpbaogaaDoor
