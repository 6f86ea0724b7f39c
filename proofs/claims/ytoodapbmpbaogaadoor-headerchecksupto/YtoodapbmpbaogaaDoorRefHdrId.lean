/- What tuskref06.Id does; nothing old in memory is turned. -/
import Derived.Test.YtoodapbmpbaogaaDoorRefHdrEncode
import Derived.Test.YtoodapbmpbaogaaDoorRefMixAll
namespace Go.Proofs.YtoodapbmpbaogaaDoor
open Go.RowKit
set_option linter.unusedVariables false

set_option maxRecDepth 100000 in
set_option maxHeartbeats 1000000 in
theorem refHdrId_any (x : HdrM) (w : World) (hA : x.At w) (hf : x.Fit) (hl : (encH x.d).length ≤ 1073741824) :
    Calls Tryd.prog 40 #[x.v] w fun e w' => e = .returned (.string (Mx.bytes (Mx.sumL (encH x.d)))) ∧ Below w.heap.size w w' := by
  have hX := Arr.new w 66 x.c
  have hB := belowNew w (.cells x.c.toArray 66)
  have cE := refHdrEncode_any x _ (hA.below hB) hf
  obtain ⟨eb, heb⟩ : ∃ q, q = (⟨(encH x.d).toArray⟩ : ByteArray) := ⟨_, rfl⟩
  have hes : eb.size ≤ 1073741824 := by rw [heb, size_mk]; exact hl
  have cS := fun w1 => Mx.refSum_any eb w1 hes
  have HE : Hid (Mx.bytes (Mx.sumL (encH x.d)) = Mx.bytes (Mx.sumL eb.data.toList)) := by show _ = _; rw [heb]
  rw [← heb] at cE
  obtain ⟨out, hout⟩ : ∃ q, Hid (q = Mx.bytes (Mx.sumL (encH x.d))) := ⟨_, rfl⟩
  rw [← hout.out]
  clear heb hes hA hf hl
  unfold HdrM.v at cE ⊢
  unfold HdrM.c at hX hB cE
  have x0 := hX.cell (i := 0) rfl
  have x1 := hX.cell (i := 1) rfl
  have x2 := hX.cell (i := 2) rfl
  have x3 := hX.cell (i := 3) rfl
  go_enter Tryd.func40, Tryd.ntmps40
  go_wp2_with fail
  refine cE.mono ?_
  rintro e w1 ⟨rfl, hb1⟩
  have hB1 := hB.trans (hb1.mono hB.size)
  clear cE hX hB x0 x1 x2 x3 hb1
  go_wp2_with fail
  refine (cS _).mono ?_
  rintro e w2 ⟨rfl, hb2⟩
  have hB2 := hB1.trans (hb2.mono hB1.size)
  clear cS hB1 hb2
  go_wp2
  go_ret
  exact ⟨by rw [hout.out, HE.out]; rfl, hB2⟩
end Go.Proofs.YtoodapbmpbaogaaDoor
