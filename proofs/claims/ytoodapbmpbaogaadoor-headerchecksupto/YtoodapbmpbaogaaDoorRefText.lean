/- What tuskref01.Text and tuskref01.GetText do. -/
import Derived.Test.YtoodapbmpbaogaaDoorWireIntsWalk
namespace Go.Proofs.YtoodapbmpbaogaaDoor
open Go.RowKit

set_option maxRecDepth 100000 in
set_option maxHeartbeats 400000 in
theorem refText_any (s : ByteArray) (w : World) (hs : s.size ≤ 140737488351232000) :
    Calls Tryd.prog 56 #[.string s] w fun e w' => e = .returned (.string ⟨(txt s.data.toList).toArray⟩) ∧ Below w.heap.size w w' := by
  have hg := goInt_length s.size
  have e1 : ∀ l : List UInt8, l = goInt s.size → Value.string (⟨l.toArray⟩ ++ s) = Value.string ⟨(txt s.data.toList).toArray⟩ := by
    rintro l rfl
    rw [append_list, txt]
    simp
  go_enter Tryd.func56, Tryd.ntmps56
  go_wp2_with fail
  refine (refInt_any _ _).mono ?_
  rintro e w' ⟨rfl, hb⟩
  obtain ⟨l, hl⟩ : ∃ l, l = goInt s.size := ⟨_, rfl⟩
  rw [← hl] at hg ⊢
  have E := e1 l hl
  clear e1 hl
  go_wp2
  go_ret
  exact ⟨rfl, hb⟩

theorem getText_at' (s : ByteArray) (w : World) (t : List UInt8) (k er : Nat) (hs : s.size ≤ maxLen) (hr : getText s.data.toList = (t, k, er)) :
    Calls Tryd.prog 64 #[.string s] w fun e w' => e = .returned (.tuple #[.string ⟨t.toArray⟩, .int .i64 k, .int .i64 er]) ∧ w' = w := by
  have h := getText_any s w hs
  rw [hr] at h
  exact h
end Go.Proofs.YtoodapbmpbaogaaDoor
