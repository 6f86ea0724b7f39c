/- What package header's reader does: each step turns its block alone. -/
import Derived.Test.YtoodapbmpbaogaaDoorHdrRows
import Derived.Test.YtoodapbmpbaogaaDoorRunX
namespace Go.Proofs.YtoodapbmpbaogaaDoor
open Go.RowKit
set_option linter.unusedVariables false

/-- A reader's block: what is left, and the error. -/
abbrev RdAt (T : TypeId) (w : World) (rb : Nat) (rest : ByteArray) (E : Nat) : Prop := Arr w rb T [.string rest, .int .i64 (E : Int)]

set_option maxRecDepth 100000 in
set_option maxHeartbeats 400000 in
theorem takeInt_k (rb : Nat) (w : World) (rest : ByteArray) (E : Nat) (hR : Arr w rb 143 [.string rest, .int .i64 (E : Int)]) (hs : rest.size ≤ maxLen) :
    Calls Tryd.prog 102 #[.pointer (some ⟨rb, 0, none⟩), .func (.func 63) #[] #[]] w fun e w' => ∃ (n E' : Nat) (rest' : ByteArray), e = .returned (.int .i64 (n : Int)) ∧ n ≤ 4611686018427387903 ∧ rest'.size ≤ maxLen ∧
      (∀ (α : Type) (f : Nat → List UInt8 → Except Nat α), runX E (rdI rest.data.toList f) = runX E' (f n rest'.data.toList)) ∧ Arr w' rb 143 [.string rest', .int .i64 (E' : Int)] ∧ Kept (fun k => k = rb) w w' := by
  have c0 := hR.cell (i := 0) rfl
  have c1 := hR.cell (i := 1) rfl
  have f0 := hR.frozen 0
  have f1 := hR.frozen 1
  by_cases hE : E = 0
  · subst hE
    rcases hr : getInt rest.data.toList with ⟨n, k, er⟩
    have hl : rest.data.toList.length = rest.size := by simp
    have cG := fun w1 => getInt_at rest w1 n k er hs hr
    by_cases he : er = 0
    · subst he
      have hb := getInt_bounds _ n k hr
      have hk : (k : Int) ≤ rest.size := by omega
      have hstep : Hid (∀ (α : Type) (f : Nat → List UInt8 → Except Nat α), runX 0 (rdI rest.data.toList f) = runX 0 (f n (rest.extract k rest.size).data.toList)) := by
        intro α f
        rw [rdI_ok hr, extract_drop]
      have fin := hR.set 0 (.string (rest.extract k rest.size))
      have kin := (Kept.refl (fun k => k = rb) w).set (p := ⟨rb, 0, none⟩) rfl (.string (rest.extract k rest.size))
      have hsz := rest_le rest k hs
      have hn := hb.1
      clear hR hr hl hs hb
      go_enter Tryd.func102, Tryd.ntmps102
      go_wp2_with fail
      refine (cG _).mono ?_
      rintro e w1 ⟨rfl, rfl⟩
      go_wp2
      go_ret
      exact ⟨n, 0, rest.extract k rest.size, rfl, hn, hsz, hstep.out, fin, kin⟩
    · have hstep : Hid (∀ (α : Type) (f : Nat → List UInt8 → Except Nat α), runX 0 (rdI rest.data.toList f) = runX er (f 0 rest.data.toList)) := by
        intro α f
        rw [rdI_err hr he, runX_err he]
        rfl
      have fin := hR.set 1 (.int .i64 (er : Int))
      have kin := (Kept.refl (fun k => k = rb) w).set (p := ⟨rb, 1, none⟩) rfl (.int .i64 (er : Int))
      have hne : ((er : Int) != 0) = true := by rw [bne_iff_ne]; omega
      clear hR hr hl
      go_enter Tryd.func102, Tryd.ntmps102
      go_wp2_with fail
      refine (cG _).mono ?_
      rintro e w1 ⟨rfl, rfl⟩
      go_wp2
      go_ret
      exact ⟨0, er, rest, rfl, by omega, hs, hstep.out, fin, kin⟩
  · have hE' : ((E : Int) != 0) = true := by rw [bne_iff_ne]; omega
    go_enter Tryd.func102, Tryd.ntmps102
    go_wp2
    go_ret
    exact ⟨0, E, rest, rfl, by omega, hs, fun α f => by rw [runX_err hE, runX_err hE], hR, Kept.refl _ _⟩

set_option maxRecDepth 100000 in
set_option maxHeartbeats 400000 in
theorem refuse_k (rb : Nat) (w : World) (rest : ByteArray) (E : Nat) (b : Bool) (er : Nat) (hR : Arr w rb 143 [.string rest, .int .i64 (E : Int)]) :
    Calls Tryd.prog 103 #[.pointer (some ⟨rb, 0, none⟩), .bool b, .int .i64 (er : Int)] w fun e w' => e = .returned (.tuple #[]) ∧ Arr w' rb 143 [.string rest, .int .i64 ((if b = true ∧ E = 0 then er else E : Nat) : Int)] ∧ Kept (fun k => k = rb) w w' := by
  have c1 := hR.cell (i := 1) rfl
  have f1 := hR.frozen 1
  cases b with
  | false =>
    rw [if_neg (by simp)]
    go_enter Tryd.func103, Tryd.ntmps103
    go_wp2
    go_end0
    exact ⟨rfl, hR, Kept.refl _ _⟩
  | true =>
    by_cases hE : E = 0
    · subst hE
      rw [if_pos ⟨rfl, rfl⟩]
      have fin := hR.set 1 (.int .i64 (er : Int))
      have kin := (Kept.refl (fun k => k = rb) w).set (p := ⟨rb, 1, none⟩) rfl (.int .i64 (er : Int))
      go_enter Tryd.func103, Tryd.ntmps103
      go_wp2
      go_end0
      exact ⟨rfl, fin, kin⟩
    · have hE' : ((E : Int) == 0) = false := beq_eq_false_iff_ne.2 (by omega)
      rw [if_neg (fun h => hE h.2)]
      go_enter Tryd.func103, Tryd.ntmps103
      go_wp2
      go_end0
      exact ⟨rfl, hR, Kept.refl _ _⟩
end Go.Proofs.YtoodapbmpbaogaaDoor
