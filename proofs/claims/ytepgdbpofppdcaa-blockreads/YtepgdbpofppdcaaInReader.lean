/- The reference's reader, whatever else lies in memory: each step turns its block alone. -/
import Derived.Test.YtepgdbpofppdcaaRunX
import Derived.Test.YtepgdbpofppdcaaStrRows
import Derived.Test.YtepgdbpofppdcaaRefList
namespace Go.Proofs.Ytepgdbpofppdcaa
open Go.RowKit
set_option linter.unusedVariables false

set_option maxRecDepth 100000 in
set_option maxHeartbeats 400000 in
theorem inInt_k (rb : Nat) (w : World) (rest : ByteArray) (E : Nat) (hR : Arr w rb 63 [.string rest, .int .i64 (E : Int)]) (hs : rest.size ≤ maxLen) :
    Calls Try.prog 46 #[.pointer (some ⟨rb, 0, none⟩)] w fun e w' => ∃ (n E' : Nat) (rest' : ByteArray), e = .returned (.int .i64 (n : Int)) ∧ n ≤ 4611686018427387903 ∧ rest'.size ≤ maxLen ∧
      (∀ (α : Type) (f : Nat → List UInt8 → Except Nat α), runX E (rdI rest.data.toList f) = runX E' (f n rest'.data.toList)) ∧ Arr w' rb 63 [.string rest', .int .i64 (E' : Int)] ∧ Kept (fun k => k = rb) w w' := by
  have c0 := hR.cell (i := 0) rfl
  have c1 := hR.cell (i := 1) rfl
  have f0 := hR.frozen 0
  have f1 := hR.frozen 1
  by_cases hE : E = 0
  · subst hE
    rcases hr : getInt rest.data.toList with ⟨n, k, er⟩
    have fin := (hR.set 1 (.int .i64 (er : Int))).set 0 (.string (rest.extract k rest.size))
    have kin := ((Kept.refl (fun k => k = rb) w).set (p := ⟨rb, 1, none⟩) rfl (.int .i64 (er : Int))).set (p := ⟨rb, 0, none⟩) rfl (.string (rest.extract k rest.size))
    have hl : rest.data.toList.length = rest.size := by simp
    have hkn : k ≤ rest.size ∧ n ≤ 4611686018427387903 := by
      by_cases he : er = 0
      · subst he
        have hb := getInt_bounds _ n k hr
        omega
      · have := getInt_zero hr he
        omega
    have hk : (k : Int) ≤ rest.size := by omega
    have hstep : Hid (∀ (α : Type) (f : Nat → List UInt8 → Except Nat α), runX 0 (rdI rest.data.toList f) = runX er (f n (rest.extract k rest.size).data.toList)) := by
      intro α f
      by_cases he : er = 0
      · subst he
        rw [rdI_ok hr, extract_drop]
      · rw [rdI_err hr he, runX_err he]
        rfl
    have cG := fun w1 => refGetInt_at rest w1 n k er hs hr
    have hsz := rest_le rest k hs
    clear hR hr hl hs
    go_enter Try.func46, Try.ntmps46
    go_wp2_with fail
    refine (cG _).mono ?_
    rintro e w1 ⟨rfl, rfl⟩
    go_wp2
    go_ret
    exact ⟨n, er, rest.extract k rest.size, rfl, hkn.2, hsz, hstep.out, fin, kin⟩
  · have hE' : ((E : Int) != 0) = true := by rw [bne_iff_ne]; omega
    go_enter Try.func46, Try.ntmps46
    go_wp2
    go_ret
    exact ⟨0, E, rest, rfl, by omega, hs, fun α f => by rw [runX_err hE, runX_err hE], hR, Kept.refl _ _⟩

set_option maxRecDepth 100000 in
set_option maxHeartbeats 400000 in
theorem inText_k (rb : Nat) (w : World) (rest : ByteArray) (E : Nat) (hR : Arr w rb 63 [.string rest, .int .i64 (E : Int)]) (hs : rest.size ≤ maxLen) :
    Calls Try.prog 47 #[.pointer (some ⟨rb, 0, none⟩)] w fun e w' => ∃ (t : List UInt8) (E' : Nat) (rest' : ByteArray), e = .returned (.string ⟨t.toArray⟩) ∧ t.length ≤ 65536 ∧ rest'.size ≤ maxLen ∧
      (∀ (α : Type) (f : List UInt8 → List UInt8 → Except Nat α), runX E (rdT rest.data.toList f) = runX E' (f t rest'.data.toList)) ∧ Arr w' rb 63 [.string rest', .int .i64 (E' : Int)] ∧ Kept (fun k => k = rb) w w' := by
  have c0 := hR.cell (i := 0) rfl
  have c1 := hR.cell (i := 1) rfl
  have f0 := hR.frozen 0
  have f1 := hR.frozen 1
  by_cases hE : E = 0
  · subst hE
    rcases hr : getText rest.data.toList with ⟨t, k, er⟩
    have fin := (hR.set 1 (.int .i64 (er : Int))).set 0 (.string (rest.extract k rest.size))
    have kin := ((Kept.refl (fun k => k = rb) w).set (p := ⟨rb, 1, none⟩) rfl (.int .i64 (er : Int))).set (p := ⟨rb, 0, none⟩) rfl (.string (rest.extract k rest.size))
    have hl : rest.data.toList.length = rest.size := by simp
    have hkn : k ≤ rest.size ∧ t.length ≤ 65536 := by
      by_cases he : er = 0
      · subst he
        have hb := getText_bounds _ t k hr
        omega
      · have := getText_zero hr he
        rw [this.1, this.2]
        simp
    have hk : (k : Int) ≤ rest.size := by omega
    have hstep : Hid (∀ (α : Type) (f : List UInt8 → List UInt8 → Except Nat α), runX 0 (rdT rest.data.toList f) = runX er (f t (rest.extract k rest.size).data.toList)) := by
      intro α f
      by_cases he : er = 0
      · subst he
        rw [rdT_ok hr, extract_drop]
      · rw [rdT_err hr he, runX_err he]
        rfl
    have cG := fun w1 => refGetText_at rest w1 t k er hs hr
    have hsz := rest_le rest k hs
    have hk2 : Hid (t.length ≤ 65536) := hkn.2
    clear hR hr hl hs hkn
    go_enter Try.func47, Try.ntmps47
    go_wp2_with fail
    refine (cG _).mono ?_
    rintro e w1 ⟨rfl, rfl⟩
    go_wp2
    go_ret
    exact ⟨t, er, rest.extract k rest.size, rfl, hk2.out, hsz, hstep.out, fin, kin⟩
  · have hE' : ((E : Int) != 0) = true := by rw [bne_iff_ne]; omega
    go_enter Try.func47, Try.ntmps47
    go_wp2
    go_ret
    exact ⟨[], E, rest, rfl, by simp, hs, fun α f => by rw [runX_err hE, runX_err hE], hR, Kept.refl _ _⟩

theorem refGetListN (s : ByteArray) (m : Nat) (hm : m ≤ 1000) (w : World) (hs : s.size ≤ maxLen) (ts : List (List UInt8)) (k er : Nat) (hr : getList s.data.toList m = (ts, k, er)) :
    Calls Try.prog 38 #[.string s, .int .i64 (m : Int)] w fun e w' => ∃ ao cap, e = .returned (.tuple #[.slice ao (mks ts).length cap, .int .i64 (k : Int), .int .i64 (er : Int)]) ∧ OwnStrs w.heap.size w' ao (mks ts) ∧ (ao = none → cap = 0) ∧ Below w.heap.size w w' := by
  refine (refGetList_any s m w m hs (Or.inr (by omega)) (by omega)).mono ?_
  rintro e w' ⟨v, rfl, hg, hb⟩
  rw [hr] at hg
  obtain ⟨ao, cap, rfl, hown⟩ := hg
  have hml : (mks ts).length = ts.length := by simp [mks]
  refine ⟨ao, cap, by rw [hml], ?_, ?_, hb⟩
  · refine own_far (cap := cap) (n := ts.length) ?_ hml.symm
    rw [bl_mks]
    exact hown
  · intro he
    rcases hown.2 with ⟨hv, _⟩ | ⟨g, c, cur, hv, _⟩
    · simp at hv; exact hv.2.2
    · simp at hv; rw [hv.1] at he; cases he

set_option maxRecDepth 100000 in
set_option maxHeartbeats 400000 in
theorem inList_k (rb : Nat) (w : World) (rest : ByteArray) (E : Nat) (m : Nat) (hm : m ≤ 1000) (hR : Arr w rb 63 [.string rest, .int .i64 (E : Int)]) (hs : rest.size ≤ maxLen) :
    Calls Try.prog 48 #[.pointer (some ⟨rb, 0, none⟩), .int .i64 (m : Int)] w fun e w' => ∃ (ts : List (List UInt8)) (E' : Nat) (rest' : ByteArray) (ao : Option Addr) (cap : Nat), e = .returned (.slice ao (mks ts).length cap) ∧ (∀ t ∈ ts, t.length ≤ 65536) ∧ ts.length ≤ m ∧ rest'.size ≤ maxLen ∧
      (∀ (α : Type) (f : List (List UInt8) → List UInt8 → Except Nat α), runX E (rdL m rest.data.toList f) = runX E' (f ts rest'.data.toList)) ∧ OwnStrs w.heap.size w' ao (mks ts) ∧ Arr w' rb 63 [.string rest', .int .i64 (E' : Int)] ∧ Kept (fun k => k = rb) w w' ∧ (ao = none → cap = 0) := by
  have c0 := hR.cell (i := 0) rfl
  have c1 := hR.cell (i := 1) rfl
  by_cases hE : E = 0
  · subst hE
    rcases hr : getList rest.data.toList m with ⟨ts, k, er⟩
    have hl : rest.data.toList.length = rest.size := by simp
    have hkn : k ≤ rest.size ∧ (∀ t ∈ ts, t.length ≤ 65536) ∧ ts.length ≤ m := by
      by_cases he : er = 0
      · subst he
        obtain ⟨_, _, b3, b4, b5⟩ := getList_back hr
        exact ⟨by omega, b5, by omega⟩
      · have := getList_zero hr he
        rw [this.1, this.2]
        simp
    have hk : (k : Int) ≤ rest.size := by omega
    have hstep : Hid (∀ (α : Type) (f : List (List UInt8) → List UInt8 → Except Nat α), runX 0 (rdL m rest.data.toList f) = runX er (f ts (rest.extract k rest.size).data.toList)) := by
      intro α f
      by_cases he : er = 0
      · subst he
        rw [rdL_ok hr, extract_drop]
      · rw [rdL_err hr he, runX_err he]
        rfl
    have cG := fun w1 => refGetListN rest m hm w1 hs ts k er hr
    have hsz := rest_le rest k hs
    clear hr hl hs
    obtain ⟨ms, hms⟩ : ∃ q, q = mks ts := ⟨_, rfl⟩
    simp only [← hms] at cG
    have Hms : Hid (ms = mks ts) := hms
    clear hms
    go_enter Try.func48, Try.ntmps48
    go_wp2_with fail
    refine (cG _).mono ?_
    rintro e w1 ⟨ao, cap, rfl, hO, hn, hb⟩
    have hR1 := hR.below hb hR.lt
    have fin := (hR1.set 1 (.int .i64 (er : Int))).set 0 (.string (rest.extract k rest.size))
    have kin := ((Kept.of_below (S := fun k => k = rb) hb).set (p := ⟨rb, 1, none⟩) rfl (.int .i64 (er : Int))).set (p := ⟨rb, 0, none⟩) rfl (.string (rest.extract k rest.size))
    have hOF := (hO.put (p := ⟨rb, 1, none⟩) hR.lt (.int .i64 (er : Int))).put (p := ⟨rb, 0, none⟩) hR.lt (.string (rest.extract k rest.size))
    have d0 := hR1.cell (i := 0) rfl
    have d1 := hR1.cell (i := 1) rfl
    have f0 := hR1.frozen 0
    have f1 := hR1.frozen 1
    clear hR hR1 c0 c1 hO hb cG
    go_wp2
    go_ret
    refine ⟨ts, er, rest.extract k rest.size, ao, cap, by rw [← Hms.out]; rfl, hkn.2.1, hkn.2.2, hsz, hstep.out, ?_, fin, kin, hn⟩
    rw [← Hms.out]
    exact hOF
  · have hE' : ((E : Int) != 0) = true := by rw [bne_iff_ne]; omega
    go_enter Try.func48, Try.ntmps48
    go_wp2
    go_ret
    exact ⟨[], E, rest, none, 0, rfl, by simp, by simp, hs, fun α f => by rw [runX_err hE, runX_err hE], (fun j hj => absurd hj (by simp [mks])), hR, Kept.refl _ _, fun _ => rfl⟩

set_option maxRecDepth 100000 in
set_option maxHeartbeats 400000 in
theorem inEnd_k (rb : Nat) (w : World) (rest : ByteArray) (E : Nat) (hR : Arr w rb 63 [.string rest, .int .i64 (E : Int)]) :
    Calls Try.prog 35 #[.pointer (some ⟨rb, 0, none⟩)] w fun e w' => e = .returned (.tuple #[]) ∧ Arr w' rb 63 [.string rest, .int .i64 ((if E = 0 ∧ rest.data.toList ≠ [] then 6 else E : Nat) : Int)] ∧ Kept (fun k => k = rb) w w' := by
  have c0 := hR.cell (i := 0) rfl
  have c1 := hR.cell (i := 1) rfl
  have f1 := hR.frozen 1
  by_cases hE : E = 0
  · subst hE
    by_cases hr : rest.data.toList ≠ []
    · have hr1 : rest.toList.isEmpty = false := by rw [ByteArray.toList_eq]; simpa using hr
      rw [if_pos ⟨rfl, hr⟩]
      have fin := hR.set 1 (.int .i64 6)
      have kin := (Kept.refl (fun k => k = rb) w).set (p := ⟨rb, 1, none⟩) rfl (.int .i64 6)
      clear hr
      go_enter Try.func35, Try.ntmps35
      go_wp2
      go_end0
      exact ⟨rfl, fin, kin⟩
    · have hr1 : rest.toList.isEmpty = true := by rw [ByteArray.toList_eq]; simpa using hr
      rw [if_neg (fun h => hr h.2)]
      clear hr
      go_enter Try.func35, Try.ntmps35
      go_wp2
      go_end0
      exact ⟨rfl, hR, Kept.refl _ _⟩
  · have hE' : ((E : Int) == 0) = false := beq_eq_false_iff_ne.2 (by omega)
    rw [if_neg (fun h => hE h.1)]
    go_enter Try.func35, Try.ntmps35
    go_wp2
    go_end0
    exact ⟨rfl, hR, Kept.refl _ _⟩
end Go.Proofs.Ytepgdbpofppdcaa
