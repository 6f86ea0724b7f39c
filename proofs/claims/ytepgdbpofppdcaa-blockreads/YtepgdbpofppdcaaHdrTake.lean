/- What package header's reader does: each step turns its block alone. -/
import Derived.Test.YtepgdbpofppdcaaHdrRows
import Derived.Test.YtepgdbpofppdcaaRunX
namespace Go.Proofs.Ytepgdbpofppdcaa
open Go.RowKit
set_option linter.unusedVariables false

/-- A reader's block: what is left, and the error. -/
abbrev RdAt (T : TypeId) (w : World) (rb : Nat) (rest : ByteArray) (E : Nat) : Prop := Arr w rb T [.string rest, .int .i64 (E : Int)]

set_option maxRecDepth 100000 in
set_option maxHeartbeats 400000 in
theorem takeInt_k (rb : Nat) (w : World) (rest : ByteArray) (E : Nat) (hR : Arr w rb 54 [.string rest, .int .i64 (E : Int)]) (hs : rest.size ≤ maxLen) :
    Calls Try.prog 28 #[.pointer (some ⟨rb, 0, none⟩), .func (.func 29) #[] #[]] w fun e w' => ∃ (n E' : Nat) (rest' : ByteArray), e = .returned (.int .i64 (n : Int)) ∧ n ≤ 4611686018427387903 ∧ rest'.size ≤ maxLen ∧
      (∀ (α : Type) (f : Nat → List UInt8 → Except Nat α), runX E (rdI rest.data.toList f) = runX E' (f n rest'.data.toList)) ∧ Arr w' rb 54 [.string rest', .int .i64 (E' : Int)] ∧ Kept (fun k => k = rb) w w' := by
  have c0 := hR.cell (i := 0) rfl
  have c1 := hR.cell (i := 1) rfl
  have f0 := hR.frozen 0
  have f1 := hR.frozen 1
  by_cases hE : E = 0
  · subst hE
    rcases hr : getInt rest.data.toList with ⟨n, k, er⟩
    have hl : rest.data.toList.length = rest.size := by simp
    have cG := fun w1 => getInt_at rest w1 n k er hs hr
    by_cases he : er = 0
    · subst he
      have hb := getInt_bounds _ n k hr
      have hk : (k : Int) ≤ rest.size := by omega
      have hstep : Hid (∀ (α : Type) (f : Nat → List UInt8 → Except Nat α), runX 0 (rdI rest.data.toList f) = runX 0 (f n (rest.extract k rest.size).data.toList)) := by
        intro α f
        rw [rdI_ok hr, extract_drop]
      have fin := hR.set 0 (.string (rest.extract k rest.size))
      have kin := (Kept.refl (fun k => k = rb) w).set (p := ⟨rb, 0, none⟩) rfl (.string (rest.extract k rest.size))
      have hsz := rest_le rest k hs
      have hn := hb.1
      clear hR hr hl hs hb
      go_enter Try.func28, Try.ntmps28
      go_wp2_with fail
      refine (cG _).mono ?_
      rintro e w1 ⟨rfl, rfl⟩
      go_wp2
      go_ret
      exact ⟨n, 0, rest.extract k rest.size, rfl, hn, hsz, hstep.out, fin, kin⟩
    · have hstep : Hid (∀ (α : Type) (f : Nat → List UInt8 → Except Nat α), runX 0 (rdI rest.data.toList f) = runX er (f 0 rest.data.toList)) := by
        intro α f
        rw [rdI_err hr he, runX_err he]
        rfl
      have fin := hR.set 1 (.int .i64 (er : Int))
      have kin := (Kept.refl (fun k => k = rb) w).set (p := ⟨rb, 1, none⟩) rfl (.int .i64 (er : Int))
      have hne : ((er : Int) != 0) = true := by rw [bne_iff_ne]; omega
      clear hR hr hl
      go_enter Try.func28, Try.ntmps28
      go_wp2_with fail
      refine (cG _).mono ?_
      rintro e w1 ⟨rfl, rfl⟩
      go_wp2
      go_ret
      exact ⟨0, er, rest, rfl, by omega, hs, hstep.out, fin, kin⟩
  · have hE' : ((E : Int) != 0) = true := by rw [bne_iff_ne]; omega
    go_enter Try.func28, Try.ntmps28
    go_wp2
    go_ret
    exact ⟨0, E, rest, rfl, by omega, hs, fun α f => by rw [runX_err hE, runX_err hE], hR, Kept.refl _ _⟩

set_option maxRecDepth 100000 in
set_option maxHeartbeats 400000 in
theorem takeText_k (rb : Nat) (w : World) (rest : ByteArray) (E : Nat) (hR : Arr w rb 54 [.string rest, .int .i64 (E : Int)]) (hs : rest.size ≤ maxLen) :
    Calls Try.prog 62 #[.pointer (some ⟨rb, 0, none⟩), .func (.func 45) #[] #[]] w fun e w' => ∃ (t : List UInt8) (E' : Nat) (rest' : ByteArray), e = .returned (.string ⟨t.toArray⟩) ∧ t.length ≤ 65536 ∧ rest'.size ≤ maxLen ∧
      (∀ (α : Type) (f : List UInt8 → List UInt8 → Except Nat α), runX E (rdT rest.data.toList f) = runX E' (f t rest'.data.toList)) ∧ Arr w' rb 54 [.string rest', .int .i64 (E' : Int)] ∧ Kept (fun k => k = rb) w w' := by
  have c0 := hR.cell (i := 0) rfl
  have c1 := hR.cell (i := 1) rfl
  have f0 := hR.frozen 0
  have f1 := hR.frozen 1
  by_cases hE : E = 0
  · subst hE
    rcases hr : getText rest.data.toList with ⟨t, k, er⟩
    have hl : rest.data.toList.length = rest.size := by simp
    have cG := fun w1 => getText_at rest w1 t k er hs hr
    by_cases he : er = 0
    · subst he
      have hb := getText_bounds _ t k hr
      have hk : (k : Int) ≤ rest.size := by omega
      have hstep : Hid (∀ (α : Type) (f : List UInt8 → List UInt8 → Except Nat α), runX 0 (rdT rest.data.toList f) = runX 0 (f t (rest.extract k rest.size).data.toList)) := by
        intro α f
        rw [rdT_ok hr, extract_drop]
      have fin := hR.set 0 (.string (rest.extract k rest.size))
      have kin := (Kept.refl (fun k => k = rb) w).set (p := ⟨rb, 0, none⟩) rfl (.string (rest.extract k rest.size))
      have hsz := rest_le rest k hs
      have hn : Hid (t.length ≤ 65536) := hb.2.2.1
      clear hR hr hl hs hb
      go_enter Try.func62, Try.ntmps62
      go_wp2_with fail
      refine (cG _).mono ?_
      rintro e w1 ⟨rfl, rfl⟩
      go_wp2
      go_ret
      exact ⟨t, 0, rest.extract k rest.size, rfl, hn.out, hsz, hstep.out, fin, kin⟩
    · have hstep : Hid (∀ (α : Type) (f : List UInt8 → List UInt8 → Except Nat α), runX 0 (rdT rest.data.toList f) = runX er (f [] rest.data.toList)) := by
        intro α f
        rw [rdT_err hr he, runX_err he]
        rfl
      have fin := hR.set 1 (.int .i64 (er : Int))
      have kin := (Kept.refl (fun k => k = rb) w).set (p := ⟨rb, 1, none⟩) rfl (.int .i64 (er : Int))
      have hne : ((er : Int) != 0) = true := by rw [bne_iff_ne]; omega
      clear hR hr hl
      go_enter Try.func62, Try.ntmps62
      go_wp2_with fail
      refine (cG _).mono ?_
      rintro e w1 ⟨rfl, rfl⟩
      go_wp2
      go_ret
      exact ⟨[], er, rest, rfl, by simp, hs, hstep.out, fin, kin⟩
  · have hE' : ((E : Int) != 0) = true := by rw [bne_iff_ne]; omega
    go_enter Try.func62, Try.ntmps62
    go_wp2
    go_ret
    exact ⟨[], E, rest, rfl, by simp, hs, fun α f => by rw [runX_err hE, runX_err hE], hR, Kept.refl _ _⟩

set_option maxRecDepth 100000 in
theorem getParents_any (s : ByteArray) (w : World) (hs : s.size ≤ maxLen) (ts : List (List UInt8)) (k er : Nat) (hr : getList s.data.toList 7 = (ts, k, er)) :
    Calls Try.prog 32 #[.string s] w fun e w' => ∃ ao cap, e = .returned (.tuple #[.slice ao (mks ts).length cap, .int .i64 (k : Int), .int .i64 (er : Int)]) ∧ OwnStrs w.heap.size w' ao (mks ts) ∧ (ao = none → cap = 0) ∧ Below w.heap.size w w' := by
  have c2 := getListN s 7 (by omega) w hs ts k er (by exact hr)
  generalize mks ts = ms at c2 ⊢
  go_enter Try.func32, Try.ntmps32
  go_wp2_with fail
  refine c2.mono ?_
  rintro e w1 ⟨ao, cap, rfl, h1, h2, h3⟩
  go_wp2
  go_ret3
  exact ⟨ao, cap, rfl, h1, h2, h3⟩

set_option maxRecDepth 100000 in
set_option maxHeartbeats 1000000 in
theorem takeList_k (rb : Nat) (w : World) (rest : ByteArray) (E : Nat) (hR : Arr w rb 54 [.string rest, .int .i64 (E : Int)]) (hs : rest.size ≤ maxLen) :
    Calls Try.prog 31 #[.pointer (some ⟨rb, 0, none⟩), .func (.func 32) #[] #[]] w fun e w' => ∃ (ts : List (List UInt8)) (E' : Nat) (rest' : ByteArray) (ao : Option Addr) (cap : Nat), e = .returned (.slice ao (mks ts).length cap) ∧ (∀ t ∈ ts, t.length ≤ 65536) ∧ ts.length ≤ 7 ∧ rest'.size ≤ maxLen ∧
      (∀ (α : Type) (f : List (List UInt8) → List UInt8 → Except Nat α), runX E (rdL 7 rest.data.toList f) = runX E' (f ts rest'.data.toList)) ∧ OwnStrs w.heap.size w' ao (mks ts) ∧ (ao = none → cap = 0) ∧ Arr w' rb 54 [.string rest', .int .i64 (E' : Int)] ∧ Kept (fun k => k = rb) w w' := by
  have c0 := hR.cell (i := 0) rfl
  have c1 := hR.cell (i := 1) rfl
  by_cases hE : E = 0
  · subst hE
    rcases hr : getList rest.data.toList 7 with ⟨ts, k, er⟩
    have hl : rest.data.toList.length = rest.size := by simp
    have cG := fun w1 => getParents_any rest w1 hs ts k er hr
    obtain ⟨ms, hms⟩ : ∃ q, q = mks ts := ⟨_, rfl⟩
    simp only [← hms] at cG
    have Hms : Hid (ms = mks ts) := hms
    clear hms
    by_cases he : er = 0
    · subst he
      have hgb := getList_back hr
      have b3 := hgb.2.2.1
      have b4 := hgb.2.2.2.1
      have b5 := hgb.2.2.2.2
      clear hgb
      have hk : (k : Int) ≤ rest.size := by omega
      have hstep : Hid (∀ (α : Type) (f : List (List UInt8) → List UInt8 → Except Nat α), runX 0 (rdL 7 rest.data.toList f) = runX 0 (f ts (rest.extract k rest.size).data.toList)) := by
        intro α f
        rw [rdL_ok hr, extract_drop]
      have hsz := rest_le rest k hs
      have hn : Hid ((∀ t ∈ ts, t.length ≤ 65536) ∧ ts.length ≤ 7) := ⟨b5, by omega⟩
      clear hr hl hs b3 b4 b5
      go_enter Try.func31, Try.ntmps31
      go_wp2_with fail
      refine (cG _).mono ?_
      rintro e w1 ⟨ao, cap, rfl, hO, hn2, hb⟩
      have hR1 := hR.below hb hR.lt
      have fin := hR1.set 0 (.string (rest.extract k rest.size))
      have kin := (Kept.of_below (S := fun k => k = rb) hb).set (p := ⟨rb, 0, none⟩) rfl (.string (rest.extract k rest.size))
      have hOF := hO.put (p := ⟨rb, 0, none⟩) hR.lt (.string (rest.extract k rest.size))
      have d0 := hR1.cell (i := 0) rfl
      have f0 := hR1.frozen 0
      clear hR hR1 c0 c1 hO hb cG
      go_wp2
      go_ret
      refine ⟨ts, 0, rest.extract k rest.size, ao, cap, by rw [← Hms.out]; rfl, hn.out.1, hn.out.2, hsz, hstep.out, ?_, hn2, fin, kin⟩
      rw [← Hms.out]
      exact hOF
    · have hstep : Hid (∀ (α : Type) (f : List (List UInt8) → List UInt8 → Except Nat α), runX 0 (rdL 7 rest.data.toList f) = runX er (f [] rest.data.toList)) := by
        intro α f
        rw [rdL_err hr he, runX_err he]
        rfl
      have hne : ((er : Int) != 0) = true := by rw [bne_iff_ne]; omega
      clear hr hl
      go_enter Try.func31, Try.ntmps31
      go_wp2_with fail
      refine (cG _).mono ?_
      rintro e w1 ⟨ao, cap, rfl, hO, hn2, hb⟩
      have hR1 := hR.below hb hR.lt
      have fin := hR1.set 1 (.int .i64 (er : Int))
      have kin := (Kept.of_below (S := fun k => k = rb) hb).set (p := ⟨rb, 1, none⟩) rfl (.int .i64 (er : Int))
      have d1 := hR1.cell (i := 1) rfl
      have f1 := hR1.frozen 1
      clear hR hR1 c0 c1 hO hb cG
      go_wp2
      go_ret
      exact ⟨[], er, rest, none, 0, rfl, by simp, by simp, hs, hstep.out, (fun j hj => absurd hj (by simp [mks])), fun _ => rfl, fin, kin⟩
  · have hE' : ((E : Int) != 0) = true := by rw [bne_iff_ne]; omega
    go_enter Try.func31, Try.ntmps31
    go_wp2
    go_ret
    exact ⟨[], E, rest, none, 0, rfl, by simp, by simp, hs, fun α f => by rw [runX_err hE, runX_err hE], (fun j hj => absurd hj (by simp [mks])), fun _ => rfl, hR, Kept.refl _ _⟩

set_option maxRecDepth 100000 in
set_option maxHeartbeats 400000 in
theorem refuse_k (rb : Nat) (w : World) (rest : ByteArray) (E : Nat) (b : Bool) (er : Nat) (hR : Arr w rb 54 [.string rest, .int .i64 (E : Int)]) :
    Calls Try.prog 33 #[.pointer (some ⟨rb, 0, none⟩), .bool b, .int .i64 (er : Int)] w fun e w' => e = .returned (.tuple #[]) ∧ Arr w' rb 54 [.string rest, .int .i64 ((if b = true ∧ E = 0 then er else E : Nat) : Int)] ∧ Kept (fun k => k = rb) w w' := by
  have c1 := hR.cell (i := 1) rfl
  have f1 := hR.frozen 1
  cases b with
  | false =>
    rw [if_neg (by simp)]
    go_enter Try.func33, Try.ntmps33
    go_wp2
    go_end0
    exact ⟨rfl, hR, Kept.refl _ _⟩
  | true =>
    by_cases hE : E = 0
    · subst hE
      rw [if_pos ⟨rfl, rfl⟩]
      have fin := hR.set 1 (.int .i64 (er : Int))
      have kin := (Kept.refl (fun k => k = rb) w).set (p := ⟨rb, 1, none⟩) rfl (.int .i64 (er : Int))
      go_enter Try.func33, Try.ntmps33
      go_wp2
      go_end0
      exact ⟨rfl, fin, kin⟩
    · have hE' : ((E : Int) == 0) = false := beq_eq_false_iff_ne.2 (by omega)
      rw [if_neg (fun h => hE h.2)]
      go_enter Try.func33, Try.ntmps33
      go_wp2
      go_end0
      exact ⟨rfl, hR, Kept.refl _ _⟩
end Go.Proofs.Ytepgdbpofppdcaa
