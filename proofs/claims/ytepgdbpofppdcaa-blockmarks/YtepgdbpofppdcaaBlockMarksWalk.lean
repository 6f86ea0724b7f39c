/- The walk of BlockMarks. -/
import Derived.Test.YtepgdbpofppdcaaBlkMark
namespace Go.Proofs.Ytepgdbpofppdcaa
open Go.RowKit
set_option linter.unusedVariables false

/-- A mark that is made is told again. -/
theorem mark_told {r : Int} {id : ByteArray} (h : markB r id ≠ ⟨#[]⟩) : isMark (markB r id) ∧ (unR (markB r id) : Int) = r ∧ unI (markB r id) = id := by
  have hn : ¬ (r < 1 ∨ 4611686018427387903 < r ∨ id.size ≠ 32) := fun hc => h (if_pos hc)
  have hm := mark_is hn
  refine ⟨hm, ?_, ?_⟩
  · rw [unR, if_pos hm, mark_round hn]
    omega
  · rw [unI, if_pos hm, mark_id hn]

set_option maxRecDepth 100000 in
set_option maxHeartbeats 2000000 in
theorem blockMarks_walk (r : Int) (id s : ByteArray) (w : World) (hwf : (Lit.int .i64 r).wf = true) (hid : id.size ≤ 140737488351232) (hs : s.size ≤ 140737488351232) :
    Calls Try.prog 5 #[.int .i64 r, .string id, .string s] w fun e w' => e = .returned (.bool true) ∧ Below w.heap.size w w' := by
  by_cases h1 : 1000 < id.size
  · have h1' : (1000 : Int) < id.size := by omega
    go_enter Try.func5, Try.ntmps5
    go_wp2
    go_ret
    exact ⟨rfl, Below.refl _ _⟩
  have h1' : ¬ (1000 : Int) < id.size := by omega
  by_cases h2 : 1000 < s.size
  · have h2' : (1000 : Int) < s.size := by omega
    go_enter Try.func5, Try.ntmps5
    go_wp2
    go_ret
    exact ⟨rfl, Below.refl _ _⟩
  have h2' : ¬ (1000 : Int) < s.size := by omega
  have cM := fun w1 => mark_any r id w1 hid
  have cR := fun w1 => refMark_any r id w1 hid
  have cU := fun w1 => unmark_any s w1
  have cV := fun w1 => refUnmark_any s w1
  have cN := fun w1 => unmark_any (markB r id) w1
  have cB := fun w1 => mark_any (unR s : Int) (unI s) w1 (by unfold unI; split; rw [ByteArray.size_extract]; omega; decide)
  have hT := mark_told (r := r) (id := id)
  have hK : Hid (isMark s → markB (unR s : Int) (unI s) = s) := fun h => by rw [unR, unI, if_pos h, if_pos h]; exact mark_back h
  generalize markB r id = m at cM cR cN hT
  generalize unR m = mr at cN hT
  generalize unI m = mi at cN hT
  generalize unR s = sr at *
  generalize unI s = si at *
  generalize markB (sr : Int) si = sm at *
  have hmd : m ≠ ⟨#[]⟩ → decide (isMark m) = true ∧ (mr : Int) = r ∧ mi = id := fun h => ⟨decide_eq_true (hT h).1, (hT h).2⟩
  have hsd : decide (isMark s) = true → sm = s := fun h => hK.out (of_decide_eq_true h)
  generalize decide (isMark m) = mb at *
  generalize decide (isMark s) = sb at *
  have Hsd : Hid (sb = true → sm = s) := hsd
  have Hmd : Hid (m ≠ ⟨#[]⟩ → mb = true ∧ (mr : Int) = r ∧ mi = id) := hmd
  clear hT hK hsd hmd
  by_cases hm0 : m = ⟨#[]⟩
  · subst hm0
    clear Hmd
    cases sb with
    | false =>
      clear Hsd cB
      go_enter Try.func5, Try.ntmps5
      go_wp2_with fail
      refine (cM _).mono ?_
      rintro e w1 ⟨rfl, hb1⟩
      clear cM
      go_wp2_with fail
      refine (cU _).mono ?_
      rintro e w2 ⟨rfl, hb2⟩
      replace hb2 := hb1.trans (hb2.mono hb1.size)
      clear cU hb1
      go_wp2_with fail
      refine (cV _).mono ?_
      rintro e w3 ⟨rfl, hb3⟩
      replace hb3 := hb2.trans (hb3.mono hb2.size)
      clear cV hb2
      go_wp2_with fail
      refine (cR _).mono ?_
      rintro e w4 ⟨rfl, hb4⟩
      replace hb4 := hb3.trans (hb4.mono hb3.size)
      clear cR hb3
      go_wp2_with fail
      refine (cN _).mono ?_
      rintro e w5 ⟨rfl, hb5⟩
      replace hb5 := hb4.trans (hb5.mono hb4.size)
      clear cN hb4
      go_wp2
      go_ret
      exact ⟨rfl, hb5⟩
    | true =>
      have e := Hsd.out rfl
      subst e
      clear Hsd
      go_enter Try.func5, Try.ntmps5
      go_wp2_with fail
      refine (cM _).mono ?_
      rintro e w1 ⟨rfl, hb1⟩
      clear cM
      go_wp2_with fail
      refine (cU _).mono ?_
      rintro e w2 ⟨rfl, hb2⟩
      replace hb2 := hb1.trans (hb2.mono hb1.size)
      clear cU hb1
      go_wp2_with fail
      refine (cV _).mono ?_
      rintro e w3 ⟨rfl, hb3⟩
      replace hb3 := hb2.trans (hb3.mono hb2.size)
      clear cV hb2
      go_wp2_with fail
      refine (cR _).mono ?_
      rintro e w4 ⟨rfl, hb4⟩
      replace hb4 := hb3.trans (hb4.mono hb3.size)
      clear cR hb3
      go_wp2_with fail
      refine (cN _).mono ?_
      rintro e w5 ⟨rfl, hb5⟩
      replace hb5 := hb4.trans (hb5.mono hb4.size)
      clear cN hb4
      go_wp2_with fail
      refine (cB _).mono ?_
      rintro e w6 ⟨rfl, hb6⟩
      replace hb6 := hb5.trans (hb6.mono hb5.size)
      clear cB hb5
      go_wp2
      go_ret
      exact ⟨rfl, hb6⟩
  · obtain ⟨e1, e2, e3⟩ := Hmd.out hm0
    subst e1 e2 e3
    clear Hmd
    have hme : ¬ m.toList = [] := fun h => hm0 (bytes_ext (by rw [← ByteArray.toList_eq, h]))
    cases sb with
    | false =>
      clear Hsd cB
      go_enter Try.func5, Try.ntmps5
      go_wp2_with fail
      refine (cM _).mono ?_
      rintro e w1 ⟨rfl, hb1⟩
      clear cM
      go_wp2_with fail
      refine (cU _).mono ?_
      rintro e w2 ⟨rfl, hb2⟩
      replace hb2 := hb1.trans (hb2.mono hb1.size)
      clear cU hb1
      go_wp2_with fail
      refine (cV _).mono ?_
      rintro e w3 ⟨rfl, hb3⟩
      replace hb3 := hb2.trans (hb3.mono hb2.size)
      clear cV hb2
      go_wp2_with fail
      refine (cR _).mono ?_
      rintro e w4 ⟨rfl, hb4⟩
      replace hb4 := hb3.trans (hb4.mono hb3.size)
      clear cR hb3
      go_wp2_with fail
      refine (cN _).mono ?_
      rintro e w5 ⟨rfl, hb5⟩
      replace hb5 := hb4.trans (hb5.mono hb4.size)
      clear cN hb4
      go_wp2
      go_ret
      exact ⟨rfl, hb5⟩
    | true =>
      have e := Hsd.out rfl
      subst e
      clear Hsd
      go_enter Try.func5, Try.ntmps5
      go_wp2_with fail
      refine (cM _).mono ?_
      rintro e w1 ⟨rfl, hb1⟩
      clear cM
      go_wp2_with fail
      refine (cU _).mono ?_
      rintro e w2 ⟨rfl, hb2⟩
      replace hb2 := hb1.trans (hb2.mono hb1.size)
      clear cU hb1
      go_wp2_with fail
      refine (cV _).mono ?_
      rintro e w3 ⟨rfl, hb3⟩
      replace hb3 := hb2.trans (hb3.mono hb2.size)
      clear cV hb2
      go_wp2_with fail
      refine (cR _).mono ?_
      rintro e w4 ⟨rfl, hb4⟩
      replace hb4 := hb3.trans (hb4.mono hb3.size)
      clear cR hb3
      go_wp2_with fail
      refine (cN _).mono ?_
      rintro e w5 ⟨rfl, hb5⟩
      replace hb5 := hb4.trans (hb5.mono hb4.size)
      clear cN hb4
      go_wp2_with fail
      refine (cB _).mono ?_
      rintro e w6 ⟨rfl, hb6⟩
      replace hb6 := hb5.trans (hb6.mono hb5.size)
      clear cB hb5
      go_wp2
      go_ret
      exact ⟨rfl, hb6⟩
end Go.Proofs.Ytepgdbpofppdcaa
