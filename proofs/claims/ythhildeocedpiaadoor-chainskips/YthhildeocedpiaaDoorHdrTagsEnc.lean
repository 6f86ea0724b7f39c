/- What Tags of package header does; nothing old in memory is turned. -/
import Derived.Test.YthhildeocedpiaaDoorHdrRows
import Derived.Deep.RegionLaw
namespace Go.Proofs.YthhildeocedpiaaDoor
open Go.RowKit
set_option linter.unusedVariables false

/-- Tags' members. -/
def memT (l : List TagD) : List ByteArray := l.map (fun t => ⟨(tagB t).toArray⟩)

theorem memT_length (l : List TagD) : (memT l).length = l.length := by simp [memT]

theorem bl_memT (l : List TagD) : bl (memT l) = l.map tagB := by simp [bl, memT]

theorem memT_succ (l : List TagD) (k : Nat) (t : TagD) (h : l[k]? = some t) : memT (l.take (k + 1)) = memT (l.take k) ++ [⟨(tagB t).toArray⟩] := by
  have hk := (List.getElem?_eq_some_iff.1 h).1
  have he := (List.getElem?_eq_some_iff.1 h).2
  rw [List.take_succ_eq_append_getElem hk, he]
  simp [memT]

theorem tag_join (t : TagD) : (⟨(goInt t.who).toArray⟩ ++ t.mac : ByteArray) = ⟨(tagB t).toArray⟩ := by
  apply ByteArray.ext
  simp [tagB]

theorem new_str (w : World) (s : ByteArray) : ∀ j u, (strK.c s)[j]? = some u → (w.alloc (.cells #[.string s] 9)).cell? ((⟨w.heap.size, 0, none⟩ : Addr).add j) = some u := by
  intro j u hu
  rw [Go.WideShapes.add_plain, Nat.zero_add]
  exact (Arr.new w 9 [.string s]).cell hu

set_option maxRecDepth 100000 in
set_option maxHeartbeats 1000000 in
theorem tags_any (ao : Option Addr) (cap : Nat) (l : List TagD) (w : World) (hA : RowAt tagK w ao l) (hn : l.length ≤ 1000000000) (hsz : ∀ t ∈ l, t.mac.size ≤ 140737488351232) (hlen : (tagsB l).length ≤ 140737488355328) :
    Calls Tryd.prog 49 #[.slice ao l.length cap] w fun e w' => e = .returned (.string ⟨(tagsB l).toArray⟩) ∧ Below w.heap.size w w' := by
  obtain ⟨i0, hi, hz0, hz1, hz2⟩ := info_parts infoString
  have Hlen : Hid ((tagsB l).length ≤ 140737488355328) := hlen
  clear hlen
  go_enter Tryd.func49, Tryd.ntmps49
  go_wp2
  go_loopw [3, 5, 8] (fun v3 v5 v8 wr => ∃ i : Nat, i ≤ l.length ∧ v8 = .int .i64 (i : Int) ∧ KQ strK 9 wr w.heap.size v3 (memT (l.take i)) ∧ Below w.heap.size w wr) (fun _ _ v _ => l.length - (intOf v).toNat)
  case atStart => exact ⟨0, Nat.zero_le _, rfl, KQ.empty _ _ _ _, Below.refl _ _⟩
  case round =>
    obtain ⟨i, hil, rfl, hq, hb⟩ := hrel
    by_cases hlt : i < l.length
    · obtain ⟨t, ht⟩ : ∃ t, l[i]? = some t := ⟨l[i], List.getElem?_eq_getElem hlt⟩
      obtain ⟨b, off, rfl, hbl, y0, y1⟩ := (hA.below hb).tag ht
      have hms := memT_succ l i t ht
      have hmz := hsz t (List.mem_of_getElem? ht)
      have hml : (memT (l.take i)).length = i := by rw [memT_length, List.length_take]; omega
      have hjo := tag_join t
      obtain ⟨nb, hnb⟩ : ∃ z, z = (⟨(goInt t.who).toArray⟩ : ByteArray) := ⟨_, rfl⟩
      obtain ⟨tb, htb⟩ : ∃ z, z = (⟨(tagB t).toArray⟩ : ByteArray) := ⟨_, rfl⟩
      have cI : Hid (∀ w1, Calls Tryd.prog 47 #[.int .i64 t.who] w1 fun e w2 => e = .returned (.string nb) ∧ Below w1.heap.size w1 w2) := by
        intro w1
        rw [hnb]
        exact int_any _ _
      have hnl : nb.size ≤ 9 := by rw [hnb, size_mk]; exact goInt_length _
      have hsum : ¬ (9223372036854775807 < nb.size + t.mac.size) := by omega
      rw [← hnb, ← htb] at hjo
      rw [← htb] at hms
      have Hms : Hid (memT (l.take (i + 1)) = memT (l.take i) ++ [tb]) := hms
      obtain ⟨ms, hmse⟩ : ∃ q, q = memT (l.take i) := ⟨_, rfl⟩
      rw [← hmse] at hq hml Hms
      clear hnb htb ht hms hmse
      have hbx := belowNew wr (.cells #[.int .i64 t.who, .string t.mac] 123)
      have hX := Arr.new wr 123 [.int .i64 t.who, .string t.mac]
      have hb2 := hb.trans (hbx.mono hb.size)
      have hq2 := hq.below hbx
      go_wp2_with fail
      obtain ⟨w1, hw1⟩ : ∃ q, wr.alloc (.cells #[.int .i64 t.who, .string t.mac] 123) = q := ⟨_, rfl⟩
      rw [hw1] at hX hb2 hq2 ⊢
      clear hw1 hbx hq hb y0 y1
      have x0 := hX.cell (i := 0) rfl
      have x1 := hX.cell (i := 1) rfl
      obtain ⟨qa, qc, rfl, hqn, _⟩ := hq2.form
      rw [hml] at hq2 ⊢
      go_region_law (first
        | (go_simp; go_at_call 47; refine (cI.out _).mono ?_; rintro e w2 ⟨rfl, hb3⟩; have hb4 : Below w1.heap.size w1 w2 := ((Below.refl _ w1).drew).trans hb3; have hX2 := hX.below hb4 hX.lt; have x0a := hX2.cell (i := 0) rfl; have x1a := hX2.cell (i := 1) rfl; have hbn := hb4.alloc hb4.size (.cells #[.string tb] 9); have hq4 := hq2.below hbn; have hN := new_str w2 tb; have hbs := (hb2.trans (hbn.mono hb2.size)).size)
        | (refine step_push (K := strK) _ (by rfl) _ _ 23 (by rfl) w.heap.size 9 i0 (.string ⟨#[]⟩) 16 Tryd.underlying23 hi hz0 hz1 hz2 rfl _ ms (by rfl) hq4 tb trivial (fun _ h => h.elim) ⟨w2.heap.size, 0, none⟩ 1 (by rfl) hN (by rw [hml]; unfold maxLen; omega) (by rw [hml]; omega) hbs ?_; intro ao3 cap3 w3 hq3 hk3))
      all_goals
        have hkB := Kept.below hk3 hbs (fun j hj => (hq4.lt j hj).1)
        have hbF := (hb2.trans (hbn.mono hb2.size)).trans hkB
        have hq5 : KQ strK 9 w3 w.heap.size (.slice ao3 (i + 1) cap3) (memT (l.take (i + 1))) := by rw [Hms.out, ← hml]; exact hq3
        clear hq3 hk3 hkB hq4 hN hbs hbn hX2 x0a x1a hb3 hb4 hq2 hb2 hX x0 x1
        go_wp2
        go_roundw
        case rel => exact ⟨i + 1, by omega, by go_num, hq5, hbF⟩
        case measure => simp [intOf]; omega
    · obtain rfl : i = l.length := by omega
      rw [List.take_length] at hq
      obtain ⟨qa, qc, rfl, hqn, hqt⟩ := hq.form
      have hlst : (lst (bl (memT l))).length ≤ 140737488355328 := by rw [bl_memT]; exact Hlen.out
      have cL := list_any qa qc (memT l) wr hqt.strs hlst (by rw [memT_length]; omega)
      have hml := memT_length l
      rw [hml] at cL ⊢
      have E : Hid ((⟨(lst (bl (memT l))).toArray⟩ : ByteArray) = ⟨(tagsB l).toArray⟩) := by show _ = _; rw [bl_memT]; rfl
      generalize (⟨(lst (bl (memT l))).toArray⟩ : ByteArray) = r at cL E
      clear hq hqt hlst hml
      go_wp2_with fail
      refine cL.mono ?_
      rintro e w1 ⟨rfl, hb1⟩
      have hbF := hb.trans (hb1.mono hb.size)
      clear cL
      go_wp2
      go_ret
      exact ⟨by rw [E.out]; rfl, hbF⟩
end Go.Proofs.YthhildeocedpiaaDoor
