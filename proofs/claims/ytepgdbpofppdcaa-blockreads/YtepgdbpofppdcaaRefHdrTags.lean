/- What tuskref06.Tags and tuskref06.GetTags do; nothing old in memory is turned. -/
import Derived.Test.YtepgdbpofppdcaaHdrTags
import Derived.Test.YtepgdbpofppdcaaHdrTagsEnc
import Derived.Test.YtepgdbpofppdcaaInReader
namespace Go.Proofs.Ytepgdbpofppdcaa
open Go.RowKit
set_option linter.unusedVariables false

set_option maxRecDepth 100000 in
set_option maxHeartbeats 1000000 in
theorem refTags_any (ao : Option Addr) (cap : Nat) (l : List TagD) (w : World) (hA : RowAt tagK w ao l) (hn : l.length ≤ 1000) (hsz : ∀ t ∈ l, t.mac.size ≤ 140737488351232) (hlen : (tagsB l).length ≤ 140737488355328) :
    Calls Try.prog 13 #[.slice ao l.length cap] w fun e w' => e = .returned (.string ⟨(tagsB l).toArray⟩) ∧ Below w.heap.size w w' := by
  obtain ⟨i0, hi, hz0, hz1, hz2⟩ := info_parts infoString
  have Hlen : Hid ((tagsB l).length ≤ 140737488355328) := hlen
  clear hlen
  go_enter Try.func13, Try.ntmps13
  go_wp2
  go_loopw [3, 4] (fun v3 v8 wr => ∃ i : Nat, i ≤ l.length ∧ v8 = .int .i64 (i : Int) ∧ KQ strK 9 wr w.heap.size v3 (memT (l.take i)) ∧ Below w.heap.size w wr) (fun _ v _ => l.length - (intOf v).toNat)
  case atStart => exact ⟨0, Nat.zero_le _, rfl, KQ.empty _ _ _ _, Below.refl _ _⟩
  case round =>
    obtain ⟨i, hil, rfl, hq, hb⟩ := hrel
    by_cases hlt : i < l.length
    · obtain ⟨t, ht⟩ : ∃ t, l[i]? = some t := ⟨l[i], List.getElem?_eq_getElem hlt⟩
      obtain ⟨b, off, rfl, hbl, y0, y1⟩ := (hA.below hb).tag ht
      have hms := memT_succ l i t ht
      have hmz := hsz t (List.mem_of_getElem? ht)
      have hml : (memT (l.take i)).length = i := by rw [memT_length, List.length_take]; omega
      have hjo := tag_join t
      obtain ⟨nb, hnb⟩ : ∃ z, z = (⟨(goInt t.who).toArray⟩ : ByteArray) := ⟨_, rfl⟩
      obtain ⟨tb, htb⟩ : ∃ z, z = (⟨(tagB t).toArray⟩ : ByteArray) := ⟨_, rfl⟩
      have cI : Hid (∀ w1, Calls Try.prog 43 #[.int .i64 t.who] w1 fun e w2 => e = .returned (.string nb) ∧ Below w1.heap.size w1 w2) := by
        intro w1
        rw [hnb]
        exact refInt_any _ _
      have hnl : nb.size ≤ 9 := by rw [hnb, size_mk]; exact goInt_length _
      have hsum : ¬ (9223372036854775807 < nb.size + t.mac.size) := by omega
      rw [← hnb, ← htb] at hjo
      rw [← htb] at hms
      have Hms : Hid (memT (l.take (i + 1)) = memT (l.take i) ++ [tb]) := hms
      obtain ⟨ms, hmse⟩ : ∃ q, q = memT (l.take i) := ⟨_, rfl⟩
      rw [← hmse] at hq hml Hms
      clear hnb htb ht hms hmse
      obtain ⟨qa, qc, rfl, hqn, _⟩ := hq.form
      rw [hml] at hq ⊢
      go_wp2_with fail
      go_region_law (first
        | (go_simp; go_at_call 43; refine (cI.out _).mono ?_; rintro e w2 ⟨rfl, hb3⟩; have hb4 : Below wr.heap.size wr w2 := ((Below.refl _ wr).drew).trans hb3; have y1a : w2.cell? ⟨b, off + i * 2 + 1, none⟩ = some (.string t.mac) := (hb4.cell (p := ⟨b, off + i * 2 + 1, none⟩) hbl).trans y1; have hbn := hb4.alloc hb4.size (.cells #[.string tb] 9); have hq4 := hq.below hbn; have hN := new_str w2 tb; have hbs := (hb.trans (hbn.mono hb.size)).size)
        | (refine step_push (K := strK) _ (by rfl) _ _ 24 (by rfl) w.heap.size 9 i0 (.string ⟨#[]⟩) 16 Try.underlying24 hi hz0 hz1 hz2 rfl _ ms (by rfl) hq4 tb trivial (fun _ h => h.elim) ⟨w2.heap.size, 0, none⟩ 1 (by rfl) hN (by rw [hml]; unfold maxLen; omega) (by rw [hml]; omega) hbs ?_; intro ao3 cap3 w3 hq3 hk3))
      all_goals
        have hkB := Kept.below hk3 hbs (fun j hj => (hq4.lt j hj).1)
        have hbF := (hb.trans (hbn.mono hb.size)).trans hkB
        have hq5 : KQ strK 9 w3 w.heap.size (.slice ao3 (i + 1) cap3) (memT (l.take (i + 1))) := by rw [Hms.out, ← hml]; exact hq3
        clear hq3 hk3 hkB hq4 hN hbs hbn y1a hb3 hb4 hq hb y0 y1
        go_wp2
        go_roundw
        case rel => exact ⟨i + 1, by omega, by go_num, hq5, hbF⟩
        case measure => simp [intOf]; omega
    · obtain rfl : i = l.length := by omega
      rw [List.take_length] at hq
      obtain ⟨qa, qc, rfl, hqn, hqt⟩ := hq.form
      have hlst : (lst (bl (memT l))).length ≤ 140737488355328 := by rw [bl_memT]; exact Hlen.out
      have cL := refList_any qa qc (memT l) wr hqt.strs hlst (by rw [memT_length]; omega)
      have hml := memT_length l
      rw [hml] at cL ⊢
      have E : Hid ((⟨(lst (bl (memT l))).toArray⟩ : ByteArray) = ⟨(tagsB l).toArray⟩) := by show _ = _; rw [bl_memT]; rfl
      generalize (⟨(lst (bl (memT l))).toArray⟩ : ByteArray) = r at cL E
      clear hq hqt hlst hml
      go_wp2_with fail
      refine cL.mono ?_
      rintro e w1 ⟨rfl, hb1⟩
      have hbF := hb.trans (hb1.mono hb.size)
      clear cL
      go_wp2
      go_ret
      exact ⟨by rw [E.out]; rfl, hbF⟩

theorem getTag_steps {m : List UInt8} {n k er : Nat} (h : getInt m = (n, k, er)) : getTag m = if er ≠ 0 then .error er else if 6 < n then .error 2 else if m.length - k ≠ 16 then .error 3 else .ok ⟨(n : Int), ⟨(m.drop k).toArray⟩⟩ := by
  unfold getTag
  by_cases he : er ≠ 0
  · rw [rdI_err h he, if_pos he]
  · have e0 : er = 0 := by omega
    subst e0
    rw [rdI_ok h, if_neg he, List.length_drop]

set_option maxRecDepth 100000 in
set_option maxHeartbeats 2000000 in
theorem refGetTags_any (s : ByteArray) (w : World) (hs : s.size ≤ maxLen) :
    Calls Try.prog 9 #[.string s] w fun e w' => GotTags w (getTagsL s.data.toList) e w' := by
  obtain ⟨i0, hi, hz0, hz1, hz2⟩ := info_parts infoTag6
  rcases hr : getList s.data.toList 7 with ⟨ts, k, er⟩
  have c0 := refGetListN s 7 (by omega) w hs ts k er (by exact hr)
  by_cases he : er ≠ 0
  · have H : Hid (getTagsL s.data.toList = ([], 0, er)) := getTags_err hr he
    have hne : ((er : Int) != 0) = true := by rw [bne_iff_ne]; omega
    generalize mks ts = ms at c0
    clear hr
    go_enter Try.func9, Try.ntmps9
    go_wp2_with fail
    refine c0.mono ?_
    rintro e w1 ⟨ao, cap, rfl, h1, h2, h3⟩
    clear c0
    go_wp2
    go_ret3
    exact ⟨[], 0, er, none, 0, rfl, H.out, nil_row _ _, fun _ => rfl, fun b hb => (nil_foot hb).elim, h3⟩
  replace he : er = 0 := by omega
  subst he
  have HG : Hid (getTagsL s.data.toList = _) := getTags_ok hr
  have hgb := getList_back hr
  have hm7 := hgb.2.2.2.1
  have hmsz := hgb.2.2.2.2
  have hml : (mks ts).length = ts.length := by simp [mks]
  have hbm : Hid (bl (mks ts) = ts) := bl_mks ts
  have hmz : Hid (∀ x ∈ mks ts, x.size ≤ maxLen) := by
    intro x hx
    obtain ⟨t, ht, rfl⟩ := List.mem_map.1 hx
    rw [size_mk]
    have := hmsz t ht
    unfold maxLen
    omega
  obtain ⟨ms, hms⟩ : ∃ q, q = mks ts := ⟨_, rfl⟩
  rw [← hms] at c0 hml hbm hmz
  have hm7' : ms.length ≤ 7 := by omega
  have Hml : Hid (ms.length = ts.length) := hml
  clear hms hmsz hgb hr hm7 hml
  go_enter Try.func9, Try.ntmps9
  go_wp2_with fail
  refine c0.mono ?_
  rintro e w1 ⟨ao, cap, rfl, hO, _, hb1⟩
  clear c0
  have hS := hO.at
  clear hO
  go_wp2
  go_loopw [8, 9, 10, 11, 12] (fun v8 v9 v10 v11 v12 wr => ∃ (i : Nat) (l : List TagD), i ≤ ms.length ∧ l.length = i ∧ v9 = .int .i64 (i : Int) ∧ KQ tagK 68 wr w1.heap.size v8 l ∧ Hid (eachE getTag (ts.take i) = .ok l) ∧ Below w1.heap.size w1 wr) (fun _ v _ _ _ _ => ms.length - (intOf v).toNat)
  case atStart => exact ⟨0, [], Nat.zero_le _, rfl, rfl, KQ.empty _ _ _ _, by show _ = _; rfl, Below.refl _ _⟩
  case round =>
    obtain ⟨i, l, hil, hli, rfl, hq, hE, hbb⟩ := hrel
    have hb := hb1.trans (hbb.mono hb1.size)
    by_cases hlt : i < ms.length
    · obtain ⟨b, off, rfl, hbl, hcell⟩ := (hS.below hbb) i hlt
      have hbk : ts[i]? = some ms[i].data.toList := by rw [← hbm.out]; simp [bl, hlt]
      have hek := eachE_take (f := getTag) ts i _ hbk l hE.out
      have hs1 := hmz.out ms[i] (List.getElem_mem hlt)
      obtain ⟨s1, hs1e⟩ : ∃ s, s = ms[i] := ⟨_, rfl⟩
      rw [← hs1e] at hcell hek hs1
      rcases hgi : getInt s1.data.toList with ⟨n, k1, e1⟩
      have cD := fun w1 => refGetInt_at s1 w1 n k1 e1 hs1 hgi
      have hst := getTag_steps hgi
      unfold maxLen at hs1
      have hls : s1.data.toList.length = s1.size := by simp
      rw [hls] at hst
      obtain ⟨qa, qc, rfl, hqn, _⟩ := hq.form
      rw [hli] at hq ⊢
      have hErr : Hid (∀ er, getTag s1.data.toList = .error er → getTagsL s.data.toList = ([], 0, er)) := by
        intro er hg
        have := HG.out
        rw [hek.2 er hg] at this
        exact this
      by_cases he1 : e1 ≠ 0
      · have H := hErr.out e1 (hst.trans (if_pos he1))
        have H' : Hid _ := H
        have hne : ((e1 : Int) != 0) = true := by rw [bne_iff_ne]; omega
        clear H hErr hek hst hgi hE hls hbk hs1e
        go_wp2_with fail
        refine (cD _).mono ?_
        rintro e w2 ⟨rfl, rfl⟩
        clear cD
        go_wp2
        go_ret3
        exact ⟨[], 0, e1, none, 0, rfl, H'.out, nil_row _ _, fun _ => rfl, fun b hb => (nil_foot hb).elim, hb⟩
      have e10 : e1 = 0 := by omega
      subst e10
      rw [if_neg he1] at hst
      have hbd := getInt_bounds _ n k1 hgi
      rw [hls] at hbd
      have hk1 : k1 ≤ s1.size := hbd.2.2
      have hk1' : (k1 : Int) ≤ s1.size := by omega
      by_cases h6 : 6 < n
      · have H := hErr.out 2 (hst.trans (if_pos h6))
        have H' : Hid _ := H
        have h6' : (6 : Int) < (n : Int) := by omega
        clear H hErr hek hst hgi hE hls hbk hs1e hbd
        go_wp2_with fail
        refine (cD _).mono ?_
        rintro e w2 ⟨rfl, rfl⟩
        clear cD
        go_wp2
        go_ret3
        exact ⟨[], 0, 2, none, 0, rfl, H'.out, nil_row _ _, fun _ => rfl, fun b hb => (nil_foot hb).elim, hb⟩
      rw [if_neg h6] at hst
      have h6' : ¬ (6 : Int) < (n : Int) := by omega
      by_cases h16 : s1.size - k1 ≠ 16
      · have H := hErr.out 3 (hst.trans (if_pos h16))
        have H' : Hid _ := H
        have hne : (((s1.size : Int) - (k1 : Int)) != 16) = true := by rw [bne_iff_ne]; omega
        clear H hErr hek hst hgi hE hls hbk hs1e hbd
        go_wp2_with fail
        refine (cD _).mono ?_
        rintro e w2 ⟨rfl, rfl⟩
        clear cD
        go_wp2
        go_ret3
        exact ⟨[], 0, 3, none, 0, rfl, H'.out, nil_row _ _, fun _ => rfl, fun b hb => (nil_foot hb).elim, hb⟩
      rw [if_neg h16] at hst
      have heq : (((s1.size : Int) - (k1 : Int)) != 16) = false := by rw [bne_eq_false_iff_eq]; omega
      have hmk : (⟨(s1.data.toList.drop k1).toArray⟩ : ByteArray) = s1.extract k1 s1.size := by rw [← extract_drop, mk_list]
      rw [hmk] at hst
      have HE : Hid (eachE getTag (ts.take (i + 1)) = .ok (l ++ [⟨(n : Int), s1.extract k1 s1.size⟩])) := hek.1 _ hst
      obtain ⟨mac, hmac⟩ : ∃ q, s1.extract k1 s1.size = q := ⟨_, rfl⟩
      rw [hmac] at HE
      clear hErr hek hst hgi hE hls hbk hs1e hbd hmk h16
      have hbx := belowNew wr (.cells #[.int .i64 (n : Int), .string mac] 68)
      have hbb5 := hbb.trans (hbx.mono hbb.size)
      have hq5 := hq.below hbx
      have hN := Arr.new wr 68 [.int .i64 (n : Int), .string mac]
      have hnews : ∀ j u, (tagK.c ⟨(n : Int), mac⟩)[j]? = some u → (wr.alloc (.cells #[.int .i64 (n : Int), .string mac] 68)).cell? ((⟨wr.heap.size, 0, none⟩ : Addr).add j) = some u := by
        intro j u hu
        rw [Go.WideShapes.add_plain, Nat.zero_add]
        exact hN.cell hu
      clear hq hbx hbb hN
      go_wp2_with fail
      refine (cD _).mono ?_
      rintro e w2 ⟨rfl, rfl⟩
      clear cD
      go_wp2_with (at_builtin; refine wpList_push (K := tagK) rfl _ _ 22 rfl w1.heap.size 68 i0 _ 24 Try.underlying22 hi hz0 hz1 hz2 rfl _ l rfl hq5 ⟨(n : Int), mac⟩ trivial (fun _ h => h.elim) ⟨w2.heap.size, 0, none⟩ 1 rfl hnews ?c3 ?c4 hbb5.size ?_)
      case c3 => unfold maxLen; omega
      case c4 => omega
      intro ao' cap' w3 hq6 hk6
      have hbb6 : Below w1.heap.size w1 w3 := hbb5.trans (hk6.below hbb5.size (fun j hj => (hq5.lt j hj).1))
      clear hq5 hk6 hbb5 hnews hcell
      go_wp2
      go_roundw
      case rel => exact ⟨i + 1, l ++ [⟨(n : Int), mac⟩], by omega, by simp [hli], by go_num, hq6, HE, hbb6⟩
      case measure => simp [intOf]; omega
    · have hii : i = ms.length := by omega
      have H : Hid (getTagsL s.data.toList = (l, k, 0)) := by
        have h1 := hE.out
        have h2 := Hml.out
        rw [List.take_of_length_le (by omega)] at h1
        have := HG.out
        rw [h1] at this
        exact this
      obtain ⟨qa, qc, rfl, hqn, hqt⟩ := hq.form
      have hff := hq.foot_ge (B := w.heap.size) hb1.size (fun _ _ _ h => h.elim)
      clear hE
      go_wp2
      go_ret3
      exact ⟨l, k, 0, qa, qc, rfl, H.out, hqt, hqn, hff, hb⟩
end Go.Proofs.Ytepgdbpofppdcaa
