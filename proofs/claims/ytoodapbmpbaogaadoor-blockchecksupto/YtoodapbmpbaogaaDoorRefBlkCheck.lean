/- What tuskref04.Has, tuskref08.CheckQc and tuskref08.Check do; nothing old in memory is turned. -/
import Derived.Test.YtoodapbmpbaogaaDoorBlkCheck
import Derived.Test.YtoodapbmpbaogaaDoorRefBlkWord
import Derived.Test.YtoodapbmpbaogaaDoorRefAuthAll
import Derived.Deep.QuietTactic
import Derived.BigQuiet
namespace Go.Proofs.YtoodapbmpbaogaaDoor
open Go.RowKit Go.Sort
set_option linter.unusedVariables false

theorem hasB_take {l : List ByteArray} {k : Nat} {y : ByteArray} (h : l[k]? = some y) (m : ByteArray) : hasB (l.take (k + 1)) m = (hasB (l.take k) m || y.data.toList == m.data.toList) := by
  obtain ⟨hk, rfl⟩ := List.getElem?_eq_some_iff.1 h
  rw [← List.take_append_getElem hk, hasB_snoc]

theorem hasB_yes {l : List ByteArray} {k : Nat} {y m : ByteArray} (h : l[k]? = some y) (e : (y.data.toList == m.data.toList) = true) : hasB l m = true := by
  unfold hasB
  rw [List.any_eq_true]
  exact ⟨y, List.mem_of_getElem? h, e⟩

set_option maxRecDepth 100000 in
set_option maxHeartbeats 1000000 in
theorem refHasB_any (ao : Option Addr) (cap : Nat) (l : List ByteArray) (m : ByteArray) (w : World) (hA : RowAt strK w ao l) (hn : l.length ≤ 4611686018427387903) :
    Calls Tryd.prog 46 #[.slice ao l.length cap, .string m] w fun e w' => e = .returned (.bool (hasB l m)) ∧ w' = w := by
  obtain ⟨out, hout⟩ : ∃ q, Hid (q = hasB l m) := ⟨_, rfl⟩
  rw [← hout.out]
  go_enter Tryd.func46, Tryd.ntmps46
  go_wp2
  go_loopw [5] (fun v5 wr => ∃ k : Nat, k ≤ l.length ∧ v5 = .int .i64 (k : Int) ∧ hasB (l.take k) m = false ∧ wr = w) (fun v _ => l.length - (intOf v).toNat)
  case atStart => exact ⟨0, Nat.zero_le _, rfl, rfl, rfl⟩
  case round =>
    obtain ⟨k, hk, rfl, hno, rfl⟩ := hrel
    by_cases hlt : k < l.length
    · obtain ⟨y, hy⟩ : ∃ y, l[k]? = some y := ⟨l[k], List.getElem?_eq_getElem hlt⟩
      obtain ⟨b, off, rfl, hbl, hc⟩ := hA.cell k y hy
      have c0 := hc 0 (.string y) rfl
      have e0 : off + k * strK.n + 0 = off + k := by show off + k * 1 + 0 = _; omega
      rw [e0] at c0
      have hst := hasB_take hy m
      rw [hno, Bool.false_or] at hst
      rw [← ByteArray.toList_eq, ← ByteArray.toList_eq] at hst
      cases he : (y.toList == m.toList) with
      | true =>
        have hf : Hid (out = true) := hout.out.trans (hasB_yes hy (by rw [← ByteArray.toList_eq, ← ByteArray.toList_eq]; exact he))
        clear hc hst e0 hy hno
        go_wp2
        go_ret
        exact ⟨by rw [hf.out]; rfl, rfl⟩
      | false =>
        have hno2 : Hid (hasB (l.take (k + 1)) m = false) := hst.trans he
        clear hc hst e0 hy hno
        go_wp2
        go_roundw
        case rel => exact ⟨k + 1, by omega, by go_num, hno2.out, trivial⟩
        case measure => simp [intOf]; omega
    · have hf : Hid (out = false) := by
        show _ = _
        rw [hout.out, ← hno, List.take_of_length_le (by omega)]
      clear hno
      go_wp2
      go_ret
      exact ⟨by rw [hf.out]; rfl, rfl⟩

set_option maxRecDepth 100000 in
set_option maxHeartbeats 4000000 in
theorem refCheckQc_any (tb f : Nat) (ks : List ByteArray) (x : QcM) (w : World) (hT : Mx.TabAt w tb f ks) (hf : f ≤ 2) (hkl : ks.length = 3 * f + 1) (hks : ∀ k ∈ ks, k.size ≤ 32) (hA : x.At w) (hvm : x.votes.length ≤ maxLen) (hG : Mx.Glob w) :
    Calls Tryd.prog 14 #[.pointer (some ⟨tb, 0, none⟩), x.v] w fun e w' => e = .returned (.int .i64 (chkQ ks f x.d : Int)) ∧ Below w.heap.size w w' := by
  have hX := Arr.new w 24 x.c
  have hB := belowNew w (.cells x.c.toArray 24)
  have hA1 := hA.below hB
  have hT1 := hT.below hB
  have hG1 := hG.below hB
  obtain ⟨out, hout⟩ : ∃ q, Hid (q = chkQ ks f x.d) := ⟨_, rfl⟩
  rw [← hout.out]
  obtain ⟨v, b, va, l, vc⟩ := x
  have HC : Hid (out = if v < 0 ∨ 4611686018427387903 < v then 2 else if v = 0 then (if isGen b = true ∧ l.length = 0 then 0 else 3) else if b.size ≠ 32 then 3 else enA ks f v b l) := hout.out
  unfold QcM.v
  unfold QcM.c at hX hB hA1 hT1 hG1
  simp only at hX hB hA1 hT1 hG1 hvm ⊢
  obtain ⟨w1, hw1⟩ : ∃ q, w.alloc (.cells [.int .i64 v, .string b, .slice va l.length vc].toArray 24) = q := ⟨_, rfl⟩
  rw [hw1] at hX hB hA1 hT1 hG1
  have x0 := hX.cell (i := 0) rfl
  clear hout
  by_cases h1 : v < 0
  · have HF : Hid (out = 2) := HC.out.trans (if_pos (Or.inl h1))
    clear HC
    go_enter Tryd.func14, Tryd.ntmps14
    go_wp2
    go_ret
    exact ⟨by rw [HF.out]; rfl, hB⟩
  by_cases h2 : 4611686018427387903 < v
  · have HF : Hid (out = 2) := HC.out.trans (if_pos (Or.inr h2))
    clear HC
    go_enter Tryd.func14, Tryd.ntmps14
    go_wp2
    go_ret
    exact ⟨by rw [HF.out]; rfl, hB⟩
  have HC2 := HC.out.trans (if_neg (fun h => h.elim h1 h2))
  clear HC
  have bl := fun d os => below_regrown w1 d os
  have kG : ∀ d os, Calls Tryd.prog 49 #[] (grow (redrawn w1 d) os) fun e w'' => e = .returned (.string gen32) ∧ ∃ p : Regrown, w'' = grow (redrawn w1 p.d) p.os := fun d os => Calls.regrown_of (refGenesis_any _)
  have A0 := cell_regrown (hX.cell (i := 0) rfl)
  have A1 := cell_regrown (hX.cell (i := 1) rfl)
  have A2 := cell_regrown (hX.cell (i := 2) rfl)
  have HBF : Hid (∀ d os, Below w.heap.size w (grow (redrawn w1 d) os)) := fun d os => hB.trans ((bl d os).mono hB.size)
  have HXF : Hid (∀ d os, Arr (grow (redrawn w1 d) os) w.heap.size 24 [.int .i64 v, .string b, .slice va l.length vc]) := fun d os => hX.below (bl d os) hX.lt
  by_cases h3 : v = 0
  · subst h3
    have HC3 := HC2.trans (if_pos rfl)
    clear HC2 h1 h2
    cases hg : isGen b with
    | false =>
      have HF : Hid (out = 3) := HC3.trans (if_neg (fun h => by rw [hg] at h; exact absurd h.1 (by decide)))
      have hbe : (b.toList == gen32.toList) = false := by rw [ByteArray.toList_eq, ByteArray.toList_eq]; exact hg
      clear HC3 hg
      generalize gen32 = gb at *
      go_enter Tryd.func14, Tryd.ntmps14
      go_wp2_with fail
      refine wp_region_quiet_below (by kernel_rfl) (by kernel_rfl) ?_
      iterate 6 (go_big_quiet_step (fail))
      go_big_quiet_step (exact kG _ _)
      iterate 9 (go_big_quiet_step (fail))
      refine wpQuiet_nil ?_
      rintro w' ⟨p, rfl⟩
      have hBF := HBF.out p.d p.os
      have hXF := HXF.out p.d p.os
      generalize grow (redrawn w1 p.d) p.os = w6 at hBF hXF ⊢
      clear kG A0 A1 A2 HBF HXF x0
      have x0 := hXF.cell (i := 0) rfl
      go_wp2
      go_ret
      exact ⟨by rw [HF.out]; rfl, hBF⟩
    | true =>
      have hge := isGen_yes hg
      subst hge
      by_cases hl : l.length = 0
      · have HF : Hid (out = 0) := HC3.trans (if_pos ⟨hg, hl⟩)
        have hl2 : decide ((l.length : Int) = 0) = true := decide_eq_true (by omega)
        have hl3 : ((l.length : Int) == 0) = true := by rw [beq_iff_eq]; omega
        have Hl : Hid (l.length = 0) := hl
        clear HC3 hg hl
        generalize gen32 = gb at *
        go_enter Tryd.func14, Tryd.ntmps14
        go_wp2_with fail
        refine wp_region_quiet_below (by kernel_rfl) (by kernel_rfl) ?_
        iterate 6 (go_big_quiet_step (fail))
        go_big_quiet_step (exact kG _ _)
        iterate 9 (go_big_quiet_step (fail))
        refine wpQuiet_nil ?_
        rintro w' ⟨p, rfl⟩
        have hBF := HBF.out p.d p.os
        generalize grow (redrawn w1 p.d) p.os = w6 at hBF ⊢
        clear kG A0 A1 A2 HBF HXF x0
        go_wp2
        go_ret
        exact ⟨by rw [HF.out]; rfl, hBF⟩
      · have HF : Hid (out = 3) := HC3.trans (if_neg (fun h => hl h.2))
        have hl2 : decide ((l.length : Int) = 0) = false := decide_eq_false (by omega)
        have hl3 : ((l.length : Int) == 0) = false := by rw [beq_eq_false_iff_ne]; omega
        clear HC3 hg
        generalize gen32 = gb at *
        go_enter Tryd.func14, Tryd.ntmps14
        go_wp2_with fail
        refine wp_region_quiet_below (by kernel_rfl) (by kernel_rfl) ?_
        iterate 6 (go_big_quiet_step (fail))
        go_big_quiet_step (exact kG _ _)
        iterate 9 (go_big_quiet_step (fail))
        refine wpQuiet_nil ?_
        rintro w' ⟨p, rfl⟩
        have hBF := HBF.out p.d p.os
        have hXF := HXF.out p.d p.os
        generalize grow (redrawn w1 p.d) p.os = w6 at hBF hXF ⊢
        clear kG A0 A1 A2 HBF HXF x0
        have x0 := hXF.cell (i := 0) rfl
        go_wp2
        go_ret
        exact ⟨by rw [HF.out]; rfl, hBF⟩
  have HC3 := HC2.trans (if_neg h3)
  clear HC2
  have d3 : decide (v = 0) = false := decide_eq_false h3
  have d3' : (v == 0) = false := by rw [beq_eq_false_iff_ne]; exact h3
  by_cases h4 : b.size ≠ 32
  · have HF : Hid (out = 3) := HC3.trans (if_pos h4)
    have h4' : (b.size : Int) ≠ 32 := by omega
    clear HC3
    go_enter Tryd.func14, Tryd.ntmps14
    go_wp2_with fail
    refine wp_region_quiet_below (by kernel_rfl) (by kernel_rfl) ?_
    iterate 16 (go_big_quiet_step (fail))
    refine wpQuiet_nil ?_
    rintro w' ⟨p, rfl⟩
    have hBF := HBF.out p.d p.os
    have hXF := HXF.out p.d p.os
    generalize grow (redrawn w1 p.d) p.os = w6 at hBF hXF ⊢
    clear kG A0 A1 A2 HBF HXF x0
    have x0 := hXF.cell (i := 0) rfl
    have x1 := hXF.cell (i := 1) rfl
    go_wp2
    go_ret
    exact ⟨by rw [HF.out]; rfl, hBF⟩
  have HF0 := HC3.trans (if_neg h4)
  have h4' : (b.size : Int) = 32 := by omega
  have hb32 : b.size ≤ 140737488351232 := by omega
  obtain ⟨wb, hwb⟩ : ∃ q, Hid (q = wordB v b) := ⟨_, rfl⟩
  have hwz : wb.size ≤ 1000 := by
    rw [hwb.out, wordB, size_mk, List.length_append]
    have := goInt_length v
    have h5 : b.data.toList.length = b.size := by simp
    omega
  obtain ⟨ev, hev⟩ : ∃ q, Hid (q = enA ks f v b l) := ⟨_, rfl⟩
  have HF : Hid (out = ev) := by rw [hev.out]; exact HF0
  have HA : Hid (∀ d os, Mx.TabAt (grow (redrawn w1 d) os) tb f ks ∧ RowAt tagK (grow (redrawn w1 d) os) va l ∧ Mx.Glob (grow (redrawn w1 d) os)) := fun d os => ⟨hT1.below (bl d os), (hA1.below (bl d os)).votes, hG1.below (bl d os)⟩
  clear HC3 HF0 hT1 hA1 hG1 bl hA hT hG hX hB
  go_enter Tryd.func14, Tryd.ntmps14
  go_wp2_with fail
  refine wp_region_quiet_below (by kernel_rfl) (by kernel_rfl) ?_
  iterate 16 (go_big_quiet_step (fail))
  refine wpQuiet_nil ?_
  rintro w' ⟨p, rfl⟩
  have hBF := HBF.out p.d p.os
  have hXF := HXF.out p.d p.os
  have hAF := HA.out p.d p.os
  generalize grow (redrawn w1 p.d) p.os = w6 at hBF hXF hAF ⊢
  clear kG A0 A1 A2 HBF HXF x0 HA hw1
  have bl := fun d os => below_regrown w6 d os
  have k1 : ∀ d os, Calls Tryd.prog 51 #[.int .i64 v, .string b] (grow (redrawn w6 d) os) fun e w'' => e = .returned (.string wb) ∧ ∃ p : Regrown, w'' = grow (redrawn w6 p.d) p.os := fun d os => Calls.regrown_of (by
    rw [hwb.out]
    exact refWord_any v b _ hb32)
  have k2 : ∀ d os, Calls Tryd.prog 50 #[.pointer (some ⟨tb, 0, none⟩), .slice va l.length vc, .string agreeW, .string wb] (grow (redrawn w6 d) os) fun e w'' => e = .returned (.int .i64 (ev : Int)) ∧ ∃ p : Regrown, w'' = grow (redrawn w6 p.d) p.os := fun d os => Calls.regrown_of (by
    have := Mx.refEnough_any tb f ks va vc (pairT l) agreeW wb _ (hAF.1.below (bl d os)) hf hkl hks (hAF.2.1.below (bl d os)).pairs (by rw [pairT_length]; exact hvm) (by decide) (by omega) (hAF.2.2.below (bl d os))
    rw [pairT_length, hwb.out] at this
    rw [hwb.out, hev.out]
    exact this)
  have x0 := hXF.cell (i := 0) rfl
  have x1 := hXF.cell (i := 1) rfl
  have A0 := cell_regrown (hXF.cell (i := 0) rfl)
  have A1 := cell_regrown (hXF.cell (i := 1) rfl)
  have A2 := cell_regrown (hXF.cell (i := 2) rfl)
  have HBF : Hid (∀ d os, Below w.heap.size w (grow (redrawn w6 d) os)) := fun d os => hBF.trans ((bl d os).mono hBF.size)
  unfold agreeW at k2
  clear hXF hAF bl hBF
  go_wp2_with fail
  refine wp_region_quiet_below (by kernel_rfl) (by kernel_rfl) ?_
  iterate 7 (go_big_quiet_step (fail))
  go_big_quiet_step (exact k1 _ _)
  go_big_quiet_step (exact k2 _ _)
  go_big_quiet_step (fail)
  refine wpQuiet_nil ?_
  rintro w' ⟨p, rfl⟩
  have hBF := HBF.out p.d p.os
  generalize grow (redrawn w6 p.d) p.os = w7 at hBF ⊢
  clear k1 k2 A0 A1 A2 HBF x0 x1
  go_wp2
  go_ret
  exact ⟨by rw [HF.out]; rfl, hBF⟩

set_option maxRecDepth 100000 in
set_option maxHeartbeats 4000000 in
theorem refBlkCheck_any (tb f : Nat) (ks : List ByteArray) (x : BlkM) (w : World) (hT : Mx.TabAt w tb f ks) (hf : f ≤ 2) (hkl : ks.length = 3 * f + 1) (hks : ∀ k ∈ ks, k.size ≤ 32) (hA : x.At w) (hvm : x.qc.votes.length ≤ maxLen) (hcc : x.certs.length ≤ x.cc) (hG : Mx.Glob w) :
    Calls Tryd.prog 12 #[.pointer (some ⟨tb, 0, none⟩), x.v] w fun e w' => e = .returned (.int .i64 (chkK ks f x.d : Int)) ∧ Below w.heap.size w w' := by
  have hX := Arr.new w 27 x.c
  have hB := belowNew w (.cells x.c.toArray 27)
  have hA1 := hA.below hB
  have hT1 := hT.below hB
  have hG1 := hG.below hB
  obtain ⟨w1, hw1⟩ : ∃ q, w.alloc (.cells x.c.toArray 27) = q := ⟨_, rfl⟩
  rw [hw1] at hX hB hA1 hT1 hG1
  have hX0 : Arr w1 w.heap.size 27 [.int .i64 x.view, .int .i64 x.qc.view, .string x.qc.block, .slice x.qc.va x.qc.votes.length x.qc.vc, .slice x.ca x.certs.length x.cc] := hX
  obtain ⟨out, hout⟩ : ∃ q, Hid (q = chkK ks f x.d) := ⟨_, rfl⟩
  rw [← hout.out]
  have HC : Hid (out = if x.view < 1 ∨ 4611686018427387903 < x.view then 2 else if chkQ ks f x.qc.d ≠ 0 then chkQ ks f x.qc.d else if x.view ≤ x.qc.view then 9 else if 8 < x.certs.length then 8 else certsP [] x.certs) := hout.out
  have x0 := hX0.cell (i := 0) rfl
  have x1 := hX0.cell (i := 1) rfl
  have x2 := hX0.cell (i := 2) rfl
  have x3 := hX0.cell (i := 3) rfl
  have cQ := refCheckQc_any tb f ks x.qc w1 hT1 hf hkl hks hA1.qc hvm hG1
  unfold BlkM.c at hw1
  unfold QcM.v at cQ
  unfold BlkM.v
  clear hout hX
  by_cases h1 : x.view < 1
  · have HF : Hid (out = 2) := HC.out.trans (if_pos (Or.inl h1))
    clear HC
    go_enter Tryd.func12, Tryd.ntmps12
    go_wp2
    go_ret
    exact ⟨by rw [HF.out]; rfl, hB⟩
  by_cases h2 : 4611686018427387903 < x.view
  · have HF : Hid (out = 2) := HC.out.trans (if_pos (Or.inr h2))
    clear HC
    go_enter Tryd.func12, Tryd.ntmps12
    go_wp2
    go_ret
    exact ⟨by rw [HF.out]; rfl, hB⟩
  have HC2 := HC.out.trans (if_neg (fun h => h.elim h1 h2))
  clear HC
  generalize chkQ ks f x.qc.d = qe at *
  by_cases h3 : qe ≠ 0
  · have HF : Hid (out = qe) := HC2.trans (if_pos h3)
    have hne : ((qe : Int) != 0) = true := by rw [bne_iff_ne]; omega
    clear HC2
    go_enter Tryd.func12, Tryd.ntmps12
    go_wp2_with fail
    refine cQ.mono ?_
    rintro e w2 ⟨rfl, hb2⟩
    have hB2 := hB.trans (hb2.mono hB.size)
    clear cQ hX0 x0 x1 x2 x3
    go_wp2
    go_ret
    exact ⟨by rw [HF.out]; rfl, hB2⟩
  have HC3 := HC2.trans (if_neg h3)
  clear HC2
  have h30 : qe = 0 := by omega
  subst h30
  go_enter Tryd.func12, Tryd.ntmps12
  go_wp2_with fail
  refine cQ.mono ?_
  rintro e w2 ⟨rfl, hb2⟩
  have hB2 := hB.trans (hb2.mono hB.size)
  have hX2 := hX0.below hb2 hX0.lt
  have hC2 := (hA1.below hb2).certs
  clear cQ hX0 x0 x1 x2 x3 hb2 hB hw1 hA1 hT1 hG1 hA hT hG
  have x0 := hX2.cell (i := 0) rfl
  have x1 := hX2.cell (i := 1) rfl
  have x4 := hX2.cell (i := 4) rfl
  by_cases h4 : x.view ≤ x.qc.view
  · have HF : Hid (out = 9) := HC3.trans (if_pos h4)
    clear HC3
    go_wp2
    go_ret
    exact ⟨by rw [HF.out]; rfl, hB2⟩
  have HC4 := HC3.trans (if_neg h4)
  clear HC3
  by_cases h5 : 8 < x.certs.length
  · have HF : Hid (out = 8) := HC4.trans (if_pos h5)
    have h5' : (8 : Int) < (x.certs.length : Int) := by omega
    clear HC4
    go_wp2
    go_ret
    exact ⟨by rw [HF.out]; rfl, hB2⟩
  have HF0 := HC4.trans (if_neg h5)
  have h5' : ¬ (8 : Int) < (x.certs.length : Int) := by omega
  have h58 : x.certs.length ≤ 8 := by omega
  have H0 : Hid (out = certsP (x.certs.take 0) (x.certs.drop 0)) := HF0
  clear HC4 HF0 h5
  obtain ⟨v, q, ca, l, cc⟩ := x
  simp only at hC2 hX2 h58 h5' H0 x0 x1 x4 hcc ⊢
  go_wp2_with fail
  go_loopw [6, 7, 8, 9] (fun v6 _ _ _ wr => ∃ k : Nat, k ≤ l.length ∧ v6 = .int .i64 (k : Int) ∧ Arr wr w.heap.size 27 [.int .i64 v, .int .i64 q.view, .string q.block, .slice q.va q.votes.length q.vc, .slice ca l.length cc] ∧ RowAt strK wr ca l ∧ Below w.heap.size w wr ∧ Hid (out = certsP (l.take k) (l.drop k))) (fun v6 _ _ _ _ => l.length - (intOf v6).toNat)
  case atStart => exact ⟨0, Nat.zero_le _, rfl, hX2, hC2, hB2, H0⟩
  case round =>
    clear hX2 hC2 hB2 H0 x0 x1 x4
    obtain ⟨k, hk, rfl, hX, hR, hB, H⟩ := hrel
    have x4 := hX.cell (i := 4) rfl
    by_cases hlt : k < l.length
    · obtain ⟨m, hm⟩ : ∃ m, l[k]? = some m := ⟨l[k], List.getElem?_eq_getElem hlt⟩
      obtain ⟨b, off, rfl, hbl, hc⟩ := hR.cell k m hm
      have c0 := hc 0 (.string m) rfl
      have e0 : off + k * strK.n + 0 = off + k := by show off + k * 1 + 0 = _; omega
      rw [e0] at c0
      have hst := H.out.trans (certsP_at hm)
      have cU := refUnmark_any m wr
      have hkc : (k : Int) ≤ (cc : Int) := by omega
      have cH := fun w3 h => refHasB_any (some ⟨b, off, none⟩) cc (l.take k) m w3 h (by rw [List.length_take]; omega)
      have hlk : (l.take k).length = k := by rw [List.length_take]; omega
      rw [hlk] at cH
      clear hm hc H e0 hlk
      by_cases h1 : isMark m
      · rw [decide_eq_true h1] at cU
        rw [if_neg (fun h => h h1)] at hst
        generalize unR m = ur at cU
        generalize unI m = ui at cU
        have Hst : Hid _ := hst
        clear hst
        go_wp2_with fail
        refine cU.mono ?_
        rintro e w3 ⟨rfl, hb3⟩
        have hX3 := hX.below hb3 hX.lt
        have hR3 := hR.below hb3
        have hB3 := hB.trans (hb3.mono hB.size)
        have c03 := (hb3.cell (p := ⟨b, off + k, none⟩) hbl).trans c0
        clear cU hX hR hB hb3 c0 x4
        have x4 := hX3.cell (i := 4) rfl
        have hRd : ∀ n, RowAt strK (w3.drewN n) (some ⟨b, off, none⟩) (l.take k) := fun n => (hR3.below (below_drewN (Below.refl _ _) n)).take k
        cases hh : hasB (l.take k) m with
        | true =>
          rw [hh] at cH
          have HF : Hid (out = 13) := by
            have := Hst.out
            rw [hh] at this
            exact this
          clear Hst hh
          go_wp2_with fail
          go_big_quiet (exact Calls.quiet_of_same (cH _ (hRd _)))
          have hBF := below_drewN hB3 nq
          clear hX3 hR3 hB3 c03 x4 cH hRd
          go_wp2
          go_ret
          exact ⟨by rw [HF.out]; rfl, hBF⟩
        | false =>
          rw [hh] at cH
          have HF : Hid (out = certsP (l.take (k + 1)) (l.drop (k + 1))) := by
            have := Hst.out
            rw [hh] at this
            exact this
          clear Hst hh
          go_wp2_with fail
          go_big_quiet (exact Calls.quiet_of_same (cH _ (hRd _)))
          have hbq := below_drewN (Below.refl w3.heap.size w3) nq
          have hXF := hX3.below hbq hX3.lt
          have hRF := hR3.below hbq
          have hBF := hB3.trans (hbq.mono hB3.size)
          clear hX3 hR3 hB3 c03 x4 cH hRd hbq
          go_wp2
          go_roundw
          case rel => exact ⟨k + 1, by omega, by go_num, hXF, hRF, hBF, HF⟩
          case measure => simp [intOf]; omega
      · rw [decide_eq_false h1] at cU
        rw [if_pos h1] at hst
        have HF : Hid (out = 3) := hst
        generalize unR m = ur at cU
        generalize unI m = ui at cU
        clear hst
        go_wp2_with fail
        refine cU.mono ?_
        rintro e w3 ⟨rfl, hb3⟩
        have hB3 := hB.trans (hb3.mono hB.size)
        clear cU hX hR hB hb3 c0 x4
        go_wp2
        go_ret
        exact ⟨by rw [HF.out]; rfl, hB3⟩
    · have hke : k = l.length := by omega
      have HF : Hid (out = 0) := by
        have := H.out
        rw [hke, List.drop_length] at this
        exact this
      clear H
      go_wp2
      go_ret
      exact ⟨by rw [HF.out]; rfl, hB⟩
end Go.Proofs.YtoodapbmpbaogaaDoor
