/- What package cert's Collect, Tags, Full and Add do. -/
import Derived.Test.YtbikabjogacfkaaDoorVotesRows
import Derived.Lib.QuietBelow
import Derived.BigQuiet
import Derived.Deep.RegionHeld3
namespace Go.Proofs.YtbikabjogacfkaaDoor
open Go.RowKit Go.Sort
set_option linter.unusedVariables false

theorem addE_ok {chk : TagD → Nat} {P : List (Option TagD)} {t : TagD} (h : chk t = 0) {j : Nat} (hj : t.who.toNat = j) {o : Option TagD} (ho : P[j]? = some o) : addE chk P t = (if o.isSome = true then 13 else 0) ∧ addP chk P t = if o.isSome = true then P else P.set j (some t) := by
  have hgd : P.getD j none = o := by simp [List.getD, ho]
  have hn : ¬ chk t ≠ 0 := fun e => e h
  unfold addE addP
  rw [if_neg hn, if_neg hn, hj, hgd]
  exact ⟨rfl, rfl⟩

theorem addE_err {chk : TagD → Nat} {P : List (Option TagD)} {t : TagD} (h : chk t ≠ 0) : addE chk P t = chk t ∧ addP chk P t = P := by
  unfold addE addP
  rw [if_pos h, if_pos h]
  exact ⟨rfl, rfl⟩

theorem new_tagK (w : World) (t : TagD) : ∀ j u, (tagK.c t)[j]? = some u → (w.alloc (.cells #[.int .i64 t.who, .string t.mac] 32)).cell? ((⟨w.heap.size, 0, none⟩ : Addr).add j) = some u := by
  intro j u hu
  rw [Go.WideShapes.add_plain, Nat.zero_add]
  exact (Arr.new w 32 [.int .i64 t.who, .string t.mac]).cell hu

set_option maxRecDepth 100000 in
set_option maxHeartbeats 1000000 in
theorem collect_any (tb : Nat) (kind word : ByteArray) (w : World) :
    Calls Tryd.prog 26 #[.pointer (some ⟨tb, 0, none⟩), .string kind, .string word] w fun e w' => ∃ vb, e = .returned (.pointer (some ⟨vb, 0, none⟩)) ∧ VotesAt w' vb tb kind word noP ∧ w.heap.size ≤ vb ∧ Below w.heap.size w w' := by
  go_enter Tryd.func26, Tryd.ntmps26
  go_wp2
  go_ret
  exact ⟨w.heap.size, rfl, Arr.new w 91 (votesC tb kind word noP), Nat.le_refl _, belowNew w _⟩

set_option maxRecDepth 100000 in
set_option maxHeartbeats 1000000 in
theorem votesTags_any {ks : List ByteArray} {f vb tb : Nat} {kind word : ByteArray} {P : List (Option TagD)} (w : World) (h : VotesAt w vb tb kind word P) (hT : Mx.TabAt w tb f ks) (hf : f ≤ 2) (hP : Places (chkT ks kind word) (3 * f + 1) P) :
    Calls Tryd.prog 31 #[.pointer (some ⟨vb, 0, none⟩)] w fun e w' => ∃ ao cap, e = .returned (.slice ao (inL P).length cap) ∧ RowAt tagK w' ao (inL P) ∧ (ao = none → cap = 0) ∧ (∀ b, rowFoot tagK ao (inL P) b → w.heap.size ≤ b) ∧ Below w.heap.size w w' := by
  obtain ⟨i0, hi, hz0, hz1, hz2⟩ := info_parts infoTag6
  have v0 : w.cell? ⟨vb, 0, none⟩ = some (.pointer (some ⟨tb, 0, none⟩)) := Arr.cell h (i := 0) rfl
  obtain ⟨n, hn⟩ : ∃ q, Hid (q = 3 * f + 1) := ⟨_, rfl⟩
  have cN := Mx.n_any tb f ks w hT hf
  rw [← hn.out] at cN hP
  have hn7 : n ≤ 7 := by have := hn.out; omega
  have hlen := hP.len
  have hall := hP.all
  have Hall : Hid (inL (P.take n) = inL P) := hall
  clear hT hall hP
  go_enter Tryd.func31, Tryd.ntmps31
  go_wp2_with fail
  refine cN.mono ?_
  rintro e w1 ⟨rfl, rfl⟩
  clear cN v0
  go_wp2
  go_loopw [3, 4, 10] (fun v3 v4 v10 wr => ∃ i : Nat, i ≤ n ∧ v10 = .int .i64 (i : Int) ∧ KQ tagK 32 wr w1.heap.size v3 (inL (P.take i)) ∧ Below w1.heap.size w1 wr) (fun _ _ v _ => n - (intOf v).toNat)
  case atStart => exact ⟨0, Nat.zero_le _, rfl, KQ.empty _ _ _ _, Below.refl _ _⟩
  case round =>
    obtain ⟨i, hin, rfl, hq, hb⟩ := hrel
    obtain ⟨qa, qc, rfl, hqn, hqt⟩ := hq.form
    by_cases hlt : i < n
    · have h1 : (i : Int) < (n : Int) := by omega
      have h7 : (i : Int) < 7 := by omega
      obtain ⟨o, ho⟩ : ∃ o, P[i]? = some o := ⟨_, List.getElem?_eq_getElem (by omega)⟩
      have hs := inL_succ ho
      have hle := inL_len (P.take i)
      rw [List.length_take] at hle
      have hwr := h.below hb
      cases o with
      | none =>
        have q0 := hwr.place ho (k := 0) (v := .bool false) rfl
        rw [Nat.add_zero] at q0
        have hs' : inL (P.take (i + 1)) = inL (P.take i) := by rw [hs]; simp
        have hq5 : Hid (KQ tagK 32 wr w1.heap.size (.slice qa (inL (P.take i)).length qc) (inL (P.take (i + 1)))) := by rw [hs']; exact hq
        clear hwr hq hs hs' hqt
        go_wp2
        go_roundw
        case rel => exact ⟨i + 1, by omega, by go_num, hq5.out, hb⟩
        case measure => simp [intOf]; omega
      | some t =>
        have q0 := hwr.place ho (k := 0) (v := .bool true) rfl
        have q1 := hwr.place ho (k := 1) (v := .int .i64 t.who) rfl
        have q2 := hwr.place ho (k := 2) (v := .string t.mac) rfl
        rw [Nat.add_zero] at q0
        clear hwr hqt
        have hs' : inL (P.take (i + 1)) = inL (P.take i) ++ [t] := hs
        have Hs : Hid (inL (P.take (i + 1)) = inL (P.take i) ++ [t]) := hs'
        clear hs hs'
        generalize inL (P.take i) = l at *
        have hbx := belowNew wr (.cells #[.int .i64 t.who, .string t.mac] 32)
        have hq2 := hq.below hbx
        have hb2 := hb.trans (hbx.mono hb.size)
        have hN := new_tagK wr t
        have hbs := hb2.size
        clear hq
        go_wp2_with (at_builtin; refine wpList_push (K := tagK) rfl _ _ 37 rfl w1.heap.size 32 i0 _ 24 Tryd.underlying37 hi hz0 hz1 hz2 rfl _ l rfl hq2 t trivial (fun _ h => h.elim) ⟨wr.heap.size, 0, none⟩ 1 rfl hN ?c3 ?c4 hbs ?_)
        case c3 => unfold maxLen; omega
        case c4 => omega
        intro ao3 cap3 w3 hq3 hk3
        have hkB := Kept.below hk3 hbs (fun j hj => (hq2.lt j hj).1)
        have hbF := hb2.trans hkB
        rw [← Hs.out] at hq3
        clear hkB hk3 hq2 hb2 hbx hN hbs hb
        go_wp2
        go_roundw
        case rel => exact ⟨i + 1, by omega, by go_num, hq3, hbF⟩
        case measure => simp [intOf]; omega
    · obtain rfl : i = n := by omega
      have hfoot := hq.foot_ge (Nat.le_refl _) (fun x _ b h => h.elim)
      rw [Hall.out] at hqt hfoot ⊢
      have h1 : ¬ (i : Int) < (i : Int) := by omega
      clear hq
      go_wp2
      go_ret
      exact ⟨qa, qc, rfl, hqt, hqn, hfoot, hb⟩

set_option maxRecDepth 100000 in
set_option maxHeartbeats 1000000 in
theorem votesAdd_any {ks : List ByteArray} {f vb tb : Nat} {kind word : ByteArray} {P : List (Option TagD)} (t : TagD) (w : World) (h : VotesAt w vb tb kind word P) (hT : Mx.TabAt w tb f ks) (hf : f ≤ 2) (hkl : ks.length = 3 * f + 1) (hks : ∀ k ∈ ks, k.size ≤ 32) (hP : Places (chkT ks kind word) (3 * f + 1) P) (hkd : kind.size ≤ 1000000) (hwd : word.size ≤ 1000000) (hG : Mx.Glob w) :
    Calls Tryd.prog 29 #[.pointer (some ⟨vb, 0, none⟩), Mx.tagV t.who t.mac] w fun e w' => e = .returned (.int .i64 (addE (chkT ks kind word) P t : Int)) ∧ VotesAt w' vb tb kind word (addP (chkT ks kind word) P t) ∧ Kept (fun k => k = vb) w w' := by
  have hb := belowNew w (.cells #[.int .i64 t.who, .string t.mac] 32)
  have hX := Arr.new w 32 [.int .i64 t.who, .string t.mac]
  have h1 := h.below hb
  have hT1 := hT.below hb
  have hG1 := hG.below hb
  obtain ⟨w1, hw1⟩ : ∃ q, w.alloc (.cells #[.int .i64 t.who, .string t.mac] 32) = q := ⟨_, rfl⟩
  rw [hw1] at hb hX h1 hT1 hG1
  obtain ⟨er, her⟩ : ∃ q, Hid (q = chkT ks kind word t) := ⟨_, rfl⟩
  have bl := fun d os => below_regrown w1 d os
  have k1 : ∀ d os, Calls Tryd.prog 40 #[.pointer (some ⟨tb, 0, none⟩), .agg #[.int .i64 t.who, .string t.mac], .string kind, .string word] (grow (redrawn w1 d) os) fun e w'' => e = .returned (.int .i64 (er : Int)) ∧ ∃ p : Regrown, w'' = grow (redrawn w1 p.d) p.os := fun d os => Calls.regrown_of (by
    rw [her.out]
    exact Mx.check_any tb f ks t.who t.mac kind word _ (hT1.below (bl d os)) hks hkd hwd (hG1.below (bl d os)))
  have A0 : ∀ d os, (grow (redrawn w1 d) os).cell? ⟨vb, 0, none⟩ = some (.pointer (some ⟨tb, 0, none⟩)) := cell_regrown (Arr.cell h1 (i := 0) rfl)
  have A1 : ∀ d os, (grow (redrawn w1 d) os).cell? ⟨vb, 1, none⟩ = some (.string kind) := cell_regrown (Arr.cell h1 (i := 1) rfl)
  have A2 : ∀ d os, (grow (redrawn w1 d) os).cell? ⟨vb, 2, none⟩ = some (.string word) := cell_regrown (Arr.cell h1 (i := 2) rfl)
  have B0 := cell_regrown (hX.cell (i := 0) rfl)
  have B1 := cell_regrown (hX.cell (i := 1) rfl)
  unfold Mx.tagV
  go_enter Tryd.func29, Tryd.ntmps29
  go_wp2_with fail
  refine wp_region_quiet_below (by kernel_rfl) (by kernel_rfl) ?_
  iterate 13 (go_big_quiet_step (fail))
  go_big_quiet_step (exact k1 _ _)
  go_big_quiet_step (fail)
  refine wpQuiet_nil ?_
  rintro w' ⟨p, rfl⟩
  have hb2 := bl p.d p.os
  have hX2 := hX.below hb2 hX.lt
  have h2 := h1.below hb2
  have hB2 := hb.trans (hb2.mono hb.size)
  generalize grow (redrawn w1 p.d) p.os = w2 at hb2 hX2 h2 hB2 ⊢
  clear k1 A0 A1 A2 B0 B1 bl hX h1 hT1 hG1 hb hb2 hT hG hw1
  have hk2 : Kept (fun k => k = vb) w w2 := Kept.of_below hB2
  have hvlt : vb < w.heap.size := Arr.lt h
  by_cases he : er ≠ 0
  · have hne : ((er : Int) != 0) = true := by rw [bne_iff_ne]; omega
    have hE : Hid (addE (chkT ks kind word) P t = er ∧ addP (chkT ks kind word) P t = P) := by
      unfold addE addP
      rw [← her.out, if_pos he, if_pos he]
      exact ⟨rfl, rfl⟩
    clear hX2 hB2
    go_wp2
    go_ret
    exact ⟨by rw [hE.out.1]; rfl, by rw [hE.out.2]; exact h2, hk2⟩
  have he0 : er = 0 := by omega
  subst he0
  have hz := chkT_zero her.out.symm
  have c0 := hz.1
  have c1 := hz.2.1
  clear hz
  obtain ⟨j, hj⟩ := Int.eq_ofNat_of_zero_le c0
  have hjn : j < 7 := by omega
  have hjn' : (j : Int) < 7 := by omega
  have htn : t.who.toNat = j := by rw [hj]; rfl
  obtain ⟨o, ho⟩ : ∃ o, P[j]? = some o := ⟨_, List.getElem?_eq_getElem (by rw [hP.len]; omega)⟩
  have hE0 := addE_ok her.out.symm htn ho
  have x0 := hX2.cell (i := 0) rfl
  rw [hj] at x0
  cases o with
  | some u =>
    have q0 := h2.place ho (k := 0) (v := .bool true) rfl
    rw [Nat.add_zero] at q0
    have hE : Hid (addE (chkT ks kind word) P t = 13 ∧ addP (chkT ks kind word) P t = P) := hE0
    clear hE0
    clear hP hX2 hB2 her hj htn c0 c1
    go_wp2_with fail
    go_quiet (fail)
    replace h2 := h2.below (below_drewN (Below.refl _ w2) nq)
    replace hk2 := hk2.trans (Kept.of_below (below_drewN (Below.refl _ w2) nq))
    generalize w2.drewN nq = w3 at h2 hk2 ⊢
    go_wp2
    go_ret
    exact ⟨by rw [hE.out.1]; rfl, by rw [hE.out.2]; exact h2, hk2⟩
  | none =>
    have q0 := h2.place ho (k := 0) (v := .bool false) rfl
    rw [Nat.add_zero] at q0
    have hE : Hid (addE (chkT ks kind word) P t = 0 ∧ addP (chkT ks kind word) P t = P.set j (some t)) := hE0
    clear hE0
    clear hP her htn c0 c1
    go_wp2_with fail
    go_quiet (fail)
    have hbq := below_drewN (Below.refl w2.heap.size w2) nq
    have h3 := h2.below hbq
    have hk3 := hk2.trans (Kept.of_below hbq)
    have hX3 := hX2.below hbq hX2.lt
    generalize w2.drewN nq = w3 at h3 hk3 hX3 ⊢
    clear h2 hk2 hX2 hB2 q0 x0 hbq
    have x0 := hX3.cell (i := 0) rfl
    have x1 := hX3.cell (i := 1) rfl
    rw [hj] at x0
    have q0 := h3.place ho (k := 0) (v := .bool false) rfl
    have q1 := h3.place ho (k := 1) (v := .int .i64 0) rfl
    have q2 := h3.place ho (k := 2) (v := .string ⟨#[]⟩) rfl
    rw [Nat.add_zero] at q0
    have g0 := Arr.frozen h3 (3 + j * 3)
    have g1 := Arr.frozen h3 (3 + j * 3 + 1)
    have g2 := Arr.frozen h3 (3 + j * 3 + 2)
    have hF := h3.put ho t
    have kF := hk3.trans (((Kept.refl (fun k => k = vb) w3).set (p := ⟨vb, 3 + j * 3, none⟩) rfl (.bool true)).set (p := ⟨vb, 3 + j * 3 + 1, none⟩) rfl (.int .i64 t.who) |>.set (p := ⟨vb, 3 + j * 3 + 2, none⟩) rfl (.string t.mac))
    rw [hj] at hF kF
    clear h3 hk3 hX3
    go_wp2_with fail
    go_region
    replace hF := hF.below (below_drewN (Below.refl _ _) 1)
    replace kF := kF.trans (Kept.of_below (below_drewN (Below.refl _ _) 1))
    go_wp2
    go_ret
    exact ⟨by rw [hE.out.1]; rfl, by rw [hE.out.2]; exact hF, kF⟩

theorem VotesAt.c0 {w : World} {vb tb : Nat} {kind word : ByteArray} {P : List (Option TagD)} (h : VotesAt w vb tb kind word P) : w.cell? ⟨vb, 0, none⟩ = some (.pointer (some ⟨tb, 0, none⟩)) := Arr.cell h (i := 0) rfl

set_option maxRecDepth 100000 in
set_option maxHeartbeats 1000000 in
theorem votesFull_any {ks : List ByteArray} {f vb tb : Nat} {kind word : ByteArray} {P : List (Option TagD)} (w : World) (h : VotesAt w vb tb kind word P) (hT : Mx.TabAt w tb f ks) (hf : f ≤ 2) (hP : Places (chkT ks kind word) (3 * f + 1) P) :
    Calls Tryd.prog 30 #[.pointer (some ⟨vb, 0, none⟩)] w fun e w' => e = .returned (.bool (decide (2 * f + 1 ≤ (inL P).length))) ∧ Below w.heap.size w w' := by
  have hbd := below_drewN (Below.refl w.heap.size w) 1
  have h0 : VotesAt w.drew vb tb kind word P := h.below hbd
  have hT0 : Mx.TabAt w.drew tb f ks := hT.below hbd
  have hS0 := h0.c0
  have cT := votesTags_any w.drew h0 hT0 hf hP
  obtain ⟨nd, hnd⟩ : ∃ q, Hid (q = 2 * f + 1) := ⟨_, rfl⟩
  have cN := fun w1 h => Mx.need_any tb f ks w1 h hf
  simp only [← hnd.out] at cN ⊢
  generalize inL P = l at cT
  clear h hT hP
  go_enter Tryd.func30, Tryd.ntmps30
  go_wp2_with fail
  go_region_held3 (fun w' => w'.cell? ⟨vb, 0, none⟩ = some (.pointer (some ⟨tb, 0, none⟩))) (exact VotesAt.c0 (by assumption))
    (first
    | (go_at_call 31; refine cT.mono ?_; rintro e wA ⟨aA, capA, rfl, hA1, hA2, hA3, hbA⟩; have h1 := VotesAt.below h0 hbA; have hT1 := hT0.below hbA)
    | (go_at_call 22; refine (cN _ hT1).mono ?_; rintro e wB ⟨rfl, rfl⟩))
  have hBF : Below w.heap.size w wB := (show Below w.heap.size w w.drew from hbd).trans hbA
  clear cT cN h0 hT0 h1 hT1 hA1 hA3 hbA hbd
  go_wp2
  go_ret
  exact ⟨rfl, hBF⟩
end Go.Proofs.YtbikabjogacfkaaDoor
