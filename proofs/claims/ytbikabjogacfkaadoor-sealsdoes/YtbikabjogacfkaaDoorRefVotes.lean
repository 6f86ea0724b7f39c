/- What tuskref07's Collect, Full and Add do. -/
import Derived.Test.YtbikabjogacfkaaDoorVotesSt
import Derived.Test.YtbikabjogacfkaaDoorRefAuthAll
import Derived.Test.YtbikabjogacfkaaDoorKindsOwn
import Derived.Test.YtbikabjogacfkaaDoorCertOwn
import Derived.Test.YtbikabjogacfkaaDoorRegionLast
import Derived.Deep.QuietTactic
namespace Go.Proofs.YtbikabjogacfkaaDoor
open Go.RowKit Go.Sort
set_option linter.unusedVariables false

/-- The reference's collected tags: in block rb, their row new from B on. -/
structure RVAt (w : World) (rb tb : Nat) (kind word : ByteArray) (B : Nat) (ao : Option Addr) (cap : Nat) (l : List TagD) : Prop where
  box : Arr w rb 74 [.pointer (some ⟨tb, 0, none⟩), .string kind, .string word, .slice ao l.length cap]
  row : RowAt tagK w ao l
  nil : ao = none → cap = 0
  lt : rb < B
  foot : ∀ b, rowFoot tagK ao l b → B ≤ b
  cap : l.length ≤ cap
  plain : ∀ ad, ao = some ad → ad.spot = none

theorem RVAt.below {w w' : World} {rb tb : Nat} {kind word : ByteArray} {B : Nat} {ao : Option Addr} {cap : Nat} {l : List TagD} (h : RVAt w rb tb kind word B ao cap l) (hb : Below w.heap.size w w') : RVAt w' rb tb kind word B ao cap l :=
  ⟨h.box.below hb h.box.lt, h.row.below hb, h.nil, h.lt, h.foot, h.cap, h.plain⟩

theorem RVAt.kept {S : Nat → Prop} {w w' : World} {rb tb : Nat} {kind word : ByteArray} {B : Nat} {ao : Option Addr} {cap : Nat} {l : List TagD} (h : RVAt w rb tb kind word B ao cap l) (hk : Kept S w w') (hn : ¬ S rb) (hS : ∀ k, B ≤ k → ¬ S k) : RVAt w' rb tb kind word B ao cap l :=
  ⟨h.box.kept hk hn, h.row.kept hk (fun b hb => hS b (h.foot b hb)), h.nil, h.lt, h.foot, h.cap, h.plain⟩

/-- One tag, new. -/
theorem tagOne (w : World) (j : Int) (m : ByteArray) : RowAt tagK (w.alloc (.cells #[.int .i64 j, .string m] 32)) (some ⟨w.heap.size, 0, none⟩) [⟨j, m⟩] := by
  have hX := Arr.new w 32 [.int .i64 j, .string m]
  refine ⟨fun i x hx => ?_, fun _ _ => trivial⟩
  cases i with
  | succ k => simp at hx
  | zero =>
    simp only [List.getElem?_cons_zero, Option.some.injEq] at hx
    subst hx
    refine ⟨_, _, rfl, hX.lt, fun q v hv => ?_⟩
    have h0 := hX.cell (i := q) (v := v) hv
    have e : 0 + 0 * tagK.n + q = q := by omega
    rw [e]
    exact h0

theorem RowAt.dropT {w : World} {b off : Nat} {l : List TagD} (h : RowAt tagK w (some ⟨b, off, none⟩) l) (i : Nat) : RowAt tagK w (some ⟨b, off + i * 2, none⟩) (l.drop i) := by
  refine ⟨fun k t ht => ?_, fun _ _ => trivial⟩
  rw [List.getElem?_drop] at ht
  obtain ⟨b', off', e', h1, h2⟩ := h.cell _ t ht
  simp only [Option.some.injEq, Addr.mk.injEq, and_true] at e'
  obtain ⟨rfl, rfl⟩ := e'
  refine ⟨_, _, rfl, h1, fun q v hv => ?_⟩
  have := h2 q v hv
  have ea : off + (i + k) * tagK.n + q = off + i * 2 + k * tagK.n + q := by show off + (i + k) * 2 + q = off + i * 2 + k * 2 + q; omega
  rw [ea] at this
  exact this

/-- Behind the store. -/
theorem rvEnd {w4 wc : World} {rb tb B : Nat} {kind word : ByteArray} {ao ao' : Option Addr} {cap cap' N : Nat} {l lo LT LD : List TagD} {t : TagD} (h4 : RVAt w4 rb tb kind word B ao cap l) (hB : B ≤ w4.heap.size) (hb : Below w4.heap.size w4 wc)
    (hO : wc.ownsRow w4.heap.size 32 tagK.n (.slice ao' N cap') N ([] ++ flatK tagK LT ++ flatK tagK [t] ++ flatK tagK LD)) (hl : lo = LT ++ t :: LD) (hN : N = lo.length) :
    RVAt (wc.setCell ⟨rb, 3, none⟩ (.slice ao' N cap')) rb tb kind word B ao' cap' lo ∧ Kept (fun k => k = rb) w4 (wc.setCell ⟨rb, 3, none⟩ (.slice ao' N cap')) ∧ ∀ b, rowFoot tagK ao' lo b → w4.heap.size ≤ b := by
  have hf : [] ++ flatK tagK LT ++ flatK tagK [t] ++ flatK tagK LD = flatK tagK lo := by
    rw [hl, List.nil_append, ← flatK_append, ← flatK_append, List.append_assoc]
    rfl
  rw [hf] at hO
  have hq := KQ.of_own (K := tagK) (l := lo) (fun _ _ h => h.elim) (fun _ _ => trivial) hN hO
  have hfo := hq.foot_ge hB (fun _ _ _ h => h.elim)
  have hfb := hq.foot_ge (Nat.le_refl _) (fun _ _ _ h => h.elim)
  obtain ⟨a, c, e, hn, hr⟩ := hq.form
  rw [← hN] at e
  simp only [Value.slice.injEq, true_and] at e
  obtain ⟨rfl, rfl⟩ := e
  have hlt := h4.box.lt
  have hk := Kept.setCell wc ⟨rb, 3, none⟩ (.slice ao' N cap')
  have hbox := ((h4.box.below hb h4.box.lt).set 3 (.slice ao' N cap'))
  subst hN
  have hc : lo.length ≤ cap' ∧ ∀ ad, ao' = some ad → ad.spot = none := by
    rcases hO.2 with ⟨hv, _⟩ | ⟨g, c', cur, hv, _, _, hnc, _⟩
    · simp only [Value.slice.injEq] at hv
      obtain ⟨rfl, h1, h2⟩ := hv
      exact ⟨by omega, fun _ e => by cases e⟩
    · simp only [Value.slice.injEq, true_and] at hv
      obtain ⟨rfl, rfl⟩ := hv
      exact ⟨hnc, fun _ e => by cases e; rfl⟩
  refine ⟨⟨hbox, hr.kept hk (fun b hb e => ?_), hn, h4.lt, hfo, hc.1, hc.2⟩, (Kept.of_below hb).trans hk, hfb⟩
  have := hfb b hb
  have e' : b = rb := e
  omega

set_option maxRecDepth 100000 in
set_option maxHeartbeats 1000000 in
theorem refCollect_any (tb : Nat) (kind word : ByteArray) (w : World) :
    Calls Tryd.prog 28 #[.pointer (some ⟨tb, 0, none⟩), .string kind, .string word] w fun e w' => e = .returned (.pointer (some ⟨w.heap.size, 0, none⟩)) ∧ RVAt w' w.heap.size tb kind word w'.heap.size none 0 [] ∧ Below w.heap.size w w' := by
  go_enter Tryd.func28, Tryd.ntmps28
  go_wp2
  go_ret
  exact ⟨rfl, ⟨Arr.new w 74 [.pointer (some ⟨tb, 0, none⟩), .string kind, .string word, .slice none 0 0], nil_row _ _, fun _ => rfl, by rw [alloc_size]; omega, fun b hb => (nil_foot hb).elim, Nat.le_refl _, fun _ e => by cases e⟩, belowNew w _⟩

set_option maxRecDepth 100000 in
set_option maxHeartbeats 1000000 in
theorem refFull_any {ks : List ByteArray} {f rb tb B : Nat} {kind word : ByteArray} {ao : Option Addr} {cap : Nat} {l : List TagD} (w : World) (h : RVAt w rb tb kind word B ao cap l) (hT : Mx.TabAt w tb f ks) (hf : f ≤ 2) :
    Calls Tryd.prog 33 #[.pointer (some ⟨rb, 0, none⟩)] w fun e w' => e = .returned (.bool (decide (2 * f + 1 ≤ l.length))) ∧ Below w.heap.size w w' := by
  have c0 := h.box.cell (i := 0) rfl
  have c3 := h.box.cell (i := 3) rfl
  obtain ⟨nd, hnd⟩ : ∃ q, Hid (q = 2 * f + 1) := ⟨_, rfl⟩
  have cN := fun m => Mx.refNeed_any tb f ks (w.drewN m) (hT.below (below_drewN (Below.refl _ _) m)) hf
  simp only [← hnd.out] at cN ⊢
  clear h hT
  go_enter Tryd.func33, Tryd.ntmps33
  go_wp2_with fail
  go_quiet (exact Calls.quiet_of_same (cN _))
  have hbq := below_drewN (Below.refl w.heap.size w) nq
  generalize w.drewN nq = w2 at *
  clear cN
  go_wp2
  go_ret
  exact ⟨rfl, hbq⟩

set_option maxRecDepth 100000 in
set_option maxHeartbeats 1000000 in
theorem refAdd7_fresh {ks : List ByteArray} {f rb tb B : Nat} {kind word : ByteArray} {ao : Option Addr} {cap : Nat} {P : List (Option TagD)} (t : TagD) (w : World) (h : RVAt w rb tb kind word B ao cap (inL P)) (hBw : B ≤ w.heap.size) (hT : Mx.TabAt w tb f ks) (hf : f ≤ 2) (hkl : ks.length = 3 * f + 1) (hks : ∀ k ∈ ks, k.size ≤ 32) (hP : Places (chkT ks kind word) (3 * f + 1) P) (hkd : kind.size ≤ 1000) (hwd : word.size ≤ 2000) (hG : Mx.Glob w) (F : Nat → Prop) (hFo : Hid (∀ b, rowFoot tagK ao (inL P) b → F b)) :
    Calls Tryd.prog 32 #[.pointer (some ⟨rb, 0, none⟩), .agg #[.int .i64 t.who, .string t.mac]] w fun e w' => ∃ ao' cap', e = .returned (.int .i64 (addE (chkT ks kind word) P t : Int)) ∧ RVAt w' rb tb kind word B ao' cap' (inL (addP (chkT ks kind word) P t)) ∧ Kept (fun k => k = rb) w w' ∧ (∀ b, rowFoot tagK ao' (inL (addP (chkT ks kind word) P t)) b → F b ∨ w.heap.size ≤ b) := by
  have hb := belowNew w (.cells #[.int .i64 t.who, .string t.mac] 32)
  have hX := Arr.new w 32 [.int .i64 t.who, .string t.mac]
  have h1 := h.below hb
  have hT1 := hT.below hb
  have hG1 := hG.below hb
  obtain ⟨w1, hw1⟩ : ∃ q, w.alloc (.cells #[.int .i64 t.who, .string t.mac] 32) = q := ⟨_, rfl⟩
  rw [hw1] at hb hX h1 hT1 hG1
  obtain ⟨er, her⟩ : ∃ q, Hid (q = chkT ks kind word t) := ⟨_, rfl⟩
  have bl := fun d os => below_regrown w1 d os
  have k1 : ∀ d os, Calls Tryd.prog 45 #[.pointer (some ⟨tb, 0, none⟩), .agg #[.int .i64 t.who, .string t.mac], .string kind, .string word] (grow (redrawn w1 d) os) fun e w'' => e = .returned (.int .i64 (er : Int)) ∧ ∃ p : Regrown, w'' = grow (redrawn w1 p.d) p.os := fun d os => Calls.regrown_of (by
    rw [her.out]
    exact Mx.refCheck_any tb f ks t.who t.mac kind word _ (hT1.below (bl d os)) hks hf hkl hkd hwd (hG1.below (bl d os)))
  have A0 := cell_regrown (h1.box.cell (i := 0) rfl)
  have A1 := cell_regrown (h1.box.cell (i := 1) rfl)
  have A2 := cell_regrown (h1.box.cell (i := 2) rfl)
  have B0 := cell_regrown (hX.cell (i := 0) rfl)
  have B1 := cell_regrown (hX.cell (i := 1) rfl)
  obtain ⟨eo, heo⟩ : ∃ q, Hid (q = addE (chkT ks kind word) P t) := ⟨_, rfl⟩
  obtain ⟨lo, hlo⟩ : ∃ q, Hid (q = inL (addP (chkT ks kind word) P t)) := ⟨_, rfl⟩
  rw [← heo.out, ← hlo.out]
  obtain ⟨i0, hi, hz0, hz1, hz2⟩ := info_parts infoTag6
  go_enter Tryd.func32, Tryd.ntmps32
  go_wp2_with fail
  refine wp_region_quiet_below (by kernel_rfl) (by kernel_rfl) ?_
  iterate 13 (go_big_quiet_step (fail))
  go_big_quiet_step (exact k1 _ _)
  go_big_quiet_step (fail)
  refine wpQuiet_nil ?_
  rintro w' ⟨p, rfl⟩
  have hb2 := bl p.d p.os
  have hX2 := hX.below hb2 hX.lt
  have h2 := h1.below hb2
  have hB2 := hb.trans (hb2.mono hb.size)
  generalize grow (redrawn w1 p.d) p.os = w2 at hb2 hX2 h2 hB2 ⊢
  clear k1 A0 A1 A2 B0 B1 bl hX h1 hT1 hG1 hb hb2 hT hG hw1
  have hk2 : Kept (fun k => k = rb) w w2 := Kept.of_below hB2
  have hvlt : rb < w.heap.size := h.box.lt
  by_cases he : er ≠ 0
  · have hne : ((er : Int) != 0) = true := by rw [bne_iff_ne]; omega
    have hE : Hid (addE (chkT ks kind word) P t = er ∧ addP (chkT ks kind word) P t = P) := by
      have := addE_err (chk := chkT ks kind word) (P := P) (t := t) (by rw [← her.out]; exact he)
      rw [← her.out] at this
      exact this
    clear hX2 hB2
    go_wp2
    go_ret
    exact ⟨ao, cap, by rw [heo.out, hE.out.1]; rfl, by rw [hlo.out, hE.out.2]; exact h2, hk2, by rw [hlo.out, hE.out.2]; exact fun b hb => Or.inl (hFo.out b hb)⟩
  have he0 : er = 0 := by omega
  subst he0
  have hz := chkT_zero her.out.symm
  have c0 := hz.1
  have c1 := hz.2.1
  clear hz
  obtain ⟨j, hj⟩ := Int.eq_ofNat_of_zero_le c0
  have hjn : j < 7 := by omega
  have htn : t.who.toNat = j := by rw [hj]; rfl
  obtain ⟨o, ho⟩ : ∃ o, P[j]? = some o := ⟨_, List.getElem?_eq_getElem (by rw [hP.len]; omega)⟩
  have hE0 := addE_ok her.out.symm htn ho
  have hless := fun i u (hu : (inL P)[i]? = some u) => hP.less ho hu
  have hfew := hP.few
  have hal := front_le (P := P) (j := j)
  have Hset : Hid (o = none → inL (addP (chkT ks kind word) P t) = (inL P).take (inL (P.take j)).length ++ t :: (inL P).drop (inL (P.take j)).length) := by
    intro e
    subst e
    rw [hE0.2]
    show inL (P.set j (some t)) = _
    rw [inL_set ho, hP.gone ho, List.take_left, List.drop_left]
  have Hin : Hid (∀ u, o = some u → (inL P)[(inL (P.take j)).length]? = some u ∧ u.who = (j : Int)) := by
    intro u e
    subst e
    exact ⟨hP.there ho, (hP.own j u ho).1⟩
  have Hno : Hid (∀ u, o = none → (inL P)[(inL (P.take j)).length]? = some u → (j : Int) < u.who) := by
    intro u e hu
    subst e
    exact hP.gone_ne ho hu
  have HE : Hid (addE (chkT ks kind word) P t = if o.isSome = true then 13 else 0) := hE0.1
  have HP' : Hid (o.isSome = true → inL (addP (chkT ks kind word) P t) = inL P) := by
    intro e
    rw [hE0.2, if_pos e]
  rw [← heo.out] at HE
  rw [← hlo.out] at Hset HP'
  generalize inL P = l at *
  generalize (inL (P.take j)).length = a at *
  clear hE0 hP ho her htn c0 c1 heo hlo
  go_wp2_with fail
  go_loopw [6] (fun v6 wr => ∃ i : Nat, i ≤ a ∧ v6 = .int .i64 (i : Int) ∧ Below w2.heap.size w2 wr) (fun v _ => a - (intOf v).toNat)
  case atStart => exact ⟨0, Nat.zero_le _, rfl, Below.refl _ _⟩
  case round =>
    obtain ⟨i, hia, rfl, hbr⟩ := hrel
    have hr := h2.below hbr
    have hXr := hX2.below hbr hX2.lt
    have c3 := hr.box.cell (i := 3) rfl
    have x0 := hXr.cell (i := 0) rfl
    rw [hj] at x0
    by_cases hil : i < l.length
    · have hil' : (i : Int) < (l.length : Int) := by omega
      obtain ⟨u, hu⟩ : ∃ u, l[i]? = some u := ⟨_, List.getElem?_eq_getElem hil⟩
      obtain ⟨b, off, hao, hbl, y0, _⟩ := hr.row.tag hu
      have hlu := hless i u hu
      by_cases hlt : i < a
      · have hd : decide (u.who < (j : Int)) = true := decide_eq_true (hlu.2 hlt)
        have hd' : u.who < (j : Int) := hlu.2 hlt
        subst hao
        clear hless Hset Hin Hno HE HP' hlu hr hXr h2 hX2
        go_wp2_with fail
        go_big_quiet (fail)
        have hbq := below_drewN (Below.refl wr.heap.size wr) nq
        have hbF := hbr.trans (hbq.mono hbr.size)
        generalize wr.drewN nq = w3 at hbF ⊢
        clear c3 x0 y0 hbq
        go_wp2
        go_roundw
        case rel => exact ⟨i + 1, by omega, by go_num, hbF⟩
        case measure => simp [intOf]; omega
      · obtain rfl : i = a := by omega
        have hd : decide (u.who < (j : Int)) = false := decide_eq_false (fun h => hlt (hlu.1 h))
        have hd' : ¬ u.who < (j : Int) := fun h => hlt (hlu.1 h)
        subst hao
        clear hless hlu hX2
        go_wp2_with fail
        go_big_quiet (fail)
        have hbq := below_drewN (Below.refl wr.heap.size wr) nq
        have hbF := hbr.trans (hbq.mono hbr.size)
        have hr3 := hr.below hbq
        have hX3 := hXr.below hbq hXr.lt
        have x03 : (wr.drewN nq).cell? ⟨w.heap.size, 0, none⟩ = some (.int .i64 (j : Int)) := x0
        have y03 : (wr.drewN nq).cell? ⟨b, off + i * 2, none⟩ = some (.int .i64 u.who) := y0
        generalize wr.drewN nq = w3 at hbF hr3 hX3 x03 y03 ⊢
        clear c3 x0 y0 hbq hr hbr hd hd' hXr
        have c3 := hr3.box.cell (i := 3) rfl
        cases o with
        | some v =>
          obtain ⟨e1, e2⟩ := Hin.out v rfl
          rw [hu] at e1
          simp only [Option.some.injEq] at e1
          subst e1
          rw [e2] at y03
          have hl2 := HP'.out rfl
          have he2 : eo = 13 := HE.out
          have Hl2 : Hid (lo = l) := hl2
          have He2 : Hid (eo = 13) := he2
          clear Hset Hin Hno HE HP' hu hl2 he2 e2
          go_wp2_with fail
          go_big_quiet (fail)
          have hbq2 := below_drewN (Below.refl w3.heap.size w3) nq
          have hbG := hbF.trans (hbq2.mono hbF.size)
          have hr4 := hr3.below hbq2
          generalize w3.drewN nq = w4 at hbG hr4 ⊢
          clear c3 x03 y03 hbq2 hr3 hbF hX3
          go_wp2
          go_ret
          exact ⟨_, _, by rw [He2.out]; rfl, by rw [Hl2.out]; exact hr4, hk2.trans (Kept.of_below hbG), by rw [Hl2.out]; exact fun b hb => Or.inl (hFo.out b hb)⟩
        | none =>
          have hgt := Hno.out u rfl hu
          have heq : (u.who == (j : Int)) = false := beq_eq_false_iff_ne.2 (by omega)
          have Hl2 : Hid (lo = l.take i ++ ⟨(j : Int), t.mac⟩ :: l.drop i) := by rw [← hj]; exact Hset.out rfl
          have He2 : Hid (eo = 0) := HE.out
          have hil2 : i ≤ l.length := Nat.le_of_lt hil
          have hci : (cap = i) = False := by
            have := hr3.cap
            simp
            omega
          clear Hin Hno HP' Hset HE hu
          go_wp2_with fail
          go_big_quiet (fail)
          have hbq2 := below_drewN (Below.refl w3.heap.size w3) nq
          have hbG := hbF.trans (hbq2.mono hbF.size)
          have hr4 := hr3.below hbq2
          have hX4 := hX3.below hbq2 hX3.lt
          generalize w3.drewN nq = w4 at hbG hr4 hX4 ⊢
          clear c3 x03 y03 hbq2 hr3 hbF hX3 hgt heq hil
          have j1 : (0 : Int) ≤ (i : Int) := by omega
          have j2 : (i : Int) ≤ (cap : Int) := by have := hr4.cap; omega
          have j3 : (i : Int) ≤ (l.length : Int) := by omega
          have hTl : (l.take i).length = i := by rw [List.length_take]; omega
          have hDl : (l.drop i).length = l.length - i := List.length_drop
          have hN3 : Hid (i + 1 + (l.length - i) = l.length + 1) := (by omega : i + 1 + (l.length - i) = l.length + 1)
          have hrT := fun U (hb : Below w4.heap.size w4 U) => (hr4.row.below hb).take i
          have hnT := (show Hid _ from hr4.nil)
          have m1 : i ≤ maxLen := by unfold maxLen; omega
          have m2 : i * 24 ≤ 140737488355328 := by omega
          have m3 : i + 1 ≤ maxLen := by unfold maxLen; omega
          have m4 : (i + 1) * 24 ≤ 140737488355328 := by omega
          have m5 : l.length + 1 ≤ maxLen := by unfold maxLen; omega
          have m6 : (l.length + 1) * 24 ≤ 140737488355328 := by omega
          have hNo : Hid (l.length + 1 = lo.length) := by
            show l.length + 1 = lo.length
            rw [Hl2.out, List.length_append, List.length_cons, hTl, hDl]; omega
          
          have hrD := fun U (hb : Below w4.heap.size w4 U) => (hr4.row.below hb).dropT i
          have hnD : Hid (some (⟨b, off + i * 2, none⟩ : Addr) = none → cap - i = 0) := fun h => by cases h
          have hB4 : B ≤ w4.heap.size := by have := hB2.size; have := hbG.size; omega
          have hbd : Below w4.heap.size w4 w4.drew := below_drewN (Below.refl _ w4) 1
          have hc3 := fun w' (hb : Below w4.heap.size w4 w') => (hr4.box.below hb hr4.box.lt).cell (i := 3) rfl
          have hx0 := fun w' (hb : Below w4.heap.size w4 w') => (hX4.below hb hX4.lt).cell (i := 0) rfl
          have hx1 := fun w' (hb : Below w4.heap.size w4 w') => (hX4.below hb hX4.lt).cell (i := 1) rfl
          go_wp2_with fail
          refine wp_region_K (fun w' => Below w4.heap.size w4 w') 21 (by kernel_rfl) ?_
          generalize w4.drew = w5 at hbd ⊢
          refine wpAnyK_takeD (i := 0) (v := ?_) (some 66) rfl rfl (by kernel_rfl) (by kernel_rfl) (by kernel_rfl) (by kernel_rfl) (by decide) (fun _ _ _ h => h) (by assumption) (Or.inl ⟨by rfl, ?_⟩) ?_
          rotate_left 1
          · intro w' hSw
            have c3 := hc3 w' hSw
            have x0 := hx0 w' hSw
            have x1 := hx1 w' hSw
            go_simp
            first | done | with_reducible rfl
          simp only [Act.put, List.setIfInBounds_toArray, List.set_cons_zero, List.set_cons_succ]
          refine wpAnyK_takeD (i := 2) (v := ?_) (some 68) rfl rfl (by kernel_rfl) (by kernel_rfl) (by kernel_rfl) (by kernel_rfl) (by decide) (fun _ _ _ h => h) (by assumption) (Or.inl ⟨by rfl, ?_⟩) ?_
          rotate_left 1
          · intro w' hSw
            have c3 := hc3 w' hSw
            have x0 := hx0 w' hSw
            have x1 := hx1 w' hSw
            go_simp
            first | done | with_reducible rfl
          simp only [Act.put, List.setIfInBounds_toArray, List.set_cons_zero, List.set_cons_succ]
          refine wpAnyK_takeD (i := 3) (v := ?_) (some 69) rfl rfl (by kernel_rfl) (by kernel_rfl) (by kernel_rfl) (by kernel_rfl) (by decide) (fun _ _ _ h => h) (by assumption) (Or.inl ⟨by rfl, ?_⟩) ?_
          rotate_left 1
          · intro w' hSw
            have c3 := hc3 w' hSw
            have x0 := hx0 w' hSw
            have x1 := hx1 w' hSw
            go_simp
            first | done | with_reducible rfl
          simp only [Act.put, List.setIfInBounds_toArray, List.set_cons_zero, List.set_cons_succ]
          refine wpAnyK_takeD (i := 4) (v := ?_) (some 70) rfl rfl (by kernel_rfl) (by kernel_rfl) (by kernel_rfl) (by kernel_rfl) (by decide) (fun _ _ _ h => h) (by assumption) (Or.inl ⟨by rfl, ?_⟩) ?_
          rotate_left 1
          · intro w' hSw
            have c3 := hc3 w' hSw
            have x0 := hx0 w' hSw
            have x1 := hx1 w' hSw
            go_simp
            first | done | with_reducible rfl
          simp only [Act.put, List.setIfInBounds_toArray, List.set_cons_zero, List.set_cons_succ]
          refine wpAnyK_takeD (i := 5) (v := ?_) (some 71) rfl rfl (by kernel_rfl) (by kernel_rfl) (by kernel_rfl) (by kernel_rfl) (by decide) (fun _ _ _ h => h) (by assumption) (Or.inl ⟨by rfl, ?_⟩) ?_
          rotate_left 1
          · intro w' hSw
            have c3 := hc3 w' hSw
            have x0 := hx0 w' hSw
            have x1 := hx1 w' hSw
            go_simp
            first | done | with_reducible rfl
          simp only [Act.put, List.setIfInBounds_toArray, List.set_cons_zero, List.set_cons_succ]
          refine wpAnyK_takeD (i := 6) (v := ?_) (some 72) rfl rfl (by kernel_rfl) (by kernel_rfl) (by kernel_rfl) (by kernel_rfl) (by decide) (fun _ _ _ h => h) (by assumption) (Or.inl ⟨by rfl, ?_⟩) ?_
          rotate_left 1
          · intro w' hSw
            have c3 := hc3 w' hSw
            have x0 := hx0 w' hSw
            have x1 := hx1 w' hSw
            go_simp
            first | done | with_reducible rfl
          simp only [Act.put, List.setIfInBounds_toArray, List.set_cons_zero, List.set_cons_succ]
          refine wpAnyK_takeD (i := 7) (v := ?_) (some 73) rfl rfl (by kernel_rfl) (by kernel_rfl) (by kernel_rfl) (by kernel_rfl) (by decide) (fun _ _ _ h => h) (by assumption) (Or.inl ⟨by rfl, ?_⟩) ?_
          rotate_left 1
          · intro w' hSw
            have c3 := hc3 w' hSw
            have x0 := hx0 w' hSw
            have x1 := hx1 w' hSw
            go_simp
            first | done | with_reducible rfl
          simp only [Act.put, List.setIfInBounds_toArray, List.set_cons_zero, List.set_cons_succ]
          refine wpAnyK_takeD (i := 9) (v := ?_) (some 75) rfl rfl (by kernel_rfl) (by kernel_rfl) (by kernel_rfl) (by kernel_rfl) (by decide) (fun _ _ _ h => h) (by assumption) (Or.inl ⟨by rfl, ?_⟩) ?_
          rotate_left 1
          · intro w' hSw
            have c3 := hc3 w' hSw
            have x0 := hx0 w' hSw
            have x1 := hx1 w' hSw
            go_simp
            first | done | with_reducible rfl
          simp only [Act.put, List.setIfInBounds_toArray, List.set_cons_zero, List.set_cons_succ]
          refine wpAnyK_takeD (i := 12) (v := ?_) (some 78) rfl rfl (by kernel_rfl) (by kernel_rfl) (by kernel_rfl) (by kernel_rfl) (by decide) (fun _ _ _ h => h) (by assumption) (Or.inl ⟨by rfl, ?_⟩) ?_
          rotate_left 1
          · intro w' hSw
            have c3 := hc3 w' hSw
            have x0 := hx0 w' hSw
            have x1 := hx1 w' hSw
            go_simp
            first | done | with_reducible rfl
          simp only [Act.put, List.setIfInBounds_toArray, List.set_cons_zero, List.set_cons_succ]
          refine wpAnyK_takeD (i := 13) (v := ?_) (some 79) rfl rfl (by kernel_rfl) (by kernel_rfl) (by kernel_rfl) (by kernel_rfl) (by decide) (fun _ _ _ h => h) (by assumption) (Or.inl ⟨by rfl, ?_⟩) ?_
          rotate_left 1
          · intro w' hSw
            have c3 := hc3 w' hSw
            have x0 := hx0 w' hSw
            have x1 := hx1 w' hSw
            go_simp
            first | done | with_reducible rfl
          simp only [Act.put, List.setIfInBounds_toArray, List.set_cons_zero, List.set_cons_succ]
          refine wpAnyK_takeD (i := 14) (v := ?_) (some 80) rfl rfl (by kernel_rfl) (by kernel_rfl) (by kernel_rfl) (by kernel_rfl) (by decide) (fun _ _ _ h => h) (by assumption) (Or.inl ⟨by rfl, ?_⟩) ?_
          rotate_left 1
          · intro w' hSw
            have c3 := hc3 w' hSw
            have x0 := hx0 w' hSw
            have x1 := hx1 w' hSw
            go_simp
            first | done | with_reducible rfl
          simp only [Act.put, List.setIfInBounds_toArray, List.set_cons_zero, List.set_cons_succ]
          refine wpAnyK_takeD (i := 15) (v := ?_) (some 81) rfl rfl (by kernel_rfl) (by kernel_rfl) (by kernel_rfl) (by kernel_rfl) (by decide) (fun _ _ _ h => h) (by assumption) (Or.inl ⟨by rfl, ?_⟩) ?_
          rotate_left 1
          · intro w' hSw
            have c3 := hc3 w' hSw
            have x0 := hx0 w' hSw
            have x1 := hx1 w' hSw
            go_simp
            first | done | with_reducible rfl
          simp only [Act.put, List.setIfInBounds_toArray, List.set_cons_zero, List.set_cons_succ]
          refine wpAnyK_takeD (i := 16) (v := ?_) (some 82) rfl rfl (by kernel_rfl) (by kernel_rfl) (by kernel_rfl) (by kernel_rfl) (by decide) (fun _ _ _ h => h) (by assumption) (Or.inl ⟨by rfl, ?_⟩) ?_
          rotate_left 1
          · intro w' hSw
            have c3 := hc3 w' hSw
            have x0 := hx0 w' hSw
            have x1 := hx1 w' hSw
            go_simp
            first | done | with_reducible rfl
          simp only [Act.put, List.setIfInBounds_toArray, List.set_cons_zero, List.set_cons_succ]
          refine wpAnyK_takeD (i := 17) (v := ?_) (some 83) rfl rfl (by kernel_rfl) (by kernel_rfl) (by kernel_rfl) (by kernel_rfl) (by decide) (fun _ _ _ h => h) (by assumption) (Or.inl ⟨by rfl, ?_⟩) ?_
          rotate_left 1
          · intro w' hSw
            have c3 := hc3 w' hSw
            have x0 := hx0 w' hSw
            have x1 := hx1 w' hSw
            go_simp
            first | done | with_reducible rfl
          simp only [Act.put, List.setIfInBounds_toArray, List.set_cons_zero, List.set_cons_succ]
          refine wpAnyK_ready (rs := [1, 10]) (by kernel_rfl) (by simp) ?_
          refine AllReadyK.cons rfl (fun K' hK => ?_) ?_
          · go_simp
            have bw6 := hbd.trans ((belowNew w5 (.cells #[] 32)).mono hbd.size)
            have hOw6 : (w5.alloc (.cells #[] 32)).ownsRow w4.heap.size 32 tagK.n (.slice (some ⟨w5.heap.size, 0, none⟩) 0 0) 0 [] := World.ownsRow_made w5 #[] 0 hbd.size (by unfold maxLen; omega) (by simp)
            have hsw6 : w5.heap.size < (w5.alloc (.cells #[] 32)).heap.size := by rw [alloc_size]; omega
            obtain ⟨w6, hw6⟩ : ∃ q, w5.alloc (.cells #[] 32) = q := ⟨_, rfl⟩
            rw [hw6] at bw6 hOw6 hsw6 ⊢
            refine hK.out _ _ (fun _ => bw6) ?_
            clear hK K' hw6
            refine wpAnyK_ready (rs := [8, 10]) (by kernel_rfl) (by simp) ?_
            refine AllReadyK.consD (some 74) rfl rfl (fun K' hK => ?_) ?_
            · refine step_ownR (K := tagK) w6 (by rfl) _ _ 37 (by rfl) w4.heap.size 32 i0 _ 24 Tryd.underlying37 hi hz0 hz1 hz2 rfl _ _ _ _ _ (by rfl) hOw6 _ _ _ hTl (Nat.zero_add _) (by rfl) (hrT _ bw6) hnT.out m1 m2 bw6.size ?_
              intro aw7 cw7 w7 hOw7 hkw7
              have bw7 := bw6.trans (Kept.below hkw7 bw6.size (fun k hk => (hOw6.lt k hk).1))
              refine hK.out _ _ (fun _ => bw7) ?_
              clear hK K' hkw7
              simp only [Act.put, List.setIfInBounds_toArray, List.set_cons_zero, List.set_cons_succ]
              refine wpAnyK_ready (rs := [10]) (by kernel_rfl) (by simp) ?_
              refine AllReadyK.cons rfl (fun K' hK => ?_) ?_
              · go_simp
                have bw8 := bw7.trans ((belowNew w7 (.cells #[.int .i64 (j : Int), .string t.mac] 32)).mono bw7.size)
                have hRw8 := tagOne w7 (j : Int) t.mac
                have hsw8 : w7.heap.size < (w7.alloc (.cells #[.int .i64 (j : Int), .string t.mac] 32)).heap.size := by rw [alloc_size]; omega
                have hOw8 := own_belowC hOw7 (belowNew w7 (.cells #[.int .i64 (j : Int), .string t.mac] 32))
                obtain ⟨w8, hw8⟩ : ∃ q, w7.alloc (.cells #[.int .i64 (j : Int), .string t.mac] 32) = q := ⟨_, rfl⟩
                rw [hw8] at bw8 hRw8 hsw8 hOw8 ⊢
                refine hK.out _ _ (fun _ => bw8) ?_
                clear hK K' hw8
                refine wpAnyK_ready (rs := [11]) (by kernel_rfl) (by simp) ?_
                refine AllReadyK.consD (some 77) rfl rfl (fun K' hK => ?_) ?_
                · refine step_ownR (K := tagK) w8 (by rfl) _ _ 37 (by rfl) w4.heap.size 32 i0 _ 24 Tryd.underlying37 hi hz0 hz1 hz2 rfl _ _ _ _ _ (by rfl) hOw8 _ _ _ rfl rfl (by rfl) hRw8 (fun h => by cases h) m3 m4 bw8.size ?_
                  intro aw9 cw9 w9 hOw9 hkw9
                  have bw9 := bw8.trans (Kept.below hkw9 bw8.size (fun k hk => (hOw8.lt k hk).1))
                  refine hK.out _ _ (fun _ => bw9) ?_
                  clear hK K' hkw9
                  simp only [Act.put, List.setIfInBounds_toArray, List.set_cons_zero, List.set_cons_succ]
                  refine wpAnyK_ready (rs := [18]) (by kernel_rfl) (by simp) ?_
                  refine AllReadyK.consD (some 84) rfl rfl (fun K' hK => ?_) ?_
                  · refine step_ownR (K := tagK) w9 (by rfl) _ _ 37 (by rfl) w4.heap.size 32 i0 _ 24 Tryd.underlying37 hi hz0 hz1 hz2 rfl _ _ _ _ _ (by rfl) hOw9 _ _ _ hDl hN3.out (by rfl) (hrD _ bw9) hnD.out m5 m6 bw9.size ?_
                    intro aw10 cw10 w10 hOw10 hkw10
                    have bw10 := bw9.trans (Kept.below hkw10 bw9.size (fun k hk => (hOw9.lt k hk).1))
                    refine hK.out _ _ (fun _ => bw10) ?_
                    clear hK K' hkw10
                    simp only [Act.put, List.setIfInBounds_toArray, List.set_cons_zero, List.set_cons_succ]
                    refine wpAnyK_ready (rs := [19]) (by kernel_rfl) (by simp) ?_
                    refine AllReadyK.cons rfl (fun K' hK => ?_) ?_
                    · go_simp
                      refine hK.out _ _ (fun _ => bw10) ?_
                      clear hK K'
                      refine wpAnyK_ready (rs := [20]) (by kernel_rfl) (by simp) ?_
                      refine AllReadyK.cons rfl (fun K' hK => ?_) ?_
                      · go_simp
                        refine hK.out _ _ (fun _ => bw10) ?_
                        clear hK K'
                        refine wpAnyK_ready (rs := [21]) (by kernel_rfl) (by simp) ?_
                        refine AllReadyK.cons rfl (fun K' hK => ?_) ?_
                        · have c3 := hc3 w10 bw10
                          have f3 := (hr4.box.below bw10 hr4.box.lt).frozen 3
                          go_simp
                          have hF := rvEnd hr4 hB4 bw10 hOw10 Hl2.out hNo.out
                          refine hK.out _ _ (fun h => absurd rfl h) ?_
                          clear hK K'
                          refine wpAnyK_done (by kernel_rfl) ?_ _
                          go_wp2
                          go_ret
                          exact ⟨_, _, by rw [He2.out]; rfl, hF.1, (hk2.trans (Kept.of_below hbG)).trans hF.2.1, fun b hb => Or.inr (Nat.le_trans (hk2.trans (Kept.of_below hbG)).size (hF.2.2 b hb))⟩
                        exact AllReadyK.nil
                      exact AllReadyK.nil
                    exact AllReadyK.nil
                  exact AllReadyK.nil
                exact AllReadyK.nil
              exact AllReadyK.nil
            refine AllReadyK.cons rfl (fun K' hK => ?_) ?_
            · go_simp
              have bw11 := bw6.trans ((belowNew w6 (.cells #[.int .i64 (j : Int), .string t.mac] 32)).mono bw6.size)
              have hRw11 := tagOne w6 (j : Int) t.mac
              have hsw11 : w6.heap.size < (w6.alloc (.cells #[.int .i64 (j : Int), .string t.mac] 32)).heap.size := by rw [alloc_size]; omega
              have hOw11 := own_belowC hOw6 (belowNew w6 (.cells #[.int .i64 (j : Int), .string t.mac] 32))
              obtain ⟨w11, hw11⟩ : ∃ q, w6.alloc (.cells #[.int .i64 (j : Int), .string t.mac] 32) = q := ⟨_, rfl⟩
              rw [hw11] at bw11 hRw11 hsw11 hOw11 ⊢
              refine hK.out _ _ (fun _ => bw11) ?_
              clear hK K' hw11
              refine wpAnyK_ready (rs := [8]) (by kernel_rfl) (by simp) ?_
              refine AllReadyK.consD (some 74) rfl rfl (fun K' hK => ?_) ?_
              · refine step_ownR (K := tagK) w11 (by rfl) _ _ 37 (by rfl) w4.heap.size 32 i0 _ 24 Tryd.underlying37 hi hz0 hz1 hz2 rfl _ _ _ _ _ (by rfl) hOw11 _ _ _ hTl (Nat.zero_add _) (by rfl) (hrT _ bw11) hnT.out m1 m2 bw11.size ?_
                intro aw12 cw12 w12 hOw12 hkw12
                have bw12 := bw11.trans (Kept.below hkw12 bw11.size (fun k hk => (hOw11.lt k hk).1))
                have hRw12 := hRw11.kept hkw12 (fun k hk e => by
                  rcases hk with ⟨_, off', e'⟩ | ⟨_, _, f'⟩
                  · simp at e'
                    simp [Value.ownBlock] at e
                    omega
                  · exact f'.elim)
                refine hK.out _ _ (fun _ => bw12) ?_
                clear hK K' hkw12
                simp only [Act.put, List.setIfInBounds_toArray, List.set_cons_zero, List.set_cons_succ]
                refine wpAnyK_ready (rs := [11]) (by kernel_rfl) (by simp) ?_
                refine AllReadyK.consD (some 77) rfl rfl (fun K' hK => ?_) ?_
                · refine step_ownR (K := tagK) w12 (by rfl) _ _ 37 (by rfl) w4.heap.size 32 i0 _ 24 Tryd.underlying37 hi hz0 hz1 hz2 rfl _ _ _ _ _ (by rfl) hOw12 _ _ _ rfl rfl (by rfl) hRw12 (fun h => by cases h) m3 m4 bw12.size ?_
                  intro aw13 cw13 w13 hOw13 hkw13
                  have bw13 := bw12.trans (Kept.below hkw13 bw12.size (fun k hk => (hOw12.lt k hk).1))
                  refine hK.out _ _ (fun _ => bw13) ?_
                  clear hK K' hkw13
                  simp only [Act.put, List.setIfInBounds_toArray, List.set_cons_zero, List.set_cons_succ]
                  refine wpAnyK_ready (rs := [18]) (by kernel_rfl) (by simp) ?_
                  refine AllReadyK.consD (some 84) rfl rfl (fun K' hK => ?_) ?_
                  · refine step_ownR (K := tagK) w13 (by rfl) _ _ 37 (by rfl) w4.heap.size 32 i0 _ 24 Tryd.underlying37 hi hz0 hz1 hz2 rfl _ _ _ _ _ (by rfl) hOw13 _ _ _ hDl hN3.out (by rfl) (hrD _ bw13) hnD.out m5 m6 bw13.size ?_
                    intro aw14 cw14 w14 hOw14 hkw14
                    have bw14 := bw13.trans (Kept.below hkw14 bw13.size (fun k hk => (hOw13.lt k hk).1))
                    refine hK.out _ _ (fun _ => bw14) ?_
                    clear hK K' hkw14
                    simp only [Act.put, List.setIfInBounds_toArray, List.set_cons_zero, List.set_cons_succ]
                    refine wpAnyK_ready (rs := [19]) (by kernel_rfl) (by simp) ?_
                    refine AllReadyK.cons rfl (fun K' hK => ?_) ?_
                    · go_simp
                      refine hK.out _ _ (fun _ => bw14) ?_
                      clear hK K'
                      refine wpAnyK_ready (rs := [20]) (by kernel_rfl) (by simp) ?_
                      refine AllReadyK.cons rfl (fun K' hK => ?_) ?_
                      · go_simp
                        refine hK.out _ _ (fun _ => bw14) ?_
                        clear hK K'
                        refine wpAnyK_ready (rs := [21]) (by kernel_rfl) (by simp) ?_
                        refine AllReadyK.cons rfl (fun K' hK => ?_) ?_
                        · have c3 := hc3 w14 bw14
                          have f3 := (hr4.box.below bw14 hr4.box.lt).frozen 3
                          go_simp
                          have hF := rvEnd hr4 hB4 bw14 hOw14 Hl2.out hNo.out
                          refine hK.out _ _ (fun h => absurd rfl h) ?_
                          clear hK K'
                          refine wpAnyK_done (by kernel_rfl) ?_ _
                          go_wp2
                          go_ret
                          exact ⟨_, _, by rw [He2.out]; rfl, hF.1, (hk2.trans (Kept.of_below hbG)).trans hF.2.1, fun b hb => Or.inr (Nat.le_trans (hk2.trans (Kept.of_below hbG)).size (hF.2.2 b hb))⟩
                        exact AllReadyK.nil
                      exact AllReadyK.nil
                    exact AllReadyK.nil
                  exact AllReadyK.nil
                exact AllReadyK.nil
              exact AllReadyK.nil
            exact AllReadyK.nil
          refine AllReadyK.cons rfl (fun K' hK => ?_) ?_
          · go_simp
            have bw15 := hbd.trans ((belowNew w5 (.cells #[.int .i64 (j : Int), .string t.mac] 32)).mono hbd.size)
            have hRw15 := tagOne w5 (j : Int) t.mac
            have hsw15 : w5.heap.size < (w5.alloc (.cells #[.int .i64 (j : Int), .string t.mac] 32)).heap.size := by rw [alloc_size]; omega
            obtain ⟨w15, hw15⟩ : ∃ q, w5.alloc (.cells #[.int .i64 (j : Int), .string t.mac] 32) = q := ⟨_, rfl⟩
            rw [hw15] at bw15 hRw15 hsw15 ⊢
            refine hK.out _ _ (fun _ => bw15) ?_
            clear hK K' hw15
            refine wpAnyK_ready (rs := [1]) (by kernel_rfl) (by simp) ?_
            refine AllReadyK.cons rfl (fun K' hK => ?_) ?_
            · go_simp
              have bw16 := bw15.trans ((belowNew w15 (.cells #[] 32)).mono bw15.size)
              have hOw16 : (w15.alloc (.cells #[] 32)).ownsRow w4.heap.size 32 tagK.n (.slice (some ⟨w15.heap.size, 0, none⟩) 0 0) 0 [] := World.ownsRow_made w15 #[] 0 bw15.size (by unfold maxLen; omega) (by simp)
              have hsw16 : w15.heap.size < (w15.alloc (.cells #[] 32)).heap.size := by rw [alloc_size]; omega
              have hRw16 := hRw15.below (belowNew w15 (.cells #[] 32))
              obtain ⟨w16, hw16⟩ : ∃ q, w15.alloc (.cells #[] 32) = q := ⟨_, rfl⟩
              rw [hw16] at bw16 hOw16 hsw16 hRw16 ⊢
              refine hK.out _ _ (fun _ => bw16) ?_
              clear hK K' hw16
              refine wpAnyK_ready (rs := [8]) (by kernel_rfl) (by simp) ?_
              refine AllReadyK.consD (some 74) rfl rfl (fun K' hK => ?_) ?_
              · refine step_ownR (K := tagK) w16 (by rfl) _ _ 37 (by rfl) w4.heap.size 32 i0 _ 24 Tryd.underlying37 hi hz0 hz1 hz2 rfl _ _ _ _ _ (by rfl) hOw16 _ _ _ hTl (Nat.zero_add _) (by rfl) (hrT _ bw16) hnT.out m1 m2 bw16.size ?_
                intro aw17 cw17 w17 hOw17 hkw17
                have bw17 := bw16.trans (Kept.below hkw17 bw16.size (fun k hk => (hOw16.lt k hk).1))
                have hRw17 := hRw16.kept hkw17 (fun k hk e => by
                  rcases hk with ⟨_, off', e'⟩ | ⟨_, _, f'⟩
                  · simp at e'
                    simp [Value.ownBlock] at e
                    omega
                  · exact f'.elim)
                refine hK.out _ _ (fun _ => bw17) ?_
                clear hK K' hkw17
                simp only [Act.put, List.setIfInBounds_toArray, List.set_cons_zero, List.set_cons_succ]
                refine wpAnyK_ready (rs := [11]) (by kernel_rfl) (by simp) ?_
                refine AllReadyK.consD (some 77) rfl rfl (fun K' hK => ?_) ?_
                · refine step_ownR (K := tagK) w17 (by rfl) _ _ 37 (by rfl) w4.heap.size 32 i0 _ 24 Tryd.underlying37 hi hz0 hz1 hz2 rfl _ _ _ _ _ (by rfl) hOw17 _ _ _ rfl rfl (by rfl) hRw17 (fun h => by cases h) m3 m4 bw17.size ?_
                  intro aw18 cw18 w18 hOw18 hkw18
                  have bw18 := bw17.trans (Kept.below hkw18 bw17.size (fun k hk => (hOw17.lt k hk).1))
                  refine hK.out _ _ (fun _ => bw18) ?_
                  clear hK K' hkw18
                  simp only [Act.put, List.setIfInBounds_toArray, List.set_cons_zero, List.set_cons_succ]
                  refine wpAnyK_ready (rs := [18]) (by kernel_rfl) (by simp) ?_
                  refine AllReadyK.consD (some 84) rfl rfl (fun K' hK => ?_) ?_
                  · refine step_ownR (K := tagK) w18 (by rfl) _ _ 37 (by rfl) w4.heap.size 32 i0 _ 24 Tryd.underlying37 hi hz0 hz1 hz2 rfl _ _ _ _ _ (by rfl) hOw18 _ _ _ hDl hN3.out (by rfl) (hrD _ bw18) hnD.out m5 m6 bw18.size ?_
                    intro aw19 cw19 w19 hOw19 hkw19
                    have bw19 := bw18.trans (Kept.below hkw19 bw18.size (fun k hk => (hOw18.lt k hk).1))
                    refine hK.out _ _ (fun _ => bw19) ?_
                    clear hK K' hkw19
                    simp only [Act.put, List.setIfInBounds_toArray, List.set_cons_zero, List.set_cons_succ]
                    refine wpAnyK_ready (rs := [19]) (by kernel_rfl) (by simp) ?_
                    refine AllReadyK.cons rfl (fun K' hK => ?_) ?_
                    · go_simp
                      refine hK.out _ _ (fun _ => bw19) ?_
                      clear hK K'
                      refine wpAnyK_ready (rs := [20]) (by kernel_rfl) (by simp) ?_
                      refine AllReadyK.cons rfl (fun K' hK => ?_) ?_
                      · go_simp
                        refine hK.out _ _ (fun _ => bw19) ?_
                        clear hK K'
                        refine wpAnyK_ready (rs := [21]) (by kernel_rfl) (by simp) ?_
                        refine AllReadyK.cons rfl (fun K' hK => ?_) ?_
                        · have c3 := hc3 w19 bw19
                          have f3 := (hr4.box.below bw19 hr4.box.lt).frozen 3
                          go_simp
                          have hF := rvEnd hr4 hB4 bw19 hOw19 Hl2.out hNo.out
                          refine hK.out _ _ (fun h => absurd rfl h) ?_
                          clear hK K'
                          refine wpAnyK_done (by kernel_rfl) ?_ _
                          go_wp2
                          go_ret
                          exact ⟨_, _, by rw [He2.out]; rfl, hF.1, (hk2.trans (Kept.of_below hbG)).trans hF.2.1, fun b hb => Or.inr (Nat.le_trans (hk2.trans (Kept.of_below hbG)).size (hF.2.2 b hb))⟩
                        exact AllReadyK.nil
                      exact AllReadyK.nil
                    exact AllReadyK.nil
                  exact AllReadyK.nil
                exact AllReadyK.nil
              exact AllReadyK.nil
            exact AllReadyK.nil
          exact AllReadyK.nil
    · have hia' : i = l.length := by omega
      have hil' : ¬ (i : Int) < (l.length : Int) := by omega
      have hd : decide ((i : Int) < (l.length : Int)) = false := decide_eq_false hil'
      obtain rfl : i = a := by omega
      have hoN : o = none := by
        cases o with
        | none => rfl
        | some v =>
          obtain ⟨e1, e2⟩ := Hin.out v rfl
          obtain ⟨h', _⟩ := List.getElem?_eq_some_iff.1 e1
          omega
      subst hoN
      have Hl2 : Hid (lo = l.take i ++ ⟨(j : Int), t.mac⟩ :: l.drop i) := by rw [← hj]; exact Hset.out rfl
      have He2 : Hid (eo = 0) := HE.out
      have hil2 : i ≤ l.length := by omega
      clear Hin Hno HP' Hset HE hless hX2 hia' hia hal
      go_wp2_with fail
      go_big_quiet (fail)
      have hbq := below_drewN (Below.refl wr.heap.size wr) nq
      have hbF := hbr.trans (hbq.mono hbr.size)
      have hr3 := hr.below hbq
      have hX3 := hXr.below hbq hXr.lt
      generalize wr.drewN nq = w3 at hbF hr3 hX3 ⊢
      clear c3 x0 hbq hr hbr hXr
      have c3 := hr3.box.cell (i := 3) rfl
      go_wp2_with fail
      go_big_quiet (fail)
      have hbq2 := below_drewN (Below.refl w3.heap.size w3) nq
      have hbG := hbF.trans (hbq2.mono hbF.size)
      have hr4 := hr3.below hbq2
      have hX4 := hX3.below hbq2 hX3.lt
      generalize w3.drewN nq = w4 at hbG hr4 hX4 ⊢
      clear c3 hbq2 hr3 hbF hX3 hd hil'
      have hcl := hr4.cap
      have hnl := hr4.nil
      cases ao with
      | none =>
        have hc0 := hnl rfl
        subst hc0
        have hl0 : l = [] := List.eq_nil_of_length_eq_zero (by omega)
        subst hl0
        obtain rfl : i = 0 := by simpa using hil2
        clear hnl hcl
        have hTl : (([] : List TagD).take 0).length = 0 := rfl
        have hDl : (([] : List TagD).drop 0).length = 0 := rfl
        have hrT : ∀ U, Below w4.heap.size w4 U → RowAt tagK U none (([] : List TagD).take 0) := fun U _ => nil_row _ _
        have hrD : ∀ U, Below w4.heap.size w4 U → RowAt tagK U none (([] : List TagD).drop 0) := fun U _ => nil_row _ _
        have m1 : 0 ≤ maxLen := by unfold maxLen; omega
        have m2 : 0 * 24 ≤ 140737488355328 := by omega
        have m3 : 0 + 1 ≤ maxLen := by unfold maxLen; omega
        have m4 : (0 + 1) * 24 ≤ 140737488355328 := by omega
        have m5 := m3
        have m6 := m4
        have hNo : Hid (0 + 1 = lo.length) := by
          show 0 + 1 = lo.length
          rw [Hl2.out]
          rfl
        have hB4 : B ≤ w4.heap.size := by have := hB2.size; have := hbG.size; omega
        have hbd : Below w4.heap.size w4 w4.drew := below_drewN (Below.refl _ w4) 1
        have hc3 := fun w' (hb : Below w4.heap.size w4 w') => (hr4.box.below hb hr4.box.lt).cell (i := 3) rfl
        have hx0 := fun w' (hb : Below w4.heap.size w4 w') => (hX4.below hb hX4.lt).cell (i := 0) rfl
        have hx1 := fun w' (hb : Below w4.heap.size w4 w') => (hX4.below hb hX4.lt).cell (i := 1) rfl
        go_wp2_with fail
        refine wp_region_K (fun w' => Below w4.heap.size w4 w') 21 (by kernel_rfl) ?_
        generalize w4.drew = w5 at hbd ⊢
        refine wpAnyK_takeD (i := 0) (v := ?_) (some 66) rfl rfl (by kernel_rfl) (by kernel_rfl) (by kernel_rfl) (by kernel_rfl) (by decide) (fun _ _ _ h => h) (by assumption) (Or.inl ⟨by rfl, ?_⟩) ?_
        rotate_left 1
        · intro w' hSw
          have c3 := hc3 w' hSw
          have x0 := hx0 w' hSw
          have x1 := hx1 w' hSw
          go_simp
          first | done | with_reducible rfl
        simp only [Act.put, List.setIfInBounds_toArray, List.set_cons_zero, List.set_cons_succ]
        refine wpAnyK_takeD (i := 2) (v := ?_) (some 68) rfl rfl (by kernel_rfl) (by kernel_rfl) (by kernel_rfl) (by kernel_rfl) (by decide) (fun _ _ _ h => h) (by assumption) (Or.inl ⟨by rfl, ?_⟩) ?_
        rotate_left 1
        · intro w' hSw
          have c3 := hc3 w' hSw
          have x0 := hx0 w' hSw
          have x1 := hx1 w' hSw
          go_simp
          first | done | with_reducible rfl
        simp only [Act.put, List.setIfInBounds_toArray, List.set_cons_zero, List.set_cons_succ]
        refine wpAnyK_takeD (i := 3) (v := ?_) (some 69) rfl rfl (by kernel_rfl) (by kernel_rfl) (by kernel_rfl) (by kernel_rfl) (by decide) (fun _ _ _ h => h) (by assumption) (Or.inl ⟨by rfl, ?_⟩) ?_
        rotate_left 1
        · intro w' hSw
          have c3 := hc3 w' hSw
          have x0 := hx0 w' hSw
          have x1 := hx1 w' hSw
          go_simp
          first | done | with_reducible rfl
        simp only [Act.put, List.setIfInBounds_toArray, List.set_cons_zero, List.set_cons_succ]
        refine wpAnyK_takeD (i := 4) (v := ?_) (some 70) rfl rfl (by kernel_rfl) (by kernel_rfl) (by kernel_rfl) (by kernel_rfl) (by decide) (fun _ _ _ h => h) (by assumption) (Or.inl ⟨by rfl, ?_⟩) ?_
        rotate_left 1
        · intro w' hSw
          have c3 := hc3 w' hSw
          have x0 := hx0 w' hSw
          have x1 := hx1 w' hSw
          go_simp
          first | done | with_reducible rfl
        simp only [Act.put, List.setIfInBounds_toArray, List.set_cons_zero, List.set_cons_succ]
        refine wpAnyK_takeD (i := 5) (v := ?_) (some 71) rfl rfl (by kernel_rfl) (by kernel_rfl) (by kernel_rfl) (by kernel_rfl) (by decide) (fun _ _ _ h => h) (by assumption) (Or.inl ⟨by rfl, ?_⟩) ?_
        rotate_left 1
        · intro w' hSw
          have c3 := hc3 w' hSw
          have x0 := hx0 w' hSw
          have x1 := hx1 w' hSw
          go_simp
          first | done | with_reducible rfl
        simp only [Act.put, List.setIfInBounds_toArray, List.set_cons_zero, List.set_cons_succ]
        refine wpAnyK_takeD (i := 6) (v := ?_) (some 72) rfl rfl (by kernel_rfl) (by kernel_rfl) (by kernel_rfl) (by kernel_rfl) (by decide) (fun _ _ _ h => h) (by assumption) (Or.inl ⟨by rfl, ?_⟩) ?_
        rotate_left 1
        · intro w' hSw
          have c3 := hc3 w' hSw
          have x0 := hx0 w' hSw
          have x1 := hx1 w' hSw
          go_simp
          first | done | with_reducible rfl
        simp only [Act.put, List.setIfInBounds_toArray, List.set_cons_zero, List.set_cons_succ]
        refine wpAnyK_takeD (i := 7) (v := ?_) (some 73) rfl rfl (by kernel_rfl) (by kernel_rfl) (by kernel_rfl) (by kernel_rfl) (by decide) (fun _ _ _ h => h) (by assumption) (Or.inl ⟨by rfl, ?_⟩) ?_
        rotate_left 1
        · intro w' hSw
          have c3 := hc3 w' hSw
          have x0 := hx0 w' hSw
          have x1 := hx1 w' hSw
          go_simp
          first | done | with_reducible rfl
        simp only [Act.put, List.setIfInBounds_toArray, List.set_cons_zero, List.set_cons_succ]
        refine wpAnyK_takeD (i := 9) (v := ?_) (some 75) rfl rfl (by kernel_rfl) (by kernel_rfl) (by kernel_rfl) (by kernel_rfl) (by decide) (fun _ _ _ h => h) (by assumption) (Or.inl ⟨by rfl, ?_⟩) ?_
        rotate_left 1
        · intro w' hSw
          have c3 := hc3 w' hSw
          have x0 := hx0 w' hSw
          have x1 := hx1 w' hSw
          go_simp
          first | done | with_reducible rfl
        simp only [Act.put, List.setIfInBounds_toArray, List.set_cons_zero, List.set_cons_succ]
        refine wpAnyK_takeD (i := 12) (v := ?_) (some 78) rfl rfl (by kernel_rfl) (by kernel_rfl) (by kernel_rfl) (by kernel_rfl) (by decide) (fun _ _ _ h => h) (by assumption) (Or.inl ⟨by rfl, ?_⟩) ?_
        rotate_left 1
        · intro w' hSw
          have c3 := hc3 w' hSw
          have x0 := hx0 w' hSw
          have x1 := hx1 w' hSw
          go_simp
          first | done | with_reducible rfl
        simp only [Act.put, List.setIfInBounds_toArray, List.set_cons_zero, List.set_cons_succ]
        refine wpAnyK_takeD (i := 13) (v := ?_) (some 79) rfl rfl (by kernel_rfl) (by kernel_rfl) (by kernel_rfl) (by kernel_rfl) (by decide) (fun _ _ _ h => h) (by assumption) (Or.inl ⟨by rfl, ?_⟩) ?_
        rotate_left 1
        · intro w' hSw
          have c3 := hc3 w' hSw
          have x0 := hx0 w' hSw
          have x1 := hx1 w' hSw
          go_simp
          first | done | with_reducible rfl
        simp only [Act.put, List.setIfInBounds_toArray, List.set_cons_zero, List.set_cons_succ]
        refine wpAnyK_takeD (i := 14) (v := ?_) (some 80) rfl rfl (by kernel_rfl) (by kernel_rfl) (by kernel_rfl) (by kernel_rfl) (by decide) (fun _ _ _ h => h) (by assumption) (Or.inl ⟨by rfl, ?_⟩) ?_
        rotate_left 1
        · intro w' hSw
          have c3 := hc3 w' hSw
          have x0 := hx0 w' hSw
          have x1 := hx1 w' hSw
          go_simp
          first | done | with_reducible rfl
        simp only [Act.put, List.setIfInBounds_toArray, List.set_cons_zero, List.set_cons_succ]
        refine wpAnyK_takeD (i := 15) (v := ?_) (some 81) rfl rfl (by kernel_rfl) (by kernel_rfl) (by kernel_rfl) (by kernel_rfl) (by decide) (fun _ _ _ h => h) (by assumption) (Or.inl ⟨by rfl, ?_⟩) ?_
        rotate_left 1
        · intro w' hSw
          have c3 := hc3 w' hSw
          have x0 := hx0 w' hSw
          have x1 := hx1 w' hSw
          go_simp
          first | done | with_reducible rfl
        simp only [Act.put, List.setIfInBounds_toArray, List.set_cons_zero, List.set_cons_succ]
        refine wpAnyK_takeD (i := 16) (v := ?_) (some 82) rfl rfl (by kernel_rfl) (by kernel_rfl) (by kernel_rfl) (by kernel_rfl) (by decide) (fun _ _ _ h => h) (by assumption) (Or.inl ⟨by rfl, ?_⟩) ?_
        rotate_left 1
        · intro w' hSw
          have c3 := hc3 w' hSw
          have x0 := hx0 w' hSw
          have x1 := hx1 w' hSw
          go_simp
          first | done | with_reducible rfl
        simp only [Act.put, List.setIfInBounds_toArray, List.set_cons_zero, List.set_cons_succ]
        refine wpAnyK_takeD (i := 17) (v := ?_) (some 83) rfl rfl (by kernel_rfl) (by kernel_rfl) (by kernel_rfl) (by kernel_rfl) (by decide) (fun _ _ _ h => h) (by assumption) (Or.inl ⟨by rfl, ?_⟩) ?_
        rotate_left 1
        · intro w' hSw
          have c3 := hc3 w' hSw
          have x0 := hx0 w' hSw
          have x1 := hx1 w' hSw
          go_simp
          first | done | with_reducible rfl
        simp only [Act.put, List.setIfInBounds_toArray, List.set_cons_zero, List.set_cons_succ]
        refine wpAnyK_ready (rs := [1, 10]) (by kernel_rfl) (by simp) ?_
        refine AllReadyK.cons rfl (fun K' hK => ?_) ?_
        · go_simp
          have bw6 := hbd.trans ((belowNew w5 (.cells #[] 32)).mono hbd.size)
          have hOw6 : (w5.alloc (.cells #[] 32)).ownsRow w4.heap.size 32 tagK.n (.slice (some ⟨w5.heap.size, 0, none⟩) 0 0) 0 [] := World.ownsRow_made w5 #[] 0 hbd.size (by unfold maxLen; omega) (by simp)
          have hsw6 : w5.heap.size < (w5.alloc (.cells #[] 32)).heap.size := by rw [alloc_size]; omega
          obtain ⟨w6, hw6⟩ : ∃ q, w5.alloc (.cells #[] 32) = q := ⟨_, rfl⟩
          rw [hw6] at bw6 hOw6 hsw6 ⊢
          refine hK.out _ _ (fun _ => bw6) ?_
          clear hK K' hw6
          refine wpAnyK_ready (rs := [8, 10]) (by kernel_rfl) (by simp) ?_
          refine AllReadyK.consD (some 74) rfl rfl (fun K' hK => ?_) ?_
          · refine step_ownR (K := tagK) w6 (by rfl) _ _ 37 (by rfl) w4.heap.size 32 i0 _ 24 Tryd.underlying37 hi hz0 hz1 hz2 rfl _ _ _ _ _ (by rfl) hOw6 _ _ _ hTl (Nat.zero_add _) (by rfl) (hrT _ bw6) (fun _ => rfl) m1 m2 bw6.size ?_
            intro aw7 cw7 w7 hOw7 hkw7
            have bw7 := bw6.trans (Kept.below hkw7 bw6.size (fun k hk => (hOw6.lt k hk).1))
            refine hK.out _ _ (fun _ => bw7) ?_
            clear hK K' hkw7
            simp only [Act.put, List.setIfInBounds_toArray, List.set_cons_zero, List.set_cons_succ]
            refine wpAnyK_ready (rs := [10]) (by kernel_rfl) (by simp) ?_
            refine AllReadyK.cons rfl (fun K' hK => ?_) ?_
            · go_simp
              have bw8 := bw7.trans ((belowNew w7 (.cells #[.int .i64 (j : Int), .string t.mac] 32)).mono bw7.size)
              have hRw8 := tagOne w7 (j : Int) t.mac
              have hsw8 : w7.heap.size < (w7.alloc (.cells #[.int .i64 (j : Int), .string t.mac] 32)).heap.size := by rw [alloc_size]; omega
              have hOw8 := own_belowC hOw7 (belowNew w7 (.cells #[.int .i64 (j : Int), .string t.mac] 32))
              obtain ⟨w8, hw8⟩ : ∃ q, w7.alloc (.cells #[.int .i64 (j : Int), .string t.mac] 32) = q := ⟨_, rfl⟩
              rw [hw8] at bw8 hRw8 hsw8 hOw8 ⊢
              refine hK.out _ _ (fun _ => bw8) ?_
              clear hK K' hw8
              refine wpAnyK_ready (rs := [11]) (by kernel_rfl) (by simp) ?_
              refine AllReadyK.consD (some 77) rfl rfl (fun K' hK => ?_) ?_
              · refine step_ownR (K := tagK) w8 (by rfl) _ _ 37 (by rfl) w4.heap.size 32 i0 _ 24 Tryd.underlying37 hi hz0 hz1 hz2 rfl _ _ _ _ _ (by rfl) hOw8 _ _ _ rfl rfl (by rfl) hRw8 (fun h => by cases h) m3 m4 bw8.size ?_
                intro aw9 cw9 w9 hOw9 hkw9
                have bw9 := bw8.trans (Kept.below hkw9 bw8.size (fun k hk => (hOw8.lt k hk).1))
                refine hK.out _ _ (fun _ => bw9) ?_
                clear hK K' hkw9
                simp only [Act.put, List.setIfInBounds_toArray, List.set_cons_zero, List.set_cons_succ]
                refine wpAnyK_ready (rs := [18]) (by kernel_rfl) (by simp) ?_
                refine AllReadyK.consD (some 84) rfl rfl (fun K' hK => ?_) ?_
                · refine step_ownR (K := tagK) w9 (by rfl) _ _ 37 (by rfl) w4.heap.size 32 i0 _ 24 Tryd.underlying37 hi hz0 hz1 hz2 rfl _ _ _ _ _ (by rfl) hOw9 _ _ _ hDl rfl (by rfl) (hrD _ bw9) (fun _ => rfl) m5 m6 bw9.size ?_
                  intro aw10 cw10 w10 hOw10 hkw10
                  have bw10 := bw9.trans (Kept.below hkw10 bw9.size (fun k hk => (hOw9.lt k hk).1))
                  refine hK.out _ _ (fun _ => bw10) ?_
                  clear hK K' hkw10
                  simp only [Act.put, List.setIfInBounds_toArray, List.set_cons_zero, List.set_cons_succ]
                  refine wpAnyK_ready (rs := [19]) (by kernel_rfl) (by simp) ?_
                  refine AllReadyK.cons rfl (fun K' hK => ?_) ?_
                  · go_simp
                    refine hK.out _ _ (fun _ => bw10) ?_
                    clear hK K'
                    refine wpAnyK_ready (rs := [20]) (by kernel_rfl) (by simp) ?_
                    refine AllReadyK.cons rfl (fun K' hK => ?_) ?_
                    · go_simp
                      refine hK.out _ _ (fun _ => bw10) ?_
                      clear hK K'
                      refine wpAnyK_ready (rs := [21]) (by kernel_rfl) (by simp) ?_
                      refine AllReadyK.cons rfl (fun K' hK => ?_) ?_
                      · have c3 := hc3 w10 bw10
                        have f3 := (hr4.box.below bw10 hr4.box.lt).frozen 3
                        go_simp
                        have hF := rvEnd hr4 hB4 bw10 hOw10 Hl2.out hNo.out
                        refine hK.out _ _ (fun h => absurd rfl h) ?_
                        clear hK K'
                        refine wpAnyK_done (by kernel_rfl) ?_ _
                        go_wp2
                        go_ret
                        exact ⟨_, _, by rw [He2.out]; rfl, hF.1, (hk2.trans (Kept.of_below hbG)).trans hF.2.1, fun b hb => Or.inr (Nat.le_trans (hk2.trans (Kept.of_below hbG)).size (hF.2.2 b hb))⟩
                      exact AllReadyK.nil
                    exact AllReadyK.nil
                  exact AllReadyK.nil
                exact AllReadyK.nil
              exact AllReadyK.nil
            exact AllReadyK.nil
          refine AllReadyK.cons rfl (fun K' hK => ?_) ?_
          · go_simp
            have bw11 := bw6.trans ((belowNew w6 (.cells #[.int .i64 (j : Int), .string t.mac] 32)).mono bw6.size)
            have hRw11 := tagOne w6 (j : Int) t.mac
            have hsw11 : w6.heap.size < (w6.alloc (.cells #[.int .i64 (j : Int), .string t.mac] 32)).heap.size := by rw [alloc_size]; omega
            have hOw11 := own_belowC hOw6 (belowNew w6 (.cells #[.int .i64 (j : Int), .string t.mac] 32))
            obtain ⟨w11, hw11⟩ : ∃ q, w6.alloc (.cells #[.int .i64 (j : Int), .string t.mac] 32) = q := ⟨_, rfl⟩
            rw [hw11] at bw11 hRw11 hsw11 hOw11 ⊢
            refine hK.out _ _ (fun _ => bw11) ?_
            clear hK K' hw11
            refine wpAnyK_ready (rs := [8]) (by kernel_rfl) (by simp) ?_
            refine AllReadyK.consD (some 74) rfl rfl (fun K' hK => ?_) ?_
            · refine step_ownR (K := tagK) w11 (by rfl) _ _ 37 (by rfl) w4.heap.size 32 i0 _ 24 Tryd.underlying37 hi hz0 hz1 hz2 rfl _ _ _ _ _ (by rfl) hOw11 _ _ _ hTl (Nat.zero_add _) (by rfl) (hrT _ bw11) (fun _ => rfl) m1 m2 bw11.size ?_
              intro aw12 cw12 w12 hOw12 hkw12
              have bw12 := bw11.trans (Kept.below hkw12 bw11.size (fun k hk => (hOw11.lt k hk).1))
              have hRw12 := hRw11.kept hkw12 (fun k hk e => by
                rcases hk with ⟨_, off', e'⟩ | ⟨_, _, f'⟩
                · simp at e'
                  simp [Value.ownBlock] at e
                  omega
                · exact f'.elim)
              refine hK.out _ _ (fun _ => bw12) ?_
              clear hK K' hkw12
              simp only [Act.put, List.setIfInBounds_toArray, List.set_cons_zero, List.set_cons_succ]
              refine wpAnyK_ready (rs := [11]) (by kernel_rfl) (by simp) ?_
              refine AllReadyK.consD (some 77) rfl rfl (fun K' hK => ?_) ?_
              · refine step_ownR (K := tagK) w12 (by rfl) _ _ 37 (by rfl) w4.heap.size 32 i0 _ 24 Tryd.underlying37 hi hz0 hz1 hz2 rfl _ _ _ _ _ (by rfl) hOw12 _ _ _ rfl rfl (by rfl) hRw12 (fun h => by cases h) m3 m4 bw12.size ?_
                intro aw13 cw13 w13 hOw13 hkw13
                have bw13 := bw12.trans (Kept.below hkw13 bw12.size (fun k hk => (hOw12.lt k hk).1))
                refine hK.out _ _ (fun _ => bw13) ?_
                clear hK K' hkw13
                simp only [Act.put, List.setIfInBounds_toArray, List.set_cons_zero, List.set_cons_succ]
                refine wpAnyK_ready (rs := [18]) (by kernel_rfl) (by simp) ?_
                refine AllReadyK.consD (some 84) rfl rfl (fun K' hK => ?_) ?_
                · refine step_ownR (K := tagK) w13 (by rfl) _ _ 37 (by rfl) w4.heap.size 32 i0 _ 24 Tryd.underlying37 hi hz0 hz1 hz2 rfl _ _ _ _ _ (by rfl) hOw13 _ _ _ hDl rfl (by rfl) (hrD _ bw13) (fun _ => rfl) m5 m6 bw13.size ?_
                  intro aw14 cw14 w14 hOw14 hkw14
                  have bw14 := bw13.trans (Kept.below hkw14 bw13.size (fun k hk => (hOw13.lt k hk).1))
                  refine hK.out _ _ (fun _ => bw14) ?_
                  clear hK K' hkw14
                  simp only [Act.put, List.setIfInBounds_toArray, List.set_cons_zero, List.set_cons_succ]
                  refine wpAnyK_ready (rs := [19]) (by kernel_rfl) (by simp) ?_
                  refine AllReadyK.cons rfl (fun K' hK => ?_) ?_
                  · go_simp
                    refine hK.out _ _ (fun _ => bw14) ?_
                    clear hK K'
                    refine wpAnyK_ready (rs := [20]) (by kernel_rfl) (by simp) ?_
                    refine AllReadyK.cons rfl (fun K' hK => ?_) ?_
                    · go_simp
                      refine hK.out _ _ (fun _ => bw14) ?_
                      clear hK K'
                      refine wpAnyK_ready (rs := [21]) (by kernel_rfl) (by simp) ?_
                      refine AllReadyK.cons rfl (fun K' hK => ?_) ?_
                      · have c3 := hc3 w14 bw14
                        have f3 := (hr4.box.below bw14 hr4.box.lt).frozen 3
                        go_simp
                        have hF := rvEnd hr4 hB4 bw14 hOw14 Hl2.out hNo.out
                        refine hK.out _ _ (fun h => absurd rfl h) ?_
                        clear hK K'
                        refine wpAnyK_done (by kernel_rfl) ?_ _
                        go_wp2
                        go_ret
                        exact ⟨_, _, by rw [He2.out]; rfl, hF.1, (hk2.trans (Kept.of_below hbG)).trans hF.2.1, fun b hb => Or.inr (Nat.le_trans (hk2.trans (Kept.of_below hbG)).size (hF.2.2 b hb))⟩
                      exact AllReadyK.nil
                    exact AllReadyK.nil
                  exact AllReadyK.nil
                exact AllReadyK.nil
              exact AllReadyK.nil
            exact AllReadyK.nil
          exact AllReadyK.nil
        refine AllReadyK.cons rfl (fun K' hK => ?_) ?_
        · go_simp
          have bw15 := hbd.trans ((belowNew w5 (.cells #[.int .i64 (j : Int), .string t.mac] 32)).mono hbd.size)
          have hRw15 := tagOne w5 (j : Int) t.mac
          have hsw15 : w5.heap.size < (w5.alloc (.cells #[.int .i64 (j : Int), .string t.mac] 32)).heap.size := by rw [alloc_size]; omega
          obtain ⟨w15, hw15⟩ : ∃ q, w5.alloc (.cells #[.int .i64 (j : Int), .string t.mac] 32) = q := ⟨_, rfl⟩
          rw [hw15] at bw15 hRw15 hsw15 ⊢
          refine hK.out _ _ (fun _ => bw15) ?_
          clear hK K' hw15
          refine wpAnyK_ready (rs := [1]) (by kernel_rfl) (by simp) ?_
          refine AllReadyK.cons rfl (fun K' hK => ?_) ?_
          · go_simp
            have bw16 := bw15.trans ((belowNew w15 (.cells #[] 32)).mono bw15.size)
            have hOw16 : (w15.alloc (.cells #[] 32)).ownsRow w4.heap.size 32 tagK.n (.slice (some ⟨w15.heap.size, 0, none⟩) 0 0) 0 [] := World.ownsRow_made w15 #[] 0 bw15.size (by unfold maxLen; omega) (by simp)
            have hsw16 : w15.heap.size < (w15.alloc (.cells #[] 32)).heap.size := by rw [alloc_size]; omega
            have hRw16 := hRw15.below (belowNew w15 (.cells #[] 32))
            obtain ⟨w16, hw16⟩ : ∃ q, w15.alloc (.cells #[] 32) = q := ⟨_, rfl⟩
            rw [hw16] at bw16 hOw16 hsw16 hRw16 ⊢
            refine hK.out _ _ (fun _ => bw16) ?_
            clear hK K' hw16
            refine wpAnyK_ready (rs := [8]) (by kernel_rfl) (by simp) ?_
            refine AllReadyK.consD (some 74) rfl rfl (fun K' hK => ?_) ?_
            · refine step_ownR (K := tagK) w16 (by rfl) _ _ 37 (by rfl) w4.heap.size 32 i0 _ 24 Tryd.underlying37 hi hz0 hz1 hz2 rfl _ _ _ _ _ (by rfl) hOw16 _ _ _ hTl (Nat.zero_add _) (by rfl) (hrT _ bw16) (fun _ => rfl) m1 m2 bw16.size ?_
              intro aw17 cw17 w17 hOw17 hkw17
              have bw17 := bw16.trans (Kept.below hkw17 bw16.size (fun k hk => (hOw16.lt k hk).1))
              have hRw17 := hRw16.kept hkw17 (fun k hk e => by
                rcases hk with ⟨_, off', e'⟩ | ⟨_, _, f'⟩
                · simp at e'
                  simp [Value.ownBlock] at e
                  omega
                · exact f'.elim)
              refine hK.out _ _ (fun _ => bw17) ?_
              clear hK K' hkw17
              simp only [Act.put, List.setIfInBounds_toArray, List.set_cons_zero, List.set_cons_succ]
              refine wpAnyK_ready (rs := [11]) (by kernel_rfl) (by simp) ?_
              refine AllReadyK.consD (some 77) rfl rfl (fun K' hK => ?_) ?_
              · refine step_ownR (K := tagK) w17 (by rfl) _ _ 37 (by rfl) w4.heap.size 32 i0 _ 24 Tryd.underlying37 hi hz0 hz1 hz2 rfl _ _ _ _ _ (by rfl) hOw17 _ _ _ rfl rfl (by rfl) hRw17 (fun h => by cases h) m3 m4 bw17.size ?_
                intro aw18 cw18 w18 hOw18 hkw18
                have bw18 := bw17.trans (Kept.below hkw18 bw17.size (fun k hk => (hOw17.lt k hk).1))
                refine hK.out _ _ (fun _ => bw18) ?_
                clear hK K' hkw18
                simp only [Act.put, List.setIfInBounds_toArray, List.set_cons_zero, List.set_cons_succ]
                refine wpAnyK_ready (rs := [18]) (by kernel_rfl) (by simp) ?_
                refine AllReadyK.consD (some 84) rfl rfl (fun K' hK => ?_) ?_
                · refine step_ownR (K := tagK) w18 (by rfl) _ _ 37 (by rfl) w4.heap.size 32 i0 _ 24 Tryd.underlying37 hi hz0 hz1 hz2 rfl _ _ _ _ _ (by rfl) hOw18 _ _ _ hDl rfl (by rfl) (hrD _ bw18) (fun _ => rfl) m5 m6 bw18.size ?_
                  intro aw19 cw19 w19 hOw19 hkw19
                  have bw19 := bw18.trans (Kept.below hkw19 bw18.size (fun k hk => (hOw18.lt k hk).1))
                  refine hK.out _ _ (fun _ => bw19) ?_
                  clear hK K' hkw19
                  simp only [Act.put, List.setIfInBounds_toArray, List.set_cons_zero, List.set_cons_succ]
                  refine wpAnyK_ready (rs := [19]) (by kernel_rfl) (by simp) ?_
                  refine AllReadyK.cons rfl (fun K' hK => ?_) ?_
                  · go_simp
                    refine hK.out _ _ (fun _ => bw19) ?_
                    clear hK K'
                    refine wpAnyK_ready (rs := [20]) (by kernel_rfl) (by simp) ?_
                    refine AllReadyK.cons rfl (fun K' hK => ?_) ?_
                    · go_simp
                      refine hK.out _ _ (fun _ => bw19) ?_
                      clear hK K'
                      refine wpAnyK_ready (rs := [21]) (by kernel_rfl) (by simp) ?_
                      refine AllReadyK.cons rfl (fun K' hK => ?_) ?_
                      · have c3 := hc3 w19 bw19
                        have f3 := (hr4.box.below bw19 hr4.box.lt).frozen 3
                        go_simp
                        have hF := rvEnd hr4 hB4 bw19 hOw19 Hl2.out hNo.out
                        refine hK.out _ _ (fun h => absurd rfl h) ?_
                        clear hK K'
                        refine wpAnyK_done (by kernel_rfl) ?_ _
                        go_wp2
                        go_ret
                        exact ⟨_, _, by rw [He2.out]; rfl, hF.1, (hk2.trans (Kept.of_below hbG)).trans hF.2.1, fun b hb => Or.inr (Nat.le_trans (hk2.trans (Kept.of_below hbG)).size (hF.2.2 b hb))⟩
                      exact AllReadyK.nil
                    exact AllReadyK.nil
                  exact AllReadyK.nil
                exact AllReadyK.nil
              exact AllReadyK.nil
            exact AllReadyK.nil
          exact AllReadyK.nil
        exact AllReadyK.nil
      | some ad =>
        obtain ⟨b, off, an⟩ := ad
        obtain rfl : an = none := hr4.plain _ rfl
        have j1 : (0 : Int) ≤ (i : Int) := by omega
        have j2 : (i : Int) ≤ (cap : Int) := by have := hr4.cap; omega
        have j3 : (i : Int) ≤ (l.length : Int) := by omega
        rcases (by by_cases hcp : cap = i; exact Or.inl hcp; exact Or.inr hcp : cap = i ∨ ¬ cap = i) with hcp | hcp
        · have hci := eq_true hcp
          have hTl : (l.take i).length = i := by rw [List.length_take]; omega
          have hDl : (l.drop i).length = l.length - i := List.length_drop
          have hN3 : Hid (i + 1 + (l.length - i) = l.length + 1) := (by omega : i + 1 + (l.length - i) = l.length + 1)
          have hrT := fun U (hb : Below w4.heap.size w4 U) => (hr4.row.below hb).take i
          have hnT := (show Hid _ from hr4.nil)
          have m1 : i ≤ maxLen := by unfold maxLen; omega
          have m2 : i * 24 ≤ 140737488355328 := by omega
          have m3 : i + 1 ≤ maxLen := by unfold maxLen; omega
          have m4 : (i + 1) * 24 ≤ 140737488355328 := by omega
          have m5 : l.length + 1 ≤ maxLen := by unfold maxLen; omega
          have m6 : (l.length + 1) * 24 ≤ 140737488355328 := by omega
          have hNo : Hid (l.length + 1 = lo.length) := by
            show l.length + 1 = lo.length
            rw [Hl2.out, List.length_append, List.length_cons, hTl, hDl]; omega
          
          have hdn : l.drop i = [] := List.drop_of_length_le (by have := hr4.cap; omega)
          have hrD : ∀ U, Below w4.heap.size w4 U → RowAt tagK U (some ⟨b, off, none⟩) (l.drop i) := fun U _ => by rw [hdn]; exact nil_row _ _
          have hnD : Hid (some (⟨b, off, none⟩ : Addr) = none → cap - i = 0) := fun h => by cases h
          clear hdn
          clear hcp hnl hcl
          have hB4 : B ≤ w4.heap.size := by have := hB2.size; have := hbG.size; omega
          have hbd : Below w4.heap.size w4 w4.drew := below_drewN (Below.refl _ w4) 1
          have hc3 := fun w' (hb : Below w4.heap.size w4 w') => (hr4.box.below hb hr4.box.lt).cell (i := 3) rfl
          have hx0 := fun w' (hb : Below w4.heap.size w4 w') => (hX4.below hb hX4.lt).cell (i := 0) rfl
          have hx1 := fun w' (hb : Below w4.heap.size w4 w') => (hX4.below hb hX4.lt).cell (i := 1) rfl
          go_wp2_with fail
          refine wp_region_K (fun w' => Below w4.heap.size w4 w') 21 (by kernel_rfl) ?_
          generalize w4.drew = w5 at hbd ⊢
          refine wpAnyK_takeD (i := 0) (v := ?_) (some 66) rfl rfl (by kernel_rfl) (by kernel_rfl) (by kernel_rfl) (by kernel_rfl) (by decide) (fun _ _ _ h => h) (by assumption) (Or.inl ⟨by rfl, ?_⟩) ?_
          rotate_left 1
          · intro w' hSw
            have c3 := hc3 w' hSw
            have x0 := hx0 w' hSw
            have x1 := hx1 w' hSw
            go_simp
            first | done | with_reducible rfl
          simp only [Act.put, List.setIfInBounds_toArray, List.set_cons_zero, List.set_cons_succ]
          refine wpAnyK_takeD (i := 2) (v := ?_) (some 68) rfl rfl (by kernel_rfl) (by kernel_rfl) (by kernel_rfl) (by kernel_rfl) (by decide) (fun _ _ _ h => h) (by assumption) (Or.inl ⟨by rfl, ?_⟩) ?_
          rotate_left 1
          · intro w' hSw
            have c3 := hc3 w' hSw
            have x0 := hx0 w' hSw
            have x1 := hx1 w' hSw
            go_simp
            first | done | with_reducible rfl
          simp only [Act.put, List.setIfInBounds_toArray, List.set_cons_zero, List.set_cons_succ]
          refine wpAnyK_takeD (i := 3) (v := ?_) (some 69) rfl rfl (by kernel_rfl) (by kernel_rfl) (by kernel_rfl) (by kernel_rfl) (by decide) (fun _ _ _ h => h) (by assumption) (Or.inl ⟨by rfl, ?_⟩) ?_
          rotate_left 1
          · intro w' hSw
            have c3 := hc3 w' hSw
            have x0 := hx0 w' hSw
            have x1 := hx1 w' hSw
            go_simp
            first | done | with_reducible rfl
          simp only [Act.put, List.setIfInBounds_toArray, List.set_cons_zero, List.set_cons_succ]
          refine wpAnyK_takeD (i := 4) (v := ?_) (some 70) rfl rfl (by kernel_rfl) (by kernel_rfl) (by kernel_rfl) (by kernel_rfl) (by decide) (fun _ _ _ h => h) (by assumption) (Or.inl ⟨by rfl, ?_⟩) ?_
          rotate_left 1
          · intro w' hSw
            have c3 := hc3 w' hSw
            have x0 := hx0 w' hSw
            have x1 := hx1 w' hSw
            go_simp
            first | done | with_reducible rfl
          simp only [Act.put, List.setIfInBounds_toArray, List.set_cons_zero, List.set_cons_succ]
          refine wpAnyK_takeD (i := 5) (v := ?_) (some 71) rfl rfl (by kernel_rfl) (by kernel_rfl) (by kernel_rfl) (by kernel_rfl) (by decide) (fun _ _ _ h => h) (by assumption) (Or.inl ⟨by rfl, ?_⟩) ?_
          rotate_left 1
          · intro w' hSw
            have c3 := hc3 w' hSw
            have x0 := hx0 w' hSw
            have x1 := hx1 w' hSw
            go_simp
            first | done | with_reducible rfl
          simp only [Act.put, List.setIfInBounds_toArray, List.set_cons_zero, List.set_cons_succ]
          refine wpAnyK_takeD (i := 6) (v := ?_) (some 72) rfl rfl (by kernel_rfl) (by kernel_rfl) (by kernel_rfl) (by kernel_rfl) (by decide) (fun _ _ _ h => h) (by assumption) (Or.inl ⟨by rfl, ?_⟩) ?_
          rotate_left 1
          · intro w' hSw
            have c3 := hc3 w' hSw
            have x0 := hx0 w' hSw
            have x1 := hx1 w' hSw
            go_simp
            first | done | with_reducible rfl
          simp only [Act.put, List.setIfInBounds_toArray, List.set_cons_zero, List.set_cons_succ]
          refine wpAnyK_takeD (i := 7) (v := ?_) (some 73) rfl rfl (by kernel_rfl) (by kernel_rfl) (by kernel_rfl) (by kernel_rfl) (by decide) (fun _ _ _ h => h) (by assumption) (Or.inl ⟨by rfl, ?_⟩) ?_
          rotate_left 1
          · intro w' hSw
            have c3 := hc3 w' hSw
            have x0 := hx0 w' hSw
            have x1 := hx1 w' hSw
            go_simp
            first | done | with_reducible rfl
          simp only [Act.put, List.setIfInBounds_toArray, List.set_cons_zero, List.set_cons_succ]
          refine wpAnyK_takeD (i := 9) (v := ?_) (some 75) rfl rfl (by kernel_rfl) (by kernel_rfl) (by kernel_rfl) (by kernel_rfl) (by decide) (fun _ _ _ h => h) (by assumption) (Or.inl ⟨by rfl, ?_⟩) ?_
          rotate_left 1
          · intro w' hSw
            have c3 := hc3 w' hSw
            have x0 := hx0 w' hSw
            have x1 := hx1 w' hSw
            go_simp
            first | done | with_reducible rfl
          simp only [Act.put, List.setIfInBounds_toArray, List.set_cons_zero, List.set_cons_succ]
          refine wpAnyK_takeD (i := 12) (v := ?_) (some 78) rfl rfl (by kernel_rfl) (by kernel_rfl) (by kernel_rfl) (by kernel_rfl) (by decide) (fun _ _ _ h => h) (by assumption) (Or.inl ⟨by rfl, ?_⟩) ?_
          rotate_left 1
          · intro w' hSw
            have c3 := hc3 w' hSw
            have x0 := hx0 w' hSw
            have x1 := hx1 w' hSw
            go_simp
            first | done | with_reducible rfl
          simp only [Act.put, List.setIfInBounds_toArray, List.set_cons_zero, List.set_cons_succ]
          refine wpAnyK_takeD (i := 13) (v := ?_) (some 79) rfl rfl (by kernel_rfl) (by kernel_rfl) (by kernel_rfl) (by kernel_rfl) (by decide) (fun _ _ _ h => h) (by assumption) (Or.inl ⟨by rfl, ?_⟩) ?_
          rotate_left 1
          · intro w' hSw
            have c3 := hc3 w' hSw
            have x0 := hx0 w' hSw
            have x1 := hx1 w' hSw
            go_simp
            first | done | with_reducible rfl
          simp only [Act.put, List.setIfInBounds_toArray, List.set_cons_zero, List.set_cons_succ]
          refine wpAnyK_takeD (i := 14) (v := ?_) (some 80) rfl rfl (by kernel_rfl) (by kernel_rfl) (by kernel_rfl) (by kernel_rfl) (by decide) (fun _ _ _ h => h) (by assumption) (Or.inl ⟨by rfl, ?_⟩) ?_
          rotate_left 1
          · intro w' hSw
            have c3 := hc3 w' hSw
            have x0 := hx0 w' hSw
            have x1 := hx1 w' hSw
            go_simp
            first | done | with_reducible rfl
          simp only [Act.put, List.setIfInBounds_toArray, List.set_cons_zero, List.set_cons_succ]
          refine wpAnyK_takeD (i := 15) (v := ?_) (some 81) rfl rfl (by kernel_rfl) (by kernel_rfl) (by kernel_rfl) (by kernel_rfl) (by decide) (fun _ _ _ h => h) (by assumption) (Or.inl ⟨by rfl, ?_⟩) ?_
          rotate_left 1
          · intro w' hSw
            have c3 := hc3 w' hSw
            have x0 := hx0 w' hSw
            have x1 := hx1 w' hSw
            go_simp
            first | done | with_reducible rfl
          simp only [Act.put, List.setIfInBounds_toArray, List.set_cons_zero, List.set_cons_succ]
          refine wpAnyK_takeD (i := 16) (v := ?_) (some 82) rfl rfl (by kernel_rfl) (by kernel_rfl) (by kernel_rfl) (by kernel_rfl) (by decide) (fun _ _ _ h => h) (by assumption) (Or.inl ⟨by rfl, ?_⟩) ?_
          rotate_left 1
          · intro w' hSw
            have c3 := hc3 w' hSw
            have x0 := hx0 w' hSw
            have x1 := hx1 w' hSw
            go_simp
            first | done | with_reducible rfl
          simp only [Act.put, List.setIfInBounds_toArray, List.set_cons_zero, List.set_cons_succ]
          refine wpAnyK_takeD (i := 17) (v := ?_) (some 83) rfl rfl (by kernel_rfl) (by kernel_rfl) (by kernel_rfl) (by kernel_rfl) (by decide) (fun _ _ _ h => h) (by assumption) (Or.inl ⟨by rfl, ?_⟩) ?_
          rotate_left 1
          · intro w' hSw
            have c3 := hc3 w' hSw
            have x0 := hx0 w' hSw
            have x1 := hx1 w' hSw
            go_simp
            first | done | with_reducible rfl
          simp only [Act.put, List.setIfInBounds_toArray, List.set_cons_zero, List.set_cons_succ]
          refine wpAnyK_ready (rs := [1, 10]) (by kernel_rfl) (by simp) ?_
          refine AllReadyK.cons rfl (fun K' hK => ?_) ?_
          · go_simp
            have bw6 := hbd.trans ((belowNew w5 (.cells #[] 32)).mono hbd.size)
            have hOw6 : (w5.alloc (.cells #[] 32)).ownsRow w4.heap.size 32 tagK.n (.slice (some ⟨w5.heap.size, 0, none⟩) 0 0) 0 [] := World.ownsRow_made w5 #[] 0 hbd.size (by unfold maxLen; omega) (by simp)
            have hsw6 : w5.heap.size < (w5.alloc (.cells #[] 32)).heap.size := by rw [alloc_size]; omega
            obtain ⟨w6, hw6⟩ : ∃ q, w5.alloc (.cells #[] 32) = q := ⟨_, rfl⟩
            rw [hw6] at bw6 hOw6 hsw6 ⊢
            refine hK.out _ _ (fun _ => bw6) ?_
            clear hK K' hw6
            refine wpAnyK_ready (rs := [8, 10]) (by kernel_rfl) (by simp) ?_
            refine AllReadyK.consD (some 74) rfl rfl (fun K' hK => ?_) ?_
            · refine step_ownR (K := tagK) w6 (by rfl) _ _ 37 (by rfl) w4.heap.size 32 i0 _ 24 Tryd.underlying37 hi hz0 hz1 hz2 rfl _ _ _ _ _ (by rfl) hOw6 _ _ _ hTl (Nat.zero_add _) (by rfl) (hrT _ bw6) hnT.out m1 m2 bw6.size ?_
              intro aw7 cw7 w7 hOw7 hkw7
              have bw7 := bw6.trans (Kept.below hkw7 bw6.size (fun k hk => (hOw6.lt k hk).1))
              refine hK.out _ _ (fun _ => bw7) ?_
              clear hK K' hkw7
              simp only [Act.put, List.setIfInBounds_toArray, List.set_cons_zero, List.set_cons_succ]
              refine wpAnyK_ready (rs := [10]) (by kernel_rfl) (by simp) ?_
              refine AllReadyK.cons rfl (fun K' hK => ?_) ?_
              · go_simp
                have bw8 := bw7.trans ((belowNew w7 (.cells #[.int .i64 (j : Int), .string t.mac] 32)).mono bw7.size)
                have hRw8 := tagOne w7 (j : Int) t.mac
                have hsw8 : w7.heap.size < (w7.alloc (.cells #[.int .i64 (j : Int), .string t.mac] 32)).heap.size := by rw [alloc_size]; omega
                have hOw8 := own_belowC hOw7 (belowNew w7 (.cells #[.int .i64 (j : Int), .string t.mac] 32))
                obtain ⟨w8, hw8⟩ : ∃ q, w7.alloc (.cells #[.int .i64 (j : Int), .string t.mac] 32) = q := ⟨_, rfl⟩
                rw [hw8] at bw8 hRw8 hsw8 hOw8 ⊢
                refine hK.out _ _ (fun _ => bw8) ?_
                clear hK K' hw8
                refine wpAnyK_ready (rs := [11]) (by kernel_rfl) (by simp) ?_
                refine AllReadyK.consD (some 77) rfl rfl (fun K' hK => ?_) ?_
                · refine step_ownR (K := tagK) w8 (by rfl) _ _ 37 (by rfl) w4.heap.size 32 i0 _ 24 Tryd.underlying37 hi hz0 hz1 hz2 rfl _ _ _ _ _ (by rfl) hOw8 _ _ _ rfl rfl (by rfl) hRw8 (fun h => by cases h) m3 m4 bw8.size ?_
                  intro aw9 cw9 w9 hOw9 hkw9
                  have bw9 := bw8.trans (Kept.below hkw9 bw8.size (fun k hk => (hOw8.lt k hk).1))
                  refine hK.out _ _ (fun _ => bw9) ?_
                  clear hK K' hkw9
                  simp only [Act.put, List.setIfInBounds_toArray, List.set_cons_zero, List.set_cons_succ]
                  refine wpAnyK_ready (rs := [18]) (by kernel_rfl) (by simp) ?_
                  refine AllReadyK.consD (some 84) rfl rfl (fun K' hK => ?_) ?_
                  · refine step_ownR (K := tagK) w9 (by rfl) _ _ 37 (by rfl) w4.heap.size 32 i0 _ 24 Tryd.underlying37 hi hz0 hz1 hz2 rfl _ _ _ _ _ (by rfl) hOw9 _ _ _ hDl hN3.out (by rfl) (hrD _ bw9) hnD.out m5 m6 bw9.size ?_
                    intro aw10 cw10 w10 hOw10 hkw10
                    have bw10 := bw9.trans (Kept.below hkw10 bw9.size (fun k hk => (hOw9.lt k hk).1))
                    refine hK.out _ _ (fun _ => bw10) ?_
                    clear hK K' hkw10
                    simp only [Act.put, List.setIfInBounds_toArray, List.set_cons_zero, List.set_cons_succ]
                    refine wpAnyK_ready (rs := [19]) (by kernel_rfl) (by simp) ?_
                    refine AllReadyK.cons rfl (fun K' hK => ?_) ?_
                    · go_simp
                      refine hK.out _ _ (fun _ => bw10) ?_
                      clear hK K'
                      refine wpAnyK_ready (rs := [20]) (by kernel_rfl) (by simp) ?_
                      refine AllReadyK.cons rfl (fun K' hK => ?_) ?_
                      · go_simp
                        refine hK.out _ _ (fun _ => bw10) ?_
                        clear hK K'
                        refine wpAnyK_ready (rs := [21]) (by kernel_rfl) (by simp) ?_
                        refine AllReadyK.cons rfl (fun K' hK => ?_) ?_
                        · have c3 := hc3 w10 bw10
                          have f3 := (hr4.box.below bw10 hr4.box.lt).frozen 3
                          go_simp
                          have hF := rvEnd hr4 hB4 bw10 hOw10 Hl2.out hNo.out
                          refine hK.out _ _ (fun h => absurd rfl h) ?_
                          clear hK K'
                          refine wpAnyK_done (by kernel_rfl) ?_ _
                          go_wp2
                          go_ret
                          exact ⟨_, _, by rw [He2.out]; rfl, hF.1, (hk2.trans (Kept.of_below hbG)).trans hF.2.1, fun b hb => Or.inr (Nat.le_trans (hk2.trans (Kept.of_below hbG)).size (hF.2.2 b hb))⟩
                        exact AllReadyK.nil
                      exact AllReadyK.nil
                    exact AllReadyK.nil
                  exact AllReadyK.nil
                exact AllReadyK.nil
              exact AllReadyK.nil
            refine AllReadyK.cons rfl (fun K' hK => ?_) ?_
            · go_simp
              have bw11 := bw6.trans ((belowNew w6 (.cells #[.int .i64 (j : Int), .string t.mac] 32)).mono bw6.size)
              have hRw11 := tagOne w6 (j : Int) t.mac
              have hsw11 : w6.heap.size < (w6.alloc (.cells #[.int .i64 (j : Int), .string t.mac] 32)).heap.size := by rw [alloc_size]; omega
              have hOw11 := own_belowC hOw6 (belowNew w6 (.cells #[.int .i64 (j : Int), .string t.mac] 32))
              obtain ⟨w11, hw11⟩ : ∃ q, w6.alloc (.cells #[.int .i64 (j : Int), .string t.mac] 32) = q := ⟨_, rfl⟩
              rw [hw11] at bw11 hRw11 hsw11 hOw11 ⊢
              refine hK.out _ _ (fun _ => bw11) ?_
              clear hK K' hw11
              refine wpAnyK_ready (rs := [8]) (by kernel_rfl) (by simp) ?_
              refine AllReadyK.consD (some 74) rfl rfl (fun K' hK => ?_) ?_
              · refine step_ownR (K := tagK) w11 (by rfl) _ _ 37 (by rfl) w4.heap.size 32 i0 _ 24 Tryd.underlying37 hi hz0 hz1 hz2 rfl _ _ _ _ _ (by rfl) hOw11 _ _ _ hTl (Nat.zero_add _) (by rfl) (hrT _ bw11) hnT.out m1 m2 bw11.size ?_
                intro aw12 cw12 w12 hOw12 hkw12
                have bw12 := bw11.trans (Kept.below hkw12 bw11.size (fun k hk => (hOw11.lt k hk).1))
                have hRw12 := hRw11.kept hkw12 (fun k hk e => by
                  rcases hk with ⟨_, off', e'⟩ | ⟨_, _, f'⟩
                  · simp at e'
                    simp [Value.ownBlock] at e
                    omega
                  · exact f'.elim)
                refine hK.out _ _ (fun _ => bw12) ?_
                clear hK K' hkw12
                simp only [Act.put, List.setIfInBounds_toArray, List.set_cons_zero, List.set_cons_succ]
                refine wpAnyK_ready (rs := [11]) (by kernel_rfl) (by simp) ?_
                refine AllReadyK.consD (some 77) rfl rfl (fun K' hK => ?_) ?_
                · refine step_ownR (K := tagK) w12 (by rfl) _ _ 37 (by rfl) w4.heap.size 32 i0 _ 24 Tryd.underlying37 hi hz0 hz1 hz2 rfl _ _ _ _ _ (by rfl) hOw12 _ _ _ rfl rfl (by rfl) hRw12 (fun h => by cases h) m3 m4 bw12.size ?_
                  intro aw13 cw13 w13 hOw13 hkw13
                  have bw13 := bw12.trans (Kept.below hkw13 bw12.size (fun k hk => (hOw12.lt k hk).1))
                  refine hK.out _ _ (fun _ => bw13) ?_
                  clear hK K' hkw13
                  simp only [Act.put, List.setIfInBounds_toArray, List.set_cons_zero, List.set_cons_succ]
                  refine wpAnyK_ready (rs := [18]) (by kernel_rfl) (by simp) ?_
                  refine AllReadyK.consD (some 84) rfl rfl (fun K' hK => ?_) ?_
                  · refine step_ownR (K := tagK) w13 (by rfl) _ _ 37 (by rfl) w4.heap.size 32 i0 _ 24 Tryd.underlying37 hi hz0 hz1 hz2 rfl _ _ _ _ _ (by rfl) hOw13 _ _ _ hDl hN3.out (by rfl) (hrD _ bw13) hnD.out m5 m6 bw13.size ?_
                    intro aw14 cw14 w14 hOw14 hkw14
                    have bw14 := bw13.trans (Kept.below hkw14 bw13.size (fun k hk => (hOw13.lt k hk).1))
                    refine hK.out _ _ (fun _ => bw14) ?_
                    clear hK K' hkw14
                    simp only [Act.put, List.setIfInBounds_toArray, List.set_cons_zero, List.set_cons_succ]
                    refine wpAnyK_ready (rs := [19]) (by kernel_rfl) (by simp) ?_
                    refine AllReadyK.cons rfl (fun K' hK => ?_) ?_
                    · go_simp
                      refine hK.out _ _ (fun _ => bw14) ?_
                      clear hK K'
                      refine wpAnyK_ready (rs := [20]) (by kernel_rfl) (by simp) ?_
                      refine AllReadyK.cons rfl (fun K' hK => ?_) ?_
                      · go_simp
                        refine hK.out _ _ (fun _ => bw14) ?_
                        clear hK K'
                        refine wpAnyK_ready (rs := [21]) (by kernel_rfl) (by simp) ?_
                        refine AllReadyK.cons rfl (fun K' hK => ?_) ?_
                        · have c3 := hc3 w14 bw14
                          have f3 := (hr4.box.below bw14 hr4.box.lt).frozen 3
                          go_simp
                          have hF := rvEnd hr4 hB4 bw14 hOw14 Hl2.out hNo.out
                          refine hK.out _ _ (fun h => absurd rfl h) ?_
                          clear hK K'
                          refine wpAnyK_done (by kernel_rfl) ?_ _
                          go_wp2
                          go_ret
                          exact ⟨_, _, by rw [He2.out]; rfl, hF.1, (hk2.trans (Kept.of_below hbG)).trans hF.2.1, fun b hb => Or.inr (Nat.le_trans (hk2.trans (Kept.of_below hbG)).size (hF.2.2 b hb))⟩
                        exact AllReadyK.nil
                      exact AllReadyK.nil
                    exact AllReadyK.nil
                  exact AllReadyK.nil
                exact AllReadyK.nil
              exact AllReadyK.nil
            exact AllReadyK.nil
          refine AllReadyK.cons rfl (fun K' hK => ?_) ?_
          · go_simp
            have bw15 := hbd.trans ((belowNew w5 (.cells #[.int .i64 (j : Int), .string t.mac] 32)).mono hbd.size)
            have hRw15 := tagOne w5 (j : Int) t.mac
            have hsw15 : w5.heap.size < (w5.alloc (.cells #[.int .i64 (j : Int), .string t.mac] 32)).heap.size := by rw [alloc_size]; omega
            obtain ⟨w15, hw15⟩ : ∃ q, w5.alloc (.cells #[.int .i64 (j : Int), .string t.mac] 32) = q := ⟨_, rfl⟩
            rw [hw15] at bw15 hRw15 hsw15 ⊢
            refine hK.out _ _ (fun _ => bw15) ?_
            clear hK K' hw15
            refine wpAnyK_ready (rs := [1]) (by kernel_rfl) (by simp) ?_
            refine AllReadyK.cons rfl (fun K' hK => ?_) ?_
            · go_simp
              have bw16 := bw15.trans ((belowNew w15 (.cells #[] 32)).mono bw15.size)
              have hOw16 : (w15.alloc (.cells #[] 32)).ownsRow w4.heap.size 32 tagK.n (.slice (some ⟨w15.heap.size, 0, none⟩) 0 0) 0 [] := World.ownsRow_made w15 #[] 0 bw15.size (by unfold maxLen; omega) (by simp)
              have hsw16 : w15.heap.size < (w15.alloc (.cells #[] 32)).heap.size := by rw [alloc_size]; omega
              have hRw16 := hRw15.below (belowNew w15 (.cells #[] 32))
              obtain ⟨w16, hw16⟩ : ∃ q, w15.alloc (.cells #[] 32) = q := ⟨_, rfl⟩
              rw [hw16] at bw16 hOw16 hsw16 hRw16 ⊢
              refine hK.out _ _ (fun _ => bw16) ?_
              clear hK K' hw16
              refine wpAnyK_ready (rs := [8]) (by kernel_rfl) (by simp) ?_
              refine AllReadyK.consD (some 74) rfl rfl (fun K' hK => ?_) ?_
              · refine step_ownR (K := tagK) w16 (by rfl) _ _ 37 (by rfl) w4.heap.size 32 i0 _ 24 Tryd.underlying37 hi hz0 hz1 hz2 rfl _ _ _ _ _ (by rfl) hOw16 _ _ _ hTl (Nat.zero_add _) (by rfl) (hrT _ bw16) hnT.out m1 m2 bw16.size ?_
                intro aw17 cw17 w17 hOw17 hkw17
                have bw17 := bw16.trans (Kept.below hkw17 bw16.size (fun k hk => (hOw16.lt k hk).1))
                have hRw17 := hRw16.kept hkw17 (fun k hk e => by
                  rcases hk with ⟨_, off', e'⟩ | ⟨_, _, f'⟩
                  · simp at e'
                    simp [Value.ownBlock] at e
                    omega
                  · exact f'.elim)
                refine hK.out _ _ (fun _ => bw17) ?_
                clear hK K' hkw17
                simp only [Act.put, List.setIfInBounds_toArray, List.set_cons_zero, List.set_cons_succ]
                refine wpAnyK_ready (rs := [11]) (by kernel_rfl) (by simp) ?_
                refine AllReadyK.consD (some 77) rfl rfl (fun K' hK => ?_) ?_
                · refine step_ownR (K := tagK) w17 (by rfl) _ _ 37 (by rfl) w4.heap.size 32 i0 _ 24 Tryd.underlying37 hi hz0 hz1 hz2 rfl _ _ _ _ _ (by rfl) hOw17 _ _ _ rfl rfl (by rfl) hRw17 (fun h => by cases h) m3 m4 bw17.size ?_
                  intro aw18 cw18 w18 hOw18 hkw18
                  have bw18 := bw17.trans (Kept.below hkw18 bw17.size (fun k hk => (hOw17.lt k hk).1))
                  refine hK.out _ _ (fun _ => bw18) ?_
                  clear hK K' hkw18
                  simp only [Act.put, List.setIfInBounds_toArray, List.set_cons_zero, List.set_cons_succ]
                  refine wpAnyK_ready (rs := [18]) (by kernel_rfl) (by simp) ?_
                  refine AllReadyK.consD (some 84) rfl rfl (fun K' hK => ?_) ?_
                  · refine step_ownR (K := tagK) w18 (by rfl) _ _ 37 (by rfl) w4.heap.size 32 i0 _ 24 Tryd.underlying37 hi hz0 hz1 hz2 rfl _ _ _ _ _ (by rfl) hOw18 _ _ _ hDl hN3.out (by rfl) (hrD _ bw18) hnD.out m5 m6 bw18.size ?_
                    intro aw19 cw19 w19 hOw19 hkw19
                    have bw19 := bw18.trans (Kept.below hkw19 bw18.size (fun k hk => (hOw18.lt k hk).1))
                    refine hK.out _ _ (fun _ => bw19) ?_
                    clear hK K' hkw19
                    simp only [Act.put, List.setIfInBounds_toArray, List.set_cons_zero, List.set_cons_succ]
                    refine wpAnyK_ready (rs := [19]) (by kernel_rfl) (by simp) ?_
                    refine AllReadyK.cons rfl (fun K' hK => ?_) ?_
                    · go_simp
                      refine hK.out _ _ (fun _ => bw19) ?_
                      clear hK K'
                      refine wpAnyK_ready (rs := [20]) (by kernel_rfl) (by simp) ?_
                      refine AllReadyK.cons rfl (fun K' hK => ?_) ?_
                      · go_simp
                        refine hK.out _ _ (fun _ => bw19) ?_
                        clear hK K'
                        refine wpAnyK_ready (rs := [21]) (by kernel_rfl) (by simp) ?_
                        refine AllReadyK.cons rfl (fun K' hK => ?_) ?_
                        · have c3 := hc3 w19 bw19
                          have f3 := (hr4.box.below bw19 hr4.box.lt).frozen 3
                          go_simp
                          have hF := rvEnd hr4 hB4 bw19 hOw19 Hl2.out hNo.out
                          refine hK.out _ _ (fun h => absurd rfl h) ?_
                          clear hK K'
                          refine wpAnyK_done (by kernel_rfl) ?_ _
                          go_wp2
                          go_ret
                          exact ⟨_, _, by rw [He2.out]; rfl, hF.1, (hk2.trans (Kept.of_below hbG)).trans hF.2.1, fun b hb => Or.inr (Nat.le_trans (hk2.trans (Kept.of_below hbG)).size (hF.2.2 b hb))⟩
                        exact AllReadyK.nil
                      exact AllReadyK.nil
                    exact AllReadyK.nil
                  exact AllReadyK.nil
                exact AllReadyK.nil
              exact AllReadyK.nil
            exact AllReadyK.nil
          exact AllReadyK.nil
        · have hci := eq_false hcp
          clear hcp hnl hcl
          have hTl : (l.take i).length = i := by rw [List.length_take]; omega
          have hDl : (l.drop i).length = l.length - i := List.length_drop
          have hN3 : Hid (i + 1 + (l.length - i) = l.length + 1) := (by omega : i + 1 + (l.length - i) = l.length + 1)
          have hrT := fun U (hb : Below w4.heap.size w4 U) => (hr4.row.below hb).take i
          have hnT := (show Hid _ from hr4.nil)
          have m1 : i ≤ maxLen := by unfold maxLen; omega
          have m2 : i * 24 ≤ 140737488355328 := by omega
          have m3 : i + 1 ≤ maxLen := by unfold maxLen; omega
          have m4 : (i + 1) * 24 ≤ 140737488355328 := by omega
          have m5 : l.length + 1 ≤ maxLen := by unfold maxLen; omega
          have m6 : (l.length + 1) * 24 ≤ 140737488355328 := by omega
          have hNo : Hid (l.length + 1 = lo.length) := by
            show l.length + 1 = lo.length
            rw [Hl2.out, List.length_append, List.length_cons, hTl, hDl]; omega
          
          have hrD := fun U (hb : Below w4.heap.size w4 U) => (hr4.row.below hb).dropT i
          have hnD : Hid (some (⟨b, off + i * 2, none⟩ : Addr) = none → cap - i = 0) := fun h => by cases h
          have hB4 : B ≤ w4.heap.size := by have := hB2.size; have := hbG.size; omega
          have hbd : Below w4.heap.size w4 w4.drew := below_drewN (Below.refl _ w4) 1
          have hc3 := fun w' (hb : Below w4.heap.size w4 w') => (hr4.box.below hb hr4.box.lt).cell (i := 3) rfl
          have hx0 := fun w' (hb : Below w4.heap.size w4 w') => (hX4.below hb hX4.lt).cell (i := 0) rfl
          have hx1 := fun w' (hb : Below w4.heap.size w4 w') => (hX4.below hb hX4.lt).cell (i := 1) rfl
          go_wp2_with fail
          refine wp_region_K (fun w' => Below w4.heap.size w4 w') 21 (by kernel_rfl) ?_
          generalize w4.drew = w5 at hbd ⊢
          refine wpAnyK_takeD (i := 0) (v := ?_) (some 66) rfl rfl (by kernel_rfl) (by kernel_rfl) (by kernel_rfl) (by kernel_rfl) (by decide) (fun _ _ _ h => h) (by assumption) (Or.inl ⟨by rfl, ?_⟩) ?_
          rotate_left 1
          · intro w' hSw
            have c3 := hc3 w' hSw
            have x0 := hx0 w' hSw
            have x1 := hx1 w' hSw
            go_simp
            first | done | with_reducible rfl
          simp only [Act.put, List.setIfInBounds_toArray, List.set_cons_zero, List.set_cons_succ]
          refine wpAnyK_takeD (i := 2) (v := ?_) (some 68) rfl rfl (by kernel_rfl) (by kernel_rfl) (by kernel_rfl) (by kernel_rfl) (by decide) (fun _ _ _ h => h) (by assumption) (Or.inl ⟨by rfl, ?_⟩) ?_
          rotate_left 1
          · intro w' hSw
            have c3 := hc3 w' hSw
            have x0 := hx0 w' hSw
            have x1 := hx1 w' hSw
            go_simp
            first | done | with_reducible rfl
          simp only [Act.put, List.setIfInBounds_toArray, List.set_cons_zero, List.set_cons_succ]
          refine wpAnyK_takeD (i := 3) (v := ?_) (some 69) rfl rfl (by kernel_rfl) (by kernel_rfl) (by kernel_rfl) (by kernel_rfl) (by decide) (fun _ _ _ h => h) (by assumption) (Or.inl ⟨by rfl, ?_⟩) ?_
          rotate_left 1
          · intro w' hSw
            have c3 := hc3 w' hSw
            have x0 := hx0 w' hSw
            have x1 := hx1 w' hSw
            go_simp
            first | done | with_reducible rfl
          simp only [Act.put, List.setIfInBounds_toArray, List.set_cons_zero, List.set_cons_succ]
          refine wpAnyK_takeD (i := 4) (v := ?_) (some 70) rfl rfl (by kernel_rfl) (by kernel_rfl) (by kernel_rfl) (by kernel_rfl) (by decide) (fun _ _ _ h => h) (by assumption) (Or.inl ⟨by rfl, ?_⟩) ?_
          rotate_left 1
          · intro w' hSw
            have c3 := hc3 w' hSw
            have x0 := hx0 w' hSw
            have x1 := hx1 w' hSw
            go_simp
            first | done | with_reducible rfl
          simp only [Act.put, List.setIfInBounds_toArray, List.set_cons_zero, List.set_cons_succ]
          refine wpAnyK_takeD (i := 5) (v := ?_) (some 71) rfl rfl (by kernel_rfl) (by kernel_rfl) (by kernel_rfl) (by kernel_rfl) (by decide) (fun _ _ _ h => h) (by assumption) (Or.inl ⟨by rfl, ?_⟩) ?_
          rotate_left 1
          · intro w' hSw
            have c3 := hc3 w' hSw
            have x0 := hx0 w' hSw
            have x1 := hx1 w' hSw
            go_simp
            first | done | with_reducible rfl
          simp only [Act.put, List.setIfInBounds_toArray, List.set_cons_zero, List.set_cons_succ]
          refine wpAnyK_takeD (i := 6) (v := ?_) (some 72) rfl rfl (by kernel_rfl) (by kernel_rfl) (by kernel_rfl) (by kernel_rfl) (by decide) (fun _ _ _ h => h) (by assumption) (Or.inl ⟨by rfl, ?_⟩) ?_
          rotate_left 1
          · intro w' hSw
            have c3 := hc3 w' hSw
            have x0 := hx0 w' hSw
            have x1 := hx1 w' hSw
            go_simp
            first | done | with_reducible rfl
          simp only [Act.put, List.setIfInBounds_toArray, List.set_cons_zero, List.set_cons_succ]
          refine wpAnyK_takeD (i := 7) (v := ?_) (some 73) rfl rfl (by kernel_rfl) (by kernel_rfl) (by kernel_rfl) (by kernel_rfl) (by decide) (fun _ _ _ h => h) (by assumption) (Or.inl ⟨by rfl, ?_⟩) ?_
          rotate_left 1
          · intro w' hSw
            have c3 := hc3 w' hSw
            have x0 := hx0 w' hSw
            have x1 := hx1 w' hSw
            go_simp
            first | done | with_reducible rfl
          simp only [Act.put, List.setIfInBounds_toArray, List.set_cons_zero, List.set_cons_succ]
          refine wpAnyK_takeD (i := 9) (v := ?_) (some 75) rfl rfl (by kernel_rfl) (by kernel_rfl) (by kernel_rfl) (by kernel_rfl) (by decide) (fun _ _ _ h => h) (by assumption) (Or.inl ⟨by rfl, ?_⟩) ?_
          rotate_left 1
          · intro w' hSw
            have c3 := hc3 w' hSw
            have x0 := hx0 w' hSw
            have x1 := hx1 w' hSw
            go_simp
            first | done | with_reducible rfl
          simp only [Act.put, List.setIfInBounds_toArray, List.set_cons_zero, List.set_cons_succ]
          refine wpAnyK_takeD (i := 12) (v := ?_) (some 78) rfl rfl (by kernel_rfl) (by kernel_rfl) (by kernel_rfl) (by kernel_rfl) (by decide) (fun _ _ _ h => h) (by assumption) (Or.inl ⟨by rfl, ?_⟩) ?_
          rotate_left 1
          · intro w' hSw
            have c3 := hc3 w' hSw
            have x0 := hx0 w' hSw
            have x1 := hx1 w' hSw
            go_simp
            first | done | with_reducible rfl
          simp only [Act.put, List.setIfInBounds_toArray, List.set_cons_zero, List.set_cons_succ]
          refine wpAnyK_takeD (i := 13) (v := ?_) (some 79) rfl rfl (by kernel_rfl) (by kernel_rfl) (by kernel_rfl) (by kernel_rfl) (by decide) (fun _ _ _ h => h) (by assumption) (Or.inl ⟨by rfl, ?_⟩) ?_
          rotate_left 1
          · intro w' hSw
            have c3 := hc3 w' hSw
            have x0 := hx0 w' hSw
            have x1 := hx1 w' hSw
            go_simp
            first | done | with_reducible rfl
          simp only [Act.put, List.setIfInBounds_toArray, List.set_cons_zero, List.set_cons_succ]
          refine wpAnyK_takeD (i := 14) (v := ?_) (some 80) rfl rfl (by kernel_rfl) (by kernel_rfl) (by kernel_rfl) (by kernel_rfl) (by decide) (fun _ _ _ h => h) (by assumption) (Or.inl ⟨by rfl, ?_⟩) ?_
          rotate_left 1
          · intro w' hSw
            have c3 := hc3 w' hSw
            have x0 := hx0 w' hSw
            have x1 := hx1 w' hSw
            go_simp
            first | done | with_reducible rfl
          simp only [Act.put, List.setIfInBounds_toArray, List.set_cons_zero, List.set_cons_succ]
          refine wpAnyK_takeD (i := 15) (v := ?_) (some 81) rfl rfl (by kernel_rfl) (by kernel_rfl) (by kernel_rfl) (by kernel_rfl) (by decide) (fun _ _ _ h => h) (by assumption) (Or.inl ⟨by rfl, ?_⟩) ?_
          rotate_left 1
          · intro w' hSw
            have c3 := hc3 w' hSw
            have x0 := hx0 w' hSw
            have x1 := hx1 w' hSw
            go_simp
            first | done | with_reducible rfl
          simp only [Act.put, List.setIfInBounds_toArray, List.set_cons_zero, List.set_cons_succ]
          refine wpAnyK_takeD (i := 16) (v := ?_) (some 82) rfl rfl (by kernel_rfl) (by kernel_rfl) (by kernel_rfl) (by kernel_rfl) (by decide) (fun _ _ _ h => h) (by assumption) (Or.inl ⟨by rfl, ?_⟩) ?_
          rotate_left 1
          · intro w' hSw
            have c3 := hc3 w' hSw
            have x0 := hx0 w' hSw
            have x1 := hx1 w' hSw
            go_simp
            first | done | with_reducible rfl
          simp only [Act.put, List.setIfInBounds_toArray, List.set_cons_zero, List.set_cons_succ]
          refine wpAnyK_takeD (i := 17) (v := ?_) (some 83) rfl rfl (by kernel_rfl) (by kernel_rfl) (by kernel_rfl) (by kernel_rfl) (by decide) (fun _ _ _ h => h) (by assumption) (Or.inl ⟨by rfl, ?_⟩) ?_
          rotate_left 1
          · intro w' hSw
            have c3 := hc3 w' hSw
            have x0 := hx0 w' hSw
            have x1 := hx1 w' hSw
            go_simp
            first | done | with_reducible rfl
          simp only [Act.put, List.setIfInBounds_toArray, List.set_cons_zero, List.set_cons_succ]
          refine wpAnyK_ready (rs := [1, 10]) (by kernel_rfl) (by simp) ?_
          refine AllReadyK.cons rfl (fun K' hK => ?_) ?_
          · go_simp
            have bw6 := hbd.trans ((belowNew w5 (.cells #[] 32)).mono hbd.size)
            have hOw6 : (w5.alloc (.cells #[] 32)).ownsRow w4.heap.size 32 tagK.n (.slice (some ⟨w5.heap.size, 0, none⟩) 0 0) 0 [] := World.ownsRow_made w5 #[] 0 hbd.size (by unfold maxLen; omega) (by simp)
            have hsw6 : w5.heap.size < (w5.alloc (.cells #[] 32)).heap.size := by rw [alloc_size]; omega
            obtain ⟨w6, hw6⟩ : ∃ q, w5.alloc (.cells #[] 32) = q := ⟨_, rfl⟩
            rw [hw6] at bw6 hOw6 hsw6 ⊢
            refine hK.out _ _ (fun _ => bw6) ?_
            clear hK K' hw6
            refine wpAnyK_ready (rs := [8, 10]) (by kernel_rfl) (by simp) ?_
            refine AllReadyK.consD (some 74) rfl rfl (fun K' hK => ?_) ?_
            · refine step_ownR (K := tagK) w6 (by rfl) _ _ 37 (by rfl) w4.heap.size 32 i0 _ 24 Tryd.underlying37 hi hz0 hz1 hz2 rfl _ _ _ _ _ (by rfl) hOw6 _ _ _ hTl (Nat.zero_add _) (by rfl) (hrT _ bw6) hnT.out m1 m2 bw6.size ?_
              intro aw7 cw7 w7 hOw7 hkw7
              have bw7 := bw6.trans (Kept.below hkw7 bw6.size (fun k hk => (hOw6.lt k hk).1))
              refine hK.out _ _ (fun _ => bw7) ?_
              clear hK K' hkw7
              simp only [Act.put, List.setIfInBounds_toArray, List.set_cons_zero, List.set_cons_succ]
              refine wpAnyK_ready (rs := [10]) (by kernel_rfl) (by simp) ?_
              refine AllReadyK.cons rfl (fun K' hK => ?_) ?_
              · go_simp
                have bw8 := bw7.trans ((belowNew w7 (.cells #[.int .i64 (j : Int), .string t.mac] 32)).mono bw7.size)
                have hRw8 := tagOne w7 (j : Int) t.mac
                have hsw8 : w7.heap.size < (w7.alloc (.cells #[.int .i64 (j : Int), .string t.mac] 32)).heap.size := by rw [alloc_size]; omega
                have hOw8 := own_belowC hOw7 (belowNew w7 (.cells #[.int .i64 (j : Int), .string t.mac] 32))
                obtain ⟨w8, hw8⟩ : ∃ q, w7.alloc (.cells #[.int .i64 (j : Int), .string t.mac] 32) = q := ⟨_, rfl⟩
                rw [hw8] at bw8 hRw8 hsw8 hOw8 ⊢
                refine hK.out _ _ (fun _ => bw8) ?_
                clear hK K' hw8
                refine wpAnyK_ready (rs := [11]) (by kernel_rfl) (by simp) ?_
                refine AllReadyK.consD (some 77) rfl rfl (fun K' hK => ?_) ?_
                · refine step_ownR (K := tagK) w8 (by rfl) _ _ 37 (by rfl) w4.heap.size 32 i0 _ 24 Tryd.underlying37 hi hz0 hz1 hz2 rfl _ _ _ _ _ (by rfl) hOw8 _ _ _ rfl rfl (by rfl) hRw8 (fun h => by cases h) m3 m4 bw8.size ?_
                  intro aw9 cw9 w9 hOw9 hkw9
                  have bw9 := bw8.trans (Kept.below hkw9 bw8.size (fun k hk => (hOw8.lt k hk).1))
                  refine hK.out _ _ (fun _ => bw9) ?_
                  clear hK K' hkw9
                  simp only [Act.put, List.setIfInBounds_toArray, List.set_cons_zero, List.set_cons_succ]
                  refine wpAnyK_ready (rs := [18]) (by kernel_rfl) (by simp) ?_
                  refine AllReadyK.consD (some 84) rfl rfl (fun K' hK => ?_) ?_
                  · refine step_ownR (K := tagK) w9 (by rfl) _ _ 37 (by rfl) w4.heap.size 32 i0 _ 24 Tryd.underlying37 hi hz0 hz1 hz2 rfl _ _ _ _ _ (by rfl) hOw9 _ _ _ hDl hN3.out (by rfl) (hrD _ bw9) hnD.out m5 m6 bw9.size ?_
                    intro aw10 cw10 w10 hOw10 hkw10
                    have bw10 := bw9.trans (Kept.below hkw10 bw9.size (fun k hk => (hOw9.lt k hk).1))
                    refine hK.out _ _ (fun _ => bw10) ?_
                    clear hK K' hkw10
                    simp only [Act.put, List.setIfInBounds_toArray, List.set_cons_zero, List.set_cons_succ]
                    refine wpAnyK_ready (rs := [19]) (by kernel_rfl) (by simp) ?_
                    refine AllReadyK.cons rfl (fun K' hK => ?_) ?_
                    · go_simp
                      refine hK.out _ _ (fun _ => bw10) ?_
                      clear hK K'
                      refine wpAnyK_ready (rs := [20]) (by kernel_rfl) (by simp) ?_
                      refine AllReadyK.cons rfl (fun K' hK => ?_) ?_
                      · go_simp
                        refine hK.out _ _ (fun _ => bw10) ?_
                        clear hK K'
                        refine wpAnyK_ready (rs := [21]) (by kernel_rfl) (by simp) ?_
                        refine AllReadyK.cons rfl (fun K' hK => ?_) ?_
                        · have c3 := hc3 w10 bw10
                          have f3 := (hr4.box.below bw10 hr4.box.lt).frozen 3
                          go_simp
                          have hF := rvEnd hr4 hB4 bw10 hOw10 Hl2.out hNo.out
                          refine hK.out _ _ (fun h => absurd rfl h) ?_
                          clear hK K'
                          refine wpAnyK_done (by kernel_rfl) ?_ _
                          go_wp2
                          go_ret
                          exact ⟨_, _, by rw [He2.out]; rfl, hF.1, (hk2.trans (Kept.of_below hbG)).trans hF.2.1, fun b hb => Or.inr (Nat.le_trans (hk2.trans (Kept.of_below hbG)).size (hF.2.2 b hb))⟩
                        exact AllReadyK.nil
                      exact AllReadyK.nil
                    exact AllReadyK.nil
                  exact AllReadyK.nil
                exact AllReadyK.nil
              exact AllReadyK.nil
            refine AllReadyK.cons rfl (fun K' hK => ?_) ?_
            · go_simp
              have bw11 := bw6.trans ((belowNew w6 (.cells #[.int .i64 (j : Int), .string t.mac] 32)).mono bw6.size)
              have hRw11 := tagOne w6 (j : Int) t.mac
              have hsw11 : w6.heap.size < (w6.alloc (.cells #[.int .i64 (j : Int), .string t.mac] 32)).heap.size := by rw [alloc_size]; omega
              have hOw11 := own_belowC hOw6 (belowNew w6 (.cells #[.int .i64 (j : Int), .string t.mac] 32))
              obtain ⟨w11, hw11⟩ : ∃ q, w6.alloc (.cells #[.int .i64 (j : Int), .string t.mac] 32) = q := ⟨_, rfl⟩
              rw [hw11] at bw11 hRw11 hsw11 hOw11 ⊢
              refine hK.out _ _ (fun _ => bw11) ?_
              clear hK K' hw11
              refine wpAnyK_ready (rs := [8]) (by kernel_rfl) (by simp) ?_
              refine AllReadyK.consD (some 74) rfl rfl (fun K' hK => ?_) ?_
              · refine step_ownR (K := tagK) w11 (by rfl) _ _ 37 (by rfl) w4.heap.size 32 i0 _ 24 Tryd.underlying37 hi hz0 hz1 hz2 rfl _ _ _ _ _ (by rfl) hOw11 _ _ _ hTl (Nat.zero_add _) (by rfl) (hrT _ bw11) hnT.out m1 m2 bw11.size ?_
                intro aw12 cw12 w12 hOw12 hkw12
                have bw12 := bw11.trans (Kept.below hkw12 bw11.size (fun k hk => (hOw11.lt k hk).1))
                have hRw12 := hRw11.kept hkw12 (fun k hk e => by
                  rcases hk with ⟨_, off', e'⟩ | ⟨_, _, f'⟩
                  · simp at e'
                    simp [Value.ownBlock] at e
                    omega
                  · exact f'.elim)
                refine hK.out _ _ (fun _ => bw12) ?_
                clear hK K' hkw12
                simp only [Act.put, List.setIfInBounds_toArray, List.set_cons_zero, List.set_cons_succ]
                refine wpAnyK_ready (rs := [11]) (by kernel_rfl) (by simp) ?_
                refine AllReadyK.consD (some 77) rfl rfl (fun K' hK => ?_) ?_
                · refine step_ownR (K := tagK) w12 (by rfl) _ _ 37 (by rfl) w4.heap.size 32 i0 _ 24 Tryd.underlying37 hi hz0 hz1 hz2 rfl _ _ _ _ _ (by rfl) hOw12 _ _ _ rfl rfl (by rfl) hRw12 (fun h => by cases h) m3 m4 bw12.size ?_
                  intro aw13 cw13 w13 hOw13 hkw13
                  have bw13 := bw12.trans (Kept.below hkw13 bw12.size (fun k hk => (hOw12.lt k hk).1))
                  refine hK.out _ _ (fun _ => bw13) ?_
                  clear hK K' hkw13
                  simp only [Act.put, List.setIfInBounds_toArray, List.set_cons_zero, List.set_cons_succ]
                  refine wpAnyK_ready (rs := [18]) (by kernel_rfl) (by simp) ?_
                  refine AllReadyK.consD (some 84) rfl rfl (fun K' hK => ?_) ?_
                  · refine step_ownR (K := tagK) w13 (by rfl) _ _ 37 (by rfl) w4.heap.size 32 i0 _ 24 Tryd.underlying37 hi hz0 hz1 hz2 rfl _ _ _ _ _ (by rfl) hOw13 _ _ _ hDl hN3.out (by rfl) (hrD _ bw13) hnD.out m5 m6 bw13.size ?_
                    intro aw14 cw14 w14 hOw14 hkw14
                    have bw14 := bw13.trans (Kept.below hkw14 bw13.size (fun k hk => (hOw13.lt k hk).1))
                    refine hK.out _ _ (fun _ => bw14) ?_
                    clear hK K' hkw14
                    simp only [Act.put, List.setIfInBounds_toArray, List.set_cons_zero, List.set_cons_succ]
                    refine wpAnyK_ready (rs := [19]) (by kernel_rfl) (by simp) ?_
                    refine AllReadyK.cons rfl (fun K' hK => ?_) ?_
                    · go_simp
                      refine hK.out _ _ (fun _ => bw14) ?_
                      clear hK K'
                      refine wpAnyK_ready (rs := [20]) (by kernel_rfl) (by simp) ?_
                      refine AllReadyK.cons rfl (fun K' hK => ?_) ?_
                      · go_simp
                        refine hK.out _ _ (fun _ => bw14) ?_
                        clear hK K'
                        refine wpAnyK_ready (rs := [21]) (by kernel_rfl) (by simp) ?_
                        refine AllReadyK.cons rfl (fun K' hK => ?_) ?_
                        · have c3 := hc3 w14 bw14
                          have f3 := (hr4.box.below bw14 hr4.box.lt).frozen 3
                          go_simp
                          have hF := rvEnd hr4 hB4 bw14 hOw14 Hl2.out hNo.out
                          refine hK.out _ _ (fun h => absurd rfl h) ?_
                          clear hK K'
                          refine wpAnyK_done (by kernel_rfl) ?_ _
                          go_wp2
                          go_ret
                          exact ⟨_, _, by rw [He2.out]; rfl, hF.1, (hk2.trans (Kept.of_below hbG)).trans hF.2.1, fun b hb => Or.inr (Nat.le_trans (hk2.trans (Kept.of_below hbG)).size (hF.2.2 b hb))⟩
                        exact AllReadyK.nil
                      exact AllReadyK.nil
                    exact AllReadyK.nil
                  exact AllReadyK.nil
                exact AllReadyK.nil
              exact AllReadyK.nil
            exact AllReadyK.nil
          refine AllReadyK.cons rfl (fun K' hK => ?_) ?_
          · go_simp
            have bw15 := hbd.trans ((belowNew w5 (.cells #[.int .i64 (j : Int), .string t.mac] 32)).mono hbd.size)
            have hRw15 := tagOne w5 (j : Int) t.mac
            have hsw15 : w5.heap.size < (w5.alloc (.cells #[.int .i64 (j : Int), .string t.mac] 32)).heap.size := by rw [alloc_size]; omega
            obtain ⟨w15, hw15⟩ : ∃ q, w5.alloc (.cells #[.int .i64 (j : Int), .string t.mac] 32) = q := ⟨_, rfl⟩
            rw [hw15] at bw15 hRw15 hsw15 ⊢
            refine hK.out _ _ (fun _ => bw15) ?_
            clear hK K' hw15
            refine wpAnyK_ready (rs := [1]) (by kernel_rfl) (by simp) ?_
            refine AllReadyK.cons rfl (fun K' hK => ?_) ?_
            · go_simp
              have bw16 := bw15.trans ((belowNew w15 (.cells #[] 32)).mono bw15.size)
              have hOw16 : (w15.alloc (.cells #[] 32)).ownsRow w4.heap.size 32 tagK.n (.slice (some ⟨w15.heap.size, 0, none⟩) 0 0) 0 [] := World.ownsRow_made w15 #[] 0 bw15.size (by unfold maxLen; omega) (by simp)
              have hsw16 : w15.heap.size < (w15.alloc (.cells #[] 32)).heap.size := by rw [alloc_size]; omega
              have hRw16 := hRw15.below (belowNew w15 (.cells #[] 32))
              obtain ⟨w16, hw16⟩ : ∃ q, w15.alloc (.cells #[] 32) = q := ⟨_, rfl⟩
              rw [hw16] at bw16 hOw16 hsw16 hRw16 ⊢
              refine hK.out _ _ (fun _ => bw16) ?_
              clear hK K' hw16
              refine wpAnyK_ready (rs := [8]) (by kernel_rfl) (by simp) ?_
              refine AllReadyK.consD (some 74) rfl rfl (fun K' hK => ?_) ?_
              · refine step_ownR (K := tagK) w16 (by rfl) _ _ 37 (by rfl) w4.heap.size 32 i0 _ 24 Tryd.underlying37 hi hz0 hz1 hz2 rfl _ _ _ _ _ (by rfl) hOw16 _ _ _ hTl (Nat.zero_add _) (by rfl) (hrT _ bw16) hnT.out m1 m2 bw16.size ?_
                intro aw17 cw17 w17 hOw17 hkw17
                have bw17 := bw16.trans (Kept.below hkw17 bw16.size (fun k hk => (hOw16.lt k hk).1))
                have hRw17 := hRw16.kept hkw17 (fun k hk e => by
                  rcases hk with ⟨_, off', e'⟩ | ⟨_, _, f'⟩
                  · simp at e'
                    simp [Value.ownBlock] at e
                    omega
                  · exact f'.elim)
                refine hK.out _ _ (fun _ => bw17) ?_
                clear hK K' hkw17
                simp only [Act.put, List.setIfInBounds_toArray, List.set_cons_zero, List.set_cons_succ]
                refine wpAnyK_ready (rs := [11]) (by kernel_rfl) (by simp) ?_
                refine AllReadyK.consD (some 77) rfl rfl (fun K' hK => ?_) ?_
                · refine step_ownR (K := tagK) w17 (by rfl) _ _ 37 (by rfl) w4.heap.size 32 i0 _ 24 Tryd.underlying37 hi hz0 hz1 hz2 rfl _ _ _ _ _ (by rfl) hOw17 _ _ _ rfl rfl (by rfl) hRw17 (fun h => by cases h) m3 m4 bw17.size ?_
                  intro aw18 cw18 w18 hOw18 hkw18
                  have bw18 := bw17.trans (Kept.below hkw18 bw17.size (fun k hk => (hOw17.lt k hk).1))
                  refine hK.out _ _ (fun _ => bw18) ?_
                  clear hK K' hkw18
                  simp only [Act.put, List.setIfInBounds_toArray, List.set_cons_zero, List.set_cons_succ]
                  refine wpAnyK_ready (rs := [18]) (by kernel_rfl) (by simp) ?_
                  refine AllReadyK.consD (some 84) rfl rfl (fun K' hK => ?_) ?_
                  · refine step_ownR (K := tagK) w18 (by rfl) _ _ 37 (by rfl) w4.heap.size 32 i0 _ 24 Tryd.underlying37 hi hz0 hz1 hz2 rfl _ _ _ _ _ (by rfl) hOw18 _ _ _ hDl hN3.out (by rfl) (hrD _ bw18) hnD.out m5 m6 bw18.size ?_
                    intro aw19 cw19 w19 hOw19 hkw19
                    have bw19 := bw18.trans (Kept.below hkw19 bw18.size (fun k hk => (hOw18.lt k hk).1))
                    refine hK.out _ _ (fun _ => bw19) ?_
                    clear hK K' hkw19
                    simp only [Act.put, List.setIfInBounds_toArray, List.set_cons_zero, List.set_cons_succ]
                    refine wpAnyK_ready (rs := [19]) (by kernel_rfl) (by simp) ?_
                    refine AllReadyK.cons rfl (fun K' hK => ?_) ?_
                    · go_simp
                      refine hK.out _ _ (fun _ => bw19) ?_
                      clear hK K'
                      refine wpAnyK_ready (rs := [20]) (by kernel_rfl) (by simp) ?_
                      refine AllReadyK.cons rfl (fun K' hK => ?_) ?_
                      · go_simp
                        refine hK.out _ _ (fun _ => bw19) ?_
                        clear hK K'
                        refine wpAnyK_ready (rs := [21]) (by kernel_rfl) (by simp) ?_
                        refine AllReadyK.cons rfl (fun K' hK => ?_) ?_
                        · have c3 := hc3 w19 bw19
                          have f3 := (hr4.box.below bw19 hr4.box.lt).frozen 3
                          go_simp
                          have hF := rvEnd hr4 hB4 bw19 hOw19 Hl2.out hNo.out
                          refine hK.out _ _ (fun h => absurd rfl h) ?_
                          clear hK K'
                          refine wpAnyK_done (by kernel_rfl) ?_ _
                          go_wp2
                          go_ret
                          exact ⟨_, _, by rw [He2.out]; rfl, hF.1, (hk2.trans (Kept.of_below hbG)).trans hF.2.1, fun b hb => Or.inr (Nat.le_trans (hk2.trans (Kept.of_below hbG)).size (hF.2.2 b hb))⟩
                        exact AllReadyK.nil
                      exact AllReadyK.nil
                    exact AllReadyK.nil
                  exact AllReadyK.nil
                exact AllReadyK.nil
              exact AllReadyK.nil
            exact AllReadyK.nil
          exact AllReadyK.nil

theorem refAdd7_any {ks : List ByteArray} {f rb tb B : Nat} {kind word : ByteArray} {ao : Option Addr} {cap : Nat} {P : List (Option TagD)} (t : TagD) (w : World) (h : RVAt w rb tb kind word B ao cap (inL P)) (hBw : B ≤ w.heap.size) (hT : Mx.TabAt w tb f ks) (hf : f ≤ 2) (hkl : ks.length = 3 * f + 1) (hks : ∀ k ∈ ks, k.size ≤ 32) (hP : Places (chkT ks kind word) (3 * f + 1) P) (hkd : kind.size ≤ 1000) (hwd : word.size ≤ 2000) (hG : Mx.Glob w) :
    Calls Tryd.prog 32 #[.pointer (some ⟨rb, 0, none⟩), .agg #[.int .i64 t.who, .string t.mac]] w fun e w' => ∃ ao' cap', e = .returned (.int .i64 (addE (chkT ks kind word) P t : Int)) ∧ RVAt w' rb tb kind word B ao' cap' (inL (addP (chkT ks kind word) P t)) ∧ Kept (fun k => k = rb) w w' := by
  refine (refAdd7_fresh t w h hBw hT hf hkl hks hP hkd hwd hG (fun _ => True) (fun _ _ => trivial)).mono ?_
  rintro e w' ⟨ao', cap', rfl, h1, h2, _⟩
  exact ⟨ao', cap', rfl, h1, h2⟩
end Go.Proofs.YtbikabjogacfkaaDoor
