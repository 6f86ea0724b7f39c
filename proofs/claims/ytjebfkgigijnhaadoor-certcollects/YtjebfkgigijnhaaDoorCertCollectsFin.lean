/- CertCollects: for every input the statement answers true, and each argument reads afterwards as it read before. Condition: the two tables of package mix read as the program's text lays them; no other. -/
import Derived.Test.YtjebfkgigijnhaaDoorRefVotes
import Derived.Test.YtjebfkgigijnhaaDoorRefHdrSame
import Derived.Deep.RegionHeld
import Derived.Test.YtjebfkgigijnhaaDoorHdrWorks
import Derived.Deep.QuietTactic
import Derived.Test.YtjebfkgigijnhaaDoorMixAll
import Derived.Test.YtjebfkgigijnhaaDoorHdrOpen
import Derived.Test.YtjebfkgigijnhaaDoorCards
import Derived.Test.YtjebfkgigijnhaaDoorTie
import Derived.SevenTiedAt
/- What both sides have collected, side by side. -/
namespace Go.Proofs.YtjebfkgigijnhaaDoor
open Go.RowKit
set_option linter.unusedVariables false

/-- The program has collected Pv, the reference Pr. -/
structure CSt (w0 : World) (tb rt n : Nat) (ks : List ByteArray) (kind word : ByteArray) (vb rb B : Nat) (ao : Option Addr) (cap : Nat) (Pv Pr : List (Option TagD)) (w : World) : Prop where
  env : VEnv w0 tb n ks kind word
  rtab : Mx.TabAt w0 rt n ks
  v : VSt w0 tb n ks kind word vb Pv w
  r : RVAt w rb rt kind word B ao cap (inL Pr)
  pr : Places (chkT ks kind word) (3 * n + 1) Pr
  vB : vb < B
  rn : w0.heap.size ≤ rb
  ne : vb ≠ rb
  bB : B ≤ w.heap.size

section
variable {w0 : World} {tb rt n : Nat} {ks : List ByteArray} {kind word : ByteArray} {vb rb B : Nat} {ao : Option Addr} {cap : Nat} {Pv Pr P : List (Option TagD)} {w : World}

theorem CSt.below (h : CSt w0 tb rt n ks kind word vb rb B ao cap Pv Pr w) {w' : World} (hb : Below w.heap.size w w') : CSt w0 tb rt n ks kind word vb rb B ao cap Pv Pr w' :=
  ⟨h.env, h.rtab, h.v.below hb, h.r.below hb, h.pr, h.vB, h.rn, h.ne, Nat.le_trans h.bB hb.size⟩

theorem CSt.add (h : CSt w0 tb rt n ks kind word vb rb B ao cap P Pr w) (t : TagD) :
    Calls Tryd.prog 18 #[.pointer (some ⟨vb, 0, none⟩), .agg #[.int .i64 t.who, .string t.mac]] w fun e w' => e = .returned (.int .i64 (addE (chkT ks kind word) P t : Int)) ∧ CSt w0 tb rt n ks kind word vb rb B ao cap (addP (chkT ks kind word) P t) Pr w' := by
  refine (h.env.add h.v t).mono ?_
  rintro e w' ⟨rfl, h1, hk⟩
  refine ⟨rfl, h.env, h.rtab, h1, h.r.kept hk (fun e => h.ne e.symm) (fun k hk e => ?_), h.pr, h.vB, h.rn, h.ne, Nat.le_trans h.bB hk.size⟩
  have := h.vB
  have e' : k = vb := e
  omega

theorem CSt.radd (h : CSt w0 tb rt n ks kind word vb rb B ao cap Pv P w) (t : TagD) :
    Calls Tryd.prog 19 #[.pointer (some ⟨rb, 0, none⟩), .agg #[.int .i64 t.who, .string t.mac]] w fun e w' => ∃ ao' cap', e = .returned (.int .i64 (addE (chkT ks kind word) P t : Int)) ∧ CSt w0 tb rt n ks kind word vb rb B ao' cap' Pv (addP (chkT ks kind word) P t) w' := by
  refine (refAdd7_any t w h.r h.bB (h.rtab.below h.v.bel) h.env.f2 h.env.kl h.env.k32 h.pr h.env.kd h.env.wd (h.env.glob.below h.v.bel)).mono ?_
  rintro e w' ⟨ao', cap', rfl, h1, hk⟩
  refine ⟨ao', cap', rfl, h.env, h.rtab, h.v.kept hk h.ne (fun k e => ?_), h1, h.pr.add (fun hc => ?_), h.vB, h.rn, h.ne, Nat.le_trans h.bB hk.size⟩
  · have e' : k = rb := e
    rw [e']
    exact h.rn
  · have hz := chkT_zero hc
    have := h.env.kl
    omega

theorem CSt.full (h : CSt w0 tb rt n ks kind word vb rb B ao cap Pv Pr w) :
    Calls Tryd.prog 20 #[.pointer (some ⟨vb, 0, none⟩)] w fun e w' => e = .returned (.bool (decide (2 * n + 1 ≤ (inL Pv).length))) ∧ CSt w0 tb rt n ks kind word vb rb B ao cap Pv Pr w' := by
  refine (h.env.full h.v).mono ?_
  rintro e w' ⟨rfl, hb⟩
  exact ⟨rfl, h.below hb⟩

theorem CSt.rfull (h : CSt w0 tb rt n ks kind word vb rb B ao cap Pv Pr w) :
    Calls Tryd.prog 21 #[.pointer (some ⟨rb, 0, none⟩)] w fun e w' => e = .returned (.bool (decide (2 * n + 1 ≤ (inL Pr).length))) ∧ CSt w0 tb rt n ks kind word vb rb B ao cap Pv Pr w' := by
  refine (refFull_any w h.r (h.rtab.below h.v.bel) h.env.f2).mono ?_
  rintro e w' ⟨rfl, hb⟩
  exact ⟨rfl, h.below hb⟩

theorem CSt.tags (h : CSt w0 tb rt n ks kind word vb rb B ao cap Pv Pr w) :
    Calls Tryd.prog 23 #[.pointer (some ⟨vb, 0, none⟩)] w fun e w' => ∃ a1 c1, e = .returned (.slice a1 (inL Pv).length c1) ∧ RowAt tagK w' a1 (inL Pv) ∧ CSt w0 tb rt n ks kind word vb rb B ao cap Pv Pr w' := by
  refine (h.env.tags h.v).mono ?_
  rintro e w' ⟨a1, c1, rfl, h1, _, _, hb⟩
  exact ⟨a1, c1, rfl, h1, h.below hb⟩

theorem CSt.cell (h : CSt w0 tb rt n ks kind word vb rb B ao cap Pv Pr w) : w.cell? ⟨rb, 3, none⟩ = some (.slice ao (inL Pr).length cap) := h.r.box.cell (i := 3) rfl

theorem CSt.same (h : CSt w0 tb rt n ks kind word vb rb B ao cap P P w) {a1 : Option Addr} {c1 : Nat} (h1 : RowAt tagK w a1 (inL P)) :
    Calls Tryd.prog 22 #[.slice a1 (inL P).length c1, .slice ao (inL P).length cap] w fun e w' => e = .returned (.bool true) ∧ CSt w0 tb rt n ks kind word vb rb B ao cap P P w' := by
  refine (sameTags_any a1 ao c1 cap (inL P) w h1 h.r.row (by have := h.pr.few; omega)).mono ?_
  rintro e w' ⟨rfl, hb⟩
  exact ⟨rfl, h.below hb⟩
end
end Go.Proofs.YtjebfkgigijnhaaDoor

/- A region that draws its order, walked by hand under a condition that holds behind every operation: the slot under a letter. -/
namespace Go.Proofs.YtjebfkgigijnhaaDoor
open Go

section
variable {P : Program} {ops : Array Oper} {Q : Exit → Act → World → Prop} {md : Region.Mode} {S : World → Prop}

theorem wpAnyH_takeD {i : Nat} {oi : Oper} {v : Value} {fuel : Nat} {listed : Array Bool} {a : Act} {w : World} (d : Option Nat) (hi : ops[i]? = some oi) (hd : oi.dst = d)
    (hs : Region.noSelect ops = true) (hf : Region.free md ops listed i = true) (hr : (Region.ready md ops listed).contains i = true)
    (hQ : ∀ c a w, Q (.panic c) (a.put d v) w → Q (.panic c) a w) (hy : YieldsIf P ops S oi v a) (hS : S w)
    (h : wpAnyH P md ops Q S fuel (listed.setIfInBounds i true) (a.put d v) w) : wpAnyH P md ops Q S (fuel + 1) listed a w := by
  subst hd
  exact wpAnyH_take hi hs hf hr hQ hy hS h
end
end Go.Proofs.YtjebfkgigijnhaaDoor

/- tusklaw07.CertCollects answers true; nothing old in memory is turned. -/
namespace Go.Proofs.YtjebfkgigijnhaaDoor
open Go.RowKit
set_option linter.unusedVariables false

set_option maxRecDepth 100000 in
set_option maxHeartbeats 4000000 in
theorem certCollects_walk (f : Int) (kind word : ByteArray) (la : Option Addr) (lc : Nat) (l : List TagD) (w : World) (hwf : (Lit.int .i64 f).wf = true) (hsk : kind.size ≤ 140737488351232) (hsw : word.size ≤ 140737488351232) (hA : RowAt tagK w la l) (hnil : la = none → lc = 0) (hLm : l.length ≤ maxLen) (hG : Mx.Glob w) :
    Calls Tryd.prog 4 #[.int .i64 f, .string kind, .string word, .slice la l.length lc] w fun e w' => e = .returned (.bool true) ∧ Below w.heap.size w w' := by
  have cB := both_any f w hG
  go_enter Tryd.func4, Tryd.ntmps4
  go_wp2_with fail
  refine cB.mono ?_
  rintro e w2 ⟨n, tb, rt, n2, n1, rfl, hT2, hR2, hB2⟩
  have hk32 : ∀ k ∈ Mx.keysL seedW (3 * n + 1), k.size ≤ 32 := Mx.keysL_size _ _
  have hkl : Hid ((Mx.keysL seedW (3 * n + 1)).length = 3 * n + 1) := Mx.keysL_len _ _
  generalize Mx.keysL seedW (3 * n + 1) = ks at *
  clear cB
  by_cases hkb : 300 < kind.size
  · have hkb' : (300 : Int) < (kind.size : Int) := by omega
    go_wp2
    go_ret
    exact ⟨rfl, hB2⟩
  have hkb' : ¬ (300 : Int) < (kind.size : Int) := by omega
  by_cases hwb : 500 < word.size
  · have hwb' : (500 : Int) < (word.size : Int) := by omega
    go_wp2
    go_ret
    exact ⟨rfl, hB2⟩
  have hwb' : ¬ (500 : Int) < (word.size : Int) := by omega
  have hE : VEnv w2 tb n ks kind word := ⟨hT2, n2, hkl.out, hk32, by omega, by omega, hG.below hB2⟩
  have cC := hE.collect (Below.refl _ w2)
  go_wp2_with fail
  refine cC.mono ?_
  rintro e w3 ⟨vb, rfl, hv3, hS3, hb3⟩
  have cR := refCollect_any rt kind word w3
  have hvl := hS3.lt
  clear cC hkb' hwb' hkb hwb
  go_wp2_with fail
  refine cR.mono ?_
  rintro e w4 ⟨rfl, hr4, hb4⟩
  have hC4 : CSt w2 tb rt n ks kind word vb w3.heap.size w4.heap.size none 0 noP noP w4 := ⟨hE, hR2, hS3.below hb4, hr4, places_none _ _, Nat.lt_of_lt_of_le hvl hb4.size, hb3.size, by omega, Nat.le_refl _⟩
  have hA2 := hA.below hB2
  generalize w3.heap.size = rb at *
  generalize w4.heap.size = B at *
  clear cR hb4 hr4 hS3 hb3 hvl hv3 hE hT2 hR2 hk32 hkl
  go_wp2_with fail
  go_loopw [14] (fun v14 wr => ∃ (i : Nat) (P : List (Option TagD)) (ao : Option Addr) (cap : Nat), i ≤ l.length ∧ v14 = .int .i64 (i : Int) ∧ CSt w2 tb rt n ks kind word vb rb B ao cap P P wr) (fun v _ => l.length - (intOf v).toNat)
  case atStart => exact ⟨0, noP, none, 0, Nat.zero_le _, rfl, hC4⟩
  case round =>
    obtain ⟨i, P, ao, cap, hil, rfl, hC⟩ := hrel
    clear hC4
    by_cases hgo : i < l.length ∧ i < 40
    · have g1 : (i : Int) < (l.length : Int) := by omega
      have g2 : (i : Int) < 40 := by omega
      have g0 : (0 : Int) ≤ (i : Int) := by omega
      obtain ⟨t, ht⟩ : ∃ t, l[i]? = some t := ⟨_, List.getElem?_eq_getElem hgo.1⟩
      obtain ⟨b, off, rfl, hbl, _, _⟩ := hA2.tag ht
      have hkp : ∀ w', Below w2.heap.size w2 w' → w'.cell? ⟨b, off + i * 2, none⟩ = some (.int .i64 t.who) ∧ w'.cell? ⟨b, off + i * 2 + 1, none⟩ = some (.string t.mac) := fun w' hb => by
        obtain ⟨b', off', e', _, y0, y1⟩ := (hA2.below hb).tag ht
        obtain ⟨rfl, rfl⟩ : b' = b ∧ off' = off := by simp at e'; exact ⟨e'.1.symm, e'.2.symm⟩
        exact ⟨y0, y1⟩
      obtain ⟨eo, heo⟩ : ∃ q, Hid (q = addE (chkT ks kind word) P t) := ⟨_, rfl⟩
      obtain ⟨P2, hP2⟩ : ∃ q, Hid (q = addP (chkT ks kind word) P t) := ⟨_, rfl⟩
      obtain ⟨fb, hfb⟩ : ∃ q : Bool, Hid (q = decide (2 * n + 1 ≤ (inL P2).length)) := ⟨_, rfl⟩
      have cA := fun W (h : CSt w2 tb rt n ks kind word vb rb B ao cap P P W) => h.add t
      have cRA := fun W (h : CSt w2 tb rt n ks kind word vb rb B ao cap P2 P W) => h.radd t
      rw [← heo.out, ← hP2.out] at cA cRA
      have cF := fun W a c (h : CSt w2 tb rt n ks kind word vb rb B a c P2 P2 W) => h.full
      have cG := fun W a c (h : CSt w2 tb rt n ks kind word vb rb B a c P2 P2 W) => h.rfull
      rw [← hfb.out] at cF cG
      have cT := fun W a c (h : CSt w2 tb rt n ks kind word vb rb B a c P2 P2 W) => h.tags
      have cS := fun W a c (h : CSt w2 tb rt n ks kind word vb rb B a c P2 P2 W) a1 c1 h1 => h.same (a1 := a1) (c1 := c1) h1
      have cc := fun W a c (h : CSt w2 tb rt n ks kind word vb rb B a c P2 P2 W) => h.cell
      generalize hL2 : inL P2 = L2 at cT cS cc
      have hC1 := hC.below (below_drewN (Below.refl _ wr) 1)
      have b1 : Below w2.heap.size w2 wr.drew := hC1.v.bel
      have hS1 := hkp _ b1
      clear heo hP2 hfb hL2 hA hA2 hG ht hnil hC
      go_wp2_with fail
      refine wp_region_held_drew (S := fun w' => w'.cell? ⟨b, off + i * 2, none⟩ = some (.int .i64 t.who) ∧ w'.cell? ⟨b, off + i * 2 + 1, none⟩ = some (.string t.mac)) (by kernel_rfl) hS1 (fun hHeld => ?_)
      refine wpAnyH_takeD (i := 0) (v := ?_) (some 51) rfl rfl (by kernel_rfl) (by kernel_rfl) (by kernel_rfl) (fun _ _ _ h => h) (Or.inl ⟨by rfl, ?_⟩) (by assumption) ?_
      rotate_left 1
      · intro w' hSw
        obtain ⟨s0, s1⟩ := hSw
        go_simp
        first | done | with_reducible rfl
      simp only [Act.put, List.setIfInBounds_toArray, List.set_cons_zero, List.set_cons_succ]
      refine wpAnyH_takeD (i := 1) (v := ?_) (some 52) rfl rfl (by kernel_rfl) (by kernel_rfl) (by kernel_rfl) (fun _ _ _ h => h) (Or.inl ⟨by rfl, ?_⟩) (by assumption) ?_
      rotate_left 1
      · intro w' hSw
        obtain ⟨s0, s1⟩ := hSw
        go_simp
        first | done | with_reducible rfl
      simp only [Act.put, List.setIfInBounds_toArray, List.set_cons_zero, List.set_cons_succ]
      refine wpAnyH_takeD (i := 2) (v := ?_) (some 53) rfl rfl (by kernel_rfl) (by kernel_rfl) (by kernel_rfl) (fun _ _ _ h => h) (Or.inl ⟨by rfl, ?_⟩) (by assumption) ?_
      rotate_left 1
      · intro w' hSw
        obtain ⟨s0, s1⟩ := hSw
        go_simp
        first | done | with_reducible rfl
      simp only [Act.put, List.setIfInBounds_toArray, List.set_cons_zero, List.set_cons_succ]
      refine wpAnyH_takeD (i := 3) (v := ?_) (some 54) rfl rfl (by kernel_rfl) (by kernel_rfl) (by kernel_rfl) (fun _ _ _ h => h) (Or.inl ⟨by rfl, ?_⟩) (by assumption) ?_
      rotate_left 1
      · intro w' hSw
        obtain ⟨s0, s1⟩ := hSw
        go_simp
        first | done | with_reducible rfl
      simp only [Act.put, List.setIfInBounds_toArray, List.set_cons_zero, List.set_cons_succ]
      refine wpAnyH_takeD (i := 4) (v := ?_) (some 55) rfl rfl (by kernel_rfl) (by kernel_rfl) (by kernel_rfl) (fun _ _ _ h => h) (Or.inl ⟨by rfl, ?_⟩) (by assumption) ?_
      rotate_left 1
      · intro w' hSw
        obtain ⟨s0, s1⟩ := hSw
        go_simp
        first | done | with_reducible rfl
      simp only [Act.put, List.setIfInBounds_toArray, List.set_cons_zero, List.set_cons_succ]
      refine wpAnyH_takeD (i := 6) (v := ?_) (some 57) rfl rfl (by kernel_rfl) (by kernel_rfl) (by kernel_rfl) (fun _ _ _ h => h) (Or.inl ⟨by rfl, ?_⟩) (by assumption) ?_
      rotate_left 1
      · intro w' hSw
        obtain ⟨s0, s1⟩ := hSw
        go_simp
        first | done | with_reducible rfl
      simp only [Act.put, List.setIfInBounds_toArray, List.set_cons_zero, List.set_cons_succ]
      refine wpAnyH_takeD (i := 7) (v := ?_) (some 58) rfl rfl (by kernel_rfl) (by kernel_rfl) (by kernel_rfl) (fun _ _ _ h => h) (Or.inl ⟨by rfl, ?_⟩) (by assumption) ?_
      rotate_left 1
      · intro w' hSw
        obtain ⟨s0, s1⟩ := hSw
        go_simp
        first | done | with_reducible rfl
      simp only [Act.put, List.setIfInBounds_toArray, List.set_cons_zero, List.set_cons_succ]
      refine wpAnyH_takeD (i := 8) (v := ?_) (some 59) rfl rfl (by kernel_rfl) (by kernel_rfl) (by kernel_rfl) (fun _ _ _ h => h) (Or.inl ⟨by rfl, ?_⟩) (by assumption) ?_
      rotate_left 1
      · intro w' hSw
        obtain ⟨s0, s1⟩ := hSw
        go_simp
        first | done | with_reducible rfl
      simp only [Act.put, List.setIfInBounds_toArray, List.set_cons_zero, List.set_cons_succ]
      refine wpAnyH_takeD (i := 9) (v := ?_) (some 60) rfl rfl (by kernel_rfl) (by kernel_rfl) (by kernel_rfl) (fun _ _ _ h => h) (Or.inl ⟨by rfl, ?_⟩) (by assumption) ?_
      rotate_left 1
      · intro w' hSw
        obtain ⟨s0, s1⟩ := hSw
        go_simp
        first | done | with_reducible rfl
      simp only [Act.put, List.setIfInBounds_toArray, List.set_cons_zero, List.set_cons_succ]
      refine wpAnyH_takeD (i := 10) (v := ?_) (some 61) rfl rfl (by kernel_rfl) (by kernel_rfl) (by kernel_rfl) (fun _ _ _ h => h) (Or.inl ⟨by rfl, ?_⟩) (by assumption) ?_
      rotate_left 1
      · intro w' hSw
        obtain ⟨s0, s1⟩ := hSw
        go_simp
        first | done | with_reducible rfl
      simp only [Act.put, List.setIfInBounds_toArray, List.set_cons_zero, List.set_cons_succ]
      refine wpAnyH_ready (rs := [5]) (by kernel_rfl) (by simp) ?_
      refine AllReadyH.cons rfl (fun K' hK => ?_) ?_
      · go_simp
        refine (cA _ hC1).mono ?_
        rintro e w5 ⟨rfl, hC5⟩
        have b5 := hC5.v.bel
        refine hK.out _ _ (hkp _ b5) (fun hHeld => ?_)
        clear hK K'
        refine wpAnyH_ready (rs := [11]) (by kernel_rfl) (by simp) ?_
        refine AllReadyH.cons rfl (fun K' hK => ?_) ?_
        · go_simp
          refine (cRA _ hC5).mono ?_
          rintro e w6 ⟨ao6, cap6, rfl, hC6⟩
          have b6 := hC6.v.bel
          refine hK.out _ _ (hkp _ b6) (fun hHeld => ?_)
          clear hK K'
          refine wpAnyH_takeD (i := 12) (v := ?_) (some 63) rfl rfl (by kernel_rfl) (by kernel_rfl) (by kernel_rfl) (fun _ _ _ h => h) (Or.inl ⟨by rfl, ?_⟩) (by assumption) ?_
          rotate_left 1
          · intro w' hSw
            obtain ⟨s0, s1⟩ := hSw
            go_simp
            first | done | with_reducible rfl
          simp only [Act.put, List.setIfInBounds_toArray, List.set_cons_zero, List.set_cons_succ]
          refine wpAnyH_takeD (i := 13) (v := ?_) (some 64) rfl rfl (by kernel_rfl) (by kernel_rfl) (by kernel_rfl) (fun _ _ _ h => h) (Or.inl ⟨by rfl, ?_⟩) (by assumption) ?_
          rotate_left 1
          · intro w' hSw
            obtain ⟨s0, s1⟩ := hSw
            go_simp
            first | done | with_reducible rfl
          simp only [Act.put, List.setIfInBounds_toArray, List.set_cons_zero, List.set_cons_succ]
          refine wpAnyH_takeD (i := 14) (v := ?_) (some 65) rfl rfl (by kernel_rfl) (by kernel_rfl) (by kernel_rfl) (fun _ _ _ h => h) (Or.inl ⟨by rfl, ?_⟩) (by assumption) ?_
          rotate_left 1
          · intro w' hSw
            obtain ⟨s0, s1⟩ := hSw
            go_simp
            first | done | with_reducible rfl
          simp only [Act.put, List.setIfInBounds_toArray, List.set_cons_zero, List.set_cons_succ]
          refine wpAnyH_takeD (i := 16) (v := ?_) (some 67) rfl rfl (by kernel_rfl) (by kernel_rfl) (by kernel_rfl) (fun _ _ _ h => h) (Or.inl ⟨by rfl, ?_⟩) (by assumption) ?_
          rotate_left 1
          · intro w' hSw
            obtain ⟨s0, s1⟩ := hSw
            go_simp
            first | done | with_reducible rfl
          simp only [Act.put, List.setIfInBounds_toArray, List.set_cons_zero, List.set_cons_succ]
          refine wpAnyH_ready (rs := [15]) (by kernel_rfl) (by simp) ?_
          refine AllReadyH.cons rfl (fun K' hK => ?_) ?_
          · go_simp
            refine (cF _ _ _ hC6).mono ?_
            rintro e w7 ⟨rfl, hC7⟩
            have b7 := hC7.v.bel
            refine hK.out _ _ (hkp _ b7) (fun hHeld => ?_)
            clear hK K'
            refine wpAnyH_ready (rs := [17]) (by kernel_rfl) (by simp) ?_
            refine AllReadyH.cons rfl (fun K' hK => ?_) ?_
            · go_simp
              refine (cG _ _ _ hC7).mono ?_
              rintro e w8 ⟨rfl, hC8⟩
              have b8 := hC8.v.bel
              have c8 := cc _ _ _ hC8
              refine hK.out _ _ (hkp _ b8) (fun hHeld => ?_)
              clear hK K'
              refine wpAnyH_takeD (i := 18) (v := ?_) (some 69) rfl rfl (by kernel_rfl) (by kernel_rfl) (by kernel_rfl) (fun _ _ _ h => h) (Or.inl ⟨by rfl, ?_⟩) (by assumption) ?_
              rotate_left 1
              · intro w' hSw
                obtain ⟨s0, s1⟩ := hSw
                go_simp
                first | done | with_reducible rfl
              simp only [Act.put, List.setIfInBounds_toArray, List.set_cons_zero, List.set_cons_succ]
              refine wpAnyH_takeD (i := 19) (v := ?_) (some 70) rfl rfl (by kernel_rfl) (by kernel_rfl) (by kernel_rfl) (fun _ _ _ h => h) (Or.inl ⟨by rfl, ?_⟩) (by assumption) ?_
              rotate_left 1
              · intro w' hSw
                obtain ⟨s0, s1⟩ := hSw
                go_simp
                first | done | with_reducible rfl
              simp only [Act.put, List.setIfInBounds_toArray, List.set_cons_zero, List.set_cons_succ]
              refine wpAnyH_takeD (i := 20) (v := ?_) (some 71) rfl rfl (by kernel_rfl) (by kernel_rfl) (by kernel_rfl) (fun _ _ _ h => h) (Or.inl ⟨by rfl, ?_⟩) (by assumption) ?_
              rotate_left 1
              · intro w' hSw
                obtain ⟨s0, s1⟩ := hSw
                go_simp
                first | done | with_reducible rfl
              simp only [Act.put, List.setIfInBounds_toArray, List.set_cons_zero, List.set_cons_succ]
              refine wpAnyH_takeD (i := 21) (v := ?_) (some 72) rfl rfl (by kernel_rfl) (by kernel_rfl) (by kernel_rfl) (fun _ _ _ h => h) (Or.inl ⟨by rfl, ?_⟩) (by assumption) ?_
              rotate_left 1
              · intro w' hSw
                obtain ⟨s0, s1⟩ := hSw
                go_simp
                first | done | with_reducible rfl
              simp only [Act.put, List.setIfInBounds_toArray, List.set_cons_zero, List.set_cons_succ]
              refine wpAnyH_takeD (i := 23) (v := ?_) (some 74) rfl rfl (by kernel_rfl) (by kernel_rfl) (by kernel_rfl) (fun _ _ _ h => h) (Or.inl ⟨by rfl, ?_⟩) (by assumption) ?_
              rotate_left 1
              · intro w' hSw
                obtain ⟨s0, s1⟩ := hSw
                go_simp
                first | done | with_reducible rfl
              simp only [Act.put, List.setIfInBounds_toArray, List.set_cons_zero, List.set_cons_succ]
              refine wpAnyH_takeD (i := 24) (v := ?_) (some 75) rfl rfl (by kernel_rfl) (by kernel_rfl) (by kernel_rfl) (fun _ _ _ h => h) (Or.inl ⟨by rfl, ?_⟩) (by assumption) ?_
              rotate_left 1
              · intro w' hSw
                obtain ⟨s0, s1⟩ := hSw
                go_simp
                first | done | with_reducible rfl
              simp only [Act.put, List.setIfInBounds_toArray, List.set_cons_zero, List.set_cons_succ]
              refine wpAnyH_takeD (i := 25) (v := ?_) (some 76) rfl rfl (by kernel_rfl) (by kernel_rfl) (by kernel_rfl) (fun _ _ _ h => h) (Or.inl ⟨by rfl, ?_⟩) (by assumption) ?_
              rotate_left 1
              · intro w' hSw
                obtain ⟨s0, s1⟩ := hSw
                go_simp
                first | done | with_reducible rfl
              simp only [Act.put, List.setIfInBounds_toArray, List.set_cons_zero, List.set_cons_succ]
              refine wpAnyH_ready (rs := [22, 26]) (by kernel_rfl) (by simp) ?_
              refine AllReadyH.cons rfl (fun K' hK => ?_) ?_
              · go_simp
                refine (cT _ _ _ hC8).mono ?_
                rintro e w9 ⟨a1, c1, rfl, hr9, hC9⟩
                have b9 := hC9.v.bel
                have c9 := cc _ _ _ hC9
                refine hK.out _ _ (hkp _ b9) (fun hHeld => ?_)
                clear hK K'
                refine wpAnyH_ready (rs := [26]) (by kernel_rfl) (by simp) ?_
                refine AllReadyH.cons rfl (fun K' hK => ?_) ?_
                · go_simp
                  refine hK.out _ _ (by assumption) (fun hHeld => ?_)
                  clear hK K'
                  refine wpAnyH_ready (rs := [27]) (by kernel_rfl) (by simp) ?_
                  refine AllReadyH.cons rfl (fun K' hK => ?_) ?_
                  · go_simp
                    refine (cS _ _ _ hC9 _ _ hr9).mono ?_
                    rintro e w10 ⟨rfl, hC10⟩
                    have b10 := hC10.v.bel
                    refine hK.out _ _ (hkp _ b10) (fun hHeld => ?_)
                    clear hK K'
                    refine wpAnyH_takeD (i := 28) (v := ?_) (some 79) rfl rfl (by kernel_rfl) (by kernel_rfl) (by kernel_rfl) (fun _ _ _ h => h) (Or.inl ⟨by rfl, ?_⟩) (by assumption) ?_
                    rotate_left 1
                    · intro w' hSw
                      obtain ⟨s0, s1⟩ := hSw
                      go_simp
                      first | done | with_reducible rfl
                    simp only [Act.put, List.setIfInBounds_toArray, List.set_cons_zero, List.set_cons_succ]
                    refine wpAnyH_takeD (i := 29) (v := ?_) (some 80) rfl rfl (by kernel_rfl) (by kernel_rfl) (by kernel_rfl) (fun _ _ _ h => h) (Or.inl ⟨by rfl, ?_⟩) (by assumption) ?_
                    rotate_left 1
                    · intro w' hSw
                      obtain ⟨s0, s1⟩ := hSw
                      go_simp
                      first | done | with_reducible rfl
                    simp only [Act.put, List.setIfInBounds_toArray, List.set_cons_zero, List.set_cons_succ]
                    refine wpAnyH_done (by kernel_rfl) ?_ _
                    clear cA cRA cF cG cT cS cc hkp
                    go_wp2
                    go_roundw
                    case rel => exact ⟨i + 1, P2, ao6, cap6, by omega, by go_num, hC10⟩
                    case measure => simp [intOf]; omega
                  exact AllReadyH.nil
                exact AllReadyH.nil
              refine AllReadyH.cons rfl (fun K' hK => ?_) ?_
              · go_simp
                refine hK.out _ _ (by assumption) (fun hHeld => ?_)
                clear hK K'
                refine wpAnyH_ready (rs := [22]) (by kernel_rfl) (by simp) ?_
                refine AllReadyH.cons rfl (fun K' hK => ?_) ?_
                · go_simp
                  refine (cT _ _ _ hC8).mono ?_
                  rintro e w9 ⟨a1, c1, rfl, hr9, hC9⟩
                  have b9 := hC9.v.bel
                  have c9 := cc _ _ _ hC9
                  refine hK.out _ _ (hkp _ b9) (fun hHeld => ?_)
                  clear hK K'
                  refine wpAnyH_ready (rs := [27]) (by kernel_rfl) (by simp) ?_
                  refine AllReadyH.cons rfl (fun K' hK => ?_) ?_
                  · go_simp
                    refine (cS _ _ _ hC9 _ _ hr9).mono ?_
                    rintro e w10 ⟨rfl, hC10⟩
                    have b10 := hC10.v.bel
                    refine hK.out _ _ (hkp _ b10) (fun hHeld => ?_)
                    clear hK K'
                    refine wpAnyH_takeD (i := 28) (v := ?_) (some 79) rfl rfl (by kernel_rfl) (by kernel_rfl) (by kernel_rfl) (fun _ _ _ h => h) (Or.inl ⟨by rfl, ?_⟩) (by assumption) ?_
                    rotate_left 1
                    · intro w' hSw
                      obtain ⟨s0, s1⟩ := hSw
                      go_simp
                      first | done | with_reducible rfl
                    simp only [Act.put, List.setIfInBounds_toArray, List.set_cons_zero, List.set_cons_succ]
                    refine wpAnyH_takeD (i := 29) (v := ?_) (some 80) rfl rfl (by kernel_rfl) (by kernel_rfl) (by kernel_rfl) (fun _ _ _ h => h) (Or.inl ⟨by rfl, ?_⟩) (by assumption) ?_
                    rotate_left 1
                    · intro w' hSw
                      obtain ⟨s0, s1⟩ := hSw
                      go_simp
                      first | done | with_reducible rfl
                    simp only [Act.put, List.setIfInBounds_toArray, List.set_cons_zero, List.set_cons_succ]
                    refine wpAnyH_done (by kernel_rfl) ?_ _
                    clear cA cRA cF cG cT cS cc hkp
                    go_wp2
                    go_roundw
                    case rel => exact ⟨i + 1, P2, ao6, cap6, by omega, by go_num, hC10⟩
                    case measure => simp [intOf]; omega
                  exact AllReadyH.nil
                exact AllReadyH.nil
              exact AllReadyH.nil
            exact AllReadyH.nil
          exact AllReadyH.nil
        exact AllReadyH.nil
      exact AllReadyH.nil
    · have hBr := hB2.trans (hC.v.bel.mono hB2.size)
      have hgi : ¬ ((i : Int) < (l.length : Int) ∧ (i : Int) < 40) := by omega
      by_cases hl1 : i < l.length
      · have g1 : (i : Int) < (l.length : Int) := by omega
        have g2 : ¬ (i : Int) < 40 := by omega
        clear hgi hgo
        go_wp2
        go_ret
        exact ⟨rfl, hBr⟩
      · have g1 : ¬ (i : Int) < (l.length : Int) := by omega
        clear hgi hgo
        go_wp2
        go_ret
        exact ⟨rfl, hBr⟩
end Go.Proofs.YtjebfkgigijnhaaDoor

/- CertCollects: for every input the statement answers true, and each argument reads afterwards as it read before. Condition: the two tables of package mix read as the program's text lays them; no other. -/
namespace Go.Proofs.YtjebfkgigijnhaaDoor
open Go.ChangeShapes Go.WideShapes Go.ChangeAt Go.RowKit
open Go.ChangeMaps (open_string shut_string)
set_option linter.unusedVariables false

set_option maxRecDepth 100000 in
theorem certCollects_lifted (os : Os) (started : os.Started) (H : Type) (enc : TypeId × Value → H) :
    ReturnsInHanded {} Tryd.checked os 4 .any (fun w args => (Rows.certCollectsSpec.pre enc Tryd.prog Tryd.f4 [] false w args ∧ laidMetH Tryd.prog Mx.laid2 w) ∧ sizedMet enc Tryd.prog Tryd.f4 (OpenSpec.ofChange Rows.certCollectsSpec) false w args)
      (Rows.certCollectsSpec.post enc Tryd.prog Tryd.f4 false true false false) := by
  refine returnsInHanded_of_change_and (C := Tryd.checked) (X := fun w _ => laidMetH Tryd.prog Mx.laid2 w) (fun _ _ _ hh h => h.of_heap hh) ownKnob_none started (by kernel_rfl) Tryd.func4
    (ChangeSpec.witness_shaped (enc := enc) (C := Tryd.checked) (os := os) (X := fun w _ => laidMetH Tryd.prog Mx.laid2 w) false (World.doorLaid Tryd.prog 400 os) #[.int .i64 0, .string ByteArray.empty, .string ByteArray.empty, .slice none 0 0] 8 rfl (World.shaped_of_RefB (by kernel_rfl) (by kernel_rfl)) (by kernel_rfl) (by kernel_rfl) (by kernel_rfl) (Mx.door_met os _)) ?_
  intro W base args ds gs before hval0 hW hcnd hsz0 hL _
  have hval : ∀ (j : Nat) t v, Tryd.f4.params[j]? = some t → args[j]? = some v → Value.okWide Tryd.prog W .any base t v := hval0
  have hsz : (DataW.weightsEach Tryd.prog (Tryd.f4.params.toList ++ Rows.certCollectsSpec.plain.varTypes Tryd.prog) (ds ++ gs)).all (· ≤ reachBytes) = true := hsz0
  have hW' := hW
  obtain ⟨p, q, hA0, hV, rfl, hfz, hnd⟩ := hW
  have hA : DataW.TrodAll enc Tryd.prog W 0 (fun _ => true) true Tryd.f4.params.toList args.toList ds p := hA0
  rw [Tryd.params4] at hA hval hsz
  obtain ⟨v0, vs0, d0, ds0, p0, q0, hargs, rfl, rfl, h0, r0⟩ := trodAll_cons hA
  obtain ⟨v1, vs1, d1, ds1, p1, q1, rfl, rfl, rfl, h1, r1⟩ := trodAll_cons r0
  obtain ⟨v2, vs2, d2, ds2, p2, q2, rfl, rfl, rfl, h2, r2⟩ := trodAll_cons r1
  obtain ⟨v3, vs3, d3, ds3, p3, q3, rfl, rfl, rfl, h3, r3⟩ := trodAll_cons r2
  obtain ⟨rfl, rfl, rfl⟩ := trodAll_nil r3
  obtain rfl : args = #[v0, v1, v2, v3] := by cases args; simp_all
  obtain ⟨rfl, rfl⟩ := trodVars_none hV
  have k0 := h0
  have lt0 : ∀ x ∈ p0, x.block < W.heap.size := by obtain ⟨m, hm⟩ := k0; exact DataW.trod_lt m _ _ _ hm
  obtain ⟨a0, rfl, hd0, hp0, w0⟩ := open_int Tryd.underlying3 (hval 0 3 v0 rfl rfl) h0
  have k1 := h1
  have lt1 : ∀ x ∈ p1, x.block < W.heap.size := by obtain ⟨m, hm⟩ := k1; exact DataW.trod_lt m _ _ _ hm
  obtain ⟨a1, rfl, hd1, hp1, w1⟩ := open_string Tryd.underlying9 (hval 1 9 v1 rfl rfl) h1
  have s1 : a1.size ≤ 140737488351232 := by
    have := sized_string hsz (j := 1) (t := 9) (bytes := a1.data.toList) rfl (by rw [hd1]; rfl)
    simpa [reachBytes] using this
  have k2 := h2
  have lt2 : ∀ x ∈ p2, x.block < W.heap.size := by obtain ⟨m, hm⟩ := k2; exact DataW.trod_lt m _ _ _ hm
  obtain ⟨a2, rfl, hd2, hp2, w2⟩ := open_string Tryd.underlying9 (hval 2 9 v2 rfl rfl) h2
  have s2 : a2.size ≤ 140737488351232 := by
    have := sized_string hsz (j := 2) (t := 9) (bytes := a2.data.toList) rfl (by rw [hd2]; rfl)
    simpa [reachBytes] using this
  have k3 := h3
  have lt3 : ∀ x ∈ p3, x.block < W.heap.size := by obtain ⟨m, hm⟩ := k3; exact DataW.trod_lt m _ _ _ hm
  obtain ⟨a3, len3, cap3, rfl⟩ := okWide_slice Tryd.underlying26 (hval 3 26 v3 rfl rfl)
  obtain ⟨l3, rfl, st3, sn3, sm3⟩ : ∃ l : List TagD, l.length = len3 ∧ RowAt tagK W a3 l ∧ (a3 = none → cap3 = 0) ∧ len3 ≤ maxLen := by
    obtain ⟨fuel, hf⟩ := h3
    obtain ⟨l, q1, q2, q3, q4, _⟩ := open_tagsK hf
    exact ⟨l, q1, q2, q3, q4⟩
  clear hA0 hval0 hsz0
  refine (certCollects_walk a0 a1 a2 a3 cap3 l3 W w0 s1 s2 st3 sn3 sm3 (Mx.of_laid hL)).mono fun e W' ⟨he, bel⟩ => ?_
  subst he
  exact ⟨_, rfl, _, _, _, [], _, [], hW', trodAll_mk1 (shut_bool Tryd.underlying4 _), (trodAll_cons_mk (Below.trod laidOut_true (by kernel_rfl) (of_decide_eq_true (by kernel_rfl)) k0 bel lt0) (trodAll_cons_mk (Below.trod laidOut_true (by kernel_rfl) (of_decide_eq_true (by kernel_rfl)) k1 bel lt1) (trodAll_cons_mk (Below.trod laidOut_true (by kernel_rfl) (of_decide_eq_true (by kernel_rfl)) k2 bel lt2) (trodAll_cons_mk (Below.trod laidOut_true (by kernel_rfl) (of_decide_eq_true (by kernel_rfl)) k3 bel lt3) trodAll_mk0)))), rfl, bel.frame _, fun h => by cases h⟩

theorem certCollects_holds : Rows.CertCollectsSaid :=
  OpenClaim.holds_of_wide 4 Tryd.f4 rfl rfl rfl rfl rfl rfl rfl ⟨rfl, rfl, rfl, rfl, rfl⟩ rfl rfl rfl rfl rfl (by kernel_rfl) Tryd.func4 (by kernel_rfl)
    (of_decide_eq_true (by kernel_rfl)) (by unfold Func.isWrapper; rw [if_neg (of_decide_eq_false (by kernel_rfl))]; exact ⟨rfl, rfl⟩)
    (fun os started H enc _ => certCollects_lifted os started H enc)

theorem certCollects_card : Rows.CertCollectsCardSaid :=
  Claim7.holds_tied_plain_at .later [] [.data, .data] true (true, "9bc01858be54a6f7b88abffa2cc2f115ecc2b533579eb6ab191bef2d768c1a51") false
    certCollects_holds (fun _ h => by cases h) (by kernel_rfl) (fun _ h => by cases h) certCollects_row_tie rfl ⟨rfl, rfl⟩ (by kernel_rfl) rfl
    (fun f fn hf hfn => by
      obtain rfl : f = 4 := Option.some.inj ((show Tryd.prog.funcNamed "tusk/tusklaw07.CertCollects" = some 4 by kernel_rfl).symm.trans hf) |>.symm
      obtain rfl : fn = Tryd.f4 := (Option.some.inj (Tryd.func4.symm.trans hfn)).symm
      exact ⟨by kernel_rfl, fun j t ht => by
        rw [Tryd.params4] at ht
        have hall : ∀ t ∈ (#[3, 9, 9, 26] : Array TypeId).toList, Tryd.prog.wantsStandIn t = false := by
          show ∀ t ∈ ([3, 9, 9, 26] : List TypeId), Tryd.prog.wantsStandIn t = false
          refine List.forall_mem_cons.2 ⟨by kernel_rfl, ?_⟩
          refine List.forall_mem_cons.2 ⟨by kernel_rfl, ?_⟩
          refine List.forall_mem_cons.2 ⟨by kernel_rfl, ?_⟩
          refine List.forall_mem_cons.2 ⟨by kernel_rfl, ?_⟩
          exact fun _ h => by cases h
        exact hall t (Array.mem_toList_iff.2 (Array.mem_of_getElem? ht))⟩)
    (by kernel_rfl)
end Go.Proofs.YtjebfkgigijnhaaDoor
