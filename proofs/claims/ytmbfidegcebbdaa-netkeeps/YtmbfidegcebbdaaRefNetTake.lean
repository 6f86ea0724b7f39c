/- What the calls of a bag do: the reference's Take. -/
import Derived.Test.YtmbfidegcebbdaaRefNet
import Derived.Test.YtmbfidegcebbdaaRegionLast
import Derived.BigQuiet
import Derived.BigRegion
import Derived.Deep.QuietTactic
import Derived.Deep.RegionHeld3
import Derived.Laws.ResultCell
import Derived.Test.YtmbfidegcebbdaaNetCopy
namespace Go.Proofs.Ytmbfidegcebbdaa
open Go.RowKit
set_option linter.unusedVariables false

set_option maxRecDepth 100000 in
set_option maxHeartbeats 2000000 in
theorem refTake_any (i : Int) (bb : Nat) (q : Value) (l : List EnvD) (lost : Nat) (w : World) (h : BagAt 28 w bb q l lost) :
    Calls Try.prog 10 #[.pointer (some ⟨bb, 0, none⟩), .int .i64 i] w fun e w' => ∃ q', e = .returned (.tuple #[(atE l i).v, .bool (atB l i)]) ∧ BagAt 28 w' bb q' (takeL l i) lost ∧ Fresh w q q' ∧ Kept (BagS bb q) w w' := by
  have hb1 := belowNew w (.cells #[.int .i64 0, .int .i64 0, .string ⟨#[]⟩] 30)
  have hA1 : Arr (w.alloc (.cells #[.int .i64 0, .int .i64 0, .string ⟨#[]⟩] 30)) w.heap.size 30 (envK.c env0) := Arr.new w 30 [.int .i64 0, .int .i64 0, .string ⟨#[]⟩]
  have h1 := h.below hb1
  have hs1 : (w.alloc (.cells #[.int .i64 0, .int .i64 0, .string ⟨#[]⟩] 30)).heap.size = w.heap.size + 1 := alloc_size _ _
  obtain ⟨w1, hw1⟩ : ∃ q, w.alloc (.cells #[.int .i64 0, .int .i64 0, .string ⟨#[]⟩] 30) = q := ⟨_, rfl⟩
  rw [hw1] at hb1 hA1 h1 hs1
  have cA := refAt_any i bb q l lost w1 h1
  obtain ⟨x, hx⟩ : ∃ x, Hid (atE l i = x) := ⟨_, rfl⟩
  obtain ⟨p, hp⟩ : ∃ p, Hid (atB l i = p) := ⟨_, rfl⟩
  rw [hx.out, hp.out] at cA ⊢
  unfold EnvD.v at cA
  have hs1' : Hid (w1.heap.size = w.heap.size + 1) := hs1
  clear hs1
  go_enter Try.func10, Try.ntmps10
  go_wp2_with fail
  refine cA.mono ?_
  rintro e w2 ⟨rfl, hb2⟩
  clear cA hw1
  have hA2 := hA1.below hb2 hA1.lt
  have h2 := h1.below hb2
  have hB2 := hb1.trans (hb2.mono hb1.size)
  have hsz : w.heap.size < w2.heap.size := by have := hb2.size; have := hs1'.out; omega
  clear hb1 hA1 h1 hb2 hs1'
  have hbF := belowNew w2 (.cells #[.int .i64 x.fr, .int .i64 x.to, .string x.by_] 30)
  have hYF : Arr (w2.alloc (.cells #[.int .i64 x.fr, .int .i64 x.to, .string x.by_] 30)) w2.heap.size 30 (envK.c x) := Arr.new w2 30 [.int .i64 x.fr, .int .i64 x.to, .string x.by_]
  have hAF := hA2.below hbF hA2.lt
  have hF := h2.below hbF
  have hBF := hB2.trans (hbF.mono hB2.size)
  have hne : ¬ w2.heap.size = w.heap.size := by omega
  have hbb : bb < w.heap.size := h.box.lt
  cases p with
  | false =>
    have c0 := hA2.cell (i := 0) rfl
    have c1 := hA2.cell (i := 1) rfl
    have c2 := hA2.cell (i := 2) rfl
    have f0 := hA2.frozen 0
    have f1 := hA2.frozen 1
    have f2 := hA2.frozen 2
    have hAG := (hA2.env x).alloc (.cells #[.int .i64 x.fr, .int .i64 x.to, .string x.by_] 30)
    have hKE := kept_env w2 w.heap.size x
    have hB4 := below_env hB2 (Nat.le_refl _) x
    have hBG := hB4.trans ((belowNew _ (.cells #[.int .i64 x.fr, .int .i64 x.to, .string x.by_] 30)).mono hB4.size)
    have hG := (h2.kept hKE (fun e => by have e' : bb = w.heap.size := e; omega) (fun k hk e => by have := (h.ge hk).2; have e' : k = w.heap.size := e; omega)).below (belowNew _ (.cells #[.int .i64 x.fr, .int .i64 x.to, .string x.by_] 30))
    clear hKE hB4
    clear hbF hA2 h2 hB2 hAF hF hBF hYF
    go_wp2
    refine bodyPost_ret (v := .tuple #[x.v, .bool false]) (results_env rfl _ _ w.heap.size x rfl hAG _ rfl) rfl ?_
    refine ⟨q, rfl, ?_, Fresh.refl _ _, Kept.of_below hBG⟩
    unfold takeL
    rw [hp.out]
    exact hG
  | true =>
    obtain ⟨j, rfl, hj, hxj⟩ := at_in hp.out
    have hT : Hid (takeL l (j : Int) = l.eraseIdx j) := by
      show takeL l (j : Int) = l.eraseIdx j
      unfold takeL
      rw [hp.out]
      rfl
    obtain ⟨ao, cap, rfl, hnil, _⟩ := h.form
    obtain ⟨g, pre, post, rfl, hg1, hg2, _, hlc, _, _⟩ := hF.row.opened (by omega)
    obtain ⟨i0, z0, hi0, hz0, hz1, hz2, hz3⟩ := envInfo
    have hRow0 := hF.row.row.rowAt rfl (fun _ _ => trivial)
    have hBS : ∀ k, w.heap.size ≤ k → ¬ BagS bb (.slice (some ⟨g, pre.length, none⟩) l.length cap) k := by
      rintro k hk (e | e)
      · omega
      · have := (h.ge e).2; omega
    have hfew := h.few
    have hBBF := hbF
    have hsz3 : w.heap.size < (w2.alloc (.cells #[.int .i64 x.fr, .int .i64 x.to, .string x.by_] 30)).heap.size := by have := hbF.size; omega
    go_wp2_with fail
    generalize World.alloc _ _ = w3 at hAF hF hBF hYF hBBF hg2 hRow0 hsz3 ⊢
    obtain ⟨n, hn⟩ : ∃ n, Hid (l.length = n) := ⟨_, rfl⟩
    obtain ⟨k, hk⟩ : ∃ k, Hid (j + 1 = k) := ⟨_, rfl⟩
    have hwr : IntKind.i64.wrap ((j : Int) + 1) = (k : Int) := by rw [← hk.out]; simp [IntKind.wrap, IntKind.bits, IntKind.signed]; omega
    have hjn : j < n := by have := hn.out; omega
    have hn256 : n ≤ 256 := by have := hn.out; omega
    rw [hn.out] at hlc
    have j0 : (0 : Int) ≤ (k : Int) := by omega
    have j1 : (j : Int) ≤ (n : Int) := by omega
    have j2 : (k : Int) ≤ (n : Int) := by have := hk.out; omega
    have j3 : (j : Int) ≤ (cap : Int) := by omega
    have j4 : (k : Int) ≤ (cap : Int) := by have := hk.out; omega
    have hc3 : ∀ w', Below w3.heap.size w3 w' → w'.cell? ⟨bb, 0, none⟩ = some (.slice (some ⟨g, pre.length, none⟩) n cap) := fun w' hb => by
      have := (hF.box.below hb hF.box.lt).cell (i := 0) rfl
      rw [hn.out] at this
      exact this
    have hrT := fun U (hb : Below w3.heap.size w3 U) => (hRow0.below hb).take j
    have hTl : (l.take j).length = j := by rw [List.length_take]; omega
    have hDl : (l.drop k).length = n - k := by rw [List.length_drop, hn.out]
    obtain ⟨N, hN⟩ : ∃ N, Hid (j + (n - k) = N) := ⟨_, rfl⟩
    have hEr : Hid (l.take j ++ l.drop k = l.eraseIdx j) := by
      show l.take j ++ l.drop k = _
      rw [← hk.out, List.eraseIdx_eq_take_drop_succ]
    have m1 : j ≤ maxLen := by unfold maxLen; omega
    have m2 : j * 32 ≤ 140737488355328 := by omega
    have m5 : N ≤ maxLen := by have := hN.out; unfold maxLen; omega
    have m6 : N * 32 ≤ 140737488355328 := by have := hN.out; omega
    have hNl : Hid (N = (l.eraseIdx j).length) := by
      show N = _
      rw [List.length_eraseIdx, if_pos hj, ← hN.out, hn.out, ← hk.out]
      omega
    have hbd : Below w3.heap.size w3 w3.drew := below_drewN (Below.refl _ w3) 1
    refine wp_region_K (fun w' => Below w3.heap.size w3 w') 19 (by kernel_rfl) ?_
    generalize w3.drew = w5 at hbd ⊢
    rcases (by by_cases hcp : cap = k; exact Or.inl hcp; exact Or.inr hcp : cap = k ∨ ¬ cap = k) with hcp | hcp
    · have hck := eq_true hcp
      have hdn : l.drop k = [] := List.drop_of_length_le (by have := hn.out; omega)
      have hrD : ∀ U, Below w3.heap.size w3 U → RowAt envK U (some ⟨g, pre.length, none⟩) (l.drop k) := fun U _ => by rw [hdn]; exact nil_row _ _
      clear hcp hdn
      refine wpAnyK_takeD (i := 0) (v := ?_) (some 15) rfl rfl (by kernel_rfl) (by kernel_rfl) (by kernel_rfl) (by kernel_rfl) (by decide) (fun _ _ _ h => h) (by assumption) (Or.inl ⟨by rfl, ?_⟩) ?_
      rotate_left 1
      · intro w' hSw
        have c3 := hc3 w' hSw
        go_simp
        first | done | with_reducible rfl
      simp only [Act.put, List.setIfInBounds_toArray, List.set_cons_zero, List.set_cons_succ]
      refine wpAnyK_takeD (i := 2) (v := ?_) (some 17) rfl rfl (by kernel_rfl) (by kernel_rfl) (by kernel_rfl) (by kernel_rfl) (by decide) (fun _ _ _ h => h) (by assumption) (Or.inl ⟨by rfl, ?_⟩) ?_
      rotate_left 1
      · intro w' hSw
        have c3 := hc3 w' hSw
        go_simp
        first | done | with_reducible rfl
      simp only [Act.put, List.setIfInBounds_toArray, List.set_cons_zero, List.set_cons_succ]
      refine wpAnyK_takeD (i := 3) (v := ?_) (some 18) rfl rfl (by kernel_rfl) (by kernel_rfl) (by kernel_rfl) (by kernel_rfl) (by decide) (fun _ _ _ h => h) (by assumption) (Or.inl ⟨by rfl, ?_⟩) ?_
      rotate_left 1
      · intro w' hSw
        have c3 := hc3 w' hSw
        go_simp
        first | done | with_reducible rfl
      simp only [Act.put, List.setIfInBounds_toArray, List.set_cons_zero, List.set_cons_succ]
      refine wpAnyK_takeD (i := 4) (v := ?_) (some 19) rfl rfl (by kernel_rfl) (by kernel_rfl) (by kernel_rfl) (by kernel_rfl) (by decide) (fun _ _ _ h => h) (by assumption) (Or.inl ⟨by rfl, ?_⟩) ?_
      rotate_left 1
      · intro w' hSw
        have c3 := hc3 w' hSw
        go_simp
        first | done | with_reducible rfl
      simp only [Act.put, List.setIfInBounds_toArray, List.set_cons_zero, List.set_cons_succ]
      refine wpAnyK_takeD (i := 5) (v := ?_) (some 20) rfl rfl (by kernel_rfl) (by kernel_rfl) (by kernel_rfl) (by kernel_rfl) (by decide) (fun _ _ _ h => h) (by assumption) (Or.inl ⟨by rfl, ?_⟩) ?_
      rotate_left 1
      · intro w' hSw
        have c3 := hc3 w' hSw
        go_simp
        first | done | with_reducible rfl
      simp only [Act.put, List.setIfInBounds_toArray, List.set_cons_zero, List.set_cons_succ]
      refine wpAnyK_takeD (i := 6) (v := ?_) (some 21) rfl rfl (by kernel_rfl) (by kernel_rfl) (by kernel_rfl) (by kernel_rfl) (by decide) (fun _ _ _ h => h) (by assumption) (Or.inl ⟨by rfl, ?_⟩) ?_
      rotate_left 1
      · intro w' hSw
        have c3 := hc3 w' hSw
        go_simp
        first | done | with_reducible rfl
      simp only [Act.put, List.setIfInBounds_toArray, List.set_cons_zero, List.set_cons_succ]
      refine wpAnyK_takeD (i := 7) (v := ?_) (some 22) rfl rfl (by kernel_rfl) (by kernel_rfl) (by kernel_rfl) (by kernel_rfl) (by decide) (fun _ _ _ h => h) (by assumption) (Or.inl ⟨by rfl, ?_⟩) ?_
      rotate_left 1
      · intro w' hSw
        have c3 := hc3 w' hSw
        go_simp
        first | done | with_reducible rfl
      simp only [Act.put, List.setIfInBounds_toArray, List.set_cons_zero, List.set_cons_succ]
      refine wpAnyK_takeD (i := 9) (v := ?_) (some 24) rfl rfl (by kernel_rfl) (by kernel_rfl) (by kernel_rfl) (by kernel_rfl) (by decide) (fun _ _ _ h => h) (by assumption) (Or.inl ⟨by rfl, ?_⟩) ?_
      rotate_left 1
      · intro w' hSw
        have c3 := hc3 w' hSw
        go_simp
        first | done | with_reducible rfl
      simp only [Act.put, List.setIfInBounds_toArray, List.set_cons_zero, List.set_cons_succ]
      refine wpAnyK_takeD (i := 10) (v := ?_) (some 25) rfl rfl (by kernel_rfl) (by kernel_rfl) (by kernel_rfl) (by kernel_rfl) (by decide) (fun _ _ _ h => h) (by assumption) (Or.inl ⟨by rfl, ?_⟩) ?_
      rotate_left 1
      · intro w' hSw
        have c3 := hc3 w' hSw
        go_simp
        first | done | with_reducible rfl
      simp only [Act.put, List.setIfInBounds_toArray, List.set_cons_zero, List.set_cons_succ]
      refine wpAnyK_takeD (i := 11) (v := ?_) (some 26) rfl rfl (by kernel_rfl) (by kernel_rfl) (by kernel_rfl) (by kernel_rfl) (by decide) (fun _ _ _ h => h) (by assumption) (Or.inl ⟨by rfl, ?_⟩) ?_
      rotate_left 1
      · intro w' hSw
        have c3 := hc3 w' hSw
        go_simp
        first | done | with_reducible rfl
      simp only [Act.put, List.setIfInBounds_toArray, List.set_cons_zero, List.set_cons_succ]
      refine wpAnyK_takeD (i := 12) (v := ?_) (some 27) rfl rfl (by kernel_rfl) (by kernel_rfl) (by kernel_rfl) (by kernel_rfl) (by decide) (fun _ _ _ h => h) (by assumption) (Or.inl ⟨by rfl, ?_⟩) ?_
      rotate_left 1
      · intro w' hSw
        have c3 := hc3 w' hSw
        go_simp
        first | done | with_reducible rfl
      simp only [Act.put, List.setIfInBounds_toArray, List.set_cons_zero, List.set_cons_succ]
      refine wpAnyK_takeD (i := 13) (v := ?_) (some 28) rfl rfl (by kernel_rfl) (by kernel_rfl) (by kernel_rfl) (by kernel_rfl) (by decide) (fun _ _ _ h => h) (by assumption) (Or.inl ⟨by rfl, ?_⟩) ?_
      rotate_left 1
      · intro w' hSw
        have c3 := hc3 w' hSw
        go_simp
        first | done | with_reducible rfl
      simp only [Act.put, List.setIfInBounds_toArray, List.set_cons_zero, List.set_cons_succ]
      refine wpAnyK_takeD (i := 14) (v := ?_) (some 29) rfl rfl (by kernel_rfl) (by kernel_rfl) (by kernel_rfl) (by kernel_rfl) (by decide) (fun _ _ _ h => h) (by assumption) (Or.inl ⟨by rfl, ?_⟩) ?_
      rotate_left 1
      · intro w' hSw
        have c3 := hc3 w' hSw
        go_simp
        first | done | with_reducible rfl
      simp only [Act.put, List.setIfInBounds_toArray, List.set_cons_zero, List.set_cons_succ]
      refine wpAnyK_takeD (i := 15) (v := ?_) (some 30) rfl rfl (by kernel_rfl) (by kernel_rfl) (by kernel_rfl) (by kernel_rfl) (by decide) (fun _ _ _ h => h) (by assumption) (Or.inl ⟨by rfl, ?_⟩) ?_
      rotate_left 1
      · intro w' hSw
        have c3 := hc3 w' hSw
        go_simp
        first | done | with_reducible rfl
      simp only [Act.put, List.setIfInBounds_toArray, List.set_cons_zero, List.set_cons_succ]
      refine wpAnyK_ready (rs := [1]) (by kernel_rfl) (by simp) ?_
      refine AllReadyK.cons rfl (fun K' hK => ?_) AllReadyK.nil
      go_simp
      have bw6 := hbd.trans ((belowNew w5 (.cells #[] 30)).mono hbd.size)
      have hOw6 : (w5.alloc (.cells #[] 30)).ownsRow w3.heap.size 30 envK.n (.slice (some ⟨w5.heap.size, 0, none⟩) 0 0) 0 [] := World.ownsRow_made w5 #[] 0 hbd.size (by unfold maxLen; omega) (by simp)
      obtain ⟨w6, hw6⟩ : ∃ q, w5.alloc (.cells #[] 30) = q := ⟨_, rfl⟩
      rw [hw6] at bw6 hOw6 ⊢
      refine hK.out _ _ (fun _ => bw6) ?_
      clear hK K' hw6
      refine wpAnyK_ready (rs := [8]) (by kernel_rfl) (by simp) ?_
      refine AllReadyK.consD (some 23) rfl rfl (fun K' hK => ?_) AllReadyK.nil
      refine step_ownR (K := envK) w6 (by rfl) _ _ 26 (by rfl) w3.heap.size 30 i0 _ 32 Try.underlying26 hi0 hz0 hz1 hz2 hz3 _ _ _ _ _ (by rfl) hOw6 _ _ _ hTl (Nat.zero_add _) (by rfl) (hrT _ bw6) (fun h => by cases h) m1 m2 bw6.size ?_
      intro aw7 cw7 w7 hOw7 hkw7
      have bw7 := bw6.trans (Kept.below hkw7 bw6.size (fun k hk => (hOw6.lt k hk).1))
      refine hK.out _ _ (fun _ => bw7) ?_
      clear hK K' hkw7
      simp only [Act.put, List.setIfInBounds_toArray, List.set_cons_zero, List.set_cons_succ]
      refine wpAnyK_ready (rs := [16]) (by kernel_rfl) (by simp) ?_
      refine AllReadyK.consD (some 31) rfl rfl (fun K' hK => ?_) AllReadyK.nil
      refine step_ownR (K := envK) w7 (by rfl) _ _ 26 (by rfl) w3.heap.size 30 i0 _ 32 Try.underlying26 hi0 hz0 hz1 hz2 hz3 _ _ _ _ _ (by rfl) hOw7 _ _ _ hDl hN.out (by rfl) (hrD _ bw7) (fun h => by cases h) m5 m6 bw7.size ?_
      intro aw8 cw8 w8 hOw8 hkw8
      have bw8 := bw7.trans (Kept.below hkw8 bw7.size (fun k hk => (hOw7.lt k hk).1))
      refine hK.out _ _ (fun _ => bw8) ?_
      clear hK K' hkw8
      simp only [Act.put, List.setIfInBounds_toArray, List.set_cons_zero, List.set_cons_succ]
      refine wpAnyK_ready (rs := [17]) (by kernel_rfl) (by simp) ?_
      refine AllReadyK.cons rfl (fun K' hK => ?_) AllReadyK.nil
      go_simp
      refine hK.out _ _ (fun _ => bw8) ?_
      clear hK K'
      refine wpAnyK_ready (rs := [18]) (by kernel_rfl) (by simp) ?_
      refine AllReadyK.cons rfl (fun K' hK => ?_) AllReadyK.nil
      go_simp
      refine hK.out _ _ (fun _ => bw8) ?_
      clear hK K'
      refine wpAnyK_ready (rs := [19]) (by kernel_rfl) (by simp) ?_
      refine AllReadyK.cons rfl (fun K' hK => ?_) AllReadyK.nil
      have c3 := hc3 w8 bw8
      have f3 := (hF.box.below bw8 hF.box.lt).frozen 0
      go_simp
      obtain ⟨hC, hFr0, hKC0⟩ := hF.taken hj bw8 hOw8 hEr.out hNl.out
      refine hK.out _ _ (fun h => absurd rfl h) ?_
      clear hK K' c3 f3
      refine wpAnyK_done (by kernel_rfl) ?_ _
      have hAC := hAF.kept hKC0 (hBS _ (Nat.le_refl _))
      have hYC := hYF.kept hKC0 (hBS _ (by omega))
      have hKC := (Kept.of_below hBF).trans hKC0
      have hFC : Fresh w (.slice (some ⟨g, pre.length, none⟩) l.length cap) (.slice aw8 N cw8) := fun k hk => Or.inr (by have := hFr0 k hk; have := hBF.size; omega)
      have hCn : ∀ k, (Value.slice aw8 N cw8).ownBlock = some k → ¬ k = w.heap.size := fun k hk e => by
        have := hFr0 k hk
        omega
      generalize w8.setCell _ _ = wC at hC hKC hAC hYC ⊢
      clear hFr0 hKC0 hbd bw6 hOw6 bw7 hOw7 bw8 hOw8 hrD hrT hc3 hRow0
      have hAG := hAC.env x
      have hKG := hKC.transNew (kept_env wC w.heap.size x) (fun k e => by have e' : k = w.heap.size := e; omega)
      have hG := hC.kept (kept_env wC w.heap.size x) (fun e => by have e' : bb = w.heap.size := e; omega) (fun k hk e => by have e' : k = w.heap.size := e; exact hCn k hk e')
      have c0 := hAC.cell (i := 0) rfl
      have c1 := hAC.cell (i := 1) rfl
      have c2 := hAC.cell (i := 2) rfl
      have f0 := hAC.frozen 0
      have f1 := hAC.frozen 1
      have f2 := hAC.frozen 2
      have d0 := hYC.cell (i := 0) rfl
      have d1 := hYC.cell (i := 1) rfl
      have d2 := hYC.cell (i := 2) rfl
      clear hC hKC hCn hAC hYC
      go_wp2
      refine bodyPost_ret (v := .tuple #[x.v, .bool true]) (results_env rfl _ _ w.heap.size x rfl hAG _ rfl) rfl ?_
      refine ⟨_, rfl, ?_, hFC, hKG⟩
      rw [hT.out]
      exact hG
    · have hck := eq_false hcp
      have hrD := fun U (hb : Below w3.heap.size w3 U) => (hRow0.below hb).dropE k
      clear hcp
      refine wpAnyK_takeD (i := 0) (v := ?_) (some 15) rfl rfl (by kernel_rfl) (by kernel_rfl) (by kernel_rfl) (by kernel_rfl) (by decide) (fun _ _ _ h => h) (by assumption) (Or.inl ⟨by rfl, ?_⟩) ?_
      rotate_left 1
      · intro w' hSw
        have c3 := hc3 w' hSw
        go_simp
        first | done | with_reducible rfl
      simp only [Act.put, List.setIfInBounds_toArray, List.set_cons_zero, List.set_cons_succ]
      refine wpAnyK_takeD (i := 2) (v := ?_) (some 17) rfl rfl (by kernel_rfl) (by kernel_rfl) (by kernel_rfl) (by kernel_rfl) (by decide) (fun _ _ _ h => h) (by assumption) (Or.inl ⟨by rfl, ?_⟩) ?_
      rotate_left 1
      · intro w' hSw
        have c3 := hc3 w' hSw
        go_simp
        first | done | with_reducible rfl
      simp only [Act.put, List.setIfInBounds_toArray, List.set_cons_zero, List.set_cons_succ]
      refine wpAnyK_takeD (i := 3) (v := ?_) (some 18) rfl rfl (by kernel_rfl) (by kernel_rfl) (by kernel_rfl) (by kernel_rfl) (by decide) (fun _ _ _ h => h) (by assumption) (Or.inl ⟨by rfl, ?_⟩) ?_
      rotate_left 1
      · intro w' hSw
        have c3 := hc3 w' hSw
        go_simp
        first | done | with_reducible rfl
      simp only [Act.put, List.setIfInBounds_toArray, List.set_cons_zero, List.set_cons_succ]
      refine wpAnyK_takeD (i := 4) (v := ?_) (some 19) rfl rfl (by kernel_rfl) (by kernel_rfl) (by kernel_rfl) (by kernel_rfl) (by decide) (fun _ _ _ h => h) (by assumption) (Or.inl ⟨by rfl, ?_⟩) ?_
      rotate_left 1
      · intro w' hSw
        have c3 := hc3 w' hSw
        go_simp
        first | done | with_reducible rfl
      simp only [Act.put, List.setIfInBounds_toArray, List.set_cons_zero, List.set_cons_succ]
      refine wpAnyK_takeD (i := 5) (v := ?_) (some 20) rfl rfl (by kernel_rfl) (by kernel_rfl) (by kernel_rfl) (by kernel_rfl) (by decide) (fun _ _ _ h => h) (by assumption) (Or.inl ⟨by rfl, ?_⟩) ?_
      rotate_left 1
      · intro w' hSw
        have c3 := hc3 w' hSw
        go_simp
        first | done | with_reducible rfl
      simp only [Act.put, List.setIfInBounds_toArray, List.set_cons_zero, List.set_cons_succ]
      refine wpAnyK_takeD (i := 6) (v := ?_) (some 21) rfl rfl (by kernel_rfl) (by kernel_rfl) (by kernel_rfl) (by kernel_rfl) (by decide) (fun _ _ _ h => h) (by assumption) (Or.inl ⟨by rfl, ?_⟩) ?_
      rotate_left 1
      · intro w' hSw
        have c3 := hc3 w' hSw
        go_simp
        first | done | with_reducible rfl
      simp only [Act.put, List.setIfInBounds_toArray, List.set_cons_zero, List.set_cons_succ]
      refine wpAnyK_takeD (i := 7) (v := ?_) (some 22) rfl rfl (by kernel_rfl) (by kernel_rfl) (by kernel_rfl) (by kernel_rfl) (by decide) (fun _ _ _ h => h) (by assumption) (Or.inl ⟨by rfl, ?_⟩) ?_
      rotate_left 1
      · intro w' hSw
        have c3 := hc3 w' hSw
        go_simp
        first | done | with_reducible rfl
      simp only [Act.put, List.setIfInBounds_toArray, List.set_cons_zero, List.set_cons_succ]
      refine wpAnyK_takeD (i := 9) (v := ?_) (some 24) rfl rfl (by kernel_rfl) (by kernel_rfl) (by kernel_rfl) (by kernel_rfl) (by decide) (fun _ _ _ h => h) (by assumption) (Or.inl ⟨by rfl, ?_⟩) ?_
      rotate_left 1
      · intro w' hSw
        have c3 := hc3 w' hSw
        go_simp
        first | done | with_reducible rfl
      simp only [Act.put, List.setIfInBounds_toArray, List.set_cons_zero, List.set_cons_succ]
      refine wpAnyK_takeD (i := 10) (v := ?_) (some 25) rfl rfl (by kernel_rfl) (by kernel_rfl) (by kernel_rfl) (by kernel_rfl) (by decide) (fun _ _ _ h => h) (by assumption) (Or.inl ⟨by rfl, ?_⟩) ?_
      rotate_left 1
      · intro w' hSw
        have c3 := hc3 w' hSw
        go_simp
        first | done | with_reducible rfl
      simp only [Act.put, List.setIfInBounds_toArray, List.set_cons_zero, List.set_cons_succ]
      refine wpAnyK_takeD (i := 11) (v := ?_) (some 26) rfl rfl (by kernel_rfl) (by kernel_rfl) (by kernel_rfl) (by kernel_rfl) (by decide) (fun _ _ _ h => h) (by assumption) (Or.inl ⟨by rfl, ?_⟩) ?_
      rotate_left 1
      · intro w' hSw
        have c3 := hc3 w' hSw
        go_simp
        first | done | with_reducible rfl
      simp only [Act.put, List.setIfInBounds_toArray, List.set_cons_zero, List.set_cons_succ]
      refine wpAnyK_takeD (i := 12) (v := ?_) (some 27) rfl rfl (by kernel_rfl) (by kernel_rfl) (by kernel_rfl) (by kernel_rfl) (by decide) (fun _ _ _ h => h) (by assumption) (Or.inl ⟨by rfl, ?_⟩) ?_
      rotate_left 1
      · intro w' hSw
        have c3 := hc3 w' hSw
        go_simp
        first | done | with_reducible rfl
      simp only [Act.put, List.setIfInBounds_toArray, List.set_cons_zero, List.set_cons_succ]
      refine wpAnyK_takeD (i := 13) (v := ?_) (some 28) rfl rfl (by kernel_rfl) (by kernel_rfl) (by kernel_rfl) (by kernel_rfl) (by decide) (fun _ _ _ h => h) (by assumption) (Or.inl ⟨by rfl, ?_⟩) ?_
      rotate_left 1
      · intro w' hSw
        have c3 := hc3 w' hSw
        go_simp
        first | done | with_reducible rfl
      simp only [Act.put, List.setIfInBounds_toArray, List.set_cons_zero, List.set_cons_succ]
      refine wpAnyK_takeD (i := 14) (v := ?_) (some 29) rfl rfl (by kernel_rfl) (by kernel_rfl) (by kernel_rfl) (by kernel_rfl) (by decide) (fun _ _ _ h => h) (by assumption) (Or.inl ⟨by rfl, ?_⟩) ?_
      rotate_left 1
      · intro w' hSw
        have c3 := hc3 w' hSw
        go_simp
        first | done | with_reducible rfl
      simp only [Act.put, List.setIfInBounds_toArray, List.set_cons_zero, List.set_cons_succ]
      refine wpAnyK_takeD (i := 15) (v := ?_) (some 30) rfl rfl (by kernel_rfl) (by kernel_rfl) (by kernel_rfl) (by kernel_rfl) (by decide) (fun _ _ _ h => h) (by assumption) (Or.inl ⟨by rfl, ?_⟩) ?_
      rotate_left 1
      · intro w' hSw
        have c3 := hc3 w' hSw
        go_simp
        first | done | with_reducible rfl
      simp only [Act.put, List.setIfInBounds_toArray, List.set_cons_zero, List.set_cons_succ]
      refine wpAnyK_ready (rs := [1]) (by kernel_rfl) (by simp) ?_
      refine AllReadyK.cons rfl (fun K' hK => ?_) AllReadyK.nil
      go_simp
      have bw6 := hbd.trans ((belowNew w5 (.cells #[] 30)).mono hbd.size)
      have hOw6 : (w5.alloc (.cells #[] 30)).ownsRow w3.heap.size 30 envK.n (.slice (some ⟨w5.heap.size, 0, none⟩) 0 0) 0 [] := World.ownsRow_made w5 #[] 0 hbd.size (by unfold maxLen; omega) (by simp)
      obtain ⟨w6, hw6⟩ : ∃ q, w5.alloc (.cells #[] 30) = q := ⟨_, rfl⟩
      rw [hw6] at bw6 hOw6 ⊢
      refine hK.out _ _ (fun _ => bw6) ?_
      clear hK K' hw6
      refine wpAnyK_ready (rs := [8]) (by kernel_rfl) (by simp) ?_
      refine AllReadyK.consD (some 23) rfl rfl (fun K' hK => ?_) AllReadyK.nil
      refine step_ownR (K := envK) w6 (by rfl) _ _ 26 (by rfl) w3.heap.size 30 i0 _ 32 Try.underlying26 hi0 hz0 hz1 hz2 hz3 _ _ _ _ _ (by rfl) hOw6 _ _ _ hTl (Nat.zero_add _) (by rfl) (hrT _ bw6) (fun h => by cases h) m1 m2 bw6.size ?_
      intro aw7 cw7 w7 hOw7 hkw7
      have bw7 := bw6.trans (Kept.below hkw7 bw6.size (fun k hk => (hOw6.lt k hk).1))
      refine hK.out _ _ (fun _ => bw7) ?_
      clear hK K' hkw7
      simp only [Act.put, List.setIfInBounds_toArray, List.set_cons_zero, List.set_cons_succ]
      refine wpAnyK_ready (rs := [16]) (by kernel_rfl) (by simp) ?_
      refine AllReadyK.consD (some 31) rfl rfl (fun K' hK => ?_) AllReadyK.nil
      refine step_ownR (K := envK) w7 (by rfl) _ _ 26 (by rfl) w3.heap.size 30 i0 _ 32 Try.underlying26 hi0 hz0 hz1 hz2 hz3 _ _ _ _ _ (by rfl) hOw7 _ _ _ hDl hN.out (by rfl) (hrD _ bw7) (fun h => by cases h) m5 m6 bw7.size ?_
      intro aw8 cw8 w8 hOw8 hkw8
      have bw8 := bw7.trans (Kept.below hkw8 bw7.size (fun k hk => (hOw7.lt k hk).1))
      refine hK.out _ _ (fun _ => bw8) ?_
      clear hK K' hkw8
      simp only [Act.put, List.setIfInBounds_toArray, List.set_cons_zero, List.set_cons_succ]
      refine wpAnyK_ready (rs := [17]) (by kernel_rfl) (by simp) ?_
      refine AllReadyK.cons rfl (fun K' hK => ?_) AllReadyK.nil
      go_simp
      refine hK.out _ _ (fun _ => bw8) ?_
      clear hK K'
      refine wpAnyK_ready (rs := [18]) (by kernel_rfl) (by simp) ?_
      refine AllReadyK.cons rfl (fun K' hK => ?_) AllReadyK.nil
      go_simp
      refine hK.out _ _ (fun _ => bw8) ?_
      clear hK K'
      refine wpAnyK_ready (rs := [19]) (by kernel_rfl) (by simp) ?_
      refine AllReadyK.cons rfl (fun K' hK => ?_) AllReadyK.nil
      have c3 := hc3 w8 bw8
      have f3 := (hF.box.below bw8 hF.box.lt).frozen 0
      go_simp
      obtain ⟨hC, hFr0, hKC0⟩ := hF.taken hj bw8 hOw8 hEr.out hNl.out
      refine hK.out _ _ (fun h => absurd rfl h) ?_
      clear hK K' c3 f3
      refine wpAnyK_done (by kernel_rfl) ?_ _
      have hAC := hAF.kept hKC0 (hBS _ (Nat.le_refl _))
      have hYC := hYF.kept hKC0 (hBS _ (by omega))
      have hKC := (Kept.of_below hBF).trans hKC0
      have hFC : Fresh w (.slice (some ⟨g, pre.length, none⟩) l.length cap) (.slice aw8 N cw8) := fun k hk => Or.inr (by have := hFr0 k hk; have := hBF.size; omega)
      have hCn : ∀ k, (Value.slice aw8 N cw8).ownBlock = some k → ¬ k = w.heap.size := fun k hk e => by
        have := hFr0 k hk
        omega
      generalize w8.setCell _ _ = wC at hC hKC hAC hYC ⊢
      clear hFr0 hKC0 hbd bw6 hOw6 bw7 hOw7 bw8 hOw8 hrD hrT hc3 hRow0
      have hAG := hAC.env x
      have hKG := hKC.transNew (kept_env wC w.heap.size x) (fun k e => by have e' : k = w.heap.size := e; omega)
      have hG := hC.kept (kept_env wC w.heap.size x) (fun e => by have e' : bb = w.heap.size := e; omega) (fun k hk e => by have e' : k = w.heap.size := e; exact hCn k hk e')
      have c0 := hAC.cell (i := 0) rfl
      have c1 := hAC.cell (i := 1) rfl
      have c2 := hAC.cell (i := 2) rfl
      have f0 := hAC.frozen 0
      have f1 := hAC.frozen 1
      have f2 := hAC.frozen 2
      have d0 := hYC.cell (i := 0) rfl
      have d1 := hYC.cell (i := 1) rfl
      have d2 := hYC.cell (i := 2) rfl
      clear hC hKC hCn hAC hYC
      go_wp2
      refine bodyPost_ret (v := .tuple #[x.v, .bool true]) (results_env rfl _ _ w.heap.size x rfl hAG _ rfl) rfl ?_
      refine ⟨_, rfl, ?_, hFC, hKG⟩
      rw [hT.out]
      exact hG


end Go.Proofs.Ytmbfidegcebbdaa
