/- How a bag is closed up, and what Take does. -/
import Derived.Test.YtmbfidegcebbdaaNetFns
import Derived.Test.YtmbfidegcebbdaaNetCopy
namespace Go.Proofs.Ytmbfidegcebbdaa
open Go.RowKit
set_option linter.unusedVariables false

theorem kept_four {S : Nat → Prop} {w w3 : World} {g b : Nat} (h : Kept S w w3) (hg : S g) (hb : S b) (o1 o2 o3 : Nat) (v1 v2 v3 v4 : Value) : Kept S w ((((w3.setCell ⟨g, o1, none⟩ v1).setCell ⟨g, o2, none⟩ v2).setCell ⟨g, o3, none⟩ v3).setCell ⟨b, 0, none⟩ v4) :=
  (((h.set (p := ⟨g, o1, none⟩) hg v1).set (p := ⟨g, o2, none⟩) hg v2).set (p := ⟨g, o3, none⟩) hg v3).set (p := ⟨b, 0, none⟩) hb v4

/-- Behind the last store. -/
theorem BagAt.closed {T : TypeId} {w : World} {bb : Nat} {ao : Option Addr} {n cap : Nat} {l : List EnvD} {lost i : Nat} (hi : i < l.length) (h : BagAt T w bb (.slice ao n cap) ((shiftL l i).set (l.length - 1) env0) lost) :
    BagAt T (w.setCell ⟨bb, 0, none⟩ (.slice ao (l.length - 1) cap)) bb (.slice ao (l.length - 1) cap) (l.eraseIdx i) lost := by
  have hl := shift_len hi
  have hfew := h.few
  rw [List.length_set, hl] at hfew
  have hq := h.row.front (l.length - 1) (by rw [List.length_set, hl]; omega)
  rw [List.take_set_of_le (Nat.le_refl _), shift_take hi] at hq
  have hst := Kept.setCell w ⟨bb, 0, none⟩ (.slice ao (l.length - 1) cap)
  refine ⟨h.box.set 0 _, hq.kept hst (fun k hk e => ?_) (fun _ _ _ h => h.elim), ?_⟩
  · have := (hq.lt k hk).1
    have e' : k = bb := e
    omega
  · rw [List.length_eraseIdx, if_pos hi]
    omega

set_option maxRecDepth 100000 in
set_option maxHeartbeats 2000000 in
theorem close_any (i : Nat) (bb : Nat) (q : Value) (l : List EnvD) (lost : Nat) (w : World) (h : BagAt 46 w bb q l lost) (hi : i < l.length) :
    Calls Try.prog 18 #[.pointer (some ⟨bb, 0, none⟩), .int .i64 (i : Int)] w fun e w' => ∃ q', e = .returned (.tuple #[]) ∧ BagAt 46 w' bb q' (l.eraseIdx i) lost ∧ Fresh w q q' ∧ Kept (BagS bb q) w w' := by
  obtain ⟨i0, z0, hi0, hz0, hz1, hz2, hz3⟩ := envInfo
  obtain ⟨ao, cap, rfl, hnil, _⟩ := h.form
  obtain ⟨g, pre, post, rfl, hg1, hg2, _, hlc, hArr, hshut⟩ := h.row.opened (by omega)
  have hfew := h.few
  have c0 := h.box.cell (i := 0) rfl
  have hcut := shift_cells hi pre post
  have hRow := (h.row.row.rowAt rfl (fun _ _ => trivial)).dropE (i + 1)
  obtain ⟨n, hn⟩ : ∃ n, Hid (l.length = n) := ⟨_, rfl⟩
  rw [hn.out] at c0 hlc
  have hin : i < n := by have := hn.out; omega
  have hn256 : n ≤ 256 := by have := hn.out; omega
  have j1 : (i : Int) ≤ (n : Int) := by omega
  obtain ⟨k, hk⟩ : ∃ k, Hid (i + 1 = k) := ⟨_, rfl⟩
  have hwr : IntKind.i64.wrap ((i : Int) + 1) = (k : Int) := by rw [← hk.out]; simp [IntKind.wrap, IntKind.bits, IntKind.signed]; omega
  rw [hk.out] at hcut hRow
  have j0 : (0 : Int) ≤ (k : Int) := by omega
  have j2 : (k : Int) ≤ (n : Int) := by have := hk.out; omega
  have j3 : (i : Int) ≤ (cap : Int) := by omega
  have j4 : (k : Int) ≤ (cap : Int) := by have := hk.out; omega
  have hci : (cap = i) = False := by simp; omega
  have hmm : Nat.min (n - k) (n - i) = n - k := by have := hk.out; simp only [Nat.min_def]; split <;> omega
  have hA' : Arr w.drew g 30 (pre ++ flatK envK l ++ post) := hArr
  have hfl : (flatK envK (l.drop k)).length = (n - k) * 3 := by rw [flatK_length, List.length_drop, hn.out]; rfl
  have hfit : pre.length + i * 3 + (flatK envK (l.drop k)).length ≤ (pre ++ flatK envK l ++ post).length := by
    have n3 : envK.n = 3 := rfl
    have := hk.out
    rw [hfl, List.length_append, List.length_append, flatK_length, n3, hn.out]
    omega
  have hone := flatK_one envK (l.drop k)
  obtain ⟨m, hm⟩ : ∃ m, Hid (l.length - 1 = m) := ⟨_, rfl⟩
  have hlast : IntKind.i64.wrap ((i : Int) + ((n - k : Nat) : Int)) = (m : Int) := by have := hk.out; have := hm.out; have := hn.out; simp [IntKind.wrap, IntKind.bits, IntKind.signed]; omega
  have hmn : (m : Int) < (n : Int) := by have := hm.out; have := hn.out; omega
  have hmn' : (m : Int) ≤ (cap : Int) := by omega
  have hmn2 : (m : Int) ≤ (n : Int) := by omega
  rcases (by by_cases hcp : cap = k; exact Or.inl hcp; exact Or.inr hcp : cap = k ∨ ¬ cap = k) with hcp | hcp
  · have hck := eq_true hcp
    have hpos : Hid (0 < n - k → ∃ ad, (some (⟨g, pre.length, none⟩ : Addr)) = some ad ∧ ∀ j v, (flatK envK (l.drop k))[j]? = some v → w.drew.cell? (ad.add j) = some v) := by intro h0; omega
    clear hcp
    go_enter Try.func18, Try.ntmps18
    go_wp2_with fail
    go_region_law (first
      | (refine step_copyN _ (by rfl) _ _ 26 26 (by rfl) 30 i0 3 Try.underlying26 hi0 hz1 _ _ _ _ _ _ (n - k) (by rfl) (by rfl) hmm g (pre.length + i * 3) 30 _ hA' (flatK envK (l.drop k)) hfl (fun h0 => ⟨rfl, hpos.out h0⟩) hfit hone ?_; intro w3 hA3 hk3))
    all_goals
      have hB0 : BagAt 46 w.drew bb (.slice (some ⟨g, pre.length, none⟩) l.length cap) l lost := h.below (below_drewN (Below.refl _ w) 1)
      have hB3 : BagAt 46 w3 bb (.slice (some ⟨g, pre.length, none⟩) l.length cap) (shiftL l i) lost := ⟨hB0.box.kept hk3 (fun e => by have e' : bb = g := e; omega), hshut w3 _ (shift_len hi) (by rw [← hcut]; exact hA3.out), by rw [shift_len hi]; exact hfew⟩
      have hK3 : Kept (BagS bb (.slice (some ⟨g, pre.length, none⟩) l.length cap)) w w3 := (Kept.of_below (below_drewN (Below.refl _ w) 1)).trans (hk3.mono (fun k' _ e => Or.inr (by have e' : k' = g := e; rw [e']; rfl)))
      obtain ⟨y, hy⟩ : ∃ y, (shiftL l i)[l.length - 1]? = some y := ⟨_, List.getElem?_eq_getElem (by rw [shift_len hi]; omega)⟩
      obtain ⟨g', off', e, _, hfz, y0, y1, y2, hOv⟩ := hB3.over hy env0
      simp only [Option.some.injEq, Addr.mk.injEq, and_true] at e
      obtain ⟨rfl, rfl⟩ := e
      have hF := hOv.closed hi
      have hKF : Kept (BagS bb (.slice (some ⟨g, pre.length, none⟩) l.length cap)) w ((((w3.setCell ⟨g, pre.length + (l.length - 1) * 3, none⟩ (.int .i64 env0.fr)).setCell ⟨g, pre.length + (l.length - 1) * 3 + 1, none⟩ (.int .i64 env0.to)).setCell ⟨g, pre.length + (l.length - 1) * 3 + 2, none⟩ (.string env0.by_)).setCell ⟨bb, 0, none⟩ (.slice (some ⟨g, pre.length, none⟩) (l.length - 1) cap)) :=
        kept_four hK3 (Or.inr rfl) (Or.inl rfl) _ _ _ _ _ _ _
      have d0 := hB3.box.cell (i := 0) rfl
      have f0 := hB3.box.frozen 0
      have z0 := hfz (pre.length + (l.length - 1) * 3)
      have z1 := hfz (pre.length + (l.length - 1) * 3 + 1)
      have z2 := hfz (pre.length + (l.length - 1) * 3 + 2)
      have hne : ¬ bb = g := by omega
      have hfr : Fresh w (.slice (some ⟨g, pre.length, none⟩) l.length cap) (.slice (some ⟨g, pre.length, none⟩) (l.length - 1) cap) := fun k' hk' => Or.inl hk'
      rw [hm.out] at y0 y1 y2 z0 z1 z2 hF hKF hfr
      rw [hn.out] at d0
      clear hOv hB3 hB0 hK3 hk3 hA3 hpos hfz hy hshut hcut hRow hA' hArr hfl hfit hone c0 hlc hck hci j0 j1 j2 j3 j4 hmm hwr hk hnil
      go_wp2
      first | go_end0 | refine bodyPost_ret (results_none rfl _ _ _) rfl ?_
      exact ⟨_, rfl, hF, hfr, hKF⟩
  · have hck := eq_false hcp
    have hpos : Hid (0 < n - k → ∃ ad, (some (⟨g, pre.length + k * 3, none⟩ : Addr)) = some ad ∧ ∀ j v, (flatK envK (l.drop k))[j]? = some v → w.drew.cell? (ad.add j) = some v) := fun _ => ⟨_, rfl, fun j v hv => hRow.news j v hv⟩
    clear hcp
    go_enter Try.func18, Try.ntmps18
    go_wp2_with fail
    go_region_law (first
      | (refine step_copyN _ (by rfl) _ _ 26 26 (by rfl) 30 i0 3 Try.underlying26 hi0 hz1 _ _ _ _ _ _ (n - k) (by rfl) (by rfl) hmm g (pre.length + i * 3) 30 _ hA' (flatK envK (l.drop k)) hfl (fun h0 => ⟨rfl, hpos.out h0⟩) hfit hone ?_; intro w3 hA3 hk3))
    all_goals
      have hB0 : BagAt 46 w.drew bb (.slice (some ⟨g, pre.length, none⟩) l.length cap) l lost := h.below (below_drewN (Below.refl _ w) 1)
      have hB3 : BagAt 46 w3 bb (.slice (some ⟨g, pre.length, none⟩) l.length cap) (shiftL l i) lost := ⟨hB0.box.kept hk3 (fun e => by have e' : bb = g := e; omega), hshut w3 _ (shift_len hi) (by rw [← hcut]; exact hA3.out), by rw [shift_len hi]; exact hfew⟩
      have hK3 : Kept (BagS bb (.slice (some ⟨g, pre.length, none⟩) l.length cap)) w w3 := (Kept.of_below (below_drewN (Below.refl _ w) 1)).trans (hk3.mono (fun k' _ e => Or.inr (by have e' : k' = g := e; rw [e']; rfl)))
      obtain ⟨y, hy⟩ : ∃ y, (shiftL l i)[l.length - 1]? = some y := ⟨_, List.getElem?_eq_getElem (by rw [shift_len hi]; omega)⟩
      obtain ⟨g', off', e, _, hfz, y0, y1, y2, hOv⟩ := hB3.over hy env0
      simp only [Option.some.injEq, Addr.mk.injEq, and_true] at e
      obtain ⟨rfl, rfl⟩ := e
      have hF := hOv.closed hi
      have hKF : Kept (BagS bb (.slice (some ⟨g, pre.length, none⟩) l.length cap)) w ((((w3.setCell ⟨g, pre.length + (l.length - 1) * 3, none⟩ (.int .i64 env0.fr)).setCell ⟨g, pre.length + (l.length - 1) * 3 + 1, none⟩ (.int .i64 env0.to)).setCell ⟨g, pre.length + (l.length - 1) * 3 + 2, none⟩ (.string env0.by_)).setCell ⟨bb, 0, none⟩ (.slice (some ⟨g, pre.length, none⟩) (l.length - 1) cap)) :=
        kept_four hK3 (Or.inr rfl) (Or.inl rfl) _ _ _ _ _ _ _
      have d0 := hB3.box.cell (i := 0) rfl
      have f0 := hB3.box.frozen 0
      have z0 := hfz (pre.length + (l.length - 1) * 3)
      have z1 := hfz (pre.length + (l.length - 1) * 3 + 1)
      have z2 := hfz (pre.length + (l.length - 1) * 3 + 2)
      have hne : ¬ bb = g := by omega
      have hfr : Fresh w (.slice (some ⟨g, pre.length, none⟩) l.length cap) (.slice (some ⟨g, pre.length, none⟩) (l.length - 1) cap) := fun k' hk' => Or.inl hk'
      rw [hm.out] at y0 y1 y2 z0 z1 z2 hF hKF hfr
      rw [hn.out] at d0
      clear hOv hB3 hB0 hK3 hk3 hA3 hpos hfz hy hshut hcut hRow hA' hArr hfl hfit hone c0 hlc hck hci j0 j1 j2 j3 j4 hmm hwr hk hnil
      go_wp2
      first | go_end0 | refine bodyPost_ret (results_none rfl _ _ _) rfl ?_
      exact ⟨_, rfl, hF, hfr, hKF⟩
end Go.Proofs.Ytmbfidegcebbdaa
