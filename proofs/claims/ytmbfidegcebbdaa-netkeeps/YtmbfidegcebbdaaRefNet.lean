/- What the calls of a bag do, as the reference has them. -/
import Derived.Test.YtmbfidegcebbdaaNetRows
import Derived.Test.YtmbfidegcebbdaaRegionLast
import Derived.BigQuiet
import Derived.BigRegion
import Derived.Deep.QuietTactic
import Derived.Deep.RegionHeld3
import Derived.Laws.ResultCell
namespace Go.Proofs.Ytmbfidegcebbdaa
open Go.RowKit
set_option linter.unusedVariables false

set_option maxRecDepth 100000 in
set_option maxHeartbeats 1000000 in
theorem refSend_any (x : EnvD) (bb : Nat) (q : Value) (l : List EnvD) (lost : Nat) (w : World) (h : BagAt 28 w bb q l lost) (hn : lost ≤ 1000000) :
    Calls Try.prog 8 #[.pointer (some ⟨bb, 0, none⟩), x.v] w fun e w' => ∃ q', e = .returned (.bool (decide (l.length < 256))) ∧ BagAt 28 w' bb q' (sendL l x) (sendN l lost) ∧ Fresh w q q' ∧ Kept (BagS bb q) w w' := by
  obtain ⟨i0, z0, hi, hz0, hz1, hz2, hz3⟩ := envInfo
  obtain ⟨ao, cap, rfl, hnil, _⟩ := h.form
  have hb := belowNew w (.cells #[.int .i64 x.fr, .int .i64 x.to, .string x.by_] 30)
  have hX := Arr.new w 30 [.int .i64 x.fr, .int .i64 x.to, .string x.by_]
  have h1 := h.below hb
  obtain ⟨w1, hw1⟩ : ∃ q, w.alloc (.cells #[.int .i64 x.fr, .int .i64 x.to, .string x.by_] 30) = q := ⟨_, rfl⟩
  rw [hw1] at hb hX h1
  have hbb : bb < w.heap.size := h.box.lt
  have c0 := h1.box.cell (i := 0) rfl
  have c1 := h1.box.cell (i := 1) rfl
  have f0 := h1.box.frozen 0
  have f1 := h1.box.frozen 1
  have x0 := hX.cell (i := 0) rfl
  have x1 := hX.cell (i := 1) rfl
  have x2 := hX.cell (i := 2) rfl
  have hf := h.few
  unfold EnvD.v
  by_cases hl : l.length < 256
  · have hg : ¬ (256 : Int) ≤ (l.length : Int) := by omega
    have hbA : Below w1.heap.size w1 (w1.alloc (.cells #[.int .i64 x.fr, .int .i64 x.to, .string x.by_] 30)).drew := ((Below.refl w1.heap.size w1).alloc (Nat.le_refl _) (.cells #[.int .i64 x.fr, .int .i64 x.to, .string x.by_] 30)).drew
    have c0d : (w1.alloc (.cells #[.int .i64 x.fr, .int .i64 x.to, .string x.by_] 30)).cell? ⟨bb, 0, none⟩ = some (.slice ao l.length cap) := (hbA.cell (p := ⟨bb, 0, none⟩) h1.box.lt).trans c0
    have hQ := h1.row.below hbA
    have hN1 := new_env w1 x
    have hN3 : bb + 1 ≤ (w1.alloc (.cells #[.int .i64 x.fr, .int .i64 x.to, .string x.by_] 30)).drew.heap.size := by have := hbA.size; have := h1.box.lt; omega
    have hm1 : l.length + 1 ≤ maxLen := by unfold maxLen; omega
    have hm2 : (l.length + 1) * 32 ≤ 140737488355328 := by omega
    have hBA := hb.trans (hbA.mono hb.size)
    go_enter Try.func8, Try.ntmps8
    go_wp2_with fail
    go_region_law (first
      | (refine step_pushF (K := envK) _ (by rfl) _ _ 26 (by rfl) (bb + 1) 30 i0 _ 32 Try.underlying26 hi hz0 hz1 hz2 hz3 _ l (by rfl) hQ x trivial (fun _ h => h.elim) ⟨w1.heap.size, 0, none⟩ 1 (by rfl) hN1 hm1 hm2 hN3 ?_; intro ao8 cap8 w8 hQ8 hk8 hf8; have hX8 := ((h.box.below hBA h.box.lt).kept hk8 (fun e => by have := (h.ge e).1; omega)); have c0c := hX8.cell (i := 0) rfl; have f0c := hX8.frozen 0))
    all_goals
      obtain ⟨hF, hFr, hKF⟩ := h.pushed hl hBA hQ8 hk8 hf8
      generalize w8.setCell _ _ = w9 at hF hKF ⊢
      clear hX8 c0c f0c hk8 hf8 hQ8 c0 c1 x0 x1 x2 f0 f1 c0d hQ hN1 hN3 hbA hBA h1 hX hb
      go_wp2
      go_ret
      refine ⟨_, by rw [decide_eq_true hl]; rfl, ?_, hFr, hKF⟩
      unfold sendL sendN
      rw [if_pos hl, if_pos hl]
      exact hF
  · have hg : (256 : Int) ≤ (l.length : Int) := by omega
    have hF := h1.lostOne
    have hKF : Kept (BagS bb (.slice ao l.length cap)) w (w1.setCell ⟨bb, 1, none⟩ (.int .i64 ((lost + 1 : Nat) : Int))) := (Kept.of_below hb).set (p := ⟨bb, 1, none⟩) (Or.inl rfl) _
    go_enter Try.func8, Try.ntmps8
    go_wp2
    go_ret
    refine ⟨_, by rw [decide_eq_false hl]; rfl, ?_, Fresh.refl _ _, hKF⟩
    unfold sendL sendN
    rw [if_neg hl, if_neg hl]
    exact hF

set_option maxRecDepth 100000 in
set_option maxHeartbeats 1000000 in
theorem refAt_any (i : Int) (bb : Nat) (q : Value) (l : List EnvD) (lost : Nat) (w : World) (h : BagAt 28 w bb q l lost) :
    Calls Try.prog 14 #[.pointer (some ⟨bb, 0, none⟩), .int .i64 i] w fun e w' => e = .returned (.tuple #[(atE l i).v, .bool (atB l i)]) ∧ Below w.heap.size w w' := by
  obtain ⟨ao, cap, rfl, hnil, _⟩ := h.form
  have hb := belowNew w (.cells #[.int .i64 0, .int .i64 0, .string ⟨#[]⟩] 30)
  have hX : Arr (w.alloc (.cells #[.int .i64 0, .int .i64 0, .string ⟨#[]⟩] 30)) w.heap.size 30 (envK.c env0) := Arr.new w 30 [.int .i64 0, .int .i64 0, .string ⟨#[]⟩]
  have h1 := h.below hb
  have hbb : bb < w.heap.size := h.box.lt
  obtain ⟨w1, hw1⟩ : ∃ q, w.alloc (.cells #[.int .i64 0, .int .i64 0, .string ⟨#[]⟩] 30) = q := ⟨_, rfl⟩
  rw [hw1] at hb hX h1
  have c0 := h1.box.cell (i := 0) rfl
  have x0 := hX.cell (i := 0) rfl
  have x1 := hX.cell (i := 1) rfl
  have x2 := hX.cell (i := 2) rfl
  have f0 := hX.frozen 0
  have f1 := hX.frozen 1
  have f2 := hX.frozen 2
  cases hB : atB l i with
  | false =>
    obtain ⟨ho, hE⟩ := at_out hB
    rw [hE]
    have hXF := hX.env env0
    have hbF := below_env hb (Nat.le_refl _) env0
    rcases (by omega : i < 0 ∨ (¬ i < 0 ∧ (l.length : Int) ≤ i)) with h0 | ⟨h0, h2⟩
    · have hd : decide (i < 0) = true := decide_eq_true h0
      go_enter Try.func14, Try.ntmps14
      go_wp2
      refine bodyPost_ret (v := .tuple #[env0.v, .bool false]) (results_env rfl _ _ w.heap.size env0 rfl hXF _ rfl) rfl ?_
      exact ⟨rfl, hbF⟩
    · have hd : decide (i < 0) = false := decide_eq_false h0
      have hd2 : decide ((l.length : Int) ≤ i) = true := decide_eq_true h2
      go_enter Try.func14, Try.ntmps14
      go_wp2
      refine bodyPost_ret (v := .tuple #[env0.v, .bool false]) (results_env rfl _ _ w.heap.size env0 rfl hXF _ rfl) rfl ?_
      exact ⟨rfl, hbF⟩
  | true =>
    obtain ⟨j, rfl, hj, hx⟩ := at_in hB
    obtain ⟨g, off, rfl, hg1, hg2, y0, y1, y2⟩ := h1.cells hx
    generalize atE l (j : Int) = x at hx y0 y1 y2 ⊢
    have hXF := hX.env x
    have hbF := below_env hb (Nat.le_refl _) x
    have hd : ¬ (j : Int) < 0 := by omega
    have hd2 : ¬ (l.length : Int) ≤ (j : Int) := by omega
    have hjl : (j : Int) < (l.length : Int) := by omega
    have hg3 : ¬ g = w.heap.size := by
      intro e
      obtain ⟨g', off', e', _, h5, _⟩ := h.cells hx
      simp only [Option.some.injEq, Addr.mk.injEq, and_true] at e'
      omega
    go_enter Try.func14, Try.ntmps14
    go_wp2
    refine bodyPost_ret (v := .tuple #[x.v, .bool true]) (results_env rfl _ _ w.heap.size x rfl hXF _ rfl) rfl ?_
    exact ⟨rfl, hbF⟩

set_option maxRecDepth 100000 in
set_option maxHeartbeats 1000000 in
theorem refTwice_any (i : Int) (bb : Nat) (q : Value) (l : List EnvD) (lost : Nat) (w : World) (h : BagAt 28 w bb q l lost) (hn : lost ≤ 1000000) :
    Calls Try.prog 12 #[.pointer (some ⟨bb, 0, none⟩), .int .i64 i] w fun e w' => ∃ q', e = .returned (.bool (twiceB l i)) ∧ BagAt 28 w' bb q' (twiceL l i) (twiceN l i lost) ∧ Fresh w q q' ∧ Kept (BagS bb q) w w' := by
  have cA := refAt_any i bb q l lost w h
  obtain ⟨x, hx⟩ : ∃ x, Hid (atE l i = x) := ⟨_, rfl⟩
  obtain ⟨p, hp⟩ : ∃ p, Hid (atB l i = p) := ⟨_, rfl⟩
  obtain ⟨r, hr⟩ : ∃ r, Hid (decide (l.length < 256) = r) := ⟨_, rfl⟩
  obtain ⟨b, hb⟩ : ∃ b, Hid (twiceB l i = b) := ⟨_, rfl⟩
  obtain ⟨l', hl'⟩ : ∃ l', Hid (twiceL l i = l') := ⟨_, rfl⟩
  obtain ⟨n', hn'⟩ : ∃ n', Hid (twiceN l i lost = n') := ⟨_, rfl⟩
  rw [hb.out, hl'.out, hn'.out]
  have eb : Hid (b = (p && r)) := by show b = (p && r); rw [← hb.out, ← hp.out, ← hr.out]; rfl
  have el : Hid (l' = if p = true then sendL l x else l) := by show l' = _; rw [← hl'.out, ← hp.out, ← hx.out]; rfl
  have en : Hid (n' = if p = true then sendN l lost else lost) := by show n' = _; rw [← hn'.out, ← hp.out]; rfl
  clear hb hl' hn'
  rw [hx.out, hp.out] at cA
  unfold EnvD.v at cA
  go_enter Try.func12, Try.ntmps12
  go_wp2_with fail
  refine cA.mono ?_
  rintro e w2 ⟨rfl, hb2⟩
  have h2 := h.below hb2
  have hbF := belowNew w2 (.cells #[.int .i64 x.fr, .int .i64 x.to, .string x.by_] 30)
  have hF := h2.below hbF
  have hBF := hb2.trans (hbF.mono hb2.size)
  clear cA h2 hbF hb2
  cases p with
  | false =>
    go_wp2
    go_ret
    refine ⟨q, by rw [eb.out]; rfl, ?_, Fresh.refl _ _, Kept.of_below hBF⟩
    rw [el.out, en.out]
    exact hF
  | true =>
    have cS := refSend_any x bb q l lost _ hF hn
    unfold EnvD.v at cS
    rw [hr.out] at cS
    go_wp2_with fail
    refine cS.mono ?_
    rintro e w3 ⟨q', rfl, h3, hf3, hk3⟩
    have hK := (Kept.of_below (S := BagS bb q) hBF).trans hk3
    have hFr : Fresh w q q' := fun k hk => (hf3 k hk).imp id (fun e => by have := hBF.size; omega)
    clear cS hF hBF hf3 hk3
    go_wp2
    go_ret
    refine ⟨q', by rw [eb.out]; cases r <;> rfl, ?_, hFr, hK⟩
    rw [el.out, en.out]
    exact h3

end Go.Proofs.Ytmbfidegcebbdaa
