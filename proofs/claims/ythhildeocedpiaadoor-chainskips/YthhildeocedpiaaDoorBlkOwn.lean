/- What tusklaw08.OwnQc and tusklaw08.Own do: what shares nothing; nothing old in memory is turned. -/
import Derived.Test.YthhildeocedpiaaDoorBlkRows
namespace Go.Proofs.YthhildeocedpiaaDoor
open Go.RowKit
set_option linter.unusedVariables false

theorem own_empty (w : World) (T : TypeId) (n : Nat) : (w.alloc (.cells #[] T)).ownsRow w.heap.size T n (.slice (some ⟨w.heap.size, 0, none⟩) 0 0) 0 [] := World.ownsRow_made w #[] 0 (Nat.le_refl _) (by unfold maxLen; omega) (by simp)

theorem infoStr8 : (Tryd.prog.info? 9).map (fun i => (i.zero, i.size, i.bytes)) = some (some (.string ⟨#[]⟩), 1, 16) := by kernel_rfl

theorem results_qcO {fn : Func} {p : Tmp} (h : fn.results = #[.cell p 37]) (tmps : Array Value) (w : World) (g : Nat) (x : QcM)
    (hp : tmps.getD p undef = .pointer (some ⟨g, 0, none⟩)) (hg : Arr w g 37 x.c) :
    (results fn tmps).run Tryd.prog w = .ok x.v w :=
  results_cell_row h tmps w g 37 x.c.toArray (0, 0) _ hp hg Tryd.underlying37 rfl infoQc8

theorem results_blkO {fn : Func} {p : Tmp} (h : fn.results = #[.cell p 39]) (tmps : Array Value) (w : World) (g : Nat) (x : BlkM)
    (hp : tmps.getD p undef = .pointer (some ⟨g, 0, none⟩)) (hg : Arr w g 39 x.c) :
    (results fn tmps).run Tryd.prog w = .ok x.v w :=
  results_cell_row h tmps w g 39 x.c.toArray (0, 0) _ hp hg Tryd.underlying39 rfl infoBlk8

/-- A Qc that shares nothing is handed back. -/
def GotOwnQ (W : World) (x : QcM) (e : Ending) (w : World) : Prop :=
  ∃ y : QcM, e = .returned y.v ∧ y.d = x.d ∧ y.At w ∧ (∀ b, y.foot b → W.heap.size ≤ b) ∧ Below W.heap.size W w

/-- A block that shares nothing is handed back. -/
def GotOwnB (W : World) (x : BlkM) (e : Ending) (w : World) : Prop :=
  ∃ y : BlkM, e = .returned y.v ∧ y.d = x.d ∧ y.At w ∧ (∀ b, y.foot b → W.heap.size ≤ b) ∧ Below W.heap.size W w

set_option maxRecDepth 100000 in
set_option maxHeartbeats 2000000 in
theorem ownQc_any (x : QcM) (w : World) (hA : x.At w) (hv : x.votes.length * 24 ≤ 140737488351232) :
    Calls Tryd.prog 23 #[x.v] w fun e w' => GotOwnQ w x e w' := by
  obtain ⟨v, b, va, l, vc⟩ := x
  obtain ⟨hX, hZ, hB⟩ := two_new w 37 37 [.int .i64 v, .string b, .slice va l.length vc] [.int .i64 0, .string ⟨#[]⟩, .slice none 0 0]
  obtain ⟨i1, hi, hz0, hz1, hz2⟩ := info_parts infoTag6
  have hA1 : RowAt tagK _ va l := (hA.below hB).votes
  have hnv : va = none → vc = 0 := hA.nv
  have hl : l.length * 24 ≤ 140737488351232 := hv
  obtain ⟨w1, hw1⟩ : ∃ q, (w.alloc (.cells [.int .i64 v, .string b, .slice va l.length vc].toArray 37)).alloc (.cells [.int .i64 0, .string ⟨#[]⟩, .slice none 0 0].toArray 37) = q := ⟨_, rfl⟩
  have hs1 : w.heap.size + 2 ≤ w1.heap.size := by rw [← hw1, alloc_size, alloc_size]; omega
  rw [hw1] at hX hZ hB hA1
  have hbe := belowNew w1 (.cells #[] 123)
  have hoE := own_empty w1 123 tagK.n
  have hX2 := hX.below hbe hX.lt
  have hA2 := hA1.below hbe
  have hbs := hbe.size
  have x2 := hX2.cell (i := 2) rfl
  have n1 : l.length ≤ maxLen := by unfold maxLen; omega
  have n2 : l.length * 24 ≤ 140737488355328 := by omega
  unfold QcM.v
  simp only
  clear hA hv
  go_enter Tryd.func23, Tryd.ntmps23
  go_wp2_with (at_builtin; refine wpList_copy (K := tagK) rfl _ _ 35 rfl w1.heap.size 123 i1 _ 24 Tryd.underlying35 hi hz0 hz1 hz2 rfl _ rfl hoE va vc l rfl hA2 (fun _ _ _ h => h.elim) hnv n1 n2 hbs ?_)
  intro ao3 cap3 w3 hR3 hn3 hf3 hb3
  have hB3 : Below w1.heap.size w1 w3 := hbe.trans hb3
  have hX3 := hX.below hB3 hX.lt
  have hZ3 := hZ.below hB3 hZ.lt
  have hBw3 := hB.trans (hB3.mono hB.size)
  have hfl : ∀ g, rowFoot tagK ao3 l g → w1.heap.size ≤ g := fun g hg => by
    rcases hg with ⟨hne, off, e⟩ | ⟨_, _, h⟩
    · exact hf3 hne g off e
    · exact h.elim
  have x2 := hX3.cell (i := 2) rfl
  have f2 := hX3.frozen 2
  have hX4 := hX3.set 2 (.slice ao3 l.length cap3)
  have hZ4 := hZ3.other (p := ⟨w.heap.size, 2, none⟩) (by show w.heap.size + 1 ≠ w.heap.size; omega) (.slice ao3 l.length cap3)
  have hR4 := hR3.kept (Kept.setCell w3 ⟨w.heap.size, 2, none⟩ (.slice ao3 l.length cap3)) (fun g hg e => by have := hfl g hg; have e' : g = w.heap.size := e; omega)
  have hB4 := hBw3.setCell (p := ⟨w.heap.size, 2, none⟩) (Nat.le_refl _) (.slice ao3 l.length cap3)
  obtain ⟨w4, hw4⟩ : ∃ q, w3.setCell ⟨w.heap.size, 2, none⟩ (.slice ao3 l.length cap3) = q := ⟨_, rfl⟩
  rw [hw4] at hX4 hZ4 hR4 hB4
  replace hX4 : Arr w4 w.heap.size 37 [.int .i64 v, .string b, .slice ao3 l.length cap3] := hX4
  have y0 := hX4.cell (i := 0) rfl
  have y1 := hX4.cell (i := 1) rfl
  have y2 := hX4.cell (i := 2) rfl
  have z0 := hZ4.cell (i := 0) rfl
  have z1 := hZ4.cell (i := 1) rfl
  have z2 := hZ4.cell (i := 2) rfl
  have g0 := hZ4.frozen 0
  have g1 := hZ4.frozen 1
  have g2 := hZ4.frozen 2
  have hZF := hZ4.set3 (.int .i64 v) (.string b) (.slice ao3 l.length cap3)
  have kF := kept_set3 w4 (w.heap.size + 1) (.int .i64 v) (.string b) (.slice ao3 l.length cap3)
  have hRF := hR4.kept kF (fun g hg e => by have := hfl g hg; have e' : g = w.heap.size + 1 := e; omega)
  have hBF := below_set3 hB4 (g := w.heap.size + 1) (Nat.le_succ _) (.int .i64 v) (.string b) (.slice ao3 l.length cap3)
  have fin : ∀ e, e = .returned (QcM.v ⟨v, b, ao3, l, cap3⟩) → GotOwnQ w ⟨v, b, va, l, vc⟩ e _ := fun e he => ⟨⟨v, b, ao3, l, cap3⟩, he, rfl, ⟨hRF, hn3⟩, (fun g hg => by have := hfl g hg; omega), hBF⟩
  unfold set3 at hZF fin
  clear hX hZ hB hA1 hbe hoE hX2 hA2 hR3 hb3 hB3 hX3 hZ3 hBw3 hfl hX4 hZ4 hR4 hB4 kF hRF hBF hf3 hw1
  go_wp2
  refine bodyPost_ret (v := QcM.v ⟨v, b, ao3, l, cap3⟩) (results_qcO rfl _ _ (w.heap.size + 1) ⟨v, b, ao3, l, cap3⟩ rfl hZF) rfl ?_
  exact fin _ rfl

set_option maxRecDepth 100000 in
set_option maxHeartbeats 2000000 in
theorem ownBlk_any (x : BlkM) (w : World) (hA : x.At w) (hv : x.qc.votes.length * 24 ≤ 140737488351232) (hc : x.certs.length * 16 ≤ 140737488351232) :
    Calls Tryd.prog 18 #[x.v] w fun e w' => GotOwnB w x e w' := by
  obtain ⟨v, q, ca, l, cc⟩ := x
  obtain ⟨hX, hZ, hB⟩ := two_new w 39 39 [.int .i64 v, .int .i64 q.view, .string q.block, .slice q.va q.votes.length q.vc, .slice ca l.length cc] [.int .i64 0, .int .i64 0, .string ⟨#[]⟩, .slice none 0 0, .slice none 0 0]
  obtain ⟨i1, hi, hz0, hz1, hz2⟩ := info_parts infoStr8
  have hA1 := hA.below hB
  have hq1 : q.At _ := hA1.qc
  have hc1 : RowAt strK _ ca l := hA1.certs
  have hnc : ca = none → cc = 0 := hA.nc
  have hcl : ∀ g, rowFoot strK ca l g → g < w.heap.size := fun g hg => hA.certs.lt hg
  have hl : l.length * 16 ≤ 140737488351232 := hc
  have cQ := ownQc_any q _ hq1 hv
  unfold QcM.v at cQ
  obtain ⟨w1, hw1⟩ : ∃ q', (w.alloc (.cells [.int .i64 v, .int .i64 q.view, .string q.block, .slice q.va q.votes.length q.vc, .slice ca l.length cc].toArray 39)).alloc (.cells [.int .i64 0, .int .i64 0, .string ⟨#[]⟩, .slice none 0 0, .slice none 0 0].toArray 39) = q' := ⟨_, rfl⟩
  have hs1 : w.heap.size + 2 ≤ w1.heap.size := by rw [← hw1, alloc_size, alloc_size]; omega
  rw [hw1] at hX hZ hB hA1 hq1 hc1 cQ
  have n1 : l.length ≤ maxLen := by unfold maxLen; omega
  have n2 : l.length * 16 ≤ 140737488355328 := by omega
  have x1 := hX.cell (i := 1) rfl
  have x2 := hX.cell (i := 2) rfl
  have x3 := hX.cell (i := 3) rfl
  unfold BlkM.v
  simp only
  clear hA hv hc hA1 hq1
  go_enter Tryd.func18, Tryd.ntmps18
  go_wp2_with fail
  refine cQ.mono ?_
  rintro e w2 ⟨y, rfl, hyd, hy, hyf, hb2⟩
  unfold QcM.v
  have hX2 := hX.below hb2 hX.lt
  have hZ2 := hZ.below hb2 hZ.lt
  have hc2 := hc1.below hb2
  have hB2 := hB.trans (hb2.mono hB.size)
  have hs2 := hb2.size
  have hyl : ∀ g, y.foot g → w.heap.size + 2 ≤ g := fun g hg => by have := hyf g hg; omega
  clear cQ hX hZ hc1 hB hb2 x1 x2 x3 hyf hw1
  have x1 := hX2.cell (i := 1) rfl
  have x2 := hX2.cell (i := 2) rfl
  have x3 := hX2.cell (i := 3) rfl
  have x4 := hX2.cell (i := 4) rfl
  have f1 := hX2.frozen 1
  have f2 := hX2.frozen 2
  have f3 := hX2.frozen 3
  have hX3 := ((hX2.set 1 (.int .i64 y.view)).set 2 (.string y.block)).set 3 (.slice y.va y.votes.length y.vc)
  have k3 := (((Kept.refl (fun k => k = w.heap.size) w2).set (p := ⟨w.heap.size, 1, none⟩) rfl (.int .i64 y.view)).set (p := ⟨w.heap.size, 2, none⟩) rfl (.string y.block)).set (p := ⟨w.heap.size, 3, none⟩) rfl (.slice y.va y.votes.length y.vc)
  have hZ3 := hZ2.kept k3 (by omega)
  have hc3 := hc2.kept k3 (fun g hg e => by have := hcl g hg; have e' : g = w.heap.size := e; omega)
  have hy3 := Kind.kept qcK hy k3 (fun g hg e => by have := hyl g hg; have e' : g = w.heap.size := e; omega)
  have hB3 := ((hB2.setCell (p := ⟨w.heap.size, 1, none⟩) (Nat.le_refl _) (.int .i64 y.view)).setCell (p := ⟨w.heap.size, 2, none⟩) (Nat.le_refl _) (.string y.block)).setCell (p := ⟨w.heap.size, 3, none⟩) (Nat.le_refl _) (.slice y.va y.votes.length y.vc)
  have hs3 := k3.size
  obtain ⟨w3, hw3⟩ : ∃ q', ((w2.setCell ⟨w.heap.size, 1, none⟩ (.int .i64 y.view)).setCell ⟨w.heap.size, 2, none⟩ (.string y.block)).setCell ⟨w.heap.size, 3, none⟩ (.slice y.va y.votes.length y.vc) = q' := ⟨_, rfl⟩
  rw [hw3] at hX3 hZ3 hc3 hy3 hB3 hs3
  replace hX3 : Arr w3 w.heap.size 39 [.int .i64 v, .int .i64 y.view, .string y.block, .slice y.va y.votes.length y.vc, .slice ca l.length cc] := hX3
  have hbe := belowNew w3 (.cells #[] 9)
  have hoE := own_empty w3 9 strK.n
  have hX4 := hX3.below hbe hX3.lt
  have hc4 := hc3.below hbe
  have hbs := hbe.size
  have q4 := hX4.cell (i := 4) rfl
  clear hX2 hZ2 hc2 hB2 k3 hy
  go_wp2_with (at_builtin; refine wpList_copy (K := strK) rfl _ _ 23 rfl w3.heap.size 9 i1 _ 16 Tryd.underlying23 hi hz0 hz1 hz2 rfl _ rfl hoE ca cc l rfl hc4 (fun _ _ _ h => h.elim) hnc n1 n2 hbs ?_)
  intro ao5 cap5 w5 hR5 hn5 hf5 hb5
  clear x1 x2 x3 x4 f1 f2 f3 q4
  have hB5 : Below w3.heap.size w3 w5 := hbe.trans hb5
  have hX5 := hX3.below hB5 hX3.lt
  have hZ5 := hZ3.below hB5 hZ3.lt
  have hy5 := hy3.below hB5
  have hBw5 := hB3.trans (hB5.mono hB3.size)
  have hfl : ∀ g, rowFoot strK ao5 l g → w.heap.size + 2 ≤ g := fun g hg => by
    rcases hg with ⟨hne, off, e⟩ | ⟨_, _, h⟩
    · have := hf5 hne g off e
      omega
    · exact h.elim
  have x4 := hX5.cell (i := 4) rfl
  have f4 := hX5.frozen 4
  have hX6 := hX5.set 4 (.slice ao5 l.length cap5)
  have hZ6 := hZ5.other (p := ⟨w.heap.size, 4, none⟩) (by show w.heap.size + 1 ≠ w.heap.size; omega) (.slice ao5 l.length cap5)
  have k6 := Kept.setCell w5 ⟨w.heap.size, 4, none⟩ (.slice ao5 l.length cap5)
  have hR6 := hR5.kept k6 (fun g hg e => by have := hfl g hg; have e' : g = w.heap.size := e; omega)
  have hy6 := Kind.kept qcK hy5 k6 (fun g hg e => by have := hyl g hg; have e' : g = w.heap.size := e; omega)
  have hB6 := hBw5.setCell (p := ⟨w.heap.size, 4, none⟩) (Nat.le_refl _) (.slice ao5 l.length cap5)
  obtain ⟨w6, hw6⟩ : ∃ q', w5.setCell ⟨w.heap.size, 4, none⟩ (.slice ao5 l.length cap5) = q' := ⟨_, rfl⟩
  rw [hw6] at hX6 hZ6 hR6 hy6 hB6
  replace hX6 : Arr w6 w.heap.size 39 [.int .i64 v, .int .i64 y.view, .string y.block, .slice y.va y.votes.length y.vc, .slice ao5 l.length cap5] := hX6
  have y0 := hX6.cell (i := 0) rfl
  have y1 := hX6.cell (i := 1) rfl
  have y2 := hX6.cell (i := 2) rfl
  have y3 := hX6.cell (i := 3) rfl
  have y4 := hX6.cell (i := 4) rfl
  have z0 := hZ6.cell (i := 0) rfl
  have z1 := hZ6.cell (i := 1) rfl
  have z2 := hZ6.cell (i := 2) rfl
  have z3 := hZ6.cell (i := 3) rfl
  have z4 := hZ6.cell (i := 4) rfl
  have g0 := hZ6.frozen 0
  have g1 := hZ6.frozen 1
  have g2 := hZ6.frozen 2
  have g3 := hZ6.frozen 3
  have g4 := hZ6.frozen 4
  have hZF := hZ6.set5 (.int .i64 v) (.int .i64 y.view) (.string y.block) (.slice y.va y.votes.length y.vc) (.slice ao5 l.length cap5)
  have kF := kept_set5 w6 (w.heap.size + 1) (.int .i64 v) (.int .i64 y.view) (.string y.block) (.slice y.va y.votes.length y.vc) (.slice ao5 l.length cap5)
  have hRF := hR6.kept kF (fun g hg e => by have := hfl g hg; have e' : g = w.heap.size + 1 := e; omega)
  have hyF := Kind.kept qcK hy6 kF (fun g hg e => by have := hyl g hg; have e' : g = w.heap.size + 1 := e; omega)
  have hBF := below_set5 hB6 (g := w.heap.size + 1) (Nat.le_succ _) (.int .i64 v) (.int .i64 y.view) (.string y.block) (.slice y.va y.votes.length y.vc) (.slice ao5 l.length cap5)
  have fin : ∀ e, e = .returned (BlkM.v ⟨v, y, ao5, l, cap5⟩) → GotOwnB w ⟨v, q, ca, l, cc⟩ e _ := fun e he => ⟨⟨v, y, ao5, l, cap5⟩, he, (by show (⟨v, y.d, l⟩ : BlkD) = ⟨v, q.d, l⟩; rw [hyd]), ⟨hyF, hRF, hn5⟩, (fun g hg => hg.elim (fun h => by have := hyl g h; omega) (fun h => by have := hfl g h; omega)), hBF⟩
  unfold set5 at hZF fin
  clear hX3 hZ3 hc3 hy3 hB3 hbe hoE hX4 hc4 hR5 hb5 hB5 hX5 hZ5 hy5 hBw5 hfl hX6 hZ6 hR6 hy6 hB6 kF hRF hyF hBF hf5 k6 hw3
  go_wp2
  refine bodyPost_ret (v := BlkM.v ⟨v, y, ao5, l, cap5⟩) (results_blkO rfl _ _ (w.heap.size + 1) ⟨v, y, ao5, l, cap5⟩ rfl hZF) rfl ?_
  exact fin _ rfl
end Go.Proofs.YthhildeocedpiaaDoor
