/- BlockBack: for every input the statement answers true, and each argument reads afterwards as it read before. Condition: the two tables of package mix read as the program's text lays them; no other. -/
import Derived.Test.YtoodapbmpbaogaaDoorBlkCheck
import Derived.Test.YtoodapbmpbaogaaDoorBlkRows
import Derived.Test.YtoodapbmpbaogaaDoorBlkEncode
import Derived.Test.YtoodapbmpbaogaaDoorHdrRightMath
import Derived.Test.YtoodapbmpbaogaaDoorRefHdrSame
import Derived.Test.YtoodapbmpbaogaaDoorHdrOpen
import Derived.Test.YtoodapbmpbaogaaDoorUpto
import Derived.Test.YtoodapbmpbaogaaDoorBlkDecode
import Derived.Test.YtoodapbmpbaogaaDoorMixAll
import Derived.Test.YtoodapbmpbaogaaDoorCards
import Derived.Test.YtoodapbmpbaogaaDoorTie
import Derived.SevenTiedAt
/- What tusklaw08.works does; nothing old in memory is turned. -/
namespace Go.Proofs.YtoodapbmpbaogaaDoor
open Go.RowKit
set_option linter.unusedVariables false

/-- A block upon the first one. -/
def exK (v : Int) : BlkM := ⟨v, ⟨0, gen32, none, [], 0⟩, none, [], 0⟩

theorem exK_at (v : Int) (w : World) : (exK v).At w := ⟨⟨nil_row _ _, fun _ => rfl⟩, nil_row _ _, fun _ => rfl⟩

theorem exQ_chk (ks : List ByteArray) (n : Nat) : chkQ ks n ⟨0, gen32, []⟩ = 0 := by
  unfold chkQ chkF
  rw [if_neg (by simp), if_pos rfl, if_pos ⟨by simp [isGen], rfl⟩]

theorem exK_chk1 (ks : List ByteArray) (n : Nat) : chkK ks n (exK 1).d = 0 := by
  have hq : chkQ ks n (exK 1).d.qc = 0 := exQ_chk ks n
  unfold chkK
  rw [if_neg (by simp [exK, BlkM.d]), if_neg (by rw [hq]; simp), if_neg (by simp [exK, BlkM.d, QcM.d]), if_neg (by simp [exK, BlkM.d])]
  rfl

theorem exK_chk0 (ks : List ByteArray) (n : Nat) : chkK ks n (exK 0).d = 2 := by
  unfold chkK
  rw [if_pos (Or.inl (by simp [exK, BlkM.d]))]

set_option maxRecDepth 100000 in
set_option maxHeartbeats 2000000 in
theorem works8_any (w : World) (hG : Mx.Glob w) :
    Calls Tryd.prog 22 #[] w fun e w' => e = .returned (.bool true) ∧ Below w.heap.size w w' := by
  have cB := both_any 0 w hG
  have cN := fun w1 => genesis_any w1
  have hg32 : gen32.size = 32 := gen32_size
  have cC1 := fun tb n ks w1 hT n2 hk h hg => blkCheck_any tb n ks (exK 1) w1 hT n2 hk h (Nat.zero_le _) (Nat.zero_le _) hg
  have cC0 := fun tb n ks w1 hT n2 hk h hg => blkCheck_any tb n ks (exK 0) w1 hT n2 hk h (Nat.zero_le _) (Nat.zero_le _) hg
  simp only [exK_chk1] at cC1
  simp only [exK_chk0] at cC0
  have e1 := fun w => exK_at 1 w
  have e0 := fun w => exK_at 0 w
  unfold BlkM.v exK at cC1 cC0
  unfold exK at e1 e0
  simp only [List.length_nil] at cC1 cC0
  go_enter Tryd.func22, Tryd.ntmps22
  go_wp2_with fail
  refine cB.mono ?_
  rintro e w1 ⟨n, tb, rb, n2, n1, rfl, hT1, _, hB1⟩
  have hG1 := hG.below hB1
  have hk32 : ∀ k ∈ Mx.keysL seedW (3 * n + 1), k.size ≤ 32 := Mx.keysL_size _ _
  generalize Mx.keysL seedW (3 * n + 1) = ks at *
  generalize gen32 = gb at *
  clear cB hG
  go_wp2_with fail
  refine (cN _).mono ?_
  rintro e w2 ⟨rfl, hb2⟩
  have hX := Arr.new w2 27 [.int .i64 1, .int .i64 0, .string gb, .slice none 0 0, .slice none 0 0]
  have hbx := belowNew w2 (.cells #[.int .i64 1, .int .i64 0, .string gb, .slice none 0 0, .slice none 0 0] 27)
  have hb3 := hb2.trans (hbx.mono hb2.size)
  have hT3 := hT1.below hb3
  have hG3 := hG1.below hb3
  have hB3 := hB1.trans (hb3.mono hB1.size)
  have hw12 := hb2.size
  have x0 := hX.cell (i := 0) rfl
  have x1 := hX.cell (i := 1) rfl
  have x2 := hX.cell (i := 2) rfl
  have x3 := hX.cell (i := 3) rfl
  have x4 := hX.cell (i := 4) rfl
  have c1 := cC1 tb n ks _ hT3 n2 hk32 (e1 _) hG3
  clear hb2 hbx cC1 e1
  go_wp2_with fail
  refine c1.mono ?_
  rintro e w4 ⟨rfl, hb4⟩
  have hX4 := hX.below hb4 hX.lt
  have hb34 := hb3.trans (hb4.mono hb3.size)
  have hB4 := hB3.trans (hb4.mono hB3.size)
  clear c1 x0 x1 x2 x3 x4 hX hb3 hB3 hb4 hT3 hG3
  have y0 := hX4.cell (i := 0) rfl
  have f0 := hX4.frozen 0
  have hX5 := hX4.set 0 (.int .i64 0)
  have hb5 := hb34.setCell (p := ⟨w2.heap.size, 0, none⟩) hw12 (.int .i64 0)
  obtain ⟨w5, hw5⟩ : ∃ q, w4.setCell ⟨w2.heap.size, 0, none⟩ (.int .i64 0) = q := ⟨_, rfl⟩
  rw [hw5] at hX5 hb5
  replace hX5 : Arr w5 w2.heap.size 27 [.int .i64 0, .int .i64 0, .string gb, .slice none 0 0, .slice none 0 0] := hX5
  have hT5 := hT1.below hb5
  have hG5 := hG1.below hb5
  have hB5 := hB1.trans (hb5.mono hB1.size)
  have x0 := hX5.cell (i := 0) rfl
  have x1 := hX5.cell (i := 1) rfl
  have x2 := hX5.cell (i := 2) rfl
  have x3 := hX5.cell (i := 3) rfl
  have x4 := hX5.cell (i := 4) rfl
  have c0 := cC0 tb n ks _ hT5 n2 hk32 (e0 _) hG5
  clear hX4 hb34 hB4 hT1 hG1 cC0 e0
  go_wp2_with fail
  refine c0.mono ?_
  rintro e w6 ⟨rfl, hb6⟩
  have hB6 := hB5.trans (hb6.mono hB5.size)
  clear c0 x0 x1 x2 x3 x4 hX5 hb5 hT5 hG5 hB5 hb6 y0 f0 hw5
  have hg32' : (gb.size : Int) = 32 := by omega
  go_wp2_with fail
  refine (cN _).mono ?_
  rintro e w7 ⟨rfl, hb7⟩
  have hB7 := hB6.trans (hb7.mono hB6.size)
  clear cN hB6 hb7
  go_wp2
  go_ret
  exact ⟨rfl, hB7⟩
end Go.Proofs.YtoodapbmpbaogaaDoor

/- What tusklaw08.OwnQc and tusklaw08.Own do: what shares nothing; nothing old in memory is turned. -/
namespace Go.Proofs.YtoodapbmpbaogaaDoor
open Go.RowKit
set_option linter.unusedVariables false

theorem own_empty (w : World) (T : TypeId) (n : Nat) : (w.alloc (.cells #[] T)).ownsRow w.heap.size T n (.slice (some ⟨w.heap.size, 0, none⟩) 0 0) 0 [] := World.ownsRow_made w #[] 0 (Nat.le_refl _) (by unfold maxLen; omega) (by simp)

theorem infoStr8 : (Tryd.prog.info? 9).map (fun i => (i.zero, i.size, i.bytes)) = some (some (.string ⟨#[]⟩), 1, 16) := by kernel_rfl

theorem results_qcO {fn : Func} {p : Tmp} (h : fn.results = #[.cell p 24]) (tmps : Array Value) (w : World) (g : Nat) (x : QcM)
    (hp : tmps.getD p undef = .pointer (some ⟨g, 0, none⟩)) (hg : Arr w g 24 x.c) :
    (results fn tmps).run Tryd.prog w = .ok x.v w :=
  results_cell_row h tmps w g 24 x.c.toArray (0, 0) _ hp hg Tryd.underlying24 rfl infoQc8

theorem results_blkO {fn : Func} {p : Tmp} (h : fn.results = #[.cell p 27]) (tmps : Array Value) (w : World) (g : Nat) (x : BlkM)
    (hp : tmps.getD p undef = .pointer (some ⟨g, 0, none⟩)) (hg : Arr w g 27 x.c) :
    (results fn tmps).run Tryd.prog w = .ok x.v w :=
  results_cell_row h tmps w g 27 x.c.toArray (0, 0) _ hp hg Tryd.underlying27 rfl infoBlk8

/-- A Qc that shares nothing is handed back. -/
def GotOwnQ (W : World) (x : QcM) (e : Ending) (w : World) : Prop :=
  ∃ y : QcM, e = .returned y.v ∧ y.d = x.d ∧ y.At w ∧ (∀ b, y.foot b → W.heap.size ≤ b) ∧ Below W.heap.size W w

/-- A block that shares nothing is handed back. -/
def GotOwnB (W : World) (x : BlkM) (e : Ending) (w : World) : Prop :=
  ∃ y : BlkM, e = .returned y.v ∧ y.d = x.d ∧ y.At w ∧ (∀ b, y.foot b → W.heap.size ≤ b) ∧ Below W.heap.size W w

set_option maxRecDepth 100000 in
set_option maxHeartbeats 2000000 in
theorem ownQc_any (x : QcM) (w : World) (hA : x.At w) (hv : x.votes.length * 24 ≤ 140737488351232) :
    Calls Tryd.prog 25 #[x.v] w fun e w' => GotOwnQ w x e w' := by
  obtain ⟨v, b, va, l, vc⟩ := x
  obtain ⟨hX, hZ, hB⟩ := two_new w 24 24 [.int .i64 v, .string b, .slice va l.length vc] [.int .i64 0, .string ⟨#[]⟩, .slice none 0 0]
  obtain ⟨i1, hi, hz0, hz1, hz2⟩ := info_parts infoTag6
  have hA1 : RowAt tagK _ va l := (hA.below hB).votes
  have hnv : va = none → vc = 0 := hA.nv
  have hl : l.length * 24 ≤ 140737488351232 := hv
  obtain ⟨w1, hw1⟩ : ∃ q, (w.alloc (.cells [.int .i64 v, .string b, .slice va l.length vc].toArray 24)).alloc (.cells [.int .i64 0, .string ⟨#[]⟩, .slice none 0 0].toArray 24) = q := ⟨_, rfl⟩
  have hs1 : w.heap.size + 2 ≤ w1.heap.size := by rw [← hw1, alloc_size, alloc_size]; omega
  rw [hw1] at hX hZ hB hA1
  have hbe := belowNew w1 (.cells #[] 54)
  have hoE := own_empty w1 54 tagK.n
  have hX2 := hX.below hbe hX.lt
  have hA2 := hA1.below hbe
  have hbs := hbe.size
  have x2 := hX2.cell (i := 2) rfl
  have n1 : l.length ≤ maxLen := by unfold maxLen; omega
  have n2 : l.length * 24 ≤ 140737488355328 := by omega
  unfold QcM.v
  simp only
  clear hA hv
  go_enter Tryd.func25, Tryd.ntmps25
  go_wp2_with (at_builtin; refine wpList_copy (K := tagK) rfl _ _ 22 rfl w1.heap.size 54 i1 _ 24 Tryd.underlying22 hi hz0 hz1 hz2 rfl _ rfl hoE va vc l rfl hA2 (fun _ _ _ h => h.elim) hnv n1 n2 hbs ?_)
  intro ao3 cap3 w3 hR3 hn3 hf3 hb3
  have hB3 : Below w1.heap.size w1 w3 := hbe.trans hb3
  have hX3 := hX.below hB3 hX.lt
  have hZ3 := hZ.below hB3 hZ.lt
  have hBw3 := hB.trans (hB3.mono hB.size)
  have hfl : ∀ g, rowFoot tagK ao3 l g → w1.heap.size ≤ g := fun g hg => by
    rcases hg with ⟨hne, off, e⟩ | ⟨_, _, h⟩
    · exact hf3 hne g off e
    · exact h.elim
  have x2 := hX3.cell (i := 2) rfl
  have f2 := hX3.frozen 2
  have hX4 := hX3.set 2 (.slice ao3 l.length cap3)
  have hZ4 := hZ3.other (p := ⟨w.heap.size, 2, none⟩) (by show w.heap.size + 1 ≠ w.heap.size; omega) (.slice ao3 l.length cap3)
  have hR4 := hR3.kept (Kept.setCell w3 ⟨w.heap.size, 2, none⟩ (.slice ao3 l.length cap3)) (fun g hg e => by have := hfl g hg; have e' : g = w.heap.size := e; omega)
  have hB4 := hBw3.setCell (p := ⟨w.heap.size, 2, none⟩) (Nat.le_refl _) (.slice ao3 l.length cap3)
  obtain ⟨w4, hw4⟩ : ∃ q, w3.setCell ⟨w.heap.size, 2, none⟩ (.slice ao3 l.length cap3) = q := ⟨_, rfl⟩
  rw [hw4] at hX4 hZ4 hR4 hB4
  replace hX4 : Arr w4 w.heap.size 24 [.int .i64 v, .string b, .slice ao3 l.length cap3] := hX4
  have y0 := hX4.cell (i := 0) rfl
  have y1 := hX4.cell (i := 1) rfl
  have y2 := hX4.cell (i := 2) rfl
  have z0 := hZ4.cell (i := 0) rfl
  have z1 := hZ4.cell (i := 1) rfl
  have z2 := hZ4.cell (i := 2) rfl
  have g0 := hZ4.frozen 0
  have g1 := hZ4.frozen 1
  have g2 := hZ4.frozen 2
  have hZF := hZ4.set3 (.int .i64 v) (.string b) (.slice ao3 l.length cap3)
  have kF := kept_set3 w4 (w.heap.size + 1) (.int .i64 v) (.string b) (.slice ao3 l.length cap3)
  have hRF := hR4.kept kF (fun g hg e => by have := hfl g hg; have e' : g = w.heap.size + 1 := e; omega)
  have hBF := below_set3 hB4 (g := w.heap.size + 1) (Nat.le_succ _) (.int .i64 v) (.string b) (.slice ao3 l.length cap3)
  have fin : ∀ e, e = .returned (QcM.v ⟨v, b, ao3, l, cap3⟩) → GotOwnQ w ⟨v, b, va, l, vc⟩ e _ := fun e he => ⟨⟨v, b, ao3, l, cap3⟩, he, rfl, ⟨hRF, hn3⟩, (fun g hg => by have := hfl g hg; omega), hBF⟩
  unfold set3 at hZF fin
  clear hX hZ hB hA1 hbe hoE hX2 hA2 hR3 hb3 hB3 hX3 hZ3 hBw3 hfl hX4 hZ4 hR4 hB4 kF hRF hBF hf3 hw1
  go_wp2
  refine bodyPost_ret (v := QcM.v ⟨v, b, ao3, l, cap3⟩) (results_qcO rfl _ _ (w.heap.size + 1) ⟨v, b, ao3, l, cap3⟩ rfl hZF) rfl ?_
  exact fin _ rfl

set_option maxRecDepth 100000 in
set_option maxHeartbeats 2000000 in
theorem ownBlk_any (x : BlkM) (w : World) (hA : x.At w) (hv : x.qc.votes.length * 24 ≤ 140737488351232) (hc : x.certs.length * 16 ≤ 140737488351232) :
    Calls Tryd.prog 10 #[x.v] w fun e w' => GotOwnB w x e w' := by
  obtain ⟨v, q, ca, l, cc⟩ := x
  obtain ⟨hX, hZ, hB⟩ := two_new w 27 27 [.int .i64 v, .int .i64 q.view, .string q.block, .slice q.va q.votes.length q.vc, .slice ca l.length cc] [.int .i64 0, .int .i64 0, .string ⟨#[]⟩, .slice none 0 0, .slice none 0 0]
  obtain ⟨i1, hi, hz0, hz1, hz2⟩ := info_parts infoStr8
  have hA1 := hA.below hB
  have hq1 : q.At _ := hA1.qc
  have hc1 : RowAt strK _ ca l := hA1.certs
  have hnc : ca = none → cc = 0 := hA.nc
  have hcl : ∀ g, rowFoot strK ca l g → g < w.heap.size := fun g hg => hA.certs.lt hg
  have hl : l.length * 16 ≤ 140737488351232 := hc
  have cQ := ownQc_any q _ hq1 hv
  unfold QcM.v at cQ
  obtain ⟨w1, hw1⟩ : ∃ q', (w.alloc (.cells [.int .i64 v, .int .i64 q.view, .string q.block, .slice q.va q.votes.length q.vc, .slice ca l.length cc].toArray 27)).alloc (.cells [.int .i64 0, .int .i64 0, .string ⟨#[]⟩, .slice none 0 0, .slice none 0 0].toArray 27) = q' := ⟨_, rfl⟩
  have hs1 : w.heap.size + 2 ≤ w1.heap.size := by rw [← hw1, alloc_size, alloc_size]; omega
  rw [hw1] at hX hZ hB hA1 hq1 hc1 cQ
  have n1 : l.length ≤ maxLen := by unfold maxLen; omega
  have n2 : l.length * 16 ≤ 140737488355328 := by omega
  have x1 := hX.cell (i := 1) rfl
  have x2 := hX.cell (i := 2) rfl
  have x3 := hX.cell (i := 3) rfl
  unfold BlkM.v
  simp only
  clear hA hv hc hA1 hq1
  go_enter Tryd.func10, Tryd.ntmps10
  go_wp2_with fail
  refine cQ.mono ?_
  rintro e w2 ⟨y, rfl, hyd, hy, hyf, hb2⟩
  unfold QcM.v
  have hX2 := hX.below hb2 hX.lt
  have hZ2 := hZ.below hb2 hZ.lt
  have hc2 := hc1.below hb2
  have hB2 := hB.trans (hb2.mono hB.size)
  have hs2 := hb2.size
  have hyl : ∀ g, y.foot g → w.heap.size + 2 ≤ g := fun g hg => by have := hyf g hg; omega
  clear cQ hX hZ hc1 hB hb2 x1 x2 x3 hyf hw1
  have x1 := hX2.cell (i := 1) rfl
  have x2 := hX2.cell (i := 2) rfl
  have x3 := hX2.cell (i := 3) rfl
  have x4 := hX2.cell (i := 4) rfl
  have f1 := hX2.frozen 1
  have f2 := hX2.frozen 2
  have f3 := hX2.frozen 3
  have hX3 := ((hX2.set 1 (.int .i64 y.view)).set 2 (.string y.block)).set 3 (.slice y.va y.votes.length y.vc)
  have k3 := (((Kept.refl (fun k => k = w.heap.size) w2).set (p := ⟨w.heap.size, 1, none⟩) rfl (.int .i64 y.view)).set (p := ⟨w.heap.size, 2, none⟩) rfl (.string y.block)).set (p := ⟨w.heap.size, 3, none⟩) rfl (.slice y.va y.votes.length y.vc)
  have hZ3 := hZ2.kept k3 (by omega)
  have hc3 := hc2.kept k3 (fun g hg e => by have := hcl g hg; have e' : g = w.heap.size := e; omega)
  have hy3 := Kind.kept qcK hy k3 (fun g hg e => by have := hyl g hg; have e' : g = w.heap.size := e; omega)
  have hB3 := ((hB2.setCell (p := ⟨w.heap.size, 1, none⟩) (Nat.le_refl _) (.int .i64 y.view)).setCell (p := ⟨w.heap.size, 2, none⟩) (Nat.le_refl _) (.string y.block)).setCell (p := ⟨w.heap.size, 3, none⟩) (Nat.le_refl _) (.slice y.va y.votes.length y.vc)
  have hs3 := k3.size
  obtain ⟨w3, hw3⟩ : ∃ q', ((w2.setCell ⟨w.heap.size, 1, none⟩ (.int .i64 y.view)).setCell ⟨w.heap.size, 2, none⟩ (.string y.block)).setCell ⟨w.heap.size, 3, none⟩ (.slice y.va y.votes.length y.vc) = q' := ⟨_, rfl⟩
  rw [hw3] at hX3 hZ3 hc3 hy3 hB3 hs3
  replace hX3 : Arr w3 w.heap.size 27 [.int .i64 v, .int .i64 y.view, .string y.block, .slice y.va y.votes.length y.vc, .slice ca l.length cc] := hX3
  have hbe := belowNew w3 (.cells #[] 9)
  have hoE := own_empty w3 9 strK.n
  have hX4 := hX3.below hbe hX3.lt
  have hc4 := hc3.below hbe
  have hbs := hbe.size
  have q4 := hX4.cell (i := 4) rfl
  clear hX2 hZ2 hc2 hB2 k3 hy
  go_wp2_with (at_builtin; refine wpList_copy (K := strK) rfl _ _ 25 rfl w3.heap.size 9 i1 _ 16 Tryd.underlying25 hi hz0 hz1 hz2 rfl _ rfl hoE ca cc l rfl hc4 (fun _ _ _ h => h.elim) hnc n1 n2 hbs ?_)
  intro ao5 cap5 w5 hR5 hn5 hf5 hb5
  clear x1 x2 x3 x4 f1 f2 f3 q4
  have hB5 : Below w3.heap.size w3 w5 := hbe.trans hb5
  have hX5 := hX3.below hB5 hX3.lt
  have hZ5 := hZ3.below hB5 hZ3.lt
  have hy5 := hy3.below hB5
  have hBw5 := hB3.trans (hB5.mono hB3.size)
  have hfl : ∀ g, rowFoot strK ao5 l g → w.heap.size + 2 ≤ g := fun g hg => by
    rcases hg with ⟨hne, off, e⟩ | ⟨_, _, h⟩
    · have := hf5 hne g off e
      omega
    · exact h.elim
  have x4 := hX5.cell (i := 4) rfl
  have f4 := hX5.frozen 4
  have hX6 := hX5.set 4 (.slice ao5 l.length cap5)
  have hZ6 := hZ5.other (p := ⟨w.heap.size, 4, none⟩) (by show w.heap.size + 1 ≠ w.heap.size; omega) (.slice ao5 l.length cap5)
  have k6 := Kept.setCell w5 ⟨w.heap.size, 4, none⟩ (.slice ao5 l.length cap5)
  have hR6 := hR5.kept k6 (fun g hg e => by have := hfl g hg; have e' : g = w.heap.size := e; omega)
  have hy6 := Kind.kept qcK hy5 k6 (fun g hg e => by have := hyl g hg; have e' : g = w.heap.size := e; omega)
  have hB6 := hBw5.setCell (p := ⟨w.heap.size, 4, none⟩) (Nat.le_refl _) (.slice ao5 l.length cap5)
  obtain ⟨w6, hw6⟩ : ∃ q', w5.setCell ⟨w.heap.size, 4, none⟩ (.slice ao5 l.length cap5) = q' := ⟨_, rfl⟩
  rw [hw6] at hX6 hZ6 hR6 hy6 hB6
  replace hX6 : Arr w6 w.heap.size 27 [.int .i64 v, .int .i64 y.view, .string y.block, .slice y.va y.votes.length y.vc, .slice ao5 l.length cap5] := hX6
  have y0 := hX6.cell (i := 0) rfl
  have y1 := hX6.cell (i := 1) rfl
  have y2 := hX6.cell (i := 2) rfl
  have y3 := hX6.cell (i := 3) rfl
  have y4 := hX6.cell (i := 4) rfl
  have z0 := hZ6.cell (i := 0) rfl
  have z1 := hZ6.cell (i := 1) rfl
  have z2 := hZ6.cell (i := 2) rfl
  have z3 := hZ6.cell (i := 3) rfl
  have z4 := hZ6.cell (i := 4) rfl
  have g0 := hZ6.frozen 0
  have g1 := hZ6.frozen 1
  have g2 := hZ6.frozen 2
  have g3 := hZ6.frozen 3
  have g4 := hZ6.frozen 4
  have hZF := hZ6.set5 (.int .i64 v) (.int .i64 y.view) (.string y.block) (.slice y.va y.votes.length y.vc) (.slice ao5 l.length cap5)
  have kF := kept_set5 w6 (w.heap.size + 1) (.int .i64 v) (.int .i64 y.view) (.string y.block) (.slice y.va y.votes.length y.vc) (.slice ao5 l.length cap5)
  have hRF := hR6.kept kF (fun g hg e => by have := hfl g hg; have e' : g = w.heap.size + 1 := e; omega)
  have hyF := Kind.kept qcK hy6 kF (fun g hg e => by have := hyl g hg; have e' : g = w.heap.size + 1 := e; omega)
  have hBF := below_set5 hB6 (g := w.heap.size + 1) (Nat.le_succ _) (.int .i64 v) (.int .i64 y.view) (.string y.block) (.slice y.va y.votes.length y.vc) (.slice ao5 l.length cap5)
  have fin : ∀ e, e = .returned (BlkM.v ⟨v, y, ao5, l, cap5⟩) → GotOwnB w ⟨v, q, ca, l, cc⟩ e _ := fun e he => ⟨⟨v, y, ao5, l, cap5⟩, he, (by show (⟨v, y.d, l⟩ : BlkD) = ⟨v, q.d, l⟩; rw [hyd]), ⟨hyF, hRF, hn5⟩, (fun g hg => hg.elim (fun h => by have := hyl g h; omega) (fun h => by have := hfl g h; omega)), hBF⟩
  unfold set5 at hZF fin
  clear hX3 hZ3 hc3 hy3 hB3 hbe hoE hX4 hc4 hR5 hb5 hB5 hX5 hZ5 hy5 hBw5 hfl hX6 hZ6 hR6 hy6 hB6 kF hRF hyF hBF hf5 k6 hw3
  go_wp2
  refine bodyPost_ret (v := BlkM.v ⟨v, y, ao5, l, cap5⟩) (results_blkO rfl _ _ (w.heap.size + 1) ⟨v, y, ao5, l, cap5⟩ rfl hZF) rfl ?_
  exact fin _ rfl
end Go.Proofs.YtoodapbmpbaogaaDoor

/- What tusklaw08.Great does: it answers yes or no; nothing old in memory is turned. -/
namespace Go.Proofs.YtoodapbmpbaogaaDoor
open Go.RowKit
set_option linter.unusedVariables false

/-- Yes or no. -/
def YesNo (e : Ending) : Prop := ∃ g : Bool, e = .returned (.bool g)

set_option maxRecDepth 100000 in
set_option maxHeartbeats 2000000 in
theorem greatBlk_any (x : BlkM) (w : World) (hA : x.At w) (hc : x.certs.length ≤ maxLen) :
    Calls Tryd.prog 9 #[x.v] w fun e w' => YesNo e ∧ Below w.heap.size w w' := by
  obtain ⟨v, q, ca, l, cc⟩ := x
  have hX := Arr.new w 27 [.int .i64 v, .int .i64 q.view, .string q.block, .slice q.va q.votes.length q.vc, .slice ca l.length cc]
  have hB := belowNew w (.cells #[.int .i64 v, .int .i64 q.view, .string q.block, .slice q.va q.votes.length q.vc, .slice ca l.length cc] 27)
  have hR : RowAt strK _ ca l := (hA.below hB).certs
  have hc' : l.length ≤ maxLen := hc
  unfold maxLen at hc'
  unfold BlkM.v
  simp only
  have x2 := hX.cell (i := 2) rfl
  have x3 := hX.cell (i := 3) rfl
  have x4 := hX.cell (i := 4) rfl
  clear hA hc
  go_enter Tryd.func9, Tryd.ntmps9
  go_wp2
  obtain ⟨w1, hw1⟩ : ∃ q', w.alloc (.cells #[.int .i64 v, .int .i64 q.view, .string q.block, .slice q.va q.votes.length q.vc, .slice ca l.length cc] 27) = q' := ⟨_, rfl⟩
  rw [hw1] at hX hB hR x2 x3 x4 ⊢
  go_loopw [3, 4] (fun v3 v4 wr => ∃ (k : Nat) (z : Int), k ≤ l.length ∧ v4 = .int .i64 (k : Int) ∧ v3 = .int .i64 z ∧ wr = w1) (fun _ v _ => l.length - (intOf v).toNat)
  case atStart => exact ⟨0, _, Nat.zero_le _, rfl, rfl, rfl⟩
  case round =>
    obtain ⟨k, z, hk, rfl, rfl, rfl⟩ := hrel
    by_cases hlt : k < l.length
    · obtain ⟨m, hm⟩ : ∃ m, l[k]? = some m := ⟨l[k], List.getElem?_eq_getElem hlt⟩
      obtain ⟨b, off, rfl, hbl, hcc⟩ := hR.cell k m hm
      have c0 := hcc 0 (.string m) rfl
      have e0 : off + k * strK.n + 0 = off + k := by show off + k * 1 + 0 = _; omega
      rw [e0] at c0
      clear hcc hm e0
      go_wp2
      go_roundw
      case rel => exact ⟨k + 1, _, by omega, by go_num, rfl, trivial⟩
      case measure => simp [intOf]; omega
    · go_wp2
      go_ret
      exact ⟨⟨_, rfl⟩, hB⟩
end Go.Proofs.YtoodapbmpbaogaaDoor

/- A block that is right can be read; what can be read can be written. -/
namespace Go.Proofs.YtoodapbmpbaogaaDoor
open Go.RowKit
set_option linter.unusedVariables false

/-- Tags that are enough: how many, and of which form. -/
theorem enough_zero {ks : List ByteArray} {f : Nat} {kind word : ByteArray} {l : List TagD} (hk : ks.length = 3 * f + 1) (hf : f ≤ 2) (h : Mx.enoughL ks f kind word (pairT l) = 0) : l.length ≤ 7 ∧ (∀ t ∈ l, t.Fit) := by
  unfold Mx.enoughL at h
  by_cases h0 : Mx.enoughGo ks kind word (-1) (pairT l) = 0
  · obtain ⟨i1, i2⟩ := go_zero (pairT l) (-1) (by omega) h0
    refine ⟨?_, fun t ht => ?_⟩
    · rcases i1 with e | i1
      · have := congrArg List.length e
        rw [pairT_length] at this
        simp at this
        rw [this]
        simp
      · rw [pairT_length] at i1
        omega
    · have := i2 (t.who, t.mac) (List.mem_map.2 ⟨t, ht, rfl⟩)
      exact ⟨this.1, by have := this.2.1; simp only at this; omega, this.2.2⟩
  · rw [if_neg h0] at h
    exact absurd h h0

theorem tagsBulk_fit : ∀ (l : List TagD), (∀ t ∈ l, t.Fit) → tagsBulk l ≤ 17 * l.length
  | [], _ => by simp [tagsBulk]
  | t :: l, h => by
    have ih := tagsBulk_fit l (fun x hx => h x (by simp [hx]))
    have h1 := (h t (by simp)).mac
    simp only [tagsBulk, List.map_cons, List.sum_cons, List.length_cons] at ih ⊢
    omega

theorem tagsB_fit8 {l : List TagD} (h : ∀ t ∈ l, t.Fit) (hl : l.length ≤ 7) : (tagsB l).length ≤ 2200 := by
  have h1 := tagsB_len_le l
  have h2 := tagsBulk_fit l h
  omega

theorem flat_strs8 (m : Nat) : ∀ (l : List ByteArray), (∀ p ∈ l, p.size ≤ m) → ((bl l).flatMap txt).length ≤ (m + 9) * l.length
  | [], _ => by simp [bl]
  | p :: l, h => by
    have ih := flat_strs8 m l (fun x hx => h x (by simp [hx]))
    have h1 := h p (by simp)
    have h2 := txt_len_le p.data.toList
    have h3 : p.data.toList.length = p.size := by simp
    have e : bl (p :: l) = p.data.toList :: bl l := rfl
    rw [e, List.flatMap_cons, List.length_append, List.length_cons, Nat.mul_add, Nat.mul_one]
    omega

theorem lst_strs8 {l : List ByteArray} (m : Nat) (h : ∀ p ∈ l, p.size ≤ m) : (lst (bl l)).length ≤ 9 + (m + 9) * l.length := by
  have h1 := flat_strs8 m l h
  have h2 := goInt_length ((bl l).length : Int)
  rw [lst, List.length_append]
  omega

theorem qcEnc_of {x : QcM} (h : x.d.Fit) : x.Enc := by
  have h1 : x.block.size ≤ 65536 := h.blk
  have h2 : x.votes.length ≤ 7 := h.few
  have h3 : ∀ t ∈ x.votes, t.Fit := h.all
  exact ⟨by omega, by omega, fun t ht => by have := (h3 t ht).mac; omega, by have := tagsB_fit8 h3 h2; omega⟩

theorem blkEnc_of {x : BlkM} (h : x.d.Fit) : x.Enc := by
  have h1 : x.certs.length ≤ 8 := h.few
  have h2 : ∀ c ∈ x.certs, c.size ≤ 65536 := h.all
  refine ⟨qcEnc_of (x := x.qc) h.qc, by omega, ?_⟩
  have := lst_strs8 65536 h2
  have h3 : (65536 + 9) * x.certs.length ≤ (65536 + 9) * 8 := Nat.mul_le_mul_left _ h1
  omega

theorem chkQ_fit {ks : List ByteArray} {f : Nat} {q : QcD} (hk : ks.length = 3 * f + 1) (hf : f ≤ 2) (h : chkQ ks f q = 0) : q.Fit ∧ q.block.size = 32 := by
  unfold chkQ at h
  split at h
  · cases h
  rename_i h1
  split at h
  · rename_i h2
    unfold chkF at h
    split at h
    · rename_i h3
      have hb : q.block.size = 32 := by rw [isGen_yes h3.1]; exact gen32_size
      have hv : q.votes = [] := List.length_eq_zero_iff.1 h3.2
      exact ⟨⟨by omega, by omega, by omega, by rw [hv]; simp, by rw [hv]; simp⟩, hb⟩
    · cases h
  · split at h
    · cases h
    rename_i h3
    have hb : q.block.size = 32 := Decidable.of_not_not h3
    obtain ⟨a, b⟩ := enough_zero hk hf h
    exact ⟨⟨by omega, by omega, by omega, a, b⟩, hb⟩

/-- The bytes of what is right are few. -/
theorem encQ_right {q : QcD} (h : q.Fit) (hb : q.block.size = 32) : (encQ q).length ≤ 2300 := by
  have h1 := goInt_length q.view
  have h2 := txt_len_le q.block.data.toList
  have h3 : q.block.data.toList.length = q.block.size := by simp
  have h4 := tagsB_fit8 h.all h.few
  unfold encQ
  simp only [List.length_append]
  omega

theorem chkK_parts {ks : List ByteArray} {f : Nat} {b : BlkD} (h : chkK ks f b = 0) : 1 ≤ b.view ∧ b.view ≤ 4611686018427387903 ∧ chkQ ks f b.qc = 0 ∧ b.qc.view < b.view ∧ b.certs.length ≤ 8 ∧ certsP [] b.certs = 0 := by
  unfold chkK at h
  split at h
  · cases h
  rename_i h1
  split at h
  · rename_i h2; exact absurd h h2
  rename_i h2
  split at h
  · cases h
  rename_i h3
  split at h
  · cases h
  rename_i h4
  exact ⟨by omega, by omega, by omega, by omega, by omega, h⟩

theorem chkK_fit {ks : List ByteArray} {f : Nat} {b : BlkD} (hk : ks.length = 3 * f + 1) (hf : f ≤ 2) (h : chkK ks f b = 0) : b.Fit ∧ (encK b).length ≤ 4000 := by
  obtain ⟨p1, p2, p3, p4, p5, p6⟩ := chkK_parts h
  obtain ⟨q1, q2⟩ := chkQ_fit hk hf p3
  have hl := encQ_right q1 q2
  have hm : ∀ c ∈ b.certs, c.size ≤ 40 := fun c hc => by have := (certsP_all p6 c hc).1; omega
  refine ⟨⟨by omega, by omega, q1, by omega, p5, fun c hc => by have := hm c hc; omega⟩, ?_⟩
  have h1 := goInt_length b.view
  have h2 := txt_len_le (encQ b.qc)
  have h3 := lst_strs8 40 hm
  have h4 : (40 + 9) * b.certs.length ≤ (40 + 9) * 8 := Nat.mul_le_mul_left _ p5
  unfold encK
  simp only [List.length_append]
  omega
end Go.Proofs.YtoodapbmpbaogaaDoor

/- What tuskref08.SameQc and tuskref08.Same say of two that are the same; nothing old in memory is turned. -/
namespace Go.Proofs.YtoodapbmpbaogaaDoor
open Go.RowKit
set_option linter.unusedVariables false

set_option maxRecDepth 100000 in
set_option maxHeartbeats 2000000 in
theorem sameQ_any (a b : QcM) (w : World) (hA : a.At w) (hB : b.At w) (hd : a.d = b.d) (hv : a.votes.length ≤ 4611686018427387903) :
    Calls Tryd.prog 26 #[a.v, b.v] w fun e w' => e = .returned (.bool true) ∧ Below w.heap.size w w' := by
  obtain ⟨v0, k0, a0, l0, c0⟩ := a
  obtain ⟨v1, k1, a1, l1, c1⟩ := b
  simp only [QcM.d, QcD.mk.injEq] at hd
  obtain ⟨rfl, rfl, rfl⟩ := hd
  have hA1 : RowAt tagK w a0 l0 := hA.votes
  have hB1 : RowAt tagK w a1 l0 := hB.votes
  obtain ⟨hX, hY, hb⟩ := two_new w 24 24 [.int .i64 v0, .string k0, .slice a0 l0.length c0] [.int .i64 v0, .string k0, .slice a1 l0.length c1]
  have cV := sameTags_any a0 a1 c0 c1 l0 _ (hA1.below hb) (hB1.below hb) hv
  unfold QcM.v
  simp only
  clear hA hB hA1 hB1 hv
  obtain ⟨w1, hw1⟩ : ∃ q, (w.alloc (.cells [.int .i64 v0, .string k0, .slice a0 l0.length c0].toArray 24)).alloc (.cells [.int .i64 v0, .string k0, .slice a1 l0.length c1].toArray 24) = q := ⟨_, rfl⟩
  rw [hw1] at hX hY hb cV
  have x0 := hX.cell (i := 0) rfl
  have x1 := hX.cell (i := 1) rfl
  have x2 := hX.cell (i := 2) rfl
  have y0 := hY.cell (i := 0) rfl
  have y1 := hY.cell (i := 1) rfl
  have y2 := hY.cell (i := 2) rfl
  go_enter Tryd.func26, Tryd.ntmps26
  go_wp2_with fail
  refine cV.mono ?_
  rintro e w2 ⟨rfl, hb2⟩
  have hB2 := hb.trans (hb2.mono hb.size)
  clear cV hX hY hb hb2 x0 x1 x2 y0 y1 y2
  go_wp2
  go_ret
  exact ⟨rfl, hB2⟩

set_option maxRecDepth 100000 in
set_option maxHeartbeats 2000000 in
theorem sameK_any (a b : BlkM) (w : World) (hA : a.At w) (hB : b.At w) (hd : a.d = b.d) (hv : a.qc.votes.length ≤ 4611686018427387903) (hc : a.certs.length ≤ 4611686018427387903) :
    Calls Tryd.prog 21 #[a.v, b.v] w fun e w' => e = .returned (.bool true) ∧ Below w.heap.size w w' := by
  obtain ⟨v0, q0, a0, l0, c0⟩ := a
  obtain ⟨v1, q1, a1, l1, c1⟩ := b
  simp only [BlkM.d, BlkD.mk.injEq] at hd
  obtain ⟨rfl, hq, rfl⟩ := hd
  have hA1 : RowAt strK w a0 l0 := hA.certs
  have hB1 : RowAt strK w a1 l0 := hB.certs
  have hAq : q0.At w := hA.qc
  have hBq : q1.At w := hB.qc
  obtain ⟨hX, hY, hb⟩ := two_new w 27 27 [.int .i64 v0, .int .i64 q0.view, .string q0.block, .slice q0.va q0.votes.length q0.vc, .slice a0 l0.length c0] [.int .i64 v0, .int .i64 q1.view, .string q1.block, .slice q1.va q1.votes.length q1.vc, .slice a1 l0.length c1]
  have cQ := sameQ_any q0 q1 _ (hAq.below hb) (hBq.below hb) hq hv
  have cS := fun w1 h0 h1 => same_any a0 a1 c0 c1 l0 w1 h0 h1 (by have := hc; simp only at this; omega)
  have hS0 := hA1.below hb
  have hS1 := hB1.below hb
  unfold QcM.v at cQ
  unfold BlkM.v
  simp only
  clear hA hB hA1 hB1 hv hc hAq hBq hq
  obtain ⟨w1, hw1⟩ : ∃ q, (w.alloc (.cells [.int .i64 v0, .int .i64 q0.view, .string q0.block, .slice q0.va q0.votes.length q0.vc, .slice a0 l0.length c0].toArray 27)).alloc (.cells [.int .i64 v0, .int .i64 q1.view, .string q1.block, .slice q1.va q1.votes.length q1.vc, .slice a1 l0.length c1].toArray 27) = q := ⟨_, rfl⟩
  rw [hw1] at hX hY hb cQ hS0 hS1
  have x0 := hX.cell (i := 0) rfl
  have x1 := hX.cell (i := 1) rfl
  have x2 := hX.cell (i := 2) rfl
  have x3 := hX.cell (i := 3) rfl
  have y0 := hY.cell (i := 0) rfl
  have y1 := hY.cell (i := 1) rfl
  have y2 := hY.cell (i := 2) rfl
  have y3 := hY.cell (i := 3) rfl
  go_enter Tryd.func21, Tryd.ntmps21
  go_wp2_with fail
  refine cQ.mono ?_
  rintro e w2 ⟨rfl, hb2⟩
  have hX2 := hX.below hb2 hX.lt
  have hY2 := hY.below hb2 hY.lt
  have hS02 := hS0.below hb2
  have hS12 := hS1.below hb2
  have hB2 := hb.trans (hb2.mono hb.size)
  clear cQ hX hY hS0 hS1 hb hb2 x0 x1 x2 x3 y0 y1 y2 y3
  have x4 := hX2.cell (i := 4) rfl
  have y4 := hY2.cell (i := 4) rfl
  go_wp2_with fail
  refine (cS _ hS02.strs hS12.strs).mono ?_
  rintro e w3 ⟨rfl, hb3⟩
  have hB3 := hB2.trans (hb3.mono hB2.size)
  clear cS hX2 hY2 hS02 hS12 hB2 hb3 x4 y4
  go_wp2
  go_ret
  exact ⟨rfl, hB3⟩
end Go.Proofs.YtoodapbmpbaogaaDoor

/- How a block that came in is opened; its sizes; its bulk. -/
namespace Go.Proofs.YtoodapbmpbaogaaDoor
open Go.ChangeShapes Go.WideShapes Go.ChangeAt Go.RowKit Go.Joins Go.Deep
set_option linter.unusedVariables false

theorem list3x {α : Type} {l : List α} (h : l.length = 3) : ∃ c0 c1 c2, l = [c0, c1, c2] := by
  match l, h with
  | [c0, c1, c2], _ => exact ⟨c0, c1, c2, rfl⟩

theorem list5y {α : Type} {l : List α} (h : l.length = 5) : ∃ c0 c1 c2 c3 c4, l = [c0, c1, c2, c3, c4] := by
  match l, h with
  | [c0, c1, c2, c3, c4], _ => exact ⟨c0, c1, c2, c3, c4, rfl⟩

theorem cellsQc8 : Tryd.prog.cellsOf 24 = 3 := by kernel_rfl
theorem cellsBlk8 : Tryd.prog.cellsOf 27 = 5 := by kernel_rfl

/-- How a Qc reads. -/
def QcQ {H : Type} (d : DataW H) (x : QcM) : Prop := ∃ y0 y1 y2, d = .agg [y0, y1, y2] ∧ StrQ y1 x.block ∧ RowD TagQ y2 x.votes

/-- How a block reads. -/
def BlkQ {H : Type} (d : DataW H) (x : BlkM) : Prop := ∃ y0 y1 y2, d = .agg [y0, y1, y2] ∧ QcQ y1 x.qc ∧ RowD StrQ y2 x.certs

/-- A row's length is within its capacity. -/
theorem row_cap {H : Type} {enc : TypeId × Value → H} {W : World} {T E : TypeId} (hT : Tryd.prog.underlying T = some (.slice E))
    {fuel : Nat} {a : Option Addr} {len cap : Nat} {y : DataW H × List MemPlace} (hf : DataW.trod enc Tryd.prog W 0 (fun _ => true) true fuel T [.slice a len cap] = some y) : len ≤ cap := by
  rcases open_slice hT hf with ⟨hcs, hx⟩ | ⟨x, l, c, m, n, D, Pl, hcs, _, hl, hm, hmm, hx, hc⟩
  · simp at hcs
    omega
  · simp at hcs
    omega

set_option maxRecDepth 100000 in
theorem open_qc_cells {H : Type} {enc : TypeId × Value → H} {W : World} {fuel : Nat} {cs : List Value} {y : DataW H × List MemPlace}
    (hf : DataW.trod enc Tryd.prog W 0 (fun _ => true) true fuel 24 cs = some y) : ∃ x : QcM, cs = qcK.c x ∧ qcK.At W x ∧ QcQ y.1 x := by
  obtain ⟨xs, n, _, hx, hcl, hl, hg⟩ := DataW.trod_struct Tryd.underlying24 hf
  obtain ⟨c0, c1, c2, rfl⟩ := list3x (hcl.trans cellsQc8)
  obtain ⟨y0, y1, y2, rfl⟩ := list3x hl
  have g0 := hg 0 _ rfl
  have g1 := hg 1 _ rfl
  have g2 := hg 2 _ rfl
  simp [cellsInt6, cellsStr6, cellsTags6] at g0 g1 g2
  obtain ⟨a0, e0, _, _⟩ := DataW.trod_int Tryd.underlying3 g0
  obtain ⟨a1, e1, hy1, s1⟩ := DataW.trod_string Tryd.underlying9 g1
  obtain ⟨va, vlen, vc, e2⟩ := slice_form Tryd.underlying22 g2
  simp at e0 e1 e2
  subst e0 e1 e2
  obtain ⟨l, rfl, l1, l2, l3, l4⟩ := open_tagsK g2
  refine ⟨⟨a0, a1, va, l, vc⟩, rfl, ⟨l1, l2⟩, y0.1, y1.1, y2.1, ?_, ⟨by rw [hy1], s1⟩, l4⟩
  have := congrArg Prod.fst hx
  simpa using this

set_option maxRecDepth 100000 in
theorem open_blk_cells {H : Type} {enc : TypeId × Value → H} {W : World} {fuel : Nat} {cs : List Value} {y : DataW H × List MemPlace}
    (hf : DataW.trod enc Tryd.prog W 0 (fun _ => true) true fuel 27 cs = some y) : ∃ x : BlkM, cs = blkK.c x ∧ blkK.At W x ∧ BlkQ y.1 x ∧ x.certs.length ≤ x.cc := by
  obtain ⟨xs, n, _, hx, hcl, hl, hg⟩ := DataW.trod_struct Tryd.underlying27 hf
  obtain ⟨c0, c1, c2, c3, c4, rfl⟩ := list5y (hcl.trans cellsBlk8)
  obtain ⟨y0, y1, y2, rfl⟩ := list3x hl
  have g0 := hg 0 _ rfl
  have g1 := hg 1 _ rfl
  have g2 := hg 2 _ rfl
  simp [cellsInt6, cellsQc8, cellsStrs6] at g0 g1 g2
  obtain ⟨a0, e0, _, _⟩ := DataW.trod_int Tryd.underlying3 g0
  obtain ⟨q, e1, hat, hq⟩ := open_qc_cells g1
  obtain ⟨ca, clen, cc, e2⟩ := slice_form Tryd.underlying25 g2
  have e1' : [c1, c2, c3] = [.int .i64 q.view, .string q.block, .slice q.va q.votes.length q.vc] := e1
  simp at e0 e1' e2
  obtain ⟨rfl, rfl, rfl⟩ := e1'
  subst e0 e2
  have hcap := row_cap Tryd.underlying25 g2
  obtain ⟨l, rfl, l1, l2, l3, l4⟩ := open_row strK StrQ Tryd.underlying25 cellsStr6 open_str_cells g2
  refine ⟨⟨a0, q, ca, l, cc⟩, rfl, ⟨hat, l1, l2⟩, ⟨y0.1, y1.1, y2.1, ?_, hq, l4⟩, hcap⟩
  have := congrArg Prod.fst hx
  simpa using this

set_option maxRecDepth 100000 in
theorem open_blk {H : Type} {enc : TypeId × Value → H} {W : World} {r : Reach} {b0 : Nat} {v : Value} {d : DataW H} {p : List MemPlace} (hv : Value.okWide Tryd.prog W r b0 27 v)
    (h : DataW.Trod enc Tryd.prog W 0 (fun _ => true) true 27 v d p) : ∃ x : BlkM, v = x.v ∧ x.At W ∧ BlkQ d x ∧ x.certs.length ≤ x.cc := by
  obtain ⟨cs, rfl, hsz⟩ := okWide_struct Tryd.underlying27 hv
  obtain ⟨fuel, hf⟩ := h
  have hc : (Value.agg cs).cells.toList = cs.toList := by simp [Value.cells]
  obtain ⟨x, e, hx, hq⟩ := open_blk_cells hf
  refine ⟨x, ?_, hx, hq⟩
  have e' : cs.toList = x.c := by rw [← hc]; exact e
  have : cs = x.c.toArray := by rw [← e']
  rw [this]
  rfl

/-- A block's lists, in sizes that a machine holds. -/
structure BlkM.Lens (x : BlkM) : Prop where
  votes : x.qc.votes.length * 24 ≤ 140737488351232
  certs : x.certs.length * 16 ≤ 140737488351232
  blk : x.qc.block.size ≤ 140737488351232

set_option maxRecDepth 100000 in
theorem qc_fit {H : Type} {d : DataW H} {x : QcM} (h : QcQ d x) (hw : ∀ n ∈ d.weights Tryd.prog 24, n ≤ reachBytes) : x.votes.length * 24 ≤ 140737488351232 ∧ x.block.size ≤ 140737488351232 := by
  obtain ⟨y0, y1, y2, rfl, h1, h2⟩ := h
  have f2 := (h2.fit Tryd.underlying22 (fun n hn => hw n (by
    rw [DataW.weights, Tryd.underlying24]
    exact DataW.weights_mem_each (ts := [3, 9, 22]) (j := 2) rfl rfl n hn))).1
  have f1 := h1.fit (t := 9) (fun n hn => hw n (by
    rw [DataW.weights, Tryd.underlying24]
    exact DataW.weights_mem_each (ts := [3, 9, 22]) (j := 1) rfl rfl n hn))
  rw [bytesTag6] at f2
  exact ⟨by simpa [reachBytes] using f2, f1⟩

set_option maxRecDepth 100000 in
theorem blk_fit {H : Type} {d : DataW H} {x : BlkM} (h : BlkQ d x) (hw : ∀ n ∈ d.weights Tryd.prog 27, n ≤ reachBytes) : x.Lens := by
  obtain ⟨y0, y1, y2, rfl, h1, h2⟩ := h
  obtain ⟨f1, f2⟩ := qc_fit h1 (fun n hn => hw n (by
    rw [DataW.weights, Tryd.underlying27]
    exact DataW.weights_mem_each (ts := [3, 24, 25]) (j := 1) rfl rfl n hn))
  have g1 := (h2.fit Tryd.underlying25 (fun n hn => hw n (by
    rw [DataW.weights, Tryd.underlying27]
    exact DataW.weights_mem_each (ts := [3, 24, 25]) (j := 2) rfl rfl n hn))).1
  rw [bytesStr6] at g1
  exact ⟨f1, by simpa [reachBytes] using g1, f2⟩

/-- A block that came in: in sizes that a machine holds. -/
theorem blk_sized {H : Type} {ts : List TypeId} {ds : List (DataW H)} (h : (DataW.weightsEach Tryd.prog ts ds).all (· ≤ reachBytes) = true) {j : Nat} {d : DataW H} {x : BlkM} (ht : ts[j]? = some 27) (hd : ds[j]? = some d) (hs : BlkQ d x) : x.Lens := blk_fit hs (weights_of h ht hd)

/-- What the bound of the second form gives of a block. -/
theorem blk_bulk {H : Type} {d : DataW H} {x : BlkM} (h : BlkQ d x) (hk : Rows.uptoBulk d ≤ 1048576) : x.Lens ∧ x.Enc ∧ (encK x.d).length ≤ 1073741824 := by
  obtain ⟨y0, y1, y2, rfl, ⟨q0, q1, q2, rfl, h1, h2⟩, h3⟩ := h
  have p1 := h1.bulk
  have p2 := h2.bulk tagQ_bulk
  have p3 := h3.bulk StrQ.bulk
  simp only [Rows.uptoBulk, Rows.uptoBulkAll] at hk
  have b2 : tagsBulk x.qc.votes ≤ 1048576 := by unfold tagsBulk; omega
  have b3 : strsBulk x.certs ≤ 1048576 := by unfold strsBulk; omega
  have l2 := tagsBulk_len x.qc.votes
  have l3 := strsBulk_length x.certs
  have m2 := tagsB_len_le x.qc.votes
  have m3 := lst_bulk x.certs
  have g0 := goInt_length x.view
  have g1 := goInt_length x.qc.view
  have t1 := txt_len_le x.qc.block.data.toList
  have t2 : x.qc.block.data.toList.length = x.qc.block.size := by simp
  have t3 := txt_len_le (encQ x.qc.d)
  have eq : (encQ x.qc.d).length = (goInt x.qc.view).length + (txt x.qc.block.data.toList).length + (tagsB x.qc.votes).length := by
    show (goInt x.qc.view ++ txt x.qc.block.data.toList ++ tagsB x.qc.votes).length = _
    simp only [List.length_append]
  have ek : (encK x.d).length = (goInt x.view).length + (txt (encQ x.qc.d)).length + (lst (bl x.certs)).length := by
    show (goInt x.view ++ txt (encQ x.qc.d) ++ lst (bl x.certs)).length = _
    simp only [List.length_append]
  exact ⟨⟨by omega, by omega, by omega⟩, ⟨⟨by omega, by omega, fun t ht => by have := tagsBulk_mem ht; omega, by omega⟩, by omega, by omega⟩, by omega⟩
end Go.Proofs.YtoodapbmpbaogaaDoor

/- tusklaw08.BlockBack answers true; nothing old in memory is turned. -/
namespace Go.Proofs.YtoodapbmpbaogaaDoor
open Go.RowKit Go.Sort
set_option linter.unusedVariables false

theorem blk_ok {b : BlkD} {x : BlkM} {e : Nat} (hf : b.Fit) (h : (e = 0 ∧ decK (encK b) = .ok x.d) ∨ (e ≠ 0 ∧ decK (encK b) = .error e ∧ x = blk0)) : e = 0 ∧ x.d = b := by
  have hd := decK_enc hf []
  rw [List.append_nil, if_pos rfl] at hd
  rcases h with ⟨h1, h2⟩ | ⟨h1, h2, _⟩
  · rw [hd] at h2
    exact ⟨h1, (Except.ok.inj h2).symm⟩
  · rw [hd] at h2
    cases h2

theorem qc_ok {b : QcD} {x : QcM} {e : Nat} (hf : b.Fit) (h : (e = 0 ∧ decQ (encQ b) = .ok x.d) ∨ (e ≠ 0 ∧ decQ (encQ b) = .error e ∧ x = qc0)) : e = 0 ∧ x.d = b := by
  have hd := decQ_enc hf []
  rw [List.append_nil, if_pos rfl] at hd
  rcases h with ⟨h1, h2⟩ | ⟨h1, h2, _⟩
  · rw [hd] at h2
    exact ⟨h1, (Except.ok.inj h2).symm⟩
  · rw [hd] at h2
    cases h2

set_option maxRecDepth 100000 in
set_option maxHeartbeats 4000000 in
theorem blockBack_walk (f : Int) (x : BlkM) (s : ByteArray) (w : World) (hwf : (Lit.int .i64 f).wf = true) (hA : x.At w) (hL : x.Lens) (hs : s.size ≤ 140737488351232) (hG : Mx.Glob w) :
    Calls Tryd.prog 4 #[.int .i64 f, x.v, .string s] w fun e w' => e = .returned (.bool true) ∧ Below w.heap.size w w' := by
  have hX : Arr _ w.heap.size 27 [.int .i64 x.view, .int .i64 x.qc.view, .string x.qc.block, .slice x.qc.va x.qc.votes.length x.qc.vc, .slice x.ca x.certs.length x.cc] := Arr.new w 27 x.c
  have hB := belowNew w (.cells x.c.toArray 27)
  have cW := works8_any _ (hG.below hB)
  have hvM : x.qc.votes.length ≤ maxLen := by have := hL.votes; unfold maxLen; omega
  have hcM : x.certs.length ≤ maxLen := by have := hL.certs; unfold maxLen; omega
  have cG := fun w1 h => greatBlk_any x w1 h hcM
  have cO := fun w1 h => ownBlk_any x w1 h hL.votes hL.certs
  have cP := fun w1 h => ownQc_any x.qc w1 h hL.votes
  have hmx : s.size ≤ maxLen := by unfold maxLen; omega
  have cD := fun w1 => blkDecode_any s w1 hmx
  have cE := fun w1 => decodeQc_any s w1 hmx
  have Hk : Hid (∀ (v : BlkM), decK s.data.toList = .ok v.d → v.Enc ∧ (⟨(encK v.d).toArray⟩ : ByteArray) = s) := fun v hv => by
    obtain ⟨a, b⟩ := encK_dec hv
    exact ⟨blkEnc_of b, by rw [a, mk_list]⟩
  have Hq : Hid (∀ (v : QcM), decQ s.data.toList = .ok v.d → v.Enc ∧ (⟨(encQ v.d).toArray⟩ : ByteArray) = s) := fun v hv => by
    obtain ⟨a, b⟩ := encQ_dec hv
    exact ⟨qcEnc_of b, by rw [a, mk_list]⟩
  generalize decK s.data.toList = rk at cD Hk
  generalize decQ s.data.toList = rq at cE Hq
  unfold BlkM.v at cO cG ⊢
  unfold QcM.v at cP
  unfold BlkM.c at hX hB cW
  go_enter Tryd.func4, Tryd.ntmps4
  go_wp2_with fail
  refine cW.mono ?_
  rintro e w1 ⟨rfl, hb1⟩
  have hX1 := hX.below hb1 hX.lt
  have hB1 := hB.trans (hb1.mono hB.size)
  clear hX hB hb1 cW
  have cB := both_any f w1 (hG.below hB1)
  go_wp2_with fail
  refine cB.mono ?_
  rintro e w2 ⟨n, tb, rb, n2, n1, rfl, hT2, _, hb2⟩
  have hX2 := hX1.below hb2 hX1.lt
  have hB2 := hB1.trans (hb2.mono hB1.size)
  have hk32 : ∀ k ∈ Mx.keysL seedW (3 * n + 1), k.size ≤ 32 := Mx.keysL_size _ _
  have hkl : Hid ((Mx.keysL seedW (3 * n + 1)).length = 3 * n + 1) := Mx.keysL_len _ _
  generalize Mx.keysL seedW (3 * n + 1) = ks at *
  clear hX1 hB1 hb2 cB
  have x0 := hX2.cell (i := 0) rfl
  have x1 := hX2.cell (i := 1) rfl
  have x2 := hX2.cell (i := 2) rfl
  have x3 := hX2.cell (i := 3) rfl
  have x4 := hX2.cell (i := 4) rfl
  go_wp2_with fail
  refine (cG _ (hA.below hB2)).mono ?_
  rintro e w3 ⟨⟨g, rfl⟩, hb3⟩
  have hX3 := hX2.below hb3 hX2.lt
  have hT3 := hT2.below hb3
  have hB3 := hB2.trans (hb3.mono hB2.size)
  clear hX2 hB2 hb3 cG x0 x1 x2 x3 x4 hT2
  cases g with
  | true =>
    clear cD cE Hk Hq
    go_wp2
    go_ret
    exact ⟨rfl, hB3⟩
  | false =>
  by_cases h20 : (20000 : Int) < (s.size : Int)
  · clear cD cE Hk Hq
    go_wp2
    go_ret
    exact ⟨rfl, hB3⟩
  have d20 : decide ((20000 : Int) < (s.size : Int)) = false := decide_eq_false h20
  have x0 := hX3.cell (i := 0) rfl
  have x1 := hX3.cell (i := 1) rfl
  have x2 := hX3.cell (i := 2) rfl
  have x3 := hX3.cell (i := 3) rfl
  have x4 := hX3.cell (i := 4) rfl
  go_wp2_with fail
  refine (cO _ (hA.below hB3)).mono ?_
  rintro e w4 ⟨y, rfl, hyd, hy, hyf, hb4⟩
  have hX4 := hX3.below hb4 hX3.lt
  have hT4 := hT3.below hb4
  have hB4 := hB3.trans (hb4.mono hB3.size)
  have hyq : y.qc.d = x.qc.d := congrArg BlkD.qc hyd
  have hyv : y.qc.votes = x.qc.votes := congrArg QcD.votes hyq
  have hyc : y.certs = x.certs := congrArg BlkD.certs hyd
  have cC := blkCheck_any tb n ks y w4 hT4 n2 hk32 hy (by rw [hyv]; exact hvM) (by rw [hyc]; exact hcM) (hG.below hB4)
  rw [hyd] at cC
  have Hfit : Hid (chkK ks n x.d = 0 → x.d.Fit ∧ (encK x.d).length ≤ 4000) := fun h => chkK_fit hkl.out n2 h
  generalize chkK ks n x.d = ck at cC Hfit
  unfold BlkM.v at cC ⊢
  clear hX3 hT3 hB3 hb4 x0 x1 x2 x3 x4 hyf hy hyd hyq hyv hyc hk32 hkl
  go_wp2_with fail
  refine cC.mono ?_
  rintro e w5 ⟨rfl, hb5⟩
  have hX5 := hX4.below hb5 hX4.lt
  have hB5 := hB4.trans (hb5.mono hB4.size)
  clear cC hX4 hT4 hB4 hb5
  by_cases hck : ck ≠ 0
  · have hck' : ((ck : Int) == 0) = false := by rw [beq_eq_false_iff_ne]; omega
    have hck2 : ¬ (ck : Int) = 0 := by omega
    clear Hfit cO cP hX5 hck
    go_wp2_with fail
    refine (cD _).mono ?_
    rintro e w15 ⟨v, er, rfl, hv, hres, hvf, hb15⟩
    have hB15 := hB5.trans (hb15.mono hB5.size)
    clear hB5 hb15 cD hvf
    unfold BlkM.v
    rcases hres with ⟨rfl, hres⟩ | ⟨her, hres, rfl⟩
    · obtain ⟨hve, hvs⟩ := Hk.out v hres
      have hbx := belowNew w15 (.cells v.c.toArray 27)
      have hV16 : Arr _ w15.heap.size 27 [.int .i64 v.view, .int .i64 v.qc.view, .string v.qc.block, .slice v.qc.va v.qc.votes.length v.qc.vc, .slice v.ca v.certs.length v.cc] := Arr.new w15 27 v.c
      have hB16 := hB15.trans (hbx.mono hB15.size)
      have hv16 := hv.below hbx
      have cN := blkEncode_any v _ hv16 hve
      rw [hvs] at cN
      clear hbx hB15 hv hres hvs Hk
      unfold BlkM.v at cN
      unfold BlkM.c at cN hV16 hB16 hv16
      have v0 := hV16.cell (i := 0) rfl
      have v1 := hV16.cell (i := 1) rfl
      have v2 := hV16.cell (i := 2) rfl
      have v3 := hV16.cell (i := 3) rfl
      have v4 := hV16.cell (i := 4) rfl
      go_wp2_with fail
      refine cN.mono ?_
      rintro e w17 ⟨rfl, hb17⟩
      have hB17 := hB16.trans (hb17.mono hB16.size)
      clear hV16 hB16 hv16 hb17 cN v0 v1 v2 v3 v4
      go_wp2_with fail
      refine (cE _).mono ?_
      rintro e w20 ⟨q, eq, rfl, hq, hresq, hqf, hb20⟩
      have hB20 := hB17.trans (hb20.mono hB17.size)
      clear hB17 hb20 cE hqf
      unfold QcM.v
      rcases hresq with ⟨rfl, hresq⟩ | ⟨heq, hresq, rfl⟩
      · obtain ⟨hqe, hqs⟩ := Hq.out q hresq
        have hbx := belowNew w20 (.cells q.c.toArray 24)
        have hQ21 : Arr _ w20.heap.size 24 [.int .i64 q.view, .string q.block, .slice q.va q.votes.length q.vc] := Arr.new w20 24 q.c
        have hB21 := hB20.trans (hbx.mono hB20.size)
        have hq21 := hq.below hbx
        have cN := encodeQc_any q _ hq21 hqe
        rw [hqs] at cN
        clear hbx hB20 hq hresq hqs Hq
        unfold QcM.v at cN
        unfold QcM.c at cN hQ21 hB21 hq21
        have q0 := hQ21.cell (i := 0) rfl
        have q1 := hQ21.cell (i := 1) rfl
        have q2 := hQ21.cell (i := 2) rfl
        go_wp2_with fail
        refine cN.mono ?_
        rintro e w22 ⟨rfl, hb22⟩
        have hB22 := hB21.trans (hb22.mono hB21.size)
        clear hQ21 hB21 hq21 hb22 cN q0 q1 q2
        go_wp2
        go_ret
        exact ⟨rfl, hB22⟩
      · have heq' : ((eq : Int) != 0) = true := by rw [bne_iff_ne]; omega
        have hbx := belowNew w20 (.cells qc0.c.toArray 24)
        have hB21 := hB20.trans (hbx.mono hB20.size)
        unfold QcM.c qc0 at hB21
        unfold qc0
        simp only [List.length_nil] at hB21 ⊢
        clear hbx hB20 hq hresq Hq heq
        go_wp2
        go_ret
        exact ⟨rfl, hB21⟩
    · have her' : ((er : Int) == 0) = false := by rw [beq_eq_false_iff_ne]; omega
      have her2 : ¬ (er : Int) = 0 := by omega
      have hbx := belowNew w15 (.cells blk0.c.toArray 27)
      have hB16 := hB15.trans (hbx.mono hB15.size)
      unfold BlkM.c blk0 qc0 at hB16
      unfold blk0 qc0
      simp only [List.length_nil] at hB16 ⊢
      clear hbx hB15 hv hres Hk her
      go_wp2_with fail
      refine (cE _).mono ?_
      rintro e w20 ⟨q, eq, rfl, hq, hresq, hqf, hb20⟩
      have hB20 := hB16.trans (hb20.mono hB16.size)
      clear hB16 hb20 cE hqf
      unfold QcM.v
      rcases hresq with ⟨rfl, hresq⟩ | ⟨heq, hresq, rfl⟩
      · obtain ⟨hqe, hqs⟩ := Hq.out q hresq
        have hbx := belowNew w20 (.cells q.c.toArray 24)
        have hQ21 : Arr _ w20.heap.size 24 [.int .i64 q.view, .string q.block, .slice q.va q.votes.length q.vc] := Arr.new w20 24 q.c
        have hB21 := hB20.trans (hbx.mono hB20.size)
        have hq21 := hq.below hbx
        have cN := encodeQc_any q _ hq21 hqe
        rw [hqs] at cN
        clear hbx hB20 hq hresq hqs Hq
        unfold QcM.v at cN
        unfold QcM.c at cN hQ21 hB21 hq21
        have q0 := hQ21.cell (i := 0) rfl
        have q1 := hQ21.cell (i := 1) rfl
        have q2 := hQ21.cell (i := 2) rfl
        go_wp2_with fail
        refine cN.mono ?_
        rintro e w22 ⟨rfl, hb22⟩
        have hB22 := hB21.trans (hb22.mono hB21.size)
        clear hQ21 hB21 hq21 hb22 cN q0 q1 q2
        go_wp2
        go_ret
        exact ⟨rfl, hB22⟩
      · have heq' : ((eq : Int) != 0) = true := by rw [bne_iff_ne]; omega
        have hbx := belowNew w20 (.cells qc0.c.toArray 24)
        have hB21 := hB20.trans (hbx.mono hB20.size)
        unfold QcM.c qc0 at hB21
        unfold qc0
        simp only [List.length_nil] at hB21 ⊢
        clear hbx hB20 hq hresq Hq heq
        go_wp2
        go_ret
        exact ⟨rfl, hB21⟩
  replace hck : ck = 0 := by omega
  subst hck
  obtain ⟨hfit, hlen⟩ := Hfit.out rfl
  have hqfit := hfit.qc
  have hqlen := hfit.len
  clear Hfit
  have x0 := hX5.cell (i := 0) rfl
  have x1 := hX5.cell (i := 1) rfl
  have x2 := hX5.cell (i := 2) rfl
  have x3 := hX5.cell (i := 3) rfl
  have x4 := hX5.cell (i := 4) rfl
  go_wp2_with fail
  refine (cO _ (hA.below hB5)).mono ?_
  rintro e w6 ⟨y, rfl, hyd, hy, hyf, hb6⟩
  have hX6 := hX5.below hb6 hX5.lt
  have hB6 := hB5.trans (hb6.mono hB5.size)
  have cN := blkEncode_any y w6 hy (blkEnc_of (by rw [hyd]; exact hfit))
  rw [hyd] at cN
  have hes : (⟨(encK x.d).toArray⟩ : ByteArray).size ≤ maxLen := by rw [size_mk]; unfold maxLen; omega
  have cD2 := fun w1 => blkDecode_any ⟨(encK x.d).toArray⟩ w1 hes
  obtain ⟨eb, heb⟩ : ∃ q, q = (⟨(encK x.d).toArray⟩ : ByteArray) := ⟨_, rfl⟩
  rw [← heb] at cN cD2
  have hebl : eb.data.toList = encK x.d := by rw [heb]
  rw [hebl] at cD2
  have Hok : Hid (∀ (z : BlkM) (er : Nat), ((er = 0 ∧ decK (encK x.d) = .ok z.d) ∨ (er ≠ 0 ∧ decK (encK x.d) = .error er ∧ z = blk0)) → er = 0 ∧ z.d = x.d) := fun z er h => blk_ok hfit h
  generalize decK (encK x.d) = rr at cD2 Hok
  unfold BlkM.v at cN ⊢
  clear hX5 hB5 hb6 cO x0 x1 x2 x3 x4 hyf hy hyd hes heb hebl
  go_wp2_with fail
  refine cN.mono ?_
  rintro e w7 ⟨rfl, hb7⟩
  have hX7 := hX6.below hb7 hX6.lt
  have hB7 := hB6.trans (hb7.mono hB6.size)
  clear cN hX6 hB6 hb7
  go_wp2_with fail
  refine (cD2 _).mono ?_
  rintro e w8 ⟨z, ez, rfl, hz, hresz, hzf, hb8⟩
  obtain ⟨hez, hzd⟩ := Hok.out z ez hresz
  subst hez
  have hX8 := hX7.below hb8 hX7.lt
  have hB8 := hB7.trans (hb8.mono hB7.size)
  have hbx := belowNew w8 (.cells z.c.toArray 27)
  have hZ9 : Arr _ w8.heap.size 27 [.int .i64 z.view, .int .i64 z.qc.view, .string z.qc.block, .slice z.qc.va z.qc.votes.length z.qc.vc, .slice z.ca z.certs.length z.cc] := Arr.new w8 27 z.c
  have hX9 := hX8.below hbx hX8.lt
  have hB9 := hB8.trans (hbx.mono hB8.size)
  have hz9 := hz.below hbx
  unfold BlkM.v
  unfold BlkM.c at hZ9 hX9 hB9 hz9
  clear cD2 Hok hresz hzf hb8 hX7 hB7 hX8 hB8 hbx hz
  obtain ⟨w9, hw9⟩ : ∃ q, w8.alloc (.cells [.int .i64 z.view, .int .i64 z.qc.view, .string z.qc.block, .slice z.qc.va z.qc.votes.length z.qc.vc, .slice z.ca z.certs.length z.cc].toArray 27) = q := ⟨_, rfl⟩
  rw [hw9] at hZ9 hX9 hB9 hz9
  have x0 := hX9.cell (i := 0) rfl
  have x1 := hX9.cell (i := 1) rfl
  have x2 := hX9.cell (i := 2) rfl
  have x3 := hX9.cell (i := 3) rfl
  go_wp2_with fail
  refine (cP _ (hA.below hB9).qc).mono ?_
  rintro e w10 ⟨p, rfl, hpd, hp, hpf, hb10⟩
  have hX10 := hX9.below hb10 hX9.lt
  have hZ10 := hZ9.below hb10 hZ9.lt
  have hz10 := hz9.below hb10
  have hB10 := hB9.trans (hb10.mono hB9.size)
  have cM := encodeQc_any p w10 hp (qcEnc_of (by rw [hpd]; exact hqfit))
  rw [hpd] at cM
  have hes : (⟨(encQ x.qc.d).toArray⟩ : ByteArray).size ≤ maxLen := by rw [size_mk]; have h9 : (encQ x.qc.d).length ≤ 65536 := hqlen; unfold maxLen; omega
  have cE2 := fun w1 => decodeQc_any ⟨(encQ x.qc.d).toArray⟩ w1 hes
  obtain ⟨qb, hqb⟩ : ∃ q, q = (⟨(encQ x.qc.d).toArray⟩ : ByteArray) := ⟨_, rfl⟩
  rw [← hqb] at cM cE2
  have hqbl : qb.data.toList = encQ x.qc.d := by rw [hqb]
  rw [hqbl] at cE2
  have Hok : Hid (∀ (z : QcM) (er : Nat), ((er = 0 ∧ decQ (encQ x.qc.d) = .ok z.d) ∨ (er ≠ 0 ∧ decQ (encQ x.qc.d) = .error er ∧ z = qc0)) → er = 0 ∧ z.d = x.qc.d) := fun z er h => qc_ok hqfit h
  generalize decQ (encQ x.qc.d) = rr2 at cE2 Hok
  unfold QcM.v at cM ⊢
  clear hX9 hZ9 hz9 hB9 hb10 cP x0 x1 x2 x3 hpf hp hpd hes hqb hqbl hw9
  go_wp2_with fail
  refine cM.mono ?_
  rintro e w11 ⟨rfl, hb11⟩
  have hX11 := hX10.below hb11 hX10.lt
  have hZ11 := hZ10.below hb11 hZ10.lt
  have hz11 := hz10.below hb11
  have hB11 := hB10.trans (hb11.mono hB10.size)
  clear cM hX10 hZ10 hz10 hB10 hb11
  go_wp2_with fail
  refine (cE2 _).mono ?_
  rintro e w12 ⟨q, eq, rfl, hq, hresq, hqf, hb12⟩
  obtain ⟨heq, hqd⟩ := Hok.out q eq hresq
  subst heq
  have hX12 := hX11.below hb12 hX11.lt
  have hZ12 := hZ11.below hb12 hZ11.lt
  have hz12 := hz11.below hb12
  have hB12 := hB11.trans (hb12.mono hB11.size)
  have hbx := belowNew w12 (.cells q.c.toArray 24)
  have hQ13 : Arr _ w12.heap.size 24 [.int .i64 q.view, .string q.block, .slice q.va q.votes.length q.vc] := Arr.new w12 24 q.c
  have hX13 := hX12.below hbx hX12.lt
  have hZ13 := hZ12.below hbx hZ12.lt
  have hz13 := hz12.below hbx
  have hq13 := hq.below hbx
  have hB13 := hB12.trans (hbx.mono hB12.size)
  unfold QcM.v
  unfold QcM.c at hQ13 hX13 hZ13 hz13 hq13 hB13
  clear cE2 Hok hresq hqf hb12 hX11 hZ11 hz11 hB11 hX12 hZ12 hz12 hB12 hbx hq
  obtain ⟨w13, hw13⟩ : ∃ q', w12.alloc (.cells [.int .i64 q.view, .string q.block, .slice q.va q.votes.length q.vc].toArray 24) = q' := ⟨_, rfl⟩
  rw [hw13] at hQ13 hX13 hZ13 hz13 hq13 hB13
  have hzl : z.qc.votes.length ≤ 4611686018427387903 ∧ z.certs.length ≤ 4611686018427387903 := by
    have h1 : z.d.Fit := by rw [hzd]; exact hfit
    have h2 : z.qc.votes.length ≤ 7 := h1.qc.few
    have h3 : z.certs.length ≤ 8 := h1.few
    omega
  have hql : q.votes.length ≤ 4611686018427387903 := by
    have h1 : q.d.Fit := by rw [hqd]; exact hqfit
    have h2 : q.votes.length ≤ 7 := h1.few
    omega
  have cS := sameK_any z x w13 hz13 (hA.below hB13) hzd hzl.1 hzl.2
  have cT := fun w1 h1 h2 => sameQ_any q x.qc w1 h1 h2 hqd hql
  unfold BlkM.v at cS
  unfold QcM.v at cT
  have x0 := hX13.cell (i := 0) rfl
  have x1 := hX13.cell (i := 1) rfl
  have x2 := hX13.cell (i := 2) rfl
  have x3 := hX13.cell (i := 3) rfl
  have x4 := hX13.cell (i := 4) rfl
  have z0 := hZ13.cell (i := 0) rfl
  have z1 := hZ13.cell (i := 1) rfl
  have z2 := hZ13.cell (i := 2) rfl
  have z3 := hZ13.cell (i := 3) rfl
  have z4 := hZ13.cell (i := 4) rfl
  clear hzl hql hzd hqd hfit hlen hqfit hqlen
  go_wp2_with fail
  refine cS.mono ?_
  rintro e w14 ⟨rfl, hb14⟩
  have hX14 := hX13.below hb14 hX13.lt
  have hQ14 := hQ13.below hb14 hQ13.lt
  have hq14 := hq13.below hb14
  have hB14 := hB13.trans (hb14.mono hB13.size)
  clear cS hX13 hZ13 hz13 hQ13 hq13 hB13 hb14 x0 x1 x2 x3 x4 z0 z1 z2 z3 z4 hw13
  have x0 := hX14.cell (i := 0) rfl
  have x1 := hX14.cell (i := 1) rfl
  have x2 := hX14.cell (i := 2) rfl
  have x3 := hX14.cell (i := 3) rfl
  have q0 := hQ14.cell (i := 0) rfl
  have q1 := hQ14.cell (i := 1) rfl
  have q2 := hQ14.cell (i := 2) rfl
  go_wp2_with fail
  refine (cT _ hq14 (hA.below hB14).qc).mono ?_
  rintro e w14b ⟨rfl, hb14b⟩
  have hB14b := hB14.trans (hb14b.mono hB14.size)
  clear cT hX14 hQ14 hq14 hB14 hb14b x0 x1 x2 x3 q0 q1 q2
  go_wp2_with fail
  refine (cD _).mono ?_
  rintro e w15 ⟨v, er, rfl, hv, hres, hvf, hb15⟩
  have hB15 := hB14b.trans (hb15.mono hB14b.size)
  clear hB14b hb15 cD hvf
  unfold BlkM.v
  rcases hres with ⟨rfl, hres⟩ | ⟨her, hres, rfl⟩
  · obtain ⟨hve, hvs⟩ := Hk.out v hres
    have hbx := belowNew w15 (.cells v.c.toArray 27)
    have hV16 : Arr _ w15.heap.size 27 [.int .i64 v.view, .int .i64 v.qc.view, .string v.qc.block, .slice v.qc.va v.qc.votes.length v.qc.vc, .slice v.ca v.certs.length v.cc] := Arr.new w15 27 v.c
    have hB16 := hB15.trans (hbx.mono hB15.size)
    have hv16 := hv.below hbx
    have cN := blkEncode_any v _ hv16 hve
    rw [hvs] at cN
    clear hbx hB15 hv hres hvs Hk
    unfold BlkM.v at cN
    unfold BlkM.c at cN hV16 hB16 hv16
    have v0 := hV16.cell (i := 0) rfl
    have v1 := hV16.cell (i := 1) rfl
    have v2 := hV16.cell (i := 2) rfl
    have v3 := hV16.cell (i := 3) rfl
    have v4 := hV16.cell (i := 4) rfl
    go_wp2_with fail
    refine cN.mono ?_
    rintro e w17 ⟨rfl, hb17⟩
    have hB17 := hB16.trans (hb17.mono hB16.size)
    clear hV16 hB16 hv16 hb17 cN v0 v1 v2 v3 v4
    go_wp2_with fail
    refine (cE _).mono ?_
    rintro e w20 ⟨q, eq, rfl, hq, hresq, hqf, hb20⟩
    have hB20 := hB17.trans (hb20.mono hB17.size)
    clear hB17 hb20 cE hqf
    unfold QcM.v
    rcases hresq with ⟨rfl, hresq⟩ | ⟨heq, hresq, rfl⟩
    · obtain ⟨hqe, hqs⟩ := Hq.out q hresq
      have hbx := belowNew w20 (.cells q.c.toArray 24)
      have hQ21 : Arr _ w20.heap.size 24 [.int .i64 q.view, .string q.block, .slice q.va q.votes.length q.vc] := Arr.new w20 24 q.c
      have hB21 := hB20.trans (hbx.mono hB20.size)
      have hq21 := hq.below hbx
      have cN := encodeQc_any q _ hq21 hqe
      rw [hqs] at cN
      clear hbx hB20 hq hresq hqs Hq
      unfold QcM.v at cN
      unfold QcM.c at cN hQ21 hB21 hq21
      have q0 := hQ21.cell (i := 0) rfl
      have q1 := hQ21.cell (i := 1) rfl
      have q2 := hQ21.cell (i := 2) rfl
      go_wp2_with fail
      refine cN.mono ?_
      rintro e w22 ⟨rfl, hb22⟩
      have hB22 := hB21.trans (hb22.mono hB21.size)
      clear hQ21 hB21 hq21 hb22 cN q0 q1 q2
      go_wp2
      go_ret
      exact ⟨rfl, hB22⟩
    · have heq' : ((eq : Int) != 0) = true := by rw [bne_iff_ne]; omega
      have hbx := belowNew w20 (.cells qc0.c.toArray 24)
      have hB21 := hB20.trans (hbx.mono hB20.size)
      unfold QcM.c qc0 at hB21
      unfold qc0
      simp only [List.length_nil] at hB21 ⊢
      clear hbx hB20 hq hresq Hq heq
      go_wp2
      go_ret
      exact ⟨rfl, hB21⟩
  · have her' : ((er : Int) == 0) = false := by rw [beq_eq_false_iff_ne]; omega
    have her2 : ¬ (er : Int) = 0 := by omega
    have hbx := belowNew w15 (.cells blk0.c.toArray 27)
    have hB16 := hB15.trans (hbx.mono hB15.size)
    unfold BlkM.c blk0 qc0 at hB16
    unfold blk0 qc0
    simp only [List.length_nil] at hB16 ⊢
    clear hbx hB15 hv hres Hk her
    go_wp2_with fail
    refine (cE _).mono ?_
    rintro e w20 ⟨q, eq, rfl, hq, hresq, hqf, hb20⟩
    have hB20 := hB16.trans (hb20.mono hB16.size)
    clear hB16 hb20 cE hqf
    unfold QcM.v
    rcases hresq with ⟨rfl, hresq⟩ | ⟨heq, hresq, rfl⟩
    · obtain ⟨hqe, hqs⟩ := Hq.out q hresq
      have hbx := belowNew w20 (.cells q.c.toArray 24)
      have hQ21 : Arr _ w20.heap.size 24 [.int .i64 q.view, .string q.block, .slice q.va q.votes.length q.vc] := Arr.new w20 24 q.c
      have hB21 := hB20.trans (hbx.mono hB20.size)
      have hq21 := hq.below hbx
      have cN := encodeQc_any q _ hq21 hqe
      rw [hqs] at cN
      clear hbx hB20 hq hresq hqs Hq
      unfold QcM.v at cN
      unfold QcM.c at cN hQ21 hB21 hq21
      have q0 := hQ21.cell (i := 0) rfl
      have q1 := hQ21.cell (i := 1) rfl
      have q2 := hQ21.cell (i := 2) rfl
      go_wp2_with fail
      refine cN.mono ?_
      rintro e w22 ⟨rfl, hb22⟩
      have hB22 := hB21.trans (hb22.mono hB21.size)
      clear hQ21 hB21 hq21 hb22 cN q0 q1 q2
      go_wp2
      go_ret
      exact ⟨rfl, hB22⟩
    · have heq' : ((eq : Int) != 0) = true := by rw [bne_iff_ne]; omega
      have hbx := belowNew w20 (.cells qc0.c.toArray 24)
      have hB21 := hB20.trans (hbx.mono hB20.size)
      unfold QcM.c qc0 at hB21
      unfold qc0
      simp only [List.length_nil] at hB21 ⊢
      clear hbx hB20 hq hresq Hq heq
      go_wp2
      go_ret
      exact ⟨rfl, hB21⟩
end Go.Proofs.YtoodapbmpbaogaaDoor

/- BlockBack: for every input the statement answers true, and each argument reads afterwards as it read before. Condition: the two tables of package mix read as the program's text lays them; no other. -/
namespace Go.Proofs.YtoodapbmpbaogaaDoor
open Go.ChangeShapes Go.WideShapes Go.ChangeAt Go.RowKit
open Go.ChangeMaps (open_string shut_string)
set_option linter.unusedVariables false

set_option maxRecDepth 100000 in
theorem blockBack_lifted (os : Os) (started : os.Started) (H : Type) (enc : TypeId × Value → H) :
    ReturnsInHanded {} Tryd.checked os 4 .any (fun w args => (Rows.blockBackSpec.pre enc Tryd.prog Tryd.f4 [] false w args ∧ laidMetH Tryd.prog Mx.laid2 w) ∧ sizedMet enc Tryd.prog Tryd.f4 (OpenSpec.ofChange Rows.blockBackSpec) false w args)
      (Rows.blockBackSpec.post enc Tryd.prog Tryd.f4 false true false false) := by
  refine returnsInHanded_of_change_and (C := Tryd.checked) (X := fun w _ => laidMetH Tryd.prog Mx.laid2 w) (fun _ _ _ hh h => h.of_heap hh) ownKnob_none started (by kernel_rfl) Tryd.func4
    (ChangeSpec.witness_shaped (enc := enc) (C := Tryd.checked) (os := os) (X := fun w _ => laidMetH Tryd.prog Mx.laid2 w) false (World.doorLaid Tryd.prog 400 os) #[.int .i64 0, .agg #[.int .i64 0, .int .i64 0, .string ByteArray.empty, .slice none 0 0, .slice none 0 0], .string ByteArray.empty] 8 rfl (World.shaped_of_RefB (by kernel_rfl) (by kernel_rfl)) (by kernel_rfl) (by kernel_rfl) (by kernel_rfl) (Mx.door_met os _)) ?_
  intro W base args ds gs before hval0 hW hcnd hsz0 hL _
  have hval : ∀ (j : Nat) t v, Tryd.f4.params[j]? = some t → args[j]? = some v → Value.okWide Tryd.prog W .any base t v := hval0
  have hsz : (DataW.weightsEach Tryd.prog (Tryd.f4.params.toList ++ Rows.blockBackSpec.plain.varTypes Tryd.prog) (ds ++ gs)).all (· ≤ reachBytes) = true := hsz0
  have hW' := hW
  obtain ⟨p, q, hA0, hV, rfl, hfz, hnd⟩ := hW
  have hA : DataW.TrodAll enc Tryd.prog W 0 (fun _ => true) true Tryd.f4.params.toList args.toList ds p := hA0
  rw [Tryd.params4] at hA hval hsz
  obtain ⟨v0, vs0, d0, ds0, p0, q0, hargs, rfl, rfl, h0, r0⟩ := trodAll_cons hA
  obtain ⟨v1, vs1, d1, ds1, p1, q1, rfl, rfl, rfl, h1, r1⟩ := trodAll_cons r0
  obtain ⟨v2, vs2, d2, ds2, p2, q2, rfl, rfl, rfl, h2, r2⟩ := trodAll_cons r1
  obtain ⟨rfl, rfl, rfl⟩ := trodAll_nil r2
  obtain rfl : args = #[v0, v1, v2] := by cases args; simp_all
  obtain ⟨rfl, rfl⟩ := trodVars_none hV
  have k0 := h0
  have lt0 : ∀ x ∈ p0, x.block < W.heap.size := by obtain ⟨m, hm⟩ := k0; exact DataW.trod_lt m _ _ _ hm
  obtain ⟨a0, rfl, hd0, hp0, w0⟩ := open_int Tryd.underlying3 (hval 0 3 v0 rfl rfl) h0
  have k1 := h1
  have lt1 : ∀ x ∈ p1, x.block < W.heap.size := by obtain ⟨m, hm⟩ := k1; exact DataW.trod_lt m _ _ _ hm
  obtain ⟨x1, rfl, at1, qd1, cc1⟩ := open_blk (hval 1 27 v1 rfl rfl) h1
  have sl1 := blk_sized hsz (j := 1) rfl rfl qd1
  have k2 := h2
  have lt2 : ∀ x ∈ p2, x.block < W.heap.size := by obtain ⟨m, hm⟩ := k2; exact DataW.trod_lt m _ _ _ hm
  obtain ⟨a2, rfl, hd2, hp2, w2⟩ := open_string Tryd.underlying9 (hval 2 9 v2 rfl rfl) h2
  have s2 : a2.size ≤ 140737488351232 := by
    have := sized_string hsz (j := 2) (t := 9) (bytes := a2.data.toList) rfl (by rw [hd2]; rfl)
    simpa [reachBytes] using this
  clear hA0 hval0 hsz0
  refine (blockBack_walk a0 x1 a2 W w0 at1 sl1 s2 (Mx.of_laid hL)).mono fun e W' ⟨he, bel⟩ => ?_
  subst he
  exact ⟨_, rfl, _, _, _, [], _, [], hW', trodAll_mk1 (shut_bool Tryd.underlying4 _), (trodAll_cons_mk (Below.trod laidOut_true (by kernel_rfl) (of_decide_eq_true (by kernel_rfl)) k0 bel lt0) (trodAll_cons_mk (Below.trod laidOut_true (by kernel_rfl) (of_decide_eq_true (by kernel_rfl)) k1 bel lt1) (trodAll_cons_mk (Below.trod laidOut_true (by kernel_rfl) (of_decide_eq_true (by kernel_rfl)) k2 bel lt2) trodAll_mk0))), rfl, bel.frame _, fun h => by cases h⟩

theorem blockBack_holds : Rows.BlockBackSaid :=
  OpenClaim.holds_of_wide 4 Tryd.f4 rfl rfl rfl rfl rfl rfl rfl ⟨rfl, rfl, rfl, rfl, rfl⟩ rfl rfl rfl rfl rfl (by kernel_rfl) Tryd.func4 (by kernel_rfl)
    (of_decide_eq_true (by kernel_rfl)) (by unfold Func.isWrapper; rw [if_neg (of_decide_eq_false (by kernel_rfl))]; exact ⟨rfl, rfl⟩)
    (fun os started H enc _ => blockBack_lifted os started H enc)

theorem blockBack_card : Rows.BlockBackCardSaid :=
  Claim7.holds_tied_plain_at .later [] [.data, .data] true (true, "9b200217b6f6b519613b493f24995ae3180a9199bc923eb04e9d1025e2e0dfcb") false
    blockBack_holds (fun _ h => by cases h) (by kernel_rfl) (fun _ h => by cases h) blockBack_row_tie rfl ⟨rfl, rfl⟩ (by kernel_rfl) rfl
    (fun f fn hf hfn => by
      obtain rfl : f = 4 := Option.some.inj ((show Tryd.prog.funcNamed "tusk/tusklaw08.BlockBack" = some 4 by kernel_rfl).symm.trans hf) |>.symm
      obtain rfl : fn = Tryd.f4 := (Option.some.inj (Tryd.func4.symm.trans hfn)).symm
      exact ⟨by kernel_rfl, fun j t ht => by
        rw [Tryd.params4] at ht
        have hall : ∀ t ∈ (#[3, 27, 9] : Array TypeId).toList, Tryd.prog.wantsStandIn t = false := by
          show ∀ t ∈ ([3, 27, 9] : List TypeId), Tryd.prog.wantsStandIn t = false
          refine List.forall_mem_cons.2 ⟨by kernel_rfl, ?_⟩
          refine List.forall_mem_cons.2 ⟨by kernel_rfl, ?_⟩
          refine List.forall_mem_cons.2 ⟨by kernel_rfl, ?_⟩
          exact fun _ h => by cases h
        exact hall t (Array.mem_toList_iff.2 (Array.mem_of_getElem? ht))⟩)
    (by kernel_rfl)
end Go.Proofs.YtoodapbmpbaogaaDoor
