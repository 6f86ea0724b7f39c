/- What tuskref08.SameQc and tuskref08.Same say of two that are the same; nothing old in memory is turned. -/
import Derived.Test.YtepgdbpofppdcaaBlkRows
import Derived.Test.YtepgdbpofppdcaaRefHdrSame
namespace Go.Proofs.Ytepgdbpofppdcaa
open Go.RowKit
set_option linter.unusedVariables false

set_option maxRecDepth 100000 in
set_option maxHeartbeats 2000000 in
theorem sameQ_any (a b : QcM) (w : World) (hA : a.At w) (hB : b.At w) (hd : a.d = b.d) (hv : a.votes.length ≤ 4611686018427387903) :
    Calls Try.prog 19 #[a.v, b.v] w fun e w' => e = .returned (.bool true) ∧ Below w.heap.size w w' := by
  obtain ⟨v0, k0, a0, l0, c0⟩ := a
  obtain ⟨v1, k1, a1, l1, c1⟩ := b
  simp only [QcM.d, QcD.mk.injEq] at hd
  obtain ⟨rfl, rfl, rfl⟩ := hd
  have hA1 : RowAt tagK w a0 l0 := hA.votes
  have hB1 : RowAt tagK w a1 l0 := hB.votes
  obtain ⟨hX, hY, hb⟩ := two_new w 37 37 [.int .i64 v0, .string k0, .slice a0 l0.length c0] [.int .i64 v0, .string k0, .slice a1 l0.length c1]
  have cV := sameTags_any a0 a1 c0 c1 l0 _ (hA1.below hb) (hB1.below hb) hv
  unfold QcM.v
  simp only
  clear hA hB hA1 hB1 hv
  obtain ⟨w1, hw1⟩ : ∃ q, (w.alloc (.cells [.int .i64 v0, .string k0, .slice a0 l0.length c0].toArray 37)).alloc (.cells [.int .i64 v0, .string k0, .slice a1 l0.length c1].toArray 37) = q := ⟨_, rfl⟩
  rw [hw1] at hX hY hb cV
  have x0 := hX.cell (i := 0) rfl
  have x1 := hX.cell (i := 1) rfl
  have x2 := hX.cell (i := 2) rfl
  have y0 := hY.cell (i := 0) rfl
  have y1 := hY.cell (i := 1) rfl
  have y2 := hY.cell (i := 2) rfl
  go_enter Try.func19, Try.ntmps19
  go_wp2_with fail
  refine cV.mono ?_
  rintro e w2 ⟨rfl, hb2⟩
  have hB2 := hb.trans (hb2.mono hb.size)
  clear cV hX hY hb hb2 x0 x1 x2 y0 y1 y2
  go_wp2
  go_ret
  exact ⟨rfl, hB2⟩

set_option maxRecDepth 100000 in
set_option maxHeartbeats 2000000 in
theorem sameK_any (a b : BlkM) (w : World) (hA : a.At w) (hB : b.At w) (hd : a.d = b.d) (hv : a.qc.votes.length ≤ 4611686018427387903) (hc : a.certs.length ≤ 4611686018427387903) :
    Calls Try.prog 18 #[a.v, b.v] w fun e w' => e = .returned (.bool true) ∧ Below w.heap.size w w' := by
  obtain ⟨v0, q0, a0, l0, c0⟩ := a
  obtain ⟨v1, q1, a1, l1, c1⟩ := b
  simp only [BlkM.d, BlkD.mk.injEq] at hd
  obtain ⟨rfl, hq, rfl⟩ := hd
  have hA1 : RowAt strK w a0 l0 := hA.certs
  have hB1 : RowAt strK w a1 l0 := hB.certs
  have hAq : q0.At w := hA.qc
  have hBq : q1.At w := hB.qc
  obtain ⟨hX, hY, hb⟩ := two_new w 39 39 [.int .i64 v0, .int .i64 q0.view, .string q0.block, .slice q0.va q0.votes.length q0.vc, .slice a0 l0.length c0] [.int .i64 v0, .int .i64 q1.view, .string q1.block, .slice q1.va q1.votes.length q1.vc, .slice a1 l0.length c1]
  have cQ := sameQ_any q0 q1 _ (hAq.below hb) (hBq.below hb) hq hv
  have cS := fun w1 h0 h1 => same_any a0 a1 c0 c1 l0 w1 h0 h1 (by have := hc; simp only at this; omega)
  have hS0 := hA1.below hb
  have hS1 := hB1.below hb
  unfold QcM.v at cQ
  unfold BlkM.v
  simp only
  clear hA hB hA1 hB1 hv hc hAq hBq hq
  obtain ⟨w1, hw1⟩ : ∃ q, (w.alloc (.cells [.int .i64 v0, .int .i64 q0.view, .string q0.block, .slice q0.va q0.votes.length q0.vc, .slice a0 l0.length c0].toArray 39)).alloc (.cells [.int .i64 v0, .int .i64 q1.view, .string q1.block, .slice q1.va q1.votes.length q1.vc, .slice a1 l0.length c1].toArray 39) = q := ⟨_, rfl⟩
  rw [hw1] at hX hY hb cQ hS0 hS1
  have x0 := hX.cell (i := 0) rfl
  have x1 := hX.cell (i := 1) rfl
  have x2 := hX.cell (i := 2) rfl
  have x3 := hX.cell (i := 3) rfl
  have y0 := hY.cell (i := 0) rfl
  have y1 := hY.cell (i := 1) rfl
  have y2 := hY.cell (i := 2) rfl
  have y3 := hY.cell (i := 3) rfl
  go_enter Try.func18, Try.ntmps18
  go_wp2_with fail
  refine cQ.mono ?_
  rintro e w2 ⟨rfl, hb2⟩
  have hX2 := hX.below hb2 hX.lt
  have hY2 := hY.below hb2 hY.lt
  have hS02 := hS0.below hb2
  have hS12 := hS1.below hb2
  have hB2 := hb.trans (hb2.mono hb.size)
  clear cQ hX hY hS0 hS1 hb hb2 x0 x1 x2 x3 y0 y1 y2 y3
  have x4 := hX2.cell (i := 4) rfl
  have y4 := hY2.cell (i := 4) rfl
  go_wp2_with fail
  refine (cS _ hS02.strs hS12.strs).mono ?_
  rintro e w3 ⟨rfl, hb3⟩
  have hB3 := hB2.trans (hb3.mono hB2.size)
  clear cS hX2 hY2 hS02 hS12 hB2 hb3 x4 y4
  go_wp2
  go_ret
  exact ⟨rfl, hB3⟩
end Go.Proofs.Ytepgdbpofppdcaa
