/- The laws' own example of a table. -/
import Derived.Test.YtegahpgokmcjhaaTabTwo
import Derived.Deep.RegionHeld3
namespace Go.Proofs.Ytegahpgokmcjhaa
open Go.RowKit
set_option linter.unusedVariables false

def xB : ThingD := ⟨⟨#[98]⟩, 1, ⟨#[120]⟩⟩
def xA : ThingD := ⟨⟨#[97]⟩, 1, ⟨#[121]⟩⟩

theorem wk1 : putEP 2 [] (-9223372036854775808) ⟨#[98]⟩ 1 = 0 ∧ putTP 2 [] (-9223372036854775808) ⟨⟨#[98]⟩, 1, ⟨#[120]⟩⟩ = [xB] := by
  have h : putEP 2 [] (-9223372036854775808) ⟨#[98]⟩ 1 = 0 := by simp [putEP, getR]
  refine ⟨h, ?_⟩
  unfold putTP
  rw [if_pos h]
  rfl
theorem wk2 : putEP 2 [xB] (-9223372036854775808) ⟨#[97]⟩ 1 = 0 ∧ putTP 2 [xB] (-9223372036854775808) ⟨⟨#[97]⟩, 1, ⟨#[121]⟩⟩ = [xA, xB] := by
  have h : putEP 2 [xB] (-9223372036854775808) ⟨#[97]⟩ 1 = 0 := by simp [putEP, getR, xB, ByteArray.toList_eq]
  refine ⟨h, ?_⟩
  unfold putTP
  rw [if_pos h, putL_cons, if_neg (by simp [xB, ByteArray.toList_eq]; decide)]
  rfl
theorem wk3 (s : ByteArray) : putEP 2 [xA, xB] (-9223372036854775808) ⟨#[99]⟩ 2 = 4 ∧ putTP 2 [xA, xB] (-9223372036854775808) ⟨⟨#[99]⟩, 2, s⟩ = [xA, xB] := by
  have h : putEP 2 [xA, xB] (-9223372036854775808) ⟨#[99]⟩ 2 = 4 := by simp [putEP, getR, xA, xB, ByteArray.toList_eq]
  refine ⟨h, ?_⟩
  unfold putTP
  rw [if_neg (by rw [h]; decide)]
theorem wk4 : idsL [xA, xB] 1 = [⟨#[97]⟩, ⟨#[98]⟩] := by rfl
theorem wk5 : dropL [xA, xB] 2 = [] := by rfl
theorem wk6 (s : ByteArray) : putEP 2 [] 2 ⟨#[98]⟩ 1 = 11 ∧ putTP 2 [] 2 ⟨⟨#[98]⟩, 1, s⟩ = [] := by
  have h : putEP 2 [] 2 ⟨#[98]⟩ 1 = 11 := by simp [putEP, getR]
  refine ⟨h, ?_⟩
  unfold putTP
  rw [if_neg (by rw [h]; decide)]

set_option maxRecDepth 100000 in
set_option maxHeartbeats 2000000 in
theorem works11_any (w : World) : Calls Try.prog 18 #[] w fun e w' => e = .returned (.bool true) ∧ Below w.heap.size w w' := by
  go_enter Try.func18, Try.ntmps18
  go_wp2_with fail
  refine (ptNew_any 2 w).mono ?_
  rintro e w0 ⟨tb, rfl, S0, hp0, hs0, hb0⟩
  rw [show max (0 : Int) 2 = 2 by decide] at hp0
  have c1 := ptPut_any ⟨#[98]⟩ (by decide) 1 ⟨#[120]⟩ tb S0 2 _ [] w0 hp0 (by decide)
  rw [wk1.1, wk1.2] at c1
  go_wp2_with fail
  refine c1.mono ?_
  rintro e w1 ⟨rfl, S1, hp1, hf1, hk1⟩
  have hs1 : ∀ k, S1 k → w.heap.size ≤ k := fun k hk => by rcases hf1 k hk with e | e; exact hs0 k e; have := hb0.size; omega
  have hb1 := hb0.trans (hk1.below hb0.size hs0)
  have c2 := ptPut_any ⟨#[97]⟩ (by decide) 1 ⟨#[121]⟩ tb S1 2 _ [xB] w1 hp1 (by decide)
  rw [wk2.1, wk2.2] at c2
  clear hp0 hs0 hb0 hf1 hk1 c1 hp1
  go_wp2_with fail
  refine c2.mono ?_
  rintro e w2 ⟨rfl, S2, hp2, hf2, hk2⟩
  have hs2 : ∀ k, S2 k → w.heap.size ≤ k := fun k hk => by rcases hf2 k hk with e | e; exact hs1 k e; have := hb1.size; omega
  have hb2 := hb1.trans (hk2.below hb1.size hs1)
  have c3 := ptPut_any ⟨#[99]⟩ (by decide) 2 ⟨#[122]⟩ tb S2 2 _ [xA, xB] w2 hp2 (by decide)
  rw [(wk3 ⟨#[122]⟩).1, (wk3 _).2] at c3
  clear hs1 hb1 hf2 hk2 c2 hp2
  go_wp2_with fail
  refine c3.mono ?_
  rintro e w3 ⟨rfl, S3, hp3, hf3, hk3⟩
  have hs3 : ∀ k, S3 k → w.heap.size ≤ k := fun k hk => by rcases hf3 k hk with e | e; exact hs2 k e; have := hb2.size; omega
  have hb3 := hb2.trans (hk3.below hb2.size hs2)
  have c4 := ptIds_any 1 tb S3 2 _ [xA, xB] w3 hp3
  rw [wk4] at c4
  clear hs2 hb2 hf3 hk3 c3
  go_wp2_with fail
  refine c4.mono ?_
  rintro e w4 ⟨vI, rfl, hQ, hbI⟩
  obtain ⟨aoI, capI, rfl, _, hRI⟩ := hQ.form
  obtain ⟨gI, offI, rfl, hgI, hcI⟩ := hRI.cell 0 _ rfl
  have hcI0 : w4.cell? ⟨gI, offI, none⟩ = some (.string ⟨#[97]⟩) := by have := hcI 0 _ rfl; simpa using this
  have hI3 : w3.heap.size ≤ gI := (hQ.lt gI rfl).1
  have hp4 := hp3.below hbI
  have hb4 := hb3.trans (hbI.mono hb3.size)
  have c5 := ptDrop_any 2 tb S3 2 _ [xA, xB] w4 hp4
  rw [wk5, show max (-9223372036854775808 : Int) 2 = 2 by decide] at c5
  have hoff : ∀ k, S3 k → k ≠ gI := fun k hk e => by have := hp3.lt hk; omega
  clear hp3 hbI c4 hb3 hQ
  go_wp2_with fail
  refine c5.mono ?_
  rintro e w5 ⟨rfl, S5, hp5, hf5, hk5⟩
  have hs5 : ∀ k, S5 k → w.heap.size ≤ k := fun k hk => by rcases hf5 k hk with e | e; exact hs3 k e; have := hb4.size; omega
  have hb5 := hb4.trans (hk5.below hb4.size hs3)
  have x5 : w5.cell? ⟨gI, offI, none⟩ = some (.string ⟨#[97]⟩) := (hk5.cell (p := ⟨gI, offI, none⟩) hgI (fun e => hoff _ e rfl)).trans hcI0
  have c6 := ptPut_any ⟨#[98]⟩ (by decide) 1 ⟨#[120]⟩ tb S5 2 _ [] w5 hp5 (by decide)
  rw [(wk6 ⟨#[120]⟩).1, (wk6 _).2] at c6
  clear hp4 hb4 c5 hf5 hcI hcI0 hk5 hRI hgI hoff
  go_wp2_with fail
  refine c6.mono ?_
  rintro e w6 ⟨rfl, S6, hp6, hf6, hk6⟩
  have hb6 := hb5.trans (hk6.below hb5.size hs5)
  clear hp5 hs5 hb5 x5 c6 hp6 hf6 hk6
  go_wp2_with fail
  go_ret
  exact ⟨rfl, hb6⟩
end Go.Proofs.Ytegahpgokmcjhaa
