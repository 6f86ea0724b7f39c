/- What tusklaw20.works does: the chapter's example. -/
import Derived.Test.YthegadhkhbokkaaAccEdges
import Derived.Test.YthegadhkhbokkaaAccGrp
import Derived.Test.YthegadhkhbokkaaAccPairEq
import Derived.Lib.QuietBelow
import Derived.BigQuiet
import Derived.Deep.QuietTactic
namespace Go.Proofs.Ythegadhkhbokkaa
open Go Go.RowKit Go.Sort
set_option linter.unusedVariables false

/-- A row that lies whole in one new block. -/
theorem Arr.rowAt {α : Type} {K : Kind α} {w : World} {g : Nat} {t : TypeId} {l : List α} {cs : List Value} (h : Arr w g t cs) (hc : cs = flatK K l) (hA : ∀ x ∈ l, K.At w x) : RowAt K w (some ⟨g, 0, none⟩) l := by
  subst hc
  refine ⟨fun i x hx => ⟨g, 0, rfl, h.lt, fun j v hv => ?_⟩, hA⟩
  have hj : j < K.n := by
    rw [← K.len x]
    exact (List.getElem?_eq_some_iff.1 hv).1
  rw [Nat.zero_add]
  exact h.cell (by rw [flatK_get K l i x hx j hj]; exact hv)

def keyA : ByteArray := ⟨#[97]⟩
def keyB : ByteArray := ⟨#[98]⟩

def ex0 (w : World) : TxA := ⟨0, ⟨#[]⟩, ⟨#[]⟩, 0, 0, ⟨#[]⟩, ⟨#[]⟩, [], [keyA], none, 0, some ⟨w.heap.size, 0, none⟩, 1⟩
def ex1 (w : World) : TxA := ⟨0, ⟨#[]⟩, ⟨#[]⟩, 0, 0, ⟨#[]⟩, ⟨#[]⟩, [keyA], [], some ⟨w.heap.size + 1, 0, none⟩, 1, none, 0⟩
def ex2 (w : World) : TxA := ⟨0, ⟨#[]⟩, ⟨#[]⟩, 0, 0, ⟨#[]⟩, ⟨#[]⟩, [], [keyB], none, 0, some ⟨w.heap.size + 1 + 1, 0, none⟩, 1⟩

def exL (w : World) : List TxA := [ex0 w, ex1 w, ex2 w]

def exR : List RwD := [⟨[], [keyA]⟩, ⟨[keyA], []⟩, ⟨[], [keyB]⟩]

theorem exL_rw (w : World) : rwL (exL w) = exR := rfl

theorem ex_edges : edgesL exR = [(0, 1)] := by decide +kernel

theorem ex_groups {gl : List Nat} (h : GSpec exR gl) : gl = [0, 0, 2] := by
  rw [h.uniq ref_groups]
  decide +kernel

theorem ex_clash : clashB ⟨[], [keyA]⟩ ⟨[keyA], []⟩ = true ∧ clashB ⟨[keyA], []⟩ ⟨[], [keyB]⟩ = false := by decide +kernel

/-- The example's world. -/
def exW (w : World) : World := (((w.alloc (.cells #[.string keyA] 9)).alloc (.cells #[.string keyA] 9)).alloc (.cells #[.string keyB] 9)).alloc (.cells (flatK txA (exL w)).toArray 26)

theorem ex_row (w : World) : RowAt txA (exW w) (some ⟨w.heap.size + 1 + 1 + 1, 0, none⟩) (exL w) ∧ Arr (exW w) (w.heap.size + 1 + 1 + 1) 26 (flatK txA (exL w)) ∧ Below w.heap.size w (exW w) ∧ Few (exL w) := by
  obtain ⟨h0, h1, h2, h3, hb⟩ := four_new w 9 9 9 26 [.string keyA] [.string keyA] [.string keyB] (flatK txA (exL w)) (exW w) rfl
  have r0 := h0.rowAt (K := textK) (l := [keyA]) rfl (fun _ _ => trivial)
  have r1 := h1.rowAt (K := textK) (l := [keyA]) rfl (fun _ _ => trivial)
  have r2 := h2.rowAt (K := textK) (l := [keyB]) rfl (fun _ _ => trivial)
  have zA : ∀ s ∈ [keyA], s.size ≤ maxLen := fun s h => by
    rw [List.mem_singleton.1 h]; unfold maxLen; decide
  have zB : ∀ s ∈ [keyB], s.size ≤ maxLen := fun s h => by
    rw [List.mem_singleton.1 h]; unfold maxLen; decide
  have z0 : ∀ s ∈ ([] : List ByteArray), s.size ≤ maxLen := fun s h => by cases h
  refine ⟨h3.rowAt rfl (fun x hx => ?_), h3, hb, (by show 3 ≤ 1000; decide), fun x hx => ?_⟩
  · simp only [exL, List.mem_cons, List.not_mem_nil, or_false] at hx
    rcases hx with rfl | rfl | rfl
    · exact ⟨nil_row _ _, r0, fun _ => rfl, (fun e => by cases e), z0, zA⟩
    · exact ⟨r1, nil_row _ _, (fun e => by cases e), fun _ => rfl, zA, z0⟩
    · exact ⟨nil_row _ _, r2, fun _ => rfl, (fun e => by cases e), z0, zB⟩
  · simp only [exL, List.mem_cons, List.not_mem_nil, or_false] at hx
    rcases hx with rfl | rfl | rfl
    · exact ⟨by simp [ex0], by simp [ex0]⟩
    · exact ⟨by simp [ex1], by simp [ex1]⟩
    · exact ⟨by simp [ex2], by simp [ex2]⟩

set_option maxRecDepth 100000 in
set_option maxHeartbeats 4000000 in
theorem works20_any (w : World) : Calls Try.prog 16 #[] w fun e w' => e = .returned (.bool true) ∧ Below w.heap.size w w' := by
  obtain ⟨hR, hX, hB, hF⟩ := ex_row w
  have cE := edges_any (exL w) (some ⟨w.heap.size + 1 + 1 + 1, 0, none⟩) 3 (exW w) hR hF
  rw [exL_rw] at cE
  go_enter Try.func16, Try.ntmps16
  go_wp2_with fail
  refine cE.mono ?_
  rintro _ w2 ⟨ea, ec, rfl, hE, hb2⟩
  rw [ex_edges] at hE ⊢
  have cG := groups_any (exL w) (some ⟨w.heap.size + 1 + 1 + 1, 0, none⟩) 3 w2 (hR.below hb2) hF
  rw [exL_rw] at cG
  clear cE
  go_wp2_with fail
  refine cG.mono ?_
  rintro _ w3 ⟨g, gl, rfl, hG, hsp, hb3⟩
  obtain rfl := ex_groups hsp
  rw [show exR.length = 3 from rfl] at hG ⊢
  have hE3 := hE.below hb3
  have hb4 := hb2.trans (hb3.mono hb2.size)
  have hR3 := hR.below hb4
  have hX3 := hX.below hb4 hX.lt
  have hB3 := hB.trans (hb4.mono hB.size)
  obtain ⟨eb, eo, rfl, _, _⟩ := hE3.spot (by decide)
  have e0 := hE3.rowOf.1.pair (i := 0) rfl
  obtain ⟨b1, o1, q1, _, e0, e1⟩ := e0
  simp only [Option.some.injEq, Addr.mk.injEq, and_true] at q1
  obtain ⟨rfl, rfl⟩ := q1
  obtain ⟨b1, o1, q1, _, g1⟩ := hG.rowOf.1.nat (i := 1) rfl
  simp only [Option.some.injEq, Addr.mk.injEq, and_true] at q1
  obtain ⟨rfl, rfl⟩ := q1
  obtain ⟨b1, o1, q1, _, g2⟩ := hG.rowOf.1.nat (i := 2) rfl
  simp only [Option.some.injEq, Addr.mk.injEq, and_true] at q1
  obtain ⟨rfl, rfl⟩ := q1
  have bl := fun d os => below_regrown w3 d os
  have a0 := hR3.at_ (ex0 w) (by simp [exL])
  have a1 := hR3.at_ (ex1 w) (by simp [exL])
  have a2 := hR3.at_ (ex2 w) (by simp [exL])
  have k1 : ∀ d os, Calls Try.prog 13 #[.agg #[.int .i64 0, .string ⟨#[]⟩, .string ⟨#[]⟩, .int .u64 0, .int .u64 0, .string ⟨#[]⟩, .string ⟨#[]⟩, .slice none 0 0, .slice (some ⟨w.heap.size, 0, none⟩) 1 1], .agg #[.int .i64 0, .string ⟨#[]⟩, .string ⟨#[]⟩, .int .u64 0, .int .u64 0, .string ⟨#[]⟩, .string ⟨#[]⟩, .slice (some ⟨w.heap.size + 1, 0, none⟩) 1 1, .slice none 0 0]] (grow (redrawn w3 d) os) fun e w'' => e = .returned (.bool true) ∧ ∃ p : Regrown, w'' = grow (redrawn w3 p.d) p.os := fun d os => Calls.regrown_of (by
    have := clashA_any (ex0 w) (ex1 w) _ (a0.below (bl d os)) (a1.below (bl d os)) (by simp [ex0]) (by simp [ex0]) (by simp [ex1]) (by simp [ex1])
    rw [show clashB (ex0 w).rw (ex1 w).rw = true from ex_clash.1] at this
    exact this)
  have k2 : ∀ d os, Calls Try.prog 13 #[.agg #[.int .i64 0, .string ⟨#[]⟩, .string ⟨#[]⟩, .int .u64 0, .int .u64 0, .string ⟨#[]⟩, .string ⟨#[]⟩, .slice (some ⟨w.heap.size + 1, 0, none⟩) 1 1, .slice none 0 0], .agg #[.int .i64 0, .string ⟨#[]⟩, .string ⟨#[]⟩, .int .u64 0, .int .u64 0, .string ⟨#[]⟩, .string ⟨#[]⟩, .slice none 0 0, .slice (some ⟨w.heap.size + 1 + 1, 0, none⟩) 1 1]] (grow (redrawn w3 d) os) fun e w'' => e = .returned (.bool false) ∧ ∃ p : Regrown, w'' = grow (redrawn w3 p.d) p.os := fun d os => Calls.regrown_of (by
    have := clashA_any (ex1 w) (ex2 w) _ (a1.below (bl d os)) (a2.below (bl d os)) (by simp [ex1]) (by simp [ex1]) (by simp [ex2]) (by simp [ex2])
    rw [show clashB (ex1 w).rw (ex2 w).rw = false from ex_clash.2] at this
    exact this)
  have A0 := cell_regrown (hX3.cell (i := 0) rfl)
  have A1 := cell_regrown (hX3.cell (i := 1) rfl)
  have A2 := cell_regrown (hX3.cell (i := 2) rfl)
  have A3 := cell_regrown (hX3.cell (i := 3) rfl)
  have A4 := cell_regrown (hX3.cell (i := 4) rfl)
  have A5 := cell_regrown (hX3.cell (i := 5) rfl)
  have A6 := cell_regrown (hX3.cell (i := 6) rfl)
  have A7 := cell_regrown (hX3.cell (i := 7) rfl)
  have A8 := cell_regrown (hX3.cell (i := 8) rfl)
  have A9 := cell_regrown (hX3.cell (i := 9) rfl)
  have A10 := cell_regrown (hX3.cell (i := 10) rfl)
  have A11 := cell_regrown (hX3.cell (i := 11) rfl)
  have A12 := cell_regrown (hX3.cell (i := 12) rfl)
  have A13 := cell_regrown (hX3.cell (i := 13) rfl)
  have A14 := cell_regrown (hX3.cell (i := 14) rfl)
  have A15 := cell_regrown (hX3.cell (i := 15) rfl)
  have A16 := cell_regrown (hX3.cell (i := 16) rfl)
  have A17 := cell_regrown (hX3.cell (i := 17) rfl)
  have A18 := cell_regrown (hX3.cell (i := 18) rfl)
  have A19 := cell_regrown (hX3.cell (i := 19) rfl)
  have A20 := cell_regrown (hX3.cell (i := 20) rfl)
  have A21 := cell_regrown (hX3.cell (i := 21) rfl)
  have A22 := cell_regrown (hX3.cell (i := 22) rfl)
  have A23 := cell_regrown (hX3.cell (i := 23) rfl)
  have A24 := cell_regrown (hX3.cell (i := 24) rfl)
  have A25 := cell_regrown (hX3.cell (i := 25) rfl)
  have A26 := cell_regrown (hX3.cell (i := 26) rfl)
  have E0 : ∀ d os, (grow (redrawn w3 d) os).cell? ⟨eb, eo, none⟩ = some (.int .i64 0) := cell_regrown e0
  have E1 : ∀ d os, (grow (redrawn w3 d) os).cell? ⟨eb, eo + 1, none⟩ = some (.int .i64 1) := cell_regrown e1
  have G1 : ∀ d os, (grow (redrawn w3 d) os).cell? ⟨g, 1, none⟩ = some (.int .i64 0) := cell_regrown g1
  have G2 : ∀ d os, (grow (redrawn w3 d) os).cell? ⟨g, 2, none⟩ = some (.int .i64 2) := cell_regrown g2
  have HBF : Hid (∀ d os, Below w.heap.size w (grow (redrawn w3 d) os)) := fun d os => hB3.trans ((bl d os).mono hB3.size)
  clear cG hE hG hsp hb2 hb3 hE3 hb4 hR3 hX3 hB3 e0 e1 g1 g2 bl a0 a1 a2 hR hX hB hF
  have hEq : ∀ W : World, (Op.equalIn 10000 37 (.agg #[.int .i64 0, .int .i64 1]) (.agg #[.int .i64 0, .int .i64 1])).run Try.prog W = .ok true W := fun W => pair_eqIn W 9998 0 1 0 1
  go_wp2_with fail
  refine wp_region_quiet_below (by kernel_rfl) (by kernel_rfl) ?_
  iterate 6 (go_big_quiet_step (fail))
  go_big_quiet_step (exact k1 _ _)
  iterate 7 (go_big_quiet_step (fail))
  go_big_quiet_step (exact k2 _ _)
  iterate 32 (go_big_quiet_step (fail))
  refine wpQuiet_nil ?_
  rintro w' ⟨p, rfl⟩
  have hBF := HBF.out p.d p.os
  generalize grow (redrawn w3 p.d) p.os = w6 at hBF ⊢
  clear k1 k2 HBF
  go_wp2
  go_ret
  exact ⟨rfl, hBF⟩
end Go.Proofs.Ythegadhkhbokkaa
