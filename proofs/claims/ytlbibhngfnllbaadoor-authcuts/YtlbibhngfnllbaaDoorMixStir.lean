/- What mix.stir does: columns, then diagonals, mixed with a block's words in the row's order; nothing old in memory is turned. -/
import Derived.Test.YtlbibhngfnllbaaDoorMixBlend
import Derived.Test.YtlbibhngfnllbaaDoorMixArr
import Derived.Test.YtlbibhngfnllbaaDoorRegionHead
import Derived.Deep.QuietTactic
import Derived.BigQuiet
namespace Go.Proofs.YtlbibhngfnllbaaDoor
open Go.RowKit
set_option linter.unusedVariables false

theorem cut_wp {P : Program} {c : Code} {Q : Exit → Act → World → Prop} {a : Act} {W : World} (F : World → Prop) (hF : F W) (h : ∀ W1, F W1 → c.wp P Q a W1) : c.wp P Q a W := h W hF

theorem cell_word {w : World} {g : Nat} {ms : List UInt32} (h : Arr w g 63 (ms.map wv)) {i : Nat} (hi : i < ms.length) : w.cell? ⟨g, i, none⟩ = some (wv (ms.getD i 0)) := by
  refine h.cell ?_
  simp [List.getElem?_eq_getElem hi]

set_option maxRecDepth 100000 in
set_option maxHeartbeats 4000000 in
theorem stir_walk (w0 w1 w2 w3 w4 w5 w6 w7 w8 w9 w10 w11 w12 w13 w14 w15 : UInt32) (ms : List UInt32) (r0 r1 r2 r3 r4 r5 r6 r7 r8 r9 r10 r11 r12 r13 r14 r15 : Nat) (w : World) (hm : ms.length = 16) (h0 : r0 < 16) (h1 : r1 < 16) (h2 : r2 < 16) (h3 : r3 < 16) (h4 : r4 < 16) (h5 : r5 < 16) (h6 : r6 < 16) (h7 : r7 < 16) (h8 : r8 < 16) (h9 : r9 < 16) (h10 : r10 < 16) (h11 : r11 < 16) (h12 : r12 < 16) (h13 : r13 < 16) (h14 : r14 < 16) (h15 : r15 < 16) :
    Calls Tryd.prog 43 #[.agg #[.int .u32 (w0.toNat : Int), .int .u32 (w1.toNat : Int), .int .u32 (w2.toNat : Int), .int .u32 (w3.toNat : Int), .int .u32 (w4.toNat : Int), .int .u32 (w5.toNat : Int), .int .u32 (w6.toNat : Int), .int .u32 (w7.toNat : Int), .int .u32 (w8.toNat : Int), .int .u32 (w9.toNat : Int), .int .u32 (w10.toNat : Int), .int .u32 (w11.toNat : Int), .int .u32 (w12.toNat : Int), .int .u32 (w13.toNat : Int), .int .u32 (w14.toNat : Int), .int .u32 (w15.toNat : Int)], .agg (ms.map wv).toArray, .agg #[.int .u8 (r0 : Int), .int .u8 (r1 : Int), .int .u8 (r2 : Int), .int .u8 (r3 : Int), .int .u8 (r4 : Int), .int .u8 (r5 : Int), .int .u8 (r6 : Int), .int .u8 (r7 : Int), .int .u8 (r8 : Int), .int .u8 (r9 : Int), .int .u8 (r10 : Int), .int .u8 (r11 : Int), .int .u8 (r12 : Int), .int .u8 (r13 : Int), .int .u8 (r14 : Int), .int .u8 (r15 : Int)]] w fun e w' => e = .returned (.agg ((stirL [w0, w1, w2, w3, w4, w5, w6, w7, w8, w9, w10, w11, w12, w13, w14, w15] ms [r0, r1, r2, r3, r4, r5, r6, r7, r8, r9, r10, r11, r12, r13, r14, r15]).map wv).toArray) ∧ Below w.heap.size w w' := by
  have g0 : (0 : Int) ≤ (r0 : Int) := by omega
  have k0 : (r0 : Int) < 16 := by omega
  have g1 : (0 : Int) ≤ (r1 : Int) := by omega
  have k1 : (r1 : Int) < 16 := by omega
  have g2 : (0 : Int) ≤ (r2 : Int) := by omega
  have k2 : (r2 : Int) < 16 := by omega
  have g3 : (0 : Int) ≤ (r3 : Int) := by omega
  have k3 : (r3 : Int) < 16 := by omega
  have g4 : (0 : Int) ≤ (r4 : Int) := by omega
  have k4 : (r4 : Int) < 16 := by omega
  have g5 : (0 : Int) ≤ (r5 : Int) := by omega
  have k5 : (r5 : Int) < 16 := by omega
  have g6 : (0 : Int) ≤ (r6 : Int) := by omega
  have k6 : (r6 : Int) < 16 := by omega
  have g7 : (0 : Int) ≤ (r7 : Int) := by omega
  have k7 : (r7 : Int) < 16 := by omega
  have g8 : (0 : Int) ≤ (r8 : Int) := by omega
  have k8 : (r8 : Int) < 16 := by omega
  have g9 : (0 : Int) ≤ (r9 : Int) := by omega
  have k9 : (r9 : Int) < 16 := by omega
  have g10 : (0 : Int) ≤ (r10 : Int) := by omega
  have k10 : (r10 : Int) < 16 := by omega
  have g11 : (0 : Int) ≤ (r11 : Int) := by omega
  have k11 : (r11 : Int) < 16 := by omega
  have g12 : (0 : Int) ≤ (r12 : Int) := by omega
  have k12 : (r12 : Int) < 16 := by omega
  have g13 : (0 : Int) ≤ (r13 : Int) := by omega
  have k13 : (r13 : Int) < 16 := by omega
  have g14 : (0 : Int) ≤ (r14 : Int) := by omega
  have k14 : (r14 : Int) < 16 := by omega
  have g15 : (0 : Int) ≤ (r15 : Int) := by omega
  have k15 : (r15 : Int) < 16 := by omega
  have e1 : w.heap.size + 1 ≠ w.heap.size := by omega
  have e2 : w.heap.size + 1 + 1 ≠ w.heap.size := by omega
  have e3 : w.heap.size + 1 + 1 + 1 ≠ w.heap.size := by omega
  have hi : (Tryd.prog.info? 63).map (·.size) = some 16 := by kernel_rfl
  go_enter Tryd.func43, Tryd.ntmps43
  go_wp2
  refine cut_wp (fun W => Arr W w.heap.size 63 [.int .u32 (w0.toNat : Int), .int .u32 (w1.toNat : Int), .int .u32 (w2.toNat : Int), .int .u32 (w3.toNat : Int), .int .u32 (w4.toNat : Int), .int .u32 (w5.toNat : Int), .int .u32 (w6.toNat : Int), .int .u32 (w7.toNat : Int), .int .u32 (w8.toNat : Int), .int .u32 (w9.toNat : Int), .int .u32 (w10.toNat : Int), .int .u32 (w11.toNat : Int), .int .u32 (w12.toNat : Int), .int .u32 (w13.toNat : Int), .int .u32 (w14.toNat : Int), .int .u32 (w15.toNat : Int)] ∧ Arr W (w.heap.size + 1) 63 (ms.map wv) ∧ Arr W (w.heap.size + 1 + 1) 73 [.int .u8 (r0 : Int), .int .u8 (r1 : Int), .int .u8 (r2 : Int), .int .u8 (r3 : Int), .int .u8 (r4 : Int), .int .u8 (r5 : Int), .int .u8 (r6 : Int), .int .u8 (r7 : Int), .int .u8 (r8 : Int), .int .u8 (r9 : Int), .int .u8 (r10 : Int), .int .u8 (r11 : Int), .int .u8 (r12 : Int), .int .u8 (r13 : Int), .int .u8 (r14 : Int), .int .u8 (r15 : Int)] ∧ Arr W (w.heap.size + 1 + 1 + 1) 63 [.int .u32 0, .int .u32 0, .int .u32 0, .int .u32 0, .int .u32 0, .int .u32 0, .int .u32 0, .int .u32 0, .int .u32 0, .int .u32 0, .int .u32 0, .int .u32 0, .int .u32 0, .int .u32 0, .int .u32 0, .int .u32 0] ∧ Below w.heap.size w W) ?_ ?_
  · exact four_new w 63 63 73 63 [.int .u32 (w0.toNat : Int), .int .u32 (w1.toNat : Int), .int .u32 (w2.toNat : Int), .int .u32 (w3.toNat : Int), .int .u32 (w4.toNat : Int), .int .u32 (w5.toNat : Int), .int .u32 (w6.toNat : Int), .int .u32 (w7.toNat : Int), .int .u32 (w8.toNat : Int), .int .u32 (w9.toNat : Int), .int .u32 (w10.toNat : Int), .int .u32 (w11.toNat : Int), .int .u32 (w12.toNat : Int), .int .u32 (w13.toNat : Int), .int .u32 (w14.toNat : Int), .int .u32 (w15.toNat : Int)] (ms.map wv) [.int .u8 (r0 : Int), .int .u8 (r1 : Int), .int .u8 (r2 : Int), .int .u8 (r3 : Int), .int .u8 (r4 : Int), .int .u8 (r5 : Int), .int .u8 (r6 : Int), .int .u8 (r7 : Int), .int .u8 (r8 : Int), .int .u8 (r9 : Int), .int .u8 (r10 : Int), .int .u8 (r11 : Int), .int .u8 (r12 : Int), .int .u8 (r13 : Int), .int .u8 (r14 : Int), .int .u8 (r15 : Int)] [.int .u32 0, .int .u32 0, .int .u32 0, .int .u32 0, .int .u32 0, .int .u32 0, .int .u32 0, .int .u32 0, .int .u32 0, .int .u32 0, .int .u32 0, .int .u32 0, .int .u32 0, .int .u32 0, .int .u32 0, .int .u32 0] _ rfl
  rintro W ⟨A3, A4, A5, A6, hB⟩

  have c0 := A3.cell (i := 0) rfl
  have f0 := A3.frozen 0
  have c4 := A3.cell (i := 4) rfl
  have f4 := A3.frozen 4
  have c8 := A3.cell (i := 8) rfl
  have f8 := A3.frozen 8
  have c12 := A3.cell (i := 12) rfl
  have f12 := A3.frozen 12
  have cr0 := A5.cell (i := 0) rfl
  have cr1 := A5.cell (i := 1) rfl
  obtain ⟨x0, hx0⟩ : ∃ z, Hid (z = ms.getD r0 0) := ⟨_, rfl⟩
  have cm0 : W.cell? ⟨w.heap.size + 1, r0, none⟩ = some (.int .u32 (x0.toNat : Int)) := by rw [hx0.out]; exact cell_word A4 (by omega)
  obtain ⟨x1, hx1⟩ : ∃ z, Hid (z = ms.getD r1 0) := ⟨_, rfl⟩
  have cm1 : W.cell? ⟨w.heap.size + 1, r1, none⟩ = some (.int .u32 (x1.toNat : Int)) := by rw [hx1.out]; exact cell_word A4 (by omega)
  obtain ⟨q0, hq0⟩ : ∃ z, Hid (z = quad w0 w4 w8 w12 x0 x1) := ⟨_, rfl⟩
  have cb : ∀ W : World, Calls Tryd.prog 46 #[.int .u32 (w0.toNat : Int), .int .u32 (w4.toNat : Int), .int .u32 (w8.toNat : Int), .int .u32 (w12.toNat : Int), .int .u32 (x0.toNat : Int), .int .u32 (x1.toNat : Int)] W fun e w' => e = .returned (.tuple #[.int .u32 (q0.a.toNat : Int), .int .u32 (q0.b.toNat : Int), .int .u32 (q0.c.toNat : Int), .int .u32 (q0.d.toNat : Int)]) ∧ w' = W := fun W => by
    rw [hq0.out]; exact blend_any _ _ _ _ _ _ W
  refine wp_region_head_seq (C := fun w' => ∃ j, w' = W.drewN j) 18 4 (by kernel_rfl) (by kernel_rfl) ⟨1, rfl⟩ (fun c a d v w h => by cases d <;> exact h) ?_
  simp only [List.take_succ_cons, List.take_zero, List.drop_succ_cons, List.drop_zero]
  iterate 18 (go_big_quiet_step (exact Calls.quiet_of_same (cb _)))
  refine ⟨_, yields_extract _ 7 0 #[.int .u32 (q0.a.toNat : Int), .int .u32 (q0.b.toNat : Int), .int .u32 (q0.c.toNat : Int), .int .u32 (q0.d.toNat : Int)] _ rfl rfl rfl rfl, _, yields_extract _ 7 1 #[.int .u32 (q0.a.toNat : Int), .int .u32 (q0.b.toNat : Int), .int .u32 (q0.c.toNat : Int), .int .u32 (q0.d.toNat : Int)] _ rfl rfl rfl rfl, _, yields_extract _ 7 2 #[.int .u32 (q0.a.toNat : Int), .int .u32 (q0.b.toNat : Int), .int .u32 (q0.c.toNat : Int), .int .u32 (q0.d.toNat : Int)] _ rfl rfl rfl rfl, _, yields_extract _ 7 3 #[.int .u32 (q0.a.toNat : Int), .int .u32 (q0.b.toNat : Int), .int .u32 (q0.c.toNat : Int), .int .u32 (q0.d.toNat : Int)] _ rfl rfl rfl rfl, ?_⟩
  rintro w' ⟨nq, rfl⟩
  go_wp2
  clear cb cr0 cr1 cm0 cm1 c0 f0 c4 f4 c8 f8 c12 f12
  refine cut_wp (fun W => Arr W w.heap.size 63 [.int .u32 (q0.a.toNat : Int), .int .u32 (w1.toNat : Int), .int .u32 (w2.toNat : Int), .int .u32 (w3.toNat : Int), .int .u32 (q0.b.toNat : Int), .int .u32 (w5.toNat : Int), .int .u32 (w6.toNat : Int), .int .u32 (w7.toNat : Int), .int .u32 (q0.c.toNat : Int), .int .u32 (w9.toNat : Int), .int .u32 (w10.toNat : Int), .int .u32 (w11.toNat : Int), .int .u32 (q0.d.toNat : Int), .int .u32 (w13.toNat : Int), .int .u32 (w14.toNat : Int), .int .u32 (w15.toNat : Int)] ∧ Arr W (w.heap.size + 1) 63 (ms.map wv) ∧ Arr W (w.heap.size + 1 + 1) 73 [.int .u8 (r0 : Int), .int .u8 (r1 : Int), .int .u8 (r2 : Int), .int .u8 (r3 : Int), .int .u8 (r4 : Int), .int .u8 (r5 : Int), .int .u8 (r6 : Int), .int .u8 (r7 : Int), .int .u8 (r8 : Int), .int .u8 (r9 : Int), .int .u8 (r10 : Int), .int .u8 (r11 : Int), .int .u8 (r12 : Int), .int .u8 (r13 : Int), .int .u8 (r14 : Int), .int .u8 (r15 : Int)] ∧ Arr W (w.heap.size + 1 + 1 + 1) 63 [.int .u32 0, .int .u32 0, .int .u32 0, .int .u32 0, .int .u32 0, .int .u32 0, .int .u32 0, .int .u32 0, .int .u32 0, .int .u32 0, .int .u32 0, .int .u32 0, .int .u32 0, .int .u32 0, .int .u32 0, .int .u32 0] ∧ Below w.heap.size w W) ?_ ?_
  · exact ⟨(((((A3.drewN _).set 0 _).set 4 _).set 8 _).set 12 _), (((((A4.drewN _).other e1 _).other e1 _).other e1 _).other e1 _), (((((A5.drewN _).other e2 _).other e2 _).other e2 _).other e2 _), (((((A6.drewN _).other e3 _).other e3 _).other e3 _).other e3 _), ((((below_drewN hB _).setCell (Nat.le_refl _) _).setCell (Nat.le_refl _) _).setCell (Nat.le_refl _) _).setCell (Nat.le_refl _) _⟩
  clear A3 A4 A5 A6 hB
  rintro W1 ⟨A3, A4, A5, A6, hB⟩
  have c1 := A3.cell (i := 1) rfl
  have f1 := A3.frozen 1
  have c5 := A3.cell (i := 5) rfl
  have f5 := A3.frozen 5
  have c9 := A3.cell (i := 9) rfl
  have f9 := A3.frozen 9
  have c13 := A3.cell (i := 13) rfl
  have f13 := A3.frozen 13
  have cr2 := A5.cell (i := 2) rfl
  have cr3 := A5.cell (i := 3) rfl
  obtain ⟨x2, hx2⟩ : ∃ z, Hid (z = ms.getD r2 0) := ⟨_, rfl⟩
  have cm2 : W1.cell? ⟨w.heap.size + 1, r2, none⟩ = some (.int .u32 (x2.toNat : Int)) := by rw [hx2.out]; exact cell_word A4 (by omega)
  obtain ⟨x3, hx3⟩ : ∃ z, Hid (z = ms.getD r3 0) := ⟨_, rfl⟩
  have cm3 : W1.cell? ⟨w.heap.size + 1, r3, none⟩ = some (.int .u32 (x3.toNat : Int)) := by rw [hx3.out]; exact cell_word A4 (by omega)
  obtain ⟨q1, hq1⟩ : ∃ z, Hid (z = quad w1 w5 w9 w13 x2 x3) := ⟨_, rfl⟩
  have cb : ∀ W : World, Calls Tryd.prog 46 #[.int .u32 (w1.toNat : Int), .int .u32 (w5.toNat : Int), .int .u32 (w9.toNat : Int), .int .u32 (w13.toNat : Int), .int .u32 (x2.toNat : Int), .int .u32 (x3.toNat : Int)] W fun e w' => e = .returned (.tuple #[.int .u32 (q1.a.toNat : Int), .int .u32 (q1.b.toNat : Int), .int .u32 (q1.c.toNat : Int), .int .u32 (q1.d.toNat : Int)]) ∧ w' = W := fun W => by
    rw [hq1.out]; exact blend_any _ _ _ _ _ _ W
  refine wp_region_head_seq (C := fun w' => ∃ j, w' = W1.drewN j) 18 4 (by kernel_rfl) (by kernel_rfl) ⟨1, rfl⟩ (fun c a d v w h => by cases d <;> exact h) ?_
  simp only [List.take_succ_cons, List.take_zero, List.drop_succ_cons, List.drop_zero]
  iterate 18 (go_big_quiet_step (exact Calls.quiet_of_same (cb _)))
  refine ⟨_, yields_extract _ 33 0 #[.int .u32 (q1.a.toNat : Int), .int .u32 (q1.b.toNat : Int), .int .u32 (q1.c.toNat : Int), .int .u32 (q1.d.toNat : Int)] _ rfl rfl rfl rfl, _, yields_extract _ 33 1 #[.int .u32 (q1.a.toNat : Int), .int .u32 (q1.b.toNat : Int), .int .u32 (q1.c.toNat : Int), .int .u32 (q1.d.toNat : Int)] _ rfl rfl rfl rfl, _, yields_extract _ 33 2 #[.int .u32 (q1.a.toNat : Int), .int .u32 (q1.b.toNat : Int), .int .u32 (q1.c.toNat : Int), .int .u32 (q1.d.toNat : Int)] _ rfl rfl rfl rfl, _, yields_extract _ 33 3 #[.int .u32 (q1.a.toNat : Int), .int .u32 (q1.b.toNat : Int), .int .u32 (q1.c.toNat : Int), .int .u32 (q1.d.toNat : Int)] _ rfl rfl rfl rfl, ?_⟩
  rintro w' ⟨nq, rfl⟩
  go_wp2
  clear cb cr2 cr3 cm2 cm3 c1 f1 c5 f5 c9 f9 c13 f13
  refine cut_wp (fun W => Arr W w.heap.size 63 [.int .u32 (q0.a.toNat : Int), .int .u32 (q1.a.toNat : Int), .int .u32 (w2.toNat : Int), .int .u32 (w3.toNat : Int), .int .u32 (q0.b.toNat : Int), .int .u32 (q1.b.toNat : Int), .int .u32 (w6.toNat : Int), .int .u32 (w7.toNat : Int), .int .u32 (q0.c.toNat : Int), .int .u32 (q1.c.toNat : Int), .int .u32 (w10.toNat : Int), .int .u32 (w11.toNat : Int), .int .u32 (q0.d.toNat : Int), .int .u32 (q1.d.toNat : Int), .int .u32 (w14.toNat : Int), .int .u32 (w15.toNat : Int)] ∧ Arr W (w.heap.size + 1) 63 (ms.map wv) ∧ Arr W (w.heap.size + 1 + 1) 73 [.int .u8 (r0 : Int), .int .u8 (r1 : Int), .int .u8 (r2 : Int), .int .u8 (r3 : Int), .int .u8 (r4 : Int), .int .u8 (r5 : Int), .int .u8 (r6 : Int), .int .u8 (r7 : Int), .int .u8 (r8 : Int), .int .u8 (r9 : Int), .int .u8 (r10 : Int), .int .u8 (r11 : Int), .int .u8 (r12 : Int), .int .u8 (r13 : Int), .int .u8 (r14 : Int), .int .u8 (r15 : Int)] ∧ Arr W (w.heap.size + 1 + 1 + 1) 63 [.int .u32 0, .int .u32 0, .int .u32 0, .int .u32 0, .int .u32 0, .int .u32 0, .int .u32 0, .int .u32 0, .int .u32 0, .int .u32 0, .int .u32 0, .int .u32 0, .int .u32 0, .int .u32 0, .int .u32 0, .int .u32 0] ∧ Below w.heap.size w W) ?_ ?_
  · exact ⟨(((((A3.drewN _).set 1 _).set 5 _).set 9 _).set 13 _), (((((A4.drewN _).other e1 _).other e1 _).other e1 _).other e1 _), (((((A5.drewN _).other e2 _).other e2 _).other e2 _).other e2 _), (((((A6.drewN _).other e3 _).other e3 _).other e3 _).other e3 _), ((((below_drewN hB _).setCell (Nat.le_refl _) _).setCell (Nat.le_refl _) _).setCell (Nat.le_refl _) _).setCell (Nat.le_refl _) _⟩
  clear A3 A4 A5 A6 hB
  rintro W2 ⟨A3, A4, A5, A6, hB⟩
  have c2 := A3.cell (i := 2) rfl
  have f2 := A3.frozen 2
  have c6 := A3.cell (i := 6) rfl
  have f6 := A3.frozen 6
  have c10 := A3.cell (i := 10) rfl
  have f10 := A3.frozen 10
  have c14 := A3.cell (i := 14) rfl
  have f14 := A3.frozen 14
  have cr4 := A5.cell (i := 4) rfl
  have cr5 := A5.cell (i := 5) rfl
  obtain ⟨x4, hx4⟩ : ∃ z, Hid (z = ms.getD r4 0) := ⟨_, rfl⟩
  have cm4 : W2.cell? ⟨w.heap.size + 1, r4, none⟩ = some (.int .u32 (x4.toNat : Int)) := by rw [hx4.out]; exact cell_word A4 (by omega)
  obtain ⟨x5, hx5⟩ : ∃ z, Hid (z = ms.getD r5 0) := ⟨_, rfl⟩
  have cm5 : W2.cell? ⟨w.heap.size + 1, r5, none⟩ = some (.int .u32 (x5.toNat : Int)) := by rw [hx5.out]; exact cell_word A4 (by omega)
  obtain ⟨q2, hq2⟩ : ∃ z, Hid (z = quad w2 w6 w10 w14 x4 x5) := ⟨_, rfl⟩
  have cb : ∀ W : World, Calls Tryd.prog 46 #[.int .u32 (w2.toNat : Int), .int .u32 (w6.toNat : Int), .int .u32 (w10.toNat : Int), .int .u32 (w14.toNat : Int), .int .u32 (x4.toNat : Int), .int .u32 (x5.toNat : Int)] W fun e w' => e = .returned (.tuple #[.int .u32 (q2.a.toNat : Int), .int .u32 (q2.b.toNat : Int), .int .u32 (q2.c.toNat : Int), .int .u32 (q2.d.toNat : Int)]) ∧ w' = W := fun W => by
    rw [hq2.out]; exact blend_any _ _ _ _ _ _ W
  refine wp_region_head_seq (C := fun w' => ∃ j, w' = W2.drewN j) 18 4 (by kernel_rfl) (by kernel_rfl) ⟨1, rfl⟩ (fun c a d v w h => by cases d <;> exact h) ?_
  simp only [List.take_succ_cons, List.take_zero, List.drop_succ_cons, List.drop_zero]
  iterate 18 (go_big_quiet_step (exact Calls.quiet_of_same (cb _)))
  refine ⟨_, yields_extract _ 59 0 #[.int .u32 (q2.a.toNat : Int), .int .u32 (q2.b.toNat : Int), .int .u32 (q2.c.toNat : Int), .int .u32 (q2.d.toNat : Int)] _ rfl rfl rfl rfl, _, yields_extract _ 59 1 #[.int .u32 (q2.a.toNat : Int), .int .u32 (q2.b.toNat : Int), .int .u32 (q2.c.toNat : Int), .int .u32 (q2.d.toNat : Int)] _ rfl rfl rfl rfl, _, yields_extract _ 59 2 #[.int .u32 (q2.a.toNat : Int), .int .u32 (q2.b.toNat : Int), .int .u32 (q2.c.toNat : Int), .int .u32 (q2.d.toNat : Int)] _ rfl rfl rfl rfl, _, yields_extract _ 59 3 #[.int .u32 (q2.a.toNat : Int), .int .u32 (q2.b.toNat : Int), .int .u32 (q2.c.toNat : Int), .int .u32 (q2.d.toNat : Int)] _ rfl rfl rfl rfl, ?_⟩
  rintro w' ⟨nq, rfl⟩
  go_wp2
  clear cb cr4 cr5 cm4 cm5 c2 f2 c6 f6 c10 f10 c14 f14
  refine cut_wp (fun W => Arr W w.heap.size 63 [.int .u32 (q0.a.toNat : Int), .int .u32 (q1.a.toNat : Int), .int .u32 (q2.a.toNat : Int), .int .u32 (w3.toNat : Int), .int .u32 (q0.b.toNat : Int), .int .u32 (q1.b.toNat : Int), .int .u32 (q2.b.toNat : Int), .int .u32 (w7.toNat : Int), .int .u32 (q0.c.toNat : Int), .int .u32 (q1.c.toNat : Int), .int .u32 (q2.c.toNat : Int), .int .u32 (w11.toNat : Int), .int .u32 (q0.d.toNat : Int), .int .u32 (q1.d.toNat : Int), .int .u32 (q2.d.toNat : Int), .int .u32 (w15.toNat : Int)] ∧ Arr W (w.heap.size + 1) 63 (ms.map wv) ∧ Arr W (w.heap.size + 1 + 1) 73 [.int .u8 (r0 : Int), .int .u8 (r1 : Int), .int .u8 (r2 : Int), .int .u8 (r3 : Int), .int .u8 (r4 : Int), .int .u8 (r5 : Int), .int .u8 (r6 : Int), .int .u8 (r7 : Int), .int .u8 (r8 : Int), .int .u8 (r9 : Int), .int .u8 (r10 : Int), .int .u8 (r11 : Int), .int .u8 (r12 : Int), .int .u8 (r13 : Int), .int .u8 (r14 : Int), .int .u8 (r15 : Int)] ∧ Arr W (w.heap.size + 1 + 1 + 1) 63 [.int .u32 0, .int .u32 0, .int .u32 0, .int .u32 0, .int .u32 0, .int .u32 0, .int .u32 0, .int .u32 0, .int .u32 0, .int .u32 0, .int .u32 0, .int .u32 0, .int .u32 0, .int .u32 0, .int .u32 0, .int .u32 0] ∧ Below w.heap.size w W) ?_ ?_
  · exact ⟨(((((A3.drewN _).set 2 _).set 6 _).set 10 _).set 14 _), (((((A4.drewN _).other e1 _).other e1 _).other e1 _).other e1 _), (((((A5.drewN _).other e2 _).other e2 _).other e2 _).other e2 _), (((((A6.drewN _).other e3 _).other e3 _).other e3 _).other e3 _), ((((below_drewN hB _).setCell (Nat.le_refl _) _).setCell (Nat.le_refl _) _).setCell (Nat.le_refl _) _).setCell (Nat.le_refl _) _⟩
  clear A3 A4 A5 A6 hB
  rintro W3 ⟨A3, A4, A5, A6, hB⟩
  have c3 := A3.cell (i := 3) rfl
  have f3 := A3.frozen 3
  have c7 := A3.cell (i := 7) rfl
  have f7 := A3.frozen 7
  have c11 := A3.cell (i := 11) rfl
  have f11 := A3.frozen 11
  have c15 := A3.cell (i := 15) rfl
  have f15 := A3.frozen 15
  have cr6 := A5.cell (i := 6) rfl
  have cr7 := A5.cell (i := 7) rfl
  obtain ⟨x6, hx6⟩ : ∃ z, Hid (z = ms.getD r6 0) := ⟨_, rfl⟩
  have cm6 : W3.cell? ⟨w.heap.size + 1, r6, none⟩ = some (.int .u32 (x6.toNat : Int)) := by rw [hx6.out]; exact cell_word A4 (by omega)
  obtain ⟨x7, hx7⟩ : ∃ z, Hid (z = ms.getD r7 0) := ⟨_, rfl⟩
  have cm7 : W3.cell? ⟨w.heap.size + 1, r7, none⟩ = some (.int .u32 (x7.toNat : Int)) := by rw [hx7.out]; exact cell_word A4 (by omega)
  obtain ⟨q3, hq3⟩ : ∃ z, Hid (z = quad w3 w7 w11 w15 x6 x7) := ⟨_, rfl⟩
  have cb : ∀ W : World, Calls Tryd.prog 46 #[.int .u32 (w3.toNat : Int), .int .u32 (w7.toNat : Int), .int .u32 (w11.toNat : Int), .int .u32 (w15.toNat : Int), .int .u32 (x6.toNat : Int), .int .u32 (x7.toNat : Int)] W fun e w' => e = .returned (.tuple #[.int .u32 (q3.a.toNat : Int), .int .u32 (q3.b.toNat : Int), .int .u32 (q3.c.toNat : Int), .int .u32 (q3.d.toNat : Int)]) ∧ w' = W := fun W => by
    rw [hq3.out]; exact blend_any _ _ _ _ _ _ W
  refine wp_region_head_seq (C := fun w' => ∃ j, w' = W3.drewN j) 18 4 (by kernel_rfl) (by kernel_rfl) ⟨1, rfl⟩ (fun c a d v w h => by cases d <;> exact h) ?_
  simp only [List.take_succ_cons, List.take_zero, List.drop_succ_cons, List.drop_zero]
  iterate 18 (go_big_quiet_step (exact Calls.quiet_of_same (cb _)))
  refine ⟨_, yields_extract _ 85 0 #[.int .u32 (q3.a.toNat : Int), .int .u32 (q3.b.toNat : Int), .int .u32 (q3.c.toNat : Int), .int .u32 (q3.d.toNat : Int)] _ rfl rfl rfl rfl, _, yields_extract _ 85 1 #[.int .u32 (q3.a.toNat : Int), .int .u32 (q3.b.toNat : Int), .int .u32 (q3.c.toNat : Int), .int .u32 (q3.d.toNat : Int)] _ rfl rfl rfl rfl, _, yields_extract _ 85 2 #[.int .u32 (q3.a.toNat : Int), .int .u32 (q3.b.toNat : Int), .int .u32 (q3.c.toNat : Int), .int .u32 (q3.d.toNat : Int)] _ rfl rfl rfl rfl, _, yields_extract _ 85 3 #[.int .u32 (q3.a.toNat : Int), .int .u32 (q3.b.toNat : Int), .int .u32 (q3.c.toNat : Int), .int .u32 (q3.d.toNat : Int)] _ rfl rfl rfl rfl, ?_⟩
  rintro w' ⟨nq, rfl⟩
  go_wp2
  clear cb cr6 cr7 cm6 cm7 c3 f3 c7 f7 c11 f11 c15 f15
  refine cut_wp (fun W => Arr W w.heap.size 63 [.int .u32 (q0.a.toNat : Int), .int .u32 (q1.a.toNat : Int), .int .u32 (q2.a.toNat : Int), .int .u32 (q3.a.toNat : Int), .int .u32 (q0.b.toNat : Int), .int .u32 (q1.b.toNat : Int), .int .u32 (q2.b.toNat : Int), .int .u32 (q3.b.toNat : Int), .int .u32 (q0.c.toNat : Int), .int .u32 (q1.c.toNat : Int), .int .u32 (q2.c.toNat : Int), .int .u32 (q3.c.toNat : Int), .int .u32 (q0.d.toNat : Int), .int .u32 (q1.d.toNat : Int), .int .u32 (q2.d.toNat : Int), .int .u32 (q3.d.toNat : Int)] ∧ Arr W (w.heap.size + 1) 63 (ms.map wv) ∧ Arr W (w.heap.size + 1 + 1) 73 [.int .u8 (r0 : Int), .int .u8 (r1 : Int), .int .u8 (r2 : Int), .int .u8 (r3 : Int), .int .u8 (r4 : Int), .int .u8 (r5 : Int), .int .u8 (r6 : Int), .int .u8 (r7 : Int), .int .u8 (r8 : Int), .int .u8 (r9 : Int), .int .u8 (r10 : Int), .int .u8 (r11 : Int), .int .u8 (r12 : Int), .int .u8 (r13 : Int), .int .u8 (r14 : Int), .int .u8 (r15 : Int)] ∧ Arr W (w.heap.size + 1 + 1 + 1) 63 [.int .u32 0, .int .u32 0, .int .u32 0, .int .u32 0, .int .u32 0, .int .u32 0, .int .u32 0, .int .u32 0, .int .u32 0, .int .u32 0, .int .u32 0, .int .u32 0, .int .u32 0, .int .u32 0, .int .u32 0, .int .u32 0] ∧ Below w.heap.size w W) ?_ ?_
  · exact ⟨(((((A3.drewN _).set 3 _).set 7 _).set 11 _).set 15 _), (((((A4.drewN _).other e1 _).other e1 _).other e1 _).other e1 _), (((((A5.drewN _).other e2 _).other e2 _).other e2 _).other e2 _), (((((A6.drewN _).other e3 _).other e3 _).other e3 _).other e3 _), ((((below_drewN hB _).setCell (Nat.le_refl _) _).setCell (Nat.le_refl _) _).setCell (Nat.le_refl _) _).setCell (Nat.le_refl _) _⟩
  clear A3 A4 A5 A6 hB
  rintro W4 ⟨A3, A4, A5, A6, hB⟩
  have c0 := A3.cell (i := 0) rfl
  have f0 := A3.frozen 0
  have c5 := A3.cell (i := 5) rfl
  have f5 := A3.frozen 5
  have c10 := A3.cell (i := 10) rfl
  have f10 := A3.frozen 10
  have c15 := A3.cell (i := 15) rfl
  have f15 := A3.frozen 15
  have cr8 := A5.cell (i := 8) rfl
  have cr9 := A5.cell (i := 9) rfl
  obtain ⟨x8, hx8⟩ : ∃ z, Hid (z = ms.getD r8 0) := ⟨_, rfl⟩
  have cm8 : W4.cell? ⟨w.heap.size + 1, r8, none⟩ = some (.int .u32 (x8.toNat : Int)) := by rw [hx8.out]; exact cell_word A4 (by omega)
  obtain ⟨x9, hx9⟩ : ∃ z, Hid (z = ms.getD r9 0) := ⟨_, rfl⟩
  have cm9 : W4.cell? ⟨w.heap.size + 1, r9, none⟩ = some (.int .u32 (x9.toNat : Int)) := by rw [hx9.out]; exact cell_word A4 (by omega)
  obtain ⟨q4, hq4⟩ : ∃ z, Hid (z = quad q0.a q1.b q2.c q3.d x8 x9) := ⟨_, rfl⟩
  have cb : ∀ W : World, Calls Tryd.prog 46 #[.int .u32 (q0.a.toNat : Int), .int .u32 (q1.b.toNat : Int), .int .u32 (q2.c.toNat : Int), .int .u32 (q3.d.toNat : Int), .int .u32 (x8.toNat : Int), .int .u32 (x9.toNat : Int)] W fun e w' => e = .returned (.tuple #[.int .u32 (q4.a.toNat : Int), .int .u32 (q4.b.toNat : Int), .int .u32 (q4.c.toNat : Int), .int .u32 (q4.d.toNat : Int)]) ∧ w' = W := fun W => by
    rw [hq4.out]; exact blend_any _ _ _ _ _ _ W
  refine wp_region_head_seq (C := fun w' => ∃ j, w' = W4.drewN j) 18 4 (by kernel_rfl) (by kernel_rfl) ⟨1, rfl⟩ (fun c a d v w h => by cases d <;> exact h) ?_
  simp only [List.take_succ_cons, List.take_zero, List.drop_succ_cons, List.drop_zero]
  iterate 18 (go_big_quiet_step (exact Calls.quiet_of_same (cb _)))
  refine ⟨_, yields_extract _ 111 0 #[.int .u32 (q4.a.toNat : Int), .int .u32 (q4.b.toNat : Int), .int .u32 (q4.c.toNat : Int), .int .u32 (q4.d.toNat : Int)] _ rfl rfl rfl rfl, _, yields_extract _ 111 1 #[.int .u32 (q4.a.toNat : Int), .int .u32 (q4.b.toNat : Int), .int .u32 (q4.c.toNat : Int), .int .u32 (q4.d.toNat : Int)] _ rfl rfl rfl rfl, _, yields_extract _ 111 2 #[.int .u32 (q4.a.toNat : Int), .int .u32 (q4.b.toNat : Int), .int .u32 (q4.c.toNat : Int), .int .u32 (q4.d.toNat : Int)] _ rfl rfl rfl rfl, _, yields_extract _ 111 3 #[.int .u32 (q4.a.toNat : Int), .int .u32 (q4.b.toNat : Int), .int .u32 (q4.c.toNat : Int), .int .u32 (q4.d.toNat : Int)] _ rfl rfl rfl rfl, ?_⟩
  rintro w' ⟨nq, rfl⟩
  go_wp2
  clear cb cr8 cr9 cm8 cm9 c0 f0 c5 f5 c10 f10 c15 f15
  refine cut_wp (fun W => Arr W w.heap.size 63 [.int .u32 (q4.a.toNat : Int), .int .u32 (q1.a.toNat : Int), .int .u32 (q2.a.toNat : Int), .int .u32 (q3.a.toNat : Int), .int .u32 (q0.b.toNat : Int), .int .u32 (q4.b.toNat : Int), .int .u32 (q2.b.toNat : Int), .int .u32 (q3.b.toNat : Int), .int .u32 (q0.c.toNat : Int), .int .u32 (q1.c.toNat : Int), .int .u32 (q4.c.toNat : Int), .int .u32 (q3.c.toNat : Int), .int .u32 (q0.d.toNat : Int), .int .u32 (q1.d.toNat : Int), .int .u32 (q2.d.toNat : Int), .int .u32 (q4.d.toNat : Int)] ∧ Arr W (w.heap.size + 1) 63 (ms.map wv) ∧ Arr W (w.heap.size + 1 + 1) 73 [.int .u8 (r0 : Int), .int .u8 (r1 : Int), .int .u8 (r2 : Int), .int .u8 (r3 : Int), .int .u8 (r4 : Int), .int .u8 (r5 : Int), .int .u8 (r6 : Int), .int .u8 (r7 : Int), .int .u8 (r8 : Int), .int .u8 (r9 : Int), .int .u8 (r10 : Int), .int .u8 (r11 : Int), .int .u8 (r12 : Int), .int .u8 (r13 : Int), .int .u8 (r14 : Int), .int .u8 (r15 : Int)] ∧ Arr W (w.heap.size + 1 + 1 + 1) 63 [.int .u32 0, .int .u32 0, .int .u32 0, .int .u32 0, .int .u32 0, .int .u32 0, .int .u32 0, .int .u32 0, .int .u32 0, .int .u32 0, .int .u32 0, .int .u32 0, .int .u32 0, .int .u32 0, .int .u32 0, .int .u32 0] ∧ Below w.heap.size w W) ?_ ?_
  · exact ⟨(((((A3.drewN _).set 0 _).set 5 _).set 10 _).set 15 _), (((((A4.drewN _).other e1 _).other e1 _).other e1 _).other e1 _), (((((A5.drewN _).other e2 _).other e2 _).other e2 _).other e2 _), (((((A6.drewN _).other e3 _).other e3 _).other e3 _).other e3 _), ((((below_drewN hB _).setCell (Nat.le_refl _) _).setCell (Nat.le_refl _) _).setCell (Nat.le_refl _) _).setCell (Nat.le_refl _) _⟩
  clear A3 A4 A5 A6 hB
  rintro W5 ⟨A3, A4, A5, A6, hB⟩
  have c1 := A3.cell (i := 1) rfl
  have f1 := A3.frozen 1
  have c6 := A3.cell (i := 6) rfl
  have f6 := A3.frozen 6
  have c11 := A3.cell (i := 11) rfl
  have f11 := A3.frozen 11
  have c12 := A3.cell (i := 12) rfl
  have f12 := A3.frozen 12
  have cr10 := A5.cell (i := 10) rfl
  have cr11 := A5.cell (i := 11) rfl
  obtain ⟨x10, hx10⟩ : ∃ z, Hid (z = ms.getD r10 0) := ⟨_, rfl⟩
  have cm10 : W5.cell? ⟨w.heap.size + 1, r10, none⟩ = some (.int .u32 (x10.toNat : Int)) := by rw [hx10.out]; exact cell_word A4 (by omega)
  obtain ⟨x11, hx11⟩ : ∃ z, Hid (z = ms.getD r11 0) := ⟨_, rfl⟩
  have cm11 : W5.cell? ⟨w.heap.size + 1, r11, none⟩ = some (.int .u32 (x11.toNat : Int)) := by rw [hx11.out]; exact cell_word A4 (by omega)
  obtain ⟨q5, hq5⟩ : ∃ z, Hid (z = quad q1.a q2.b q3.c q0.d x10 x11) := ⟨_, rfl⟩
  have cb : ∀ W : World, Calls Tryd.prog 46 #[.int .u32 (q1.a.toNat : Int), .int .u32 (q2.b.toNat : Int), .int .u32 (q3.c.toNat : Int), .int .u32 (q0.d.toNat : Int), .int .u32 (x10.toNat : Int), .int .u32 (x11.toNat : Int)] W fun e w' => e = .returned (.tuple #[.int .u32 (q5.a.toNat : Int), .int .u32 (q5.b.toNat : Int), .int .u32 (q5.c.toNat : Int), .int .u32 (q5.d.toNat : Int)]) ∧ w' = W := fun W => by
    rw [hq5.out]; exact blend_any _ _ _ _ _ _ W
  refine wp_region_head_seq (C := fun w' => ∃ j, w' = W5.drewN j) 18 4 (by kernel_rfl) (by kernel_rfl) ⟨1, rfl⟩ (fun c a d v w h => by cases d <;> exact h) ?_
  simp only [List.take_succ_cons, List.take_zero, List.drop_succ_cons, List.drop_zero]
  iterate 18 (go_big_quiet_step (exact Calls.quiet_of_same (cb _)))
  refine ⟨_, yields_extract _ 137 0 #[.int .u32 (q5.a.toNat : Int), .int .u32 (q5.b.toNat : Int), .int .u32 (q5.c.toNat : Int), .int .u32 (q5.d.toNat : Int)] _ rfl rfl rfl rfl, _, yields_extract _ 137 1 #[.int .u32 (q5.a.toNat : Int), .int .u32 (q5.b.toNat : Int), .int .u32 (q5.c.toNat : Int), .int .u32 (q5.d.toNat : Int)] _ rfl rfl rfl rfl, _, yields_extract _ 137 2 #[.int .u32 (q5.a.toNat : Int), .int .u32 (q5.b.toNat : Int), .int .u32 (q5.c.toNat : Int), .int .u32 (q5.d.toNat : Int)] _ rfl rfl rfl rfl, _, yields_extract _ 137 3 #[.int .u32 (q5.a.toNat : Int), .int .u32 (q5.b.toNat : Int), .int .u32 (q5.c.toNat : Int), .int .u32 (q5.d.toNat : Int)] _ rfl rfl rfl rfl, ?_⟩
  rintro w' ⟨nq, rfl⟩
  go_wp2
  clear cb cr10 cr11 cm10 cm11 c1 f1 c6 f6 c11 f11 c12 f12
  refine cut_wp (fun W => Arr W w.heap.size 63 [.int .u32 (q4.a.toNat : Int), .int .u32 (q5.a.toNat : Int), .int .u32 (q2.a.toNat : Int), .int .u32 (q3.a.toNat : Int), .int .u32 (q0.b.toNat : Int), .int .u32 (q4.b.toNat : Int), .int .u32 (q5.b.toNat : Int), .int .u32 (q3.b.toNat : Int), .int .u32 (q0.c.toNat : Int), .int .u32 (q1.c.toNat : Int), .int .u32 (q4.c.toNat : Int), .int .u32 (q5.c.toNat : Int), .int .u32 (q5.d.toNat : Int), .int .u32 (q1.d.toNat : Int), .int .u32 (q2.d.toNat : Int), .int .u32 (q4.d.toNat : Int)] ∧ Arr W (w.heap.size + 1) 63 (ms.map wv) ∧ Arr W (w.heap.size + 1 + 1) 73 [.int .u8 (r0 : Int), .int .u8 (r1 : Int), .int .u8 (r2 : Int), .int .u8 (r3 : Int), .int .u8 (r4 : Int), .int .u8 (r5 : Int), .int .u8 (r6 : Int), .int .u8 (r7 : Int), .int .u8 (r8 : Int), .int .u8 (r9 : Int), .int .u8 (r10 : Int), .int .u8 (r11 : Int), .int .u8 (r12 : Int), .int .u8 (r13 : Int), .int .u8 (r14 : Int), .int .u8 (r15 : Int)] ∧ Arr W (w.heap.size + 1 + 1 + 1) 63 [.int .u32 0, .int .u32 0, .int .u32 0, .int .u32 0, .int .u32 0, .int .u32 0, .int .u32 0, .int .u32 0, .int .u32 0, .int .u32 0, .int .u32 0, .int .u32 0, .int .u32 0, .int .u32 0, .int .u32 0, .int .u32 0] ∧ Below w.heap.size w W) ?_ ?_
  · exact ⟨(((((A3.drewN _).set 1 _).set 6 _).set 11 _).set 12 _), (((((A4.drewN _).other e1 _).other e1 _).other e1 _).other e1 _), (((((A5.drewN _).other e2 _).other e2 _).other e2 _).other e2 _), (((((A6.drewN _).other e3 _).other e3 _).other e3 _).other e3 _), ((((below_drewN hB _).setCell (Nat.le_refl _) _).setCell (Nat.le_refl _) _).setCell (Nat.le_refl _) _).setCell (Nat.le_refl _) _⟩
  clear A3 A4 A5 A6 hB
  rintro W6 ⟨A3, A4, A5, A6, hB⟩
  have c2 := A3.cell (i := 2) rfl
  have f2 := A3.frozen 2
  have c7 := A3.cell (i := 7) rfl
  have f7 := A3.frozen 7
  have c8 := A3.cell (i := 8) rfl
  have f8 := A3.frozen 8
  have c13 := A3.cell (i := 13) rfl
  have f13 := A3.frozen 13
  have cr12 := A5.cell (i := 12) rfl
  have cr13 := A5.cell (i := 13) rfl
  obtain ⟨x12, hx12⟩ : ∃ z, Hid (z = ms.getD r12 0) := ⟨_, rfl⟩
  have cm12 : W6.cell? ⟨w.heap.size + 1, r12, none⟩ = some (.int .u32 (x12.toNat : Int)) := by rw [hx12.out]; exact cell_word A4 (by omega)
  obtain ⟨x13, hx13⟩ : ∃ z, Hid (z = ms.getD r13 0) := ⟨_, rfl⟩
  have cm13 : W6.cell? ⟨w.heap.size + 1, r13, none⟩ = some (.int .u32 (x13.toNat : Int)) := by rw [hx13.out]; exact cell_word A4 (by omega)
  obtain ⟨q6, hq6⟩ : ∃ z, Hid (z = quad q2.a q3.b q0.c q1.d x12 x13) := ⟨_, rfl⟩
  have cb : ∀ W : World, Calls Tryd.prog 46 #[.int .u32 (q2.a.toNat : Int), .int .u32 (q3.b.toNat : Int), .int .u32 (q0.c.toNat : Int), .int .u32 (q1.d.toNat : Int), .int .u32 (x12.toNat : Int), .int .u32 (x13.toNat : Int)] W fun e w' => e = .returned (.tuple #[.int .u32 (q6.a.toNat : Int), .int .u32 (q6.b.toNat : Int), .int .u32 (q6.c.toNat : Int), .int .u32 (q6.d.toNat : Int)]) ∧ w' = W := fun W => by
    rw [hq6.out]; exact blend_any _ _ _ _ _ _ W
  refine wp_region_head_seq (C := fun w' => ∃ j, w' = W6.drewN j) 18 4 (by kernel_rfl) (by kernel_rfl) ⟨1, rfl⟩ (fun c a d v w h => by cases d <;> exact h) ?_
  simp only [List.take_succ_cons, List.take_zero, List.drop_succ_cons, List.drop_zero]
  iterate 18 (go_big_quiet_step (exact Calls.quiet_of_same (cb _)))
  refine ⟨_, yields_extract _ 163 0 #[.int .u32 (q6.a.toNat : Int), .int .u32 (q6.b.toNat : Int), .int .u32 (q6.c.toNat : Int), .int .u32 (q6.d.toNat : Int)] _ rfl rfl rfl rfl, _, yields_extract _ 163 1 #[.int .u32 (q6.a.toNat : Int), .int .u32 (q6.b.toNat : Int), .int .u32 (q6.c.toNat : Int), .int .u32 (q6.d.toNat : Int)] _ rfl rfl rfl rfl, _, yields_extract _ 163 2 #[.int .u32 (q6.a.toNat : Int), .int .u32 (q6.b.toNat : Int), .int .u32 (q6.c.toNat : Int), .int .u32 (q6.d.toNat : Int)] _ rfl rfl rfl rfl, _, yields_extract _ 163 3 #[.int .u32 (q6.a.toNat : Int), .int .u32 (q6.b.toNat : Int), .int .u32 (q6.c.toNat : Int), .int .u32 (q6.d.toNat : Int)] _ rfl rfl rfl rfl, ?_⟩
  rintro w' ⟨nq, rfl⟩
  go_wp2
  clear cb cr12 cr13 cm12 cm13 c2 f2 c7 f7 c8 f8 c13 f13
  refine cut_wp (fun W => Arr W w.heap.size 63 [.int .u32 (q4.a.toNat : Int), .int .u32 (q5.a.toNat : Int), .int .u32 (q6.a.toNat : Int), .int .u32 (q3.a.toNat : Int), .int .u32 (q0.b.toNat : Int), .int .u32 (q4.b.toNat : Int), .int .u32 (q5.b.toNat : Int), .int .u32 (q6.b.toNat : Int), .int .u32 (q6.c.toNat : Int), .int .u32 (q1.c.toNat : Int), .int .u32 (q4.c.toNat : Int), .int .u32 (q5.c.toNat : Int), .int .u32 (q5.d.toNat : Int), .int .u32 (q6.d.toNat : Int), .int .u32 (q2.d.toNat : Int), .int .u32 (q4.d.toNat : Int)] ∧ Arr W (w.heap.size + 1) 63 (ms.map wv) ∧ Arr W (w.heap.size + 1 + 1) 73 [.int .u8 (r0 : Int), .int .u8 (r1 : Int), .int .u8 (r2 : Int), .int .u8 (r3 : Int), .int .u8 (r4 : Int), .int .u8 (r5 : Int), .int .u8 (r6 : Int), .int .u8 (r7 : Int), .int .u8 (r8 : Int), .int .u8 (r9 : Int), .int .u8 (r10 : Int), .int .u8 (r11 : Int), .int .u8 (r12 : Int), .int .u8 (r13 : Int), .int .u8 (r14 : Int), .int .u8 (r15 : Int)] ∧ Arr W (w.heap.size + 1 + 1 + 1) 63 [.int .u32 0, .int .u32 0, .int .u32 0, .int .u32 0, .int .u32 0, .int .u32 0, .int .u32 0, .int .u32 0, .int .u32 0, .int .u32 0, .int .u32 0, .int .u32 0, .int .u32 0, .int .u32 0, .int .u32 0, .int .u32 0] ∧ Below w.heap.size w W) ?_ ?_
  · exact ⟨(((((A3.drewN _).set 2 _).set 7 _).set 8 _).set 13 _), (((((A4.drewN _).other e1 _).other e1 _).other e1 _).other e1 _), (((((A5.drewN _).other e2 _).other e2 _).other e2 _).other e2 _), (((((A6.drewN _).other e3 _).other e3 _).other e3 _).other e3 _), ((((below_drewN hB _).setCell (Nat.le_refl _) _).setCell (Nat.le_refl _) _).setCell (Nat.le_refl _) _).setCell (Nat.le_refl _) _⟩
  clear A3 A4 A5 A6 hB
  rintro W7 ⟨A3, A4, A5, A6, hB⟩
  have c3 := A3.cell (i := 3) rfl
  have f3 := A3.frozen 3
  have c4 := A3.cell (i := 4) rfl
  have f4 := A3.frozen 4
  have c9 := A3.cell (i := 9) rfl
  have f9 := A3.frozen 9
  have c14 := A3.cell (i := 14) rfl
  have f14 := A3.frozen 14
  have cr14 := A5.cell (i := 14) rfl
  have cr15 := A5.cell (i := 15) rfl
  obtain ⟨x14, hx14⟩ : ∃ z, Hid (z = ms.getD r14 0) := ⟨_, rfl⟩
  have cm14 : W7.cell? ⟨w.heap.size + 1, r14, none⟩ = some (.int .u32 (x14.toNat : Int)) := by rw [hx14.out]; exact cell_word A4 (by omega)
  obtain ⟨x15, hx15⟩ : ∃ z, Hid (z = ms.getD r15 0) := ⟨_, rfl⟩
  have cm15 : W7.cell? ⟨w.heap.size + 1, r15, none⟩ = some (.int .u32 (x15.toNat : Int)) := by rw [hx15.out]; exact cell_word A4 (by omega)
  obtain ⟨q7, hq7⟩ : ∃ z, Hid (z = quad q3.a q0.b q1.c q2.d x14 x15) := ⟨_, rfl⟩
  have cb : ∀ W : World, Calls Tryd.prog 46 #[.int .u32 (q3.a.toNat : Int), .int .u32 (q0.b.toNat : Int), .int .u32 (q1.c.toNat : Int), .int .u32 (q2.d.toNat : Int), .int .u32 (x14.toNat : Int), .int .u32 (x15.toNat : Int)] W fun e w' => e = .returned (.tuple #[.int .u32 (q7.a.toNat : Int), .int .u32 (q7.b.toNat : Int), .int .u32 (q7.c.toNat : Int), .int .u32 (q7.d.toNat : Int)]) ∧ w' = W := fun W => by
    rw [hq7.out]; exact blend_any _ _ _ _ _ _ W
  rename_i K hK
  replace hK : Hid _ := hK
  refine wp_region_head_seq (C := fun w' => ∃ j, w' = W7.drewN j) 18 4 (by kernel_rfl) (by kernel_rfl) ⟨1, rfl⟩ (fun c a d v w h => by cases d <;> exact h) ?_
  simp only [List.take_succ_cons, List.take_zero, List.drop_succ_cons, List.drop_zero]
  iterate 18 (go_big_quiet_step (exact Calls.quiet_of_same (cb _)))
  refine ⟨_, yields_extract _ 189 0 #[.int .u32 (q7.a.toNat : Int), .int .u32 (q7.b.toNat : Int), .int .u32 (q7.c.toNat : Int), .int .u32 (q7.d.toNat : Int)] _ rfl rfl rfl rfl, _, yields_extract _ 189 1 #[.int .u32 (q7.a.toNat : Int), .int .u32 (q7.b.toNat : Int), .int .u32 (q7.c.toNat : Int), .int .u32 (q7.d.toNat : Int)] _ rfl rfl rfl rfl, _, yields_extract _ 189 2 #[.int .u32 (q7.a.toNat : Int), .int .u32 (q7.b.toNat : Int), .int .u32 (q7.c.toNat : Int), .int .u32 (q7.d.toNat : Int)] _ rfl rfl rfl rfl, _, yields_extract _ 189 3 #[.int .u32 (q7.a.toNat : Int), .int .u32 (q7.b.toNat : Int), .int .u32 (q7.c.toNat : Int), .int .u32 (q7.d.toNat : Int)] _ rfl rfl rfl rfl, ?_⟩
  rintro w' ⟨nq, rfl⟩
  go_wp2
  clear cb cr14 cr15 cm14 cm15 c3 f3 c4 f4 c9 f9 c14 f14
  refine hK.out _ _ ?_
  clear hK
  refine cut_wp (fun W => Arr W w.heap.size 63 [.int .u32 (q4.a.toNat : Int), .int .u32 (q5.a.toNat : Int), .int .u32 (q6.a.toNat : Int), .int .u32 (q7.a.toNat : Int), .int .u32 (q7.b.toNat : Int), .int .u32 (q4.b.toNat : Int), .int .u32 (q5.b.toNat : Int), .int .u32 (q6.b.toNat : Int), .int .u32 (q6.c.toNat : Int), .int .u32 (q7.c.toNat : Int), .int .u32 (q4.c.toNat : Int), .int .u32 (q5.c.toNat : Int), .int .u32 (q5.d.toNat : Int), .int .u32 (q6.d.toNat : Int), .int .u32 (q7.d.toNat : Int), .int .u32 (q4.d.toNat : Int)] ∧ Arr W (w.heap.size + 1) 63 (ms.map wv) ∧ Arr W (w.heap.size + 1 + 1) 73 [.int .u8 (r0 : Int), .int .u8 (r1 : Int), .int .u8 (r2 : Int), .int .u8 (r3 : Int), .int .u8 (r4 : Int), .int .u8 (r5 : Int), .int .u8 (r6 : Int), .int .u8 (r7 : Int), .int .u8 (r8 : Int), .int .u8 (r9 : Int), .int .u8 (r10 : Int), .int .u8 (r11 : Int), .int .u8 (r12 : Int), .int .u8 (r13 : Int), .int .u8 (r14 : Int), .int .u8 (r15 : Int)] ∧ Arr W (w.heap.size + 1 + 1 + 1) 63 [.int .u32 0, .int .u32 0, .int .u32 0, .int .u32 0, .int .u32 0, .int .u32 0, .int .u32 0, .int .u32 0, .int .u32 0, .int .u32 0, .int .u32 0, .int .u32 0, .int .u32 0, .int .u32 0, .int .u32 0, .int .u32 0] ∧ Below w.heap.size w W) ?_ ?_
  · exact ⟨(((((A3.drewN _).set 3 _).set 4 _).set 9 _).set 14 _), (((((A4.drewN _).other e1 _).other e1 _).other e1 _).other e1 _), (((((A5.drewN _).other e2 _).other e2 _).other e2 _).other e2 _), (((((A6.drewN _).other e3 _).other e3 _).other e3 _).other e3 _), ((((below_drewN hB _).setCell (Nat.le_refl _) _).setCell (Nat.le_refl _) _).setCell (Nat.le_refl _) _).setCell (Nat.le_refl _) _⟩
  clear A3 A4 A5 A6 hB
  rintro W8 ⟨A3, A4, A5, A6, hB⟩
  have hR := Arr.row A6 [.int .u32 (q4.a.toNat : Int), .int .u32 (q5.a.toNat : Int), .int .u32 (q6.a.toNat : Int), .int .u32 (q7.a.toNat : Int), .int .u32 (q7.b.toNat : Int), .int .u32 (q4.b.toNat : Int), .int .u32 (q5.b.toNat : Int), .int .u32 (q6.b.toNat : Int), .int .u32 (q6.c.toNat : Int), .int .u32 (q7.c.toNat : Int), .int .u32 (q4.c.toNat : Int), .int .u32 (q5.c.toNat : Int), .int .u32 (q5.d.toNat : Int), .int .u32 (q6.d.toNat : Int), .int .u32 (q7.d.toNat : Int), .int .u32 (q4.d.toNat : Int)]
  have hBR := below_setRow hB (show w.heap.size ≤ w.heap.size + 1 + 1 + 1 by omega) #[.int .u32 (q4.a.toNat : Int), .int .u32 (q5.a.toNat : Int), .int .u32 (q6.a.toNat : Int), .int .u32 (q7.a.toNat : Int), .int .u32 (q7.b.toNat : Int), .int .u32 (q4.b.toNat : Int), .int .u32 (q5.b.toNat : Int), .int .u32 (q6.b.toNat : Int), .int .u32 (q6.c.toNat : Int), .int .u32 (q7.c.toNat : Int), .int .u32 (q4.c.toNat : Int), .int .u32 (q5.c.toNat : Int), .int .u32 (q5.d.toNat : Int), .int .u32 (q6.d.toNat : Int), .int .u32 (q7.d.toNat : Int), .int .u32 (q4.d.toNat : Int)]
  go_wp2_with (first | refine wpList_load_row (by rfl) 63 _ (by rfl) w.heap.size (by rfl) 63 #[.int .u32 (q4.a.toNat : Int), .int .u32 (q5.a.toNat : Int), .int .u32 (q6.a.toNat : Int), .int .u32 (q7.a.toNat : Int), .int .u32 (q7.b.toNat : Int), .int .u32 (q4.b.toNat : Int), .int .u32 (q5.b.toNat : Int), .int .u32 (q6.b.toNat : Int), .int .u32 (q6.c.toNat : Int), .int .u32 (q7.c.toNat : Int), .int .u32 (q4.c.toNat : Int), .int .u32 (q5.c.toNat : Int), .int .u32 (q5.d.toNat : Int), .int .u32 (q6.d.toNat : Int), .int .u32 (q7.d.toNat : Int), .int .u32 (q4.d.toNat : Int)] (0, 0) _ A3 Tryd.underlying63 (by rfl) hi ?_ | refine wpList_store_row (by rfl) 63 _ _ (by rfl) (w.heap.size + 1 + 1 + 1) #[.int .u32 (q4.a.toNat : Int), .int .u32 (q5.a.toNat : Int), .int .u32 (q6.a.toNat : Int), .int .u32 (q7.a.toNat : Int), .int .u32 (q7.b.toNat : Int), .int .u32 (q4.b.toNat : Int), .int .u32 (q5.b.toNat : Int), .int .u32 (q6.b.toNat : Int), .int .u32 (q6.c.toNat : Int), .int .u32 (q7.c.toNat : Int), .int .u32 (q4.c.toNat : Int), .int .u32 (q5.c.toNat : Int), .int .u32 (q5.d.toNat : Int), .int .u32 (q6.d.toNat : Int), .int .u32 (q7.d.toNat : Int), .int .u32 (q4.d.toNat : Int)] (by rfl) (by rfl) 63 _ A6 hi (by rfl) (one_all [q4.a, q5.a, q6.a, q7.a, q7.b, q4.b, q5.b, q6.b, q6.c, q7.c, q4.c, q5.c, q5.d, q6.d, q7.d, q4.d]) ?_)
  (try simp only [Exit.inBlock, Exit.then])
  refine bodyPost_ret (v := .agg #[.int .u32 (q4.a.toNat : Int), .int .u32 (q5.a.toNat : Int), .int .u32 (q6.a.toNat : Int), .int .u32 (q7.a.toNat : Int), .int .u32 (q7.b.toNat : Int), .int .u32 (q4.b.toNat : Int), .int .u32 (q5.b.toNat : Int), .int .u32 (q6.b.toNat : Int), .int .u32 (q6.c.toNat : Int), .int .u32 (q7.c.toNat : Int), .int .u32 (q4.c.toNat : Int), .int .u32 (q5.c.toNat : Int), .int .u32 (q5.d.toNat : Int), .int .u32 (q6.d.toNat : Int), .int .u32 (q7.d.toNat : Int), .int .u32 (q4.d.toNat : Int)]) ?r1 ?r2 ?r3
  case r1 => exact results_cell_row rfl _ _ (w.heap.size + 1 + 1 + 1) 63 #[.int .u32 (q4.a.toNat : Int), .int .u32 (q5.a.toNat : Int), .int .u32 (q6.a.toNat : Int), .int .u32 (q7.a.toNat : Int), .int .u32 (q7.b.toNat : Int), .int .u32 (q4.b.toNat : Int), .int .u32 (q5.b.toNat : Int), .int .u32 (q6.b.toNat : Int), .int .u32 (q6.c.toNat : Int), .int .u32 (q7.c.toNat : Int), .int .u32 (q4.c.toNat : Int), .int .u32 (q5.c.toNat : Int), .int .u32 (q5.d.toNat : Int), .int .u32 (q6.d.toNat : Int), .int .u32 (q7.d.toNat : Int), .int .u32 (q4.d.toNat : Int)] (0, 0) _ rfl hR Tryd.underlying63 rfl hi
  case r2 => rfl
  refine ⟨?_, hBR⟩
  rw [show stirL [w0, w1, w2, w3, w4, w5, w6, w7, w8, w9, w10, w11, w12, w13, w14, w15] ms [r0, r1, r2, r3, r4, r5, r6, r7, r8, r9, r10, r11, r12, r13, r14, r15] = [q4.a, q5.a, q6.a, q7.a, q7.b, q4.b, q5.b, q6.b, q6.c, q7.c, q4.c, q5.c, q5.d, q6.d, q7.d, q4.d] from ?_]
  · rfl
  · have s0 : stepQ [w0, w1, w2, w3, w4, w5, w6, w7, w8, w9, w10, w11, w12, w13, w14, w15] 0 4 8 12 (ms.getD r0 0) (ms.getD r1 0) = [q0.a, w1, w2, w3, q0.b, w5, w6, w7, q0.c, w9, w10, w11, q0.d, w13, w14, w15] := by
      rw [hq0.out, hx0.out, hx1.out]; rfl
    have s1 : stepQ [q0.a, w1, w2, w3, q0.b, w5, w6, w7, q0.c, w9, w10, w11, q0.d, w13, w14, w15] 1 5 9 13 (ms.getD r2 0) (ms.getD r3 0) = [q0.a, q1.a, w2, w3, q0.b, q1.b, w6, w7, q0.c, q1.c, w10, w11, q0.d, q1.d, w14, w15] := by
      rw [hq1.out, hx2.out, hx3.out]; rfl
    have s2 : stepQ [q0.a, q1.a, w2, w3, q0.b, q1.b, w6, w7, q0.c, q1.c, w10, w11, q0.d, q1.d, w14, w15] 2 6 10 14 (ms.getD r4 0) (ms.getD r5 0) = [q0.a, q1.a, q2.a, w3, q0.b, q1.b, q2.b, w7, q0.c, q1.c, q2.c, w11, q0.d, q1.d, q2.d, w15] := by
      rw [hq2.out, hx4.out, hx5.out]; rfl
    have s3 : stepQ [q0.a, q1.a, q2.a, w3, q0.b, q1.b, q2.b, w7, q0.c, q1.c, q2.c, w11, q0.d, q1.d, q2.d, w15] 3 7 11 15 (ms.getD r6 0) (ms.getD r7 0) = [q0.a, q1.a, q2.a, q3.a, q0.b, q1.b, q2.b, q3.b, q0.c, q1.c, q2.c, q3.c, q0.d, q1.d, q2.d, q3.d] := by
      rw [hq3.out, hx6.out, hx7.out]; rfl
    have s4 : stepQ [q0.a, q1.a, q2.a, q3.a, q0.b, q1.b, q2.b, q3.b, q0.c, q1.c, q2.c, q3.c, q0.d, q1.d, q2.d, q3.d] 0 5 10 15 (ms.getD r8 0) (ms.getD r9 0) = [q4.a, q1.a, q2.a, q3.a, q0.b, q4.b, q2.b, q3.b, q0.c, q1.c, q4.c, q3.c, q0.d, q1.d, q2.d, q4.d] := by
      rw [hq4.out, hx8.out, hx9.out]; rfl
    have s5 : stepQ [q4.a, q1.a, q2.a, q3.a, q0.b, q4.b, q2.b, q3.b, q0.c, q1.c, q4.c, q3.c, q0.d, q1.d, q2.d, q4.d] 1 6 11 12 (ms.getD r10 0) (ms.getD r11 0) = [q4.a, q5.a, q2.a, q3.a, q0.b, q4.b, q5.b, q3.b, q0.c, q1.c, q4.c, q5.c, q5.d, q1.d, q2.d, q4.d] := by
      rw [hq5.out, hx10.out, hx11.out]; rfl
    have s6 : stepQ [q4.a, q5.a, q2.a, q3.a, q0.b, q4.b, q5.b, q3.b, q0.c, q1.c, q4.c, q5.c, q5.d, q1.d, q2.d, q4.d] 2 7 8 13 (ms.getD r12 0) (ms.getD r13 0) = [q4.a, q5.a, q6.a, q3.a, q0.b, q4.b, q5.b, q6.b, q6.c, q1.c, q4.c, q5.c, q5.d, q6.d, q2.d, q4.d] := by
      rw [hq6.out, hx12.out, hx13.out]; rfl
    have s7 : stepQ [q4.a, q5.a, q6.a, q3.a, q0.b, q4.b, q5.b, q6.b, q6.c, q1.c, q4.c, q5.c, q5.d, q6.d, q2.d, q4.d] 3 4 9 14 (ms.getD r14 0) (ms.getD r15 0) = [q4.a, q5.a, q6.a, q7.a, q7.b, q4.b, q5.b, q6.b, q6.c, q7.c, q4.c, q5.c, q5.d, q6.d, q7.d, q4.d] := by
      rw [hq7.out, hx14.out, hx15.out]; rfl
    show stepQ (stepQ (stepQ (stepQ (stepQ (stepQ (stepQ (stepQ ([w0, w1, w2, w3, w4, w5, w6, w7, w8, w9, w10, w11, w12, w13, w14, w15]) 0 4 8 12 (ms.getD r0 0) (ms.getD r1 0)) 1 5 9 13 (ms.getD r2 0) (ms.getD r3 0)) 2 6 10 14 (ms.getD r4 0) (ms.getD r5 0)) 3 7 11 15 (ms.getD r6 0) (ms.getD r7 0)) 0 5 10 15 (ms.getD r8 0) (ms.getD r9 0)) 1 6 11 12 (ms.getD r10 0) (ms.getD r11 0)) 2 7 8 13 (ms.getD r12 0) (ms.getD r13 0)) 3 4 9 14 (ms.getD r14 0) (ms.getD r15 0) = _
    rw [s0, s1, s2, s3, s4, s5, s6, s7]

theorem stir_any (ws ms : List UInt32) (rs : List Nat) (w : World) (hw : ws.length = 16) (hm : ms.length = 16) (hr : rs.length = 16) (hlt : ∀ r ∈ rs, r < 16) :
    Calls Tryd.prog 43 #[.agg (ws.map wv).toArray, .agg (ms.map wv).toArray, .agg (rs.map rv).toArray] w fun e w' => e = .returned (.agg ((stirL ws ms rs).map wv).toArray) ∧ Below w.heap.size w w' := by
  match ws, hw, rs, hr, hlt with
  | [w0, w1, w2, w3, w4, w5, w6, w7, w8, w9, w10, w11, w12, w13, w14, w15], _, [r0, r1, r2, r3, r4, r5, r6, r7, r8, r9, r10, r11, r12, r13, r14, r15], _, hlt =>
    exact stir_walk w0 w1 w2 w3 w4 w5 w6 w7 w8 w9 w10 w11 w12 w13 w14 w15 ms r0 r1 r2 r3 r4 r5 r6 r7 r8 r9 r10 r11 r12 r13 r14 r15 w hm (hlt r0 (by simp)) (hlt r1 (by simp)) (hlt r2 (by simp)) (hlt r3 (by simp)) (hlt r4 (by simp)) (hlt r5 (by simp)) (hlt r6 (by simp)) (hlt r7 (by simp)) (hlt r8 (by simp)) (hlt r9 (by simp)) (hlt r10 (by simp)) (hlt r11 (by simp)) (hlt r12 (by simp)) (hlt r13 (by simp)) (hlt r14 (by simp)) (hlt r15 (by simp))

end Go.Proofs.YtlbibhngfnllbaaDoor
