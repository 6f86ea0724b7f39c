/- What mix.fold does: eight words turned by a block's words; nothing old in memory is turned. -/
import Derived.Test.YtlbibhngfnllbaaDoorMixStir
import Derived.Test.YtlbibhngfnllbaaDoorMixFoldMath
import Derived.Test.YtlbibhngfnllbaaDoorMixNumbers
import Derived.BigRegion
namespace Go.Proofs.YtlbibhngfnllbaaDoor
open Go.RowKit Go.Sort
set_option linter.unusedVariables false

/-- The two tables, as the program's text lays them. -/
structure Glob (w : World) : Prop where
  first : w.rangeAt 0 0 (firstsL.map wv)
  rows : ∀ i, i < 10 → w.rangeAt 1 (i * 16) ((rowL i).map rv)

theorem Glob.below {w w' : World} (h : Glob w) (hb : Below w.heap.size w w') : Glob w' := ⟨range_below h.first hb, fun i hi => range_below (h.rows i hi) hb⟩

theorem range_of_below {w w' : World} {b o B : Nat} {cs : List Value} (h : w.rangeAt b o cs) (hb : Below B w w') (hB : b < B) : w'.rangeAt b o cs := fun j v hv => by
  rw [hb.cell (p := ⟨b, o + j, none⟩) hB]; exact h j v hv

theorem info8 : (Tryd.prog.info? 59).map (·.size) = some 8 := by kernel_rfl
theorem info16b : (Tryd.prog.info? 73).map (·.size) = some 16 := by kernel_rfl

theorem Glob.first_lt {w : World} (h : Glob w) : 0 < w.heap.size := by
  have := h.first 0 (wv 1779033703) rfl
  exact World.block_lt_of_cell? w _ this
theorem Glob.rows_lt {w : World} (h : Glob w) : 1 < w.heap.size := by
  have := h.rows 0 (by omega) 0 (rv 0) rfl
  exact World.block_lt_of_cell? w _ this

set_option maxRecDepth 100000 in
set_option maxHeartbeats 400000 in
theorem fold_false (h m : List UInt32) (t : UInt32) (w : World) (hh : h.length = 8) (hm : m.length = 16) (hG : Glob w) :
    Calls Tryd.prog 36 #[.agg (h.map wv).toArray, .agg (m.map wv).toArray, .int .u32 (t.toNat : Int), .bool false] w fun e w' => e = .returned (.agg ((foldL h m t false).map wv).toArray) ∧ Below w.heap.size w w' := by
  have hN0 := hG.first_lt
  have hN1 := hG.rows_lt
  have X := fold_xor
  have n1 : ¬ (w.heap.size + 1 + 1 + 1 = 0) := by omega
  have n2 : ¬ (w.heap.size + 1 + 1 + 1 = w.heap.size) := by omega
  have e0 : w.heap.size ≠ w.heap.size + 1 + 1 + 1 := by omega
  have e1 : w.heap.size + 1 ≠ w.heap.size + 1 + 1 + 1 := by omega
  have e2 : w.heap.size + 1 + 1 ≠ w.heap.size + 1 + 1 + 1 := by omega
  have e3 : w.heap.size + 1 + 1 ≠ w.heap.size := by omega
  have le3 : w.heap.size ≤ w.heap.size + 1 + 1 + 1 := by omega
  go_enter Tryd.func36, Tryd.ntmps36
  go_wp2
  go_loopw [13] (fun v13 wr => ∃ i : Nat, i ≤ 8 ∧ v13 = .int .i64 i ∧ Arr wr w.heap.size 59 (h.map wv) ∧ Arr wr (w.heap.size + 1) 63 (m.map wv) ∧ Arr wr (w.heap.size + 1 + 1) 59 (List.replicate 8 (.int .u32 0)) ∧ Arr wr (w.heap.size + 1 + 1 + 1) 63 (layCells h i) ∧ Below w.heap.size w wr) (fun v13 _ => 8 - (intOf v13).toNat)
  case atStart =>
    obtain ⟨h1, h2, h3, h4, h5⟩ := four_new w 59 63 59 63 (h.map wv) (m.map wv) (List.replicate 8 (.int .u32 0)) (List.replicate 16 (.int .u32 0)) _ rfl
    exact ⟨0, Nat.zero_le _, rfl, h1, h2, h3, h4, h5⟩
  case round =>
    obtain ⟨i, hi, rfl, hH, hM, hZ, hW, hB⟩ := hrel
    by_cases hlt : i < 8
    · have h1 : (i : Int) < 8 := by omega
      have h0 : (0 : Int) ≤ (i : Int) := by omega
      obtain ⟨x, hx⟩ : ∃ z, Hid (z = h.getD i 0) := ⟨_, rfl⟩
      obtain ⟨f, hf⟩ : ∃ z, Hid (z = firstsL.getD i 0) := ⟨_, rfl⟩
      have c1 : wr.cell? ⟨w.heap.size, i, none⟩ = some (.int .u32 (x.toNat : Int)) := by
        rw [hx.out]; exact hH.cell (getD_get h i (by omega))
      have c2 : wr.cell? ⟨0, i, none⟩ = some (.int .u32 (f.toNat : Int)) := by
        rw [hf.out, hB.cell (p := ⟨0, i, none⟩) hN0]
        have := hG.first i _ (getD_get firstsL i (by simp [firstsL]; omega))
        rwa [Nat.zero_add] at this
      have f1 := hW.frozen i
      have f2 := hW.frozen (i + 8)
      have d1 : (wr.cell? ⟨w.heap.size + 1 + 1 + 1, i, none⟩) = some (layCells h i)[i]! := hW.cell (by simp [layCells_len, show i < 16 by omega])
      have d2 : (wr.cell? ⟨w.heap.size + 1 + 1 + 1, i + 8, none⟩) = some (layCells h i)[i + 8]! := hW.cell (by simp [layCells_len, show i + 8 < 16 by omega])
      generalize (layCells h i)[i]! = y1 at d1
      generalize (layCells h i)[i + 8]! = y2 at d2
      go_wp2
      go_region
      go_wp2
      have hW' := ((hW.set i (wv x)).set (i + 8) (wv f)).drew
      rw [hx.out, hf.out, ← layCells_step h i hlt, ← hx.out, ← hf.out] at hW'
      exact ⟨⟨i + 1, by omega, by simp, ((hH.other e0 _).other e0 _).drew, ((hM.other e1 _).other e1 _).drew, ((hZ.other e2 _).other e2 _).drew, hW', ((hB.setCell le3 _).setCell le3 _).drew⟩, by simp [intOf]; omega⟩
    · obtain rfl : i = 8 := by omega
      rw [layCells_all h hh] at hW
      have hl16 : (h ++ firstsL).length = 16 := by simp [hh, firstsL]
      obtain ⟨x, hx⟩ : ∃ z, Hid (z = (h ++ firstsL).getD 12 0) := ⟨_, rfl⟩
      have c12 : wr.cell? ⟨w.heap.size + 1 + 1 + 1, 12, none⟩ = some (.int .u32 (x.toNat : Int)) := by
        rw [hx.out]; exact hW.cell (getD_get _ 12 (by omega))
      have f12 := hW.frozen 12
      have hS : Arr (wr.setCell ⟨w.heap.size + 1 + 1 + 1, 12, none⟩ (wv (wxor x t))) (w.heap.size + 1 + 1 + 1) 63 ((startL h t false).map wv) := by
        have := hW.set 12 (wv (wxor x t))
        rw [← List.map_set] at this
        have e : startL h t false = (h ++ firstsL).set 12 (wxor x t) := by
          rw [hx.out]; rfl
        rw [e]; exact this
      obtain ⟨s0, hs0⟩ : ∃ z, Hid (z = startL h t false) := ⟨_, rfl⟩
      have hsl : s0.length = 16 := by rw [hs0.out]; exact startL_len h t false hh
      rw [← hs0.out] at hS
      go_wp2
      go_loopw [38] (fun v38 wr => ∃ i : Nat, i ≤ 10 ∧ v38 = .int .i64 i ∧ Arr wr w.heap.size 59 (h.map wv) ∧ Arr wr (w.heap.size + 1) 63 (m.map wv) ∧ Arr wr (w.heap.size + 1 + 1) 59 (List.replicate 8 (.int .u32 0)) ∧ Arr wr (w.heap.size + 1 + 1 + 1) 63 ((rounds m s0 i).map wv) ∧ Below w.heap.size w wr) (fun v38 _ => 10 - (intOf v38).toNat)
      case atStart =>
        exact ⟨0, Nat.zero_le _, rfl, hH.other e0 _, hM.other e1 _, hZ.other e2 _, hS, hB.setCell le3 _⟩
      case round =>
        clear hS hH hM hZ hW hB c12 f12
        obtain ⟨i, hi, rfl, hH, hM, hZ, hW, hB⟩ := hrel
        by_cases hlt : i < 10
        · have h1 : (i : Int) < 10 := by omega
          have h0 : (0 : Int) ≤ (i : Int) := by omega
          go_wp2
          refine wp_region_head_below 6 0 (by kernel_rfl) (by kernel_rfl) (fun c a d v w h => by cases d <;> exact h) ?_
          simp only [List.take_succ_cons, List.take_zero, List.drop_succ_cons, List.drop_zero]
          refine wpQuiet_load (by rfl) 63 _ (by rfl) (w.heap.size + 1 + 1 + 1) 0 (by rfl) ((rounds m s0 i).map wv) _ (range_regrown hW.range) Tryd.underlying63 rfl (by rw [info16]; simp [rounds_len, hsl]) ?_
          refine wpQuiet_load (by rfl) 63 _ (by rfl) (w.heap.size + 1) 0 (by rfl) (m.map wv) _ (range_regrown hM.range) Tryd.underlying63 rfl (by rw [info16]; simp [hm]) ?_
          simp only [Act.put, List.setIfInBounds_toArray, List.set_cons_zero, List.set_cons_succ]
          iterate 2 (go_big_quiet_step (fail))
          refine wpQuiet_load (by rfl) 73 _ (by rfl) 1 (i * 16) (by rfl) ((rowL i).map rv) _ (range_regrown (range_of_below (hG.rows i hlt) hB hN1)) Tryd.underlying73 rfl (by rw [info16b]; simp [rowL_len i hlt]) ?_
          simp only [Act.put, List.setIfInBounds_toArray, List.set_cons_zero, List.set_cons_succ]
          go_big_quiet_step (exact Calls.regrown_of (stir_any (rounds m s0 i) m (rowL i) _ (by rw [rounds_len, hsl]) hm (rowL_len i hlt) (rowL_lt i hlt)))
          refine wpQuiet_nil ?_
          rintro w' ⟨p, rfl⟩
          have hb' := below_regrown wr p.d p.os
          have hH1 := hH.below hb' hH.lt
          have hM1 := hM.below hb' hM.lt
          have hZ1 := hZ.below hb' hZ.lt
          have hW1 := hW.below hb' hW.lt
          have hB1 := hB.trans (hb'.mono hB.size)
          generalize grow (redrawn wr p.d) p.os = w1 at hH1 hM1 hZ1 hW1 hB1
          refine wpList_store_row (by rfl) 63 _ _ (by rfl) (w.heap.size + 1 + 1 + 1) ((stirL (rounds m s0 i) m (rowL i)).map wv).toArray (by rfl) (by rfl) 63 _ hW1 (by rw [info16]; simp [stirL_len, rounds_len, hsl]) (by simp [stirL_len]) (one_all _) ?_
          have hW2 := hW1.row ((stirL (rounds m s0 i) m (rowL i)).map wv)
          have hH2 := hH1.rowOther e0 ((stirL (rounds m s0 i) m (rowL i)).map wv).toArray
          have hM2 := hM1.rowOther e1 ((stirL (rounds m s0 i) m (rowL i)).map wv).toArray
          have hZ2 := hZ1.rowOther e2 ((stirL (rounds m s0 i) m (rowL i)).map wv).toArray
          have hB2 := below_setRow hB1 le3 ((stirL (rounds m s0 i) m (rowL i)).map wv).toArray
          generalize w1.setRow _ _ = w2 at hW2 hH2 hM2 hZ2 hB2
          try simp only [Act.put]
          go_wp2
          go_roundw
          case rel => exact ⟨i + 1, by omega, by go_num, hH2, hM2, hZ2, hW2, hB2⟩
          case measure => simp [intOf]; omega
        · obtain rfl : i = 10 := by omega
          obtain ⟨s1, hs1⟩ : ∃ z, Hid (z = rounds m s0 10) := ⟨_, rfl⟩
          have hsl1 : s1.length = 16 := by rw [hs1.out, rounds_len]; exact hsl
          rw [← hs1.out] at hW
          go_wp2
          go_loopw [48] (fun v48 wr => ∃ i : Nat, i ≤ 8 ∧ v48 = .int .i64 i ∧ Arr wr w.heap.size 59 ((turnL h s1 i).map wv) ∧ Arr wr (w.heap.size + 1 + 1) 59 (List.replicate 8 (.int .u32 0)) ∧ Arr wr (w.heap.size + 1 + 1 + 1) 63 (s1.map wv) ∧ Below w.heap.size w wr) (fun v48 _ => 8 - (intOf v48).toNat)
          case atStart => exact ⟨0, Nat.zero_le _, rfl, by rw [turnL_zero h s1 hh]; exact hH, hZ, hW, hB⟩
          case round =>
            clear hH hM hZ hW hB
            obtain ⟨i, hi, rfl, hH, hZ, hW, hB⟩ := hrel
            by_cases hlt : i < 8
            · have h1 : (i : Int) < 8 := by omega
              have h0 : (0 : Int) ≤ (i : Int) := by omega
              obtain ⟨a, ha⟩ : ∃ z, Hid (z = h.getD i 0) := ⟨_, rfl⟩
              obtain ⟨b, hb⟩ : ∃ z, Hid (z = s1.getD i 0) := ⟨_, rfl⟩
              obtain ⟨c, hc⟩ : ∃ z, Hid (z = s1.getD (i + 8) 0) := ⟨_, rfl⟩
              have c1 : wr.cell? ⟨w.heap.size, i, none⟩ = some (.int .u32 (a.toNat : Int)) := by
                rw [ha.out]; exact hH.cell (by rw [List.getElem?_map, turnL_get h s1 i hlt]; rfl)
              have c2 : wr.cell? ⟨w.heap.size + 1 + 1 + 1, i, none⟩ = some (.int .u32 (b.toNat : Int)) := by
                rw [hb.out]; exact hW.cell (getD_get s1 i (by omega))
              have c3 : wr.cell? ⟨w.heap.size + 1 + 1 + 1, i + 8, none⟩ = some (.int .u32 (c.toNat : Int)) := by
                rw [hc.out]; exact hW.cell (getD_get s1 (i + 8) (by omega))
              have f1 := hH.frozen i
              go_wp2
              go_region
              go_wp2
              have hH' := (hH.set i (wv (wxor a (wxor b c)))).drew
              rw [← List.map_set, ha.out, hb.out, hc.out, ← turnL_step, ← ha.out, ← hb.out, ← hc.out] at hH'
              exact ⟨⟨i + 1, by omega, by simp, hH', (hZ.other e3 _).drew, (hW.other n2 _).drew, (hB.setCell (Nat.le_refl _) _).drew⟩, by simp [intOf]; omega⟩
            · obtain rfl : i = 8 := by omega
              rw [hs1.out, hs0.out, turnL_all] at hH
              have hi8 : (Tryd.prog.info? 59).map (·.size) = some (((foldL h m t false).map wv).toArray).size := by
                rw [info8]; simp [foldL_len]
              have hR := hZ.row ((foldL h m t false).map wv)
              have hBR := below_setRow hB (show w.heap.size ≤ w.heap.size + 1 + 1 by omega) ((foldL h m t false).map wv).toArray
              go_wp2_with (first | refine wpList_load_row (by rfl) 59 _ (by rfl) w.heap.size (by rfl) 59 _ (0, 0) _ hH Tryd.underlying59 (by rfl) hi8 ?_ | refine wpList_store_row (by rfl) 59 _ _ (by rfl) (w.heap.size + 1 + 1) ((foldL h m t false).map wv).toArray (by rfl) (by rfl) 59 _ hZ hi8 (by simp [foldL_len]) (one_all _) ?_)
              refine bodyPost_ret (v := .agg ((foldL h m t false).map wv).toArray) ?r1 ?r2 ?r3
              case r1 => exact results_cell_row rfl _ _ (w.heap.size + 1 + 1) 59 _ (0, 0) _ rfl hR Tryd.underlying59 rfl hi8
              case r2 => rfl
              exact ⟨rfl, hBR⟩

set_option maxRecDepth 100000 in
set_option maxHeartbeats 400000 in
theorem fold_true (h m : List UInt32) (t : UInt32) (w : World) (hh : h.length = 8) (hm : m.length = 16) (hG : Glob w) :
    Calls Tryd.prog 36 #[.agg (h.map wv).toArray, .agg (m.map wv).toArray, .int .u32 (t.toNat : Int), .bool true] w fun e w' => e = .returned (.agg ((foldL h m t true).map wv).toArray) ∧ Below w.heap.size w w' := by
  have hN0 := hG.first_lt
  have hN1 := hG.rows_lt
  have X := fold_xor
  have n1 : ¬ (w.heap.size + 1 + 1 + 1 = 0) := by omega
  have n2 : ¬ (w.heap.size + 1 + 1 + 1 = w.heap.size) := by omega
  have e0 : w.heap.size ≠ w.heap.size + 1 + 1 + 1 := by omega
  have e1 : w.heap.size + 1 ≠ w.heap.size + 1 + 1 + 1 := by omega
  have e2 : w.heap.size + 1 + 1 ≠ w.heap.size + 1 + 1 + 1 := by omega
  have e3 : w.heap.size + 1 + 1 ≠ w.heap.size := by omega
  have le3 : w.heap.size ≤ w.heap.size + 1 + 1 + 1 := by omega
  go_enter Tryd.func36, Tryd.ntmps36
  go_wp2
  go_loopw [13] (fun v13 wr => ∃ i : Nat, i ≤ 8 ∧ v13 = .int .i64 i ∧ Arr wr w.heap.size 59 (h.map wv) ∧ Arr wr (w.heap.size + 1) 63 (m.map wv) ∧ Arr wr (w.heap.size + 1 + 1) 59 (List.replicate 8 (.int .u32 0)) ∧ Arr wr (w.heap.size + 1 + 1 + 1) 63 (layCells h i) ∧ Below w.heap.size w wr) (fun v13 _ => 8 - (intOf v13).toNat)
  case atStart =>
    obtain ⟨h1, h2, h3, h4, h5⟩ := four_new w 59 63 59 63 (h.map wv) (m.map wv) (List.replicate 8 (.int .u32 0)) (List.replicate 16 (.int .u32 0)) _ rfl
    exact ⟨0, Nat.zero_le _, rfl, h1, h2, h3, h4, h5⟩
  case round =>
    obtain ⟨i, hi, rfl, hH, hM, hZ, hW, hB⟩ := hrel
    by_cases hlt : i < 8
    · have h1 : (i : Int) < 8 := by omega
      have h0 : (0 : Int) ≤ (i : Int) := by omega
      obtain ⟨x, hx⟩ : ∃ z, Hid (z = h.getD i 0) := ⟨_, rfl⟩
      obtain ⟨f, hf⟩ : ∃ z, Hid (z = firstsL.getD i 0) := ⟨_, rfl⟩
      have c1 : wr.cell? ⟨w.heap.size, i, none⟩ = some (.int .u32 (x.toNat : Int)) := by
        rw [hx.out]; exact hH.cell (getD_get h i (by omega))
      have c2 : wr.cell? ⟨0, i, none⟩ = some (.int .u32 (f.toNat : Int)) := by
        rw [hf.out, hB.cell (p := ⟨0, i, none⟩) hN0]
        have := hG.first i _ (getD_get firstsL i (by simp [firstsL]; omega))
        rwa [Nat.zero_add] at this
      have f1 := hW.frozen i
      have f2 := hW.frozen (i + 8)
      have d1 : (wr.cell? ⟨w.heap.size + 1 + 1 + 1, i, none⟩) = some (layCells h i)[i]! := hW.cell (by simp [layCells_len, show i < 16 by omega])
      have d2 : (wr.cell? ⟨w.heap.size + 1 + 1 + 1, i + 8, none⟩) = some (layCells h i)[i + 8]! := hW.cell (by simp [layCells_len, show i + 8 < 16 by omega])
      generalize (layCells h i)[i]! = y1 at d1
      generalize (layCells h i)[i + 8]! = y2 at d2
      go_wp2
      go_region
      go_wp2
      have hW' := ((hW.set i (wv x)).set (i + 8) (wv f)).drew
      rw [hx.out, hf.out, ← layCells_step h i hlt, ← hx.out, ← hf.out] at hW'
      exact ⟨⟨i + 1, by omega, by simp, ((hH.other e0 _).other e0 _).drew, ((hM.other e1 _).other e1 _).drew, ((hZ.other e2 _).other e2 _).drew, hW', ((hB.setCell le3 _).setCell le3 _).drew⟩, by simp [intOf]; omega⟩
    · obtain rfl : i = 8 := by omega
      rw [layCells_all h hh] at hW
      have hl16 : (h ++ firstsL).length = 16 := by simp [hh, firstsL]
      obtain ⟨x, hx⟩ : ∃ z, Hid (z = (h ++ firstsL).getD 12 0) := ⟨_, rfl⟩
      have c12 : wr.cell? ⟨w.heap.size + 1 + 1 + 1, 12, none⟩ = some (.int .u32 (x.toNat : Int)) := by
        rw [hx.out]; exact hW.cell (getD_get _ 12 (by omega))
      have f12 := hW.frozen 12
      obtain ⟨y, hy⟩ : ∃ z, Hid (z = (h ++ firstsL).getD 14 0) := ⟨_, rfl⟩
      have c14 : wr.cell? ⟨w.heap.size + 1 + 1 + 1, 14, none⟩ = some (.int .u32 (y.toNat : Int)) := by
        rw [hy.out]; exact hW.cell (getD_get _ 14 (by omega))
      have f14 := hW.frozen 14
      have hsg : IntKind.u32.signed = false := rfl
      have hmx : IntKind.u32.max = 4294967295 := rfl
      have hnot : bits BinOp.xor IntKind.u32 4294967295 (y.toNat : Int) = ((wxor y 4294967295).toNat : Int) := by
        have := fold_xor 4294967295 y
        rw [wxor_comm] at this
        exact this
      have hS : Arr ((wr.setCell ⟨w.heap.size + 1 + 1 + 1, 12, none⟩ (wv (wxor x t))).setCell ⟨w.heap.size + 1 + 1 + 1, 14, none⟩ (wv (wxor y 4294967295))) (w.heap.size + 1 + 1 + 1) 63 ((startL h t true).map wv) := by
        have := (hW.set 12 (wv (wxor x t))).set 14 (wv (wxor y 4294967295))
        rw [← List.map_set, ← List.map_set] at this
        have e : startL h t true = ((h ++ firstsL).set 12 (wxor x t)).set 14 (wxor y 4294967295) := by
          rw [hx.out, hy.out]
          match h, hh with
          | [_, _, _, _, _, _, _, _], _ => rfl
        rw [e]; exact this
      obtain ⟨s0, hs0⟩ : ∃ z, Hid (z = startL h t true) := ⟨_, rfl⟩
      have hsl : s0.length = 16 := by rw [hs0.out]; exact startL_len h t true hh
      rw [← hs0.out] at hS
      go_wp2
      go_loopw [38] (fun v38 wr => ∃ i : Nat, i ≤ 10 ∧ v38 = .int .i64 i ∧ Arr wr w.heap.size 59 (h.map wv) ∧ Arr wr (w.heap.size + 1) 63 (m.map wv) ∧ Arr wr (w.heap.size + 1 + 1) 59 (List.replicate 8 (.int .u32 0)) ∧ Arr wr (w.heap.size + 1 + 1 + 1) 63 ((rounds m s0 i).map wv) ∧ Below w.heap.size w wr) (fun v38 _ => 10 - (intOf v38).toNat)
      case atStart =>
        exact ⟨0, Nat.zero_le _, rfl, (hH.other e0 _).other e0 _, (hM.other e1 _).other e1 _, (hZ.other e2 _).other e2 _, hS, (hB.setCell le3 _).setCell le3 _⟩
      case round =>
        clear hS hH hM hZ hW hB c12 f12 c14 f14 hnot hy hsg hmx
        obtain ⟨i, hi, rfl, hH, hM, hZ, hW, hB⟩ := hrel
        by_cases hlt : i < 10
        · have h1 : (i : Int) < 10 := by omega
          have h0 : (0 : Int) ≤ (i : Int) := by omega
          go_wp2
          refine wp_region_head_below 6 0 (by kernel_rfl) (by kernel_rfl) (fun c a d v w h => by cases d <;> exact h) ?_
          simp only [List.take_succ_cons, List.take_zero, List.drop_succ_cons, List.drop_zero]
          refine wpQuiet_load (by rfl) 63 _ (by rfl) (w.heap.size + 1 + 1 + 1) 0 (by rfl) ((rounds m s0 i).map wv) _ (range_regrown hW.range) Tryd.underlying63 rfl (by rw [info16]; simp [rounds_len, hsl]) ?_
          refine wpQuiet_load (by rfl) 63 _ (by rfl) (w.heap.size + 1) 0 (by rfl) (m.map wv) _ (range_regrown hM.range) Tryd.underlying63 rfl (by rw [info16]; simp [hm]) ?_
          simp only [Act.put, List.setIfInBounds_toArray, List.set_cons_zero, List.set_cons_succ]
          iterate 2 (go_big_quiet_step (fail))
          refine wpQuiet_load (by rfl) 73 _ (by rfl) 1 (i * 16) (by rfl) ((rowL i).map rv) _ (range_regrown (range_of_below (hG.rows i hlt) hB hN1)) Tryd.underlying73 rfl (by rw [info16b]; simp [rowL_len i hlt]) ?_
          simp only [Act.put, List.setIfInBounds_toArray, List.set_cons_zero, List.set_cons_succ]
          go_big_quiet_step (exact Calls.regrown_of (stir_any (rounds m s0 i) m (rowL i) _ (by rw [rounds_len, hsl]) hm (rowL_len i hlt) (rowL_lt i hlt)))
          refine wpQuiet_nil ?_
          rintro w' ⟨p, rfl⟩
          have hb' := below_regrown wr p.d p.os
          have hH1 := hH.below hb' hH.lt
          have hM1 := hM.below hb' hM.lt
          have hZ1 := hZ.below hb' hZ.lt
          have hW1 := hW.below hb' hW.lt
          have hB1 := hB.trans (hb'.mono hB.size)
          generalize grow (redrawn wr p.d) p.os = w1 at hH1 hM1 hZ1 hW1 hB1
          refine wpList_store_row (by rfl) 63 _ _ (by rfl) (w.heap.size + 1 + 1 + 1) ((stirL (rounds m s0 i) m (rowL i)).map wv).toArray (by rfl) (by rfl) 63 _ hW1 (by rw [info16]; simp [stirL_len, rounds_len, hsl]) (by simp [stirL_len]) (one_all _) ?_
          have hW2 := hW1.row ((stirL (rounds m s0 i) m (rowL i)).map wv)
          have hH2 := hH1.rowOther e0 ((stirL (rounds m s0 i) m (rowL i)).map wv).toArray
          have hM2 := hM1.rowOther e1 ((stirL (rounds m s0 i) m (rowL i)).map wv).toArray
          have hZ2 := hZ1.rowOther e2 ((stirL (rounds m s0 i) m (rowL i)).map wv).toArray
          have hB2 := below_setRow hB1 le3 ((stirL (rounds m s0 i) m (rowL i)).map wv).toArray
          generalize w1.setRow _ _ = w2 at hW2 hH2 hM2 hZ2 hB2
          try simp only [Act.put]
          go_wp2
          go_roundw
          case rel => exact ⟨i + 1, by omega, by go_num, hH2, hM2, hZ2, hW2, hB2⟩
          case measure => simp [intOf]; omega
        · obtain rfl : i = 10 := by omega
          obtain ⟨s1, hs1⟩ : ∃ z, Hid (z = rounds m s0 10) := ⟨_, rfl⟩
          have hsl1 : s1.length = 16 := by rw [hs1.out, rounds_len]; exact hsl
          rw [← hs1.out] at hW
          go_wp2
          go_loopw [48] (fun v48 wr => ∃ i : Nat, i ≤ 8 ∧ v48 = .int .i64 i ∧ Arr wr w.heap.size 59 ((turnL h s1 i).map wv) ∧ Arr wr (w.heap.size + 1 + 1) 59 (List.replicate 8 (.int .u32 0)) ∧ Arr wr (w.heap.size + 1 + 1 + 1) 63 (s1.map wv) ∧ Below w.heap.size w wr) (fun v48 _ => 8 - (intOf v48).toNat)
          case atStart => exact ⟨0, Nat.zero_le _, rfl, by rw [turnL_zero h s1 hh]; exact hH, hZ, hW, hB⟩
          case round =>
            clear hH hM hZ hW hB
            obtain ⟨i, hi, rfl, hH, hZ, hW, hB⟩ := hrel
            by_cases hlt : i < 8
            · have h1 : (i : Int) < 8 := by omega
              have h0 : (0 : Int) ≤ (i : Int) := by omega
              obtain ⟨a, ha⟩ : ∃ z, Hid (z = h.getD i 0) := ⟨_, rfl⟩
              obtain ⟨b, hb⟩ : ∃ z, Hid (z = s1.getD i 0) := ⟨_, rfl⟩
              obtain ⟨c, hc⟩ : ∃ z, Hid (z = s1.getD (i + 8) 0) := ⟨_, rfl⟩
              have c1 : wr.cell? ⟨w.heap.size, i, none⟩ = some (.int .u32 (a.toNat : Int)) := by
                rw [ha.out]; exact hH.cell (by rw [List.getElem?_map, turnL_get h s1 i hlt]; rfl)
              have c2 : wr.cell? ⟨w.heap.size + 1 + 1 + 1, i, none⟩ = some (.int .u32 (b.toNat : Int)) := by
                rw [hb.out]; exact hW.cell (getD_get s1 i (by omega))
              have c3 : wr.cell? ⟨w.heap.size + 1 + 1 + 1, i + 8, none⟩ = some (.int .u32 (c.toNat : Int)) := by
                rw [hc.out]; exact hW.cell (getD_get s1 (i + 8) (by omega))
              have f1 := hH.frozen i
              go_wp2
              go_region
              go_wp2
              have hH' := (hH.set i (wv (wxor a (wxor b c)))).drew
              rw [← List.map_set, ha.out, hb.out, hc.out, ← turnL_step, ← ha.out, ← hb.out, ← hc.out] at hH'
              exact ⟨⟨i + 1, by omega, by simp, hH', (hZ.other e3 _).drew, (hW.other n2 _).drew, (hB.setCell (Nat.le_refl _) _).drew⟩, by simp [intOf]; omega⟩
            · obtain rfl : i = 8 := by omega
              rw [hs1.out, hs0.out, turnL_all] at hH
              have hi8 : (Tryd.prog.info? 59).map (·.size) = some (((foldL h m t true).map wv).toArray).size := by
                rw [info8]; simp [foldL_len]
              have hR := hZ.row ((foldL h m t true).map wv)
              have hBR := below_setRow hB (show w.heap.size ≤ w.heap.size + 1 + 1 by omega) ((foldL h m t true).map wv).toArray
              go_wp2_with (first | refine wpList_load_row (by rfl) 59 _ (by rfl) w.heap.size (by rfl) 59 _ (0, 0) _ hH Tryd.underlying59 (by rfl) hi8 ?_ | refine wpList_store_row (by rfl) 59 _ _ (by rfl) (w.heap.size + 1 + 1) ((foldL h m t true).map wv).toArray (by rfl) (by rfl) 59 _ hZ hi8 (by simp [foldL_len]) (one_all _) ?_)
              refine bodyPost_ret (v := .agg ((foldL h m t true).map wv).toArray) ?r1 ?r2 ?r3
              case r1 => exact results_cell_row rfl _ _ (w.heap.size + 1 + 1) 59 _ (0, 0) _ rfl hR Tryd.underlying59 rfl hi8
              case r2 => rfl
              exact ⟨rfl, hBR⟩

theorem fold_any (h m : List UInt32) (t : UInt32) (last : Bool) (w : World) (hh : h.length = 8) (hm : m.length = 16) (hG : Glob w) :
    Calls Tryd.prog 36 #[.agg (h.map wv).toArray, .agg (m.map wv).toArray, .int .u32 (t.toNat : Int), .bool last] w fun e w' => e = .returned (.agg ((foldL h m t last).map wv).toArray) ∧ Below w.heap.size w w' := by
  cases last
  · exact fold_false h m t w hh hm hG
  · exact fold_true h m t w hh hm hG
end Go.Proofs.YtlbibhngfnllbaaDoor
