/- What mix.numbers does: the sixteen words of a block of at most sixty-four bytes, bytes that it lacks being 0; nothing old in memory is turned. -/
import Derived.Test.YtlbibhngfnllbaaDoorMixWords
import Derived.Test.YtlbibhngfnllbaaDoorMixArr
import Derived.Test.YtlbibhngfnllbaaDoorRegionHead
import Derived.Test.YtlbibhngfnllbaaDoorRows
import Derived.WalkKit
import Derived.WalkSpells
import Derived.WalkLawsBesides
import Derived.Deep.QuietTactic
import Derived.BigQuiet
namespace Go.Proofs.YtlbibhngfnllbaaDoor
open Go.RowKit
set_option linter.unusedVariables false

theorem info16 : (Tryd.prog.info? 63).map (·.size) = some 16 := by kernel_rfl

set_option maxRecDepth 100000 in
set_option maxHeartbeats 1000000 in
theorem numbers_any (s : ByteArray) (w : World) (hs : s.size ≤ 64) :
    Calls Tryd.prog 37 #[.string s] w fun e w' => e = .returned (.agg ((wordsL s.data.toList).map wv).toArray) ∧ Below w.heap.size w w' := by
  have hs' : (s.size : Int) ≤ 64 := by omega
  go_enter Tryd.func37, Tryd.ntmps37
  go_wp2
  go_loopw [7] (fun v7 wr => ∃ i : Nat, i ≤ s.size ∧ v7 = .int .i64 i ∧ Arr wr (w.heap.size + 1) 63 ((wordsL (s.data.toList.take i)).map wv) ∧ Arr wr w.heap.size 63 (List.replicate 16 (.int .u32 0)) ∧ Below w.heap.size w wr) (fun v7 _ => s.size - (intOf v7).toNat)
  case atStart =>
    obtain ⟨h1, h2, h3⟩ := two_new w 63 63 (List.replicate 16 (.int .u32 0)) (List.replicate 16 (.int .u32 0))
    exact ⟨0, Nat.zero_le _, rfl, h2, h1, h3⟩
  case round =>
    obtain ⟨i, hi, rfl, hA, hZ, hB⟩ := hrel
    by_cases hlt : i < s.size
    · have h1 : (i : Int) < (s.size : Int) := by omega
      have h0 : (0 : Int) ≤ (i : Int) := by omega
      obtain ⟨m, hm⟩ : ∃ z, Hid (z = wordAt (s.data.toList.take i) (i / 4)) := ⟨_, rfl⟩
      obtain ⟨b, hb⟩ : ∃ z : UInt8, Hid (z = s.data.toList.getD i 0) := ⟨_, rfl⟩
      have hc : wr.cell? ⟨w.heap.size + 1, i / 4, none⟩ = some (.int .u32 (m.toNat : Int)) := by
        rw [hm.out]
        refine hA.cell ?_
        rw [List.getElem?_map, wordsL_get _ _ (by omega)]; rfl
      have hf := hA.frozen (i / 4)
      go_wp2
      refine wp_region_head_seq (C := fun w' => ∃ j, w' = wr.drewN j) 13 0 (by kernel_rfl) (by kernel_rfl) ⟨1, rfl⟩ (fun c a d v w h => by cases d <;> exact h) ?_
      simp only [List.take_succ_cons, List.take_zero, List.drop_succ_cons, List.drop_zero]
      repeat (go_big_quiet_step (fail))
      refine wpQuiet_nil ?_
      rintro w' ⟨nq, rfl⟩
      go_wp2
      have hval : bits BinOp.or IntKind.u32 (m.toNat : Int) ((s[i].toNat : Int) % 4294967296 * 2 ^ (i % 4 * 8) % 4294967296) = ((wordStep s.data.toList i).toNat : Int) := by
        have e1 : ((s[i].toNat : Int) % 4294967296 * 2 ^ (i % 4 * 8) % 4294967296) = ((UInt32.ofNat (byteAt s.data.toList i * 2 ^ (i % 4 * 8))).toNat : Int) := by
          rw [UInt32.toNat_ofNat']
          have hbt : byteAt s.data.toList i = s[i].toNat := by
            unfold byteAt
            have hl : i < s.data.toList.length := by simpa using hlt
            rw [List.getD, List.getElem?_eq_getElem hl]
            rfl
          rw [hbt]
          have h256 := s[i].toNat_lt
          rw [show ((s[i].toNat : Int) % 4294967296) = (s[i].toNat : Int) from Int.emod_eq_of_lt (by omega) (by omega)]
          simp
        rw [e1, fold_or, hm.out]
        rfl
      rw [hval]
      have hA' := (hA.drewN nq).set (i / 4) (.int .u32 ((wordStep s.data.toList i).toNat : Int))
      have hZ' := (hZ.drewN nq).other (p := ⟨w.heap.size + 1, i / 4, none⟩) (by simp) (.int .u32 ((wordStep s.data.toList i).toNat : Int))
      have hB' := (below_drewN hB nq).setCell (p := ⟨w.heap.size + 1, i / 4, none⟩) (by simp) (.int .u32 ((wordStep s.data.toList i).toNat : Int))
      go_roundw
      case rel =>
        refine ⟨i + 1, by omega, by go_num, ?_, hZ', hB'⟩
        rw [wordsL_step]
        rw [List.map_set]
        exact hA'
      case measure => simp [intOf]; omega
    · have h1 : ¬ (i : Int) < (s.size : Int) := by omega
      have hfin : s.data.toList.take i = s.data.toList := List.take_of_length_le (by simp; omega)
      rw [hfin] at hA
      have hR := hZ.row ((wordsL s.data.toList).map wv)
      have hBR := below_setRow hB (Nat.le_refl _) ((wordsL s.data.toList).map wv).toArray
      have hi16 : (Tryd.prog.info? 63).map (·.size) = some (((wordsL s.data.toList).map wv).toArray).size := by
        rw [info16]; simp [wordsL_len]
      go_wp2_with (first | refine wpList_load_row (by rfl) 63 _ (by rfl) (w.heap.size + 1) (by rfl) 63 _ (0, 0) _ hA Tryd.underlying63 (by rfl) hi16 ?_ | refine wpList_store_row (by rfl) 63 _ _ (by rfl) w.heap.size ((wordsL s.data.toList).map wv).toArray (by rfl) (by rfl) 63 _ hZ hi16 (by simp [wordsL_len]) (one_all _) ?_)
      refine bodyPost_ret (v := .agg ((wordsL s.data.toList).map wv).toArray) ?r1 ?r2 ?r3
      case r1 => exact results_cell_row rfl _ _ w.heap.size 63 _ (0, 0) _ rfl hR Tryd.underlying63 rfl hi16
      case r2 => rfl
      exact ⟨rfl, hBR⟩
end Go.Proofs.YtlbibhngfnllbaaDoor
