/- What mix.digest does: the digest of a text under a key of at most thirty-two bytes; nothing old in memory is turned. -/
import Derived.Test.YtlbibhngfnllbaaDoorMixFold
import Derived.Test.YtlbibhngfnllbaaDoorMixDigMath
namespace Go.Proofs.YtlbibhngfnllbaaDoor
open Go.RowKit Go.Sort
set_option linter.unusedVariables false

theorem cut_list (s : ByteArray) : (s.extract 0 (min s.size 64)).data.toList = s.data.toList.take 64 ∧ (s.extract (min s.size 64) s.size).data.toList = s.data.toList.drop 64 := by
  have hs : s.data.toList.length = s.size := by simp
  constructor
  · simp only [ByteArray.data_extract, Array.toList_extract, List.extract_eq_take_drop, List.drop_zero, Nat.sub_zero]
    rcases Nat.le_total s.size 64 with h | h
    · rw [Nat.min_eq_left h, List.take_of_length_le (by omega), List.take_of_length_le (by omega)]
    · rw [Nat.min_eq_right h]
  · simp only [ByteArray.data_extract, Array.toList_extract, List.extract_eq_take_drop]
    rcases Nat.le_total s.size 64 with h | h
    · rw [Nat.min_eq_left h, List.drop_eq_nil_of_le (by omega), List.drop_eq_nil_of_le (by omega)]; simp
    · rw [Nat.min_eq_right h, List.take_of_length_le (by simp)]

theorem Glob.below2 {w w' : World} (h : Glob w) (hb : Below w.heap.size w w') : Glob w' := h.below hb

def strSize : Value → Nat
  | .string s => s.size
  | _ => 0

set_option maxRecDepth 100000 in
set_option maxHeartbeats 400000 in
theorem digest_any (key s : ByteArray) (w : World) (hk : key.size ≤ 32) (hs : s.size ≤ 140737488351232) (hG : Glob w) :
    Calls Tryd.prog 32 #[.string key, .string s] w fun e w' => e = .returned (.string ⟨(keyedS key.data.toList s.data.toList).toArray⟩) ∧ Below w.heap.size w w' := by
  have hA0 := (Arr.new w 59 [.int .u32 0, .int .u32 0, .int .u32 0, .int .u32 0, .int .u32 0, .int .u32 0, .int .u32 0, .int .u32 0])
  have hA1 := hA0.row (firstsL.map wv)
  have hB1 := below_setRow ((Below.refl w.heap.size w).alloc (Nat.le_refl _) (.cells #[.int .u32 0, .int .u32 0, .int .u32 0, .int .u32 0, .int .u32 0, .int .u32 0, .int .u32 0, .int .u32 0] 59)) (Nat.le_refl _) (firstsL.map wv).toArray
  have c0 := hA1.cell (i := 0) (v := .int .u32 1779033703) rfl
  have f0 := hA1.frozen 0
  have hi8 : (Tryd.prog.info? 59).map (·.size) = some (firstsL.map wv).length := info8
  have hi8' : (Tryd.prog.info? 59).map (·.size) = some (firstsL.map wv).toArray.size := info8
  go_enter Tryd.func32, Tryd.ntmps32
  go_wp2_with (first | refine wpList_load_mid (by rfl) 59 _ (by rfl) 0 0 (by rfl) (firstsL.map wv) _ hG.first Tryd.underlying59 (by rfl) hi8 ?_ | refine wpList_store_row (by rfl) 59 _ _ (by rfl) w.heap.size (firstsL.map wv).toArray (by rfl) (by rfl) 59 _ hA0 hi8' (by rfl) (one_all _) ?_)
  have hpar : bits BinOp.xor IntKind.u32 1779033703 (bits BinOp.xor IntKind.u32 16842784 ((key.size : Int) * 256)) = (((seedL key.size).getD 0 0).toNat : Int) := by
    have e1 : ((key.size : Int) * 256) = ((UInt32.ofNat (256 * key.size)).toNat : Int) := by
      rw [UInt32.toNat_ofNat']; omega
    rw [e1]
    have h1 := fold_xor 16842784 (UInt32.ofNat (256 * key.size))
    have h2 := fold_xor 1779033703 (wxor 16842784 (UInt32.ofNat (256 * key.size)))
    rw [show ((16842784 : UInt32).toNat : Int) = 16842784 from rfl] at h1
    rw [show ((1779033703 : UInt32).toNat : Int) = 1779033703 from rfl] at h2
    rw [h1, h2]
    rfl
  rw [hpar]
  have hA2 := hA1.set 0 (.int .u32 (((seedL key.size).getD 0 0).toNat : Int))
  rw [show (firstsL.map wv).set 0 (.int .u32 (((seedL key.size).getD 0 0).toNat : Int)) = (seedL key.size).map wv from rfl] at hA2
  have hB2 := hB1.setCell (p := ⟨w.heap.size, 0, none⟩) (Nat.le_refl _) (.int .u32 (((seedL key.size).getD 0 0).toNat : Int))
  generalize (((w.alloc (.cells #[.int .u32 0, .int .u32 0, .int .u32 0, .int .u32 0, .int .u32 0, .int .u32 0, .int .u32 0, .int .u32 0] 59)).setRow w.heap.size (firstsL.map wv).toArray).setCell ⟨w.heap.size, 0, none⟩ (.int .u32 (((seedL key.size).getD 0 0).toNat : Int))) = W at hA2 hB2 ⊢
  clear hA0 hA1 hB1 c0 f0 hpar
  refine (cut_any s W).mono ?_
  rintro e w' ⟨rfl, m0, rfl⟩
  have hA3 := hA2.drewN m0
  have hB3 := below_drewN hB2 m0
  obtain ⟨hcl, hcr⟩ := cut_list s
  have hsz1 : (s.extract 0 (min s.size 64)).size = (s.data.toList.take 64).length := by rw [← hcl]; simp
  have hsz2 : (s.extract (min s.size 64) s.size).size = (s.data.toList.drop 64).length := by rw [← hcr]; simp
  generalize s.extract 0 (min s.size 64) = b1 at hcl hsz1 ⊢
  generalize s.extract (min s.size 64) s.size = b2 at hcr hsz2 ⊢
  generalize W.drewN m0 = W1 at hA3 hB3 ⊢
  by_cases hke : key = ⟨#[]⟩
  · subst hke
    obtain ⟨tgt, htg⟩ : ∃ z, Hid (z = dig (seedL 0) s.data.toList 0) := ⟨_, rfl⟩
    have htgt : Hid (keyedS [] s.data.toList = textL tgt) := by
      show _ = _
      rw [htg.out]; rfl
    have hst : Hid (tgt = restL (seedL 0) b1.data.toList b2.data.toList (min 64 s.size)) := by
      show _ = _
      rw [htg.out, dig_cut, hcl, hcr]
      congr 1
      simp
    have hb64 : b1.size ≤ 64 := by rw [hsz1]; simp; omega
    have hbb : min 64 s.size + b2.size ≤ 140737488351232 + 64 := by rw [hsz2]; simp; omega
    go_wp2
    go_loopw [6, 7, 8] (fun v6 v7 v8 wr => ∃ (h : List UInt32) (blk rest : ByteArray) (en : Nat), v6 = .string blk ∧ v7 = .string rest ∧ v8 = .int .i64 en ∧ blk.size ≤ 64 ∧ en + rest.size ≤ 140737488351232 + 64 ∧ h.length = 8 ∧ Arr wr w.heap.size 59 (h.map wv) ∧ Below w.heap.size w wr ∧ Hid (tgt = restL h blk.data.toList rest.data.toList en)) (fun _ v7 _ _ => strSize v7)
    case atStart =>
      exact ⟨seedL 0, b1, b2, min 64 s.size, rfl, rfl, rfl, hb64, hbb, rfl, hA3, hB3, hst⟩
    case round =>
      clear hA2 hB2 hA3 hB3
      obtain ⟨h, blk, rest, en, rfl, rfl, rfl, hblk, hen, hh, hA, hB, ht⟩ := hrel
      obtain ⟨t, htt⟩ : ∃ z, Hid (z = UInt32.ofNat en) := ⟨_, rfl⟩
      have hte : (en : Int) % 4294967296 = (t.toNat : Int) := by rw [htt.out, UInt32.toNat_ofNat']; omega
      have hG' : ∀ p : Regrown, Glob (grow (redrawn wr p.d) p.os) := fun p => (Glob.below2 hG hB).below (below_regrown wr p.d p.os)
      have hi8 : (Tryd.prog.info? 59).map (·.size) = some (h.map wv).length := by rw [info8]; simp [hh]
      by_cases hr : rest.data.toList = []
      · have hre : rest.toList.isEmpty = true := by rw [ByteArray.toList_eq, hr]; rfl
        go_wp2
        refine wp_region_quiet_below (by kernel_rfl) (by kernel_rfl) ?_
        refine wpQuiet_load (by rfl) 59 _ (by rfl) w.heap.size 0 (by rfl) (h.map wv) _ (range_regrown hA.range) Tryd.underlying59 rfl hi8 ?_
        simp only [Act.put, List.setIfInBounds_toArray, List.set_cons_zero, List.set_cons_succ]
        go_big_quiet_step (fail)
        go_big_quiet_step (exact Calls.regrown_of (numbers_any blk _ hblk))
        iterate 2 (go_big_quiet_step (fail))
        go_big_quiet_step (exact Calls.regrown_of (fold_any h (wordsL blk.data.toList) t true _ hh (wordsL_len _) (hG' _)))
        go_big_quiet_step (exact Calls.regrown_of (text_any (foldL h (wordsL blk.data.toList) t true) _ (foldL_len _ _ _ _)))
        go_big_quiet_step (fail)
        refine wpQuiet_nil ?_
        rintro w' ⟨p, rfl⟩
        have hb' := below_regrown wr p.d p.os
        have hB1 := hB.trans (hb'.mono hB.size)
        generalize grow (redrawn wr p.d) p.os = w1 at hB1 ⊢
        go_wp2
        go_ret
        refine ⟨?_, hB1⟩
        rw [htgt.out, ht.out, hr, restL_end, htt.out]
        rfl
      · have hre : rest.toList.isEmpty = false := by
          rw [ByteArray.toList_eq]
          cases hl : rest.data.toList with
          | nil => exact absurd hl hr
          | cons _ _ => rfl
        go_wp2
        refine wp_region_head_below 6 0 (by kernel_rfl) (by kernel_rfl) (fun c a d v w h => by cases d <;> exact h) ?_
        simp only [List.take_succ_cons, List.take_zero, List.drop_succ_cons, List.drop_zero]
        refine wpQuiet_load (by rfl) 59 _ (by rfl) w.heap.size 0 (by rfl) (h.map wv) _ (range_regrown hA.range) Tryd.underlying59 rfl hi8 ?_
        simp only [Act.put, List.setIfInBounds_toArray, List.set_cons_zero, List.set_cons_succ]
        go_big_quiet_step (fail)
        go_big_quiet_step (exact Calls.regrown_of (numbers_any blk _ hblk))
        iterate 2 (go_big_quiet_step (fail))
        go_big_quiet_step (exact Calls.regrown_of (fold_any h (wordsL blk.data.toList) t false _ hh (wordsL_len _) (hG' _)))
        refine wpQuiet_nil ?_
        rintro w' ⟨p, rfl⟩
        have hb' := below_regrown wr p.d p.os
        have hA1 := hA.below hb' hA.lt
        have hB1 := hB.trans (hb'.mono hB.size)
        generalize grow (redrawn wr p.d) p.os = w1 at hA1 hB1 ⊢
        refine wpList_store_row (by rfl) 59 _ _ (by rfl) w.heap.size ((foldL h (wordsL blk.data.toList) t false).map wv).toArray (by rfl) (by rfl) 59 _ hA1 (by rw [info8]; simp [foldL_len]) (by simp [foldL_len, hh]) (one_all _) ?_
        have hA2 := hA1.row ((foldL h (wordsL blk.data.toList) t false).map wv)
        have hB2 := below_setRow hB1 (Nat.le_refl _) ((foldL h (wordsL blk.data.toList) t false).map wv).toArray
        generalize w1.setRow _ _ = w2 at hA2 hB2 ⊢
        try simp only [Act.put]
        go_wp2_with fail
        refine (cut_any rest w2).mono ?_
        rintro e w' ⟨rfl, m1, rfl⟩
        have hA4 := hA2.drewN m1
        have hB4 := below_drewN hB2 m1
        obtain ⟨hcl, hcr⟩ := cut_list rest
        have hsz1 : (rest.extract 0 (min rest.size 64)).size = (rest.data.toList.take 64).length := by rw [← hcl]; simp
        have hsz2 : (rest.extract (min rest.size 64) rest.size).size = (rest.data.toList.drop 64).length := by rw [← hcr]; simp
        generalize rest.extract 0 (min rest.size 64) = b1' at hcl hsz1 ⊢
        generalize rest.extract (min rest.size 64) rest.size = b2' at hcr hsz2 ⊢
        generalize w2.drewN m1 = w3 at hA4 hB4 ⊢
        have hrs : rest.data.toList.length = rest.size := by simp
        have hrp : 0 < rest.size := by
          rw [← hrs]
          exact List.length_pos_iff.2 hr
        have hz1 : b1'.size ≤ 64 := by rw [hsz1]; simp; omega
        have hz2 : b1'.size + b2'.size = rest.size := by rw [hsz1, hsz2]; simp; omega
        have hz3 : b2'.size < rest.size := by rw [hsz2]; simp; omega
        have hnx : Hid (tgt = restL (foldL h (wordsL blk.data.toList) t false) b1'.data.toList b2'.data.toList (en + b1'.size)) := by
          show _ = _
          rw [ht.out, restL_next _ _ _ _ hr, hcl, hcr, hsz1, htt.out]
        clear hsz1 hsz2
        go_wp2
        go_roundw
        case rel => exact ⟨_, b1', b2', en + b1'.size, rfl, rfl, by go_num, hz1, by omega, foldL_len _ _ _ _, hA4, hB4, hnx⟩
        case measure => simp [strSize]; omega
  · have hkl : key.data.toList ≠ [] := fun e => hke (by
      cases key with
      | mk d => simp only at e; rw [show d = #[] from by cases d; simp_all])
    have hkb : key.toList.isEmpty = false := by
      rw [ByteArray.toList_eq]
      cases hl : key.data.toList with
      | nil => exact absurd hl hkl
      | cons _ _ => rfl
    have hks : key.data.toList.length = key.size := by simp
    obtain ⟨tgt, htg⟩ : ∃ z, Hid (z = restL (seedL key.size) key.data.toList s.data.toList 64) := ⟨_, rfl⟩
    have htgt : Hid (keyedS key.data.toList s.data.toList = textL tgt) := by
      show _ = _
      unfold keyedS digestL
      rw [if_neg hkl, hks, htg.out, ← dig_key _ _ _ (by omega), hks]
    go_wp2
    go_loopw [6, 7, 8] (fun v6 v7 v8 wr => ∃ (h : List UInt32) (blk rest : ByteArray) (en : Nat), v6 = .string blk ∧ v7 = .string rest ∧ v8 = .int .i64 en ∧ blk.size ≤ 64 ∧ en + rest.size ≤ 140737488351232 + 64 ∧ h.length = 8 ∧ Arr wr w.heap.size 59 (h.map wv) ∧ Below w.heap.size w wr ∧ Hid (tgt = restL h blk.data.toList rest.data.toList en)) (fun _ v7 _ _ => strSize v7)
    case atStart =>
      exact ⟨seedL key.size, key, s, 64, rfl, rfl, rfl, by omega, by omega, rfl, hA3, hB3, htg⟩
    case round =>
      clear hA2 hB2 hA3 hB3
      obtain ⟨h, blk, rest, en, rfl, rfl, rfl, hblk, hen, hh, hA, hB, ht⟩ := hrel
      obtain ⟨t, htt⟩ : ∃ z, Hid (z = UInt32.ofNat en) := ⟨_, rfl⟩
      have hte : (en : Int) % 4294967296 = (t.toNat : Int) := by rw [htt.out, UInt32.toNat_ofNat']; omega
      have hG' : ∀ p : Regrown, Glob (grow (redrawn wr p.d) p.os) := fun p => (Glob.below2 hG hB).below (below_regrown wr p.d p.os)
      have hi8 : (Tryd.prog.info? 59).map (·.size) = some (h.map wv).length := by rw [info8]; simp [hh]
      by_cases hr : rest.data.toList = []
      · have hre : rest.toList.isEmpty = true := by rw [ByteArray.toList_eq, hr]; rfl
        go_wp2
        refine wp_region_quiet_below (by kernel_rfl) (by kernel_rfl) ?_
        refine wpQuiet_load (by rfl) 59 _ (by rfl) w.heap.size 0 (by rfl) (h.map wv) _ (range_regrown hA.range) Tryd.underlying59 rfl hi8 ?_
        simp only [Act.put, List.setIfInBounds_toArray, List.set_cons_zero, List.set_cons_succ]
        go_big_quiet_step (fail)
        go_big_quiet_step (exact Calls.regrown_of (numbers_any blk _ hblk))
        iterate 2 (go_big_quiet_step (fail))
        go_big_quiet_step (exact Calls.regrown_of (fold_any h (wordsL blk.data.toList) t true _ hh (wordsL_len _) (hG' _)))
        go_big_quiet_step (exact Calls.regrown_of (text_any (foldL h (wordsL blk.data.toList) t true) _ (foldL_len _ _ _ _)))
        go_big_quiet_step (fail)
        refine wpQuiet_nil ?_
        rintro w' ⟨p, rfl⟩
        have hb' := below_regrown wr p.d p.os
        have hB1 := hB.trans (hb'.mono hB.size)
        generalize grow (redrawn wr p.d) p.os = w1 at hB1 ⊢
        go_wp2
        go_ret
        refine ⟨?_, hB1⟩
        rw [htgt.out, ht.out, hr, restL_end, htt.out]
        rfl
      · have hre : rest.toList.isEmpty = false := by
          rw [ByteArray.toList_eq]
          cases hl : rest.data.toList with
          | nil => exact absurd hl hr
          | cons _ _ => rfl
        go_wp2
        refine wp_region_head_below 6 0 (by kernel_rfl) (by kernel_rfl) (fun c a d v w h => by cases d <;> exact h) ?_
        simp only [List.take_succ_cons, List.take_zero, List.drop_succ_cons, List.drop_zero]
        refine wpQuiet_load (by rfl) 59 _ (by rfl) w.heap.size 0 (by rfl) (h.map wv) _ (range_regrown hA.range) Tryd.underlying59 rfl hi8 ?_
        simp only [Act.put, List.setIfInBounds_toArray, List.set_cons_zero, List.set_cons_succ]
        go_big_quiet_step (fail)
        go_big_quiet_step (exact Calls.regrown_of (numbers_any blk _ hblk))
        iterate 2 (go_big_quiet_step (fail))
        go_big_quiet_step (exact Calls.regrown_of (fold_any h (wordsL blk.data.toList) t false _ hh (wordsL_len _) (hG' _)))
        refine wpQuiet_nil ?_
        rintro w' ⟨p, rfl⟩
        have hb' := below_regrown wr p.d p.os
        have hA1 := hA.below hb' hA.lt
        have hB1 := hB.trans (hb'.mono hB.size)
        generalize grow (redrawn wr p.d) p.os = w1 at hA1 hB1 ⊢
        refine wpList_store_row (by rfl) 59 _ _ (by rfl) w.heap.size ((foldL h (wordsL blk.data.toList) t false).map wv).toArray (by rfl) (by rfl) 59 _ hA1 (by rw [info8]; simp [foldL_len]) (by simp [foldL_len, hh]) (one_all _) ?_
        have hA2 := hA1.row ((foldL h (wordsL blk.data.toList) t false).map wv)
        have hB2 := below_setRow hB1 (Nat.le_refl _) ((foldL h (wordsL blk.data.toList) t false).map wv).toArray
        generalize w1.setRow _ _ = w2 at hA2 hB2 ⊢
        try simp only [Act.put]
        go_wp2_with fail
        refine (cut_any rest w2).mono ?_
        rintro e w' ⟨rfl, m1, rfl⟩
        have hA4 := hA2.drewN m1
        have hB4 := below_drewN hB2 m1
        obtain ⟨hcl, hcr⟩ := cut_list rest
        have hsz1 : (rest.extract 0 (min rest.size 64)).size = (rest.data.toList.take 64).length := by rw [← hcl]; simp
        have hsz2 : (rest.extract (min rest.size 64) rest.size).size = (rest.data.toList.drop 64).length := by rw [← hcr]; simp
        generalize rest.extract 0 (min rest.size 64) = b1' at hcl hsz1 ⊢
        generalize rest.extract (min rest.size 64) rest.size = b2' at hcr hsz2 ⊢
        generalize w2.drewN m1 = w3 at hA4 hB4 ⊢
        have hrs : rest.data.toList.length = rest.size := by simp
        have hrp : 0 < rest.size := by
          rw [← hrs]
          exact List.length_pos_iff.2 hr
        have hz1 : b1'.size ≤ 64 := by rw [hsz1]; simp; omega
        have hz2 : b1'.size + b2'.size = rest.size := by rw [hsz1, hsz2]; simp; omega
        have hz3 : b2'.size < rest.size := by rw [hsz2]; simp; omega
        have hnx : Hid (tgt = restL (foldL h (wordsL blk.data.toList) t false) b1'.data.toList b2'.data.toList (en + b1'.size)) := by
          show _ = _
          rw [ht.out, restL_next _ _ _ _ hr, hcl, hcr, hsz1, htt.out]
        clear hsz1 hsz2
        go_wp2
        go_roundw
        case rel => exact ⟨_, b1', b2', en + b1'.size, rfl, rfl, by go_num, hz1, by omega, foldL_len _ _ _ _, hA4, hB4, hnx⟩
        case measure => simp [strSize]; omega
end Go.Proofs.YtlbibhngfnllbaaDoor
