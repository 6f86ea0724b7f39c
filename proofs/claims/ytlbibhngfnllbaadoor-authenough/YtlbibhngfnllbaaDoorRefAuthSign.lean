/- What the reference's N, Need and Sign do; nothing old in memory is turned. -/
import Derived.Test.YtlbibhngfnllbaaDoorAuthSign
import Derived.Test.YtlbibhngfnllbaaDoorAuthRefWire
import Derived.Test.YtlbibhngfnllbaaDoorRefMixFace
namespace Go.Proofs.YtlbibhngfnllbaaDoor
open Go.RowKit Go.Sort
set_option linter.unusedVariables false

set_option maxRecDepth 100000 in
theorem refN_any (b f : Nat) (ks : List ByteArray) (w : World) (h : TabAt w b f ks) (hf : f ≤ 2) :
    Calls Tryd.prog 12 #[.pointer (some ⟨b, 0, none⟩)] w fun e w' => e = .returned (.int .i64 ((3 * f + 1 : Nat) : Int)) ∧ w' = w := by
  have c0 := h.c0
  go_enter Tryd.func12, Tryd.ntmps12
  go_wp2
  go_ret
  exact ⟨by go_num, rfl⟩

set_option maxRecDepth 100000 in
theorem refNeed_any (b f : Nat) (ks : List ByteArray) (w : World) (h : TabAt w b f ks) (hf : f ≤ 2) :
    Calls Tryd.prog 14 #[.pointer (some ⟨b, 0, none⟩)] w fun e w' => e = .returned (.int .i64 ((2 * f + 1 : Nat) : Int)) ∧ w' = w := by
  have c0 := h.c0
  go_enter Tryd.func14, Tryd.ntmps14
  go_wp2
  go_ret
  exact ⟨by go_num, rfl⟩

set_option maxRecDepth 100000 in
set_option maxHeartbeats 400000 in
theorem refSign_no (b f : Nat) (ks : List ByteArray) (who : Int) (kind word : ByteArray) (w : World) (h : TabAt w b f ks) (hf : f ≤ 2) (hl : ks.length = 3 * f + 1) (hn : who < 0 ∨ (ks.length : Int) ≤ who) :
    Calls Tryd.prog 16 #[.pointer (some ⟨b, 0, none⟩), .int .i64 who, .string kind, .string word] w fun e w' => e = .returned (.tuple #[tagV 0 ⟨#[]⟩, .int .i64 2]) ∧ Below w.heap.size w w' := by
  have hA := Arr.new w 32 [.int .i64 0, .string ⟨#[]⟩]
  have hB := (Below.refl w.heap.size w).alloc (Nat.le_refl _) (.cells #[.int .i64 0, .string ⟨#[]⟩] 32)
  by_cases h0 : who < 0
  · go_enter Tryd.func16, Tryd.ntmps16
    go_wp2
    refine bodyPost_ret (v := .tuple #[tagV 0 ⟨#[]⟩, .int .i64 2]) ?r1 ?r2 ?r3
    case r1 => exact results_tag (p := 8) (u := 9) rfl _ _ w.heap.size 32 0 ⟨#[]⟩ rfl hA _ rfl
    case r2 => rfl
    exact ⟨rfl, hB⟩
  · have h1 : ((3 * f + 1 : Nat) : Int) ≤ who := by omega
    go_enter Tryd.func16, Tryd.ntmps16
    go_wp2_with fail
    refine (refN_any b f ks _ (h.below hB) hf).mono ?_
    rintro e w1 ⟨rfl, rfl⟩
    go_wp2
    refine bodyPost_ret (v := .tuple #[tagV 0 ⟨#[]⟩, .int .i64 2]) ?r1 ?r2 ?r3
    case r1 => exact results_tag (p := 8) (u := 9) rfl _ _ w.heap.size 32 0 ⟨#[]⟩ rfl hA _ rfl
    case r2 => rfl
    all_goals exact ⟨rfl, hB⟩

set_option maxRecDepth 100000 in
set_option maxHeartbeats 400000 in
theorem refSign_yes (b f : Nat) (ks : List ByteArray) (j : Nat) (kind word : ByteArray) (w : World) (h : TabAt w b f ks) (kj : ByteArray) (hkj : ks[j]? = some kj) (hks : ∀ k ∈ ks, k.size ≤ 32) (hf : f ≤ 2) (hl : ks.length = 3 * f + 1) (hkd : kind.size ≤ 1000) (hwd : word.size ≤ 2000) (hG : Glob w) :
    Calls Tryd.prog 16 #[.pointer (some ⟨b, 0, none⟩), .int .i64 (j : Int), .string kind, .string word] w fun e w' => e = .returned (.tuple #[tagV (j : Int) (macOf kj kind word), .int .i64 0]) ∧ Below w.heap.size w w' := by
  obtain ⟨hj, hkg⟩ := List.getElem?_eq_some_iff.1 hkj
  obtain ⟨mc, hmc⟩ : ∃ z, Hid (z = macOf kj kind word) := ⟨_, rfl⟩
  rw [← hmc.out]
  have hA := Arr.new w 32 [.int .i64 0, .string ⟨#[]⟩]
  have hB := (Below.refl w.heap.size w).alloc (Nat.le_refl _) (.cells #[.int .i64 0, .string ⟨#[]⟩] 32)
  have hjn : ¬ ((3 * f + 1 : Nat) : Int) ≤ (j : Int) := by omega
  have hjz : ¬ (j : Int) < 0 := by omega
  go_enter Tryd.func16, Tryd.ntmps16
  go_wp2_with fail
  refine (refN_any b f ks _ (h.below hB) hf).mono ?_
  rintro e w1 ⟨rfl, rfl⟩
  have hT := h.below hB
  have hG0 := hG.below hB
  generalize w.alloc (.cells #[.int .i64 0, .string ⟨#[]⟩] 32) = w0 at hA hB hT hG0 ⊢
  obtain ⟨a, cap, c1, hst⟩ := hT.c1
  obtain ⟨bs, off, rfl, hbs, cj⟩ := hst j hj
  have hks32 : kj.size ≤ 32 := hks _ (List.mem_of_getElem? hkj)
  rw [hkg] at cj
  have C1 : ∀ d os, (grow (redrawn w0 d) os).cell? ⟨b, 1, none⟩ = some (.slice (some ⟨bs, off, none⟩) ks.length cap) := fun d os => cell_regrown c1 d os
  have CJ : ∀ d os, (grow (redrawn w0 d) os).cell? ⟨bs, off + j, none⟩ = some (.string kj) := fun d os => cell_regrown cj d os
  have hG' : ∀ p : Regrown, Glob (grow (redrawn w0 p.d) p.os) := fun p => hG0.below (below_regrown w0 p.d p.os)
  have hj0 : (0 : Int) ≤ (j : Int) := by omega
  have hj1 : (j : Int) < (ks.length : Int) := by omega
  obtain ⟨tk, htk⟩ : ∃ z, Hid (z = (⟨(txt kind.data.toList).toArray⟩ : ByteArray)) := ⟨_, rfl⟩
  obtain ⟨u, hu⟩ : ∃ z, Hid (z = tk ++ word) := ⟨_, rfl⟩
  have huc : tk ++ word = u := hu.out.symm
  have htks : tk.size ≤ 1009 := by
    rw [htk.out, ByteArray.size_mk']
    have := txt_size kind.data.toList
    have hl : kind.data.toList.length = kind.size := by simp
    simp only [List.size_toArray]
    omega
  have hus : u.size ≤ 3009 := by rw [hu.out, ByteArray.size_append]; omega
  have hmx : ¬ (maxLen < tk.size + word.size) := by unfold maxLen; omega
  have cT : ∀ w1, Calls Tryd.prog 30 #[.string kind] w1 fun e w2 => e = .returned (.string tk) ∧ Below w1.heap.size w1 w2 := by
    intro w1
    rw [htk.out]
    exact refText_any _ _ (by omega)
  have cS : ∀ w1, Glob w1 → Calls Tryd.prog 29 #[.string kj, .string u] w1 fun e w2 => e = .returned (.string mc) ∧ Below w1.heap.size w1 w2 := by
    intro w1 hg
    have h := refShort_any kj u w1 (by omega) (by omega)
    have he : (bytes (keyedL kj.data.toList u.data.toList)).extract 0 16 = mc := by rw [hmc.out, hu.out, htk.out]; exact mac_spell _ _ _
    rw [he] at h
    exact h
  go_wp2_with fail
  refine wp_region_head_below 14 0 (by kernel_rfl) (by kernel_rfl) (fun c a d v w h => by cases d <;> exact h) ?_
  simp only [List.take_succ_cons, List.take_zero, List.drop_succ_cons, List.drop_zero]
  iterate 9 (go_big_quiet_step (fail))
  go_big_quiet_step (exact Calls.regrown_of (cT _))
  iterate 2 (go_big_quiet_step (fail))
  go_big_quiet_step (exact Calls.regrown_of (cS _ (hG' _)))
  go_big_quiet_step (fail)
  refine wpQuiet_nil ?_
  rintro w' ⟨p, rfl⟩
  have hb' := below_regrown w0 p.d p.os
  have hA1 := hA.below hb' hA.lt
  have hB1 := hB.trans (hb'.mono hB.size)
  generalize grow (redrawn w0 p.d) p.os = w2 at hA1 hB1 ⊢
  have t0 := hA1.cell (i := 0) (v := .int .i64 0) rfl
  have t1 := hA1.cell (i := 1) (v := .string ⟨#[]⟩) rfl
  have z0 := hA1.frozen 0
  have z1 := hA1.frozen 1
  try simp only [Act.put]
  go_wp2
  have hA2 := (hA1.set 0 (.int .i64 (j : Int))).set 1 (.string mc)
  have hB2 := (hB1.setCell (p := ⟨w.heap.size, 0, none⟩) (Nat.le_refl _) (.int .i64 (j : Int))).setCell (p := ⟨w.heap.size, 1, none⟩) (Nat.le_refl _) (.string mc)
  refine bodyPost_ret (v := .tuple #[tagV (j : Int) mc, .int .i64 0]) ?r1 ?r2 ?r3
  case r1 => exact results_tag (p := 8) (u := 9) rfl _ _ w.heap.size 32 (j : Int) mc rfl hA2 _ rfl
  case r2 => rfl
  exact ⟨rfl, hB2⟩

end Go.Proofs.YtlbibhngfnllbaaDoor
