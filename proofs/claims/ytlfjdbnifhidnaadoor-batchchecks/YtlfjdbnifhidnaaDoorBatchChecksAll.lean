/- Texts as one: RefBatDigest, BatchChecksWalk. -/
import Derived.Test.YtlfjdbnifhidnaaDoorRefBatAll
import Derived.Test.YtlfjdbnifhidnaaDoorBatDigest
import Derived.Test.YtlfjdbnifhidnaaDoorRefMixAll
import Derived.Test.YtlfjdbnifhidnaaDoorBatOwn
import Derived.Lib.QuietBelow
import Derived.BigQuiet
/- What tuskref05.Digest does; nothing old in memory is turned. -/
namespace Go.Proofs.YtlfjdbnifhidnaaDoor
open Go.RowKit
set_option linter.unusedVariables false

set_option maxRecDepth 100000 in
set_option maxHeartbeats 1000000 in
theorem refBatDigest_any (a n : Int) (ao : Option Addr) (l : List TxM) (cap : Nat) (w : World) (hA : TxsAt w ao l) (hS : ∀ x ∈ l, TxSizes x.d) :
    Calls Tryd.prog 10 #[batV a n ao l.length cap] w fun e w' => e = .returned (.string (digB ⟨a, n, dl l⟩)) ∧ Below w.heap.size w w' := by
  have hB := belowNew w (.cells #[.int .i64 a, .int .i64 n, .slice ao l.length cap] 24)
  have cE := fun w1 (h : TxsAt w1 ao l) => refBatEncode_any a n ao l cap w1 h hS
  have hA0 := hA.below hB
  unfold batV at cE ⊢
  by_cases hz : checkB ⟨a, n, dl l⟩ ≠ 0
  · have H : Hid (digB ⟨a, n, dl l⟩ = ⟨#[]⟩) := (if_neg hz : _ = _)
    generalize encBB ⟨a, n, dl l⟩ = eb at cE
    generalize checkB ⟨a, n, dl l⟩ = er at cE hz
    have hz2 : ((er : Int) != 0) = true := by rw [bne_iff_ne]; omega
    go_enter Tryd.func10, Tryd.ntmps10
    go_wp2_with fail
    refine (cE _ hA0).mono ?_
    rintro e w1 ⟨rfl, hb1⟩
    have hB1 := hB.trans (hb1.mono hB.size)
    clear hb1 hB hA0 cE
    go_wp2
    go_ret
    exact ⟨by rw [H.out]; rfl, hB1⟩
  · have hz' : checkB ⟨a, n, dl l⟩ = 0 := by omega
    have hlen := encBat_len hz'
    have H : Hid (digB ⟨a, n, dl l⟩ = Mx.bytes (Mx.sumL (encBat ⟨a, n, dl l⟩))) := (if_pos hz' : _ = _)
    obtain ⟨eb, heb⟩ : ∃ q, Hid (q = encBB ⟨a, n, dl l⟩) := ⟨_, rfl⟩
    have hebl : eb.data.toList = encBat ⟨a, n, dl l⟩ := by rw [heb.out]; unfold encBB; rw [if_pos hz']
    have hebs : eb.size ≤ 1073741824 := by
      have : eb.data.toList.length = eb.size := by simp
      rw [hebl] at this
      omega
    rw [← heb.out, hz'] at cE
    rw [← hebl] at H
    have cS := fun w1 => Mx.refSum_any eb w1 hebs
    clear hlen hebl
    go_enter Tryd.func10, Tryd.ntmps10
    go_wp2_with fail
    refine (cE _ hA0).mono ?_
    rintro e w1 ⟨rfl, hb1⟩
    have hB1 := hB.trans (hb1.mono hB.size)
    clear hb1 hB hA0 cE
    go_wp2_with fail
    refine (cS _).mono ?_
    rintro e w2 ⟨rfl, hb2⟩
    have hB2 := hB1.trans (hb2.mono hB1.size)
    clear hb2 hB1 cS
    go_wp2
    go_ret
    exact ⟨by rw [H.out]; rfl, hB2⟩
end Go.Proofs.YtlfjdbnifhidnaaDoor

/- tusklaw05.BatchChecks answers true at every batch; nothing old in memory is turned. -/
namespace Go.Proofs.YtlfjdbnifhidnaaDoor
open Go.RowKit Go.Sort
set_option linter.unusedVariables false

set_option maxRecDepth 100000 in
set_option maxHeartbeats 4000000 in
theorem batchChecks_walk (a n : Int) (ao : Option Addr) (l : List TxM) (cap : Nat) (w : World) (hA : TxsAt w ao l) (hL : ∀ x ∈ l, TxLens x.d) (hS : ∀ x ∈ l, TxSizes x.d) (hG : Mx.Glob w) :
    Calls Tryd.prog 3 #[batV a n ao l.length cap] w fun e w' => e = .returned (.bool true) ∧ Below w.heap.size w w' := by
  have hX := Arr.new w 24 [.int .i64 a, .int .i64 n, .slice ao l.length cap]
  have hB := belowNew w (.cells #[.int .i64 a, .int .i64 n, .slice ao l.length cap] 24)
  unfold batV
  by_cases h2 : 100 < l.length
  · have h2' : (100 : Int) < l.length := by omega
    go_enter Tryd.func3, Tryd.ntmps3
    go_wp2
    go_ret
    exact ⟨rfl, hB⟩
  have h2' : ¬ (100 : Int) < l.length := by omega
  have cO := own05_any a n ao l cap _ (hA.below hB) hL (by omega)
  unfold batV at cO
  go_enter Tryd.func3, Tryd.ntmps3
  go_wp2_with fail
  refine cO.mono ?_
  rintro e w2 ⟨ao2, cap2, m, rfl, hdm, hT2, hn2, hb2⟩
  have hX2 := hX.below hb2 hX.lt
  have hB2 := hB.trans (hb2.mono hB.size)
  have hbx := belowNew w2 (.cells #[.int .i64 a, .int .i64 n, .slice ao2 m.length cap2] 24)
  have hY3 := Arr.new w2 24 [.int .i64 a, .int .i64 n, .slice ao2 m.length cap2]
  have hX3 := hX2.below hbx hX2.lt
  have hB3 := hB2.trans (hbx.mono hB2.size)
  have hT3 := hT2.below hbx
  clear hX hB hb2 cO hX2 hB2 hT2 hbx
  have cE := fun w1 h => batEncode_any a n ao2 m cap2 w1 h
  have cF := fun w1 h => refBatEncode_any a n ao l cap w1 h hS
  rw [hdm] at cE
  unfold batV at cE cF ⊢
  obtain ⟨w3, hw3⟩ : ∃ q, w2.alloc (.cells #[.int .i64 a, .int .i64 n, .slice ao2 m.length cap2] 24) = q := ⟨_, rfl⟩
  rw [hw3] at hY3 hX3 hB3 hT3
  have x0 := hX3.cell (i := 0) rfl
  have x1 := hX3.cell (i := 1) rfl
  have x2 := hX3.cell (i := 2) rfl
  have y0 := hY3.cell (i := 0) rfl
  have y1 := hY3.cell (i := 1) rfl
  have y2 := hY3.cell (i := 2) rfl
  obtain ⟨er, her⟩ : ∃ q, Hid (q = checkB ⟨a, n, dl l⟩) := ⟨_, rfl⟩
  obtain ⟨eb, heb⟩ : ∃ q, Hid (q = encBB ⟨a, n, dl l⟩) := ⟨_, rfl⟩
  obtain ⟨ib, hib⟩ : ∃ q, Hid (q = digB ⟨a, n, dl l⟩) := ⟨_, rfl⟩
  rw [← her.out, ← heb.out] at cE cF
  have Hdm : Hid (dl m = dl l) := hdm
  have Hml : Hid (m.length = l.length) := by show _ = _; rw [← dl_length m, hdm, dl_length]
  clear hdm
  go_wp2_with fail
  refine (cE _ hT3).mono ?_
  rintro e w4 ⟨rfl, hb4⟩
  have hX4 := hX3.below hb4 hX3.lt
  have hY4 := hY3.below hb4 hY3.lt
  have hB4 := hB3.trans (hb4.mono hB3.size)
  have hT4 := hT3.below hb4
  clear hX3 hY3 hB3 hT3 hb4 cE x0 x1 x2 y0 y1 y2 hw3
  have x0 := hX4.cell (i := 0) rfl
  have x1 := hX4.cell (i := 1) rfl
  have x2 := hX4.cell (i := 2) rfl
  go_wp2_with fail
  refine (cF _ (hA.below hB4)).mono ?_
  rintro e w5 ⟨rfl, hb5⟩
  have hX5 := hX4.below hb5 hX4.lt
  have hY5 := hY4.below hb5 hY4.lt
  have hB5 := hB4.trans (hb5.mono hB4.size)
  have hT5 := hT4.below hb5
  have hA5 := hA.below hB5
  have hG5 := hG.below hB5
  clear hX4 hY4 hB4 hT4 hb5 cF x0 x1 x2
  have bl := fun d os => below_regrown w5 d os
  have hmS : ∀ x ∈ m, x.d.rs.length ≤ 9223372036854775807 ∧ x.d.ws.length ≤ 9223372036854775807 := by
    intro x hx
    have h1 : x.d ∈ dl l := by rw [← Hdm.out]; exact List.mem_map.2 ⟨x, hx, rfl⟩
    obtain ⟨y, hy, hyx⟩ := List.mem_map.1 h1
    have h3 := hL y hy
    rw [hyx] at h3
    unfold TxLens at h3
    omega
  have k1 : ∀ d os, Calls Tryd.prog 7 #[batV a n ao2 m.length cap2] (grow (redrawn w5 d) os) fun e w'' => e = .returned (.int .i64 (er : Int)) ∧ ∃ p : Regrown, w'' = grow (redrawn w5 p.d) p.os := fun d os => Calls.regrown_of (by
    rw [her.out, ← Hdm.out]
    exact batCheck_any a n ao2 m cap2 _ (hT5.below (bl d os)))
  have k2 : ∀ d os, Calls Tryd.prog 8 #[batV a n ao l.length cap] (grow (redrawn w5 d) os) fun e w'' => e = .returned (.int .i64 (er : Int)) ∧ ∃ p : Regrown, w'' = grow (redrawn w5 p.d) p.os := fun d os => Calls.regrown_of (by
    rw [her.out]
    exact refBatCheck_any a n ao l cap _ (hA5.below (bl d os)) hS)
  have k3 : ∀ d os, Calls Tryd.prog 9 #[batV a n ao2 m.length cap2] (grow (redrawn w5 d) os) fun e w'' => e = .returned (.string ib) ∧ ∃ p : Regrown, w'' = grow (redrawn w5 p.d) p.os := fun d os => Calls.regrown_of (by
    rw [hib.out, ← Hdm.out]
    exact batDigest_any a n ao2 m cap2 _ (hT5.below (bl d os)) (hG5.below (bl d os)))
  have k4 : ∀ d os, Calls Tryd.prog 10 #[batV a n ao l.length cap] (grow (redrawn w5 d) os) fun e w'' => e = .returned (.string ib) ∧ ∃ p : Regrown, w'' = grow (redrawn w5 p.d) p.os := fun d os => Calls.regrown_of (by
    rw [hib.out]
    exact refBatDigest_any a n ao l cap _ (hA5.below (bl d os)) hS)
  have k5 : ∀ d os, Calls Tryd.prog 11 #[batV a n ao2 m.length cap2, batV a n ao l.length cap] (grow (redrawn w5 d) os) fun e w'' => e = .returned (.bool true) ∧ ∃ p : Regrown, w'' = grow (redrawn w5 p.d) p.os := fun d os => Calls.regrown_of (by
    exact sameB_any a n ao2 m cap2 ao l cap _ (hT5.below (bl d os)) (hA5.below (bl d os)) Hdm.out (by rw [Hml.out]; omega) hmS)
  unfold batV at k1 k2 k3 k4 k5
  have A0 := cell_regrown (hX5.cell (i := 0) rfl)
  have A1 := cell_regrown (hX5.cell (i := 1) rfl)
  have A2 := cell_regrown (hX5.cell (i := 2) rfl)
  have B0 := cell_regrown (hY5.cell (i := 0) rfl)
  have B1 := cell_regrown (hY5.cell (i := 1) rfl)
  have B2 := cell_regrown (hY5.cell (i := 2) rfl)
  have HBF : Hid (∀ d os, Below w.heap.size w (grow (redrawn w5 d) os)) := fun d os => hB5.trans ((bl d os).mono hB5.size)
  clear hY5 hX5 hT5 hB5 hA5 hG5 bl hmS hA hG hL hS
  go_wp2_with fail
  refine wp_region_quiet_below (by kernel_rfl) (by kernel_rfl) ?_
  iterate 1 (go_big_quiet_step (fail))
  go_big_quiet_step (exact k1 _ _)
  iterate 1 (go_big_quiet_step (fail))
  go_big_quiet_step (exact k2 _ _)
  iterate 13 (go_big_quiet_step (fail))
  go_big_quiet_step (exact k3 _ _)
  iterate 1 (go_big_quiet_step (fail))
  go_big_quiet_step (exact k4 _ _)
  iterate 5 (go_big_quiet_step (fail))
  go_big_quiet_step (exact k5 _ _)
  iterate 2 (go_big_quiet_step (fail))
  refine wpQuiet_nil ?_
  rintro w' ⟨p, rfl⟩
  have hBF := HBF.out p.d p.os
  generalize grow (redrawn w5 p.d) p.os = w6 at hBF ⊢
  clear k1 k2 k3 k4 k5 A0 A1 A2 B0 B1 B2 HBF
  go_wp2
  go_ret
  exact ⟨rfl, hBF⟩
end Go.Proofs.YtlfjdbnifhidnaaDoor
