/- tusklaw06.HeaderChecks answers true; nothing old in memory is turned. -/
import Derived.Test.YtjjafbjkagdchaaDoorRefHdrId
import Derived.Test.YtjjafbjkagdchaaDoorRefHdrCheck
import Derived.Test.YtjjafbjkagdchaaDoorRefHdrSame
import Derived.Test.YtjjafbjkagdchaaDoorHdrWorks
import Derived.Test.YtjjafbjkagdchaaDoorHdrOwn
import Derived.Test.YtjjafbjkagdchaaDoorHdrBackBase
import Derived.Test.YtjjafbjkagdchaaDoorHdrOpenH
import Derived.Lib.QuietBelow
import Derived.BigQuiet
namespace Go.Proofs.YtjjafbjkagdchaaDoor
open Go.RowKit Go.Sort
set_option linter.unusedVariables false

theorem fit_same {x y : HdrM} (h : y.d = x.d) (hf : x.Fit) : y.Fit := by
  have hr : rd y.refs = rd x.refs := congrArg HdrD.refs h
  have hp : y.parents = x.parents := congrArg HdrD.parents h
  have hl : y.refs.length = x.refs.length := by have := congrArg List.length hr; simpa [rd] using this
  have hm : ∀ r ∈ y.refs, ∃ q ∈ x.refs, q.acks = r.acks := by
    intro r hm
    have h1 : r.d ∈ rd x.refs := by rw [← hr]; exact List.mem_map.2 ⟨r, hm, rfl⟩
    obtain ⟨q, hq, hqr⟩ := List.mem_map.1 h1
    exact ⟨q, hq, congrArg RefD.acks hqr⟩
  refine ⟨by rw [hl]; exact hf.n, by rw [hp]; exact hf.p, fun r hr' => ?_, fun r hr' => ?_, by rw [h]; exact hf.len⟩
  · obtain ⟨q, hq, e⟩ := hm r hr'
    rw [← e]
    exact hf.acks q hq
  · obtain ⟨q, hq, e⟩ := hm r hr'
    rw [← e]
    exact hf.mac q hq

theorem HdrM.Fit.lm {x : HdrM} (h : x.Fit) : ∀ r ∈ x.refs, r.acks.length ≤ maxLen := fun r hr => by have := h.acks r hr; unfold maxLen; omega
theorem HdrM.Fit.pm {x : HdrM} (h : x.Fit) : x.parents.length ≤ maxLen := by have := h.p; unfold maxLen; omega

set_option maxRecDepth 100000 in
set_option maxHeartbeats 4000000 in
theorem headerChecks_walk (f : Int) (x : HdrM) (w : World) (hwf : (Lit.int .i64 f).wf = true) (hA : x.At w) (hL : x.Lens) (hf : x.Fit) (hl : (encH x.d).length ≤ 1073741824) (hG : Mx.Glob w) :
    Calls Tryd.prog 3 #[.int .i64 f, x.v] w fun e w' => e = .returned (.bool true) ∧ Below w.heap.size w w' := by
  have hX := Arr.new w 25 [.int .i64 x.author, .int .i64 x.round, .slice x.ra x.refs.length x.rc, .slice x.pa x.parents.length x.pc]
  have hB := belowNew w (.cells #[.int .i64 x.author, .int .i64 x.round, .slice x.ra x.refs.length x.rc, .slice x.pa x.parents.length x.pc] 25)
  have cB := both_any f _ (hG.below hB)
  have cG := fun w1 h => great_any x w1 h hL.n' hL.p'
  have cO := fun w1 h => own6_any x w1 h hL
  unfold HdrM.v at cG cO ⊢
  go_enter Tryd.func3, Tryd.ntmps3
  go_wp2_with fail
  refine cB.mono ?_
  rintro e w2 ⟨n, tb, rb, n2, n1, rfl, hT2, hR2, hb2⟩
  have hX2 := hX.below hb2 hX.lt
  have hB2 := hB.trans (hb2.mono hB.size)
  have hk32 : ∀ k ∈ Mx.keysL seedW (3 * n + 1), k.size ≤ 32 := Mx.keysL_size _ _
  have hkl : Hid ((Mx.keysL seedW (3 * n + 1)).length = 3 * n + 1) := Mx.keysL_len _ _
  generalize Mx.keysL seedW (3 * n + 1) = ks at *
  clear hX hB hb2 cB
  have x0 := hX2.cell (i := 0) rfl
  have x1 := hX2.cell (i := 1) rfl
  have x2 := hX2.cell (i := 2) rfl
  have x3 := hX2.cell (i := 3) rfl
  go_wp2_with fail
  refine (cG _ (hA.below hB2)).mono ?_
  rintro e w3 ⟨⟨g, rfl⟩, hb3⟩
  have hX3 := hX2.below hb3 hX2.lt
  have hT3 := hT2.below hb3
  have hR3 := hR2.below hb3
  have hB3 := hB2.trans (hb3.mono hB2.size)
  clear hX2 hB2 hb3 cG x0 x1 x2 x3 hT2 hR2
  cases g with
  | true =>
    go_wp2
    go_ret
    exact ⟨rfl, hB3⟩
  | false =>
  have x0 := hX3.cell (i := 0) rfl
  have x1 := hX3.cell (i := 1) rfl
  have x2 := hX3.cell (i := 2) rfl
  have x3 := hX3.cell (i := 3) rfl
  go_wp2_with fail
  refine (cO _ (hA.below hB3)).mono ?_
  rintro e w4 ⟨y, rfl, hyd, hy, hyf, hb4⟩
  unfold HdrM.v
  have hX4 := hX3.below hb4 hX3.lt
  have hT4 := hT3.below hb4
  have hR4 := hR3.below hb4
  have hB4 := hB3.trans (hb4.mono hB3.size)
  have hbx := belowNew w4 (.cells #[.int .i64 y.author, .int .i64 y.round, .slice y.ra y.refs.length y.rc, .slice y.pa y.parents.length y.pc] 25)
  have hY5 := Arr.new w4 25 [.int .i64 y.author, .int .i64 y.round, .slice y.ra y.refs.length y.rc, .slice y.pa y.parents.length y.pc]
  have hX5 := hX4.below hbx hX4.lt
  have hT5 := hT4.below hbx
  have hR5 := hR4.below hbx
  have hB5 := hB4.trans (hbx.mono hB4.size)
  have hy5 := hy.below hbx
  have hx5 := hA.below hB5
  have hG5 := hG.below hB5
  clear hX3 hT3 hR3 hB3 hb4 cO x0 x1 x2 x3 hyf hX4 hT4 hR4 hB4 hbx hy hA hG
  obtain ⟨w5, hw5⟩ : ∃ q, w4.alloc (.cells #[.int .i64 y.author, .int .i64 y.round, .slice y.ra y.refs.length y.rc, .slice y.pa y.parents.length y.pc] 25) = q := ⟨_, rfl⟩
  rw [hw5] at hY5 hX5 hT5 hR5 hB5 hy5 hx5 hG5
  have hfy := fit_same hyd hf
  have hl2 : (encH x.d).length ≤ 140737488351232 := by omega
  have hln : x.refs.length ≤ 4611686018427387903 := by have := hf.n; omega
  have hlp : x.parents.length ≤ 4611686018427387903 := by have := hf.p; omega
  have hyn : y.refs.length ≤ 4611686018427387903 := by have := hfy.n; omega
  have hyp : y.parents.length ≤ 4611686018427387903 := by have := hfy.p; omega
  have hya : ∀ r ∈ y.refs, r.acks.length ≤ 4611686018427387903 := fun r hr => by have := hfy.acks r hr; omega
  have bl := fun d os => below_regrown w5 d os
  obtain ⟨er, her⟩ : ∃ q, Hid (q = chkH (3 * n + 1) (2 * n + 1) (enT ks n) x.d) := ⟨_, rfl⟩
  obtain ⟨eb, heb⟩ : ∃ q, Hid (q = (⟨(encH x.d).toArray⟩ : ByteArray)) := ⟨_, rfl⟩
  obtain ⟨ib, hib⟩ : ∃ q, Hid (q = Mx.bytes (Mx.sumL (encH x.d))) := ⟨_, rfl⟩
  have k1 : ∀ d os, Calls Tryd.prog 10 #[.pointer (some ⟨tb, 0, none⟩), y.v] (grow (redrawn w5 d) os) fun e w'' => e = .returned (.int .i64 (er : Int)) ∧ ∃ p : Regrown, w'' = grow (redrawn w5 p.d) p.os := fun d os => Calls.regrown_of (by
    rw [her.out, ← hyd]
    exact hdrCheck_any tb n ks y _ (hT5.below (bl d os)) n2 hk32 (hy5.below (bl d os)) hfy.lm hfy.pm (hG5.below (bl d os)))
  have k2 : ∀ d os, Calls Tryd.prog 11 #[.pointer (some ⟨rb, 0, none⟩), x.v] (grow (redrawn w5 d) os) fun e w'' => e = .returned (.int .i64 (er : Int)) ∧ ∃ p : Regrown, w'' = grow (redrawn w5 p.d) p.os := fun d os => Calls.regrown_of (by
    rw [her.out]
    exact refHdrCheck_any rb n ks x _ (hR5.below (bl d os)) n2 hkl.out hk32 (hx5.below (bl d os)) hf.lm hf.pm (hG5.below (bl d os)))
  have k3 : ∀ d os, Calls Tryd.prog 12 #[y.v] (grow (redrawn w5 d) os) fun e w'' => e = .returned (.string eb) ∧ ∃ p : Regrown, w'' = grow (redrawn w5 p.d) p.os := fun d os => Calls.regrown_of (by
    rw [heb.out, ← hyd]
    exact hdrEncode_any y _ (hy5.below (bl d os)) hfy)
  have k4 : ∀ d os, Calls Tryd.prog 13 #[x.v] (grow (redrawn w5 d) os) fun e w'' => e = .returned (.string eb) ∧ ∃ p : Regrown, w'' = grow (redrawn w5 p.d) p.os := fun d os => Calls.regrown_of (by
    rw [heb.out]
    exact refHdrEncode_any x _ (hx5.below (bl d os)) hf)
  have k5 : ∀ d os, Calls Tryd.prog 14 #[y.v] (grow (redrawn w5 d) os) fun e w'' => e = .returned (.string ib) ∧ ∃ p : Regrown, w'' = grow (redrawn w5 p.d) p.os := fun d os => Calls.regrown_of (by
    rw [hib.out, ← hyd]
    exact hdrId_any y _ (hy5.below (bl d os)) hfy (by rw [hyd]; exact hl2) (hG5.below (bl d os)))
  have k6 : ∀ d os, Calls Tryd.prog 15 #[x.v] (grow (redrawn w5 d) os) fun e w'' => e = .returned (.string ib) ∧ ∃ p : Regrown, w'' = grow (redrawn w5 p.d) p.os := fun d os => Calls.regrown_of (by
    rw [hib.out]
    exact refHdrId_any x _ (hx5.below (bl d os)) hf hl)
  have k7 : ∀ d os, Calls Tryd.prog 16 #[y.v, x.v] (grow (redrawn w5 d) os) fun e w'' => e = .returned (.bool true) ∧ ∃ p : Regrown, w'' = grow (redrawn w5 p.d) p.os := fun d os => Calls.regrown_of (by
    exact sameH_any y x _ (hy5.below (bl d os)) (hx5.below (bl d os)) hyd hyn hyp hya)
  unfold HdrM.v at k1 k2 k3 k4 k5 k6 k7
  have A0 := cell_regrown (hX5.cell (i := 0) rfl)
  have A1 := cell_regrown (hX5.cell (i := 1) rfl)
  have A2 := cell_regrown (hX5.cell (i := 2) rfl)
  have A3 := cell_regrown (hX5.cell (i := 3) rfl)
  have B0 := cell_regrown (hY5.cell (i := 0) rfl)
  have B1 := cell_regrown (hY5.cell (i := 1) rfl)
  have B2 := cell_regrown (hY5.cell (i := 2) rfl)
  have B3 := cell_regrown (hY5.cell (i := 3) rfl)
  have HBF : Hid (∀ d os, Below w.heap.size w (grow (redrawn w5 d) os)) := fun d os => hB5.trans ((bl d os).mono hB5.size)
  clear hY5 hX5 hT5 hR5 hB5 hy5 hx5 hG5 hyd hfy hl2 hln hlp hyn hyp hya bl hf hl hL hk32
  go_wp2_with fail
  refine wp_region_quiet_below (by kernel_rfl) (by kernel_rfl) ?_
  iterate 2 (go_big_quiet_step (fail))
  go_big_quiet_step (exact k1 _ _)
  iterate 2 (go_big_quiet_step (fail))
  go_big_quiet_step (exact k2 _ _)
  iterate 3 (go_big_quiet_step (fail))
  go_big_quiet_step (exact k3 _ _)
  iterate 1 (go_big_quiet_step (fail))
  go_big_quiet_step (exact k4 _ _)
  iterate 4 (go_big_quiet_step (fail))
  go_big_quiet_step (exact k5 _ _)
  iterate 1 (go_big_quiet_step (fail))
  go_big_quiet_step (exact k6 _ _)
  iterate 5 (go_big_quiet_step (fail))
  go_big_quiet_step (exact k7 _ _)
  iterate 2 (go_big_quiet_step (fail))
  refine wpQuiet_nil ?_
  rintro w' ⟨p, rfl⟩
  have hBF := HBF.out p.d p.os
  generalize grow (redrawn w5 p.d) p.os = w6 at hBF ⊢
  clear k1 k2 k3 k4 k5 k6 k7 A0 A1 A2 A3 B0 B1 B2 B3 HBF
  go_wp2
  go_ret
  exact ⟨rfl, hBF⟩
end Go.Proofs.YtjjafbjkagdchaaDoor
