/- tusklaw06.HeaderRight answers true; nothing old in memory is turned. -/
import Derived.Test.YtjjafbjkagdchaaDoorHdrBackBase
import Derived.Test.YtjjafbjkagdchaaDoorHdrOwnS
import Derived.Test.YtjjafbjkagdchaaDoorHdrRightMath
import Derived.Test.YtjjafbjkagdchaaDoorKindsSet
import Derived.BigRegion
namespace Go.Proofs.YtjjafbjkagdchaaDoor
open Go.RowKit
set_option linter.unusedVariables false

/-- A place below k. -/
theorem pick_at (f : Int) (k : Nat) (hk : 0 < k) (hk2 : k < 9223372036854775808) : ∃ j : Nat, j < k ∧ wrap64 ((IntKind.u64.wrap f).tmod (k : Int)) = (j : Int) := by
  obtain ⟨h0, h1⟩ := Mx.u64_range f
  rw [Int.tmod_eq_emod_of_nonneg h0]
  generalize IntKind.u64.wrap f = m at h0 h1
  have hlt := Int.emod_lt_of_pos m (show (0 : Int) < (k : Int) by omega)
  have hge := Int.emod_nonneg m (show (k : Int) ≠ 0 by omega)
  refine ⟨(m % (k : Int)).toNat, by omega, ?_⟩
  rw [Mx.wrap64_small _ hge (by omega)]
  omega

set_option maxRecDepth 100000 in
set_option maxHeartbeats 4000000 in
theorem headerRight_walk (f : Int) (x : HdrM) (a : Int) (w : World) (hwf : (Lit.int .i64 f).wf = true) (hA : x.At w) (hL : x.Lens) (hwf2 : (Lit.int .i64 a).wf = true) (hG : Mx.Glob w) :
    Calls Tryd.prog 5 #[.int .i64 f, x.v, .int .i64 a] w fun e w' => e = .returned (.bool true) ∧ Below w.heap.size w w' := by
  have hX := Arr.new w 25 [.int .i64 x.author, .int .i64 x.round, .slice x.ra x.refs.length x.rc, .slice x.pa x.parents.length x.pc]
  have hB := belowNew w (.cells #[.int .i64 x.author, .int .i64 x.round, .slice x.ra x.refs.length x.rc, .slice x.pa x.parents.length x.pc] 25)
  have cW := works6_any _ (hG.below hB)
  have cG := fun w1 h => great_any x w1 h hL.n' hL.p'
  have cP := fun w1 h => plain_any x w1 h hL.acks' hL.n' hL.p'
  have cO := fun w1 h => own6_any x w1 h hL
  have cO2 := fun w1 h => own6_strong x w1 h hL
  unfold HdrM.v at cG cP cO cO2 ⊢
  go_enter Tryd.func5, Tryd.ntmps5
  go_wp2_with fail
  refine cW.mono ?_
  rintro e w1 ⟨rfl, hb1⟩
  have hX1 := hX.below hb1 hX.lt
  have hB1 := hB.trans (hb1.mono hB.size)
  clear hX hB hb1 cW
  have cB := both_any f w1 (hG.below hB1)
  go_wp2_with fail
  refine cB.mono ?_
  rintro e w2 ⟨n, tb, rb, n2, n1, rfl, hT2, _, hb2⟩
  have hX2 := hX1.below hb2 hX1.lt
  have hB2 := hB1.trans (hb2.mono hB1.size)
  have hk32 : ∀ k ∈ Mx.keysL seedW (3 * n + 1), k.size ≤ 32 := Mx.keysL_size _ _
  have hkl : Hid ((Mx.keysL seedW (3 * n + 1)).length = 3 * n + 1) := Mx.keysL_len _ _
  generalize Mx.keysL seedW (3 * n + 1) = ks at *
  clear hX1 hB1 hb2 cB
  have x0 := hX2.cell (i := 0) rfl
  have x1 := hX2.cell (i := 1) rfl
  have x2 := hX2.cell (i := 2) rfl
  have x3 := hX2.cell (i := 3) rfl
  go_wp2_with fail
  refine (cG _ (hA.below hB2)).mono ?_
  rintro e w3 ⟨⟨g, rfl⟩, hb3⟩
  have hX3 := hX2.below hb3 hX2.lt
  have hT3 := hT2.below hb3
  have hB3 := hB2.trans (hb3.mono hB2.size)
  clear hX2 hB2 hb3 cG x0 x1 x2 x3 hT2
  cases g with
  | true =>
    go_wp2
    go_ret
    exact ⟨rfl, hB3⟩
  | false =>
  have x0 := hX3.cell (i := 0) rfl
  have x1 := hX3.cell (i := 1) rfl
  have x2 := hX3.cell (i := 2) rfl
  have x3 := hX3.cell (i := 3) rfl
  go_wp2_with fail
  refine (cO _ (hA.below hB3)).mono ?_
  rintro e w4 ⟨y, rfl, hyd, hy, hyf, hb4⟩
  have hX4 := hX3.below hb4 hX3.lt
  have hT4 := hT3.below hb4
  have hB4 := hB3.trans (hb4.mono hB3.size)
  have hyl : ∀ r ∈ y.refs, r.acks.length ≤ maxLen := by
    intro r hr
    have h1 : r.d ∈ rd x.refs := by
      have h2 : rd y.refs = rd x.refs := congrArg HdrD.refs hyd
      rw [← h2]
      exact List.mem_map.2 ⟨r, hr, rfl⟩
    obtain ⟨q, hq, hqr⟩ := List.mem_map.1 h1
    have h3 : q.acks = r.acks := congrArg RefD.acks hqr
    rw [← h3]
    exact hL.acks' q hq
  have hyp : y.parents.length ≤ maxLen := by
    have h2 : y.parents = x.parents := congrArg HdrD.parents hyd
    rw [h2]
    exact hL.p'
  have cC := hdrCheck_any tb n ks y w4 hT4 n2 hk32 hy hyl hyp (hG.below hB4)
  rw [hyd] at cC
  clear hX3 hB3 hb4 cO x0 x1 x2 x3 hyf hyl hyp hT3
  unfold HdrM.v at cC ⊢
  by_cases hc : chkH (3 * n + 1) (2 * n + 1) (enT ks n) x.d ≠ 0
  · generalize chkH (3 * n + 1) (2 * n + 1) (enT ks n) x.d = er at cC hc
    have hne : ((er : Int) != 0) = true := by rw [bne_iff_ne]; omega
    go_wp2_with fail
    refine cC.mono ?_
    rintro e w5 ⟨rfl, hb5⟩
    have hB5 := hB4.trans (hb5.mono hB4.size)
    clear hb5 cC hX4 hB4 hy
    go_wp2
    go_ret
    exact ⟨rfl, hB5⟩
  have hc0 : chkH (3 * n + 1) (2 * n + 1) (enT ks n) x.d = 0 := by omega
  rw [hc0] at cC
  have HC : Hid (chkH (3 * n + 1) (2 * n + 1) (enT ks n) x.d = 0) := hc0
  have hfit : Hid x.d.Fit := right_fit hkl.out n2 hc0
  clear hc hc0
  go_wp2_with fail
  refine cC.mono ?_
  rintro e w5 ⟨rfl, hb5⟩
  have hX5 := hX4.below hb5 hX4.lt
  have hT5 := hT4.below hb5
  have hB5 := hB4.trans (hb5.mono hB4.size)
  clear hb5 cC hX4 hB4 hy hT4
  have x0 := hX5.cell (i := 0) rfl
  have x1 := hX5.cell (i := 1) rfl
  have x2 := hX5.cell (i := 2) rfl
  have x3 := hX5.cell (i := 3) rfl
  go_wp2_with fail
  refine (cP _ (hA.below hB5)).mono ?_
  rintro e w6 ⟨⟨p, rfl, hpp⟩, hb6⟩
  obtain rfl : p = true := hpp.2 hfit.out
  have hX6 := hX5.below hb6 hX5.lt
  have hT6 := hT5.below hb6
  have hB6 := hB5.trans (hb6.mono hB5.size)
  clear hb6 cP hX5 hB5 hpp hT5 x0 x1 x2 x3
  have x0 := hX6.cell (i := 0) rfl
  have x1 := hX6.cell (i := 1) rfl
  have x2 := hX6.cell (i := 2) rfl
  have x3 := hX6.cell (i := 3) rfl
  by_cases hr : 0 < x.refs.length
  · have hr' : (0 : Int) < (x.refs.length : Int) := by omega
    go_wp2_with fail
    refine (cO2 _ (hA.below hB6)).mono ?_
    rintro e w7 ⟨z, M, rfl, hzd, hzq, hzf, hzM, hzp, hM, hzc, hb7⟩
    unfold HdrM.v
    have hX7 := hX6.below hb7 hX6.lt
    have hT7 := hT6.below hb7
    have hB7 := hB6.trans (hb7.mono hB6.size)
    have hbx := belowNew w7 (.cells #[.int .i64 z.author, .int .i64 z.round, .slice z.ra z.refs.length z.rc, .slice z.pa z.parents.length z.pc] 25)
    have hZ8 := Arr.new w7 25 [.int .i64 z.author, .int .i64 z.round, .slice z.ra z.refs.length z.rc, .slice z.pa z.parents.length z.pc]
    have hX8 := hX7.below hbx hX7.lt
    have hT8 := hT7.below hbx
    have hB8 := hB7.trans (hbx.mono hB7.size)
    have hzq8 := hzq.below hbx
    have hzp8 := hzp.below hbx
    have hzl : z.refs.length = x.refs.length := by
      have h2 : rd z.refs = rd x.refs := congrArg HdrD.refs hzd
      have := congrArg List.length h2
      simpa [rd] using this
    obtain ⟨w8, hw8⟩ : ∃ q, w7.alloc (.cells #[.int .i64 z.author, .int .i64 z.round, .slice z.ra z.refs.length z.rc, .slice z.pa z.parents.length z.pc] 25) = q := ⟨_, rfl⟩
    rw [hw8] at hZ8 hX8 hT8 hB8 hzq8 hzp8
    obtain ⟨j, hj, hjw⟩ := pick_at a z.refs.length (by omega) (by have := (fit_lens hfit.out).1; omega)
    obtain ⟨r, hrj⟩ : ∃ r, z.refs[j]? = some r := ⟨z.refs[j], List.getElem?_eq_getElem hj⟩
    have hzl7 := hZ8.lt
    obtain ⟨g, off, hga, hgb, hgl, hgc, hgf, hgs⟩ := hzq8.set hrj
    have c0 : w8.cell? ⟨g, off + j * 2, none⟩ = some (.string r.digest) := hgc 0 _ rfl
    have c1 : w8.cell? ⟨g, off + j * 2 + 1, none⟩ = some (.slice r.ao r.acks.length r.cap) := hgc 1 _ rfl
    have fc1 := hgf (off + j * 2 + 1)
    have hrd : (rd z.refs)[j]? = some r.d := by simp [rd, hrj]
    have hxr : x.d.refs[j]? = some r.d := by
      have h2 : rd z.refs = x.d.refs := congrArg HdrD.refs hzd
      rw [← h2]
      exact hrd
    obtain ⟨few1, few2⟩ := right_few hkl.out n2 HC.out hxr
    have h68 : Below w6.heap.size w6 w8 := by rw [← hw8]; exact hb7.trans (hbx.mono hb7.size)
    have hg7 : g < w7.heap.size := (hzq.lt g (by rw [hga]; rfl)).2
    clear hX7 hT7 hB7 hbx hzq hzp hb7 hX8 hT8 hB8 x0 x1 x2 x3
    have Hzl : Hid (z.refs.length = x.refs.length) := hzl
    have hz4 : z.refs.length ≤ 4 := by rw [hzl]; exact (fit_lens hfit.out).1
    rw [hga] at hZ8 hzq8 hw8 ⊢
    clear hzl
    have z2 := hZ8.cell (i := 2) rfl
    have hcap := hzc r (List.mem_of_getElem? hrj)
    obtain ⟨nd, hnd⟩ : ∃ q, Hid (q = 2 * n) := ⟨_, rfl⟩
    have few1' : 2 * n + 1 ≤ r.acks.length := few1
    have hndc : (nd : Int) ≤ (r.cap : Int) := by rw [hnd.out]; omega
    have hnd0 : nd ≤ 4 := by rw [hnd.out]; omega
    have hwr : IntKind.i64.wrap (nd : Int) = (nd : Int) := (by decide : ∀ k : Fin 5, IntKind.i64.wrap (k.1 : Int) = (k.1 : Int)) ⟨nd, by omega⟩
    have cN : ∀ m, Calls Tryd.prog 20 #[.pointer (some ⟨tb, 0, none⟩)] (w8.drewN m) fun e w' => e = .returned (.int .i64 ((nd : Int) + 1)) ∧ w' = w8.drewN m := fun m => by
      have h := Mx.need_any tb n ks (w8.drewN m) ((hT6.below h68).below (below_drewN (Below.refl _ _) m)) n2
      have e : (((2 * n + 1 : Nat) : Int)) = (nd : Int) + 1 := by rw [hnd.out]; omega
      rw [e] at h
      exact h
    have Hfew : Hid _ := few2
    have Hgs : Hid _ := hgs
    clear few2 hgs hgc hgf hrd hxr
    go_wp2_with fail
    refine Mx.wp_region_head_seq (C := fun w' => ∃ j, w' = w8.drewN j) 15 0 (by kernel_rfl) (by kernel_rfl) ⟨1, rfl⟩ (fun c a d v w h => by cases d <;> exact h) ?_
    simp only [List.take_succ_cons, List.take_zero, List.drop_succ_cons, List.drop_zero]
    iterate 15 (go_big_quiet_step (exact Calls.quiet_of_same (cN _)))
    rintro w' ⟨nq, rfl⟩
    have hbq := below_drewN (Below.refl w8.heap.size w8) nq
    have hzq9 := hzq8.below hbq
    have hzp9 := hzp8.below hbq
    have hZ9 := hZ8.below hbq hZ8.lt
    have h69 := h68.trans (hbq.mono h68.size)
    generalize w8.drewN nq = w9 at *
    clear hzq8 hzp8 hZ8 h68 hbq c0 c1 fc1 z2 Hgs cN hw8
    have hg9 : g < w9.heap.size := (hzq9.lt g rfl).2
    obtain ⟨g', off', hga', hgb', hgl', hgc', hgf', hgs'⟩ := hzq9.set hrj
    simp only [Option.some.injEq, Addr.mk.injEq, and_true] at hga'
    obtain ⟨rfl, rfl⟩ := hga'
    have c1 : w9.cell? ⟨g, off + j * 2 + 1, none⟩ = some (.slice r.ao r.acks.length r.cap) := hgc' 1 _ rfl
    have fc1 := hgf' (off + j * 2 + 1)
    have hra9 := hzq9.at_ r (List.mem_of_getElem? hrj)
    have hgs2 := hgs' ⟨r.digest, r.acks.take nd, r.ao, r.cap⟩ 1 (.slice r.ao nd r.cap) (by decide) (by
      show [Value.string r.digest, .slice r.ao (r.acks.take nd).length r.cap] = [Value.string r.digest, .slice r.ao nd r.cap]
      rw [List.length_take, Nat.min_eq_left (by rw [hnd.out]; omega)]) ⟨hra9.1.take nd, hra9.2⟩ (fun b hb => take_foot hb)
    have hgs3 : KQ refK 45 (w9.setCell ⟨g, off + j * 2 + 1, none⟩ (.slice r.ao nd r.cap)) (w6.heap.size + 1 + 1) (.slice (some ⟨g, off, none⟩) z.refs.length z.rc) (z.refs.set j ⟨r.digest, r.acks.take nd, r.ao, r.cap⟩) := hgs2
    have kk := Kept.setCell w9 ⟨g, off + j * 2 + 1, none⟩ (.slice r.ao nd r.cap)
    have hgM := hzM g (by rw [hga]; rfl)
    have hP10 := hzp9.kept kk (fun k hk e => by have := (hzp9.lt k hk).1; have e' : k = g := e; omega) (fun _ _ _ h => h.elim)
    have hZ10 := hZ9.kept kk (fun e => by have e' : w7.heap.size = g := e; omega)
    have h610 : Below w6.heap.size w6 (w9.setCell ⟨g, off + j * 2 + 1, none⟩ (.slice r.ao nd r.cap)) := h69.trans (kk.below h69.size (fun k hk => by have e' : k = g := hk; omega))
    obtain ⟨w10, hw10⟩ : ∃ q, w9.setCell ⟨g, off + j * 2 + 1, none⟩ (.slice r.ao nd r.cap) = q := ⟨_, rfl⟩
    rw [hw10] at hgs3 hP10 hZ10 h610
    clear hgs2 hgs' hgc' hgf' hra9 kk hzq9 hzp9 hZ9 h69
    have hT10 := hT6.below h610
    have hX10 := hX6.below h610 hX6.lt
    have hB10 := hB6.trans (h610.mono hB6.size)
    obtain ⟨ra3, rc3, he3, hn3, hrow3⟩ := hgs3.form
    obtain ⟨pa3, pc3, hep3, hnp3, hrowp⟩ := hP10.form
    have hls : (z.refs.set j (⟨r.digest, r.acks.take nd, r.ao, r.cap⟩ : RefM)).length = z.refs.length := List.length_set
    simp only [Value.slice.injEq] at he3 hep3
    obtain ⟨h3a, h3b, h3c⟩ := he3
    obtain ⟨h4a, h4b, h4c⟩ := hep3
    have hm3 : HdrM.At w10 ⟨z.author, z.round, some ⟨g, off, none⟩, z.refs.set j ⟨r.digest, r.acks.take nd, r.ao, r.cap⟩, z.rc, z.pa, z.parents, z.pc⟩ :=
      ⟨by rw [h3a]; exact hrow3, (fun e => by cases e), by rw [h4a]; exact hrowp, (fun e => by rw [h4c]; exact hnp3 (by rw [← h4a]; exact e))⟩
    have hd3 : HdrM.d ⟨z.author, z.round, some ⟨g, off, none⟩, z.refs.set j ⟨r.digest, r.acks.take nd, r.ao, r.cap⟩, z.rc, z.pa, z.parents, z.pc⟩ = { x.d with refs := x.d.refs.set j ⟨r.d.digest, r.d.acks.take (2 * n)⟩ } := by
      rw [← hzd, ← hnd.out]
      simp [HdrM.d, rd, List.map_set, RefM.d]
    have hlz : ∀ q ∈ z.refs, q.acks.length ≤ maxLen := by
      intro q hq
      have h1 : q.d ∈ rd x.refs := by
        have h2 : rd z.refs = rd x.refs := congrArg HdrD.refs hzd
        rw [← h2]
        exact List.mem_map.2 ⟨q, hq, rfl⟩
      obtain ⟨q', hq', hqr⟩ := List.mem_map.1 h1
      have h3 : q'.acks = q.acks := congrArg RefD.acks hqr
      rw [← h3]
      exact hL.acks' q' hq'
    have hlm3 : ∀ q ∈ z.refs.set j (⟨r.digest, r.acks.take nd, r.ao, r.cap⟩ : RefM), q.acks.length ≤ maxLen := by
      intro q hq
      rcases List.mem_or_eq_of_mem_set hq with hq | rfl
      · exact hlz q hq
      · show (r.acks.take nd).length ≤ maxLen
        have := hlz r (List.mem_of_getElem? hrj)
        rw [List.length_take]
        omega
    have hpm3 : z.parents.length ≤ maxLen := by
      have h2 : z.parents = x.parents := congrArg HdrD.parents hzd
      rw [h2]
      exact hL.p'
    have cC := hdrCheck_any tb n ks _ w10 hT10 n2 hk32 hm3 hlm3 hpm3 (hG.below hB10)
    rw [hd3, Hfew.out] at cC
    unfold HdrM.v at cC
    simp only [hls] at cC
    have q0 := hZ10.cell (i := 0) rfl
    have q1 := hZ10.cell (i := 1) rfl
    have q2 := hZ10.cell (i := 2) rfl
    have q3 := hZ10.cell (i := 3) rfl
    clear h3a h3b h3c h4a h4b h4c hrow3 hrowp hm3 hd3 hlm3 hpm3 hls hgs3 hP10 hZ10 hX6 hT6 hB6
    go_wp2_with fail
    refine cC.mono ?_
    rintro e w6 ⟨rfl, hb11⟩
    have hX6 := hX10.below hb11 hX10.lt
    have hT6 := hT10.below hb11
    have hB6 := hB10.trans (hb11.mono hB10.size)
    clear cC hX10 hT10 hB10 hb11 q0 q1 q2 q3 h610 hw10
    have x0 := hX6.cell (i := 0) rfl
    have x1 := hX6.cell (i := 1) rfl
    have x2 := hX6.cell (i := 2) rfl
    have x3 := hX6.cell (i := 3) rfl
    by_cases hp2 : 1 < x.parents.length
    · have hp2' : (1 : Int) < (x.parents.length : Int) := by omega
      go_wp2_with fail
      refine (cO2 _ (hA.below hB6)).mono ?_
      rintro e w7 ⟨z, M, rfl, hzd, hzq, hzf, hzM, hzp, hM, hzc, hb7⟩
      unfold HdrM.v
      have hbx := belowNew w7 (.cells #[.int .i64 z.author, .int .i64 z.round, .slice z.ra z.refs.length z.rc, .slice z.pa z.parents.length z.pc] 25)
      have hZ8 := Arr.new w7 25 [.int .i64 z.author, .int .i64 z.round, .slice z.ra z.refs.length z.rc, .slice z.pa z.parents.length z.pc]
      have hzq8 := hzq.below hbx
      have hzp8 := hzp.below hbx
      have h68 := hb7.trans (hbx.mono hb7.size)
      obtain ⟨w8, hw8⟩ : ∃ q, w7.alloc (.cells #[.int .i64 z.author, .int .i64 z.round, .slice z.ra z.refs.length z.rc, .slice z.pa z.parents.length z.pc] 25) = q := ⟨_, rfl⟩
      rw [hw8] at hZ8 hzq8 hzp8 h68
      have hzx : z.parents = x.parents := congrArg HdrD.parents hzd
      obtain ⟨p, q, l, hpq⟩ : ∃ p q l, z.parents = p :: q :: l := by
        rw [hzx]
        match hm : x.parents with
        | [] => rw [hm] at hp2; simp at hp2
        | [_] => rw [hm] at hp2; simp at hp2
        | a :: b :: c => exact ⟨a, b, c, rfl⟩
      have hi0 : z.parents[0]? = some p := by rw [hpq]; rfl
      have hi1 : z.parents[1]? = some q := by rw [hpq]; rfl
      obtain ⟨g, off, hga, hgb, hgl, hgc, hgf, hgs⟩ := hzp8.set hi0
      obtain ⟨g1, off1, hga1, _, _, hgc1, _, hgs1⟩ := hzp8.set hi1
      rw [hga] at hga1
      simp only [Option.some.injEq, Addr.mk.injEq, and_true] at hga1
      obtain ⟨rfl, rfl⟩ := hga1
      have c0 : w8.cell? ⟨g, off, none⟩ = some (.string p) := hgc 0 _ rfl
      have c1 : w8.cell? ⟨g, off + 1, none⟩ = some (.string q) := hgc1 0 _ rfl
      have fc0 := hgf off
      have fc1 := hgf (off + 1)
      have hg7 : g < w7.heap.size := (hzp.lt g (by rw [hga]; rfl)).2
      have hpl2 : Hid (1 < z.parents.length) := by rw [hpq]; simp [Hid]
      have hl1 : (1 : Int) < (z.parents.length : Int) := by have := hpl2.out; omega
      have hl0 : (0 : Int) < (z.parents.length : Int) := by omega
      rw [hga] at hZ8 hzp8 hw8 ⊢
      have z3 := hZ8.cell (i := 3) rfl
      have Hgs : Hid _ := hgs
      have Hzx : Hid (z.parents = x.parents) := hzx
      have Hpq : Hid (z.parents = p :: q :: l) := hpq
      clear hzx hpq hgs hgs1 hgc hgc1 hgf hbx hzq hzp hb7 x0 x1 x2 x3 cO2
      have hlz : ∀ q ∈ z.refs, q.acks.length ≤ maxLen := by
        intro q hq
        have h1 : q.d ∈ rd x.refs := by
          have h2 : rd z.refs = rd x.refs := congrArg HdrD.refs hzd
          rw [← h2]
          exact List.mem_map.2 ⟨q, hq, rfl⟩
        obtain ⟨q', hq', hqr⟩ := List.mem_map.1 h1
        have h3 : q'.acks = q.acks := congrArg RefD.acks hqr
        rw [← h3]
        exact hL.acks' q' hq'
      have kk0 := Kept.setCell w8 ⟨g, off, none⟩ (.string q)
      have hk0 : KQ strK 9 (w8.setCell ⟨g, off, none⟩ (.string q)) M (.slice z.pa z.parents.length z.pc) (z.parents.set 0 q) := Hgs.out q 0 (.string q) (by decide) rfl trivial (fun _ h => h.elim)
      have hi1' : (z.parents.set 0 q)[1]? = some q := by rw [Hpq.out]; rfl
      obtain ⟨g2, off2, hga2, _, _, _, _, hgs2⟩ := hk0.set hi1'
      rw [hga] at hga2
      simp only [Option.some.injEq, Addr.mk.injEq, and_true] at hga2
      obtain ⟨rfl, rfl⟩ := hga2
      have kk1 := Kept.setCell (w8.setCell ⟨g, off, none⟩ (.string q)) ⟨g, off + 1, none⟩ (.string p)
      have hk1 : KQ strK 9 ((w8.setCell ⟨g, off, none⟩ (.string q)).setCell ⟨g, off + 1, none⟩ (.string p)) M (.slice z.pa z.parents.length z.pc) ((z.parents.set 0 q).set 1 p) := hgs2 p 0 (.string p) (by decide) rfl trivial (fun _ h => h.elim)
      have hset : (z.parents.set 0 q).set 1 p = q :: p :: l := by rw [Hpq.out]; rfl
      rw [hset, hga] at hk1
      have hq1 := (hzq8.kept kk0 (fun k hk e => by have := hzM k hk; have e' : k = g := e; omega) (fun r hr b hb e => by have := (hzf b (Or.inr ⟨r, hr, hb⟩)).2; have e' : b = g := e; omega)).kept kk1 (fun k hk e => by have := hzM k hk; have e' : k = g := e; omega) (fun r hr b hb e => by have := (hzf b (Or.inr ⟨r, hr, hb⟩)).2; have e' : b = g := e; omega)
      have hZ1 := (hZ8.kept kk0 (fun e => by have e' : w7.heap.size = g := e; omega)).kept kk1 (fun e => by have e' : w7.heap.size = g := e; omega)
      have h6a := h68.trans (kk0.below h68.size (fun k hk => by have e' : k = g := hk; omega))
      have h6b := h6a.trans (kk1.below h6a.size (fun k hk => by have e' : k = g := hk; omega))
      have hbq : Below ((w8.setCell ⟨g, off, none⟩ (.string q)).setCell ⟨g, off + 1, none⟩ (.string p)).heap.size ((w8.setCell ⟨g, off, none⟩ (.string q)).setCell ⟨g, off + 1, none⟩ (.string p)) ((w8.setCell ⟨g, off, none⟩ (.string q)).setCell ⟨g, off + 1, none⟩ (.string p)).drew := below_drewN (Below.refl _ _) 1
      have hk2 := hk1.below hbq
      have hq2 := hq1.below hbq
      have hZ2 := hZ1.below hbq hZ1.lt
      have h6c := h6b.trans (hbq.mono h6b.size)
      have hT9 := hT6.below h6c
      have hB9 := hB6.trans (h6c.mono hB6.size)
      obtain ⟨w9, hw9⟩ : ∃ q', ((w8.setCell ⟨g, off, none⟩ (.string q)).setCell ⟨g, off + 1, none⟩ (.string p)).drew = q' := ⟨_, rfl⟩
      rw [hw9] at hk2 hq2 hZ2 hT9 hB9
      obtain ⟨ra3, rc3, he3, hn3, hrow3⟩ := hq2.form
      obtain ⟨pa3, pc3, hep3, hnp3, hrowp⟩ := hk2.form
      simp only [Value.slice.injEq] at he3 hep3
      obtain ⟨h3a, h3b, h3c⟩ := he3
      obtain ⟨h4a, h4b, h4c⟩ := hep3
      have hm3 : HdrM.At w9 ⟨z.author, z.round, z.ra, z.refs, z.rc, some ⟨g, off, none⟩, q :: p :: l, z.pc⟩ :=
        ⟨by rw [h3a]; exact hrow3, (fun e => by rw [h3c]; exact hn3 (by rw [← h3a]; exact e)), by rw [h4a]; exact hrowp, (fun e => by cases e)⟩
      have hd3 : HdrM.d ⟨z.author, z.round, z.ra, z.refs, z.rc, some ⟨g, off, none⟩, q :: p :: l, z.pc⟩ = { x.d with parents := q :: p :: l } := by
        rw [← hzd]
        rfl
      have hls : (q :: p :: l).length = z.parents.length := by rw [Hpq.out]; rfl
      have hpm3 : (q :: p :: l).length ≤ maxLen := by rw [hls, Hzx.out]; exact hL.p'
      have cC := hdrCheck_any tb n ks _ w9 hT9 n2 hk32 hm3 hlz hpm3 (hG.below hB9)
      rw [hd3, right_turned HC.out (show x.d.parents = p :: q :: l by rw [← Hpq.out, Hzx.out]; rfl)] at cC
      unfold HdrM.v at cC
      simp only [hls] at cC
      have q0 := hZ2.cell (i := 0) rfl
      have q1 := hZ2.cell (i := 1) rfl
      have q2 := hZ2.cell (i := 2) rfl
      have q3 := hZ2.cell (i := 3) rfl
      clear h3a h3b h3c h4a h4b h4c hrow3 hrowp hm3 hd3 hpm3 hls hk0 hk1 hk2 hq1 hq2 hZ1 hZ2 kk0 kk1 hgs2 hset hi1' hi0 hi1 hzq8 hzp8 h6a h6b h6c hbq hlz Hgs hn3 hnp3
      go_wp2_with fail
      go_big_region
      go_wp2_with fail
      refine cC.mono ?_
      rintro e w11 ⟨rfl, hb11⟩
      have hB11 := hB9.trans (hb11.mono hB9.size)
      clear cC hb11 q0 q1 q2 q3 hB9 hT9
      go_wp2
      go_ret
      exact ⟨rfl, hB11⟩
    · have hp2' : ¬ (1 : Int) < (x.parents.length : Int) := by omega
      go_wp2
      go_ret
      exact ⟨rfl, hB6⟩
  · have hr' : ¬ (0 : Int) < (x.refs.length : Int) := by omega
    by_cases hp2 : 1 < x.parents.length
    · have hp2' : (1 : Int) < (x.parents.length : Int) := by omega
      go_wp2_with fail
      refine (cO2 _ (hA.below hB6)).mono ?_
      rintro e w7 ⟨z, M, rfl, hzd, hzq, hzf, hzM, hzp, hM, hzc, hb7⟩
      unfold HdrM.v
      have hbx := belowNew w7 (.cells #[.int .i64 z.author, .int .i64 z.round, .slice z.ra z.refs.length z.rc, .slice z.pa z.parents.length z.pc] 25)
      have hZ8 := Arr.new w7 25 [.int .i64 z.author, .int .i64 z.round, .slice z.ra z.refs.length z.rc, .slice z.pa z.parents.length z.pc]
      have hzq8 := hzq.below hbx
      have hzp8 := hzp.below hbx
      have h68 := hb7.trans (hbx.mono hb7.size)
      obtain ⟨w8, hw8⟩ : ∃ q, w7.alloc (.cells #[.int .i64 z.author, .int .i64 z.round, .slice z.ra z.refs.length z.rc, .slice z.pa z.parents.length z.pc] 25) = q := ⟨_, rfl⟩
      rw [hw8] at hZ8 hzq8 hzp8 h68
      have hzx : z.parents = x.parents := congrArg HdrD.parents hzd
      obtain ⟨p, q, l, hpq⟩ : ∃ p q l, z.parents = p :: q :: l := by
        rw [hzx]
        match hm : x.parents with
        | [] => rw [hm] at hp2; simp at hp2
        | [_] => rw [hm] at hp2; simp at hp2
        | a :: b :: c => exact ⟨a, b, c, rfl⟩
      have hi0 : z.parents[0]? = some p := by rw [hpq]; rfl
      have hi1 : z.parents[1]? = some q := by rw [hpq]; rfl
      obtain ⟨g, off, hga, hgb, hgl, hgc, hgf, hgs⟩ := hzp8.set hi0
      obtain ⟨g1, off1, hga1, _, _, hgc1, _, hgs1⟩ := hzp8.set hi1
      rw [hga] at hga1
      simp only [Option.some.injEq, Addr.mk.injEq, and_true] at hga1
      obtain ⟨rfl, rfl⟩ := hga1
      have c0 : w8.cell? ⟨g, off, none⟩ = some (.string p) := hgc 0 _ rfl
      have c1 : w8.cell? ⟨g, off + 1, none⟩ = some (.string q) := hgc1 0 _ rfl
      have fc0 := hgf off
      have fc1 := hgf (off + 1)
      have hg7 : g < w7.heap.size := (hzp.lt g (by rw [hga]; rfl)).2
      have hpl2 : Hid (1 < z.parents.length) := by rw [hpq]; simp [Hid]
      have hl1 : (1 : Int) < (z.parents.length : Int) := by have := hpl2.out; omega
      have hl0 : (0 : Int) < (z.parents.length : Int) := by omega
      rw [hga] at hZ8 hzp8 hw8 ⊢
      have z3 := hZ8.cell (i := 3) rfl
      have Hgs : Hid _ := hgs
      have Hzx : Hid (z.parents = x.parents) := hzx
      have Hpq : Hid (z.parents = p :: q :: l) := hpq
      clear hzx hpq hgs hgs1 hgc hgc1 hgf hbx hzq hzp hb7 x0 x1 x2 x3 cO2
      have hlz : ∀ q ∈ z.refs, q.acks.length ≤ maxLen := by
        intro q hq
        have h1 : q.d ∈ rd x.refs := by
          have h2 : rd z.refs = rd x.refs := congrArg HdrD.refs hzd
          rw [← h2]
          exact List.mem_map.2 ⟨q, hq, rfl⟩
        obtain ⟨q', hq', hqr⟩ := List.mem_map.1 h1
        have h3 : q'.acks = q.acks := congrArg RefD.acks hqr
        rw [← h3]
        exact hL.acks' q' hq'
      have kk0 := Kept.setCell w8 ⟨g, off, none⟩ (.string q)
      have hk0 : KQ strK 9 (w8.setCell ⟨g, off, none⟩ (.string q)) M (.slice z.pa z.parents.length z.pc) (z.parents.set 0 q) := Hgs.out q 0 (.string q) (by decide) rfl trivial (fun _ h => h.elim)
      have hi1' : (z.parents.set 0 q)[1]? = some q := by rw [Hpq.out]; rfl
      obtain ⟨g2, off2, hga2, _, _, _, _, hgs2⟩ := hk0.set hi1'
      rw [hga] at hga2
      simp only [Option.some.injEq, Addr.mk.injEq, and_true] at hga2
      obtain ⟨rfl, rfl⟩ := hga2
      have kk1 := Kept.setCell (w8.setCell ⟨g, off, none⟩ (.string q)) ⟨g, off + 1, none⟩ (.string p)
      have hk1 : KQ strK 9 ((w8.setCell ⟨g, off, none⟩ (.string q)).setCell ⟨g, off + 1, none⟩ (.string p)) M (.slice z.pa z.parents.length z.pc) ((z.parents.set 0 q).set 1 p) := hgs2 p 0 (.string p) (by decide) rfl trivial (fun _ h => h.elim)
      have hset : (z.parents.set 0 q).set 1 p = q :: p :: l := by rw [Hpq.out]; rfl
      rw [hset, hga] at hk1
      have hq1 := (hzq8.kept kk0 (fun k hk e => by have := hzM k hk; have e' : k = g := e; omega) (fun r hr b hb e => by have := (hzf b (Or.inr ⟨r, hr, hb⟩)).2; have e' : b = g := e; omega)).kept kk1 (fun k hk e => by have := hzM k hk; have e' : k = g := e; omega) (fun r hr b hb e => by have := (hzf b (Or.inr ⟨r, hr, hb⟩)).2; have e' : b = g := e; omega)
      have hZ1 := (hZ8.kept kk0 (fun e => by have e' : w7.heap.size = g := e; omega)).kept kk1 (fun e => by have e' : w7.heap.size = g := e; omega)
      have h6a := h68.trans (kk0.below h68.size (fun k hk => by have e' : k = g := hk; omega))
      have h6b := h6a.trans (kk1.below h6a.size (fun k hk => by have e' : k = g := hk; omega))
      have hbq : Below ((w8.setCell ⟨g, off, none⟩ (.string q)).setCell ⟨g, off + 1, none⟩ (.string p)).heap.size ((w8.setCell ⟨g, off, none⟩ (.string q)).setCell ⟨g, off + 1, none⟩ (.string p)) ((w8.setCell ⟨g, off, none⟩ (.string q)).setCell ⟨g, off + 1, none⟩ (.string p)).drew := below_drewN (Below.refl _ _) 1
      have hk2 := hk1.below hbq
      have hq2 := hq1.below hbq
      have hZ2 := hZ1.below hbq hZ1.lt
      have h6c := h6b.trans (hbq.mono h6b.size)
      have hT9 := hT6.below h6c
      have hB9 := hB6.trans (h6c.mono hB6.size)
      obtain ⟨w9, hw9⟩ : ∃ q', ((w8.setCell ⟨g, off, none⟩ (.string q)).setCell ⟨g, off + 1, none⟩ (.string p)).drew = q' := ⟨_, rfl⟩
      rw [hw9] at hk2 hq2 hZ2 hT9 hB9
      obtain ⟨ra3, rc3, he3, hn3, hrow3⟩ := hq2.form
      obtain ⟨pa3, pc3, hep3, hnp3, hrowp⟩ := hk2.form
      simp only [Value.slice.injEq] at he3 hep3
      obtain ⟨h3a, h3b, h3c⟩ := he3
      obtain ⟨h4a, h4b, h4c⟩ := hep3
      have hm3 : HdrM.At w9 ⟨z.author, z.round, z.ra, z.refs, z.rc, some ⟨g, off, none⟩, q :: p :: l, z.pc⟩ :=
        ⟨by rw [h3a]; exact hrow3, (fun e => by rw [h3c]; exact hn3 (by rw [← h3a]; exact e)), by rw [h4a]; exact hrowp, (fun e => by cases e)⟩
      have hd3 : HdrM.d ⟨z.author, z.round, z.ra, z.refs, z.rc, some ⟨g, off, none⟩, q :: p :: l, z.pc⟩ = { x.d with parents := q :: p :: l } := by
        rw [← hzd]
        rfl
      have hls : (q :: p :: l).length = z.parents.length := by rw [Hpq.out]; rfl
      have hpm3 : (q :: p :: l).length ≤ maxLen := by rw [hls, Hzx.out]; exact hL.p'
      have cC := hdrCheck_any tb n ks _ w9 hT9 n2 hk32 hm3 hlz hpm3 (hG.below hB9)
      rw [hd3, right_turned HC.out (show x.d.parents = p :: q :: l by rw [← Hpq.out, Hzx.out]; rfl)] at cC
      unfold HdrM.v at cC
      simp only [hls] at cC
      have q0 := hZ2.cell (i := 0) rfl
      have q1 := hZ2.cell (i := 1) rfl
      have q2 := hZ2.cell (i := 2) rfl
      have q3 := hZ2.cell (i := 3) rfl
      clear h3a h3b h3c h4a h4b h4c hrow3 hrowp hm3 hd3 hpm3 hls hk0 hk1 hk2 hq1 hq2 hZ1 hZ2 kk0 kk1 hgs2 hset hi1' hi0 hi1 hzq8 hzp8 h6a h6b h6c hbq hlz Hgs hn3 hnp3
      go_wp2_with fail
      go_big_region
      go_wp2_with fail
      refine cC.mono ?_
      rintro e w11 ⟨rfl, hb11⟩
      have hB11 := hB9.trans (hb11.mono hB9.size)
      clear cC hb11 q0 q1 q2 q3 hB9 hT9
      go_wp2
      go_ret
      exact ⟨rfl, hB11⟩
    · have hp2' : ¬ (1 : Int) < (x.parents.length : Int) := by omega
      go_wp2
      go_ret
      exact ⟨rfl, hB6⟩
end Go.Proofs.YtjjafbjkagdchaaDoor
