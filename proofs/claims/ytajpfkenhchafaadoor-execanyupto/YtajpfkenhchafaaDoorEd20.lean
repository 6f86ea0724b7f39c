/- ExecAny: for every input the statement answers true, and each argument reads afterwards as it read before. Condition: the two tables of package mix read as the program's text lays them; and what the arguments hold is together of bulk at most 1048576. -/
import Derived.Test.YtajpfkenhchafaaDoorEd19
import Derived.Test.YtajpfkenhchafaaDoorEd12
import Derived.Test.YtajpfkenhchafaaDoorEd14
import Derived.Test.YtajpfkenhchafaaDoorEd17
import Derived.Test.YtajpfkenhchafaaDoorEd18
import Derived.Test.YtajpfkenhchafaaDoorCards
import Derived.Test.YtajpfkenhchafaaDoorTie
import Derived.SevenTiedAt
import Derived.Deep.DeepHandedRow
/- ExecAny: the walk. -/
namespace Go.Proofs.YtajpfkenhchafaaDoor
open Go Go.RowKit
set_option linter.unusedVariables false

set_option maxRecDepth 100000 in
set_option maxHeartbeats 8000000 in
theorem execAny_walk (ro : Option Addr) (rc : Nat) (rich : List ByteArray) (funds : Nat) (lo : Option Addr) (lc : Nat) (l : List TxM) (ta : Option Addr) (tc : Nat) (tn : List Int) (W : World)
    (hR : RowAt strK W ro rich) (hrc : ro = none → rc = 0) (hrn : rich.length ≤ 1048576) (hrz : ∀ s ∈ rich, s.size ≤ 1048576) (hL : RowAt txK W lo l) (hlw : Wide22 l) (hT : RowAt intK W ta tn) (htm : tn.length ≤ maxLen) (hG : Mx.Glob W) :
    Calls Tryd.prog 3 #[.slice ro rich.length rc, .int .u64 (funds : Int), .slice lo l.length lc, .slice ta tn.length tc] W fun e w' => e = .returned (.bool true) ∧ Below W.heap.size W w' := by
  have cW := works23_any W
  go_enter Tryd.func3, Tryd.ntmps3
  go_wp2_with fail
  refine cW.mono ?_
  rintro e w0 ⟨rfl, hb0⟩
  have cR := rich_any rich ro rc w0 (hR.below hb0) hrn hrz
  clear cW
  go_wp2_with fail
  refine cR.mono ?_
  rintro e w1 ⟨rfl, hb01⟩
  have hb1 := hb0.trans (hb01.mono hb0.size)
  clear hb01 hb0 cR
  by_cases hri : richB rich = true
  · rw [hri]
    go_wp2
    go_ret
    exact ⟨rfl, hb1⟩
  obtain hri := Bool.eq_false_iff.2 hri
  have hrl := few_rich hri
  rw [hri]
  have cL := greatM_any l lo lc w1 (hL.below hb1) hlw
  go_wp2_with fail
  refine cL.mono ?_
  rintro e w2 ⟨rfl, hb2⟩
  have hbB := hb1.trans (hb2.mono hb1.size)
  clear cL hb2 hb1
  by_cases hgl : greatM l = true
  · rw [hgl]
    go_wp2
    go_ret
    exact ⟨rfl, hbB⟩
  obtain hgl := Bool.eq_false_iff.2 hgl
  rw [hgl]
  have hLm := RowsM.of hL hlw hgl
  clear hri hgl hlw hL
  have hll := hLm.len
  have hLt : ∀ w', Below W.heap.size W w' → RowsM w' lo l := fun w' hb => hLm.below hb
  have cP := refPlan_any (l.map TxM.a) lo lc w2 (rows_a (hLt _ hbB).row (fun x hx => ((hLt _ hbB).fit x hx).1)) hLm.few
  have hRl := rwL_rows hLm
  have hRe : rwL (l.map TxM.a) = (l.map TxM.d).map TxD.rw := rw_ad l
  rw [List.length_map] at cP
  generalize hRR : rwL (l.map TxM.a) = R at cP hRl hRe
  go_wp2_with fail
  refine cP.mono ?_
  rintro e w3 ⟨q, p0, rfl, hP0, hls0, hb3⟩
  obtain ⟨qa, qc, rfl, -, -⟩ := hP0.form
  have hbC := hbB.trans (hb3.mono hbB.size)
  have hn0 : p0.length = (planN R R.length).length := by
    have := congrArg List.length hls0
    unfold lsP planI at this
    rw [List.length_map, List.length_map] at this
    exact this
  have hn1 : p0.length ≤ 1000 := (plan_fit hls0 hRl).1.1
  have hB0 := hbB.size
  generalize hBB : w2.heap.size = B0 at *
  replace hn0 : Hid _ := hn0
  generalize hnn : p0.length = n at *
  clear cP hRR
  go_wp2_with fail
  go_loopw [10] (fun v10 wr => ∃ (i : Nat) (P : List (List Nat)) (p : List IRow), i ≤ n ∧ v10 = .int .i64 (i : Int) ∧ Hid (p.length = n) ∧ PlanQ wr B0 (.slice qa n qc) p ∧ lsP p = planI P ∧ RowsPerm P (planN R R.length) ∧ Below W.heap.size W wr) (fun v _ => n - (intOf v).toNat)
  case atStart => exact ⟨0, _, p0, Nat.zero_le _, rfl, hnn, hP0, hls0, RowsPerm.refl _, hbC⟩
  case round =>
    clear hP0 hls0 hbC
    obtain ⟨i, P, p, hi, rfl, hpn, hP, hls, hRP, hb⟩ := hrel
    by_cases hin : i < n
    · have g1 : (i : Int) < (n : Int) := by omega
      go_wp2_with fail
      go_loopw [11] (fun v11 wr => ∃ (k : Nat) (P : List (List Nat)) (p : List IRow), k ≤ tn.length ∧ k ≤ 20 ∧ v11 = .int .i64 (k : Int) ∧ Hid (p.length = n) ∧ PlanQ wr B0 (.slice qa n qc) p ∧ lsP p = planI P ∧ RowsPerm P (planN R R.length) ∧ Below W.heap.size W wr) (fun v _ => tn.length - (intOf v).toNat)
      case atStart => exact ⟨0, P, p, Nat.zero_le _, by omega, rfl, hpn, hP, hls, hRP, hb⟩
      case round =>
        clear hP hls hRP hb hpn
        obtain ⟨k, P, p, hk, hk2, rfl, hpn, hP, hls, hRP, hb⟩ := hrel
        by_cases hlt : k < tn.length ∧ k < 20
        · obtain ⟨hkl, hk20⟩ := hlt
          have g2 : (k : Int) < (tn.length : Int) := by omega
          have g3 : (k : Int) < 20 := by omega
          obtain ⟨f, hf⟩ : ∃ f, tn[k]? = some f := ⟨_, List.getElem?_eq_getElem hkl⟩
          obtain ⟨tb, toff, rfl, htb, hfc⟩ := (hT.below hb).int hf
          obtain ⟨x, hx⟩ : ∃ x, p[i]? = some x := ⟨_, List.getElem?_eq_getElem (by rw [hpn.out]; exact hin)⟩
          obtain ⟨Q, hQ⟩ : ∃ Q, P[i]? = some Q := by
            have := congrArg List.length hls
            unfold lsP planI at this
            rw [List.length_map, List.length_map] at this
            exact ⟨_, List.getElem?_eq_getElem (by rw [← this, hpn.out]; exact hin)⟩
          obtain ⟨xl, xa, xc⟩ := x
          have hxl : xl = rowI Q := by
            have h1 : (lsP p)[i]? = some xl := by unfold lsP; rw [List.getElem?_map, hx]; rfl
            have h2 : (planI P)[i]? = some (rowI Q) := by unfold planI; rw [List.getElem?_map, hQ]; rfl
            rw [hls, h2] at h1
            exact (Option.some.inj h1).symm
          subst hxl
          obtain ⟨hq0, hq1⟩ := hRP.pos hQ
          obtain ⟨gq, oq, rfl, hgB, hgw, hcq, hKQ⟩ := hP.at hx
          have hq2 : Q.length ≤ 1000 := by omega
          have hrl2 : (rowI Q).length = Q.length := rowI_length Q
          rw [hrl2] at hcq
          obtain ⟨m, hm⟩ : ∃ m, Hid (Q.length = m) := ⟨_, rfl⟩
          rw [hm.out] at hcq hq0 hq1 hq2
          have hc1 : wr.drew.cell? ⟨tb, toff + k, none⟩ = some (.int .i64 f) := hfc
          have hc2 : wr.drew.cell? ⟨gq, oq + i, none⟩ = some (.slice xa m xc) := hcq
          have hz0 : ¬ (m : Int) = 0 := by omega
          have hz1 : ¬ m = 0 := by omega
          have hu := wrap64u (m : Int) (by omega) (by omega)
          replace hrl2 : Hid _ := hrl2
          replace hls : Hid _ := hls
          go_wp2_with fail
          go_region_held3 (fun w' => (w'.cell? ⟨tb, toff + k, none⟩ = some (.int .i64 f) ∧ w'.cell? ⟨gq, oq + i, none⟩ = some (.slice xa m xc))) (first | exact ⟨hc1, hc2⟩ | assumption) (fail)
          obtain ⟨ja, hja, hjw⟩ : ∃ j : Nat, j < m ∧ IntKind.i64.wrap ((IntKind.u64.wrap f).tmod (m : Int)) = (j : Int) := pick23 f m (by omega) (by omega)
          obtain ⟨kb, hkb, hkw⟩ : ∃ j : Nat, j < m ∧ ((k : Int).tmod (m : Int)) = (j : Int) := ⟨k % m, Nat.mod_lt _ (by omega), by rw [Int.tmod_eq_emod_of_nonneg (by omega)]; rfl⟩
          rw [hjw, hkw]
          obtain ⟨g, off, rfl⟩ : ∃ g off, xa = some ⟨g, off, none⟩ := by
            obtain ⟨b', off', e, _⟩ := hKQ.rowOf.1.cell 0 _ (rowI_get (q := Q) (by rw [hm.out]; omega))
            exact ⟨b', off', e⟩
          have hPd : PlanQ wr.drew.drew B0 (.slice (some ⟨gq, oq, none⟩) n qc) p := (hP.below (below_drewN (Below.refl _ wr) 1)).below (below_drewN (Below.refl _ wr.drew) 1)
          obtain ⟨c1, c2, f1, ⟨u3, c3⟩, f3, hgB2, hgw2, hPs, hks⟩ := hPd.swap hx (a := ja) (b := kb) (by rw [hm.out]; exact hja) (by rw [hm.out]; exact hkb)
          have hgg : g ≠ gq := fun e => hPd.off _ (List.mem_of_getElem? hx) g rfl (by rw [e]; rfl)
          have hco : wr.drew.drew.cell? ⟨gq, oq + i, none⟩ = some (.slice (some ⟨g, off, none⟩) m xc) := hcq
          have hlsN := lsP_set hls.out (k := i) (y := ⟨rowI (swapL Q ja kb), some ⟨g, off, none⟩, xc⟩) (r := swapL Q ja kb) rfl
          have hRPN := hRP.set hQ (swapL_perm (q := Q) (a := ja) (b := kb) (by rw [hm.out]; exact hja) (by rw [hm.out]; exact hkb))
          have hpnN : Hid ((p.set i ⟨rowI (swapL Q ja kb), some ⟨g, off, none⟩, xc⟩).length = n) := by unfold Hid; rw [List.length_set]; exact hpn.out
          have hbd : Below W.heap.size W wr.drew.drew := (hb.trans (below_drewN (Below.refl _ wr) 1)).trans (below_drewN (Below.refl _ wr.drew) 1)
          have hbN := hbd.trans (hks.below (Nat.le_trans hB0 (Nat.le_trans hgB2 (Nat.le_of_lt hgw2))) (fun k e => by rw [show k = g from e]; exact Nat.le_trans hB0 hgB2))
          unfold swapW at hPs hbN
          obtain ⟨va, hva⟩ : ∃ v, Hid (Q.getD ja 0 = v) := ⟨_, rfl⟩
          obtain ⟨vb, hvb⟩ : ∃ v, Hid (Q.getD kb 0 = v) := ⟨_, rfl⟩
          rw [hva.out, hvb.out] at hPs hbN
          rw [hvb.out] at c2 c3 f3
          rw [hva.out] at c1
          have hS0 : wr.drew.drew.cell? ⟨gq, oq + i, none⟩ = some (.slice (some ⟨g, off, none⟩) m xc) := hco
          have hT0 : wr.drew.drew.cell? ⟨g, off + ja, none⟩ = some (.int .i64 (va : Int)) ∧ wr.drew.drew.cell? ⟨g, off + kb, none⟩ = some (.int .i64 (vb : Int)) := ⟨c1, c2⟩
          have hS1 : (wr.drew.drew.setCell ⟨g, off + ja, none⟩ (.int .i64 (vb : Int))).cell? ⟨gq, oq + i, none⟩ = some (.slice (some ⟨g, off, none⟩) m xc) := by
            rw [World.cell?_setCell_far _ _ _ _ hgg]; exact hco
          have hS2 : ((wr.drew.drew.setCell ⟨g, off + ja, none⟩ (.int .i64 (vb : Int))).setCell ⟨g, off + kb, none⟩ (.int .i64 (va : Int))).cell? ⟨gq, oq + i, none⟩ = some (.slice (some ⟨g, off, none⟩) m xc) := by
            rw [World.cell?_setCell_far _ _ _ _ hgg]; exact hS1
          replace f1 : Hid _ := f1
          replace f3 : Hid _ := f3
          replace c3 : Hid _ := c3
          have g4 : (ja : Int) < (m : Int) := by omega
          have g5 : (kb : Int) < (m : Int) := by omega
          have g6 : (i : Int) < (n : Int) := by omega
          clear hPd hks hP hRP hb hbd hKQ hjw hkw hfc hcq hc1 hc2 hu hf hva hvb hm
          go_wp2_with fail
          refine wp_region_noPanic ?_
          refine wp_region_M (fun w' => w'.cell? ⟨gq, oq + i, none⟩ = some (.slice (some ⟨g, off, none⟩) m xc)) (fun w' => (w'.cell? ⟨g, off + ja, none⟩ = some (.int .i64 (va : Int)) ∧ w'.cell? ⟨g, off + kb, none⟩ = some (.int .i64 (vb : Int)))) 25 (by kernel_rfl) ?_
          show wpAnyM _ _ _ _ _ _ _ 28 (Array.replicate 28 false) _ wr.drew.drew
          generalize wr.drew.drew = wd at *
          replace f1 := f1.out
          replace f3 := f3.out
          replace c3 := c3.out
          refine wpAnyM_takeD (i := 0) (v := ?_) (some 67) rfl rfl (by kernel_rfl) (by kernel_rfl) (by kernel_rfl) (by decide) (fun _ _ _ h => h) hS0 hT0 (Or.inl ⟨by rfl, ?_⟩) ?_
          rotate_left 1
          · intro w' hSw
            (try dsimp only at hSw)
            go_simp
            first | done | with_reducible rfl
          simp only [Act.put, List.setIfInBounds_toArray, List.set_cons_zero, List.set_cons_succ]
          refine wpAnyM_takeD (i := 1) (v := ?_) (some 68) rfl rfl (by kernel_rfl) (by kernel_rfl) (by kernel_rfl) (by decide) (fun _ _ _ h => h) hS0 hT0 (Or.inl ⟨by rfl, ?_⟩) ?_
          rotate_left 1
          · intro w' hSw
            (try dsimp only at hSw)
            go_simp
            first | done | with_reducible rfl
          simp only [Act.put, List.setIfInBounds_toArray, List.set_cons_zero, List.set_cons_succ]
          refine wpAnyM_takeD (i := 2) (v := ?_) (some 69) rfl rfl (by kernel_rfl) (by kernel_rfl) (by kernel_rfl) (by decide) (fun _ _ _ h => h) hS0 hT0 (Or.inl ⟨by rfl, ?_⟩) ?_
          rotate_left 1
          · intro w' hSw
            (try dsimp only at hSw)
            go_simp
            first | done | with_reducible rfl
          simp only [Act.put, List.setIfInBounds_toArray, List.set_cons_zero, List.set_cons_succ]
          refine wpAnyM_takeD (i := 3) (v := ?_) (some 70) rfl rfl (by kernel_rfl) (by kernel_rfl) (by kernel_rfl) (by decide) (fun _ _ _ h => h) hS0 hT0 (Or.inl ⟨by rfl, ?_⟩) ?_
          rotate_left 1
          · intro w' hSw
            (try dsimp only at hSw)
            go_simp
            first | done | with_reducible rfl
          simp only [Act.put, List.setIfInBounds_toArray, List.set_cons_zero, List.set_cons_succ]
          refine wpAnyM_takeD (i := 4) (v := ?_) (some 71) rfl rfl (by kernel_rfl) (by kernel_rfl) (by kernel_rfl) (by decide) (fun _ _ _ h => h) hS0 hT0 (Or.inl ⟨by rfl, ?_⟩) ?_
          rotate_left 1
          · intro w' hSw
            (try dsimp only at hSw)
            go_simp
            first | done | with_reducible rfl
          simp only [Act.put, List.setIfInBounds_toArray, List.set_cons_zero, List.set_cons_succ]
          refine wpAnyM_takeD (i := 5) (v := ?_) (some 72) rfl rfl (by kernel_rfl) (by kernel_rfl) (by kernel_rfl) (by decide) (fun _ _ _ h => h) hS0 hT0 (Or.inl ⟨by rfl, ?_⟩) ?_
          rotate_left 1
          · intro w' hSw
            (try dsimp only at hSw)
            go_simp
            first | done | with_reducible rfl
          simp only [Act.put, List.setIfInBounds_toArray, List.set_cons_zero, List.set_cons_succ]
          refine wpAnyM_takeD (i := 6) (v := ?_) (some 73) rfl rfl (by kernel_rfl) (by kernel_rfl) (by kernel_rfl) (by decide) (fun _ _ _ h => h) hS0 hT0 (Or.inl ⟨by rfl, ?_⟩) ?_
          rotate_left 1
          · intro w' hSw
            (try dsimp only at hSw)
            go_simp
            first | done | with_reducible rfl
          simp only [Act.put, List.setIfInBounds_toArray, List.set_cons_zero, List.set_cons_succ]
          refine wpAnyM_takeD (i := 7) (v := ?_) (some 74) rfl rfl (by kernel_rfl) (by kernel_rfl) (by kernel_rfl) (by decide) (fun _ _ _ h => h) hS0 hT0 (Or.inl ⟨by rfl, ?_⟩) ?_
          rotate_left 1
          · intro w' hSw
            (try dsimp only at hSw)
            go_simp
            first | done | with_reducible rfl
          simp only [Act.put, List.setIfInBounds_toArray, List.set_cons_zero, List.set_cons_succ]
          refine wpAnyM_takeD (i := 8) (v := ?_) (some 75) rfl rfl (by kernel_rfl) (by kernel_rfl) (by kernel_rfl) (by decide) (fun _ _ _ h => h) hS0 hT0 (Or.inl ⟨by rfl, ?_⟩) ?_
          rotate_left 1
          · intro w' hSw
            (try dsimp only at hSw)
            go_simp
            first | done | with_reducible rfl
          simp only [Act.put, List.setIfInBounds_toArray, List.set_cons_zero, List.set_cons_succ]
          refine wpAnyM_takeD (i := 9) (v := ?_) (some 76) rfl rfl (by kernel_rfl) (by kernel_rfl) (by kernel_rfl) (by decide) (fun _ _ _ h => h) hS0 hT0 (Or.inl ⟨by rfl, ?_⟩) ?_
          rotate_left 1
          · intro w' hSw
            (try dsimp only at hSw)
            go_simp
            first | done | with_reducible rfl
          simp only [Act.put, List.setIfInBounds_toArray, List.set_cons_zero, List.set_cons_succ]
          refine wpAnyM_takeD (i := 10) (v := ?_) (some 77) rfl rfl (by kernel_rfl) (by kernel_rfl) (by kernel_rfl) (by decide) (fun _ _ _ h => h) hS0 hT0 (Or.inl ⟨by rfl, ?_⟩) ?_
          rotate_left 1
          · intro w' hSw
            (try dsimp only at hSw)
            go_simp
            first | done | with_reducible rfl
          simp only [Act.put, List.setIfInBounds_toArray, List.set_cons_zero, List.set_cons_succ]
          refine wpAnyM_takeD (i := 11) (v := ?_) (some 78) rfl rfl (by kernel_rfl) (by kernel_rfl) (by kernel_rfl) (by decide) (fun _ _ _ h => h) hS0 hT0 (Or.inl ⟨by rfl, ?_⟩) ?_
          rotate_left 1
          · intro w' hSw
            (try dsimp only at hSw)
            go_simp
            first | done | with_reducible rfl
          simp only [Act.put, List.setIfInBounds_toArray, List.set_cons_zero, List.set_cons_succ]
          refine wpAnyM_takeD (i := 12) (v := ?_) (some 79) rfl rfl (by kernel_rfl) (by kernel_rfl) (by kernel_rfl) (by decide) (fun _ _ _ h => h) hS0 hT0 (Or.inl ⟨by rfl, ?_⟩) ?_
          rotate_left 1
          · intro w' hSw
            (try dsimp only at hSw)
            go_simp
            first | done | with_reducible rfl
          simp only [Act.put, List.setIfInBounds_toArray, List.set_cons_zero, List.set_cons_succ]
          refine wpAnyM_takeD (i := 13) (v := ?_) (some 80) rfl rfl (by kernel_rfl) (by kernel_rfl) (by kernel_rfl) (by decide) (fun _ _ _ h => h) hS0 hT0 (Or.inl ⟨by rfl, ?_⟩) ?_
          rotate_left 1
          · intro w' hSw
            (try dsimp only at hSw)
            go_simp
            first | done | with_reducible rfl
          simp only [Act.put, List.setIfInBounds_toArray, List.set_cons_zero, List.set_cons_succ]
          refine wpAnyM_takeD (i := 14) (v := ?_) (some 81) rfl rfl (by kernel_rfl) (by kernel_rfl) (by kernel_rfl) (by decide) (fun _ _ _ h => h) hS0 hT0 (Or.inl ⟨by rfl, ?_⟩) ?_
          rotate_left 1
          · intro w' hSw
            (try dsimp only at hSw)
            go_simp
            first | done | with_reducible rfl
          simp only [Act.put, List.setIfInBounds_toArray, List.set_cons_zero, List.set_cons_succ]
          refine wpAnyM_takeD (i := 15) (v := ?_) (some 82) rfl rfl (by kernel_rfl) (by kernel_rfl) (by kernel_rfl) (by decide) (fun _ _ _ h => h) hS0 hT0 (Or.inl ⟨by rfl, ?_⟩) ?_
          rotate_left 1
          · intro w' hSw
            (try dsimp only at hSw)
            go_simp
            first | done | with_reducible rfl
          simp only [Act.put, List.setIfInBounds_toArray, List.set_cons_zero, List.set_cons_succ]
          refine wpAnyM_takeT (i := 16) (v := ?_) (some 83) rfl rfl (by kernel_rfl) (by kernel_rfl) (by kernel_rfl) (by kernel_rfl) (by decide) (fun _ _ _ h => h) hS0 hT0 (Or.inl ⟨by rfl, ?_⟩) ?_
          rotate_left 1
          · intro w' hSw
            obtain ⟨hSw, hSa, hSb⟩ := hSw
            go_simp
            first | done | with_reducible rfl
          simp only [Act.put, List.setIfInBounds_toArray, List.set_cons_zero, List.set_cons_succ]
          refine wpAnyM_takeD (i := 17) (v := ?_) (some 84) rfl rfl (by kernel_rfl) (by kernel_rfl) (by kernel_rfl) (by decide) (fun _ _ _ h => h) hS0 hT0 (Or.inl ⟨by rfl, ?_⟩) ?_
          rotate_left 1
          · intro w' hSw
            (try dsimp only at hSw)
            go_simp
            first | done | with_reducible rfl
          simp only [Act.put, List.setIfInBounds_toArray, List.set_cons_zero, List.set_cons_succ]
          refine wpAnyM_takeD (i := 18) (v := ?_) (some 85) rfl rfl (by kernel_rfl) (by kernel_rfl) (by kernel_rfl) (by decide) (fun _ _ _ h => h) hS0 hT0 (Or.inl ⟨by rfl, ?_⟩) ?_
          rotate_left 1
          · intro w' hSw
            (try dsimp only at hSw)
            go_simp
            first | done | with_reducible rfl
          simp only [Act.put, List.setIfInBounds_toArray, List.set_cons_zero, List.set_cons_succ]
          refine wpAnyM_takeD (i := 19) (v := ?_) (some 86) rfl rfl (by kernel_rfl) (by kernel_rfl) (by kernel_rfl) (by decide) (fun _ _ _ h => h) hS0 hT0 (Or.inl ⟨by rfl, ?_⟩) ?_
          rotate_left 1
          · intro w' hSw
            (try dsimp only at hSw)
            go_simp
            first | done | with_reducible rfl
          simp only [Act.put, List.setIfInBounds_toArray, List.set_cons_zero, List.set_cons_succ]
          refine wpAnyM_takeD (i := 20) (v := ?_) (some 87) rfl rfl (by kernel_rfl) (by kernel_rfl) (by kernel_rfl) (by decide) (fun _ _ _ h => h) hS0 hT0 (Or.inl ⟨by rfl, ?_⟩) ?_
          rotate_left 1
          · intro w' hSw
            (try dsimp only at hSw)
            go_simp
            first | done | with_reducible rfl
          simp only [Act.put, List.setIfInBounds_toArray, List.set_cons_zero, List.set_cons_succ]
          refine wpAnyM_takeD (i := 21) (v := ?_) (some 88) rfl rfl (by kernel_rfl) (by kernel_rfl) (by kernel_rfl) (by decide) (fun _ _ _ h => h) hS0 hT0 (Or.inl ⟨by rfl, ?_⟩) ?_
          rotate_left 1
          · intro w' hSw
            (try dsimp only at hSw)
            go_simp
            first | done | with_reducible rfl
          simp only [Act.put, List.setIfInBounds_toArray, List.set_cons_zero, List.set_cons_succ]
          refine wpAnyM_takeD (i := 22) (v := ?_) (some 89) rfl rfl (by kernel_rfl) (by kernel_rfl) (by kernel_rfl) (by decide) (fun _ _ _ h => h) hS0 hT0 (Or.inl ⟨by rfl, ?_⟩) ?_
          rotate_left 1
          · intro w' hSw
            (try dsimp only at hSw)
            go_simp
            first | done | with_reducible rfl
          simp only [Act.put, List.setIfInBounds_toArray, List.set_cons_zero, List.set_cons_succ]
          refine wpAnyM_takeT (i := 23) (v := ?_) (some 90) rfl rfl (by kernel_rfl) (by kernel_rfl) (by kernel_rfl) (by kernel_rfl) (by decide) (fun _ _ _ h => h) hS0 hT0 (Or.inl ⟨by rfl, ?_⟩) ?_
          rotate_left 1
          · intro w' hSw
            obtain ⟨hSw, hSa, hSb⟩ := hSw
            go_simp
            first | done | with_reducible rfl
          simp only [Act.put, List.setIfInBounds_toArray, List.set_cons_zero, List.set_cons_succ]
          refine wpAnyM_takeD (i := 24) (v := ?_) (some 91) rfl rfl (by kernel_rfl) (by kernel_rfl) (by kernel_rfl) (by decide) (fun _ _ _ h => h) hS0 hT0 (Or.inl ⟨by rfl, ?_⟩) ?_
          rotate_left 1
          · intro w' hSw
            (try dsimp only at hSw)
            go_simp
            first | done | with_reducible rfl
          simp only [Act.put, List.setIfInBounds_toArray, List.set_cons_zero, List.set_cons_succ]
          refine wpAnyM_last none (by kernel_rfl) rfl rfl rfl (fun K' hK' => ?_)
          replace hK' : Hid _ := hK'
          go_simp
          refine hK'.out undef _ hS1 ?_
          clear hK' K'
          refine wpAnyH_takeD (i := 26) (v := ?_) (some 92) rfl rfl (by kernel_rfl) (by kernel_rfl) (by kernel_rfl) (fun _ _ _ h => h) (Or.inl ⟨by rfl, ?_⟩) hS1 ?_
          rotate_left 1
          · intro w' hSw
            (try dsimp only at hSw)
            go_simp
            first | done | with_reducible rfl
          simp only [Act.put, List.setIfInBounds_toArray, List.set_cons_zero, List.set_cons_succ]
          refine wpAnyH_oneD (i := 27) none (by kernel_rfl) rfl rfl rfl (fun K' hK' => ?_)
          replace hK' : Hid _ := hK'
          go_simp
          refine hK'.out undef _ hS2 ?_
          clear hK' K'
          refine wpAnyH_done (by kernel_rfl) ?_ _
          refine NoPanic.normal ?_
          generalize (wd.setCell ⟨g, off + ja, none⟩ (.int .i64 (vb : Int))).setCell ⟨g, off + kb, none⟩ (.int .i64 (va : Int)) = wz at hPs hbN ⊢
          clear hS0 hT0 hS1 hS2 f1 f3 c1 c2 c3 hco hls
          simp only [Act.put]
          go_wp2
          go_roundw
          case rel => exact ⟨k + 1, _, _, by omega, by omega, by go_num, hpnN, hPs, hlsN, hRPN, hbN⟩
          case measure => simp [intOf]; omega
        · have hg : ¬ (k : Int) < (tn.length : Int) ∨ ((k : Int) < (tn.length : Int) ∧ ¬ (k : Int) < 20) := by omega
          clear hlt hk hk2
          rcases hg with g2 | ⟨g2, g3⟩
          all_goals
            go_wp2
            go_roundw
            case rel => exact ⟨i + 1, P, p, by omega, by go_num, hpn, hP, hls, hRP, hb⟩
            case measure => simp [intOf]; omega
    · have g1 : ¬ (i : Int) < (n : Int) := by omega
      clear hT htm hn0 hi hin
      obtain ⟨qa', qc', e, -, hpr⟩ := hP.form
      have hpf0 := hP.foot_ge
      have hpf1 : ∀ b, rowFoot irowK qa p b → b < wr.heap.size := fun b hb => by
        have e1 : qa = qa' := by simp only [Value.slice.injEq] at e; exact e.1
        rw [e1] at hb
        exact hpr.lt hb
      have hpr2 : RowAt irowK wr qa p := by
        have e1 : qa = qa' := by simp only [Value.slice.injEq] at e; exact e.1
        rw [e1]; exact hpr
      have hfit : RowsFit p := ⟨by rw [hpn.out]; exact hn1, fun x hx => by
        obtain ⟨j, hj⟩ := List.mem_iff_getElem?.1 hx
        have hjl := (List.getElem?_eq_some_iff.1 hj).1
        have h1 : (lsP p)[j]? = some x.l := by unfold lsP; rw [List.getElem?_map, hj]; rfl
        rw [hls] at h1
        unfold planI at h1
        rw [List.getElem?_map] at h1
        obtain ⟨Q, hQ, hQe⟩ := Option.map_eq_some_iff.1 h1
        rw [← hQe, rowI_length]
        have := (hRP.pos hQ).2
        omega⟩
      have hzz : chkN ((l.map TxM.d).map TxD.rw) (lsP p) = 0 := by rw [← hRe, hls]; exact chk_perm hRP
      clear e hpr hP hls hRP
      have hown := own_made wr wr.heap.size rfl
      have hbE := belowNew wr (.cells #[] 9)
      have hS := ((hR.below hb).below hbE).strs
      have hs3 : wr.heap.size ≤ (wr.alloc (.cells #[] 9)).heap.size := by rw [alloc_size]; omega
      have hz4 : ∀ s ∈ rich, s.size ≤ maxLen := fun s hs => by have := hrz s hs; unfold maxLen; omega
      go_wp2_with (at_builtin; refine wpList_append_strs rfl _ _ rfl wr.heap.size _ rfl hown ro rc rich rfl hS hrc (by omega) hs3 ?_)
      intro a1 c1 w4 h4 hn4 hb4
      have hb34 : Below wr.heap.size wr w4 := hbE.trans hb4
      have hbD := hb.trans (hb34.mono hb.size)
      have cN := exNew_any rich a1 c1 funds w4 h4.at.row hz4 (by omega)
      clear hown hbE hS hs3 h4 hn4 hb4
      go_wp2_with fail
      refine cN.mono ?_
      rintro e w5 ⟨x, A, rfl, h5, hA5, hb5⟩
      have hb35 : Below wr.heap.size wr w5 := hb34.trans (hb5.mono hb34.size)
      have hbF := hbD.trans (hb5.mono hbD.size)
      have hgA : ∀ k, A k → wr.heap.size ≤ k := fun k e => Nat.le_trans hb34.size (hA5 k e)
      have hown := own_made w5 w5.heap.size rfl
      have hbE := belowNew w5 (.cells #[] 9)
      have hS := ((hR.below hbF).below hbE).strs
      have hs3 : w5.heap.size ≤ (w5.alloc (.cells #[] 9)).heap.size := by rw [alloc_size]; omega
      clear cN hA5 hb5 hbD
      go_wp2_with (at_builtin; refine wpList_append_strs rfl _ _ rfl w5.heap.size _ rfl hown ro rc rich rfl hS hrc (by omega) hs3 ?_)
      intro a2 c2 w6 h6 hn6 hb6
      have hb56 : Below w5.heap.size w5 w6 := hbE.trans hb6
      have cN := exNew_any rich a2 c2 funds w6 h6.at.row hz4 (by omega)
      clear hown hbE hS hs3 h6 hn6 hb6 hrc hR
      go_wp2_with fail
      refine cN.mono ?_
      rintro e w7 ⟨y, B, rfl, h7, hB7, hb7⟩
      have hb57 : Below w5.heap.size w5 w7 := hb56.trans (hb7.mono hb56.size)
      have hb37 : Below wr.heap.size wr w7 := hb35.trans (hb57.mono hb35.size)
      have hgB : ∀ k, B k → wr.heap.size ≤ k := fun k e => Nat.le_trans (Nat.le_trans hb35.size hb56.size) (hB7 k e)
      have hD0 : Duo23 PX PX W w7 x y A B (newF rich funds) rich.length [] 0 (newF rich funds) rich.length [] 0 := Duo23.made lies_PX hbF h5 (fun k e => Nat.le_trans hb.size (hgA k e)) hb57 h7 (fun k e => Nat.le_trans hb56.size (hB7 k e))
      generalize newF rich funds = s0 at *
      generalize rich.length = N at *
      clear cN hb57 hb7 hB7 h7 hb56 h5 hbF hb35 hb34 hz4 hrz
      obtain ⟨D, hDD⟩ : ∃ D, Hid (l.map TxM.d = D) := ⟨_, rfl⟩
      have hDl : Hid (D.length = l.length) := by unfold Hid; rw [← hDD.out, List.length_map]
      rw [hDD.out] at hzz
      replace hzz : Hid _ := hzz
      have cO := ownM_any l lo lc w7 (hLt _ hD0.bl)
      go_wp2_with fail
      refine cO.mono ?_
      rintro e wa ⟨oa, cap, m, rfl, hm, hmf, hmd, hba⟩
      obtain ⟨hrm, hml, hmg⟩ := own_rows (hLt _ hD0.bl) hm hmf hmd
      have hD1 := hD0.below lies_PX lies_PX hba
      have hpra := (hpr2.below hb37).below hba
      have cX := exOrder_any m oa cap p qa qc wa hrm hpra hfit x A s0 N [] 0 hD1.a (fun b h1 h2 => by have := hmg b h1; have := lies_PX.lt hD0.a b h2; omega) (fun b h1 h2 => by have := hpf1 b h1; have := hgA b h2; omega) (by rw [hml]; omega) (by decide) (by decide)
      rw [hmd, hDD.out, hml, hpn.out] at cX
      replace hml : Hid _ := hml
      rw [hml.out]
      clear cO hm hmf hmd hba hrm hmg hD0
      go_wp2_with fail
      refine cX.mono ?_
      rintro e wb hgot
      rcases hgot with ⟨h1, -, -⟩ | ⟨-, ga, gc, A2, rfl, hQ1, hX1, hf1, hap1, hk1⟩
      · exact absurd hzz.out h1
      have hD2 := hD1.step lies_PX lies_PX hX1 hf1 hk1
      have hlY := lies_PX.lt hD1.b
      have hgl1 : ∀ k, (Value.slice ga D.length gc).ownBlock = some k → wa.heap.size ≤ k ∧ k < wb.heap.size := fun k e => hQ1.lt k e
      rw [List.nil_append] at hD2
      have cO := ownM_any l lo lc wb (hLt _ hD2.bl)
      clear cX hX1 hf1 hap1 hk1 hD1 hpra hpr2 hpf0 hpf1 hfit hzz hb37
      go_wp2_with fail
      refine cO.mono ?_
      rintro e wc ⟨ob, capb, mb, rfl, hm, hmf, hmd, hba⟩
      obtain ⟨hrm, hml2, hmg⟩ := own_rows (hLt _ hD2.bl) hm hmf hmd
      have hD3 := hD2.below lies_PX lies_PX hba
      have hQ2 := hQ1.below hba
      have cX := exRun_any mb ob capb wc hrm y B s0 N [] 0 hD3.b (fun b h1 h2 => by have := hmg b h1; have := lies_PX.lt hD2.b b h2; omega) (by rw [hml2]; omega) (by decide) (by decide)
      rw [hmd, hDD.out, hml2] at cX
      replace hml2 : Hid _ := hml2
      rw [hml2.out]
      clear cO hm hmf hmd hba hrm hmg hD2 hQ1
      go_wp2_with fail
      refine cX.mono ?_
      rintro e wd ⟨gb, gcb, B2, rfl, hQ3, hX1, hf1, hap1, hk1⟩
      have hD4 := (hD3.swap.step lies_PX lies_PX hX1 hf1 hk1).swap
      have hQ4 := hQ2.kept hk1 (fun k e h2 => by have := (hgl1 k e).1; have := hlY k h2; omega) (fun _ _ _ h => h.elim)
      rw [List.nil_append] at hD4
      have hN2 : N + 2 * D.length ≤ 100000 := by rw [hDl.out]; omega
      have hD5 : D.length ≤ 1000 := by rw [hDl.out]; omega
      generalize execS s0 D = s2 at *
      generalize N + 2 * D.length = N2 at *
      generalize execR s0 D = Rr at *
      have cA := exState_any wd x A2 s2 N2 Rr (0 + 1) hD4.a
      clear cX hX1 hf1 hap1 hk1 hD3 hQ2 hgl1 hlY hDD hDl
      go_wp2_with fail
      refine cA.mono ?_
      rintro e we ⟨p1, T1, rfl, h1, hT1, hbk⟩
      have hD6 := hD4.below lies_PX lies_PX hbk
      have cB := exState_any we y B2 s2 N2 Rr (0 + 1) hD6.b
      clear cA hD4
      go_wp2_with fail
      refine cB.mono ?_
      rintro e wl ⟨p2, T2, rfl, h2, hT2, hbl⟩
      have hD7 := hD6.below lies_PX lies_PX hbl
      have h1l := h1.below hbl
      have hbkl : Below wd.heap.size wd wl := hbk.trans (hbl.mono hbk.size)
      have cI := ints23_any wl _ _ ga gb gc gcb _ _ _ _ (hQ4.below hbkl) (hQ3.below hbkl) hD5 hD5
      rw [decide_eq_true rfl] at cI
      have hGl : Mx.Glob wl := hG.below hD7.bl
      clear cB hD6 h1 hbk hbkl hQ4 hQ3 hT1 hT2
      go_wp2_with (first
        | (go_at_call 15; refine cI.mono ?_; rintro e wm ⟨rfl, hbm⟩; have cD := digest22_any wm p1 T1 s2 N2 (h1l.below hbm) hN2 (hGl.below hbm))
        | (go_at_call 16; refine cD.mono ?_; rintro e wn ⟨t1, hd1, rfl, hbn⟩; have hB2 : Below wl.heap.size wl wn := hbm.trans (hbn.mono hbm.size); have cE := digest22_any wn p2 T2 s2 N2 (h2.below hB2) hN2 (hGl.below hB2); clear cD)
        | (go_at_call 16; refine cE.mono ?_; rintro e wo ⟨t2, hd2, rfl, hbo⟩; obtain rfl := hd1.uniq hd2))
      have hbZ := ((hD7.below lies_PX lies_PX hB2).below lies_PX lies_PX hbo).bl
      clear hD7 cI cE hB2 hbm hbn hbo hd1 hd2 h1l h2 hGl
      go_ret
      exact ⟨rfl, hbZ⟩
end Go.Proofs.YtajpfkenhchafaaDoor

/- ExecAny: for every input the statement answers true, and each argument reads afterwards as it read before. Condition: the two tables of package mix read as the program's text lays them; and what the arguments hold is together of bulk at most 1048576. -/
namespace Go.Proofs.YtajpfkenhchafaaDoor
open Go.ChangeShapes Go.WideShapes Go.ChangeAt Go.RowKit
open Go.ChangeMaps (open_string shut_string)
set_option linter.unusedVariables false

set_option maxRecDepth 100000 in
theorem execAny_reads (os : Os) {H : Type} (enc : TypeId × Value → H) : ∃ places, DataW.whole enc Tryd.prog ((World.doorLaid Tryd.prog 400 os).forCall (fun _ _ => 0) ⟨#[], #[.slice none 0 0, .int .u64 0, .slice none 0 0, .slice none 0 0], []⟩).memory Tryd.f3.params.toList Rows.execAnySpec.vars false (#[.slice none 0 0, .int .u64 0, .slice none 0 0, .slice none 0 0] : Array Value).toList 8 = some ([.nil, .lit (.int .u64 0), .nil, .nil], [], places) :=
  ⟨[], by kernel_rfl⟩

set_option maxRecDepth 100000 in
theorem execAny_lifted (os : Os) (started : os.Started) (H : Type) (enc : TypeId × Value → H) (F : Stop.Interp) :
    ReturnsInHanded {} Tryd.checked os 3 .any ((Rows.OpenSpec.upto Rows.execAnySpec).preRow enc Tryd.prog Tryd.f3 Rows.execAnyUptoRow.domain false Rows.execAnyUptoRow.laid) (((Rows.OpenSpec.upto Rows.execAnySpec).at F).post enc Tryd.prog Tryd.f3 false true false false) := by
  obtain ⟨places, hx⟩ := execAny_reads os enc
  refine returnsInHanded_of_row (C := Tryd.checked) (s := Rows.OpenSpec.upto Rows.execAnySpec) ownKnob_none started (by kernel_rfl) Tryd.func3
    ⟨World.doorLaid Tryd.prog 400 os, fun _ _ => 0, ⟨#[], #[.slice none 0 0, .int .u64 0, .slice none 0 0, .slice none 0 0], []⟩, rfl, World.shaped_of_RefB (by kernel_rfl) (by kernel_rfl), rfl, (Input.okWide_of_okWideB (by kernel_rfl)).2,
      OpenSpec.preRow_of_cond 8 hx (by kernel_rfl) (fun k hk => by cases hk; kernel_rfl) (by kernel_rfl) (Mx.door_met os _), by
      simp only [Assume.holds]
      exact ⟨by simp, by simp, fun _ => Modest.zero, by simp, by simp⟩⟩ ?_
  intro W base args ds gs before hval0 hW hcnd hcond hsz0 hL _ _
  have hk : Rows.uptoSmall H (ds ++ gs) = true := hcond _ rfl
  have hval : ∀ (j : Nat) t v, Tryd.f3.params[j]? = some t → args[j]? = some v → Value.okWide Tryd.prog W .any base t v := hval0
  have hsz : (DataW.weightsEach Tryd.prog (Tryd.f3.params.toList ++ Rows.execAnySpec.plain.varTypes Tryd.prog) (ds ++ gs)).all (· ≤ reachBytes) = true := hsz0
  have hW' := hW
  obtain ⟨p, q, hA0, hV, rfl, hfz, hnd⟩ := hW
  have hA : DataW.TrodAll enc Tryd.prog W 0 (fun _ => true) true Tryd.f3.params.toList args.toList ds p := hA0
  rw [Tryd.params3] at hA hval hsz
  obtain ⟨v0, vs0, d0, ds0, p0, q0, hargs, rfl, rfl, h0, r0⟩ := trodAll_cons hA
  obtain ⟨v1, vs1, d1, ds1, p1, q1, rfl, rfl, rfl, h1, r1⟩ := trodAll_cons r0
  obtain ⟨v2, vs2, d2, ds2, p2, q2, rfl, rfl, rfl, h2, r2⟩ := trodAll_cons r1
  obtain ⟨v3, vs3, d3, ds3, p3, q3, rfl, rfl, rfl, h3, r3⟩ := trodAll_cons r2
  obtain ⟨rfl, rfl, rfl⟩ := trodAll_nil r3
  obtain rfl : args = #[v0, v1, v2, v3] := by cases args; simp_all
  obtain ⟨rfl, rfl⟩ := trodVars_none hV
  have k0 := h0
  have lt0 : ∀ x ∈ p0, x.block < W.heap.size := by obtain ⟨m, hm⟩ := k0; exact DataW.trod_lt m _ _ _ hm
  obtain ⟨a0, len0, cap0, rfl⟩ := okWide_slice Tryd.underlying22 (hval 0 22 v0 rfl rfl)
  obtain ⟨ss0, sl0, st0, sm0, sd0⟩ := strs_open h0
  subst sl0
  have bk0 := strs_few (upto_strs sd0 hk (by simp))
  have k1 := h1
  have lt1 : ∀ x ∈ p1, x.block < W.heap.size := by obtain ⟨m, hm⟩ := k1; exact DataW.trod_lt m _ _ _ hm
  obtain ⟨b1, rfl, hd1, hp1, w1⟩ := open_int Tryd.underlying23 (hval 1 23 v1 rfl rfl) h1
  obtain ⟨a1, rfl⟩ := nat_of_u64 w1
  have k2 := h2
  have lt2 : ∀ x ∈ p2, x.block < W.heap.size := by obtain ⟨m, hm⟩ := k2; exact DataW.trod_lt m _ _ _ hm
  obtain ⟨a2, len2, cap2, rfl⟩ := okWide_slice Tryd.underlying24 (hval 2 24 v2 rfl rfl)
  obtain ⟨l2, rfl, st2, sm2, sd2⟩ := open_txs22 h2
  have sz2 := txs22_sized hsz (j := 2) rfl rfl sd2
  have k3 := h3
  have lt3 : ∀ x ∈ p3, x.block < W.heap.size := by obtain ⟨m, hm⟩ := k3; exact DataW.trod_lt m _ _ _ hm
  obtain ⟨a3, len3, cap3, rfl⟩ := okWide_slice Tryd.underlying25 (hval 3 25 v3 rfl rfl)
  obtain ⟨l3, rfl, st3, sm3⟩ := open_intsK h3
  clear hA0 hval0 hsz0
  refine (execAny_walk a0 cap0 ss0 a1 a2 cap2 l2 a3 cap3 l3 W st0.row (strs_cap k0) bk0.1 bk0.2 st2 sz2 st3 sm3 (Mx.of_laid hL)).mono fun e W' ⟨he, bel⟩ => ?_
  subst he
  exact ⟨_, rfl, _, _, _, [], _, [], hW', trodAll_mk1 (shut_bool Tryd.underlying4 _), (trodAll_cons_mk (Below.trod laidOut_true (by kernel_rfl) (of_decide_eq_true (by kernel_rfl)) k0 bel lt0) (trodAll_cons_mk (Below.trod laidOut_true (by kernel_rfl) (of_decide_eq_true (by kernel_rfl)) k1 bel lt1) (trodAll_cons_mk (Below.trod laidOut_true (by kernel_rfl) (of_decide_eq_true (by kernel_rfl)) k2 bel lt2) (trodAll_cons_mk (Below.trod laidOut_true (by kernel_rfl) (of_decide_eq_true (by kernel_rfl)) k3 bel lt3) trodAll_mk0)))), rfl, bel.frame _, fun h => by cases h⟩

theorem execAnyUpto_holds : Rows.ExecAnyUptoSaid :=
  OpenClaim.holds_of_cond 3 Tryd.f3 rfl rfl rfl rfl rfl rfl rfl ⟨rfl, rfl, rfl, rfl, rfl⟩ rfl rfl rfl rfl rfl (by kernel_rfl) Tryd.func3 (by kernel_rfl)
    (of_decide_eq_true (by kernel_rfl)) (by unfold Func.isWrapper; rw [if_neg (of_decide_eq_false (by kernel_rfl))]; exact ⟨rfl, rfl⟩)
    (fun os started H enc _ F => by rw [OpenClaim.pre_eq_preRow]; exact execAny_lifted os started H enc F)

theorem execAnyUpto_card : Rows.ExecAnyUptoCardSaid :=
  Claim7.holds_tied_plain_at .later [] [.data, .data] true (true, "63c74406102eb71d750242ea77a9e758dbb44944e77fd75c434c16d49e5861e2") true
    execAnyUpto_holds (fun _ h => by cases h) (by kernel_rfl) (fun _ h => by cases h) execAnyUpto_row_tie rfl ⟨rfl, rfl⟩ (by kernel_rfl) rfl
    (fun f fn hf hfn => by
      obtain rfl : f = 3 := Option.some.inj ((show Tryd.prog.funcNamed "tusk/tusklaw23.ExecAny" = some 3 by kernel_rfl).symm.trans hf) |>.symm
      obtain rfl : fn = Tryd.f3 := (Option.some.inj (Tryd.func3.symm.trans hfn)).symm
      exact ⟨by kernel_rfl, fun j t ht => by
        rw [Tryd.params3] at ht
        have hall : ∀ t ∈ (#[22, 23, 24, 25] : Array TypeId).toList, Tryd.prog.wantsStandIn t = false := by
          show ∀ t ∈ ([22, 23, 24, 25] : List TypeId), Tryd.prog.wantsStandIn t = false
          refine List.forall_mem_cons.2 ⟨by kernel_rfl, ?_⟩
          refine List.forall_mem_cons.2 ⟨by kernel_rfl, ?_⟩
          refine List.forall_mem_cons.2 ⟨by kernel_rfl, ?_⟩
          refine List.forall_mem_cons.2 ⟨by kernel_rfl, ?_⟩
          exact fun _ h => by cases h
        exact hall t (Array.mem_toList_iff.2 (Array.mem_of_getElem? ht))⟩)
    (by kernel_rfl)
end Go.Proofs.YtajpfkenhchafaaDoor
