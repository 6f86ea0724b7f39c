/- WalkOnce: the walk. -/
import Derived.Test.YthilbcjalaomgaaWalkOnceSt
import Derived.Deep.QuietTactic
import Derived.Deep.DeepCutAuto
namespace Go.Proofs.Ythilbcjalaomgaa
open Go Go.RowKit Go.Maps
set_option linter.unusedVariables false

theorem zeroPlace16 (w : World) : (zeroValue 46).run Try.prog w = .ok (.agg #[.int .i64 0, .int .i64 0]) w := by kernel_rfl
theorem zeroStrs16 (w : World) : (zeroValue 29).run Try.prog w = .ok (.slice none 0 0) w := by kernel_rfl
theorem zeroBool16 (w : World) : (zeroValue 4).run Try.prog w = .ok (.bool false) w := by kernel_rfl
theorem fieldPl16 (w : World) (a b : Int) : (Instr.field 46 (.agg #[.int .i64 a, .int .i64 b]) 0).run Try.prog w = .ok (.int .i64 a) w := by kernel_rfl

theorem putN_le (f : ByteArray → Option Value) (id : ByteArray) (n : Nat) : putN f id n ≤ n + 1 := by unfold putN; split <;> omega

set_option maxRecDepth 100000 in
set_option maxHeartbeats 8000000 in
theorem walkOnce_walk (a0 : Option Addr) (c0 : Nat) (l : List OpW) (W : World) (hR : RowAt opW W a0 l) (hm0 : l.length ≤ maxLen) :
    Calls Try.prog 4 #[.slice a0 l.length c0] W fun e w' => e = .returned (.bool true) ∧ Below W.heap.size W w' := by
  have cWk := works16_any W
  go_enter Try.func4, Try.ntmps4
  go_wp2_with fail
  refine cWk.mono ?_
  rintro e w0 ⟨rfl, hb0⟩
  clear cWk
  go_wp2_with fail
  refine (pgNew_any w0).mono ?_
  rintro e w1 ⟨gb, S, rfl, hG1, hs1, hb1⟩
  have hb01 := hb0.trans (hb1.mono hb0.size)
  have b2 := belowNew w1 (.map #[] 0)
  have s2 := SMap.new w1
  have b3 := belowNew (w1.alloc (.map #[] 0)) (.map #[] 0)
  have s3 := SMap.new (w1.alloc (.map #[] 0))
  have b4 := belowNew ((w1.alloc (.map #[] 0)).alloc (.map #[] 0)) (.map #[] 0)
  have s4 := SMap.new ((w1.alloc (.map #[] 0)).alloc (.map #[] 0))
  have z2 : (w1.alloc (.map #[] 0)).heap.size = w1.heap.size + 1 := alloc_size _ _
  have z3 : ((w1.alloc (.map #[] 0)).alloc (.map #[] 0)).heap.size = w1.heap.size + 1 + 1 := by rw [alloc_size, z2]
  have hS : OS W (((w1.alloc (.map #[] 0)).alloc (.map #[] 0)).alloc (.map #[] 0)) gb w1.heap.size (w1.alloc (.map #[] 0)).heap.size ((w1.alloc (.map #[] 0)).alloc (.map #[] 0)).heap.size gr0 gr0 gr0 (fun _ => false) 0 0 := by
    have e0 := hb01.size
    refine ⟨(hb01.trans (b2.mono e0)).trans ((b3.mono (by omega)).trans (b4.mono (by omega))), ⟨S, ((hG1.below b2).below b3).below b4, fun k e => ?_⟩, ⟨0, Nat.le_refl _, ((s2.below b3).below b4).congr (fun _ => rfl)⟩, ⟨0, _, Nat.le_refl _, s3.below b4, fun v hv => (List.not_mem_nil hv).elim⟩, ⟨0, Nat.le_refl _, s4.congr (fun _ => rfl)⟩, e0, by omega, by omega, by omega, by omega, by omega⟩
    have := hG1.lt e
    have := hs1 k e
    have := hb0.size
    omega
  have hD0 : DnOk gr0 (fun _ => false) := fun _ => rfl
  clear hb0 hb1 hb01 s2 s3 s4 b2 b3 b4 hG1 hs1
  rw [z3, z2] at hS
  clear z2 z3
  have hmm := @run_makeMap Try.prog
  go_wp2_with fail
  clear hmm
  generalize w1.heap.size + 1 + 1 = db at *
  generalize w1.heap.size + 1 = pb at *
  generalize w1.heap.size = ab at *
  generalize ((w1.alloc (.map #[] 0)).alloc (.map #[] 0)).alloc (.map #[] 0) = w4 at *
  go_loopw [7, 8, 9, 10, 11, 12, 13, 14, 15, 16] (fun v7 _ _ _ _ _ _ _ _ _ wr => ∃ (i : Nat) (g : GrD) (dn : ByteArray → Bool), i ≤ 100 ∧ v7 = .int .i64 (i : Int) ∧ OS W wr gb ab pb db g g g dn (2 * i) (i * 256) ∧ g.low = 0 ∧ DnOk g dn) (fun v _ _ _ _ _ _ _ _ _ _ => 101 - (intOf v).toNat)
  case atStart => exact ⟨0, gr0, _, Nat.zero_le _, rfl, hS, rfl, hD0⟩
  case round =>
    clear hS hD0
    obtain ⟨i, g, dn, hi, rfl, hS, hlow, hD⟩ := hrel
    by_cases hgo : i < l.length ∧ i < 100
    · have g1 : (i : Int) < (l.length : Int) := by omega
      have g2 : (i : Int) < 100 := by omega
      obtain ⟨x, hx⟩ : ∃ x, l[i]? = some x := ⟨_, List.getElem?_eq_getElem hgo.1⟩
      obtain ⟨bo, oo, hao, hbl, y0, y1, y2, y3, y4, _⟩ := (hR.below hS.bel).op16 hx
      have hat : x.At W := hR.at_ x (List.mem_of_getElem? hx)
      obtain ⟨kd, hkd⟩ : ∃ z, Hid (x.kind = z) := ⟨_, rfl⟩
      rw [hkd.out] at y0
      have hbx := belowNew wr (.cells #[.int .i64 kd, .string x.id, .int .i64 x.round, .int .i64 x.author, .slice x.pa x.ps.length x.pc] 31)
      have hX := Arr.new wr 31 [.int .i64 kd, .string x.id, .int .i64 x.round, .int .i64 x.author, .slice x.pa x.ps.length x.pc]
      have hX : Arr (wr.alloc (.cells #[.int .i64 kd, .string x.id, .int .i64 x.round, .int .i64 x.author, .slice x.pa x.ps.length x.pc] 31)) wr.heap.size 31 [.int .i64 kd, .string x.id, .int .i64 x.round, .int .i64 x.author, .slice x.pa x.ps.length x.pc] := hX
      have hab : ab < wr.heap.size := by obtain ⟨_, _, q⟩ := hS.at_; exact q.lt
      have hpb : pb < wr.heap.size := by obtain ⟨_, _, _, q, _⟩ := hS.par; exact q.lt
      subst hao
      go_upto_region 11 with fail
      generalize wr.alloc (.cells #[.int .i64 kd, .string x.id, .int .i64 x.round, .int .i64 x.author, .slice x.pa x.ps.length x.pc] 31) = wx at *
      clear y0 y1 y2 y3 y4 hbl
      obtain ⟨xb, hxb⟩ : ∃ z, Hid (wr.heap.size = z) := ⟨_, rfl⟩
      rw [hxb.out] at hX hab hpb ⊢
      have x0 := hX.cell (i := 0) rfl
      have x1 := hX.cell (i := 1) rfl
      have x2 := hX.cell (i := 2) rfl
      have x3 := hX.cell (i := 3) rfl
      have x4 := hX.cell (i := 4) rfl
      have hS1 := hS.below hbx
      by_cases k0 : kd = 0
      · subst k0
        by_cases h5 : x.ps.length < 50
        · have g5 : (x.ps.length : Int) < 50 := by omega
          have cA := hS.add2 hbx x hat (by omega)
          obtain ⟨E, hEq⟩ : ∃ E, Hid (addEV g x.id x.round x.author x.ps.length = E) := ⟨_, rfl⟩
          rw [hEq.out] at cA
          have hok := hS.ok
          clear hS hS1
          go_wp2_with fail
          refine cA.mono ?_
          rintro e w2 ⟨rfl, hS2, S2, hk2, hs2⟩
          have hX2 := hX.kept hk2 (fun e => by have := hs2 _ e; have := hxb.out; omega)
          clear cA x0 x1 x2 x3 x4 hX hk2 hs2 hbx
          by_cases hz : E = 0
          · subst hz
            have x0 := hX2.cell (i := 0) rfl
            have x1 := hX2.cell (i := 1) rfl
            have x2 := hX2.cell (i := 2) rfl
            have x3 := hX2.cell (i := 3) rfl
            have x4 := hX2.cell (i := 4) rfl
            obtain ⟨kA, lA, mA⟩ := hS2.at_
            have nA : kA < maxLen := by unfold maxLen; omega
            have hD2 := hD.add hok (ps := x.ps) hEq.out
            have hlow2 : (addGV g x.id x.round x.author x.ps).low = 0 := by rw [addGV_ok hEq.out]; exact hlow
            go_wp2_with (first
              | (at_mapUpdate; refine smap_put rfl _ _ _ 42 rfl 46 Try.underlying42 ab _ kA rfl mA nA x.id hat.id rfl (.agg #[.int .i64 x.round, .int .i64 x.author]) rfl ?_; intro w3 hm3 hk3; have hX3 := hX2.kept hk3 (fun e => by have e' : xb = ab := e; omega); have hS3 := hS2.putA hok hEq.out (Nat.le_trans (putN_le _ _ _) (by omega)) hm3 hk3; have z1 := hX3.cell (i := 1) rfl; have z4 := hX3.cell (i := 4) rfl; have z0 := hX3.cell (i := 0) rfl; obtain ⟨kP, fP, lP, mP, rP⟩ := hS3.par; have nP : kP < maxLen := by unfold maxLen; omega)
              | (at_mapUpdate; refine smap_put rfl _ _ _ 43 rfl 29 Try.underlying43 pb _ kP rfl mP nP x.id hat.id rfl (.slice x.pa x.ps.length x.pc) rfl ?_; intro w5 hm5 hk5; have hX5 := hX3.kept hk5 (fun e => by have e' : xb = pb := e; omega); have hS5 := hS3.putP hat hok hEq.out rP (k0 := 0) (Nat.le_trans (putN_le _ _ _) (by omega)) hm5 hk5; have t0 := hX5.cell (i := 0) rfl))
            have hS6 := hS5.more (n' := 2 * (i + 1)) (m' := (i + 1) * 256) (by omega) (by omega)
            try go_wp2
            go_roundw
            case rel => exact ⟨i + 1, _, dn, by omega, by go_num, hS6, hlow2, hD2⟩
            case measure => simp [intOf]; omega
          · have hz' : ¬ (E : Int) = 0 := by omega
            have hG : addGV g x.id x.round x.author x.ps = g := by unfold addGV; rw [if_neg (by rw [hEq.out]; exact hz)]
            rw [hG] at hS2
            have x0 := hX2.cell (i := 0) rfl
            have hS6 := hS2.more (n' := 2 * (i + 1)) (m' := (i + 1) * 256) (by omega) (by omega)
            clear hEq hG
            go_wp2
            go_roundw
            case rel => exact ⟨i + 1, g, dn, by omega, by go_num, hS6, hlow, hD⟩
            case measure => simp [intOf]; omega
        · have g5 : ¬ (x.ps.length : Int) < 50 := by omega
          have hS6 := hS1.more (n' := 2 * (i + 1)) (m' := (i + 1) * 256) (by omega) (by omega)
          go_wp2
          go_roundw
          case rel => exact ⟨i + 1, g, dn, by omega, by go_num, hS6, hlow, hD⟩
          case measure => simp [intOf]; omega
      · by_cases k1 : kd = 1
        · subst k1
          have hem := hS1.emit hlow hD x.id hat.id
          have hok := hS1.ok
          have hgs : ∀ v ∈ g.L, v.id.size ≤ maxLen := fun v hv => hS1.size hv
          clear hS
          go_wp2_with fail
          refine hem.mono ?_
          rintro e w2 ⟨V, mm, al, cl, am, cm, g', rfl, hE, hrow, hft, hS2⟩
          have hVs0 : Hid (∀ v ∈ V, v.id.size ≤ maxLen) := fun v hv => hgs v (hE.mem v hv)
          clear hgs
          clear hem hS1 hX x0 x1 x2 x3 x4 hbx
          go_upto_region 16 with fail
          go_cut [89] (fun s wx => s = .bool false ∧ wx = w2)
          case first =>
            by_cases hV0 : 0 < V.length
            · have hmz : mm = 0 := by
                rcases hE.one with e | e
                · rw [e] at hV0; exact absurd hV0 (by simp)
                · exact e
              subst hmz
              have gV : (0 : Int) < (V.length : Int) := by omega
              go_wp2_with fail
              go_meet
              case rel => exact ⟨rfl, rfl⟩
            · obtain rfl : V = [] := List.eq_nil_of_length_eq_zero (by omega)
              clear hV0
              go_wp2_with fail
              go_meet
              case rel => exact ⟨rfl, rfl⟩
          case rest =>
            obtain ⟨rfl, rfl⟩ := hcut
            go_wp2_with fail
            have hS20 : OS W wc gb ab pb db g' g g (orDn dn ((V.take 0).map (·.id))) (2 * i) (i * 256 + 0) := by rw [List.take_zero, List.map_nil, orDn_nil]; exact hS2
            clear hS2
            have hVs : Hid (∀ v ∈ V, v.id.size ≤ maxLen) := hVs0
            go_loopw [11, 12, 13, 14] (fun v11 _ _ _ wk => ∃ k : Nat, k ≤ V.length ∧ v11 = .int .i64 (k : Int) ∧ OS W wk gb ab pb db g' g g (orDn dn ((V.take k).map (·.id))) (2 * i) (i * 256 + k) ∧ RowAt textK wk al (V.map (·.id))) (fun v _ _ _ _ => V.length - (intOf v).toNat)
            case atStart => exact ⟨0, Nat.zero_le _, rfl, hS20, hrow⟩
            case round =>
              clear hS20 hrow
              obtain ⟨k, hkV, rfl, hS, hrow⟩ := hrel
              by_cases hlt : k < V.length
              · have g3 : (k : Int) < (V.length : Int) := by omega
                obtain ⟨v, hv⟩ : ∃ v, V[k]? = some v := ⟨_, List.getElem?_eq_getElem hlt⟩
                have hvm := List.mem_of_getElem? hv
                have hvi : (V.map (·.id))[k]? = some v.id := by rw [List.getElem?_map, hv]; rfl
                obtain ⟨ro, oo2, hal, _, hcl⟩ := hrow.text hvi
                obtain ⟨kA, lA, mA⟩ := hS.at_
                obtain ⟨kD, lD, mD⟩ := hS.dnn
                have nD : kD < maxLen := by have := hE.few; unfold maxLen; omega
                have hvs : v.id.size ≤ maxLen := hVs.out v hvm
                have ea : Hid (atF g v.id = some (.agg #[.int .i64 v.round, .int .i64 v.author])) := atF_of hok (hE.mem v hvm)
                have hnot : orDn dn ((V.take k).map (·.id)) v.id = false := by
                  rw [Bool.eq_false_iff]
                  intro e
                  rcases orDn_iff.1 e with e | e
                  · rw [hE.not v hvm] at e; cases e
                  · obtain ⟨u, hu, e2⟩ := List.mem_map.1 e
                    obtain ⟨j, hj, he⟩ := List.mem_iff_getElem.1 hu
                    rw [List.length_take] at hj
                    rw [List.getElem_take] at he
                    have q := List.pairwise_iff_getElem.1 hE.ids j k (by omega) hlt (by omega)
                    rw [he, (List.getElem?_eq_some_iff.1 hv).2] at q
                    exact q e2
                have ed : Hid ((dnF (orDn dn ((V.take k).map (·.id))) v.id).getD (.bool false) = .bool false) := by show _ = _; rw [dnF_get, hnot]
                have hdn' : Hid (∀ y, orDn dn ((V.take (k + 1)).map (·.id)) y = true ↔ orDn dn ((V.take k).map (·.id)) y = true ∨ y = v.id) := fun y => by
                  rw [orDn_iff, orDn_iff, List.take_add_one, hv, List.map_append, List.mem_append]
                  simp [or_assoc]
                have hbp := belowNew wr (.cells #[.int .i64 v.round, .int .i64 v.author] 46)
                have hP : Arr (wr.alloc (.cells #[.int .i64 v.round, .int .i64 v.author] 46)) wr.heap.size 46 [.int .i64 v.round, .int .i64 v.author] := Arr.new wr 46 [.int .i64 v.round, .int .i64 v.author]
                have hS3 := hS.below hbp
                have mD3 := mD.below hbp
                have hrow3 := hrow.below hbp
                have hcl3 : (wr.alloc (.cells #[.int .i64 v.round, .int .i64 v.author] 46)).cell? ⟨ro, oo2 + k, none⟩ = some (.string v.id) := by
                  obtain ⟨_, _, e, _, q⟩ := hrow3.text hvi
                  rw [hal] at e
                  simp only [Option.some.injEq, Addr.mk.injEq, and_true] at e
                  obtain ⟨rfl, rfl⟩ := e
                  exact q
                have hdbl : db < wr.heap.size := mD.lt
                have zP := zeroPlace16
                have zB := zeroBool16
                generalize hwp : wr.alloc (.cells #[.int .i64 v.round, .int .i64 v.author] 46) = w3 at *
                subst hal
                by_cases hk0 : k = 0
                · have gk : ¬ (0 : Int) < (k : Int) := by omega
                  have gk2 : ¬ 0 < k := by omega
                  clear hk0
                  clear hS hrow hnot mD
                  go_wp2_with (first
                    | (at_lookup; refine smap_look_ok (by rfl) _ _ 42 rfl 46 Try.underlying42 _ (zP _) ab _ kA rfl mA v.id hvs rfl ?_; rw [ea.out])
                    | (at_lookup; refine smap_look (by rfl) _ _ 44 rfl 4 Try.underlying44 _ (zB _) db _ kD rfl mD3 v.id hvs rfl ?_; rw [ed.out])
                    | (at_mapUpdate; refine smap_put rfl _ _ _ 44 rfl 4 Try.underlying44 db _ kD rfl mD3 nD v.id hvs rfl (.bool true) rfl ?_; intro w5 hm5 hk5))
                  have hS5 := hS3.putD v.id (dn' := orDn dn ((V.take (k + 1)).map (·.id))) hdn'.out (Nat.le_trans (putN_le _ _ _) (by omega)) hm5 hk5
                  have hrow5 := hrow3.kept hk5 (fun b hb e => hft b hb e)
                  try go_wp2
                  go_roundw
                  case rel => exact ⟨k + 1, by omega, by go_num, hS5, hrow5⟩
                  case measure => simp [intOf]; omega
                · obtain ⟨j, rfl⟩ : ∃ j, k = j + 1 := ⟨k - 1, by omega⟩
                  clear hk0
                  obtain ⟨u, hu⟩ : ∃ u, V[j]? = some u := ⟨_, List.getElem?_eq_getElem (by omega)⟩
                  have hum := List.mem_of_getElem? hu
                  have hus : u.id.size ≤ maxLen := hVs.out u hum
                  have eu : Hid ((atF g u.id).getD (.agg #[.int .i64 0, .int .i64 0]) = .agg #[.int .i64 u.round, .int .i64 u.author]) := by show _ = _; rw [atF_of hok (hE.mem u hum)]; rfl
                  have hui : (V.map (·.id))[j]? = some u.id := by rw [List.getElem?_map, hu]; rfl
                  obtain ⟨ur, hur⟩ : ∃ z, Hid (u.round = z) := ⟨_, rfl⟩
                  obtain ⟨ua, hua⟩ : ∃ z, Hid (u.author = z) := ⟨_, rfl⟩
                  rw [hur.out, hua.out] at eu
                  have hltV : ltV u v := by
                    have q := List.pairwise_iff_getElem.1 hE.rise j (j + 1) (by omega) hlt (by omega)
                    rw [(List.getElem?_eq_some_iff.1 hu).2, (List.getElem?_eq_some_iff.1 hv).2] at q
                    exact q
                  have gk : (0 : Int) < (j : Int) + 1 := by omega
                  have gj : (j : Int) < (V.length : Int) := by omega
                  have hfew := hE.few
                  have hab := hS.n2
                  have mA3 := mA.below hbp
                  have hpn : wr.heap.size ≠ db := by omega
                  have hcl5 : Hid (∀ w5, Kept (fun b => b = db) w3 w5 → w5.cell? ⟨ro, oo2 + j, none⟩ = some (.string u.id)) := fun w5 hk5 => by
                    have hr5 := hrow3.kept hk5 (fun b hb e => hft b hb e)
                    obtain ⟨_, _, e, _, q⟩ := hr5.text hui
                    simp only [Option.some.injEq, Addr.mk.injEq, and_true] at e
                    obtain ⟨rfl, rfl⟩ := e
                    exact q
                  clear hS hrow hnot mD
                  have hrc : (¬ v.round < ur ∧ (ur == v.round) = false) ∨ (ur = v.round ∧ ¬ v.author ≤ ua) := by
                    rw [← hur.out, ← hua.out]
                    rcases hltV with q | ⟨q1, q2⟩
                    · exact Or.inl ⟨by omega, by rw [beq_eq_false_iff_ne]; omega⟩
                    · exact Or.inr ⟨q1, by omega⟩
                  clear hltV hur hua
                  rcases hrc with ⟨c1, c2⟩ | ⟨c1, c2⟩
                  · skip
                    go_wp2_with (first
                      | (at_lookup; refine smap_look_ok (by rfl) _ _ 42 rfl 46 Try.underlying42 _ (zP _) ab _ kA rfl mA v.id hvs rfl ?_; rw [ea.out])
                      | (at_lookup; refine smap_look (by rfl) _ _ 44 rfl 4 Try.underlying44 _ (zB _) db _ kD rfl mD3 v.id hvs rfl ?_; rw [ed.out])
                      | (at_mapUpdate; refine smap_put rfl _ _ _ 44 rfl 4 Try.underlying44 db _ kD rfl mD3 nD v.id hvs rfl (.bool true) rfl ?_; intro w5 hm5 hk5; have mA5 := mA3.kept hk5 hab; have c5 := hcl5.out w5 hk5; have hP5 := hP.kept hk5 hpn; have hb6 := belowNew w5 (.cells #[.int .i64 ur, .int .i64 ua] 46); have p0 := (hP5.below hb6 hP5.lt).cell (i := 0) rfl; have p1 := (hP5.below hb6 hP5.lt).cell (i := 1) rfl; have hQ6 := Arr.new w5 46 [.int .i64 ur, .int .i64 ua]; have q0 := hQ6.cell (i := 0) rfl; have q1 := hQ6.cell (i := 1) rfl)
                      | (at_lookup; refine smap_look (by rfl) _ _ 42 rfl 46 Try.underlying42 _ (zP _) ab _ kA rfl mA5 u.id hus rfl ?_; rw [eu.out]))
                    have hS5 := (hS3.putD v.id (dn' := orDn dn ((V.take (j + 1 + 1)).map (·.id))) hdn'.out (Nat.le_trans (putN_le _ _ _) (by omega)) hm5 hk5).below hb6
                    have hrow5 := (hrow3.kept hk5 (fun b hb e => hft b hb e)).below hb6
                    try go_wp2
                    go_roundw
                    case rel => exact ⟨j + 1 + 1, by omega, by go_num, hS5, hrow5⟩
                    case measure => simp [intOf]; omega
                  · subst c1
                    go_wp2_with (first
                      | (at_lookup; refine smap_look_ok (by rfl) _ _ 42 rfl 46 Try.underlying42 _ (zP _) ab _ kA rfl mA v.id hvs rfl ?_; rw [ea.out])
                      | (at_lookup; refine smap_look (by rfl) _ _ 44 rfl 4 Try.underlying44 _ (zB _) db _ kD rfl mD3 v.id hvs rfl ?_; rw [ed.out])
                      | (at_mapUpdate; refine smap_put rfl _ _ _ 44 rfl 4 Try.underlying44 db _ kD rfl mD3 nD v.id hvs rfl (.bool true) rfl ?_; intro w5 hm5 hk5; have mA5 := mA3.kept hk5 hab; have c5 := hcl5.out w5 hk5; have hP5 := hP.kept hk5 hpn; have hb6 := belowNew w5 (.cells #[.int .i64 v.round, .int .i64 ua] 46); have p0 := (hP5.below hb6 hP5.lt).cell (i := 0) rfl; have p1 := (hP5.below hb6 hP5.lt).cell (i := 1) rfl; have hQ6 := Arr.new w5 46 [.int .i64 v.round, .int .i64 ua]; have q0 := hQ6.cell (i := 0) rfl; have q1 := hQ6.cell (i := 1) rfl)
                      | (at_lookup; refine smap_look (by rfl) _ _ 42 rfl 46 Try.underlying42 _ (zP _) ab _ kA rfl mA5 u.id hus rfl ?_; rw [eu.out]))
                    have hS5 := (hS3.putD v.id (dn' := orDn dn ((V.take (j + 1 + 1)).map (·.id))) hdn'.out (Nat.le_trans (putN_le _ _ _) (by omega)) hm5 hk5).below hb6
                    have hrow5 := (hrow3.kept hk5 (fun b hb e => hft b hb e)).below hb6
                    try go_wp2
                    go_roundw
                    case rel => exact ⟨j + 1 + 1, by omega, by go_num, hS5, hrow5⟩
                    case measure => simp [intOf]; omega
              · obtain rfl : k = V.length := by omega
                have g3 : ¬ ((V.length : Nat) : Int) < (V.length : Int) := by omega
                rw [List.take_length] at hS
                have hSe := (hS.ends hok hE).more (n' := 2 * (i + 1)) (m' := (i + 1) * 256) (by omega) (by have := hE.few; omega)
                obtain ⟨kA, lA, mA⟩ := hS.at_
                obtain ⟨kP, fP, lP, mP, hpar⟩ := hS.par
                obtain ⟨kD, lD, mD⟩ := hS.dnn
                have hpar' : Hid _ := hpar
                have hbW := hS.bel
                have zP := zeroPlace16
                have zB := zeroBool16
                have zS : ∀ w : World, (zeroValue 29).run Try.prog w = .ok (.slice none 0 0) w := fun w => rfl
                have fP16 := fieldPl16
                clear hS hpar
                go_wp2_with fail
                go_loopw [15, 16] (fun v15 _ wz => ∃ k : Nat, k ≤ V.length ∧ v15 = .int .i64 (k : Int) ∧ wz = wr) (fun v _ _ => V.length - (intOf v).toNat)
                case atStart => exact ⟨0, Nat.zero_le _, rfl, rfl⟩
                case round =>
                  obtain ⟨k, hkV, rfl, rfl⟩ := hrel
                  by_cases hlt : k < V.length
                  · have g4 : (k : Int) < (V.length : Int) := by omega
                    obtain ⟨v, hv⟩ : ∃ v, V[k]? = some v := ⟨_, List.getElem?_eq_getElem hlt⟩
                    have hvm := List.mem_of_getElem? hv
                    have hvs : v.id.size ≤ maxLen := hVs.out v hvm
                    have hvi : (V.map (·.id))[k]? = some v.id := by rw [List.getElem?_map, hv]; rfl
                    obtain ⟨ro, oo2, hal, _, hcl⟩ := hrow.text hvi
                    obtain ⟨pa, pc, q1, q2, q3⟩ := hpar'.out v (hE.mem v hvm)
                    have eP : Hid ((fP v.id).getD (.slice none 0 0) = .slice pa v.parents.length pc) := by show _ = _; rw [q1]; rfl
                    have eA : Hid ((atF g v.id).getD (.agg #[.int .i64 0, .int .i64 0]) = .agg #[.int .i64 v.round, .int .i64 v.author]) := by show _ = _; rw [atF_of hok (hE.mem v hvm)]; rfl
                    have hpl7 := hok.ps v (hE.mem v hvm)
                    have hfew := hE.few
                    have hq2 : Hid _ := q2
                    have hq3 : Hid _ := q3
                    clear q1 q2 q3
                    go_wp2_with fail
                    go_loopw [16] (fun v16 wz => ∃ j : Nat, j ≤ v.parents.length ∧ v16 = .int .i64 (j : Int) ∧ wz = wr) (fun v16 _ => v.parents.length - (intOf v16).toNat)
                    case atStart => exact ⟨0, Nat.zero_le _, rfl, rfl⟩
                    case round =>
                      obtain ⟨j, hjp, rfl, rfl⟩ := hrel
                      subst hal
                      by_cases hj : j < v.parents.length ∧ 0 < v.round
                      · obtain ⟨hjl, hr0⟩ := hj
                        have g5 : (j : Int) < (v.parents.length : Int) := by omega
                        obtain ⟨p, hp⟩ : ∃ p, v.parents[j]? = some p := ⟨_, List.getElem?_eq_getElem hjl⟩
                        have hpm := List.mem_of_getElem? hp
                        have hps : p.size ≤ maxLen := hq3.out p hpm
                        obtain ⟨po, oo3, rfl, _, hcp⟩ := (hq2.out.below hbW).text hp
                        have eD : Hid ((dnF (orDn dn (V.map (·.id))) p).getD (.bool false) = .bool true) := by show _ = _; rw [dnF_get, hE.par v hvm hr0 p hpm]
                        go_wp2_with (first
                          | (at_lookup; refine smap_look (by rfl) _ _ 43 rfl 29 Try.underlying43 _ (zS _) pb _ kP rfl mP v.id hvs rfl ?_; rw [eP.out])
                          | (at_lookup; refine smap_look (by rfl) _ _ 42 rfl 46 Try.underlying42 _ (zP _) ab _ kA rfl mA v.id hvs rfl ?_; rw [eA.out])
                          | (at_lookup; refine smap_look (by rfl) _ _ 44 rfl 4 Try.underlying44 _ (zB _) db _ kD rfl mD p hps rfl ?_; rw [eD.out]))
                        try go_wp2
                        go_roundw
                        case rel => first | exact ⟨j + 1, by omega, by go_num, rfl⟩ | exact ⟨j + 1, by omega, by simp⟩
                        case measure => simp [intOf]; omega
                      · have hg : ((j : Int) < (v.parents.length : Int) ∧ ¬ 0 < v.round) ∨ ¬ (j : Int) < (v.parents.length : Int) := by omega
                        rcases hg with ⟨g5, g6⟩ | g5
                        all_goals
                          go_wp2_with (first
                            | (at_lookup; refine smap_look (by rfl) _ _ 43 rfl 29 Try.underlying43 _ (zS _) pb _ kP rfl mP v.id hvs rfl ?_; rw [eP.out])
                            | (at_lookup; refine smap_look (by rfl) _ _ 42 rfl 46 Try.underlying42 _ (zP _) ab _ kA rfl mA v.id hvs rfl ?_; rw [eA.out]))
                          try go_wp2
                          go_roundw
                          case rel => first | exact ⟨k + 1, by omega, by go_num, rfl⟩ | exact ⟨k + 1, by omega, by simp⟩
                          case measure => simp [intOf]; omega
                  · obtain rfl : k = V.length := by omega
                    have g4 : ¬ ((V.length : Nat) : Int) < (V.length : Int) := by omega
                    go_wp2
                    go_roundw
                    case rel => exact ⟨i + 1, g', _, by omega, by go_num, hSe, hE.low, hE.dok⟩
                    case measure => simp [intOf]; omega
        · have hS6 := hS1.more (n' := 2 * (i + 1)) (m' := (i + 1) * 256) (by omega) (by omega)
          go_wp2
          go_roundw
          case rel => exact ⟨i + 1, g, dn, by omega, by go_num, hS6, hlow, hD⟩
          case measure => simp [intOf]; omega
    · go_upto_region 8 with fail
      go_cut [30] (fun s wx => s = .bool false ∧ wx = wr)
      case first =>
        by_cases h1 : i < l.length
        · have g1 : (i : Int) < (l.length : Int) := by omega
          have g2 : ¬ (i : Int) < 100 := by omega
          go_wp2_with fail
          go_meet
          case rel => exact ⟨rfl, rfl⟩
        · have g1 : ¬ (i : Int) < (l.length : Int) := by omega
          go_wp2_with fail
          go_meet
          case rel => exact ⟨rfl, rfl⟩
      case rest =>
        obtain ⟨rfl, rfl⟩ := hcut
        have hbW := hS.bel
        go_wp2
        go_ret
        exact ⟨rfl, hbW⟩
end Go.Proofs.Ythilbcjalaomgaa
