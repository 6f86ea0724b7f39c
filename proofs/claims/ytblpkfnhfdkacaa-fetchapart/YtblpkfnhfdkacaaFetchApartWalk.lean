/- FetchApart: the walk. -/
import Derived.Test.YtblpkfnhfdkacaaFetTwo
import Derived.Deep.DeepCutAuto
namespace Go.Proofs.Ytblpkfnhfdkacaa
open Go Go.RowKit
set_option linter.unusedVariables false

def itB : ByteArray := ⟨#[105, 116]⟩

set_option maxRecDepth 100000 in
set_option maxHeartbeats 4000000 in
theorem fetchApart_walk (retry : Int) (ao : Option Addr) (cap : Nat) (fr : List Int) (lo : Option Addr) (lc : Nat) (l : List OpF) (W : World) (_ : (Lit.int .i64 retry).wf = true) (hR0 : RowAt intwK W ao fr) (hl : fr.length ≤ maxLen) (hl8 : fr.length * 8 ≤ 140737488351232) (hL : RowAt opF W lo l) (hll : l.length ≤ maxLen) (hlz : ∀ x ∈ l, x.fr.length * 8 ≤ 140737488351232) :
    Calls Try.prog 6 #[.int .i64 retry, .slice ao fr.length cap, .slice lo l.length lc] W fun e w' => e = .returned (.bool true) ∧ Below W.heap.size W w' := by
  have hlz' : Hid _ := hlz
  clear hlz
  have hll' : l.length ≤ 9223372036854775807 := by unfold maxLen at hll; omega
  clear hll
  have hR := hR0.ints
  clear hR0
  obtain ⟨m, hm, hme⟩ := pick_atC retry 6 (by omega) (by omega)
  have hme' : Hid (wrap64 ((IntKind.u64.wrap retry).tmod 6) = (m : Int)) := hme
  have hme2 : Hid (wrap64 (1 + wrap64 ((IntKind.u64.wrap retry).tmod 6)) = ((1 + m : Nat) : Int)) := by
    show _ = _
    rw [hme'.out, Mx.wrap64_small _ (by omega) (by omega)]
    omega
  clear hme hme'
  obtain ⟨n, hn⟩ : ∃ N : Nat, N = 1 + m := ⟨_, rfl⟩
  rw [← hn] at hme2
  have hn1 : 1 ≤ n := by omega
  have hn2 : n ≤ 6 := by omega
  clear hn hm
  have cW := works19_any W
  have cN := fun w => pdNew_yes n w hn1 (by omega)
  go_enter Try.func6, Try.ntmps6
  go_wp2_with fail
  refine cW.mono ?_
  rintro e w0 ⟨rfl, hb0⟩
  clear cW
  by_cases g1 : fr = []
  · subst g1
    clear cN hme2
    go_wp2
    go_ret
    exact ⟨rfl, hb0⟩
  · have hp := List.length_pos_iff.2 g1
    go_wp2_with fail
    rw [hme2.out]
    refine (cN w0).mono ?_
    rintro e w1 ⟨rfl, h1, hb1⟩
    have hO : One19 W w1 w0.heap.size (fun k => k = w0.heap.size) n [] := ⟨h1, hb0.size, hb0.trans (hb1.mono hb0.size)⟩
    clear h1 hb1 hme2
    generalize w0.heap.size = a at hO ⊢
    go_wp2_with fail
    refine (cN w1).mono ?_
    rintro e w2 ⟨rfl, h2, hb2⟩
    have hT : Two19 W w2 a w1.heap.size (fun k => k = a) (fun k => k = w1.heap.size) n [] [] :=
      ⟨hO.pd.below hb2, h2, fun k e e' => by
        have := hO.pd.lt k e
        have e1 : k = w1.heap.size := e'
        omega, hO.ge, hO.bel.size, hO.bel.trans (hb2.mono hO.bel.size)⟩
    clear h2 hb2 cN hO
    generalize w1.heap.size = b at hT ⊢
    obtain ⟨i0, z0, hi0, hz0, hz1, hz2, hz3⟩ := intInfo19
    have m2 : fr.length * 8 ≤ 140737488355328 := by omega
    have hE : wantE [] itB fr.length = 0 := wantE_ok.2 ⟨hp, rfl, by decide⟩
    have hW1 : wantL [] itB fr = [⟨itB, fr, 0, 0⟩] := by unfold wantL; rw [if_pos hE]; rfl
    have hbx := belowNew w2 (.cells #[] 3)
    have hR2 := hR.below (hT.below hbx).bel
    have hQ : KQ intK 3 (w2.alloc (.cells #[] 3)) w2.heap.size (.slice (some ⟨w2.heap.size, 0, none⟩) 0 0) [] := KQ.made w2 _ (Nat.le_refl _)
    have hbs := hbx.size
    go_wp2_with (at_builtin; refine wpList_joinsG (K := intK) (by rfl) _ _ 30 rfl w2.heap.size 3 i0 _ 8 Try.underlying30 hi0 hz0 hz1 hz2 hz3 _ fr rfl hQ (fun _ _ h => h.elim) ao cap rfl hR2 hl m2 hbs ?_)
    intro ao3 cap3 w3 hI3 hk3
    have hB3 := hbx.trans (hk3.below hbs (fun k e => (hQ.lt k e).1))
    have hT3 := hT.below hB3
    have cK := pdWant_any itB ao3 cap3 fr hT3.pa (hI3.rowOf).1 m2
    rw [hE, hW1] at cK
    unfold itB at cK
    clear hI3 hk3 hQ hbx hR2 hB3 hT hbs
    go_wp2_with fail
    refine cK.mono ?_
    rintro e w4 ⟨SA, rfl, h4, hf4, hk4⟩
    have hT4 := hT3.stepA h4 hf4 hk4
    clear cK h4 hk4 hf4 hT3
    have hbx := belowNew w4 (.cells #[] 3)
    have hR2 := hR.below (hT4.below hbx).bel
    have hQ : KQ intK 3 (w4.alloc (.cells #[] 3)) w4.heap.size (.slice (some ⟨w4.heap.size, 0, none⟩) 0 0) [] := KQ.made w4 _ (Nat.le_refl _)
    have hbs := hbx.size
    go_wp2_with (at_builtin; refine wpList_joinsG (K := intK) (by rfl) _ _ 30 rfl w4.heap.size 3 i0 _ 8 Try.underlying30 hi0 hz0 hz1 hz2 hz3 _ fr rfl hQ (fun _ _ h => h.elim) ao cap rfl hR2 hl m2 hbs ?_)
    intro ao5 cap5 w5 hI5 hk5
    have hB5 := hbx.trans (hk5.below hbs (fun k e => (hQ.lt k e).1))
    have hT5 := hT4.below hB5
    have cK := pdWant_any itB ao5 cap5 fr hT5.pb (hI5.rowOf).1 m2
    rw [hE, hW1] at cK
    unfold itB at cK
    clear hI5 hk5 hQ hbx hR2 hB5 hT4 hbs
    go_wp2_with fail
    refine cK.mono ?_
    rintro e w6 ⟨SB, rfl, h6, hf6, hk6⟩
    have hT6 : Two19 W w6 a b SA SB n [⟨itB, fr, 0, 0⟩] [⟨itB, fr, 0, 0⟩] := hT5.stepB h6 hf6 hk6
    have hD0 : Lead itB ⟨itB, fr, 0, 0⟩ [] := ⟨rfl, fun y hy => by cases hy⟩
    clear cK h6 hk6 hf6 hT5 hE hW1
    go_wp2_with fail
    go_loopw [11] (fun v11 wr => ∃ (i : Nat) (SA SB : Nat → Prop) (x : WiD) (R : List WiD), i ≤ 40 ∧ v11 = .int .i64 (i : Int) ∧ Two19 W wr a b SA SB n [x] (x :: R) ∧ Lead itB x R) (fun v _ => 40 - (intOf v).toNat)
    case atStart => exact ⟨0, SA, SB, _, _, by omega, rfl, hT6, hD0⟩
    case round =>
      clear hT6 hD0
      obtain ⟨i, SA, SB, x, R, hi, rfl, hT, hD⟩ := hrel
      by_cases hi4 : i < 40
      · have g2 : (i : Int) < 40 := by omega
        go_upto_region 13 with fail
        go_cut [81] (fun s wx => wx = wr ∧ ∃ c : Bool, s = .bool c ∧ Hid (c = true → ∃ o, l[i]? = some o ∧ o.id ≠ itB))
        case first =>
          by_cases hil : i < l.length
          · have g3 : (i : Int) < (l.length : Int) := by omega
            obtain ⟨o, ho⟩ : ∃ o, l[i]? = some o := ⟨_, List.getElem?_eq_getElem hil⟩
            obtain ⟨g, off, rfl, _, y0, y1, y2, _⟩ := (hL.below hT.bel).op19 ho
            go_wp2_with fail
            go_meet
            refine ⟨rfl, _, rfl, fun hc => ⟨o, ho, fun e => ?_⟩⟩
            rw [e] at hc
            simp [itB] at hc
          · have g3 : ¬ (i : Int) < (l.length : Int) := by omega
            go_wp2_with fail
            go_meet
            exact ⟨rfl, _, rfl, fun hc => (by cases hc)⟩
        case rest =>
          obtain ⟨rfl, c, rfl, hc⟩ := hcut
          generalize wc = wq at *
          go_upto_if 81 with fail
          go_cut [] (fun wx => ∃ (SB' : Nat → Prop) (R' : List WiD), Two19 W wx a b SA SB' n [x] (x :: R') ∧ Lead itB x R')
          case first =>
            cases c with
            | false =>
              go_wp2_with fail
              go_meet
              exact ⟨SB, R, hT, hD⟩
            | true =>
              obtain ⟨o, ho, hoi⟩ := hc.out rfl
              obtain ⟨g, off, rfl, _, y0, y1, y2, hoA⟩ := (hL.below hT.bel).op19 ho
              have hil := (List.getElem?_eq_some_iff.1 ho).1
              have g3 : (i : Int) < (l.length : Int) := by omega
              obtain ⟨kd, hkd⟩ : ∃ z, Hid (o.kind = z) := ⟨_, rfl⟩
              rw [hkd.out] at y0
              by_cases k0 : kd = 0
              · subst k0
                have hz8 := hlz'.out o (List.mem_of_getElem? ho)
                have mz : o.fr.length * 8 ≤ 140737488355328 := by omega
                have hbx := belowNew wq.drew (.cells #[] 3)
                have hbd : Below wq.heap.size wq wq.drew := below_drewN (Below.refl _ _) 1
                have hQ : KQ intK 3 (wq.drew.alloc (.cells #[] 3)) wq.heap.size (.slice (some ⟨wq.heap.size, 0, none⟩) 0 0) [] := KQ.made wq.drew _ (Nat.le_refl _)
                have hbs : wq.heap.size ≤ (wq.drew.alloc (.cells #[] 3)).heap.size := hbx.size
                have hRo := (hoA.row.below hbd).below hbx
                have hol := hoA.len
                have hbs' := hbd.trans (hbx.mono hbd.size)
                have hcb : ∀ (w : World), Below wq.heap.size wq w → w.cell? ⟨g, off + i * 3 + 1, none⟩ = some (.string o.id) ∧ w.cell? ⟨g, off + i * 3 + 2, none⟩ = some (.slice o.fa o.fr.length o.fc) := fun w hb => by
                  obtain ⟨g', off', e', _, _, q1, q2, _⟩ := ((hL.below hT.bel).below hb).op19 ho
                  simp only [Option.some.injEq, Addr.mk.injEq, and_true] at e'
                  obtain ⟨rfl, rfl⟩ := e'
                  exact ⟨q1, q2⟩
                obtain ⟨z1, z2⟩ := hcb _ hbs'
                go_wp2_with fail
                go_region_law (first
                  | (refine step_joinsZ (K := intK) _ (by rfl) _ _ 30 (by rfl) wq.heap.size 3 i0 _ 8 Try.underlying30 hi0 hz0 hz1 hz2 hz3 _ o.fr (by rfl) hQ (fun _ _ h => h.elim) o.fa o.fc (by rfl) hRo hol mz hbs ?_
                     intro ao8 cap8 w8 hI8 hk8
                     have hB8 := hbs'.trans (hk8.below hbs (fun k e => (hQ.lt k e).1))
                     obtain ⟨z3, z4⟩ := hcb _ hB8
                     have hT8 := hT.below hB8
                     have cK := pdWant_any o.id ao8 cap8 o.fr hT8.pb (hI8.rowOf).1 mz)
                  | (go_simp; go_at_call 9; refine cK.mono ?_; rintro e w9 ⟨SB9, rfl, h9, hf9, hk9⟩))
                all_goals
                  have hT9 := hT8.stepB h9 hf9 hk9
                  obtain ⟨R9, r1, r2⟩ := hD.want hoi o.fr
                  rw [r1] at hT9
                  clear cK hI8 hk8 hB8 z3 z4 hT8 h9 hf9 hk9 hQ hRo hcb z1 z2 y0 y1 y2 hbx hbs hbs' r1
                  go_wp2_with fail
                  go_meet
                  exact ⟨SB9, R9, hT9, r2⟩
              · by_cases k1 : kd = 1
                · subst k1
                  have cG := pdGot_any o.id hT.pb
                  obtain ⟨r1, r2⟩ := hD.got hoi
                  rw [r1] at cG
                  go_wp2_with fail
                  refine cG.mono ?_
                  rintro e w9 ⟨rfl, h9, hk9⟩
                  have hT9 := hT.stepB h9 (fun k e => Or.inl e) hk9
                  clear cG h9 hk9 y0 y1 y2 r1
                  go_wp2_with fail
                  go_meet
                  exact ⟨SB, _, hT9, r2⟩
                · go_wp2_with fail
                  go_meet
                  exact ⟨SB, R, hT, hD⟩
          case rest =>
            obtain ⟨SB', R', hT, hD⟩ := hcut
            generalize wc = w7 at *
            have cA := pdTick_any hT.pa
            obtain ⟨X, hX⟩ : ∃ X, Hid (asksL n [x] = X) := ⟨_, rfl⟩
            have e1 : [x].map (tickW n) = [tickW n x] := rfl
            rw [e1, hX.out] at cA
            go_wp2_with fail
            refine cA.mono ?_
            rintro e w8 ⟨aX, cX, rfl, hKX, h8, hk8⟩
            have hT8 := hT.stepA h8 (fun k e => Or.inl e) hk8
            have cB := pdTick_any hT8.pb
            obtain ⟨Y2, hY2⟩ : ∃ X, Hid (asksL n R' = X) := ⟨_, rfl⟩
            have e2 : (x :: R').map (tickW n) = tickW n x :: R'.map (tickW n) := rfl
            rw [e2, asks_cons, hX.out, hY2.out] at cB
            have hXi : Hid (∀ y ∈ X, y.id = itB) := fun y hy => by
              rw [← hX.out] at hy
              obtain ⟨z, hz, e⟩ := asks_ids hy
              simp at hz
              rw [e, hz]
              exact hD.is
            have hYi : Hid (∀ y ∈ Y2, y.id ≠ itB) := fun y hy => by
              rw [← hY2.out] at hy
              obtain ⟨z, hz, e⟩ := asks_ids hy
              rw [e]
              exact hD.no z hz
            have hXl : X.length ≤ 64 := by
              rw [← hX.out]
              unfold asksL
              rw [List.length_map]
              exact Nat.le_trans (List.length_filter_le _ _) hT.pa.ok.few
            have hYl : Y2.length ≤ 64 := by
              rw [← hY2.out]
              unfold asksL
              rw [List.length_map]
              refine Nat.le_trans (List.length_filter_le _ _) ?_
              have := hT.pb.ok.few
              rw [List.length_cons] at this
              omega
            have hlow : ∀ k, SB' k → k < w7.heap.size := hT.pb.lt
            have hXg : ∀ k, rowFoot askK aX X k → w7.heap.size ≤ k := fun k hk => KQ.foot_ge hKX (Nat.le_refl _) (fun _ _ _ h => h.elim) k hk
            clear cA h8 hk8 hT e1 e2
            go_wp2_with fail
            refine cB.mono ?_
            rintro e w9 ⟨aY, cY, rfl, hKY, h9, hk9⟩
            have hT9 := hT8.stepB h9 (fun k e => Or.inl e) hk9
            have hRX := ((hKX.rowOf).1).kept hk9 (fun k hk e => by have := hXg k hk; have := hlow k e; omega)
            have hRY := (hKY.rowOf).1
            have hD9 := hD.tick n
            have hlen : (X ++ Y2).length = X.length + Y2.length := List.length_append
            clear cB h9 hk9 hT8 hKX hKY hXg hlow hX hY2 hD
            rw [hlen]
            go_wp2_with fail
            go_loopw [14, 15] (fun v14 v15 wz => ∃ k : Nat, k ≤ X.length + Y2.length ∧ v14 = .int .i64 ((min k X.length : Nat) : Int) ∧ v15 = .int .i64 (k : Int) ∧ (Two19 W wz a b SA SB' n [tickW n x] (tickW n x :: R'.map (tickW n)) ∧ RowAt askK wz aX X ∧ RowAt askK wz aY (X ++ Y2))) (fun _ v _ => X.length + Y2.length - (intOf v).toNat)
            case atStart => exact ⟨0, Nat.zero_le _, by simp, rfl, hT9, hRX, hRY⟩
            case round =>
              obtain ⟨k, hk, rfl, rfl, hTz, hRXz, hRYz⟩ := hrel
              clear hT9 hRX hRY
              generalize wr = wz at *
              by_cases hkl : k < X.length + Y2.length
              · have g4 : (k : Int) < ((X.length : Nat) : Int) + ((Y2.length : Nat) : Int) := by omega
                by_cases hkX : k < X.length
                · have em : min k X.length = k := by omega
                  have em1 : min (k + 1) X.length = k + 1 := by omega
                  rw [em]
                  obtain ⟨y, hy⟩ : ∃ y, X[k]? = some y := ⟨_, List.getElem?_eq_getElem hkX⟩
                  have hyi := hXi.out y (List.mem_of_getElem? hy)
                  have hyY : (X ++ Y2)[k]? = some y := by rw [List.getElem?_append_left hkX]; exact hy
                  obtain ⟨g5, o5, rfl, _, q0, q1⟩ := hRXz.ask hy
                  obtain ⟨g6, o6, rfl, _, q2, q3⟩ := hRYz.ask hyY
                  have g7 : (k : Int) < (X.length : Int) := by omega
                  have g8 : ¬ (X.length : Int) ≤ (k : Int) := by omega
                  have hnq := ask_neq
                  have hqg := guardAsk
                  rw [hyi] at q0 q2
                  unfold itB at q0 q2
                  go_wp2_with fail
                  go_quiet (fail)
                  have hbq : Below wz.heap.size wz (wz.drewN nq) := below_drewN (Below.refl _ _) nq
                  have hTq := hTz.below hbq
                  have hRXq := hRXz.below hbq
                  have hRYq := hRYz.below hbq
                  clear hnq hqg q0 q1 q2 q3 hTz hRXz hRYz hbq
                  generalize wz.drewN nq = wy at *
                  go_wp2
                  go_roundw
                  case rel => exact ⟨k + 1, by omega, by rw [em1]; go_num, by go_num, hTq, hRXq, hRYq⟩
                  case measure => simp [intOf]; omega
                · have em : min k X.length = X.length := by omega
                  have em1 : min (k + 1) X.length = X.length := by omega
                  rw [em]
                  obtain ⟨y, hy⟩ : ∃ y, Y2[k - X.length]? = some y := ⟨_, List.getElem?_eq_getElem (by omega)⟩
                  have hyi := hYi.out y (List.mem_of_getElem? hy)
                  have hyY : (X ++ Y2)[k]? = some y := by rw [List.getElem?_append_right (by omega)]; exact hy
                  obtain ⟨g6, o6, rfl, _, q2, q3⟩ := hRYz.ask hyY
                  have hne : (y.id.toList == (⟨#[105, 116]⟩ : ByteArray).toList) = false := by
                    rw [bytes_eq]
                    exact decide_eq_false hyi
                  have hl2 : (⟨#[105, 116]⟩ : ByteArray).toList = [105, 116] := by rw [ByteArray.toList_eq]
                  have hne2 : (y.id.toList == [105, 116]) = false := by rw [← hl2]; exact hne
                  have hne3 : ¬ y.id.toList = [105, 116] := by simpa using hne2
                  clear hyi hl2
                  go_wp2
                  go_roundw
                  case rel => exact ⟨k + 1, by omega, by rw [em1], by go_num, hTz, hRXz, hRYz⟩
                  case measure => simp [intOf]; omega
              · obtain rfl : k = X.length + Y2.length := by omega
                have g4 : ¬ ((X.length + Y2.length : Nat) : Int) < ((X.length : Nat) : Int) + ((Y2.length : Nat) : Int) := by omega
                have em : min (X.length + Y2.length) X.length = X.length := by omega
                rw [em]
                clear hRXz hRYz
                go_wp2
                go_roundw
                case rel => exact ⟨i + 1, SA, SB', _, _, by omega, by go_num, hTz, hD9⟩
                case measure => simp [intOf]; omega
      · obtain rfl : i = 40 := by omega
        have hbF := hT.bel
        go_wp2
        go_ret
        exact ⟨rfl, hbF⟩
end Go.Proofs.Ytblpkfnhfdkacaa
