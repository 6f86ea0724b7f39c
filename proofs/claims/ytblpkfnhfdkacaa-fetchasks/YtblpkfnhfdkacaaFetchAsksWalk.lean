/- FetchAsks: the walk. -/
import Derived.Test.YtblpkfnhfdkacaaRefFetTick
import Derived.Test.YtblpkfnhfdkacaaRefFetWant
import Derived.Test.YtblpkfnhfdkacaaRefFetGot
import Derived.Test.YtblpkfnhfdkacaaFetSame
import Derived.Deep.DeepCutAuto
import Derived.Deep.CutBlock
import Derived.Deep.RegionHeld3
namespace Go.Proofs.Ytblpkfnhfdkacaa
open Go Go.RowKit
set_option linter.unusedVariables false

/-- The program's desk and the document's, side by side. -/
structure Duo19 (W w : World) (a b : Nat) (SA SB : Nat → Prop) (n : Nat) (L : List WiD) : Prop where
  pa : PD w a SA n L
  pb : RD w b SB n L
  ap : ∀ k, SA k → ¬ SB k
  ga : W.heap.size ≤ a
  gb : W.heap.size ≤ b
  bel : Below W.heap.size W w

section
variable {W w w' : World} {a b n : Nat} {SA SB SA' SB' : Nat → Prop} {L L' : List WiD}

theorem Duo19.below (h : Duo19 W w a b SA SB n L) (hb : Below w.heap.size w w') : Duo19 W w' a b SA SB n L :=
  ⟨h.pa.below hb, h.pb.below hb, h.ap, h.ga, h.gb, h.bel.trans (hb.mono h.bel.size)⟩

/-- An act on each of them. -/
theorem Duo19.both {w1 w2 : World} (h : Duo19 W w a b SA SB n L) (hp : PD w1 a SA' n L') (hf : FreshS w SA SA') (hk : Kept SA w w1) (hq : RD w2 b SB' n L') (hg : FreshS w1 SB SB') (hl : Kept SB w1 w2) : Duo19 W w2 a b SA' SB' n L' := by
  have d1 : ∀ k, SA' k → ¬ SB k := fun k e e' => by
    rcases hf k e with q | q
    · exact h.ap k q e'
    · have := h.pb.lt k e'; omega
  refine ⟨hp.kept hl d1, hq, fun k e e' => ?_, h.ga, h.gb, (h.bel.trans (hk.below h.bel.size (fun k e => Nat.le_trans h.ga (h.pa.ge k e)))).trans (hl.below (Nat.le_trans h.bel.size hk.size) (fun k e => Nat.le_trans h.gb (h.pb.ge k e)))⟩
  rcases hg k e' with q | q
  · exact d1 k e q
  · have := hp.lt k e; omega

theorem Duo19.refAt (h : Duo19 W w a b SA SB n L) {w1 : World} (hk : Kept SA w w1) : RD w1 b SB n L := h.pb.kept hk (fun k e e' => h.ap k e' e)
end

/-- How often each was asked. -/
def FewA (L : List WiD) (i : Nat) : Prop := ∀ x ∈ L, x.asked ≤ i

theorem FewA.tick {L : List WiD} {i : Nat} (h : FewA L i) (n : Nat) : FewA (L.map (tickW n)) (i + 1) := fun y hy => by
  obtain ⟨x, hx, rfl⟩ := List.mem_map.1 hy
  have := h x hx
  unfold tickW
  split
  · show x.asked + 1 ≤ i + 1; omega
  · show x.asked ≤ i + 1; omega

theorem FewA.mono {L : List WiD} {i : Nat} (h : FewA L i) : FewA L (i + 1) := fun x hx => Nat.le_succ_of_le (h x hx)

theorem FewA.want {L : List WiD} {i : Nat} (h : FewA L i) (id : ByteArray) (fr : List Int) : FewA (wantL L id fr) (i + 1) := fun x hx => by
  unfold wantL at hx
  split at hx
  · rcases List.mem_append.1 hx with hx | hx
    · have := h x hx; omega
    · simp at hx; subst hx; exact Nat.zero_le _
  · have := h x hx; omega

theorem FewA.got {L : List WiD} {i : Nat} (h : FewA L i) (id : ByteArray) : FewA (gotL L id) (i + 1) := fun x hx => by
  have := h x (List.mem_filter.1 hx).1
  omega

set_option maxRecDepth 100000 in
set_option maxHeartbeats 4000000 in
theorem fetchAsks_walk (retry : Int) (lo : Option Addr) (lc : Nat) (l : List OpF) (W : World) (_ : (Lit.int .i64 retry).wf = true) (hL : RowAt opF W lo l) (hll : l.length ≤ maxLen) (hlz : ∀ x ∈ l, x.fr.length * 8 ≤ 140737488351232) :
    Calls Try.prog 3 #[.int .i64 retry, .slice lo l.length lc] W fun e w' => e = .returned (.bool true) ∧ Below W.heap.size W w' := by
  have hlz' : Hid _ := hlz
  clear hlz
  have hll' : l.length ≤ 9223372036854775807 := by unfold maxLen at hll; omega
  clear hll
  by_cases hin : 1 ≤ retry ∧ retry ≤ 1000
  · obtain ⟨r1, r2⟩ := hin
    obtain ⟨n, rfl⟩ : ∃ n : Nat, retry = (n : Int) := ⟨retry.toNat, by omega⟩
    have cN := pdNew_yes n W (by omega) (by omega)
    have cM := fun w => rdNew_yes n w (by omega) (by omega)
    go_enter Try.func3, Try.ntmps3
    go_wp2_with fail
    refine cN.mono ?_
    rintro e w1 ⟨rfl, h1, hb1⟩
    clear cN
    go_wp2_with fail
    refine (cM w1).mono ?_
    rintro e w2 ⟨rfl, h2, hb2⟩
    have hT : Duo19 W w2 W.heap.size w1.heap.size (fun k => k = W.heap.size) (fun k => k = w1.heap.size) n [] :=
      ⟨h1.below hb2, h2, fun k e e' => by
        have := h1.lt k e
        have e1 : k = w1.heap.size := e'
        omega, Nat.le_refl _, hb1.size, hb1.trans (hb2.mono hb1.size)⟩
    clear cM h1 h2 hb1 hb2
    generalize w1.heap.size = b at hT ⊢
    generalize hWa : W.heap.size = a at hT ⊢
    go_wp2_with fail
    go_loopw [9] (fun v9 wr => ∃ (i : Nat) (SA SB : Nat → Prop) (L : List WiD), i ≤ l.length ∧ i ≤ 200 ∧ v9 = .int .i64 (i : Int) ∧ Duo19 W wr a b SA SB n L ∧ FewA L i) (fun v _ => l.length - (intOf v).toNat)
    case atStart => exact ⟨0, _, _, _, Nat.zero_le _, by omega, rfl, hT, fun x hx => (by cases hx)⟩
    case round =>
      clear hT
      obtain ⟨i, SA, SB, L, hi, hi2, rfl, hT, hF⟩ := hrel
      by_cases hlt : i < l.length ∧ i < 200
      · obtain ⟨hil, hi200⟩ := hlt
        have g1 : (i : Int) < (l.length : Int) := by omega
        have g2 : (i : Int) < 200 := by omega
        obtain ⟨o, ho⟩ : ∃ o, l[i]? = some o := ⟨_, List.getElem?_eq_getElem hil⟩
        obtain ⟨g, off, rfl, _, y0, y1, y2, hoA⟩ := (hL.below hT.bel).op19 ho
        have hbN := belowNew wr (.cells #[.int .i64 o.kind, .string o.id, .slice o.fa o.fr.length o.fc] 32)
        have hO := Arr.new wr 32 [.int .i64 o.kind, .string o.id, .slice o.fa o.fr.length o.fc]
        have hT0 := hT.below hbN
        have hnS : ¬ SA wr.heap.size ∧ ¬ SB wr.heap.size := ⟨fun e => by have := hT.pa.lt _ e; omega, fun e => by have := hT.pb.lt _ e; omega⟩
        have hsep0 : Hid (∀ k, rowFoot intK o.fa o.fr k → ¬ SA k) := fun k hk e => by
          have h1 := (hL.at_ o (List.mem_of_getElem? ho)).row.lt hk
          have h2 := hT.pa.ge k e
          have h3 := hT.ga
          omega
        have hoA0 : o.At (wr.alloc (.cells #[.int .i64 o.kind, .string o.id, .slice o.fa o.fr.length o.fc] 32)) := ⟨hoA.row.below hbN, hoA.len⟩
        go_upto_region 9 with fail
        obtain ⟨ob, hob⟩ : ∃ z, Hid (wr.heap.size = z) := ⟨_, rfl⟩
        rw [hob.out] at hO hnS ⊢
        replace hO : Arr (wr.alloc (.cells #[.int .i64 o.kind, .string o.id, .slice o.fa o.fr.length o.fc] 32)) ob 32 [.int .i64 o.kind, .string o.id, .slice o.fa o.fr.length o.fc] := hO
        clear hT hbN hob hoA y0 y1 y2
        generalize wr.alloc (.cells #[.int .i64 o.kind, .string o.id, .slice o.fa o.fr.length o.fc] 32) = w0 at *
        obtain ⟨kd, hkd⟩ : ∃ z, Hid (o.kind = z) := ⟨_, rfl⟩
        have z0 := hO.cell (i := 0) rfl
        rw [hkd.out] at z0
        have z1 := hO.cell (i := 1) rfl
        have z2 := hO.cell (i := 2) rfl
        have hol := hO.lt
        have hkp : ∀ U, Below w0.heap.size w0 U → (U.cell? ⟨ob, 1, none⟩ = some (.string o.id) ∧ U.cell? ⟨ob, 2, none⟩ = some (.slice o.fa o.fr.length o.fc)) := fun U hU => ⟨(hU.cell (p := ⟨ob, 1, none⟩) hol).trans z1, (hU.cell (p := ⟨ob, 2, none⟩) hol).trans z2⟩
        have uD : Below w0.heap.size w0 w0.drew := below_drewN (Below.refl _ _) 1
        have hS0 := hkp _ uD
        go_upto_block 2 with fail
        go_cut [] (fun wx => ∃ (SA' SB' : Nat → Prop) (L' : List WiD), Duo19 W wx a b SA' SB' n L' ∧ FewA L' (i + 1))
        case first =>
          by_cases k0 : kd = 0
          · subst k0
            obtain ⟨i0, y0, hi0, hy0, hy1, hy2, hy3⟩ := intInfo19
            have hz8 := hlz'.out o (List.mem_of_getElem? ho)
            have mz : o.fr.length * 8 ≤ 140737488355328 := by omega
            have uE : Below w0.heap.size w0 (w0.alloc (.cells #[] 3)).drew := (belowNew w0 (.cells #[] 3)).trans (below_drewN (Below.refl _ _) 1)
            have hSE := hkp _ uE
            have hQ : KQ intK 3 (w0.alloc (.cells #[] 3)).drew w0.heap.size (.slice (some ⟨w0.heap.size, 0, none⟩) 0 0) [] := (KQ.made w0 _ (Nat.le_refl _)).below (below_drewN (Below.refl _ _) 1)
            have hbs := uE.size
            have hRo := hoA0.row.below uE
            have hol2 := hoA0.len
            have hFw := hF.want o.id o.fr
            have hsep := hsep0.out
            obtain ⟨E, hE⟩ : ∃ E, Hid (wantE L o.id o.fr.length = E) := ⟨_, rfl⟩
            go_wp2_with fail
            go_region_held3 (fun w' => w'.cell? ⟨ob, 1, none⟩ = some (.string o.id) ∧ w'.cell? ⟨ob, 2, none⟩ = some (.slice o.fa o.fr.length o.fc)) (first | assumption | exact hkp _ (by assumption))
              (first
              | (refine step_joinsZ (K := intK) _ (by rfl) _ _ 30 (by rfl) w0.heap.size 3 i0 _ 8 Try.underlying30 hi0 hy0 hy1 hy2 hy3 _ o.fr (by rfl) hQ (fun _ _ h => h.elim) o.fa o.fc (by rfl) hRo hol2 mz hbs ?_; intro ao8 cap8 w8 hI8 hk8; have hB8 := uE.trans (hk8.below hbs (fun k e => (hQ.lt k e).1)); have hS8 := hkp _ hB8; have hT8 := hT0.below hB8; have cK := pdWant_any o.id ao8 cap8 o.fr hT8.pa (hI8.rowOf).1 mz; rw [hE.out] at cK; have hRo8 := hoA0.row.below hB8)
              | (go_at_call 9; refine cK.mono ?_; rintro e w9 ⟨SA9, rfl, h9, hf9, hk9⟩; have hSz : w0.heap.size ≤ w8.heap.size := hB8.size; have hS9 : w9.cell? ⟨ob, 1, none⟩ = some (.string o.id) ∧ w9.cell? ⟨ob, 2, none⟩ = some (.slice o.fa o.fr.length o.fc) := ⟨(hk9.cell (p := ⟨ob, 1, none⟩) (Nat.lt_of_lt_of_le hol hSz) hnS.1).trans hS8.1, (hk9.cell (p := ⟨ob, 2, none⟩) (Nat.lt_of_lt_of_le hol hSz) hnS.1).trans hS8.2⟩; have hP9 := hT8.refAt hk9; have hRo9 := hRo8.kept hk9 (fun k hk e => hsep k hk e); have cR := rdWant_any o.id o.fa o.fc o.fr hP9 hRo9 mz; rw [hE.out] at cR)
              | (go_at_call 10; refine cR.mono ?_; rintro e wa ⟨SBa, rfl, ha, hfa, hka⟩; have hTa := hT8.both h9 hf9 hk9 ha hfa hka; have hSa : wa.cell? ⟨ob, 1, none⟩ = some (.string o.id) ∧ wa.cell? ⟨ob, 2, none⟩ = some (.slice o.fa o.fr.length o.fc) := ⟨(hka.cell (p := ⟨ob, 1, none⟩) (Nat.lt_of_lt_of_le hol (Nat.le_trans hSz hk9.size)) hnS.2).trans hS9.1, (hka.cell (p := ⟨ob, 2, none⟩) (Nat.lt_of_lt_of_le hol (Nat.le_trans hSz hk9.size)) hnS.2).trans hS9.2⟩))
            clear cK cR
            go_wp2_with fail
            go_meet
            exact ⟨_, _, _, hTa, hFw⟩
          · by_cases k1 : kd = 1
            · subst k1
              have hTd := hT0.below uD
              have cG := pdGot_any o.id hTd.pa
              have hFw := hF.got o.id
              obtain ⟨E, hE⟩ : ∃ E, Hid (hasL L o.id = E) := ⟨_, rfl⟩
              rw [hE.out] at cG
              go_wp2_with fail
              go_region_held3 (fun w' => w'.cell? ⟨ob, 1, none⟩ = some (.string o.id)) (first | assumption | exact (hkp _ (by assumption)).1)
                (first
                | (go_at_call 11; refine cG.mono ?_; rintro e w9 ⟨rfl, h9, hk9⟩; have hS9 : w9.cell? ⟨ob, 1, none⟩ = some (.string o.id) := (hk9.cell (p := ⟨ob, 1, none⟩) (Nat.lt_of_lt_of_le hol uD.size) hnS.1).trans hS0.1; have hP9 := hTd.refAt hk9; have cR := rdGot_any o.id hP9; rw [hE.out] at cR)
                | (go_at_call 12; refine cR.mono ?_; rintro e wa ⟨SBa, rfl, ha, hfa, hka⟩; have hTa := hTd.both h9 (fun k e => Or.inl e) hk9 ha hfa hka; have hSa : wa.cell? ⟨ob, 1, none⟩ = some (.string o.id) := (hka.cell (p := ⟨ob, 1, none⟩) (Nat.lt_of_lt_of_le hol (Nat.le_trans uD.size hk9.size)) hnS.2).trans hS9))
              clear cG cR
              go_wp2_with fail
              go_meet
              exact ⟨_, _, _, hTa, hFw⟩
            · by_cases k2 : kd = 2
              · subst k2
                have cA := pdTick_any hT0.pa
                have hF1000 : ∀ x ∈ L, x.asked ≤ 1000 := fun x hx => by have := hF x hx; omega
                have hFw := hF.tick n
                have hAl : (asksL n L).length ≤ 64 := by
                  unfold asksL
                  rw [List.length_map]
                  exact Nat.le_trans (List.length_filter_le _ _) hT0.pa.ok.few
                have cB0 := fun w1 (hk : Kept SA w0 w1) => rdTick_any (hT0.refAt hk) hF1000
                obtain ⟨A, hA⟩ : ∃ A, Hid (asksL n L = A) := ⟨_, rfl⟩
                rw [hA.out] at cA cB0 hAl
                have hlowB : ∀ k, SB k → k < w0.heap.size := hT0.pb.lt
                clear hF1000 hkp hS0 uD z1 z2
                go_wp2_with fail
                refine cA.mono ?_
                rintro e w1 ⟨aA, cA', rfl, hKA, h1, hk1⟩
                have hgA : ∀ k, rowFoot askK aA A k → w0.heap.size ≤ k := fun k hk => KQ.foot_ge hKA (Nat.le_refl _) (fun _ _ _ h => h.elim) k hk
                have hRA1 := (hKA.rowOf).1
                have cB := cB0 w1 hk1
                clear cA cB0 hKA
                go_wp2_with fail
                refine cB.mono ?_
                rintro e w2 ⟨aB, cB', rfl, hKB, h2, hk2⟩
                have hT2 := hT0.both h1 (fun k e => Or.inl e) hk1 h2 (fun k e => Or.inl e) hk2
                have hRA := hRA1.kept hk2 (fun k hk e => by have := hgA k hk; have := hlowB k e; omega)
                have hRB := (hKB.rowOf).1
                clear cB h1 hk1 h2 hk2 hKB hRA1 hgA hlowB hT0 z0
                go_wp2_with fail
                go_loopw [13] (fun v13 wz => ∃ k : Nat, k ≤ A.length ∧ v13 = .int .i64 (k : Int) ∧ Duo19 W wz a b SA SB n (L.map (tickW n)) ∧ RowAt askK wz aA A ∧ RowAt askK wz aB A) (fun v _ => A.length - (intOf v).toNat)
                case atStart => exact ⟨0, Nat.zero_le _, rfl, hT2, hRA, hRB⟩
                case round =>
                  obtain ⟨k, hk, rfl, hTz, hRAz, hRBz⟩ := hrel
                  clear hT2 hRA hRB
                  by_cases hkl : k < A.length
                  · have g4 : (k : Int) < (A.length : Int) := by omega
                    obtain ⟨y, hy⟩ : ∃ y, A[k]? = some y := ⟨_, List.getElem?_eq_getElem hkl⟩
                    obtain ⟨g5, o5, rfl, _, q0, q1⟩ := hRAz.ask hy
                    obtain ⟨g6, o6, rfl, _, q2, q3⟩ := hRBz.ask hy
                    generalize wr = wz at *
                    go_wp2_with fail
                    go_quiet (fail)
                    have hbq : Below wz.heap.size wz (wz.drewN nq) := below_drewN (Below.refl _ _) nq
                    have hTq := hTz.below hbq
                    have hRAq := hRAz.below hbq
                    have hRBq := hRBz.below hbq
                    clear q0 q1 q2 q3 hTz hRAz hRBz hbq
                    generalize wz.drewN nq = wy at *
                    go_wp2
                    go_roundw
                    case rel => exact ⟨k + 1, by omega, by go_num, hTq, hRAq, hRBq⟩
                    case measure => simp [intOf]; omega
                  · obtain rfl : k = A.length := by omega
                    have g4 : ¬ ((A.length : Nat) : Int) < (A.length : Int) := by omega
                    clear hRAz hRBz
                    go_wp2_with fail
                    go_meet
                    exact ⟨_, _, _, hTz, hFw⟩
              · go_wp2_with fail
                go_meet
                exact ⟨_, _, _, hT0, hF.mono⟩
        case rest =>
          obtain ⟨SA', SB', L', hT, hF⟩ := hcut
          have cA := pdWants_any hT.pa
          go_wp2_with fail
          refine cA.mono ?_
          rintro e w5 ⟨a5, c5, rfl, hK5, hb5⟩
          have hT5 := hT.below hb5
          have cB := rdWants_any hT5.pb
          go_wp2_with fail
          refine cB.mono ?_
          rintro e w6 ⟨a6, c6, rfl, hK6, hb6⟩
          have hT6 := hT5.below hb6
          have hr5 := ((hK5.rowOf).1).below hb6
          have hr6 := (hK6.rowOf).1
          have hln : (L'.map (·.id)).length = L'.length := List.length_map _
          have hl64 := hT.pa.ok.few
          have cS := sameRows19 a5 a6 c5 c6 (L'.map (·.id)) w6 hr5 hr6 (by rw [hln]; omega)
          rw [hln] at cS
          clear cA cB hK5 hK6 hb5 hb6 hT hT5 hr5 hr6
          go_wp2_with fail
          refine cS.mono ?_
          rintro e w7 ⟨rfl, hb7⟩
          have hT7 := hT6.below hb7
          clear cS hb7 hT6
          go_wp2
          go_roundw
          case rel => exact ⟨i + 1, SA', SB', L', by omega, by omega, by go_num, hT7, hF⟩
          case measure => simp [intOf]; omega
      · have hg : ¬ (i : Int) < (l.length : Int) ∨ ((i : Int) < (l.length : Int) ∧ ¬ (i : Int) < 200) := by omega
        have hbF := hT.bel
        rcases hg with g1 | ⟨g1, g2⟩
        all_goals
          go_wp2
          go_ret
          exact ⟨rfl, by rw [← hWa]; exact hbF⟩
  · have cN := pdNew_no retry W (by omega)
    have cM := rdNew_no retry W (by omega)
    go_enter Try.func3, Try.ntmps3
    go_wp2_with fail
    refine cN.mono ?_
    rintro e w1 ⟨rfl, rfl⟩
    go_wp2_with fail
    refine cM.mono ?_
    rintro e w2 ⟨rfl, rfl⟩
    go_wp2
    go_ret
    exact ⟨rfl, Below.refl _ _⟩
end Go.Proofs.Ytblpkfnhfdkacaa
