/- AccessApart: members of different groups are not in each other's way; a group's number is its least member's. -/
import Derived.Test.YthegadhkhbokkaaAccArgs
import Derived.BigQuiet
import Derived.Deep.QuietTactic
namespace Go.Proofs.Ythegadhkhbokkaa
open Go Go.RowKit
set_option linter.unusedVariables false

/-- What the loops read. -/
structure Ap (W w : World) (ao : Option Addr) (l : List TxA) (g : Nat) (gl : List Nat) : Prop where
  row : RowAt txA w ao l
  grp : RowAt natK w (some ⟨g, 0, none⟩) gl
  bel : Below W.heap.size W w

theorem Ap.below {W w w' : World} {ao : Option Addr} {l : List TxA} {g : Nat} {gl : List Nat} (h : Ap W w ao l g gl) (hb : Below w.heap.size w w') : Ap W w' ao l g gl :=
  ⟨h.row.below hb, h.grp.below hb, h.bel.trans (hb.mono h.bel.size)⟩

theorem Ap.at_ {W w : World} {ao : Option Addr} {l : List TxA} {g : Nat} {gl : List Nat} (h : Ap W w ao l g gl) {i v : Nat} (hv : gl[i]? = some v) : w.cell? ⟨g, i, none⟩ = some (.int .i64 (v : Int)) := by
  obtain ⟨b, off, e, _, h2⟩ := h.grp.nat hv
  simp only [Option.some.injEq, Addr.mk.injEq, and_true] at e
  obtain ⟨rfl, rfl⟩ := e
  rw [Nat.zero_add] at h2
  exact h2

set_option maxRecDepth 100000 in
set_option maxHeartbeats 8000000 in
theorem accessApart_walk (ao : Option Addr) (cp : Nat) (l : List TxA) (W : World) (hl : RowAt txA W ao l) (hm : l.length ≤ maxLen) (hw : Wide l) :
    Calls Try.prog 5 #[.slice ao l.length cp] W fun e w' => e = .returned (.bool true) ∧ Below W.heap.size W w' := by
  clear hm
  go_enter Try.func5, Try.ntmps5
  go_wp2_with fail
  refine (works20_any _).mono ?_
  rintro _ w1 ⟨rfl, hb1⟩
  have cG := great_any l ao cp w1 (hl.below hb1) hw
  go_wp2_with fail
  refine cG.mono ?_
  rintro _ w2 ⟨rfl, hb2⟩
  have hb3 := hb1.trans (hb2.mono hb1.size)
  clear cG hb1 hb2
  cases hg : greatA l with
  | true =>
    go_wp2
    go_ret
    exact ⟨rfl, hb3⟩
  | false =>
    have hf := few_of hg
    have hl1 := hf.1
    have cO := ownL_any l ao cp w2 (hl.below hb3) hf
    clear hg
    go_wp2_with fail
    refine cO.mono ?_
    rintro _ w3 ⟨ma, mc, m, rfl, hml, hm, hrw, hb4⟩
    clear hml
    have hfm := few_same hf hrw
    have cR := groups_any m ma mc w3 hm hfm
    rw [hrw] at cR
    clear cO
    go_wp2_with fail
    refine cR.mono ?_
    rintro _ w4 ⟨g, gl, rfl, hG, hsp, hb5⟩
    have hln : (rwL l).length = l.length := rwL_length l
    rw [hln] at hG ⊢
    have hb6 := (hb3.trans (hb4.mono hb3.size)).trans (hb5.mono (by have := hb3.size; have := hb4.size; omega))
    have hA0 : Ap W w4 ao l g gl := ⟨hl.below hb6, hG.rowOf.1, hb6⟩
    have hgl : gl.length = l.length := by rw [hsp.len, hln]
    replace hsp : Hid _ := hsp
    replace hln : Hid _ := hln
    replace hgl : Hid _ := hgl
    clear cR hG hb4 hb5 hb3 hm hfm hrw hb6
    go_wp2_with fail
    go_loopw [4] (fun v4 wr => ∃ i : Nat, i ≤ l.length ∧ v4 = .int .i64 (i : Int) ∧ Ap W wr ao l g gl) (fun v _ => l.length - (intOf v).toNat)
    case atStart => exact ⟨0, Nat.zero_le _, rfl, hA0⟩
    case round =>
      obtain ⟨i, hi, rfl, hA⟩ := hrel
      clear hA0
      by_cases hil : i < l.length
      · have g1 : (i : Int) < (l.length : Int) := by omega
        obtain ⟨vi, hvi⟩ : ∃ p, gl[i]? = some p := ⟨_, List.getElem?_eq_getElem (by rw [hgl.out]; exact hil)⟩
        have hile : i < (rwL l).length := by rw [hln.out]; exact hil
        have hvD : gl.getD i 0 = vi := by rw [List.getD_eq_getElem?_getD, hvi]; rfl
        have hv1 := hsp.out.le hile
        have hv2 := hsp.out.again hile
        rw [hvD] at hv1 hv2
        have hvl : vi < gl.length := by rw [hgl.out]; omega
        have hvv : gl[vi]? = some vi := by
          rw [List.getElem?_eq_getElem hvl]
          rw [List.getD_eq_getElem?_getD, List.getElem?_eq_getElem hvl] at hv2
          exact congrArg some hv2
        have c1 := hA.at_ hvi
        have c2 := hA.at_ hvv
        have g2 : ¬ (vi : Int) < 0 := by omega
        have g3 : ¬ (i : Int) < (vi : Int) := by omega
        have g4 : (vi : Int) < (l.length : Int) := by omega
        have g5 : vi < l.length := by omega
        replace hvi : Hid _ := hvi
        replace hvD : Hid _ := hvD
        clear hv2 hvv hvl
        go_wp2_with fail
        go_quiet (fail)
        have hAq := hA.below (below_drewN (Below.refl wr.heap.size wr) nq)
        generalize wr.drewN nq = w5 at *
        clear hA c1 c2
        go_wp2_with fail
        generalize decide ((vi : Int) < 0) = d1
        generalize decide (i < vi) = d2
        clear g2 g3
        go_loopw [5] (fun v5 wz => ∃ k : Nat, k ≤ i ∧ v5 = .int .i64 (k : Int) ∧ Ap W wz ao l g gl) (fun v _ => i - (intOf v).toNat)
        case atStart => exact ⟨0, Nat.zero_le _, rfl, hAq⟩
        case round =>
          clear hAq
          obtain ⟨k, hk, rfl, hA⟩ := hrel
          by_cases hki : k < i
          · have g6 : (k : Int) < (i : Int) := by omega
            obtain ⟨vk, hvk⟩ : ∃ p, gl[k]? = some p := ⟨_, List.getElem?_eq_getElem (by rw [hgl.out]; omega)⟩
            have hvkD : gl.getD k 0 = vk := by rw [List.getD_eq_getElem?_getD, hvk]; rfl
            have g7 : (k : Int) < (l.length : Int) := by omega
            have g8 : k < l.length := by omega
            by_cases hne : vi = vk
            · have c1 := hA.at_ hvi.out
              have c2 := hA.at_ hvk
              rw [← hne] at c2
              clear hvk hvkD
              go_wp2_with fail
              go_quiet (fail)
              have hAq := hA.below (below_drewN (Below.refl wr.heap.size wr) nq)
              clear hA c1 c2
              go_wp2
              go_roundw
              case rel => exact ⟨k + 1, by omega, by go_num, hAq⟩
              case measure => simp [intOf]; omega
            · have hap : adjB (rwL l) i k = false := hsp.out.apart hile (by rw [hln.out]; omega) (by rw [hvD.out, hvkD]; exact hne)
              obtain ⟨x, hx⟩ : ∃ p, l[i]? = some p := ⟨_, List.getElem?_eq_getElem hil⟩
              obtain ⟨y, hy⟩ : ∃ p, l[k]? = some p := ⟨_, List.getElem?_eq_getElem g8⟩
              rw [adjB_some (rwL_get hx) (rwL_get hy)] at hap
              obtain ⟨fx1, fx2⟩ := hf.2 x (List.mem_of_getElem? hx)
              obtain ⟨fy1, fy2⟩ := hf.2 y (List.mem_of_getElem? hy)
              have g9 : ((vi : Int) != (vk : Int)) = true := by simp; omega
              have hA0 : Ap W wr.drew ao l g gl := hA.below (below_drewN (Below.refl _ _) 1)
              obtain ⟨b, off, hao, _⟩ := hA.row.tx hx
              subst hao
              have hkp : ∀ w', Ap W w' (some ⟨b, off, none⟩) l g gl → (w'.cell? ⟨b, off + i * 9, none⟩ = some (.int .i64 x.kind) ∧ w'.cell? ⟨b, off + i * 9 + 1, none⟩ = some (.string x.frm) ∧ w'.cell? ⟨b, off + i * 9 + 2, none⟩ = some (.string x.dst) ∧ w'.cell? ⟨b, off + i * 9 + 3, none⟩ = some (.int .u64 x.amt) ∧ w'.cell? ⟨b, off + i * 9 + 4, none⟩ = some (.int .u64 x.non) ∧ w'.cell? ⟨b, off + i * 9 + 5, none⟩ = some (.string x.key) ∧ w'.cell? ⟨b, off + i * 9 + 6, none⟩ = some (.string x.val) ∧ w'.cell? ⟨b, off + i * 9 + 7, none⟩ = some (.slice x.ra x.rs.length x.rc) ∧ w'.cell? ⟨b, off + i * 9 + 8, none⟩ = some (.slice x.wa x.ws.length x.wc)) ∧ (w'.cell? ⟨b, off + k * 9, none⟩ = some (.int .i64 y.kind) ∧ w'.cell? ⟨b, off + k * 9 + 1, none⟩ = some (.string y.frm) ∧ w'.cell? ⟨b, off + k * 9 + 2, none⟩ = some (.string y.dst) ∧ w'.cell? ⟨b, off + k * 9 + 3, none⟩ = some (.int .u64 y.amt) ∧ w'.cell? ⟨b, off + k * 9 + 4, none⟩ = some (.int .u64 y.non) ∧ w'.cell? ⟨b, off + k * 9 + 5, none⟩ = some (.string y.key) ∧ w'.cell? ⟨b, off + k * 9 + 6, none⟩ = some (.string y.val) ∧ w'.cell? ⟨b, off + k * 9 + 7, none⟩ = some (.slice y.ra y.rs.length y.rc) ∧ w'.cell? ⟨b, off + k * 9 + 8, none⟩ = some (.slice y.wa y.ws.length y.wc)) ∧ w'.cell? ⟨g, i, none⟩ = some (.int .i64 (vi : Int)) ∧ w'.cell? ⟨g, k, none⟩ = some (.int .i64 (vk : Int)) := fun w' h => by
                obtain ⟨b1, o1, e1, _, q0, q1, q2, q3, q4, q5, q6, q7, q8, _⟩ := h.row.tx hx
                obtain ⟨b2, o2, e2, _, r0, r1, r2, r3, r4, r5, r6, r7, r8, _⟩ := h.row.tx hy
                simp only [Option.some.injEq, Addr.mk.injEq, and_true] at e1 e2
                obtain ⟨rfl, rfl⟩ := e1
                obtain ⟨rfl, rfl⟩ := e2
                exact ⟨⟨q0, q1, q2, q3, q4, q5, q6, q7, q8⟩, ⟨r0, r1, r2, r3, r4, r5, r6, r7, r8⟩, h.at_ hvi.out, h.at_ hvk⟩
              have hTc := hkp _ hA0
              have hAt : Hid (∀ w', Ap W w' (some ⟨b, off, none⟩) l g gl → TxA.At w' x ∧ TxA.At w' y) := fun w' h => ⟨h.row.at_ x (List.mem_of_getElem? hx), h.row.at_ y (List.mem_of_getElem? hy)⟩
              have cO1 : ∀ w, TxA.At w x → Calls Try.prog 14 #[x.v] w fun e w' => GotOwnA w x e w' := fun w h => ownA_any x w h (by omega) (by omega)
              have cO2 : ∀ w, TxA.At w y → Calls Try.prog 14 #[y.v] w fun e w' => GotOwnA w y e w' := fun w h => ownA_any y w h (by omega) (by omega)
              unfold TxA.v at cO1 cO2
              have hx' : Hid _ := hx
              have hy' : Hid _ := hy
              replace hap : Hid _ := hap
              clear hA hx hy hvk hvkD
              go_wp2_with fail
              rename_i K hK
              replace hK : Hid _ := hK
              go_region_held3 (fun w' => (w'.cell? ⟨b, off + i * 9, none⟩ = some (.int .i64 x.kind) ∧ w'.cell? ⟨b, off + i * 9 + 1, none⟩ = some (.string x.frm) ∧ w'.cell? ⟨b, off + i * 9 + 2, none⟩ = some (.string x.dst) ∧ w'.cell? ⟨b, off + i * 9 + 3, none⟩ = some (.int .u64 x.amt) ∧ w'.cell? ⟨b, off + i * 9 + 4, none⟩ = some (.int .u64 x.non) ∧ w'.cell? ⟨b, off + i * 9 + 5, none⟩ = some (.string x.key) ∧ w'.cell? ⟨b, off + i * 9 + 6, none⟩ = some (.string x.val) ∧ w'.cell? ⟨b, off + i * 9 + 7, none⟩ = some (.slice x.ra x.rs.length x.rc) ∧ w'.cell? ⟨b, off + i * 9 + 8, none⟩ = some (.slice x.wa x.ws.length x.wc)) ∧ (w'.cell? ⟨b, off + k * 9, none⟩ = some (.int .i64 y.kind) ∧ w'.cell? ⟨b, off + k * 9 + 1, none⟩ = some (.string y.frm) ∧ w'.cell? ⟨b, off + k * 9 + 2, none⟩ = some (.string y.dst) ∧ w'.cell? ⟨b, off + k * 9 + 3, none⟩ = some (.int .u64 y.amt) ∧ w'.cell? ⟨b, off + k * 9 + 4, none⟩ = some (.int .u64 y.non) ∧ w'.cell? ⟨b, off + k * 9 + 5, none⟩ = some (.string y.key) ∧ w'.cell? ⟨b, off + k * 9 + 6, none⟩ = some (.string y.val) ∧ w'.cell? ⟨b, off + k * 9 + 7, none⟩ = some (.slice y.ra y.rs.length y.rc) ∧ w'.cell? ⟨b, off + k * 9 + 8, none⟩ = some (.slice y.wa y.ws.length y.wc)) ∧ w'.cell? ⟨g, i, none⟩ = some (.int .i64 (vi : Int)) ∧ w'.cell? ⟨g, k, none⟩ = some (.int .i64 (vk : Int))) (exact hkp _ (by assumption))
                (first
                | (go_at_call 14; refine (cO1 _ (hAt.out _ hA0).1).mono ?_; rintro _ wA ⟨a, rfl, a1, a2, aA, aQ, af, hbA⟩; have hTA := Ap.below hA0 hbA; clear cO1)
                | (go_at_call 14; refine (cO2 _ (hAt.out _ hTA).2).mono ?_; rintro _ wB ⟨c, rfl, b1, b2, bA, bQ, bf, hbB⟩; have hTB := Ap.below hTA hbB; have aB := aA.below hbB)
                | (go_at_call 13; refine (clashA_any a c _ aB bA (by rw [a1]; omega) (by rw [a2]; omega) (by rw [b1]; omega) (by rw [b2]; omega)).mono ?_; rintro _ wC ⟨rfl, hbC⟩; have hTC := Ap.below hTB hbC; rw [rw_eq a1 a2, rw_eq b1 b2, hap.out]))
              all_goals
                refine hK.out _ _ ?_
                clear hTc hkp hAt cO2 hA0 hTA hTB hbA hbB hbC aA aB bA aQ bQ af bf a1 a2 b1 b2
                go_wp2
                go_roundw
                case rel => exact ⟨k + 1, by omega, by go_num, hTC⟩
                case measure => simp [intOf]; omega
          · have g6 : ¬ (k : Int) < (i : Int) := by omega
            clear hvD
            go_wp2
            go_roundw
            case rel => exact ⟨i + 1, by omega, by go_num, hA⟩
            case measure => simp [intOf]; omega
      · have g1 : ¬ (i : Int) < (l.length : Int) := by omega
        have hB := hA.bel
        clear hA hi hil
        go_wp2
        go_ret
        exact ⟨rfl, hB⟩
end Go.Proofs.Ythegadhkhbokkaa
