/- What tuskref04.Has, tuskref20.Clash and tuskref20.Edges do. -/
import Derived.Test.YtkgidmifgfoeiaaAccClash
import Derived.Test.YtkgidmifgfoeiaaTextMath
import Derived.BigQuiet
import Derived.Deep.QuietTactic
namespace Go.Proofs.Ytkgidmifgfoeiaa
open Go Go.RowKit
set_option linter.unusedVariables false

set_option maxRecDepth 100000 in
set_option maxHeartbeats 400000 in
theorem refHasA_any (ao : Option Addr) (cap : Nat) (l : List ByteArray) (v : ByteArray) (w : World) (hc : RowAt textK w ao l) (hn : l.length ≤ 1000000) :
    Calls Try.prog 25 #[.slice ao l.length cap, .string v] w fun e w' => e = .returned (.bool (inK l v)) ∧ w' = w := by
  go_enter Try.func25, Try.ntmps25
  go_wp2
  go_loop [5] (fun u => ∃ k : Nat, k ≤ l.length ∧ u = .int .i64 k ∧ Hid (inK (l.take k) v = false)) (fun u => l.length - (intOf u).toNat)
  case atStart => exact ⟨0, by omega, rfl, rfl⟩
  case round =>
    obtain ⟨k, hk, rfl, hK⟩ := hrel
    by_cases hlt : k < l.length
    · have g1 : (k : Int) < (l.length : Int) := by omega
      obtain ⟨x, hx⟩ : ∃ p, l[k]? = some p := ⟨_, List.getElem?_eq_getElem hlt⟩
      obtain ⟨b, off, rfl, hbl, hcell⟩ := hc.txt hx
      by_cases he : x = v
      · have H : Hid (inK l v = true) := by show _ = _; rw [inK_iff, ← he]; exact List.mem_of_getElem? hx
        have heb : (x.toList == v.toList) = true := by rw [he]; exact beq_self_eq_true _
        clear hK hx
        go_wp2
        go_ret
        exact ⟨by rw [H.out]; rfl, rfl⟩
      · have H : Hid (inK (l.take (k + 1)) v = false) := by
          show _ = _
          rw [List.take_add_one, hx, Option.toList_some, inK_snoc, hK.out, decide_eq_false he]; rfl
        have heb : (x.toList == v.toList) = false := beq_eq_false_iff_ne.2 (fun e => he (bytes_inj e))
        clear hK hx he
        go_wp2
        go_round
        case rel => exact ⟨k + 1, by omega, by go_num, H⟩
        case measure => simp [intOf]; omega
    · have g1 : ¬ (k : Int) < (l.length : Int) := by omega
      have H : Hid (inK l v = false) := by
        have := hK.out
        rw [show k = l.length by omega, List.take_length] at this
        exact this
      clear hK
      go_wp2
      go_ret
      exact ⟨by rw [H.out]; rfl, rfl⟩

set_option maxRecDepth 100000 in
set_option maxHeartbeats 1000000 in
theorem refClash_any (x y : TxA) (w : World) (hA : TxA.At w x) (hB : TxA.At w y) (xr : x.rs.length ≤ 1000000) (xw : x.ws.length ≤ 1000000) (yr : y.rs.length ≤ 1000000) (yw : y.ws.length ≤ 1000000) :
    Calls Try.prog 21 #[x.v, y.v] w fun e w' => e = .returned (.bool (clashB x.rw y.rw)) ∧ Below w.heap.size w w' := by
  obtain ⟨w2, hw2, hX, hY, hb2⟩ := two_newA w x y
  have hxr := hA.rd.below hb2
  have hxw := hA.wr.below hb2
  have hyr := hB.rd.below hb2
  have hyw := hB.wr.below hb2
  obtain ⟨kind, frm, dst, amt, non, key, val, rs, ws, ra, rc, wa, wc⟩ := x
  obtain ⟨kind', frm', dst', amt', non', key', val', rs', ws', ra', rc', wa', wc'⟩ := y
  show Calls _ _ _ _ fun e w' => e = .returned (.bool (ws.any (fun k => inK ws' k || inK rs' k) || ws'.any (fun k => inK rs k))) ∧ _
  replace hw2 : (w.alloc (.cells #[.int .i64 kind, .string frm, .string dst, .int .u64 amt, .int .u64 non, .string key, .string val, .slice ra rs.length rc, .slice wa ws.length wc] 38)).alloc (.cells #[.int .i64 kind', .string frm', .string dst', .int .u64 amt', .int .u64 non', .string key', .string val', .slice ra' rs'.length rc', .slice wa' ws'.length wc'] 38) = w2 := hw2.symm
  replace hxr : RowAt textK w2 ra rs := hxr
  replace hxw : RowAt textK w2 wa ws := hxw
  replace hyr : RowAt textK w2 ra' rs' := hyr
  replace hyw : RowAt textK w2 wa' ws' := hyw
  replace xr : rs.length ≤ 1000000 := xr
  replace xw : ws.length ≤ 1000000 := xw
  replace yr : rs'.length ≤ 1000000 := yr
  replace yw : ws'.length ≤ 1000000 := yw
  have x7 := hX.cell (i := 7) rfl
  have x8 := hX.cell (i := 8) rfl
  have y7 := hY.cell (i := 7) rfl
  have y8 := hY.cell (i := 8) rfl
  clear hA hB
  unfold TxA.v
  go_enter Try.func21, Try.ntmps21
  go_wp2_with fail
  go_loopw [5] (fun v5 wr => ∃ i : Nat, i ≤ ws.length ∧ v5 = .int .i64 (i : Int) ∧ Hid ((ws.take i).any (fun k => inK ws' k || inK rs' k) = false) ∧ Below w2.heap.size w2 wr) (fun v _ => ws.length - (intOf v).toNat)
  case atStart => exact ⟨0, Nat.zero_le _, rfl, rfl, Below.refl _ _⟩
  case round =>
    obtain ⟨i, hi, rfl, hno, hbd⟩ := hrel
    have hXr := hX.below hbd hX.lt
    have hYr := hY.below hbd hY.lt
    have x7 := hXr.cell (i := 7) rfl
    have x8 := hXr.cell (i := 8) rfl
    have y7 := hYr.cell (i := 7) rfl
    have y8 := hYr.cell (i := 8) rfl
    by_cases hil : i < ws.length
    · have g1 : (i : Int) < (ws.length : Int) := by omega
      obtain ⟨z, hz⟩ : ∃ p, ws[i]? = some p := ⟨_, List.getElem?_eq_getElem hil⟩
      obtain ⟨b, off, rfl, hbl, hcell⟩ := (hxw.below hbd).txt hz
      have hrow1 := hyw.below hbd
      have hrow2 := hyr.below hbd
      have cW := fun n => refHasA_any wa' wc' ws' z (wr.drewN n) (hrow1.below (below_drewN (Below.refl _ _) n)) yw
      have cR := fun n => refHasA_any ra' rc' rs' z (wr.drewN n) (hrow2.below (below_drewN (Below.refl _ _) n)) yr
      cases h1 : inK ws' z with
      | true =>
        have hres : Hid (ws.any (fun k => inK ws' k || inK rs' k) = true) := any_hit hz (by rw [h1]; rfl)
        rw [h1] at cW
        clear hno hz
        go_wp2_with fail
        go_quiet (exact Calls.quiet_of_same (cW _))
        go_wp2
        go_ret
        exact ⟨by rw [hres.out]; rfl, hb2.trans ((below_drewN hbd _).mono hb2.size)⟩
      | false =>
        cases h2 : inK rs' z with
        | true =>
          have hres : Hid (ws.any (fun k => inK ws' k || inK rs' k) = true) := any_hit hz (by rw [h1, h2]; rfl)
          rw [h1] at cW
          rw [h2] at cR
          clear hno hz
          go_wp2_with fail
          go_quiet (first | with_reducible exact Calls.quiet_of_same (cW _) | with_reducible exact Calls.quiet_of_same (cR _))
          go_wp2
          go_ret
          exact ⟨by rw [hres.out]; rfl, hb2.trans ((below_drewN hbd _).mono hb2.size)⟩
        | false =>
          have hno' : Hid ((ws.take (i + 1)).any (fun k => inK ws' k || inK rs' k) = false) := take_any hz hno.out (by rw [h1, h2]; rfl)
          rw [h1] at cW
          rw [h2] at cR
          clear hno hz
          go_wp2_with fail
          go_quiet (first | with_reducible exact Calls.quiet_of_same (cW _) | with_reducible exact Calls.quiet_of_same (cR _))
          go_wp2
          go_roundw
          case rel => exact ⟨i + 1, by omega, by go_num, hno', below_drewN hbd _⟩
          case measure => simp [intOf]; omega
    · have g1 : ¬ (i : Int) < (ws.length : Int) := by omega
      have hN : Hid (ws.any (fun k => inK ws' k || inK rs' k) = false) := by
        have := hno.out
        rw [show i = ws.length by omega, List.take_length] at this
        exact this
      clear hno hi hil
      go_wp2_with fail
      go_loopw [6] (fun v6 W2 => ∃ i : Nat, i ≤ ws'.length ∧ v6 = .int .i64 (i : Int) ∧ Hid ((ws'.take i).any (fun k => inK rs k) = false) ∧ Below w2.heap.size w2 W2) (fun v _ => ws'.length - (intOf v).toNat)
      case atStart => exact ⟨0, Nat.zero_le _, rfl, rfl, hbd⟩
      case round =>
        clear hbd hXr hYr x7 x8 y7 y8
        obtain ⟨i, hi, rfl, hno, hbd⟩ := hrel
        have hXr := hX.below hbd hX.lt
        have hYr := hY.below hbd hY.lt
        have x7 := hXr.cell (i := 7) rfl
        have y8 := hYr.cell (i := 8) rfl
        by_cases hil : i < ws'.length
        · have g1 : (i : Int) < (ws'.length : Int) := by omega
          obtain ⟨z, hz⟩ : ∃ p, ws'[i]? = some p := ⟨_, List.getElem?_eq_getElem hil⟩
          obtain ⟨b, off, rfl, hbl, hcell⟩ := (hyw.below hbd).txt hz
          have hrow1 := hxr.below hbd
          have cX := fun n => refHasA_any ra rc rs z (wr.drewN n) (hrow1.below (below_drewN (Below.refl _ _) n)) xr
          cases h1 : inK rs z with
          | true =>
            have hres : Hid (ws'.any (fun k => inK rs k) = true) := any_hit hz h1
            rw [h1] at cX
            clear hno hz
            go_wp2_with fail
            go_quiet (exact Calls.quiet_of_same (cX _))
            go_wp2
            go_ret
            exact ⟨by rw [hres.out, Bool.or_true]; rfl, hb2.trans ((below_drewN hbd _).mono hb2.size)⟩
          | false =>
            have hno' : Hid ((ws'.take (i + 1)).any (fun k => inK rs k) = false) := take_any hz hno.out h1
            rw [h1] at cX
            clear hno hz
            go_wp2_with fail
            go_quiet (exact Calls.quiet_of_same (cX _))
            go_wp2
            go_roundw
            case rel => exact ⟨i + 1, by omega, by go_num, hno', below_drewN hbd _⟩
            case measure => simp [intOf]; omega
        · have g1 : ¬ (i : Int) < (ws'.length : Int) := by omega
          have hN2 : Hid (ws'.any (fun k => inK rs k) = false) := by
            have := hno.out
            rw [show i = ws'.length by omega, List.take_length] at this
            exact this
          clear hno hi hil
          go_wp2
          go_ret
          exact ⟨by rw [hN.out, hN2.out]; rfl, hb2.trans (hbd.mono hb2.size)⟩
end Go.Proofs.Ytkgidmifgfoeiaa
