/- FetchLine: the walk. -/
import Derived.Test.YtblpkfnhfdkacaaFetOne
import Derived.Test.YtblpkfnhfdkacaaFetLine
import Derived.Test.YtblpkfnhfdkacaaFetOpen
namespace Go.Proofs.Ytblpkfnhfdkacaa
open Go Go.RowKit
set_option linter.unusedVariables false

/-- What stands in the line: so many came, so many went. -/
def stoodL (l : List ByteArray) (i n : Nat) : List ByteArray := (l.take i).drop n

theorem stood_push {l : List ByteArray} {i n : Nat} {x : ByteArray} (hx : l[i]? = some x) (hn : n ≤ i) : stoodL l i n ++ [x] = stoodL l (i + 1) n := by
  have hi := (List.getElem?_eq_some_iff.1 hx).1
  unfold stoodL
  rw [List.take_add_one, hx, List.drop_append_of_le_length (by rw [List.length_take]; omega)]
  rfl

theorem stood_len {l : List ByteArray} {i n : Nat} (hi : i ≤ l.length) : (stoodL l i n).length = i - n := by
  unfold stoodL
  rw [List.length_drop, List.length_take]
  omega

theorem stood_next {l : List ByteArray} {i n : Nat} (hi : i ≤ l.length) (hn : n < i) : ∃ x, l[n]? = some x ∧ stoodL l i n = x :: stoodL l i (n + 1) := by
  have hx : l[n]? = some l[n] := List.getElem?_eq_getElem (by omega)
  refine ⟨l[n], hx, ?_⟩
  unfold stoodL
  rw [List.drop_eq_getElem_cons (by rw [List.length_take]; omega)]
  simp

set_option maxRecDepth 100000 in
set_option maxHeartbeats 4000000 in
theorem fetchLine_walk (ao : Option Addr) (cap : Nat) (l : List ByteArray) (bo : Option Addr) (bc : Nat) (T : List Bool) (W : World) (hL : RowAt textK W ao l) (hl : l.length ≤ maxLen) (hT : RowAt boolK W bo T) (ht : T.length ≤ maxLen) :
    Calls Try.prog 5 #[.slice ao l.length cap, .slice bo T.length bc] W fun e w' => e = .returned (.bool true) ∧ Below W.heap.size W w' := by
  have hl' : l.length ≤ 9223372036854775807 := by unfold maxLen at hl; omega
  have ht' : T.length ≤ 9223372036854775807 := by unfold maxLen at ht; omega
  clear hl ht
  have cW := works19_any W
  go_enter Try.func5, Try.ntmps5
  go_wp2_with fail
  refine cW.mono ?_
  rintro e w0 ⟨rfl, hb0⟩
  clear cW
  have cN := lnNew_any W w0 hb0
  go_wp2_with fail
  refine cN.mono ?_
  rintro e w1 ⟨rfl, hQ1⟩
  clear cN
  generalize w0.heap.size = lb at *
  go_wp2_with fail
  go_loopw [6, 7] (fun v6 v7 wr => ∃ i n : Nat, n ≤ i ∧ i ≤ l.length ∧ i ≤ 100 ∧ v6 = .int .i64 (n : Int) ∧ v7 = .int .i64 (i : Int) ∧ LnAt W wr lb (stoodL l i n)) (fun _ v _ => l.length - (intOf v).toNat)
  case atStart => exact ⟨0, 0, Nat.le_refl _, Nat.zero_le _, by omega, rfl, rfl, hQ1⟩
  case round =>
    obtain ⟨i, n, hni, hil, hi1, rfl, rfl, hQ⟩ := hrel
    clear hQ1
    by_cases hlt : i < l.length ∧ i < 100
    · obtain ⟨hlt, h100⟩ := hlt
      have g1 : (i : Int) < (l.length : Int) := by omega
      have g2 : (i : Int) < 100 := by omega
      obtain ⟨x, hx⟩ : ∃ x, l[i]? = some x := ⟨_, List.getElem?_eq_getElem hlt⟩
      obtain ⟨b, off, rfl, _, y0⟩ := (hL.below hQ.bel).text19 hx
      have cP := lnPush_any x hQ (by rw [stood_len hil]; omega)
      rw [stood_push hx hni] at cP
      by_cases hiT : i < T.length
      · have g3 : ¬ (T.length : Int) ≤ (i : Int) := by omega
        obtain ⟨t, htx⟩ : ∃ t, T[i]? = some t := ⟨_, List.getElem?_eq_getElem hiT⟩
        obtain ⟨z, hz, hst⟩ := stood_next (l := l) (i := i + 1) (n := n) (by omega) (by omega)
        have hrl : (stoodL l (i + 1) (n + 1)).length = i - n := by rw [stood_len (by omega)]; omega
        go_wp2_with fail
        refine cP.mono ?_
        rintro e w2 ⟨rfl, hQ2⟩
        obtain ⟨b2, off2, rfl, _, y1⟩ := (hT.below hQ2.bel).bool htx
        obtain ⟨b3, off3, e3, _, y2⟩ := (hL.below hQ2.bel).text19 hz
        simp only [Option.some.injEq, Addr.mk.injEq, and_true] at e3
        obtain ⟨rfl, rfl⟩ := e3
        have hQ2' := hQ2
        rw [hst] at hQ2'
        clear cP y0 hQ
        cases t with
        | true =>
          have cX := lnNext_yes hQ2' (by rw [hrl]; omega)
          go_wp2_with fail
          refine cX.mono ?_
          rintro e w3 ⟨rfl, hQ3⟩
          obtain ⟨b2', off2', e2', _, y3⟩ := (hT.below hQ3.bel).bool htx
          simp only [Option.some.injEq, Addr.mk.injEq, and_true] at e2'
          obtain ⟨rfl, rfl⟩ := e2'
          obtain ⟨b3, off3, e3, _, y4⟩ := (hL.below hQ3.bel).text19 hz
          simp only [Option.some.injEq, Addr.mk.injEq, and_true] at e3
          obtain ⟨rfl, rfl⟩ := e3
          have cL := lnLen_any hQ3 (by rw [hrl]; omega)
          rw [hrl] at cL
          have g4 : (n : Int) < (l.length : Int) := by omega
          have g5 : ((i - n : Nat) : Int) = (i : Int) + 1 - ((n : Int) + 1) := by omega
          clear cX y1 y2 hQ2 hQ2'
          go_wp2_with fail
          refine cL.mono ?_
          rintro e w4 ⟨rfl, rfl⟩
          rw [g5]
          clear cL y3 y4
          go_wp2
          go_roundw
          case rel => exact ⟨i + 1, n + 1, by omega, by omega, by omega, by go_num, by go_num, hQ3⟩
          case measure => simp [intOf]; omega
        | false =>
          have cX := lnNext_no hQ2' (by rw [hrl]; omega)
          have cL := lnLen_any hQ2 (by rw [stood_len (by omega)]; omega)
          rw [stood_len (by omega)] at cL
          have g5 : ((i + 1 - n : Nat) : Int) = (i : Int) + 1 - (n : Int) := by omega
          go_wp2_with fail
          refine cX.mono ?_
          rintro e w3 ⟨rfl, rfl⟩
          clear cX
          go_wp2_with fail
          refine cL.mono ?_
          rintro e w4 ⟨rfl, rfl⟩
          rw [g5]
          clear cL y1 y2
          go_wp2
          go_roundw
          case rel => exact ⟨i + 1, n, by omega, by omega, by omega, by go_num, by go_num, hQ2⟩
          case measure => simp [intOf]; omega
      · have g3 : (T.length : Int) ≤ (i : Int) := by omega
        go_wp2_with fail
        refine cP.mono ?_
        rintro e w2 ⟨rfl, hQ2⟩
        clear cP y0
        go_wp2
        go_roundw
        case rel => exact ⟨i + 1, n, by omega, by omega, by omega, by go_num, by go_num, hQ2⟩
        case measure => simp [intOf]; omega
    · have hg : ¬ (i : Int) < (l.length : Int) ∨ ((i : Int) < (l.length : Int) ∧ ¬ (i : Int) < 100) := by omega
      rcases hg with g1 | ⟨g1, g2⟩
      all_goals
        go_wp2_with fail
        go_loopw [6] (fun v6 wz => ∃ n : Nat, n ≤ i ∧ v6 = .int .i64 (n : Int) ∧ LnAt W wz lb (stoodL l i n)) (fun v _ => i - (intOf v).toNat)
        case atStart => exact ⟨n, hni, rfl, hQ⟩
        case round =>
          obtain ⟨n', hn', rfl, hQ'⟩ := hrel
          clear hQ
          have cL := lnLen_any hQ' (by rw [stood_len hil]; omega)
          rw [stood_len hil] at cL
          by_cases hlt' : n' < i
          · obtain ⟨z, hz, hst⟩ := stood_next (l := l) (i := i) (n := n') hil hlt'
            have hQ2 := hQ'
            rw [hst] at hQ2
            have cX := lnNext_yes hQ2 (by rw [stood_len hil]; omega)
            have g3 : (0 : Int) < ((i - n' : Nat) : Int) := by omega
            have g4 : ¬ (l.length : Int) ≤ (n' : Int) := by omega
            have g5 : (n' : Int) < (l.length : Int) := by omega
            go_wp2_with fail
            refine cL.mono ?_
            rintro e w4 ⟨rfl, rfl⟩
            clear cL
            go_wp2_with fail
            refine cX.mono ?_
            rintro e w5 ⟨rfl, hQ5⟩
            obtain ⟨b3, off3, rfl, _, y4⟩ := (hL.below hQ5.bel).text19 hz
            clear cX
            go_wp2
            go_roundw
            case rel => exact ⟨n' + 1, by omega, by go_num, hQ5⟩
            case measure => simp [intOf]; omega
          · obtain rfl : n' = i := by omega
            have hnil : stoodL l n' n' = [] := List.length_eq_zero_iff.1 (by rw [stood_len hil]; omega)
            rw [Nat.sub_self] at cL
            rw [hnil] at hQ'
            have cX := lnNext_nil hQ'
            have hbF := hQ'.bel
            go_wp2_with fail
            refine cL.mono ?_
            rintro e w4 ⟨rfl, rfl⟩
            clear cL
            go_wp2_with fail
            refine cX.mono ?_
            rintro e w5 ⟨rfl, rfl⟩
            clear cX hQ'
            go_wp2
            all_goals
              go_ret
              exact ⟨congrArg (fun b => Ending.returned (.bool b)) (beq_iff_eq.2 (by omega)), hbF⟩
end Go.Proofs.Ytblpkfnhfdkacaa
