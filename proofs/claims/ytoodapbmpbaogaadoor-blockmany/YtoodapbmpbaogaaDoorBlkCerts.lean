/- What block.checkCerts does: a map counts the marks; nothing old in memory is turned. -/
import Derived.Test.YtoodapbmpbaogaaDoorBlkMark
import Derived.Test.YtoodapbmpbaogaaDoorBlkRows
import Derived.Maps.OwnSet
import Derived.Maps.OwnOps
namespace Go.Proofs.YtoodapbmpbaogaaDoor
open Go.RowKit Go.Maps
set_option linter.unusedVariables false

theorem lawStr : Keyed Tryd.prog 9 := string_keyed Tryd.underlying9

/-- The map counts the texts that were seen. -/
def CntMap (D : DataW Unit) (seen : List ByteArray) : Prop := ∀ s : ByteArray, D.atKey (.string s.data.toList) (.lit (.int .i64 0)) = .lit (.int .i64 (if hasB seen s = true then 1 else 0))

theorem cnt_nil : CntMap (.map []) [] := fun s => rfl

theorem hasB_snoc (l : List ByteArray) (m s : ByteArray) : hasB (l ++ [m]) s = (hasB l s || m.data.toList == s.data.toList) := by simp [hasB]

theorem CntMap.put {D : DataW Unit} {seen : List ByteArray} (h : CntMap D seen) (hT : Tidy D) {m : ByteArray} (hm : hasB seen m = false) : CntMap (D.put (.string m.data.toList) (.lit (.int .i64 1))) (seen ++ [m]) := by
  intro s
  by_cases e : s.data.toList = m.data.toList
  · rw [e, atKey_put_same hT.isMap (show WideAt.IsKeyLit (.string m.data.toList) from trivial), hasB_snoc, e]
    simp
  · rw [atKey_put_other (by simpa using e), h s, hasB_snoc]
    have : (m.data.toList == s.data.toList) = false := by rw [beq_eq_false_iff_ne]; exact fun h => e h.symm
    rw [this, Bool.or_false]

set_option maxRecDepth 100000 in
set_option maxHeartbeats 2000000 in
theorem checkCerts_any (ao : Option Addr) (cap : Nat) (l : List ByteArray) (w : World) (hA : RowAt strK w ao l) (hn : l.length ≤ 1000) :
    Calls Tryd.prog 44 #[.slice ao l.length cap] w fun e w' => e = .returned (.int .i64 (certsP [] l : Int)) ∧ Below w.heap.size w w' := by
  obtain ⟨out, hout⟩ : ∃ q, Hid (q = certsP [] l) := ⟨_, rfl⟩
  rw [← hout.out]
  have H0 : Hid (out = certsP (l.take 0) (l.drop 0)) := hout.out
  have hmm := @run_makeMap Tryd.prog
  have hM := World.ownsMap_made (H := Unit) w Tryd.prog 9 (plainElem Tryd.prog 3)
  have hB := belowNew w (.map #[] 0)
  clear hout
  go_enter Tryd.func44, Tryd.ntmps44
  go_wp2
  clear hmm
  go_loopw [5, 6, 7, 8, 12] (fun _ _ _ _ v12 wr => ∃ (k : Nat) (D : DataW Unit), k ≤ l.length ∧ v12 = .int .i64 (k : Int) ∧ wr.ownsMap Tryd.prog 9 (plainElem Tryd.prog 3) w.heap.size k D ∧ CntMap D (l.take k) ∧ Below w.heap.size w wr ∧ Hid (out = certsP (l.take k) (l.drop k))) (fun _ _ _ _ v _ => l.length - (intOf v).toNat)
  case atStart => exact ⟨0, _, Nat.zero_le _, rfl, hM, cnt_nil, hB, H0⟩
  case round =>
    clear hM hB H0
    obtain ⟨k, D, hk, rfl, hM, hC, hB, H⟩ := hrel
    by_cases hlt : k < l.length
    · obtain ⟨m, hm⟩ : ∃ m, l[k]? = some m := ⟨l[k], List.getElem?_eq_getElem hlt⟩
      obtain ⟨b, off, rfl, hbl, hc⟩ := (hA.below hB).cell k m hm
      have c0 := hc 0 (.string m) rfl
      have e0 : off + k * strK.n + 0 = off + k := by show off + k * 1 + 0 = _; omega
      rw [e0] at c0
      have hst := H.out.trans (certsP_at hm)
      have Hm : Hid (l[k]? = some m) := hm
      clear hm hc H e0
      have cU := unmark_any m wr
      by_cases h1 : isMark m
      · rw [decide_eq_true h1] at cU
        rw [if_neg (fun h => h h1)] at hst
        generalize unR m = ur at cU
        generalize unI m = ui at cU
        have hm40 : m.size ≤ maxLen := by rw [h1.1]; unfold maxLen; omega
        have hkey : keyOf Tryd.prog 9 (.string m) = some (.string m.data.toList) := Go.WideMaps.keyOf_string_mk Tryd.underlying9 hm40
        have hat := hC m
        have hTd := hM.tidy lawStr
        by_cases h2 : hasB (l.take k) m = true
        · rw [if_pos h2] at hst hat
          have Hst : Hid (out = 13) := hst
          clear hst
          go_wp2_with fail
          refine cU.mono ?_
          rintro e w1 ⟨rfl, hb1⟩
          have hM1 := hM.kept (row := none) ⟨hb1.os, hb1.tape, hb1.output, hb1.size, fun i hi _ => hb1.block i hi⟩ (by simp)
          have hB1 := hB.trans (hb1.mono hB.size)
          have hz0 : (zeroValue 3).run Tryd.prog w1 = .ok (.int .i64 0) w1 := Tryd.zeroValue3 w1
          clear cU hM hB hb1 c0
          go_wp2_with (first | (at_lookup; refine wpList_lookup_own_int _ rfl _ _ 118 rfl 9 3 .i64 lawStr Tryd.underlying118 Tryd.underlying3 hz0 w.heap.size k D rfl hM1 _ _ rfl hkey ?_; intro c hac hwc; rw [hat] at hac; simp only [DataW.lit.injEq, Lit.int.injEq, true_and] at hac; subst hac))
          go_ret
          exact ⟨by rw [Hst.out]; rfl, hB1⟩
        · rw [if_neg h2] at hst hat
          have h2f : hasB (l.take k) m = false := by simpa using h2
          have hC2 := hC.put hTd h2f
          have e1 : l.take k ++ [m] = l.take (k + 1) := by
            obtain ⟨h, rfl⟩ := List.getElem?_eq_some_iff.1 Hm.out
            exact List.take_append_getElem h
          rw [e1] at hC2
          have Hst : Hid (out = _) := hst
          clear hst e1
          go_wp2_with fail
          refine cU.mono ?_
          rintro e w1 ⟨rfl, hb1⟩
          have hM1 := hM.kept (row := none) ⟨hb1.os, hb1.tape, hb1.output, hb1.size, fun i hi _ => hb1.block i hi⟩ (by simp)
          have hB1 := hB.trans (hb1.mono hB.size)
          have hz0 : (zeroValue 3).run Tryd.prog w1 = .ok (.int .i64 0) w1 := Tryd.zeroValue3 w1
          clear cU hM hB hb1 c0
          go_wp2_with (first | (at_lookup; refine wpList_lookup_own_int _ rfl _ _ 118 rfl 9 3 .i64 lawStr Tryd.underlying118 Tryd.underlying3 hz0 w.heap.size k D rfl hM1 _ _ rfl hkey ?_; intro c hac hwc; rw [hat] at hac; simp only [DataW.lit.injEq, Lit.int.injEq, true_and] at hac; subst hac) | (at_mapUpdate; refine wpList_mapUpdate_own _ rfl _ _ _ 118 rfl 9 3 lawStr Tryd.underlying118 _ w.heap.size k _ rfl hM1 (by unfold maxLen; omega) _ _ _ rfl rfl hkey _ [] (plainElem_int Tryd.underlying3 (by decide)) ?_))
          intro w2 hM2 hg2
          have hB2 := hB1.grown hg2 hB1.size (fun q hq => by have hq' : w.heap.size = q := by simpa using hq
                                                             omega)
          clear hM1 hB1 hg2 hz0 hat hkey
          go_wp2
          go_roundw
          case rel => exact ⟨k + 1, _, by omega, by go_num, hM2, hC2, hB2, Hst⟩
          case measure => simp [intOf]; omega
      · rw [decide_eq_false h1] at cU
        rw [if_pos h1] at hst
        have Hst : Hid (out = 3) := hst
        generalize unR m = ur at cU
        generalize unI m = ui at cU
        clear hst
        go_wp2_with fail
        refine cU.mono ?_
        rintro e w1 ⟨rfl, hb1⟩
        have hB1 := hB.trans (hb1.mono hB.size)
        go_wp2
        go_ret
        exact ⟨by rw [Hst.out]; rfl, hB1⟩
    · have hke : k = l.length := by omega
      have hf : Hid (out = 0) := by
        have := H.out
        rw [hke, List.drop_length] at this
        exact this
      go_wp2
      go_ret
      exact ⟨by rw [hf.out]; rfl, hB⟩
end Go.Proofs.YtoodapbmpbaogaaDoor
