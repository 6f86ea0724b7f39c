/- tusklaw01.WireJoins answers true at every two lists; nothing old in memory is turned. -/
import Derived.Test.YtkjbaahoalcfbabWireCutsWalk
import Derived.Deep.QuietTactic
import Derived.BigQuiet
namespace Go.Proofs.Ytkjbaahoalcfbab
open Go.RowKit

theorem own_strs {w : World} {B : Nat} {ao : Option Addr} {n cap : Nat} {ss : List ByteArray} (h : w.ownsRow B 9 1 (.slice ao n cap) n ((bl ss).map strVal)) (hn : n = ss.length) : StrsAt w ao ss := by
  subst hn
  intro j hj
  rcases h.2 with ⟨hv, h0⟩ | ⟨g, cap', cur, hv, hb, hg, _⟩
  · omega
  · simp at hv
    obtain ⟨rfl, _⟩ := hv
    refine ⟨g, 0, rfl, (Array.getElem?_eq_some_iff.1 hg).1, ?_⟩
    have := h.cells (g := g) rfl j (.string ss[j]) (by simp [bl, strVal, List.getElem?_eq_getElem hj])
    rw [Go.WideShapes.add_plain] at this
    exact this

theorem StrsAt.drewN {w : World} {ao : Option Addr} {ss : List ByteArray} (h : StrsAt w ao ss) (n : Nat) : StrsAt (w.drewN n) ao ss :=
  h.below (below_drewN (Below.refl _ _) n)

set_option maxRecDepth 100000 in
set_option maxHeartbeats 1000000 in
theorem joins_out (a0 a1 : Option Addr) (c0 c1 : Nat) (sa sb : List ByteArray) (w : World) (hr : sa.length * 16 ≤ 140737488351232) (hr1 : sb.length * 16 ≤ 140737488351232) (h : 200 < sa.length + sb.length) :
    Calls Try.prog 6 #[.slice a0 sa.length c0, .slice a1 sb.length c1] w fun e w' => e = .returned (.bool true) ∧ Below w.heap.size w w' := by
  go_enter Try.func6, Try.ntmps6
  go_wp2_with (go_at_call 7; refine (works_any _).mono ?_; rintro e w1 ⟨rfl, hb⟩)
  go_ret
  exact ⟨rfl, hb⟩

set_option maxRecDepth 100000 in
set_option maxHeartbeats 2000000 in
theorem joins_in (a0 a1 : Option Addr) (c0 c1 : Nat) (sa sb : List ByteArray) (w : World) (hc0 : StrsAt w a0 sa) (hc1 : StrsAt w a1 sb) (h : sa.length + sb.length ≤ 200) :
    Calls Try.prog 6 #[.slice a0 sa.length c0, .slice a1 sb.length c1] w fun e w' => e = .returned (.bool true) ∧ Below w.heap.size w w' := by
  go_enter Try.func6, Try.ntmps6
  go_wp2_with (first | (go_at_call 7; refine (works_any _).mono ?_; rintro e w1 ⟨rfl, hw1⟩) | fail)
  have hd0 := hc0.below hw1
  have hd1 := hc1.below hw1
  clear hc0 hc1
  go_loop [5] (fun i => ∃ k : Nat, k ≤ sa.length + sb.length ∧ i = .int .i64 k ∧ Hid ((∀ j (hj : j < sa.length), j < k → sa[j].size ≤ 65536) ∧ ∀ j (hj : j < sb.length), sa.length + j < k → sb[j].size ≤ 65536)) (fun i => sa.length + sb.length - (intOf i).toNat)
  case atStart => exact ⟨0, Nat.zero_le _, rfl, fun j _ hj => absurd hj (by omega), fun j _ hj => absurd hj (by omega)⟩
  case round =>
    obtain ⟨k, hk, rfl, hsm⟩ := hrel
    by_cases hlt : k < sa.length + sb.length
    · by_cases hla : k < sa.length
      · obtain ⟨b, off, rfl, hbl, hcell⟩ := hd0 k hla
        have hsm1 : sa[k].size ≤ 65536 → Hid ((∀ j (hj : j < sa.length), j < k + 1 → sa[j].size ≤ 65536) ∧ ∀ j (hj : j < sb.length), sa.length + j < k + 1 → sb[j].size ≤ 65536) := by
          intro h
          refine ⟨fun j hj hjk => ?_, fun j hj hjk => by omega⟩
          by_cases e : j = k
          · subst e; exact h
          · exact hsm.out.1 j hj (by omega)
        by_cases hz : 65536 < sa[k].size
        · go_wp2
          go_ret
          exact ⟨rfl, hw1⟩
        · have hsm2 := hsm1 (by omega)
          clear hsm1 hsm
          go_wp2
          go_round
          case rel => exact ⟨k + 1, by omega, by go_num, hsm2⟩
          case measure => simp [intOf]; omega
      · obtain ⟨j0, hj0⟩ : ∃ j0, k = sa.length + j0 := ⟨k - sa.length, by omega⟩
        have hjb : j0 < sb.length := by omega
        obtain ⟨b, off, rfl, hbl, hcell⟩ := hd1 j0 hjb
        have hsub : (k : Int) - (sa.length : Int) = (j0 : Int) := by omega
        have hsm1 : sb[j0].size ≤ 65536 → Hid ((∀ j (hj : j < sa.length), j < k + 1 → sa[j].size ≤ 65536) ∧ ∀ j (hj : j < sb.length), sa.length + j < k + 1 → sb[j].size ≤ 65536) := by
          intro h
          refine ⟨fun j hj hjk => hsm.out.1 j hj (by omega), fun j hj hjk => ?_⟩
          by_cases e : j = j0
          · subst e; exact h
          · exact hsm.out.2 j hj (by omega)
        have Hj0 : Hid (k = sa.length + j0) := hj0
        clear hj0
        by_cases hz : 65536 < sb[j0].size
        · go_wp2
          go_ret
          exact ⟨rfl, hw1⟩
        · have hsm2 := hsm1 (by omega)
          clear hsm1 hsm
          go_wp2
          go_round
          case rel => exact ⟨k + 1, by omega, by go_num, hsm2⟩
          case measure => simp [intOf]; omega
    · have hza : ∀ j (hj : j < sa.length), sa[j].size ≤ 65536 := fun j hj => hsm.out.1 j hj (by omega)
      have hzb : ∀ j (hj : j < sb.length), sb[j].size ≤ 65536 := fun j hj => hsm.out.2 j hj (by omega)
      have hba := bl_mem hza
      have hbb := bl_mem hzb
      have hla : (bl sa).length = sa.length := by simp [bl]
      have hlb : (bl sb).length = sb.length := by simp [bl]
      have ga : Hid (getList (lst (bl sa) ++ lst (bl sb)) 200 = (bl sa, (lst (bl sa)).length, 0)) := getList_lst (bl sa) (lst (bl sb)) 200 hba (by omega) (by omega)
      have gb : Hid (getList (lst (bl sb)) 200 = (bl sb, (lst (bl sb)).length, 0)) := by
        have := getList_lst (bl sb) [] 200 hbb (by omega) (by omega)
        show _ = _
        simpa using this
      have La : Hid ((lst (bl sa)).length ≤ 14000000) := by
        show _ ≤ _
        have h1 := lst_le (bl sa) 65536 hba
        have h2 : (bl sa).length * (65536 + 9) ≤ 200 * (65536 + 9) := Nat.mul_le_mul_right _ (by omega)
        omega
      have Lb : Hid ((lst (bl sb)).length ≤ 14000000) := by
        show _ ≤ _
        have h1 := lst_le (bl sb) 65536 hbb
        have h2 : (bl sb).length * (65536 + 9) ≤ 200 * (65536 + 9) := Nat.mul_le_mul_right _ (by omega)
        omega
      have Hla : Hid ((bl sa).length = sa.length) := hla
      have Hlb : Hid ((bl sb).length = sb.length) := hlb
      clear hsm hza hzb hba hbb hla hlb
      go_wp2_with fail
      refine (list_any _ _ sa _ hd0 (by have := La.out; omega) (by omega)).mono ?_
      rintro e w2 ⟨rfl, hw2⟩
      have hwa := hw1.trans (hw2.mono hw1.size)
      have he0 := hd0.below hw2
      have he1 := hd1.below hw2
      clear hw1 hw2 hd0 hd1
      go_wp2_with fail
      refine (list_any _ _ sb _ he1 (by have := Lb.out; omega) (by omega)).mono ?_
      rintro e w3 ⟨rfl, hw3⟩
      have hwb := hwa.trans (hw3.mono hwa.size)
      have hf0 := he0.below hw3
      have hf1 := he1.below hw3
      clear hwa hw3 he0 he1
      have ra := La.out
      have rb := Lb.out
      obtain ⟨sj, hsj⟩ : ∃ sj : ByteArray, (⟨(lst (bl sa)).toArray⟩ ++ ⟨(lst (bl sb)).toArray⟩ : ByteArray) = sj := ⟨_, rfl⟩
      have hdj : sj.data.toList = lst (bl sa) ++ lst (bl sb) := by
        rw [← hsj, ByteArray.mk_append_mk]
      have hzj : sj.size = (lst (bl sa)).length + (lst (bl sb)).length := by
        have e : sj.data.toList.length = sj.size := by simp
        rw [← e, hdj, List.length_append]
      have hga : Hid (getList sj.data.toList 200 = (bl sa, (lst (bl sa)).length, 0)) := by
        show _ = _
        rw [hdj]; exact ga.out
      have hgb : Hid (getList (sj.extract (lst (bl sa)).length sj.size).data.toList 200 = (bl sb, (lst (bl sb)).length, 0)) := by
        show _ = _
        rw [extract_drop, hdj, List.drop_left]; exact gb.out
      clear ga gb hdj La Lb
      have Hzj : Hid (sj.size = (lst (bl sa)).length + (lst (bl sb)).length) := hzj
      clear hzj
      go_wp2_with fail
      have Hna : Hid (∃ na, (lst (bl sa)).length = na) := ⟨_, rfl⟩
      obtain ⟨na, hna⟩ := Hna.out
      obtain ⟨nb, hnb⟩ : ∃ nb, (lst (bl sb)).length = nb := ⟨_, rfl⟩
      have hzz := Hzj.out
      rw [hna, hnb] at hzz
      rw [hna] at hga hgb ra
      rw [hnb] at hgb rb
      have hz1 : sj.size ≤ na + nb := by omega
      have hz2 : na + nb ≤ sj.size := by omega
      have sz1 : Hid (sj.size ≤ maxLen) := by show _ ≤ _; unfold maxLen; omega
      have sz2 : Hid ((sj.extract na sj.size).size ≤ maxLen) := by show _ ≤ _; rw [ByteArray.size_extract]; unfold maxLen; omega
      clear hna hnb hzz Hna Hzj hsj
      refine (getList_any _ _ _ 200 sz1.out (Or.inr (by omega)) (by omega)).mono ?_
      rintro e w4 ⟨v, rfl, hgot, hw4⟩
      rw [hga.out] at hgot
      obtain ⟨ax, cx, rfl, hox⟩ := hgot
      have hwc := hwb.trans (hw4.mono hwb.size)
      have hg0 := hf0.below hw4
      have hg1 := hf1.below hw4
      have hx0 := own_strs hox Hla.out
      rw [Hla.out]
      clear hwb hw4 hf0 hf1 hox hga
      go_wp2_with fail
      refine (getList_any _ _ _ 200 sz2.out (Or.inr (by omega)) (by omega)).mono ?_
      rintro e w5 ⟨v, rfl, hgot, hw5⟩
      rw [hgb.out] at hgot
      obtain ⟨ay, cy, rfl, hoy⟩ := hgot
      have hwd := hwc.trans (hw5.mono hwc.size)
      have hh0 := hg0.below hw5
      have hh1 := hg1.below hw5
      have hxx := hx0.below hw5
      have hyy := own_strs hoy Hlb.out
      rw [Hlb.out]
      clear hwc hw5 hg0 hg1 hoy hgb hx0
      go_wp2_with fail
      go_loopw [13] (fun i wr => ∃ m : Nat, m ≤ sa.length ∧ i = .int .i64 m ∧ Below w.heap.size w wr ∧ StrsAt wr a0 sa ∧ StrsAt wr a1 sb ∧ StrsAt wr ax sa ∧ StrsAt wr ay sb) (fun i _ => sa.length - (intOf i).toNat)
      case atStart => exact ⟨0, Nat.zero_le _, rfl, hwd, hh0, hh1, hxx, hyy⟩
      case round =>
        clear hwd hh0 hh1 hxx hyy
        obtain ⟨m, hm, rfl, hwe, hi0, hi1, hix, hiy⟩ := hrel
        by_cases hlm : m < sa.length
        · obtain ⟨b0, o0, rfl, _, hcl0⟩ := hi0 m hlm
          obtain ⟨b1, o1, rfl, _, hcl1⟩ := hix m hlm
          go_wp2_with fail
          go_quiet (fail)
          have hwf := below_drewN hwe nq
          have hj0 := hi0.drewN nq
          have hj1 := hi1.drewN nq
          have hjx := hix.drewN nq
          have hjy := hiy.drewN nq
          clear hwe hi0 hi1 hix hiy hcl0 hcl1
          go_wp2
          go_roundw
          case rel => exact ⟨m + 1, by omega, by go_num, hwf, hj0, hj1, hjx, hjy⟩
          case measure => simp [intOf]; omega
        · clear hi0 hix
          go_wp2
          go_loopw [14] (fun i wr => ∃ m : Nat, m ≤ sb.length ∧ i = .int .i64 m ∧ Below w.heap.size w wr ∧ StrsAt wr a1 sb ∧ StrsAt wr ay sb) (fun i _ => sb.length - (intOf i).toNat)
          case atStart => exact ⟨0, Nat.zero_le _, rfl, hwe, hi1, hiy⟩
          case round =>
            clear hwe hi1 hiy
            obtain ⟨q, hq, rfl, hwe, hi1, hiy⟩ := hrel
            by_cases hlq : q < sb.length
            · obtain ⟨b0, o0, rfl, _, hcl0⟩ := hi1 q hlq
              obtain ⟨b1, o1, rfl, _, hcl1⟩ := hiy q hlq
              go_wp2_with fail
              go_quiet (fail)
              have hwf := below_drewN hwe nq
              have hj1 := hi1.drewN nq
              have hjy := hiy.drewN nq
              clear hwe hi1 hiy hcl0 hcl1
              go_wp2
              go_roundw
              case rel => exact ⟨q + 1, by omega, by go_num, hwf, hj1, hjy⟩
              case measure => simp [intOf]; omega
            · go_wp2
              go_ret
              exact ⟨rfl, hwe⟩

theorem joins_walk (a0 : Option Addr) (c0 : Nat) (sa : List ByteArray) (a1 : Option Addr) (c1 : Nat) (sb : List ByteArray) (w : World)
    (hc0 : StrsAt w a0 sa) (hr0 : sa.length * 16 ≤ 140737488351232) (_ : ∀ s ∈ sa, s.size ≤ maxLen) (hc1 : StrsAt w a1 sb) (hr1 : sb.length * 16 ≤ 140737488351232) (_ : ∀ s ∈ sb, s.size ≤ maxLen) :
    Calls Try.prog 6 #[.slice a0 sa.length c0, .slice a1 sb.length c1] w fun e w' => e = .returned (.bool true) ∧ Below w.heap.size w w' := by
  by_cases h : 200 < sa.length + sb.length
  · exact joins_out a0 a1 c0 c1 sa sb w hr0 hr1 h
  · exact joins_in a0 a1 c0 c1 sa sb w hc0 hc1 (by omega)
end Go.Proofs.Ytkjbaahoalcfbab
