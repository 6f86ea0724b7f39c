/- tusklaw01.WireLists answers true at every list, string and number whose bytes have room; nothing old in memory is turned. -/
import Derived.Test.YtkjbaahoalcfbaaRefList
import Derived.Test.YtkjbaahoalcfbaaUpto
import Derived.Laws.AppendOwnNone
namespace Go.Proofs.Ytkjbaahoalcfbaa
open Go.RowKit

def mks (ts : List (List UInt8)) : List ByteArray := ts.map (fun t => ⟨t.toArray⟩)

theorem bl_mks (ts : List (List UInt8)) : bl (mks ts) = ts := by
  simp [bl, mks, List.map_map, Function.comp_def]

theorem own_len {w : World} {B : Nat} {e : TypeId} {v : Value} {n : Nat} {xs : List Value} (h : w.ownsRow B e 1 v n xs) : n ≤ 9223372036854775807 := by
  rcases h.2 with ⟨_, rfl⟩ | ⟨g, cap, cur, _, _, _, h1, h2, _⟩
  · omega
  · unfold maxLen at h2; omega

set_option maxRecDepth 100000 in
set_option maxHeartbeats 1000000 in
theorem lists_out (ao : Option Addr) (cap : Nat) (ss : List ByteArray) (s : ByteArray) (most : Int) (w : World) (h : 500 < ss.length) :
    Calls Try.prog 5 #[.slice ao ss.length cap, .string s, .int .i64 most] w fun e w' => e = .returned (.bool true) ∧ Below w.heap.size w w' := by
  have h1 : (500 : Int) < ss.length := by omega
  go_enter Try.func5, Try.ntmps5
  go_wp2
  go_ret
  exact ⟨rfl, Below.refl _ _⟩

theorem strs_news {w : World} {ad : Addr} {ss : List ByteArray} (h : StrsAt w (some ad) ss) : ∀ j u, ((bl ss).map strVal)[j]? = some u → w.cell? (ad.add j) = some u := by
  intro j u hu
  have hj : j < ss.length := by
    have := (List.getElem?_eq_some_iff.1 hu).1
    simpa [bl] using this
  obtain ⟨b, off, e, _, hc⟩ := h j hj
  simp at e
  subst e
  rw [Go.WideShapes.add_plain, hc]
  simp [bl, strVal, List.getElem?_eq_getElem hj] at hu
  rw [hu]

set_option maxRecDepth 100000 in
set_option maxHeartbeats 2000000 in
theorem lists_in (ao : Option Addr) (cap : Nat) (ss : List ByteArray) (s : ByteArray) (most : Int) (w : World) (hc : StrsAt w ao ss) (hnil : ao = none → cap = 0) (hs : s.size ≤ 1048576) (h : ss.length ≤ 500) (hroom : (lst (bl ss)).length ≤ 140737488355328) :
    Calls Try.prog 5 #[.slice ao ss.length cap, .string s, .int .i64 most] w fun e w' => e = .returned (.bool true) ∧ Below w.heap.size w w' := by
  obtain ⟨i0, hi, hz0, hz1, hz2⟩ := info_parts infoString
  have h1 : ¬ ((500 : Int) < ss.length) := by omega
  have hs0 : Hid (s.size ≤ maxLen) := by show _ ≤ _; unfold maxLen; omega
  have HR : Hid ((lst (bl ss)).length ≤ 140737488355328) := hroom
  have hown0 : (w.alloc (.cells #[] 9)).ownsRow w.heap.size 9 1 (.slice (some ⟨w.heap.size, 0, none⟩) 0 0) 0 [] := World.ownsRow_made w #[] 0 (Nat.le_refl _) (by unfold maxLen; omega) (by simp)
  have hb0 : Below w.heap.size w (w.alloc (.cells #[] 9)) := (Below.refl _ w).alloc (Nat.le_refl _) _
  have hca := hc.below hb0
  have hbl : (bl ss).length = ss.length := by simp [bl]
  clear hroom
  rcases hG : getList s.data.toList most with ⟨ts, p, er⟩
  have HG : Hid (getList s.data.toList most = (ts, p, er)) := hG
  have Hbl : Hid ((bl ss).length = ss.length) := hbl
  clear hG
  cases ao with
  | none =>
    have hc0 := hnil rfl
    subst hc0
    have hl0 : ss.length = 0 := by
      by_cases hp : 0 < ss.length
      · obtain ⟨_, _, e, _⟩ := hca 0 hp
        cases e
      · omega
    have hss : ss = [] := List.eq_nil_of_length_eq_zero hl0
    subst hss
    clear hnil hbl hl0 hc
    go_enter Try.func5, Try.ntmps5
    go_wp2_with (at_builtin; refine wpList_append_own_none rfl _ _ 31 rfl w.heap.size 9 i0 1 Try.underlying31 hi _ _ _ rfl hown0 rfl ?_)
    have hown1 : StrsAt (w.alloc (.cells #[] 9)) (some ⟨w.heap.size, 0, none⟩) [] := fun j hj => absurd hj (by simp)
    clear hown0
    go_wp2_with fail
    refine (getList_any _ _ _ s.size hs0.out (Or.inl (Nat.le_refl _)) (by omega)).mono ?_
    rintro e w2 ⟨v, rfl, hgot, hw2⟩
    rw [HG.out] at hgot
    obtain ⟨ax, cx, rfl, hox⟩ := hgot
    have hwb := hb0.trans (hw2.mono hb0.size)
    have ho2 := hown1.below hw2
    have hc2 := hca.below hw2
    have hlt : ts.length ≤ 9223372036854775807 := own_len hox
    have hx2 : StrsAt w2 ax (mks ts) := own_strs (by rw [bl_mks]; exact hox) (by simp [mks])
    clear hw2 hox
    go_wp2_with fail
    refine (refGetList_any _ _ _ s.size hs0.out (Or.inl (Nat.le_refl _)) (by omega)).mono ?_
    rintro e w3 ⟨v, rfl, hgot, hw3⟩
    rw [HG.out] at hgot
    obtain ⟨ay, cy, rfl, hoy⟩ := hgot
    have hwc := hwb.trans (hw3.mono hwb.size)
    have ho3 := ho2.below hw3
    have hc3 := hc2.below hw3
    have hx3 := hx2.below hw3
    have hy3 : StrsAt w3 ay (mks ts) := own_strs (by rw [bl_mks]; exact hoy) (by simp [mks])
    clear hw3 hoy hwb ho2 hc2 hx2
    go_wp2_with fail
    refine (list_any _ _ [] _ ho3 HR.out (by simp)).mono ?_
    rintro e w4 ⟨rfl, hw4⟩
    have hwd := hwc.trans (hw4.mono hwc.size)
    have ho4 := ho3.below hw4
    have hc4 := hc3.below hw4
    have hx4 := hx3.below hw4
    have hy4 := hy3.below hw4
    clear hw4 hwc ho3 hc3 hx3 hy3
    go_wp2_with fail
    refine (refList_any _ _ [] _ hc4 HR.out (by simp)).mono ?_
    rintro e w5 ⟨rfl, hw5⟩
    have hwe := hwd.trans (hw5.mono hwd.size)
    have ho5 := ho4.below hw5
    have hc5 := hc4.below hw5
    have hx5 := hx4.below hw5
    have hy5 := hy4.below hw5
    clear hw5 hwd ho4 hc4 hx4 hy4
    have hml : (mks ts).length = ts.length := by simp [mks]
    generalize (⟨(lst (bl [])).toArray⟩ : ByteArray) = sl
    go_wp2_with fail
    rw [← hml]
    refine (same_any _ _ _ _ (mks ts) _ hx5 hy5 (by omega)).mono ?_
    rintro e w6 ⟨rfl, hw6⟩
    have hwf := hwe.trans (hw6.mono hwe.size)
    have ho6 := ho5.below hw6
    have hc6 := hc5.below hw6
    clear hw6 hwe ho5 hc5 hx5 hy5
    go_wp2_with fail
    refine (same_any _ _ _ _ [] _ ho6 hc6 (by simp)).mono ?_
    rintro e w7 ⟨rfl, hw7⟩
    have hwg := hwf.trans (hw7.mono hwf.size)
    clear hw7 hwf
    go_wp2
    go_ret
    exact ⟨rfl, hwg⟩
  | some ad =>
    clear hnil
    go_enter Try.func5, Try.ntmps5
    go_wp2_with (at_builtin; refine wpList_append_own _ rfl _ _ 31 rfl w.heap.size 9 i0 (.string ⟨#[]⟩) 1 16 Try.underlying31 hi hz0 hz1 hz2 rfl (by decide) _ _ _ rfl hown0 ad ss.length cap ((bl ss).map strVal) rfl ?c0 ?c1 ?c2 ?c3 ?c4 ?c5 ?_)
    case c1 => intro j a ha; exact strs_news hca j _ (by simp [ha])
    case c2 => intro a _; rfl
    case c3 => unfold maxLen; omega
    case c4 => omega
    intro v' w1 hown1 hgrow _
    have hb1 : Below w.heap.size w w1 := hb0.grown hgrow (by simp) (fun q hq => (hown0.lt q hq).1)
    have hcb := hc.below hb1
    obtain ⟨ao1, cap1, rfl⟩ := own_slice hown1
    have hown2 : StrsAt w1 ao1 ss := own_strs hown1 rfl
    clear hown0 hown1 hgrow hca hb0 hc
    go_wp2_with fail
    refine (getList_any _ _ _ s.size hs0.out (Or.inl (Nat.le_refl _)) (by omega)).mono ?_
    rintro e w2 ⟨v, rfl, hgot, hw2⟩
    rw [HG.out] at hgot
    obtain ⟨ax, cx, rfl, hox⟩ := hgot
    have hwb := hb1.trans (hw2.mono hb1.size)
    have ho2 := hown2.below hw2
    have hc2 := hcb.below hw2
    have hlt : ts.length ≤ 9223372036854775807 := own_len hox
    have hx2 : StrsAt w2 ax (mks ts) := own_strs (by rw [bl_mks]; exact hox) (by simp [mks])
    clear hw2 hox
    go_wp2_with fail
    refine (refGetList_any _ _ _ s.size hs0.out (Or.inl (Nat.le_refl _)) (by omega)).mono ?_
    rintro e w3 ⟨v, rfl, hgot, hw3⟩
    rw [HG.out] at hgot
    obtain ⟨ay, cy, rfl, hoy⟩ := hgot
    have hwc := hwb.trans (hw3.mono hwb.size)
    have ho3 := ho2.below hw3
    have hc3 := hc2.below hw3
    have hx3 := hx2.below hw3
    have hy3 : StrsAt w3 ay (mks ts) := own_strs (by rw [bl_mks]; exact hoy) (by simp [mks])
    clear hw3 hoy hwb ho2 hc2 hx2
    go_wp2_with fail
    refine (list_any _ _ ss _ ho3 HR.out (by omega)).mono ?_
    rintro e w4 ⟨rfl, hw4⟩
    have hwd := hwc.trans (hw4.mono hwc.size)
    have ho4 := ho3.below hw4
    have hc4 := hc3.below hw4
    have hx4 := hx3.below hw4
    have hy4 := hy3.below hw4
    clear hw4 hwc ho3 hc3 hx3 hy3
    go_wp2_with fail
    refine (refList_any _ _ ss _ hc4 HR.out (by omega)).mono ?_
    rintro e w5 ⟨rfl, hw5⟩
    have hwe := hwd.trans (hw5.mono hwd.size)
    have ho5 := ho4.below hw5
    have hc5 := hc4.below hw5
    have hx5 := hx4.below hw5
    have hy5 := hy4.below hw5
    clear hw5 hwd ho4 hc4 hx4 hy4
    have hml : (mks ts).length = ts.length := by simp [mks]
    generalize (⟨(lst (bl ss)).toArray⟩ : ByteArray) = sl
    go_wp2_with fail
    rw [← hml]
    refine (same_any _ _ _ _ (mks ts) _ hx5 hy5 (by omega)).mono ?_
    rintro e w6 ⟨rfl, hw6⟩
    have hwf := hwe.trans (hw6.mono hwe.size)
    have ho6 := ho5.below hw6
    have hc6 := hc5.below hw6
    clear hw6 hwe ho5 hc5 hx5 hy5
    go_wp2_with fail
    refine (same_any _ _ _ _ ss _ ho6 hc6 (by omega)).mono ?_
    rintro e w7 ⟨rfl, hw7⟩
    have hwg := hwf.trans (hw7.mono hwf.size)
    clear hw7 hwf
    go_wp2
    go_ret
    exact ⟨rfl, hwg⟩

theorem lists_walk (ao : Option Addr) (cap : Nat) (ss : List ByteArray) (s : ByteArray) (most : Int) (w : World) (hc : StrsAt w ao ss) (hb : strsBulk ss ≤ 1048576) (_ : ∀ s ∈ ss, s.size ≤ maxLen) (hnil : ao = none → cap = 0) (hs : s.size ≤ 1048576) (_ : (Lit.int .i64 most).wf = true) :
    Calls Try.prog 5 #[.slice ao ss.length cap, .string s, .int .i64 most] w fun e w' => e = .returned (.bool true) ∧ Below w.heap.size w w' := by
  by_cases h : 500 < ss.length
  · exact lists_out ao cap ss s most w h
  · have h2 := lst_bulk ss
    exact lists_in ao cap ss s most w hc hnil hs (by omega) (by omega)
end Go.Proofs.Ytkjbaahoalcfbaa
