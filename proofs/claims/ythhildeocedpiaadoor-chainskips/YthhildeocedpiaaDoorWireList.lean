/- What wire.List does: the texts' bytes behind their count; nothing old in memory is turned. -/
import Derived.Test.YthhildeocedpiaaDoorWireBuilder
import Derived.Test.YthhildeocedpiaaDoorStrs
namespace Go.Proofs.YthhildeocedpiaaDoor
open Go.RowKit

theorem grown_of_below {w w' : World} (h : Below w.heap.size w w') : w.grownBy w' none := ⟨h.os, h.tape, h.output, h.size, fun k hk _ => h.block k hk⟩

theorem builder_keep {T e : TypeId} {B b : Nat} {bs : List Value} {w w' : World} (h : Lib.IsBuilder T e B b bs w) (hb : Below w.heap.size w w') : Lib.IsBuilder T e B b bs w' := by
  have one : ∀ p, Lib.BuilderAt T e B b p bs w → Lib.BuilderAt T e B b p bs w' := by
    rintro p ⟨hB, v, hbk, hown, hne⟩
    refine ⟨hB, v, ?_, hown.kept (grown_of_below hb) ?_, hne⟩
    · rw [hb.block b (Array.getElem?_eq_some_iff.1 hbk).1]; exact hbk
    · cases hv : v.ownBlock <;> simp
  rcases h with h | h
  · exact Or.inl (one _ h)
  · exact Or.inr (one _ h)

set_option maxRecDepth 100000 in
set_option maxHeartbeats 1000000 in
theorem list_any (ao : Option Addr) (cap : Nat) (ss : List ByteArray) (w : World) (hc : StrsAt w ao ss) (hlen : (lst (bl ss)).length ≤ 140737488355328) (hn : ss.length ≤ 4611686018427387903) :
    Calls Tryd.prog 50 #[.slice ao ss.length cap] w fun e w' => e = .returned (.string ⟨(lst (bl ss)).toArray⟩) ∧ Below w.heap.size w w' := by
  have h0 : Lib.IsBuilder 87 5 w.heap.size w.heap.size [] (w.alloc (.cells #[.pointer none, .slice none 0 0] 87)) := Lib.fresh_isBuilder 87 5 w
  have b0 : Below w.heap.size w (w.alloc (.cells #[.pointer none, .slice none 0 0] 87)) := (Below.refl _ w).alloc (Nat.le_refl _) _
  have hbl : (bl ss).length = ss.length := by simp [bl]
  have hg9 := goInt_length ss.length
  have hL : ∀ k, k ≤ ss.length → (goInt ss.length ++ ((bl ss).take k).flatMap txt).length ≤ 140737488355328 := by
    intro k _
    have h1 := take_flat_le (bl ss) k
    have h2 : (lst (bl ss)).length = (goInt ss.length).length + ((bl ss).flatMap txt).length := by rw [lst, List.length_append, hbl]
    rw [List.length_append]
    omega
  have HL : Hid (∀ k, k ≤ ss.length → (goInt ss.length ++ ((bl ss).take k).flatMap txt).length ≤ 140737488355328) := hL
  have Hbl : Hid ((bl ss).length = ss.length) := hbl
  clear hL hlen hbl
  go_enter Tryd.func50, Tryd.ntmps50
  go_wp2_with fail
  refine (int_any _ _).mono ?_
  rintro e w1 ⟨rfl, hb1⟩
  have h1 := builder_keep h0 hb1
  have b1 : Below w.heap.size w w1 := b0.trans (hb1.mono (by simp))
  go_wp2_with fail
  refine (write_any w.heap.size w.heap.size [] _ _ h1 ?_ b1.size).mono ?_
  · rw [size_mk]; simp; omega
  rintro e w2 ⟨rfl, h2, hb2⟩
  have h2' : Lib.IsBuilder 87 5 w.heap.size w.heap.size (Lib.byteCells (goInt ss.length ++ ((bl ss).take 0).flatMap txt)) w2 := by
    refine Or.inr ?_
    rw [List.nil_append, Lib.strCells_eq] at h2
    simpa using h2
  have b2 : Below w.heap.size w w2 := b1.trans hb2
  clear h0 b0 h1 hb1 b1 h2 hb2
  go_wp2
  go_loopw [12] (fun i wr => ∃ k : Nat, k ≤ ss.length ∧ i = .int .i64 k ∧ Lib.IsBuilder 87 5 w.heap.size w.heap.size (Lib.byteCells (goInt ss.length ++ ((bl ss).take k).flatMap txt)) wr ∧ Below w.heap.size w wr) (fun i _ => ss.length - (intOf i).toNat)
  case atStart => exact ⟨0, Nat.zero_le _, rfl, h2', b2⟩
  case round =>
    clear h2' b2
    obtain ⟨k, hk, rfl, hI, hb⟩ := hrel
    by_cases hlt : k < ss.length
    · obtain ⟨b, off, rfl, hbl, hcell⟩ := (hc.below hb) k hlt
      have hkb : k < (bl ss).length := by rw [Hbl.out]; exact hlt
      have hek : (bl ss)[k] = ss[k].data.toList := by simp [bl]
      have hlen1 := HL.out (k + 1) hlt
      rw [take_flat _ _ hkb, hek, ← List.append_assoc, List.length_append] at hlen1
      have htl : ss[k].size ≤ (txt ss[k].data.toList).length := by simp [txt]
      have HE : Hid (goInt ss.length ++ ((bl ss).take (k + 1)).flatMap txt = (goInt ss.length ++ ((bl ss).take k).flatMap txt) ++ txt ss[k].data.toList) := by
        show _ = _
        rw [take_flat _ _ hkb, hek, ← List.append_assoc]
      clear hek hkb
      go_wp2_with fail
      refine (text_any _ _ (by omega)).mono ?_
      rintro e w3 ⟨rfl, hb3⟩
      have hI3 := builder_keep hI hb3
      have b3 : Below w.heap.size w w3 := hb.trans (hb3.mono hb.size)
      go_wp2_with fail
      refine (write_any w.heap.size w.heap.size _ _ _ hI3 ?_ b3.size).mono ?_
      · rw [size_mk, Lib.byteCells_length]; exact hlen1
      rintro e w4 ⟨rfl, h4, hb4⟩
      have h4' : Lib.IsBuilder 87 5 w.heap.size w.heap.size (Lib.byteCells (goInt ss.length ++ ((bl ss).take (k + 1)).flatMap txt)) w4 := by
        rw [HE.out, Lib.byteCells_append]
        exact Or.inr h4
      have b4 := b3.trans hb4
      clear hI hI3 hb3 b3 h4 hb4 hb
      go_wp2
      go_roundw
      case rel => exact ⟨k + 1, by omega, by go_num, h4', b4⟩
      case measure => simp [intOf]; omega
    · go_wp2_with fail
      refine (string_any w.heap.size w.heap.size _ _ hI ?_).mono ?_
      · have := goInt_ne ss.length hn
        intro e
        simp at e
        exact this e.1
      rintro e w3 ⟨rfl, hb3⟩
      go_wp2
      go_ret
      refine ⟨ret_str ?_, hb.trans hb3⟩
      have e1 : k = (bl ss).length := by rw [Hbl.out]; omega
      rw [e1, List.take_length, lst, Hbl.out]
end Go.Proofs.YthhildeocedpiaaDoor
