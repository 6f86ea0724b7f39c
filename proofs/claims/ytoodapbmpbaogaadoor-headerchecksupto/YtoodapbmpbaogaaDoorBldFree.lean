/- A strings.Builder of the call's own at work beside other blocks of the call's own. -/
import Derived.Test.YtoodapbmpbaogaaDoorBld
import Derived.Test.YtoodapbmpbaogaaDoorQueue
namespace Go.Proofs.YtoodapbmpbaogaaDoor
open Go.RowKit
set_option linter.unusedVariables false

/-- Block g is neither the Builder's b nor its row's. -/
def BldOff (w : World) (b g : Nat) : Prop := g ≠ b ∧ ∀ p v T, w.heap[b]? = some (.cells #[p, v] T (0, 0)) → v.ownBlock ≠ some g

theorem BldOff.below {w w' : World} {b g : Nat} (h : BldOff w b g) (hb : Below w.heap.size w w') (hl : b < w.heap.size) : BldOff w' b g :=
  ⟨h.1, fun p v T he => h.2 p v T (by rw [← hb.block b hl]; exact he)⟩

theorem bld_lt {T e : TypeId} {B b : Nat} {bs : List Value} {w : World} (h : Lib.IsBuilder T e B b bs w) : b < w.heap.size := by
  rcases h with ⟨_, v, hb, _⟩ | ⟨_, v, hb, _⟩
  · exact (Array.getElem?_eq_some_iff.1 hb).1
  · exact (Array.getElem?_eq_some_iff.1 hb).1

/-- What is new is apart from a Builder. -/
theorem BldOff.new {T e : TypeId} {B b : Nat} {bs : List Value} {w : World} (h : Lib.IsBuilder T e B b bs w) {g : Nat} (hg : w.heap.size ≤ g) : BldOff w b g := by
  have hl := bld_lt h
  refine ⟨by omega, fun p v T' he => ?_⟩
  rcases h with ⟨_, v', hb, hown, _⟩ | ⟨_, v', hb, hown, _⟩
  · rw [hb] at he
    simp at he
    intro ho
    have := (hown.lt g (by rw [he.1.2]; exact ho)).2
    omega
  · rw [hb] at he
    simp at he
    intro ho
    have := (hown.lt g (by rw [he.1.2]; exact ho)).2
    omega

theorem copyCheck_free (B b : Nat) (bs : List Value) (w : World) (h : Lib.IsBuilder 111 5 B b bs w) :
    Calls Tryd.prog 92 #[.pointer (some ⟨b, 0, none⟩)] w fun e w' => e = .returned (.tuple #[]) ∧ (Lib.BuilderAt 111 5 B b (.pointer (some ⟨b, 0, none⟩)) bs w' ∧ Below B w w') ∧ w.heap.size ≤ w'.heap.size ∧ ∀ g, BldOff w b g → w'.heap[g]? = w.heap[g]? ∧ BldOff w' b g := by
  rcases h with h | h
  · refine (copyCheck_fresh b w h.cell0 h.shape h.frozen0).mono ?_
    rintro e w' ⟨rfl, rfl⟩
    have hu := h.used (.pointer (some ⟨b, 0, none⟩))
    refine ⟨rfl, ⟨h.used _, (Below.refl B w).setCell (p := ⟨b, 0, none⟩) h.1 _⟩, by rw [setCell_size]; omega, fun g hg => ⟨Below.heap_setCell w ⟨b, 0, none⟩ _ g hg.1, hg.1, fun p v T he => ?_⟩⟩
    obtain ⟨_, v', hb', _⟩ := h
    have := (Arr.set (show Arr w b 111 [.pointer none, v'] from hb') 0 (.pointer (some ⟨b, 0, none⟩)))
    unfold Arr at this
    rw [this] at he
    simp at he
    rw [← he.1.2]
    exact hg.2 _ _ _ hb'
  · refine (copyCheck_used b w h.cell0).mono ?_
    rintro e w' ⟨rfl, rfl⟩
    exact ⟨rfl, ⟨h, Below.refl B _⟩, Nat.le_refl _, fun g hg => ⟨rfl, hg⟩⟩

set_option maxRecDepth 100000 in
set_option maxHeartbeats 400000 in
theorem write_free (B b : Nat) (bs : List Value) (s : ByteArray) (w : World) (h : Lib.IsBuilder 111 5 B b bs w) (hlen : bs.length + s.size ≤ 140737488355328) (hBw : B ≤ w.heap.size) :
    Calls Tryd.prog 77 #[.pointer (some ⟨b, 0, none⟩), .string s] w fun e w' => e = .returned (.tuple #[.int .i64 s.size, .nilIface]) ∧ (Lib.BuilderAt 111 5 B b (.pointer (some ⟨b, 0, none⟩)) (bs ++ Lib.strCells s) w' ∧ Below B w w') ∧ w.heap.size ≤ w'.heap.size ∧ ∀ g, g < w.heap.size → BldOff w b g → w'.heap[g]? = w.heap[g]? := by
  obtain ⟨i0, hi, hz0, hz1, hz2⟩ := info_parts infoByte
  go_enter Tryd.func77, Tryd.ntmps77
  go_wp2_with fail
  refine (copyCheck_free B b bs _ h).mono ?_
  rintro e w1 ⟨rfl, ⟨h1, hb1⟩, hz, hoff⟩
  obtain ⟨hB, v, hbk, hown, hne⟩ := h1
  have c1 : w1.cell? ⟨b, 1, none⟩ = some v := by rw [Lib.cell_of_heap hbk]; rfl
  go_wp2_with (at_builtin; refine Lib.wpList_append_own_string _ rfl _ _ 62 9 rfl B 5 i0 Tryd.underlying62 Tryd.underlying9 hi hz0 hz1 hz2 _ _ _ rfl hown s rfl ?c3 ?c4 ?c5 ?_)
  case c3 => unfold maxLen; omega
  case c4 => omega
  case c5 => have := hb1.size; omega
  intro v' w2 hown' hgrow _
  have hlt : b < w1.heap.size := (Array.getElem?_eq_some_iff.1 hbk).1
  have hb2 : w2.heap[b]? = some (.cells #[.pointer (some ⟨b, 0, none⟩), v] 111 (0, 0)) := by
    rw [hgrow.block b hlt (fun e => hne e.symm)]
    exact hbk
  have d1 : w2.cell? ⟨b, 1, none⟩ = some v := by rw [Lib.cell_of_heap hb2]; rfl
  have f1 : w2.frozen? ⟨b, 1, none⟩ = false := Lib.frozen_of_heap hb2 1
  obtain ⟨ao, n', cap, rfl⟩ : ∃ ao n' cap, v' = .slice ao n' cap := by
    rcases hown'.2 with ⟨hv, _⟩ | ⟨g, cap, cur, hv, _⟩
    · exact ⟨_, _, _, hv⟩
    · exact ⟨_, _, _, hv⟩
  have fin1 : Lib.BuilderAt 111 5 B b (.pointer (some ⟨b, 0, none⟩)) (bs ++ Lib.strCells s) (w2.setCell ⟨b, 1, none⟩ (.slice ao n' cap)) :=
    Lib.BuilderAt.put (T := 111) (e := 5) hB hb2 (bs' := bs ++ Lib.strCells s) (by simpa [Lib.strCells_length] using hown') (by decide)
  have fin2 : Below B w (w2.setCell ⟨b, 1, none⟩ (.slice ao n' cap)) :=
    (hb1.grown hgrow (by have := hb1.size; omega) (fun k hk => (hown.lt k hk).1)).setCell (p := ⟨b, 1, none⟩) hB _
  have fin3 : Hid (w.heap.size ≤ (w2.setCell ⟨b, 1, none⟩ (.slice ao n' cap)).heap.size ∧ ∀ g, g < w.heap.size → BldOff w b g → (w2.setCell ⟨b, 1, none⟩ (.slice ao n' cap)).heap[g]? = w.heap[g]?) := by
    refine ⟨by rw [setCell_size]; have := hgrow.size; omega, fun g hg ho => ?_⟩
    obtain ⟨e1, o1⟩ := hoff g ho
    rw [Below.heap_setCell w2 ⟨b, 1, none⟩ _ g ho.1, hgrow.block g (by omega) (fun e => o1.2 _ _ _ hbk e.symm), e1]
  clear hown' hgrow hown hbk hb2 hb1 h hne hlt c1 hoff hz
  go_wp2
  go_ret2
  exact ⟨rfl, ⟨fin1, fin2⟩, fin3.out⟩

theorem BldSt.writeF {W w : World} {xb bb : Nat} {T : TypeId} {cs : List Value} {l : List UInt8} (h : BldSt W xb bb T cs w l) (m : List UInt8) (hm : l.length + m.length ≤ 140737488355328) :
    Calls Tryd.prog 77 #[.pointer (some ⟨bb, 0, none⟩), .string ⟨m.toArray⟩] w fun e w' => e = .returned (.tuple #[.int .i64 m.length, .nilIface]) ∧ BldSt W xb bb T cs w' (l ++ m) ∧ w.heap.size ≤ w'.heap.size ∧ ∀ g, g < w.heap.size → BldOff w bb g → w'.heap[g]? = w.heap[g]? := by
  refine (write_free bb bb _ ⟨m.toArray⟩ w h.bld (by rw [Lib.byteCells_length, size_mk]; exact hm) h.has).mono ?_
  rintro e w' ⟨rfl, ⟨h2, hb⟩, hz, hg⟩
  refine ⟨by rw [size_mk], ⟨h.box.below hb h.ord, h.ord, Or.inr ?_, h.bel.trans (hb.mono h.low), h.low, Nat.le_trans h.has hb.size⟩, hz, hg⟩
  rw [Lib.byteCells_append]
  rw [Lib.strCells_eq] at h2
  exact h2
end Go.Proofs.YtoodapbmpbaogaaDoor
