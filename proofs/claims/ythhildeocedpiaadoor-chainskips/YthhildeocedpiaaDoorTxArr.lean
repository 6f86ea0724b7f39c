/- A block that holds a known row of cells, none of them frozen; what becomes of it by a store, by new blocks, by a draw. -/
import Derived.Test.YthhildeocedpiaaDoorWireBackMath
import Derived.Below
import Derived.Laws.Rows
import Derived.Laws.Tables
import Derived.WalkSmall
namespace Go.Proofs.YthhildeocedpiaaDoor
open Go.RowKit

/-- Block g is a row of the cells cs. -/
def Arr (w : World) (g : Nat) (t : TypeId) (cs : List Value) : Prop := w.heap[g]? = some (.cells cs.toArray t (0, 0))

theorem Arr.lt {w : World} {g : Nat} {t : TypeId} {cs : List Value} (h : Arr w g t cs) : g < w.heap.size := by
  unfold Arr at h
  by_cases hl : g < w.heap.size
  · exact hl
  · simp [Nat.not_lt.1 hl] at h

theorem Arr.cell {w : World} {g : Nat} {t : TypeId} {cs : List Value} (h : Arr w g t cs) {i : Nat} {v : Value} (hv : cs[i]? = some v) : w.cell? ⟨g, i, none⟩ = some v := by
  unfold Arr at h
  simp [World.cell?, h, hv]

theorem Arr.frozen {w : World} {g : Nat} {t : TypeId} {cs : List Value} (h : Arr w g t cs) (i : Nat) : w.frozen? ⟨g, i, none⟩ = false := by
  unfold Arr at h
  simp [World.frozen?, h]

theorem Arr.drew {w : World} {g : Nat} {t : TypeId} {cs : List Value} (h : Arr w g t cs) : Arr w.drew g t cs := h
theorem Arr.drewN {w : World} {g : Nat} {t : TypeId} {cs : List Value} (h : Arr w g t cs) (n : Nat) : Arr (w.drewN n) g t cs := h

theorem Arr.alloc {w : World} {g : Nat} {t : TypeId} {cs : List Value} (h : Arr w g t cs) (o : Obj) : Arr (w.alloc o) g t cs := by
  have := h.lt
  unfold Arr at h ⊢
  rw [Below.heap_alloc w o g this, h]

theorem Arr.new (w : World) (t : TypeId) (cs : List Value) : Arr (w.alloc (.cells cs.toArray t)) w.heap.size t cs := heap_alloc_new w _

theorem Arr.other {w : World} {g : Nat} {t : TypeId} {cs : List Value} (h : Arr w g t cs) {p : Addr} (hp : g ≠ p.block) (u : Value) : Arr (w.setCell p u) g t cs := by
  unfold Arr at h ⊢
  rw [Below.heap_setCell w p u g hp, h]

theorem Arr.set {w : World} {g : Nat} {t : TypeId} {cs : List Value} (h : Arr w g t cs) (i : Nat) (u : Value) : Arr (w.setCell ⟨g, i, none⟩ u) g t (cs.set i u) := by
  unfold Arr at h ⊢
  show (w.heap.modify g _)[g]? = _
  rw [Array.getElem?_modify, if_pos rfl, h]
  simp

theorem Arr.row {w : World} {g : Nat} {t : TypeId} {cs : List Value} (h : Arr w g t cs) (c' : List Value) : Arr (w.setRow g c'.toArray) g t c' := by
  unfold Arr at h ⊢
  show (w.heap.modify g _)[g]? = _
  rw [Array.getElem?_modify, if_pos rfl, h]
  simp

theorem Arr.rowOther {w : World} {g g' : Nat} {t : TypeId} {cs : List Value} (h : Arr w g t cs) (hg : g ≠ g') (c' : Array Value) : Arr (w.setRow g' c') g t cs := by
  unfold Arr at h ⊢
  show (w.heap.modify g' _)[g]? = _
  rw [Array.getElem?_modify, if_neg (fun e => hg e.symm), h]

theorem below_setRow {B : Nat} {a w : World} (h : Below B a w) {g : Nat} (hg : B ≤ g) (c' : Array Value) : Below B a (w.setRow g c') := by
  refine h.trans ⟨rfl, rfl, rfl, by show _ ≤ (w.heap.modify g _).size; simp, fun k hk => ?_⟩
  show (w.heap.modify g _)[k]? = _
  rw [Array.getElem?_modify, if_neg (by omega)]

theorem Arr.below {w w' : World} {g B : Nat} {t : TypeId} {cs : List Value} (h : Arr w g t cs) (hb : Below B w w') (hg : g < B) : Arr w' g t cs := by
  unfold Arr at h ⊢
  rw [hb.block g hg, h]

theorem alloc_size (w : World) (o : Obj) : (w.alloc o).heap.size = w.heap.size + 1 := by
  show (w.heap.push o).size = _
  simp

theorem two_new (w : World) (t1 t2 : TypeId) (l1 l2 : List Value) :
    Arr ((w.alloc (.cells l1.toArray t1)).alloc (.cells l2.toArray t2)) w.heap.size t1 l1 ∧ Arr ((w.alloc (.cells l1.toArray t1)).alloc (.cells l2.toArray t2)) (w.heap.size + 1) t2 l2
      ∧ Below w.heap.size w ((w.alloc (.cells l1.toArray t1)).alloc (.cells l2.toArray t2)) := by
  refine ⟨(Arr.new _ _ _).alloc _, ?_, ((Below.refl _ w).alloc (Nat.le_refl _) _).alloc (by rw [alloc_size]; omega) _⟩
  have := Arr.new (w.alloc (.cells l1.toArray t1)) t2 l2
  rwa [alloc_size] at this

theorem four_new (w : World) (t1 t2 t3 t4 : TypeId) (l1 l2 l3 l4 : List Value) (W : World) (hW : W = (((w.alloc (.cells l1.toArray t1)).alloc (.cells l2.toArray t2)).alloc (.cells l3.toArray t3)).alloc (.cells l4.toArray t4)) :
    Arr W w.heap.size t1 l1 ∧ Arr W (w.heap.size + 1) t2 l2 ∧ Arr W (w.heap.size + 1 + 1) t3 l3 ∧ Arr W (w.heap.size + 1 + 1 + 1) t4 l4 ∧ Below w.heap.size w W := by
  subst hW
  obtain ⟨h1, h2, hb⟩ := two_new w t1 t2 l1 l2
  have e2 : ((w.alloc (.cells l1.toArray t1)).alloc (.cells l2.toArray t2)).heap.size = w.heap.size + 1 + 1 := by rw [alloc_size, alloc_size]
  obtain ⟨h3, h4, hb'⟩ := two_new ((w.alloc (.cells l1.toArray t1)).alloc (.cells l2.toArray t2)) t3 t4 l3 l4
  rw [e2] at h3 h4 hb'
  exact ⟨(h1.alloc _).alloc _, (h2.alloc _).alloc _, h3, h4, hb.trans (hb'.mono (by omega))⟩

theorem belowNew (w : World) (c : Obj) : Below w.heap.size w (w.alloc c) := (Below.refl w.heap.size w).alloc (Nat.le_refl _) c

theorem setCell_size (w : World) (p : Addr) (v : Value) : (w.setCell p v).heap.size = w.heap.size := by
  show (w.heap.modify p.block _).size = _
  simp
end Go.Proofs.YthhildeocedpiaaDoor
