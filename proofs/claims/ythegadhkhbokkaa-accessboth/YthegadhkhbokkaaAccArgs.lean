/- Two transactions in boxes, and Clash of their own copies. -/
import Derived.Test.YthegadhkhbokkaaAccGreat
import Derived.Test.YthegadhkhbokkaaAccWorks
import Derived.Test.YthegadhkhbokkaaAccOwnL
import Derived.Deep.RegionHeld3
namespace Go.Proofs.Ythegadhkhbokkaa
open Go Go.RowKit
set_option linter.unusedVariables false

/-- Two transactions in boxes of the call's own. -/
structure Two20 (W w : World) (p q : Nat) (x y : TxA) : Prop where
  bx : Arr w p 26 x.c
  by' : Arr w q 26 y.c
  ax : TxA.At w x
  ay : TxA.At w y
  bel : Below W.heap.size W w

theorem Two20.below {W w w' : World} {p q : Nat} {x y : TxA} (h : Two20 W w p q x y) (hb : Below w.heap.size w w') : Two20 W w' p q x y :=
  ⟨h.bx.below hb h.bx.lt, h.by'.below hb h.by'.lt, h.ax.below hb, h.ay.below hb, h.bel.trans (hb.mono h.bel.size)⟩

theorem Two20.drew {W w : World} {p q : Nat} {x y : TxA} (h : Two20 W w p q x y) : Two20 W w.drew p q x y := h.below (below_drewN (Below.refl _ _) 1)

theorem Two20.al {W w : World} {p q : Nat} {x y : TxA} (h : Two20 W w p q x y) (o : Obj) : Two20 W (w.alloc o) p q x y := h.below (belowNew w o)

theorem Two20.new (W : World) (x y : TxA) (hx : TxA.At W x) (hy : TxA.At W y) : Two20 W ((W.alloc (.cells x.c.toArray 26)).alloc (.cells y.c.toArray 26)) W.heap.size (W.heap.size + 1) x y := by
  obtain ⟨h1, h2, h3⟩ := two_new W 26 26 x.c y.c
  exact ⟨h1, h2, hx.below h3, hy.below h3, h3⟩

/-- The nine cells of a box. -/
def Nine (w : World) (p : Nat) (x : TxA) : Prop :=
  w.cell? ⟨p, 0, none⟩ = some (.int .i64 x.kind) ∧ w.cell? ⟨p, 1, none⟩ = some (.string x.frm) ∧ w.cell? ⟨p, 2, none⟩ = some (.string x.dst) ∧ w.cell? ⟨p, 3, none⟩ = some (.int .u64 x.amt) ∧ w.cell? ⟨p, 4, none⟩ = some (.int .u64 x.non) ∧ w.cell? ⟨p, 5, none⟩ = some (.string x.key) ∧ w.cell? ⟨p, 6, none⟩ = some (.string x.val) ∧ w.cell? ⟨p, 7, none⟩ = some (.slice x.ra x.rs.length x.rc) ∧ w.cell? ⟨p, 8, none⟩ = some (.slice x.wa x.ws.length x.wc)

theorem Arr.nine {w : World} {p : Nat} {x : TxA} (h : Arr w p 26 x.c) : Nine w p x :=
  ⟨h.cell (i := 0) rfl, h.cell (i := 1) rfl, h.cell (i := 2) rfl, h.cell (i := 3) rfl, h.cell (i := 4) rfl, h.cell (i := 5) rfl, h.cell (i := 6) rfl, h.cell (i := 7) rfl, h.cell (i := 8) rfl⟩

/-- What a machine has at most of a transaction's keys. -/
def Fits (x : TxA) : Prop := x.rs.length ≤ 17592186044416 ∧ x.ws.length ≤ 17592186044416

theorem wide_two {x y : TxA} (hx : Fits x) (hy : Fits y) : Wide [x, y] := by
  refine ⟨by simp, fun z hz => ?_⟩
  simp only [List.mem_cons, List.not_mem_nil, or_false] at hz
  rcases hz with rfl | rfl
  · exact hx
  · exact hy

theorem few_two {x y : TxA} (h : greatA [x, y] = false) : (x.rs.length ≤ 1000 ∧ x.ws.length ≤ 1000) ∧ (y.rs.length ≤ 1000 ∧ y.ws.length ≤ 1000) := by
  have := few_of h
  exact ⟨this.2 x (by simp), this.2 y (by simp)⟩

/-- Is a row of these two too great? -/
theorem great_two {W w : World} {p q : Nat} {x y : TxA} (h : Two20 W w p q x y) (hx : Fits x) (hy : Fits y) (cp : Nat) :
    Calls Try.prog 7 #[.slice (some ⟨w.heap.size, 0, none⟩) 2 cp] (w.alloc (.cells (x.c ++ y.c).toArray 26)) fun e w' => e = .returned (.bool (greatA [x, y])) ∧ Two20 W w' p q x y := by
  have hn := Arr.new w 26 (x.c ++ y.c)
  have hb := belowNew w (.cells (x.c ++ y.c).toArray 26)
  have hr : RowAt txA (w.alloc (.cells (x.c ++ y.c).toArray 26)) (some ⟨w.heap.size, 0, none⟩) [x, y] := hn.rowAt (by simp [flatK, txA]) (fun z hz => by
    simp only [List.mem_cons, List.not_mem_nil, or_false] at hz
    rcases hz with rfl | rfl
    · exact h.ax.below hb
    · exact h.ay.below hb)
  refine (great_any [x, y] _ cp _ hr (wide_two hx hy)).mono ?_
  rintro e w' ⟨rfl, hb2⟩
  exact ⟨rfl, (h.below hb).below hb2⟩

theorem rw_eq {x y : TxA} (h1 : y.rs = x.rs) (h2 : y.ws = x.ws) : y.rw = x.rw := by
  unfold TxA.rw
  rw [h1, h2]
end Go.Proofs.Ythegadhkhbokkaa
