/- Rows of rows of numbers: those that came in, and plans of the call's own whose rows lie apart. -/
import Derived.Test.YtkgidmifgfoeiaaAccTx
import Derived.Test.YtkgidmifgfoeiaaInts
namespace Go.Proofs.Ytkgidmifgfoeiaa
open Go Go.RowKit
set_option linter.unusedVariables false

/-- A row of numbers, as one of a row. -/
structure IRow where
  l : List Int
  ao : Option Addr
  cap : Nat

def IRow.v (x : IRow) : Value := .slice x.ao x.l.length x.cap

/-- What stands in a plan that lies. -/
def lsP (p : List IRow) : List (List Int) := p.map IRow.l

/-- Rows, with what they reach. -/
def irowK : Kind IRow where
  n := 1
  c x := [.slice x.ao x.l.length x.cap]
  foot x b := rowFoot intK x.ao x.l b
  At w x := RowAt intK w x.ao x.l ∧ (x.ao = none → x.cap = 0)
  pos := by decide
  len _ := rfl
  one x u hu := by
    simp only [List.mem_cons, List.not_mem_nil, or_false] at hu
    rcases hu with rfl; rfl
  lt h hf := h.1.lt hf
  keep h hk := ⟨h.1.keep hk, h.2⟩

/-- Rows, the cells alone. -/
def slotK : Kind IRow where
  n := 1
  c x := [.slice x.ao x.l.length x.cap]
  foot _ _ := False
  At _ _ := True
  pos := by decide
  len _ := rfl
  one x u hu := by
    simp only [List.mem_cons, List.not_mem_nil, or_false] at hu
    rcases hu with rfl; rfl
  lt _ h := h.elim
  keep _ _ := trivial

theorem RowAt.irow {w : World} {ao : Option Addr} {l : List IRow} (h : RowAt irowK w ao l) {i : Nat} {x : IRow} (hx : l[i]? = some x) :
    ∃ b off, ao = some ⟨b, off, none⟩ ∧ b < w.heap.size ∧ w.cell? ⟨b, off + i, none⟩ = some (.slice x.ao x.l.length x.cap) ∧ RowAt intK w x.ao x.l ∧ (x.ao = none → x.cap = 0) := by
  obtain ⟨b, off, h1, h2, h3⟩ := h.cell i x hx
  have := h3 0 _ rfl
  have e : off + i * irowK.n + 0 = off + i := by show off + i * 1 + 0 = _; omega
  rw [e] at this
  exact ⟨b, off, h1, h2, this, h.at_ x (List.mem_of_getElem? hx)⟩

/-- A plan of the call's own. -/
structure PlanQ (w : World) (B : Nat) (q : Value) (p : List IRow) : Prop where
  out : KQ slotK 24 w B q p
  inn : ∀ x ∈ p, KQ intK 3 w B x.v x.l
  off : ∀ x ∈ p, ∀ b, x.v.ownBlock = some b → q.ownBlock ≠ some b
  apart : ∀ (i j : Nat) (x y : IRow), i ≠ j → p[i]? = some x → p[j]? = some y → ∀ b, x.v.ownBlock = some b → y.v.ownBlock ≠ some b

theorem PlanQ.empty (w : World) (B : Nat) : PlanQ w B (.slice none 0 0) [] :=
  ⟨KQ.empty _ _ _ _, fun x hx => (by cases hx), fun x hx => (by cases hx), fun i j x y _ h => by simp at h⟩

theorem PlanQ.kept {S : Nat → Prop} {w w' : World} {B : Nat} {q : Value} {p : List IRow} (h : PlanQ w B q p) (hk : Kept S w w') (hn : ∀ b, B ≤ b → b < w.heap.size → ¬ S b) : PlanQ w' B q p :=
  ⟨h.out.kept hk (fun k e => hn k (h.out.lt k e).1 (h.out.lt k e).2) (fun _ _ _ h => h.elim), fun x hx => (h.inn x hx).kept hk (fun k e => hn k ((h.inn x hx).lt k e).1 ((h.inn x hx).lt k e).2) (fun _ _ _ h => h.elim), h.off, h.apart⟩

theorem PlanQ.below {w w' : World} {B : Nat} {q : Value} {p : List IRow} (h : PlanQ w B q p) (hb : Below w.heap.size w w') : PlanQ w' B q p :=
  h.kept (S := fun _ => False) (Kept.of_below hb) (fun _ _ _ h => h)

theorem PlanQ.form {w : World} {B : Nat} {q : Value} {p : List IRow} (h : PlanQ w B q p) : ∃ ao cap, q = .slice ao p.length cap ∧ (ao = none → cap = 0) ∧ RowAt irowK w ao p := by
  obtain ⟨ao, cap, h1, h2, h3⟩ := h.out.form
  refine ⟨ao, cap, h1, h2, fun i x hx => h3.cell i x hx, fun x hx => ?_⟩
  obtain ⟨a, c, e, h4, h5⟩ := (h.inn x hx).form
  unfold IRow.v at e
  simp only [Value.slice.injEq, true_and] at e
  rw [← e.1] at h5 h4
  rw [← e.2] at h4
  exact ⟨h5, h4⟩

theorem PlanQ.foot_ge {w : World} {B : Nat} {ao : Option Addr} {n cap : Nat} {p : List IRow} (h : PlanQ w B (.slice ao n cap) p) : ∀ b, rowFoot irowK ao p b → B ≤ b := by
  intro b hb
  rcases hb with ⟨hl, off, rfl⟩ | ⟨x, hx, hf⟩
  · exact (h.out.lt b rfl).1
  · rcases hf with ⟨_, off, e⟩ | ⟨y, _, hy⟩
    · exact ((h.inn x hx).lt b (by unfold IRow.v; rw [e]; rfl)).1
    · exact hy.elim

/-- Where row k lies. -/
theorem PlanQ.at {w : World} {B k : Nat} {ao : Option Addr} {n cap : Nat} {p : List IRow} {x : IRow} (h : PlanQ w B (.slice ao n cap) p) (hx : p[k]? = some x) :
    ∃ g off, ao = some ⟨g, off, none⟩ ∧ B ≤ g ∧ g < w.heap.size ∧ w.cell? ⟨g, off + k, none⟩ = some (.slice x.ao x.l.length x.cap) ∧ KQ intK 3 w B (.slice x.ao x.l.length x.cap) x.l := by
  obtain ⟨g, off, rfl, h2, h3, h4, _⟩ := h.out.set hx
  have h8 := h4 0 _ rfl
  have e0 : off + k * slotK.n + 0 = off + k := by show off + k * 1 + 0 = _; omega
  rw [e0] at h8
  exact ⟨g, off, rfl, h2, h3, h8, h.inn x (List.mem_of_getElem? hx)⟩

theorem PlanQ.rebase {w : World} {B B' : Nat} {q : Value} {p : List IRow} (h : PlanQ w B q p) (hB : B' ≤ B) : PlanQ w B' q p :=
  ⟨h.out.rebase hB, fun x hx => (h.inn x hx).rebase hB, h.off, h.apart⟩

/-- A row of nothing behind it. -/
theorem PlanQ.grow {w w' : World} {B : Nat} {q q' : Value} {p : List IRow} (h : PlanQ w B q p) (hq : KQ slotK 24 w' B q' (p ++ [⟨[], none, 0⟩])) (hk : Kept (fun k => q.ownBlock = some k) w w') (hf : Fresh w q q') : PlanQ w' B q' (p ++ [⟨[], none, 0⟩]) := by
  refine ⟨hq, fun x hx => ?_, fun x hx b hb e => ?_, fun i j x y hij hx hy b hb e => ?_⟩
  · rcases List.mem_append.1 hx with hx | hx
    · exact (h.inn x hx).kept hk (fun k e => h.off x hx k e) (fun _ _ _ h => h.elim)
    · simp only [List.mem_cons, List.not_mem_nil, or_false] at hx
      subst hx
      exact KQ.empty _ _ _ _
  · rcases List.mem_append.1 hx with hx | hx
    · rcases hf b e with e2 | e2
      · exact h.off x hx b hb e2
      · have := ((h.inn x hx).lt b hb).2; omega
    · simp only [List.mem_cons, List.not_mem_nil, or_false] at hx
      subst hx
      cases hb
  · have key : ∀ (k : Nat) (z : IRow) (b : Nat), (p ++ [⟨[], none, 0⟩] : List IRow)[k]? = some z → z.v.ownBlock = some b → p[k]? = some z := fun k z b hz hzb => by
      by_cases hk : k < p.length
      · rw [List.getElem?_append_left hk] at hz; exact hz
      · rw [List.getElem?_append_right (by omega)] at hz
        have : z = ⟨[], none, 0⟩ := by
          have h2 := List.mem_of_getElem? hz
          simpa using h2
        subst this
        cases hzb
    exact h.apart i j x y hij (key i x b hx hb) (key j y b hy e) b hb e

/-- Row k is another one: its cell was written. -/
theorem PlanQ.put {w w' : World} {B k : Nat} {ao : Option Addr} {n cap : Nat} {p : List IRow} {x y : IRow} (h : PlanQ w B (.slice ao n cap) p) (hx : p[k]? = some x) (hy : KQ intK 3 w' B y.v y.l) (hk : Kept (fun k => x.v.ownBlock = some k) w w') (hf : Fresh w x.v y.v) :
    ∃ g off, ao = some ⟨g, off, none⟩ ∧ B ≤ g ∧ g < w.heap.size ∧ w'.cell? ⟨g, off + k, none⟩ = some (.slice x.ao x.l.length x.cap) ∧ w'.frozen? ⟨g, off + k, none⟩ = false ∧ PlanQ (w'.setCell ⟨g, off + k, none⟩ y.v) B (.slice ao n cap) (p.set k y) ∧ Kept (fun b => x.v.ownBlock = some b ∨ b = g) w (w'.setCell ⟨g, off + k, none⟩ y.v) := by
  have hxm := List.mem_of_getElem? hx
  have hout := h.out.kept hk (fun b e e2 => h.off x hxm b e2 e) (fun _ _ _ h => h.elim)
  obtain ⟨g, off, rfl, h2, h3, h4, h5, h6⟩ := hout.set hx
  have e0 : off + k * slotK.n + 0 = off + k := by show off + k * 1 + 0 = _; omega
  have h7 := h6 y 0 y.v (by show 0 < 1; decide) rfl trivial (fun _ h => h)
  have h8 := h4 0 _ rfl
  rw [e0] at h7 h8
  have hgx : x.v.ownBlock ≠ some g := fun e => h.off x hxm g e rfl
  have hgw : g < w.heap.size := (h.out.lt g rfl).2
  have hgy : y.v.ownBlock ≠ some g := fun e => by
    rcases hf g e with e2 | e2
    · exact hgx e2
    · omega
  have hk2 : Kept (fun b => b = g) w' (w'.setCell ⟨g, off + k, none⟩ y.v) := Kept.setCell w' ⟨g, off + k, none⟩ y.v
  refine ⟨g, off, rfl, h2, hgw, h8, h5 _, ⟨h7, fun z hz => ?_, fun z hz b hb e => ?_, fun i j a c hij ha hc b hb e => ?_⟩, (hk.mono (fun b _ e => Or.inl e)).trans (hk2.mono (fun b _ e => Or.inr e))⟩
  · rcases List.mem_iff_getElem?.1 hz with ⟨i, hi⟩
    by_cases hik : i = k
    · subst hik
      rw [List.getElem?_set_self (List.getElem?_eq_some_iff.1 hx).1] at hi
      obtain rfl : y = z := by simpa using hi
      exact hy.kept hk2 (fun b e e2 => hgy (by have e2' : b = g := e2; rw [← e2']; exact e)) (fun _ _ _ h => h.elim)
    · rw [List.getElem?_set_ne (by omega)] at hi
      have hzm := List.mem_of_getElem? hi
      exact ((h.inn z hzm).kept hk (fun b e e2 => h.apart i k z x hik hi hx b e e2) (fun _ _ _ h => h.elim)).kept hk2 (fun b e e2 => h.off z hzm b e (by have e2' : b = g := e2; rw [e2']; rfl)) (fun _ _ _ h => h.elim)
  · rcases List.mem_or_eq_of_mem_set hz with hz | rfl
    · exact h.off z hz b hb e
    · have e2 : g = b := by simpa [Value.ownBlock] using e
      exact hgy (by rw [e2]; exact hb)
  · have key : ∀ m z, (p.set k y)[m]? = some z → (m = k ∧ z = y) ∨ (m ≠ k ∧ p[m]? = some z) := fun m z hm => by
      by_cases e : m = k
      · subst e
        rw [List.getElem?_set_self (List.getElem?_eq_some_iff.1 hx).1] at hm
        exact Or.inl ⟨rfl, by simpa using hm.symm⟩
      · rw [List.getElem?_set_ne (by omega)] at hm
        exact Or.inr ⟨e, hm⟩
    have other : ∀ m z, m ≠ k → p[m]? = some z → z.v.ownBlock = some b → y.v.ownBlock ≠ some b := fun m z hm hz hzb e2 => by
      rcases hf b e2 with e3 | e3
      · exact h.apart m k z x hm hz hx b hzb e3
      · have := ((h.inn z (List.mem_of_getElem? hz)).lt b hzb).2; omega
    rcases key i a ha with ⟨e1, e2⟩ | ⟨h1, ha2⟩
    · rcases key j c hc with ⟨e3, e4⟩ | ⟨h1, hc2⟩
      · exact hij (e1.trans e3.symm)
      · exact other j c h1 hc2 e (e2 ▸ hb)
    · rcases key j c hc with ⟨e3, e4⟩ | ⟨h2, hc2⟩
      · exact other i a h1 ha2 hb (e4 ▸ e)
      · exact h.apart i j a c hij ha2 hc2 b hb e

/-- PlanQ.put, the parts by letters. -/
theorem PlanQ.puts {w w' : World} {B k g off : Nat} {n cap : Nat} {p : List IRow} {L : List Int} {xa ya : Option Addr} {xc yc : Nat} {M : List Int} (h : PlanQ w B (.slice (some ⟨g, off, none⟩) n cap) p) (hx : p[k]? = some ⟨L, xa, xc⟩)
    (hy : KQ intK 3 w' B (.slice ya M.length yc) M) (hk : Kept (fun k => (Value.slice xa L.length xc).ownBlock = some k) w w') (hf : Fresh w (.slice xa L.length xc) (.slice ya M.length yc)) :
    w'.cell? ⟨g, off + k, none⟩ = some (.slice xa L.length xc) ∧ w'.frozen? ⟨g, off + k, none⟩ = false ∧ PlanQ (w'.setCell ⟨g, off + k, none⟩ (.slice ya M.length yc)) B (.slice (some ⟨g, off, none⟩) n cap) (p.set k ⟨M, ya, yc⟩) ∧ ∀ A, A ≤ B → B ≤ w.heap.size → Below A w (w'.setCell ⟨g, off + k, none⟩ (.slice ya M.length yc)) := by
  obtain ⟨g2, off2, e2, h2, h3, h4, h5, h6, h7⟩ := h.put (y := ⟨M, ya, yc⟩) hx hy hk hf
  simp only [Option.some.injEq, Addr.mk.injEq, and_true] at e2
  obtain ⟨rfl, rfl⟩ := e2
  refine ⟨h4, h5, h6, fun A hA hB => h7.below (by omega) (fun b e => ?_)⟩
  rcases e with e | e
  · have := ((h.inn _ (List.mem_of_getElem? hx)).lt b e).1; omega
  · omega
end Go.Proofs.Ytkgidmifgfoeiaa
