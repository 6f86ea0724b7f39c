/- What (access.groups).least and join do. -/
import Derived.Test.YtcjmeaikdfgapaaDoorAccTx
import Derived.Test.YtcjmeaikdfgapaaDoorAccUnion
import Derived.Laws.OwnMore
namespace Go.Proofs.YtcjmeaikdfgapaaDoor
open Go Go.RowKit
set_option linter.unusedVariables false

/-- A number of a row of the call's own, and how it is written. -/
theorem KQ.natSet {T : TypeId} {w : World} {B g off n cap : Nat} {l : List Nat} (h : KQ natK T w B (.slice (some ⟨g, off, none⟩) n cap) l) {i x : Nat} (hx : l[i]? = some x) :
    w.cell? ⟨g, off + i, none⟩ = some (.int .i64 (x : Int)) ∧ w.frozen? ⟨g, off + i, none⟩ = false ∧ B ≤ g ∧ g < w.heap.size ∧ ∀ v : Nat, KQ natK T (w.setCell ⟨g, off + i, none⟩ (.int .i64 (v : Int))) B (.slice (some ⟨g, off, none⟩) n cap) (l.set i v) := by
  obtain ⟨g', off', e', q2, q3, q4, q5, q6⟩ := h.set hx
  simp only [Option.some.injEq, Addr.mk.injEq, and_true] at e'
  obtain ⟨rfl, rfl⟩ := e'
  have e : off + i * natK.n + 0 = off + i := by show off + i * 1 + 0 = _; omega
  refine ⟨?_, q5 _, q2, q3, fun v => ?_⟩
  · have := q4 0 _ rfl
    rw [e] at this
    exact this
  · have := q6 v 0 (.int .i64 (v : Int)) (by show 0 < 1; decide) rfl trivial (fun _ h => h)
    rw [e] at this
    exact this

theorem KQ.natAt {T : TypeId} {w : World} {B n cap : Nat} {ao : Option Addr} {l : List Nat} (h : KQ natK T w B (.slice ao n cap) l) (hl : 0 < l.length) : ∃ g off, ao = some ⟨g, off, none⟩ := by
  obtain ⟨g, off, e, _⟩ := h.spot hl
  exact ⟨g, off, e⟩

/-- What points to an end stays as it is. -/
def Stay (g g' : List Nat) : Prop := ∀ x, up g (up g x) = up g x → up g' x = up g x

theorem Stay.refl (g : List Nat) : Stay g g := fun _ _ => rfl

theorem Stay.trans {g g' g'' : List Nat} (h : Stay g g') (k : Stay g' g'') : Stay g g'' := by
  intro x hx
  have h1 := h x hx
  have h2 := h (up g x) (by rw [hx, hx])
  rw [hx] at h2
  have h3 := k x (by rw [h1]; exact h2)
  rw [h3, h1]

theorem stay_halve {g : List Nat} {j : Nat} (hj : j < g.length) : Stay g (g.set j (up g (up g j))) := by
  intro x hx
  rw [up_set hj]
  split
  · rename_i e
    rw [e] at hx ⊢
    exact hx
  · rfl

/-- The least one of a group is told. -/
def GotLeast (l : List RwD) (W : World) (B g : Nat) (q : Value) (gl : List Nat) (i : Nat) (e : Ending) (w : World) : Prop :=
  ∃ r gl', e = .returned (.int .i64 ((r : Nat) : Int)) ∧ Root gl i r ∧ KQ natK 3 w B q gl' ∧ UF l gl' ∧ (∀ x s, Root gl x s → Root gl' x s) ∧ Stay gl gl' ∧ Kept (fun k => k = g) W w

/-- Two groups are joined. -/
def GotJoin (l : List RwD) (W : World) (B g : Nat) (q : Value) (gl : List Nat) (i k : Nat) (e : Ending) (w : World) : Prop :=
  e = .returned (.tuple #[]) ∧ ∃ gl', KQ natK 3 w B q gl' ∧ UF l gl' ∧ (∀ x y, Same2 gl x y → Same2 gl' x y) ∧ Same2 gl' i k ∧ Kept (fun k => k = g) W w
end Go.Proofs.YtcjmeaikdfgapaaDoor
