/- What (access.groups).joinBy, access.lastWriters and access.Groups do. -/
import Derived.Test.YtkgidmifgfoeiaaAccLeast
import Derived.Test.YtkgidmifgfoeiaaMapStr
import Derived.Test.YtkgidmifgfoeiaaAccClash
namespace Go.Proofs.Ytkgidmifgfoeiaa
open Go Go.RowKit
set_option linter.unusedVariables false

/-- The last writers, as a map tells them. -/
def lastF (l : List RwD) (key : ByteArray) : Option Value := (lastN l key l.length).map (fun w => .int .i64 ((w : Nat) : Int))

/-- All these keys' last writers are joined with member i. -/
def JnK (l : List RwD) (g : List Nat) (i : Nat) (ks : List ByteArray) : Prop := ∀ key ∈ ks, ∀ w, lastN l key l.length = some w → Same2 g i w

theorem JnK.mono {l : List RwD} {g g' : List Nat} {i : Nat} {ks : List ByteArray} (h : JnK l g i ks) (hs : ∀ x y, Same2 g x y → Same2 g' x y) : JnK l g' i ks := fun key hk w hw => hs _ _ (h key hk w hw)

theorem JnK.more {l : List RwD} {g : List Nat} {i j : Nat} {ks : List ByteArray} {y : ByteArray} (hy : ks[j]? = some y) (h : JnK l g i (ks.take j)) (hn : ∀ w, lastN l y l.length = some w → Same2 g i w) : JnK l g i (ks.take (j + 1)) := by
  intro key hk w hw
  rw [List.take_add_one, hy, List.mem_append] at hk
  rcases hk with hk | hk
  · exact h key hk w hw
  · simp only [Option.toList_some, List.mem_singleton] at hk
    subst hk
    exact hn w hw

/-- A member is joined with the last writers of its keys. -/
def GotJoinBy (l : List RwD) (W : World) (B g : Nat) (q : Value) (gl : List Nat) (i : Nat) (ks : List ByteArray) (e : Ending) (w : World) : Prop :=
  e = .returned (.tuple #[]) ∧ ∃ gl', KQ natK 3 w B q gl' ∧ UF l gl' ∧ (∀ x y, Same2 gl x y → Same2 gl' x y) ∧ JnK l gl' i ks ∧ Kept (fun k => k = g) W w
end Go.Proofs.Ytkgidmifgfoeiaa
