/- Collected tags as they lie in memory: a place for each number. -/
import Derived.Test.YtbikabjogacfkaaDoorVotesEnough
import Derived.Test.YtbikabjogacfkaaDoorKindsSet
namespace Go.Proofs.YtbikabjogacfkaaDoor
open Go.RowKit
set_option linter.unusedVariables false

/-- Places. -/
def placeK : Kind (Option TagD) where
  n := 3
  c o := match o with
    | none => [.bool false, .int .i64 0, .string ⟨#[]⟩]
    | some t => [.bool true, .int .i64 t.who, .string t.mac]
  foot _ _ := False
  At _ _ := True
  pos := by decide
  len o := by cases o <;> rfl
  one o u hu := by
    cases o <;> simp only [List.mem_cons, List.not_mem_nil, or_false] at hu <;> rcases hu with rfl | rfl | rfl <;> rfl
  lt _ h := h.elim
  keep _ _ := trivial

/-- The cells of collected tags. -/
def votesC (tb : Nat) (kind word : ByteArray) (P : List (Option TagD)) : List Value := .pointer (some ⟨tb, 0, none⟩) :: .string kind :: .string word :: flatK placeK P

/-- Collected tags lie in block vb. -/
def VotesAt (w : World) (vb tb : Nat) (kind word : ByteArray) (P : List (Option TagD)) : Prop := Arr w vb 91 (votesC tb kind word P)

theorem VotesAt.place {w : World} {vb tb : Nat} {kind word : ByteArray} {P : List (Option TagD)} (h : VotesAt w vb tb kind word P) {j : Nat} {o : Option TagD} (ho : P[j]? = some o) {k : Nat} {v : Value} (hv : (placeK.c o)[k]? = some v) : w.cell? ⟨vb, 3 + j * 3 + k, none⟩ = some v := by
  have hk : k < placeK.n := by have := (List.getElem?_eq_some_iff.1 hv).1; rw [placeK.len] at this; exact this
  refine Arr.cell h ?_
  have hg := flatK_get placeK P j o ho k hk
  have e : 3 + j * 3 + k = (j * 3 + k) + 3 := by omega
  rw [e]
  show (flatK placeK P)[j * 3 + k]? = some v
  rw [← hv]
  exact hg

theorem VotesAt.kept {S : Nat → Prop} {w w' : World} {vb tb : Nat} {kind word : ByteArray} {P : List (Option TagD)} (h : VotesAt w vb tb kind word P) (hk : Kept S w w') (hn : ¬ S vb) : VotesAt w' vb tb kind word P := by
  unfold VotesAt Arr at h ⊢
  rw [hk.block vb (Arr.lt h) hn, h]

theorem VotesAt.below {w w' : World} {vb tb : Nat} {kind word : ByteArray} {P : List (Option TagD)} (h : VotesAt w vb tb kind word P) (hb : Below w.heap.size w w') : VotesAt w' vb tb kind word P := Arr.below h hb (Arr.lt h)

/-- A tag is put into its place. -/
theorem VotesAt.put {w : World} {vb tb : Nat} {kind word : ByteArray} {P : List (Option TagD)} (h : VotesAt w vb tb kind word P) {j : Nat} (ho : P[j]? = some none) (t : TagD) :
    VotesAt (((w.setCell ⟨vb, 3 + j * 3, none⟩ (.bool true)).setCell ⟨vb, 3 + j * 3 + 1, none⟩ (.int .i64 t.who)).setCell ⟨vb, 3 + j * 3 + 2, none⟩ (.string t.mac)) vb tb kind word (P.set j (some t)) := by
  have hj := (List.getElem?_eq_some_iff.1 ho).1
  have h1 := ((Arr.set h (3 + j * 3) (.bool true)).set (3 + j * 3 + 1) (.int .i64 t.who)).set (3 + j * 3 + 2) (.string t.mac)
  have e0 := flatK_set (K := placeK) P j none (some ⟨0, ⟨#[]⟩⟩) 0 (.bool true) ho (by decide) rfl
  have e1 := flatK_set (K := placeK) (P.set j (some ⟨0, ⟨#[]⟩⟩)) j (some ⟨0, ⟨#[]⟩⟩) (some ⟨t.who, ⟨#[]⟩⟩) 1 (.int .i64 t.who) (by rw [List.getElem?_set, if_pos rfl, if_pos hj]) (by decide) rfl
  have e2 := flatK_set (K := placeK) (P.set j (some ⟨t.who, ⟨#[]⟩⟩)) j (some ⟨t.who, ⟨#[]⟩⟩) (some t) 2 (.string t.mac) (by rw [List.getElem?_set, if_pos rfl, if_pos hj]) (by decide) rfl
  rw [List.set_set] at e1 e2
  rw [e1, e0] at e2
  have ex : ∀ (l : List Value) (k : Nat) (v a b c : Value), (a :: b :: c :: l).set (3 + j * 3 + k) v = a :: b :: c :: l.set (j * 3 + k) v := by
    intro l k v a b c
    have e : 3 + j * 3 + k = (j * 3 + k) + 3 := by omega
    rw [e]
    rfl
  have ez := ex (flatK placeK P) 0 (.bool true)
  simp only [Nat.add_zero] at ez
  unfold votesC at h1
  rw [ez, ex, ex] at h1
  unfold VotesAt votesC
  have en : placeK.n = 3 := rfl
  rw [en] at e2
  rw [e2]
  exact h1
end Go.Proofs.YtbikabjogacfkaaDoor
