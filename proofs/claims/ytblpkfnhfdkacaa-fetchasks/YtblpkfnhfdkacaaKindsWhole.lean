/- A whole element of a row of the call's own is written. -/
import Derived.Test.YtblpkfnhfdkacaaKindsSet
namespace Go.Proofs.Ytblpkfnhfdkacaa
open Go Go.RowKit
set_option linter.unusedVariables false

theorem setCells_kept (g : Nat) : ∀ (vs : List Value) (o : Nat) (w : World), Kept (fun k => k = g) w (w.setCells g o vs)
  | [], _, w => Kept.refl _ _
  | v :: vs, o, w => (Kept.setCell w ⟨g, o, none⟩ v).trans (setCells_kept g vs (o + 1) (w.setCell ⟨g, o, none⟩ v))

section
variable {α : Type} {K : Kind α}

theorem flatK_split : ∀ (l : List α) (i : Nat) (x : α), l[i]? = some x → ∃ a b, a.length = i * K.n ∧ flatK K l = a ++ K.c x ++ b ∧ ∀ y, flatK K (l.set i y) = a ++ K.c y ++ b
  | [], _, _, h => by simp at h
  | z :: r, 0, x, h => by
    simp at h
    subst h
    exact ⟨[], flatK K r, by simp, by simp [flatK], fun y => by simp [flatK]⟩
  | z :: r, i + 1, x, h => by
    obtain ⟨a, b, h1, h2, h3⟩ := flatK_split r i x (by simpa using h)
    have e : ∀ m : List α, flatK K (z :: m) = K.c z ++ flatK K m := fun m => by simp [flatK]
    refine ⟨K.c z ++ a, b, ?_, ?_, fun y => ?_⟩
    · rw [List.length_append, K.len, h1, Nat.add_mul]; omega
    · rw [e, h2]; simp
    · rw [List.set_cons_succ, e, h3]; simp

/-- Where an element of a row of the call's own lies; what becomes of the row when another one is written there. -/
theorem KQ.setWhole {T : TypeId} {w : World} {base : Nat} {ao : Option Addr} {n cap : Nat} {l : List α} (h : KQ K T w base (.slice ao n cap) l) {i : Nat} {x : α} (hx : l[i]? = some x) :
    ∃ g off, ao = some ⟨g, off, none⟩ ∧ base ≤ g ∧ g < w.heap.size ∧ (∀ k v, (K.c x)[k]? = some v → w.cell? ⟨g, off + i * K.n + k, none⟩ = some v) ∧ (∀ o, w.frozen? ⟨g, o, none⟩ = false) ∧
      ∀ y : α, K.At w y → (∀ b, K.foot y b → b ≠ g) → KQ K T (w.setCells g (off + i * K.n) (K.c y)) base (.slice ao n cap) (l.set i y) := by
  obtain ⟨g0, off0, q1, q2, q3, q4, q5, _⟩ := h.set hx
  have hi := (List.getElem?_eq_some_iff.1 hx).1
  refine ⟨g0, off0, q1, q2, q3, q4, q5, fun y hy hf => ?_⟩
  rcases h.row.2 with ⟨ao', hv, hn⟩ | ⟨g, pre, post, cap', hv, hb, hg, hnc, hcm, hpl⟩
  · simp at hv
    omega
  · simp only [Value.slice.injEq] at hv
    obtain ⟨rfl, rfl, rfl⟩ := hv
    simp only [Option.some.injEq, Addr.mk.injEq, and_true] at q1
    obtain ⟨rfl, rfl⟩ := q1
    obtain ⟨a, b, s1, s2, s3⟩ := flatK_split (K := K) l i x hx
    have hA : Arr (w.setCells g (pre.length + i * K.n) (K.c y)) g T (pre ++ flatK K (l.set i y) ++ post) := by
      have h1 : Arr w g T ((pre ++ a) ++ K.c x ++ (b ++ post)) := by
        have e : (pre ++ a) ++ K.c x ++ (b ++ post) = pre ++ flatK K l ++ post := by rw [s2]; simp
        rw [e]; exact hg
      have h2 := Arr.setCells (K.c y) w (pre ++ a) (K.c x) (b ++ post) (by rw [K.len, K.len]) h1
      rw [List.length_append, s1] at h2
      have e : (pre ++ a) ++ K.c y ++ (b ++ post) = pre ++ flatK K (l.set i y) ++ post := by rw [s3]; simp
      rw [← e]; exact h2
    have kk := setCells_kept g (K.c y) (pre.length + i * K.n) w
    have hown : (Value.slice (some ⟨g, pre.length, none⟩) l.length cap).ownBlock = some g := rfl
    refine ⟨⟨by rw [flatK_length, List.length_set], Or.inr ⟨g, pre, post, cap, by rw [List.length_set], hb, hA, by rw [List.length_set]; exact hnc, hcm, by rw [List.length_set]; exact hpl⟩⟩, ?_, ?_, ?_, ?_⟩
    · intro z hz
      rcases List.mem_or_eq_of_mem_set hz with hz | rfl
      · exact K.kept (h.at_ z hz) kk (fun b hb' e => h.off z hz b hb' (by rw [hown, e]))
      · exact K.kept hy kk (fun b hb' e => hf b hb' e)
    · intro z hz b hb'
      rcases List.mem_or_eq_of_mem_set hz with hz | rfl
      · exact h.off z hz b hb'
      · intro e
        have e' : g = b := by simpa [Value.ownBlock] using e
        exact hf b hb' e'.symm
    · intro q hq
      have := h.lt q hq
      exact ⟨this.1, Nat.lt_of_lt_of_le this.2 kk.size⟩
    · exact h.nil
end
end Go.Proofs.Ytblpkfnhfdkacaa
