/- A cell of a row of the call's own is written. -/
import Derived.Test.YthhildeocedpiaaDoorKinds
namespace Go.Proofs.YthhildeocedpiaaDoor
open Go.RowKit
set_option linter.unusedVariables false

section
variable {α : Type} {K : Kind α}

theorem flatK_set : ∀ (l : List α) (i : Nat) (x y : α) (k : Nat) (v : Value), l[i]? = some x → k < K.n → K.c y = (K.c x).set k v → flatK K (l.set i y) = (flatK K l).set (i * K.n + k) v
  | [], _, _, _, _, _, h, _, _ => by simp at h
  | z :: r, 0, x, y, k, v, h, hk, hc => by
    simp at h
    subst h
    have e : ∀ q : α, flatK K (q :: r) = K.c q ++ flatK K r := fun q => by simp [flatK]
    rw [List.set_cons_zero, e, e, hc, List.set_append_left _ _ (by rw [K.len]; omega), Nat.zero_mul, Nat.zero_add]
  | z :: r, i + 1, x, y, k, v, h, hk, hc => by
    have ih := flatK_set r i x y k v (by simpa using h) hk hc
    have e : ∀ m : List α, flatK K (z :: m) = K.c z ++ flatK K m := fun m => by simp [flatK]
    rw [List.set_cons_succ, e, e, ih, List.set_append_right _ _ (by rw [K.len, Nat.add_mul]; omega), K.len]
    congr 2
    rw [Nat.add_mul]
    omega

/-- Where an element of a row of the call's own lies; what becomes of the row when a cell of it is written. -/
theorem KQ.set {T : TypeId} {w : World} {base : Nat} {ao : Option Addr} {n cap : Nat} {l : List α} (h : KQ K T w base (.slice ao n cap) l) {i : Nat} {x : α} (hx : l[i]? = some x) :
    ∃ g off, ao = some ⟨g, off, none⟩ ∧ base ≤ g ∧ g < w.heap.size ∧ (∀ k v, (K.c x)[k]? = some v → w.cell? ⟨g, off + i * K.n + k, none⟩ = some v) ∧ (∀ o, w.frozen? ⟨g, o, none⟩ = false) ∧
      ∀ (y : α) (k : Nat) (v : Value), k < K.n → K.c y = (K.c x).set k v → K.At w y → (∀ b, K.foot y b → K.foot x b) → KQ K T (w.setCell ⟨g, off + i * K.n + k, none⟩ v) base (.slice ao n cap) (l.set i y) := by
  have hi := (List.getElem?_eq_some_iff.1 hx).1
  rcases h.row.2 with ⟨ao', hv, hn⟩ | ⟨g, pre, post, cap', hv, hb, hg, hnc, hcm, hpl⟩
  · simp at hv
    omega
  · simp only [Value.slice.injEq] at hv
    obtain ⟨rfl, rfl, rfl⟩ := hv
    have hlen := h.row.1
    have hin : ∀ k, k < K.n → i * K.n + k < (flatK K l).length := by
      intro k hk
      rw [flatK_length]
      have : (i + 1) * K.n ≤ l.length * K.n := Nat.mul_le_mul_right _ hi
      rw [Nat.add_mul] at this
      omega
    refine ⟨g, pre.length, rfl, hb, hg.lt, fun k v hk => ?_, fun o => hg.frozen o, fun y k v hk hc hy hf => ?_⟩
    · have hk' : k < K.n := by have := (List.getElem?_eq_some_iff.1 hk).1; rw [K.len] at this; exact this
      refine hg.cell ?_
      have := hin k hk'
      rw [List.getElem?_append_left (by rw [List.length_append]; omega), List.getElem?_append_right (by omega)]
      have e : pre.length + i * K.n + k - pre.length = i * K.n + k := by omega
      rw [e, flatK_get K l i x hx k hk']
      exact hk
    · have hA := hg.set (pre.length + i * K.n + k) v
      have e1 : (pre ++ flatK K l ++ post).set (pre.length + i * K.n + k) v = pre ++ flatK K (l.set i y) ++ post := by
        have := hin k hk
        rw [flatK_set l i x y k v hx hk hc, List.set_append_left _ _ (by rw [List.length_append]; omega), List.set_append_right _ _ (by omega)]
        congr 3
        omega
      rw [e1] at hA
      have kk := Kept.setCell w ⟨g, pre.length + i * K.n + k, none⟩ v
      have hown : (Value.slice (some ⟨g, pre.length, none⟩) l.length cap).ownBlock = some g := rfl
      refine ⟨⟨by rw [flatK_length, List.length_set], Or.inr ⟨g, pre, post, cap, by rw [List.length_set], hb, hA, by rw [List.length_set]; exact hnc, hcm, by rw [List.length_set]; exact hpl⟩⟩, ?_, ?_, ?_, ?_⟩
      · intro z hz
        rcases List.mem_or_eq_of_mem_set hz with hz | rfl
        · exact K.kept (h.at_ z hz) kk (fun b hb' e => h.off z hz b hb' (by rw [hown]; have e' : b = g := e; rw [e']))
        · exact K.kept hy kk (fun b hb' e => h.off x (List.mem_of_getElem? hx) b (hf b hb') (by rw [hown]; have e' : b = g := e; rw [e']))
      · intro z hz b hb'
        rcases List.mem_or_eq_of_mem_set hz with hz | rfl
        · exact h.off z hz b hb'
        · exact h.off x (List.mem_of_getElem? hx) b (hf b hb')
      · intro q hq
        have := h.lt q hq
        exact ⟨this.1, Nat.lt_of_lt_of_le this.2 kk.size⟩
      · exact h.nil
end
end Go.Proofs.YthhildeocedpiaaDoor
