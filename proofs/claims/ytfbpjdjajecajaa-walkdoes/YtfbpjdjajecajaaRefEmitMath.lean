/- Those that are gone through grow until nothing comes to them. -/
import Derived.Test.YtfbpjdjajecajaaWalkDfs
namespace Go.Proofs.Ytfbpjdjajecajaa
open Go
set_option linter.unusedVariables false

/-- T: those that are gone through; the first i of them are looked at. -/
structure Thr (g : GrD) (id : ByteArray) (T : List ByteArray) (i : Nat) : Prop where
  me : id ∈ T
  re : ∀ x ∈ T, Reach g id x
  nd : T.Pairwise (fun a b => a ≠ b)
  cl : ∀ j x, j < i → T[j]? = some x → ∀ p ∈ upsV g x, p ∈ T

theorem Thr.start (g : GrD) (id : ByteArray) : Thr g id [id] 0 :=
  ⟨List.mem_singleton.2 rfl, fun x hx => by rw [List.mem_singleton.1 hx]; exact Reach.me, List.pairwise_singleton _ _, fun j x hj => by omega⟩

theorem Thr.more {g : GrD} {id : ByteArray} {T : List ByteArray} {i : Nat} (h : Thr g id T i) {x p : ByteArray} (hx : x ∈ T) (hp : p ∈ upsV g x) (hn : p ∉ T) (hi : i ≤ T.length) : Thr g id (T ++ [p]) i := by
  refine ⟨List.mem_append.2 (Or.inl h.me), fun y hy => ?_, ?_, fun j y hj hy q hq => ?_⟩
  · rcases List.mem_append.1 hy with hy | hy
    · exact h.re y hy
    · rw [List.mem_singleton.1 hy]
      exact upsV_reach (h.re x hx) hp
  · rw [List.pairwise_append]
    refine ⟨h.nd, List.pairwise_singleton _ _, fun a ha b hb e => ?_⟩
    rw [List.mem_singleton.1 hb] at e
    rw [e] at ha
    exact hn ha
  · rw [List.getElem?_append_left (by omega)] at hy
    exact List.mem_append.2 (Or.inl (h.cl j y hj hy q hq))

theorem Thr.next {g : GrD} {id : ByteArray} {T : List ByteArray} {i : Nat} (h : Thr g id T i) (hc : ∀ x, T[i]? = some x → ∀ p ∈ upsV g x, p ∈ T) : Thr g id T (i + 1) :=
  ⟨h.me, h.re, h.nd, fun j x hj hx => by
    by_cases hji : j < i
    · exact h.cl j x hji hx
    · obtain rfl : j = i := by omega
      exact hc x hx⟩

theorem Thr.ends {g : GrD} {id : ByteArray} {T : List ByteArray} {i : Nat} (h : Thr g id T i) (hi : T.length ≤ i) (x : ByteArray) : x ∈ T ↔ Reach g id x := by
  refine ⟨h.re x, fun hr => reach_of_closed h.me (fun y hy p hp => ?_) hr⟩
  obtain ⟨j, hj⟩ := List.getElem?_of_mem hy
  exact h.cl j y (Nat.lt_of_lt_of_le (List.getElem?_eq_some_iff.1 hj).1 hi) hj p hp

theorem reach_from {g : GrD} {id x : ByteArray} (h : Reach g id x) : x ∈ id :: g.L.flatMap (·.parents) := by
  cases h with
  | me => exact List.mem_cons_self
  | up h1 h2 h3 h4 h5 => exact List.mem_cons_of_mem _ (List.mem_flatMap.2 ⟨_, (getV_some h2).1, h5⟩)

theorem flat_len {L : List VtxD} (h : ∀ v ∈ L, v.parents.length ≤ 7) : (L.flatMap (·.parents)).length ≤ 7 * L.length := by
  induction L with
  | nil => simp
  | cons v r ih =>
    rw [List.flatMap_cons, List.length_append, List.length_cons]
    have := h v List.mem_cons_self
    have := ih (fun u hu => h u (List.mem_cons_of_mem _ hu))
    omega

/-- They are few. -/
theorem Thr.few {g : GrD} {id : ByteArray} {T : List ByteArray} {i : Nat} (h : Thr g id T i) (hg : GrOk g) : T.length ≤ 1793 := by
  have h1 := nodup_lenW (l := T) (m := id :: g.L.flatMap (·.parents)) h.nd (fun x hx => reach_from (h.re x hx))
  have h2 := flat_len hg.ps
  have h3 := hg.n
  rw [List.length_cons] at h1
  omega
end Go.Proofs.Ytfbpjdjajecajaa
