/- How many things a map of texts holds: as many as there are texts by which it holds something. -/
import Derived.Test.YthhildeocedpiaaDoorMapStrRange
namespace Go.Proofs.YthhildeocedpiaaDoor
open Go Go.RowKit Go.Maps
set_option linter.unusedVariables false

theorem nodup_len {α : Type} [DecidableEq α] : ∀ (l m : List α), l.Nodup → (∀ x ∈ l, x ∈ m) → l.length ≤ m.length
  | [], m, _, _ => Nat.zero_le _
  | x :: l, m, hn, hs => by
    rw [List.nodup_cons] at hn
    have hx := hs x (by simp)
    have ih := nodup_len l (m.erase x) hn.2 (fun y hy => (List.mem_erase_of_ne (fun e => hn.1 (by rw [← e]; exact hy))).2 (hs y (by simp [hy])))
    rw [List.length_erase_of_mem hx] at ih
    have : 0 < m.length := List.length_pos_of_mem hx
    rw [List.length_cons]
    omega

theorem nodup_same {α : Type} [DecidableEq α] {l m : List α} (hl : l.Nodup) (hm : m.Nodup) (h : ∀ x, x ∈ l ↔ x ∈ m) : l.length = m.length :=
  Nat.le_antisymm (nodup_len l m hl (fun x hx => (h x).1 hx)) (nodup_len m l hm (fun x hx => (h x).2 hx))

theorem nodup_mapI {α β : Type} {g : α → β} (hg : ∀ a b, g a = g b → a = b) : ∀ {l : List α}, l.Nodup → (l.map g).Nodup
  | [], _ => List.nodup_nil
  | x :: l, h => by
    rw [List.nodup_cons] at h
    rw [List.map_cons, List.nodup_cons]
    refine ⟨fun hm => ?_, nodup_mapI hg h.2⟩
    obtain ⟨y, hy, e⟩ := List.mem_map.1 hm
    rw [hg y x e] at hy
    exact h.1 hy

theorem SMap.count {w : World} {b : Nat} {f : ByteArray → Option Value} {n : Nat} (h : SMap w b f n) {L : List ByteArray} (hL : L.Nodup) (hf : ∀ id, (f id).isSome = true ↔ id ∈ L) : n = L.length := by
  obtain ⟨D, ho, h1, h2, h3⟩ := h
  have hkeys : ∃ es : List (Lit × DataW Value), D = .map es ∧ es.Pairwise (fun p q => p.1 ≠ q.1) ∧ ∀ p ∈ es, ∃ s : ByteArray, p.1 = keyS s := by
    obtain ⟨es, hD, hp, _⟩ := ho.entries lawStr
    refine ⟨es, hD, hp, fun p hpm => ?_⟩
    obtain ⟨es', clock, hb, F, hs, hD'⟩ := ho
    rw [hD] at hD'
    simp only [DataW.map.injEq] at hD'
    rw [hD'] at hpm
    obtain ⟨x, hx, rfl⟩ := List.mem_map.1 (mem_sorted.1 hpm)
    obtain ⟨key, hkey⟩ := fit_keys F _ (List.mem_map.2 ⟨x, hx, rfl⟩)
    obtain ⟨s, _, e, _⟩ := Go.WideMaps.string_of_keyOf Tryd.underlying9 hkey
    exact ⟨s, e⟩
  obtain ⟨es, rfl, hp, hk⟩ := hkeys
  have hn : (es.map (·.1)).Nodup := by
    unfold List.Nodup
    rw [List.pairwise_map]
    exact hp
  have hm : (L.map keyS).Nodup := nodup_mapI (fun a b e => keyS_inj e) hL
  have hsame : ∀ kl, kl ∈ es.map (·.1) ↔ kl ∈ L.map keyS := by
    intro kl
    constructor
    · intro hx
      obtain ⟨p, hpm, rfl⟩ := List.mem_map.1 hx
      obtain ⟨s, e⟩ := hk p hpm
      rw [e]
      refine List.mem_map.2 ⟨s, (hf s).1 ?_, rfl⟩
      rw [← h2, has_eq]
      exact List.any_eq_true.2 ⟨p, hpm, by rw [e]; exact WideAt.sameKey_self (keyS_ok _)⟩
    · intro hx
      obtain ⟨s, hs, rfl⟩ := List.mem_map.1 hx
      have := (hf s).2 hs
      rw [← h2, has_eq] at this
      obtain ⟨p, hpm, hpk⟩ := List.any_eq_true.1 this
      exact List.mem_map.2 ⟨p, hpm, WideAt.sameKey_eq hpk⟩
  have := by classical exact nodup_same hn hm hsame
  rw [List.length_map, List.length_map] at this
  rw [← h1, size_eq, this]

/-- What the map is while it is gone through and some are struck: those still to come as they were, of the others those that stay. -/
def mixF (f g : ByteArray → Option Value) (left : ByteArray → Bool) (i : ByteArray) : Option Value := if left i = true then f i else g i

theorem mixF_start (f g : ByteArray → Option Value) (hg : ∀ i, f i = none → g i = none) : ∀ i, f i = mixF f g (fun i => (f i).isSome) i := by
  intro i
  unfold mixF
  cases hf : f i with
  | none => simp [hg i hf]
  | some v => simp [hf]

theorem mixF_stays {f g : ByteArray → Option Value} {left : ByteArray → Bool} {id : ByteArray} (h : f id = g id) : ∀ i, mixF f g (strikeF left id) i = mixF f g left i := by
  intro i
  unfold mixF strikeF
  by_cases e : i = id
  · subst e
    cases left i <;> simp [h]
  · simp [e]

theorem mixF_goes {f g : ByteArray → Option Value} {left : ByteArray → Bool} {id : ByteArray} (h : g id = none) : ∀ i, mixF f g (strikeF left id) i = delF (mixF f g left) id i := by
  intro i
  unfold mixF strikeF delF
  by_cases e : i = id
  · subst e
    simp [h]
  · simp [e]

theorem strikeF_twice (left : ByteArray → Bool) (id : ByteArray) : strikeF (strikeF left id) id = strikeF left id := by
  funext i
  unfold strikeF
  cases left i <;> cases decide (i = id) <;> rfl
end Go.Proofs.YthhildeocedpiaaDoor
