/- While those in a member's way are looked for: what is found so far. -/
import Derived.Test.YthegadhkhbokkaaAccBehind
namespace Go.Proofs.Ythegadhkhbokkaa
open Go Go.RowKit
set_option linter.unusedVariables false

/-- The row of a key, as it is looked up. -/
theorem Mem.look {w : World} {B mb : Nat} {S : Nat → Prop} {N : Nat} {ls : ByteArray → List Nat} (h : Mem w B mb S N ls) (key : ByteArray) :
    ∃ f n la lc, SMap w mb f n ∧ (f key).getD (.slice none 0 0) = .slice la (ls key).length lc ∧ RowAt natK w la (ls key) ∧ (la = none → lc = 0) ∧ (ls key).length ≤ lc ∧ lc ≤ maxLen ∧ ∀ b, rowFoot natK la (ls key) b → S b := by
  obtain ⟨f, n, h1, h2, h3, h4, h5⟩ := h.ex
  cases hf : f key with
  | none =>
    have e := h3 key hf
    refine ⟨f, n, none, 0, h1, ?_, ?_, fun _ => rfl, ?_, ?_, ?_⟩
    · rw [hf, e]; rfl
    · rw [e]; exact nil_row w none
    · rw [e]; exact Nat.le_refl _
    · unfold maxLen; omega
    · rw [e]; exact fun b hb => (nil_foot hb).elim
  | some v =>
    obtain ⟨g, off, cap, rfl, q1, q2, q3, q4⟩ := h4 key v hf
    obtain ⟨c1, c2⟩ := q1.capOf
    refine ⟨f, n, some ⟨g, off, none⟩, cap, h1, ?_, q1.rowOf.1, (fun e => by cases e), c1, c2, fun b hb => ?_⟩
    · rw [hf]; rfl
    · rcases hb with ⟨_, o, e⟩ | ⟨x, _, hx⟩
      · simp only [Option.some.injEq, Addr.mk.injEq] at e
        rw [← e.1]; exact q2
      · exact hx.elim

theorem nodup_len {acc : List Nat} {n : Nat} (hd : acc.Nodup) (hl : ∀ k ∈ acc, k < n) : acc.length ≤ n := by
  have hp : acc.Perm ((List.range n).filter (fun k => decide (k ∈ acc))) := by
    refine (List.perm_ext_iff_of_nodup hd (List.Pairwise.filter _ List.nodup_range)).2 (fun k => ?_)
    rw [List.mem_filter, List.mem_range, decide_eq_true_iff]
    exact ⟨fun h => ⟨hl k h, h⟩, fun h => h.2⟩
  rw [hp.length_eq]
  exact Nat.le_trans (List.length_filter_le _ _) (by rw [List.length_range]; exact Nat.le_refl _)

/-- What is found so far. -/
structure WSt (W w : World) (B sb rb wb fg n : Nat) (SR SW : Nat → Prop) (N : Nat) (lr lw : ByteArray → List Nat) (i : Nat) (q : Value) (acc fd : List Nat) : Prop where
  q : KQ natK 3 w W.heap.size q acc
  s : Srch w B sb rb wb fg n SR SW N lr lw fd
  f : Fnd fd i n acc
  nd : acc.Nodup
  lt : ∀ k ∈ acc, k < n
  k : Kept (fun k => k = fg) W w

theorem WSt.len {W w : World} {B sb rb wb fg n : Nat} {SR SW : Nat → Prop} {N : Nat} {lr lw : ByteArray → List Nat} {i : Nat} {q : Value} {acc fd : List Nat} (h : WSt W w B sb rb wb fg n SR SW N lr lw i q acc fd) : acc.length ≤ n := nodup_len h.nd h.lt

theorem WSt.join {W w w6 w7 : World} {B sb rb wb fg n : Nat} {SR SW : Nat → Prop} {N N0 : Nat} {lr lw lr0 lw0 : ByteArray → List Nat} {i : Nat} {q q' : Value} {acc fd fd0 fd6 fl L : List Nat} (h : WSt W w B sb rb wb fg n SR SW N lr lw i q acc fd) (h0 : Srch W B sb rb wb fg n SR SW N0 lr0 lw0 fd0)
    (s6 : Srch w6 B sb rb wb fg n SR SW N lr lw fd6) (f6 : Fnd fd6 i n (acc ++ fl)) (hm : ∀ k, k ∈ fl ↔ k ∈ L ∧ i < k ∧ ¬ k ∈ acc) (nd6 : fl.Nodup) (hx : ∀ x ∈ L, x < n) (k6 : Kept (fun k => k = fg) w w6)
    (q7 : KQ natK 3 w7 W.heap.size q' (acc ++ fl)) (k7 : Kept (fun k => q.ownBlock = some k) w6 w7) : WSt W w7 B sb rb wb fg n SR SW N lr lw i q' (acc ++ fl) fd6 ∧ (∀ k, k ∈ acc ++ fl ↔ k ∈ acc ∨ (k ∈ L ∧ i < k)) := by
  have hge : ∀ b, q.ownBlock = some b → W.heap.size ≤ b := fun b e => (h.q.lt b e).1
  refine ⟨⟨q7, h0.keptNew s6 k7 hge, f6, ?_, fun k hk => ?_, (h.k.trans k6).transNew k7 hge⟩, fun k => ?_⟩
  · rw [List.nodup_append]
    refine ⟨h.nd, nd6, fun a ha b hb e => ?_⟩
    subst e
    exact ((hm a).1 hb).2.2 ha
  · rcases List.mem_append.1 hk with hk | hk
    · exact h.lt k hk
    · exact hx k ((hm k).1 hk).1
  · rw [List.mem_append, hm k]
    constructor
    · rintro (h1 | ⟨h1, h2, _⟩)
      · exact Or.inl h1
      · exact Or.inr ⟨h1, h2⟩
    · rintro (h1 | ⟨h1, h2⟩)
      · exact Or.inl h1
      · by_cases e : k ∈ acc
        · exact Or.inl e
        · exact Or.inr ⟨h1, h2, e⟩

/-- The row that has grown, ahead of the next append. -/
theorem WSt.afterCall {W w w6 : World} {B sb rb wb fg n : Nat} {SR SW : Nat → Prop} {N N0 : Nat} {lr lw lr0 lw0 : ByteArray → List Nat} {i : Nat} {q : Value} {acc fd fd0 : List Nat} (h : WSt W w B sb rb wb fg n SR SW N lr lw i q acc fd) (h0 : Srch W B sb rb wb fg n SR SW N0 lr0 lw0 fd0) (k6 : Kept (fun k => k = fg) w w6) : KQ natK 3 w6 W.heap.size q acc :=
  h.q.kept k6 (fun k e e2 => by have h1 := (h.q.lt k e).1; have h2 : k = fg := e2; have := h0.fge.2; omega) (fun _ _ _ h => h.elim)

/-- All that is in member i's way behind it. -/
theorem way_all {l : List RwD} {i : Nat} {t : RwD} {acc : List Nat} (ht : l[i]? = some t) (hd : acc.Nodup)
    (hm : ∀ k, k ∈ acc ↔ i < k ∧ ((∃ key ∈ t.ws, k ∈ memL l RwD.rs key l.length ∨ k ∈ memL l RwD.ws key l.length) ∨ ∃ key ∈ t.rs, k ∈ memL l RwD.ws key l.length)) : acc.Perm (wayL l i l.length) := by
  refine (List.perm_ext_iff_of_nodup hd (wayL_nodup l i l.length)).2 (fun k => ?_)
  rw [hm k, wayL_mem]
  constructor
  · rintro ⟨h1, h2⟩
    rcases h2 with ⟨key, hk, h2⟩ | ⟨key, hk, h2⟩
    · rcases h2 with h2 | h2
      · obtain ⟨h3, u, hu, h4⟩ := memL_mem.1 h2
        exact ⟨h3, h1, by rw [adjB_some ht hu, clashB_iff]; exact Or.inl ⟨key, hk, Or.inr h4⟩⟩
      · obtain ⟨h3, u, hu, h4⟩ := memL_mem.1 h2
        exact ⟨h3, h1, by rw [adjB_some ht hu, clashB_iff]; exact Or.inl ⟨key, hk, Or.inl h4⟩⟩
    · obtain ⟨h3, u, hu, h4⟩ := memL_mem.1 h2
      exact ⟨h3, h1, by rw [adjB_some ht hu, clashB_iff]; exact Or.inr ⟨key, h4, hk⟩⟩
  · rintro ⟨h1, h2, h3⟩
    have hu := List.getElem?_eq_getElem h1
    rw [adjB_some ht hu, clashB_iff] at h3
    refine ⟨h2, ?_⟩
    rcases h3 with ⟨key, h4, h5 | h5⟩ | ⟨key, h4, h5⟩
    · exact Or.inl ⟨key, h4, Or.inr (memL_mem.2 ⟨h1, _, hu, h5⟩)⟩
    · exact Or.inl ⟨key, h4, Or.inl (memL_mem.2 ⟨h1, _, hu, h5⟩)⟩
    · exact Or.inr ⟨key, h5, memL_mem.2 ⟨h1, _, hu, h4⟩⟩
end Go.Proofs.Ythegadhkhbokkaa
