/- What (access.members).add does: those that declare a key, by a map of rows. -/
import Derived.Test.YthegadhkhbokkaaAccClash
namespace Go.Proofs.Ythegadhkhbokkaa
open Go Go.RowKit
set_option linter.unusedVariables false

/-- Those below i that declare a key. -/
def memL (l : List RwD) (pr : RwD → List ByteArray) (key : ByteArray) (i : Nat) : List Nat := (List.range i).filter (fun k => match l[k]? with | some t => inK (pr t) key | none => false)

/-- The same, of member i's first keys too. -/
def memP (l : List RwD) (pr : RwD → List ByteArray) (i : Nat) (ks : List ByteArray) (key : ByteArray) : List Nat := memL l pr key i ++ (if inK ks key = true then [i] else [])

theorem memP_nil (l : List RwD) (pr : RwD → List ByteArray) (i : Nat) (key : ByteArray) : memP l pr i [] key = memL l pr key i := by
  unfold memP
  have e0 : inK [] key = false := rfl
  rw [e0]
  simp

theorem memP_end {l : List RwD} {i : Nat} {t : RwD} (ht : l[i]? = some t) (pr : RwD → List ByteArray) (key : ByteArray) : memL l pr key (i + 1) = memP l pr i (pr t) key := by
  unfold memP memL
  rw [List.range_succ, List.filter_append]
  congr 1
  by_cases h : inK (pr t) key = true
  · rw [if_pos h, List.filter_cons_of_pos (by rw [ht]; exact h)]; rfl
  · rw [if_neg h, List.filter_cons_of_neg (by rw [ht]; exact h)]; rfl

theorem memL_mem {l : List RwD} {pr : RwD → List ByteArray} {key : ByteArray} {i k : Nat} : k ∈ memL l pr key i ↔ k < i ∧ ∃ t, l[k]? = some t ∧ key ∈ pr t := by
  unfold memL
  rw [List.mem_filter, List.mem_range]
  cases hk : l[k]? with
  | none => simp
  | some t => simp [inK_iff]

theorem memL_rise (l : List RwD) (pr : RwD → List ByteArray) (key : ByteArray) (i : Nat) : (memL l pr key i).Pairwise (· < ·) := List.Pairwise.filter _ List.pairwise_lt_range

theorem memL_length (l : List RwD) (pr : RwD → List ByteArray) (key : ByteArray) (i : Nat) : (memL l pr key i).length ≤ i := by
  unfold memL
  exact Nat.le_trans (List.length_filter_le _ _) (by rw [List.length_range]; exact Nat.le_refl _)

theorem memP_length (l : List RwD) (pr : RwD → List ByteArray) (i : Nat) (ks : List ByteArray) (key : ByteArray) : (memP l pr i ks key).length ≤ i + 1 := by
  unfold memP
  have := memL_length l pr key i
  rw [List.length_append]
  split <;> simp <;> omega

theorem memP_has {l : List RwD} {pr : RwD → List ByteArray} {i j : Nat} {ks : List ByteArray} {y : ByteArray} (hy : ks[j]? = some y) (h : inK (ks.take j) y = true) (key : ByteArray) : memP l pr i (ks.take (j + 1)) key = memP l pr i (ks.take j) key := by
  unfold memP
  rw [List.take_add_one, hy]
  simp only [Option.toList_some, inK_snoc]
  by_cases e : y = key
  · subst e; rw [h]; simp
  · rw [decide_eq_false e, Bool.or_false]

theorem memP_put {l : List RwD} {pr : RwD → List ByteArray} {i j : Nat} {ks : List ByteArray} {y : ByteArray} (hy : ks[j]? = some y) (h : ¬ inK (ks.take j) y = true) (key : ByteArray) : memP l pr i (ks.take (j + 1)) key = if key = y then memP l pr i (ks.take j) y ++ [i] else memP l pr i (ks.take j) key := by
  unfold memP
  rw [List.take_add_one, hy]
  simp only [Option.toList_some, inK_snoc]
  by_cases e : key = y
  · subst e
    rw [if_pos rfl, if_neg h]
    simp
  · rw [if_neg e, decide_eq_false (fun e' => e e'.symm), Bool.or_false]

/-- The last one is member i just if the key stands among the first keys. -/
theorem memP_last {l : List RwD} {pr : RwD → List ByteArray} {i : Nat} {ks : List ByteArray} {key : ByteArray} {n z : Nat} (hn : (memP l pr i ks key).length = n + 1) (hz : (memP l pr i ks key)[n]? = some z) : (inK ks key = true → z = i) ∧ (¬ inK ks key = true → z < i) := by
  unfold memP at hn hz
  constructor
  · intro h
    rw [if_pos h] at hn hz
    rw [List.length_append, List.length_singleton] at hn
    rw [List.getElem?_append_right (by omega), show n - (memL l pr key i).length = 0 by omega] at hz
    simpa using hz.symm
  · intro h
    rw [if_neg h, List.append_nil] at hz
    exact (memL_mem.1 (List.mem_of_getElem? hz)).1

/-- A map of keys to rows of the call's own that lie apart. -/
structure Mem (w : World) (B mb : Nat) (S : Nat → Prop) (N : Nat) (ls : ByteArray → List Nat) : Prop where
  ex : ∃ f n, SMap w mb f n ∧ n ≤ N ∧ (∀ key, f key = none → ls key = []) ∧
    (∀ key v, f key = some v → ∃ g off cap, v = .slice (some ⟨g, off, none⟩) (ls key).length cap ∧ KQ natK 3 w B v (ls key) ∧ S g ∧ g ≠ mb ∧ 0 < (ls key).length) ∧
    ∀ k1 k2 v1 v2 b, f k1 = some v1 → f k2 = some v2 → v1.ownBlock = some b → v2.ownBlock = some b → k1 = k2
  mb_in : S mb
  ge : ∀ b, S b → B ≤ b
  lt : ∀ b, S b → b < w.heap.size

theorem Mem.congr {w : World} {B mb : Nat} {S : Nat → Prop} {N : Nat} {ls ls' : ByteArray → List Nat} (h : Mem w B mb S N ls) (e : ∀ key, ls' key = ls key) : Mem w B mb S N ls' := by
  have : ls' = ls := funext e
  rw [this]
  exact h

theorem Mem.mono {w : World} {B mb : Nat} {S : Nat → Prop} {N N' : Nat} {ls : ByteArray → List Nat} (h : Mem w B mb S N ls) (e : N ≤ N') : Mem w B mb S N' ls := by
  obtain ⟨f, n, h1, h2, h3⟩ := h.ex
  exact ⟨⟨f, n, h1, Nat.le_trans h2 e, h3⟩, h.mb_in, h.ge, h.lt⟩

theorem Mem.kept {T : Nat → Prop} {w w' : World} {B mb : Nat} {S : Nat → Prop} {N : Nat} {ls : ByteArray → List Nat} (h : Mem w B mb S N ls) (hk : Kept T w w') (hn : ∀ b, S b → ¬ T b) : Mem w' B mb S N ls := by
  obtain ⟨f, n, h1, h2, h3, h4, h5⟩ := h.ex
  refine ⟨⟨f, n, h1.kept hk (hn _ h.mb_in), h2, h3, fun key v hv => ?_, h5⟩, h.mb_in, h.ge, fun b hb => Nat.lt_of_lt_of_le (h.lt b hb) hk.size⟩
  obtain ⟨g, off, cap, rfl, q1, q2, q3, q4⟩ := h4 key v hv
  refine ⟨g, off, cap, rfl, q1.kept hk (fun k e => ?_) (fun _ _ _ h => h.elim), q2, q3, q4⟩
  simp only [Value.ownBlock, Option.some.injEq] at e
  subst e
  exact hn _ q2

theorem Mem.below {w w' : World} {B mb : Nat} {S : Nat → Prop} {N : Nat} {ls : ByteArray → List Nat} (h : Mem w B mb S N ls) (hb : Below w.heap.size w w') : Mem w' B mb S N ls :=
  h.kept (T := fun _ => False) (Kept.of_below hb) (fun _ _ h => h)

theorem Mem.new (w : World) : Mem (w.alloc (.map #[] 0)) w.heap.size w.heap.size (fun b => b = w.heap.size) 0 (fun _ => []) :=
  ⟨⟨_, 0, SMap.new w, Nat.le_refl _, fun _ _ => rfl, fun _ _ h => by simp at h, fun _ _ _ _ _ h => by simp at h⟩, rfl, fun b e => by omega, fun b e => by rw [alloc_size]; omega⟩

/-- One more of a key: its row was put back. -/
theorem Mem.put {w w3 w4 : World} {B mb : Nat} {S : Nat → Prop} {N : Nat} {ls : ByteArray → List Nat} {f : ByteArray → Option Value} {n : Nat} {y : ByteArray} {x : Nat} {q : Value} {ao : Option Addr} {cap : Nat}
    (h : Mem w B mb S N ls) (h1 : SMap w mb f n) (h2 : n ≤ N) (h3 : ∀ key, f key = none → ls key = [])
    (h4 : ∀ key v, f key = some v → ∃ g off cap, v = .slice (some ⟨g, off, none⟩) (ls key).length cap ∧ KQ natK 3 w B v (ls key) ∧ S g ∧ g ≠ mb ∧ 0 < (ls key).length)
    (h5 : ∀ k1 k2 v1 v2 b, f k1 = some v1 → f k2 = some v2 → v1.ownBlock = some b → v2.ownBlock = some b → k1 = k2)
    (hq : q = .slice none 0 0 ∨ f y = some q) (hQ : KQ natK 3 w3 B (.slice ao ((ls y).length + 1) cap) (ls y ++ [x])) (hk : Kept (fun k => q.ownBlock = some k) w w3) (hf : Fresh w q (.slice ao ((ls y).length + 1) cap))
    (hM : SMap w4 mb (putF f y (.slice ao ((ls y).length + 1) cap)) (putN f y n)) (hk4 : Kept (fun k => k = mb) w3 w4) :
    ∃ S', Mem w4 B mb S' (N + 1) (fun key => if key = y then ls y ++ [x] else ls key) ∧ FreshS w S S' ∧ Kept S w w4 := by
  have hqS : ∀ b, q.ownBlock = some b → S b ∧ b ≠ mb := fun b hb => by
    rcases hq with rfl | hq
    · cases hb
    · obtain ⟨g, off, cap, rfl, q1, q2, q3, q4⟩ := h4 y q hq
      simp only [Value.ownBlock, Option.some.injEq] at hb
      subst hb
      exact ⟨q2, q3⟩
  have hqy : ∀ key v b, f key = some v → v.ownBlock = some b → q.ownBlock = some b → key = y := fun key v b hv hb hqb => by
    rcases hq with rfl | hq
    · cases hqb
    · exact h5 _ _ _ _ b hv hq hb hqb
  obtain ⟨g, off, rfl, hge, hgl, _, _⟩ := hQ.spot (by simp)
  have hgm : g ≠ mb := by
    rcases hf g rfl with e | e
    · exact (hqS g e).2
    · have := h.lt mb h.mb_in; omega
  have hK : Kept S w w4 := (hk.mono (fun k _ e => (hqS k e).1)).trans (hk4.mono (fun k _ e => by have e' : k = mb := e; rw [e']; exact h.mb_in))
  have hQ4 := hQ.kept hk4 (fun k e => by
    simp only [Value.ownBlock, Option.some.injEq] at e
    show ¬ k = mb
    omega) (fun _ _ _ h => h.elim)
  refine ⟨fun b => S b ∨ b = g, ⟨⟨_, _, hM, ?_, fun key hn => ?_, fun key v hv => ?_, fun k1 k2 v1 v2 b hv1 hv2 hb1 hb2 => ?_⟩, Or.inl h.mb_in, fun b hb => ?_, fun b hb => ?_⟩, fun k hk' => ?_, hK⟩
  · have := putN_le f y n
    omega
  · unfold putF at hn
    by_cases e : key = y
    · rw [if_pos e] at hn; cases hn
    · rw [if_neg e] at hn
      show (if key = y then _ else _) = _
      rw [if_neg e]
      exact h3 key hn
  · unfold putF at hv
    by_cases e : key = y
    · rw [if_pos e, Option.some.injEq] at hv
      subst hv
      show ∃ g off cap, _ = Value.slice _ (if key = y then _ else _ : List Nat).length _ ∧ KQ natK 3 w4 B _ (if key = y then _ else _) ∧ _ ∧ _ ∧ 0 < (if key = y then _ else _ : List Nat).length
      rw [if_pos e]
      exact ⟨g, off, cap, by rw [List.length_append, List.length_singleton], hQ4, Or.inr rfl, hgm, by simp⟩
    · rw [if_neg e] at hv
      obtain ⟨g2, off2, cap2, rfl, q1, q2, q3, q4⟩ := h4 key v hv
      show ∃ g off cap, _ = Value.slice _ (if key = y then _ else _ : List Nat).length _ ∧ KQ natK 3 w4 B _ (if key = y then _ else _) ∧ _ ∧ _ ∧ 0 < (if key = y then _ else _ : List Nat).length
      rw [if_neg e]
      refine ⟨g2, off2, cap2, rfl, (q1.kept hk (fun k e2 e3 => e (hqy key _ k hv e2 e3)) (fun _ _ _ h => h.elim)).kept hk4 (fun k e2 => ?_) (fun _ _ _ h => h.elim), Or.inl q2, q3, q4⟩
      simp only [Value.ownBlock, Option.some.injEq] at e2
      show ¬ k = mb
      omega
  · have hnew : ∀ key v, f key = some v → v.ownBlock = some g → key = y := fun key v hv hb => by
      rcases hf g rfl with e | e
      · exact hqy key v g hv hb e
      · obtain ⟨g2, off2, cap2, rfl, q1, q2, q3, q4⟩ := h4 key v hv
        simp only [Value.ownBlock, Option.some.injEq] at hb
        have := h.lt g2 q2
        omega
    unfold putF at hv1 hv2
    by_cases e1 : k1 = y
    · by_cases e2 : k2 = y
      · rw [e1, e2]
      · rw [if_pos e1, Option.some.injEq] at hv1
        rw [if_neg e2] at hv2
        subst hv1
        simp only [Value.ownBlock, Option.some.injEq] at hb1
        subst hb1
        rw [hnew k2 v2 hv2 hb2, e1]
    · by_cases e2 : k2 = y
      · rw [if_pos e2, Option.some.injEq] at hv2
        rw [if_neg e1] at hv1
        subst hv2
        simp only [Value.ownBlock, Option.some.injEq] at hb2
        subst hb2
        rw [hnew k1 v1 hv1 hb1, e2]
      · rw [if_neg e1] at hv1
        rw [if_neg e2] at hv2
        exact h5 _ _ _ _ b hv1 hv2 hb1 hb2
  · rcases hb with hb | rfl
    · exact h.ge b hb
    · exact hge
  · rcases hb with hb | rfl
    · exact Nat.lt_of_lt_of_le (h.lt b hb) hK.size
    · exact Nat.lt_of_lt_of_le hgl hk4.size
  · rcases hk' with hk' | rfl
    · exact Or.inl hk'
    · rcases hf k rfl with e | e
      · exact Or.inl (hqS k e).1
      · exact Or.inr e
end Go.Proofs.Ythegadhkhbokkaa
