/- A line of blocks: how the program's chain lies while blocks rest on each other in one line. -/
import Derived.Test.YthhildeocedpiaaDoorWalkRows
import Derived.Test.YthhildeocedpiaaDoorBlkRepeat
import Derived.Test.YthhildeocedpiaaDoorMapStrOps
import Derived.Test.YthhildeocedpiaaDoorRowsMore
namespace Go.Proofs.YthhildeocedpiaaDoor
open Go Go.RowKit
set_option linter.unusedVariables false

/-- A line: the views and the ids, by their places; the first block stands at 0. -/
structure LinP where
  vw : Nat → Nat
  ids : Nat → ByteArray

/-- It is one, as far as K. -/
structure LinP.Ok (L : LinP) (K : Nat) : Prop where
  v0 : L.vw 0 = 0
  up : ∀ j, j < K → L.vw j < L.vw (j + 1)
  inj : ∀ i j, i ≤ K → j ≤ K → L.ids i = L.ids j → i = j
  i0 : L.ids 0 = gen32
  sz : ∀ j, (L.ids j).size ≤ 1000
  top : ∀ j, L.vw j ≤ 1000000

theorem LinP.Ok.mono {L : LinP} {K : Nat} (h : L.Ok K) : ∀ {i j : Nat}, i ≤ j → j ≤ K → L.vw i ≤ L.vw j
  | i, 0, hij, _ => by rw [Nat.le_zero.1 hij]; exact Nat.le_refl _
  | i, j + 1, hij, hj => by
    rcases Nat.lt_or_ge j i with h1 | h1
    · have : i = j + 1 := by omega
      rw [this]; exact Nat.le_refl _
    · exact Nat.le_trans (h.mono h1 (by omega)) (Nat.le_of_lt (h.up j (by omega)))

theorem LinP.Ok.lt {L : LinP} {K : Nat} (h : L.Ok K) {i j : Nat} (hij : i < j) (hj : j ≤ K) : L.vw i < L.vw j :=
  Nat.lt_of_lt_of_le (h.up i (by omega)) (h.mono hij hj)

def ptrL (a : Nat) : Value := .pointer (some ⟨a, 0, none⟩)

/-- The links by their ids. -/
def lnF (L : LinP) (ad : Nat → Nat) (lo k : Nat) (id : ByteArray) : Option Value :=
  ((List.range (k + 1)).find? (fun j => decide (lo ≤ j) && decide (L.ids j = id))).map (fun j => ptrL (ad j))

theorem lnF_some {L : LinP} {ad : Nat → Nat} {lo k : Nat} {id : ByteArray} {v : Value} (h : lnF L ad lo k id = some v) : ∃ j, lo ≤ j ∧ j ≤ k ∧ L.ids j = id ∧ v = ptrL (ad j) := by
  unfold lnF at h
  obtain ⟨j, h1, h2⟩ := Option.map_eq_some_iff.1 h
  have h3 := List.find?_some h1
  have h4 := List.mem_of_find?_eq_some h1
  simp only [Bool.and_eq_true, decide_eq_true_eq] at h3
  exact ⟨j, h3.1, by have := List.mem_range.1 h4; omega, h3.2, h2.symm⟩

theorem lnF_none {L : LinP} {ad : Nat → Nat} {lo k : Nat} {id : ByteArray} (h : ∀ j, lo ≤ j → j ≤ k → L.ids j ≠ id) : lnF L ad lo k id = none := by
  cases e : lnF L ad lo k id with
  | none => rfl
  | some v =>
    obtain ⟨j, h1, h2, h3, _⟩ := lnF_some e
    exact absurd h3 (h j h1 h2)

theorem lnF_at {L : LinP} {ad : Nat → Nat} {lo k K j : Nat} (hL : L.Ok K) (hk : k ≤ K) (h1 : lo ≤ j) (h2 : j ≤ k) : lnF L ad lo k (L.ids j) = some (ptrL (ad j)) := by
  cases e : lnF L ad lo k (L.ids j) with
  | none =>
    unfold lnF at e
    rw [Option.map_eq_none_iff, List.find?_eq_none] at e
    have := e j (List.mem_range.2 (by omega))
    simp [h1] at this
  | some v =>
    obtain ⟨i, h3, h4, h5, rfl⟩ := lnF_some e
    rw [hL.inj i j (by omega) (by omega) h5]

theorem lnF_eq {L : LinP} {ad ad' : Nat → Nat} {lo lo' k k' K K' : Nat} {id : ByteArray} {f : ByteArray → Option Value} (hL : L.Ok K) (hk : k ≤ K) (h1 : ∀ v, f id = some v → ∃ j, lo ≤ j ∧ j ≤ k ∧ L.ids j = id ∧ v = ptrL (ad j)) (h2 : ∀ j, lo ≤ j → j ≤ k → L.ids j = id → f id = some (ptrL (ad j))) : lnF L ad lo k id = f id := by
  cases e : f id with
  | none =>
    exact lnF_none (fun j a b c => by rw [h2 j a b c] at e; cases e)
  | some v =>
    obtain ⟨j, a, b, c, rfl⟩ := h1 v e
    rw [← c]
    exact lnF_at hL hk a b

/-- Where a new one lies. -/
def adP (ad : Nat → Nat) (k a : Nat) (j : Nat) : Nat := if j = k then a else ad j

theorem adP_at (ad : Nat → Nat) (k a : Nat) : adP ad k a k = a := by unfold adP; rw [if_pos rfl]
theorem adP_ne (ad : Nat → Nat) {k a j : Nat} (h : j ≠ k) : adP ad k a j = ad j := by unfold adP; rw [if_neg h]

theorem lnF_put {L : LinP} {ad : Nat → Nat} {lo k K a : Nat} (hL : L.Ok K) (hk : k + 1 ≤ K) (hlo : lo ≤ k + 1) (id : ByteArray) : lnF L (adP ad (k + 1) a) lo (k + 1) id = putF (lnF L ad lo k) (L.ids (k + 1)) (ptrL a) id := by
  refine lnF_eq (K' := K) (k' := k) (lo' := lo) (ad' := ad) hL hk (fun v h => ?_) (fun j a1 b1 c1 => ?_)
  · unfold putF at h
    split at h
    · rename_i e
      exact ⟨k + 1, hlo, Nat.le_refl _, e.symm, by rw [adP_at]; simpa using h.symm⟩
    · obtain ⟨j, h1, h2, h3, h4⟩ := lnF_some h
      exact ⟨j, h1, by omega, h3, by rw [adP_ne ad (by omega)]; exact h4⟩
  · unfold putF
    by_cases hj : j = k + 1
    · subst hj
      rw [if_pos c1.symm, adP_at]
    · have hne : id ≠ L.ids (k + 1) := fun e => hj (hL.inj j (k + 1) (by omega) hk (by rw [c1, e]))
      rw [if_neg hne, adP_ne ad hj, ← c1]
      exact lnF_at hL (by omega) a1 (by omega)

theorem lnF_del {L : LinP} {ad : Nat → Nat} {lo k K : Nat} (hL : L.Ok K) (hk : k ≤ K) (id : ByteArray) (hlo : lo ≤ k) : lnF L ad (lo + 1) k id = delF (lnF L ad lo k) (L.ids lo) id := by
  refine lnF_eq (K' := K) (k' := k) (lo' := lo) (ad' := ad) hL hk (fun v h => ?_) (fun j a1 b1 c1 => ?_)
  · unfold delF at h
    split at h
    · cases h
    · rename_i hne
      obtain ⟨j, h1, h2, h3, h4⟩ := lnF_some h
      exact ⟨j, by
        rcases Nat.lt_or_ge lo j with q | q
        · exact q
        · have : j = lo := by omega
          subst this
          exact absurd h3.symm hne, h2, h3, h4⟩
  · unfold delF
    have hne : id ≠ L.ids lo := fun e => by
      have := hL.inj j lo (by omega) (by omega) (by rw [c1, e])
      omega
    rw [if_neg hne, ← c1]
    exact lnF_at hL hk (by omega) b1

/-- A link's cells. -/
def lnC (L : LinP) (ad : Nat → Nat) (la j : Nat) : List Value :=
  [.string (L.ids j), .int .i64 (L.vw j : Int), .int .i64 (L.vw (j - 1) : Int), .string (if j = 0 then ⟨#[]⟩ else L.ids (j - 1)), .slice none 0 0, .slice none 0 0, if j = 0 then .pointer none else ptrL (ad (j - 1)), .bool (decide (j ≤ la))]

/-- Its blocks. -/
def ChS (c m : Nat) (ad : Nat → Nat) (lo k : Nat) (b : Nat) : Prop := b = c ∨ b = m ∨ ∃ j, lo ≤ j ∧ j ≤ k ∧ b = ad j

structure ChAt (w : World) (L : LinP) (c m : Nat) (ad : Nat → Nat) (k lo lk la hi vt : Nat) : Prop where
  box : Arr w c 115 [.map (some m), .int .i64 (L.vw hi : Int), .string (L.ids hi), .slice none 0 0, ptrL (ad lk), ptrL (ad la), .int .i64 (vt : Int)]
  mp : SMap w m (lnF L ad lo k) (k + 1 - lo)
  ln : ∀ j, lo ≤ j → j ≤ k → Arr w (ad j) 112 (lnC L ad la j)
  cm : c ≠ m
  ac : ∀ j, lo ≤ j → j ≤ k → ad j ≠ c ∧ ad j ≠ m
  ap : ∀ i j, lo ≤ i → i ≤ k → lo ≤ j → j ≤ k → ad i = ad j → i = j
  ola : lo ≤ la
  olk : la ≤ lk
  okk : lk ≤ k
  ohi : hi ≤ k

section
variable {w w' : World} {L : LinP} {c m k lo lk la hi vt : Nat} {ad : Nat → Nat}

theorem ChAt.kept {Z : Nat → Prop} (h : ChAt w L c m ad k lo lk la hi vt) (hk : Kept Z w w') (hd : ∀ b, ChS c m ad lo k b → ¬ Z b) : ChAt w' L c m ad k lo lk la hi vt :=
  ⟨h.box.kept hk (hd c (Or.inl rfl)), h.mp.kept hk (hd m (Or.inr (Or.inl rfl))), fun j h1 h2 => (h.ln j h1 h2).kept hk (hd _ (Or.inr (Or.inr ⟨j, h1, h2, rfl⟩))), h.cm, h.ac, h.ap, h.ola, h.olk, h.okk, h.ohi⟩

theorem ChAt.below (h : ChAt w L c m ad k lo lk la hi vt) (hb : Below w.heap.size w w') : ChAt w' L c m ad k lo lk la hi vt :=
  h.kept (Z := fun _ => False) (Kept.of_below hb) (fun _ _ e => e)

theorem ChAt.lt (h : ChAt w L c m ad k lo lk la hi vt) {b : Nat} (hb : ChS c m ad lo k b) : b < w.heap.size := by
  rcases hb with e | e | ⟨j, h1, h2, e⟩
  · rw [e]; exact h.box.lt
  · rw [e]; exact h.mp.lt
  · rw [e]; exact (h.ln j h1 h2).lt
end
end Go.Proofs.YthhildeocedpiaaDoor
