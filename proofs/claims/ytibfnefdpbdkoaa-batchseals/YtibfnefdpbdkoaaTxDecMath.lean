/- A transaction out of bytes, field by field; both ways round. -/
import Derived.Test.YtibfnefdpbdkoaaTxKeyMath
import Derived.Test.YtibfnefdpbdkoaaReadBase
namespace Go.Proofs.Ytibfnefdpbdkoaa
open Go.RowKit
set_option linter.unusedVariables false

def bindI (l : List UInt8) (f : Nat → List UInt8 → TxD × Nat) : TxD × Nat := if (getInt l).2.2 ≠ 0 then (.none, (getInt l).2.2) else f (getInt l).1 (l.drop (getInt l).2.1)
def bindT (l : List UInt8) (f : List UInt8 → List UInt8 → TxD × Nat) : TxD × Nat := if (getText l).2.2 ≠ 0 then (.none, (getText l).2.2) else f (getText l).1 (l.drop (getText l).2.1)
def bindL (l : List UInt8) (f : List (List UInt8) → List UInt8 → TxD × Nat) : TxD × Nat := if (getList l 8).2.2 ≠ 0 then (.none, (getList l 8).2.2) else f (getList l 8).1 (l.drop (getList l 8).2.1)

def finTx (d : TxD) (l : List UInt8) : TxD × Nat :=
  if 2 < d.kind then (.none, 2) else if l ≠ [] then (.none, 6) else if checkL d ≠ 0 then (.none, checkL d) else (d, 0)

/-- A transaction out of bytes, or the first error. -/
def decL (l : List UInt8) : TxD × Nat :=
  bindI l fun kd l => bindT l fun fr l => bindT l fun to l => bindI l fun am l => bindI l fun no l => bindT l fun ky l => bindT l fun vl l => bindL l fun rs l => bindL l fun ws l =>
    finTx ⟨kd, ⟨fr.toArray⟩, ⟨to.toArray⟩, am, no, ⟨ky.toArray⟩, ⟨vl.toArray⟩, mks rs, mks ws⟩ l

theorem bindI_ok {l : List UInt8} {f : Nat → List UInt8 → TxD × Nat} {n k : Nat} (h : getInt l = (n, k, 0)) : bindI l f = f n (l.drop k) := by
  unfold bindI; rw [h]; rfl
theorem bindI_err {l : List UInt8} {f : Nat → List UInt8 → TxD × Nat} {n k er : Nat} (h : getInt l = (n, k, er)) (he : er ≠ 0) : bindI l f = (.none, er) := by
  unfold bindI; rw [h, if_pos he]
theorem bindT_ok {l : List UInt8} {f : List UInt8 → List UInt8 → TxD × Nat} {t : List UInt8} {k : Nat} (h : getText l = (t, k, 0)) : bindT l f = f t (l.drop k) := by
  unfold bindT; rw [h]; rfl
theorem bindT_err {l : List UInt8} {f : List UInt8 → List UInt8 → TxD × Nat} {t : List UInt8} {k er : Nat} (h : getText l = (t, k, er)) (he : er ≠ 0) : bindT l f = (.none, er) := by
  unfold bindT; rw [h, if_pos he]
theorem bindL_ok {l : List UInt8} {f : List (List UInt8) → List UInt8 → TxD × Nat} {t : List (List UInt8)} {k : Nat} (h : getList l 8 = (t, k, 0)) : bindL l f = f t (l.drop k) := by
  unfold bindL; rw [h]; rfl
theorem bindL_err {l : List UInt8} {f : List (List UInt8) → List UInt8 → TxD × Nat} {t : List (List UInt8)} {k er : Nat} (h : getList l 8 = (t, k, er)) (he : er ≠ 0) : bindL l f = (.none, er) := by
  unfold bindL; rw [h, if_pos he]

theorem bindI_none {l : List UInt8} {f : Nat → List UInt8 → TxD × Nat} (h : ∀ a b, (f a b).2 ≠ 0 → (f a b).1 = .none) (he : (bindI l f).2 ≠ 0) : (bindI l f).1 = .none := by
  unfold bindI at he ⊢; split at he <;> rename_i h1
  · rw [if_pos h1]
  · rw [if_neg h1]; exact h _ _ he
theorem bindT_none {l : List UInt8} {f : List UInt8 → List UInt8 → TxD × Nat} (h : ∀ a b, (f a b).2 ≠ 0 → (f a b).1 = .none) (he : (bindT l f).2 ≠ 0) : (bindT l f).1 = .none := by
  unfold bindT at he ⊢; split at he <;> rename_i h1
  · rw [if_pos h1]
  · rw [if_neg h1]; exact h _ _ he
theorem bindL_none {l : List UInt8} {f : List (List UInt8) → List UInt8 → TxD × Nat} (h : ∀ a b, (f a b).2 ≠ 0 → (f a b).1 = .none) (he : (bindL l f).2 ≠ 0) : (bindL l f).1 = .none := by
  unfold bindL at he ⊢; split at he <;> rename_i h1
  · rw [if_pos h1]
  · rw [if_neg h1]; exact h _ _ he

theorem fin_none (d : TxD) (l : List UInt8) (h : (finTx d l).2 ≠ 0) : (finTx d l).1 = .none := by
  unfold finTx at h ⊢
  by_cases h1 : 2 < d.kind
  · rw [if_pos h1]
  rw [if_neg h1] at h ⊢
  by_cases h2 : l ≠ []
  · rw [if_pos h2]
  rw [if_neg h2] at h ⊢
  by_cases h3 : checkL d ≠ 0
  · rw [if_pos h3]
  rw [if_neg h3] at h
  exact absurd rfl h

/-- Where there is an error there is no transaction. -/
theorem dec_none (l : List UInt8) : (decL l).2 ≠ 0 → (decL l).1 = .none := by
  refine bindI_none fun _ _ => bindT_none fun _ _ => bindT_none fun _ _ => bindI_none fun _ _ => bindI_none fun _ _ => bindT_none fun _ _ => bindT_none fun _ _ => bindL_none fun _ _ => bindL_none fun _ _ => fin_none _ _

end Go.Proofs.Ytibfnefdpbdkoaa
