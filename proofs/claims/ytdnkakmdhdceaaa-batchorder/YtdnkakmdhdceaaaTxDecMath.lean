/- A transaction out of bytes, field by field; both ways round. -/
import Derived.Test.YtdnkakmdhdceaaaTxKeyMath
namespace Go.Proofs.Ytdnkakmdhdceaaa
open Go.RowKit
set_option linter.unusedVariables false

def mks (ts : List (List UInt8)) : List ByteArray := ts.map (fun t => ⟨t.toArray⟩)

theorem bl_mks (ts : List (List UInt8)) : bl (mks ts) = ts := by
  simp [bl, mks, List.map_map, Function.comp_def]

theorem mks_bl (ss : List ByteArray) : mks (bl ss) = ss := by
  simp [bl, mks, List.map_map, Function.comp_def]

def bindI (l : List UInt8) (f : Nat → List UInt8 → TxD × Nat) : TxD × Nat := if (getInt l).2.2 ≠ 0 then (.none, (getInt l).2.2) else f (getInt l).1 (l.drop (getInt l).2.1)
def bindT (l : List UInt8) (f : List UInt8 → List UInt8 → TxD × Nat) : TxD × Nat := if (getText l).2.2 ≠ 0 then (.none, (getText l).2.2) else f (getText l).1 (l.drop (getText l).2.1)
def bindL (l : List UInt8) (f : List (List UInt8) → List UInt8 → TxD × Nat) : TxD × Nat := if (getList l 8).2.2 ≠ 0 then (.none, (getList l 8).2.2) else f (getList l 8).1 (l.drop (getList l 8).2.1)

def finTx (d : TxD) (l : List UInt8) : TxD × Nat :=
  if 2 < d.kind then (.none, 2) else if l ≠ [] then (.none, 6) else if checkL d ≠ 0 then (.none, checkL d) else (d, 0)

/-- A transaction out of bytes, or the first error. -/
def decL (l : List UInt8) : TxD × Nat :=
  bindI l fun kd l => bindT l fun fr l => bindT l fun to l => bindI l fun am l => bindI l fun no l => bindT l fun ky l => bindT l fun vl l => bindL l fun rs l => bindL l fun ws l =>
    finTx ⟨kd, ⟨fr.toArray⟩, ⟨to.toArray⟩, am, no, ⟨ky.toArray⟩, ⟨vl.toArray⟩, mks rs, mks ws⟩ l

theorem bindI_ok {l : List UInt8} {f : Nat → List UInt8 → TxD × Nat} {n k : Nat} (h : getInt l = (n, k, 0)) : bindI l f = f n (l.drop k) := by
  unfold bindI; rw [h]; rfl
theorem bindI_err {l : List UInt8} {f : Nat → List UInt8 → TxD × Nat} {n k er : Nat} (h : getInt l = (n, k, er)) (he : er ≠ 0) : bindI l f = (.none, er) := by
  unfold bindI; rw [h, if_pos he]
theorem bindT_ok {l : List UInt8} {f : List UInt8 → List UInt8 → TxD × Nat} {t : List UInt8} {k : Nat} (h : getText l = (t, k, 0)) : bindT l f = f t (l.drop k) := by
  unfold bindT; rw [h]; rfl
theorem bindT_err {l : List UInt8} {f : List UInt8 → List UInt8 → TxD × Nat} {t : List UInt8} {k er : Nat} (h : getText l = (t, k, er)) (he : er ≠ 0) : bindT l f = (.none, er) := by
  unfold bindT; rw [h, if_pos he]
theorem bindL_ok {l : List UInt8} {f : List (List UInt8) → List UInt8 → TxD × Nat} {t : List (List UInt8)} {k : Nat} (h : getList l 8 = (t, k, 0)) : bindL l f = f t (l.drop k) := by
  unfold bindL; rw [h]; rfl
theorem bindL_err {l : List UInt8} {f : List (List UInt8) → List UInt8 → TxD × Nat} {t : List (List UInt8)} {k er : Nat} (h : getList l 8 = (t, k, er)) (he : er ≠ 0) : bindL l f = (.none, er) := by
  unfold bindL; rw [h, if_pos he]

theorem bindI_none {l : List UInt8} {f : Nat → List UInt8 → TxD × Nat} (h : ∀ a b, (f a b).2 ≠ 0 → (f a b).1 = .none) (he : (bindI l f).2 ≠ 0) : (bindI l f).1 = .none := by
  unfold bindI at he ⊢; split at he <;> rename_i h1
  · rw [if_pos h1]
  · rw [if_neg h1]; exact h _ _ he
theorem bindT_none {l : List UInt8} {f : List UInt8 → List UInt8 → TxD × Nat} (h : ∀ a b, (f a b).2 ≠ 0 → (f a b).1 = .none) (he : (bindT l f).2 ≠ 0) : (bindT l f).1 = .none := by
  unfold bindT at he ⊢; split at he <;> rename_i h1
  · rw [if_pos h1]
  · rw [if_neg h1]; exact h _ _ he
theorem bindL_none {l : List UInt8} {f : List (List UInt8) → List UInt8 → TxD × Nat} (h : ∀ a b, (f a b).2 ≠ 0 → (f a b).1 = .none) (he : (bindL l f).2 ≠ 0) : (bindL l f).1 = .none := by
  unfold bindL at he ⊢; split at he <;> rename_i h1
  · rw [if_pos h1]
  · rw [if_neg h1]; exact h _ _ he

theorem fin_none (d : TxD) (l : List UInt8) (h : (finTx d l).2 ≠ 0) : (finTx d l).1 = .none := by
  unfold finTx at h ⊢
  by_cases h1 : 2 < d.kind
  · rw [if_pos h1]
  rw [if_neg h1] at h ⊢
  by_cases h2 : l ≠ []
  · rw [if_pos h2]
  rw [if_neg h2] at h ⊢
  by_cases h3 : checkL d ≠ 0
  · rw [if_pos h3]
  rw [if_neg h3] at h
  exact absurd rfl h

/-- Where there is an error there is no transaction. -/
theorem dec_none (l : List UInt8) : (decL l).2 ≠ 0 → (decL l).1 = .none := by
  refine bindI_none fun _ _ => bindT_none fun _ _ => bindT_none fun _ _ => bindI_none fun _ _ => bindI_none fun _ _ => bindT_none fun _ _ => bindT_none fun _ _ => bindL_none fun _ _ => bindL_none fun _ _ => fin_none _ _

theorem glGo_back (l : List UInt8) : ∀ (m at_ : Nat) (acc ts : List (List UInt8)) (k : Nat), at_ ≤ l.length → glGo l m at_ acc = (ts, k, 0) →
    ∃ us, ts = acc ++ us ∧ us.length = m ∧ k = at_ + (us.flatMap txt).length ∧ (l.drop at_).take (us.flatMap txt).length = us.flatMap txt ∧ k ≤ l.length ∧ ∀ t ∈ us, t.length ≤ 65536
  | 0, at_, acc, ts, k, hl, h => by
    rw [glGo] at h
    simp only [Prod.mk.injEq] at h
    obtain ⟨rfl, rfl, _⟩ := h
    exact ⟨[], by simp, rfl, by simp, by simp, hl, by simp⟩
  | m + 1, at_, acc, ts, k, hl, h => by
    rcases hg : getText (l.drop at_) with ⟨t, j, e⟩
    rw [glGo, hg] at h
    by_cases he : e ≠ 0
    · rw [if_pos he] at h
      simp only [Prod.mk.injEq] at h
      exact absurd h.2.2 he
    rw [if_neg he] at h
    have he0 : e = 0 := by omega
    subst he0
    have hb := getText_bounds _ t j hg
    have hk := getText_back _ t j hg
    rw [List.length_drop] at hb
    obtain ⟨us, e1, e2, e3, e4, e5, e6⟩ := glGo_back l m (at_ + j) (acc ++ [t]) ts k (by omega) h
    have hj : (txt t).length = j := by rw [hk, List.length_take, List.length_drop]; omega
    refine ⟨t :: us, by rw [e1]; simp, by simp [e2], ?_, ?_, e5, ?_⟩
    · rw [e3, List.flatMap_cons, List.length_append, hj]; omega
    · rw [List.flatMap_cons, List.length_append, hj, List.take_add, ← hk, List.drop_drop, e4]
    · intro x hx
      rw [List.mem_cons] at hx
      rcases hx with rfl | hx
      · exact hb.2.2.1
      · exact e6 x hx

theorem getList_back {l : List UInt8} {most : Int} {ts : List (List UInt8)} {k : Nat} (h : getList l most = (ts, k, 0)) :
    l.take k = lst ts ∧ k = (lst ts).length ∧ k ≤ l.length ∧ (ts.length : Int) ≤ most ∧ ∀ t ∈ ts, t.length ≤ 65536 := by
  rcases hg : getInt l with ⟨n, j, e⟩
  unfold getList at h
  rw [hg] at h
  by_cases he : e ≠ 0
  · rw [if_pos he] at h
    simp only [Prod.mk.injEq] at h
    exact absurd h.2.2 he
  rw [if_neg he] at h
  have he0 : e = 0 := by omega
  subst he0
  by_cases hm : most < (n : Int)
  · rw [if_pos hm] at h
    simp only [Prod.mk.injEq] at h
    omega
  rw [if_neg hm] at h
  have hb := getInt_bounds _ n j hg
  have hk := getInt_back _ n j hg
  obtain ⟨us, e1, e2, e3, e4, e5, e6⟩ := glGo_back l n j [] ts k hb.2.2 h
  rw [List.nil_append] at e1
  subst e1
  have hc : goInt (ts.length : Int) = enc n := by rw [e2]; exact goInt_nat n hb.1
  have hl : lst ts = enc n ++ ts.flatMap txt := by rw [lst, hc]
  have hkl : k = (lst ts).length := by rw [hl, List.length_append, ← hk.2]; exact e3
  refine ⟨?_, hkl, e5, by omega, e6⟩
  rw [hkl, hl, List.length_append, List.take_add, ← hk.2, hk.1, e4]

end Go.Proofs.Ytdnkakmdhdceaaa
