/- Reading field by field, whatever is read: the first error, or what follows. -/
import Derived.Test.YtdnkakmdhdceaaaTxBackMath
namespace Go.Proofs.Ytdnkakmdhdceaaa
open Go.RowKit
set_option linter.unusedVariables false

section
variable {α : Type}

def rdI (l : List UInt8) (f : Nat → List UInt8 → Except Nat α) : Except Nat α := if (getInt l).2.2 ≠ 0 then .error (getInt l).2.2 else f (getInt l).1 (l.drop (getInt l).2.1)
def rdT (l : List UInt8) (f : List UInt8 → List UInt8 → Except Nat α) : Except Nat α := if (getText l).2.2 ≠ 0 then .error (getText l).2.2 else f (getText l).1 (l.drop (getText l).2.1)
def rdL (most : Int) (l : List UInt8) (f : List (List UInt8) → List UInt8 → Except Nat α) : Except Nat α := if (getList l most).2.2 ≠ 0 then .error (getList l most).2.2 else f (getList l most).1 (l.drop (getList l most).2.1)

theorem rdI_ok {l : List UInt8} {f : Nat → List UInt8 → Except Nat α} {n k : Nat} (h : getInt l = (n, k, 0)) : rdI l f = f n (l.drop k) := by
  unfold rdI; rw [h]; rfl
theorem rdI_err {l : List UInt8} {f : Nat → List UInt8 → Except Nat α} {n k er : Nat} (h : getInt l = (n, k, er)) (he : er ≠ 0) : rdI l f = .error er := by
  unfold rdI; rw [h, if_pos he]
theorem rdT_ok {l : List UInt8} {f : List UInt8 → List UInt8 → Except Nat α} {t : List UInt8} {k : Nat} (h : getText l = (t, k, 0)) : rdT l f = f t (l.drop k) := by
  unfold rdT; rw [h]; rfl
theorem rdT_err {l : List UInt8} {f : List UInt8 → List UInt8 → Except Nat α} {t : List UInt8} {k er : Nat} (h : getText l = (t, k, er)) (he : er ≠ 0) : rdT l f = .error er := by
  unfold rdT; rw [h, if_pos he]
theorem rdL_ok {most : Int} {l : List UInt8} {f : List (List UInt8) → List UInt8 → Except Nat α} {t : List (List UInt8)} {k : Nat} (h : getList l most = (t, k, 0)) : rdL most l f = f t (l.drop k) := by
  unfold rdL; rw [h]; rfl
theorem rdL_err {most : Int} {l : List UInt8} {f : List (List UInt8) → List UInt8 → Except Nat α} {t : List (List UInt8)} {k er : Nat} (h : getList l most = (t, k, er)) (he : er ≠ 0) : rdL most l f = .error er := by
  unfold rdL; rw [h, if_pos he]

theorem rdI_enc {f : Nat → List UInt8 → Except Nat α} (n : Nat) (r : List UInt8) (h : n ≤ 4611686018427387903) : rdI (enc n ++ r) f = f n r := by
  rw [rdI_ok (getInt_enc n r h), List.drop_left]
theorem rdT_txt {f : List UInt8 → List UInt8 → Except Nat α} (t r : List UInt8) (h : t.length ≤ 65536) : rdT (txt t ++ r) f = f t r := by
  rw [rdT_ok (getText_txt t r h), List.drop_left]
theorem rdL_lst {f : List (List UInt8) → List UInt8 → Except Nat α} (most : Int) (ts : List (List UInt8)) (r : List UInt8) (h : ∀ t ∈ ts, t.length ≤ 65536) (hn : ts.length ≤ 4611686018427387903) (hm : (ts.length : Int) ≤ most) : rdL most (lst ts ++ r) f = f ts r := by
  rw [rdL_ok (getList_lst ts r most h hn hm), List.drop_left]

theorem rdI_back {l : List UInt8} {f : Nat → List UInt8 → Except Nat α} {d : α} (h : rdI l f = .ok d) : ∃ n r, l = enc n ++ r ∧ n ≤ 4611686018427387903 ∧ f n r = .ok d := by
  rcases hg : getInt l with ⟨n, k, e⟩
  by_cases he : e = 0
  · subst he
    rw [rdI_ok hg] at h
    have hb := getInt_bounds _ n k hg
    have hk := getInt_back _ n k hg
    exact ⟨n, l.drop k, by rw [← hk.1, List.take_append_drop], hb.1, h⟩
  · rw [rdI_err hg he] at h
    cases h
theorem rdT_back {l : List UInt8} {f : List UInt8 → List UInt8 → Except Nat α} {d : α} (h : rdT l f = .ok d) : ∃ t r, l = txt t ++ r ∧ t.length ≤ 65536 ∧ f t r = .ok d := by
  rcases hg : getText l with ⟨t, k, e⟩
  by_cases he : e = 0
  · subst he
    rw [rdT_ok hg] at h
    have hb := getText_bounds _ t k hg
    have hk := getText_back _ t k hg
    exact ⟨t, l.drop k, by rw [hk, List.take_append_drop], hb.2.2.1, h⟩
  · rw [rdT_err hg he] at h
    cases h
theorem rdL_back {most : Int} {l : List UInt8} {f : List (List UInt8) → List UInt8 → Except Nat α} {d : α} (h : rdL most l f = .ok d) : ∃ t r, l = lst t ++ r ∧ (t.length : Int) ≤ most ∧ (∀ x ∈ t, x.length ≤ 65536) ∧ f t r = .ok d := by
  rcases hg : getList l most with ⟨t, k, e⟩
  by_cases he : e = 0
  · subst he
    rw [rdL_ok hg] at h
    have hk := getList_back hg
    exact ⟨t, l.drop k, by rw [← hk.1, List.take_append_drop], hk.2.2.2.1, hk.2.2.2.2, h⟩
  · rw [rdL_err hg he] at h
    cases h

/-- Each in its turn; the first error. -/
def eachE {β : Type} (f : β → Except Nat α) : List β → Except Nat (List α)
  | [] => .ok []
  | b :: r => match f b with
    | .error e => .error e
    | .ok a => match eachE f r with
      | .error e => .error e
      | .ok xs => .ok (a :: xs)

theorem eachE_back {β : Type} {f : β → Except Nat α} {g : α → β} (hg : ∀ b a, f b = .ok a → g a = b) : ∀ (bs : List β) (xs : List α), eachE f bs = .ok xs → xs.map g = bs
  | [], xs, h => by
    simp only [eachE, Except.ok.injEq] at h
    subst h
    rfl
  | b :: r, xs, h => by
    rw [eachE] at h
    cases hb : f b with
    | error e => rw [hb] at h; cases h
    | ok a =>
      rw [hb] at h
      cases hr : eachE f r with
      | error e => rw [hr] at h; cases h
      | ok xs' =>
        rw [hr] at h
        simp only [Except.ok.injEq] at h
        subst h
        rw [List.map_cons, hg b a hb, eachE_back hg r xs' hr]

theorem eachE_all {β : Type} {f : β → Except Nat α} {p : α → Prop} (hp : ∀ b a, f b = .ok a → p a) : ∀ (bs : List β) (xs : List α), eachE f bs = .ok xs → ∀ a ∈ xs, p a
  | [], xs, h => by
    simp only [eachE, Except.ok.injEq] at h
    subst h
    simp
  | b :: r, xs, h => by
    rw [eachE] at h
    cases hb : f b with
    | error e => rw [hb] at h; cases h
    | ok a =>
      rw [hb] at h
      cases hr : eachE f r with
      | error e => rw [hr] at h; cases h
      | ok xs' =>
        rw [hr] at h
        simp only [Except.ok.injEq] at h
        subst h
        intro x hx
        rw [List.mem_cons] at hx
        rcases hx with rfl | hx
        · exact hp b x hb
        · exact eachE_all hp r xs' hr x hx

theorem eachE_map {β : Type} {f : β → Except Nat α} {g : α → β} : ∀ (xs : List α), (∀ a ∈ xs, f (g a) = .ok a) → eachE f (xs.map g) = .ok xs
  | [], _ => rfl
  | a :: r, h => by
    rw [List.map_cons, eachE, h a (by simp)]
    simp only
    rw [eachE_map r (fun x hx => h x (by simp [hx]))]
end

/-- A transaction out of bytes, as what is read or the error. -/
def decE (l : List UInt8) : Except Nat TxD := if (decL l).2 ≠ 0 then .error (decL l).2 else .ok (decL l).1

theorem decE_ok {l : List UInt8} {d : TxD} (h : decE l = .ok d) : decL l = (d, 0) := by
  unfold decE at h
  by_cases he : (decL l).2 ≠ 0
  · rw [if_pos he] at h; cases h
  · rw [if_neg he] at h
    simp only [Except.ok.injEq] at h
    have h0 : (decL l).2 = 0 := by omega
    rw [← h, ← h0]

theorem decE_enc {d : TxD} (h : checkL d = 0) : decE (encL d) = .ok d := by
  have h1 := dec_enc h []
  rw [List.append_nil, if_pos rfl] at h1
  unfold decE
  rw [h1, if_neg (by simp)]
end Go.Proofs.Ytdnkakmdhdceaaa
