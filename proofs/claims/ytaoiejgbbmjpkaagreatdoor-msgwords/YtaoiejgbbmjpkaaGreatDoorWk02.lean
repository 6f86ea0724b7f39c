/- Texts as one: WireBackMath, ReadBase, HeaderMath, TxArr, Queue, QueueStep, RefSame, StrRows. -/
import Derived.Test.YtaoiejgbbmjpkaaGreatDoorWk01
import Derived.Below
import Derived.Laws.Rows
import Derived.Laws.Tables
import Derived.WalkSmall
import Derived.ArgAppend
import Derived.Deep.AppendLies
import Derived.Deep.RegionLaw
import Derived.Deep.QuietTactic
import Derived.BigQuiet
import Derived.Laws.AppendOwnNone
/- The plain mathematics of layer wire, both ways: what is written is got again; what is got is written as it was; what is cut off is too short. -/
namespace Go.Proofs.YtaoiejgbbmjpkaaGreatDoor

theorem toNat_more (m : Nat) : (UInt8.ofNat (128 + m % 128)).toNat = 128 + m % 128 := by
  simp
  omega

theorem toNat_last (m : Nat) (h : m < 128) : (UInt8.ofNat m).toNat = m := by
  simp
  omega

theorem giGo_enc : ∀ (m acc i : Nat) (r : List UInt8), acc + m * 128 ^ i ≤ 4611686018427387903 → (i = 0 ∨ m ≠ 0) → i + (enc m).length ≤ 9 →
    giGo (enc m ++ r) acc i = (acc + m * 128 ^ i, i + (enc m).length, 0) := by
  intro m
  induction m using Nat.strongRecOn with
  | _ m ih =>
    intro acc i r h1 h2 h3
    by_cases hm : m < 128
    · rw [enc_small m hm] at h3 ⊢
      rw [List.singleton_append, giGo, toNat_last m hm, if_neg (by omega)]
      have e : m % 128 = m := by omega
      rw [e, if_neg (by omega), if_neg (by omega)]
      simp
    · rw [enc_big m (by omega)] at h3 ⊢
      have hp := enc_length_pos (m / 128)
      rw [List.length_cons] at h3
      rw [List.cons_append, giGo, toNat_more, if_pos (by omega), if_neg (by omega)]
      have e : (128 + m % 128) % 128 = m % 128 := by omega
      have e2 : acc + m % 128 * 128 ^ i + m / 128 * 128 ^ (i + 1) = acc + m * 128 ^ i := by
        have e3 : m = m % 128 + 128 * (m / 128) := by omega
        rw [Nat.pow_succ]
        conv => rhs; rw [e3]
        rw [Nat.add_mul, ← Nat.mul_assoc, Nat.mul_comm (m / 128) (128 ^ i), Nat.mul_comm 128 (m / 128), Nat.mul_assoc (m / 128) 128, Nat.mul_comm 128 (128 ^ i), ← Nat.mul_assoc (m / 128), Nat.mul_comm (m / 128) (128 ^ i)]
        omega
      rw [e, ih (m / 128) (by omega) _ _ r (by rw [e2]; exact h1) (by omega) (by omega), e2, List.length_cons]
      congr 2
      omega

theorem getInt_enc (n : Nat) (r : List UInt8) (h : n ≤ 4611686018427387903) : getInt (enc n ++ r) = (n, (enc n).length, 0) := by
  have := giGo_enc n 0 0 r (by simpa using h) (Or.inl rfl) (by have := enc_length_nine n h; omega)
  rw [getInt, this]
  simp

theorem giGo_back : ∀ (l : List UInt8) (acc i N k : Nat), giGo l acc i = (N, k, 0) → ∃ m, N = acc + m * 128 ^ i ∧ k = i + (enc m).length ∧ l.take (enc m).length = enc m ∧ (i = 0 ∨ m ≠ 0)
  | [], _, _, _, _ => by intro h; simp [giGo] at h
  | c :: r, acc, i, N, k => by
    intro h
    have hc : c.toNat < 256 := UInt8.toNat_lt c
    rw [giGo] at h
    by_cases h1 : 128 ≤ c.toNat
    · rw [if_pos h1] at h
      by_cases h2 : i + 1 = 9
      · rw [if_pos h2] at h; simp at h
      · rw [if_neg h2] at h
        obtain ⟨m, e1, e2, e3, e4⟩ := giGo_back r _ _ _ _ h
        have hm : m ≠ 0 := by omega
        have hen : enc (c.toNat % 128 + 128 * m) = c :: enc m := by
          rw [enc_big _ (by omega)]
          have a1 : (c.toNat % 128 + 128 * m) / 128 = m := by omega
          have a2 : 128 + (c.toNat % 128 + 128 * m) % 128 = c.toNat := by omega
          rw [a1, a2]
          simp
        refine ⟨c.toNat % 128 + 128 * m, ?_, ?_, ?_, by omega⟩
        · rw [e1, Nat.pow_succ, Nat.add_mul, Nat.mul_comm (128 ^ i) 128, ← Nat.mul_assoc, Nat.mul_comm m 128]
          omega
        · rw [hen, List.length_cons]; omega
        · rw [hen, List.length_cons, List.take_succ_cons, e3]
    · rw [if_neg h1] at h
      by_cases h2 : 4611686018427387903 < acc + c.toNat % 128 * 128 ^ i
      · rw [if_pos h2] at h; simp at h
      · rw [if_neg h2] at h
        by_cases h3 : c.toNat = 0 ∧ 1 < i + 1
        · rw [if_pos h3] at h; simp at h
        · rw [if_neg h3] at h
          simp only [Prod.mk.injEq] at h
          have hen : enc c.toNat = [c] := by rw [enc_small _ (by omega)]; simp
          have e : c.toNat % 128 = c.toNat := by omega
          rw [e] at h
          refine ⟨c.toNat, h.1.symm, ?_, ?_, by omega⟩
          · rw [hen]; simp; omega
          · rw [hen]; simp

theorem getInt_back (l : List UInt8) (n k : Nat) (h : getInt l = (n, k, 0)) : l.take k = enc n ∧ k = (enc n).length := by
  obtain ⟨m, e1, e2, e3, _⟩ := giGo_back l 0 0 n k h
  simp at e1 e2
  subst e1
  subst e2
  exact ⟨e3, rfl⟩

theorem txt_enc (t : List UInt8) (h : t.length ≤ 4611686018427387903) : txt t = enc t.length ++ t := by
  rw [txt, goInt_nat _ h]

theorem getText_txt (t r : List UInt8) (h : t.length ≤ 65536) : getText (txt t ++ r) = (t, (txt t).length, 0) := by
  rw [txt_enc t (by omega), List.append_assoc]
  unfold getText
  rw [getInt_enc _ _ (by omega)]
  simp only [ne_eq, not_true_eq_false, if_false]
  rw [if_neg (by omega), if_neg (by simp)]
  simp

theorem getText_back (l t : List UInt8) (k : Nat) (h : getText l = (t, k, 0)) : txt t = l.take k := by
  have hb := getText_bounds l t k h
  unfold getText at h
  rcases hr : getInt l with ⟨n, j, e⟩
  rw [hr] at h
  simp only at h
  by_cases h1 : e ≠ 0
  · rw [if_pos h1] at h; simp at h; omega
  · have h1 : e = 0 := by omega
    subst h1
    obtain ⟨g1, g2⟩ := getInt_back l n j hr
    have hbb := getInt_bounds l n j hr
    rw [if_neg (by simp)] at h
    by_cases h2 : 65536 < n
    · rw [if_pos h2] at h; simp at h
    · rw [if_neg h2] at h
      by_cases h3 : l.length - j < n
      · rw [if_pos h3] at h; simp at h
      · rw [if_neg h3] at h
        simp only [Prod.mk.injEq] at h
        obtain ⟨rfl, rfl, _⟩ := h
        have hlen : (List.take n (List.drop j l)).length = n := by simp; omega
        rw [txt_enc _ (by omega), hlen, ← g1, List.take_add]

theorem glGo_flat : ∀ (ts : List (List UInt8)) (pre r : List UInt8) (acc : List (List UInt8)), (∀ t ∈ ts, t.length ≤ 65536) →
    glGo (pre ++ (ts.flatMap txt ++ r)) ts.length pre.length acc = (acc ++ ts, pre.length + (ts.flatMap txt).length, 0)
  | [], pre, r, acc, _ => by simp [glGo]
  | t :: ts, pre, r, acc, h => by
    have ht : t.length ≤ 65536 := h t (by simp)
    rw [List.length_cons, glGo, List.drop_left]
    have e1 : (t :: ts).flatMap txt ++ r = txt t ++ (ts.flatMap txt ++ r) := by simp
    rw [e1, getText_txt t _ ht]
    simp only [ne_eq, not_true_eq_false, if_false]
    have e2 : pre ++ (txt t ++ (ts.flatMap txt ++ r)) = (pre ++ txt t) ++ (ts.flatMap txt ++ r) := by simp
    have e3 : pre.length + (txt t).length = (pre ++ txt t).length := by simp
    rw [e2, e3, glGo_flat ts (pre ++ txt t) r (acc ++ [t]) (fun x hx => h x (by simp [hx]))]
    simp
    omega

theorem getList_lst (ts : List (List UInt8)) (r : List UInt8) (most : Int) (h : ∀ t ∈ ts, t.length ≤ 65536) (hn : ts.length ≤ 4611686018427387903) (hm : (ts.length : Int) ≤ most) :
    getList (lst ts ++ r) most = (ts, (lst ts).length, 0) := by
  have e : lst ts ++ r = enc ts.length ++ (ts.flatMap txt ++ r) := by rw [lst, goInt_nat _ hn]; simp
  unfold getList
  rw [e, getInt_enc _ _ hn]
  simp only [ne_eq, not_true_eq_false, if_false]
  rw [if_neg (by omega), glGo_flat ts (enc ts.length) r [] h, lst, goInt_nat _ hn]
  simp
end Go.Proofs.YtaoiejgbbmjpkaaGreatDoor

/- Reading field by field, whatever is read: the first error, or what follows. -/
namespace Go.Proofs.YtaoiejgbbmjpkaaGreatDoor
open Go.RowKit
set_option linter.unusedVariables false

def mks (ts : List (List UInt8)) : List ByteArray := ts.map (fun t => ⟨t.toArray⟩)

theorem glGo_back (l : List UInt8) : ∀ (m at_ : Nat) (acc ts : List (List UInt8)) (k : Nat), at_ ≤ l.length → glGo l m at_ acc = (ts, k, 0) →
    ∃ us, ts = acc ++ us ∧ us.length = m ∧ k = at_ + (us.flatMap txt).length ∧ (l.drop at_).take (us.flatMap txt).length = us.flatMap txt ∧ k ≤ l.length ∧ ∀ t ∈ us, t.length ≤ 65536
  | 0, at_, acc, ts, k, hl, h => by
    rw [glGo] at h
    simp only [Prod.mk.injEq] at h
    obtain ⟨rfl, rfl, _⟩ := h
    exact ⟨[], by simp, rfl, by simp, by simp, hl, by simp⟩
  | m + 1, at_, acc, ts, k, hl, h => by
    rcases hg : getText (l.drop at_) with ⟨t, j, e⟩
    rw [glGo, hg] at h
    by_cases he : e ≠ 0
    · rw [if_pos he] at h
      simp only [Prod.mk.injEq] at h
      exact absurd h.2.2 he
    rw [if_neg he] at h
    have he0 : e = 0 := by omega
    subst he0
    have hb := getText_bounds _ t j hg
    have hk := getText_back _ t j hg
    rw [List.length_drop] at hb
    obtain ⟨us, e1, e2, e3, e4, e5, e6⟩ := glGo_back l m (at_ + j) (acc ++ [t]) ts k (by omega) h
    have hj : (txt t).length = j := by rw [hk, List.length_take, List.length_drop]; omega
    refine ⟨t :: us, by rw [e1]; simp, by simp [e2], ?_, ?_, e5, ?_⟩
    · rw [e3, List.flatMap_cons, List.length_append, hj]; omega
    · rw [List.flatMap_cons, List.length_append, hj, List.take_add, ← hk, List.drop_drop, e4]
    · intro x hx
      rw [List.mem_cons] at hx
      rcases hx with rfl | hx
      · exact hb.2.2.1
      · exact e6 x hx

theorem getList_back {l : List UInt8} {most : Int} {ts : List (List UInt8)} {k : Nat} (h : getList l most = (ts, k, 0)) :
    l.take k = lst ts ∧ k = (lst ts).length ∧ k ≤ l.length ∧ (ts.length : Int) ≤ most ∧ ∀ t ∈ ts, t.length ≤ 65536 := by
  rcases hg : getInt l with ⟨n, j, e⟩
  unfold getList at h
  rw [hg] at h
  by_cases he : e ≠ 0
  · rw [if_pos he] at h
    simp only [Prod.mk.injEq] at h
    exact absurd h.2.2 he
  rw [if_neg he] at h
  have he0 : e = 0 := by omega
  subst he0
  by_cases hm : most < (n : Int)
  · rw [if_pos hm] at h
    simp only [Prod.mk.injEq] at h
    omega
  rw [if_neg hm] at h
  have hb := getInt_bounds _ n j hg
  have hk := getInt_back _ n j hg
  obtain ⟨us, e1, e2, e3, e4, e5, e6⟩ := glGo_back l n j [] ts k hb.2.2 h
  rw [List.nil_append] at e1
  subst e1
  have hc : goInt (ts.length : Int) = enc n := by rw [e2]; exact goInt_nat n hb.1
  have hl : lst ts = enc n ++ ts.flatMap txt := by rw [lst, hc]
  have hkl : k = (lst ts).length := by rw [hl, List.length_append, ← hk.2]; exact e3
  refine ⟨?_, hkl, e5, by omega, e6⟩
  rw [hkl, hl, List.length_append, List.take_add, ← hk.2, hk.1, e4]

section
variable {α : Type}

def rdI (l : List UInt8) (f : Nat → List UInt8 → Except Nat α) : Except Nat α := if (getInt l).2.2 ≠ 0 then .error (getInt l).2.2 else f (getInt l).1 (l.drop (getInt l).2.1)
def rdT (l : List UInt8) (f : List UInt8 → List UInt8 → Except Nat α) : Except Nat α := if (getText l).2.2 ≠ 0 then .error (getText l).2.2 else f (getText l).1 (l.drop (getText l).2.1)
def rdL (most : Int) (l : List UInt8) (f : List (List UInt8) → List UInt8 → Except Nat α) : Except Nat α := if (getList l most).2.2 ≠ 0 then .error (getList l most).2.2 else f (getList l most).1 (l.drop (getList l most).2.1)

theorem rdI_ok {l : List UInt8} {f : Nat → List UInt8 → Except Nat α} {n k : Nat} (h : getInt l = (n, k, 0)) : rdI l f = f n (l.drop k) := by
  unfold rdI; rw [h]; rfl
theorem rdI_err {l : List UInt8} {f : Nat → List UInt8 → Except Nat α} {n k er : Nat} (h : getInt l = (n, k, er)) (he : er ≠ 0) : rdI l f = .error er := by
  unfold rdI; rw [h, if_pos he]
theorem rdT_ok {l : List UInt8} {f : List UInt8 → List UInt8 → Except Nat α} {t : List UInt8} {k : Nat} (h : getText l = (t, k, 0)) : rdT l f = f t (l.drop k) := by
  unfold rdT; rw [h]; rfl
theorem rdT_err {l : List UInt8} {f : List UInt8 → List UInt8 → Except Nat α} {t : List UInt8} {k er : Nat} (h : getText l = (t, k, er)) (he : er ≠ 0) : rdT l f = .error er := by
  unfold rdT; rw [h, if_pos he]
theorem rdL_ok {most : Int} {l : List UInt8} {f : List (List UInt8) → List UInt8 → Except Nat α} {t : List (List UInt8)} {k : Nat} (h : getList l most = (t, k, 0)) : rdL most l f = f t (l.drop k) := by
  unfold rdL; rw [h]; rfl
theorem rdL_err {most : Int} {l : List UInt8} {f : List (List UInt8) → List UInt8 → Except Nat α} {t : List (List UInt8)} {k er : Nat} (h : getList l most = (t, k, er)) (he : er ≠ 0) : rdL most l f = .error er := by
  unfold rdL; rw [h, if_pos he]

theorem rdI_enc {f : Nat → List UInt8 → Except Nat α} (n : Nat) (r : List UInt8) (h : n ≤ 4611686018427387903) : rdI (enc n ++ r) f = f n r := by
  rw [rdI_ok (getInt_enc n r h), List.drop_left]
theorem rdT_txt {f : List UInt8 → List UInt8 → Except Nat α} (t r : List UInt8) (h : t.length ≤ 65536) : rdT (txt t ++ r) f = f t r := by
  rw [rdT_ok (getText_txt t r h), List.drop_left]
theorem rdL_lst {f : List (List UInt8) → List UInt8 → Except Nat α} (most : Int) (ts : List (List UInt8)) (r : List UInt8) (h : ∀ t ∈ ts, t.length ≤ 65536) (hn : ts.length ≤ 4611686018427387903) (hm : (ts.length : Int) ≤ most) : rdL most (lst ts ++ r) f = f ts r := by
  rw [rdL_ok (getList_lst ts r most h hn hm), List.drop_left]

theorem rdI_back {l : List UInt8} {f : Nat → List UInt8 → Except Nat α} {d : α} (h : rdI l f = .ok d) : ∃ n r, l = enc n ++ r ∧ n ≤ 4611686018427387903 ∧ f n r = .ok d := by
  rcases hg : getInt l with ⟨n, k, e⟩
  by_cases he : e = 0
  · subst he
    rw [rdI_ok hg] at h
    have hb := getInt_bounds _ n k hg
    have hk := getInt_back _ n k hg
    exact ⟨n, l.drop k, by rw [← hk.1, List.take_append_drop], hb.1, h⟩
  · rw [rdI_err hg he] at h
    cases h
theorem rdT_back {l : List UInt8} {f : List UInt8 → List UInt8 → Except Nat α} {d : α} (h : rdT l f = .ok d) : ∃ t r, l = txt t ++ r ∧ t.length ≤ 65536 ∧ f t r = .ok d := by
  rcases hg : getText l with ⟨t, k, e⟩
  by_cases he : e = 0
  · subst he
    rw [rdT_ok hg] at h
    have hb := getText_bounds _ t k hg
    have hk := getText_back _ t k hg
    exact ⟨t, l.drop k, by rw [hk, List.take_append_drop], hb.2.2.1, h⟩
  · rw [rdT_err hg he] at h
    cases h
theorem rdL_back {most : Int} {l : List UInt8} {f : List (List UInt8) → List UInt8 → Except Nat α} {d : α} (h : rdL most l f = .ok d) : ∃ t r, l = lst t ++ r ∧ (t.length : Int) ≤ most ∧ (∀ x ∈ t, x.length ≤ 65536) ∧ f t r = .ok d := by
  rcases hg : getList l most with ⟨t, k, e⟩
  by_cases he : e = 0
  · subst he
    rw [rdL_ok hg] at h
    have hk := getList_back hg
    exact ⟨t, l.drop k, by rw [← hk.1, List.take_append_drop], hk.2.2.2.1, hk.2.2.2.2, h⟩
  · rw [rdL_err hg he] at h
    cases h

/-- Each in its turn; the first error. -/
def eachE {β : Type} (f : β → Except Nat α) : List β → Except Nat (List α)
  | [] => .ok []
  | b :: r => match f b with
    | .error e => .error e
    | .ok a => match eachE f r with
      | .error e => .error e
      | .ok xs => .ok (a :: xs)

theorem eachE_back {β : Type} {f : β → Except Nat α} {g : α → β} (hg : ∀ b a, f b = .ok a → g a = b) : ∀ (bs : List β) (xs : List α), eachE f bs = .ok xs → xs.map g = bs
  | [], xs, h => by
    simp only [eachE, Except.ok.injEq] at h
    subst h
    rfl
  | b :: r, xs, h => by
    rw [eachE] at h
    cases hb : f b with
    | error e => rw [hb] at h; cases h
    | ok a =>
      rw [hb] at h
      cases hr : eachE f r with
      | error e => rw [hr] at h; cases h
      | ok xs' =>
        rw [hr] at h
        simp only [Except.ok.injEq] at h
        subst h
        rw [List.map_cons, hg b a hb, eachE_back hg r xs' hr]

theorem eachE_all {β : Type} {f : β → Except Nat α} {p : α → Prop} (hp : ∀ b a, f b = .ok a → p a) : ∀ (bs : List β) (xs : List α), eachE f bs = .ok xs → ∀ a ∈ xs, p a
  | [], xs, h => by
    simp only [eachE, Except.ok.injEq] at h
    subst h
    simp
  | b :: r, xs, h => by
    rw [eachE] at h
    cases hb : f b with
    | error e => rw [hb] at h; cases h
    | ok a =>
      rw [hb] at h
      cases hr : eachE f r with
      | error e => rw [hr] at h; cases h
      | ok xs' =>
        rw [hr] at h
        simp only [Except.ok.injEq] at h
        subst h
        intro x hx
        rw [List.mem_cons] at hx
        rcases hx with rfl | hx
        · exact hp b x hb
        · exact eachE_all hp r xs' hr x hx

theorem eachE_map {β : Type} {f : β → Except Nat α} {g : α → β} : ∀ (xs : List α), (∀ a ∈ xs, f (g a) = .ok a) → eachE f (xs.map g) = .ok xs
  | [], _ => rfl
  | a :: r, h => by
    rw [List.map_cons, eachE, h a (by simp)]
    simp only
    rw [eachE_map r (fun x hx => h x (by simp [hx]))]
end

theorem eachE_err {α β : Type} {f : β → Except Nat α} (hf : ∀ b e, f b = .error e → e ≠ 0) : ∀ (bs : List β) (e : Nat), eachE f bs = .error e → e ≠ 0
  | [], e, h => by cases h
  | b :: r, e, h => by
    rw [eachE] at h
    cases hb : f b with
    | error e' =>
      rw [hb] at h
      simp only [Except.error.injEq] at h
      subst h
      exact hf b e' hb
    | ok a =>
      rw [hb] at h
      cases hr : eachE f r with
      | error e' =>
        rw [hr] at h
        simp only [Except.error.injEq] at h
        subst h
        exact eachE_err hf r e' hr
      | ok xs => rw [hr] at h; cases h
end Go.Proofs.YtaoiejgbbmjpkaaGreatDoor

/- Layer 6's mathematics: tags' bytes and a header's, both ways round; when a header is right. -/
namespace Go.Proofs.YtaoiejgbbmjpkaaGreatDoor
open Go.RowKit
set_option linter.unusedVariables false

/-- A tag. -/
structure TagD where
  who : Int
  mac : ByteArray

def tagB (t : TagD) : List UInt8 := goInt t.who ++ t.mac.data.toList
def tagsB (l : List TagD) : List UInt8 := lst (l.map tagB)

/-- A tag that can be read. -/
structure TagD.Fit (t : TagD) : Prop where
  lo : 0 ≤ t.who
  hi : t.who ≤ 6
  mac : t.mac.size = 16

def getTag (m : List UInt8) : Except Nat TagD :=
  rdI m fun n r => if 6 < n then .error 2 else if r.length ≠ 16 then .error 3 else .ok ⟨(n : Int), ⟨r.toArray⟩⟩

theorem getTag_tag {t : TagD} (h : t.Fit) : getTag (tagB t) = .ok t := by
  obtain ⟨who, mac⟩ := t
  obtain ⟨n, rfl⟩ := Int.eq_ofNat_of_zero_le h.lo
  have hn : n ≤ 6 := by have := h.hi; simp only at this; omega
  have hm : mac.data.toList.length = 16 := by have := h.mac; simpa using this
  unfold getTag tagB
  simp only
  rw [goInt_nat n (by omega), rdI_enc n _ (by omega), if_neg (by omega), if_neg (by rw [hm]; simp), mk_list]

theorem getTag_back {m : List UInt8} {t : TagD} (h : getTag m = .ok t) : tagB t = m ∧ t.Fit := by
  unfold getTag at h
  obtain ⟨n, r, e, hn, h⟩ := rdI_back h
  split at h
  · cases h
  split at h
  · cases h
  rename_i h1 h2
  simp only [Except.ok.injEq] at h
  subst h
  have hr : r.length = 16 := by omega
  refine ⟨?_, by show (0 : Int) ≤ n; omega, by show (n : Int) ≤ 6; omega, by show (⟨r.toArray⟩ : ByteArray).size = 16; rw [size_mk]; exact hr⟩
  unfold tagB
  simp only
  rw [goInt_nat n hn, e]

theorem tagB_len {t : TagD} (h : t.Fit) : (tagB t).length ≤ 25 := by
  have := goInt_length t.who
  have h2 : t.mac.data.toList.length = 16 := by have := h.mac; simpa using this
  unfold tagB
  rw [List.length_append]
  omega

/-- The tags at the front of bytes, in how many, and the error. -/
def getTagsL (l : List UInt8) : List TagD × Nat × Nat :=
  if (getList l 7).2.2 ≠ 0 then ([], 0, (getList l 7).2.2) else match eachE getTag (getList l 7).1 with
    | .error e => ([], 0, e)
    | .ok ts => (ts, (getList l 7).2.1, 0)

theorem getTag_err {m : List UInt8} {e : Nat} (h : getTag m = .error e) : e ≠ 0 := by
  unfold getTag at h
  rcases hg : getInt m with ⟨n, k, er⟩
  by_cases he : er = 0
  · subst he
    rw [rdI_ok hg] at h
    split at h
    · simp only [Except.error.injEq] at h; omega
    split at h
    · simp only [Except.error.injEq] at h; omega
    cases h
  · rw [rdI_err hg he] at h
    simp only [Except.error.injEq] at h
    omega

theorem getTags_tags {l : List TagD} (r : List UInt8) (h : ∀ t ∈ l, t.Fit) (hl : l.length ≤ 7) : getTagsL (tagsB l ++ r) = (l, (tagsB l).length, 0) := by
  have hg : getList (tagsB l ++ r) 7 = (l.map tagB, (lst (l.map tagB)).length, 0) := getList_lst (l.map tagB) r 7 (by
    intro t ht
    obtain ⟨x, hx, rfl⟩ := List.mem_map.1 ht
    have := tagB_len (h x hx)
    omega) (by rw [List.length_map]; omega) (by rw [List.length_map]; omega)
  unfold getTagsL
  rw [hg, if_neg (by simp), eachE_map l (fun t ht => getTag_tag (h t ht))]
  rfl

theorem getTags_back {l : List UInt8} {ts : List TagD} {k : Nat} (h : getTagsL l = (ts, k, 0)) : l.take k = tagsB ts ∧ k = (tagsB ts).length ∧ k ≤ l.length ∧ ts.length ≤ 7 ∧ ∀ t ∈ ts, t.Fit := by
  rcases hg : getList l 7 with ⟨ms, j, e⟩
  unfold getTagsL at h
  rw [hg] at h
  by_cases he : e ≠ 0
  · rw [if_pos he] at h
    simp only [Prod.mk.injEq] at h
    exact absurd h.2.2 he
  rw [if_neg he] at h
  have he0 : e = 0 := by omega
  subst he0
  cases hm : eachE getTag ms with
  | error er =>
    rw [hm] at h
    simp only [Prod.mk.injEq] at h
    exact absurd h.2.2 (eachE_err (fun b e => getTag_err) ms er hm)
  | ok xs =>
    rw [hm] at h
    simp only [Prod.mk.injEq] at h
    obtain ⟨rfl, rfl, _⟩ := h
    obtain ⟨b1, b2, b3, b4, _⟩ := getList_back hg
    have hb := eachE_back (g := tagB) (fun b a hba => (getTag_back hba).1) ms xs hm
    have hf := eachE_all (p := TagD.Fit) (fun b a hba => (getTag_back hba).2) ms xs hm
    have hlen : xs.length = ms.length := by rw [← hb, List.length_map]
    unfold tagsB
    rw [hb]
    exact ⟨b1, b2, b3, by omega, hf⟩

section
variable {α : Type}

def rdG (l : List UInt8) (f : List TagD → List UInt8 → Except Nat α) : Except Nat α := if (getTagsL l).2.2 ≠ 0 then .error (getTagsL l).2.2 else f (getTagsL l).1 (l.drop (getTagsL l).2.1)

theorem rdG_ok {l : List UInt8} {f : List TagD → List UInt8 → Except Nat α} {t : List TagD} {k : Nat} (h : getTagsL l = (t, k, 0)) : rdG l f = f t (l.drop k) := by
  unfold rdG; rw [h]; rfl
theorem rdG_err {l : List UInt8} {f : List TagD → List UInt8 → Except Nat α} {t : List TagD} {k er : Nat} (h : getTagsL l = (t, k, er)) (he : er ≠ 0) : rdG l f = .error er := by
  unfold rdG; rw [h, if_pos he]
theorem rdG_tags {f : List TagD → List UInt8 → Except Nat α} (t : List TagD) (r : List UInt8) (h : ∀ x ∈ t, x.Fit) (hl : t.length ≤ 7) : rdG (tagsB t ++ r) f = f t r := by
  rw [rdG_ok (getTags_tags r h hl), List.drop_left]
theorem rdG_back {l : List UInt8} {f : List TagD → List UInt8 → Except Nat α} {d : α} (h : rdG l f = .ok d) : ∃ t r, l = tagsB t ++ r ∧ t.length ≤ 7 ∧ (∀ x ∈ t, x.Fit) ∧ f t r = .ok d := by
  rcases hg : getTagsL l with ⟨t, k, e⟩
  by_cases he : e = 0
  · subst he
    rw [rdG_ok hg] at h
    obtain ⟨b1, _, _, b4, b5⟩ := getTags_back hg
    exact ⟨t, l.drop k, by rw [← b1, List.take_append_drop], b4, b5, h⟩
  · rw [rdG_err hg he] at h
    cases h
end

/-- A Ref. -/
structure RefD where
  digest : ByteArray
  acks : List TagD

def refB (r : RefD) : List UInt8 := txt r.digest.data.toList ++ tagsB r.acks

/-- A Ref that can be read. -/
structure RefD.Fit (r : RefD) : Prop where
  dig : r.digest.size ≤ 65536
  few : r.acks.length ≤ 7
  all : ∀ t ∈ r.acks, t.Fit

section
variable {α : Type}

def rdRefs : Nat → List UInt8 → (List RefD → List UInt8 → Except Nat α) → Except Nat α
  | 0, l, f => f [] l
  | n + 1, l, f => rdT l fun d l => rdG l fun ts l => rdRefs n l fun rs l => f (⟨⟨d.toArray⟩, ts⟩ :: rs) l

theorem rdRefs_back : ∀ (n : Nat) (l : List UInt8) (f : List RefD → List UInt8 → Except Nat α) (d : α), rdRefs n l f = .ok d → ∃ rs r, l = rs.flatMap refB ++ r ∧ rs.length = n ∧ (∀ x ∈ rs, x.Fit) ∧ f rs r = .ok d
  | 0, l, f, d, h => ⟨[], l, rfl, rfl, by simp, h⟩
  | n + 1, l, f, d, h => by
    rw [rdRefs] at h
    obtain ⟨t, r1, e1, b1, h⟩ := rdT_back h
    obtain ⟨g, r2, e2, b2, b3, h⟩ := rdG_back h
    obtain ⟨rs, r3, e3, b4, b5, h⟩ := rdRefs_back n r2 _ d h
    refine ⟨⟨⟨t.toArray⟩, g⟩ :: rs, r3, ?_, by rw [List.length_cons, b4], ?_, h⟩
    · rw [List.flatMap_cons, refB, e1, e2, e3]
      simp only [List.append_assoc]
    · intro x hx
      rw [List.mem_cons] at hx
      rcases hx with rfl | hx
      · exact ⟨by rw [size_mk]; exact b1, b2, b3⟩
      · exact b5 x hx
end

/-- A header. -/
structure HdrD where
  author : Int
  round : Int
  refs : List RefD
  parents : List ByteArray

def encH (h : HdrD) : List UInt8 := goInt h.author ++ goInt h.round ++ goInt (h.refs.length : Int) ++ h.refs.flatMap refB ++ lst (bl h.parents)

/-- A header from the front of bytes, and what is left. -/
def rdH {α : Type} (l : List UInt8) (f : HdrD → List UInt8 → Except Nat α) : Except Nat α :=
  rdI l fun a l => rdI l fun r l => rdI l fun n l => if 4 < n then .error 8 else rdRefs n l fun rs l => rdL 7 l fun ps l => f ⟨(a : Int), (r : Int), rs, mks ps⟩ l

def decH (l : List UInt8) : Except Nat HdrD := rdH l fun h l => if l ≠ [] then .error 6 else if 6 < h.author then .error 2 else .ok h

/-- A header that can be read. -/
structure HdrD.Fit (h : HdrD) : Prop where
  a0 : 0 ≤ h.author
  a6 : h.author ≤ 6
  r0 : 0 ≤ h.round
  rM : h.round ≤ 4611686018427387903
  few : h.refs.length ≤ 4
  refs : ∀ x ∈ h.refs, x.Fit
  ps : h.parents.length ≤ 7
  pz : ∀ p ∈ h.parents, p.size ≤ 65536

/-- Texts of 32 bytes, strictly rising, behind one (none ahead of the first: nothing is below every text of 32 bytes). -/
def risingGo : Option ByteArray → List ByteArray → Nat
  | _, [] => 0
  | a, k :: r => if k.size ≠ 32 then 3 else if (match a with | none => false | some x => Op.bytesLess k.toList x.toList || k.toList == x.toList) = true then 9 else risingGo (some k) r

def risingL (l : List ByteArray) : Nat := risingGo none l

/-- Refs: size, order, enough. en: what is wrong with tags of a word. -/
def refsGo (en : List TagD → ByteArray → Nat) : Option ByteArray → List RefD → Nat
  | _, [] => 0
  | a, x :: r => if x.digest.size ≠ 32 then 3 else if (match a with | none => false | some y => Op.bytesLess x.digest.toList y.toList || x.digest.toList == y.toList) = true then 9 else if en x.acks x.digest ≠ 0 then en x.acks x.digest else refsGo en (some x.digest) r

/-- What is wrong with a header, n validators, need of them enough. -/
def checkH (n need : Nat) (en : List TagD → ByteArray → Nat) (h : HdrD) : Nat :=
  if h.author < 0 ∨ (n : Int) ≤ h.author ∨ h.round < 1 ∨ 4611686018427387903 < h.round then 2 else if 4 < h.refs.length then 8 else if refsGo en none h.refs ≠ 0 then refsGo en none h.refs
  else if risingL h.parents ≠ 0 then risingL h.parents else if h.round = 1 ∧ 0 < h.parents.length then 3 else if 1 < h.round ∧ h.parents.length < need then 12 else if n < h.parents.length then 8 else 0
end Go.Proofs.YtaoiejgbbmjpkaaGreatDoor

/- A block that holds a known row of cells, none of them frozen; what becomes of it by a store, by new blocks, by a draw. -/
namespace Go.Proofs.YtaoiejgbbmjpkaaGreatDoor
open Go.RowKit

/-- Block g is a row of the cells cs. -/
def Arr (w : World) (g : Nat) (t : TypeId) (cs : List Value) : Prop := w.heap[g]? = some (.cells cs.toArray t (0, 0))

theorem Arr.lt {w : World} {g : Nat} {t : TypeId} {cs : List Value} (h : Arr w g t cs) : g < w.heap.size := by
  unfold Arr at h
  by_cases hl : g < w.heap.size
  · exact hl
  · simp [Nat.not_lt.1 hl] at h

theorem Arr.cell {w : World} {g : Nat} {t : TypeId} {cs : List Value} (h : Arr w g t cs) {i : Nat} {v : Value} (hv : cs[i]? = some v) : w.cell? ⟨g, i, none⟩ = some v := by
  unfold Arr at h
  simp [World.cell?, h, hv]

theorem Arr.frozen {w : World} {g : Nat} {t : TypeId} {cs : List Value} (h : Arr w g t cs) (i : Nat) : w.frozen? ⟨g, i, none⟩ = false := by
  unfold Arr at h
  simp [World.frozen?, h]

theorem Arr.drew {w : World} {g : Nat} {t : TypeId} {cs : List Value} (h : Arr w g t cs) : Arr w.drew g t cs := h
theorem Arr.drewN {w : World} {g : Nat} {t : TypeId} {cs : List Value} (h : Arr w g t cs) (n : Nat) : Arr (w.drewN n) g t cs := h

theorem Arr.alloc {w : World} {g : Nat} {t : TypeId} {cs : List Value} (h : Arr w g t cs) (o : Obj) : Arr (w.alloc o) g t cs := by
  have := h.lt
  unfold Arr at h ⊢
  rw [Below.heap_alloc w o g this, h]

theorem Arr.new (w : World) (t : TypeId) (cs : List Value) : Arr (w.alloc (.cells cs.toArray t)) w.heap.size t cs := heap_alloc_new w _

theorem Arr.other {w : World} {g : Nat} {t : TypeId} {cs : List Value} (h : Arr w g t cs) {p : Addr} (hp : g ≠ p.block) (u : Value) : Arr (w.setCell p u) g t cs := by
  unfold Arr at h ⊢
  rw [Below.heap_setCell w p u g hp, h]

theorem Arr.set {w : World} {g : Nat} {t : TypeId} {cs : List Value} (h : Arr w g t cs) (i : Nat) (u : Value) : Arr (w.setCell ⟨g, i, none⟩ u) g t (cs.set i u) := by
  unfold Arr at h ⊢
  show (w.heap.modify g _)[g]? = _
  rw [Array.getElem?_modify, if_pos rfl, h]
  simp

theorem Arr.row {w : World} {g : Nat} {t : TypeId} {cs : List Value} (h : Arr w g t cs) (c' : List Value) : Arr (w.setRow g c'.toArray) g t c' := by
  unfold Arr at h ⊢
  show (w.heap.modify g _)[g]? = _
  rw [Array.getElem?_modify, if_pos rfl, h]
  simp

theorem Arr.rowOther {w : World} {g g' : Nat} {t : TypeId} {cs : List Value} (h : Arr w g t cs) (hg : g ≠ g') (c' : Array Value) : Arr (w.setRow g' c') g t cs := by
  unfold Arr at h ⊢
  show (w.heap.modify g' _)[g]? = _
  rw [Array.getElem?_modify, if_neg (fun e => hg e.symm), h]

theorem below_setRow {B : Nat} {a w : World} (h : Below B a w) {g : Nat} (hg : B ≤ g) (c' : Array Value) : Below B a (w.setRow g c') := by
  refine h.trans ⟨rfl, rfl, rfl, by show _ ≤ (w.heap.modify g _).size; simp, fun k hk => ?_⟩
  show (w.heap.modify g _)[k]? = _
  rw [Array.getElem?_modify, if_neg (by omega)]

theorem Arr.below {w w' : World} {g B : Nat} {t : TypeId} {cs : List Value} (h : Arr w g t cs) (hb : Below B w w') (hg : g < B) : Arr w' g t cs := by
  unfold Arr at h ⊢
  rw [hb.block g hg, h]

theorem alloc_size (w : World) (o : Obj) : (w.alloc o).heap.size = w.heap.size + 1 := by
  show (w.heap.push o).size = _
  simp

theorem two_new (w : World) (t1 t2 : TypeId) (l1 l2 : List Value) :
    Arr ((w.alloc (.cells l1.toArray t1)).alloc (.cells l2.toArray t2)) w.heap.size t1 l1 ∧ Arr ((w.alloc (.cells l1.toArray t1)).alloc (.cells l2.toArray t2)) (w.heap.size + 1) t2 l2
      ∧ Below w.heap.size w ((w.alloc (.cells l1.toArray t1)).alloc (.cells l2.toArray t2)) := by
  refine ⟨(Arr.new _ _ _).alloc _, ?_, ((Below.refl _ w).alloc (Nat.le_refl _) _).alloc (by rw [alloc_size]; omega) _⟩
  have := Arr.new (w.alloc (.cells l1.toArray t1)) t2 l2
  rwa [alloc_size] at this

theorem four_new (w : World) (t1 t2 t3 t4 : TypeId) (l1 l2 l3 l4 : List Value) (W : World) (hW : W = (((w.alloc (.cells l1.toArray t1)).alloc (.cells l2.toArray t2)).alloc (.cells l3.toArray t3)).alloc (.cells l4.toArray t4)) :
    Arr W w.heap.size t1 l1 ∧ Arr W (w.heap.size + 1) t2 l2 ∧ Arr W (w.heap.size + 1 + 1) t3 l3 ∧ Arr W (w.heap.size + 1 + 1 + 1) t4 l4 ∧ Below w.heap.size w W := by
  subst hW
  obtain ⟨h1, h2, hb⟩ := two_new w t1 t2 l1 l2
  have e2 : ((w.alloc (.cells l1.toArray t1)).alloc (.cells l2.toArray t2)).heap.size = w.heap.size + 1 + 1 := by rw [alloc_size, alloc_size]
  obtain ⟨h3, h4, hb'⟩ := two_new ((w.alloc (.cells l1.toArray t1)).alloc (.cells l2.toArray t2)) t3 t4 l3 l4
  rw [e2] at h3 h4 hb'
  exact ⟨(h1.alloc _).alloc _, (h2.alloc _).alloc _, h3, h4, hb.trans (hb'.mono (by omega))⟩

theorem belowNew (w : World) (c : Obj) : Below w.heap.size w (w.alloc c) := (Below.refl w.heap.size w).alloc (Nat.le_refl _) c

theorem setCell_size (w : World) (p : Addr) (v : Value) : (w.setCell p v).heap.size = w.heap.size := by
  show (w.heap.modify p.block _).size = _
  simp
end Go.Proofs.YtaoiejgbbmjpkaaGreatDoor

/- A row at whatever place of a block of the call's own, with room behind it: cut in front, appended to behind. -/
namespace Go.Proofs.YtaoiejgbbmjpkaaGreatDoor
open Go.RowKit
set_option linter.unusedVariables false

/-- v is a row of n elements, the cells xs, in a block of the call's own (or it has no room at all). -/
def QRow (w : World) (base : Nat) (e : TypeId) (size : Nat) (v : Value) (n : Nat) (xs : List Value) : Prop :=
  xs.length = n * size ∧
  ((∃ ao, v = .slice ao 0 0 ∧ n = 0) ∨
   ∃ g pre post cap, v = .slice (some ⟨g, pre.length, none⟩) n cap ∧ base ≤ g ∧ Arr w g e (pre ++ xs ++ post) ∧ n ≤ cap ∧ cap ≤ maxLen ∧ post.length = (cap - n) * size)

theorem QRow.nil (w : World) (base : Nat) (e : TypeId) (size : Nat) (ao : Option Addr) : QRow w base e size (.slice ao 0 0) 0 [] :=
  ⟨by simp, Or.inl ⟨ao, rfl, rfl⟩⟩

theorem QRow.of_own {w : World} {base : Nat} {e : TypeId} {size : Nat} {v : Value} {n : Nat} {xs : List Value} (h : w.ownsRow base e size v n xs) : QRow w base e size v n xs := by
  refine ⟨h.1, ?_⟩
  rcases h.2 with ⟨hv, hn⟩ | ⟨g, cap, cur, hv, hb, hg, hnc, hcm, hsz, htk⟩
  · exact Or.inl ⟨none, hv, hn⟩
  · refine Or.inr ⟨g, [], cur.toList.drop (n * size), cap, hv, hb, ?_, hnc, hcm, ?_⟩
    · unfold Arr
      rw [List.nil_append, ← htk, List.take_append_drop]
      exact hg
    · rw [List.length_drop, Array.length_toList, hsz, Nat.sub_mul]

theorem QRow.form {w : World} {base : Nat} {e : TypeId} {size : Nat} {v : Value} {n : Nat} {xs : List Value} (h : QRow w base e size v n xs) : ∃ ao cap, v = .slice ao n cap ∧ n ≤ cap ∧ cap ≤ maxLen := by
  rcases h.2 with ⟨ao, hv, hn⟩ | ⟨g, pre, post, cap, hv, _, _, h1, h2, _⟩
  · subst hn
    exact ⟨ao, 0, hv, Nat.le_refl _, Nat.zero_le _⟩
  · exact ⟨_, cap, hv, h1, h2⟩

/-- Its cells, where it has some. -/
theorem QRow.cells {w : World} {base : Nat} {e : TypeId} {size : Nat} {v : Value} {n : Nat} {xs : List Value} (h : QRow w base e size v n xs) (hn : 0 < n) :
    ∃ g off cap, v = .slice (some ⟨g, off, none⟩) n cap ∧ base ≤ g ∧ g < w.heap.size ∧ ∀ j u, xs[j]? = some u → w.cell? ⟨g, off + j, none⟩ = some u := by
  rcases h.2 with ⟨ao, hv, h0⟩ | ⟨g, pre, post, cap, hv, hb, hg, h1, h2, h3⟩
  · omega
  · refine ⟨g, pre.length, cap, hv, hb, hg.lt, fun j u hu => hg.cell ?_⟩
    have hj := (List.getElem?_eq_some_iff.1 hu).1
    rw [List.getElem?_append_left (by rw [List.length_append]; omega), List.getElem?_append_right (by omega), Nat.add_sub_cancel_left]
    exact hu

/-- What stands elsewhere may turn. -/
theorem QRow.keep {w w' : World} {base : Nat} {e : TypeId} {size : Nat} {v : Value} {n : Nat} {xs : List Value} (h : QRow w base e size v n xs) (hk : ∀ g, v.ownBlock = some g → w'.heap[g]? = w.heap[g]?) : QRow w' base e size v n xs := by
  refine ⟨h.1, ?_⟩
  rcases h.2 with h0 | ⟨g, pre, post, cap, hv, hb, hg, r⟩
  · exact Or.inl h0
  · refine Or.inr ⟨g, pre, post, cap, hv, hb, ?_, r⟩
    unfold Arr at hg ⊢
    rw [hk g (by rw [hv]; rfl)]
    exact hg

/-- Cells that are written one behind the other. -/
theorem Arr.setCells {g : Nat} {t : TypeId} : ∀ (vs : List Value) (w : World) (pre mid post : List Value), mid.length = vs.length → Arr w g t (pre ++ mid ++ post) → Arr (w.setCells g pre.length vs) g t (pre ++ vs ++ post)
  | [], w, pre, mid, post, hl, h => by
    have : mid = [] := List.eq_nil_of_length_eq_zero hl
    subst this
    exact h
  | v :: vs, w, pre, [], post, hl, h => by simp at hl
  | v :: vs, w, pre, m :: mid, post, hl, h => by
    have h1 := h.set pre.length v
    have e : (pre ++ (m :: mid) ++ post).set pre.length v = (pre ++ [v]) ++ mid ++ post := by
      rw [List.append_assoc, List.set_append_right _ _ (by omega), Nat.sub_self]
      simp
    rw [e] at h1
    have h2 := Arr.setCells vs (w.setCell ⟨g, pre.length, none⟩ v) (pre ++ [v]) mid post (by simpa using hl) h1
    have e2 : (pre ++ [v]).length = pre.length + 1 := by simp
    rw [e2] at h2
    have e3 : pre ++ [v] ++ vs ++ post = pre ++ (v :: vs) ++ post := by simp
    rw [e3] at h2
    exact h2

theorem grown_setCells (g : Nat) : ∀ (vs : List Value) (o : Nat) (w : World), w.grownBy (w.setCells g o vs) (some g)
  | [], _, w => ⟨rfl, rfl, rfl, Nat.le_refl _, fun _ _ _ => rfl⟩
  | v :: vs, o, w => by
    obtain ⟨h1, h2, h3, h4, h5⟩ := grown_setCells g vs (o + 1) (w.setCell ⟨g, o, none⟩ v)
    refine ⟨h1, h2, h3, ?_, fun k hk hne => ?_⟩
    · have : (w.setCell ⟨g, o, none⟩ v).heap.size = w.heap.size := by show (w.heap.modify g _).size = _; simp
      rw [this] at h4
      exact h4
    · have hs : (w.setCell ⟨g, o, none⟩ v).heap.size = w.heap.size := by show (w.heap.modify g _).size = _; simp
      have hk' : k ≠ g := fun e => hne (by rw [e])
      have := h5 k (by rw [hs]; exact hk) hne
      rw [Below.heap_setCell w ⟨g, o, none⟩ v k hk'] at this
      exact this

/-- append(s, x): in the room behind, or in a new row. -/
theorem wpList_append_q {P : Program} {w : World} {ops : Array Oper} {rest : List Oper} {o : Oper} {a : Act} {Q : Exit → Act → World → Prop} (hgd : o.guard = none) (s x : Operand) (t : TypeId)
    (ho : o.op = .call { callee := .builtin .append, args := #[s, x], argTypes := #[t, t] })
    (base : Nat) (e : TypeId) (i : TypeInfo) (z : Value) (size bytes : Nat) (ht : P.underlying t = some (.slice e)) (hi : P.info? e = some i) (hz : i.zero = some z)
    (hsize : i.size = size) (hby : i.bytes = bytes) (hzs : z.cells.size = size) (hsz : 0 < size)
    (v : Value) (n : Nat) (xs : List Value) (hs : a.eval s = v) (hq : QRow w base e size v n xs)
    (ad : Addr) (m c : Nat) (news : List Value) (hx : a.eval x = .slice (some ad) m c) (hm : 0 < m) (hl : news.length = m * size) (hnews : ∀ j u, news[j]? = some u → w.cell? (ad.add j) = some u) (h1 : ∀ u ∈ news, u.oneCell' = true)
    (h63 : n + m ≤ maxLen) (hbytes : (n + m) * bytes ≤ 140737488355328) (hbase : base ≤ w.heap.size)
    (h : ∀ v' w', QRow w' base e size v' (n + m) (xs ++ news) → w.grownBy w' v.ownBlock → (∀ g, v'.ownBlock = some g → v.ownBlock = some g ∨ w.heap.size ≤ g) → wpList P ops Q rest (a.put o.dst v') w') : wpList P ops Q (o :: rest) a w := by
  have hmono : ∀ {w' : World} {v' : Value}, w'.ownsRow w.heap.size e size v' (n + m) (xs ++ news) → QRow w' base e size v' (n + m) (xs ++ news) := by
    intro w' v' ho'
    refine QRow.of_own ⟨ho'.1, ho'.2.imp id fun ⟨g, cap, cur, q1, q2, q3⟩ => ⟨g, cap, cur, q1, Nat.le_trans hbase q2, q3⟩⟩
  have hfresh : ∀ {w' : World} {v' : Value}, w'.ownsRow w.heap.size e size v' (n + m) (xs ++ news) → ∀ g, v'.ownBlock = some g → v.ownBlock = some g ∨ w.heap.size ≤ g := by
    intro w' v' ho' g hg
    exact Or.inr (ho'.lt g hg).1
  have hgr : ∀ {w' : World} (r : Option Nat), w.grownBy w' none → w.grownBy w' r := fun r hg => ⟨hg.os, hg.tape, hg.output, hg.size, fun k hk _ => hg.block k hk (by simp)⟩
  rcases hq.2 with ⟨ao, rfl, rfl⟩ | ⟨g, pre, post, cap, rfl, hb, hg, hnc, hcm, hpl⟩
  · have hxs : xs = [] := List.eq_nil_of_length_eq_zero (by simpa using hq.1)
    subst hxs
    refine wpList_append_grows w hgd s x t ho e i z size bytes ht hi hz hsize hby hzs hsz ao 0 0 [] hs (fun _ => ⟨rfl, rfl⟩) (by simp) (fun b _ j u hu => by simp at hu) ad m c news hx hl hnews h1 (by omega) h63 hbytes ?_
    intro v' w' r1 r2
    exact h v' w' (hmono r1) (hgr _ r2) (hfresh r1)
  · refine wpList_append_arg w hgd s x t ho e i z size bytes ht hi hz hsize hby hzs hsz g pre.length n cap xs hs hq.1 ?_ ad m c news hx hl hnews h1 ?_ h63 hbytes ?_ ?_
    · intro j u hu
      refine hg.cell ?_
      have hj := (List.getElem?_eq_some_iff.1 hu).1
      rw [List.getElem?_append_left (by rw [List.length_append]; omega), List.getElem?_append_right (by omega), Nat.add_sub_cancel_left]
      exact hu
    · intro hroom j hj
      have hlt : pre.length + n * size + j < (pre ++ xs ++ post).length := by
        have h2 : m * size ≤ (cap - n) * size := Nat.mul_le_mul_right _ (by omega)
        rw [List.length_append, List.length_append, hq.1, hpl]
        omega
      exact ⟨by rw [hg.cell (List.getElem?_eq_getElem hlt)]; rfl, hg.frozen _⟩
    · intro hroom
      have h2 : m * size ≤ (cap - n) * size := Nat.mul_le_mul_right _ (by omega)
      have hA : Arr w g e ((pre ++ xs) ++ post.take news.length ++ post.drop news.length) := by
        rw [List.append_assoc (pre ++ xs), List.take_append_drop]
        exact hg
      have hA2 := Arr.setCells news w (pre ++ xs) (post.take news.length) (post.drop news.length) (by rw [List.length_take]; omega) hA
      have e1 : (pre ++ xs).length = pre.length + n * size := by rw [List.length_append, hq.1]
      rw [e1] at hA2
      refine h _ _ ⟨by rw [List.length_append, hq.1, hl, Nat.add_mul], Or.inr ⟨g, pre, post.drop news.length, cap, rfl, hb, ?_, hroom, hcm, ?_⟩⟩ (grown_setCells g news _ w) (fun g' hg' => Or.inl hg')
      · rw [← List.append_assoc pre]
        exact hA2
      · rw [List.length_drop, hpl, hl, ← Nat.sub_mul]
        congr 1
        omega
    · intro _ v' w' r1 r2
      exact h v' w' (hmono r1) (hgr _ r2) (hfresh r1)

/-- All blocks that were there are as they were, but those of S. -/
structure Kept (S : Nat → Prop) (w w' : World) : Prop where
  os : w'.os = w.os
  tape : w'.tape = w.tape
  output : w'.output = w.output
  size : w.heap.size ≤ w'.heap.size
  block : ∀ k, k < w.heap.size → ¬ S k → w'.heap[k]? = w.heap[k]?

theorem Kept.refl (S : Nat → Prop) (w : World) : Kept S w w := ⟨rfl, rfl, rfl, Nat.le_refl _, fun _ _ _ => rfl⟩

theorem Kept.trans {S : Nat → Prop} {a b c : World} (h : Kept S a b) (k : Kept S b c) : Kept S a c :=
  ⟨k.os.trans h.os, k.tape.trans h.tape, k.output.trans h.output, Nat.le_trans h.size k.size, fun i hi hn => (k.block i (Nat.lt_of_lt_of_le hi h.size) hn).trans (h.block i hi hn)⟩

theorem Kept.mono {S T : Nat → Prop} {w w' : World} (h : Kept S w w') (hs : ∀ k, k < w.heap.size → S k → T k) : Kept T w w' :=
  ⟨h.os, h.tape, h.output, h.size, fun k hk hn => h.block k hk (fun hS => hn (hs k hk hS))⟩

theorem Kept.of_below {S : Nat → Prop} {w w' : World} (h : Below w.heap.size w w') : Kept S w w' := ⟨h.os, h.tape, h.output, h.size, fun k hk _ => h.block k hk⟩

theorem Kept.of_grown {w w' : World} {r : Option Nat} (h : w.grownBy w' r) : Kept (fun k => r = some k) w w' := ⟨h.os, h.tape, h.output, h.size, fun k hk hn => h.block k hk (fun e => hn e.symm)⟩

theorem Kept.setCell (w : World) (p : Addr) (v : Value) : Kept (fun k => k = p.block) w (w.setCell p v) :=
  ⟨rfl, rfl, rfl, by show _ ≤ (w.heap.modify p.block _).size; simp, fun k _ hn => Below.heap_setCell w p v k hn⟩

theorem Kept.below {S : Nat → Prop} {w w' : World} (h : Kept S w w') {B : Nat} (hB : B ≤ w.heap.size) (hS : ∀ k, S k → B ≤ k) : Below B w w' :=
  ⟨h.os, h.tape, h.output, h.size, fun k hk => h.block k (by omega) (fun hs => by have := hS k hs; omega)⟩

theorem Kept.cell {S : Nat → Prop} {w w' : World} (h : Kept S w w') {p : Addr} (hp : p.block < w.heap.size) (hn : ¬ S p.block) : w'.cell? p = w.cell? p := by
  have := h.block p.block hp hn
  simp only [World.cell?, this]

theorem Arr.kept {S : Nat → Prop} {w w' : World} {g : Nat} {t : TypeId} {cs : List Value} (h : Arr w g t cs) (hk : Kept S w w') (hn : ¬ S g) : Arr w' g t cs := by
  have hl := h.lt
  unfold Arr at h ⊢
  rw [hk.block g hl hn]
  exact h

theorem QRow.kept {S : Nat → Prop} {w w' : World} {base : Nat} {e : TypeId} {size : Nat} {v : Value} {n : Nat} {xs : List Value} (h : QRow w base e size v n xs) (hk : Kept S w w') (hn : ∀ g, v.ownBlock = some g → ¬ S g) : QRow w' base e size v n xs := by
  refine ⟨h.1, h.2.imp id ?_⟩
  rintro ⟨g, pre, post, cap, hv, hb, hg, r⟩
  exact ⟨g, pre, post, cap, hv, hb, hg.kept hk (hn g (by rw [hv]; rfl)), r⟩

/-- A row of no transactions, or one in memory: its block is there. -/
theorem QRow.lt {w : World} {base : Nat} {e : TypeId} {size : Nat} {v : Value} {n : Nat} {xs : List Value} (h : QRow w base e size v n xs) : n = 0 ∨ ∃ g, v.ownBlock = some g ∧ base ≤ g ∧ g < w.heap.size := by
  rcases h.2 with ⟨ao, hv, hn⟩ | ⟨g, pre, post, cap, hv, hb, hg, r⟩
  · exact Or.inl hn
  · exact Or.inr ⟨g, by rw [hv]; rfl, hb, hg.lt⟩

theorem Kept.set {S : Nat → Prop} {w w' : World} (h : Kept S w w') {p : Addr} (hp : S p.block) (v : Value) : Kept S w (w'.setCell p v) :=
  h.trans ((Kept.setCell w' p v).mono (fun k _ e => by rw [e]; exact hp))
end Go.Proofs.YtaoiejgbbmjpkaaGreatDoor

/- append onto a row that is cut in front: at a step of a region that draws its order. -/
namespace Go.Proofs.YtaoiejgbbmjpkaaGreatDoor
open Go.RowKit
set_option linter.unusedVariables false

theorem run_append_q {P : Program} (w : World) (t ty e : TypeId) (i : TypeInfo) (z : Value) (size bytes : Nat) (ht : P.underlying t = some (.slice e)) (hi : P.info? e = some i) (hz : i.zero = some z)
    (hsize : i.size = size) (hby : i.bytes = bytes) (hzs : z.cells.size = size) (hsz : 0 < size) (base : Nat) (v : Value) (n : Nat) (xs : List Value) (hq : QRow w base e size v n xs)
    (ad : Addr) (m c : Nat) (news : List Value) (hm : 0 < m) (hl : news.length = m * size) (hnews : ∀ j u, news[j]? = some u → w.cell? (ad.add j) = some u) (h1 : ∀ u ∈ news, u.oneCell' = true)
    (h63 : n + m ≤ maxLen) (hbytes : (n + m) * bytes ≤ 140737488355328) (hbase : base ≤ w.heap.size) :
    ∃ v' w', (Builtin.append_ #[t, t] ty #[v, .slice (some ad) m c]).run P w = .ok v' w' ∧ QRow w' base e size v' (n + m) (xs ++ news) ∧ w.grownBy w' v.ownBlock ∧ (∀ g, v'.ownBlock = some g → v.ownBlock = some g ∨ w.heap.size ≤ g) := by
  have hmono : ∀ {w' : World} {v' : Value}, w'.ownsRow w.heap.size e size v' (n + m) (xs ++ news) → QRow w' base e size v' (n + m) (xs ++ news) := by
    intro w' v' ho'
    refine QRow.of_own ⟨ho'.1, ho'.2.imp id fun ⟨g, cap, cur, q1, q2, q3⟩ => ⟨g, cap, cur, q1, Nat.le_trans hbase q2, q3⟩⟩
  have hfresh : ∀ {w' : World} {v' : Value}, w'.ownsRow w.heap.size e size v' (n + m) (xs ++ news) → ∀ g, v'.ownBlock = some g → v.ownBlock = some g ∨ w.heap.size ≤ g := by
    intro w' v' ho' g hg
    exact Or.inr (ho'.lt g hg).1
  have hgr : ∀ {w' : World} (r : Option Nat), w.grownBy w' none → w.grownBy w' r := fun r hg => ⟨hg.os, hg.tape, hg.output, hg.size, fun k hk _ => hg.block k hk (by simp)⟩
  rcases hq.2 with ⟨ao, rfl, rfl⟩ | ⟨g, pre, post, cap, rfl, hb, hg, hnc, hcm, hpl⟩
  · have hxs : xs = [] := List.eq_nil_of_length_eq_zero (by simpa using hq.1)
    subst hxs
    cases ao with
    | some b =>
      obtain ⟨v', w', hrun, r1, r2⟩ := run_append_arg_grows (P := P) w t ty e i z size bytes ht hi hz hsize hby hzs hsz b 0 0 [] (by simp) (fun j u hu => by simp at hu) ad m c news hl hnews (by omega) h63 hbytes
      exact ⟨v', w', hrun, hmono r1, hgr _ r2, hfresh r1⟩
    | none =>
      obtain ⟨v', w', hrun, r1, r2, _⟩ := run_append_own (P := P) w w.heap.size t ty e i z size bytes ht hi hz hsize hby hzs hsz (.slice none 0 0) 0 [] (World.ownsRow_nil w _ e size) ad m c news hl hnews h1 h63 hbytes (Nat.le_refl _)
      exact ⟨v', w', hrun, hmono r1, r2, hfresh r1⟩
  · have hcell : ∀ j u, xs[j]? = some u → w.cell? ⟨g, pre.length + j, none⟩ = some u := by
      intro j u hu
      refine hg.cell ?_
      have hj := (List.getElem?_eq_some_iff.1 hu).1
      rw [List.getElem?_append_left (by rw [List.length_append]; omega), List.getElem?_append_right (by omega), Nat.add_sub_cancel_left]
      exact hu
    by_cases hroom : n + m ≤ cap
    · have h2 : m * size ≤ (cap - n) * size := Nat.mul_le_mul_right _ (by omega)
      have hsp : ∀ j, j < news.length → (w.cell? ⟨g, pre.length + n * size + j, none⟩).isSome = true ∧ w.frozen? ⟨g, pre.length + n * size + j, none⟩ = false := by
        intro j hj
        have hlt : pre.length + n * size + j < (pre ++ xs ++ post).length := by
          rw [List.length_append, List.length_append, hq.1, hpl]
          omega
        exact ⟨by rw [hg.cell (List.getElem?_eq_getElem hlt)]; rfl, hg.frozen _⟩
      subst hsize
      have hrun := run_append_room_cells (P := P) w t ty e i ht hi g pre.length n cap ad m c news hl hnews h1 hroom (fun j hj => (hsp j hj).1) (fun j hj => (hsp j hj).2)
      have hA : Arr w g e ((pre ++ xs) ++ post.take news.length ++ post.drop news.length) := by
        rw [List.append_assoc (pre ++ xs), List.take_append_drop]
        exact hg
      have hA2 := Arr.setCells news w (pre ++ xs) (post.take news.length) (post.drop news.length) (by rw [List.length_take]; omega) hA
      have e1 : (pre ++ xs).length = pre.length + n * i.size := by rw [List.length_append, hq.1]
      rw [e1] at hA2
      refine ⟨_, _, hrun, ⟨by rw [List.length_append, hq.1, hl, Nat.add_mul], Or.inr ⟨g, pre, post.drop news.length, cap, rfl, hb, ?_, hroom, hcm, ?_⟩⟩, grown_setCells g news _ w, fun g' hg' => Or.inl hg'⟩
      · rw [← List.append_assoc pre]
        exact hA2
      · rw [List.length_drop, hpl, hl, ← Nat.sub_mul]
        congr 1
        omega
    · obtain ⟨v', w', hrun, r1, r2⟩ := run_append_arg_grows (P := P) w t ty e i z size bytes ht hi hz hsize hby hzs hsz ⟨g, pre.length, none⟩ n cap xs hq.1 (fun j u hj => by rw [Addr.add_lit]; exact hcell j u hj) ad m c news hl hnews (by omega) h63 hbytes
      exact ⟨v', w', hrun, hmono r1, hgr _ r2, hfresh r1⟩

theorem step_append_q {P : Program} (w : World) {ops : Array Oper} {o : Oper} {a : Act} {K : Act → World → Prop} {Q : Exit → Act → World → Prop} {E : Prop} (hgd : o.guard = none) (s x : Operand) (t : TypeId)
    (ho : o.op = .call { callee := .builtin .append, args := #[s, x], argTypes := #[t, t] })
    (e : TypeId) (i : TypeInfo) (z : Value) (size bytes : Nat) (ht : P.underlying t = some (.slice e)) (hi : P.info? e = some i) (hz : i.zero = some z)
    (hsize : i.size = size) (hby : i.bytes = bytes) (hzs : z.cells.size = size) (hsz : 0 < size)
    (base : Nat) (v : Value) (n : Nat) (xs : List Value) (hs : a.eval s = v) (hq : QRow w base e size v n xs)
    (ad : Addr) (m c : Nat) (news : List Value) (hx : a.eval x = .slice (some ad) m c) (hm : 0 < m) (hl : news.length = m * size) (hnews : ∀ j u, news[j]? = some u → w.cell? (ad.add j) = some u) (h1 : ∀ u ∈ news, u.oneCell' = true)
    (h63 : n + m ≤ maxLen) (hbytes : (n + m) * bytes ≤ 140737488355328) (hbase : base ≤ w.heap.size)
    (h : ∀ v' w', QRow w' base e size v' (n + m) (xs ++ news) → w.grownBy w' v.ownBlock → (∀ g, v'.ownBlock = some g → v.ownBlock = some g ∨ w.heap.size ≤ g) → K (a.put o.dst v') w') : if Region.wanted o (yielded ops a.tmps) = true then Oper.wp P o a w K Q else E := by
  rw [if_pos (by simp [Region.wanted, hgd])]
  obtain ⟨v', w', hrun, r1, r2, r3⟩ := run_append_q (P := P) w t o.type e i z size bytes ht hi hz hsize hby hzs hsz base v n xs hq ad m c news hm hl hnews h1 h63 hbytes hbase
  unfold Oper.wp
  simp [execOp, ho, resolve, invoke, builtin, hs, hx, hrun, Result.andThen]
  exact h v' w' r1 r2 r3
end Go.Proofs.YtaoiejgbbmjpkaaGreatDoor

/- What tuskref01.Same does at two rows of the same strings: it answers true; nothing old in memory is turned. -/
namespace Go.Proofs.YtaoiejgbbmjpkaaGreatDoor
open Go.RowKit

theorem StrsAt.drewN {w : World} {ao : Option Addr} {ss : List ByteArray} (h : StrsAt w ao ss) (n : Nat) : StrsAt (w.drewN n) ao ss :=
  h.below (below_drewN (Below.refl _ _) n)

set_option maxRecDepth 100000 in
set_option maxHeartbeats 1000000 in
theorem same_any (a0 a1 : Option Addr) (c0 c1 : Nat) (ss : List ByteArray) (w : World) (h0 : StrsAt w a0 ss) (h1 : StrsAt w a1 ss) (hn : ss.length ≤ 9223372036854775807) :
    Calls Tryz.prog 116 #[.slice a0 ss.length c0, .slice a1 ss.length c1] w fun e w' => e = .returned (.bool true) ∧ Below w.heap.size w w' := by
  go_enter Tryz.func116, Tryz.ntmps116
  go_wp2
  go_loopw [5] (fun i wr => ∃ m : Nat, m ≤ ss.length ∧ i = .int .i64 m ∧ Below w.heap.size w wr ∧ StrsAt wr a0 ss ∧ StrsAt wr a1 ss) (fun i _ => ss.length - (intOf i).toNat)
  case atStart => exact ⟨0, Nat.zero_le _, rfl, Below.refl _ _, h0, h1⟩
  case round =>
    clear h0 h1
    obtain ⟨m, hm, rfl, hw, k0, k1⟩ := hrel
    by_cases hlt : m < ss.length
    · obtain ⟨b0, o0, rfl, _, hcl0⟩ := k0 m hlt
      obtain ⟨b1, o1, rfl, _, hcl1⟩ := k1 m hlt
      go_wp2_with fail
      go_quiet (fail)
      have hwf := below_drewN hw nq
      have j0 := k0.drewN nq
      have j1 := k1.drewN nq
      clear hw k0 k1 hcl0 hcl1
      go_wp2
      go_roundw
      case rel => exact ⟨m + 1, by omega, by go_num, hwf, j0, j1⟩
      case measure => simp [intOf]; omega
    · go_wp2
      go_ret
      exact ⟨rfl, hw⟩
end Go.Proofs.YtaoiejgbbmjpkaaGreatDoor

/- Rows of strings of the call's own. -/
namespace Go.Proofs.YtaoiejgbbmjpkaaGreatDoor
open Go.RowKit
set_option linter.unusedVariables false

theorem strs_news {w : World} {ad : Addr} {ss : List ByteArray} (h : StrsAt w (some ad) ss) : ∀ j u, ((bl ss).map strVal)[j]? = some u → w.cell? (ad.add j) = some u := by
  intro j u hu
  have hj : j < ss.length := by
    have := (List.getElem?_eq_some_iff.1 hu).1
    simpa [bl] using this
  obtain ⟨b, off, e, _, hc⟩ := h j hj
  simp at e
  subst e
  rw [Go.WideShapes.add_plain, hc]
  simp [bl, strVal, List.getElem?_eq_getElem hj] at hu
  rw [hu]

/-- A row of strings of the call's own. -/
def OwnStrs (base : Nat) (w : World) (ao : Option Addr) (ss : List ByteArray) : Prop :=
  ∀ j (h : j < ss.length), ∃ b off, ao = some ⟨b, off, none⟩ ∧ base ≤ b ∧ b < w.heap.size ∧ w.cell? ⟨b, off + j, none⟩ = some (.string ss[j])

theorem OwnStrs.at {base : Nat} {w : World} {ao : Option Addr} {ss : List ByteArray} (h : OwnStrs base w ao ss) : StrsAt w ao ss := by
  intro j hj
  obtain ⟨b, off, h1, _, h3, h4⟩ := h j hj
  exact ⟨b, off, h1, h3, h4⟩

theorem OwnStrs.put {base : Nat} {w : World} {ao : Option Addr} {ss : List ByteArray} (h : OwnStrs base w ao ss) {p : Addr} (hp : p.block < base) (v : Value) : OwnStrs base (w.setCell p v) ao ss := by
  intro j hj
  obtain ⟨b, off, h1, h2, h3, h4⟩ := h j hj
  have e : (w.setCell p v).heap[b]? = w.heap[b]? := Below.heap_setCell w p v b (by omega)
  refine ⟨b, off, h1, h2, ?_, ?_⟩
  · show b < (w.heap.modify p.block _).size
    simpa using h3
  · rw [← h4]
    simp only [World.cell?, e]

theorem OwnStrs.below {base : Nat} {w w' : World} {ao : Option Addr} {ss : List ByteArray} (h : OwnStrs base w ao ss) (hb : Below w.heap.size w w') : OwnStrs base w' ao ss := by
  intro j hj
  obtain ⟨b, off, h1, h2, h3, h4⟩ := h j hj
  exact ⟨b, off, h1, h2, Nat.lt_of_lt_of_le h3 hb.size, by rw [hb.cell (p := ⟨b, off + j, none⟩) h3]; exact h4⟩

theorem own_far {w : World} {B : Nat} {ao : Option Addr} {n cap : Nat} {ss : List ByteArray} (h : w.ownsRow B 9 1 (.slice ao n cap) n ((bl ss).map strVal)) (hn : n = ss.length) : OwnStrs B w ao ss := by
  subst hn
  intro j hj
  rcases h.2 with ⟨hv, h0⟩ | ⟨g, cap', cur, hv, hb, hg, _⟩
  · omega
  · simp at hv
    obtain ⟨rfl, _⟩ := hv
    refine ⟨g, 0, rfl, hb, (Array.getElem?_eq_some_iff.1 hg).1, ?_⟩
    have := h.cells (g := g) rfl j (.string ss[j]) (by simp [bl, strVal, List.getElem?_eq_getElem hj])
    rw [Go.WideShapes.add_plain] at this
    exact this

/-- append([]string{}, xs...): a row of the same strings, the call's own. -/
theorem wpList_append_strs {w : World} {ops : Array Oper} {rest : List Oper} {o : Oper} {a : Act} {Q : Exit → Act → World → Prop} (hgd : o.guard = none) (s x : Operand)
    (ho : o.op = .call { callee := .builtin .append, args := #[s, x], argTypes := #[28, 28] })
    (base : Nat) (v : Value) (hs : a.eval s = v) (hown : w.ownsRow base 9 1 v 0 []) (ao : Option Addr) (cap : Nat) (ss : List ByteArray) (hx : a.eval x = .slice ao ss.length cap)
    (hS : StrsAt w ao ss) (hnil : ao = none → cap = 0) (hlen : ss.length * 16 ≤ 140737488355328) (hbase : base ≤ w.heap.size)
    (h : ∀ ao' cap' w', OwnStrs base w' ao' ss → (ao' = none → cap' = 0) → Below base w w' → wpList Tryz.prog ops Q rest (a.put o.dst (.slice ao' ss.length cap')) w') : wpList Tryz.prog ops Q (o :: rest) a w := by
  obtain ⟨i0, hi, hz0, hz1, hz2⟩ := info_parts infoString
  have hbl : (bl ss).length = ss.length := by simp [bl]
  cases ao with
  | none =>
    have hc0 := hnil rfl
    subst hc0
    have hss : ss = [] := by
      cases ss with
      | nil => rfl
      | cons y r => obtain ⟨_, _, e, _⟩ := hS 0 (by simp); cases e
    subst hss
    refine wpList_append_own_none hgd s x 28 ho base 9 i0 1 Tryz.underlying28 hi v 0 [] hs hown hx ?_
    obtain ⟨ao', cap', rfl⟩ := own_slice hown
    refine h ao' cap' w (fun j hj => absurd hj (by simp)) ?_ (Below.refl _ _)
    intro he
    rcases hown.2 with ⟨hv, _⟩ | ⟨g, c, cur, hv, _⟩
    · simp at hv; exact hv.2
    · simp at hv; rw [hv.1] at he; cases he
  | some ad =>
    refine wpList_append_own w hgd s x 28 ho base 9 i0 (.string ⟨#[]⟩) 1 16 Tryz.underlying28 hi hz0 hz1 hz2 rfl (by decide) v 0 [] hs hown ad ss.length cap ((bl ss).map strVal) hx (by simp [bl]) (strs_news hS) (strVal_one _) (by unfold maxLen; omega) (by omega) hbase ?_
    intro v' w' hown' hgrow _
    have hb := (Below.refl base w).grown hgrow hbase (fun q hq => (hown.lt q hq).1)
    rw [Nat.zero_add] at hown'
    obtain ⟨ao', cap', rfl⟩ := own_slice hown'
    refine h ao' cap' w' (own_far hown' rfl) ?_ hb
    intro he
    rcases hown'.2 with ⟨hv, _⟩ | ⟨g, c, cur, hv, _⟩
    · simp at hv; exact hv.2.2
    · simp at hv; rw [hv.1] at he; cases he

/-- A new empty row of strings. -/
theorem own_made (w : World) (n : Nat) (hn : w.heap.size = n) : (w.alloc (.cells #[] 9)).ownsRow n 9 1 (.slice (some ⟨n, 0, none⟩) 0 0) 0 [] := by
  subst hn
  exact World.ownsRow_made w #[] 0 (Nat.le_refl _) (by unfold maxLen; omega) (by simp)

theorem OwnStrs.mono {b1 b2 : Nat} {w : World} {ao : Option Addr} {ss : List ByteArray} (h : OwnStrs b2 w ao ss) (hb : b1 ≤ b2) : OwnStrs b1 w ao ss := by
  intro j hj
  obtain ⟨b, off, h1, h2, h3⟩ := h j hj
  exact ⟨b, off, h1, Nat.le_trans hb h2, h3⟩
end Go.Proofs.YtaoiejgbbmjpkaaGreatDoor
