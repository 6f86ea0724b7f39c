/- The plain mathematics of layer wire, both ways: what is written is got again; what is got is written as it was; what is cut off is too short. -/
import Derived.Test.YthhildeocedpiaaDoorWireGetList
namespace Go.Proofs.YthhildeocedpiaaDoor

theorem toNat_more (m : Nat) : (UInt8.ofNat (128 + m % 128)).toNat = 128 + m % 128 := by
  simp
  omega

theorem toNat_last (m : Nat) (h : m < 128) : (UInt8.ofNat m).toNat = m := by
  simp
  omega

theorem giGo_enc : ∀ (m acc i : Nat) (r : List UInt8), acc + m * 128 ^ i ≤ 4611686018427387903 → (i = 0 ∨ m ≠ 0) → i + (enc m).length ≤ 9 →
    giGo (enc m ++ r) acc i = (acc + m * 128 ^ i, i + (enc m).length, 0) := by
  intro m
  induction m using Nat.strongRecOn with
  | _ m ih =>
    intro acc i r h1 h2 h3
    by_cases hm : m < 128
    · rw [enc_small m hm] at h3 ⊢
      rw [List.singleton_append, giGo, toNat_last m hm, if_neg (by omega)]
      have e : m % 128 = m := by omega
      rw [e, if_neg (by omega), if_neg (by omega)]
      simp
    · rw [enc_big m (by omega)] at h3 ⊢
      have hp := enc_length_pos (m / 128)
      rw [List.length_cons] at h3
      rw [List.cons_append, giGo, toNat_more, if_pos (by omega), if_neg (by omega)]
      have e : (128 + m % 128) % 128 = m % 128 := by omega
      have e2 : acc + m % 128 * 128 ^ i + m / 128 * 128 ^ (i + 1) = acc + m * 128 ^ i := by
        have e3 : m = m % 128 + 128 * (m / 128) := by omega
        rw [Nat.pow_succ]
        conv => rhs; rw [e3]
        rw [Nat.add_mul, ← Nat.mul_assoc, Nat.mul_comm (m / 128) (128 ^ i), Nat.mul_comm 128 (m / 128), Nat.mul_assoc (m / 128) 128, Nat.mul_comm 128 (128 ^ i), ← Nat.mul_assoc (m / 128), Nat.mul_comm (m / 128) (128 ^ i)]
        omega
      rw [e, ih (m / 128) (by omega) _ _ r (by rw [e2]; exact h1) (by omega) (by omega), e2, List.length_cons]
      congr 2
      omega

theorem getInt_enc (n : Nat) (r : List UInt8) (h : n ≤ 4611686018427387903) : getInt (enc n ++ r) = (n, (enc n).length, 0) := by
  have := giGo_enc n 0 0 r (by simpa using h) (Or.inl rfl) (by have := enc_length_nine n h; omega)
  rw [getInt, this]
  simp

theorem giGo_back : ∀ (l : List UInt8) (acc i N k : Nat), giGo l acc i = (N, k, 0) → ∃ m, N = acc + m * 128 ^ i ∧ k = i + (enc m).length ∧ l.take (enc m).length = enc m ∧ (i = 0 ∨ m ≠ 0)
  | [], _, _, _, _ => by intro h; simp [giGo] at h
  | c :: r, acc, i, N, k => by
    intro h
    have hc : c.toNat < 256 := UInt8.toNat_lt c
    rw [giGo] at h
    by_cases h1 : 128 ≤ c.toNat
    · rw [if_pos h1] at h
      by_cases h2 : i + 1 = 9
      · rw [if_pos h2] at h; simp at h
      · rw [if_neg h2] at h
        obtain ⟨m, e1, e2, e3, e4⟩ := giGo_back r _ _ _ _ h
        have hm : m ≠ 0 := by omega
        have hen : enc (c.toNat % 128 + 128 * m) = c :: enc m := by
          rw [enc_big _ (by omega)]
          have a1 : (c.toNat % 128 + 128 * m) / 128 = m := by omega
          have a2 : 128 + (c.toNat % 128 + 128 * m) % 128 = c.toNat := by omega
          rw [a1, a2]
          simp
        refine ⟨c.toNat % 128 + 128 * m, ?_, ?_, ?_, by omega⟩
        · rw [e1, Nat.pow_succ, Nat.add_mul, Nat.mul_comm (128 ^ i) 128, ← Nat.mul_assoc, Nat.mul_comm m 128]
          omega
        · rw [hen, List.length_cons]; omega
        · rw [hen, List.length_cons, List.take_succ_cons, e3]
    · rw [if_neg h1] at h
      by_cases h2 : 4611686018427387903 < acc + c.toNat % 128 * 128 ^ i
      · rw [if_pos h2] at h; simp at h
      · rw [if_neg h2] at h
        by_cases h3 : c.toNat = 0 ∧ 1 < i + 1
        · rw [if_pos h3] at h; simp at h
        · rw [if_neg h3] at h
          simp only [Prod.mk.injEq] at h
          have hen : enc c.toNat = [c] := by rw [enc_small _ (by omega)]; simp
          have e : c.toNat % 128 = c.toNat := by omega
          rw [e] at h
          refine ⟨c.toNat, h.1.symm, ?_, ?_, by omega⟩
          · rw [hen]; simp; omega
          · rw [hen]; simp

theorem getInt_back (l : List UInt8) (n k : Nat) (h : getInt l = (n, k, 0)) : l.take k = enc n ∧ k = (enc n).length := by
  obtain ⟨m, e1, e2, e3, _⟩ := giGo_back l 0 0 n k h
  simp at e1 e2
  subst e1
  subst e2
  exact ⟨e3, rfl⟩

theorem giGo_cut : ∀ (m acc i j : Nat), i + (enc m).length ≤ 9 → j < (enc m).length → giGo ((enc m).take j) acc i = (0, 0, 1) := by
  intro m
  induction m using Nat.strongRecOn with
  | _ m ih =>
    intro acc i j h1 h2
    by_cases hm : m < 128
    · rw [enc_small m hm] at h2 ⊢
      have : j = 0 := by simp at h2; omega
      subst this
      simp [giGo]
    · rw [enc_big m (by omega)] at h1 h2 ⊢
      have hp := enc_length_pos (m / 128)
      rw [List.length_cons] at h1 h2
      cases j with
      | zero => simp [giGo]
      | succ j =>
        rw [List.take_succ_cons, giGo, toNat_more, if_pos (by omega), if_neg (by omega)]
        exact ih (m / 128) (by omega) _ _ j (by omega) (by omega)

theorem getInt_cut (n j : Nat) (h : n ≤ 4611686018427387903) (hj : j < (enc n).length) : getInt ((enc n).take j) = (0, 0, 1) :=
  giGo_cut n 0 0 j (by have := enc_length_nine n h; omega) hj

theorem txt_enc (t : List UInt8) (h : t.length ≤ 4611686018427387903) : txt t = enc t.length ++ t := by
  rw [txt, goInt_nat _ h]

theorem getText_txt (t r : List UInt8) (h : t.length ≤ 65536) : getText (txt t ++ r) = (t, (txt t).length, 0) := by
  rw [txt_enc t (by omega), List.append_assoc]
  unfold getText
  rw [getInt_enc _ _ (by omega)]
  simp only [ne_eq, not_true_eq_false, if_false]
  rw [if_neg (by omega), if_neg (by simp)]
  simp

theorem getText_long (t r : List UInt8) (h : 65536 < t.length) (h2 : t.length ≤ 4611686018427387903) : getText (txt t ++ r) = ([], 0, 8) := by
  rw [txt_enc t h2, List.append_assoc]
  unfold getText
  rw [getInt_enc _ _ h2]
  simp [h]

theorem getText_back (l t : List UInt8) (k : Nat) (h : getText l = (t, k, 0)) : txt t = l.take k := by
  have hb := getText_bounds l t k h
  unfold getText at h
  rcases hr : getInt l with ⟨n, j, e⟩
  rw [hr] at h
  simp only at h
  by_cases h1 : e ≠ 0
  · rw [if_pos h1] at h; simp at h; omega
  · have h1 : e = 0 := by omega
    subst h1
    obtain ⟨g1, g2⟩ := getInt_back l n j hr
    have hbb := getInt_bounds l n j hr
    rw [if_neg (by simp)] at h
    by_cases h2 : 65536 < n
    · rw [if_pos h2] at h; simp at h
    · rw [if_neg h2] at h
      by_cases h3 : l.length - j < n
      · rw [if_pos h3] at h; simp at h
      · rw [if_neg h3] at h
        simp only [Prod.mk.injEq] at h
        obtain ⟨rfl, rfl, _⟩ := h
        have hlen : (List.take n (List.drop j l)).length = n := by simp; omega
        rw [txt_enc _ (by omega), hlen, ← g1, List.take_add]

theorem getText_cut (t : List UInt8) (j : Nat) (h : t.length ≤ 65536) (hj : j < (txt t).length) : getText ((txt t).take j) = ([], 0, 1) := by
  rw [txt_enc t (by omega)] at hj ⊢
  by_cases h1 : j < (enc t.length).length
  · rw [List.take_append_of_le_length (by omega)]
    unfold getText
    rw [getInt_cut _ _ (by omega) h1]
    simp
  · have e : (enc t.length ++ t).take j = enc t.length ++ t.take (j - (enc t.length).length) := by
      rw [List.take_append]
      rw [List.take_of_length_le (by omega)]
    rw [e]
    unfold getText
    rw [getInt_enc _ _ (by omega)]
    rw [List.length_append] at hj
    simp only [ne_eq, not_true_eq_false, if_false]
    rw [if_neg (by omega), if_pos (by rw [List.length_append, List.length_take]; omega)]

theorem glGo_flat : ∀ (ts : List (List UInt8)) (pre r : List UInt8) (acc : List (List UInt8)), (∀ t ∈ ts, t.length ≤ 65536) →
    glGo (pre ++ (ts.flatMap txt ++ r)) ts.length pre.length acc = (acc ++ ts, pre.length + (ts.flatMap txt).length, 0)
  | [], pre, r, acc, _ => by simp [glGo]
  | t :: ts, pre, r, acc, h => by
    have ht : t.length ≤ 65536 := h t (by simp)
    rw [List.length_cons, glGo, List.drop_left]
    have e1 : (t :: ts).flatMap txt ++ r = txt t ++ (ts.flatMap txt ++ r) := by simp
    rw [e1, getText_txt t _ ht]
    simp only [ne_eq, not_true_eq_false, if_false]
    have e2 : pre ++ (txt t ++ (ts.flatMap txt ++ r)) = (pre ++ txt t) ++ (ts.flatMap txt ++ r) := by simp
    have e3 : pre.length + (txt t).length = (pre ++ txt t).length := by simp
    rw [e2, e3, glGo_flat ts (pre ++ txt t) r (acc ++ [t]) (fun x hx => h x (by simp [hx]))]
    simp
    omega

theorem getList_lst (ts : List (List UInt8)) (r : List UInt8) (most : Int) (h : ∀ t ∈ ts, t.length ≤ 65536) (hn : ts.length ≤ 4611686018427387903) (hm : (ts.length : Int) ≤ most) :
    getList (lst ts ++ r) most = (ts, (lst ts).length, 0) := by
  have e : lst ts ++ r = enc ts.length ++ (ts.flatMap txt ++ r) := by rw [lst, goInt_nat _ hn]; simp
  unfold getList
  rw [e, getInt_enc _ _ hn]
  simp only [ne_eq, not_true_eq_false, if_false]
  rw [if_neg (by omega), glGo_flat ts (enc ts.length) r [] h, lst, goInt_nat _ hn]
  simp

theorem getList_few (ts : List (List UInt8)) (r : List UInt8) (most : Int) (hn : ts.length ≤ 4611686018427387903) (hm : most < (ts.length : Int)) :
    getList (lst ts ++ r) most = ([], 0, 8) := by
  have e : lst ts ++ r = enc ts.length ++ (ts.flatMap txt ++ r) := by rw [lst, goInt_nat _ hn]; simp
  unfold getList
  rw [e, getInt_enc _ _ hn]
  simp only [ne_eq, not_true_eq_false, if_false]
  rw [if_pos hm]

theorem glGo_cut : ∀ (ts : List (List UInt8)) (pre : List UInt8) (acc : List (List UInt8)) (j : Nat), (∀ t ∈ ts, t.length ≤ 65536) → j < (ts.flatMap txt).length →
    glGo (pre ++ (ts.flatMap txt).take j) ts.length pre.length acc = ([], 0, 1)
  | [], pre, acc, j, _, hj => by simp at hj
  | t :: ts, pre, acc, j, h, hj => by
    have ht : t.length ≤ 65536 := h t (by simp)
    have e1 : (t :: ts).flatMap txt = txt t ++ ts.flatMap txt := by simp
    rw [e1] at hj ⊢
    rw [List.length_cons, glGo, List.drop_left]
    by_cases h1 : j < (txt t).length
    · rw [List.take_append_of_le_length (by omega), getText_cut t j ht h1]
      simp
    · have e2 : (txt t ++ ts.flatMap txt).take j = txt t ++ (ts.flatMap txt).take (j - (txt t).length) := by
        rw [List.take_append]
        rw [List.take_of_length_le (by omega)]
      rw [e2, getText_txt t _ ht]
      simp only [ne_eq, not_true_eq_false, if_false]
      have e4 : pre ++ (txt t ++ (ts.flatMap txt).take (j - (txt t).length)) = (pre ++ txt t) ++ (ts.flatMap txt).take (j - (txt t).length) := by simp
      have e3 : pre.length + (txt t).length = (pre ++ txt t).length := by simp
      rw [e4, e3]
      exact glGo_cut ts (pre ++ txt t) (acc ++ [t]) _ (fun x hx => h x (by simp [hx])) (by rw [List.length_append] at hj; omega)

theorem getList_cut (ts : List (List UInt8)) (most : Int) (j : Nat) (h : ∀ t ∈ ts, t.length ≤ 65536) (hn : ts.length ≤ 4611686018427387903) (hm : (ts.length : Int) ≤ most) (hj : j < (lst ts).length) :
    getList ((lst ts).take j) most = ([], 0, 1) := by
  have e : lst ts = enc ts.length ++ ts.flatMap txt := by rw [lst, goInt_nat _ hn]
  rw [e] at hj ⊢
  unfold getList
  by_cases h1 : j < (enc ts.length).length
  · rw [List.take_append_of_le_length (by omega), getInt_cut _ _ hn h1]
    simp
  · have e2 : (enc ts.length ++ ts.flatMap txt).take j = enc ts.length ++ (ts.flatMap txt).take (j - (enc ts.length).length) := by
      rw [List.take_append]
      rw [List.take_of_length_le (by omega)]
    rw [e2, getInt_enc _ _ hn]
    simp only [ne_eq, not_true_eq_false, if_false]
    rw [if_neg (by omega)]
    exact glGo_cut ts _ [] _ h (by rw [List.length_append] at hj; omega)

end Go.Proofs.YthhildeocedpiaaDoor
