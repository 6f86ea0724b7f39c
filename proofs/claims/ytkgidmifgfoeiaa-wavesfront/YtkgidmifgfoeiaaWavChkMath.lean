/- Layer 21's mathematics: that the program's way of checking a plan tells what the chapter says. -/
import Derived.Test.YtkgidmifgfoeiaaWavClash
import Derived.Test.YtkgidmifgfoeiaaWavMark
namespace Go.Proofs.Ytkgidmifgfoeiaa
open Go.RowKit
set_option linter.unusedVariables false

theorem mark1_inv {n w : Nat} {m m1 : List Nat} {x : Int} (h : mark1 n w m x = .ok m1) : 0 ≤ x ∧ x < n ∧ m.getD x.toNat 0 = 0 ∧ m1 = m.set x.toNat (w + 1) := by
  unfold mark1 at h
  split at h
  · cases h
  · split at h
    · cases h
    · injection h with h
      exact ⟨by omega, by omega, by omega, h.symm⟩

theorem markR_inv {n w : Nat} : ∀ {r : List Int} {m m1 : List Nat}, m.length = n → markR n w m r = .ok m1 →
    (∀ x : Int, x ∈ r → 0 ≤ x ∧ x < n ∧ m.getD x.toNat 0 = 0 ∧ m1.getD x.toNat 0 = w + 1) ∧ r.Nodup ∧ ∀ y : Nat, (y : Int) ∉ r → m1.getD y 0 = m.getD y 0
  | [], m, m1, hm, h => by
    unfold markR at h
    injection h with h
    subst h
    exact ⟨fun x hx => (by cases hx), List.nodup_nil, fun y _ => rfl⟩
  | x :: r, m, m1, hm, h => by
    rw [markR_cons] at h
    cases h2 : mark1 n w m x with
    | error e => rw [h2] at h; cases h
    | ok m' =>
      rw [h2] at h
      obtain ⟨a1, a2, a3, rfl⟩ := mark1_inv h2
      obtain ⟨q1, q2, q3⟩ := markR_inv (by rw [List.length_set]; exact hm) h
      have hxl : x.toNat < m.length := by omega
      have hxr : x ∉ r := fun hx => by
        have := (q1 x hx).2.2.1
        rw [getD_set_same hxl] at this
        omega
      refine ⟨fun z hz => ?_, List.nodup_cons.2 ⟨hxr, q2⟩, fun y hy => ?_⟩
      · rcases List.mem_cons.1 hz with rfl | hz
        · refine ⟨a1, a2, a3, ?_⟩
          rw [q3 z.toNat (by rw [Int.toNat_of_nonneg a1]; exact hxr), getD_set_same hxl]
        · obtain ⟨b1, b2, b3, b4⟩ := q1 z hz
          refine ⟨b1, b2, ?_, b4⟩
          rw [getD_set_else (fun e => hxr (by have : x = z := by omega
                                              rw [this]; exact hz))] at b3
          exact b3
      · rw [List.mem_cons, not_or] at hy
        rw [q3 y hy.2, getD_set_else (fun e => hy.1 (by omega))]

theorem markP_inv {n : Nat} : ∀ {p : List (List Int)} {w : Nat} {m m1 : List Nat}, m.length = n → markP n w m p = .ok m1 →
    (∀ (k : Nat) (r : List Int), p[k]? = some r → (∀ x : Int, x ∈ r → 0 ≤ x ∧ x < n ∧ m1.getD x.toNat 0 = w + k + 1) ∧ r.Nodup) ∧
    (∀ y : Nat, m1.getD y 0 = m.getD y 0 ∨ (m.getD y 0 = 0 ∧ ∃ (k : Nat) (r : List Int), p[k]? = some r ∧ (y : Int) ∈ r ∧ m1.getD y 0 = w + k + 1))
  | [], w, m, m1, hm, h => by
    unfold markP at h
    injection h with h
    subst h
    exact ⟨fun k r hk => (by simp at hk), fun y => Or.inl rfl⟩
  | r :: p, w, m, m1, hm, h => by
    rw [markP_cons] at h
    cases h2 : markR n w m r with
    | error e => rw [h2] at h; cases h
    | ok m' =>
      rw [h2] at h
      obtain ⟨q1, q2, q3⟩ := markR_inv hm h2
      obtain ⟨p1, p2⟩ := markP_inv (by rw [markR_length h2]; exact hm) h
      refine ⟨fun k s hk => ?_, fun y => ?_⟩
      · cases k with
        | zero =>
          obtain rfl : r = s := by simpa using hk
          refine ⟨fun x hx => ?_, q2⟩
          obtain ⟨b1, b2, b3, b4⟩ := q1 x hx
          refine ⟨b1, b2, ?_⟩
          rcases p2 x.toNat with e | ⟨e, _⟩
          · rw [e, b4]
          · omega
        | succ k =>
          obtain ⟨c1, c2⟩ := p1 k s (by simpa using hk)
          refine ⟨fun x hx => ?_, c2⟩
          obtain ⟨b1, b2, b3⟩ := c1 x hx
          exact ⟨b1, b2, by rw [b3]; omega⟩
      · rcases p2 y with e | ⟨e, k, s, e1, e2, e3⟩
        · by_cases hy : (y : Int) ∈ r
          · obtain ⟨b1, b2, b3, b4⟩ := q1 _ hy
            rw [Int.toNat_natCast] at b3 b4
            exact Or.inr ⟨b3, 0, r, rfl, hy, by rw [e, b4]⟩
          · exact Or.inl (by rw [e, q3 y hy])
        · by_cases hy : (y : Int) ∈ r
          · obtain ⟨b1, b2, b3, b4⟩ := q1 _ hy
            rw [Int.toNat_natCast] at b4
            omega
          · rw [q3 y hy] at e
            exact Or.inr ⟨e, k + 1, s, by simpa using e1, e2, by rw [e3]; omega⟩

/-- A right plan's rows, as numbers from 0 on. -/
theorem rows_nat {n : Nat} {r : List Int} (h : ∀ x ∈ r, 0 ≤ x ∧ x < n) : r = rowI (r.map Int.toNat) := by
  unfold rowI
  rw [List.map_map]
  conv => lhs; rw [← List.map_id r]
  refine List.map_congr_left (fun x hx => ?_)
  have := (h x hx).1
  show x = ((x.toNat : Nat) : Int)
  omega

/-- What look found: each number stands in the row of its mark. -/
structure Marked (n : Nat) (P : List (List Int)) (m : List Nat) : Prop where
  len : m.length = n
  row : ∀ (k : Nat) (r : List Int), P[k]? = some r → (∀ x : Int, x ∈ r → 0 ≤ x ∧ x < n ∧ m.getD x.toNat 0 = k + 1) ∧ r.Nodup
  mem : ∀ y, y < n → ∃ (k : Nat) (r : List Int), P[k]? = some r ∧ (y : Int) ∈ r ∧ m.getD y 0 = k + 1

theorem lookN_inv {n : Nat} {P : List (List Int)} {m : List Nat} (h : lookN n P = .ok m) : markP n 0 (List.replicate n 0) P = .ok m ∧ m.any (fun x => decide (x = 0)) = false := by
  unfold lookN at h
  cases h2 : markP n 0 (List.replicate n 0) P with
  | error e => rw [h2] at h; cases h
  | ok m' =>
    rw [h2] at h
    by_cases h3 : m'.any (fun x => decide (x = 0)) = true
    · have : (if m'.any (fun x => decide (x = 0)) = true then Except.error 12 else Except.ok m' : Except Nat (List Nat)) = .ok m := h
      rw [if_pos h3] at this; cases this
    · have : (if m'.any (fun x => decide (x = 0)) = true then Except.error 12 else Except.ok m' : Except Nat (List Nat)) = .ok m := h
      rw [if_neg h3] at this
      injection this with this
      subst this
      exact ⟨rfl, by cases e : m'.any (fun x => decide (x = 0)) with | false => rfl | true => exact absurd e h3⟩

theorem Marked.of {n : Nat} {P : List (List Int)} {m : List Nat} (h : lookN n P = .ok m) : Marked n P m := by
  obtain ⟨h1, h2⟩ := lookN_inv h
  have hl : m.length = n := by rw [markP_length h1, List.length_replicate]
  obtain ⟨q1, q2⟩ := markP_inv (by rw [List.length_replicate]) h1
  refine ⟨hl, fun k r hk => ?_, fun y hy => ?_⟩
  · obtain ⟨c1, c2⟩ := q1 k r hk
    exact ⟨fun x hx => by obtain ⟨b1, b2, b3⟩ := c1 x hx; exact ⟨b1, b2, by rw [b3]; omega⟩, c2⟩
  · rcases q2 y with e | ⟨_, k, r, e1, e2, e3⟩
    · rw [getD_zeros] at e
      rw [List.any_eq_false] at h2
      have hy2 : y < m.length := by omega
      have := h2 m[y] (List.getElem_mem hy2)
      rw [List.getD_eq_getElem?_getD, List.getElem?_eq_getElem hy2] at e
      exact absurd (decide_eq_true e) this
    · exact ⟨k, r, e1, e2, by rw [e3]; omega⟩

theorem getD_of {l : List Nat} {a : Nat} (h : a < l.length) : l.getD a 0 = l[a] := by
  rw [List.getD_eq_getElem?_getD, List.getElem?_eq_getElem h]
  rfl

theorem nodup_map_toNat {n : Nat} {r : List Int} (h : ∀ x ∈ r, 0 ≤ x ∧ x < n) (hn : r.Nodup) : (r.map Int.toNat).Nodup := by
  unfold List.Nodup at *
  rw [List.pairwise_map]
  refine hn.imp_of_mem (fun {a b} ha hb hab e => hab ?_)
  have := (h a ha).1
  have := (h b hb).1
  omega

/-- Two of one wave are in each other's way just if some row has such. -/
theorem Marked.clash {l : List RwD} {P : List (List Int)} {m : List Nat} (h : Marked l.length P m) :
    (edgesL l).any (fun e => decide (m.getD e.1 0 = m.getD e.2 0)) = true ↔ ∃ (k : Nat) (r : List Int), P[k]? = some r ∧ clashR l (r.map Int.toNat) = true := by
  rw [List.any_eq_true]
  constructor
  · rintro ⟨⟨i, k⟩, he, hd⟩
    obtain ⟨hik, ha⟩ := edgesL_mem.1 he
    have hd : m.getD i 0 = m.getD k 0 := of_decide_eq_true hd
    obtain ⟨hi, hk⟩ := adjB_lt ha
    obtain ⟨j, r, h1, h2, h3⟩ := h.mem i hi
    obtain ⟨j', r', h1', h2', h3'⟩ := h.mem k hk
    obtain rfl : j = j' := by omega
    obtain rfl : r = r' := by rw [h1] at h1'; simpa using h1'
    have m1 : i ∈ r.map Int.toNat := List.mem_map.2 ⟨_, h2, Int.toNat_natCast i⟩
    have m2 : k ∈ r.map Int.toNat := List.mem_map.2 ⟨_, h2', Int.toNat_natCast k⟩
    obtain ⟨a, ha1, ha2⟩ := List.mem_iff_getElem.1 m1
    obtain ⟨b, hb1, hb2⟩ := List.mem_iff_getElem.1 m2
    refine ⟨j, r, h1, ?_⟩
    have hne : a ≠ b := fun e => by subst e; omega
    rcases Nat.lt_or_gt_of_ne hne with hlt | hlt
    · refine clashR_true hb1 (List.any_eq_true.2 ⟨a, List.mem_range.2 hlt, ?_⟩)
      rw [getD_of ha1, getD_of hb1, ha2, hb2]
      exact ha
    · refine clashR_true ha1 (List.any_eq_true.2 ⟨b, List.mem_range.2 hlt, ?_⟩)
      rw [getD_of ha1, getD_of hb1, ha2, hb2, adjB_comm]
      exact ha
  · rintro ⟨k, r, hk, hc⟩
    obtain ⟨c1, c2⟩ := h.row k r hk
    have hnd := nodup_map_toNat (fun x hx => ⟨(c1 x hx).1, (c1 x hx).2.1⟩) c2
    obtain ⟨b, hb, hh⟩ := List.any_eq_true.1 hc
    rw [List.mem_range] at hb
    obtain ⟨a, ha, hadj⟩ := List.any_eq_true.1 hh
    rw [List.mem_range] at ha
    have ha' : a < (r.map Int.toNat).length := by omega
    rw [getD_of ha', getD_of hb] at hadj
    have hmk : ∀ z ∈ r.map Int.toNat, m.getD z 0 = k + 1 := fun z hz => by
      obtain ⟨x, hx, rfl⟩ := List.mem_map.1 hz
      exact (c1 x hx).2.2
    have e1 := hmk _ (List.getElem_mem ha')
    have e2 := hmk _ (List.getElem_mem hb)
    have hne : (r.map Int.toNat)[a] ≠ (r.map Int.toNat)[b] := fun e => by
      have := (List.getElem_inj hnd).1 e
      omega
    rcases Nat.lt_or_gt_of_ne hne with hlt | hlt
    · exact ⟨(_, _), edgesL_mem.2 ⟨hlt, hadj⟩, decide_eq_true (by show m.getD _ 0 = m.getD _ 0; rw [e1, e2])⟩
    · exact ⟨(_, _), edgesL_mem.2 ⟨hlt, by rw [adjB_comm]; exact hadj⟩, decide_eq_true (by show m.getD _ 0 = m.getD _ 0; rw [e1, e2])⟩

/-- The wave of a member by its mark. -/
def atN (m : List Nat) (i : Nat) : Nat := m.getD i 0 - 1

/-- A member that stands ahead of its first wave. -/
theorem late_iff {l : List RwD} {P : List (List Int)} {m : List Nat} (h : Marked l.length P m) (hc : ∀ i k, i < k → adjB l i k = true → m.getD i 0 ≠ m.getD k 0) {i : Nat} {t : RwD} (ht : l[i]? = some t) :
    atN m i < firstN (turnF (putL l (atN m) i)) t ↔ ∃ k, k < i ∧ adjB l k i = true ∧ m.getD i 0 < m.getD k 0 := by
  have hi : i < l.length := (List.getElem?_eq_some_iff.1 ht).1
  have key := fsF_putL (vs := atN m) (n := atN m i) ht (show i ≤ l.length by omega)
  have hpos : ∀ y, y < l.length → 1 ≤ m.getD y 0 := fun y hy => by
    obtain ⟨k, r, _, _, e⟩ := h.mem y hy
    omega
  rw [first_eq]
  constructor
  · intro hlt
    have hn : ¬ ∀ k, k < i → adjB l k i = true → atN m k + 1 ≤ atN m i := fun e => by
      have := key.2 e
      omega
    apply Classical.byContradiction
    intro hno
    refine hn (fun k hk ha => ?_)
    have h1 := hc k i hk ha
    have h2 : ¬ m.getD i 0 < m.getD k 0 := fun e => hno ⟨k, hk, ha, e⟩
    have h3 := hpos k (by omega)
    unfold atN
    omega
  · rintro ⟨k, hk, ha, hlt⟩
    apply Classical.byContradiction
    intro hno
    have := key.1 (by omega) k hk ha
    have h3 := hpos i hi
    unfold atN at this
    omega

theorem chkN_err {l : List RwD} {P : List (List Int)} {e : Nat} (h : lookN l.length P = .error e) : chkN l P = e := by
  unfold lookN at h
  unfold chkN
  cases h2 : markP l.length 0 (List.replicate l.length 0) P with
  | error e' =>
    rw [h2] at h
    injection h
  | ok m' =>
    rw [h2] at h
    have h : (if m'.any (fun x => decide (x = 0)) = true then Except.error 12 else Except.ok m' : Except Nat (List Nat)) = .error e := h
    show chkM l m' = e
    unfold chkM
    by_cases h3 : m'.any (fun x => decide (x = 0)) = true
    · rw [if_pos h3] at h ⊢
      injection h
    · rw [if_neg h3] at h
      cases h

theorem chkN_ok {l : List RwD} {P : List (List Int)} {m : List Nat} (h : lookN l.length P = .ok m) : chkN l P = if (edgesL l).any (fun e => decide (m.getD e.1 0 = m.getD e.2 0)) = true then 15 else if (edgesL l).any (fun e => decide (m.getD e.2 0 < m.getD e.1 0)) = true then 9 else 0 := by
  obtain ⟨h1, h2⟩ := lookN_inv h
  unfold chkN
  rw [h1]
  show chkM l m = _
  unfold chkM
  rw [h2, if_neg (by simp)]

theorem chkN_clash {l : List RwD} {P : List (List Int)} {m : List Nat} (h : lookN l.length P = .ok m) {k : Nat} {r : List Int} (hk : P[k]? = some r) (hc : clashR l (r.map Int.toNat) = true) : chkN l P = 15 := by
  rw [chkN_ok h, if_pos ((Marked.of h).clash.2 ⟨k, r, hk, hc⟩)]

theorem no_clash {l : List RwD} {P : List (List Int)} {m : List Nat} (h : lookN l.length P = .ok m) (hc : ∀ (k : Nat) (r : List Int), P[k]? = some r → clashR l (r.map Int.toNat) = false) : (edgesL l).any (fun e => decide (m.getD e.1 0 = m.getD e.2 0)) = false := by
  cases h2 : (edgesL l).any (fun e => decide (m.getD e.1 0 = m.getD e.2 0)) with
  | false => rfl
  | true =>
    obtain ⟨k, r, h3, h4⟩ := (Marked.of h).clash.1 h2
    rw [hc k r h3] at h4
    cases h4

theorem no_clash2 {l : List RwD} {m : List Nat} (h : (edgesL l).any (fun e => decide (m.getD e.1 0 = m.getD e.2 0)) = false) : ∀ i k, i < k → adjB l i k = true → m.getD i 0 ≠ m.getD k 0 := by
  intro i k hik ha e
  rw [List.any_eq_false] at h
  exact h (i, k) (edgesL_mem.2 ⟨hik, ha⟩) (decide_eq_true e)

theorem chkN_late {l : List RwD} {P : List (List Int)} {m : List Nat} (h : lookN l.length P = .ok m) (hc : (edgesL l).any (fun e => decide (m.getD e.1 0 = m.getD e.2 0)) = false) {i k : Nat} (hk : k < i) (ha : adjB l k i = true) (hlt : m.getD i 0 < m.getD k 0) : chkN l P = 9 := by
  rw [chkN_ok h, if_neg (by rw [hc]; simp), if_pos]
  exact List.any_eq_true.2 ⟨(k, i), edgesL_mem.2 ⟨hk, ha⟩, decide_eq_true hlt⟩

theorem chkN_right {l : List RwD} {P : List (List Int)} {m : List Nat} (h : lookN l.length P = .ok m) (hc : (edgesL l).any (fun e => decide (m.getD e.1 0 = m.getD e.2 0)) = false) (ho : ∀ i, i < l.length → ¬ ∃ k, k < i ∧ adjB l k i = true ∧ m.getD i 0 < m.getD k 0) : chkN l P = 0 := by
  rw [chkN_ok h, if_neg (by rw [hc]; simp), if_neg]
  intro h2
  obtain ⟨⟨i, k⟩, he, hd⟩ := List.any_eq_true.1 h2
  obtain ⟨hik, ha⟩ := edgesL_mem.1 he
  exact ho k (adjB_lt ha).2 ⟨i, hik, ha, of_decide_eq_true hd⟩
end Go.Proofs.Ytkgidmifgfoeiaa
