/- Layer 21's mathematics: what Check tells of a plan. -/
import Derived.Test.YtkgidmifgfoeiaaWavMath
namespace Go.Proofs.Ytkgidmifgfoeiaa
open Go.RowKit
set_option linter.unusedVariables false

/-- One number is marked with its wave; or what is told of it. -/
def mark1 (n w : Nat) (m : List Nat) (x : Int) : Except Nat (List Nat) :=
  if x < 0 ∨ (n : Int) ≤ x then .error 2 else if 0 < m.getD x.toNat 0 then .error 13 else .ok (m.set x.toNat (w + 1))

def markR (n w : Nat) : List Nat → List Int → Except Nat (List Nat)
  | m, [] => .ok m
  | m, x :: r => match mark1 n w m x with
    | .error e => .error e
    | .ok m' => markR n w m' r

def markP (n : Nat) : Nat → List Nat → List (List Int) → Except Nat (List Nat)
  | _, m, [] => .ok m
  | w, m, r :: p => match markR n w m r with
    | .error e => .error e
    | .ok m' => markP n (w + 1) m' p

/-- What is told of the marks, all numbers being marked. -/
def chkM (l : List RwD) (m : List Nat) : Nat :=
  if m.any (fun x => decide (x = 0)) = true then 12
  else if (edgesL l).any (fun e => decide (m.getD e.1 0 = m.getD e.2 0)) = true then 15
  else if (edgesL l).any (fun e => decide (m.getD e.2 0 < m.getD e.1 0)) = true then 9 else 0

/-- What is told of a plan. -/
def chkN (l : List RwD) (p : List (List Int)) : Nat := match markP l.length 0 (List.replicate l.length 0) p with
  | .error e => e
  | .ok m => chkM l m

theorem markR_cons (n w : Nat) (m : List Nat) (x : Int) (r : List Int) : markR n w m (x :: r) = (match mark1 n w m x with
    | .error e => .error e
    | .ok m' => markR n w m' r) := rfl

theorem markP_cons (n w : Nat) (m : List Nat) (r : List Int) (p : List (List Int)) : markP n w m (r :: p) = (match markR n w m r with
    | .error e => .error e
    | .ok m' => markP n (w + 1) m' p) := rfl

theorem markR_append {n w : Nat} : ∀ {a b : List Int} {m : List Nat}, markR n w m (a ++ b) = (match markR n w m a with | .error e => .error e | .ok m' => markR n w m' b)
  | [], b, m => rfl
  | x :: a, b, m => by
    rw [List.cons_append, markR_cons, markR_cons]
    cases mark1 n w m x with
    | error e => rfl
    | ok m' => exact markR_append

theorem markP_append {n : Nat} : ∀ {a b : List (List Int)} {w : Nat} {m : List Nat}, markP n w m (a ++ b) = (match markP n w m a with | .error e => .error e | .ok m' => markP n (w + a.length) m' b)
  | [], b, w, m => rfl
  | r :: a, b, w, m => by
    rw [List.cons_append, markP_cons, markP_cons]
    cases markR n w m r with
    | error e => rfl
    | ok m' =>
      show markP n (w + 1) m' (a ++ b) = _
      rw [markP_append, List.length_cons, show w + 1 + a.length = w + (a.length + 1) by omega]

theorem markR_step {n w i : Nat} {r : List Int} {m m1 : List Nat} {x : Int} (h : markR n w m (r.take i) = .ok m1) (hx : r[i]? = some x) : markR n w m (r.take (i + 1)) = mark1 n w m1 x := by
  rw [List.take_add_one, hx, markR_append, h]
  show markR n w m1 [x] = _
  rw [markR_cons]
  cases mark1 n w m1 x <;> rfl

theorem markR_err {n w i : Nat} {r : List Int} {m : List Nat} {e : Nat} (h : markR n w m (r.take i) = .error e) : markR n w m r = .error e := by
  rw [← List.take_append_drop i r, markR_append, h]

theorem markP_step {n i : Nat} {p : List (List Int)} {m m1 : List Nat} {r : List Int} (h : markP n 0 m (p.take i) = .ok m1) (hx : p[i]? = some r) : markP n 0 m (p.take (i + 1)) = markR n i m1 r := by
  have hi : i < p.length := (List.getElem?_eq_some_iff.1 hx).1
  rw [List.take_add_one, hx, markP_append, h]
  show markP n (0 + (p.take i).length) m1 [r] = _
  rw [List.length_take, Nat.min_eq_left (by omega), Nat.zero_add]
  rw [markP_cons]
  cases markR n i m1 r <;> rfl

theorem markP_err {n i : Nat} {p : List (List Int)} {m : List Nat} {e : Nat} (h : markP n 0 m (p.take i) = .error e) : markP n 0 m p = .error e := by
  rw [← List.take_append_drop i p, markP_append, h]

theorem mark1_length {n w : Nat} {m m1 : List Nat} {x : Int} (h : mark1 n w m x = .ok m1) : m1.length = m.length := by
  unfold mark1 at h
  split at h
  · cases h
  · split at h
    · cases h
    · injection h with h
      rw [← h, List.length_set]

theorem markR_length {n w : Nat} : ∀ {r : List Int} {m m1 : List Nat}, markR n w m r = .ok m1 → m1.length = m.length
  | [], m, m1, h => by
    unfold markR at h
    injection h with h
    rw [h]
  | x :: r, m, m1, h => by
    unfold markR at h
    cases h2 : mark1 n w m x with
    | error e => rw [h2] at h; cases h
    | ok m' =>
      rw [h2] at h
      rw [markR_length h, mark1_length h2]

theorem markP_length {n : Nat} : ∀ {p : List (List Int)} {w : Nat} {m m1 : List Nat}, markP n w m p = .ok m1 → m1.length = m.length
  | [], w, m, m1, h => by
    unfold markP at h
    injection h with h
    rw [h]
  | r :: p, w, m, m1, h => by
    unfold markP at h
    cases h2 : markR n w m r with
    | error e => rw [h2] at h; cases h
    | ok m' =>
      rw [h2] at h
      rw [markP_length h, markR_length h2]

theorem mark1_ok {n w x : Nat} {m : List Nat} (hx : x < n) (h0 : m.getD x 0 = 0) : mark1 n w m (x : Int) = .ok (m.set x (w + 1)) := by
  unfold mark1
  rw [if_neg (by omega), Int.toNat_natCast, if_neg (by rw [h0]; omega)]

theorem mark1_twice {n w x : Nat} {m : List Nat} (hx : x < n) (h0 : 0 < m.getD x 0) : mark1 n w m (x : Int) = .error 13 := by
  unfold mark1
  rw [if_neg (by omega), Int.toNat_natCast, if_pos h0]

theorem getD_set_same {m : List Nat} {x v : Nat} (h : x < m.length) : (m.set x v).getD x 0 = v := by
  rw [List.getD_eq_getElem?_getD, List.getElem?_set_self h]
  rfl

theorem getD_set_else {m : List Nat} {x y v : Nat} (h : x ≠ y) : (m.set x v).getD y 0 = m.getD y 0 := by
  rw [List.getD_eq_getElem?_getD, List.getElem?_set_ne h, List.getD_eq_getElem?_getD]

def rowI (q : List Nat) : List Int := q.map Int.ofNat

/-- Numbers that stand in no wave yet, each once, are marked. -/
theorem markR_ok {n w : Nat} : ∀ {q m : List Nat}, m.length = n → q.Nodup → (∀ x ∈ q, x < n) → (∀ x ∈ q, m.getD x 0 = 0) →
    ∃ m', markR n w m (rowI q) = .ok m' ∧ m'.length = n ∧ (∀ x ∈ q, m'.getD x 0 = w + 1) ∧ ∀ x, x ∉ q → m'.getD x 0 = m.getD x 0
  | [], m, hm, _, _, _ => ⟨m, rfl, hm, fun x hx => (by cases hx), fun x _ => rfl⟩
  | y :: q, m, hm, hn, hr, h0 => by
    obtain ⟨hy, hn'⟩ := List.nodup_cons.1 hn
    have hyn := hr y (List.mem_cons_self ..)
    obtain ⟨m', q1, q2, q3, q4⟩ := markR_ok (w := w) (q := q) (m := m.set y (w + 1)) (by rw [List.length_set]; exact hm) hn'
      (fun x hx => hr x (List.mem_cons_of_mem _ hx))
      (fun x hx => by
        rw [getD_set_else (fun e => hy (by rw [e]; exact hx))]
        exact h0 x (List.mem_cons_of_mem _ hx))
    refine ⟨m', ?_, q2, ?_, ?_⟩
    · show markR n w m ((y : Int) :: rowI q) = _
      unfold markR
      rw [mark1_ok hyn (h0 y (List.mem_cons_self ..))]
      exact q1
    · intro x hx
      rcases List.mem_cons.1 hx with rfl | hx
      · rw [q4 _ hy, getD_set_same (by omega)]
      · exact q3 x hx
    · intro x hx
      rw [q4 x (fun h => hx (List.mem_cons_of_mem _ h)), getD_set_else (fun e => hx (by rw [e]; exact List.mem_cons_self ..))]

def planI (p : List (List Nat)) : List (List Int) := p.map rowI

/-- A plan with each number once, all in range, is marked. -/
theorem markP_ok {n : Nat} : ∀ {p : List (List Nat)} {w : Nat} {m : List Nat}, m.length = n → p.flatten.Nodup → (∀ x ∈ p.flatten, x < n) → (∀ x ∈ p.flatten, m.getD x 0 = 0) →
    ∃ m', markP n w m (planI p) = .ok m' ∧ m'.length = n ∧ (∀ k q, p[k]? = some q → ∀ x ∈ q, m'.getD x 0 = w + k + 1) ∧ ∀ x, x ∉ p.flatten → m'.getD x 0 = m.getD x 0
  | [], w, m, hm, _, _, _ => ⟨m, rfl, hm, fun k q h => (by simp at h), fun x _ => rfl⟩
  | r :: p, w, m, hm, hn, hr, h0 => by
    rw [List.flatten_cons] at hn hr h0
    obtain ⟨n1, n2, n3⟩ := List.nodup_append.1 hn
    obtain ⟨m1, a1, a2, a3, a4⟩ := markR_ok (n := n) (w := w) hm n1 (fun x hx => hr x (List.mem_append_left _ hx)) (fun x hx => h0 x (List.mem_append_left _ hx))
    obtain ⟨m2, b1, b2, b3, b4⟩ := markP_ok (n := n) (p := p) (w := w + 1) (m := m1) a2 n2 (fun x hx => hr x (List.mem_append_right _ hx))
      (fun x hx => by
        rw [a4 x (fun h => n3 x h x hx rfl)]
        exact h0 x (List.mem_append_right _ hx))
    refine ⟨m2, ?_, b2, ?_, ?_⟩
    · show markP n w m (rowI r :: planI p) = _
      unfold markP
      rw [a1]
      exact b1
    · intro k q hk x hx
      cases k with
      | zero =>
        obtain rfl : r = q := by simpa using hk
        rw [b4 x (fun h => n3 x hx x h rfl), a3 x hx]
      | succ k =>
        rw [b3 k q (by simpa using hk) x hx]
        omega
    · intro x hx
      rw [List.flatten_cons, List.mem_append, not_or] at hx
      rw [b4 x hx.2, a4 x hx.1]

theorem getD_zeros (n x : Nat) : (List.replicate n 0).getD x 0 = 0 := by
  rw [List.getD_eq_getElem?_getD, List.getElem?_replicate]
  split <;> rfl

/-- The plan's members. -/
theorem plan_flat {l : List RwD} {m x : Nat} : x ∈ (planN l m).flatten ↔ x < m := by
  rw [List.mem_flatten]
  constructor
  · rintro ⟨q, hq, hx⟩
    obtain ⟨w, _, rfl⟩ := List.mem_map.1 hq
    exact (waveL_mem.1 hx).1
  · intro h
    exact ⟨waveL l m (wv l x), List.mem_map.2 ⟨wv l x, List.mem_range.2 (nwN_gt h), rfl⟩, waveL_mem.2 ⟨h, rfl⟩⟩

theorem waveL_nodup (l : List RwD) (m w : Nat) : (waveL l m w).Nodup := List.Pairwise.filter _ List.nodup_range

theorem plan_apart (l : List RwD) (m : Nat) : (planN l m).Pairwise (fun a b => ∀ x ∈ a, ∀ y ∈ b, x ≠ y) := by
  unfold planN
  rw [List.pairwise_map]
  refine List.Pairwise.imp ?_ List.pairwise_lt_range
  intro a b hab x hx y hy e
  subst e
  have := (waveL_mem.1 hx).2
  have := (waveL_mem.1 hy).2
  omega

theorem plan_nodup (l : List RwD) (m : Nat) : (planN l m).flatten.Nodup := by
  refine List.pairwise_flatten.2 ⟨?_, plan_apart l m⟩
  intro q hq
  obtain ⟨w, _, rfl⟩ := List.mem_map.1 hq
  exact waveL_nodup l m w

/-- All that chkM asks. -/
theorem chkM_ok {l : List RwD} {m : List Nat} (hm : m.length = l.length) (h1 : ∀ x, x < l.length → m.getD x 0 ≠ 0) (h2 : ∀ i k, i < k → adjB l i k = true → m.getD i 0 < m.getD k 0) : chkM l m = 0 := by
  unfold chkM
  rw [if_neg, if_neg, if_neg]
  · intro h
    obtain ⟨⟨i, k⟩, he, h⟩ := List.any_eq_true.1 h
    obtain ⟨q1, q2⟩ := edgesL_mem.1 he
    have := h2 i k q1 q2
    have : m.getD k 0 < m.getD i 0 := of_decide_eq_true h
    omega
  · intro h
    obtain ⟨⟨i, k⟩, he, h⟩ := List.any_eq_true.1 h
    obtain ⟨q1, q2⟩ := edgesL_mem.1 he
    have := h2 i k q1 q2
    have : m.getD i 0 = m.getD k 0 := of_decide_eq_true h
    omega
  · intro h
    obtain ⟨v, hv, h⟩ := List.any_eq_true.1 h
    obtain ⟨x, hx, e⟩ := List.mem_iff_getElem.1 hv
    refine h1 x (by omega) ?_
    rw [List.getD_eq_getElem?_getD, List.getElem?_eq_getElem hx, e]
    exact of_decide_eq_true h

theorem chkM_few {l : List RwD} {m : List Nat} {x : Nat} (hx : x < m.length) (h : m.getD x 0 = 0) : chkM l m = 12 := by
  unfold chkM
  rw [if_pos]
  refine List.any_eq_true.2 ⟨m[x], List.getElem_mem hx, decide_eq_true ?_⟩
  rw [List.getD_eq_getElem?_getD, List.getElem?_eq_getElem hx] at h
  exact h

theorem chkM_order {l : List RwD} {m : List Nat} (hm : m.length = l.length) (h1 : ∀ x, x < l.length → m.getD x 0 ≠ 0) (h2 : ∀ i k, i < k → adjB l i k = true → m.getD i 0 ≠ m.getD k 0) {i k : Nat} (hik : i < k) (ha : adjB l i k = true) (hb : m.getD k 0 < m.getD i 0) : chkM l m = 9 := by
  unfold chkM
  rw [if_neg, if_neg, if_pos]
  · exact List.any_eq_true.2 ⟨(i, k), edgesL_mem.2 ⟨hik, ha⟩, decide_eq_true hb⟩
  · intro h
    obtain ⟨⟨i, k⟩, he, h⟩ := List.any_eq_true.1 h
    obtain ⟨q1, q2⟩ := edgesL_mem.1 he
    exact h2 i k q1 q2 (of_decide_eq_true h)
  · intro h
    obtain ⟨v, hv, h⟩ := List.any_eq_true.1 h
    obtain ⟨x, hx, e⟩ := List.mem_iff_getElem.1 hv
    refine h1 x (by omega) ?_
    rw [List.getD_eq_getElem?_getD, List.getElem?_eq_getElem hx, e]
    exact of_decide_eq_true h

/-- 21.3: the plan is right. -/
theorem chk_plan (l : List RwD) : chkN l (planI (planN l l.length)) = 0 := by
  obtain ⟨m, h1, h2, h3, _⟩ := markP_ok (n := l.length) (p := planN l l.length) (w := 0) (m := List.replicate l.length 0) (by rw [List.length_replicate]) (plan_nodup ..)
    (fun x hx => plan_flat.1 hx) (fun x _ => getD_zeros _ _)
  have hat : ∀ x, x < l.length → m.getD x 0 = wv l x + 1 := fun x hx => by
    rw [h3 (wv l x) _ (planN_get (nwN_gt hx)) x (waveL_mem.2 ⟨hx, rfl⟩)]
    omega
  unfold chkN
  rw [h1]
  refine chkM_ok h2 (fun x hx => by rw [hat x hx]; omega) (fun i k hik ha => ?_)
  obtain ⟨q1, q2⟩ := adjB_lt ha
  rw [hat i q1, hat k q2]
  have := wv_lt hik ha
  omega

/-- A wave's first member taken away: too few. -/
theorem chk_few {l : List RwD} {i y : Nat} {q : List Nat} (h : (planN l l.length)[i]? = some (y :: q)) : chkN l (planI ((planN l l.length).set i q)) = 12 := by
  have hi : i < (planN l l.length).length := (List.getElem?_eq_some_iff.1 h).1
  have hspl : planN l l.length = (planN l l.length).take i ++ (y :: q) :: (planN l l.length).drop (i + 1) := by
    rw [← (List.getElem?_eq_some_iff.1 h).2, ← List.drop_eq_getElem_cons hi, List.take_append_drop]
  have hset : (planN l l.length).set i q = (planN l l.length).take i ++ q :: (planN l l.length).drop (i + 1) := by
    rw [List.set_eq_take_append_cons_drop, if_pos hi]
  have hnd := plan_nodup l l.length
  rw [hspl, List.flatten_append, List.flatten_cons, List.cons_append] at hnd
  obtain ⟨n1, n2, n3⟩ := List.nodup_append.1 hnd
  obtain ⟨hy2, n4⟩ := List.nodup_cons.1 n2
  have hnd3 : (((planN l l.length).take i).flatten ++ (q ++ ((planN l l.length).drop (i + 1)).flatten)).Nodup :=
    List.nodup_append.2 ⟨n1, n4, fun a ha b hb => n3 a ha b (List.mem_cons_of_mem _ hb)⟩
  have hy : y ∉ ((planN l l.length).take i).flatten ++ (q ++ ((planN l l.length).drop (i + 1)).flatten) := fun h => by
    rcases List.mem_append.1 h with h | h
    · exact n3 y h y (List.mem_cons_self ..) rfl
    · exact hy2 h
  have hfl : ((planN l l.length).set i q).flatten = ((planN l l.length).take i).flatten ++ (q ++ ((planN l l.length).drop (i + 1)).flatten) := by
    rw [hset, List.flatten_append, List.flatten_cons]
  rw [← hfl] at hy hnd3
  have hyn : y < l.length := plan_flat.1 (List.mem_flatten.2 ⟨_, List.mem_of_getElem? h, List.mem_cons_self ..⟩)
  obtain ⟨m, h1, h2, h3, h4⟩ := markP_ok (n := l.length) (p := (planN l l.length).set i q) (w := 0) (m := List.replicate l.length 0) (by rw [List.length_replicate]) hnd3
    (fun x hx => by
      refine plan_flat.1 (?_ : x ∈ (planN l l.length).flatten)
      rw [hspl, List.flatten_append, List.flatten_cons, List.cons_append]
      rw [hfl, List.mem_append] at hx
      rw [List.mem_append]
      exact hx.imp id (List.mem_cons_of_mem _))
    (fun x _ => getD_zeros _ _)
  unfold chkN
  rw [h1]
  exact chkM_few (by rw [h2]; exact hyn) (by rw [h4 y hy, getD_zeros])

/-- A number twice in its wave is told. -/
theorem chk_twice {l : List RwD} {i y : Nat} {q : List Nat} (h : (planN l l.length)[i]? = some (y :: q)) : chkN l (planI ((planN l l.length).set i (y :: q ++ [y]))) = 13 := by
  have hi : i < (planN l l.length).length := (List.getElem?_eq_some_iff.1 h).1
  have hspl : planN l l.length = (planN l l.length).take i ++ (y :: q) :: (planN l l.length).drop (i + 1) := by
    rw [← (List.getElem?_eq_some_iff.1 h).2, ← List.drop_eq_getElem_cons hi, List.take_append_drop]
  have hset : (planN l l.length).set i (y :: q ++ [y]) = (planN l l.length).take i ++ (y :: q ++ [y]) :: (planN l l.length).drop (i + 1) := by
    rw [List.set_eq_take_append_cons_drop, if_pos hi]
  have hnd := plan_nodup l l.length
  have hall := fun x => (plan_flat (l := l) (m := l.length) (x := x)).1
  rw [hspl, List.flatten_append, List.flatten_cons] at hnd hall
  obtain ⟨n1, n2, n3⟩ := List.nodup_append.1 hnd
  obtain ⟨n4, n5, n6⟩ := List.nodup_append.1 n2
  obtain ⟨m1, a1, a2, a3, a4⟩ := markP_ok (n := l.length) (p := (planN l l.length).take i) (w := 0) (m := List.replicate l.length 0) (by rw [List.length_replicate]) n1
    (fun x hx => hall x (List.mem_append_left _ hx)) (fun x _ => getD_zeros _ _)
  obtain ⟨m2, b1, b2, b3, b4⟩ := markR_ok (n := l.length) (w := i) (q := y :: q) (m := m1) a2 n4
    (fun x hx => hall x (List.mem_append_right _ (List.mem_append_left _ hx)))
    (fun x hx => by
      rw [a4 x (fun h => n3 x h x (List.mem_append_left _ hx) rfl), getD_zeros])
  have key : markP l.length 0 (List.replicate l.length 0) (planI ((planN l l.length).set i (y :: q ++ [y]))) = .error 13 := by
    rw [hset]
    unfold planI at a1 ⊢
    rw [List.map_append, markP_append, a1, List.map_cons, List.length_map, List.length_take, Nat.min_eq_left (by omega), Nat.zero_add]
    show markP l.length i m1 (rowI (y :: q ++ [y]) :: _) = _
    unfold markP
    have e : markR l.length i m1 (rowI (y :: q ++ [y])) = .error 13 := by
      unfold rowI at b1 ⊢
      rw [List.map_append, markR_append, b1]
      show markR l.length i m2 [(y : Int)] = _
      unfold markR
      rw [mark1_twice (hall y (List.mem_append_right _ (List.mem_append_left _ (List.mem_cons_self ..)))) (by rw [b3 y (List.mem_cons_self ..)]; omega)]
    rw [e]
  unfold chkN
  rw [key]

/-- The waves turned: right if there is one only, else not in order. -/
theorem chk_turned (l : List RwD) : chkN l (planI (planN l l.length).reverse) = if nwN l l.length ≤ 1 then 0 else 9 := by
  have hnd : ((planN l l.length).reverse).flatten.Nodup := by
    refine List.pairwise_flatten.2 ⟨?_, ?_⟩
    · intro q hq
      obtain ⟨w, _, rfl⟩ := List.mem_map.1 (List.mem_reverse.1 hq)
      exact waveL_nodup l _ w
    · rw [List.pairwise_reverse]
      exact List.Pairwise.imp (fun h x hx y hy e => h y hy x hx e.symm) (plan_apart l l.length)
  have hfl : ∀ x, x ∈ ((planN l l.length).reverse).flatten → x < l.length := fun x hx => by
    obtain ⟨q, hq, h⟩ := List.mem_flatten.1 hx
    exact plan_flat.1 (List.mem_flatten.2 ⟨q, List.mem_reverse.1 hq, h⟩)
  obtain ⟨m, h1, h2, h3, _⟩ := markP_ok (n := l.length) (p := (planN l l.length).reverse) (w := 0) (m := List.replicate l.length 0) (by rw [List.length_replicate]) hnd
    hfl (fun x _ => getD_zeros _ _)
  have hat : ∀ x, x < l.length → m.getD x 0 + wv l x = nwN l l.length := fun x hx => by
    have hw := nwN_gt (l := l) hx
    have hg : (planN l l.length).reverse[nwN l l.length - 1 - wv l x]? = some (waveL l l.length (wv l x)) := by
      rw [List.getElem?_reverse (by rw [planN_length]; omega), planN_length, show nwN l l.length - 1 - (nwN l l.length - 1 - wv l x) = wv l x by omega, planN_get hw]
    rw [h3 _ _ hg x (waveL_mem.2 ⟨hx, rfl⟩)]
    omega
  have hnz : ∀ x, x < l.length → m.getD x 0 ≠ 0 := fun x hx => by
    have := hat x hx
    have := nwN_gt (l := l) hx
    omega
  unfold chkN
  rw [h1]
  by_cases hn : nwN l l.length ≤ 1
  · rw [if_pos hn]
    refine chkM_ok h2 hnz (fun i k hik ha => ?_)
    have := wv_lt hik ha
    have := nwN_gt (l := l) (adjB_lt ha).2
    omega
  · rw [if_neg hn]
    obtain ⟨k, hk, e⟩ := nwN_ex (l := l) (m := l.length) (w := 1) (by omega)
    obtain ⟨i, hik, ha, e2⟩ := wv_ex (l := l) (i := k) (by omega)
    refine chkM_order h2 hnz (fun i k hik ha => ?_) hik ha ?_
    · have := wv_lt hik ha
      have := hat i (adjB_lt ha).1
      have := hat k (adjB_lt ha).2
      omega
    · have := hat i (adjB_lt ha).1
      have := hat k (adjB_lt ha).2
      omega

/-- Where none is in another's way there is one wave. -/
theorem wv_free {l : List RwD} (h : ∀ i k, adjB l i k = false) (i : Nat) : wv l i = 0 := by
  rcases Nat.eq_zero_or_pos (wv l i) with e | e
  · exact e
  · obtain ⟨k, _, h2, _⟩ := wv_ex e
    rw [h] at h2
    cases h2

/-- Where each is in each other's way each has its own. -/
theorem wv_each {l : List RwD} (h : ∀ k, k + 1 < l.length → adjB l k (k + 1) = true) : ∀ i, i < l.length → wv l i = i
  | 0, _ => by have := wv_le l 0; omega
  | i + 1, hi => by
    have h1 := wv_each h i (by omega)
    have h2 := wv_lt (show i < i + 1 by omega) (h i hi)
    have := wv_le l (i + 1)
    omega

theorem adjB_same {n i k : Nat} {a : RwD} (hi : i < n) (hk : k < n) : adjB (List.replicate n a) i k = clashB a a :=
  adjB_some (by rw [List.getElem?_replicate, if_pos hi]) (by rw [List.getElem?_replicate, if_pos hk])

/-- Any number of one transaction that only reads. -/
theorem wv_reads {n i : Nat} {a : RwD} (h : clashB a a = false) : wv (List.replicate n a) i = 0 :=
  wv_free (fun i k => by
    cases e : adjB (List.replicate n a) i k with
    | false => rfl
    | true =>
      obtain ⟨q1, q2⟩ := adjB_lt e
      rw [List.length_replicate] at q1 q2
      rw [adjB_same q1 q2, h] at e
      cases e) i

/-- Any number of one transaction that writes. -/
theorem wv_writes {n i : Nat} {a : RwD} (h : clashB a a = true) (hi : i < n) : wv (List.replicate n a) i = i :=
  wv_each (fun k hk => by
    rw [List.length_replicate] at hk
    rw [adjB_same (by omega) hk, h]) i (by rw [List.length_replicate]; exact hi)

/-- Each wave of the plan has a member. -/
theorem plan_full {l : List RwD} {w : Nat} (h : w < nwN l l.length) : ∃ y q, (planN l l.length)[w]? = some (y :: q) := by
  obtain ⟨i, h1, h2⟩ := nwN_ex h
  have hm : i ∈ waveL l l.length w := waveL_mem.2 ⟨h1, h2⟩
  rw [planN_get h]
  cases e : waveL l l.length w with
  | nil => rw [e] at hm; cases hm
  | cons y q => exact ⟨y, q, rfl⟩

theorem nwN_pos {l : List RwD} {m : Nat} (h : 0 < m) : 0 < nwN l m := Nat.lt_of_le_of_lt (Nat.zero_le _) (nwN_gt (l := l) h)
end Go.Proofs.Ytkgidmifgfoeiaa
