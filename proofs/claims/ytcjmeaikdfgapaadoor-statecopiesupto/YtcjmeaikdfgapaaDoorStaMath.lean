/- Layer 22's mathematics: states as functions, what Apply does with them, the order in which they are written. -/
import Derived.Test.YtcjmeaikdfgapaaDoorTxMath
import Derived.Test.YtcjmeaikdfgapaaDoorTextMath
namespace Go.Proofs.YtcjmeaikdfgapaaDoor
open Go
set_option linter.unusedVariables false

/-- Accounts: amount and number; values. -/
structure StF where
  acc : ByteArray → Nat × Nat
  val : ByteArray → Option ByteArray

def pnF {α : Type} (f : ByteArray → α) (n : ByteArray) (x : α) : ByteArray → α := fun m => if m = n then x else f m

theorem pnF_at {α : Type} (f : ByteArray → α) (n : ByteArray) (x : α) : pnF f n x n = x := by unfold pnF; rw [if_pos rfl]
theorem pnF_ne {α : Type} (f : ByteArray → α) {n m : ByteArray} (x : α) (h : m ≠ n) : pnF f n x m = f m := by unfold pnF; rw [if_neg h]

/-- What Apply answers. -/
def applyE (s : StF) (d : TxD) : Nat :=
  if fitsL d = false then 1
  else if d.non ≠ (s.acc d.frm).2 then 2
  else if d.kind = 1 ∧ (s.acc d.frm).1 < d.amt then 3
  else if d.kind = 1 ∧ d.to ≠ d.frm ∧ 4611686018427387903 < (s.acc d.to).1 + d.amt then 4
  else 0

/-- The accounts behind it, if it is done. -/
def accD (f : ByteArray → Nat × Nat) (d : TxD) : ByteArray → Nat × Nat :=
  if d.kind = 1 then
    pnF (pnF f d.frm ((f d.frm).1 - d.amt, (f d.frm).2 + 1)) d.to ((pnF f d.frm ((f d.frm).1 - d.amt, (f d.frm).2 + 1) d.to).1 + d.amt, (pnF f d.frm ((f d.frm).1 - d.amt, (f d.frm).2 + 1) d.to).2)
  else pnF f d.frm ((f d.frm).1, (f d.frm).2 + 1)

def applyF (s : StF) (d : TxD) : StF :=
  if applyE s d = 0 then ⟨accD s.acc d, if d.kind = 1 then s.val else pnF s.val d.key (some d.val)⟩ else s

/-- The accounts that it reaches. -/
def nmsD (d : TxD) : List ByteArray := if d.kind = 1 then [d.frm, d.to] else [d.frm]

theorem frm_in (d : TxD) : d.frm ∈ nmsD d := by unfold nmsD; split <;> simp
theorem to_in {d : TxD} (h : d.kind = 1) : d.to ∈ nmsD d := by unfold nmsD; rw [if_pos h]; simp

theorem accD_out (f : ByteArray → Nat × Nat) {d : TxD} {n : ByteArray} (h : n ∉ nmsD d) : accD f d n = f n := by
  have h1 : n ≠ d.frm := fun e => h (by rw [e]; exact frm_in d)
  unfold accD
  split
  · rename_i hk
    have h2 : n ≠ d.to := fun e => h (by rw [e]; exact to_in hk)
    rw [pnF_ne _ _ h2, pnF_ne _ _ h1]
  · rw [pnF_ne _ _ h1]

/-- It looks at these alone. -/
theorem accD_in {f g : ByteArray → Nat × Nat} {d : TxD} (h : ∀ n ∈ nmsD d, f n = g n) {n : ByteArray} (hn : n ∈ nmsD d) : accD f d n = accD g d n := by
  have h1 := h d.frm (frm_in d)
  unfold accD
  split
  · rename_i hk
    have h2 := h d.to (to_in hk)
    by_cases e : n = d.to
    · rw [e, pnF_at, pnF_at]
      by_cases e2 : d.to = d.frm
      · rw [e2, pnF_at, pnF_at, h1]
      · rw [pnF_ne _ _ e2, pnF_ne _ _ e2, h2]
    · rw [pnF_ne _ _ e, pnF_ne _ _ e]
      by_cases e2 : n = d.frm
      · rw [e2, pnF_at, pnF_at, h1]
      · rw [pnF_ne _ _ e2, pnF_ne _ _ e2]
        exact h n hn
  · by_cases e2 : n = d.frm
    · rw [e2, pnF_at, pnF_at, h1]
    · rw [pnF_ne _ _ e2, pnF_ne _ _ e2]
      exact h n hn

theorem applyE_of {s t : StF} {d : TxD} (h : ∀ n ∈ nmsD d, s.acc n = t.acc n) : applyE s d = applyE t d := by
  unfold applyE
  rw [h d.frm (frm_in d)]
  by_cases hk : d.kind = 1
  · rw [h d.to (to_in hk)]
  · simp [hk]

theorem applyF_out (s : StF) {d : TxD} {n : ByteArray} (h : n ∉ nmsD d) : (applyF s d).acc n = s.acc n := by
  unfold applyF
  split
  · exact accD_out s.acc h
  · rfl

theorem applyF_in {s t : StF} {d : TxD} (h : ∀ n ∈ nmsD d, s.acc n = t.acc n) {n : ByteArray} (hn : n ∈ nmsD d) : (applyF s d).acc n = (applyF t d).acc n := by
  unfold applyF
  rw [applyE_of h]
  split
  · exact accD_in h hn
  · exact h n hn

/-- The value that it lays. -/
theorem applyF_val (s : StF) (d : TxD) : (applyF s d).val = if applyE s d = 0 ∧ d.kind ≠ 1 then pnF s.val d.key (some d.val) else s.val := by
  unfold applyF
  by_cases h1 : applyE s d = 0 <;> by_cases h2 : d.kind = 1 <;> simp [h1, h2]

/-- Two that reach different accounts, and lay different values, may be done in either order. -/
theorem apply_either (s : StF) {d e : TxD} (h : ∀ n ∈ nmsD d, n ∉ nmsD e) (hk : d.kind ≠ 1 → e.kind ≠ 1 → d.key ≠ e.key) :
    applyE (applyF s e) d = applyE s d ∧ applyE (applyF s d) e = applyE s e ∧ applyF (applyF s d) e = applyF (applyF s e) d := by
  have h' : ∀ n ∈ nmsD e, n ∉ nmsD d := fun n hn hm => h n hm hn
  have e1 : applyE (applyF s e) d = applyE s d := applyE_of (fun n hn => applyF_out s (h n hn))
  have e2 : applyE (applyF s d) e = applyE s e := applyE_of (fun n hn => applyF_out s (h' n hn))
  refine ⟨e1, e2, ?_⟩
  have ha : (applyF (applyF s d) e).acc = (applyF (applyF s e) d).acc := funext (fun n => by
    by_cases hd : n ∈ nmsD d
    · rw [applyF_out _ (h n hd)]
      exact applyF_in (fun m hm => (applyF_out s (h m hm)).symm) hd
    · rw [applyF_out (applyF s e) hd]
      by_cases he : n ∈ nmsD e
      · exact applyF_in (fun m hm => applyF_out s (h' m hm)) he
      · rw [applyF_out _ he, applyF_out _ he, applyF_out _ hd])
  have hv : (applyF (applyF s d) e).val = (applyF (applyF s e) d).val := by
    rw [applyF_val (applyF s d) e, applyF_val (applyF s e) d, applyF_val s d, applyF_val s e, e1, e2]
    by_cases c1 : applyE s d = 0 ∧ d.kind ≠ 1
    · by_cases c2 : applyE s e = 0 ∧ e.kind ≠ 1
      · rw [if_pos c1, if_pos c1, if_pos c2, if_pos c2]
        have hne := hk c1.2 c2.2
        refine funext (fun n => ?_)
        unfold pnF
        by_cases n1 : n = d.key <;> by_cases n2 : n = e.key
        · exact (hne (n1.symm.trans n2)).elim
        · rw [if_neg n2, if_pos n1, if_pos n1]
        · rw [if_pos n2, if_neg n1, if_pos n2]
        · rw [if_neg n2, if_neg n1, if_neg n1, if_neg n2]
      · rw [if_pos c1, if_pos c1, if_neg c2, if_neg c2]
    · rw [if_neg c1, if_neg c1]
  generalize applyF (applyF s d) e = x at ha hv
  generalize applyF (applyF s e) d = y at ha hv
  cases x
  cases y
  simp only at ha hv
  rw [ha, hv]

/-- With another answer than 0 nothing changes. -/
theorem applyF_no {s : StF} {d : TxD} (h : applyE s d ≠ 0) : applyF s d = s := by unfold applyF; rw [if_neg h]

/-- The sum over names. -/
def sumN (f : ByteArray → Nat × Nat) (L : List ByteArray) : Nat := (L.map (fun n => (f n).1)).sum

theorem sumN_out (f : ByteArray → Nat × Nat) (n : ByteArray) (x : Nat × Nat) : ∀ {L : List ByteArray}, n ∉ L → sumN (pnF f n x) L = sumN f L
  | [], _ => rfl
  | m :: r, h => by
    have h1 : m ≠ n := fun e => h (by rw [e]; exact List.mem_cons_self)
    have ih := sumN_out f n x (L := r) (fun e => h (List.mem_cons_of_mem _ e))
    unfold sumN at ih ⊢
    rw [List.map_cons, List.map_cons, List.sum_cons, List.sum_cons, ih, pnF_ne _ _ h1]

theorem sumN_put (f : ByteArray → Nat × Nat) (n : ByteArray) (x : Nat × Nat) : ∀ {L : List ByteArray}, L.Nodup → n ∈ L → sumN (pnF f n x) L + (f n).1 = sumN f L + x.1
  | [], _, h => by cases h
  | m :: r, hd, h => by
    obtain ⟨h1, h2⟩ := List.nodup_cons.1 hd
    rcases List.mem_cons.1 h with e | e
    · subst e
      have := sumN_out f n x h1
      unfold sumN at this ⊢
      rw [List.map_cons, List.map_cons, List.sum_cons, List.sum_cons, this, pnF_at]
      omega
    · have hne : m ≠ n := fun q => h1 (by rw [q]; exact e)
      have ih := sumN_put f n x h2 e
      unfold sumN at ih ⊢
      rw [List.map_cons, List.map_cons, List.sum_cons, List.sum_cons, pnF_ne _ _ hne]
      omega

/-- The sum stays. -/
theorem sum_apply (s : StF) (d : TxD) {L : List ByteArray} (hL : L.Nodup) (h1 : d.frm ∈ L) (h2 : d.kind = 1 → d.to ∈ L) : sumN (applyF s d).acc L = sumN s.acc L := by
  by_cases h : applyE s d = 0
  · unfold applyF
    rw [if_pos h]
    show sumN (accD s.acc d) L = _
    unfold accD
    by_cases hk : d.kind = 1
    · rw [if_pos hk]
      have ha : d.amt ≤ (s.acc d.frm).1 := by
        unfold applyE at h
        split at h
        · cases h
        · split at h
          · cases h
          · split at h
            · cases h
            · rename_i h3
              exact Nat.le_of_not_lt (fun e => h3 ⟨hk, e⟩)
      have p1 := sumN_put s.acc d.frm ((s.acc d.frm).1 - d.amt, (s.acc d.frm).2 + 1) hL h1
      have p2 := sumN_put (pnF s.acc d.frm ((s.acc d.frm).1 - d.amt, (s.acc d.frm).2 + 1)) d.to ((pnF s.acc d.frm ((s.acc d.frm).1 - d.amt, (s.acc d.frm).2 + 1) d.to).1 + d.amt, (pnF s.acc d.frm ((s.acc d.frm).1 - d.amt, (s.acc d.frm).2 + 1) d.to).2) hL (h2 hk)
      simp only at p1 p2
      omega
    · rw [if_neg hk]
      have p1 := sumN_put s.acc d.frm ((s.acc d.frm).1, (s.acc d.frm).2 + 1) hL h1
      simp only at p1
      omega
  · rw [applyF_no h]

/-- Rising lists with the same members are the same. -/
theorem rise_ext : ∀ {l m : List ByteArray}, l.Pairwise (fun a b => a.toList < b.toList) → m.Pairwise (fun a b => a.toList < b.toList) → (∀ p, p ∈ l ↔ p ∈ m) → l = m := by
  intro l
  induction l with
  | nil =>
    intro m _ _ h
    cases m with
    | nil => rfl
    | cons y m => have := (h y).2 (List.mem_cons_self ..); cases this
  | cons x l ih =>
    intro m hl hm h
    cases m with
    | nil => have := (h x).1 (List.mem_cons_self ..); cases this
    | cons y m =>
      obtain ⟨hl1, hl2⟩ := List.pairwise_cons.1 hl
      obtain ⟨hm1, hm2⟩ := List.pairwise_cons.1 hm
      have hxy : x = y := by
        rcases List.mem_cons.1 ((h x).1 (List.mem_cons_self ..)) with e | e
        · exact e
        · rcases List.mem_cons.1 ((h y).2 (List.mem_cons_self ..)) with e2 | e2
          · exact e2.symm
          · exact absurd (List.lt_trans (hm1 x e) (hl1 y e2)) (List.lt_irrefl _)
      subst hxy
      have hnl : x ∉ l := fun e => absurd (hl1 x e) (List.lt_irrefl _)
      have hnm : x ∉ m := fun e => absurd (hm1 x e) (List.lt_irrefl _)
      rw [ih hl2 hm2 (fun p => by
        constructor
        · intro e
          rcases List.mem_cons.1 ((h p).1 (List.mem_cons_of_mem _ e)) with q | q
          · rw [q] at e; exact (hnl e).elim
          · exact q
        · intro e
          rcases List.mem_cons.1 ((h p).2 (List.mem_cons_of_mem _ e)) with q | q
          · rw [q] at e; exact (hnm e).elim
          · exact q)]

/-- The accounts that are written, of those that are kept: whichever are kept. -/
theorem live_ext {f : ByteArray → Nat × Nat} {l m : List ByteArray} (hl : l.Pairwise (fun a b => a.toList < b.toList)) (hm : m.Pairwise (fun a b => a.toList < b.toList)) (h1 : ∀ n, f n ≠ (0, 0) → n ∈ l) (h2 : ∀ n, f n ≠ (0, 0) → n ∈ m) :
    l.filter (fun n => decide (f n ≠ (0, 0))) = m.filter (fun n => decide (f n ≠ (0, 0))) := by
  refine rise_ext (hl.sublist List.filter_sublist) (hm.sublist List.filter_sublist) (fun p => ?_)
  rw [List.mem_filter, List.mem_filter]
  constructor
  · rintro ⟨_, e⟩; exact ⟨h2 p (of_decide_eq_true e), e⟩
  · rintro ⟨_, e⟩; exact ⟨h1 p (of_decide_eq_true e), e⟩

theorem liveV_ext {f : ByteArray → Option ByteArray} {l m : List ByteArray} (hl : l.Pairwise (fun a b => a.toList < b.toList)) (hm : m.Pairwise (fun a b => a.toList < b.toList)) (h1 : ∀ n, f n ≠ none → n ∈ l) (h2 : ∀ n, f n ≠ none → n ∈ m) :
    l.filter (fun n => (f n).isSome) = m.filter (fun n => (f n).isSome) := by
  have hs : ∀ {n}, (f n).isSome = true → f n ≠ none := fun h e => by rw [e] at h; cases h
  refine rise_ext (hl.sublist List.filter_sublist) (hm.sublist List.filter_sublist) (fun p => ?_)
  rw [List.mem_filter, List.mem_filter]
  constructor
  · rintro ⟨_, e⟩; exact ⟨h2 p (hs e), e⟩
  · rintro ⟨_, e⟩; exact ⟨h1 p (hs e), e⟩

def inN (l : List ByteArray) (n : ByteArray) : Bool := l.any (fun x => decide (x = n))

/-- The beginning. -/
def newF (rich : List ByteArray) (funds : Nat) : StF := ⟨fun n => if (isNm n && inN rich n) = true then (min funds 4611686018427387903, 0) else (0, 0), fun _ => none⟩

theorem newF_step (rich : List ByteArray) (funds : Nat) {i : Nat} {x : ByteArray} (hx : rich[i]? = some x) (n : ByteArray) : (newF (rich.take (i + 1)) funds).acc n = if isNm x = true then pnF (newF (rich.take i) funds).acc x (min funds 4611686018427387903, 0) n else (newF (rich.take i) funds).acc n := by
  have hm : inN (rich.take (i + 1)) n = (inN (rich.take i) n || decide (x = n)) := by
    unfold inN
    rw [List.take_add_one, hx, List.any_append]
    simp
  unfold newF pnF
  simp only [hm]
  by_cases h2 : n = x
  · subst h2
    by_cases h1 : isNm n = true
    · simp [h1]
    · simp [h1]
  · have h3 : ¬ x = n := fun e => h2 e.symm
    by_cases h1 : isNm x = true
    · simp [h2, h3, h1]
    · simp [h3, h1]
end Go.Proofs.YtcjmeaikdfgapaaDoor
