/- Texts as one: StaMath, TxName, TxCheck, TxArr, TxRight, Bld. -/
import Derived.Test.YtcjmeaikdfgapaaDoorSd02
import Derived.Below
import Derived.Laws.Rows
import Derived.Laws.Tables
import Derived.WalkSmall
/- Layer 22's mathematics: states as functions, what Apply does with them, the order in which they are written. -/
namespace Go.Proofs.YtcjmeaikdfgapaaDoor
open Go
set_option linter.unusedVariables false

/-- Accounts: amount and number; values. -/
structure StF where
  acc : ByteArray → Nat × Nat
  val : ByteArray → Option ByteArray

def pnF {α : Type} (f : ByteArray → α) (n : ByteArray) (x : α) : ByteArray → α := fun m => if m = n then x else f m

theorem pnF_at {α : Type} (f : ByteArray → α) (n : ByteArray) (x : α) : pnF f n x n = x := by unfold pnF; rw [if_pos rfl]
theorem pnF_ne {α : Type} (f : ByteArray → α) {n m : ByteArray} (x : α) (h : m ≠ n) : pnF f n x m = f m := by unfold pnF; rw [if_neg h]

/-- What Apply answers. -/
def applyE (s : StF) (d : TxD) : Nat :=
  if fitsL d = false then 1
  else if d.non ≠ (s.acc d.frm).2 then 2
  else if d.kind = 1 ∧ (s.acc d.frm).1 < d.amt then 3
  else if d.kind = 1 ∧ d.to ≠ d.frm ∧ 4611686018427387903 < (s.acc d.to).1 + d.amt then 4
  else 0

/-- The accounts behind it, if it is done. -/
def accD (f : ByteArray → Nat × Nat) (d : TxD) : ByteArray → Nat × Nat :=
  if d.kind = 1 then
    pnF (pnF f d.frm ((f d.frm).1 - d.amt, (f d.frm).2 + 1)) d.to ((pnF f d.frm ((f d.frm).1 - d.amt, (f d.frm).2 + 1) d.to).1 + d.amt, (pnF f d.frm ((f d.frm).1 - d.amt, (f d.frm).2 + 1) d.to).2)
  else pnF f d.frm ((f d.frm).1, (f d.frm).2 + 1)

def applyF (s : StF) (d : TxD) : StF :=
  if applyE s d = 0 then ⟨accD s.acc d, if d.kind = 1 then s.val else pnF s.val d.key (some d.val)⟩ else s

/-- The accounts that it reaches. -/
def nmsD (d : TxD) : List ByteArray := if d.kind = 1 then [d.frm, d.to] else [d.frm]

theorem frm_in (d : TxD) : d.frm ∈ nmsD d := by unfold nmsD; split <;> simp
theorem to_in {d : TxD} (h : d.kind = 1) : d.to ∈ nmsD d := by unfold nmsD; rw [if_pos h]; simp

theorem accD_out (f : ByteArray → Nat × Nat) {d : TxD} {n : ByteArray} (h : n ∉ nmsD d) : accD f d n = f n := by
  have h1 : n ≠ d.frm := fun e => h (by rw [e]; exact frm_in d)
  unfold accD
  split
  · rename_i hk
    have h2 : n ≠ d.to := fun e => h (by rw [e]; exact to_in hk)
    rw [pnF_ne _ _ h2, pnF_ne _ _ h1]
  · rw [pnF_ne _ _ h1]

/-- It looks at these alone. -/
theorem accD_in {f g : ByteArray → Nat × Nat} {d : TxD} (h : ∀ n ∈ nmsD d, f n = g n) {n : ByteArray} (hn : n ∈ nmsD d) : accD f d n = accD g d n := by
  have h1 := h d.frm (frm_in d)
  unfold accD
  split
  · rename_i hk
    have h2 := h d.to (to_in hk)
    by_cases e : n = d.to
    · rw [e, pnF_at, pnF_at]
      by_cases e2 : d.to = d.frm
      · rw [e2, pnF_at, pnF_at, h1]
      · rw [pnF_ne _ _ e2, pnF_ne _ _ e2, h2]
    · rw [pnF_ne _ _ e, pnF_ne _ _ e]
      by_cases e2 : n = d.frm
      · rw [e2, pnF_at, pnF_at, h1]
      · rw [pnF_ne _ _ e2, pnF_ne _ _ e2]
        exact h n hn
  · by_cases e2 : n = d.frm
    · rw [e2, pnF_at, pnF_at, h1]
    · rw [pnF_ne _ _ e2, pnF_ne _ _ e2]
      exact h n hn

theorem applyE_of {s t : StF} {d : TxD} (h : ∀ n ∈ nmsD d, s.acc n = t.acc n) : applyE s d = applyE t d := by
  unfold applyE
  rw [h d.frm (frm_in d)]
  by_cases hk : d.kind = 1
  · rw [h d.to (to_in hk)]
  · simp [hk]

theorem applyF_out (s : StF) {d : TxD} {n : ByteArray} (h : n ∉ nmsD d) : (applyF s d).acc n = s.acc n := by
  unfold applyF
  split
  · exact accD_out s.acc h
  · rfl

theorem applyF_in {s t : StF} {d : TxD} (h : ∀ n ∈ nmsD d, s.acc n = t.acc n) {n : ByteArray} (hn : n ∈ nmsD d) : (applyF s d).acc n = (applyF t d).acc n := by
  unfold applyF
  rw [applyE_of h]
  split
  · exact accD_in h hn
  · exact h n hn

/-- The value that it lays. -/
theorem applyF_val (s : StF) (d : TxD) : (applyF s d).val = if applyE s d = 0 ∧ d.kind ≠ 1 then pnF s.val d.key (some d.val) else s.val := by
  unfold applyF
  by_cases h1 : applyE s d = 0 <;> by_cases h2 : d.kind = 1 <;> simp [h1, h2]

/-- Two that reach different accounts, and lay different values, may be done in either order. -/
theorem apply_either (s : StF) {d e : TxD} (h : ∀ n ∈ nmsD d, n ∉ nmsD e) (hk : d.kind ≠ 1 → e.kind ≠ 1 → d.key ≠ e.key) :
    applyE (applyF s e) d = applyE s d ∧ applyE (applyF s d) e = applyE s e ∧ applyF (applyF s d) e = applyF (applyF s e) d := by
  have h' : ∀ n ∈ nmsD e, n ∉ nmsD d := fun n hn hm => h n hm hn
  have e1 : applyE (applyF s e) d = applyE s d := applyE_of (fun n hn => applyF_out s (h n hn))
  have e2 : applyE (applyF s d) e = applyE s e := applyE_of (fun n hn => applyF_out s (h' n hn))
  refine ⟨e1, e2, ?_⟩
  have ha : (applyF (applyF s d) e).acc = (applyF (applyF s e) d).acc := funext (fun n => by
    by_cases hd : n ∈ nmsD d
    · rw [applyF_out _ (h n hd)]
      exact applyF_in (fun m hm => (applyF_out s (h m hm)).symm) hd
    · rw [applyF_out (applyF s e) hd]
      by_cases he : n ∈ nmsD e
      · exact applyF_in (fun m hm => applyF_out s (h' m hm)) he
      · rw [applyF_out _ he, applyF_out _ he, applyF_out _ hd])
  have hv : (applyF (applyF s d) e).val = (applyF (applyF s e) d).val := by
    rw [applyF_val (applyF s d) e, applyF_val (applyF s e) d, applyF_val s d, applyF_val s e, e1, e2]
    by_cases c1 : applyE s d = 0 ∧ d.kind ≠ 1
    · by_cases c2 : applyE s e = 0 ∧ e.kind ≠ 1
      · rw [if_pos c1, if_pos c1, if_pos c2, if_pos c2]
        have hne := hk c1.2 c2.2
        refine funext (fun n => ?_)
        unfold pnF
        by_cases n1 : n = d.key <;> by_cases n2 : n = e.key
        · exact (hne (n1.symm.trans n2)).elim
        · rw [if_neg n2, if_pos n1, if_pos n1]
        · rw [if_pos n2, if_neg n1, if_pos n2]
        · rw [if_neg n2, if_neg n1, if_neg n1, if_neg n2]
      · rw [if_pos c1, if_pos c1, if_neg c2, if_neg c2]
    · rw [if_neg c1, if_neg c1]
  generalize applyF (applyF s d) e = x at ha hv
  generalize applyF (applyF s e) d = y at ha hv
  cases x
  cases y
  simp only at ha hv
  rw [ha, hv]

/-- With another answer than 0 nothing changes. -/
theorem applyF_no {s : StF} {d : TxD} (h : applyE s d ≠ 0) : applyF s d = s := by unfold applyF; rw [if_neg h]

/-- The sum over names. -/
def sumN (f : ByteArray → Nat × Nat) (L : List ByteArray) : Nat := (L.map (fun n => (f n).1)).sum

theorem sumN_out (f : ByteArray → Nat × Nat) (n : ByteArray) (x : Nat × Nat) : ∀ {L : List ByteArray}, n ∉ L → sumN (pnF f n x) L = sumN f L
  | [], _ => rfl
  | m :: r, h => by
    have h1 : m ≠ n := fun e => h (by rw [e]; exact List.mem_cons_self)
    have ih := sumN_out f n x (L := r) (fun e => h (List.mem_cons_of_mem _ e))
    unfold sumN at ih ⊢
    rw [List.map_cons, List.map_cons, List.sum_cons, List.sum_cons, ih, pnF_ne _ _ h1]

theorem sumN_put (f : ByteArray → Nat × Nat) (n : ByteArray) (x : Nat × Nat) : ∀ {L : List ByteArray}, L.Nodup → n ∈ L → sumN (pnF f n x) L + (f n).1 = sumN f L + x.1
  | [], _, h => by cases h
  | m :: r, hd, h => by
    obtain ⟨h1, h2⟩ := List.nodup_cons.1 hd
    rcases List.mem_cons.1 h with e | e
    · subst e
      have := sumN_out f n x h1
      unfold sumN at this ⊢
      rw [List.map_cons, List.map_cons, List.sum_cons, List.sum_cons, this, pnF_at]
      omega
    · have hne : m ≠ n := fun q => h1 (by rw [q]; exact e)
      have ih := sumN_put f n x h2 e
      unfold sumN at ih ⊢
      rw [List.map_cons, List.map_cons, List.sum_cons, List.sum_cons, pnF_ne _ _ hne]
      omega

/-- The sum stays. -/
theorem sum_apply (s : StF) (d : TxD) {L : List ByteArray} (hL : L.Nodup) (h1 : d.frm ∈ L) (h2 : d.kind = 1 → d.to ∈ L) : sumN (applyF s d).acc L = sumN s.acc L := by
  by_cases h : applyE s d = 0
  · unfold applyF
    rw [if_pos h]
    show sumN (accD s.acc d) L = _
    unfold accD
    by_cases hk : d.kind = 1
    · rw [if_pos hk]
      have ha : d.amt ≤ (s.acc d.frm).1 := by
        unfold applyE at h
        split at h
        · cases h
        · split at h
          · cases h
          · split at h
            · cases h
            · rename_i h3
              exact Nat.le_of_not_lt (fun e => h3 ⟨hk, e⟩)
      have p1 := sumN_put s.acc d.frm ((s.acc d.frm).1 - d.amt, (s.acc d.frm).2 + 1) hL h1
      have p2 := sumN_put (pnF s.acc d.frm ((s.acc d.frm).1 - d.amt, (s.acc d.frm).2 + 1)) d.to ((pnF s.acc d.frm ((s.acc d.frm).1 - d.amt, (s.acc d.frm).2 + 1) d.to).1 + d.amt, (pnF s.acc d.frm ((s.acc d.frm).1 - d.amt, (s.acc d.frm).2 + 1) d.to).2) hL (h2 hk)
      simp only at p1 p2
      omega
    · rw [if_neg hk]
      have p1 := sumN_put s.acc d.frm ((s.acc d.frm).1, (s.acc d.frm).2 + 1) hL h1
      simp only at p1
      omega
  · rw [applyF_no h]

/-- Rising lists with the same members are the same. -/
theorem rise_ext : ∀ {l m : List ByteArray}, l.Pairwise (fun a b => a.toList < b.toList) → m.Pairwise (fun a b => a.toList < b.toList) → (∀ p, p ∈ l ↔ p ∈ m) → l = m := by
  intro l
  induction l with
  | nil =>
    intro m _ _ h
    cases m with
    | nil => rfl
    | cons y m => have := (h y).2 (List.mem_cons_self ..); cases this
  | cons x l ih =>
    intro m hl hm h
    cases m with
    | nil => have := (h x).1 (List.mem_cons_self ..); cases this
    | cons y m =>
      obtain ⟨hl1, hl2⟩ := List.pairwise_cons.1 hl
      obtain ⟨hm1, hm2⟩ := List.pairwise_cons.1 hm
      have hxy : x = y := by
        rcases List.mem_cons.1 ((h x).1 (List.mem_cons_self ..)) with e | e
        · exact e
        · rcases List.mem_cons.1 ((h y).2 (List.mem_cons_self ..)) with e2 | e2
          · exact e2.symm
          · exact absurd (List.lt_trans (hm1 x e) (hl1 y e2)) (List.lt_irrefl _)
      subst hxy
      have hnl : x ∉ l := fun e => absurd (hl1 x e) (List.lt_irrefl _)
      have hnm : x ∉ m := fun e => absurd (hm1 x e) (List.lt_irrefl _)
      rw [ih hl2 hm2 (fun p => by
        constructor
        · intro e
          rcases List.mem_cons.1 ((h p).1 (List.mem_cons_of_mem _ e)) with q | q
          · rw [q] at e; exact (hnl e).elim
          · exact q
        · intro e
          rcases List.mem_cons.1 ((h p).2 (List.mem_cons_of_mem _ e)) with q | q
          · rw [q] at e; exact (hnm e).elim
          · exact q)]

/-- The accounts that are written, of those that are kept: whichever are kept. -/
theorem live_ext {f : ByteArray → Nat × Nat} {l m : List ByteArray} (hl : l.Pairwise (fun a b => a.toList < b.toList)) (hm : m.Pairwise (fun a b => a.toList < b.toList)) (h1 : ∀ n, f n ≠ (0, 0) → n ∈ l) (h2 : ∀ n, f n ≠ (0, 0) → n ∈ m) :
    l.filter (fun n => decide (f n ≠ (0, 0))) = m.filter (fun n => decide (f n ≠ (0, 0))) := by
  refine rise_ext (hl.sublist List.filter_sublist) (hm.sublist List.filter_sublist) (fun p => ?_)
  rw [List.mem_filter, List.mem_filter]
  constructor
  · rintro ⟨_, e⟩; exact ⟨h2 p (of_decide_eq_true e), e⟩
  · rintro ⟨_, e⟩; exact ⟨h1 p (of_decide_eq_true e), e⟩

theorem liveV_ext {f : ByteArray → Option ByteArray} {l m : List ByteArray} (hl : l.Pairwise (fun a b => a.toList < b.toList)) (hm : m.Pairwise (fun a b => a.toList < b.toList)) (h1 : ∀ n, f n ≠ none → n ∈ l) (h2 : ∀ n, f n ≠ none → n ∈ m) :
    l.filter (fun n => (f n).isSome) = m.filter (fun n => (f n).isSome) := by
  have hs : ∀ {n}, (f n).isSome = true → f n ≠ none := fun h e => by rw [e] at h; cases h
  refine rise_ext (hl.sublist List.filter_sublist) (hm.sublist List.filter_sublist) (fun p => ?_)
  rw [List.mem_filter, List.mem_filter]
  constructor
  · rintro ⟨_, e⟩; exact ⟨h2 p (hs e), e⟩
  · rintro ⟨_, e⟩; exact ⟨h1 p (hs e), e⟩

def inN (l : List ByteArray) (n : ByteArray) : Bool := l.any (fun x => decide (x = n))

/-- The beginning. -/
def newF (rich : List ByteArray) (funds : Nat) : StF := ⟨fun n => if (isNm n && inN rich n) = true then (min funds 4611686018427387903, 0) else (0, 0), fun _ => none⟩

theorem newF_step (rich : List ByteArray) (funds : Nat) {i : Nat} {x : ByteArray} (hx : rich[i]? = some x) (n : ByteArray) : (newF (rich.take (i + 1)) funds).acc n = if isNm x = true then pnF (newF (rich.take i) funds).acc x (min funds 4611686018427387903, 0) n else (newF (rich.take i) funds).acc n := by
  have hm : inN (rich.take (i + 1)) n = (inN (rich.take i) n || decide (x = n)) := by
    unfold inN
    rw [List.take_add_one, hx, List.any_append]
    simp
  unfold newF pnF
  simp only [hm]
  by_cases h2 : n = x
  · subst h2
    by_cases h1 : isNm n = true
    · simp [h1]
    · simp [h1]
  · have h3 : ¬ x = n := fun e => h2 e.symm
    by_cases h1 : isNm x = true
    · simp [h2, h3, h1]
    · simp [h3, h1]
end Go.Proofs.YtcjmeaikdfgapaaDoor

/- What isName, strings.CutPrefix and isKey do; memory stands. -/
namespace Go.Proofs.YtcjmeaikdfgapaaDoor
open Go.RowKit
set_option linter.unusedVariables false

theorem all_take_succ (s : ByteArray) (k : Nat) (h : k < s.size) (p : UInt8 → Bool) : (s.data.toList.take (k + 1)).all p = ((s.data.toList.take k).all p && p s[k]) := by
  rw [List.take_succ_eq_append_getElem (by simpa using h), List.all_append]
  simp
  rfl

theorem all_of_take (s : ByteArray) (k : Nat) (h : k < s.size) (p : UInt8 → Bool) (hp : p s[k] = false) : s.data.toList.all p = false := by
  have e : s.data.toList = s.data.toList.take (k + 1) ++ s.data.toList.drop (k + 1) := by rw [List.take_append_drop]
  rw [e, List.all_append, all_take_succ s k h, hp]
  simp

set_option maxRecDepth 100000 in
set_option maxHeartbeats 1000000 in
theorem isName_any (s : ByteArray) (w : World) :
    Calls Tryd.prog 73 #[.string s] w fun e w' => e = .returned (.bool (isNm s)) ∧ w' = w := by
  by_cases h1 : s.size < 1
  · have H : Hid (isNm s = false) := by show _ = _; simp [isNm]; intro h; omega
    have h1' : (s.size : Int) < 1 := by omega
    go_enter Tryd.func73, Tryd.ntmps73
    go_wp2
    go_ret
    exact ⟨by rw [H.out]; rfl, rfl⟩
  by_cases h2 : 32 < s.size
  · have H : Hid (isNm s = false) := by show _ = _; simp [isNm]; intro _ h; omega
    have h1' : ¬ (s.size : Int) < 1 := by omega
    have h2' : (32 : Int) < s.size := by omega
    go_enter Tryd.func73, Tryd.ntmps73
    go_wp2
    go_ret
    exact ⟨by rw [H.out]; rfl, rfl⟩
  have HN : Hid (isNm s = s.data.toList.all nameByte) := by
    show _ = _
    unfold isNm
    rw [decide_eq_true (by omega), decide_eq_true (by omega)]
    rfl
  have h1' : ¬ (s.size : Int) < 1 := by omega
  have h2' : ¬ (32 : Int) < s.size := by omega
  go_enter Tryd.func73, Tryd.ntmps73
  go_wp2
  go_loop [16] (fun v => ∃ k : Nat, k ≤ s.size ∧ v = .int .i64 k ∧ Hid ((s.data.toList.take k).all nameByte = true)) (fun v => s.size - (intOf v).toNat)
  case atStart => exact ⟨0, by omega, rfl, by show _ = _; simp⟩
  case round =>
    obtain ⟨k, hk, rfl, hall⟩ := hrel
    by_cases hlt : k < s.size
    · obtain ⟨c, hc⟩ : ∃ c, s[k].toNat = c := ⟨_, rfl⟩
      have hY : (97 ≤ c ∧ c ≤ 122 ∨ 48 ≤ c ∧ c ≤ 57) → Hid ((s.data.toList.take (k + 1)).all nameByte = true) := by
        intro h
        show _ = _
        rw [all_take_succ s k hlt, hall.out]
        unfold nameByte
        rw [hc]
        simp only [Bool.true_and, Bool.or_eq_true, Bool.and_eq_true, decide_eq_true_eq]
        exact h
      have hN : ¬ (97 ≤ c ∧ c ≤ 122 ∨ 48 ≤ c ∧ c ≤ 57) → Hid (isNm s = false) := by
        intro h
        show _ = _
        rw [HN.out]
        refine all_of_take s k hlt _ ?_
        unfold nameByte
        rw [hc]
        simp only [Bool.or_eq_false_iff, Bool.and_eq_false_iff, decide_eq_false_iff_not]
        omega
      clear hall
      have hI : ((c : Int) < 48 ∧ (c : Int) ≤ 57 ∧ (c : Int) < 97 ∧ (c : Int) ≤ 122) ∨ ((48 : Int) ≤ c ∧ (57 : Int) < c ∧ (c : Int) < 97 ∧ (c : Int) ≤ 122) ∨ ((48 : Int) ≤ c ∧ (57 : Int) < c ∧ (97 : Int) ≤ c ∧ (122 : Int) < c) ∨
          ((48 : Int) ≤ c ∧ (c : Int) ≤ 57 ∧ (c : Int) < 97 ∧ (c : Int) ≤ 122) ∨ ((48 : Int) ≤ c ∧ (57 : Int) < c ∧ (97 : Int) ≤ c ∧ (c : Int) ≤ 122) := by omega
      rcases hI with ⟨i1, i2, i3, i4⟩ | ⟨i1, i2, i3, i4⟩ | ⟨i1, i2, i3, i4⟩ | ⟨i1, i2, i3, i4⟩ | ⟨i1, i2, i3, i4⟩
      · have H := hN (by omega)
        clear hY hN
        go_wp2
        go_ret
        exact ⟨by rw [H.out]; rfl, rfl⟩
      · have H := hN (by omega)
        clear hY hN
        have d57 : decide ((c : Int) ≤ 57) = false := decide_eq_false (by omega)
        go_wp2
        go_ret
        exact ⟨by rw [H.out]; rfl, rfl⟩
      · have H := hN (by omega)
        clear hY hN
        have d122 : decide ((c : Int) ≤ 122) = false := decide_eq_false (by omega)
        have d57 : decide ((c : Int) ≤ 57) = false := decide_eq_false (by omega)
        go_wp2
        go_ret
        exact ⟨by rw [H.out]; rfl, rfl⟩
      · have H := hY (by omega)
        clear hY hN
        go_wp2
        go_round
        case rel => exact ⟨k + 1, by omega, by go_num, H⟩
        case measure => simp [intOf]; omega
      · have H := hY (by omega)
        clear hY hN
        go_wp2
        go_round
        case rel => exact ⟨k + 1, by omega, by go_num, H⟩
        case measure => simp [intOf]; omega
    · have H : Hid (isNm s = true) := by
        show _ = _
        rw [HN.out, ← hall.out, List.take_of_length_le (by simp; omega)]
      go_wp2
      go_ret
      exact ⟨by rw [H.out]; rfl, rfl⟩

set_option maxRecDepth 100000 in
set_option maxHeartbeats 400000 in
theorem hasPrefix_any (s p : ByteArray) (w : World) :
    Calls Tryd.prog 103 #[.string s, .string p] w fun e w' => e = .returned (.bool (cutOk s p)) ∧ w' = w := by
  unfold cutOk
  by_cases h : p.size ≤ s.size
  · have h' : (p.size : Int) ≤ s.size := by omega
    go_enter Tryd.func103, Tryd.ntmps103
    go_wp2
    go_ret
    exact ⟨by simp; intro _; exact h, rfl⟩
  · have h' : ¬ (p.size : Int) ≤ s.size := by omega
    go_enter Tryd.func103, Tryd.ntmps103
    go_wp2
    go_ret
    exact ⟨by simp, rfl⟩

theorem cutOk_size {s p : ByteArray} (h : cutOk s p = true) : p.size ≤ s.size := by
  unfold cutOk at h
  simp at h
  exact h.1

set_option maxRecDepth 100000 in
set_option maxHeartbeats 400000 in
theorem cut_in (s p : ByteArray) (w : World) :
    Calls Tryd.prog 100 #[.string s, .string p] w fun e w' => e = .returned (.tuple #[.string (if cutOk s p then s.extract p.size s.size else s), .bool (cutOk s p)]) ∧ w' = w := by
  cases hc : cutOk s p with
  | true =>
    have h := cutOk_size hc
    have h' : (p.size : Int) ≤ s.size := by omega
    have cs := hasPrefix_any s p
    rw [hc] at cs
    go_enter Tryd.func100, Tryd.ntmps100
    go_wp2_with fail
    refine (cs _).mono ?_
    rintro e w' ⟨rfl, rfl⟩
    go_wp2
    go_ret2
    exact ⟨by simp, rfl⟩
  | false =>
    have cs := hasPrefix_any s p
    rw [hc] at cs
    go_enter Tryd.func100, Tryd.ntmps100
    go_wp2_with fail
    refine (cs _).mono ?_
    rintro e w' ⟨rfl, rfl⟩
    go_wp2
    go_ret2
    exact ⟨by simp, rfl⟩

set_option maxRecDepth 100000 in
set_option maxHeartbeats 400000 in
theorem cut_any (s p : ByteArray) (w : World) :
    Calls Tryd.prog 91 #[.string s, .string p] w fun e w' => e = .returned (.tuple #[.string (if cutOk s p then s.extract p.size s.size else s), .bool (cutOk s p)]) ∧ w' = w := by
  have cs := cut_in s p
  generalize (if cutOk s p then s.extract p.size s.size else s) = u at cs ⊢
  generalize cutOk s p = b at cs ⊢
  go_enter Tryd.func91, Tryd.ntmps91
  go_wp2_with fail
  refine (cs _).mono ?_
  rintro e w' ⟨rfl, rfl⟩
  go_wp2
  go_ret2
  exact ⟨rfl, rfl⟩

set_option maxRecDepth 100000 in
set_option maxHeartbeats 400000 in
theorem isKey_any (s : ByteArray) (w : World) :
    Calls Tryd.prog 74 #[.string s] w fun e w' => e = .returned (.bool (isKy s)) ∧ w' = w := by
  cases ha : cutOk s aP with
  | true =>
    have ca : ∀ w, Calls Tryd.prog 91 #[.string s, .string ⟨#[97, 58]⟩] w fun e w' => e = .returned (.tuple #[.string (s.extract 2 s.size), .bool true]) ∧ w' = w := fun w => by
      have h := cut_any s aP w
      rw [ha, if_pos rfl] at h
      exact h
    have cn := isName_any (s.extract 2 s.size)
    have H : Hid (isKy s = isNm (s.extract 2 s.size)) := by show _ = _; unfold isKy; rw [ha]; rfl
    generalize isNm (s.extract 2 s.size) = b at cn H
    generalize s.extract 2 s.size = u at cn ca
    go_enter Tryd.func74, Tryd.ntmps74
    go_wp2_with fail
    refine (ca _).mono ?_
    rintro e w' ⟨rfl, rfl⟩
    go_wp2_with fail
    refine (cn _).mono ?_
    rintro e w' ⟨rfl, rfl⟩
    go_wp2
    go_ret
    exact ⟨by rw [H.out]; rfl, rfl⟩
  | false =>
    have ca : ∀ w, Calls Tryd.prog 91 #[.string s, .string ⟨#[97, 58]⟩] w fun e w' => e = .returned (.tuple #[.string s, .bool false]) ∧ w' = w := fun w => by
      have h := cut_any s aP w
      rw [ha, if_neg (by simp)] at h
      exact h
    cases hk : cutOk s kP with
    | true =>
      have ck : ∀ w, Calls Tryd.prog 91 #[.string s, .string ⟨#[107, 58]⟩] w fun e w' => e = .returned (.tuple #[.string (s.extract 2 s.size), .bool true]) ∧ w' = w := fun w => by
        have h := cut_any s kP w
        rw [hk, if_pos rfl] at h
        exact h
      have cn := isName_any (s.extract 2 s.size)
      have H : Hid (isKy s = isNm (s.extract 2 s.size)) := by show _ = _; unfold isKy; rw [ha, hk]; rfl
      generalize isNm (s.extract 2 s.size) = b at cn H
      generalize s.extract 2 s.size = u at cn ck
      go_enter Tryd.func74, Tryd.ntmps74
      go_wp2_with fail
      refine (ca _).mono ?_
      rintro e w' ⟨rfl, rfl⟩
      go_wp2_with fail
      refine (ck _).mono ?_
      rintro e w' ⟨rfl, rfl⟩
      go_wp2_with fail
      refine (cn _).mono ?_
      rintro e w' ⟨rfl, rfl⟩
      go_wp2
      go_ret
      exact ⟨by rw [H.out]; rfl, rfl⟩
    | false =>
      have ck : ∀ w, Calls Tryd.prog 91 #[.string s, .string ⟨#[107, 58]⟩] w fun e w' => e = .returned (.tuple #[.string s, .bool false]) ∧ w' = w := fun w => by
        have h := cut_any s kP w
        rw [hk, if_neg (by simp)] at h
        exact h
      have H : Hid (isKy s = false) := by show _ = _; unfold isKy; rw [ha, hk]; rfl
      go_enter Tryd.func74, Tryd.ntmps74
      go_wp2_with fail
      refine (ca _).mono ?_
      rintro e w' ⟨rfl, rfl⟩
      go_wp2_with fail
      refine (ck _).mono ?_
      rintro e w' ⟨rfl, rfl⟩
      go_wp2
      go_ret
      exact ⟨by rw [H.out]; rfl, rfl⟩
end Go.Proofs.YtcjmeaikdfgapaaDoor

/- What checkKeys, fieldsRight and Check do; nothing old in memory is turned. -/
namespace Go.Proofs.YtcjmeaikdfgapaaDoor
open Go.RowKit
set_option linter.unusedVariables false

set_option maxRecDepth 100000 in
set_option maxHeartbeats 1000000 in
theorem checkKeys_any (ao : Option Addr) (cap : Nat) (ss : List ByteArray) (w : World) (hc : StrsAt w ao ss) :
    Calls Tryd.prog 57 #[.slice ao ss.length cap] w fun e w' => e = .returned (.int .i64 (keysL ss : Int)) ∧ w' = w := by
  by_cases h8 : 8 < ss.length
  · have H : Hid (keysL ss = 8) := by show _ = _; unfold keysL; rw [if_pos h8]
    have h8' : (8 : Int) < ss.length := by omega
    go_enter Tryd.func57, Tryd.ntmps57
    go_wp2
    go_ret
    exact ⟨by rw [H.out]; rfl, rfl⟩
  have h8' : ¬ (8 : Int) < ss.length := by omega
  have HK : Hid (keysL ss = keysGo ⟨#[]⟩ ss) := by show _ = _; unfold keysL; rw [if_neg h8]
  go_enter Tryd.func57, Tryd.ntmps57
  go_wp2
  go_loop [3, 11] (fun v3 v11 => ∃ (k : Nat) (a : ByteArray), k ≤ ss.length ∧ v11 = .int .i64 k ∧ v3 = .string a ∧ Hid (keysL ss = keysGo a (ss.drop k))) (fun _ v => ss.length - (intOf v).toNat)
  case atStart => exact ⟨0, ⟨#[]⟩, by omega, rfl, rfl, HK⟩
  case round =>
    obtain ⟨k, a, hk, rfl, rfl, hK⟩ := hrel
    by_cases hlt : k < ss.length
    · obtain ⟨b, off, rfl, hbl, hcell⟩ := hc k hlt
      have hd : ss.drop k = ss[k] :: ss.drop (k + 1) := List.drop_eq_getElem_cons hlt
      have hK2 := hK.out
      rw [hd, keysGo] at hK2
      have cn := isKey_any ss[k]
      obtain ⟨x, hx⟩ : ∃ x, x = ss[k] := ⟨_, rfl⟩
      rw [← hx] at hK2 cn hcell
      clear hK hd hx HK
      cases hky : isKy x with
      | false =>
        have H : Hid (keysL ss = 3) := by show _ = _; rw [hK2, if_pos hky]
        rw [hky] at cn
        clear hK2 hky
        go_wp2_with fail
        refine (cn _).mono ?_
        rintro e w' ⟨rfl, rfl⟩
        go_wp2
        go_ret
        exact ⟨by rw [H.out]; rfl, rfl⟩
      | true =>
        rw [hky] at cn
        rw [if_neg (by rw [hky]; simp)] at hK2
        cases hle : (Op.bytesLess x.toList a.toList || x.toList == a.toList) with
        | true =>
          have H : Hid (keysL ss = 9) := by show _ = _; rw [hK2, if_pos hle]
          clear hK2 hky
          go_wp2_with fail
          refine (cn _).mono ?_
          rintro e w' ⟨rfl, rfl⟩
          go_wp2
          go_ret
          exact ⟨by rw [H.out]; rfl, rfl⟩
        | false =>
          have H : Hid (keysL ss = keysGo x (ss.drop (k + 1))) := by show _ = _; rw [hK2, if_neg (by rw [hle]; simp)]
          clear hK2 hky
          go_wp2_with fail
          refine (cn _).mono ?_
          rintro e w' ⟨rfl, rfl⟩
          go_wp2
          go_round
          case rel => exact ⟨k + 1, x, by omega, by go_num, rfl, H⟩
          case measure => simp [intOf]; omega
    · have H : Hid (keysL ss = 0) := by
        show _ = _
        rw [hK.out, List.drop_of_length_le (by omega), keysGo]
      clear hK
      go_wp2
      go_ret
      exact ⟨by rw [H.out]; rfl, rfl⟩

theorem bemp (s : ByteArray) : (s.toList == []) = s.toList.isEmpty := by cases s.toList <;> rfl

set_option maxRecDepth 100000 in
set_option maxHeartbeats 1000000 in
theorem fieldsRight_any (d : TxD) (ra : Option Addr) (rc : Nat) (wa : Option Addr) (wc : Nat) (w : World) :
    Calls Tryd.prog 56 #[txV d ra rc wa wc] w fun e w' => e = .returned (.bool (fieldsR d)) ∧ Below w.heap.size w w' := by
  obtain ⟨kind, frm, to, amt, non, key, val, rs, ws⟩ := d
  have hB : ∀ c, Below w.heap.size w (w.alloc c) := fun c => (Below.refl w.heap.size w).alloc (Nat.le_refl _) c
  unfold txV
  have c1 := isName_any frm
  cases h1 : isNm frm with
  | false =>
    have H : Hid (fieldsR ⟨kind, frm, to, amt, non, key, val, rs, ws⟩ = false) := by show _ = _; simp [fieldsR, h1]
    rw [h1] at c1
    go_enter Tryd.func56, Tryd.ntmps56
    go_wp2_with fail
    refine (c1 _).mono ?_
    rintro e w' ⟨rfl, rfl⟩
    go_wp2
    go_ret
    exact ⟨by rw [H.out]; rfl, hB _⟩
  | true =>
    rw [h1] at c1
    by_cases hk : kind = 1
    · subst hk
      have c2 := isName_any to
      have H : Hid (fieldsR ⟨1, frm, to, amt, non, key, val, rs, ws⟩ = (isNm to && key.toList.isEmpty && val.toList.isEmpty)) := by show _ = _; simp only [fieldsR, h1, bemp]; simp
      generalize isNm to = b2 at c2 H
      cases b2 with
      | false =>
        go_enter Tryd.func56, Tryd.ntmps56
        go_wp2_with fail
        refine (c1 _).mono ?_
        rintro e w' ⟨rfl, rfl⟩
        go_wp2_with fail
        refine (c2 _).mono ?_
        rintro e w' ⟨rfl, rfl⟩
        go_wp2
        go_ret
        exact ⟨by rw [H.out]; rfl, hB _⟩
      | true =>
        by_cases hkey : key.toList = []
        · have hke : key.toList.isEmpty = true := by rw [hkey]; rfl
          rw [hke] at H
          replace H : Hid (fieldsR ⟨1, frm, to, amt, non, key, val, rs, ws⟩ = val.toList.isEmpty) := H
          go_enter Tryd.func56, Tryd.ntmps56
          go_wp2_with fail
          refine (c1 _).mono ?_
          rintro e w' ⟨rfl, rfl⟩
          go_wp2_with fail
          refine (c2 _).mono ?_
          rintro e w' ⟨rfl, rfl⟩
          go_wp2
          go_ret
          exact ⟨by rw [H.out]; rfl, hB _⟩
        · have hke : key.toList.isEmpty = false := by simpa using hkey
          rw [hke] at H
          replace H : Hid (fieldsR ⟨1, frm, to, amt, non, key, val, rs, ws⟩ = false) := H
          go_enter Tryd.func56, Tryd.ntmps56
          go_wp2_with fail
          refine (c1 _).mono ?_
          rintro e w' ⟨rfl, rfl⟩
          go_wp2_with fail
          refine (c2 _).mono ?_
          rintro e w' ⟨rfl, rfl⟩
          go_wp2
          go_ret
          exact ⟨by rw [H.out]; rfl, hB _⟩
    · have c2 := isName_any key
      have hk1 : (kind == 1) = false := beq_eq_false_iff_ne.2 hk
      have H : Hid (fieldsR ⟨kind, frm, to, amt, non, key, val, rs, ws⟩ = (isNm key && decide (val.size ≤ 64) && to.toList.isEmpty && decide (amt = 0))) := by show _ = _; simp only [fieldsR, h1, bemp, if_neg hk]; simp
      generalize isNm key = b2 at c2 H
      cases b2 with
      | false =>
        go_enter Tryd.func56, Tryd.ntmps56
        go_wp2_with fail
        refine (c1 _).mono ?_
        rintro e w' ⟨rfl, rfl⟩
        go_wp2_with fail
        refine (c2 _).mono ?_
        rintro e w' ⟨rfl, rfl⟩
        go_wp2
        go_ret
        exact ⟨by rw [H.out]; rfl, hB _⟩
      | true =>
        by_cases hv : val.size ≤ 64
        · have hv' : (val.size : Int) ≤ 64 := by omega
          by_cases ht : to.toList = []
          · have hte : to.toList.isEmpty = true := by rw [ht]; rfl
            rw [hte, decide_eq_true hv] at H
            by_cases ha : amt = 0
            · subst ha
              replace H : Hid (fieldsR ⟨kind, frm, to, 0, non, key, val, rs, ws⟩ = true) := H
              go_enter Tryd.func56, Tryd.ntmps56
              go_wp2_with fail
              refine (c1 _).mono ?_
              rintro e w' ⟨rfl, rfl⟩
              go_wp2_with fail
              refine (c2 _).mono ?_
              rintro e w' ⟨rfl, rfl⟩
              go_wp2
              go_ret
              exact ⟨by rw [H.out]; rfl, hB _⟩
            · have ha' : ((amt : Int) == 0) = false := beq_eq_false_iff_ne.2 (by omega)
              rw [decide_eq_false ha] at H
              replace H : Hid (fieldsR ⟨kind, frm, to, amt, non, key, val, rs, ws⟩ = false) := H
              go_enter Tryd.func56, Tryd.ntmps56
              go_wp2_with fail
              refine (c1 _).mono ?_
              rintro e w' ⟨rfl, rfl⟩
              go_wp2_with fail
              refine (c2 _).mono ?_
              rintro e w' ⟨rfl, rfl⟩
              go_wp2
              go_ret
              exact ⟨by rw [H.out]; rfl, hB _⟩
          · have hte : to.toList.isEmpty = false := by simpa using ht
            rw [hte, decide_eq_true hv] at H
            replace H : Hid (fieldsR ⟨kind, frm, to, amt, non, key, val, rs, ws⟩ = false) := H
            go_enter Tryd.func56, Tryd.ntmps56
            go_wp2_with fail
            refine (c1 _).mono ?_
            rintro e w' ⟨rfl, rfl⟩
            go_wp2_with fail
            refine (c2 _).mono ?_
            rintro e w' ⟨rfl, rfl⟩
            go_wp2
            go_ret
            exact ⟨by rw [H.out]; rfl, hB _⟩
        · have hv' : (64 : Int) < val.size := by omega
          rw [decide_eq_false hv] at H
          replace H : Hid (fieldsR ⟨kind, frm, to, amt, non, key, val, rs, ws⟩ = false) := H
          have dv : decide ((val.size : Int) ≤ 64) = false := decide_eq_false (by omega)
          go_enter Tryd.func56, Tryd.ntmps56
          go_wp2_with fail
          refine (c1 _).mono ?_
          rintro e w' ⟨rfl, rfl⟩
          go_wp2_with fail
          refine (c2 _).mono ?_
          rintro e w' ⟨rfl, rfl⟩
          go_wp2
          go_ret
          exact ⟨by rw [H.out]; rfl, hB _⟩
end Go.Proofs.YtcjmeaikdfgapaaDoor

/- A block that holds a known row of cells, none of them frozen; what becomes of it by a store, by new blocks, by a draw. -/
namespace Go.Proofs.YtcjmeaikdfgapaaDoor
open Go.RowKit

/-- Block g is a row of the cells cs. -/
def Arr (w : World) (g : Nat) (t : TypeId) (cs : List Value) : Prop := w.heap[g]? = some (.cells cs.toArray t (0, 0))

theorem Arr.lt {w : World} {g : Nat} {t : TypeId} {cs : List Value} (h : Arr w g t cs) : g < w.heap.size := by
  unfold Arr at h
  by_cases hl : g < w.heap.size
  · exact hl
  · simp [Nat.not_lt.1 hl] at h

theorem Arr.cell {w : World} {g : Nat} {t : TypeId} {cs : List Value} (h : Arr w g t cs) {i : Nat} {v : Value} (hv : cs[i]? = some v) : w.cell? ⟨g, i, none⟩ = some v := by
  unfold Arr at h
  simp [World.cell?, h, hv]

theorem Arr.frozen {w : World} {g : Nat} {t : TypeId} {cs : List Value} (h : Arr w g t cs) (i : Nat) : w.frozen? ⟨g, i, none⟩ = false := by
  unfold Arr at h
  simp [World.frozen?, h]

theorem Arr.drew {w : World} {g : Nat} {t : TypeId} {cs : List Value} (h : Arr w g t cs) : Arr w.drew g t cs := h
theorem Arr.drewN {w : World} {g : Nat} {t : TypeId} {cs : List Value} (h : Arr w g t cs) (n : Nat) : Arr (w.drewN n) g t cs := h

theorem Arr.alloc {w : World} {g : Nat} {t : TypeId} {cs : List Value} (h : Arr w g t cs) (o : Obj) : Arr (w.alloc o) g t cs := by
  have := h.lt
  unfold Arr at h ⊢
  rw [Below.heap_alloc w o g this, h]

theorem Arr.new (w : World) (t : TypeId) (cs : List Value) : Arr (w.alloc (.cells cs.toArray t)) w.heap.size t cs := heap_alloc_new w _

theorem Arr.other {w : World} {g : Nat} {t : TypeId} {cs : List Value} (h : Arr w g t cs) {p : Addr} (hp : g ≠ p.block) (u : Value) : Arr (w.setCell p u) g t cs := by
  unfold Arr at h ⊢
  rw [Below.heap_setCell w p u g hp, h]

theorem Arr.set {w : World} {g : Nat} {t : TypeId} {cs : List Value} (h : Arr w g t cs) (i : Nat) (u : Value) : Arr (w.setCell ⟨g, i, none⟩ u) g t (cs.set i u) := by
  unfold Arr at h ⊢
  show (w.heap.modify g _)[g]? = _
  rw [Array.getElem?_modify, if_pos rfl, h]
  simp

theorem Arr.row {w : World} {g : Nat} {t : TypeId} {cs : List Value} (h : Arr w g t cs) (c' : List Value) : Arr (w.setRow g c'.toArray) g t c' := by
  unfold Arr at h ⊢
  show (w.heap.modify g _)[g]? = _
  rw [Array.getElem?_modify, if_pos rfl, h]
  simp

theorem Arr.rowOther {w : World} {g g' : Nat} {t : TypeId} {cs : List Value} (h : Arr w g t cs) (hg : g ≠ g') (c' : Array Value) : Arr (w.setRow g' c') g t cs := by
  unfold Arr at h ⊢
  show (w.heap.modify g' _)[g]? = _
  rw [Array.getElem?_modify, if_neg (fun e => hg e.symm), h]

theorem below_setRow {B : Nat} {a w : World} (h : Below B a w) {g : Nat} (hg : B ≤ g) (c' : Array Value) : Below B a (w.setRow g c') := by
  refine h.trans ⟨rfl, rfl, rfl, by show _ ≤ (w.heap.modify g _).size; simp, fun k hk => ?_⟩
  show (w.heap.modify g _)[k]? = _
  rw [Array.getElem?_modify, if_neg (by omega)]

theorem Arr.below {w w' : World} {g B : Nat} {t : TypeId} {cs : List Value} (h : Arr w g t cs) (hb : Below B w w') (hg : g < B) : Arr w' g t cs := by
  unfold Arr at h ⊢
  rw [hb.block g hg, h]

theorem alloc_size (w : World) (o : Obj) : (w.alloc o).heap.size = w.heap.size + 1 := by
  show (w.heap.push o).size = _
  simp

theorem two_new (w : World) (t1 t2 : TypeId) (l1 l2 : List Value) :
    Arr ((w.alloc (.cells l1.toArray t1)).alloc (.cells l2.toArray t2)) w.heap.size t1 l1 ∧ Arr ((w.alloc (.cells l1.toArray t1)).alloc (.cells l2.toArray t2)) (w.heap.size + 1) t2 l2
      ∧ Below w.heap.size w ((w.alloc (.cells l1.toArray t1)).alloc (.cells l2.toArray t2)) := by
  refine ⟨(Arr.new _ _ _).alloc _, ?_, ((Below.refl _ w).alloc (Nat.le_refl _) _).alloc (by rw [alloc_size]; omega) _⟩
  have := Arr.new (w.alloc (.cells l1.toArray t1)) t2 l2
  rwa [alloc_size] at this

theorem four_new (w : World) (t1 t2 t3 t4 : TypeId) (l1 l2 l3 l4 : List Value) (W : World) (hW : W = (((w.alloc (.cells l1.toArray t1)).alloc (.cells l2.toArray t2)).alloc (.cells l3.toArray t3)).alloc (.cells l4.toArray t4)) :
    Arr W w.heap.size t1 l1 ∧ Arr W (w.heap.size + 1) t2 l2 ∧ Arr W (w.heap.size + 1 + 1) t3 l3 ∧ Arr W (w.heap.size + 1 + 1 + 1) t4 l4 ∧ Below w.heap.size w W := by
  subst hW
  obtain ⟨h1, h2, hb⟩ := two_new w t1 t2 l1 l2
  have e2 : ((w.alloc (.cells l1.toArray t1)).alloc (.cells l2.toArray t2)).heap.size = w.heap.size + 1 + 1 := by rw [alloc_size, alloc_size]
  obtain ⟨h3, h4, hb'⟩ := two_new ((w.alloc (.cells l1.toArray t1)).alloc (.cells l2.toArray t2)) t3 t4 l3 l4
  rw [e2] at h3 h4 hb'
  exact ⟨(h1.alloc _).alloc _, (h2.alloc _).alloc _, h3, h4, hb.trans (hb'.mono (by omega))⟩

theorem belowNew (w : World) (c : Obj) : Below w.heap.size w (w.alloc c) := (Below.refl w.heap.size w).alloc (Nat.le_refl _) c

theorem setCell_size (w : World) (p : Addr) (v : Value) : (w.setCell p v).heap.size = w.heap.size := by
  show (w.heap.modify p.block _).size = _
  simp
end Go.Proofs.YtcjmeaikdfgapaaDoor

/- What Check does; nothing old in memory is turned. -/
namespace Go.Proofs.YtcjmeaikdfgapaaDoor
open Go.RowKit
set_option linter.unusedVariables false

/-- A transaction's nine cells. -/
def txC (d : TxD) (ra : Option Addr) (rc : Nat) (wa : Option Addr) (wc : Nat) : List Value :=
  [.int .i64 d.kind, .string d.frm, .string d.to, .int .u64 (d.amt : Int), .int .u64 (d.non : Int), .string d.key, .string d.val, .slice ra d.rs.length rc, .slice wa d.ws.length wc]

/-- A transaction lies in a block. -/
def TxBox (w : World) (b : Nat) (d : TxD) (ra : Option Addr) (rc : Nat) (wa : Option Addr) (wc : Nat) : Prop := Arr w b 33 (txC d ra rc wa wc)

theorem TxBox.new (w : World) (d : TxD) (ra : Option Addr) (rc : Nat) (wa : Option Addr) (wc : Nat) : TxBox (w.alloc (.cells (txC d ra rc wa wc).toArray 33)) w.heap.size d ra rc wa wc := Arr.new w 33 _

set_option maxRecDepth 100000 in
set_option maxHeartbeats 1000000 in
theorem check_any (d : TxD) (ra : Option Addr) (rc : Nat) (wa : Option Addr) (wc : Nat) (w : World) (hA : TxAt w d ra wa) :
    Calls Tryd.prog 45 #[txV d ra rc wa wc] w fun e w' => e = .returned (.int .i64 (checkL d : Int)) ∧ Below w.heap.size w w' := by
  have hX := TxBox.new w d ra rc wa wc
  have hB := belowNew w (.cells (txC d ra rc wa wc).toArray 33)
  have hA0 := hA.below hB
  have cf := fieldsRight_any d ra rc wa wc (w.alloc (.cells (txC d ra rc wa wc).toArray 33))
  obtain ⟨kind, frm, to, amt, non, key, val, rs, ws⟩ := d
  have HC : Hid (checkL ⟨kind, frm, to, amt, non, key, val, rs, ws⟩ = _) := (rfl : checkL _ = if kind ≠ 1 ∧ kind ≠ 2 then 5 else if fieldsR ⟨kind, frm, to, amt, non, key, val, rs, ws⟩ = false then 3 else if 4611686018427387903 < amt ∨ 4611686018427387903 < non then 2 else if keysL rs ≠ 0 then keysL rs else keysL ws)
  unfold txV at cf ⊢
  by_cases hk : kind ≠ 1 ∧ kind ≠ 2
  · have hk1 : (kind != 1) = true := by simpa using hk.1
    have hk2 : (kind != 2) = true := by simpa using hk.2
    have H : Hid (checkL ⟨kind, frm, to, amt, non, key, val, rs, ws⟩ = 5) := by show _ = _; rw [HC.out, if_pos hk]
    clear HC hA hA0 cf hX
    go_enter Tryd.func45, Tryd.ntmps45
    go_wp2
    go_ret
    exact ⟨by rw [H.out]; rfl, hB⟩
  have hkk : kind = 1 ∨ kind = 2 := by omega
  replace HC : Hid (checkL ⟨kind, frm, to, amt, non, key, val, rs, ws⟩ = _) := (HC.out.trans (if_neg hk) : _ = _)
  have key1 : ∀ kind', kind' = kind → (kind' = 1 ∨ kind' = 2) := by rintro _ rfl; exact hkk
  clear hk
  cases hf : fieldsR ⟨kind, frm, to, amt, non, key, val, rs, ws⟩ with
  | false =>
    have H : Hid (checkL ⟨kind, frm, to, amt, non, key, val, rs, ws⟩ = 3) := by show _ = _; rw [HC.out, if_pos hf]
    rw [hf] at cf
    clear HC hA hA0 hX hf
    rcases hkk with rfl | rfl
    all_goals
      go_enter Tryd.func45, Tryd.ntmps45
      go_wp2_with fail
      refine cf.mono ?_
      rintro e w1 ⟨rfl, hb1⟩
      have hB1 := hB.trans (hb1.mono hB.size)
      clear hb1 cf
      go_wp2
      go_ret
      exact ⟨by rw [H.out]; rfl, hB1⟩
  | true =>
    replace HC : Hid (checkL ⟨kind, frm, to, amt, non, key, val, rs, ws⟩ = _) := (HC.out.trans (if_neg (by rw [hf]; simp)) : _ = _)
    rw [hf] at cf
    clear hf
    by_cases hr : 4611686018427387903 < amt ∨ 4611686018427387903 < non
    · have H : Hid (checkL ⟨kind, frm, to, amt, non, key, val, rs, ws⟩ = 2) := by show _ = _; rw [HC.out, if_pos hr]
      have hr' : ((4611686018427387903 : Int) < amt) ∨ ((amt : Int) ≤ 4611686018427387903 ∧ (4611686018427387903 : Int) < non) := by omega
      clear HC hr
      rcases hkk with rfl | rfl
      all_goals
        rcases hr' with h1 | ⟨h1, h2⟩
        all_goals
          go_enter Tryd.func45, Tryd.ntmps45
          go_wp2_with fail
          refine cf.mono ?_
          rintro e w1 ⟨rfl, hb1⟩
          have hX1 := hX.below hb1 hX.lt
          have hB1 := hB.trans (hb1.mono hB.size)
          have c3 := hX1.cell (i := 3) rfl
          have c4 := hX1.cell (i := 4) rfl
          clear hb1 cf hX1
          go_wp2
          go_ret
          exact ⟨by rw [H.out]; rfl, hB1⟩
    · replace HC : Hid (checkL ⟨kind, frm, to, amt, non, key, val, rs, ws⟩ = _) := (HC.out.trans (if_neg hr) : _ = _)
      have h1 : (amt : Int) ≤ 4611686018427387903 := by omega
      have h2 : (non : Int) ≤ 4611686018427387903 := by omega
      clear hr
      have ck1 : ∀ w1, StrsAt w1 ra rs → Calls Tryd.prog 57 #[.slice ra rs.length rc] w1 fun e w' => e = .returned (.int .i64 (keysL rs : Int)) ∧ w' = w1 := fun w1 h => checkKeys_any ra rc rs w1 h
      have ck2 : ∀ w1, StrsAt w1 wa ws → Calls Tryd.prog 57 #[.slice wa ws.length wc] w1 fun e w' => e = .returned (.int .i64 (keysL ws : Int)) ∧ w' = w1 := fun w1 h => checkKeys_any wa wc ws w1 h
      by_cases hz : keysL rs = 0
      · have H : Hid (checkL ⟨kind, frm, to, amt, non, key, val, rs, ws⟩ = keysL ws) := by show _ = _; rw [HC.out, if_neg (by rw [hz]; simp)]
        rw [hz] at ck1
        clear HC hz
        generalize keysL ws = n2 at ck2 H
        rcases hkk with rfl | rfl
        all_goals
          go_enter Tryd.func45, Tryd.ntmps45
          go_wp2_with fail
          refine cf.mono ?_
          rintro e w1 ⟨rfl, hb1⟩
          have hX1 := hX.below hb1 hX.lt
          have hB1 := hB.trans (hb1.mono hB.size)
          have hA1 := hA0.below hb1
          have hA2 : StrsAt w1 wa ws := hA1.wr
          replace hA1 : StrsAt w1 ra rs := hA1.rd
          have c3 := hX1.cell (i := 3) rfl
          have c4 := hX1.cell (i := 4) rfl
          have c7 := hX1.cell (i := 7) rfl
          have c8 := hX1.cell (i := 8) rfl
          clear hb1 cf hX1 hX hA0 hA
          go_wp2_with fail
          refine (ck1 _ hA1).mono ?_
          rintro e w2 ⟨rfl, rfl⟩
          go_wp2_with fail
          refine (ck2 _ hA2).mono ?_
          rintro e w3 ⟨rfl, rfl⟩
          go_wp2
          go_ret
          exact ⟨by rw [H.out]; rfl, hB1⟩
      · have H : Hid (checkL ⟨kind, frm, to, amt, non, key, val, rs, ws⟩ = keysL rs) := by show _ = _; rw [HC.out, if_pos hz]
        have hz' : ((keysL rs : Int) != 0) = true := by rw [bne_iff_ne]; omega
        clear HC hz
        generalize keysL rs = n2 at ck1 H hz'
        rcases hkk with rfl | rfl
        all_goals
          go_enter Tryd.func45, Tryd.ntmps45
          go_wp2_with fail
          refine cf.mono ?_
          rintro e w1 ⟨rfl, hb1⟩
          have hX1 := hX.below hb1 hX.lt
          have hB1 := hB.trans (hb1.mono hB.size)
          have hA1 := hA0.below hb1
          replace hA1 : StrsAt w1 ra rs := hA1.rd
          have c3 := hX1.cell (i := 3) rfl
          have c4 := hX1.cell (i := 4) rfl
          have c7 := hX1.cell (i := 7) rfl
          clear hb1 cf hX1 hX hA0 hA
          go_wp2_with fail
          refine (ck1 _ hA1).mono ?_
          rintro e w2 ⟨rfl, rfl⟩
          go_wp2
          go_ret
          exact ⟨by rw [H.out]; rfl, hB1⟩
end Go.Proofs.YtcjmeaikdfgapaaDoor

/- A strings.Builder of the call's own at work. -/
namespace Go.Proofs.YtcjmeaikdfgapaaDoor
open Go.RowKit
set_option linter.unusedVariables false

/-- Block bb is a Builder of the call's own that holds l, block xb ahead of it still a row of the cells cs. -/
structure BldSt (W : World) (xb bb : Nat) (T : TypeId) (cs : List Value) (w : World) (l : List UInt8) : Prop where
  box : Arr w xb T cs
  ord : xb < bb
  bld : Lib.IsBuilder 66 5 bb bb (Lib.byteCells l) w
  bel : Below W.heap.size W w
  low : W.heap.size ≤ bb
  has : bb ≤ w.heap.size

theorem BldSt.new {W w : World} {xb : Nat} {T : TypeId} {cs : List Value} (hx : Arr w xb T cs) (hb : Below W.heap.size W w) :
    BldSt W xb w.heap.size T cs (w.alloc (.cells #[.pointer none, .slice none 0 0] 66)) [] :=
  ⟨hx.alloc _, hx.lt, Lib.fresh_isBuilder 66 5 w, hb.alloc hb.size _, hb.size, by rw [alloc_size]; omega⟩

theorem BldSt.call {W w w1 : World} {xb bb : Nat} {T : TypeId} {cs : List Value} {l : List UInt8} (h : BldSt W xb bb T cs w l) (hb : Below w.heap.size w w1) : BldSt W xb bb T cs w1 l :=
  ⟨h.box.below hb h.box.lt, h.ord, builder_keep h.bld hb, h.bel.trans (hb.mono h.bel.size), h.low, Nat.le_trans h.has hb.size⟩

theorem BldSt.write {W w : World} {xb bb : Nat} {T : TypeId} {cs : List Value} {l : List UInt8} (h : BldSt W xb bb T cs w l) (m : List UInt8) (hm : l.length + m.length ≤ 140737488355328) :
    Calls Tryd.prog 30 #[.pointer (some ⟨bb, 0, none⟩), .string ⟨m.toArray⟩] w fun e w' => e = .returned (.tuple #[.int .i64 m.length, .nilIface]) ∧ BldSt W xb bb T cs w' (l ++ m) := by
  refine (write_any bb bb _ ⟨m.toArray⟩ w h.bld (by rw [Lib.byteCells_length, size_mk]; exact hm) h.has).mono ?_
  rintro e w' ⟨rfl, h2, hb⟩
  refine ⟨by rw [size_mk], h.box.below hb h.ord, h.ord, Or.inr ?_, h.bel.trans (hb.mono h.low), h.low, Nat.le_trans h.has hb.size⟩
  rw [Lib.byteCells_append]
  rw [Lib.strCells_eq] at h2
  exact h2

theorem BldSt.read {W w : World} {xb bb : Nat} {T : TypeId} {cs : List Value} {l : List UInt8} (h : BldSt W xb bb T cs w l) (h0 : l ≠ []) :
    Calls Tryd.prog 35 #[.pointer (some ⟨bb, 0, none⟩)] w fun e w' => e = .returned (.string ⟨l.toArray⟩) ∧ Below W.heap.size W w' := by
  refine (string_any bb bb l w h.bld h0).mono ?_
  rintro e w' ⟨rfl, hb⟩
  exact ⟨rfl, h.bel.trans (hb.mono h.low)⟩

end Go.Proofs.YtcjmeaikdfgapaaDoor
