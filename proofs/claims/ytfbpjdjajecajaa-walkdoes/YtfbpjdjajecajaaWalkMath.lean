/- The pure side of layer 16: vertices by their places; what is gone through, what is missing, what is emitted. -/
import Derived.Test.YtfbpjdjajecajaaTextMath
namespace Go.Proofs.Ytfbpjdjajecajaa
open Go Go.RowKit
set_option linter.unusedVariables false

/-- A vertex that is in. -/
structure VtxD where
  id : ByteArray
  round : Int
  author : Int
  parents : List ByteArray
  done : Bool

/-- Vertices by their places, and the low. -/
structure GrD where
  L : List VtxD
  low : Int

def gr0 : GrD := ⟨[], 0⟩

def getV (L : List VtxD) (id : ByteArray) : Option VtxD := L.find? (fun x => x.id.toList == id.toList)

theorem getV_step {l : List VtxD} {id : ByteArray} {i : Nat} {x : VtxD} (hx : l[i]? = some x) : getV (l.drop i) id = if x.id.toList == id.toList then some x else getV (l.drop (i + 1)) id := by
  have hi := (List.getElem?_eq_some_iff.1 hx).1
  have he := (List.getElem?_eq_some_iff.1 hx).2
  unfold getV
  rw [List.drop_eq_getElem_cons hi, List.find?_cons, he]
  cases (x.id.toList == id.toList) <;> rfl

theorem getV_some {L : List VtxD} {id : ByteArray} {v : VtxD} (h : getV L id = some v) : v ∈ L ∧ v.id = id := by
  unfold getV at h
  have h1 := List.find?_some h
  exact ⟨List.mem_of_find?_eq_some h, bytes_inj (by simpa using h1)⟩

theorem getV_none {L : List VtxD} {id : ByteArray} : getV L id = none ↔ ∀ v ∈ L, v.id ≠ id := by
  unfold getV
  rw [List.find?_eq_none]
  constructor
  · intro h v hv e
    exact h v hv (by rw [e]; simp)
  · intro h v hv e
    exact h v hv (bytes_inj (by simpa using e))

/-- A place ahead of another one. -/
def ltV (u v : VtxD) : Prop := u.round < v.round ∨ u.round = v.round ∧ u.author < v.author

theorem ltV_trans {u v x : VtxD} (h1 : ltV u v) (h2 : ltV v x) : ltV u x := by unfold ltV at *; omega
theorem ltV_asymm {u v : VtxD} (h : ltV u v) : ¬ ltV v u := by unfold ltV at *; omega

abbrev RiseV (l : List VtxD) : Prop := l.Pairwise ltV

/-- Where a place goes. -/
def aheadV (r a : Int) (v : VtxD) : Bool := decide (v.round < r ∨ v.round = r ∧ v.author < a)
def placeV (r a : Int) (v : VtxD) : Bool := decide (v.round = r ∧ v.author = a)
def atV (L : List VtxD) (r a : Int) : Nat := (L.takeWhile (aheadV r a)).length

theorem atV_le (L : List VtxD) (r a : Int) : atV L r a ≤ L.length := by
  exact (List.takeWhile_sublist (aheadV r a)).length_le

theorem atV_below : ∀ {L : List VtxD} {r a : Int} {i : Nat} {v : VtxD}, i < atV L r a → L[i]? = some v → aheadV r a v = true
  | [], _, _, _, _, _, h => by cases h
  | x :: L, r, a, i, v, hi, hv => by
    unfold atV at hi
    rw [List.takeWhile_cons] at hi
    cases hx : aheadV r a x with
    | false => rw [hx] at hi; simp at hi
    | true =>
      rw [hx] at hi
      simp only [if_true, List.length_cons] at hi
      cases i with
      | zero => simp at hv; rw [← hv]; exact hx
      | succ i => exact atV_below (L := L) (i := i) (by unfold atV; omega) (by simpa using hv)

theorem atV_behind : ∀ {L : List VtxD} {r a : Int}, RiseV L → ∀ {i : Nat} {v : VtxD}, atV L r a ≤ i → L[i]? = some v → aheadV r a v = false
  | [], _, _, _, _, _, _, h => by cases h
  | x :: L, r, a, hL, i, v, hi, hv => by
    obtain ⟨h1, h2⟩ := List.pairwise_cons.1 hL
    unfold atV at hi
    rw [List.takeWhile_cons] at hi
    cases hx : aheadV r a x with
    | false =>
      cases i with
      | zero => simp at hv; rw [← hv]; exact hx
      | succ i =>
        have hm : v ∈ L := List.mem_of_getElem? (by simpa using hv)
        have h3 := h1 v hm
        unfold aheadV at hx ⊢
        unfold ltV at h3
        have hx := of_decide_eq_false hx
        exact decide_eq_false (by omega)
    | true =>
      rw [hx] at hi
      simp only [if_true, List.length_cons] at hi
      cases i with
      | zero => omega
      | succ i => exact atV_behind h2 (i := i) (by unfold atV; omega) (by simpa using hv)

/-- What Add answers. -/
def addEV (g : GrD) (id : ByteArray) (r a : Int) (n : Nat) : Nat :=
  if r < 0 ∨ 1125899906842624 < r ∨ a < 0 ∨ 6 < a then 2
  else if 7 < n then 8
  else if (getV g.L id).isSome then 13
  else if r < g.low then 11
  else if g.L.any (placeV r a) then 15
  else if 256 ≤ g.L.length then 4
  else 0

def insV (L : List VtxD) (v : VtxD) : List VtxD := L.take (atV L v.round v.author) ++ v :: L.drop (atV L v.round v.author)

def addGV (g : GrD) (id : ByteArray) (r a : Int) (ps : List ByteArray) : GrD :=
  if addEV g id r a ps.length = 0 then { g with L := insV g.L ⟨id, r, a, ps, false⟩ } else g

theorem insV_length (L : List VtxD) (v : VtxD) : (insV L v).length = L.length + 1 := by
  have := atV_le L v.round v.author
  unfold insV
  rw [List.length_append, List.length_cons, List.length_take, List.length_drop]
  omega

theorem insV_mem (L : List VtxD) (v u : VtxD) : u ∈ insV L v ↔ u = v ∨ u ∈ L := by
  unfold insV
  rw [List.mem_append, List.mem_cons]
  conv => rhs; rw [← List.take_append_drop (atV L v.round v.author) L, List.mem_append]
  constructor
  · rintro (h | h | h) <;> simp [h]
  · rintro (h | h | h) <;> simp [h]

theorem insV_rise {L : List VtxD} {v : VtxD} (h : RiseV L) (hp : L.any (placeV v.round v.author) = false) : RiseV (insV L v) := by
  have hp : ∀ u ∈ L, placeV v.round v.author u = false := fun u hu => by
    cases hq : placeV v.round v.author u with
    | false => rfl
    | true => rw [List.any_eq_true.2 ⟨u, hu, hq⟩] at hp; cases hp
  have hbe : ∀ u ∈ L.take (atV L v.round v.author), ltV u v := fun u hu => by
    obtain ⟨i, hi, hg⟩ := List.mem_iff_getElem.1 hu
    rw [List.length_take] at hi
    have hx : L[i]? = some u := by rw [List.getElem?_eq_getElem (by omega), ← hg, List.getElem_take]
    have h0 : aheadV v.round v.author u = true := atV_below (by omega) hx
    have h1 := of_decide_eq_true h0
    exact h1
  have haf : ∀ u ∈ L.drop (atV L v.round v.author), ltV v u := fun u hu => by
    obtain ⟨i, hi, hg⟩ := List.mem_iff_getElem.1 hu
    rw [List.length_drop] at hi
    have hx : L[atV L v.round v.author + i]? = some u := by rw [List.getElem?_eq_getElem (by omega), ← hg, List.getElem_drop]
    have h1 := of_decide_eq_false (atV_behind h (Nat.le_add_right _ i) hx)
    have h2 := of_decide_eq_false (hp u (List.mem_of_mem_drop hu))
    unfold ltV
    omega
  unfold insV
  refine List.pairwise_append.2 ⟨h.sublist (List.take_sublist _ _), List.pairwise_cons.2 ⟨haf, h.sublist (List.drop_sublist _ _)⟩, fun u hu x hx => ?_⟩
  rcases List.mem_cons.1 hx with e | e
  · rw [e]; exact hbe u hu
  · exact ltV_trans (hbe u hu) (haf x e)

/-- What a history has. -/
inductive Reach (g : GrD) (id : ByteArray) : ByteArray → Prop
  | me : Reach g id id
  | up {v : VtxD} {p : ByteArray} : Reach g id v.id → getV g.L v.id = some v → g.low < v.round → v.done = false → p ∈ v.parents → Reach g id p

/-- What a vertex leads to. -/
def upsV (g : GrD) (id : ByteArray) : List ByteArray :=
  match getV g.L id with
  | some v => if g.low < v.round ∧ v.done = false then v.parents else []
  | none => []

theorem upsV_reach {g : GrD} {id x p : ByteArray} (h : Reach g id x) (hp : p ∈ upsV g x) : Reach g id p := by
  unfold upsV at hp
  cases hv : getV g.L x with
  | none => rw [hv] at hp; cases hp
  | some v =>
    rw [hv] at hp
    simp only at hp
    split at hp
    · rename_i hc
      obtain ⟨_, rfl⟩ := getV_some hv
      exact Reach.up h hv hc.1 hc.2 hp
    · cases hp

/-- What has id and, with each, all that it leads to, has the whole history. -/
theorem reach_of_closed {g : GrD} {id : ByteArray} {T : List ByteArray} (h0 : id ∈ T) (hc : ∀ x ∈ T, ∀ p ∈ upsV g x, p ∈ T) {x : ByteArray} (h : Reach g id x) : x ∈ T := by
  induction h with
  | me => exact h0
  | up hr hv hl hd hp ih =>
    refine hc _ ih _ ?_
    unfold upsV
    rw [hv]
    simp only
    rw [if_pos ⟨hl, hd⟩]
    exact hp

/-- The missing ones, rising. -/
def MissOf (g : GrD) (id : ByteArray) (m : List ByteArray) : Prop :=
  m.Pairwise (fun a b => a.toList < b.toList) ∧ ∀ x, x ∈ m ↔ Reach g id x ∧ getV g.L x = none

open Classical in
/-- Those that are emitted. -/
noncomputable def emitV (g : GrD) (id : ByteArray) : List ByteArray := (g.L.filter (fun v => decide (Reach g id v.id) && !v.done)).map (·.id)

open Classical in
/-- They are emitted then. -/
noncomputable def doneV (g : GrD) (id : ByteArray) : GrD := { g with L := g.L.map (fun v => if Reach g id v.id then { v with done := true } else v) }

/-- Those that are let go. -/
def keepVt (L : List VtxD) (round : Int) : List VtxD := L.filter (fun v => decide (round ≤ v.round))
def lowNV (g : GrD) (round : Int) : Nat := if round ≤ g.low then 0 else g.L.length - (keepVt g.L round).length
def lowGV (g : GrD) (round : Int) : GrD := if round ≤ g.low then g else ⟨keepVt g.L round, round⟩

def emittedV (g : GrD) (id : ByteArray) : Bool := match getV g.L id with | some v => v.done | none => false

/-- How vertices lie. -/
structure GrOk (g : GrD) : Prop where
  rise : RiseV g.L
  ids : g.L.Pairwise (fun u v => u.id ≠ v.id)
  ps : ∀ v ∈ g.L, v.parents.length ≤ 7
  n : g.L.length ≤ 256
  rng : ∀ v ∈ g.L, 0 ≤ v.round ∧ v.round ≤ 1125899906842624 ∧ 0 ≤ v.author ∧ v.author ≤ 6

theorem GrOk.zero : GrOk gr0 := ⟨List.Pairwise.nil, List.Pairwise.nil, (fun _ h => by cases h), Nat.zero_le _, (fun _ h => by cases h)⟩

theorem GrOk.get {g : GrD} (h : GrOk g) {v : VtxD} (hv : v ∈ g.L) : getV g.L v.id = some v := by
  cases hg : getV g.L v.id with
  | none => exact (getV_none.1 hg v hv rfl).elim
  | some u =>
    obtain ⟨hu, he⟩ := getV_some hg
    congr 1
    obtain ⟨i, hi, rfl⟩ := List.mem_iff_getElem.1 hv
    obtain ⟨j, hj, rfl⟩ := List.mem_iff_getElem.1 hu
    have hp := List.pairwise_iff_getElem.1 h.ids
    rcases Nat.lt_trichotomy i j with e | e | e
    · exact (hp i j hi hj e he.symm).elim
    · subst e; rfl
    · exact (hp j i hj hi e he).elim

theorem insV_ids {L : List VtxD} {v : VtxD} (h : L.Pairwise (fun u v => u.id ≠ v.id)) (hn : ∀ u ∈ L, u.id ≠ v.id) : (insV L v).Pairwise (fun u v => u.id ≠ v.id) := by
  unfold insV
  refine List.pairwise_append.2 ⟨h.sublist (List.take_sublist _ _), List.pairwise_cons.2 ⟨fun u hu => (hn u (List.mem_of_mem_drop hu)).symm, h.sublist (List.drop_sublist _ _)⟩, fun u hu x hx => ?_⟩
  rcases List.mem_cons.1 hx with e | e
  · rw [e]; exact hn u (List.mem_of_mem_take hu)
  · have := List.pairwise_append.1 (by rw [List.take_append_drop]; exact h : (L.take (atV L v.round v.author) ++ L.drop (atV L v.round v.author)).Pairwise (fun u v => u.id ≠ v.id))
    exact this.2.2 u hu x e

theorem GrOk.add {g : GrD} (h : GrOk g) (id : ByteArray) (r a : Int) (ps : List ByteArray) : GrOk (addGV g id r a ps) := by
  unfold addGV
  split
  · rename_i he
    unfold addEV at he
    split at he
    · omega
    · split at he
      · omega
      · split at he
        · omega
        · split at he
          · omega
          · split at he
            · omega
            · split at he
              · omega
              · rename_i h1 h2 h3 h4 h5 h6
                have h3 : getV g.L id = none := by
                  cases hq : getV g.L id with
                  | none => rfl
                  | some u => rw [hq] at h3; exact (h3 rfl).elim
                refine ⟨insV_rise h.rise (by simpa using h5), insV_ids h.ids (getV_none.1 h3), fun v hv => ?_, by rw [insV_length]; omega, fun v hv => ?_⟩
                · rcases (insV_mem _ _ _).1 hv with e | e
                  · rw [e]; show ps.length ≤ 7; omega
                  · exact h.ps v e
                · rcases (insV_mem _ _ _).1 hv with e | e
                  · rw [e]; show 0 ≤ r ∧ r ≤ _ ∧ 0 ≤ a ∧ a ≤ 6; omega
                  · exact h.rng v e
  · exact h

theorem GrOk.low {g : GrD} (h : GrOk g) (round : Int) : GrOk (lowGV g round) := by
  unfold lowGV
  split
  · exact h
  · have hs : (keepVt g.L round).Sublist g.L := List.filter_sublist
    exact ⟨h.rise.sublist hs, h.ids.sublist hs, fun v hv => h.ps v (hs.subset hv), Nat.le_trans hs.length_le h.n, fun v hv => h.rng v (hs.subset hv)⟩

theorem GrOk.done {g : GrD} (h : GrOk g) (id : ByteArray) : GrOk (doneV g id) := by
  have hm : ∀ v, v ∈ (doneV g id).L → ∃ u ∈ g.L, v.id = u.id ∧ v.round = u.round ∧ v.author = u.author ∧ v.parents = u.parents := fun v hv => by
    unfold doneV at hv
    obtain ⟨u, hu, rfl⟩ := List.mem_map.1 hv
    refine ⟨u, hu, ?_⟩
    split <;> exact ⟨rfl, rfl, rfl, rfl⟩
  have hf : ∀ u : VtxD, ∀ P : Prop, ∀ d : Decidable P, (if P then { u with done := true } else u).id = u.id ∧ (if P then { u with done := true } else u).round = u.round ∧ (if P then { u with done := true } else u).author = u.author := fun u P d => by
    split <;> exact ⟨rfl, rfl, rfl⟩
  refine ⟨?_, ?_, fun v hv => ?_, ?_, fun v hv => ?_⟩
  · unfold doneV
    refine List.pairwise_map.2 (h.rise.imp (fun {u v} huv => ?_))
    unfold ltV at huv ⊢
    rw [(hf u _ _).2.1, (hf u _ _).2.2, (hf v _ _).2.1, (hf v _ _).2.2]
    exact huv
  · unfold doneV
    refine List.pairwise_map.2 (h.ids.imp (fun {u v} huv => ?_))
    rw [(hf u _ _).1, (hf v _ _).1]
    exact huv
  · obtain ⟨u, hu, e1, e2, e3, e4⟩ := hm v hv
    rw [e4]; exact h.ps u hu
  · unfold doneV
    rw [List.length_map]; exact h.n
  · obtain ⟨u, hu, e1, e2, e3, e4⟩ := hm v hv
    rw [e2, e3]; exact h.rng u hu
end Go.Proofs.Ytfbpjdjajecajaa
