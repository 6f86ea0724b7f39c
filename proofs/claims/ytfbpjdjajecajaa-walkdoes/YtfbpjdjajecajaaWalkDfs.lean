/- How a history is gone through: what is kept on the way, and what there is at the end. -/
import Derived.Test.YtfbpjdjajecajaaWalkLaws
import Derived.Test.YtfbpjdjajecajaaPlaceMath
namespace Go.Proofs.Ytfbpjdjajecajaa
open Go Go.RowKit
set_option linter.unusedVariables false

/-- A vertex' place. -/
def plV (v : VtxD) : PlD := ⟨v.round.toNat, v.author.toNat⟩

theorem plV_ltP {g : GrD} (h : GrOk g) {u v : VtxD} (hu : u ∈ g.L) (hv : v ∈ g.L) : ltP (plV u) (plV v) ↔ ltV u v := by
  have h1 := h.rng u hu
  have h2 := h.rng v hv
  unfold ltP ltV plV
  simp only
  omega

theorem plV_inj {g : GrD} (h : GrOk g) {u v : VtxD} (hu : u ∈ g.L) (hv : v ∈ g.L) (e : plV u = plV v) : u = v := by
  obtain ⟨i, hi, rfl⟩ := List.mem_iff_getElem.1 hu
  obtain ⟨j, hj, rfl⟩ := List.mem_iff_getElem.1 hv
  have hp := List.pairwise_iff_getElem.1 h.rise
  rcases Nat.lt_trichotomy i j with q | q | q
  · have := (plV_ltP h hu hv).2 (hp i j hi hj q)
    rw [e] at this
    exact (ltP_irrefl _ this).elim
  · subst q; rfl
  · have := (plV_ltP h hv hu).2 (hp j i hj hi q)
    rw [e] at this
    exact (ltP_irrefl _ this).elim

/-- What stands at a place. -/
def atPl (L : List VtxD) (p : PlD) : Option VtxD := L.find? (fun v => decide (plV v = p))

theorem atPl_some {L : List VtxD} {p : PlD} {v : VtxD} (h : atPl L p = some v) : v ∈ L ∧ plV v = p := by
  unfold atPl at h
  exact ⟨List.mem_of_find?_eq_some h, by simpa using List.find?_some h⟩

theorem atPl_none {L : List VtxD} {p : PlD} : atPl L p = none ↔ ∀ v ∈ L, plV v ≠ p := by
  unfold atPl
  rw [List.find?_eq_none]
  simp

theorem atPl_of {g : GrD} (h : GrOk g) {v : VtxD} (hv : v ∈ g.L) : atPl g.L (plV v) = some v := by
  cases hc : atPl g.L (plV v) with
  | none => exact (atPl_none.1 hc v hv rfl).elim
  | some u =>
    obtain ⟨h1, h2⟩ := atPl_some hc
    rw [plV_inj h h1 hv h2]

/-- On the way: pr were looked at, F are the places that were found, M is missing, A is ahead. -/
structure DfsI (g : GrD) (id : ByteArray) (pr : List ByteArray) (F : List PlD) (M A : List ByteArray) : Prop where
  start : id ∈ pr ∨ id ∈ A
  closed : ∀ x ∈ pr, ∀ p ∈ upsV g x, p ∈ pr ∨ p ∈ A
  reA : ∀ x ∈ A, Reach g id x
  reM : ∀ x ∈ M, Reach g id x ∧ getV g.L x = none
  prN : ∀ x ∈ pr, getV g.L x = none → x ∈ M
  prS : ∀ x ∈ pr, ∀ v, getV g.L x = some v → v.done = true ∨ plV v ∈ F
  inF : ∀ p ∈ F, ∃ v ∈ g.L, plV v = p ∧ v.done = false ∧ Reach g id v.id ∧ v.id ∈ pr
  nodF : F.Nodup
  few : A.length + pr.length ≤ 1 + 7 * F.length
  fewM : M.length ≤ pr.length

theorem DfsI.zero (g : GrD) (id : ByteArray) : DfsI g id [] [] [] [id] :=
  ⟨Or.inr (List.mem_cons_self ..), (fun _ h => by cases h), (fun x h => by rw [List.mem_singleton.1 h]; exact Reach.me), (fun _ h => by cases h), (fun _ h => by cases h), (fun _ h => by cases h), (fun _ h => by cases h), List.Pairwise.nil, by simp, by simp⟩

theorem nodup_lenW {α : Type} [DecidableEq α] : ∀ {l m : List α}, l.Nodup → l ⊆ m → l.length ≤ m.length
  | [], m, _, _ => Nat.zero_le _
  | x :: l, m, hn, hs => by
    obtain ⟨h1, h2⟩ := List.nodup_cons.1 hn
    have hx : x ∈ m := hs (List.mem_cons_self ..)
    have h3 : l ⊆ m.erase x := fun y hy => (List.mem_erase_of_ne (fun e => h1 (by rw [← e]; exact hy))).2 (hs (List.mem_cons_of_mem _ hy))
    have h4 := nodup_lenW h2 h3
    rw [List.length_erase_of_mem hx] at h4
    have := List.length_pos_of_mem hx
    simp only [List.length_cons]
    omega

theorem DfsI.lenF {g : GrD} {id : ByteArray} {pr : List ByteArray} {F : List PlD} {M A : List ByteArray} (h : DfsI g id pr F M A) : F.length ≤ g.L.length := by
  have h1 : F ⊆ g.L.map plV := fun p hp => by
    obtain ⟨v, hv, e, _⟩ := h.inF p hp
    exact List.mem_map.2 ⟨v, hv, e⟩
  have := nodup_lenW h.nodF h1
  rwa [List.length_map] at this

theorem upsV_len {g : GrD} (h : GrOk g) (x : ByteArray) : (upsV g x).length ≤ 7 := by
  unfold upsV
  cases hv : getV g.L x with
  | none => simp
  | some v =>
    simp only
    split
    · exact h.ps v (getV_some hv).1
    · simp

theorem DfsI.miss {g : GrD} {id : ByteArray} {pr : List ByteArray} {F : List PlD} {M A : List ByteArray} {x : ByteArray} (h : DfsI g id pr F M (A ++ [x])) (hx : getV g.L x = none) : DfsI g id (x :: pr) F (M ++ [x]) A := by
  have hr := h.reA x (by simp)
  have hu : upsV g x = [] := by unfold upsV; rw [hx]
  have mv : ∀ y, y ∈ A ++ [x] → y ∈ x :: pr ∨ y ∈ A := fun y hy => by
    rcases List.mem_append.1 hy with e | e
    · exact Or.inr e
    · exact Or.inl (by rw [List.mem_singleton.1 e]; exact List.mem_cons_self ..)
  have mp : ∀ y, y ∈ pr ∨ y ∈ A ++ [x] → y ∈ x :: pr ∨ y ∈ A := fun y hy => hy.elim (fun e => Or.inl (List.mem_cons_of_mem _ e)) (mv y)
  refine ⟨mp _ h.start, fun y hy p hp => ?_, fun y hy => h.reA y (List.mem_append_left _ hy), fun y hy => ?_, fun y hy hn => ?_, fun y hy v hv => ?_, fun p hp => ?_, h.nodF, ?_, ?_⟩
  · rcases List.mem_cons.1 hy with e | e
    · rw [e, hu] at hp; cases hp
    · exact mp _ (h.closed y e p hp)
  · rcases List.mem_append.1 hy with e | e
    · exact h.reM y e
    · rw [List.mem_singleton.1 e]; exact ⟨hr, hx⟩
  · rcases List.mem_cons.1 hy with e | e
    · rw [e]; simp
    · exact List.mem_append_left _ (h.prN y e hn)
  · rcases List.mem_cons.1 hy with e | e
    · rw [e, hx] at hv; cases hv
    · exact h.prS y e v hv
  · obtain ⟨v, h1, h2, h3, h4, h5⟩ := h.inF p hp
    exact ⟨v, h1, h2, h3, h4, List.mem_cons_of_mem _ h5⟩
  · have := h.few; simp only [List.length_append, List.length_cons, List.length_nil] at this ⊢; omega
  · have := h.fewM; simp only [List.length_append, List.length_cons, List.length_nil]; omega

theorem DfsI.again {g : GrD} {id : ByteArray} {pr : List ByteArray} {F : List PlD} {M A : List ByteArray} {x : ByteArray} (hg : GrOk g) (h : DfsI g id pr F M (A ++ [x])) {v : VtxD} (hx : getV g.L x = some v) (hd : plV v ∈ F ∨ v.done = true) : DfsI g id (x :: pr) F M A := by
  have mv : ∀ y, y ∈ A ++ [x] → y ∈ x :: pr ∨ y ∈ A := fun y hy => by
    rcases List.mem_append.1 hy with e | e
    · exact Or.inr e
    · exact Or.inl (by rw [List.mem_singleton.1 e]; exact List.mem_cons_self ..)
  have mp : ∀ y, y ∈ pr ∨ y ∈ A ++ [x] → y ∈ x :: pr ∨ y ∈ A := fun y hy => hy.elim (fun e => Or.inl (List.mem_cons_of_mem _ e)) (mv y)
  refine ⟨mp _ h.start, fun y hy p hp => ?_, fun y hy => h.reA y (List.mem_append_left _ hy), h.reM, fun y hy hn => ?_, fun y hy u hu => ?_, fun p hp => ?_, h.nodF, ?_, ?_⟩
  · rcases List.mem_cons.1 hy with e | e
    · rw [e] at hp
      rcases hd with hd | hd
      · obtain ⟨u, h1, h2, h3, h4, h5⟩ := h.inF _ hd
        have : u = v := plV_inj hg h1 (getV_some hx).1 h2
        rw [this, (getV_some hx).2] at h5
        exact mp _ (h.closed x h5 p hp)
      · unfold upsV at hp
        rw [hx] at hp
        simp only at hp
        rw [if_neg (by rw [hd]; simp)] at hp
        cases hp
    · exact mp _ (h.closed y e p hp)
  · rcases List.mem_cons.1 hy with e | e
    · rw [e, hx] at hn; cases hn
    · exact h.prN y e hn
  · rcases List.mem_cons.1 hy with e | e
    · rw [e, hx] at hu
      cases hu
      exact hd.symm
    · exact h.prS y e u hu
  · obtain ⟨u, h1, h2, h3, h4, h5⟩ := h.inF p hp
    exact ⟨u, h1, h2, h3, h4, List.mem_cons_of_mem _ h5⟩
  · have := h.few; simp only [List.length_append, List.length_cons, List.length_nil] at this ⊢; omega
  · have := h.fewM; simp only [List.length_cons]; omega

theorem DfsI.new {g : GrD} {id : ByteArray} {pr : List ByteArray} {F : List PlD} {M A : List ByteArray} {x : ByteArray} (hg : GrOk g) (h : DfsI g id pr F M (A ++ [x])) {v : VtxD} (hx : getV g.L x = some v) (hf : plV v ∉ F) (hd : v.done = false) : DfsI g id (x :: pr) (F ++ [plV v]) M (A ++ (if g.low < v.round then v.parents else [])) := by
  have hr := h.reA x (by simp)
  have hu : upsV g x = if g.low < v.round then v.parents else [] := by
    unfold upsV
    rw [hx]
    simp only [hd, and_true]
  rw [← hu]
  have mv : ∀ y, y ∈ A ++ [x] → y ∈ x :: pr ∨ y ∈ A ++ upsV g x := fun y hy => by
    rcases List.mem_append.1 hy with e | e
    · exact Or.inr (List.mem_append_left _ e)
    · exact Or.inl (by rw [List.mem_singleton.1 e]; exact List.mem_cons_self ..)
  have mp : ∀ y, y ∈ pr ∨ y ∈ A ++ [x] → y ∈ x :: pr ∨ y ∈ A ++ upsV g x := fun y hy => hy.elim (fun e => Or.inl (List.mem_cons_of_mem _ e)) (mv y)
  refine ⟨mp _ h.start, fun y hy p hp => ?_, fun y hy => ?_, h.reM, fun y hy hn => ?_, fun y hy u hv => ?_, fun p hp => ?_, ?_, ?_, ?_⟩
  · rcases List.mem_cons.1 hy with e | e
    · rw [e] at hp; exact Or.inr (List.mem_append_right _ hp)
    · exact mp _ (h.closed y e p hp)
  · rcases List.mem_append.1 hy with e | e
    · exact h.reA y (List.mem_append_left _ e)
    · exact upsV_reach hr e
  · rcases List.mem_cons.1 hy with e | e
    · rw [e, hx] at hn; cases hn
    · exact h.prN y e hn
  · rcases List.mem_cons.1 hy with e | e
    · rw [e, hx] at hv
      cases hv
      exact Or.inr (by simp)
    · exact (h.prS y e u hv).imp (fun q => q) (fun q => List.mem_append_left _ q)
  · rcases List.mem_append.1 hp with e | e
    · obtain ⟨u, h1, h2, h3, h4, h5⟩ := h.inF p e
      exact ⟨u, h1, h2, h3, h4, List.mem_cons_of_mem _ h5⟩
    · rw [List.mem_singleton.1 e]
      obtain ⟨k1, k2⟩ := getV_some hx
      exact ⟨v, k1, rfl, hd, by rw [k2]; exact hr, by rw [k2]; exact List.mem_cons_self ..⟩
  · exact List.nodup_append.2 ⟨h.nodF, List.pairwise_singleton _ _, fun a ha b hb e => by rw [List.mem_singleton.1 hb] at e; rw [e] at ha; exact hf ha⟩
  · have := h.few
    have := upsV_len hg x
    simp only [List.length_append, List.length_cons, List.length_nil] at *
    omega
  · have := h.fewM; simp only [List.length_cons]; omega

theorem DfsI.reach {g : GrD} {id : ByteArray} {pr : List ByteArray} {F : List PlD} {M : List ByteArray} (h : DfsI g id pr F M []) {x : ByteArray} (hr : Reach g id x) : x ∈ pr :=
  reach_of_closed (h.start.elim (fun e => e) (fun e => by cases e)) (fun x hx p hp => (h.closed x hx p hp).elim (fun e => e) (fun e => by cases e)) hr

theorem DfsI.missing {g : GrD} {id : ByteArray} {pr : List ByteArray} {F : List PlD} {M : List ByteArray} (h : DfsI g id pr F M []) (x : ByteArray) : x ∈ M ↔ Reach g id x ∧ getV g.L x = none :=
  ⟨h.reM x, fun ⟨hr, hn⟩ => h.prN x (h.reach hr) hn⟩

theorem DfsI.found {g : GrD} {id : ByteArray} {pr : List ByteArray} {F : List PlD} {M : List ByteArray} (hg : GrOk g) (h : DfsI g id pr F M []) (p : PlD) : p ∈ F ↔ ∃ v ∈ g.L, plV v = p ∧ v.done = false ∧ Reach g id v.id := by
  constructor
  · intro hp
    obtain ⟨v, h1, h2, h3, h4, _⟩ := h.inF p hp
    exact ⟨v, h1, h2, h3, h4⟩
  · rintro ⟨v, h1, rfl, h3, h4⟩
    rcases h.prS v.id (h.reach h4) v (hg.get h1) with e | e
    · rw [h3] at e; cases e
    · exact e

open Classical in
/-- The vertices that are emitted. -/
noncomputable def emitL (g : GrD) (id : ByteArray) : List VtxD := g.L.filter (fun v => decide (Reach g id v.id) && !v.done)

open Classical in
theorem emitL_mem {g : GrD} {id : ByteArray} {v : VtxD} : v ∈ emitL g id ↔ v ∈ g.L ∧ Reach g id v.id ∧ v.done = false := by
  unfold emitL
  rw [List.mem_filter]
  simp

theorem emitV_eq (g : GrD) (id : ByteArray) : emitV g id = (emitL g id).map (·.id) := rfl

/-- What was found, in order, is what is emitted. -/
theorem DfsI.sorted {g : GrD} {id : ByteArray} {pr : List ByteArray} {F S : List PlD} {M : List ByteArray} (hg : GrOk g) (h : DfsI g id pr F M []) (hS : RiseP S) (hm : ∀ p, p ∈ S ↔ p ∈ F) : S = (emitL g id).map plV := by
  refine riseP_ext hS ?_ (fun p => ?_)
  · have h1 : RiseV (emitL g id) := hg.rise.sublist List.filter_sublist
    refine List.pairwise_map.2 (List.Pairwise.imp_of_mem (fun {u v} hu hv huv => (plV_ltP hg (emitL_mem.1 hu).1 (emitL_mem.1 hv).1).2 huv) h1)
  · rw [hm, h.found hg, List.mem_map]
    constructor
    · rintro ⟨v, h1, h2, h3, h4⟩
      exact ⟨v, emitL_mem.2 ⟨h1, h4, h3⟩, h2⟩
    · rintro ⟨v, h1, h2⟩
      obtain ⟨k1, k2, k3⟩ := emitL_mem.1 h1
      exact ⟨v, k1, h2, k3, k2⟩
end Go.Proofs.Ytfbpjdjajecajaa
