/- What follows of layer 16's acts: one order; nothing twice. -/
import Derived.Test.YtfbpjdjajecajaaWalkMath
namespace Go.Proofs.Ytfbpjdjajecajaa
open Go Go.RowKit
set_option linter.unusedVariables false

/-- Two that rise and have the same members are one. -/
theorem riseV_ext : ∀ {l m : List VtxD}, RiseV l → RiseV m → (∀ p, p ∈ l ↔ p ∈ m) → l = m
  | [], [], _, _, _ => rfl
  | [], y :: m, _, _, h => by have := (h y).2 (List.mem_cons_self ..); cases this
  | x :: l, [], _, _, h => by have := (h x).1 (List.mem_cons_self ..); cases this
  | x :: l, y :: m, hl, hm, h => by
    obtain ⟨hl1, hl2⟩ := List.pairwise_cons.1 hl
    obtain ⟨hm1, hm2⟩ := List.pairwise_cons.1 hm
    have hir : ∀ v, ¬ ltV v v := fun v h => ltV_asymm h h
    have hxy : x = y := by
      rcases List.mem_cons.1 ((h x).1 (List.mem_cons_self ..)) with e | e
      · exact e
      · rcases List.mem_cons.1 ((h y).2 (List.mem_cons_self ..)) with e2 | e2
        · exact e2.symm
        · exact (ltV_asymm (hm1 x e) (hl1 y e2)).elim
    subst hxy
    congr 1
    refine riseV_ext hl2 hm2 (fun p => ⟨fun hp => ?_, fun hp => ?_⟩)
    · rcases List.mem_cons.1 ((h p).1 (List.mem_cons_of_mem _ hp)) with e | e
      · subst e; exact (hir _ (hl1 _ hp)).elim
      · exact e
    · rcases List.mem_cons.1 ((h p).2 (List.mem_cons_of_mem _ hp)) with e | e
      · subst e; exact (hir _ (hm1 _ hp)).elim
      · exact e

theorem addEV_ok {g : GrD} {id : ByteArray} {r a : Int} {n : Nat} : addEV g id r a n = 0 ↔ (0 ≤ r ∧ r ≤ 1125899906842624 ∧ 0 ≤ a ∧ a ≤ 6) ∧ n ≤ 7 ∧ (∀ v ∈ g.L, v.id ≠ id) ∧ g.low ≤ r ∧ (∀ v ∈ g.L, ¬ (v.round = r ∧ v.author = a)) ∧ g.L.length < 256 := by
  have hid : (getV g.L id).isSome = true ↔ ¬ ∀ v ∈ g.L, v.id ≠ id := by
    rw [← getV_none]
    cases getV g.L id <;> simp
  have hpl : g.L.any (placeV r a) = true ↔ ¬ ∀ v ∈ g.L, ¬ (v.round = r ∧ v.author = a) := by
    rw [List.any_eq_true]
    constructor
    · rintro ⟨v, hv, hp⟩ h
      exact h v hv (of_decide_eq_true hp)
    · intro h
      refine Classical.byContradiction (fun hn => h (fun v hv hp => hn ⟨v, hv, decide_eq_true hp⟩))
  unfold addEV
  constructor
  · intro h
    split at h
    · omega
    · split at h
      · omega
      · split at h
        · omega
        · split at h
          · omega
          · split at h
            · omega
            · split at h
              · omega
              · rename_i h1 h2 h3 h4 h5 h6
                refine ⟨by omega, by omega, Classical.byContradiction (fun hn => h3 (hid.2 hn)), by omega, Classical.byContradiction (fun hn => h5 (hpl.2 hn)), by omega⟩
  · rintro ⟨h1, h2, h3, h4, h5, h6⟩
    rw [if_neg (by omega), if_neg (by omega), if_neg (fun h => (hid.1 h) h3), if_neg (by omega), if_neg (fun h => (hpl.1 h) h5), if_neg (by omega)]

/-- A graph of just these vertices, none of them emitted, none let go. -/
structure InV (l : List VtxD) (g : GrD) : Prop where
  ok : GrOk g
  low : g.low = 0
  mem : ∀ v, v ∈ g.L ↔ v ∈ l
  len : g.L.length = l.length
  new : ∀ v ∈ l, v.done = false
  nod : l.Nodup

theorem InV.zero : InV [] gr0 := ⟨GrOk.zero, rfl, (fun _ => Iff.rfl), rfl, (fun _ h => by cases h), List.Pairwise.nil⟩

theorem InV.add {l : List VtxD} {g : GrD} (h : InV l g) {v : VtxD} (hd : v.done = false) (he : addEV g v.id v.round v.author v.parents.length = 0) : InV (l ++ [v]) (addGV g v.id v.round v.author v.parents) := by
  obtain ⟨vi, vr, va, vp, vd⟩ := v
  have hd : vd = false := hd
  subst hd
  have h1 := h.ok.add vi vr va vp
  have e : addGV g vi vr va vp = { g with L := insV g.L ⟨vi, vr, va, vp, false⟩ } := by unfold addGV; rw [if_pos he]
  rw [e] at h1 ⊢
  refine ⟨h1, h.low, fun v => ?_, ?_, fun v hv => ?_, ?_⟩
  · show v ∈ insV g.L _ ↔ _
    rw [insV_mem, h.mem, List.mem_append, List.mem_singleton]
    exact Or.comm
  · show (insV g.L _).length = _
    rw [insV_length, h.len, List.length_append]; rfl
  · rcases List.mem_append.1 hv with e | e
    · exact h.new v e
    · rw [List.mem_singleton.1 e]
  · refine List.nodup_append.2 ⟨h.nod, List.pairwise_singleton _ _, fun a ha b hb e => ?_⟩
    rw [List.mem_singleton.1 hb] at e
    exact (addEV_ok.1 he).2.2.1 a ((h.mem a).2 ha) (by rw [e])

theorem InV.nodup {l : List VtxD} {g : GrD} (h : InV l g) : l.Perm g.L := by
  have hg : g.L.Nodup := h.ok.rise.imp (fun {a b} hab e => by rw [e] at hab; exact ltV_asymm hab hab)
  exact (List.perm_ext_iff_of_nodup h.nod hg).2 (fun v => (h.mem v).symm)

/-- The same vertices, in another order, are taken too. -/
theorem InV.takes {l m : List VtxD} {g b : GrD} (h : InV l g) (hm : m.Perm l) {i : Nat} {v : VtxD} (hb : InV (m.take i) b) (hv : m[i]? = some v) (hl : l.length ≤ 256) : addEV b v.id v.round v.author v.parents.length = 0 := by
  have hp : m.Perm g.L := hm.trans h.nodup
  have hvg : v ∈ g.L := hp.subset (List.mem_of_getElem? hv)
  have hids : m.Pairwise (fun u v => u.id ≠ v.id) := (hp.pairwise_iff (fun {a b} e => e.symm)).2 h.ok.ids
  have hpl : m.Pairwise (fun u v => ltV u v ∨ ltV v u) := (hp.pairwise_iff (fun {a b} e => e.symm)).2 (h.ok.rise.imp (fun e => Or.inl e))
  have hi := (List.getElem?_eq_some_iff.1 hv).1
  have hg := (List.getElem?_eq_some_iff.1 hv).2
  have key : ∀ u ∈ m.take i, u.id ≠ v.id ∧ (ltV u v ∨ ltV v u) := fun u hu => by
    obtain ⟨j, hj, he⟩ := List.mem_iff_getElem.1 hu
    rw [List.length_take] at hj
    rw [List.getElem_take] at he
    have q1 := List.pairwise_iff_getElem.1 hids j i (by omega) hi (by omega)
    have q2 := List.pairwise_iff_getElem.1 hpl j i (by omega) hi (by omega)
    rw [he, hg] at q1 q2
    exact ⟨q1, q2⟩
  have hr := h.ok.rng v hvg
  refine addEV_ok.2 ⟨hr, h.ok.ps v hvg, fun u hu => (key u ((hb.mem u).1 hu)).1, by rw [hb.low]; exact hr.1, fun u hu e => ?_, ?_⟩
  · rcases (key u ((hb.mem u).1 hu)).2 with q | q <;> unfold ltV at q <;> omega
  · rw [hb.len, List.length_take]
    have := hm.length_eq
    omega

theorem InV.same {l m : List VtxD} {g b : GrD} (h : InV l g) (hb : InV m b) (hm : m.Perm l) : b = g := by
  have h1 : b.L = g.L := riseV_ext hb.ok.rise h.ok.rise (fun v => by rw [hb.mem, h.mem, hm.mem_iff])
  have h2 : b.low = g.low := by rw [hb.low, h.low]
  cases b
  cases g
  simp only at h1 h2
  rw [h1, h2]

/-- What is missing is one list. -/
theorem MissOf.same {g : GrD} {id : ByteArray} {m k : List ByteArray} (h1 : MissOf g id m) (h2 : MissOf g id k) : m = k := by
  have ext : ∀ {l m : List ByteArray}, l.Pairwise (fun a b => a.toList < b.toList) → m.Pairwise (fun a b => a.toList < b.toList) → (∀ p, p ∈ l ↔ p ∈ m) → l = m := by
    intro l
    induction l with
    | nil =>
      intro m _ _ h
      cases m with
      | nil => rfl
      | cons y m => have := (h y).2 (List.mem_cons_self ..); cases this
    | cons x l ih =>
      intro m hl hm h
      cases m with
      | nil => have := (h x).1 (List.mem_cons_self ..); cases this
      | cons y m =>
        obtain ⟨hl1, hl2⟩ := List.pairwise_cons.1 hl
        obtain ⟨hm1, hm2⟩ := List.pairwise_cons.1 hm
        have hxy : x = y := by
          rcases List.mem_cons.1 ((h x).1 (List.mem_cons_self ..)) with e | e
          · exact e
          · rcases List.mem_cons.1 ((h y).2 (List.mem_cons_self ..)) with e2 | e2
            · exact e2.symm
            · exact (List.lt_asymm (hm1 x e) (hl1 y e2)).elim
        subst hxy
        congr 1
        refine ih hl2 hm2 (fun p => ⟨fun hp => ?_, fun hp => ?_⟩)
        · rcases List.mem_cons.1 ((h p).1 (List.mem_cons_of_mem _ hp)) with e | e
          · subst e; exact (List.lt_irrefl _ (hl1 _ hp)).elim
          · exact e
        · rcases List.mem_cons.1 ((h p).2 (List.mem_cons_of_mem _ hp)) with e | e
          · subst e; exact (List.lt_irrefl _ (hm1 _ hp)).elim
          · exact e
  exact ext h1.1 h2.1 (fun p => by rw [h1.2, h2.2])
end Go.Proofs.Ytfbpjdjajecajaa
