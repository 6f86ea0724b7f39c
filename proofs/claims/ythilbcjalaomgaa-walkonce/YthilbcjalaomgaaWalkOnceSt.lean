/- WalkOnce: the graph, and what the statement writes down of it: places, parents, what is done. -/
import Derived.Test.YthilbcjalaomgaaWalkOpen
import Derived.Test.YthilbcjalaomgaaWalkEmit
import Derived.Test.YthilbcjalaomgaaWalkLaws
import Derived.Test.YthilbcjalaomgaaWalkWorks
namespace Go.Proofs.Ythilbcjalaomgaa
open Go Go.RowKit
set_option linter.unusedVariables false

def plcV (v : VtxD) : Value := .agg #[.int .i64 v.round, .int .i64 v.author]
def atF (g : GrD) (id : ByteArray) : Option Value := (getV g.L id).map plcV
def dnF (dn : ByteArray → Bool) (id : ByteArray) : Option Value := if dn id = true then some (.bool true) else none

theorem dnF_get (dn : ByteArray → Bool) (id : ByteArray) : (dnF dn id).getD (.bool false) = .bool (dn id) := by
  unfold dnF
  cases dn id <;> rfl

theorem atF_of {g : GrD} (h : GrOk g) {v : VtxD} (hv : v ∈ g.L) : atF g v.id = some (plcV v) := by
  unfold atF
  rw [(getV_iff h).2 ⟨hv, rfl⟩]
  rfl

/-- What is led to is there, and it is done, or it is emitted now. -/
theorem once_parents {g : GrD} (h : GrOk g) {id : ByteArray} (hm : MissOf g id []) {v : VtxD} (hv : v ∈ emitL g id) (hr : g.low < v.round) {p : ByteArray} (hp : p ∈ v.parents) : ∃ u ∈ g.L, u.id = p ∧ (u.done = true ∨ u ∈ emitL g id) := by
  obtain ⟨h1, h2, h3⟩ := emitL_mem.1 hv
  have hR : Reach g id p := Reach.up h2 ((getV_iff h).2 ⟨h1, rfl⟩) hr h3 hp
  cases hg : getV g.L p with
  | none => exact (List.not_mem_nil ((hm.2 p).2 ⟨hR, hg⟩)).elim
  | some u =>
    obtain ⟨k1, k2⟩ := (getV_iff h).1 hg
    refine ⟨u, k1, k2, ?_⟩
    cases hd : u.done with
    | true => exact Or.inl rfl
    | false => exact Or.inr (emitL_mem.2 ⟨k1, by rw [k2]; exact hR, hd⟩)

theorem emitL_rise {g : GrD} (h : GrOk g) (id : ByteArray) : RiseV (emitL g id) := h.rise.sublist List.filter_sublist
theorem emitL_ids {g : GrD} (h : GrOk g) (id : ByteArray) : (emitL g id).Pairwise (fun u v => u.id ≠ v.id) := h.ids.sublist List.filter_sublist

/-- What is done, as the graph has it. -/
def DnOk (g : GrD) (dn : ByteArray → Bool) : Prop := ∀ id, dn id = emittedV g id

theorem emittedV_of {g : GrD} (h : GrOk g) {v : VtxD} (hv : v ∈ g.L) : emittedV g v.id = v.done := by
  unfold emittedV
  rw [(getV_iff h).2 ⟨hv, rfl⟩]

theorem DnOk.add {g : GrD} (h : GrOk g) {dn : ByteArray → Bool} (hd : DnOk g dn) {id : ByteArray} {r a : Int} {ps : List ByteArray} (he : addEV g id r a ps.length = 0) : DnOk (addGV g id r a ps) dn := by
  intro x
  have h' := h.add id r a ps
  rw [addGV_ok he] at h' ⊢
  have hn := (addEV_ok.1 he).2.2.1
  have e := getV_add h (v := ⟨id, r, a, ps, false⟩) h' hn x
  rw [hd x]
  unfold emittedV
  rw [show getV ({ g with L := insV g.L ⟨id, r, a, ps, false⟩ } : GrD).L x = _ from e]
  by_cases hx : x = id
  · rw [if_pos hx, hx, getV_none.2 hn]
  · rw [if_neg hx]

theorem getV_done {g : GrD} (h : GrOk g) (id x : ByteArray) : (getV (doneV g id).L x).map (fun v => (v.id, v.round, v.author, v.parents)) = (getV g.L x).map (fun v => (v.id, v.round, v.author, v.parents)) := by
  have h' := h.done id
  cases hg : getV (doneV g id).L x with
  | none =>
    have := getV_none.1 hg
    have e : getV g.L x = none := getV_none.2 (fun u hu => by
      by_cases hr : Reach g id u.id
      · exact this { u with done := true } (by unfold doneV; exact List.mem_map.2 ⟨u, hu, by rw [if_pos hr]⟩)
      · exact this u (by unfold doneV; exact List.mem_map.2 ⟨u, hu, by rw [if_neg hr]⟩))
    rw [e]
  | some v =>
    obtain ⟨h1, h2⟩ := (getV_iff h').1 hg
    unfold doneV at h1
    obtain ⟨u, hu, rfl⟩ := List.mem_map.1 h1
    by_cases hr : Reach g id u.id
    · rw [if_pos hr] at h2 ⊢
      rw [(getV_iff h).2 ⟨hu, h2⟩]
      rfl
    · rw [if_neg hr] at h2 ⊢
      rw [(getV_iff h).2 ⟨hu, h2⟩]

theorem atF_done {g : GrD} (h : GrOk g) (id x : ByteArray) : atF (doneV g id) x = atF g x := by
  have e := getV_done h id x
  unfold atF
  cases h1 : getV (doneV g id).L x <;> cases h2 : getV g.L x <;> rw [h1, h2] at e <;> simp at e
  all_goals first | rfl | skip
  obtain ⟨_, e2, e3, _⟩ := e
  show some (plcV _) = some (plcV _)
  unfold plcV
  rw [e2, e3]

open Classical in
/-- Those too. -/
noncomputable def orDn (dn : ByteArray → Bool) (l : List ByteArray) (x : ByteArray) : Bool := dn x || decide (x ∈ l)

theorem orDn_iff {dn : ByteArray → Bool} {l : List ByteArray} {x : ByteArray} : orDn dn l x = true ↔ dn x = true ∨ x ∈ l := by unfold orDn; simp

theorem orDn_nil (dn : ByteArray → Bool) : orDn dn [] = dn := by
  funext x
  rw [Bool.eq_iff_iff, orDn_iff]
  simp

theorem emittedV_done {g : GrD} (h : GrOk g) (id x : ByteArray) : emittedV (doneV g id) x = true ↔ emittedV g x = true ∨ x ∈ (emitL g id).map (·.id) := by
  have h' := h.done id
  cases hg : getV g.L x with
  | none =>
    have e := getV_done h id x
    rw [hg] at e
    have e' : getV (doneV g id).L x = none := by
      cases h1 : getV (doneV g id).L x with
      | none => rfl
      | some v => rw [h1] at e; simp at e
    have hno : ¬ x ∈ (emitL g id).map (·.id) := fun hx => by
      obtain ⟨u, hu, rfl⟩ := List.mem_map.1 hx
      exact getV_none.1 hg u (emitL_mem.1 hu).1 rfl
    unfold emittedV
    rw [hg, e']
    simp only [Bool.false_eq_true, false_or]
    exact ⟨fun h => h.elim, fun h => hno h⟩
  | some u =>
    obtain ⟨hu, rfl⟩ := (getV_iff h).1 hg
    rw [emittedV_of h hu]
    by_cases hr : Reach g id u.id
    · have hm : { u with done := true } ∈ (doneV g id).L := by unfold doneV; exact List.mem_map.2 ⟨u, hu, by rw [if_pos hr]⟩
      have e2 : emittedV (doneV g id) u.id = true := emittedV_of h' hm
      rw [e2]
      refine ⟨fun _ => ?_, fun _ => rfl⟩
      cases hdn : u.done with
      | true => exact Or.inl rfl
      | false => exact Or.inr (List.mem_map.2 ⟨u, emitL_mem.2 ⟨hu, hr, hdn⟩, rfl⟩)
    · have hm : u ∈ (doneV g id).L := by unfold doneV; exact List.mem_map.2 ⟨u, hu, by rw [if_neg hr]⟩
      have e2 : emittedV (doneV g id) u.id = u.done := emittedV_of h' hm
      rw [e2]
      refine ⟨Or.inl, fun hx => ?_⟩
      rcases hx with hx | hx
      · exact hx
      · obtain ⟨z, hz, e⟩ := List.mem_map.1 hx
        have hz' : Reach g id z.id := (emitL_mem.1 hz).2.1
        have e : z.id = u.id := e
        rw [e] at hz'
        exact (hr hz').elim

theorem DnOk.done {g : GrD} (h : GrOk g) {dn : ByteArray → Bool} (hd : DnOk g dn) (id : ByteArray) : DnOk (doneV g id) (orDn dn ((emitL g id).map (·.id))) := fun x => by
  rw [Bool.eq_iff_iff, orDn_iff, emittedV_done h, hd x]

/-- The graph g; the places written down are ga's, the parents gp's. -/
structure OS (W w : World) (gb ab pb db : Nat) (g ga gp : GrD) (dn : ByteArray → Bool) (n m : Nat) : Prop where
  bel : Below W.heap.size W w
  ex : ∃ S : Nat → Prop, PG w gb S g ∧ ∀ k, S k → W.heap.size ≤ k ∧ k ≠ ab ∧ k ≠ pb ∧ k ≠ db
  at_ : ∃ k, k ≤ n ∧ SMap w ab (atF ga) k
  par : ∃ k f, k ≤ n ∧ SMap w pb f k ∧ ∀ v ∈ gp.L, ∃ pa pc, f v.id = some (.slice pa v.parents.length pc) ∧ RowAt textK W pa v.parents ∧ ∀ p ∈ v.parents, p.size ≤ maxLen
  dnn : ∃ k, k ≤ m ∧ SMap w db (dnF dn) k
  sa : W.heap.size ≤ ab
  sp : W.heap.size ≤ pb
  sd : W.heap.size ≤ db
  n1 : ab ≠ pb
  n2 : ab ≠ db
  n3 : pb ≠ db

section
variable {W w w' : World} {gb ab pb db : Nat} {g ga gp g' : GrD} {dn : ByteArray → Bool} {n m : Nat} {id : ByteArray} {r a : Int} {ps : List ByteArray}

theorem OS.below (h : OS W w gb ab pb db g ga gp dn n m) (hb : Below w.heap.size w w') : OS W w' gb ab pb db g ga gp dn n m := by
  obtain ⟨S, h1, h2⟩ := h.ex
  obtain ⟨k1, l1, m1⟩ := h.at_
  obtain ⟨k2, f, l2, m2, r2⟩ := h.par
  obtain ⟨k3, l3, m3⟩ := h.dnn
  exact ⟨h.bel.trans (hb.mono h.bel.size), ⟨S, h1.below hb, h2⟩, ⟨k1, l1, m1.below hb⟩, ⟨k2, f, l2, m2.below hb, r2⟩, ⟨k3, l3, m3.below hb⟩, h.sa, h.sp, h.sd, h.n1, h.n2, h.n3⟩

theorem OS.more (h : OS W w gb ab pb db g ga gp dn n m) {n' m' : Nat} (h1 : n ≤ n') (h2 : m ≤ m') : OS W w gb ab pb db g ga gp dn n' m' := by
  obtain ⟨k1, l1, m1⟩ := h.at_
  obtain ⟨k2, f, l2, m2, r2⟩ := h.par
  obtain ⟨k3, l3, m3⟩ := h.dnn
  exact ⟨h.bel, h.ex, ⟨k1, by omega, m1⟩, ⟨k2, f, by omega, m2, r2⟩, ⟨k3, by omega, m3⟩, h.sa, h.sp, h.sd, h.n1, h.n2, h.n3⟩

/-- The graph alone is turned. -/
theorem OS.turned (h : OS W w gb ab pb db g ga gp dn n m) {S S' : Nat → Prop} {g' : GrD} (hS : ∀ k, S k → W.heap.size ≤ k ∧ k ≠ ab ∧ k ≠ pb ∧ k ≠ db) (hf : FreshS w S S') (hG : PG w' gb S' g') (hk : Kept S w w') : OS W w' gb ab pb db g' ga gp dn n m := by
  obtain ⟨k1, l1, m1⟩ := h.at_
  obtain ⟨k2, f, l2, m2, r2⟩ := h.par
  obtain ⟨k3, l3, m3⟩ := h.dnn
  refine ⟨below_of_kept h.bel (fun k e => (hS k e).1) hk, ⟨S', hG, fun k e => ?_⟩, ⟨k1, l1, m1.kept hk (fun e => (hS _ e).2.1 rfl)⟩, ⟨k2, f, l2, m2.kept hk (fun e => (hS _ e).2.2.1 rfl), r2⟩, ⟨k3, l3, m3.kept hk (fun e => (hS _ e).2.2.2 rfl)⟩, h.sa, h.sp, h.sd, h.n1, h.n2, h.n3⟩
  rcases hf k e with e | e
  · exact hS k e
  · have := m1.lt
    have := m2.lt
    have := m3.lt
    have := h.bel.size
    omega

theorem OS.add (h : OS W w gb ab pb db g ga gp dn n m) (x : OpW) (hat : x.At W) (hl : x.ps.length ≤ 1000000) :
    Calls Try.prog 8 #[.pointer (some ⟨gb, 0, none⟩), .string x.id, .int .i64 x.round, .int .i64 x.author, .slice x.pa x.ps.length x.pc] w fun e w' => e = .returned (.int .i64 (addEV g x.id x.round x.author x.ps.length : Nat)) ∧ OS W w' gb ab pb db (addGV g x.id x.round x.author x.ps) ga gp dn n m := by
  obtain ⟨S, h1, h2⟩ := h.ex
  refine (pgAdd_any x.id x.round x.author x.pa x.pc x.ps gb S g w h1 hat.id hat.each (hat.row.below h.bel) (fun b hb hs => by have := hat.row.lt hb; have := (h2 b hs).1; omega) hl).mono ?_
  rintro e w' ⟨S', rfl, hG, hf, hk⟩
  exact ⟨rfl, h.turned h2 hf hG hk⟩

theorem OS.add2 {wr : World} (h : OS W wr gb ab pb db g ga gp dn n m) (hb : Below wr.heap.size wr w) (x : OpW) (hat : x.At W) (hl : x.ps.length ≤ 1000000) :
    Calls Try.prog 8 #[.pointer (some ⟨gb, 0, none⟩), .string x.id, .int .i64 x.round, .int .i64 x.author, .slice x.pa x.ps.length x.pc] w fun e w' => e = .returned (.int .i64 (addEV g x.id x.round x.author x.ps.length : Nat)) ∧ OS W w' gb ab pb db (addGV g x.id x.round x.author x.ps) ga gp dn n m ∧ ∃ S : Nat → Prop, Kept S w w' ∧ ∀ k, S k → k < wr.heap.size := by
  obtain ⟨S, h1, h2⟩ := h.ex
  have h' := h.below hb
  refine (pgAdd_any x.id x.round x.author x.pa x.pc x.ps gb S g w (h1.below hb) hat.id hat.each (hat.row.below h'.bel) (fun b hb hs => by have := hat.row.lt hb; have := (h2 b hs).1; omega) hl).mono ?_
  rintro e w' ⟨S', rfl, hG, hf, hk⟩
  exact ⟨rfl, h'.turned h2 hf hG hk, S, hk, fun k e => h1.lt e⟩

/-- at[id] = place{..}. -/
theorem OS.putA (h : OS W w gb ab pb db (addGV g id r a ps) g gp dn n m) (hg : GrOk g) (he : addEV g id r a ps.length = 0) {k : Nat} (hk1 : k ≤ n + 1) (hm : SMap w' ab (putF (atF g) id (.agg #[.int .i64 r, .int .i64 a])) k) (hk : Kept (fun j => j = ab) w w') : OS W w' gb ab pb db (addGV g id r a ps) (addGV g id r a ps) gp dn (n + 1) m := by
  obtain ⟨S, h1, h2⟩ := h.ex
  obtain ⟨k2, f, l2, m2, r2⟩ := h.par
  obtain ⟨k3, l3, m3⟩ := h.dnn
  refine ⟨below_of_kept h.bel (fun j e => by rw [e]; exact h.sa) hk, ⟨S, h1.kept hk (fun j e => (h2 j e).2.1), h2⟩, ⟨k, hk1, hm.congr (fun x => ?_)⟩, ⟨k2, f, by omega, m2.kept hk (fun e => h.n1 e.symm), r2⟩, ⟨k3, l3, m3.kept hk (fun e => h.n2 e.symm)⟩, h.sa, h.sp, h.sd, h.n1, h.n2, h.n3⟩
  have h' := hg.add id r a ps
  rw [addGV_ok he] at h' ⊢
  unfold atF putF
  rw [show getV ({ g with L := insV g.L ⟨id, r, a, ps, false⟩ } : GrD).L x = _ from getV_add hg (v := ⟨id, r, a, ps, false⟩) h' (addEV_ok.1 he).2.2.1 x]
  by_cases hx : x = id
  · rw [if_pos hx, if_pos hx]; rfl
  · rw [if_neg hx, if_neg hx]

/-- parents[id] = o.Parents. -/
theorem OS.putP (h : OS W w gb ab pb db g' ga g dn n m) {x : OpW} (hat : x.At W) (hg : GrOk g) (he : addEV g x.id x.round x.author x.ps.length = 0) {f : ByteArray → Option Value} {k0 k : Nat} (hf : ∀ v ∈ g.L, ∃ pa pc, f v.id = some (.slice pa v.parents.length pc) ∧ RowAt textK W pa v.parents ∧ ∀ p ∈ v.parents, p.size ≤ maxLen) (hk1 : k ≤ n + 1) (hm : SMap w' pb (putF f x.id (.slice x.pa x.ps.length x.pc)) k) (hk : Kept (fun j => j = pb) w w') : OS W w' gb ab pb db g' ga (addGV g x.id x.round x.author x.ps) dn (n + 1) m := by
  obtain ⟨S, h1, h2⟩ := h.ex
  obtain ⟨k1, l1, m1⟩ := h.at_
  obtain ⟨k3, l3, m3⟩ := h.dnn
  refine ⟨below_of_kept h.bel (fun j e => by rw [e]; exact h.sp) hk, ⟨S, h1.kept hk (fun j e => (h2 j e).2.2.1), h2⟩, ⟨k1, by omega, m1.kept hk (fun e => h.n1 e)⟩, ⟨k, _, hk1, hm, fun v hv => ?_⟩, ⟨k3, l3, m3.kept hk (fun e => h.n3 e.symm)⟩, h.sa, h.sp, h.sd, h.n1, h.n2, h.n3⟩
  rw [addGV_ok he] at hv
  rcases (insV_mem _ _ _).1 hv with rfl | hv
  · exact ⟨x.pa, x.pc, by unfold putF; rw [if_pos rfl], hat.row, hat.each⟩
  · obtain ⟨pa, pc, q1, q2⟩ := hf v hv
    exact ⟨pa, pc, by unfold putF; rw [if_neg ((addEV_ok.1 he).2.2.1 v hv)]; exact q1, q2⟩

/-- done[x] = true. -/
theorem OS.putD (h : OS W w gb ab pb db g ga gp dn n m) (x : ByteArray) {dn' : ByteArray → Bool} (hd : ∀ y, dn' y = true ↔ dn y = true ∨ y = x) {k : Nat} (hk1 : k ≤ m + 1) (hm : SMap w' db (putF (dnF dn) x (.bool true)) k) (hk : Kept (fun j => j = db) w w') : OS W w' gb ab pb db g ga gp dn' n (m + 1) := by
  obtain ⟨S, h1, h2⟩ := h.ex
  obtain ⟨k1, l1, m1⟩ := h.at_
  obtain ⟨k2, f, l2, m2, r2⟩ := h.par
  refine ⟨below_of_kept h.bel (fun j e => by rw [e]; exact h.sd) hk, ⟨S, h1.kept hk (fun j e => (h2 j e).2.2.2), h2⟩, ⟨k1, l1, m1.kept hk (fun e => h.n2 e)⟩, ⟨k2, f, l2, m2.kept hk (fun e => h.n3 e), r2⟩, ⟨k, hk1, hm.congr (fun y => ?_)⟩, h.sa, h.sp, h.sd, h.n1, h.n2, h.n3⟩
  show (if dn' y = true then some (Value.bool true) else none) = (if y = x then some (Value.bool true) else if dn y = true then some (Value.bool true) else none)
  by_cases hy : y = x
  · rw [if_pos hy, if_pos ((hd y).2 (Or.inr hy))]
  · rw [if_neg hy]
    by_cases hz : dn y = true
    · rw [if_pos hz, if_pos ((hd y).2 (Or.inl hz))]
    · rw [if_neg hz, if_neg (fun e => ((hd y).1 e).elim hz hy)]

/-- After Emit: what is written down is as the new graph's. -/
theorem OS.done (h : OS W w gb ab pb db (doneV g id) g g dn n m) (hg : GrOk g) : OS W w gb ab pb db (doneV g id) (doneV g id) (doneV g id) dn n m := by
  obtain ⟨k1, l1, m1⟩ := h.at_
  obtain ⟨k2, f, l2, m2, r2⟩ := h.par
  refine ⟨h.bel, h.ex, ⟨k1, l1, m1.congr (fun x => atF_done hg id x)⟩, ⟨k2, f, l2, m2, fun v hv => ?_⟩, h.dnn, h.sa, h.sp, h.sd, h.n1, h.n2, h.n3⟩
  obtain ⟨u, hu, e1, _, e3, _⟩ := doneV_mem hg hv
  rw [e1, e3]
  exact r2 u hu

/-- What Emit gives: V, in their order; g' is left; mm are missing. -/
structure Emits (g g' : GrD) (dn : ByteArray → Bool) (V : List VtxD) (mm : Nat) : Prop where
  one : V = [] ∨ mm = 0
  mem : ∀ v ∈ V, v ∈ g.L
  rise : RiseV V
  ids : V.Pairwise (fun u v => u.id ≠ v.id)
  not : ∀ v ∈ V, dn v.id = false
  par : ∀ v ∈ V, 0 < v.round → ∀ p ∈ v.parents, orDn dn (V.map (·.id)) p = true
  few : V.length ≤ 256
  low : g'.low = 0
  dok : DnOk g' (orDn dn (V.map (·.id)))
  same : g' = g ∨ ∃ id, g' = doneV g id

theorem OS.emit (h : OS W w gb ab pb db g g g dn n m) (hlow : g.low = 0) (hd : DnOk g dn) (id : ByteArray) (hid : id.size ≤ maxLen) :
    Calls Try.prog 10 #[.pointer (some ⟨gb, 0, none⟩), .string id] w fun e w' => ∃ (V : List VtxD) (mm : Nat) (al : Option Addr) (cl : Nat) (am : Option Addr) (cm : Nat) (g' : GrD), e = .returned (.tuple #[.slice al V.length cl, .slice am mm cm]) ∧ Emits g g' dn V mm ∧ RowAt textK w' al (V.map (·.id)) ∧ (∀ b, rowFoot textK al (V.map (·.id)) b → b ≠ db) ∧ OS W w' gb ab pb db g' g g dn n m := by
  obtain ⟨S, h1, h2⟩ := h.ex
  have hok := h1.ok
  obtain ⟨_, _, hdm⟩ := h.dnn
  have hdb := hdm.lt
  refine (pgEmit_any id gb S g w h1 hid).mono ?_
  rintro e w' ⟨l, mm, al, cl, am, cm, rfl, hm, hl, hmm, hk, hc⟩
  have hge := KQ.foot_ge hl (Nat.le_refl _) (fun _ _ _ h => h.elim)
  rcases hc with ⟨rfl, rfl, p1⟩ | ⟨hne, rfl, p1⟩
  · refine ⟨emitL g id, 0, al, cl, am, cm, doneV g id, by rw [emitV_eq, List.length_map]; rfl, ⟨Or.inr rfl, fun v hv => (emitL_mem.1 hv).1, emitL_rise hok id, emitL_ids hok id, fun v hv => ?_, fun v hv hr p hp => ?_, emitL_few hok id, hlow, hd.done hok id, Or.inr ⟨id, rfl⟩⟩, hl.rowOf.1, fun b hb e => by have := hge b hb; omega, h.turned h2 (fun k e => Or.inl e) p1 hk⟩
    · obtain ⟨q1, _, q3⟩ := emitL_mem.1 hv
      rw [hd, emittedV_of hok q1, q3]
    · obtain ⟨u, hu, rfl, hc⟩ := once_parents hok hm hv (by rw [hlow]; exact hr) hp
      rw [orDn_iff]
      rcases hc with hc | hc
      · left; rw [hd, emittedV_of hok hu]; exact hc
      · right; exact List.mem_map.2 ⟨u, hc, rfl⟩
  · refine ⟨[], mm.length, al, cl, am, cm, g, rfl, ⟨Or.inl rfl, fun v hv => (List.not_mem_nil hv).elim, List.Pairwise.nil, List.Pairwise.nil, fun v hv => (List.not_mem_nil hv).elim, fun v hv => (List.not_mem_nil hv).elim, Nat.zero_le _, hlow, ?_, Or.inl rfl⟩, nil_row _ _, fun b hb => (nil_foot hb).elim, h.turned h2 (fun k e => Or.inl e) p1 hk⟩
    rw [List.map_nil, orDn_nil]
    exact hd

theorem OS.ends {dn' : ByteArray → Bool} {V : List VtxD} {mm : Nat} (h : OS W w gb ab pb db g' g g dn' n m) (hg : GrOk g) (he : Emits g g' dn V mm) : OS W w gb ab pb db g' g' g' dn' n m := by
  rcases he.same with rfl | ⟨id, rfl⟩
  · exact h
  · exact h.done hg

theorem OS.ok (h : OS W w gb ab pb db g ga gp dn n m) : GrOk g := by
  obtain ⟨S, h1, _⟩ := h.ex
  exact h1.ok

theorem OS.size (h : OS W w gb ab pb db g ga gp dn n m) {v : VtxD} (hv : v ∈ g.L) : v.id.size ≤ maxLen := by
  obtain ⟨S, ⟨_, _, _, h1⟩, _⟩ := h.ex
  exact (h1.ids v hv).1
end
end Go.Proofs.Ythilbcjalaomgaa
