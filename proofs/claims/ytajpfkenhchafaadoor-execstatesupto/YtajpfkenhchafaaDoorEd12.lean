/- Texts as one: RoundLone, StepJoins, ExeDo. -/
import Derived.RangeFuncNested
import Derived.RangeFuncCalls
import Derived.OrdersHeld
import Derived.OrdersIn
import Derived.WalkKit
import Derived.Test.YtajpfkenhchafaaDoorEd03
import Derived.Test.YtajpfkenhchafaaDoorEd05
import Derived.Test.YtajpfkenhchafaaDoorEd10
import Derived.Test.YtajpfkenhchafaaDoorEd11
import Derived.Deep.RegionHeld3
/- A region inside a round of a range over a function, walked as a lone region is: at the wide fence, where it defers nothing. -/
namespace Go.Proofs.YtajpfkenhchafaaDoor
open Go Go.RowKit
set_option linter.unusedVariables false

theorem wpOpIn_of_wpOp {l n i : Nat} {P : Program} {ops : Array Oper} {Q : Exit → Act → World → Prop} {K : Act → World → Prop} {a : Act} {w : World} (hd : ∀ (j : Nat) (o : Oper) c, ops[j]? = some o → o.op ≠ .defer c) (hQ : ¬ LetsOut Q)
    (h : wpOp P ops Q i K a w) : wpOpIn (Fence.wide.inRound l) n P ops Q i K a w := by
  unfold wpOp at h
  unfold wpOpIn
  cases ho : ops[i]? with
  | none => simp only [ho] at h ⊢; exact h
  | some o =>
    simp only [ho] at h ⊢
    by_cases hw : Region.wanted o (yielded ops a.tmps) = true
    · simp only [hw, if_true] at h ⊢
      rcases h with h | ⟨_, h⟩
      · unfold Oper.wpIn
        refine ⟨fun _ _ => trivial, ?_⟩
        rw [Oper.semAt_eq _ _ _ (fun c => hd i o c ho)]
        unfold Oper.wp at h
        generalize (execOp a.eval o).run P w = r at *
        cases r with
        | ok x w' =>
          cases x with
          | value v => exact h
          | skip => exact h
          | defer d => exact h
          | enter f args =>
            refine ⟨(fun e => by cases e), CallsIn.inRound l (callsIn_wide.2 ?_)⟩
            exact Calls.mono h (fun e w'' he => by cases e <;> exact he)
          | row row args =>
            refine ⟨(fun e => by cases e), fun c cs _ => ?_⟩
            obtain ⟨v, w'', q1, q2⟩ := h c cs
            exact ⟨v, w'', q1, stepsIn_wide.2 q2⟩
          | round l f tmps assign body => exact h.elim
          | _ => exact h.elim
        | halt x w' => cases x <;> exact h
      · exact absurd h hQ
    · simp only [hw] at h ⊢
      exact ⟨fun _ _ => trivial, h⟩

theorem wpAnyIn_of_wpAny {l n : Nat} {P : Program} {ops : Array Oper} {md : Region.Mode} {Q : Exit → Act → World → Prop} (hd : ∀ (j : Nat) (o : Oper) c, ops[j]? = some o → o.op ≠ .defer c) (hQ : ¬ LetsOut Q) :
    ∀ (fuel : Nat) (listed : Array Bool) (a : Act) (w : World), wpAny P md ops Q fuel listed a w → wpAnyIn (Fence.wide.inRound l) n P md ops Q fuel listed a w
  | 0, _, _, _, h => h
  | fuel + 1, listed, a, w, h => ⟨h.1, fun i hi => wpOpIn_of_wpOp hd hQ (wpOp_mono (fun a' w' h' => wpAnyIn_of_wpAny hd hQ fuel _ a' w' h') (h.2 i hi))⟩

/-- No operation of a region is a defer. -/
theorem noDefer_of {ops : Array Oper} (h : (ops.toList.all (fun o => match o.op with | .defer _ => false | _ => true)) = true) (j : Nat) (o : Oper) (c) (hj : ops[j]? = some o) : o.op ≠ .defer c := by
  intro e
  have h1 := List.all_eq_true.1 h o (by
    rw [← Array.getElem?_toList] at hj
    exact List.mem_of_getElem? hj)
  rw [e] at h1
  cases h1

/-- A region that draws its order, inside a round, under a condition that is kept. -/
theorem wpIn_region_round {l n id : Nat} {P : Program} {ops : Array Oper} {Q : Exit → Act → World → Prop} {a : Act} {w : World} (S : World → Prop) (hm : P.follows .mixedOrders = true) (hd : (ops.toList.all (fun o => match o.op with | .defer _ => false | _ => true)) = true) (hQ : ¬ LetsOut Q)
    (h : wpAnyH P .any ops Q S ops.size (Array.replicate ops.size false) a w.drew) : (Code.region id ops true).wpIn (Fence.wide.inRound l) n P Q a w :=
  wpIn_region_any hm (wpAnyIn_of_wpAny (noDefer_of hd) hQ _ _ _ _ (wpAny_of_held _ _ _ _ h))

section
variable {P : Program} {md : Region.Mode} {ops : Array Oper} {Q : Exit → Act → World → Prop} {S : World → Prop}

theorem wpAnyH_takeD {i : Nat} {oi : Oper} {v : Value} {fuel : Nat} {listed : Array Bool} {a : Act} {w : World} (d : Option Nat) (hi : ops[i]? = some oi) (hd : oi.dst = d)
    (hs : Region.noSelect ops = true) (hf : Region.free md ops listed i = true) (hr : (Region.ready md ops listed).contains i = true)
    (hQ : ∀ c a w, ¬ Q (.panic c) a w) (hy : YieldsIf P ops S oi v a) (hS : S w)
    (h : wpAnyH P md ops Q S fuel (listed.setIfInBounds i true) (a.put d v) w) : wpAnyH P md ops Q S (fuel + 1) listed a w := by
  subst hd
  exact wpAnyH_take hi hs hf hr (fun c a w h => absurd h (hQ c _ w)) hy hS h

theorem wpAnyH_oneD {i : Nat} {o : Oper} {fuel : Nat} {listed : Array Bool} {a : Act} {w : World} (d : Option Nat) (hr : Region.ready md ops listed = [i]) (ho : ops[i]? = some o) (hd : o.dst = d) (hw : Region.wanted o (yielded ops a.tmps) = true)
    (h : ∀ K : Act → World → Prop, (∀ v w, S w → wpAnyH P md ops Q S fuel (listed.setIfInBounds i true) (a.put d v) w → K (a.put o.dst v) w) → Oper.wp P o a w K Q) : wpAnyH P md ops Q S (fuel + 1) listed a w := by
  subst hd
  refine wpAnyH_all hr (by simp) (fun j hj => ?_)
  obtain rfl : j = i := by simpa using hj
  unfold wpOp
  simp only [ho, hw, if_true]
  exact Or.inl (h _ (fun v w hS hW => ⟨hS, hW⟩))

theorem wpAnyH_stepD {i : Nat} {o : Oper} {fuel : Nat} {listed : Array Bool} {a : Act} {w : World} (d : Option Nat) (hr : Region.ready md ops listed = [i]) (ho : ops[i]? = some o) (hd : o.dst = d)
    (h : ∀ K : Act → World → Prop, (∀ v w, S w → wpAnyH P md ops Q S fuel (listed.setIfInBounds i true) (a.put d v) w → K (a.put o.dst v) w) → if Region.wanted o (yielded ops a.tmps) = true then Oper.wp P o a w K Q else K (a.put o.dst undef) w) : wpAnyH P md ops Q S (fuel + 1) listed a w := by
  subst hd
  refine wpAnyH_all hr (by simp) (fun j hj => ?_)
  obtain rfl : j = i := by simpa using hj
  have h2 := h (fun a' w' => S w' ∧ wpAnyH P md ops Q S fuel (listed.setIfInBounds j true) a' w') (fun v w hS hW => ⟨hS, hW⟩)
  unfold wpOp
  simp only [ho]
  split
  · rename_i hw
    rw [if_pos hw] at h2
    exact Or.inl h2
  · rename_i hw
    rw [if_neg hw] at h2
    exact h2
end
end Go.Proofs.YtajpfkenhchafaaDoor

/- append(q, xs...), at a step of a region that draws its order. -/
namespace Go.Proofs.YtajpfkenhchafaaDoor
open Go Go.RowKit
set_option linter.unusedVariables false

/-- append(q, xs...), at a step of a region that draws its order. -/
theorem step_joins23 {α : Type} {K : Kind α} {P : Program} (w : World) {ops : Array Oper} {o : Oper} {a : Act} {C : Act → World → Prop} {Q : Exit → Act → World → Prop} {E : Prop} (hgd : o.guard = none) (s x : Operand) (t : TypeId)
    (ho : o.op = .call { callee := .builtin .append, args := #[s, x], argTypes := #[t, t] })
    (base : Nat) (e : TypeId) (i : TypeInfo) (z : Value) (bytes : Nat) (ht : P.underlying t = some (.slice e)) (hi : P.info? e = some i) (hz : i.zero = some z)
    (hsize : i.size = K.n) (hby : i.bytes = bytes) (hzs : z.cells.size = K.n)
    (q : Value) (l m : List α) (hs : a.eval s = q) (hq : KQ K e w base q l) (hf : ∀ x b, ¬ K.foot x b)
    (ao : Option Addr) (M c : Nat) (hM : M = m.length) (hx : a.eval x = .slice ao M c) (hS : RowAt K w ao m)
    (h63 : l.length + m.length ≤ maxLen) (hbytes : (l.length + m.length) * bytes ≤ 140737488355328) (hbase : base ≤ w.heap.size)
    (h : ∀ ao' cap' w', KQ K e w' base (.slice ao' (l.length + M) cap') (l ++ m) → Kept (fun k => q.ownBlock = some k) w w' → Fresh w q (.slice ao' (l.length + M) cap') → C (a.put o.dst (.slice ao' (l.length + M) cap')) w') : if Region.wanted o (yielded ops a.tmps) = true then Oper.wp P o a w C Q else E := by
  subst hM
  rw [if_pos (by simp [Region.wanted, hgd])]
  cases hm : m with
  | nil =>
    subst hm
    obtain ⟨aq, cq, rfl, _, _⟩ := hq.form
    obtain ⟨_, _, eq, hlc, _⟩ := hq.row.form
    simp only [Value.slice.injEq] at eq
    obtain ⟨rfl, _, rfl⟩ := eq
    have hrun := run_append_zero (P := P) w t o.type e i ht hi aq ao l.length cq c hlc
    unfold Oper.wp
    simp [execOp, ho, resolve, invoke, builtin, hs, hx, hrun, Result.andThen]
    have hh := h aq cq w
    rw [List.append_nil] at hh
    exact hh hq (Kept.refl _ _) (Fresh.refl _ _)
  | cons y r =>
    have hpos : 0 < m.length := by rw [hm]; simp
    obtain ⟨g, off, rfl, _, _⟩ := hS.cell 0 y (by rw [hm]; rfl)
    obtain ⟨v', w', hrun, hrow, hgr, hfr⟩ := run_append_q (P := P) w t o.type e i z K.n bytes ht hi hz hsize hby hzs K.pos base q l.length (flatK K l) hq.row ⟨g, off, none⟩ m.length c (flatK K m) hpos (flatK_length K m) hS.news (flatK_one K m) h63 hbytes hbase
    obtain ⟨ao', cap', rfl, _, _⟩ := hrow.form
    have hp := hq.push (m := m) (fun x hx => hS.at_ x hx) (fun x _ b hb => absurd hb (hf x b)) hpos hrow hgr hfr
    unfold Oper.wp
    simp [execOp, ho, resolve, invoke, builtin, hs, hx, hrun, Result.andThen]
    exact h ao' cap' w' hp (Kept.of_grown hgr) hfr
end Go.Proofs.YtajpfkenhchafaaDoor

/- The program's executor: a batch done by a plan that is right, through the iterator. -/
namespace Go.Proofs.YtajpfkenhchafaaDoor
open Go Go.RowKit Go.Shelf
set_option linter.unusedVariables false
attribute [local go_sem] Oper.semAt_some

/-- One more is done. -/
def stepP (d : Nat → TxD) (a : StF × List Nat) (x : Nat) : StF × List Nat := (applyF a.1 (d x), a.2.set x (applyE a.1 (d x)))

/-- The state and the row of results when some were done, whichever and however often. -/
def pairF (d : Nat → TxD) (m : Nat) (s : StF) (σ : List Nat) : StF × List Nat := σ.foldl (stepP d) (s, List.replicate m 0)

theorem pairF_push (d : Nat → TxD) (m : Nat) (s : StF) (σ : List Nat) (x : Nat) : pairF d m s (σ ++ [x]) = stepP d (pairF d m s σ) x := by
  unfold pairF
  rw [List.foldl_append]
  rfl

theorem pairF_len (d : Nat → TxD) : ∀ (σ : List Nat) (a : StF × List Nat), (σ.foldl (stepP d) a).2.length = a.2.length
  | [], _ => rfl
  | x :: σ, a => by
    rw [List.foldl_cons, pairF_len d σ]
    exact List.length_set

theorem pairF_on {d : Nat → TxD} {m : Nat} {s : StF} : ∀ (σ τ : List Nat), (τ ++ σ).Nodup → (∀ y ∈ σ, y < m) → σ.foldl (stepP d) (runS d s τ, outL d m s τ) = (runS d s (τ ++ σ), outL d m s (τ ++ σ))
  | [], τ, _, _ => by rw [List.append_nil]; rfl
  | x :: σ, τ, h, hl => by
    have hx : x ∉ τ := fun e => (List.nodup_append.1 h).2.2 x e x List.mem_cons_self rfl
    have e1 : stepP d (runS d s τ, outL d m s τ) x = (runS d s (τ ++ [x]), outL d m s (τ ++ [x])) := by
      rw [← outL_set hx (hl x List.mem_cons_self), runS_append]
      rfl
    rw [List.foldl_cons, e1, pairF_on σ (τ ++ [x]) (by rw [List.append_assoc]; exact h) (fun y hy => hl y (List.mem_cons_of_mem _ hy)), List.append_assoc]
    rfl

theorem pairF_nodup {d : Nat → TxD} {m : Nat} {s : StF} {σ : List Nat} (h : σ.Nodup) (hl : ∀ y ∈ σ, y < m) : pairF d m s σ = (runS d s σ, outL d m s σ) := by
  have := pairF_on (d := d) (m := m) (s := s) σ [] h hl
  rw [outL_nil] at this
  exact this

/-- Numbers below m, as such. -/
theorem fins_of {m : Nat} {σ : List Nat} (h : ∀ y ∈ σ, y < m) : ∃ xs : List (Fin m), xs.map Fin.val = σ := by
  refine ⟨σ.attach.map (fun y => ⟨y.1, h y.1 y.2⟩), ?_⟩
  rw [List.map_map]
  exact List.attach_map_subtype_val σ

/-- While a plan is gone through: the executor, the row that is filled, and what the body has captured. -/
structure DX (W w : World) (x p0 g b3 b4 b7 : Nat) (T : Nat → Prop) (q : Value) (s : StF) (N : Nat) (r : List Nat) (n m : Nat) (out : List Nat) (lo : Option Addr) (lc : Nat) : Prop where
  box : Arr w x 56 [.pointer (some ⟨p0, 0, none⟩), q, .int .i64 (n : Int)]
  st : PS w p0 T s N
  rs : KQ natK 3 w 0 q r
  out : KQ natK 3 w W.heap.size (.slice (some ⟨g, 0, none⟩) m m) out
  a3 : Arr w b3 31 [.pointer (some ⟨x, 0, none⟩)]
  a4 : Arr w b4 24 [.slice lo m lc]
  a7 : Arr w b7 25 [.slice (some ⟨g, 0, none⟩) m m]
  kp : Kept T W w

/-- Where they lie: all apart, all below B. -/
structure DA (W : World) (x g b3 b4 b7 : Nat) (T : Nat → Prop) (q : Value) (B : Nat) : Prop where
  tx : ¬ T x
  tq : ∀ k, q.ownBlock = some k → k ≠ x ∧ ¬ T k ∧ k < W.heap.size
  lx : x < W.heap.size
  lT : ∀ k, T k → k < W.heap.size
  gg : W.heap.size ≤ g ∧ g < B
  g3 : W.heap.size ≤ b3 ∧ b3 < B ∧ b3 ≠ g
  g4 : W.heap.size ≤ b4 ∧ b4 < B ∧ b4 ≠ g
  g7 : W.heap.size ≤ b7 ∧ b7 < B ∧ b7 ≠ g
  lB : W.heap.size ≤ B

section
variable {W w w' : World} {x p0 g b3 b4 b7 n m N N' B z : Nat} {T Z : Nat → Prop} {q : Value} {s s' : StF} {r out : List Nat} {lo : Option Addr} {lc : Nat}

theorem own_g {k : Nat} (e : (Value.slice (some ⟨g, 0, none⟩) m m).ownBlock = some k) : k = g := by
  have : g = k := by simpa [Value.ownBlock] using e
  exact this.symm

/-- Blocks at or beyond B turn. -/
theorem DX.beyond (h : DX W w x p0 g b3 b4 b7 T q s N r n m out lo lc) (ha : DA W x g b3 b4 b7 T q B) (hk : Kept Z w w') (hZ : ∀ k, Z k → B ≤ k) : DX W w' x p0 g b3 b4 b7 T q s N r n m out lo lc := by
  have hB := ha.lB
  have hx := ha.lx
  have n0 : ∀ k, k < B → ¬ Z k := fun k h1 h2 => by have := hZ k h2; omega
  refine ⟨h.box.kept hk (n0 x (by omega)), h.st.kept hk (fun k e => n0 k (by have := ha.lT k e; omega)), h.rs.kept hk (fun k e => n0 k (by have := (ha.tq k e).2.2; omega)) (fun _ _ _ h => h.elim), h.out.kept hk (fun k e => by rw [own_g e]; exact n0 g ha.gg.2) (fun _ _ _ h => h.elim), h.a3.kept hk (n0 _ ha.g3.2.1), h.a4.kept hk (n0 _ ha.g4.2.1), h.a7.kept hk (n0 _ ha.g7.2.1), Kept.transNew h.kp hk (fun k e => by have := hZ k e; omega)⟩

/-- One is done. -/
theorem DX.apply (h : DX W w x p0 g b3 b4 b7 T q s N r n m out lo lc) (ha : DA W x g b3 b4 b7 T q B) (hp : PS w' p0 T s' N') (hk : Kept T w w') : DX W w' x p0 g b3 b4 b7 T q s' N' r n m out lo lc := by
  have hT := ha.lT
  have n0 : ∀ k, W.heap.size ≤ k → ¬ T k := fun k h1 h2 => by have := hT k h2; omega
  exact ⟨h.box.kept hk ha.tx, hp, h.rs.kept hk (fun k e => (ha.tq k e).2.1) (fun _ _ _ h => h.elim), h.out.kept hk (fun k e => by rw [own_g e]; exact n0 g ha.gg.1) (fun _ _ _ h => h.elim), h.a3.kept hk (n0 _ ha.g3.1), h.a4.kept hk (n0 _ ha.g4.1), h.a7.kept hk (n0 _ ha.g7.1), h.kp.trans hk⟩

/-- Its answer is written down. -/
theorem DX.put (h : DX W w x p0 g b3 b4 b7 T q s N r n m out lo lc) (ha : DA W x g b3 b4 b7 T q B) {u : Nat} (hu : out[z]? = some u) (v : Nat) :
    w.cell? ⟨g, z, none⟩ = some (.int .i64 (u : Int)) ∧ w.frozen? ⟨g, z, none⟩ = false ∧ DX W (w.setCell ⟨g, z, none⟩ (.int .i64 (v : Int))) x p0 g b3 b4 b7 T q s N r n m (out.set z v) lo lc := by
  obtain ⟨h1, h2, h3, h4, h5⟩ := h.out.natSet hu
  simp only [Nat.zero_add] at h1 h2 h5
  have hk := Kept.setCell w ⟨g, z, none⟩ (.int .i64 (v : Int))
  have hx := ha.lx
  have hg := ha.gg.1
  refine ⟨h1, h2, h.box.kept hk (fun e => by have e3 : x = g := e; omega), h.st.kept hk (fun k e e2 => by have e3 : k = g := e2; have := ha.lT k e; omega), h.rs.kept hk (fun k e e2 => by have e3 : k = g := e2; have := (ha.tq k e).2.2; omega) (fun _ _ _ h => h.elim), h5 v, h.a3.kept hk ha.g3.2.2, h.a4.kept hk ha.g4.2.2, h.a7.kept hk ha.g7.2.2, Kept.transNew h.kp hk (fun k e => by rw [show k = g from e]; exact hg)⟩
end

set_option maxRecDepth 100000 in
set_option maxHeartbeats 2000000 in
theorem turns_any (po : Option Addr) (len pc : Nat) (w : World) :
    Calls Tryd.prog 46 #[.slice po len pc] w fun e w' => e = .returned (.func (.func 59) #[] #[.pointer (some ⟨w.heap.size, 0, none⟩)]) ∧ w' = w.alloc (.cells #[.slice po len pc] 29) := by
  go_enter Tryd.func46, Tryd.ntmps46
  go_wp2_with fail
  go_ret
  exact ⟨rfl, rfl⟩

set_option maxRecDepth 100000 in
set_option maxHeartbeats 4000000 in
theorem exDo_any (l : List TxM) (lo : Option Addr) (lc : Nat) (p : List IRow) (po : Option Addr) (pc : Nat) (W : World) (hl : RowsM W lo l) (hp : RowAt irowK W po p) (hpf : RowsFit p) (x : Nat) (S : Nat → Prop) (s : StF) (N : Nat) (r : List Nat) (n : Nat) (h : PX W x S s N r n)
    (hz : chkN ((l.map TxM.d).map TxD.rw) (lsP p) = 0) (dl : ∀ b, rowFoot txK lo l b → ¬ S b) (dp : ∀ b, rowFoot irowK po p b → ¬ S b) (hN : N + 2 * l.length ≤ 100000) (hr : r.length ≤ 100000) (hn : n ≤ 100000) :
    Calls Tryd.prog 25 #[.pointer (some ⟨x, 0, none⟩), .slice lo l.length lc, .slice po p.length pc] W fun e w' => GotRun PX W x S (l.map TxM.d) s N r n e w' := by
  have hl1 := hl.len
  obtain ⟨hnd, hin, hlen, hrng⟩ := plan_nums hz
  obtain ⟨ho1, ho2⟩ := plan_out hz s
  rw [List.length_map] at hin hlen hrng ho1
  obtain ⟨xs, hxs⟩ := fins_of hin
  have hpr := pairF_nodup (d := dAt (l.map TxM.d)) (s := s) hnd hin
  rw [ho1, ho2] at hpr
  have hpos : ∀ (k : Nat) (r : List Int), (lsP p)[k]? = some r → ∀ x ∈ r, 0 ≤ x := fun k r h x hx => (hrng k r h x hx).1
  have hxl : xs.length = l.length := by rw [← List.length_map (f := Fin.val), hxs, hlen]
  have hdx : ∀ (i : Nat) (t : TxM), l[i]? = some t → dAt (l.map TxM.d) i = t.d := fun i t e => dAt_get (by rw [List.getElem?_map, e]; rfl)
  obtain ⟨p0, T, q, hbx, hst, hrs, hTx, hTq, hTS⟩ := h.ex
  have hlS := h.lt
  obtain ⟨w2, hms, hQ2, hB2, hs2⟩ := make_nats 25 Tryd.underlying25 l.length (by omega) ((W.alloc (.cells #[.pointer (some ⟨x, 0, none⟩)] 31)).alloc (.cells #[.slice lo l.length lc] 24))
  have ha3 := ((Arr.new W 31 [.pointer (some ⟨x, 0, none⟩)]).alloc (.cells #[.slice lo l.length lc] 24))
  have ha4 := Arr.new (W.alloc (.cells #[.pointer (some ⟨x, 0, none⟩)] 31)) 24 [.slice lo l.length lc]
  have hb0 := (belowNew W (.cells #[.pointer (some ⟨x, 0, none⟩)] 31)).alloc (by rw [alloc_size]; omega) (.cells #[.slice lo l.length lc] 24)
  have hA3 : Arr w2 W.heap.size 31 [.pointer (some ⟨x, 0, none⟩)] := Arr.below ha3 hB2 ha3.lt
  have hA4 : Arr w2 (W.heap.size + 1) 24 [.slice lo l.length lc] := by
    have := Arr.below ha4 hB2 ha4.lt
    rw [alloc_size] at this
    exact this
  have hbW2 : Below W.heap.size W w2 := hb0.trans (hB2.mono hb0.size)
  rw [alloc_size, alloc_size] at hQ2 hms hs2
  clear ha3 ha4 hb0 hB2
  refine (callsIn_wide (n := 6)).1 ?_
  refine callsIn_of_wp_marks Tryd.func25 rfl trivial ?_ rfl
  simp only [Tryd.ntmps25, List.size_toArray, List.length_cons, List.length_nil, Nat.reduceAdd, Nat.reduceSub, Array.replicate_succ, Array.replicate_zero, List.push_toArray, List.append_toArray, List.nil_append, List.cons_append]
  gi_wp2_with (refine ⟨trivial, ?_⟩; gi_at_call 46; refine (callsIn_wide.2 (turns_any po p.length pc _)).mono ?_; rintro _ w4 ⟨rfl, rfl⟩)
  have ha7 := (Arr.new w2 25 [.slice (some ⟨W.heap.size + 1 + 1, 0, none⟩) l.length l.length]).alloc (.cells #[.slice po p.length pc] 29)
  have ha8 := Arr.new (w2.alloc (.cells #[.slice (some ⟨W.heap.size + 1 + 1, 0, none⟩) l.length l.length] 25)) 29 [.slice po p.length pc]
  have hb3 := (belowNew w2 (.cells #[.slice (some ⟨W.heap.size + 1 + 1, 0, none⟩) l.length l.length] 25)).alloc (by rw [alloc_size]; omega) (.cells #[.slice po p.length pc] 29)
  rw [alloc_size] at ha8
  have hsz : ((w2.alloc (.cells #[.slice (some ⟨W.heap.size + 1 + 1, 0, none⟩) l.length l.length] 25)).alloc (.cells #[.slice po p.length pc] 29)).heap.size = w2.heap.size + 1 + 1 := by rw [alloc_size, alloc_size]
  obtain ⟨w3, hw3⟩ : ∃ q, ((w2.alloc (.cells #[.slice (some ⟨W.heap.size + 1 + 1, 0, none⟩) l.length l.length] 25)).alloc (.cells #[.slice po p.length pc] 29)) = q := ⟨_, rfl⟩
  replace ha7 : Arr w3 w2.heap.size 25 [.slice (some ⟨W.heap.size + 1 + 1, 0, none⟩) l.length l.length] := by rw [← hw3]; exact ha7
  replace ha8 : Arr w3 (w2.heap.size + 1) 29 [.slice po p.length pc] := by rw [← hw3]; exact ha8
  replace hb3 : Below w2.heap.size w2 w3 := by rw [← hw3]; exact hb3
  replace hsz : w3.heap.size = w2.heap.size + 1 + 1 := by rw [← hw3]; exact hsz
  rw [hw3]
  have hbW3 := hbW2.trans (hb3.mono hbW2.size)
  have hg2 := hQ2.lt _ rfl
  have hxW : x < W.heap.size := hlS x (hTS x (Or.inl rfl))
  have hTW : ∀ k, T k → k < W.heap.size := fun k e => hlS k (hTS k (Or.inr (Or.inl e)))
  have hDA : DA W x (W.heap.size + 1 + 1) W.heap.size (W.heap.size + 1) w2.heap.size T q w3.heap.size :=
    ⟨hTx, fun k e => ⟨(hTq k e).1, (hTq k e).2, hlS k (hTS k (Or.inr (Or.inr e)))⟩, hxW, hTW, ⟨by omega, by omega⟩, ⟨by omega, by omega, by omega⟩, ⟨by omega, by omega, by omega⟩, ⟨by omega, by omega, by omega⟩, by omega⟩
  have hDX : DX W w3 x p0 (W.heap.size + 1 + 1) W.heap.size (W.heap.size + 1) w2.heap.size T q s N r n l.length (List.replicate l.length 0) lo lc :=
    ⟨hbx.below hbW3 hbx.lt, hst.below hbW3, hrs.below hbW3, (hQ2.rebase (show W.heap.size ≤ W.heap.size + 1 + 1 by omega)).below hb3, hA3.below hb3 hA3.lt, hA4.below hb3 hA4.lt, ha7, Kept.of_below hbW3⟩
  generalize hD : l.map TxM.d = D at *
  generalize hgg : W.heap.size + 1 + 1 = g at hDA hDX ha7 ⊢
  generalize hb4 : W.heap.size + 1 = b4 at hDA hDX ⊢
  generalize hb7 : w2.heap.size = b7 at hDA hDX ha7 ha8 ⊢
  have hdp : ∀ b, rowFoot irowK po p b → ¬ (T b ∨ W.heap.size ≤ b) := fun b hb e => by
    rcases e with e | e
    · exact dp b hb (hTS b (Or.inr (Or.inl e)))
    · have := hp.lt hb; omega
  refine wpIn_rangeFunc_ownG rfl (by omega) (gf := 59) (lb := #[.pointer (some ⟨b7 + 1, 0, none⟩)]) rfl trivial (enters_of Tryd.func59 (by kernel_rfl) rfl)
    (encs := fun x : Fin l.length => #[.int .i64 (x.val : Int)]) (Kp := fun A C => Kept (fun k => T k ∨ W.heap.size ≤ k) A C) (S := fun ys => ys = xs) (Sp := fun pre => pre <+: xs) (N := xs.length) (w0 := w3)
    (fun l' J Jx W' hb hJ hJx hY h0 => iterRows_in Fence.wide _ trivial rfl (by omega) l' (b7 + 1) _ po pc p hpf xs hxs hpos J Jx hY W' ((ha8.below hb ha8.lt).cell (i := 0) rfl) (hp.below (hbW3.trans (hb.mono hbW3.size))) hdp h0)
    (fun h k => h.trans k)
    (fun W' l' o o' hle ho _ _ => (Kept.of_grown (grownBy_putObj' W' l' o')).mono (fun k _ e => by cases e; exact Or.inr (by have := hDA.lB; omega)))
    (Below.refl _ _) (fun _ => rfl)
    (fun pre w => DX W w x p0 g W.heap.size b4 b7 T q (pairF (dAt D) l.length s (pre.map Fin.val)).1 (N + 2 * pre.length) r n l.length (pairF (dAt D) l.length s (pre.map Fin.val)).2 lo lc)
    (fun _ _ _ => False)
    (fun pre A C row hs hg hr => hs.beyond hDA (Kept.of_grown hg) (fun k e => (hr k e).1))
    (fun _ _ _ _ _ hs _ _ => hs) hDX
    (fun y => { tmps := #[.pointer (some ⟨x, 0, none⟩), .slice lo l.length lc, .slice po p.length pc, .pointer (some ⟨W.heap.size, 0, none⟩), .pointer (some ⟨b4, 0, none⟩), undef, .slice none 0 0, .pointer (some ⟨b7, 0, none⟩), .int .i64 (y.val : Int), .slice lo l.length lc, .int .i64 (l.length : Int), .slice (some ⟨g, 0, none⟩) l.length l.length, .slice po p.length pc, .func (.func 59) #[] #[.pointer (some ⟨b7 + 1, 0, none⟩)], .int .i64 (y.val : Int), undef, undef, undef, undef, undef, undef, undef, undef, undef, undef, undef, undef, undef, undef, undef, undef, undef, undef, undef, undef, undef, undef, undef, undef, undef, undef, undef, undef, undef], defers := [] }) ?assign ?body ?done ?stop
  case assign =>
    intro l' y W' K hK
    gi_wp2
    exact hK
  case stop =>
    rintro D' c pre W' _ _ h _
    exact h.elim
  case done =>
    rintro B' ys W' hBB rfl hX hK
    simp only [hxs, hpr, hxl] at hX
    gi_wp2
    refine wpIn_wide.2 ?_
    obtain ⟨O, hO⟩ : ∃ O, Hid (execR s D = O) := ⟨_, rfl⟩
    rw [hO.out] at hX
    have hOl : O.length = l.length := by rw [← hO.out, execR_length, ← hD, List.length_map]
    have b1 := hX.box.cell (i := 1) rfl
    have b3 := hX.a3.cell (i := 0) rfl
    have b7' := hX.a7.cell (i := 0) rfl
    have m1 : r.length + O.length ≤ maxLen := by unfold maxLen; omega
    have m2 : (r.length + O.length) * 8 ≤ 140737488355328 := by omega
    obtain ⟨i0, z0, hi0, hz0, hs0, hbb0, hzs0⟩ := intInfoA
    have hXD : DX W W'.drew x p0 g W.heap.size b4 b7 T q (execS s D) (N + 2 * l.length) r n l.length O lo lc := hX.beyond (Z := fun _ => False) hDA (Kept.of_below (below_drewN (Below.refl _ _) 1)) (fun _ h => h.elim)
    have hrow : RowAt natK W'.drew (some ⟨g, 0, none⟩) O := hXD.out.rowOf.1
    have hKD : W'.drew.heap[B']? = some (.deferred (some [])) := hK
    have hkp : ∀ w', (Arr w' W.heap.size 31 [.pointer (some ⟨x, 0, none⟩)] ∧ Arr w' b7 25 [.slice (some ⟨g, 0, none⟩) l.length l.length]) → (w'.cell? ⟨W.heap.size, 0, none⟩ = some (.pointer (some ⟨x, 0, none⟩)) ∧ w'.cell? ⟨b7, 0, none⟩ = some (.slice (some ⟨g, 0, none⟩) l.length l.length)) := fun w' h => ⟨h.1.cell (i := 0) rfl, h.2.cell (i := 0) rfl⟩
    have hKp0 : Arr W'.drew W.heap.size 31 [.pointer (some ⟨x, 0, none⟩)] ∧ Arr W'.drew b7 25 [.slice (some ⟨g, 0, none⟩) l.length l.length] := ⟨hXD.a3, hXD.a7⟩
    clear hX
    have hS0 := hkp _ hKp0
    refine wp_region_noPanic ?_
    refine wp_region_held (S := fun w' => (w'.cell? ⟨W.heap.size, 0, none⟩ = some (.pointer (some ⟨x, 0, none⟩)) ∧ w'.cell? ⟨b7, 0, none⟩ = some (.slice (some ⟨g, 0, none⟩) l.length l.length))) (by kernel_rfl) ?_
    show wpAnyH _ _ _ _ _ 10 (Array.replicate 10 false) _ W'.drew
    refine wpAnyH_takeD (i := 0) (v := ?_) (some 27) rfl rfl (by kernel_rfl) (by kernel_rfl) (by kernel_rfl) (fun _ _ _ h => h) (Or.inl ⟨by rfl, ?_⟩) (by assumption) ?_
    rotate_left 1
    · intro w' hSw
      (try dsimp only at hSw)
      go_simp
      first | done | with_reducible rfl
    simp only [Act.put, List.setIfInBounds_toArray, List.set_cons_zero, List.set_cons_succ]
    refine wpAnyH_takeD (i := 1) (v := ?_) (some 28) rfl rfl (by kernel_rfl) (by kernel_rfl) (by kernel_rfl) (fun _ _ _ h => h) (Or.inl ⟨by rfl, ?_⟩) (by assumption) ?_
    rotate_left 1
    · intro w' hSw
      (try dsimp only at hSw)
      go_simp
      first | done | with_reducible rfl
    simp only [Act.put, List.setIfInBounds_toArray, List.set_cons_zero, List.set_cons_succ]
    refine wpAnyH_takeD (i := 2) (v := ?_) (some 29) rfl rfl (by kernel_rfl) (by kernel_rfl) (by kernel_rfl) (fun _ _ _ h => h) (Or.inl ⟨by rfl, ?_⟩) (by assumption) ?_
    rotate_left 1
    · intro w' hSw
      (try dsimp only at hSw)
      go_simp
      first | done | with_reducible rfl
    simp only [Act.put, List.setIfInBounds_toArray, List.set_cons_zero, List.set_cons_succ]
    refine wpAnyH_takeD (i := 3) (v := ?_) (some 30) rfl rfl (by kernel_rfl) (by kernel_rfl) (by kernel_rfl) (fun _ _ _ h => h) (Or.inl ⟨by rfl, ?_⟩) (by assumption) ?_
    rotate_left 1
    · intro w' hSw
      (try dsimp only at hSw)
      go_simp
      first | done | with_reducible rfl
    simp only [Act.put, List.setIfInBounds_toArray, List.set_cons_zero, List.set_cons_succ]
    refine wpAnyH_takeD (i := 5) (v := ?_) (some 32) rfl rfl (by kernel_rfl) (by kernel_rfl) (by kernel_rfl) (fun _ _ _ h => h) (Or.inl ⟨by rfl, ?_⟩) (by assumption) ?_
    rotate_left 1
    · intro w' hSw
      (try dsimp only at hSw)
      go_simp
      first | done | with_reducible rfl
    simp only [Act.put, List.setIfInBounds_toArray, List.set_cons_zero, List.set_cons_succ]
    refine wpAnyH_oneD (i := 4) (some 31) (by kernel_rfl) rfl rfl rfl (fun K' hK' => ?_)
    replace hK' : Hid _ := hK'
    go_simp
    refine hK'.out q _ hS0 ?_
    clear hK' K'
    simp only [Act.put, List.setIfInBounds_toArray, List.set_cons_zero, List.set_cons_succ]
    refine wpAnyH_stepD (i := 6) (some 33) (by kernel_rfl) rfl rfl (fun K' hK' => ?_)
    replace hK' : Hid _ := hK'
    refine step_joins23 (K := natK) _ (by rfl) _ _ 25 (by rfl) 0 3 i0 _ 8 Tryd.underlying25 hi0 hz0 hs0 hbb0 hzs0 _ r O (by rfl) hXD.rs (fun _ _ h => h.elim) (some ⟨g, 0, none⟩) l.length l.length hOl.symm (by rfl) hrow m1 m2 (Nat.zero_le _) ?_
    intro ao3 cap3 w6 hQ6 hk6 hf6
    have hbx6 := hXD.box.kept hk6 (fun e => (hDA.tq x e).1 rfl)
    have d1 := hbx6.cell (i := 1) rfl
    have e1 := hbx6.frozen 1
    have h36 := hXD.a3.kept hk6 (fun e => by have := (hDA.tq _ e).2.2; omega)
    have h76 := hXD.a7.kept hk6 (fun e => by have := (hDA.tq _ e).2.2; have := hDA.g7.1; omega)
    have hS6 := hkp _ ⟨h36, h76⟩
    have kS := Kept.setCell w6 ⟨x, 1, none⟩ (.slice ao3 (r.length + l.length) cap3)
    have hKp7 : Arr (w6.setCell ⟨x, 1, none⟩ (.slice ao3 (r.length + l.length) cap3)) W.heap.size 31 [.pointer (some ⟨x, 0, none⟩)] ∧ Arr (w6.setCell ⟨x, 1, none⟩ (.slice ao3 (r.length + l.length) cap3)) b7 25 [.slice (some ⟨g, 0, none⟩) l.length l.length] := ⟨h36.kept kS (fun e => by have e2 : W.heap.size = x := e; omega), h76.kept kS (fun e => by have e2 : b7 = x := e; have := hDA.g7.1; omega)⟩
    have hS7 := hkp _ hKp7
    refine hK'.out _ _ hS6 ?_
    clear hK' K'
    simp only [Act.put, List.setIfInBounds_toArray, List.set_cons_zero, List.set_cons_succ]
    refine wpAnyH_takeD (i := 7) (v := ?_) (some 34) rfl rfl (by kernel_rfl) (by kernel_rfl) (by kernel_rfl) (fun _ _ _ h => h) (Or.inl ⟨by rfl, ?_⟩) (by assumption) ?_
    rotate_left 1
    · intro w' hSw
      (try dsimp only at hSw)
      go_simp
      first | done | with_reducible rfl
    simp only [Act.put, List.setIfInBounds_toArray, List.set_cons_zero, List.set_cons_succ]
    refine wpAnyH_takeD (i := 8) (v := ?_) (some 35) rfl rfl (by kernel_rfl) (by kernel_rfl) (by kernel_rfl) (fun _ _ _ h => h) (Or.inl ⟨by rfl, ?_⟩) (by assumption) ?_
    rotate_left 1
    · intro w' hSw
      (try dsimp only at hSw)
      go_simp
      first | done | with_reducible rfl
    simp only [Act.put, List.setIfInBounds_toArray, List.set_cons_zero, List.set_cons_succ]
    refine wpAnyH_oneD (i := 9) none (by kernel_rfl) rfl rfl rfl (fun K' hK' => ?_)
    replace hK' : Hid _ := hK'
    go_simp
    refine hK'.out undef _ hS7 ?_
    clear hK' K'
    refine wpAnyH_done (by kernel_rfl) ?_ _
    refine NoPanic.normal ?_
    focus
      have hbx7 := hbx6.set 1 (.slice ao3 (r.length + l.length) cap3)
      have g3 := hKp7.1.cell (i := 0) rfl
      have g7 := hKp7.2.cell (i := 0) rfl
      have x2 := hbx7.cell (i := 2) rfl
      have y2 := hbx7.frozen 2
      gi_wp2
      have hDl : D.length = l.length := by rw [← hD, List.length_map]
      have hlB := hDA.lB
      have hkq : Kept (fun k => q.ownBlock = some k) W'.drew w6 := hk6
      have hfq : Fresh W'.drew q (.slice ao3 (r.length + l.length) cap3) := hf6
      have hBl : B' < W'.drew.heap.size := (Array.getElem?_eq_some_iff.1 hKD).1
      have hKE : w6.heap[B']? = some (.deferred (some [])) := by
        rw [hkq.block B' hBl (fun e => by have := (hDA.tq _ e).2.2; omega)]
        exact hKD
      have hBl6 : B' < w6.heap.size := (Array.getElem?_eq_some_iff.1 hKE).1
      have hkF : Kept (fun k => k = x) w6 ((w6.setCell ⟨x, 1, none⟩ (.slice ao3 (r.length + l.length) cap3)).setCell ⟨x, 2, none⟩ (.int .i64 ((n : Int) + 1))) := (Kept.setCell w6 ⟨x, 1, none⟩ _).set (p := ⟨x, 2, none⟩) rfl _
      have hbx8 : Arr ((w6.setCell ⟨x, 1, none⟩ (.slice ao3 (r.length + l.length) cap3)).setCell ⟨x, 2, none⟩ (.int .i64 ((n : Int) + 1))) x 56 [.pointer (some ⟨p0, 0, none⟩), .slice ao3 (r.length + l.length) cap3, .int .i64 ((n + 1 : Nat) : Int)] := hbx7.set 2 (.int .i64 ((n : Int) + 1))
      generalize (w6.setCell ⟨x, 1, none⟩ (.slice ao3 (r.length + l.length) cap3)).setCell ⟨x, 2, none⟩ (.int .i64 ((n : Int) + 1)) = wF at hkF hbx8 ⊢
      have hKF : wF.heap[B']? = some (.deferred (some [])) := by
        rw [hkF.block B' hBl6 (fun e => by omega)]
        exact hKE
      refine ⟨by simp, .inl ⟨_, _, rfl, run_takeDeferred hKF, ?_⟩⟩
      have hkP : Kept (fun k => k = B') wF (wF.putObj B' (.deferred none)) := (Kept.of_grown (grownBy_putObj' wF B' (.deferred none))).mono (fun k _ e => by cases e; rfl)
      have hVx : ∀ k, (Value.slice ao3 (r.length + l.length) cap3).ownBlock = some k → k ≠ x ∧ ¬ T k ∧ (S k ∨ W.heap.size ≤ k) ∧ k ≠ g ∧ k ≠ B' := fun k e => by
        rcases hfq k e with h | h
        · have h2 := hDA.tq k h
          exact ⟨h2.1, h2.2.1, Or.inl (hTS k (Or.inr (Or.inr h))), by omega, by omega⟩
        · have h1 := hXD.kp.size
          have h3 := (hXD.out.lt g rfl).2
          exact ⟨by omega, fun e => by have := hDA.lT k e; omega, Or.inr (by omega), by omega, by omega⟩
      have hgg := hDA.gg
      have hstP : PS (wF.putObj B' (.deferred none)) p0 T (execS s D) (N + 2 * l.length) := ((hXD.st.kept hkq (fun k e e2 => (hDA.tq k e2).2.1 e)).kept hkF (fun k e e2 => hTx (by rw [← show k = x from e2]; exact e))).kept hkP (fun k e e2 => by have := hDA.lT k e; have e3 : k = B' := e2; omega)
      have hQP := ((hQ6.kept hkF (fun k e e2 => (hVx k e).1 e2) (fun _ _ _ h => h.elim))).kept hkP (fun k e e2 => (hVx k e).2.2.2.2 e2) (fun _ _ _ h => h.elim)
      have hOP := ((hXD.out.kept hkq (fun k e e2 => by have := (hDA.tq k e2).2.2; rw [own_g e] at this; omega) (fun _ _ _ h => h.elim)).kept hkF (fun k e e2 => by rw [own_g e] at e2; have e3 : g = x := e2; omega) (fun _ _ _ h => h.elim)).kept hkP (fun k e e2 => by rw [own_g e] at e2; have e3 : g = B' := e2; omega) (fun _ _ _ h => h.elim)
      have hbxP := hbx8.kept hkP (fun e => by have e3 : x = B' := e; omega)
      have hkAll : Kept S W (wF.putObj B' (.deferred none)) := Kept.transNew (((hXD.kp.mono (fun k _ e => hTS k (Or.inr (Or.inl e)))).trans (hkq.mono (fun k _ e => hTS k (Or.inr (Or.inr e))))).trans (hkF.mono (fun k _ e => by rw [show k = x from e]; exact hTS x (Or.inl rfl)))) hkP (fun k e => by rw [show k = B' from e]; omega)
      generalize wF.putObj B' (.deferred none) = wP at hstP hQP hOP hbxP hkAll ⊢
      refine ⟨_, results_tmp (t := 6) rfl _ _ _, ?_⟩
      refine ⟨some ⟨g, 0, none⟩, l.length, fun k => k = x ∨ T k ∨ (Value.slice ao3 (r.length + l.length) cap3).ownBlock = some k, by rw [hDl]; rfl, ?_, ?_, fun k e => ?_, fun k e e2 => ?_, hkAll⟩
      · rw [hDl, hO.out]; exact hOP
      · rw [hDl, hO.out]
        refine ⟨⟨p0, T, _, hbxP, hstP, hQP, hTx, fun k e => ⟨(hVx k e).1, (hVx k e).2.1⟩, fun k e => e⟩, fun k e => ?_⟩
        rcases e with e | e | e
        · rw [e]; exact hbxP.lt
        · exact hstP.lt e
        · exact (hQP.lt k e).2
      · rcases e with e | e | e
        · exact Or.inl (by rw [e]; exact hTS x (Or.inl rfl))
        · exact Or.inl (hTS k (Or.inr (Or.inl e)))
        · exact (hVx k e).2.2.1
      · have e3 : k = g := by
          have e4 : g = k := by simpa [Value.ownBlock] using e
          exact e4.symm
        rw [e3] at e2
        rcases e2 with e2 | e2 | e2
        · omega
        · have := hDA.lT g e2; omega
        · exact (hVx g e2).2.2.2.1 rfl
  case body =>
    rintro l' pre yf W' hX hlt
    have hFin : ∀ (a : Act) (w' : World), KeepsFrom w3.heap.size W' w' → Kept (fun k => T k ∨ W.heap.size ≤ k) W' w' → DX W w' x p0 g W.heap.size b4 b7 T q (applyF (pairF (dAt D) l.length s (pre.map Fin.val)).1 (dAt D yf.val)) (N + 2 * pre.length + 2) r n l.length ((pairF (dAt D) l.length s (pre.map Fin.val)).2.set yf.val (applyE (pairF (dAt D) l.length s (pre.map Fin.val)).1 (dAt D yf.val))) lo lc → ownPostG w3.heap.size (fun A C => Kept (fun k => T k ∨ W.heap.size ≤ k) A C) (fun pre w => DX W w x p0 g W.heap.size b4 b7 T q (pairF (dAt D) l.length s (pre.map Fin.val)).1 (N + 2 * pre.length) r n l.length (pairF (dAt D) l.length s (pre.map Fin.val)).2 lo lc) (fun _ _ _ => False) (pre ++ [yf]) W' .normal a w' := by
      intro a w' h1 h2 h3
      refine ⟨h1, h2, ?_⟩
      have e1 : (pre ++ [yf]).map Fin.val = pre.map Fin.val ++ [yf.val] := by rw [List.map_append]; rfl
      have e2 : N + 2 * (pre ++ [yf]).length = N + 2 * pre.length + 2 := by rw [List.length_append, List.length_singleton]; omega
      show DX W w' x p0 g W.heap.size b4 b7 T q (pairF (dAt D) l.length s ((pre ++ [yf]).map Fin.val)).1 (N + 2 * (pre ++ [yf]).length) r n l.length (pairF (dAt D) l.length s ((pre ++ [yf]).map Fin.val)).2 lo lc
      rw [e1, e2, pairF_push]
      exact h3
    have hQp : ∀ c (a : Act) (w' : World), ¬ ownPostG w3.heap.size (fun A C => Kept (fun k => T k ∨ W.heap.size ≤ k) A C) (fun pre w => DX W w x p0 g W.heap.size b4 b7 T q (pairF (dAt D) l.length s (pre.map Fin.val)).1 (N + 2 * pre.length) r n l.length (pairF (dAt D) l.length s (pre.map Fin.val)).2 lo lc) (fun _ _ _ => False) (pre ++ [yf]) W' (.panic c) a w' := fun _ _ _ h => h
    have hQo : ∀ (a : Act) (w' : World), ¬ ownPostG w3.heap.size (fun A C => Kept (fun k => T k ∨ W.heap.size ≤ k) A C) (fun pre w => DX W w x p0 g W.heap.size b4 b7 T q (pairF (dAt D) l.length s (pre.map Fin.val)).1 (N + 2 * pre.length) r n l.length (pairF (dAt D) l.length s (pre.map Fin.val)).2 lo lc) (fun _ _ _ => False) (pre ++ [yf]) W' .outgrown a w' := fun _ _ h => h
    generalize ownPostG w3.heap.size (fun A C => Kept (fun k => T k ∨ W.heap.size ≤ k) A C) (fun pre w => DX W w x p0 g W.heap.size b4 b7 T q (pairF (dAt D) l.length s (pre.map Fin.val)).1 (N + 2 * pre.length) r n l.length (pairF (dAt D) l.length s (pre.map Fin.val)).2 lo lc) (fun _ _ _ => False) (pre ++ [yf]) W' = Q at hFin hQp hQo ⊢
    obtain ⟨y, hyl⟩ := yf
    dsimp only at hFin ⊢
    obtain ⟨tx, htx⟩ : ∃ t, l[y]? = some t := ⟨_, List.getElem?_eq_getElem hyl⟩
    have hfit := hl.fit tx (List.mem_of_getElem? htx)
    have hTS' : ∀ b, rowFoot txK lo l b → ¬ T b := fun b hb e => dl b hb (hTS b (Or.inr (Or.inl e)))
    obtain ⟨bl, ol, hlo, hbl, -, -, -, -, -, -, -, -, -, hA⟩ := (hl.row.kept hX.kp hTS').tx22 htx
    have hpl : pre.length < l.length := by omega
    have hol : (pairF (dAt D) l.length s (pre.map Fin.val)).2.length = l.length := by unfold pairF; rw [pairF_len, List.length_replicate]
    rw [hdx y tx htx] at hFin
    generalize (pairF (dAt D) l.length s (pre.map Fin.val)).1 = s1 at *
    generalize (pairF (dAt D) l.length s (pre.map Fin.val)).2 = o1 at *
    obtain ⟨u1, hu1⟩ : ∃ u, o1[y]? = some u := ⟨_, List.getElem?_eq_getElem (by omega)⟩
    have hNp : N + 2 * pre.length ≤ 100000 := by omega
    generalize N + 2 * pre.length = N1 at *
    have hkp : ∀ w', Kept T W w' ∧ Arr w' x 56 [.pointer (some ⟨p0, 0, none⟩), q, .int .i64 (n : Int)] ∧ Arr w' W.heap.size 31 [.pointer (some ⟨x, 0, none⟩)] ∧ Arr w' b4 24 [.slice lo l.length lc] ∧ Arr w' b7 25 [.slice (some ⟨g, 0, none⟩) l.length l.length] → (w'.cell? ⟨W.heap.size, 0, none⟩ = some (.pointer (some ⟨x, 0, none⟩)) ∧ w'.cell? ⟨b4, 0, none⟩ = some (.slice (some ⟨bl, ol, none⟩) l.length lc) ∧ w'.cell? ⟨b7, 0, none⟩ = some (.slice (some ⟨g, 0, none⟩) l.length l.length) ∧ w'.cell? ⟨x, 0, none⟩ = some (.pointer (some ⟨p0, 0, none⟩)) ∧ w'.cell? ⟨bl, ol + y * 9, none⟩ = some (.int .i64 tx.d.kind) ∧ w'.cell? ⟨bl, ol + y * 9 + 1, none⟩ = some (.string tx.d.frm) ∧ w'.cell? ⟨bl, ol + y * 9 + 2, none⟩ = some (.string tx.d.to) ∧ w'.cell? ⟨bl, ol + y * 9 + 3, none⟩ = some (.int .u64 (tx.d.amt : Int)) ∧ w'.cell? ⟨bl, ol + y * 9 + 4, none⟩ = some (.int .u64 (tx.d.non : Int)) ∧ w'.cell? ⟨bl, ol + y * 9 + 5, none⟩ = some (.string tx.d.key) ∧ w'.cell? ⟨bl, ol + y * 9 + 6, none⟩ = some (.string tx.d.val) ∧ w'.cell? ⟨bl, ol + y * 9 + 7, none⟩ = some (.slice tx.ra tx.d.rs.length tx.rc) ∧ w'.cell? ⟨bl, ol + y * 9 + 8, none⟩ = some (.slice tx.wa tx.d.ws.length tx.wc)) := fun w' h => by
      obtain ⟨h1, h2, h3, h4, h5⟩ := h
      obtain ⟨bl', ol', e3, _, z0, z1, z2, z3, z4, z5, z6, z7, z8, _⟩ := (hl.row.kept h1 hTS').tx22 htx
      have c4 := h4.cell (i := 0) rfl
      rw [hlo] at e3 c4
      simp only [Option.some.injEq, Addr.mk.injEq, and_true] at e3
      obtain ⟨rfl, rfl⟩ := e3
      exact ⟨h3.cell (i := 0) rfl, c4, h5.cell (i := 0) rfl, h2.cell (i := 0) rfl, z0, z1, z2, z3, z4, z5, z6, z7, z8⟩
    have hXD : DX W W'.drew x p0 g W.heap.size b4 b7 T q s1 N1 r n l.length o1 lo lc := hX.beyond (Z := fun _ => False) hDA (Kept.of_below (below_drewN (Below.refl _ _) 1)) (fun _ h => h.elim)
    have hS0 := hkp _ ⟨hXD.kp, hXD.box, hXD.a3, hXD.a4, hXD.a7⟩
    have hAD : tx.At W'.drew := txK.kept (S := fun _ => False) hA (Kept.of_below (below_drewN (Below.refl _ _) 1)) (fun _ _ h => h)
    have cA := apply_any tx W'.drew hAD hfit.1 hfit.2.2 p0 T N1 s1 hXD.st (by omega)
    unfold TxM.v txV at cA
    have i1 : (y : Int) < (l.length : Int) := by omega
    have i2 : ¬ (y : Int) < 0 := by omega
    have i3 : (0 : Int) ≤ (y : Int) := by omega
    gi_wp2
    have hQp' : ∀ c (a : Act) (w' : World), ¬ (Exit.inBlock 1 Q) (.panic c) a w' := fun c a w' h => hQp c a w' h
    refine wpIn_region_round (fun w' => (w'.cell? ⟨W.heap.size, 0, none⟩ = some (.pointer (some ⟨x, 0, none⟩)) ∧ w'.cell? ⟨b4, 0, none⟩ = some (.slice (some ⟨bl, ol, none⟩) l.length lc) ∧ w'.cell? ⟨b7, 0, none⟩ = some (.slice (some ⟨g, 0, none⟩) l.length l.length) ∧ w'.cell? ⟨x, 0, none⟩ = some (.pointer (some ⟨p0, 0, none⟩)) ∧ w'.cell? ⟨bl, ol + y * 9, none⟩ = some (.int .i64 tx.d.kind) ∧ w'.cell? ⟨bl, ol + y * 9 + 1, none⟩ = some (.string tx.d.frm) ∧ w'.cell? ⟨bl, ol + y * 9 + 2, none⟩ = some (.string tx.d.to) ∧ w'.cell? ⟨bl, ol + y * 9 + 3, none⟩ = some (.int .u64 (tx.d.amt : Int)) ∧ w'.cell? ⟨bl, ol + y * 9 + 4, none⟩ = some (.int .u64 (tx.d.non : Int)) ∧ w'.cell? ⟨bl, ol + y * 9 + 5, none⟩ = some (.string tx.d.key) ∧ w'.cell? ⟨bl, ol + y * 9 + 6, none⟩ = some (.string tx.d.val) ∧ w'.cell? ⟨bl, ol + y * 9 + 7, none⟩ = some (.slice tx.ra tx.d.rs.length tx.rc) ∧ w'.cell? ⟨bl, ol + y * 9 + 8, none⟩ = some (.slice tx.wa tx.d.ws.length tx.wc))) (by kernel_rfl) (by kernel_rfl) ?_ ?_
    · rintro ⟨a, w, h⟩
      exact hQo _ _ h
    · replace hFin : Hid _ := hFin
      replace hkp : Hid _ := hkp
      replace hX : Hid _ := hX
      clear hQo
      show wpAnyH _ _ _ _ _ 13 (Array.replicate 13 false) _ W'.drew
      refine wpAnyH_takeD (i := 0) (v := ?_) (some 15) rfl rfl (by kernel_rfl) (by kernel_rfl) (by kernel_rfl) hQp' (Or.inl ⟨by rfl, ?_⟩) (by assumption) ?_
      rotate_left 1
      · intro w' hSw
        (try dsimp only at hSw)
        go_simp
        first | done | with_reducible rfl
      simp only [Act.put, List.setIfInBounds_toArray, List.set_cons_zero, List.set_cons_succ]
      refine wpAnyH_takeD (i := 1) (v := ?_) (some 16) rfl rfl (by kernel_rfl) (by kernel_rfl) (by kernel_rfl) hQp' (Or.inl ⟨by rfl, ?_⟩) (by assumption) ?_
      rotate_left 1
      · intro w' hSw
        (try dsimp only at hSw)
        go_simp
        first | done | with_reducible rfl
      simp only [Act.put, List.setIfInBounds_toArray, List.set_cons_zero, List.set_cons_succ]
      refine wpAnyH_takeD (i := 2) (v := ?_) (some 17) rfl rfl (by kernel_rfl) (by kernel_rfl) (by kernel_rfl) hQp' (Or.inl ⟨by rfl, ?_⟩) (by assumption) ?_
      rotate_left 1
      · intro w' hSw
        (try dsimp only at hSw)
        go_simp
        first | done | with_reducible rfl
      simp only [Act.put, List.setIfInBounds_toArray, List.set_cons_zero, List.set_cons_succ]
      refine wpAnyH_takeD (i := 3) (v := ?_) (some 18) rfl rfl (by kernel_rfl) (by kernel_rfl) (by kernel_rfl) hQp' (Or.inl ⟨by rfl, ?_⟩) (by assumption) ?_
      rotate_left 1
      · intro w' hSw
        (try dsimp only at hSw)
        go_simp
        first | done | with_reducible rfl
      simp only [Act.put, List.setIfInBounds_toArray, List.set_cons_zero, List.set_cons_succ]
      refine wpAnyH_takeD (i := 4) (v := ?_) (some 19) rfl rfl (by kernel_rfl) (by kernel_rfl) (by kernel_rfl) hQp' (Or.inl ⟨by rfl, ?_⟩) (by assumption) ?_
      rotate_left 1
      · intro w' hSw
        (try dsimp only at hSw)
        go_simp
        first | done | with_reducible rfl
      simp only [Act.put, List.setIfInBounds_toArray, List.set_cons_zero, List.set_cons_succ]
      refine wpAnyH_takeD (i := 5) (v := ?_) (some 20) rfl rfl (by kernel_rfl) (by kernel_rfl) (by kernel_rfl) hQp' (Or.inl ⟨by rfl, ?_⟩) (by assumption) ?_
      rotate_left 1
      · intro w' hSw
        (try dsimp only at hSw)
        go_simp
        first | done | with_reducible rfl
      simp only [Act.put, List.setIfInBounds_toArray, List.set_cons_zero, List.set_cons_succ]
      refine wpAnyH_takeD (i := 6) (v := ?_) (some 21) rfl rfl (by kernel_rfl) (by kernel_rfl) (by kernel_rfl) hQp' (Or.inl ⟨by rfl, ?_⟩) (by assumption) ?_
      rotate_left 1
      · intro w' hSw
        (try dsimp only at hSw)
        go_simp
        first | done | with_reducible rfl
      simp only [Act.put, List.setIfInBounds_toArray, List.set_cons_zero, List.set_cons_succ]
      refine wpAnyH_takeD (i := 7) (v := ?_) (some 22) rfl rfl (by kernel_rfl) (by kernel_rfl) (by kernel_rfl) hQp' (Or.inl ⟨by rfl, ?_⟩) (by assumption) ?_
      rotate_left 1
      · intro w' hSw
        (try dsimp only at hSw)
        go_simp
        first | done | with_reducible rfl
      simp only [Act.put, List.setIfInBounds_toArray, List.set_cons_zero, List.set_cons_succ]
      refine wpAnyH_takeD (i := 8) (v := ?_) (some 23) rfl rfl (by kernel_rfl) (by kernel_rfl) (by kernel_rfl) hQp' (Or.inl ⟨by rfl, ?_⟩) (by assumption) ?_
      rotate_left 1
      · intro w' hSw
        (try dsimp only at hSw)
        go_simp
        first | done | with_reducible rfl
      simp only [Act.put, List.setIfInBounds_toArray, List.set_cons_zero, List.set_cons_succ]
      refine wpAnyH_takeD (i := 9) (v := ?_) (some 24) rfl rfl (by kernel_rfl) (by kernel_rfl) (by kernel_rfl) hQp' (Or.inl ⟨by rfl, ?_⟩) (by assumption) ?_
      rotate_left 1
      · intro w' hSw
        (try dsimp only at hSw)
        go_simp
        first | done | with_reducible rfl
      simp only [Act.put, List.setIfInBounds_toArray, List.set_cons_zero, List.set_cons_succ]
      refine wpAnyH_oneD (i := 10) (some 25) (by kernel_rfl) rfl rfl rfl (fun K' hK => ?_)
      replace hK : Hid _ := hK
      go_simp
      refine cA.mono ?_
      rintro e w5 ⟨rfl, hs5, hk5⟩
      have hX5 := hXD.apply hDA hs5 hk5
      have hS5 := hkp.out _ ⟨hX5.kp, hX5.box, hX5.a3, hX5.a4, hX5.a7⟩
      obtain ⟨c5, f5, hX6⟩ := hX5.put hDA hu1 (applyE s1 tx.d)
      have hS6 := hkp.out _ ⟨hX6.kp, hX6.box, hX6.a3, hX6.a4, hX6.a7⟩
      have hgW := hDA.gg
      have hkA : Kept (fun k => T k ∨ W.heap.size ≤ k) W' (w5.setCell ⟨g, y, none⟩ (.int .i64 (applyE s1 tx.d : Nat))) := ((Kept.of_below (below_drewN (Below.refl _ W') 1)).trans (hk5.mono (fun k _ e => Or.inl e))).trans ((Kept.setCell w5 ⟨g, y, none⟩ _).mono (fun k _ e => Or.inr (by rw [show k = g from e]; exact hgW.1)))
      have hkB : Kept (fun k => T k ∨ k = g) W' (w5.setCell ⟨g, y, none⟩ (.int .i64 (applyE s1 tx.d : Nat))) := ((Kept.of_below (below_drewN (Below.refl _ W') 1)).trans (hk5.mono (fun k _ e => Or.inl e))).trans ((Kept.setCell w5 ⟨g, y, none⟩ _).mono (fun k _ e => Or.inr e))
      have hKF : KeepsFrom w3.heap.size W' (w5.setCell ⟨g, y, none⟩ (.int .i64 (applyE s1 tx.d : Nat))) := ⟨hkB.size, fun k o hB hk _ => by
        have hkl := (Array.getElem?_eq_some_iff.1 hk).1
        rw [hkB.block k hkl (fun e => by
          rcases e with e | e
          · have := hDA.lT k e; have := hDA.lB; omega
          · omega)]
        exact hk⟩
      have hR6 := hFin.out
      clear hkB cA hS0 hXD hs5 hk5 hX5
      refine hK.out (.int .i64 (applyE s1 tx.d : Nat)) w5 hS5 ?_
      clear hK K'
      simp only [Act.put, List.setIfInBounds_toArray, List.set_cons_zero, List.set_cons_succ]
      refine wpAnyH_takeD (i := 11) (v := ?_) (some 26) rfl rfl (by kernel_rfl) (by kernel_rfl) (by kernel_rfl) hQp' (Or.inl ⟨by rfl, ?_⟩) (by assumption) ?_
      rotate_left 1
      · intro w' hSw
        (try dsimp only at hSw)
        go_simp
        first | done | with_reducible rfl
      simp only [Act.put, List.setIfInBounds_toArray, List.set_cons_zero, List.set_cons_succ]
      refine wpAnyH_oneD (i := 12) none (by kernel_rfl) rfl rfl rfl (fun K' hK => ?_)
      replace hK : Hid _ := hK
      go_simp
      refine hK.out undef _ hS6 ?_
      clear hK K'
      refine wpAnyH_done (by kernel_rfl) ?_ _
      exact hR6 _ _ hKF hkA hX6
end Go.Proofs.YtajpfkenhchafaaDoor
