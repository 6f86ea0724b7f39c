/- Two desks side by side; a row of numbers that is copied, in a region that draws its order. -/
import Derived.Test.YtblpkfnhfdkacaaFetOne
import Derived.Test.YtblpkfnhfdkacaaFetOps
namespace Go.Proofs.Ytblpkfnhfdkacaa
open Go Go.RowKit
set_option linter.unusedVariables false

structure Two19 (W w : World) (a b : Nat) (SA SB : Nat → Prop) (n : Nat) (La Lb : List WiD) : Prop where
  pa : PD w a SA n La
  pb : PD w b SB n Lb
  ap : ∀ k, SA k → ¬ SB k
  ga : W.heap.size ≤ a
  gb : W.heap.size ≤ b
  bel : Below W.heap.size W w

section
variable {W w w' : World} {a b n : Nat} {SA SB SA' SB' : Nat → Prop} {La Lb La' Lb' : List WiD}

theorem Two19.below (h : Two19 W w a b SA SB n La Lb) (hb : Below w.heap.size w w') : Two19 W w' a b SA SB n La Lb :=
  ⟨h.pa.below hb, h.pb.below hb, h.ap, h.ga, h.gb, h.bel.trans (hb.mono h.bel.size)⟩

theorem Two19.stepA (h : Two19 W w a b SA SB n La Lb) (hp : PD w' a SA' n La') (hf : FreshS w SA SA') (hk : Kept SA w w') : Two19 W w' a b SA' SB n La' Lb :=
  ⟨hp, h.pb.kept hk (fun k e e' => h.ap k e' e), fun k e e' => by
    rcases hf k e with q | q
    · exact h.ap k q e'
    · have := h.pb.lt k e'; omega, h.ga, h.gb, h.bel.trans (hk.below h.bel.size (fun k e => Nat.le_trans h.ga (h.pa.ge k e)))⟩

theorem Two19.stepB (h : Two19 W w a b SA SB n La Lb) (hp : PD w' b SB' n Lb') (hf : FreshS w SB SB') (hk : Kept SB w w') : Two19 W w' a b SA SB' n La Lb' :=
  ⟨h.pa.kept hk (fun k e e' => h.ap k e e'), hp, fun k e e' => by
    rcases hf k e' with q | q
    · exact h.ap k e q
    · have := h.pa.lt k e; omega, h.ga, h.gb, h.bel.trans (hk.below h.bel.size (fun k e => Nat.le_trans h.gb (h.pb.ge k e)))⟩
end

/-- append([]int{}, xs...), at a step of a region that draws its order. -/
theorem step_joinsZ {α : Type} {K : Kind α} {P : Program} (w : World) {ops : Array Oper} {o : Oper} {a : Act} {C : Act → World → Prop} {Q : Exit → Act → World → Prop} {E : Prop} (hgd : o.guard = none) (s x : Operand) (t : TypeId)
    (ho : o.op = .call { callee := .builtin .append, args := #[s, x], argTypes := #[t, t] })
    (base : Nat) (e : TypeId) (i : TypeInfo) (z : Value) (bytes : Nat) (ht : P.underlying t = some (.slice e)) (hi : P.info? e = some i) (hz : i.zero = some z)
    (hsize : i.size = K.n) (hby : i.bytes = bytes) (hzs : z.cells.size = K.n)
    (q : Value) (m : List α) (hs : a.eval s = q) (hq : KQ K e w base q []) (hf : ∀ x b, ¬ K.foot x b)
    (ao : Option Addr) (c : Nat) (hx : a.eval x = .slice ao m.length c) (hS : RowAt K w ao m)
    (h63 : m.length ≤ maxLen) (hbytes : m.length * bytes ≤ 140737488355328) (hbase : base ≤ w.heap.size)
    (h : ∀ ao' cap' w', KQ K e w' base (.slice ao' m.length cap') m → Kept (fun k => q.ownBlock = some k) w w' → C (a.put o.dst (.slice ao' m.length cap')) w') : if Region.wanted o (yielded ops a.tmps) = true then Oper.wp P o a w C Q else E := by
  rw [if_pos (by simp [Region.wanted, hgd])]
  cases hm : m with
  | nil =>
    subst hm
    obtain ⟨aq, cq, rfl, _, _⟩ := hq.form
    obtain ⟨_, _, eq, hlc, _⟩ := hq.row.form
    simp only [Value.slice.injEq] at eq
    obtain ⟨rfl, _, rfl⟩ := eq
    have hrun := run_append_zero (P := P) w t o.type e i ht hi aq ao 0 cq c hlc
    unfold Oper.wp
    simp [execOp, ho, resolve, invoke, builtin, hs, hx, hrun, Result.andThen]
    exact h aq cq w hq (Kept.refl _ _)
  | cons y r =>
    have hpos : 0 < m.length := by rw [hm]; simp
    obtain ⟨g, off, rfl, _, _⟩ := hS.cell 0 y (by rw [hm]; rfl)
    obtain ⟨v', w', hrun, hrow, hgr, hfr⟩ := run_append_q (P := P) w t o.type e i z K.n bytes ht hi hz hsize hby hzs K.pos base q 0 (flatK K []) hq.row ⟨g, off, none⟩ m.length c (flatK K m) hpos (flatK_length K m) hS.news (flatK_one K m) (by omega) (by rw [Nat.zero_add]; exact hbytes) hbase
    obtain ⟨ao', cap', rfl, _, _⟩ := hrow.form
    rw [Nat.zero_add] at hrow hfr hrun
    have hp := hq.push (m := m) (fun x hx => hS.at_ x hx) (fun x _ b hb => absurd hb (hf x b)) hpos (by rw [List.length_nil, Nat.zero_add]; exact hrow) hgr hfr
    unfold Oper.wp
    simp [execOp, ho, resolve, invoke, builtin, hs, hx, hrun, Result.andThen]
    exact h ao' cap' w' hp (Kept.of_grown hgr)

/-- What is asked of one ahead of others. -/
theorem asks_cons (n : Nat) (x : WiD) (R : List WiD) : asksL n (x :: R) = asksL n [x] ++ asksL n R := by
  have e : x :: R = [x] ++ R := rfl
  rw [e]
  unfold asksL
  rw [List.filter_append, List.map_append]

theorem asks_ids {n : Nat} {L : List WiD} {y : AskD} (h : y ∈ asksL n L) : ∃ x ∈ L, y.id = x.id := by
  unfold asksL at h
  obtain ⟨x, hx, rfl⟩ := List.mem_map.1 h
  exact ⟨x, (List.mem_filter.1 hx).1, rfl⟩

/-- One wish of that id ahead, none behind. -/
structure Lead (it : ByteArray) (x : WiD) (R : List WiD) : Prop where
  is : x.id = it
  no : ∀ y ∈ R, y.id ≠ it

theorem Lead.tick {it : ByteArray} {x : WiD} {R : List WiD} (h : Lead it x R) (n : Nat) : Lead it (tickW n x) (R.map (tickW n)) :=
  ⟨by rw [tickW_id]; exact h.is, fun y hy => by
    obtain ⟨z, hz, rfl⟩ := List.mem_map.1 hy
    rw [tickW_id]; exact h.no z hz⟩

theorem Lead.want {it : ByteArray} {x : WiD} {R : List WiD} (h : Lead it x R) {id : ByteArray} (hid : id ≠ it) (fr : List Int) : ∃ R', wantL (x :: R) id fr = x :: R' ∧ Lead it x R' := by
  unfold wantL
  split
  · refine ⟨R ++ [⟨id, fr, 0, 0⟩], rfl, h.is, fun y hy => ?_⟩
    rcases List.mem_append.1 hy with hy | hy
    · exact h.no y hy
    · simp at hy
      rw [hy]
      exact hid
  · exact ⟨R, rfl, h⟩

theorem Lead.got {it : ByteArray} {x : WiD} {R : List WiD} (h : Lead it x R) {id : ByteArray} (hid : id ≠ it) : gotL (x :: R) id = x :: gotL R id ∧ Lead it x (gotL R id) := by
  refine ⟨?_, h.is, fun y hy => h.no y (List.mem_filter.1 hy).1⟩
  unfold gotL
  rw [List.filter_cons_of_pos]
  simp only [Bool.not_eq_true', decide_eq_false_iff_not]
  rw [h.is]
  exact fun e => hid e.symm
end Go.Proofs.Ytblpkfnhfdkacaa
