/- What the two listed variables give the walks: the tables' cells. -/
import Derived.Test.YtlbibhngfnllbaaDoorMixFold
import Derived.ProofKit
import Derived.LaidMore
import Derived.OpenShut
import Derived.ShutString
import Derived.ChangeOld
import Derived.Below
import Derived.SizedLaws
import Derived.Stop.Joined
namespace Go.Proofs.YtlbibhngfnllbaaDoor
open Go.ChangeShapes Go.WideShapes Go.ChangeAt Go.WideElems Go.RowKit

theorem ownKnob_none : ownKnob Tryd.prog.godebug = none := by kernel_rfl
theorem laidOut_true : laidOutB Tryd.prog = true := by kernel_rfl
theorem gFirst : Tryd.prog.globalNamed "tusk/mix.firstNumbers" = some 0 := by kernel_rfl
theorem gRows : Tryd.prog.globalNamed "tusk/mix.rows" = some 1 := by kernel_rfl
theorem tFirst : (Tryd.prog.globals[0]?).map (·.type) = some 59 := by kernel_rfl
theorem tRows : (Tryd.prog.globals[1]?).map (·.type) = some 74 := by kernel_rfl
theorem cells32 : Tryd.prog.cellsOf 58 = 1 := by kernel_rfl
theorem cells8 : Tryd.prog.cellsOf 5 = 1 := by kernel_rfl
theorem cellsRow : Tryd.prog.cellsOf 73 = 16 := by kernel_rfl

abbrev laid2 : List (String × DataW Unit) := [("tusk/mix.firstNumbers", Rows.laid_tusk_mix_firstNumbers), ("tusk/mix.rows", Rows.laid_tusk_mix_rows)]

/-- An array of integers that reads as these has these cells. -/
theorem int_cells {H : Type} {enc : TypeId × Value → H} {P : Program} {w : World} {base : Nat} {spare : Nat → Bool} {held : Bool} {fuel : Nat} {t e : TypeId} {n : Nat} {k : IntKind} {cs : List Value} {vals : List Int} {ps : List MemPlace}
    (ht : P.underlying t = some (.array n e)) (he : P.underlying e = some (.int k)) (hc : P.cellsOf e = 1) (hn : vals.length = n)
    (h : DataW.trod enc P w base spare held fuel t cs = some (.agg (vals.map fun v => .lit (.int k v)), ps)) : ∀ (i : Nat) (v : Int), vals[i]? = some v → cs[i]? = some (.int k v) := by
  obtain ⟨xs, m, _, hx, _, hlen, hel⟩ := DataW.trod_array ht h
  intro i v hv
  have hi : i < n := by rw [← hn]; exact (List.getElem?_eq_some_iff.1 hv).1
  have h1 := hel i hi
  rw [hc, Nat.mul_one] at h1
  have hxi : xs[i]? = some xs[i] := List.getElem?_eq_getElem (by omega)
  rw [hxi] at h1
  obtain ⟨z, hz1, hz2, _⟩ := DataW.trod_int he h1
  have hmap : (xs.map (·.1))[i]? = (vals.map fun v => (DataW.lit (.int k v) : DataW H))[i]? := by
    have := congrArg Prod.fst hx
    simp only [DataW.agg.injEq] at this
    rw [this]
  rw [List.getElem?_map, List.getElem?_map, hxi, hv, hz2] at hmap
  simp at hmap
  subst hmap
  have h2 : ((cs.drop i).take 1)[0]? = some (.int k z) := by rw [hz1]; rfl
  rw [List.getElem?_take, if_pos (by omega), List.getElem?_drop] at h2
  simpa using h2

theorem of_laid {W : World} (h : laidMetH Tryd.prog laid2 W) : Glob W := by
  rw [MakeChecks.laidMetH_plain _ _ _ (by kernel_rfl)] at h
  obtain ⟨ps, ⟨g0, t0, cs0, f0, p0, q0, hg0, ht0, hv0, hd0, ⟨g1, t1, cs1, f1, p1, q1, hg1, ht1, hv1, hd1, _, _⟩, _⟩, _, _⟩ := h
  obtain rfl := Option.some.inj (gFirst.symm.trans hg0)
  obtain rfl := Option.some.inj (gRows.symm.trans hg1)
  obtain rfl := Option.some.inj (tFirst.symm.trans ht0)
  obtain rfl := Option.some.inj (tRows.symm.trans ht1)
  refine ⟨?_, ?_⟩
  · intro j v hv
    rw [Nat.zero_add, World.var?_cell hg0 hv0 j]
    have := int_cells (vals := firstsL.map fun x => (x.toNat : Int)) Tryd.underlying59 Tryd.underlying58 cells32 rfl hd0 j
    rw [List.getElem?_map] at hv
    cases hx : firstsL[j]? with
    | none => rw [hx] at hv; cases hv
    | some x =>
      rw [hx] at hv
      have e : v = .int .u32 (x.toNat : Int) := by simpa [wv] using hv.symm
      subst e
      have := this (x.toNat : Int) (by rw [List.getElem?_map, hx]; rfl)
      simpa using this
  · intro i hi j v hv
    rw [World.var?_cell hg1 hv1]
    obtain ⟨xs, m, _, hx, _, hlen, hel⟩ := DataW.trod_array Tryd.underlying74 hd1
    have h1 := hel i hi
    rw [cellsRow] at h1
    have hxi : xs[i]? = some xs[i] := List.getElem?_eq_getElem (by omega)
    rw [hxi] at h1
    have hrow : xs[i].1 = .agg (((rowL i).map fun (r : Nat) => (r : Int)).map fun v => .lit (.int .u8 v)) := by
      have := congrArg Prod.fst hx
      have e2 : xs.map (·.1) = rowsL.map fun l => (DataW.agg ((l.map fun (r : Nat) => (r : Int)).map fun v => .lit (.int .u8 v)) : DataW Unit) := by
        have : (DataW.agg (xs.map (·.1)) : DataW Unit) = .agg (rowsL.map fun l => (DataW.agg ((l.map fun (r : Nat) => (r : Int)).map fun v => .lit (.int .u8 v)) : DataW Unit)) := this.symm
        simpa using this
      have e3 := congrArg (fun l => l[i]?) e2
      simp only [List.getElem?_map, hxi] at e3
      have hr : rowsL[i]? = some (rowL i) := by
        have : i < rowsL.length := hi
        unfold rowL
        simp [List.getElem?_eq_getElem this]
      rw [hr] at e3
      simpa using e3
    have h2 := int_cells (vals := (rowL i).map fun (r : Nat) => (r : Int)) Tryd.underlying73 Tryd.underlying5 cells8 (by simp [rowL_len i hi]) (show DataW.trod _ _ _ _ _ _ _ _ _ = some (_, _) by rw [h1, ← hrow]) j
    rw [List.getElem?_map] at hv
    cases hx2 : (rowL i)[j]? with
    | none => rw [hx2] at hv; cases hv
    | some x =>
      rw [hx2] at hv
      have e : v = .int .u8 (x : Int) := by simpa [rv] using hv.symm
      subst e
      have h3 := h2 (x : Int) (by rw [List.getElem?_map, hx2]; rfl)
      have hj : j < 16 := by
        have := (List.getElem?_eq_some_iff.1 hx2).1
        rw [rowL_len i hi] at this
        exact this
      rw [List.getElem?_take, if_pos hj, List.getElem?_drop] at h3
      simpa using h3

/-- The door's own heap meets the condition. -/
theorem door_met (os : Os) (args : Array Value) : laidMetH Tryd.prog laid2 ((World.doorLaid Tryd.prog 400 os).forCall (fun _ _ => 0) ⟨#[], args, []⟩).memory :=
  laidMetH_of_parts3 (fuel := 8) (laidMet_of_run' 8 (by kernel_rfl) (by kernel_rfl)) (by kernel_rfl) (by kernel_rfl)
end Go.Proofs.YtlbibhngfnllbaaDoor
