/- Texts as one: ExeIter. -/
import Derived.RangeFuncNested
import Derived.RangeFuncBound
import Derived.RangeFuncCalls
import Derived.RangeFuncLeaves
import Derived.Shelf.Abstract
import Derived.Shelf.RegionOpen
import Derived.WalkKit
import Derived.OwnWalkIn
import Derived.TacticsInMore
import Derived.LoopNIn
import Derived.LoopIn
import Derived.Test.YtajpfkenhchafaaDoorEd08
import Derived.Test.YtajpfkenhchafaaDoorEd09
/- The iterator over a plan's rows: its contract. -/
namespace Go.Proofs.YtajpfkenhchafaaDoor
open Go Go.RowKit Go.Shelf
set_option linter.unusedVariables false
attribute [local go_sem] Oper.semAt_some

theorem map_val_take {m : Nat} {xs : List (Fin m)} {a : List Nat} {y : Nat} {u : List Nat} (h : xs.map Fin.val = a ++ y :: u) : ∃ x : Fin m, xs[a.length]? = some x ∧ x.val = y := by
  have h1 : (xs.map Fin.val)[a.length]? = some y := by rw [h]; simp
  rw [List.getElem?_map] at h1
  obtain ⟨x, hx, e⟩ := Option.map_eq_some_iff.1 h1
  exact ⟨x, hx, e⟩

theorem take_push {α : Type} {xs : List α} {i : Nat} {x : α} (h : xs[i]? = some x) : xs.take i ++ [x] = xs.take (i + 1) := by
  rw [List.take_add_one, h]; rfl

set_option maxRecDepth 100000 in
set_option maxHeartbeats 4000000 in
theorem iterRows_in {m : Nat} (F : Fence) (n : Nat) (h6 : F.fn 59) (hro : F.round = none) (hn : 1 ≤ n) (l Bn : Nat) (T : Nat → Prop) (po : Option Addr) (pc : Nat) (p : List IRow) (hpf : RowsFit p) (xs : List (Fin m)) (hxs : xs.map Fin.val = flatP (lsP p)) (hpos : ∀ (k : Nat) (r : List Int), (lsP p)[k]? = some r → ∀ x ∈ r, 0 ≤ x)
    (J Jx : List (Fin m) → World → Prop)
    (hY : ∀ pre x W, J pre W → pre.length < xs.length → YieldAt F (n - 1) Tryd.prog l #[.int .i64 (x.val : Int)] W fun e W' => (e = .returned (.bool true) ∧ J (pre ++ [x]) W' ∧ Kept T W W') ∨ (e = .returned (.bool false) ∧ Jx (pre ++ [x]) W'))
    (W : World) (hBn : W.cell? ⟨Bn, 0, none⟩ = some (.slice po p.length pc)) (hp : RowAt irowK W po p) (dp : ∀ b, rowFoot irowK po p b → ¬ T b) (h0 : J [] W) :
    CallsIn F n Tryd.prog 59 #[.func (.yield l) #[] #[], .pointer (some ⟨Bn, 0, none⟩)] W fun e W' => (∃ v, e = .returned v) ∧ ((∃ ys, ys = xs ∧ J ys W') ∨ ∃ pre, pre <+: xs ∧ Jx pre W') := by
  have hp1 := hpf.1
  refine callsIn_of_wp Tryd.func59 rfl h6 ?_ hro
  simp only [Tryd.ntmps59, List.size_toArray, List.length_cons, List.length_nil, Nat.reduceAdd, Nat.reduceSub, Array.replicate_succ, Array.replicate_zero, List.push_toArray, List.append_toArray, List.nil_append, List.cons_append]
  gi_wp2
  gi_loopw [9] (fun v9 wr => ∃ j : Nat, j ≤ p.length ∧ v9 = .int .i64 (j : Int) ∧ J (xs.take (flatP ((lsP p).take j)).length) wr ∧ Kept T W wr) (fun v _ => p.length - (intOf v).toNat)
  case atStart => exact ⟨0, Nat.zero_le _, rfl, h0, Kept.refl _ _⟩
  case round =>
    obtain ⟨j, hj, rfl, hJs, hk⟩ := hrel
    by_cases hjl : j < p.length
    · have g1 : (j : Int) < (p.length : Int) := by omega
      obtain ⟨y, hy⟩ : ∃ q, p[j]? = some q := ⟨_, List.getElem?_eq_getElem hjl⟩
      have hPj : Hid ((lsP p)[j]? = some y.l) := by unfold Hid lsP; rw [List.getElem?_map, hy]; rfl
      obtain ⟨bp, op, hpo, hbp, cr, hri, -⟩ := (hp.kept hk dp).irow hy
      have hyl := hpf.2 y (List.mem_of_getElem? hy)
      have hstp := flatP_step hPj.out
      subst hpo
      gi_wp2
      gi_loopw [15] (fun v15 wr => ∃ k : Nat, k ≤ y.l.length ∧ v15 = .int .i64 (k : Int) ∧ J (xs.take ((flatP ((lsP p).take j)).length + k)) wr ∧ Kept T W wr) (fun v _ => y.l.length - (intOf v).toNat)
      case atStart => exact ⟨0, Nat.zero_le _, rfl, hJs, hk⟩
      case round =>
        clear hJs hk cr hri
        obtain ⟨k, hkl, rfl, hJs, hk⟩ := hrel
        by_cases hkk : k < y.l.length
        · have g2 : (k : Int) < (y.l.length : Int) := by omega
          obtain ⟨-, -, -, -, -, hri, -⟩ := (hp.kept hk dp).irow hy
          obtain ⟨v, hv⟩ : ∃ q, y.l[k]? = some q := ⟨_, List.getElem?_eq_getElem hkk⟩
          obtain ⟨br, orr, hxa, hbr, cy⟩ := hri.int hv
          have hv0 := hpos j y.l hPj.out v (List.mem_of_getElem? hv)
          obtain ⟨z, rfl⟩ : ∃ z : Nat, v = (z : Int) := ⟨v.toNat, by omega⟩
          obtain ⟨u, hfl⟩ := flatP_at hPj.out hv
          rw [Int.toNat_natCast] at hfl
          have hlen : (flatP ((lsP p).take j) ++ (y.l.take k).map Int.toNat).length = (flatP ((lsP p).take j)).length + k := by
            rw [List.length_append, List.length_map, List.length_take]; omega
          obtain ⟨x, hx, hxz⟩ := map_val_take (hxs.trans hfl)
          rw [hlen] at hx
          have hlt : (flatP ((lsP p).take j)).length + k < xs.length := (List.getElem?_eq_some_iff.1 hx).1
          obtain ⟨fn, tmps, assign, body, hyd, hR⟩ := hY _ x wr hJs (by rw [List.length_take]; omega)
          rw [hxz] at hyd
          rw [take_push hx] at hR
          rw [hxa] at *
          clear hfl hlen hx hri hJs
          gi_wp2
          refine hR.mono ?_
          rintro e W3 (⟨rfl, hJ3, hk3⟩ | ⟨rfl, hJx3⟩)
          · have hk4 := hk.trans hk3
            gi_wp2
            go_roundw
            case rel => exact ⟨k + 1, by omega, by go_num, hJ3, hk4⟩
            case measure => simp [intOf]; omega
          · gi_wp2
            refine bodyPost_ret (results_none rfl _ _ _) rfl ?_
            exact ⟨⟨_, rfl⟩, .inr ⟨_, List.take_prefix _ _, hJx3⟩⟩
        · have g2 : ¬ (k : Int) < (y.l.length : Int) := by omega
          have hkr : k = y.l.length := by omega
          have hJ9 : J (xs.take (flatP ((lsP p).take (j + 1))).length) wr := by
            rw [hstp, List.length_append, List.length_map, ← hkr]
            exact hJs
          clear hJs hkr
          gi_wp2
          go_roundw
          case rel => exact ⟨j + 1, by omega, by go_num, hJ9, hk⟩
          case measure => simp [intOf]; omega
    · have g1 : ¬ (j : Int) < (p.length : Int) := by omega
      have hjr : j = (lsP p).length := by unfold lsP; rw [List.length_map]; omega
      have hJ9 : J xs wr := by
        rw [hjr, List.take_length, ← hxs, List.length_map, List.take_length] at hJs
        exact hJs
      clear hJs
      gi_wp2
      go_end0
      first | exact ⟨⟨_, rfl⟩, .inl hJ9⟩ | exact ⟨⟨_, rfl⟩, .inl ⟨_, rfl, hJ9⟩⟩
end Go.Proofs.YtajpfkenhchafaaDoor
