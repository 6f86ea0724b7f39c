/- The program's chain: Skip, State, comesNext, restsOnLock. -/
import Derived.Test.YthhildeocedpiaaDoorChnFns
import Derived.LaidEqlPtr
namespace Go.Proofs.YthhildeocedpiaaDoor
open Go Go.RowKit
set_option linter.unusedVariables false

section
variable {w w' : World} {L : LinP} {c m k lo lk la hi vt : Nat} {ad : Nat → Nat}

/-- The box is another one. -/
theorem ChAt.rebox {lk' hi' vt' : Nat} (h : ChAt w L c m ad k lo lk la hi vt) (hk : Kept (fun b => b = c) w w') (hb : Arr w' c 115 [.map (some m), .int .i64 (L.vw hi' : Int), .string (L.ids hi'), .slice none 0 0, ptrL (ad lk'), ptrL (ad la), .int .i64 (vt' : Int)]) (h1 : la ≤ lk') (h2 : lk' ≤ k) (h3 : hi' ≤ k) : ChAt w' L c m ad k lo lk' la hi' vt' :=
  ⟨hb, h.mp.kept hk (fun e => h.cm e.symm), fun j a b => (h.ln j a b).kept hk (h.ac j a b).1, h.cm, h.ac, h.ap, h.ola, h1, h2, h3⟩

theorem maxIN (a b : Nat) : (if (a : Int) < (b : Int) then (b : Int) else (a : Int)) = ((max a b : Nat) : Int) := by
  split <;> omega

set_option maxRecDepth 100000 in
set_option maxHeartbeats 1000000 in
theorem skipC_any (h : ChAt w L c m ad k lo lk la hi vt) (v : Nat) :
    Calls Tryd.prog 35 #[ptrL c, .int .i64 (v : Int)] w fun e w' => (∃ u, e = .returned u) ∧ ChAt w' L c m ad k lo lk la hi (max vt v) ∧ Kept (fun b => b = c) w w' := by
  have c6 := h.box.cell (i := 6) rfl
  have f6 := h.box.frozen 6
  have hn := h.box.set 6 (.int .i64 ((max vt v : Nat) : Int))
  have hk := Kept.setCell w ⟨c, 6, none⟩ (.int .i64 ((max vt v : Nat) : Int))
  unfold ptrL
  have hmx : max (vt : Int) (v : Int) = ((max vt v : Nat) : Int) := by omega
  go_enter Tryd.func35, Tryd.ntmps35
  go_wp2
  refine bodyPost_end (results_none rfl _ _ _) rfl ?_
  exact ⟨⟨_, rfl⟩, h.rebox hk hn h.olk h.okk h.ohi, hk⟩

set_option maxRecDepth 100000 in
set_option maxHeartbeats 1000000 in
theorem comesNext_any (h : ChAt w L c m ad k lo lk la hi vt) {j : Nat} (h1 : lo ≤ j) (h2 : j ≤ k) (htop : L.vw j ≤ 1000000) (t : Bool) (ht : ((L.vw (j - 1) : Int) == (L.vw j : Int) - 1) = t) :
    Calls Tryd.prog 65 #[ptrL (ad j)] w fun e w' => e = .returned (.bool t) ∧ Below w.heap.size w w' := by
  have hl := h.ln j h1 h2
  have hkp : ∀ w', Below w.heap.size w w' → (w'.cell? ⟨ad j, 1, none⟩ = some (.int .i64 (L.vw j : Int)) ∧ w'.cell? ⟨ad j, 2, none⟩ = some (.int .i64 (L.vw (j - 1) : Int))) := fun w' hb => ⟨(hl.below hb hl.lt).cell (i := 1) rfl, (hl.below hb hl.lt).cell (i := 2) rfl⟩
  have hb0 : Below w.heap.size w w.drew := below_drewN (Below.refl _ w) 1
  have hw : IntKind.i64.wrap ((L.vw j : Int) - 1) = (L.vw j : Int) - 1 := by simp [IntKind.wrap, IntKind.bits, IntKind.signed]; omega
  generalize L.vw (j - 1) = q at *
  generalize L.vw j = v at *
  unfold ptrL
  go_enter Tryd.func65, Tryd.ntmps65
  go_wp2_with fail
  go_region_held3 (fun w' => (w'.cell? ⟨ad j, 1, none⟩ = some (.int .i64 (v : Int)) ∧ w'.cell? ⟨ad j, 2, none⟩ = some (.int .i64 (q : Int)))) (exact hkp _ (by assumption)) (fail)
  go_wp2
  go_ret
  exact ⟨rfl, hb0⟩

set_option maxRecDepth 100000 in
set_option maxHeartbeats 1000000 in
theorem stateC_any (h : ChAt w L c m ad k lo lk la hi vt) :
    Calls Tryd.prog 32 #[ptrL c] w fun e w' => e = .returned (.tuple #[.int .i64 (L.vw lk : Int), .int .i64 (vt : Int), .int .i64 (L.vw la : Int)]) ∧ Below w.heap.size w w' := by
  have h1 := h.ln lk (Nat.le_trans h.ola h.olk) h.okk
  have h2 := h.ln la h.ola (Nat.le_trans h.olk h.okk)
  have hkp : ∀ w', Below w.heap.size w w' → (w'.cell? ⟨c, 4, none⟩ = some (.pointer (some ⟨ad lk, 0, none⟩)) ∧ w'.cell? ⟨c, 5, none⟩ = some (.pointer (some ⟨ad la, 0, none⟩)) ∧ w'.cell? ⟨c, 6, none⟩ = some (.int .i64 (vt : Int)) ∧ w'.cell? ⟨ad lk, 1, none⟩ = some (.int .i64 (L.vw lk : Int)) ∧ w'.cell? ⟨ad la, 1, none⟩ = some (.int .i64 (L.vw la : Int))) := fun w' hb =>
    ⟨(h.box.below hb h.box.lt).cell (i := 4) rfl, (h.box.below hb h.box.lt).cell (i := 5) rfl, (h.box.below hb h.box.lt).cell (i := 6) rfl, (h1.below hb h1.lt).cell (i := 1) rfl, (h2.below hb h2.lt).cell (i := 1) rfl⟩
  have hb0 : Below w.heap.size w w.drew := below_drewN (Below.refl _ w) 1
  clear h1 h2
  generalize L.vw lk = x at *
  generalize L.vw la = y at *
  generalize ad lk = p at *
  generalize ad la = q at *
  unfold ptrL
  go_enter Tryd.func32, Tryd.ntmps32
  go_wp2_with fail
  go_region_held3 (fun w' => (w'.cell? ⟨c, 4, none⟩ = some (.pointer (some ⟨p, 0, none⟩)) ∧ w'.cell? ⟨c, 5, none⟩ = some (.pointer (some ⟨q, 0, none⟩)) ∧ w'.cell? ⟨c, 6, none⟩ = some (.int .i64 (vt : Int)) ∧ w'.cell? ⟨p, 1, none⟩ = some (.int .i64 (x : Int)) ∧ w'.cell? ⟨q, 1, none⟩ = some (.int .i64 (y : Int)))) (exact hkp _ (by assumption)) (fail)
  go_wp2
  refine bodyPost_ret (results_tmp3 rfl _ _ _) rfl ?_
  exact ⟨rfl, hb0⟩

/-- The view that is read at a pointer. -/
def vwAt (w : World) (v : Value) : Nat := match v with
  | .pointer (some a) => match w.cell? ⟨a.block, 1, none⟩ with
    | some (.int _ n) => n.toNat
    | _ => 0
  | _ => 0

set_option maxRecDepth 100000 in
set_option maxHeartbeats 1000000 in
theorem rests_any {K : Nat} (hL : L.Ok K) (hK : k ≤ K) (h : ChAt w L c m ad k lo lk la hi vt) {j : Nat} (h1 : lk ≤ j) (h2 : j ≤ k) :
    Calls Tryd.prog 67 #[ptrL c, ptrL (ad j)] w fun e w' => e = .returned (.bool true) ∧ Below w.heap.size w w' := by
  have hb0 : Below w.heap.size w w := Below.refl _ w
  have hlo : lo ≤ lk := Nat.le_trans h.ola h.olk
  unfold ptrL
  go_enter Tryd.func67, Tryd.ntmps67
  go_wp2_with fail
  go_loopw [1] (fun v1 wr => ∃ i : Nat, lk ≤ i ∧ i ≤ j ∧ v1 = .pointer (some ⟨ad i, 0, none⟩) ∧ Below w.heap.size w wr) (fun v wr => vwAt wr v)
  case atStart => exact ⟨j, h1, Nat.le_refl _, rfl, hb0⟩
  case round =>
    obtain ⟨i, hi1, hi2, rfl, hbr⟩ := hrel
    have hl := h.ln i (by omega) (by omega)
    have hk2 := h.ln lk hlo h.okk
    have hkp : ∀ w', Below w.heap.size w w' → (w'.cell? ⟨ad i, 1, none⟩ = some (.int .i64 (L.vw i : Int)) ∧ w'.cell? ⟨c, 4, none⟩ = some (.pointer (some ⟨ad lk, 0, none⟩)) ∧ w'.cell? ⟨ad lk, 1, none⟩ = some (.int .i64 (L.vw lk : Int))) := fun w' hb => ⟨(hl.below hb hl.lt).cell (i := 1) rfl, (h.box.below hb h.box.lt).cell (i := 4) rfl, (hk2.below hb hk2.lt).cell (i := 1) rfl⟩
    have hpar : ∀ w', Below w.heap.size w w' → lk < i → w'.cell? ⟨ad i, 6, none⟩ = some (.pointer (some ⟨ad (i - 1), 0, none⟩)) := fun w' hb hlt => by
      have := (hl.below hb hl.lt).cell (i := 6) rfl
      rw [this, if_neg (by omega)]
      rfl
    have hms : ∀ w' n, Below w.heap.size w w' → lk ≤ n → n ≤ j → vwAt w' (.pointer (some ⟨ad n, 0, none⟩)) = L.vw n := fun w' n hb q1 q2 => by
      have hn := h.ln n (by omega) (by omega)
      have := (hn.below hb hn.lt).cell (i := 1) rfl
      unfold vwAt
      dsimp only
      rw [this]
      rfl
    have hbd : Below w.heap.size w wr.drew := below_drewN hbr 1
    obtain ⟨q1, q2, q3⟩ := hkp _ hbr
    obtain ⟨q4, q5, q6⟩ := hkp _ hbd
    by_cases hlt : lk < i
    · have hv := hL.lt hlt (by omega)
      have hp := hpar _ hbd hlt
      have hm1 := hms _ i hbr hi1 hi2
      have hm2 := hms _ (i - 1) hbd (by omega) (by omega)
      have hv2 := hL.lt (i := i - 1) (j := i) (by omega) (by omega)
      generalize hx : L.vw i = x at *
      generalize hy : L.vw lk = y at *
      go_wp2_with fail
      go_region_held3 (fun w' => (w'.cell? ⟨ad i, 1, none⟩ = some (.int .i64 (x : Int)) ∧ w'.cell? ⟨c, 4, none⟩ = some (.pointer (some ⟨ad lk, 0, none⟩)) ∧ w'.cell? ⟨ad lk, 1, none⟩ = some (.int .i64 (y : Int)))) (first | assumption | exact ⟨q1, q2, q3⟩ | exact ⟨q4, q5, q6⟩ | exact hkp _ (by assumption)) (fail)
      go_wp2_with fail
      go_roundw
      case rel => exact ⟨i - 1, by omega, by omega, rfl, hbd⟩
      case measure => rw [hm1, hm2]; exact hv2
    · have : i = lk := by omega
      subst this
      have heq : ∀ w' : World, (binOp .eql 110 (.pointer (some ⟨ad i, 0, none⟩)) (.pointer (some ⟨ad i, 0, none⟩))).run Tryd.prog w' = .ok (.bool true) w' := fun w' => run_eql_ptr_same w' _ rfl rfl
      generalize hx : L.vw i = x at *
      go_wp2_with fail
      go_region_held3 (fun w' => (w'.cell? ⟨ad i, 1, none⟩ = some (.int .i64 (x : Int)) ∧ w'.cell? ⟨c, 4, none⟩ = some (.pointer (some ⟨ad i, 0, none⟩)) ∧ w'.cell? ⟨ad i, 1, none⟩ = some (.int .i64 (x : Int)))) (first | assumption | exact ⟨q1, q2, q3⟩ | exact ⟨q4, q5, q6⟩ | exact hkp _ (by assumption)) (fail)
      go_wp2_with fail
      go_ret
      exact ⟨rfl, hbd⟩
end
end Go.Proofs.YthhildeocedpiaaDoor
