/- Layer 21's mathematics: the program's marks. -/
import Derived.Test.YtkgidmifgfoeiaaWavChk
import Derived.Test.YtkgidmifgfoeiaaWavRows
import Derived.Test.YtkgidmifgfoeiaaAccLeast
namespace Go.Proofs.Ytkgidmifgfoeiaa
open Go Go.RowKit
set_option linter.unusedVariables false

theorem flat_natInt : ∀ l : List Nat, flatK natK l = flatK intK (rowI l)
  | [] => rfl
  | x :: l => by
    show natK.c x ++ flatK natK l = intK.c (x : Int) ++ flatK intK (rowI l)
    rw [flat_natInt l]
    rfl

theorem KQ.natInt {T : TypeId} {w : World} {B : Nat} {q : Value} {l : List Nat} (h : KQ natK T w B q l) : KQ intK T w B q (rowI l) := by
  refine ⟨?_, fun _ _ => trivial, fun _ _ _ h => h.elim, h.lt, h.nil⟩
  have := h.row
  rw [flat_natInt] at this
  have e : (rowI l).length = l.length := by unfold rowI; rw [List.length_map]
  rw [e]
  exact this

theorem KQ.intSet {T : TypeId} {w : World} {B g off n cap : Nat} {l : List Int} (h : KQ intK T w B (.slice (some ⟨g, off, none⟩) n cap) l) {i : Nat} {x : Int} (hx : l[i]? = some x) :
    w.cell? ⟨g, off + i, none⟩ = some (.int .i64 x) ∧ w.frozen? ⟨g, off + i, none⟩ = false ∧ B ≤ g ∧ g < w.heap.size ∧ ∀ v : Int, KQ intK T (w.setCell ⟨g, off + i, none⟩ (.int .i64 v)) B (.slice (some ⟨g, off, none⟩) n cap) (l.set i v) := by
  obtain ⟨g', off', e', q2, q3, q4, q5, q6⟩ := h.set hx
  simp only [Option.some.injEq, Addr.mk.injEq, and_true] at e'
  obtain ⟨rfl, rfl⟩ := e'
  have e : off + i * intK.n + 0 = off + i := by show off + i * 1 + 0 = _; omega
  refine ⟨?_, q5 _, q2, q3, fun v => ?_⟩
  · have := q4 0 _ rfl
    rw [e] at this
    exact this
  · have := q6 v 0 (.int .i64 v) (by show 0 < 1; decide) rfl trivial (fun _ h => h)
    rw [e] at this
    exact this

/-- The waves by the marks: -1 where there is none. -/
def markI (m : List Nat) : List Int := m.map (fun (v : Nat) => (v : Int) - 1)

theorem markI_length (m : List Nat) : (markI m).length = m.length := by simp [markI]

theorem markI_get {m : List Nat} {x v : Nat} (h : m[x]? = some v) : (markI m)[x]? = some ((v : Int) - 1) := by
  unfold markI
  rw [List.getElem?_map, h]
  rfl

theorem markI_set (m : List Nat) (x j : Nat) : markI (m.set x (j + 1)) = (markI m).set x (j : Int) := by
  unfold markI
  rw [List.map_set]
  congr 1
  omega

theorem markI_zero (n : Nat) : markI (List.replicate n 0) = List.replicate n (-1) := by
  unfold markI
  rw [List.map_replicate]
  rfl

/-- How many are not marked. -/
def openN (m : List Nat) : Nat := m.countP (fun v => decide (v = 0))

theorem openN_zero (n : Nat) : openN (List.replicate n 0) = n := by
  unfold openN
  rw [List.countP_replicate]
  simp

theorem openN_set : ∀ {m : List Nat} {x j : Nat}, m[x]? = some 0 → openN (m.set x (j + 1)) + 1 = openN m
  | [], x, j, h => by simp at h
  | v :: m, 0, j, h => by
    obtain rfl : v = 0 := by simpa using h
    simp [openN]
  | v :: m, x + 1, j, h => by
    have ih := openN_set (m := m) (x := x) (j := j) (by simpa using h)
    rw [List.set_cons_succ]
    unfold openN at ih ⊢
    rw [List.countP_cons, List.countP_cons]
    omega

theorem openN_le (m : List Nat) : openN m ≤ m.length := List.countP_le_length

theorem openN_pos {m : List Nat} : 0 < openN m ↔ m.any (fun x => decide (x = 0)) = true := by
  unfold openN
  rw [List.countP_pos_iff, List.any_eq_true]

/-- What look tells. -/
def lookN (n : Nat) (P : List (List Int)) : Except Nat (List Nat) := match markP n 0 (List.replicate n 0) P with
  | .error e => .error e
  | .ok m => if m.any (fun x => decide (x = 0)) = true then .error 12 else .ok m

theorem lookN_err {n : Nat} {P : List (List Int)} {e : Nat} (h : markP n 0 (List.replicate n 0) P = .error e) : lookN n P = .error e := by
  unfold lookN
  rw [h]

theorem lookN_few {n : Nat} {P : List (List Int)} {m : List Nat} (h : markP n 0 (List.replicate n 0) P = .ok m) (h0 : 0 < openN m) : lookN n P = .error 12 := by
  unfold lookN
  rw [h]
  exact if_pos (openN_pos.1 h0)

theorem lookN_ok {n : Nat} {P : List (List Int)} {m : List Nat} (h : markP n 0 (List.replicate n 0) P = .ok m) (h0 : ¬ 0 < openN m) : lookN n P = .ok m := by
  unfold lookN
  rw [h]
  exact if_neg (fun e => h0 (openN_pos.2 e))

theorem mark1_range {n w : Nat} {m : List Nat} {x : Int} (h : x < 0 ∨ (n : Int) ≤ x) : mark1 n w m x = .error 2 := by
  unfold mark1
  rw [if_pos h]

theorem mark1_err {n w : Nat} {m : List Nat} {x : Nat} {v : Nat} (hx : x < n) (hv : m[x]? = some v) (h0 : v ≠ 0) : mark1 n w m (x : Int) = .error 13 :=
  mark1_twice hx (by rw [List.getD_eq_getElem?_getD, hv]; show 0 < v; omega)

theorem mark1_set {n w : Nat} {m : List Nat} {x : Nat} (hx : x < n) (hv : m[x]? = some 0) : mark1 n w m (x : Int) = .ok (m.set x (w + 1)) :=
  mark1_ok hx (by rw [List.getD_eq_getElem?_getD, hv]; rfl)
end Go.Proofs.Ytkgidmifgfoeiaa
