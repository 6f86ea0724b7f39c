/- What becomes of eight words by a block's words: as plain functions of lists. -/
import Derived.Test.YtlbibhngfnllbaaDoorMixMath
import Derived.Test.YtlbibhngfnllbaaDoorMixWords
namespace Go.Proofs.YtlbibhngfnllbaaDoor

def firstsL : List UInt32 := [1779033703, 3144134277, 1013904242, 2773480762, 1359893119, 2600822924, 528734635, 1541459225]
def rowsL : List (List Nat) := [
  [0, 1, 2, 3, 4, 5, 6, 7, 8, 9, 10, 11, 12, 13, 14, 15],
  [14, 10, 4, 8, 9, 15, 13, 6, 1, 12, 0, 2, 11, 7, 5, 3],
  [11, 8, 12, 0, 5, 2, 15, 13, 10, 14, 3, 6, 7, 1, 9, 4],
  [7, 9, 3, 1, 13, 12, 11, 14, 2, 6, 5, 10, 4, 0, 15, 8],
  [9, 0, 5, 7, 2, 4, 10, 15, 14, 1, 11, 12, 6, 8, 3, 13],
  [2, 12, 6, 10, 0, 11, 8, 3, 4, 13, 7, 5, 15, 14, 1, 9],
  [12, 5, 1, 15, 14, 13, 4, 10, 0, 7, 6, 3, 9, 2, 8, 11],
  [13, 11, 7, 14, 12, 1, 3, 9, 5, 0, 15, 4, 8, 6, 2, 10],
  [6, 15, 14, 9, 11, 3, 0, 8, 12, 2, 13, 7, 1, 4, 10, 5],
  [10, 2, 8, 4, 7, 6, 1, 5, 15, 11, 9, 14, 3, 12, 13, 0]]
def rowL (i : Nat) : List Nat := rowsL.getD i []

theorem rowL_len : ∀ i, i < 10 → (rowL i).length = 16 := by decide
theorem rowL_lt : ∀ i, i < 10 → ∀ r ∈ rowL i, r < 16 := by decide

theorem stepQ_len (ws : List UInt32) (p q u v : Nat) (x y : UInt32) : (stepQ ws p q u v x y).length = ws.length := by simp [stepQ]
theorem stirL_len (ws ms : List UInt32) (rs : List Nat) : (stirL ws ms rs).length = ws.length := by simp [stirL, stepQ_len]

def rounds (m w : List UInt32) : Nat → List UInt32
  | 0 => w
  | i + 1 => stirL (rounds m w i) m (rowL i)

theorem rounds_len (m w : List UInt32) : ∀ i, (rounds m w i).length = w.length
  | 0 => rfl
  | i + 1 => by rw [rounds, stirL_len, rounds_len m w i]

/-- The sixteen words ahead of the rounds. -/
def startL (h : List UInt32) (t : UInt32) (last : Bool) : List UInt32 :=
  let w1 := (h ++ firstsL).set 12 (wxor ((h ++ firstsL).getD 12 0) t)
  if last then w1.set 14 (wxor (w1.getD 14 0) 4294967295) else w1

theorem startL_len (h : List UInt32) (t : UInt32) (last : Bool) (hh : h.length = 8) : (startL h t last).length = 16 := by
  unfold startL
  cases last <;> simp [hh, firstsL]

def foldL (h m : List UInt32) (t : UInt32) (last : Bool) : List UInt32 :=
  (List.range 8).map fun i => wxor (h.getD i 0) (wxor ((rounds m (startL h t last) 10).getD i 0) ((rounds m (startL h t last) 10).getD (i + 8) 0))

theorem foldL_len (h m : List UInt32) (t : UInt32) (last : Bool) : (foldL h m t last).length = 8 := by simp [foldL]

theorem wxor_comm (x y : UInt32) : wxor x y = wxor y x := UInt32.xor_comm x y

/-- The cells of the sixteen words while they are laid. -/
def layCells (h : List UInt32) (i : Nat) : List Value :=
  (List.range 16).map fun j => if j < 8 then (if j < i then wv (h.getD j 0) else .int .u32 0) else (if j - 8 < i then wv (firstsL.getD (j - 8) 0) else .int .u32 0)

theorem layCells_len (h : List UInt32) (i : Nat) : (layCells h i).length = 16 := by simp [layCells]

theorem layCells_step (h : List UInt32) (i : Nat) (hi : i < 8) : layCells h (i + 1) = ((layCells h i).set i (wv (h.getD i 0))).set (i + 8) (wv (firstsL.getD i 0)) := by
  unfold layCells
  apply List.ext_getElem
  · simp
  · intro j h1 h2
    simp only [List.getElem_map, List.getElem_range, List.getElem_set]
    by_cases e : i + 8 = j
    · subst e
      rw [if_neg (by omega), if_pos (by omega), if_pos rfl, Nat.add_sub_cancel]
    · rw [if_neg e]
      by_cases e2 : i = j
      · subst e2
        rw [if_pos hi, if_pos (by omega), if_pos rfl]
      · rw [if_neg e2]
        by_cases hj : j < 8
        · rw [if_pos hj, if_pos hj]
          by_cases hj2 : j < i
          · rw [if_pos hj2, if_pos (by omega)]
          · rw [if_neg hj2, if_neg (by omega)]
        · rw [if_neg hj, if_neg hj]
          by_cases hj2 : j - 8 < i
          · rw [if_pos hj2, if_pos (by omega)]
          · rw [if_neg hj2, if_neg (by omega)]

theorem layCells_all (h : List UInt32) (hh : h.length = 8) : layCells h 8 = (h ++ firstsL).map wv := by
  match h, hh with
  | [a, b, c, d, e, f, g, k], _ => rfl

/-- The eight words while they are turned. -/
def turnL (h w : List UInt32) (i : Nat) : List UInt32 :=
  (List.range 8).map fun j => if j < i then wxor (h.getD j 0) (wxor (w.getD j 0) (w.getD (j + 8) 0)) else h.getD j 0

theorem turnL_zero (h w : List UInt32) (hh : h.length = 8) : turnL h w 0 = h := by
  match h, hh with
  | [a, b, c, d, e, f, g, k], _ => rfl

theorem turnL_step (h w : List UInt32) (i : Nat) : turnL h w (i + 1) = (turnL h w i).set i (wxor (h.getD i 0) (wxor (w.getD i 0) (w.getD (i + 8) 0))) := by
  unfold turnL
  apply List.ext_getElem
  · simp
  · intro j h1 h2
    simp only [List.getElem_map, List.getElem_range, List.getElem_set]
    by_cases e : i = j
    · subst e; simp
    · rw [if_neg e]
      by_cases hj : j < i
      · rw [if_pos hj, if_pos (by omega)]
      · rw [if_neg hj, if_neg (by omega)]

theorem turnL_all (h m : List UInt32) (t : UInt32) (last : Bool) : turnL h (rounds m (startL h t last) 10) 8 = foldL h m t last := by
  unfold turnL foldL
  apply List.map_congr_left
  intro j hj
  rw [if_pos (List.mem_range.1 hj)]

theorem turnL_get (h w : List UInt32) (i : Nat) (hi : i < 8) : (turnL h w i)[i]? = some (h.getD i 0) := by simp [turnL, hi]

theorem getD_get (l : List UInt32) (i : Nat) (hi : i < l.length) : (l.map wv)[i]? = some (wv (l.getD i 0)) := by
  simp [List.getElem?_eq_getElem hi]
end Go.Proofs.YtlbibhngfnllbaaDoor
