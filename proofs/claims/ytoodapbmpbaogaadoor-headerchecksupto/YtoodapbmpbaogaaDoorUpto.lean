/- What the bound of the second form gives: the sizes of strings, and of slices of strings with all that they hold. -/
import Derived.Test.YtoodapbmpbaogaaDoorFrame
import Derived.JoinedCond
namespace Go.Proofs.YtoodapbmpbaogaaDoor
open Go.ChangeShapes Go.WideShapes Go.ChangeAt Go.RowKit

theorem upto_part {H : Type} {d : DataW H} : ∀ {l : List (DataW H)}, d ∈ l → Rows.uptoBulk d ≤ Rows.uptoBulkAll l
  | [], h => by cases h
  | x :: r, h => by
    simp only [Rows.uptoBulkAll]
    rcases List.mem_cons.1 h with e | e
    · subst e; omega
    · have := upto_part e; omega

theorem upto_bound {H : Type} {l : List (DataW H)} (hk : Rows.uptoSmall H l = true) : Rows.uptoBulkAll l ≤ 1048576 := of_decide_eq_true hk

theorem upto_string {H : Type} {s : ByteArray} {d : DataW H} (hd : d = .lit (.string s.data.toList)) {l : List (DataW H)} (hk : Rows.uptoSmall H l = true) (hm : d ∈ l) : s.size ≤ 1048576 := by
  have h1 := upto_bound hk
  have h2 := upto_part hm
  subst hd
  simp only [Rows.uptoBulk] at h2
  have : s.data.toList.length = s.size := by simp
  omega

/-- How many values and letters a row of strings holds. -/
def strsBulk (ss : List ByteArray) : Nat := (ss.map (fun s => s.size + 1)).sum

theorem bulk_strs {H : Type} : ∀ (ss : List ByteArray), Rows.uptoBulkAll (strs (H := H) ss) = strsBulk ss
  | [] => by simp [strs, strsBulk, Rows.uptoBulkAll]
  | s :: ss => by
    have ih := bulk_strs (H := H) ss
    simp only [strs, strsBulk, List.map_cons, List.sum_cons, Rows.uptoBulkAll, Rows.uptoBulk] at ih ⊢
    rw [ih]
    simp

theorem upto_strs {H : Type} {ss : List ByteArray} {d : DataW H} (hd : StrsDatum d ss) {l : List (DataW H)} (hk : Rows.uptoSmall H l = true) (hm : d ∈ l) : strsBulk ss ≤ 1048576 := by
  have h1 := upto_bound hk
  have h2 := upto_part hm
  rcases hd with ⟨rfl, rfl⟩ | ⟨rest, rfl⟩
  · simp [strsBulk]
  · simp only [Rows.uptoBulk] at h2
    rw [bulk_strs] at h2
    omega

theorem strsBulk_length : ∀ (ss : List ByteArray), ss.length ≤ strsBulk ss
  | [] => by simp
  | s :: ss => by
    have := strsBulk_length ss
    simp only [strsBulk, List.map_cons, List.sum_cons, List.length_cons] at this ⊢
    omega

theorem flat_bulk : ∀ (ss : List ByteArray), ((bl ss).flatMap txt).length ≤ 10 * strsBulk ss
  | [] => by simp [bl]
  | s :: ss => by
    have ih := flat_bulk ss
    have hg := goInt_length s.size
    have e : (bl (s :: ss)).flatMap txt = txt s.data.toList ++ (bl ss).flatMap txt := by simp [bl]
    rw [e, List.length_append]
    have e2 : (txt s.data.toList).length = (goInt s.size).length + s.size := by simp [txt]
    simp only [strsBulk, List.map_cons, List.sum_cons] at ih ⊢
    omega

theorem lst_bulk (ss : List ByteArray) : (lst (bl ss)).length ≤ 9 + 10 * strsBulk ss := by
  have := flat_bulk ss
  have := goInt_length (bl ss).length
  rw [lst, List.length_append]
  omega
end Go.Proofs.YtoodapbmpbaogaaDoor
