/- What access.Groups does. -/
import Derived.Test.YtkgidmifgfoeiaaAccLast
import Derived.Laws.MakeOwn
namespace Go.Proofs.Ytkgidmifgfoeiaa
open Go Go.RowKit
set_option linter.unusedVariables false

theorem intZeroA : ∃ i, Try.prog.info? 3 = some i ∧ i.zero = some (.int .i64 0) ∧ i.size = 1 ∧ i.bytes = 8 := by
  have h : (Try.prog.info? 3).any (fun i => i.size == 1 && i.bytes == 8 && (match i.zero with | some (.int .i64 0) => true | _ => false)) = true := by kernel_rfl
  cases hi : Try.prog.info? 3 with
  | none => rw [hi] at h; cases h
  | some i =>
    rw [hi] at h
    simp only [Option.any_some, Bool.and_eq_true, beq_iff_eq] at h
    refine ⟨i, rfl, ?_, h.1.1, h.1.2⟩
    have h2 := h.2
    split at h2
    · assumption
    · cases h2

theorem flat_nat0 : ∀ n, flatK natK (List.replicate n 0) = List.replicate n (Value.int .i64 0)
  | 0 => rfl
  | n + 1 => by
    rw [List.replicate_succ, List.replicate_succ, ← flat_nat0 n]
    rfl

theorem made_int (n : Nat) : (madeCells (Value.int .i64 0).cells (n * 1)).toList = List.replicate n (Value.int .i64 0) := by
  apply List.ext_getElem
  · simp [madeCells]
  · intro i h1 h2
    simp [madeCells, Value.cells, Nat.mod_one]

/-- A new row of zeros. -/
theorem make_nats (t : TypeId) (ht : Try.prog.underlying t = some (.slice 3)) (n : Nat) (hn : n ≤ 1000000) (w : World) :
    ∃ w', (Instr.makeSlice t (.int .i64 (n : Int)) (.int .i64 (n : Int))).run Try.prog w = .ok (.slice (some ⟨w.heap.size, 0, none⟩) n n) w' ∧
      KQ natK 3 w' w.heap.size (.slice (some ⟨w.heap.size, 0, none⟩) n n) (List.replicate n 0) ∧ Below w.heap.size w w' ∧ w.heap.size < w'.heap.size := by
  obtain ⟨i, hi, hz, hs, hb⟩ := intZeroA
  obtain ⟨w', h1, h2, h3⟩ := run_make_full (P := Try.prog) w w.heap.size t 3 i (.int .i64 0) 1 ht hi hz hs .i64 .i64 n (by rw [hb]; omega) (by unfold maxLen; omega) (Nat.le_refl _)
  rw [made_int, ← flat_nat0] at h2
  have hQ : KQ natK 3 w' w.heap.size (.slice (some ⟨w.heap.size, 0, none⟩) n n) (List.replicate n 0) := KQ.of_own (K := natK) (fun _ _ h => h) (fun _ _ => trivial) (by rw [List.length_replicate]) h2
  have hk := Kept.of_grown h3
  refine ⟨w', h1, hQ, hk.below (Nat.le_refl _) (fun k e => by cases e), ?_⟩
  exact (hQ.lt w.heap.size rfl).2

def GotGroups (W : World) (l : List RwD) (e : Ending) (w : World) : Prop :=
  ∃ g gl, e = .returned (.slice (some ⟨g, 0, none⟩) l.length l.length) ∧ KQ natK 3 w W.heap.size (.slice (some ⟨g, 0, none⟩) l.length l.length) gl ∧ GSpec l gl ∧ Below W.heap.size W w

theorem range_set {gl : List Nat} {i n : Nat} (h1 : gl.length = n) (h2 : gl.take i = List.range i) (hi : i < n) : (gl.set i i).take (i + 1) = List.range (i + 1) := by
  rw [List.take_set, List.range_succ, List.take_add_one, h2, List.getElem?_eq_getElem (by omega)]
  simp

/-- The first so many point to their ends. -/
def Ends (gl : List Nat) (i : Nat) : Prop := ∀ k, k < i → Root gl k (up gl k)

theorem Ends.stay {l : List RwD} {gl gl' : List Nat} {i : Nat} (h : Ends gl i) (hs : Stay gl gl') (hr : ∀ x s, Root gl x s → Root gl' x s) : Ends gl' i := by
  intro k hk
  have h1 := h k hk
  have := hs k h1.fix
  rw [this]
  exact hr k _ h1

theorem Ends.point {l : List RwD} {gl : List Nat} {i r : Nat} (h : Ends gl i) (hl : i < gl.length) (hr : Root gl i r) (hp : ∀ x s, Root gl x s → Root (gl.set i r) x s) : Ends (gl.set i r) (i + 1) := by
  intro k hk
  rw [up_set hl]
  split
  · rename_i e
    subst e
    exact hp _ _ hr
  · rename_i e
    exact hp _ _ (h k (by omega))

theorem Same2.of_roots {gl gl' : List Nat} (hr : ∀ x s, Root gl x s → Root gl' x s) {x y : Nat} (h : Same2 gl x y) : Same2 gl' x y := by
  obtain ⟨r, h1, h2⟩ := h
  exact ⟨r, hr _ _ h1, hr _ _ h2⟩
end Go.Proofs.Ytkgidmifgfoeiaa
