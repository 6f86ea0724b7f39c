/- A desk as it lies in memory: a box, a row of wishes, of each a row of those that have it. -/
import Derived.Test.YtblpkfnhfdkacaaFetMath
import Derived.Test.YtblpkfnhfdkacaaWalkRows
import Derived.Test.YtblpkfnhfdkacaaKindsWhole
namespace Go.Proofs.Ytblpkfnhfdkacaa
open Go Go.RowKit
set_option linter.unusedVariables false

/-- A wish as it lies. -/
structure WiM where
  d : WiD
  fa : Option Addr
  fc : Nat

def leftW (n : Nat) (x : WiD) : Nat := if x.asked = 0 then 0 else n - x.ago
def nextW (x : WiD) : Nat := x.asked % x.fr.length

structure WiM.At (w : World) (x : WiM) : Prop where
  row : RowAt intK w x.fa x.d.fr
  len : x.d.fr.length ≤ maxLen
  pos : 0 < x.d.fr.length

def wishK (n : Nat) : Kind WiM where
  n := 4
  c x := [.string x.d.id, .slice x.fa x.d.fr.length x.fc, .int .i64 (nextW x.d : Nat), .int .i64 (leftW n x.d : Nat)]
  foot x b := rowFoot intK x.fa x.d.fr b
  At w x := x.At w
  pos := by decide
  len _ := rfl
  one x u hu := by
    simp only [List.mem_cons, List.not_mem_nil, or_false] at hu
    rcases hu with rfl | rfl | rfl | rfl <;> rfl
  lt h hf := h.row.lt hf
  keep h hk := ⟨h.row.keep hk, h.len, h.pos⟩

theorem infoWish : (Try.prog.info? 67).any (fun i => i.size == 4 && i.bytes == 56 && (match i.zero with | some z => z.cells.size == 4 | none => false)) = true := by kernel_rfl

theorem wishInfo : ∃ i z, Try.prog.info? 67 = some i ∧ i.zero = some z ∧ i.size = 4 ∧ i.bytes = 56 ∧ z.cells.size = 4 := by
  have h := infoWish
  cases hi : Try.prog.info? 67 with
  | none => rw [hi] at h; cases h
  | some i =>
    rw [hi] at h
    simp only [Option.any_some, Bool.and_eq_true, beq_iff_eq] at h
    cases hz : i.zero with
    | none => rw [hz] at h; simp at h
    | some z =>
      rw [hz] at h
      exact ⟨i, z, rfl, hz, h.1.1, h.1.2, by simpa using h.2⟩

/-- Something that is asked, as it lies. -/
def askK : Kind AskD where
  n := 2
  c x := [.string x.id, .int .i64 x.to]
  foot _ _ := False
  At _ _ := True
  pos := by decide
  len _ := rfl
  one x u hu := by
    simp only [List.mem_cons, List.not_mem_nil, or_false] at hu
    rcases hu with rfl | rfl <;> rfl
  lt _ h := h.elim
  keep _ _ := trivial

theorem infoAsk : (Try.prog.info? 40).any (fun i => i.size == 2 && i.bytes == 24 && (match i.zero with | some z => z.cells.size == 2 | none => false)) = true := by kernel_rfl

theorem askInfo : ∃ i z, Try.prog.info? 40 = some i ∧ i.zero = some z ∧ i.size = 2 ∧ i.bytes = 24 ∧ z.cells.size = 2 := by
  have h := infoAsk
  cases hi : Try.prog.info? 40 with
  | none => rw [hi] at h; cases h
  | some i =>
    rw [hi] at h
    simp only [Option.any_some, Bool.and_eq_true, beq_iff_eq] at h
    cases hz : i.zero with
    | none => rw [hz] at h; simp at h
    | some z =>
      rw [hz] at h
      exact ⟨i, z, rfl, hz, h.1.1, h.1.2, by simpa using h.2⟩

/-- The desk's own blocks. -/
structure PDk (w : World) (db : Nat) (q : Value) (n : Nat) (ms : List WiM) : Prop where
  box : Arr w db 61 [.int .i64 (n : Int), q]
  row : KQ (wishK n) 67 w (db + 1) q ms
  ok : DeOk n (ms.map (·.d))
  far : ∀ x ∈ ms, ∀ k, (wishK n).foot x k → db < k

/-- A desk: the blocks that it has, what is wanted. -/
structure PD (w : World) (db : Nat) (S : Nat → Prop) (n : Nat) (L : List WiD) : Prop where
  ex : ∃ q ms, PDk w db q n ms ∧ ms.map (·.d) = L ∧ S db ∧ (∀ k, q.ownBlock = some k → S k) ∧ ∀ x ∈ ms, ∀ k, (wishK n).foot x k → S k
  lt : ∀ k, S k → k < w.heap.size
  ge : ∀ k, S k → db ≤ k

section
variable {w w' : World} {db : Nat} {S : Nat → Prop} {n : Nat} {L : List WiD}

theorem PDk.ne {q : Value} {ms : List WiM} (h : PDk w db q n ms) : q.ownBlock ≠ some db := fun e => by
  have := (h.row.lt db e).1
  omega

theorem PDk.kept {T : Nat → Prop} {q : Value} {ms : List WiM} (h : PDk w db q n ms) (hk : Kept T w w') (h1 : ¬ T db) (h2 : ∀ k, q.ownBlock = some k → ¬ T k) (h3 : ∀ x ∈ ms, ∀ k, (wishK n).foot x k → ¬ T k) : PDk w' db q n ms :=
  ⟨h.box.kept hk h1, h.row.kept hk h2 h3, h.ok, h.far⟩

theorem PDk.below {q : Value} {ms : List WiM} (h : PDk w db q n ms) (hb : Below w.heap.size w w') : PDk w' db q n ms :=
  ⟨h.box.below hb h.box.lt, h.row.below hb, h.ok, h.far⟩

theorem PD.kept {T : Nat → Prop} (h : PD w db S n L) (hk : Kept T w w') (hd : ∀ k, S k → ¬ T k) : PD w' db S n L := by
  obtain ⟨q, ms, h1, h2, h3, h4, h5⟩ := h.ex
  exact ⟨⟨q, ms, h1.kept hk (hd _ h3) (fun k e => hd k (h4 k e)) (fun x hx k e => hd k (h5 x hx k e)), h2, h3, h4, h5⟩, fun k e => Nat.lt_of_lt_of_le (h.lt k e) hk.size, h.ge⟩

theorem PD.below (h : PD w db S n L) (hb : Below w.heap.size w w') : PD w' db S n L := by
  obtain ⟨q, ms, h1, h2⟩ := h.ex
  exact ⟨⟨q, ms, h1.below hb, h2⟩, fun k e => Nat.lt_of_lt_of_le (h.lt k e) hb.size, h.ge⟩

theorem PD.ok (h : PD w db S n L) : DeOk n L := by
  obtain ⟨q, ms, h1, h2, _⟩ := h.ex
  rw [← h2]; exact h1.ok

set_option maxRecDepth 100000 in
theorem pdNew_yes (n : Nat) (w : World) (h1 : 1 ≤ n) (h2 : n ≤ 1000) : Calls Try.prog 7 #[.int .i64 (n : Int)] w fun e w' => e = .returned (.tuple #[.pointer (some ⟨w.heap.size, 0, none⟩), .int .i64 0]) ∧ PD w' w.heap.size (fun k => k = w.heap.size) n [] ∧ Below w.heap.size w w' := by
  have hN := Arr.new w 61 [.int .i64 (n : Int), .slice none 0 0]
  have hbn := belowNew w (.cells #[.int .i64 (n : Int), .slice none 0 0] 61)
  have g1 : ¬ (n : Int) < 1 := by omega
  have g2 : ¬ (1000 : Int) < (n : Int) := by omega
  go_enter Try.func7, Try.ntmps7
  go_wp2
  go_ret2
  refine ⟨rfl, ⟨⟨.slice none 0 0, [], ⟨hN, KQ.empty _ _ _ _, DeOk.nil h1 h2, fun x hx => (by cases hx)⟩, rfl, rfl, fun k e => (by cases e), fun x hx => (by cases hx)⟩, fun k e => ?_, fun k e => by rw [e]; exact Nat.le_refl _⟩, hbn⟩
  have e' : k = w.heap.size := e
  rw [e', alloc_size]
  omega

set_option maxRecDepth 100000 in
theorem pdNew_no (n : Int) (w : World) (h : n < 1 ∨ 1000 < n) : Calls Try.prog 7 #[.int .i64 n] w fun e w' => e = .returned (.tuple #[.pointer none, .int .i64 2]) ∧ w' = w := by
  by_cases h1 : n < 1
  · go_enter Try.func7, Try.ntmps7
    go_wp2
    go_ret2
    exact ⟨rfl, rfl⟩
  · have h2 : 1000 < n := by omega
    go_enter Try.func7, Try.ntmps7
    go_wp2
    go_ret2
    exact ⟨rfl, rfl⟩
end
end Go.Proofs.Ytblpkfnhfdkacaa
