/- Texts as one: SealMath, SealRows, TxKeyMath, TxDecMath, TxBackMath, ReadMath. -/
import Derived.Test.YtaoiejgbbmjpkaaGreatDoorCk05
import Derived.Test.YtaoiejgbbmjpkaaGreatDoorCk06
import Derived.Test.YtaoiejgbbmjpkaaGreatDoorCk02
/- A sealer's mathematics: what is added, what a tick seals, and that all is sealed in the end. -/
namespace Go.Proofs.YtaoiejgbbmjpkaaGreatDoor
set_option linter.unusedVariables false

/-- A sealer: what waits, how long, the last number. -/
structure Seal (α : Type) where
  size : Nat
  wait : Nat
  l : List α
  ticks : Nat
  number : Nat

/-- One more, if there is room. -/
def Seal.add {α : Type} (s : Seal α) (x : α) : Seal α := if 4 * s.size ≤ s.l.length then s else { s with l := s.l ++ [x] }

/-- Does a tick seal? -/
def Seal.seals {α : Type} (s : Seal α) : Bool := !s.l.isEmpty && !(decide (s.l.length < s.size) && decide (s.ticks + 1 < s.wait))

/-- What a tick seals. -/
def Seal.out {α : Type} (s : Seal α) : List α := if s.seals = true then s.l.take s.size else []

/-- A tick. -/
def Seal.tick {α : Type} (s : Seal α) : Seal α :=
  if s.l = [] then s else if s.seals = true then { s with l := s.l.drop s.size, ticks := 0, number := s.number + 1 } else { s with ticks := s.ticks + 1 }

/-- What holds of a sealer at all times. -/
structure Seal.Ok {α : Type} (s : Seal α) : Prop where
  size1 : 1 ≤ s.size
  size16 : s.size ≤ 16
  wait1 : 1 ≤ s.wait
  wait1000 : s.wait ≤ 1000
  room : s.l.length ≤ 4 * s.size
  less : s.ticks < s.wait
  still : s.l = [] → s.ticks = 0

theorem Seal.seals_iff {α : Type} (s : Seal α) : s.seals = true ↔ s.l ≠ [] ∧ (s.size ≤ s.l.length ∨ s.wait ≤ s.ticks + 1) := by
  unfold Seal.seals
  cases hl : s.l with
  | nil => simp
  | cons x r =>
    simp only [List.isEmpty_cons, Bool.not_false, Bool.true_and, Bool.not_eq_true', Bool.and_eq_false_iff, decide_eq_false_iff_not, ne_eq, reduceCtorEq, not_false_eq_true, true_and]
    omega

theorem Seal.add_ok {α : Type} {s : Seal α} (h : s.Ok) (x : α) : (s.add x).Ok := by
  unfold Seal.add
  split
  · exact h
  · rename_i hr
    exact ⟨h.size1, h.size16, h.wait1, h.wait1000, by simp only [List.length_append, List.length_cons, List.length_nil]; omega, h.less, fun e => by simp at e⟩

theorem Seal.tick_ok {α : Type} {s : Seal α} (h : s.Ok) : s.tick.Ok := by
  unfold Seal.tick
  split
  · exact h
  · rename_i hne
    split
    · refine ⟨h.size1, h.size16, h.wait1, h.wait1000, ?_, ?_, fun _ => rfl⟩
      · have := h.room
        simp only [List.length_drop]
        omega
      · have := h.wait1
        show 0 < s.wait
        omega
    · rename_i hs
      rw [Seal.seals_iff] at hs
      have h2 : ¬ (s.size ≤ s.l.length ∨ s.wait ≤ s.ticks + 1) := fun h' => hs ⟨hne, h'⟩
      exact ⟨h.size1, h.size16, h.wait1, h.wait1000, h.room, by show s.ticks + 1 < s.wait; omega, fun e => absurd e hne⟩

/-- What is sealed and what waits is what was there. -/
theorem Seal.tick_order {α : Type} (s : Seal α) : s.out ++ s.tick.l = s.l := by
  unfold Seal.out Seal.tick
  by_cases hne : s.l = []
  · have : s.seals = false := by
      cases hs : s.seals with
      | false => rfl
      | true => exact absurd hne ((Seal.seals_iff s).1 hs).1
    rw [this, if_pos hne]
    simp
  · rw [if_neg hne]
    cases hs : s.seals with
    | true => simp
    | false => simp

theorem Seal.tick_number {α : Type} (s : Seal α) : s.tick.number = if s.seals = true then s.number + 1 else s.number := by
  unfold Seal.tick
  by_cases hne : s.l = []
  · have : s.seals = false := by
      cases hs : s.seals with
      | false => rfl
      | true => exact absurd hne ((Seal.seals_iff s).1 hs).1
    rw [this, if_pos hne]
    simp
  · rw [if_neg hne]
    cases hs : s.seals with
    | true => simp
    | false => simp

theorem Seal.out_length {α : Type} {s : Seal α} (h : s.Ok) (hs : s.seals = true) : 1 ≤ s.out.length ∧ s.out.length ≤ s.size := by
  have h1 := ((Seal.seals_iff s).1 hs).1
  have h2 : 1 ≤ s.l.length := by
    cases hl : s.l with
    | nil => exact absurd hl h1
    | cons x r => simp
  have := h.size1
  unfold Seal.out
  rw [if_pos hs, List.length_take]
  omega

theorem Seal.out_mem {α : Type} {s : Seal α} {x : α} (h : x ∈ s.out) : x ∈ s.l := by
  unfold Seal.out at h
  split at h
  · exact List.mem_of_mem_take h
  · simp at h

/-- How many ticks more there can be till nothing waits. -/
def Seal.rank {α : Type} (s : Seal α) : Nat := s.l.length * s.wait - s.ticks

theorem Seal.rank_tick {α : Type} {s : Seal α} (h : s.Ok) : s.tick.rank ≤ s.rank - 1 := by
  have h1 := h.size1
  have h2 := h.less
  unfold Seal.tick
  by_cases hne : s.l = []
  · rw [if_pos hne]
    unfold Seal.rank
    rw [hne]
    simp
  · rw [if_neg hne]
    have h3 : 1 ≤ s.l.length := by
      cases hl : s.l with
      | nil => exact absurd hl hne
      | cons x r => simp
    have h5 : s.l.length * s.wait = (s.l.length - 1) * s.wait + s.wait := by
      obtain ⟨m, hm⟩ : ∃ m, s.l.length = m + 1 := ⟨s.l.length - 1, by omega⟩
      rw [hm, Nat.add_sub_cancel, Nat.succ_mul]
    cases hs : s.seals with
    | true =>
      rw [if_pos rfl]
      unfold Seal.rank
      simp only [List.length_drop]
      have h4 : (s.l.length - s.size) * s.wait ≤ (s.l.length - 1) * s.wait := Nat.mul_le_mul_right _ (by omega)
      omega
    | false =>
      rw [if_neg (by simp)]
      unfold Seal.rank
      simp only
      omega

theorem Seal.rank_zero {α : Type} {s : Seal α} (h : s.Ok) (hr : s.rank = 0) : s.l = [] := by
  unfold Seal.rank at hr
  have h2 := h.less
  cases hl : s.l with
  | nil => rfl
  | cons x r =>
    rw [hl] at hr
    simp only [List.length_cons, Nat.succ_mul] at hr
    omega

theorem Seal.rank_le {α : Type} {s : Seal α} (h : s.Ok) (hw : s.wait ≤ 20) : s.rank ≤ 1280 := by
  have h1 := h.room
  have h2 := h.size16
  unfold Seal.rank
  have : s.l.length * s.wait ≤ 64 * 20 := Nat.mul_le_mul (by omega) hw
  omega

/-- Fewer than a batch's size: nothing is sealed ahead of the last tick. -/
theorem Seal.waits_more {α : Type} {s : Seal α} (hl : s.l.length < s.size) (ht : s.ticks + 1 < s.wait) : s.seals = false := by
  cases hs : s.seals with
  | false => rfl
  | true =>
    have := ((Seal.seals_iff s).1 hs).2
    omega

theorem Seal.waits_end {α : Type} {s : Seal α} (hn : s.l ≠ []) (ht : s.wait ≤ s.ticks + 1) : s.seals = true := (Seal.seals_iff s).2 ⟨hn, Or.inr ht⟩

end Go.Proofs.YtaoiejgbbmjpkaaGreatDoor

/- A sealer in memory: its box, and the row of what waits. -/
namespace Go.Proofs.YtaoiejgbbmjpkaaGreatDoor
open Go.RowKit
set_option linter.unusedVariables false

theorem TxM.At.off_ge {x : TxM} {w : World} (h : x.At w) {S : Nat → Prop} (hS : ∀ k, S k → w.heap.size ≤ k) : x.Off S := by
  refine ⟨fun b off e hl hk => ?_, fun b off e hl hk => ?_⟩
  · obtain ⟨b', off', e', h2, _⟩ := h.at_.rd 0 hl
    rw [e] at e'
    simp at e'
    have := hS b hk
    omega
  · obtain ⟨b', off', e', h2, _⟩ := h.at_.wr 0 hl
    rw [e] at e'
    simp at e'
    have := hS b hk
    omega

/-- Two sets of blocks that a list keeps off, where the second has new blocks alone behind the first. -/
theorem TxM.At.off_grow {x : TxM} {w : World} (h : x.At w) {S T : Nat → Prop} (ho : x.Off S) (hT : ∀ k, T k → S k ∨ w.heap.size ≤ k) : x.Off T := by
  have h2 := h.off_ge (S := fun k => w.heap.size ≤ k) (fun k hk => hk)
  exact ⟨fun b off e hl hk => (hT b hk).elim (ho.r b off e hl) (h2.r b off e hl), fun b off e hl hk => (hT b hk).elim (ho.w b off e hl) (h2.w b off e hl)⟩

/-- The blocks that a sealer turns: its box, and its row's. -/
def SlB (p : Nat) (q : Value) : Nat → Prop := fun k => k = p ∨ q.ownBlock = some k

/-- A sealer: its box is block p, its row is q. -/
structure SlAt (T : TypeId) (w : World) (base p : Nat) (q : Value) (au : Int) (s : Seal TxM) : Prop where
  box : Arr w p T [.int .i64 au, .int .i64 (s.size : Int), .int .i64 (s.wait : Int), q, .int .i64 (s.ticks : Int), .int .i64 (s.number : Int)]
  row : QRow w base 86 9 q s.l.length (flatX s.l)
  at_ : ∀ x ∈ s.l, x.At w
  off : ∀ x ∈ s.l, x.Off (SlB p q)
  bp : base ≤ p
  ne : q.ownBlock ≠ some p
  lt : ∀ k, q.ownBlock = some k → k < w.heap.size
  lb : ∀ k, q.ownBlock = some k → base ≤ k

theorem SlAt.kept {T : TypeId} {w w' : World} {base p : Nat} {q : Value} {au : Int} {s : Seal TxM} (h : SlAt T w base p q au s) {S : Nat → Prop} (hk : Kept S w w') (hS : ∀ k, SlB p q k → ¬ S k) (ho : ∀ x ∈ s.l, x.Off S) : SlAt T w' base p q au s :=
  ⟨h.box.kept hk (hS p (Or.inl rfl)), h.row.kept hk (fun g hg => hS g (Or.inr hg)), fun x hx => (h.at_ x hx).kept hk (ho x hx), h.off, h.bp, h.ne, fun k hq => Nat.lt_of_lt_of_le (h.lt k hq) hk.size, h.lb⟩

theorem SlAt.below {T : TypeId} {w w' : World} {base p : Nat} {q : Value} {au : Int} {s : Seal TxM} (h : SlAt T w base p q au s) (hb : Below w.heap.size w w') : SlAt T w' base p q au s := by
  refine h.kept (Kept.of_below (S := fun _ => False) hb) (fun _ _ h => h) (fun x _ => ⟨fun _ _ _ _ h => h, fun _ _ _ _ h => h⟩)

/-- What it turns is of the call's own. -/
theorem SlAt.own {T : TypeId} {w : World} {base p : Nat} {q : Value} {au : Int} {s : Seal TxM} (h : SlAt T w base p q au s) : base ≤ p ∧ p < w.heap.size := ⟨h.bp, h.box.lt⟩

/-- What it turns is of the call's own. -/
theorem SlAt.keptBelow {T : TypeId} {w w' : World} {base p : Nat} {q : Value} {au : Int} {s : Seal TxM} (h : SlAt T w base p q au s) (hk : Kept (SlB p q) w w') {B : Nat} (hB : B ≤ base) : Below B w w' :=
  hk.below (by have := h.own; omega) (fun k hS => by
    rcases hS with rfl | hS
    · have := h.bp; omega
    · have := h.lb k hS; omega)

/-- A batch as a value. -/
def batV (a n : Int) (ao : Option Addr) (len cap : Nat) : Value := .agg #[.int .i64 a, .int .i64 n, .slice ao len cap]

end Go.Proofs.YtaoiejgbbmjpkaaGreatDoor

/- Keys and their front; lists of one key; what a right transaction needs. -/
namespace Go.Proofs.YtaoiejgbbmjpkaaGreatDoor
open Go.RowKit
set_option linter.unusedVariables false

theorem pre_data (a b : UInt8) (s : ByteArray) : (⟨#[a, b]⟩ ++ s : ByteArray) = ⟨(a :: b :: s.data.toList).toArray⟩ := append_list [a, b] s

theorem pre_front (a b : UInt8) (s : ByteArray) : (⟨#[a, b]⟩ ++ s : ByteArray).extract 0 2 = ⟨#[a, b]⟩ := by
  rw [pre_data, extract_list]
  simp

theorem pre_rest (a b : UInt8) (s : ByteArray) : (⟨#[a, b]⟩ ++ s : ByteArray).extract 2 (⟨#[a, b]⟩ ++ s : ByteArray).size = s := by
  rw [pre_data, extract_list, size_mk]
  apply ByteArray.ext
  apply Array.ext'
  simp
  exact List.take_of_length_le (by simp)

theorem pre_size (a b : UInt8) (s : ByteArray) : (⟨#[a, b]⟩ ++ s : ByteArray).size = s.size + 2 := by
  rw [pre_data, size_mk]
  simp

theorem cut_pre (a b : UInt8) (s : ByteArray) : cutOk (⟨#[a, b]⟩ ++ s) ⟨#[a, b]⟩ = true := by
  unfold cutOk
  have h : (⟨#[a, b]⟩ : ByteArray).size = 2 := rfl
  rw [h, pre_front, pre_size, decide_eq_true (by omega)]
  simp

theorem isKy_a (s : ByteArray) : isKy (aP ++ s) = isNm s := by
  unfold isKy aP
  rw [cut_pre, pre_rest]
  simp

theorem isKy_k (s : ByteArray) : isKy (kP ++ s) = isNm s := by
  unfold isKy kP
  rw [cut_pre, pre_rest]
  simp

theorem pre_above (a b : UInt8) (s : ByteArray) : (Op.bytesLess (⟨#[a, b]⟩ ++ s : ByteArray).toList (⟨#[]⟩ : ByteArray).toList || (⟨#[a, b]⟩ ++ s : ByteArray).toList == (⟨#[]⟩ : ByteArray).toList) = false := by
  rw [pre_data, ByteArray.toList_eq, ByteArray.toList_eq]
  simp [Op.bytesLess]

theorem keys_one_a (s : ByteArray) : keysL [aP ++ s] = if isNm s = true then 0 else 3 := by
  unfold keysL
  rw [if_neg (by simp), keysGo, isKy_a]
  cases isNm s with
  | false => simp
  | true =>
    rw [if_neg (by simp)]
    unfold aP
    rw [pre_above, if_neg (by simp), keysGo]
    rfl

theorem keys_one_k (s : ByteArray) : keysL [kP ++ s] = if isNm s = true then 0 else 3 := by
  unfold keysL
  rw [if_neg (by simp), keysGo, isKy_k]
  cases isNm s with
  | false => simp
  | true =>
    rw [if_neg (by simp)]
    unfold kP
    rw [pre_above, if_neg (by simp), keysGo]
    rfl

theorem less_eq : ∀ (x y : List UInt8), Op.bytesLess x y = decide (x < y)
  | [], [] => by simp [Op.bytesLess]
  | _ :: _, [] => by simp [Op.bytesLess]
  | [], _ :: _ => by simp [Op.bytesLess]
  | a :: x, b :: y => by
    rw [Op.bytesLess, less_eq x y]
    simp only [List.cons_lt_cons_iff]
    by_cases h1 : a < b <;> by_cases h2 : a = b <;> by_cases h3 : x < y <;> simp [h1, h2, h3]

theorem less_asymm {x y : List UInt8} (h : Op.bytesLess x y = true) : Op.bytesLess y x = false := by
  rw [less_eq, decide_eq_true_eq] at h
  rw [less_eq, decide_eq_false_iff_not]
  exact List.lt_asymm h

theorem less_ne {x y : List UInt8} (h : Op.bytesLess x y = true) : x ≠ y := by
  rintro rfl
  have := less_asymm h
  rw [h] at this
  cases this

theorem a_below_k (x y : ByteArray) : Op.bytesLess (aP ++ x).toList (kP ++ y).toList = true := by
  have h1 : (aP ++ x) = ⟨([97, 58] ++ x.data.toList).toArray⟩ := append_list [97, 58] x
  have h2 : (kP ++ y) = ⟨([107, 58] ++ y.data.toList).toArray⟩ := append_list [107, 58] y
  rw [h1, h2, ByteArray.toList_eq, ByteArray.toList_eq]
  simp [Op.bytesLess]

/-- What a right transaction needs: one key, or two that rise. -/
theorem needs_form {d : TxD} (h : checkL d = 0) : (∃ a, needsL d = [a]) ∨ ∃ a b, needsL d = [a, b] ∧ Op.bytesLess a.toList b.toList = true := by
  unfold needsL
  rw [if_pos h]
  by_cases hk : d.kind = 2
  · rw [if_pos hk]
    exact Or.inr ⟨_, _, rfl, a_below_k _ _⟩
  · rw [if_neg hk]
    split
    · rename_i h1
      exact Or.inr ⟨_, _, rfl, h1⟩
    · split
      · rename_i h1
        exact Or.inr ⟨_, _, rfl, h1⟩
      · exact Or.inl ⟨_, rfl⟩

theorem ky_above {k : ByteArray} (h : isKy k = true) : (Op.bytesLess k.toList (⟨#[]⟩ : ByteArray).toList || k.toList == (⟨#[]⟩ : ByteArray).toList) = false := by
  have hs : 1 ≤ k.size := by
    unfold isKy at h
    rw [Bool.and_eq_true] at h
    have h2 := h.2
    unfold isNm at h2
    simp only [Bool.and_eq_true, decide_eq_true_eq, ByteArray.size_extract] at h2
    omega
  have hl : k.data.toList.length = k.size := by simp
  rw [ByteArray.toList_eq, ByteArray.toList_eq]
  cases hd : k.data.toList with
  | nil => rw [hd] at hl; simp at hl; omega
  | cons x r => simp [Op.bytesLess]

theorem keysL_one {a : ByteArray} (ha : isKy a = true) : keysL [a] = 0 := by
  unfold keysL
  rw [if_neg (by simp), keysGo, if_neg (by rw [ha]; simp), ky_above ha, if_neg (by simp), keysGo]

theorem keysL_pair {a b : ByteArray} (ha : isKy a = true) (hb : isKy b = true) (h : Op.bytesLess a.toList b.toList = true) : keysL [a, b] = 0 := by
  have h1 : (Op.bytesLess b.toList a.toList || b.toList == a.toList) = false := by
    rw [less_asymm h, beq_eq_false_iff_ne.2 (less_ne h).symm]
    rfl
  unfold keysL
  rw [if_neg (by simp), keysGo, if_neg (by rw [ha]; simp), ky_above ha, if_neg (by simp), keysGo, if_neg (by rw [hb]; simp), h1, if_neg (by simp), keysGo]

theorem needs_keys {d : TxD} (h : checkL d = 0) : ∀ k ∈ needsL d, isKy k = true := by
  obtain ⟨z1, z2, _⟩ := check_zero h
  unfold fieldsR at z2
  rw [Bool.and_eq_true] at z2
  have hf := z2.1
  have z3 := z2.2
  unfold needsL
  rw [if_pos h]
  by_cases hk : d.kind = 2
  · rw [if_neg (by omega)] at z3
    simp only [Bool.and_eq_true] at z3
    have hy := z3.1.1.1
    rw [if_pos hk]
    intro k hm
    simp at hm
    rcases hm with rfl | rfl
    · rw [isKy_a]; exact hf
    · rw [isKy_k]; exact hy
  · rw [if_pos (by omega)] at z3
    simp only [Bool.and_eq_true] at z3
    have ht := z3.1.1
    rw [if_neg hk]
    intro k hm
    have hm' : k = aP ++ d.frm ∨ k = aP ++ d.to := by
      split at hm
      · simpa using hm
      · split at hm
        · simp at hm; exact hm.symm
        · simp at hm; exact Or.inl hm
    rcases hm' with rfl | rfl
    · rw [isKy_a]; exact hf
    · rw [isKy_a]; exact ht

theorem needs_no {d : TxD} (h : checkL d ≠ 0) : needsL d = [] := by
  unfold needsL
  rw [if_neg h]

theorem keys_needs {d : TxD} (h : checkL d = 0) : keysL (needsL d) = 0 := by
  have hk := needs_keys h
  rcases needs_form h with ⟨a, e⟩ | ⟨a, b, e, hl⟩
  · rw [e] at hk ⊢
    exact keysL_one (hk a (by simp))
  · rw [e] at hk ⊢
    exact keysL_pair (hk a (by simp)) (hk b (by simp)) hl

theorem check_withW {d : TxD} (h : checkL d = 0) {ws : List ByteArray} (hk : keysL ws = 0) : checkL { d with ws := ws } = 0 := by
  obtain ⟨z1, z2, z3, z4, z5, _⟩ := check_zero h
  unfold checkL
  rw [if_neg (by show ¬ (d.kind ≠ 1 ∧ d.kind ≠ 2); omega), if_neg (by show ¬ (fieldsR d = false); rw [z2]; simp), if_neg (by show ¬ (_ < d.amt ∨ _ < d.non); omega), if_neg (by show ¬ (keysL d.rs ≠ 0); rw [z5]; simp)]
  exact hk

theorem needs_withW {d : TxD} {ws : List ByteArray} (h : checkL d = 0) (hw : checkL { d with ws := ws } = 0) : needsL { d with ws := ws } = needsL d := by
  unfold needsL
  rw [if_pos h, if_pos hw]

theorem fits_with {d : TxD} (h : checkL d = 0) : fitsL { d with ws := needsL d } = true := by
  have h1 := check_withW h (keys_needs h)
  unfold fitsL
  rw [needs_withW h h1]
  have hne : (needsL d).isEmpty = false := by
    rcases needs_form h with ⟨a, e⟩ | ⟨a, b, e, _⟩ <;> rw [e] <;> rfl
  rw [hne]
  simp only [Bool.not_false, Bool.true_and, List.all_eq_true]
  intro k hm
  show hasL (needsL d) k = true
  unfold hasL
  rw [List.any_eq_true]
  exact ⟨k, hm, by simp⟩

theorem fits_without {d : TxD} (h : checkL d = 0) : fitsL { d with ws := (needsL d).tail } = false := by
  by_cases h1 : checkL { d with ws := (needsL d).tail } = 0
  · unfold fitsL
    rw [needs_withW h h1]
    have hf : (needsL d).all (hasL (needsL d).tail) = false := by
      rcases needs_form h with ⟨a, e⟩ | ⟨a, b, e, hl⟩
      · rw [e]; simp [hasL]
      · rw [e]
        have := less_ne hl
        simp [hasL, this]
    show (!(needsL d).isEmpty && (needsL d).all (hasL (needsL d).tail)) = false
    rw [hf]
    simp
  · have e : needsL { d with ws := (needsL d).tail } = [] := needs_no h1
    unfold fitsL
    rw [e]
    rfl
end Go.Proofs.YtaoiejgbbmjpkaaGreatDoor

/- A transaction out of bytes, field by field; both ways round. -/
namespace Go.Proofs.YtaoiejgbbmjpkaaGreatDoor
open Go.RowKit
set_option linter.unusedVariables false

def bindI (l : List UInt8) (f : Nat → List UInt8 → TxD × Nat) : TxD × Nat := if (getInt l).2.2 ≠ 0 then (.none, (getInt l).2.2) else f (getInt l).1 (l.drop (getInt l).2.1)
def bindT (l : List UInt8) (f : List UInt8 → List UInt8 → TxD × Nat) : TxD × Nat := if (getText l).2.2 ≠ 0 then (.none, (getText l).2.2) else f (getText l).1 (l.drop (getText l).2.1)
def bindL (l : List UInt8) (f : List (List UInt8) → List UInt8 → TxD × Nat) : TxD × Nat := if (getList l 8).2.2 ≠ 0 then (.none, (getList l 8).2.2) else f (getList l 8).1 (l.drop (getList l 8).2.1)

def finTx (d : TxD) (l : List UInt8) : TxD × Nat :=
  if 2 < d.kind then (.none, 2) else if l ≠ [] then (.none, 6) else if checkL d ≠ 0 then (.none, checkL d) else (d, 0)

/-- A transaction out of bytes, or the first error. -/
def decL (l : List UInt8) : TxD × Nat :=
  bindI l fun kd l => bindT l fun fr l => bindT l fun to l => bindI l fun am l => bindI l fun no l => bindT l fun ky l => bindT l fun vl l => bindL l fun rs l => bindL l fun ws l =>
    finTx ⟨kd, ⟨fr.toArray⟩, ⟨to.toArray⟩, am, no, ⟨ky.toArray⟩, ⟨vl.toArray⟩, mks rs, mks ws⟩ l

theorem bindI_ok {l : List UInt8} {f : Nat → List UInt8 → TxD × Nat} {n k : Nat} (h : getInt l = (n, k, 0)) : bindI l f = f n (l.drop k) := by
  unfold bindI; rw [h]; rfl
theorem bindI_err {l : List UInt8} {f : Nat → List UInt8 → TxD × Nat} {n k er : Nat} (h : getInt l = (n, k, er)) (he : er ≠ 0) : bindI l f = (.none, er) := by
  unfold bindI; rw [h, if_pos he]
theorem bindT_ok {l : List UInt8} {f : List UInt8 → List UInt8 → TxD × Nat} {t : List UInt8} {k : Nat} (h : getText l = (t, k, 0)) : bindT l f = f t (l.drop k) := by
  unfold bindT; rw [h]; rfl
theorem bindT_err {l : List UInt8} {f : List UInt8 → List UInt8 → TxD × Nat} {t : List UInt8} {k er : Nat} (h : getText l = (t, k, er)) (he : er ≠ 0) : bindT l f = (.none, er) := by
  unfold bindT; rw [h, if_pos he]
theorem bindL_ok {l : List UInt8} {f : List (List UInt8) → List UInt8 → TxD × Nat} {t : List (List UInt8)} {k : Nat} (h : getList l 8 = (t, k, 0)) : bindL l f = f t (l.drop k) := by
  unfold bindL; rw [h]; rfl
theorem bindL_err {l : List UInt8} {f : List (List UInt8) → List UInt8 → TxD × Nat} {t : List (List UInt8)} {k er : Nat} (h : getList l 8 = (t, k, er)) (he : er ≠ 0) : bindL l f = (.none, er) := by
  unfold bindL; rw [h, if_pos he]

theorem bindI_none {l : List UInt8} {f : Nat → List UInt8 → TxD × Nat} (h : ∀ a b, (f a b).2 ≠ 0 → (f a b).1 = .none) (he : (bindI l f).2 ≠ 0) : (bindI l f).1 = .none := by
  unfold bindI at he ⊢; split at he <;> rename_i h1
  · rw [if_pos h1]
  · rw [if_neg h1]; exact h _ _ he
theorem bindT_none {l : List UInt8} {f : List UInt8 → List UInt8 → TxD × Nat} (h : ∀ a b, (f a b).2 ≠ 0 → (f a b).1 = .none) (he : (bindT l f).2 ≠ 0) : (bindT l f).1 = .none := by
  unfold bindT at he ⊢; split at he <;> rename_i h1
  · rw [if_pos h1]
  · rw [if_neg h1]; exact h _ _ he
theorem bindL_none {l : List UInt8} {f : List (List UInt8) → List UInt8 → TxD × Nat} (h : ∀ a b, (f a b).2 ≠ 0 → (f a b).1 = .none) (he : (bindL l f).2 ≠ 0) : (bindL l f).1 = .none := by
  unfold bindL at he ⊢; split at he <;> rename_i h1
  · rw [if_pos h1]
  · rw [if_neg h1]; exact h _ _ he

theorem fin_none (d : TxD) (l : List UInt8) (h : (finTx d l).2 ≠ 0) : (finTx d l).1 = .none := by
  unfold finTx at h ⊢
  by_cases h1 : 2 < d.kind
  · rw [if_pos h1]
  rw [if_neg h1] at h ⊢
  by_cases h2 : l ≠ []
  · rw [if_pos h2]
  rw [if_neg h2] at h ⊢
  by_cases h3 : checkL d ≠ 0
  · rw [if_pos h3]
  rw [if_neg h3] at h
  exact absurd rfl h

/-- Where there is an error there is no transaction. -/
theorem dec_none (l : List UInt8) : (decL l).2 ≠ 0 → (decL l).1 = .none := by
  refine bindI_none fun _ _ => bindT_none fun _ _ => bindT_none fun _ _ => bindI_none fun _ _ => bindI_none fun _ _ => bindT_none fun _ _ => bindT_none fun _ _ => bindL_none fun _ _ => bindL_none fun _ _ => fin_none _ _

end Go.Proofs.YtaoiejgbbmjpkaaGreatDoor

/- Both ways round: bytes of a transaction, and the transaction of bytes. -/
namespace Go.Proofs.YtaoiejgbbmjpkaaGreatDoor
open Go.RowKit
set_option linter.unusedVariables false

theorem bindI_back {l : List UInt8} {f : Nat → List UInt8 → TxD × Nat} {d : TxD} (h : bindI l f = (d, 0)) : ∃ n r, l = enc n ++ r ∧ n ≤ 4611686018427387903 ∧ f n r = (d, 0) := by
  rcases hg : getInt l with ⟨n, k, e⟩
  by_cases he : e = 0
  · subst he
    rw [bindI_ok hg] at h
    have hb := getInt_bounds _ n k hg
    have hk := getInt_back _ n k hg
    exact ⟨n, l.drop k, by rw [← hk.1, List.take_append_drop], hb.1, h⟩
  · rw [bindI_err hg he] at h
    exact absurd (Prod.mk.inj h).2 he

theorem bindT_back {l : List UInt8} {f : List UInt8 → List UInt8 → TxD × Nat} {d : TxD} (h : bindT l f = (d, 0)) : ∃ t r, l = txt t ++ r ∧ t.length ≤ 65536 ∧ f t r = (d, 0) := by
  rcases hg : getText l with ⟨t, k, e⟩
  by_cases he : e = 0
  · subst he
    rw [bindT_ok hg] at h
    have hb := getText_bounds _ t k hg
    have hk := getText_back _ t k hg
    exact ⟨t, l.drop k, by rw [hk, List.take_append_drop], hb.2.2.1, h⟩
  · rw [bindT_err hg he] at h
    exact absurd (Prod.mk.inj h).2 he

theorem bindL_back {l : List UInt8} {f : List (List UInt8) → List UInt8 → TxD × Nat} {d : TxD} (h : bindL l f = (d, 0)) : ∃ t r, l = lst t ++ r ∧ f t r = (d, 0) := by
  rcases hg : getList l 8 with ⟨t, k, e⟩
  by_cases he : e = 0
  · subst he
    rw [bindL_ok hg] at h
    have hk := getList_back hg
    exact ⟨t, l.drop k, by rw [← hk.1, List.take_append_drop], h⟩
  · rw [bindL_err hg he] at h
    exact absurd (Prod.mk.inj h).2 he

theorem fin_back {d0 d : TxD} {l : List UInt8} (h : finTx d0 l = (d, 0)) : d0 = d ∧ l = [] ∧ checkL d0 = 0 := by
  unfold finTx at h
  by_cases h1 : 2 < d0.kind
  · rw [if_pos h1] at h; exact absurd (Prod.mk.inj h).2 (by decide)
  rw [if_neg h1] at h
  by_cases h2 : l ≠ []
  · rw [if_pos h2] at h; exact absurd (Prod.mk.inj h).2 (by decide)
  rw [if_neg h2] at h
  by_cases h3 : checkL d0 ≠ 0
  · rw [if_pos h3] at h; exact absurd (Prod.mk.inj h).2 h3
  rw [if_neg h3] at h
  exact ⟨(Prod.mk.inj h).1, by simpa using h2, by omega⟩

/-- Bytes that are read are written as they were. -/
theorem enc_dec {l : List UInt8} {d : TxD} (h : decL l = (d, 0)) : checkL d = 0 ∧ encL d = l := by
  unfold decL at h
  obtain ⟨v0, r0, e0, b0, h⟩ := bindI_back h
  obtain ⟨v1, r1, e1, _, h⟩ := bindT_back h
  obtain ⟨v2, r2, e2, _, h⟩ := bindT_back h
  obtain ⟨v3, r3, e3, b3, h⟩ := bindI_back h
  obtain ⟨v4, r4, e4, b4, h⟩ := bindI_back h
  obtain ⟨v5, r5, e5, _, h⟩ := bindT_back h
  obtain ⟨v6, r6, e6, _, h⟩ := bindT_back h
  obtain ⟨v7, r7, e7, h⟩ := bindL_back h
  obtain ⟨v8, r8, e8, h⟩ := bindL_back h
  obtain ⟨hd, hr, hc⟩ := fin_back h
  subst hd
  refine ⟨hc, ?_⟩
  subst hr
  unfold encL
  simp only [bl_mks]
  rw [e0, e1, e2, e3, e4, e5, e6, e7, e8, goInt_nat v0 b0, goInt_nat v3 b3, goInt_nat v4 b4]
  simp [List.append_assoc]

theorem bytes_len (s : ByteArray) : s.data.toList.length = s.size := by simp

/-- A right transaction's bytes, and what stands behind them. -/
theorem dec_enc {d : TxD} (h : checkL d = 0) (r : List UInt8) : decL (encL d ++ r) = if r = [] then (d, 0) else (.none, 6) := by
  obtain ⟨z1, z2, z3, z4, z5, z6⟩ := check_zero h
  obtain ⟨y1, y2, y3, y4⟩ := fields_sizes z2
  obtain ⟨k7, q7⟩ := keys_sizes z5
  obtain ⟨k8, q8⟩ := keys_sizes z6
  obtain ⟨kd, hkd⟩ : ∃ n : Nat, d.kind = (n : Int) ∧ n ≤ 2 := by
    rcases z1 with e | e
    · exact ⟨1, e, by omega⟩
    · exact ⟨2, e, by omega⟩
  have t1 := bytes_len d.frm
  have t2 := bytes_len d.to
  have t5 := bytes_len d.key
  have t6 := bytes_len d.val
  have hb : ∀ l : List ByteArray, (∀ k ∈ l, isKy k = true) → ∀ t ∈ bl l, t.length ≤ 65536 := by
    intro l hl t ht
    obtain ⟨k, hk, rfl⟩ := List.mem_map.1 ht
    have := isKy_size (hl k hk)
    have := bytes_len k
    omega
  have hbl : ∀ l : List ByteArray, (bl l).length = l.length := fun l => by simp [bl]
  have n7 := hbl d.rs
  have n8 := hbl d.ws
  have e : encL d ++ r = enc kd ++ (txt d.frm.data.toList ++ (txt d.to.data.toList ++ (enc d.amt ++ (enc d.non ++ (txt d.key.data.toList ++ (txt d.val.data.toList ++ (lst (bl d.rs) ++ (lst (bl d.ws) ++ r)))))))) := by
    unfold encL
    rw [hkd.1, goInt_nat kd (by omega), goInt_nat d.amt z3, goInt_nat d.non z4]
    simp only [List.append_assoc]
  rw [e]
  unfold decL
  rw [bindI_ok (getInt_enc kd _ (by omega)), List.drop_left, bindT_ok (getText_txt _ _ (by omega)), List.drop_left, bindT_ok (getText_txt _ _ (by omega)), List.drop_left, bindI_ok (getInt_enc d.amt _ z3), List.drop_left,
    bindI_ok (getInt_enc d.non _ z4), List.drop_left, bindT_ok (getText_txt _ _ (by omega)), List.drop_left, bindT_ok (getText_txt _ _ (by omega)), List.drop_left,
    bindL_ok (getList_lst (bl d.rs) _ 8 (hb _ q7) (by omega) (by omega)), List.drop_left, bindL_ok (getList_lst (bl d.ws) _ 8 (hb _ q8) (by omega) (by omega)), List.drop_left]
  simp only [mk_list, mks_bl]
  have hd : (⟨(kd : Int), d.frm, d.to, d.amt, d.non, d.key, d.val, d.rs, d.ws⟩ : TxD) = d := by rw [← hkd.1]
  rw [hd]
  unfold finTx
  rw [if_neg (by rw [hkd.1]; omega)]
  by_cases hr : r = []
  · rw [if_neg (by simpa using hr), if_neg (by rw [h]; simp), if_pos hr]
  · rw [if_pos hr, if_neg hr]

theorem enc_len {d : TxD} (h : checkL d = 0) : (encL d).length ≤ 2000 := by
  obtain ⟨z1, z2, z3, z4, z5, z6⟩ := check_zero h
  obtain ⟨y1, y2, y3, y4⟩ := fields_sizes z2
  have y5 := lst_le z5
  have y6 := lst_le z6
  have x0 := goInt_length d.kind
  have x1 := txt_le d.frm.data.toList
  have x2 := txt_le d.to.data.toList
  have x3 := goInt_length d.amt
  have x4 := goInt_length d.non
  have x5 := txt_le d.key.data.toList
  have x6 := txt_le d.val.data.toList
  have t1 := bytes_len d.frm
  have t2 := bytes_len d.to
  have t5 := bytes_len d.key
  have t6 := bytes_len d.val
  unfold encL
  simp only [List.length_append]
  omega
end Go.Proofs.YtaoiejgbbmjpkaaGreatDoor

/- Reading field by field, whatever is read: the first error, or what follows. -/
namespace Go.Proofs.YtaoiejgbbmjpkaaGreatDoor
open Go.RowKit
set_option linter.unusedVariables false

/-- A transaction out of bytes, as what is read or the error. -/
def decE (l : List UInt8) : Except Nat TxD := if (decL l).2 ≠ 0 then .error (decL l).2 else .ok (decL l).1

theorem decE_ok {l : List UInt8} {d : TxD} (h : decE l = .ok d) : decL l = (d, 0) := by
  unfold decE at h
  by_cases he : (decL l).2 ≠ 0
  · rw [if_pos he] at h; cases h
  · rw [if_neg he] at h
    simp only [Except.ok.injEq] at h
    have h0 : (decL l).2 = 0 := by omega
    rw [← h, ← h0]

theorem decE_enc {d : TxD} (h : checkL d = 0) : decE (encL d) = .ok d := by
  have h1 := dec_enc h []
  rw [List.append_nil, if_pos rfl] at h1
  unfold decE
  rw [h1, if_neg (by simp)]
end Go.Proofs.YtaoiejgbbmjpkaaGreatDoor
