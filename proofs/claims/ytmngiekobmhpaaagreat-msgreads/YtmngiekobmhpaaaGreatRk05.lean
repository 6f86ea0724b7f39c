/- Texts as one: TxRows, SealMath, SealRows, TxKeyMath, TxDecMath, TxBackMath. -/
import Derived.Test.YtmngiekobmhpaaaGreatRk02
import Derived.Test.YtmngiekobmhpaaaGreatRk04
import Derived.Deep.Slices
import Derived.Test.YtmngiekobmhpaaaGreatRk03
/- Rows of transactions in memory; how one that came in is opened. -/
namespace Go.Proofs.YtmngiekobmhpaaaGreat
open Go.ChangeShapes Go.WideShapes Go.ChangeAt Go.RowKit Go.Joins Go.Deep
set_option linter.unusedVariables false

/-- A transaction as it lies in memory: its data, and where its lists lie. -/
structure TxM where
  d : TxD
  ra : Option Addr
  rc : Nat
  wa : Option Addr
  wc : Nat

def TxM.c (x : TxM) : List Value := txC x.d x.ra x.rc x.wa x.wc
def TxM.v (x : TxM) : Value := txV x.d x.ra x.rc x.wa x.wc

theorem TxM.c_length (x : TxM) : x.c.length = 9 := rfl

/-- Its lists lie in memory, and nil is nil. -/
structure TxM.At (x : TxM) (w : World) : Prop where
  at_ : TxAt w x.d x.ra x.wa
  nr : x.ra = none → x.rc = 0
  nw : x.wa = none → x.wc = 0

theorem TxM.At.below {x : TxM} {w w' : World} (h : x.At w) (hb : Below w.heap.size w w') : x.At w' := ⟨h.at_.below hb, h.nr, h.nw⟩

def flatX (l : List TxM) : List Value := l.flatMap TxM.c

theorem flatX_append (l m : List TxM) : flatX (l ++ m) = flatX l ++ flatX m := by simp [flatX]

theorem flatX_get : ∀ (l : List TxM) (i : Nat) (x : TxM), l[i]? = some x → ∀ j, j < 9 → (flatX l)[i * 9 + j]? = x.c[j]?
  | [], _, _, h, _, _ => by simp at h
  | y :: r, 0, x, h, j, hj => by
    simp at h
    subst h
    have e : flatX (y :: r) = y.c ++ flatX r := by simp [flatX]
    rw [e, List.getElem?_append_left (by rw [TxM.c_length]; omega), Nat.zero_mul, Nat.zero_add]
  | y :: r, i + 1, x, h, j, hj => by
    have h' : r[i]? = some x := by simpa using h
    have ih := flatX_get r i x h' j hj
    have e : flatX (y :: r) = y.c ++ flatX r := by simp [flatX]
    rw [e, List.getElem?_append_right (by rw [TxM.c_length]; omega), TxM.c_length]
    have : (i + 1) * 9 + j - 9 = i * 9 + j := by omega
    rw [this]
    exact ih

theorem flatX_one (l : List TxM) : ∀ u ∈ flatX l, u.oneCell' = true := by
  intro u hu
  obtain ⟨x, _, hx⟩ := List.mem_flatMap.1 hu
  simp only [TxM.c, txC, List.mem_cons, List.not_mem_nil, or_false] at hx
  rcases hx with rfl | rfl | rfl | rfl | rfl | rfl | rfl | rfl | rfl <;> rfl

/-- A row of transactions lies at an address. -/
def TxsAt (w : World) (ao : Option Addr) (l : List TxM) : Prop :=
  ∀ i x, l[i]? = some x → (∃ b off, ao = some ⟨b, off, none⟩ ∧ b < w.heap.size ∧ ∀ j v, x.c[j]? = some v → w.cell? ⟨b, off + i * 9 + j, none⟩ = some v) ∧ x.At w

theorem TxsAt.below {w w' : World} {ao : Option Addr} {l : List TxM} (h : TxsAt w ao l) (hb : Below w.heap.size w w') : TxsAt w' ao l := by
  intro i x hx
  obtain ⟨⟨b, off, h1, h2, h3⟩, h4⟩ := h i x hx
  exact ⟨⟨b, off, h1, Nat.lt_of_lt_of_le h2 hb.size, fun j v hv => by rw [hb.cell (p := ⟨b, off + i * 9 + j, none⟩) h2]; exact h3 j v hv⟩, h4.below hb⟩

/-- The nine cells of one of them. -/
theorem TxsAt.cells {w : World} {ao : Option Addr} {l : List TxM} (h : TxsAt w ao l) {i : Nat} {x : TxM} (hx : l[i]? = some x) :
    ∃ b off, ao = some ⟨b, off, none⟩ ∧ b < w.heap.size ∧ w.cell? ⟨b, off + i * 9, none⟩ = some (.int .i64 x.d.kind) ∧ w.cell? ⟨b, off + i * 9 + 1, none⟩ = some (.string x.d.frm) ∧ w.cell? ⟨b, off + i * 9 + 2, none⟩ = some (.string x.d.to) ∧ w.cell? ⟨b, off + i * 9 + 3, none⟩ = some (.int .u64 (x.d.amt : Int)) ∧ w.cell? ⟨b, off + i * 9 + 4, none⟩ = some (.int .u64 (x.d.non : Int)) ∧
      w.cell? ⟨b, off + i * 9 + 5, none⟩ = some (.string x.d.key) ∧ w.cell? ⟨b, off + i * 9 + 6, none⟩ = some (.string x.d.val) ∧ w.cell? ⟨b, off + i * 9 + 7, none⟩ = some (.slice x.ra x.d.rs.length x.rc) ∧ w.cell? ⟨b, off + i * 9 + 8, none⟩ = some (.slice x.wa x.d.ws.length x.wc) := by
  obtain ⟨⟨b, off, h1, h2, h3⟩, _⟩ := h i x hx
  exact ⟨b, off, h1, h2, h3 0 _ rfl, h3 1 _ rfl, h3 2 _ rfl, h3 3 _ rfl, h3 4 _ rfl, h3 5 _ rfl, h3 6 _ rfl, h3 7 _ rfl, h3 8 _ rfl⟩

theorem nil_txs (w : World) (ao : Option Addr) : TxsAt w ao [] := fun i x hx => by simp at hx

theorem StrsAt.kept {S : Nat → Prop} {w w' : World} {ao : Option Addr} {ss : List ByteArray} (h : StrsAt w ao ss) (hk : Kept S w w') (hn : ∀ b off, ao = some ⟨b, off, none⟩ → 0 < ss.length → ¬ S b) : StrsAt w' ao ss := by
  intro j hj
  obtain ⟨b, off, h1, h2, h3⟩ := h j hj
  exact ⟨b, off, h1, Nat.lt_of_lt_of_le h2 hk.size, by rw [hk.cell (p := ⟨b, off + j, none⟩) h2 (hn b off h1 (by omega))]; exact h3⟩

/-- Its lists lie outside the blocks of S. -/
structure TxM.Off (x : TxM) (S : Nat → Prop) : Prop where
  r : ∀ b off, x.ra = some ⟨b, off, none⟩ → 0 < x.d.rs.length → ¬ S b
  w : ∀ b off, x.wa = some ⟨b, off, none⟩ → 0 < x.d.ws.length → ¬ S b

theorem TxM.At.kept {x : TxM} {S : Nat → Prop} {w w' : World} (h : x.At w) (hk : Kept S w w') (ho : x.Off S) : x.At w' :=
  ⟨⟨h.at_.rd.kept hk ho.r, h.at_.wr.kept hk ho.w⟩, h.nr, h.nw⟩

theorem TxM.Off.mono {x : TxM} {S T : Nat → Prop} (h : x.Off T) (hs : ∀ k, S k → T k) : x.Off S :=
  ⟨fun b off e hl hk => h.r b off e hl (hs b hk), fun b off e hl hk => h.w b off e hl (hs b hk)⟩

/-- A row of the call's own that holds transactions. -/
theorem QRow.txs {w : World} {base : Nat} {ao : Option Addr} {n cap : Nat} {l : List TxM} (h : QRow w base 123 9 (.slice ao n cap) n (flatX l)) (hn : n = l.length) (hA : ∀ x ∈ l, x.At w) : TxsAt w ao l := by
  intro i x hx
  have hi := (List.getElem?_eq_some_iff.1 hx).1
  refine ⟨?_, hA x (List.mem_of_getElem? hx)⟩
  obtain ⟨g, off, cap', hv, hb, hlt, hc⟩ := h.cells (by omega)
  simp only [Value.slice.injEq, true_and] at hv
  refine ⟨g, off, hv.1, hlt, fun j v hj => ?_⟩
  have hj9 : j < 9 := by
    have := (List.getElem?_eq_some_iff.1 hj).1
    rw [TxM.c_length] at this
    exact this
  have := hc (i * 9 + j) v (by rw [flatX_get l i x hx j hj9]; exact hj)
  rw [← Nat.add_assoc] at this
  exact this
end Go.Proofs.YtmngiekobmhpaaaGreat

/- A sealer's mathematics: what is added, what a tick seals, and that all is sealed in the end. -/
namespace Go.Proofs.YtmngiekobmhpaaaGreat
set_option linter.unusedVariables false

/-- A sealer: what waits, how long, the last number. -/
structure Seal (α : Type) where
  size : Nat
  wait : Nat
  l : List α
  ticks : Nat
  number : Nat

/-- One more, if there is room. -/
def Seal.add {α : Type} (s : Seal α) (x : α) : Seal α := if 4 * s.size ≤ s.l.length then s else { s with l := s.l ++ [x] }

/-- Does a tick seal? -/
def Seal.seals {α : Type} (s : Seal α) : Bool := !s.l.isEmpty && !(decide (s.l.length < s.size) && decide (s.ticks + 1 < s.wait))

/-- What a tick seals. -/
def Seal.out {α : Type} (s : Seal α) : List α := if s.seals = true then s.l.take s.size else []

/-- A tick. -/
def Seal.tick {α : Type} (s : Seal α) : Seal α :=
  if s.l = [] then s else if s.seals = true then { s with l := s.l.drop s.size, ticks := 0, number := s.number + 1 } else { s with ticks := s.ticks + 1 }

/-- What holds of a sealer at all times. -/
structure Seal.Ok {α : Type} (s : Seal α) : Prop where
  size1 : 1 ≤ s.size
  size16 : s.size ≤ 16
  wait1 : 1 ≤ s.wait
  wait1000 : s.wait ≤ 1000
  room : s.l.length ≤ 4 * s.size
  less : s.ticks < s.wait
  still : s.l = [] → s.ticks = 0

/-- How many ticks more there can be till nothing waits. -/
def Seal.rank {α : Type} (s : Seal α) : Nat := s.l.length * s.wait - s.ticks
end Go.Proofs.YtmngiekobmhpaaaGreat

/- A sealer in memory: its box, and the row of what waits. -/
namespace Go.Proofs.YtmngiekobmhpaaaGreat
open Go.RowKit
set_option linter.unusedVariables false

theorem TxM.At.off_ge {x : TxM} {w : World} (h : x.At w) {S : Nat → Prop} (hS : ∀ k, S k → w.heap.size ≤ k) : x.Off S := by
  refine ⟨fun b off e hl hk => ?_, fun b off e hl hk => ?_⟩
  · obtain ⟨b', off', e', h2, _⟩ := h.at_.rd 0 hl
    rw [e] at e'
    simp at e'
    have := hS b hk
    omega
  · obtain ⟨b', off', e', h2, _⟩ := h.at_.wr 0 hl
    rw [e] at e'
    simp at e'
    have := hS b hk
    omega

/-- Two sets of blocks that a list keeps off, where the second has new blocks alone behind the first. -/
theorem TxM.At.off_grow {x : TxM} {w : World} (h : x.At w) {S T : Nat → Prop} (ho : x.Off S) (hT : ∀ k, T k → S k ∨ w.heap.size ≤ k) : x.Off T := by
  have h2 := h.off_ge (S := fun k => w.heap.size ≤ k) (fun k hk => hk)
  exact ⟨fun b off e hl hk => (hT b hk).elim (ho.r b off e hl) (h2.r b off e hl), fun b off e hl hk => (hT b hk).elim (ho.w b off e hl) (h2.w b off e hl)⟩

/-- The blocks that a sealer turns: its box, and its row's. -/
def SlB (p : Nat) (q : Value) : Nat → Prop := fun k => k = p ∨ q.ownBlock = some k

/-- A sealer: its box is block p, its row is q. -/
structure SlAt (T : TypeId) (w : World) (base p : Nat) (q : Value) (au : Int) (s : Seal TxM) : Prop where
  box : Arr w p T [.int .i64 au, .int .i64 (s.size : Int), .int .i64 (s.wait : Int), q, .int .i64 (s.ticks : Int), .int .i64 (s.number : Int)]
  row : QRow w base 123 9 q s.l.length (flatX s.l)
  at_ : ∀ x ∈ s.l, x.At w
  off : ∀ x ∈ s.l, x.Off (SlB p q)
  bp : base ≤ p
  ne : q.ownBlock ≠ some p
  lt : ∀ k, q.ownBlock = some k → k < w.heap.size
  lb : ∀ k, q.ownBlock = some k → base ≤ k

theorem SlAt.kept {T : TypeId} {w w' : World} {base p : Nat} {q : Value} {au : Int} {s : Seal TxM} (h : SlAt T w base p q au s) {S : Nat → Prop} (hk : Kept S w w') (hS : ∀ k, SlB p q k → ¬ S k) (ho : ∀ x ∈ s.l, x.Off S) : SlAt T w' base p q au s :=
  ⟨h.box.kept hk (hS p (Or.inl rfl)), h.row.kept hk (fun g hg => hS g (Or.inr hg)), fun x hx => (h.at_ x hx).kept hk (ho x hx), h.off, h.bp, h.ne, fun k hq => Nat.lt_of_lt_of_le (h.lt k hq) hk.size, h.lb⟩

theorem SlAt.below {T : TypeId} {w w' : World} {base p : Nat} {q : Value} {au : Int} {s : Seal TxM} (h : SlAt T w base p q au s) (hb : Below w.heap.size w w') : SlAt T w' base p q au s := by
  refine h.kept (Kept.of_below (S := fun _ => False) hb) (fun _ _ h => h) (fun x _ => ⟨fun _ _ _ _ h => h, fun _ _ _ _ h => h⟩)

/-- A batch as a value. -/
def batV (a n : Int) (ao : Option Addr) (len cap : Nat) : Value := .agg #[.int .i64 a, .int .i64 n, .slice ao len cap]
end Go.Proofs.YtmngiekobmhpaaaGreat

/- Keys and their front; lists of one key; what a right transaction needs. -/
namespace Go.Proofs.YtmngiekobmhpaaaGreat
open Go.RowKit
set_option linter.unusedVariables false

theorem ky_above {k : ByteArray} (h : isKy k = true) : (Op.bytesLess k.toList (⟨#[]⟩ : ByteArray).toList || k.toList == (⟨#[]⟩ : ByteArray).toList) = false := by
  have hs : 1 ≤ k.size := by
    unfold isKy at h
    rw [Bool.and_eq_true] at h
    have h2 := h.2
    unfold isNm at h2
    simp only [Bool.and_eq_true, decide_eq_true_eq, ByteArray.size_extract] at h2
    omega
  have hl : k.data.toList.length = k.size := by simp
  rw [ByteArray.toList_eq, ByteArray.toList_eq]
  cases hd : k.data.toList with
  | nil => rw [hd] at hl; simp at hl; omega
  | cons x r => simp [Op.bytesLess]
end Go.Proofs.YtmngiekobmhpaaaGreat

/- A transaction out of bytes, field by field; both ways round. -/
namespace Go.Proofs.YtmngiekobmhpaaaGreat
open Go.RowKit
set_option linter.unusedVariables false

def bindI (l : List UInt8) (f : Nat → List UInt8 → TxD × Nat) : TxD × Nat := if (getInt l).2.2 ≠ 0 then (.none, (getInt l).2.2) else f (getInt l).1 (l.drop (getInt l).2.1)
def bindT (l : List UInt8) (f : List UInt8 → List UInt8 → TxD × Nat) : TxD × Nat := if (getText l).2.2 ≠ 0 then (.none, (getText l).2.2) else f (getText l).1 (l.drop (getText l).2.1)
def bindL (l : List UInt8) (f : List (List UInt8) → List UInt8 → TxD × Nat) : TxD × Nat := if (getList l 8).2.2 ≠ 0 then (.none, (getList l 8).2.2) else f (getList l 8).1 (l.drop (getList l 8).2.1)

def finTx (d : TxD) (l : List UInt8) : TxD × Nat :=
  if 2 < d.kind then (.none, 2) else if l ≠ [] then (.none, 6) else if checkL d ≠ 0 then (.none, checkL d) else (d, 0)

/-- A transaction out of bytes, or the first error. -/
def decL (l : List UInt8) : TxD × Nat :=
  bindI l fun kd l => bindT l fun fr l => bindT l fun to l => bindI l fun am l => bindI l fun no l => bindT l fun ky l => bindT l fun vl l => bindL l fun rs l => bindL l fun ws l =>
    finTx ⟨kd, ⟨fr.toArray⟩, ⟨to.toArray⟩, am, no, ⟨ky.toArray⟩, ⟨vl.toArray⟩, mks rs, mks ws⟩ l

theorem bindI_ok {l : List UInt8} {f : Nat → List UInt8 → TxD × Nat} {n k : Nat} (h : getInt l = (n, k, 0)) : bindI l f = f n (l.drop k) := by
  unfold bindI; rw [h]; rfl
theorem bindI_err {l : List UInt8} {f : Nat → List UInt8 → TxD × Nat} {n k er : Nat} (h : getInt l = (n, k, er)) (he : er ≠ 0) : bindI l f = (.none, er) := by
  unfold bindI; rw [h, if_pos he]
theorem bindT_ok {l : List UInt8} {f : List UInt8 → List UInt8 → TxD × Nat} {t : List UInt8} {k : Nat} (h : getText l = (t, k, 0)) : bindT l f = f t (l.drop k) := by
  unfold bindT; rw [h]; rfl
theorem bindT_err {l : List UInt8} {f : List UInt8 → List UInt8 → TxD × Nat} {t : List UInt8} {k er : Nat} (h : getText l = (t, k, er)) (he : er ≠ 0) : bindT l f = (.none, er) := by
  unfold bindT; rw [h, if_pos he]
theorem bindL_ok {l : List UInt8} {f : List (List UInt8) → List UInt8 → TxD × Nat} {t : List (List UInt8)} {k : Nat} (h : getList l 8 = (t, k, 0)) : bindL l f = f t (l.drop k) := by
  unfold bindL; rw [h]; rfl
theorem bindL_err {l : List UInt8} {f : List (List UInt8) → List UInt8 → TxD × Nat} {t : List (List UInt8)} {k er : Nat} (h : getList l 8 = (t, k, er)) (he : er ≠ 0) : bindL l f = (.none, er) := by
  unfold bindL; rw [h, if_pos he]

theorem bindI_none {l : List UInt8} {f : Nat → List UInt8 → TxD × Nat} (h : ∀ a b, (f a b).2 ≠ 0 → (f a b).1 = .none) (he : (bindI l f).2 ≠ 0) : (bindI l f).1 = .none := by
  unfold bindI at he ⊢; split at he <;> rename_i h1
  · rw [if_pos h1]
  · rw [if_neg h1]; exact h _ _ he
theorem bindT_none {l : List UInt8} {f : List UInt8 → List UInt8 → TxD × Nat} (h : ∀ a b, (f a b).2 ≠ 0 → (f a b).1 = .none) (he : (bindT l f).2 ≠ 0) : (bindT l f).1 = .none := by
  unfold bindT at he ⊢; split at he <;> rename_i h1
  · rw [if_pos h1]
  · rw [if_neg h1]; exact h _ _ he
theorem bindL_none {l : List UInt8} {f : List (List UInt8) → List UInt8 → TxD × Nat} (h : ∀ a b, (f a b).2 ≠ 0 → (f a b).1 = .none) (he : (bindL l f).2 ≠ 0) : (bindL l f).1 = .none := by
  unfold bindL at he ⊢; split at he <;> rename_i h1
  · rw [if_pos h1]
  · rw [if_neg h1]; exact h _ _ he

theorem fin_none (d : TxD) (l : List UInt8) (h : (finTx d l).2 ≠ 0) : (finTx d l).1 = .none := by
  unfold finTx at h ⊢
  by_cases h1 : 2 < d.kind
  · rw [if_pos h1]
  rw [if_neg h1] at h ⊢
  by_cases h2 : l ≠ []
  · rw [if_pos h2]
  rw [if_neg h2] at h ⊢
  by_cases h3 : checkL d ≠ 0
  · rw [if_pos h3]
  rw [if_neg h3] at h
  exact absurd rfl h

/-- Where there is an error there is no transaction. -/
theorem dec_none (l : List UInt8) : (decL l).2 ≠ 0 → (decL l).1 = .none := by
  refine bindI_none fun _ _ => bindT_none fun _ _ => bindT_none fun _ _ => bindI_none fun _ _ => bindI_none fun _ _ => bindT_none fun _ _ => bindT_none fun _ _ => bindL_none fun _ _ => bindL_none fun _ _ => fin_none _ _
end Go.Proofs.YtmngiekobmhpaaaGreat

/- Both ways round: bytes of a transaction, and the transaction of bytes. -/
namespace Go.Proofs.YtmngiekobmhpaaaGreat
open Go.RowKit
set_option linter.unusedVariables false

theorem bindI_back {l : List UInt8} {f : Nat → List UInt8 → TxD × Nat} {d : TxD} (h : bindI l f = (d, 0)) : ∃ n r, l = enc n ++ r ∧ n ≤ 4611686018427387903 ∧ f n r = (d, 0) := by
  rcases hg : getInt l with ⟨n, k, e⟩
  by_cases he : e = 0
  · subst he
    rw [bindI_ok hg] at h
    have hb := getInt_bounds _ n k hg
    have hk := getInt_back _ n k hg
    exact ⟨n, l.drop k, by rw [← hk.1, List.take_append_drop], hb.1, h⟩
  · rw [bindI_err hg he] at h
    exact absurd (Prod.mk.inj h).2 he

theorem bindT_back {l : List UInt8} {f : List UInt8 → List UInt8 → TxD × Nat} {d : TxD} (h : bindT l f = (d, 0)) : ∃ t r, l = txt t ++ r ∧ t.length ≤ 65536 ∧ f t r = (d, 0) := by
  rcases hg : getText l with ⟨t, k, e⟩
  by_cases he : e = 0
  · subst he
    rw [bindT_ok hg] at h
    have hb := getText_bounds _ t k hg
    have hk := getText_back _ t k hg
    exact ⟨t, l.drop k, by rw [hk, List.take_append_drop], hb.2.2.1, h⟩
  · rw [bindT_err hg he] at h
    exact absurd (Prod.mk.inj h).2 he

theorem bindL_back {l : List UInt8} {f : List (List UInt8) → List UInt8 → TxD × Nat} {d : TxD} (h : bindL l f = (d, 0)) : ∃ t r, l = lst t ++ r ∧ f t r = (d, 0) := by
  rcases hg : getList l 8 with ⟨t, k, e⟩
  by_cases he : e = 0
  · subst he
    rw [bindL_ok hg] at h
    have hk := getList_back hg
    exact ⟨t, l.drop k, by rw [← hk.1, List.take_append_drop], h⟩
  · rw [bindL_err hg he] at h
    exact absurd (Prod.mk.inj h).2 he

theorem fin_back {d0 d : TxD} {l : List UInt8} (h : finTx d0 l = (d, 0)) : d0 = d ∧ l = [] ∧ checkL d0 = 0 := by
  unfold finTx at h
  by_cases h1 : 2 < d0.kind
  · rw [if_pos h1] at h; exact absurd (Prod.mk.inj h).2 (by decide)
  rw [if_neg h1] at h
  by_cases h2 : l ≠ []
  · rw [if_pos h2] at h; exact absurd (Prod.mk.inj h).2 (by decide)
  rw [if_neg h2] at h
  by_cases h3 : checkL d0 ≠ 0
  · rw [if_pos h3] at h; exact absurd (Prod.mk.inj h).2 h3
  rw [if_neg h3] at h
  exact ⟨(Prod.mk.inj h).1, by simpa using h2, by omega⟩

/-- Bytes that are read are written as they were. -/
theorem enc_dec {l : List UInt8} {d : TxD} (h : decL l = (d, 0)) : checkL d = 0 ∧ encL d = l := by
  unfold decL at h
  obtain ⟨v0, r0, e0, b0, h⟩ := bindI_back h
  obtain ⟨v1, r1, e1, _, h⟩ := bindT_back h
  obtain ⟨v2, r2, e2, _, h⟩ := bindT_back h
  obtain ⟨v3, r3, e3, b3, h⟩ := bindI_back h
  obtain ⟨v4, r4, e4, b4, h⟩ := bindI_back h
  obtain ⟨v5, r5, e5, _, h⟩ := bindT_back h
  obtain ⟨v6, r6, e6, _, h⟩ := bindT_back h
  obtain ⟨v7, r7, e7, h⟩ := bindL_back h
  obtain ⟨v8, r8, e8, h⟩ := bindL_back h
  obtain ⟨hd, hr, hc⟩ := fin_back h
  subst hd
  refine ⟨hc, ?_⟩
  subst hr
  unfold encL
  simp only [bl_mks]
  rw [e0, e1, e2, e3, e4, e5, e6, e7, e8, goInt_nat v0 b0, goInt_nat v3 b3, goInt_nat v4 b4]
  simp [List.append_assoc]

theorem bytes_len (s : ByteArray) : s.data.toList.length = s.size := by simp

theorem enc_len {d : TxD} (h : checkL d = 0) : (encL d).length ≤ 2000 := by
  obtain ⟨z1, z2, z3, z4, z5, z6⟩ := check_zero h
  obtain ⟨y1, y2, y3, y4⟩ := fields_sizes z2
  have y5 := lst_le z5
  have y6 := lst_le z6
  have x0 := goInt_length d.kind
  have x1 := txt_le d.frm.data.toList
  have x2 := txt_le d.to.data.toList
  have x3 := goInt_length d.amt
  have x4 := goInt_length d.non
  have x5 := txt_le d.key.data.toList
  have x6 := txt_le d.val.data.toList
  have t1 := bytes_len d.frm
  have t2 := bytes_len d.to
  have t5 := bytes_len d.key
  have t6 := bytes_len d.val
  unfold encL
  simp only [List.length_append]
  omega
end Go.Proofs.YtmngiekobmhpaaaGreat
