/- Texts as one: Kinds, HdrRows, MsgWordAdd, CertMath, Sets, BlkRows, BlkMath, BlkWord. -/
import Derived.Test.YtaoiejgbbmjpkaaGreatDoorWk02
import Derived.Deep.RegionLaw
/- Rows of whatever elements in memory: where they lie, what they reach, how they are appended to. -/
namespace Go.Proofs.YtaoiejgbbmjpkaaGreatDoor
open Go.RowKit
set_option linter.unusedVariables false

/-- A kind of elements: their cells, the blocks that they reach besides, and that all of it lies there. -/
structure Kind (α : Type) where
  n : Nat
  c : α → List Value
  foot : α → Nat → Prop
  At : World → α → Prop
  pos : 0 < n
  len : ∀ x, (c x).length = n
  one : ∀ x, ∀ u ∈ c x, u.oneCell' = true
  lt : ∀ {w x b}, At w x → foot x b → b < w.heap.size
  keep : ∀ {w w' x}, At w x → (∀ b, foot x b → w'.heap[b]? = w.heap[b]?) → At w' x

theorem cell_same {w w' : World} {b : Nat} (h : w'.heap[b]? = w.heap[b]?) (o : Nat) : w'.cell? ⟨b, o, none⟩ = w.cell? ⟨b, o, none⟩ := by
  simp only [World.cell?, h]

theorem lt_same {w w' : World} {b : Nat} (h : w'.heap[b]? = w.heap[b]?) (hb : b < w.heap.size) : b < w'.heap.size := by
  rw [Array.getElem?_eq_getElem hb] at h
  exact (Array.getElem?_eq_some_iff.1 h).1

section
variable {α : Type} (K : Kind α)

/-- Its cells, one element behind the other. -/
def flatK (l : List α) : List Value := l.flatMap K.c

theorem flatK_length (l : List α) : (flatK K l).length = l.length * K.n := by
  induction l with
  | nil => simp [flatK]
  | cons x r ih => simp only [flatK, List.flatMap_cons, List.length_append, K.len, List.length_cons] at ih ⊢; rw [ih, Nat.add_mul]; omega

theorem flatK_append (l m : List α) : flatK K (l ++ m) = flatK K l ++ flatK K m := by simp [flatK]

theorem flatK_single (x : α) : flatK K [x] = K.c x := by simp [flatK]

theorem flatK_get : ∀ (l : List α) (i : Nat) (x : α), l[i]? = some x → ∀ j, j < K.n → (flatK K l)[i * K.n + j]? = (K.c x)[j]?
  | [], _, _, h, _, _ => by simp at h
  | y :: r, 0, x, h, j, hj => by
    simp at h
    subst h
    have e : flatK K (y :: r) = K.c y ++ flatK K r := by simp [flatK]
    rw [e, List.getElem?_append_left (by rw [K.len]; omega), Nat.zero_mul, Nat.zero_add]
  | y :: r, i + 1, x, h, j, hj => by
    have h' : r[i]? = some x := by simpa using h
    have ih := flatK_get r i x h' j hj
    have e : flatK K (y :: r) = K.c y ++ flatK K r := by simp [flatK]
    rw [e, List.getElem?_append_right (by rw [K.len, Nat.add_mul]; omega), K.len]
    have : (i + 1) * K.n + j - K.n = i * K.n + j := by rw [Nat.add_mul]; omega
    rw [this]
    exact ih

theorem flatK_one (l : List α) : ∀ u ∈ flatK K l, u.oneCell' = true := by
  intro u hu
  obtain ⟨x, _, hx⟩ := List.mem_flatMap.1 hu
  exact K.one x u hx

/-- A row of elements lies at an address (of none: whatever the address). -/
structure RowAt (w : World) (ao : Option Addr) (l : List α) : Prop where
  cell : ∀ i x, l[i]? = some x → ∃ b off, ao = some ⟨b, off, none⟩ ∧ b < w.heap.size ∧ ∀ j v, (K.c x)[j]? = some v → w.cell? ⟨b, off + i * K.n + j, none⟩ = some v
  at_ : ∀ x ∈ l, K.At w x

/-- The blocks that a row reaches. -/
def rowFoot (ao : Option Addr) (l : List α) (b : Nat) : Prop := (l ≠ [] ∧ ∃ off, ao = some ⟨b, off, none⟩) ∨ ∃ x ∈ l, K.foot x b

variable {K}

theorem nil_row (w : World) (ao : Option Addr) : RowAt K w ao [] := ⟨fun i x hx => by simp at hx, fun x hx => by cases hx⟩

theorem RowAt.lt {w : World} {ao : Option Addr} {l : List α} (h : RowAt K w ao l) {b : Nat} (hf : rowFoot K ao l b) : b < w.heap.size := by
  rcases hf with ⟨hl, off, rfl⟩ | ⟨x, hx, hf⟩
  · obtain ⟨x, r, rfl⟩ := List.exists_cons_of_ne_nil hl
    obtain ⟨b', off', e, hb, _⟩ := h.cell 0 x rfl
    simp at e
    omega
  · exact K.lt (h.at_ x hx) hf

theorem RowAt.keep {w w' : World} {ao : Option Addr} {l : List α} (h : RowAt K w ao l) (hk : ∀ b, rowFoot K ao l b → w'.heap[b]? = w.heap[b]?) : RowAt K w' ao l := by
  refine ⟨fun i x hx => ?_, fun x hx => K.keep (h.at_ x hx) (fun b hb => hk b (Or.inr ⟨x, hx, hb⟩))⟩
  obtain ⟨b, off, rfl, hb, hc⟩ := h.cell i x hx
  have e := hk b (Or.inl ⟨fun e => by rw [e] at hx; simp at hx, off, rfl⟩)
  exact ⟨b, off, rfl, lt_same e hb, fun j v hv => by rw [cell_same e]; exact hc j v hv⟩

theorem RowAt.below {w w' : World} {ao : Option Addr} {l : List α} (h : RowAt K w ao l) (hb : Below w.heap.size w w') : RowAt K w' ao l :=
  h.keep (fun b hf => hb.block b (h.lt hf))

theorem RowAt.kept {S : Nat → Prop} {w w' : World} {ao : Option Addr} {l : List α} (h : RowAt K w ao l) (hk : Kept S w w') (hn : ∀ b, rowFoot K ao l b → ¬ S b) : RowAt K w' ao l :=
  h.keep (fun b hf => hk.block b (h.lt hf) (hn b hf))

theorem Kind.below (K : Kind α) {w w' : World} {x : α} (h : K.At w x) (hb : Below w.heap.size w w') : K.At w' x := K.keep h (fun b hf => hb.block b (K.lt h hf))
theorem Kind.kept (K : Kind α) {S : Nat → Prop} {w w' : World} {x : α} (h : K.At w x) (hk : Kept S w w') (hn : ∀ b, K.foot x b → ¬ S b) : K.At w' x := K.keep h (fun b hf => hk.block b (K.lt h hf) (hn b hf))

theorem RowAt.take {w : World} {ao : Option Addr} {l : List α} (h : RowAt K w ao l) (n : Nat) : RowAt K w ao (l.take n) := by
  refine ⟨fun i x hx => h.cell i x ?_, fun x hx => h.at_ x (List.mem_of_mem_take hx)⟩
  rw [List.getElem?_take] at hx
  split at hx
  · exact hx
  · cases hx

/-- q is a row of the call's own that holds l. -/
structure KQ (K : Kind α) (T : TypeId) (w : World) (base : Nat) (q : Value) (l : List α) : Prop where
  row : QRow w base T K.n q l.length (flatK K l)
  at_ : ∀ x ∈ l, K.At w x
  off : ∀ x ∈ l, ∀ b, K.foot x b → q.ownBlock ≠ some b
  lt : ∀ k, q.ownBlock = some k → base ≤ k ∧ k < w.heap.size
  nil : ∀ n cap, q = .slice none n cap → cap = 0

theorem KQ.empty (K : Kind α) (T : TypeId) (w : World) (base : Nat) : KQ K T w base (.slice none 0 0) [] :=
  ⟨QRow.nil _ _ _ _ _, (fun x hx => by cases hx), (fun x hx => by cases hx), (fun k hk => by simp [Value.ownBlock] at hk), fun n cap e => by simp at e; exact e.2.symm⟩

theorem KQ.kept {T : TypeId} {S : Nat → Prop} {w w' : World} {base : Nat} {q : Value} {l : List α} (h : KQ K T w base q l) (hk : Kept S w w') (hq : ∀ k, q.ownBlock = some k → ¬ S k) (ho : ∀ x ∈ l, ∀ b, K.foot x b → ¬ S b) : KQ K T w' base q l :=
  ⟨h.row.kept hk hq, fun x hx => K.kept (h.at_ x hx) hk (ho x hx), h.off, fun k hq => ⟨(h.lt k hq).1, Nat.lt_of_lt_of_le (h.lt k hq).2 hk.size⟩, h.nil⟩

theorem KQ.below {T : TypeId} {w w' : World} {base : Nat} {q : Value} {l : List α} (h : KQ K T w base q l) (hb : Below w.heap.size w w') : KQ K T w' base q l :=
  h.kept (Kept.of_below (S := fun _ => False) hb) (fun _ _ h => h) (fun x _ _ _ h => h)

theorem QRow.rowAt {T : TypeId} {w : World} {base : Nat} {ao : Option Addr} {n cap : Nat} {l : List α} (h : QRow w base T K.n (.slice ao n cap) n (flatK K l)) (hn : n = l.length) (hA : ∀ x ∈ l, K.At w x) : RowAt K w ao l := by
  refine ⟨fun i x hx => ?_, hA⟩
  have hi := (List.getElem?_eq_some_iff.1 hx).1
  obtain ⟨g, off, cap', hv, hb, hlt, hc⟩ := h.cells (by omega)
  simp only [Value.slice.injEq, true_and] at hv
  refine ⟨g, off, hv.1, hlt, fun j v hj => ?_⟩
  have hj9 : j < K.n := by
    have := (List.getElem?_eq_some_iff.1 hj).1
    rw [K.len] at this
    exact this
  have := hc (i * K.n + j) v (by rw [flatK_get K l i x hx j hj9]; exact hj)
  rw [← Nat.add_assoc] at this
  exact this

theorem KQ.form {T : TypeId} {w : World} {base : Nat} {q : Value} {l : List α} (h : KQ K T w base q l) : ∃ ao cap, q = .slice ao l.length cap ∧ (ao = none → cap = 0) ∧ RowAt K w ao l := by
  obtain ⟨ao, cap, rfl, _, _⟩ := h.row.form
  exact ⟨ao, cap, rfl, fun e => h.nil _ _ (by rw [e]), h.row.rowAt rfl h.at_⟩

/-- Where a row of the call's own reaches. -/
theorem KQ.foot_ge {T : TypeId} {w : World} {base B : Nat} {ao : Option Addr} {n cap : Nat} {l : List α} (h : KQ K T w base (.slice ao n cap) l) (hB : B ≤ base) (hf : ∀ x ∈ l, ∀ b, K.foot x b → B ≤ b) : ∀ b, rowFoot K ao l b → B ≤ b := by
  intro b hb
  rcases hb with ⟨hl, off, rfl⟩ | ⟨x, hx, hf'⟩
  · have := (h.lt b rfl).1
    omega
  · exact hf x hx b hf'

/-- More is appended. -/
theorem KQ.push {T : TypeId} {w w' : World} {base : Nat} {q q' : Value} {l m : List α} (h : KQ K T w base q l) (hm : ∀ x ∈ m, K.At w x) (hmo : ∀ x ∈ m, ∀ b, K.foot x b → q.ownBlock ≠ some b) (h0 : 0 < m.length)
    (hrow : QRow w' base T K.n q' (l.length + m.length) (flatK K l ++ flatK K m)) (hgr : w.grownBy w' q.ownBlock) (hfr : ∀ g, q'.ownBlock = some g → q.ownBlock = some g ∨ w.heap.size ≤ g) : KQ K T w' base q' (l ++ m) := by
  have k6 := Kept.of_grown hgr
  have hoff : ∀ x, K.At w x → (∀ b, K.foot x b → q.ownBlock ≠ some b) → ∀ b, K.foot x b → q'.ownBlock ≠ some b := by
    intro x hx ho b hf e
    rcases hfr b e with h1 | h1
    · exact ho b hf h1
    · have := K.lt hx hf
      omega
  refine ⟨by rw [List.length_append, flatK_append]; exact hrow, ?_, ?_, ?_, ?_⟩
  · intro x hx
    rw [List.mem_append] at hx
    rcases hx with hx | hx
    · exact K.kept (h.at_ x hx) k6 (fun b hf e => h.off x hx b hf e)
    · exact K.kept (hm x hx) k6 (fun b hf e => hmo x hx b hf e)
  · intro x hx
    rw [List.mem_append] at hx
    rcases hx with hx | hx
    · exact hoff x (h.at_ x hx) (h.off x hx)
    · exact hoff x (hm x hx) (hmo x hx)
  · intro k hk
    rcases hrow.lt with hl | ⟨g, hg, hb, hl⟩
    · omega
    · rw [hk] at hg
      simp at hg
      subst hg
      exact ⟨hb, hl⟩
  · intro n cap e
    rcases hrow.2 with ⟨ao, hv, hn⟩ | ⟨g, pre, post, c, hv, _⟩
    · omega
    · rw [hv] at e
      cases e

/-- append(q, y). -/
theorem wpList_push {P : Program} {w : World} {ops : Array Oper} {rest : List Oper} {o : Oper} {a : Act} {Q : Exit → Act → World → Prop} (hgd : o.guard = none) (s x : Operand) (t : TypeId)
    (ho : o.op = .call { callee := .builtin .append, args := #[s, x], argTypes := #[t, t] })
    (base : Nat) (e : TypeId) (i : TypeInfo) (z : Value) (bytes : Nat) (ht : P.underlying t = some (.slice e)) (hi : P.info? e = some i) (hz : i.zero = some z)
    (hsize : i.size = K.n) (hby : i.bytes = bytes) (hzs : z.cells.size = K.n)
    (q : Value) (l : List α) (hs : a.eval s = q) (hq : KQ K e w base q l) (y : α) (hy : K.At w y) (hyo : ∀ b, K.foot y b → q.ownBlock ≠ some b)
    (ad : Addr) (c : Nat) (hx : a.eval x = .slice (some ad) 1 c) (hnews : ∀ j u, (K.c y)[j]? = some u → w.cell? (ad.add j) = some u)
    (h63 : l.length + 1 ≤ maxLen) (hbytes : (l.length + 1) * bytes ≤ 140737488355328) (hbase : base ≤ w.heap.size)
    (h : ∀ ao' cap' w', KQ K e w' base (.slice ao' (l.length + 1) cap') (l ++ [y]) → Kept (fun k => q.ownBlock = some k) w w' → wpList P ops Q rest (a.put o.dst (.slice ao' (l.length + 1) cap')) w') : wpList P ops Q (o :: rest) a w := by
  refine wpList_append_q hgd s x t ho base e i z K.n bytes ht hi hz hsize hby hzs K.pos q l.length (flatK K l) hs hq.row ad 1 c (K.c y) hx (by decide) (by rw [K.len]; omega) hnews (K.one y) h63 hbytes hbase ?_
  intro v' w' hrow hgr hfr
  obtain ⟨ao', cap', rfl, _, _⟩ := hrow.form
  refine h ao' cap' w' (hq.push (m := [y]) ?_ ?_ (by simp) (by rw [flatK_single]; exact hrow) hgr hfr) (Kept.of_grown hgr)
  · intro x hx; simp at hx; rw [hx]; exact hy
  · intro x hx; simp at hx; rw [hx]; exact hyo

/-- append(q, y), at a step of a region that draws its order. -/
theorem step_push {P : Program} (w : World) {ops : Array Oper} {o : Oper} {a : Act} {C : Act → World → Prop} {Q : Exit → Act → World → Prop} {E : Prop} (hgd : o.guard = none) (s x : Operand) (t : TypeId)
    (ho : o.op = .call { callee := .builtin .append, args := #[s, x], argTypes := #[t, t] })
    (base : Nat) (e : TypeId) (i : TypeInfo) (z : Value) (bytes : Nat) (ht : P.underlying t = some (.slice e)) (hi : P.info? e = some i) (hz : i.zero = some z)
    (hsize : i.size = K.n) (hby : i.bytes = bytes) (hzs : z.cells.size = K.n)
    (q : Value) (l : List α) (hs : a.eval s = q) (hq : KQ K e w base q l) (y : α) (hy : K.At w y) (hyo : ∀ b, K.foot y b → q.ownBlock ≠ some b)
    (ad : Addr) (c : Nat) (hx : a.eval x = .slice (some ad) 1 c) (hnews : ∀ j u, (K.c y)[j]? = some u → w.cell? (ad.add j) = some u)
    (h63 : l.length + 1 ≤ maxLen) (hbytes : (l.length + 1) * bytes ≤ 140737488355328) (hbase : base ≤ w.heap.size)
    (h : ∀ ao' cap' w', KQ K e w' base (.slice ao' (l.length + 1) cap') (l ++ [y]) → Kept (fun k => q.ownBlock = some k) w w' → C (a.put o.dst (.slice ao' (l.length + 1) cap')) w') : if Region.wanted o (yielded ops a.tmps) = true then Oper.wp P o a w C Q else E := by
  refine step_append_q w hgd s x t ho e i z K.n bytes ht hi hz hsize hby hzs K.pos base q l.length (flatK K l) hs hq.row ad 1 c (K.c y) hx (by decide) (by rw [K.len]; omega) hnews (K.one y) h63 hbytes hbase ?_
  intro v' w' hrow hgr hfr
  obtain ⟨ao', cap', rfl, _, _⟩ := hrow.form
  refine h ao' cap' w' (hq.push (m := [y]) ?_ ?_ (by simp) (by rw [flatK_single]; exact hrow) hgr hfr) (Kept.of_grown hgr)
  · intro x hx; simp at hx; rw [hx]; exact hy
  · intro x hx; simp at hx; rw [hx]; exact hyo

/-- The cells of a row that is copied. -/
theorem RowAt.news {w : World} {ad : Addr} {l : List α} (h : RowAt K w (some ad) l) : ∀ j u, (flatK K l)[j]? = some u → w.cell? (ad.add j) = some u := by
  intro j u hu
  have hj := (List.getElem?_eq_some_iff.1 hu).1
  rw [flatK_length] at hj
  have hi : j / K.n < l.length := (Nat.div_lt_iff_lt_mul K.pos).2 hj
  have hx : l[j / K.n]? = some l[j / K.n] := List.getElem?_eq_getElem hi
  obtain ⟨b, off, e, hb, hc⟩ := h.cell _ _ hx
  simp at e
  subst e
  have hg := flatK_get K l _ _ hx (j % K.n) (Nat.mod_lt _ K.pos)
  have e2 : j / K.n * K.n + j % K.n = j := Nat.div_add_mod' j K.n
  rw [e2, hu] at hg
  have := hc (j % K.n) u hg.symm
  rw [Go.WideShapes.add_plain]
  rw [Nat.add_assoc, e2] at this
  exact this

/-- append(q, xs...), q an empty row of the call's own: a row of the same elements, the call's own. -/
theorem wpList_copy {P : Program} {w : World} {ops : Array Oper} {rest : List Oper} {o : Oper} {a : Act} {Q : Exit → Act → World → Prop} (hgd : o.guard = none) (s x : Operand) (t : TypeId)
    (ho : o.op = .call { callee := .builtin .append, args := #[s, x], argTypes := #[t, t] })
    (base : Nat) (e : TypeId) (i : TypeInfo) (z : Value) (bytes : Nat) (ht : P.underlying t = some (.slice e)) (hi : P.info? e = some i) (hz : i.zero = some z)
    (hsize : i.size = K.n) (hby : i.bytes = bytes) (hzs : z.cells.size = K.n)
    (v : Value) (hs : a.eval s = v) (hown : w.ownsRow base e K.n v 0 []) (ao : Option Addr) (cap : Nat) (l : List α) (hx : a.eval x = .slice ao l.length cap)
    (hS : RowAt K w ao l) (hf : ∀ x ∈ l, ∀ b, K.foot x b → b < base) (hnil : ao = none → cap = 0) (hm : l.length ≤ maxLen) (hlen : l.length * bytes ≤ 140737488355328) (hbase : base ≤ w.heap.size)
    (h : ∀ ao' cap' w', RowAt K w' ao' l → (ao' = none → cap' = 0) → (l ≠ [] → ∀ b off, ao' = some ⟨b, off, none⟩ → base ≤ b) → Below base w w' → wpList P ops Q rest (a.put o.dst (.slice ao' l.length cap')) w') : wpList P ops Q (o :: rest) a w := by
  cases ao with
  | none =>
    have hc0 := hnil rfl
    subst hc0
    have hss : l = [] := by
      cases l with
      | nil => rfl
      | cons y r => obtain ⟨_, _, e, _⟩ := hS.cell 0 y rfl; cases e
    subst hss
    refine wpList_append_own_none hgd s x t ho base e i K.n ht hi v 0 [] hs hown hx ?_
    rcases hown.2 with ⟨hv, _⟩ | ⟨g, c, cur, hv, _⟩
    · rw [hv]
      exact h none 0 w (nil_row _ _) (fun _ => rfl) (fun hne => absurd rfl hne) (Below.refl _ _)
    · rw [hv]
      exact h _ c w (nil_row _ _) (fun e => by cases e) (fun hne => absurd rfl hne) (Below.refl _ _)
  | some ad =>
    refine wpList_append_own w hgd s x t ho base e i z K.n bytes ht hi hz hsize hby hzs K.pos v 0 [] hs hown ad l.length cap (flatK K l) hx (flatK_length K l) hS.news (flatK_one K l) (by omega) (by rw [Nat.zero_add]; exact hlen) hbase ?_
    intro v' w' hown' hgrow _
    have hb := (Below.refl base w).grown hgrow hbase (fun q hq => (hown.lt q hq).1)
    rw [Nat.zero_add, List.nil_append] at hown'
    have hA : ∀ x ∈ l, K.At w' x := fun x hx => K.keep (hS.at_ x hx) (fun b hb' => hb.block b (hf x hx b hb'))
    have hq := QRow.of_own hown'
    obtain ⟨ao', cap', rfl, _, _⟩ := hq.form
    refine h ao' cap' w' (hq.rowAt rfl hA) ?_ ?_ hb
    · intro he
      rcases hown'.2 with ⟨hv, _⟩ | ⟨g, c, cur, hv, _⟩
      · simp at hv; exact hv.2.2
      · simp at hv; rw [hv.1] at he; cases he
    · intro hne b off he
      exact (hown'.lt b (by rw [he]; rfl)).1
end
end Go.Proofs.YtaoiejgbbmjpkaaGreatDoor

/- Tags, Refs and headers as they lie in memory. -/
namespace Go.Proofs.YtaoiejgbbmjpkaaGreatDoor
open Go.RowKit
set_option linter.unusedVariables false

/-- Tags. -/
def tagK : Kind TagD where
  n := 2
  c t := [.int .i64 t.who, .string t.mac]
  foot _ _ := False
  At _ _ := True
  pos := by decide
  len _ := rfl
  one x u hu := by
    simp only [List.mem_cons, List.not_mem_nil, or_false] at hu
    rcases hu with rfl | rfl <;> rfl
  lt _ h := h.elim
  keep _ _ := trivial

/-- Texts. -/
def strK : Kind ByteArray where
  n := 1
  c s := [.string s]
  foot _ _ := False
  At _ _ := True
  pos := by decide
  len _ := rfl
  one x u hu := by
    simp only [List.mem_cons, List.not_mem_nil, or_false] at hu
    rcases hu with rfl; rfl
  lt _ h := h.elim
  keep _ _ := trivial

theorem RowAt.strs {w : World} {ao : Option Addr} {l : List ByteArray} (h : RowAt strK w ao l) : StrsAt w ao l := by
  intro j hj
  obtain ⟨b, off, h1, h2, h3⟩ := h.cell j l[j] (List.getElem?_eq_getElem hj)
  refine ⟨b, off, h1, h2, ?_⟩
  have := h3 0 (.string l[j]) rfl
  have e : off + j * strK.n + 0 = off + j := by show off + j * 1 + 0 = _; omega
  rw [e] at this
  exact this

theorem StrsAt.row {w : World} {ao : Option Addr} {l : List ByteArray} (h : StrsAt w ao l) : RowAt strK w ao l := by
  refine ⟨fun j x hx => ?_, fun _ _ => trivial⟩
  obtain ⟨hj, rfl⟩ := List.getElem?_eq_some_iff.1 hx
  obtain ⟨b, off, h1, h2, h3⟩ := h j hj
  refine ⟨b, off, h1, h2, fun i v hv => ?_⟩
  match i, hv with
  | 0, hv =>
    simp [strK] at hv
    subst hv
    have e : off + j * strK.n + 0 = off + j := by show off + j * 1 + 0 = _; omega
    rw [e]
    exact h3

theorem strs_foot {ao : Option Addr} {l : List ByteArray} {b : Nat} (h : rowFoot strK ao l b) : 0 < l.length ∧ ∃ off, ao = some ⟨b, off, none⟩ := by
  rcases h with ⟨hl, h⟩ | ⟨_, _, h⟩
  · exact ⟨List.length_pos_iff.2 hl, h⟩
  · exact h.elim

theorem OwnStrs.foot {base : Nat} {w : World} {ao : Option Addr} {l : List ByteArray} (h : OwnStrs base w ao l) {b : Nat} (hf : rowFoot strK ao l b) : base ≤ b := by
  obtain ⟨hl, off, e⟩ := strs_foot hf
  obtain ⟨b', off', e', hb, _⟩ := h 0 hl
  rw [e] at e'
  simp at e'
  omega

/-- A Ref as it lies in memory. -/
structure RefM where
  digest : ByteArray
  acks : List TagD
  ao : Option Addr
  cap : Nat

def RefM.d (x : RefM) : RefD := ⟨x.digest, x.acks⟩

def refK : Kind RefM where
  n := 2
  c x := [.string x.digest, .slice x.ao x.acks.length x.cap]
  foot x := rowFoot tagK x.ao x.acks
  At w x := RowAt tagK w x.ao x.acks ∧ (x.ao = none → x.cap = 0)
  pos := by decide
  len _ := rfl
  one x u hu := by
    simp only [List.mem_cons, List.not_mem_nil, or_false] at hu
    rcases hu with rfl | rfl <;> rfl
  lt h hf := h.1.lt hf
  keep h hk := ⟨h.1.keep hk, h.2⟩

/-- The data of Refs. -/
def rd (l : List RefM) : List RefD := l.map RefM.d

theorem rd_length (l : List RefM) : (rd l).length = l.length := by simp [rd]

/-- A header as it lies in memory. -/
structure HdrM where
  author : Int
  round : Int
  ra : Option Addr
  refs : List RefM
  rc : Nat
  pa : Option Addr
  parents : List ByteArray
  pc : Nat

def HdrM.d (h : HdrM) : HdrD := ⟨h.author, h.round, rd h.refs, h.parents⟩
def HdrM.c (h : HdrM) : List Value := [.int .i64 h.author, .int .i64 h.round, .slice h.ra h.refs.length h.rc, .slice h.pa h.parents.length h.pc]
def HdrM.v (h : HdrM) : Value := .agg #[.int .i64 h.author, .int .i64 h.round, .slice h.ra h.refs.length h.rc, .slice h.pa h.parents.length h.pc]

/-- Its lists lie in memory, and nil is nil. -/
structure HdrM.At (w : World) (h : HdrM) : Prop where
  refs : RowAt refK w h.ra h.refs
  nr : h.ra = none → h.rc = 0
  ps : RowAt strK w h.pa h.parents
  np : h.pa = none → h.pc = 0

def HdrM.foot (h : HdrM) (b : Nat) : Prop := rowFoot refK h.ra h.refs b ∨ rowFoot strK h.pa h.parents b

def hdrK : Kind HdrM where
  n := 4
  c := HdrM.c
  foot := HdrM.foot
  At := HdrM.At
  pos := by decide
  len _ := rfl
  one x u hu := by
    simp only [HdrM.c, List.mem_cons, List.not_mem_nil, or_false] at hu
    rcases hu with rfl | rfl | rfl | rfl <;> rfl
  lt h hf := hf.elim h.refs.lt h.ps.lt
  keep h hk := ⟨h.refs.keep (fun b hb => hk b (Or.inl hb)), h.nr, h.ps.keep (fun b hb => hk b (Or.inr hb)), h.np⟩

theorem HdrM.At.below {w w' : World} {h : HdrM} (ha : h.At w) (hb : Below w.heap.size w w') : h.At w' := Kind.below hdrK ha hb

/-- The two cells of a tag in a row. -/
theorem RowAt.tag {w : World} {ao : Option Addr} {l : List TagD} (h : RowAt tagK w ao l) {i : Nat} {t : TagD} (ht : l[i]? = some t) :
    ∃ b off, ao = some ⟨b, off, none⟩ ∧ b < w.heap.size ∧ w.cell? ⟨b, off + i * 2, none⟩ = some (.int .i64 t.who) ∧ w.cell? ⟨b, off + i * 2 + 1, none⟩ = some (.string t.mac) := by
  obtain ⟨b, off, h1, h2, h3⟩ := h.cell i t ht
  exact ⟨b, off, h1, h2, h3 0 _ rfl, h3 1 _ rfl⟩

/-- The two cells of a Ref in a row. -/
theorem RowAt.ref {w : World} {ao : Option Addr} {l : List RefM} (h : RowAt refK w ao l) {i : Nat} {x : RefM} (hx : l[i]? = some x) :
    ∃ b off, ao = some ⟨b, off, none⟩ ∧ b < w.heap.size ∧ w.cell? ⟨b, off + i * 2, none⟩ = some (.string x.digest) ∧ w.cell? ⟨b, off + i * 2 + 1, none⟩ = some (.slice x.ao x.acks.length x.cap) := by
  obtain ⟨b, off, h1, h2, h3⟩ := h.cell i x hx
  exact ⟨b, off, h1, h2, h3 0 _ rfl, h3 1 _ rfl⟩

theorem infoTag6 : (Tryz.prog.info? 23).map (fun i => (i.zero, i.size, i.bytes)) = some (some (.agg #[.int .i64 0, .string ⟨#[]⟩]), 2, 24) := by kernel_rfl

theorem infoRef6 : (Tryz.prog.info? 53).map (fun i => (i.zero, i.size, i.bytes)) = some (some (.agg #[.string ⟨#[]⟩, .slice none 0 0]), 2, 40) := by kernel_rfl

theorem infoHdr6 : (Tryz.prog.info? 30).map (·.size) = some 4 := by kernel_rfl
end Go.Proofs.YtaoiejgbbmjpkaaGreatDoor

/- The words of a message's tags: how they lie in memory, and how they are listed. -/
namespace Go.Proofs.YtaoiejgbbmjpkaaGreatDoor
open Go.RowKit
set_option linter.unusedVariables false

/-- A tag, and what it is of. -/
structure WordD where
  t : TagD
  kind : ByteArray
  word : ByteArray

/-- Words. -/
def wordK : Kind WordD where
  n := 4
  c x := [.int .i64 x.t.who, .string x.t.mac, .string x.kind, .string x.word]
  foot _ _ := False
  At _ _ := True
  pos := by decide
  len _ := rfl
  one x u hu := by
    simp only [List.mem_cons, List.not_mem_nil, or_false] at hu
    rcases hu with rfl | rfl | rfl | rfl <;> rfl
  lt _ h := h.elim
  keep _ _ := trivial

/-- Tags, all of one word. -/
def ofWord (kind word : ByteArray) (l : List TagD) : List WordD := l.map (fun t => ⟨t, kind, word⟩)

theorem ofWord_length (kind word : ByteArray) (l : List TagD) : (ofWord kind word l).length = l.length := by simp [ofWord]

theorem ofWord_succ (kind word : ByteArray) (l : List TagD) (k : Nat) (t : TagD) (h : l[k]? = some t) : ofWord kind word (l.take (k + 1)) = ofWord kind word (l.take k) ++ [⟨t, kind, word⟩] := by
  have hk := (List.getElem?_eq_some_iff.1 h).1
  have he := (List.getElem?_eq_some_iff.1 h).2
  rw [List.take_succ_eq_append_getElem hk, he]
  simp [ofWord]

theorem infoWord : (Tryz.prog.info? 47).map (fun i => (i.zero, i.size, i.bytes)) = some (some (.agg #[.int .i64 0, .string ⟨#[]⟩, .string ⟨#[]⟩, .string ⟨#[]⟩]), 4, 56) := by kernel_rfl

/-- A list of words that is being made lies at block p, its row at block B or behind it. -/
def WAt (w : World) (p B : Nat) (l : List WordD) : Prop := p < B ∧ B ≤ w.heap.size ∧ ∃ q, Arr w p 57 [q] ∧ KQ wordK 47 w B q l

/-- What is turned while it is made. -/
def WS (p B : Nat) (k : Nat) : Prop := k = p ∨ B ≤ k

theorem WAt.lt {w : World} {p B : Nat} {l : List WordD} (h : WAt w p B l) : p < w.heap.size := by
  obtain ⟨_, _, q, hX, _⟩ := h
  exact hX.lt

theorem WAt.below {w w' : World} {p B : Nat} {l : List WordD} (h : WAt w p B l) (hb : Below w.heap.size w w') : WAt w' p B l := by
  obtain ⟨h1, h2, q, hX, hQ⟩ := h
  exact ⟨h1, Nat.le_trans h2 hb.size, q, hX.below hb hX.lt, hQ.below hb⟩

theorem new_word (w : World) (x : WordD) : ∀ j u, (wordK.c x)[j]? = some u → (w.alloc (.cells #[.int .i64 x.t.who, .string x.t.mac, .string x.kind, .string x.word] 47)).cell? ((⟨w.heap.size, 0, none⟩ : Addr).add j) = some u := by
  intro j u hu
  rw [Go.WideShapes.add_plain, Nat.zero_add]
  exact (Arr.new w 47 [.int .i64 x.t.who, .string x.t.mac, .string x.kind, .string x.word]).cell hu

set_option maxRecDepth 100000 in
set_option maxHeartbeats 1000000 in
theorem wordsAdd_any (p B : Nat) (l : List WordD) (kind word : ByteArray) (ao : Option Addr) (cap : Nat) (ts : List TagD) (w : World) (h : WAt w p B l) (hA : RowAt tagK w ao ts) (hO : 2 ≤ ts.length → ∀ w1, Kept (WS p B) w w1 → RowAt tagK w1 ao ts) (hn : l.length + ts.length ≤ 1000000000) :
    Calls Tryz.prog 16 #[.pointer (some ⟨p, 0, none⟩), .string kind, .string word, .slice ao ts.length cap] w fun e w' => e = .returned (.tuple #[]) ∧ WAt w' p B (l ++ ofWord kind word ts) ∧ Kept (WS p B) w w' := by
  obtain ⟨i0, hi, hz0, hz1, hz2⟩ := info_parts infoWord
  go_enter Tryz.func16, Tryz.ntmps16
  go_wp2
  go_loopw [9, 12] (fun v9 v12 wr => ∃ i : Nat, i ≤ ts.length ∧ v12 = .int .i64 (i : Int) ∧ (i < ts.length → RowAt tagK wr ao ts) ∧ WAt wr p B (l ++ ofWord kind word (ts.take i)) ∧ Kept (WS p B) w wr) (fun _ v _ => ts.length - (intOf v).toNat)
  case atStart => exact ⟨0, Nat.zero_le _, rfl, fun _ => hA, by simpa [ofWord] using h, Kept.refl _ _⟩
  case round =>
    obtain ⟨i, hil, rfl, hR, hW, hb⟩ := hrel
    by_cases hlt : i < ts.length
    · obtain ⟨t, ht⟩ : ∃ t, ts[i]? = some t := ⟨ts[i], List.getElem?_eq_getElem hlt⟩
      obtain ⟨b, off, rfl, hbl, y0, y1⟩ := (hR hlt).tag ht
      obtain ⟨hpB, hBs, q, hX, hQ⟩ := hW
      have hms := ofWord_succ kind word ts i t ht
      have hml : (l ++ ofWord kind word (ts.take i)).length = l.length + i := by rw [List.length_append, ofWord_length, List.length_take]; omega
      have Hms : Hid (l ++ ofWord kind word (ts.take (i + 1)) = (l ++ ofWord kind word (ts.take i)) ++ [⟨t, kind, word⟩]) := by show _ = _; rw [hms, List.append_assoc]
      obtain ⟨ms, hmse⟩ : ∃ z, z = l ++ ofWord kind word (ts.take i) := ⟨_, rfl⟩
      rw [← hmse] at hQ hml Hms
      clear hms hmse ht hR hA h
      have hpl := hX.lt
      have hbx := belowNew wr (.cells #[.int .i64 t.who, .string t.mac] 23)
      have hT := Arr.new wr 23 [.int .i64 t.who, .string t.mac]
      have hb2 := hb.trans (Kept.of_below hbx)
      have hBs2 : B ≤ (wr.alloc (.cells #[.int .i64 t.who, .string t.mac] 23)).heap.size := Nat.le_trans hBs hbx.size
      have hX2 := hX.below hbx hX.lt
      have hQ2 := hQ.below hbx
      go_wp2_with fail
      obtain ⟨w1, hw1⟩ : ∃ z, wr.alloc (.cells #[.int .i64 t.who, .string t.mac] 23) = z := ⟨_, rfl⟩
      rw [hw1] at hX2 hb2 hQ2 hT hBs2 ⊢
      clear hw1 hbx hQ hb y0 y1 hX hpl hBs
      have x0 := hT.cell (i := 0) rfl
      have x1 := hT.cell (i := 1) rfl
      have cq := hX2.cell (i := 0) rfl
      have hbA : Below w1.heap.size w1 (w1.alloc (.cells #[.int .i64 t.who, .string t.mac, .string kind, .string word] 47)).drew := ((Below.refl w1.heap.size w1).alloc (Nat.le_refl _) _).drew
      have hX3 := hX2.below hbA hX2.lt
      have hQ3 := hQ2.below hbA
      have cqd : (w1.alloc (.cells #[.int .i64 t.who, .string t.mac, .string kind, .string word] 47)).cell? ⟨p, 0, none⟩ = some q := (hbA.cell (p := ⟨p, 0, none⟩) hX2.lt).trans cq
      have x0d : (w1.alloc (.cells #[.int .i64 t.who, .string t.mac, .string kind, .string word] 47)).cell? ⟨wr.heap.size, 0, none⟩ = some (.int .i64 t.who) := (hbA.cell (p := ⟨wr.heap.size, 0, none⟩) hT.lt).trans x0
      have x1d : (w1.alloc (.cells #[.int .i64 t.who, .string t.mac, .string kind, .string word] 47)).cell? ⟨wr.heap.size, 1, none⟩ = some (.string t.mac) := (hbA.cell (p := ⟨wr.heap.size, 1, none⟩) hT.lt).trans x1
      have hN1 := new_word w1 ⟨t, kind, word⟩
      have hN3 : B ≤ (w1.alloc (.cells #[.int .i64 t.who, .string t.mac, .string kind, .string word] 47)).drew.heap.size := Nat.le_trans hBs2 hbA.size
      have hm1 : ms.length + 1 ≤ maxLen := by rw [hml]; unfold maxLen; omega
      have hm2 : (ms.length + 1) * 56 ≤ 140737488355328 := by rw [hml]; omega
      have hbp := hb2.trans (Kept.of_below hbA)
      clear hml
      go_region_law (first
        | (refine step_push (K := wordK) _ (by rfl) _ _ 41 (by rfl) B 47 i0 _ 56 Tryz.underlying41 hi hz0 hz1 hz2 rfl _ ms (by rfl) hQ3 ⟨t, kind, word⟩ trivial (fun _ h => h.elim) ⟨w1.heap.size, 0, none⟩ 1 (by rfl) hN1 hm1 hm2 hN3 ?_; intro ao8 cap8 w8 hQ8 hk8; have hX8 := hX3.kept hk8 (fun e => by have := (hQ3.lt p e).1; omega); have c4c := hX8.cell (i := 0) rfl; have f4c := hX8.frozen 0))
      all_goals
        have hB8 : Kept (WS p B) _ w8 := hk8.mono (fun k _ hk => Or.inr (hQ3.lt k hk).1)
        have hs8 := Nat.le_trans hN3 hk8.size
        have hX9 := hX8.set 0 (.slice ao8 (ms.length + 1) cap8)
        have hk9 := Kept.setCell w8 ⟨p, 0, none⟩ (.slice ao8 (ms.length + 1) cap8)
        have hQ9 := hQ8.kept hk9 (fun k hk e => by have := (hQ8.lt k hk).1; have e' : k = p := e; omega) (fun _ _ _ h => h.elim)
        have hB9 := (hbp.trans hB8).set (p := ⟨p, 0, none⟩) (Or.inl rfl) (.slice ao8 (ms.length + 1) cap8)
        have hs9 := Nat.le_trans hs8 hk9.size
        generalize w8.setCell _ _ = w9 at hX9 hQ9 hB9 hs9 ⊢
        replace hX9 : Arr w9 p 57 [.slice ao8 (ms.length + 1) cap8] := hX9
        clear hX8 hQ8 hB8 hs8 hBs2 hk8 hk9 c4c f4c hbp hm1 hm2 hN1 hN3 x0d x1d cqd hX3 hQ3 hbA x0 x1 cq hT hQ2 hX2 hb2
        go_wp2
        go_roundw
        case rel => exact ⟨i + 1, by omega, by go_num, fun h2 => hO (by omega) _ hB9, ⟨hpB, hs9, _, hX9, by rw [Hms.out]; exact hQ9⟩, hB9⟩
        case measure => simp [intOf]; omega
    · obtain rfl : i = ts.length := by omega
      rw [List.take_length] at hW
      go_wp2
      go_end0
      exact ⟨rfl, hW, hb⟩
end Go.Proofs.YtaoiejgbbmjpkaaGreatDoor

/- The mathematics of layers 7 and 8: bytes of certificates, of quorums' certificates and of blocks, both ways round. -/
namespace Go.Proofs.YtaoiejgbbmjpkaaGreatDoor
open Go.RowKit
set_option linter.unusedVariables false

/-- A certificate. -/
structure CertD where
  header : HdrD
  votes : List TagD

def encC (c : CertD) : List UInt8 := txt (encH c.header) ++ tagsB c.votes

def decC (l : List UInt8) : Except Nat CertD :=
  rdT l fun t l => match decH t with
    | .error e => .error e
    | .ok h => rdG l fun v l => if l ≠ [] then .error 6 else .ok ⟨h, v⟩

/-- That enough have voted for a block of a view. -/
structure QcD where
  view : Int
  block : ByteArray
  votes : List TagD

def encQ (q : QcD) : List UInt8 := goInt q.view ++ txt q.block.data.toList ++ tagsB q.votes

def decQ (l : List UInt8) : Except Nat QcD :=
  rdI l fun v l => rdT l fun b l => rdG l fun t l => if l ≠ [] then .error 6 else .ok ⟨(v : Int), ⟨b.toArray⟩, t⟩

/-- One that can be read. -/
structure QcD.Fit (q : QcD) : Prop where
  v0 : 0 ≤ q.view
  vM : q.view ≤ 4611686018427387903
  blk : q.block.size ≤ 65536
  few : q.votes.length ≤ 7
  all : ∀ t ∈ q.votes, t.Fit

/-- A block. -/
structure BlkD where
  view : Int
  qc : QcD
  certs : List ByteArray

def encK (b : BlkD) : List UInt8 := goInt b.view ++ txt (encQ b.qc) ++ lst (bl b.certs)

def decK (l : List UInt8) : Except Nat BlkD :=
  rdI l fun v l => rdT l fun t l => match decQ t with
    | .error e => .error e
    | .ok q => rdL 8 l fun cs l => if l ≠ [] then .error 6 else .ok ⟨(v : Int), q, mks cs⟩

/-- One that can be read. -/
structure BlkD.Fit (b : BlkD) : Prop where
  v0 : 0 ≤ b.view
  vM : b.view ≤ 4611686018427387903
  qc : b.qc.Fit
  len : (encQ b.qc).length ≤ 65536
  few : b.certs.length ≤ 8
  all : ∀ c ∈ b.certs, c.size ≤ 65536
end Go.Proofs.YtaoiejgbbmjpkaaGreatDoor

/- Cells of a block that are written one behind the other. -/
namespace Go.Proofs.YtaoiejgbbmjpkaaGreatDoor
open Go.RowKit
set_option linter.unusedVariables false

/-- Three cells of a block are written. -/
def set3 (w : World) (g : Nat) (v0 v1 v2 : Value) : World := ((w.setCell ⟨g, 0, none⟩ v0).setCell ⟨g, 1, none⟩ v1).setCell ⟨g, 2, none⟩ v2

theorem Arr.set3 {w : World} {g : Nat} {t : TypeId} {a0 a1 a2 : Value} (h : Arr w g t [a0, a1, a2]) (v0 v1 v2 : Value) : Arr (Proofs.YtaoiejgbbmjpkaaGreatDoor.set3 w g v0 v1 v2) g t [v0, v1, v2] := ((h.set 0 v0).set 1 v1).set 2 v2

theorem below_set3 {B : Nat} {w w' : World} (h : Below B w w') {g : Nat} (hg : B ≤ g) (v0 v1 v2 : Value) : Below B w (set3 w' g v0 v1 v2) :=
  ((h.setCell (p := ⟨g, 0, none⟩) hg v0).setCell (p := ⟨g, 1, none⟩) hg v1).setCell (p := ⟨g, 2, none⟩) hg v2

theorem kept_set3 (w : World) (g : Nat) (v0 v1 v2 : Value) : Kept (fun k => k = g) w (set3 w g v0 v1 v2) :=
  (((Kept.refl (fun k => k = g) w).set (p := ⟨g, 0, none⟩) rfl v0).set (p := ⟨g, 1, none⟩) rfl v1).set (p := ⟨g, 2, none⟩) rfl v2

/-- Five cells of a block are written. -/
def set5 (w : World) (g : Nat) (v0 v1 v2 v3 v4 : Value) : World := ((((w.setCell ⟨g, 0, none⟩ v0).setCell ⟨g, 1, none⟩ v1).setCell ⟨g, 2, none⟩ v2).setCell ⟨g, 3, none⟩ v3).setCell ⟨g, 4, none⟩ v4

theorem Arr.set5 {w : World} {g : Nat} {t : TypeId} {a0 a1 a2 a3 a4 : Value} (h : Arr w g t [a0, a1, a2, a3, a4]) (v0 v1 v2 v3 v4 : Value) : Arr (Proofs.YtaoiejgbbmjpkaaGreatDoor.set5 w g v0 v1 v2 v3 v4) g t [v0, v1, v2, v3, v4] := ((((h.set 0 v0).set 1 v1).set 2 v2).set 3 v3).set 4 v4

theorem below_set5 {B : Nat} {w w' : World} (h : Below B w w') {g : Nat} (hg : B ≤ g) (v0 v1 v2 v3 v4 : Value) : Below B w (set5 w' g v0 v1 v2 v3 v4) :=
  ((((h.setCell (p := ⟨g, 0, none⟩) hg v0).setCell (p := ⟨g, 1, none⟩) hg v1).setCell (p := ⟨g, 2, none⟩) hg v2).setCell (p := ⟨g, 3, none⟩) hg v3).setCell (p := ⟨g, 4, none⟩) hg v4

theorem kept_set5 (w : World) (g : Nat) (v0 v1 v2 v3 v4 : Value) : Kept (fun k => k = g) w (set5 w g v0 v1 v2 v3 v4) :=
  (((((Kept.refl (fun k => k = g) w).set (p := ⟨g, 0, none⟩) rfl v0).set (p := ⟨g, 1, none⟩) rfl v1).set (p := ⟨g, 2, none⟩) rfl v2).set (p := ⟨g, 3, none⟩) rfl v3).set (p := ⟨g, 4, none⟩) rfl v4
end Go.Proofs.YtaoiejgbbmjpkaaGreatDoor

/- Quorums' certificates and blocks as they lie in memory. -/
namespace Go.Proofs.YtaoiejgbbmjpkaaGreatDoor
open Go.RowKit
set_option linter.unusedVariables false

/-- A quorum's certificate as it lies in memory. -/
structure QcM where
  view : Int
  block : ByteArray
  va : Option Addr
  votes : List TagD
  vc : Nat

def QcM.d (x : QcM) : QcD := ⟨x.view, x.block, x.votes⟩
def QcM.c (x : QcM) : List Value := [.int .i64 x.view, .string x.block, .slice x.va x.votes.length x.vc]
def QcM.v (x : QcM) : Value := .agg #[.int .i64 x.view, .string x.block, .slice x.va x.votes.length x.vc]

/-- Its votes lie in memory, and nil is nil. -/
structure QcM.At (w : World) (x : QcM) : Prop where
  votes : RowAt tagK w x.va x.votes
  nv : x.va = none → x.vc = 0

def QcM.foot (x : QcM) (b : Nat) : Prop := rowFoot tagK x.va x.votes b

def qcK : Kind QcM where
  n := 3
  c := QcM.c
  foot := QcM.foot
  At := QcM.At
  pos := by decide
  len _ := rfl
  one x u hu := by
    simp only [QcM.c, List.mem_cons, List.not_mem_nil, or_false] at hu
    rcases hu with rfl | rfl | rfl <;> rfl
  lt h hf := h.votes.lt hf
  keep h hk := ⟨h.votes.keep hk, h.nv⟩

theorem QcM.At.below {w w' : World} {x : QcM} (ha : x.At w) (hb : Below w.heap.size w w') : x.At w' := Kind.below qcK ha hb

/-- No quorum's certificate. -/
def qc0 : QcM := ⟨0, ⟨#[]⟩, none, [], 0⟩

theorem qc0_at (w : World) : qc0.At w := ⟨nil_row _ _, fun _ => rfl⟩

theorem infoQc8 : (Tryz.prog.info? 35).map (·.size) = some 3 := by kernel_rfl

/-- A block as it lies in memory. -/
structure BlkM where
  view : Int
  qc : QcM
  ca : Option Addr
  certs : List ByteArray
  cc : Nat

def BlkM.d (x : BlkM) : BlkD := ⟨x.view, x.qc.d, x.certs⟩
def BlkM.c (x : BlkM) : List Value := [.int .i64 x.view, .int .i64 x.qc.view, .string x.qc.block, .slice x.qc.va x.qc.votes.length x.qc.vc, .slice x.ca x.certs.length x.cc]
def BlkM.v (x : BlkM) : Value := .agg #[.int .i64 x.view, .int .i64 x.qc.view, .string x.qc.block, .slice x.qc.va x.qc.votes.length x.qc.vc, .slice x.ca x.certs.length x.cc]

/-- Its lists lie in memory, and nil is nil. -/
structure BlkM.At (w : World) (x : BlkM) : Prop where
  qc : x.qc.At w
  certs : RowAt strK w x.ca x.certs
  nc : x.ca = none → x.cc = 0

def BlkM.foot (x : BlkM) (b : Nat) : Prop := x.qc.foot b ∨ rowFoot strK x.ca x.certs b

def blkK : Kind BlkM where
  n := 5
  c := BlkM.c
  foot := BlkM.foot
  At := BlkM.At
  pos := by decide
  len _ := rfl
  one x u hu := by
    simp only [BlkM.c, List.mem_cons, List.not_mem_nil, or_false] at hu
    rcases hu with rfl | rfl | rfl | rfl | rfl <;> rfl
  lt h hf := hf.elim (fun q => Kind.lt qcK h.qc q) h.certs.lt
  keep h hk := ⟨Kind.keep qcK h.qc (fun b hb => hk b (Or.inl hb)), h.certs.keep (fun b hb => hk b (Or.inr hb)), h.nc⟩

theorem BlkM.At.below {w w' : World} {x : BlkM} (ha : x.At w) (hb : Below w.heap.size w w') : x.At w' := Kind.below blkK ha hb

/-- No block. -/
def blk0 : BlkM := ⟨0, qc0, none, [], 0⟩

theorem blk0_at (w : World) : blk0.At w := ⟨qc0_at w, nil_row _ _, fun _ => rfl⟩

theorem infoBlk8 : (Tryz.prog.info? 37).map (·.size) = some 5 := by kernel_rfl
end Go.Proofs.YtaoiejgbbmjpkaaGreatDoor

/- The mathematics of layer 8: marks, the first block's id, words, what is wrong with a row of marks. -/
namespace Go.Proofs.YtaoiejgbbmjpkaaGreatDoor
open Go.RowKit
set_option linter.unusedVariables false

/-- A number in k bytes, the highest first. -/
def beN : Nat → Nat → List UInt8
  | 0, _ => []
  | k + 1, n => beN k (n / 256) ++ [UInt8.ofNat n]

/-- The number that bytes say, the highest first. -/
def valL (l : List UInt8) : Nat := l.foldl (fun a b => 256 * a + b.toNat) 0

/-- Is a round one that a mark can have? -/
def roundOk (r : Int) : Prop := ¬ (r < 1 ∨ 4611686018427387903 < r)

/-- A certificate's mark. -/
def markB (r : Int) (id : ByteArray) : ByteArray := if r < 1 ∨ 4611686018427387903 < r ∨ id.size ≠ 32 then ⟨#[]⟩ else ⟨(beN 8 r.toNat ++ id.data.toList).toArray⟩

/-- The round that is in a mark's first eight bytes. -/
def roundOf (s : ByteArray) : Nat := valL (s.data.toList.take 8)

/-- Is it a mark? -/
def isMark (s : ByteArray) : Prop := s.size = 40 ∧ 1 ≤ roundOf s ∧ roundOf s ≤ 4611686018427387903

instance (s : ByteArray) : Decidable (isMark s) := by unfold isMark; infer_instance

/-- What Unmark tells. -/
def unR (s : ByteArray) : Nat := if isMark s then roundOf s else 0
def unI (s : ByteArray) : ByteArray := if isMark s then s.extract 8 s.size else ⟨#[]⟩

theorem bytes_ext {a b : ByteArray} (h : a.data.toList = b.data.toList) : a = b := by
  cases a; cases b
  simp only [ByteArray.mk.injEq]
  exact Array.ext' h

/-- The first block's id. -/
def gen32 : ByteArray := ⟨(List.replicate 32 0).toArray⟩

/-- What a vote for a block says. -/
def wordB (v : Int) (id : ByteArray) : ByteArray := ⟨(goInt v ++ id.data.toList).toArray⟩

/-- Is a text among texts? -/
def hasB (l : List ByteArray) (m : ByteArray) : Bool := l.any fun x => x.data.toList == m.data.toList

/-- What is wrong with a row of marks, behind those that stood there. -/
def certsP : List ByteArray → List ByteArray → Nat
  | _, [] => 0
  | seen, m :: r => if ¬ isMark m then 3 else if hasB seen m = true then 13 else certsP (seen ++ [m]) r
end Go.Proofs.YtaoiejgbbmjpkaaGreatDoor

/- What block.Word does; nothing old in memory is turned. -/
namespace Go.Proofs.YtaoiejgbbmjpkaaGreatDoor
open Go.RowKit
set_option linter.unusedVariables false

theorem word_join (v : Int) (id : ByteArray) : (⟨(goInt v).toArray⟩ : ByteArray) ++ id = wordB v id := append_list _ _

set_option maxRecDepth 100000 in
theorem word_any (v : Int) (id : ByteArray) (w : World) (hid : id.size ≤ 140737488351232) :
    Calls Tryz.prog 37 #[.int .i64 v, .string id] w fun e w' => e = .returned (.string (wordB v id)) ∧ Below w.heap.size w w' := by
  have c := int_any v w
  have hg := goInt_length v
  have hjo : Hid _ := word_join v id
  have hz : (⟨(goInt v).toArray⟩ : ByteArray).size ≤ 9 := by rw [size_mk]; exact hg
  generalize (⟨(goInt v).toArray⟩ : ByteArray) = q at *
  generalize wordB v id = out at *
  clear hg
  go_enter Tryz.func37, Tryz.ntmps37
  go_wp2_with fail
  refine c.mono ?_
  rintro e w1 ⟨rfl, hb⟩
  clear c
  go_wp2
  go_ret
  exact ⟨by rw [← hjo.out]; rfl, hb⟩
end Go.Proofs.YtaoiejgbbmjpkaaGreatDoor
