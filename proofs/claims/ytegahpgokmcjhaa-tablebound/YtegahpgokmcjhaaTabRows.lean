/- The reference's table as it lies in memory: a box of four cells and a row of things. -/
import Derived.Test.YtegahpgokmcjhaaKindsOwn
import Derived.Test.YtegahpgokmcjhaaRegionLast
namespace Go.Proofs.Ytegahpgokmcjhaa
open Go.RowKit
set_option linter.unusedVariables false

/-- A thing, its id and its round. -/
structure ThingD where
  id : ByteArray
  round : Int
  s : ByteArray

instance : Inhabited ThingD := ⟨⟨⟨#[]⟩, 0, ⟨#[]⟩⟩⟩

def thingK : Kind ThingD where
  n := 3
  c x := [.string x.id, .int .i64 x.round, .string x.s]
  foot _ _ := False
  At _ _ := True
  pos := by decide
  len _ := rfl
  one x u hu := by
    simp only [List.mem_cons, List.not_mem_nil, or_false] at hu
    rcases hu with rfl | rfl | rfl <;> rfl
  lt _ h := h.elim
  keep _ _ := trivial

theorem infoThing : (Try.prog.info? 55).any (fun i => i.size == 3 && i.bytes == 40 && (match i.zero with | some z => z.cells.size == 3 | none => false)) = true := by kernel_rfl

theorem thingInfo : ∃ i z, Try.prog.info? 55 = some i ∧ i.zero = some z ∧ i.size = 3 ∧ i.bytes = 40 ∧ z.cells.size = 3 := by
  have h := infoThing
  cases hi : Try.prog.info? 55 with
  | none => rw [hi] at h; cases h
  | some i =>
    rw [hi] at h
    simp only [Option.any_some, Bool.and_eq_true, beq_iff_eq] at h
    cases hz : i.zero with
    | none => rw [hz] at h; simp at h
    | some z =>
      rw [hz] at h
      exact ⟨i, z, rfl, hz, h.1.1, h.1.2, by simpa using h.2⟩

/-- What is turned by an act on an object: its box, and its row's block. -/
def BoxS (bb : Nat) (q : Value) (k : Nat) : Prop := k = bb ∨ q.ownBlock = some k

/-- A row's block is an old one's, or new. -/
def FreshQ (w : World) (q q' : Value) : Prop := ∀ g, q'.ownBlock = some g → q.ownBlock = some g ∨ w.heap.size ≤ g

theorem FreshQ.refl (w : World) (q : Value) : FreshQ w q q := fun _ h => Or.inl h

/-- The reference's table lies in block rb, its row in a block behind it. -/
structure RTab (w : World) (rb : Nat) (q : Value) (most : Int) (l : List ThingD) (cut : Bool) (low : Int) : Prop where
  box : Arr w rb 37 [.int .i64 most, q, .bool cut, .int .i64 low]
  row : KQ thingK 55 w (rb + 1) q l
  few : l.length ≤ 1000000

theorem RTab.below {w w' : World} {rb : Nat} {q : Value} {most : Int} {l : List ThingD} {cut : Bool} {low : Int} (h : RTab w rb q most l cut low) (hb : Below w.heap.size w w') : RTab w' rb q most l cut low :=
  ⟨h.box.below hb h.box.lt, h.row.below hb, h.few⟩

theorem RTab.kept {S : Nat → Prop} {w w' : World} {rb : Nat} {q : Value} {most : Int} {l : List ThingD} {cut : Bool} {low : Int} (h : RTab w rb q most l cut low) (hk : Kept S w w') (h1 : ¬ S rb) (h2 : ∀ k, q.ownBlock = some k → ¬ S k) : RTab w' rb q most l cut low :=
  ⟨h.box.kept hk h1, h.row.kept hk h2 (fun _ _ _ h => h.elim), h.few⟩

theorem RTab.ge {w : World} {rb : Nat} {q : Value} {most : Int} {l : List ThingD} {cut : Bool} {low : Int} (h : RTab w rb q most l cut low) {k : Nat} (hk : q.ownBlock = some k) : rb < k ∧ k < w.heap.size := by
  have := h.row.lt k hk
  omega

theorem RowAt.thing {w : World} {ao : Option Addr} {l : List ThingD} (h : RowAt thingK w ao l) {i : Nat} {x : ThingD} (hx : l[i]? = some x) :
    ∃ g off, ao = some ⟨g, off, none⟩ ∧ g < w.heap.size ∧ w.cell? ⟨g, off + i * 3, none⟩ = some (.string x.id) ∧ w.cell? ⟨g, off + i * 3 + 1, none⟩ = some (.int .i64 x.round) ∧ w.cell? ⟨g, off + i * 3 + 2, none⟩ = some (.string x.s) := by
  obtain ⟨g, off, h1, h2, h3⟩ := h.cell i x hx
  exact ⟨g, off, h1, h2, h3 0 _ rfl, h3 1 _ rfl, h3 2 _ rfl⟩

/-- A row's block lies behind whatever lies ahead of its base. -/
theorem KQ.rebase {α : Type} {K : Kind α} {T : TypeId} {w : World} {B B' : Nat} {q : Value} {l : List α} (h : KQ K T w B q l) (hB : B' ≤ B) : KQ K T w B' q l := by
  refine ⟨⟨h.row.1, h.row.2.imp id ?_⟩, h.at_, h.off, fun k hk => ⟨Nat.le_trans hB (h.lt k hk).1, (h.lt k hk).2⟩, h.nil⟩
  rintro ⟨g, pre, post, cap, e, hb, r⟩
  exact ⟨g, pre, post, cap, e, Nat.le_trans hB hb, r⟩

theorem new_thing (w : World) (x : ThingD) : ∀ j u, (thingK.c x)[j]? = some u → (w.alloc (.cells #[.string x.id, .int .i64 x.round, .string x.s] 55)).cell? ((⟨w.heap.size, 0, none⟩ : Addr).add j) = some u := by
  intro j u hu
  rw [Go.WideShapes.add_plain, Nat.zero_add]
  exact (Arr.new w 55 [.string x.id, .int .i64 x.round, .string x.s]).cell hu

theorem own_belowT {B : Nat} {e : TypeId} {k : Nat} {v : Value} {n : Nat} {xs : List Value} {w w' : World} (h : w.ownsRow B e k v n xs) (hb : Below w.heap.size w w') : w'.ownsRow B e k v n xs := by
  refine ⟨h.1, h.2.imp id ?_⟩
  rintro ⟨g, cap, cur, e1, e2, e3, e4⟩
  have hg : g < w.heap.size := (Array.getElem?_eq_some_iff.1 e3).1
  exact ⟨g, cap, cur, e1, e2, (hb.block g hg).trans e3, e4⟩

/-- One, new. -/
theorem thingOne (w : World) (x : ThingD) : RowAt thingK (w.alloc (.cells #[.string x.id, .int .i64 x.round, .string x.s] 55)) (some ⟨w.heap.size, 0, none⟩) [x] := by
  have hX := Arr.new w 55 [.string x.id, .int .i64 x.round, .string x.s]
  refine ⟨fun i y hy => ?_, fun _ _ => trivial⟩
  cases i with
  | succ k => simp at hy
  | zero =>
    simp only [List.getElem?_cons_zero, Option.some.injEq] at hy
    subst hy
    refine ⟨_, _, rfl, hX.lt, fun q v hv => ?_⟩
    have h0 := hX.cell (i := q) (v := v) hv
    have e : 0 + 0 * thingK.n + q = q := by omega
    rw [e]
    exact h0

theorem RowAt.dropG {α : Type} {K : Kind α} {w : World} {b off : Nat} {l : List α} (h : RowAt K w (some ⟨b, off, none⟩) l) (i : Nat) : RowAt K w (some ⟨b, off + i * K.n, none⟩) (l.drop i) := by
  refine ⟨fun k t ht => ?_, fun x hx => h.at_ x (List.mem_of_mem_drop hx)⟩
  rw [List.getElem?_drop] at ht
  obtain ⟨b', off', e', h1, h2⟩ := h.cell _ t ht
  simp only [Option.some.injEq, Addr.mk.injEq, and_true] at e'
  obtain ⟨rfl, rfl⟩ := e'
  refine ⟨_, _, rfl, h1, fun q v hv => ?_⟩
  have := h2 q v hv
  have ea : off + (i + k) * K.n + q = off + i * K.n + k * K.n + q := by rw [Nat.add_mul]; omega
  rw [ea] at this
  exact this

/-- Behind three appends. -/
theorem KQ.joined {α : Type} {K : Kind α} {T : TypeId} {w : World} {B : Nat} {ao : Option Addr} {N cap : Nat} {LT LD lo : List α} {x : α} (hf : ∀ x b, ¬ K.foot x b) (hA : ∀ x, K.At w x) (h : w.ownsRow B T K.n (.slice ao N cap) N ([] ++ flatK K LT ++ flatK K [x] ++ flatK K LD)) (hl : lo = LT ++ x :: LD) (hN : N = lo.length) : KQ K T w B (.slice ao N cap) lo := by
  have e : [] ++ flatK K LT ++ flatK K [x] ++ flatK K LD = flatK K lo := by
    rw [hl, List.nil_append, ← flatK_append, ← flatK_append, List.append_assoc]
    rfl
  rw [e] at h
  exact KQ.of_own hf (fun x _ => hA x) hN h

/-- A new row is put in, and the two marks behind it. -/
theorem RTab.newRow {w w1 : World} {rb : Nat} {q q' : Value} {most : Int} {l l' : List ThingD} {cut : Bool} {low : Int} (h : RTab w rb q most l cut low) (hb : Below w.heap.size w w1) (hq : KQ thingK 55 w1 w.heap.size q' l') (hl : l'.length ≤ 1000000) :
    RTab (w1.setCell ⟨rb, 1, none⟩ q') rb q' most l' cut low ∧ FreshQ w q q' ∧ Kept (BoxS rb q) w (w1.setCell ⟨rb, 1, none⟩ q') := by
  have hlt := h.box.lt
  have hst := Kept.setCell w1 ⟨rb, 1, none⟩ q'
  refine ⟨⟨(h.box.below hb h.box.lt).set 1 q', (hq.rebase (by omega)).kept hst (fun k hk e => ?_) (fun _ _ _ h => h.elim), hl⟩, fun g hg => Or.inr (hq.lt g hg).1, (Kept.of_below hb).set (p := ⟨rb, 1, none⟩) (Or.inl rfl) _⟩
  have := (hq.lt k hk).1
  have e' : k = rb := e
  omega

theorem RTab.setLow {w : World} {rb : Nat} {q : Value} {most : Int} {l : List ThingD} {cut : Bool} {low : Int} (h : RTab w rb q most l cut low) (r : Int) : RTab (w.setCell ⟨rb, 3, none⟩ (.int .i64 r)) rb q most l cut r := by
  have hst := Kept.setCell w ⟨rb, 3, none⟩ (.int .i64 r)
  exact ⟨h.box.set 3 _, h.row.kept hst (fun k hk e => by have := (h.ge hk).1; have e' : k = rb := e; omega) (fun _ _ _ h => h.elim), h.few⟩

theorem RTab.setCut {w : World} {rb : Nat} {q : Value} {most : Int} {l : List ThingD} {cut : Bool} {low : Int} (h : RTab w rb q most l cut low) : RTab (w.setCell ⟨rb, 2, none⟩ (.bool true)) rb q most l true low := by
  have hst := Kept.setCell w ⟨rb, 2, none⟩ (.bool true)
  exact ⟨h.box.set 2 _, h.row.kept hst (fun k hk e => by have := (h.ge hk).1; have e' : k = rb := e; omega) (fun _ _ _ h => h.elim), h.few⟩

/-- What is in by an id. -/
def getR (l : List ThingD) (id : ByteArray) : Option ThingD := l.find? (fun x => x.id.toList == id.toList)

theorem getR_step {l : List ThingD} {id : ByteArray} {i : Nat} {x : ThingD} (hx : l[i]? = some x) : getR (l.drop i) id = if x.id.toList == id.toList then some x else getR (l.drop (i + 1)) id := by
  obtain ⟨hi, he⟩ := List.getElem?_eq_some_iff.1 hx
  unfold getR
  rw [List.drop_eq_getElem_cons hi, he, List.find?_cons]
  cases x.id.toList == id.toList <;> rfl

def gotS (o : Option ThingD) : ByteArray := match o with | some x => x.s | none => ⟨#[]⟩
def gotR (o : Option ThingD) : Int := match o with | some x => x.round | none => 0

/-- Where a new id goes. -/
def putAt (l : List ThingD) (id : ByteArray) : Nat := (l.takeWhile (fun x => Op.bytesLess x.id.toList id.toList)).length

theorem putAt_le (l : List ThingD) (id : ByteArray) : putAt l id ≤ l.length := by
  unfold putAt
  exact (List.takeWhile_sublist _).length_le

theorem takeWhile_drop {p : ThingD → Bool} : ∀ (l : List ThingD) (i : Nat) (x : ThingD), l[i]? = some x → i ≤ (l.takeWhile p).length → (i < (l.takeWhile p).length ↔ p x = true)
  | [], i, x, h, _ => by simp at h
  | y :: r, 0, x, h, _ => by
    simp at h
    subst h
    rw [List.takeWhile_cons]
    cases p y <;> simp
  | y :: r, i + 1, x, h, hi => by
    rw [List.takeWhile_cons] at hi ⊢
    cases hp : p y with
    | false => rw [hp] at hi; simp at hi
    | true =>
      rw [hp] at hi
      simp only [if_true, List.length_cons, Nat.add_le_add_iff_right, Nat.add_lt_add_iff_right] at hi ⊢
      exact takeWhile_drop r i x (by simpa using h) hi

theorem putAt_step {l : List ThingD} {id : ByteArray} {i : Nat} {x : ThingD} (hx : l[i]? = some x) (hi : i ≤ putAt l id) : i < putAt l id ↔ Op.bytesLess x.id.toList id.toList = true :=
  takeWhile_drop l i x hx hi

def putL (l : List ThingD) (x : ThingD) : List ThingD := l.take (putAt l x.id) ++ x :: l.drop (putAt l x.id)

/-- What Put answers. -/
def putE (most : Int) (l : List ThingD) (cut : Bool) (low : Int) (id : ByteArray) (round : Int) : Nat :=
  if (getR l id).isSome = true then 13 else if cut = true ∧ round < low then 11 else if most ≤ (l.length : Int) then 4 else 0

def putT (most : Int) (l : List ThingD) (cut : Bool) (low : Int) (x : ThingD) : List ThingD := if putE most l cut low x.id x.round = 0 then putL l x else l

/-- The ids of a round; those of lesser rounds taken out. -/
def idsL (l : List ThingD) (round : Int) : List ByteArray := (l.filter (fun x => x.round == round)).map (·.id)
def dropL (l : List ThingD) (round : Int) : List ThingD := l.filter (fun x => decide (round ≤ x.round))
def lowR (cut : Bool) (low round : Int) : Int := if cut = false ∨ low < round then round else low

theorem idsL_succ {l : List ThingD} {i : Nat} {x : ThingD} (hx : l[i]? = some x) (round : Int) : idsL (l.take (i + 1)) round = idsL (l.take i) round ++ (if (x.round == round) = true then [x.id] else []) := by
  obtain ⟨hi, he⟩ := List.getElem?_eq_some_iff.1 hx
  unfold idsL
  rw [List.take_succ_eq_append_getElem hi, he, List.filter_append, List.map_append]
  congr 1
  cases hc : x.round == round <;> simp [hc]

theorem dropL_succ {l : List ThingD} {i : Nat} {x : ThingD} (hx : l[i]? = some x) (round : Int) : dropL (l.take (i + 1)) round = dropL (l.take i) round ++ (if round ≤ x.round then [x] else []) := by
  obtain ⟨hi, he⟩ := List.getElem?_eq_some_iff.1 hx
  unfold dropL
  rw [List.take_succ_eq_append_getElem hi, he, List.filter_append]
  congr 1
  by_cases hc : round ≤ x.round <;> simp [hc]

theorem dropL_le (l : List ThingD) (round : Int) : (dropL l round).length ≤ l.length := List.length_filter_le _ _
theorem idsL_le (l : List ThingD) (round : Int) : (idsL l round).length ≤ l.length := by
  unfold idsL
  rw [List.length_map]
  exact List.length_filter_le _ _
end Go.Proofs.Ytegahpgokmcjhaa
