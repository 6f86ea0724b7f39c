/- Texts as one: TabMath, HdrRightMath, MapStr, MapStrRange, MapStrSize, DagTabMath, TabProg, TabFns. -/
import Derived.Test.YtmjkbdgcnoenbaaGreatDoorDd10
import Derived.Test.YtmjkbdgcnoenbaaGreatDoorDd02
import Derived.Test.YtmjkbdgcnoenbaaGreatDoorDd05
import Derived.Maps.OwnSet
import Derived.Maps.OwnOps
import Derived.StringKeys
import Derived.Maps.RangeWalk
/- The pure side of layer 11: what is in a table as a list that rises by ids. -/
namespace Go.Proofs.YtmjkbdgcnoenbaaGreatDoor
open Go Go.RowKit
set_option linter.unusedVariables false

theorem getR_none {l : List ThingD} {id : ByteArray} (h : id ∉ l.map (·.id)) : getR l id = none := by
 unfold getR
 rw [List.find?_eq_none]
 intro y hy
 rw [bytes_eq]
 simp only [decide_eq_true_eq]
 exact fun e => h (List.mem_map.2 ⟨y, hy, e⟩)

theorem getR_cons (x : ThingD) (l : List ThingD) (id : ByteArray) : getR (x :: l) id = if x.id = id then some x else getR l id := by
 unfold getR
 rw [List.find?_cons, bytes_eq]
 by_cases h : x.id = id
 ·rw [decide_eq_true h, if_pos h]
 ·rw [decide_eq_false h, if_neg h]

theorem getR_drop {l : List ThingD} (r : Int) (id : ByteArray) : (l.map (·.id)).Nodup → getR (dropL l r) id = match getR l id with | some x => if r ≤ x.round then some x else none | none => none := by
 induction l with
 | nil => intro _; rfl
 | cons x l ih =>
  intro hn
  rw [List.map_cons, List.nodup_cons] at hn
  have ih := ih hn.2
  have ed : dropL (x :: l) r = if r ≤ x.round then x :: dropL l r else dropL l r := by
   unfold dropL
   rw [List.filter_cons]
   by_cases hr : r ≤ x.round <;> simp [hr]
  have hsub : ∀ i, i ∉ l.map (·.id) → i ∉ (dropL l r).map (·.id) := by
   intro i hi hm
   obtain ⟨y, hy, e⟩ := List.mem_map.1 hm
   exact hi (List.mem_map.2 ⟨y, (List.mem_filter.1 hy).1, e⟩)
  rw [getR_cons, ed]
  by_cases he : x.id = id
  ·rw [if_pos he]
   by_cases hr : r ≤ x.round
   ·simp only [if_pos hr]
    rw [getR_cons, if_pos he]
   ·simp only [if_neg hr]
    exact getR_none (hsub _ (by rw [← he]; exact hn.1))
  ·rw [if_neg he]
   by_cases hr : r ≤ x.round
   ·rw [if_pos hr, getR_cons, if_neg he]
    exact ih
   ·rw [if_neg hr]
    exact ih

theorem getR_some {l : List ThingD} {id : ByteArray} {x : ThingD} (h : getR l id = some x) : x ∈ l ∧ x.id = id := by
 unfold getR at h
 have h1 := List.mem_of_find?_eq_some h
 have h2 := List.find?_some h
 rw [bytes_eq] at h2
 exact ⟨h1, of_decide_eq_true h2⟩

theorem dropL_nod {l : List ThingD} (h : (l.map (·.id)).Nodup) (r : Int) : ((dropL l r).map (·.id)).Nodup := by
 unfold dropL
 induction l with
 | nil => exact List.nodup_nil
 | cons x l ih =>
  rw [List.map_cons, List.nodup_cons] at h
  rw [List.filter_cons]
  split
  ·rw [List.map_cons, List.nodup_cons]
   refine ⟨fun hm => ?_, ih h.2⟩
   obtain ⟨y, hy, e⟩ := List.mem_map.1 hm
   exact h.1 (List.mem_map.2 ⟨y, (List.mem_filter.1 hy).1, e⟩)
  ·exact ih h.2

def Rise (l : List ThingD) : Prop := l.Pairwise (fun x y => x.id.toList < y.id.toList)

theorem Rise.nil : Rise [] := List.Pairwise.nil

theorem Rise.filter {l : List ThingD} (h : Rise l) (p : ThingD → Bool) : Rise (l.filter p) := List.Pairwise.filter p h

theorem Rise.drop {l : List ThingD} (h : Rise l) (r : Int) : Rise (dropL l r) := h.filter _

theorem Rise.nod {l : List ThingD} (h : Rise l) : (l.map (·.id)).Nodup := by
 unfold List.Nodup
 rw [List.pairwise_map]
 exact h.imp (fun {x y} h e => by rw [e] at h; exact List.lt_irrefl _ h)

theorem putL_cons (y : ThingD) (l : List ThingD) (x : ThingD) : putL (y :: l) x = if y.id.toList < x.id.toList then y :: putL l x else x :: y :: l := by
 unfold putL putAt
 rw [List.takeWhile_cons, lessT_eq]
 by_cases h : y.id.toList < x.id.toList
 ·rw [decide_eq_true h, if_pos h]
  simp
 ·rw [decide_eq_false h, if_neg h]
  simp

theorem putL_mem {l : List ThingD} {x y : ThingD} : y ∈ putL l x ↔ y = x ∨ y ∈ l := by
 induction l with
 | nil => simp [putL]
 | cons z l ih =>
  rw [putL_cons]
  split
  ·rw [List.mem_cons, ih, List.mem_cons]
   constructor
   ·rintro (h | h | h)
    ·exact Or.inr (Or.inl h)
    ·exact Or.inl h
    ·exact Or.inr (Or.inr h)
   ·rintro (h | h | h)
    ·exact Or.inr (Or.inl h)
    ·exact Or.inl h
    ·exact Or.inr (Or.inr h)
  ·exact List.mem_cons

theorem putL_length (l : List ThingD) (x : ThingD) : (putL l x).length = l.length + 1 := by
 induction l with
 | nil => rfl
 | cons z l ih =>
  rw [putL_cons]
  split
  ·rw [List.length_cons, ih, List.length_cons]
  ·rfl

theorem Rise.put {l : List ThingD} (h : Rise l) {x : ThingD} (hx : x.id ∉ l.map (·.id)) : Rise (putL l x) := by
 induction l with
 | nil => exact List.pairwise_singleton _ _
 | cons z l ih =>
  obtain ⟨h1, h2⟩ := List.pairwise_cons.1 h
  rw [List.map_cons, List.mem_cons, not_or] at hx
  rw [putL_cons]
  split
  ·next hlt =>
   refine List.pairwise_cons.2 ⟨fun y hy => ?_, ih h2 hx.2⟩
   rcases putL_mem.1 hy with rfl | hy
   ·exact hlt
   ·exact h1 y hy
  ·next hge =>
   have hlt : x.id.toList < z.id.toList := by
    rcases Std.lt_trichotomy x.id.toList z.id.toList with h | h | h
    ·exact h
    ·exact (hx.1 (bytes_inj h)).elim
    ·exact (hge h).elim
   refine List.pairwise_cons.2 ⟨fun y hy => ?_, h⟩
   rcases List.mem_cons.1 hy with rfl | hy
   ·exact hlt
   ·exact List.lt_trans hlt (h1 y hy)

theorem getR_put {l : List ThingD} {x : ThingD} (hx : x.id ∉ l.map (·.id)) (id : ByteArray) : getR (putL l x) id = if x.id = id then some x else getR l id := by
 induction l with
 | nil => exact getR_cons x [] id
 | cons z l ih =>
  rw [List.map_cons, List.mem_cons, not_or] at hx
  rw [putL_cons]
  split
  ·rw [getR_cons, ih hx.2, getR_cons]
   by_cases h1 : z.id = id
   ·rw [if_pos h1, if_pos h1, if_neg (fun e => hx.1 (e.trans h1.symm))]
   ·rw [if_neg h1, if_neg h1]
  ·exact getR_cons x _ id

theorem getR_mem {l : List ThingD} (h : (l.map (·.id)).Nodup) {x : ThingD} (hx : x ∈ l) : getR l x.id = some x := by
 induction l with
 | nil => cases hx
 | cons z l ih =>
  rw [List.map_cons, List.nodup_cons] at h
  rw [getR_cons]
  rcases List.mem_cons.1 hx with rfl | hx
  ·rw [if_pos rfl]
  ·rw [if_neg (fun e => h.1 (by rw [e]; exact List.mem_map.2 ⟨x, hx, rfl⟩)), ih h.2 hx]

theorem ids_rise {l : List ThingD} (h : Rise l) (r : Int) : (idsL l r).Pairwise (fun a b => a.toList < b.toList) := by
 unfold idsL
 rw [List.pairwise_map]
 exact h.filter _

theorem ids_mem {l : List ThingD} (h : (l.map (·.id)).Nodup) {r : Int} {i : ByteArray} : i ∈ idsL l r ↔ ∃ x, getR l i = some x ∧ x.round = r := by
 unfold idsL
 rw [List.mem_map]
 constructor
 ·rintro ⟨x, hx, rfl⟩
  obtain ⟨h1, h2⟩ := List.mem_filter.1 hx
  exact ⟨x, getR_mem h h1, by simpa using h2⟩
 ·rintro ⟨x, hx, e⟩
  obtain ⟨h1, h2⟩ := getR_some hx
  exact ⟨x, List.mem_filter.2 ⟨h1, by simpa using e⟩, h2⟩
end Go.Proofs.YtmjkbdgcnoenbaaGreatDoor

/- A header that is right is plain; without acks, or with parents turned, it is not right. -/
namespace Go.Proofs.YtmjkbdgcnoenbaaGreatDoor
open Go.RowKit
set_option linter.unusedVariables false

theorem digE_zero {d a : ByteArray} (h : digE d a = 0) : d.size = 32 ∧ leB d a = false := by
 unfold digE at h
 by_cases h1 : d.size ≠ 32
 ·rw [if_pos h1] at h; omega
 ·rw [if_neg h1] at h
  cases hl : leB d a with
  | true => rw [if_pos hl] at h; omega
  | false => exact ⟨by omega, rfl⟩

theorem risP_zero : ∀ (l : List ByteArray) (a : ByteArray), risP a l = 0 → ∀ p ∈ l, p.size = 32
 | [], _, _, p, hp => by cases hp
 | k :: r, a, h, p, hp => by
  rw [risP] at h
  by_cases hd : digE k a ≠ 0
  ·rw [if_pos hd] at h; omega
  ·rw [if_neg hd] at h
   rcases List.mem_cons.1 hp with rfl | hp
   ·exact (digE_zero (d := p) (a := a) (by omega)).1
   ·exact risP_zero r k h p hp

theorem refP_zero {en : List TagD → ByteArray → Nat} : ∀ (l : List RefD) (a : ByteArray), refP en a l = 0 → ∀ x ∈ l, x.digest.size = 32 ∧ en x.acks x.digest = 0
 | [], _, _, p, hp => by cases hp
 | k :: r, a, h, p, hp => by
  rw [refP] at h
  by_cases hd : digE k.digest a ≠ 0
  ·rw [if_pos hd] at h; omega
  ·rw [if_neg hd] at h
   by_cases he : en k.acks k.digest ≠ 0
   ·rw [if_pos he] at h; omega
   ·rw [if_neg he] at h
    rcases List.mem_cons.1 hp with rfl | hp
    ·exact ⟨(digE_zero (d := p.digest) (a := a) (by omega)).1, by omega⟩
    ·exact refP_zero r k.digest h p hp

theorem go_zero {ks : List ByteArray} {kind word : ByteArray} : ∀ (l : List (Int × ByteArray)) (ahead : Int), -1 ≤ ahead → Mx.enoughGo ks kind word ahead l = 0 → (l = [] ∨ (l.length : Int) + ahead + 1 ≤ ks.length) ∧ ∀ x ∈ l, 0 ≤ x.1 ∧ x.1 < ks.length ∧ x.2.size = 16
 | [], _, _, _ => ⟨Or.inl rfl, fun x hx => by cases hx⟩
 | x :: l, ahead, ha, h => by
  rw [Mx.enoughGo] at h
  by_cases he : Mx.tagErr ks kind word ahead x = 0
  ·rw [if_pos he] at h
   unfold Mx.tagErr at he
   by_cases h1 : x.1 < 0 ∨ (ks.length : Int) ≤ x.1
   ·rw [if_pos h1] at he; omega
   rw [if_neg h1] at he
   by_cases h2 : x.1 ≤ ahead
   ·rw [if_pos h2] at he; omega
   rw [if_neg h2] at he
   by_cases h3 : x.2 = Mx.macOf (ks.getD x.1.toNat ⟨#[]⟩) kind word
   ·obtain ⟨i1, i2⟩ := go_zero l x.1 (by omega) h
    refine ⟨Or.inr ?_, fun y hy => ?_⟩
    ·rw [List.length_cons]
     rcases i1 with rfl | i1
     ·simp; omega
     ·omega
    ·rcases List.mem_cons.1 hy with rfl | hy
     ·exact ⟨by omega, by omega, by rw [h3]; exact Mx.macOf_size _ _ _⟩
     ·exact i2 y hy
   ·rw [if_neg h3] at he; omega
  ·rw [if_neg he] at h
   exact absurd h he

theorem go_take {ks : List ByteArray} {kind word : ByteArray} : ∀ (l : List (Int × ByteArray)) (ahead : Int) (m : Nat), Mx.enoughGo ks kind word ahead l = 0 → Mx.enoughGo ks kind word ahead (l.take m) = 0
 | [], _, m, _ => by simp [Mx.enoughGo]
 | x :: l, ahead, 0, _ => by simp [Mx.enoughGo]
 | x :: l, ahead, m + 1, h => by
  rw [Mx.enoughGo] at h
  rw [List.take_succ_cons, Mx.enoughGo]
  by_cases he : Mx.tagErr ks kind word ahead x = 0
  ·rw [if_pos he] at h ⊢
   exact go_take l x.1 m h
  ·rw [if_neg he] at h
   exact absurd h he

theorem pairT_take (l : List TagD) (m : Nat) : pairT (l.take m) = (pairT l).take m := by simp [pairT, List.map_take]

theorem enT_zero {ks : List ByteArray} {f : Nat} {l : List TagD} {d : ByteArray} (hk : ks.length = 3 * f + 1) (hf : f ≤ 2) (h : enT ks f l d = 0) : 2 * f + 1 ≤ l.length ∧ l.length ≤ 7 ∧ (∀ t ∈ l, t.Fit) ∧ enT ks f (l.take (2 * f)) d = 12 := by
 unfold enT Mx.enoughL at h
 by_cases h0 : Mx.enoughGo ks ackW d (-1) (pairT l) = 0
 ·rw [if_pos h0] at h
  by_cases h1 : (pairT l).length < 2 * f + 1
  ·rw [if_pos h1] at h; omega
  ·rw [pairT_length] at h1
   obtain ⟨i1, i2⟩ := go_zero (pairT l) (-1) (by omega) h0
   refine ⟨by omega, ?_, fun t ht => ?_, ?_⟩
   ·rcases i1 with e | i1
    ·have := congrArg List.length e
     rw [pairT_length] at this
     simp at this
     rw [this]
     simp
    ·rw [pairT_length] at i1
     omega
   ·have := i2 (t.who, t.mac) (List.mem_map.2 ⟨t, ht, rfl⟩)
    exact ⟨this.1, by have := this.2.1; simp only at this; omega, this.2.2⟩
   ·unfold enT Mx.enoughL
    rw [pairT_take, if_pos (go_take _ _ _ h0), if_pos (by rw [List.length_take, pairT_length]; omega)]
 ·rw [if_neg h0] at h
  exact absurd h h0

theorem leB_nil {d : ByteArray} (h : d.size = 32) : leB d ⟨#[]⟩ = false := by
 unfold leB
 have hl : d.toList.length = 32 := by rw [ByteArray.toList_eq]; simpa using h
 have he : (⟨#[]⟩ : ByteArray).toList = [] := by rw [ByteArray.toList_eq]
 rw [he]
 cases hd : d.toList with
 | nil => rw [hd] at hl; simp at hl
 | cons x r => rfl

theorem chkH_parts {n need : Nat} {en : List TagD → ByteArray → Nat} {h : HdrD} (hc : chkH n need en h = 0) : ¬ (h.author < 0 ∨ (n : Int) ≤ h.author ∨ h.round < 1 ∨ 4611686018427387903 < h.round) ∧ h.refs.length ≤ 4 ∧ refP en ⟨#[]⟩ h.refs = 0 ∧ risP ⟨#[]⟩ h.parents = 0 ∧ h.parents.length ≤ n := by
 unfold chkH at hc
 by_cases h1 : h.author < 0 ∨ (n : Int) ≤ h.author ∨ h.round < 1 ∨ 4611686018427387903 < h.round
 ·rw [if_pos h1] at hc; omega
 rw [if_neg h1] at hc
 by_cases h2 : 4 < h.refs.length
 ·rw [if_pos h2] at hc; omega
 rw [if_neg h2] at hc
 by_cases h3 : refP en ⟨#[]⟩ h.refs ≠ 0
 ·rw [if_pos h3] at hc; omega
 rw [if_neg h3] at hc
 by_cases h4 : risP ⟨#[]⟩ h.parents ≠ 0
 ·rw [if_pos h4] at hc; omega
 rw [if_neg h4] at hc
 refine ⟨h1, by omega, by omega, by omega, ?_⟩
 unfold countE at hc
 by_cases h5 : h.round = 1 ∧ 0 < h.parents.length
 ·rw [if_pos h5] at hc; omega
 rw [if_neg h5] at hc
 by_cases h6 : 1 < h.round ∧ h.parents.length < need
 ·rw [if_pos h6] at hc; omega
 rw [if_neg h6] at hc
 by_cases h7 : n < h.parents.length
 ·rw [if_pos h7] at hc; omega
 ·omega

theorem right_fit {ks : List ByteArray} {f : Nat} {h : HdrD} (hk : ks.length = 3 * f + 1) (hf : f ≤ 2) (hc : chkH (3 * f + 1) (2 * f + 1) (enT ks f) h = 0) : h.Fit := by
 obtain ⟨h1, h2, h3, h4, h5⟩ := chkH_parts hc
 refine ⟨by omega, by omega, by omega, by omega, h2, fun x hx => ?_, by omega, fun p hp => by have := risP_zero _ _ h4 p hp; omega⟩
 obtain ⟨r1, r2⟩ := refP_zero _ _ h3 x hx
 obtain ⟨_, e2, e3, _⟩ := enT_zero hk hf r2
 exact ⟨by omega, e2, e3⟩
end Go.Proofs.YtmjkbdgcnoenbaaGreatDoor

/- A map of texts to whatever values: what is in by each text; how it is looked up in, written, and struck from. -/
namespace Go.Proofs.YtmjkbdgcnoenbaaGreatDoor
open Go Go.RowKit Go.Maps
set_option linter.unusedVariables false

def heldElem (v : Value) : Option (DataW Value × List MemPlace) := some (.held v, [])

def keyS (id : ByteArray) : Lit := .string id.data.toList

theorem keyS_inj {a b : ByteArray} (h : keyS a = keyS b) : a = b := by
 unfold keyS at h
 simp only [Lit.string.injEq] at h
 cases a
 cases b
 simpa using h

theorem keyS_ok (id : ByteArray) : WideAt.IsKeyLit (keyS id) := trivial

theorem lawStr : Keyed Tryz.prog 9 := string_keyed Tryz.underlying9

theorem keyS_of {id : ByteArray} (h : id.size ≤ maxLen) : keyOf Tryz.prog 9 (.string id) = some (keyS id) := Go.WideMaps.keyOf_string_mk Tryz.underlying9 h

def SMap (w : World) (b : Nat) (f : ByteArray → Option Value) (n : Nat) : Prop :=
 ∃ D : DataW Value, w.ownsMap Tryz.prog 9 heldElem b n D ∧ Maps.size D = n ∧ (∀ id, Maps.has D (keyS id) = (f id).isSome) ∧ ∀ id z, D.atKey (keyS id) z = match f id with | some v => .held v | none => z

theorem owns_tight {k : TypeId} {R : Value → Option (DataW Value × List MemPlace)} {w : World} {b n : Nat} {D : DataW Value} (h : w.ownsMap Tryz.prog k R b n D) : w.ownsMap Tryz.prog k R b (Maps.size D) D := by
 obtain ⟨es, clock, hb, F, hs, rfl⟩ := h
 refine ⟨es, clock, hb, F, ?_, rfl⟩
 rw [Maps.size_eq, length_read]
 exact Nat.le_refl _

theorem SMap.lt {w : World} {b : Nat} {f : ByteArray → Option Value} {n : Nat} (h : SMap w b f n) : b < w.heap.size := by
 obtain ⟨D, h1, _⟩ := h
 exact h1.lt

theorem SMap.keep {w w' : World} {b : Nat} {f : ByteArray → Option Value} {n : Nat} (h : SMap w b f n) (hk : w'.heap[b]? = w.heap[b]?) : SMap w' b f n := by
 obtain ⟨D, ⟨es, clock, hb, F, hs, hD⟩, h2⟩ := h
 exact ⟨D, ⟨es, clock, hk.trans hb, F, hs, hD⟩, h2⟩

theorem SMap.kept {S : Nat → Prop} {w w' : World} {b : Nat} {f : ByteArray → Option Value} {n : Nat} (h : SMap w b f n) (hk : Kept S w w') (hb : ¬ S b) : SMap w' b f n := h.keep (hk.block b h.lt hb)

theorem SMap.below {w w' : World} {b : Nat} {f : ByteArray → Option Value} {n : Nat} (h : SMap w b f n) (hb : Below w.heap.size w w') : SMap w' b f n := h.keep (hb.block b h.lt)

theorem SMap.congr {w : World} {b : Nat} {f g : ByteArray → Option Value} {n : Nat} (h : SMap w b f n) (e : ∀ id, g id = f id) : SMap w b g n := by
 obtain rfl : g = f := funext e
 exact h

theorem SMap.new (w : World) : SMap (w.alloc (.map #[] 0)) w.heap.size (fun _ => none) 0 :=
 ⟨.map [], World.ownsMap_made w _ _ _, rfl, fun _ => rfl, fun _ _ => rfl⟩

def putN (f : ByteArray → Option Value) (id : ByteArray) (n : Nat) : Nat := if (f id).isSome = true then n else n + 1
def delN (f : ByteArray → Option Value) (id : ByteArray) (n : Nat) : Nat := if (f id).isSome = true then n - 1 else n

def putF (f : ByteArray → Option Value) (id : ByteArray) (v : Value) (i : ByteArray) : Option Value := if i = id then some v else f i
def delF (f : ByteArray → Option Value) (id : ByteArray) (i : ByteArray) : Option Value := if i = id then none else f i

theorem SMap.puts {w w' : World} {b : Nat} {f : ByteArray → Option Value} {n m : Nat} {D : DataW Value} {id : ByteArray} {v : Value} (ho : w.ownsMap Tryz.prog 9 heldElem b n D) (h1 : Maps.size D = n) (h2 : ∀ id, Maps.has D (keyS id) = (f id).isSome) (h3 : ∀ id z, D.atKey (keyS id) z = match f id with | some v => .held v | none => z)
  (h : w'.ownsMap Tryz.prog 9 heldElem b m (D.put (keyS id) (.held v))) : SMap w' b (putF f id v) (putN f id n) := by
 have hT := ho.tidy lawStr
 have hsz : Maps.size (D.put (keyS id) (.held v)) = putN f id n := by
  unfold putN
  rw [size_put hT, h2, h1]
 refine ⟨_, by rw [← hsz]; exact owns_tight h, hsz, fun i => ?_, fun i z => ?_⟩
 ·unfold putF
  by_cases e : i = id
  ·subst e
   rw [if_pos rfl]
   exact has_put_same hT.isMap (keyS_ok _) _
  ·rw [if_neg e, has_put_other (fun e' => e (keyS_inj e'))]
   exact h2 i
 ·unfold putF
  by_cases e : i = id
  ·subst e
   rw [if_pos rfl]
   exact atKey_put_same hT.isMap (keyS_ok _) _ _
  ·rw [if_neg e, atKey_put_other (fun e' => e (keyS_inj e'))]
   exact h3 i z

section
variable {w : World} {ops : Array Oper} {rest : List Oper} {o : Oper} {a : Act} {Q : Exit → Act → World → Prop}

theorem smap_look_ok (hw : Region.wanted o (yielded ops a.tmps) = true) (m x : Operand) (t : TypeId) (hop : o.op = Op.lookup t m x true) (e : TypeId) (ht : Tryz.prog.underlying t = some (.map 9 e)) (z : Value) (hz : (zeroValue e).run Tryz.prog w = .ok z w)
  (b : Nat) (f : ByteArray → Option Value) (n : Nat) (hm : a.eval m = .map (some b)) (h : SMap w b f n) (id : ByteArray) (hid : id.size ≤ maxLen) (hx : a.eval x = .string id)
  (hK : wpList Tryz.prog ops Q rest (a.put o.dst (.tuple #[(f id).getD z, .bool (f id).isSome])) w) : wpList Tryz.prog ops Q (o :: rest) a w := by
 obtain ⟨D, ho, h1, h2, h3⟩ := h
 refine wpList_step fun K' hK' => ?_
 rw [if_pos hw]
 obtain ⟨v, ps, hrun, hv⟩ := ho.look_ok lawStr ht hz (zd := .held z) (zp := []) rfl (keyS_of hid)
 have e1 : v = (f id).getD z := by
  have := h3 id (.held z)
  unfold heldElem at hv
  simp only [Option.some.injEq, Prod.mk.injEq] at hv
  rw [this] at hv
  cases hf : f id with
  | none => rw [hf] at hv; simpa using hv.1
  | some u => rw [hf] at hv; simpa using hv.1
 subst e1
 rw [h2] at hrun
 unfold Oper.wp
 simp [execOp, hop, hm, hx, hrun, Result.andThen]
 exact hK' _ _ hK

theorem smap_put (hg : o.guard = none) (m x v : Operand) (t : TypeId) (hop : o.op = Op.mapUpdate t m x v) (e : TypeId) (ht : Tryz.prog.underlying t = some (.map 9 e))
  (b : Nat) (f : ByteArray → Option Value) (n : Nat) (hm : a.eval m = .map (some b)) (h : SMap w b f n) (hn : n < maxLen) (id : ByteArray) (hid : id.size ≤ maxLen) (hx : a.eval x = .string id) (u : Value) (hv : a.eval v = u)
  (hK : ∀ w', SMap w' b (putF f id u) (putN f id n) → Kept (fun k => k = b) w w' → wpList Tryz.prog ops Q rest (a.put o.dst undef) w') : wpList Tryz.prog ops Q (o :: rest) a w := by
 obtain ⟨D, ho, h1, h2, h3⟩ := h
 refine wpList_mapUpdate_own w hg m x v t hop 9 e lawStr ht heldElem b n D hm ho hn _ _ _ hx hv (keyS_of hid) (.held u) [] rfl ?_
 intro w' ho' hg'
 refine hK w' (SMap.puts ho h1 h2 h3 ho') ((Kept.of_grown hg').mono (fun k _ e => by simpa using e.symm))

theorem smap_len (hw : Region.wanted o (yielded ops a.tmps) = true) (m : Operand) (t : TypeId) (hop : o.op = Op.call { callee := Callee.builtin Builtin.len, args := #[m], argTypes := #[t] }) (e : TypeId) (ht : Tryz.prog.underlying t = some (.map 9 e))
  (b : Nat) (f : ByteArray → Option Value) (n : Nat) (hm : a.eval m = .map (some b)) (h : SMap w b f n) (hK : wpList Tryz.prog ops Q rest (a.put o.dst (.int .i64 (n : Int))) w) : wpList Tryz.prog ops Q (o :: rest) a w := by
 obtain ⟨D, ho, h1, h2, h3⟩ := h
 refine wpList_step fun K' hK' => ?_
 rw [if_pos hw]
 have hl := ho.len ht o.type
 rw [h1] at hl
 unfold Oper.wp
 simp [execOp, hop, resolve, invoke, builtin, hm, hl, Result.andThen]
 exact hK' _ _ hK
end
end Go.Proofs.YtmjkbdgcnoenbaaGreatDoor

/- A map of texts that is gone through: what is still to come; the step; what is struck on the way. -/
namespace Go.Proofs.YtmjkbdgcnoenbaaGreatDoor
open Go Go.RowKit Go.Maps
set_option linter.unusedVariables false

def SRange (w : World) (b r : Nat) (f : ByteArray → Option Value) (n : Nat) (left : ByteArray → Bool) (cnt : Nat) : Prop :=
 ∃ (D : DataW Value) (lf : Lit → Bool) (N : Nat), w.ranges Tryz.prog 9 heldElem b r N D lf cnt ∧ Maps.size D = n ∧ (∀ id, Maps.has D (keyS id) = (f id).isSome) ∧ (∀ id z, D.atKey (keyS id) z = match f id with | some v => .held v | none => z) ∧ ∀ id, lf (keyS id) = left id

theorem SRange.map {w : World} {b r : Nat} {f : ByteArray → Option Value} {n : Nat} {left : ByteArray → Bool} {cnt : Nat} (h : SRange w b r f n left cnt) : SMap w b f n := by
 obtain ⟨D, lf, N, h1, h2, h3, h4, _⟩ := h
 exact ⟨D, by rw [← h2]; exact owns_tight h1.owns, h2, h3, h4⟩

theorem SRange.left_eq {w : World} {b r : Nat} {f : ByteArray → Option Value} {n : Nat} {left : ByteArray → Bool} {cnt : Nat} (h : SRange w b r f n left cnt) : w.rangeLeft b r = cnt := by
 obtain ⟨D, lf, N, h1, _⟩ := h
 exact h1.left_eq

theorem SRange.lt {w : World} {b r : Nat} {f : ByteArray → Option Value} {n : Nat} {left : ByteArray → Bool} {cnt : Nat} (h : SRange w b r f n left cnt) : r < w.heap.size := by
 obtain ⟨D, lf, N, h1, _⟩ := h
 exact h1.lt

theorem SRange.keep {w w' : World} {b r : Nat} {f : ByteArray → Option Value} {n : Nat} {left : ByteArray → Bool} {cnt : Nat} (h : SRange w b r f n left cnt) (hb : w'.heap[b]? = w.heap[b]?) (hr : w'.heap[r]? = w.heap[r]?) : SRange w' b r f n left cnt := by
 obtain ⟨D, lf, N, ⟨es, clock, since, seen, c0, k1, k2, k3, k4, k5, k6⟩, h2⟩ := h
 exact ⟨D, lf, N, ⟨es, clock, since, seen, c0, hb.trans k1, k2, k3, k4, hr.trans k5, k6⟩, h2⟩

theorem SRange.kept {S : Nat → Prop} {w w' : World} {b r : Nat} {f : ByteArray → Option Value} {n : Nat} {left : ByteArray → Bool} {cnt : Nat} (h : SRange w b r f n left cnt) (hk : Kept S w w') (hb : ¬ S b) (hr : ¬ S r) : SRange w' b r f n left cnt :=
 h.keep (hk.block b h.map.lt hb) (hk.block r h.lt hr)

theorem SRange.congr {w : World} {b r : Nat} {f g : ByteArray → Option Value} {n : Nat} {left : ByteArray → Bool} {cnt : Nat} (h : SRange w b r f n left cnt) (e : ∀ id, g id = f id) : SRange w b r g n left cnt := by
 obtain rfl : g = f := funext e
 exact h

theorem sameKey_S (a b : ByteArray) : (keyS a).sameKey (keyS b) = decide (a = b) := by
 by_cases e : a = b
 ·subst e
  rw [decide_eq_true rfl]
  exact WideAt.sameKey_self (keyS_ok _)
 ·rw [decide_eq_false e]
  exact sameKey_ne (fun h => e (keyS_inj h))

def strikeF (left : ByteArray → Bool) (id : ByteArray) (i : ByteArray) : Bool := left i && !decide (i = id)

section
variable {w : World} {ops : Array Oper} {rest : List Oper} {o : Oper} {a : Act} {Q : Exit → Act → World → Prop}

theorem smap_range (hg : o.guard = none) (m : Operand) (t : TypeId) (hop : o.op = Op.range t m) (e : TypeId) (ht : Tryz.prog.underlying t = some (.map 9 e)) (b : Nat) (f : ByteArray → Option Value) (n : Nat) (hm : a.eval m = .map (some b)) (h : SMap w b f n)
  (hK : ∀ w', SRange w' b w.heap.size f n (fun i => (f i).isSome) n → Below w.heap.size w w' → w'.heap.size = w.heap.size + 1 → wpList Tryz.prog ops Q rest (a.put o.dst (.pointer (some ⟨w.heap.size, 0, none⟩))) w') : wpList Tryz.prog ops Q (o :: rest) a w := by
 obtain ⟨D, ho, h1, h2, h3⟩ := h
 refine wpList_range_own w hg m t hop 9 e lawStr ht heldElem b n D hm ho ?_
 intro w' hr hg' hs
 exact hK w' ⟨D, Maps.has D, n, by rw [h1] at hr; exact hr, h1, h2, h3, h2⟩ ⟨hg'.os, hg'.tape, hg'.output, hg'.size, fun k hk => hg'.block k hk (by simp)⟩ hs

theorem smap_next (hg : o.guard = none) (it : Operand) (hop : o.op = Op.next it false) (b r : Nat) (f : ByteArray → Option Value) (n : Nat) (left : ByteArray → Bool) (cnt : Nat) (hit : a.eval it = .pointer (some ⟨r, 0, none⟩)) (h : SRange w b r f n left cnt)
  (hDone : (∀ i, left i = false) → wpList Tryz.prog ops Q rest (a.put o.dst (.tuple #[.bool false])) w)
  (hMore : ∀ (id : ByteArray) (v : Value) (w' : World) (cnt' : Nat), id.size ≤ maxLen → left id = true → f id = some v → SRange w' b r f n (strikeF left id) cnt' → cnt' < cnt → Kept (fun k => k = r) w w' → w'.heap.size = w.heap.size → (Instr.entry (.pointer (some ⟨r, 0, none⟩))).run Tryz.prog w' = .ok (.tuple #[.string id, v]) w' → wpList Tryz.prog ops Q rest (a.put o.dst (.tuple #[.bool true, .string id, v])) w') : wpList Tryz.prog ops Q (o :: rest) a w := by
 obtain ⟨D, lf, N, hr, h1, h2, h3, h4⟩ := h
 refine wpList_next_ranges w hg it hop 9 lawStr heldElem (fun x : ByteArray => Value.string x) (fun v : Value => v) (fun key kl hk => ?_) (fun v y _ => ⟨v, rfl⟩) b r N D lf cnt hit hr ?_ ?_
 ·obtain ⟨s, rfl, _⟩ := Go.WideMaps.string_of_keyOf Tryz.underlying9 hk
  exact ⟨s, rfl⟩
 ·intro _ hl
  exact hDone (fun i => by rw [← h4]; exact hl _)
 ·intro x c kl y w' cnt' hkey hlk hv hat hrg hlt hgr hsz hen
  obtain ⟨s, es, rfl, hs⟩ := Go.WideMaps.string_of_keyOf Tryz.underlying9 hkey
  simp only [Value.string.injEq] at es
  subst es
  have hv' : y = (.held c, []) := by
   unfold heldElem at hv
   simpa using hv.symm
  subst hv'
  have hlx : left x = true := by rw [← h4]; exact hlk
  have hfx : f x = some c := by
   have q1 := hat (.held undef)
   have q2 := hat .nil
   have e1 := h3 x (.held undef)
   have e2 := h3 x .nil
   cases hf : f x with
   | none =>
    rw [hf] at e2
    have : (DataW.nil : DataW Value) = .held c := e2.symm.trans q2
    cases this
   | some u =>
    rw [hf] at e2
    have : (DataW.held u : DataW Value) = .held c := e2.symm.trans q2
    simp only [DataW.held.injEq] at this
    rw [this]
  refine hMore x c w' cnt' hs hlx hfx ⟨D, _, N, hrg, h1, h2, h3, fun i => ?_⟩ hlt ((Kept.of_grown hgr).mono (fun k _ e => by simpa using e.symm)) hsz hen
  show (lf (keyS i) && !(keyS i).sameKey (keyS x)) = strikeF left x i
  rw [sameKey_S, h4]
  rfl

theorem smap_del_range (hg : o.guard = none) (m x : Operand) (t : TypeId) (hop : o.op = Op.call { callee := Callee.builtin Builtin.delete, args := #[m, x], argTypes := #[t, 9] }) (e : TypeId) (ht : Tryz.prog.underlying t = some (.map 9 e))
  (b r : Nat) (f : ByteArray → Option Value) (n : Nat) (left : ByteArray → Bool) (cnt : Nat) (hm : a.eval m = .map (some b)) (h : SRange w b r f n left cnt) (id : ByteArray) (hid : id.size ≤ maxLen) (hx : a.eval x = .string id)
  (hK : ∀ w' cnt', SRange w' b r (delF f id) (delN f id n) (strikeF left id) cnt' → cnt' ≤ cnt → Kept (fun k => k = b) w w' → wpList Tryz.prog ops Q rest (a.put o.dst (.tuple #[])) w') : wpList Tryz.prog ops Q (o :: rest) a w := by
 obtain ⟨D, lf, N, hr, h1, h2, h3, h4⟩ := h
 refine wpList_delete_ranges w hg m x t 9 hop e lawStr ht heldElem b r N D lf cnt hm hr _ _ hx (keyS_of hid) ?_
 intro w' cnt' hr' hle ht'
 have hT := hr.owns.tidy lawStr
 have hsz : Maps.size (D.del (keyS id)) = delN f id n := by
  unfold delN
  have := size_del (k := keyS id) hT
  rw [h2, h1] at this
  cases hc : (f id).isSome <;> rw [hc] at this <;> simp at this ⊢ <;> omega
 refine hK w' cnt' ⟨D.del (keyS id), _, N, hr', hsz, fun i => ?_, fun i z => ?_, fun i => ?_⟩ hle ((Kept.of_grown ht'.grown).mono (fun k _ e => by simpa using e.symm))
 ·unfold delF
  by_cases e : i = id
  ·subst e
   rw [if_pos rfl]
   exact has_del_same
  ·rw [if_neg e, has_del_other (fun e' => e (keyS_inj e'))]
   exact h2 i
 ·unfold delF
  by_cases e : i = id
  ·subst e
   rw [if_pos rfl]
   exact atKey_del_same _
  ·rw [if_neg e, atKey_del_other (fun e' => e (keyS_inj e'))]
   exact h3 i z
 ·show (lf (keyS i) && !(keyS i).sameKey (keyS id)) = strikeF left id i
  rw [sameKey_S, h4]
  rfl
end
end Go.Proofs.YtmjkbdgcnoenbaaGreatDoor

/- How many things a map of texts holds: as many as there are texts by which it holds something. -/
namespace Go.Proofs.YtmjkbdgcnoenbaaGreatDoor
open Go Go.RowKit Go.Maps
set_option linter.unusedVariables false

theorem nodup_len {α : Type} [DecidableEq α] : ∀ (l m : List α), l.Nodup → (∀ x ∈ l, x ∈ m) → l.length ≤ m.length
 | [], m, _, _ => Nat.zero_le _
 | x :: l, m, hn, hs => by
  rw [List.nodup_cons] at hn
  have hx := hs x (by simp)
  have ih := nodup_len l (m.erase x) hn.2 (fun y hy => (List.mem_erase_of_ne (fun e => hn.1 (by rw [← e]; exact hy))).2 (hs y (by simp [hy])))
  rw [List.length_erase_of_mem hx] at ih
  have : 0 < m.length := List.length_pos_of_mem hx
  rw [List.length_cons]
  omega

theorem nodup_same {α : Type} [DecidableEq α] {l m : List α} (hl : l.Nodup) (hm : m.Nodup) (h : ∀ x, x ∈ l ↔ x ∈ m) : l.length = m.length :=
 Nat.le_antisymm (nodup_len l m hl (fun x hx => (h x).1 hx)) (nodup_len m l hm (fun x hx => (h x).2 hx))

theorem nodup_mapI {α β : Type} {g : α → β} (hg : ∀ a b, g a = g b → a = b) : ∀ {l : List α}, l.Nodup → (l.map g).Nodup
 | [], _ => List.nodup_nil
 | x :: l, h => by
  rw [List.nodup_cons] at h
  rw [List.map_cons, List.nodup_cons]
  refine ⟨fun hm => ?_, nodup_mapI hg h.2⟩
  obtain ⟨y, hy, e⟩ := List.mem_map.1 hm
  rw [hg y x e] at hy
  exact h.1 hy

theorem SMap.count {w : World} {b : Nat} {f : ByteArray → Option Value} {n : Nat} (h : SMap w b f n) {L : List ByteArray} (hL : L.Nodup) (hf : ∀ id, (f id).isSome = true ↔ id ∈ L) : n = L.length := by
 obtain ⟨D, ho, h1, h2, h3⟩ := h
 have hkeys : ∃ es : List (Lit × DataW Value), D = .map es ∧ es.Pairwise (fun p q => p.1 ≠ q.1) ∧ ∀ p ∈ es, ∃ s : ByteArray, p.1 = keyS s := by
  obtain ⟨es, hD, hp, _⟩ := ho.entries lawStr
  refine ⟨es, hD, hp, fun p hpm => ?_⟩
  obtain ⟨es', clock, hb, F, hs, hD'⟩ := ho
  rw [hD] at hD'
  simp only [DataW.map.injEq] at hD'
  rw [hD'] at hpm
  obtain ⟨x, hx, rfl⟩ := List.mem_map.1 (mem_sorted.1 hpm)
  obtain ⟨key, hkey⟩ := fit_keys F _ (List.mem_map.2 ⟨x, hx, rfl⟩)
  obtain ⟨s, _, e, _⟩ := Go.WideMaps.string_of_keyOf Tryz.underlying9 hkey
  exact ⟨s, e⟩
 obtain ⟨es, rfl, hp, hk⟩ := hkeys
 have hn : (es.map (·.1)).Nodup := by
  unfold List.Nodup
  rw [List.pairwise_map]
  exact hp
 have hm : (L.map keyS).Nodup := nodup_mapI (fun a b e => keyS_inj e) hL
 have hsame : ∀ kl, kl ∈ es.map (·.1) ↔ kl ∈ L.map keyS := by
  intro kl
  constructor
  ·intro hx
   obtain ⟨p, hpm, rfl⟩ := List.mem_map.1 hx
   obtain ⟨s, e⟩ := hk p hpm
   rw [e]
   refine List.mem_map.2 ⟨s, (hf s).1 ?_, rfl⟩
   rw [← h2, has_eq]
   exact List.any_eq_true.2 ⟨p, hpm, by rw [e]; exact WideAt.sameKey_self (keyS_ok _)⟩
  ·intro hx
   obtain ⟨s, hs, rfl⟩ := List.mem_map.1 hx
   have := (hf s).2 hs
   rw [← h2, has_eq] at this
   obtain ⟨p, hpm, hpk⟩ := List.any_eq_true.1 this
   exact List.mem_map.2 ⟨p, hpm, WideAt.sameKey_eq hpk⟩
 have := by classical exact nodup_same hn hm hsame
 rw [List.length_map, List.length_map] at this
 rw [← h1, size_eq, this]

def mixF (f g : ByteArray → Option Value) (left : ByteArray → Bool) (i : ByteArray) : Option Value := if left i = true then f i else g i

theorem mixF_start (f g : ByteArray → Option Value) (hg : ∀ i, f i = none → g i = none) : ∀ i, f i = mixF f g (fun i => (f i).isSome) i := by
 intro i
 unfold mixF
 cases hf : f i with
 | none => simp [hg i hf]
 | some v => simp [hf]

theorem mixF_stays {f g : ByteArray → Option Value} {left : ByteArray → Bool} {id : ByteArray} (h : f id = g id) : ∀ i, mixF f g (strikeF left id) i = mixF f g left i := by
 intro i
 unfold mixF strikeF
 by_cases e : i = id
 ·subst e
  cases left i <;> simp [h]
 ·simp [e]

theorem mixF_goes {f g : ByteArray → Option Value} {left : ByteArray → Bool} {id : ByteArray} (h : g id = none) : ∀ i, mixF f g (strikeF left id) i = delF (mixF f g left) id i := by
 intro i
 unfold mixF strikeF delF
 by_cases e : i = id
 ·subst e
  simp [h]
 ·simp [e]

theorem strikeF_twice (left : ByteArray → Bool) (id : ByteArray) : strikeF (strikeF left id) id = strikeF left id := by
 funext i
 unfold strikeF
 cases left i <;> cases decide (i = id) <;> rfl
end Go.Proofs.YtmjkbdgcnoenbaaGreatDoor

/- What a table keeps of certificates; missing parents; rounds that hang together. -/
namespace Go.Proofs.YtmjkbdgcnoenbaaGreatDoor
open Go Go.RowKit
set_option linter.unusedVariables false

def encCB (c : CertD) : ByteArray := ⟨(encC c).toArray⟩

def thingC (x : RowC) : ThingD := ⟨x.id, x.c.header.round, encCB x.c⟩

def thingsC (L : List RowC) : List ThingD := L.map thingC

theorem things_length (L : List RowC) : (thingsC L).length = L.length := List.length_map ..

theorem getR_things (L : List RowC) (id : ByteArray) : getR (thingsC L) id = (getC L id).map thingC := by
 unfold getR getC thingsC
 rw [List.find?_map]
 rfl

theorem idsL_things (L : List RowC) (r : Int) : idsL (thingsC L) r = idsC L r := by
 unfold idsL idsC thingsC
 rw [List.filter_map, List.map_map]
 rfl

theorem dropL_things (L : List RowC) (r : Int) : dropL (thingsC L) r = thingsC (keepC L r) := by
 unfold dropL keepC thingsC
 rw [List.filter_map]
 rfl

theorem putL_things (L : List RowC) (x : RowC) : putL (thingsC L) (thingC x) = thingsC (insC L x) := by
 unfold putL insC putAt rowAtC thingsC
 rw [List.takeWhile_map, List.length_map, ← List.map_take, ← List.map_drop, List.map_append, List.map_cons]
 rfl

theorem rise_ext {l m : List ByteArray} (hl : l.Pairwise (fun a b => a.toList < b.toList)) (hm : m.Pairwise (fun a b => a.toList < b.toList)) (h : ∀ x, x ∈ l ↔ x ∈ m) : l = m := by
 have n1 : l.Nodup := hl.imp (fun {x y} h e => by rw [e] at h; exact List.lt_irrefl _ h)
 have n2 : m.Nodup := hm.imp (fun {x y} h e => by rw [e] at h; exact List.lt_irrefl _ h)
 have hp : l.Perm m := (List.perm_ext_iff_of_nodup n1 n2).2 h
 exact List.Perm.eq_of_pairwise (fun a b _ _ h1 h2 => (List.lt_irrefl _ (List.lt_trans h1 h2)).elim) hl hm hp

theorem insT_cons (y : ByteArray) (l : List ByteArray) (x : ByteArray) : insT (y :: l) x = if y.toList < x.toList then y :: insT l x else x :: y :: l := by
 unfold insT insAt
 rw [List.takeWhile_cons, lessT_eq]
 by_cases h : y.toList < x.toList
 ·rw [decide_eq_true h, if_pos h]
  simp
 ·rw [decide_eq_false h, if_neg h]
  simp

theorem insU_cons (y : ByteArray) (l : List ByteArray) (x : ByteArray) : insU (y :: l) x = if y.toList < x.toList then y :: insU l x else if y = x then y :: l else x :: y :: l := by
 by_cases h : y.toList < x.toList
 ·have e : insAt (y :: l) x = insAt l x + 1 := by
   unfold insAt
   rw [List.takeWhile_cons, lessT_eq, decide_eq_true h]
   simp
  unfold insU
  rw [if_pos h, e, List.getElem?_cons_succ, insT_cons, if_pos h]
  split <;> rfl
 ·have e : insAt (y :: l) x = 0 := by
   unfold insAt
   rw [List.takeWhile_cons, lessT_eq, decide_eq_false h]
   simp
  unfold insU
  rw [if_neg h, e, List.getElem?_cons_zero, insT_cons, if_neg h]
  simp only [Option.some.injEq]

theorem insU_mem {l : List ByteArray} {x y : ByteArray} : y ∈ insU l x ↔ y = x ∨ y ∈ l := by
 induction l with
 | nil => simp [insU, insT, insAt]
 | cons z l ih =>
  rw [insU_cons]
  split
  ·rw [List.mem_cons, ih, List.mem_cons]
   constructor
   ·rintro (h | h | h)
    ·exact Or.inr (Or.inl h)
    ·exact Or.inl h
    ·exact Or.inr (Or.inr h)
   ·rintro (h | h | h)
    ·exact Or.inr (Or.inl h)
    ·exact Or.inl h
    ·exact Or.inr (Or.inr h)
  ·split
   ·next e =>
    subst e
    constructor
    ·exact fun h => Or.inr h
    ·rintro (h | h)
     ·rw [h]; exact List.mem_cons_self
     ·exact h
   ·exact List.mem_cons

theorem insU_rise {l : List ByteArray} (h : l.Pairwise (fun a b => a.toList < b.toList)) (x : ByteArray) : (insU l x).Pairwise (fun a b => a.toList < b.toList) := by
 induction l with
 | nil => simp [insU, insT, insAt]
 | cons z l ih =>
  obtain ⟨h1, h2⟩ := List.pairwise_cons.1 h
  rw [insU_cons]
  split
  ·next hlt =>
   refine List.pairwise_cons.2 ⟨fun y hy => ?_, ih h2⟩
   rcases insU_mem.1 hy with rfl | hy
   ·exact hlt
   ·exact h1 y hy
  ·split
   ·exact h
   ·next hge hne =>
    have hlt : x.toList < z.toList := by
     rcases Std.lt_trichotomy x.toList z.toList with h | h | h
     ·exact h
     ·exact (hne (bytes_inj h).symm).elim
     ·exact (hge h).elim
    refine List.pairwise_cons.2 ⟨fun y hy => ?_, h⟩
    rcases List.mem_cons.1 hy with rfl | hy
    ·exact hlt
    ·exact List.lt_trans hlt (h1 y hy)

theorem missStep_rise (L : List RowC) {l : List ByteArray} (h : l.Pairwise (fun a b => a.toList < b.toList)) (p : ByteArray) : (missStep L l p).Pairwise (fun a b => a.toList < b.toList) := by
 unfold missStep
 split
 ·exact h
 ·exact insU_rise h p

theorem missStep_mem {L : List RowC} {l : List ByteArray} {p y : ByteArray} : y ∈ missStep L l p ↔ (y = p ∧ getC L p = none) ∨ y ∈ l := by
 unfold missStep
 cases hg : getC L p with
 | none => simp [insU_mem]
 | some z => simp

theorem miss_fold (L : List RowC) : ∀ (ps l : List ByteArray), l.Pairwise (fun a b => a.toList < b.toList) → (ps.foldl (missStep L) l).Pairwise (fun a b => a.toList < b.toList) ∧ ∀ y, y ∈ ps.foldl (missStep L) l ↔ (y ∈ ps ∧ getC L y = none) ∨ y ∈ l
 | [], l, h => ⟨h, fun y => by simp⟩
 | p :: ps, l, h => by
  obtain ⟨h1, h2⟩ := miss_fold L ps _ (missStep_rise L h p)
  refine ⟨h1, fun y => ?_⟩
  rw [List.foldl_cons, h2, missStep_mem, List.mem_cons]
  constructor
  ·rintro (⟨a, b⟩ | ⟨rfl, b⟩ | c)
   ·exact Or.inl ⟨Or.inr a, b⟩
   ·exact Or.inl ⟨Or.inl rfl, b⟩
   ·exact Or.inr c
  ·rintro (⟨rfl | a, b⟩ | c)
   ·exact Or.inr (Or.inl ⟨rfl, b⟩)
   ·exact Or.inl ⟨a, b⟩
   ·exact Or.inr (Or.inr c)

theorem missL_rise (L : List RowC) (ps : List ByteArray) : (missL L ps).Pairwise (fun a b => a.toList < b.toList) := (miss_fold L ps [] List.Pairwise.nil).1

theorem missL_mem {L : List RowC} {ps : List ByteArray} {y : ByteArray} : y ∈ missL L ps ↔ y ∈ ps ∧ getC L y = none := by
 unfold missL
 rw [(miss_fold L ps [] List.Pairwise.nil).2]
 simp

def notIn (L : List RowC) (ps : List ByteArray) : List ByteArray := ps.filter (fun p => !(getC L p).isSome)

theorem notIn_succ (L : List RowC) (ps : List ByteArray) (i : Nat) (p : ByteArray) (hp : ps[i]? = some p) : notIn L (ps.take (i + 1)) = notIn L (ps.take i) ++ (if (getC L p).isSome = true then [] else [p]) := by
 unfold notIn
 rw [List.take_add_one, hp, List.filter_append]
 congr 1
 simp only [Option.toList_some, List.filter_cons, List.filter_nil]
 cases (getC L p).isSome <;> rfl

theorem notIn_mem {L : List RowC} {ps : List ByteArray} {y : ByteArray} : y ∈ notIn L ps ↔ y ∈ ps ∧ getC L y = none := by
 unfold notIn
 rw [List.mem_filter]
 cases getC L y <;> simp

theorem notIn_le (L : List RowC) (ps : List ByteArray) : (notIn L ps).length ≤ ps.length := List.length_filter_le _ _

def LinkC (need : Nat) (d : DagD) : Prop := ∀ x ∈ d.L, d.low < x.c.header.round → need ≤ (idsC d.L (x.c.header.round - 1)).length

theorem LinkC.zero (need : Nat) : LinkC need dag0 := fun x hx => by cases hx

theorem risP_pair : ∀ (l : List ByteArray) (a : ByteArray), risP a l = 0 → (∀ p ∈ l, a.toList < p.toList) ∧ l.Pairwise (fun x y => x.toList < y.toList)
 | [], _, _ => ⟨(fun p hp => by cases hp), List.Pairwise.nil⟩
 | k :: l, a, h => by
  unfold risP at h
  split at h
  ·next hd => exact (hd h).elim
  ·next hd =>
   have hd : digE k a = 0 := by simpa using hd
   obtain ⟨h1, h2⟩ := risP_pair l k h
   have hak : a.toList < k.toList := by
    unfold digE at hd
    split at hd
    ·cases hd
    ·next h5 =>
     split at hd
     ·cases hd
     ·next h6 =>
      have h6 : leB k a = false := by simpa using h6
      unfold leB at h6
      rw [lessT_eq, bytes_eq, Bool.or_eq_false_iff, decide_eq_false_iff_not, decide_eq_false_iff_not] at h6
      rcases Std.lt_trichotomy a.toList k.toList with q | q | q
      ·exact q
      ·exact (h6.2 (bytes_inj q.symm)).elim
      ·exact (h6.1 q).elim
   exact ⟨fun p hp => by
    rcases List.mem_cons.1 hp with rfl | hp
    ·exact hak
    ·exact List.lt_trans hak (h1 p hp), List.pairwise_cons.2 ⟨h1, h2⟩⟩

theorem chkH_need {n need : Nat} {en : List TagD → ByteArray → Nat} {h : HdrD} (hc : chkH n need en h = 0) (hr : 1 < h.round) : need ≤ h.parents.length := by
 unfold chkH at hc
 split at hc
 ·cases hc
 split at hc
 ·cases hc
 split at hc
 ·next e => exact (e hc).elim
 split at hc
 ·next e => exact (e hc).elim
 unfold countE at hc
 split at hc
 ·cases hc
 split at hc
 ·cases hc
 next e => omega

theorem nodup_sub {l m : List ByteArray} (hl : l.Nodup) (h : ∀ x ∈ l, x ∈ m) : l.length ≤ m.length := by classical exact nodup_len l m hl h

theorem upon_enough {ks : List ByteArray} {f : Nat} {d : DagD} {c : CertD} (h1 : chkC ks f c = 0) (hlow : 1 ≤ d.low) (hp : parE d c.header = 0) (hr : d.low < c.header.round) : 2 * f + 1 ≤ (idsC d.L (c.header.round - 1)).length := by
 have hc := (chkC_hdr h1).1
 have hpp := (chkH_parts hc).2.2.2.1
 have hn : 2 * f + 1 ≤ c.header.parents.length := chkH_need hc (by omega)
 have hrise := (risP_pair _ _ hpp).2
 have hnod : c.header.parents.Nodup := hrise.imp (fun {x y} h e => by rw [e] at h; exact List.lt_irrefl _ h)
 refine Nat.le_trans hn (nodup_sub hnod (fun p hpm => ?_))
 unfold parE at hp
 split at hp
 ·cases hp
 next hm =>
 split at hp
 ·cases hp
 next ho =>
 have hm : missD d c.header = [] := by simpa using hm
 unfold missD at hm
 rw [if_neg (by omega)] at hm
 have hin : getC d.L p ≠ none := fun e => by
  have := (missL_mem (L := d.L)).2 ⟨hpm, e⟩
  rw [hm] at this
  cases this
 obtain ⟨x, hx⟩ := Option.ne_none_iff_exists'.1 hin
 obtain ⟨hxL, hxid⟩ := getC_some hx
 have hod : oddP d c.header = false := by
  cases e : oddP d c.header with
  | false => rfl
  | true => exact (ho ⟨hr, e⟩).elim
 unfold oddP at hod
 have := List.any_eq_false.1 hod p hpm
 rw [hx] at this
 have hro : x.c.header.round = c.header.round - 1 := by
  simp only [gotRd] at this
  exact Classical.not_not.1 (of_decide_eq_false (Bool.not_eq_true _ ▸ this))
 unfold idsC
 exact List.mem_map.2 ⟨x, List.mem_filter.2 ⟨hxL, by simpa using hro⟩, hxid⟩

theorem LinkC.add {ks : List ByteArray} {f : Nat} {d : DagD} (h : LinkC (2 * f + 1) d) (hlow : 1 ≤ d.low) (c : CertD) (id : ByteArray) : LinkC (2 * f + 1) (addD (chkC ks f c) (3 * f + 1) d c id) := by
 unfold addD
 split
 ·next he =>
  obtain ⟨h1, h2, h3, h4, h5, h6⟩ := addE_ok he
  intro x hx hr
  refine Nat.le_trans ?_ (idsC_ins d.L ⟨id, c⟩ _)
  rcases insC_mem.1 hx with rfl | hx
  ·exact upon_enough h1 hlow h4 hr
  ·exact h x hx hr
 ·exact h

theorem LinkC.lows {need : Nat} {d : DagD} (h : LinkC need d) (r : Int) : LinkC need (lowD d r) := by
 unfold lowD
 split
 ·exact h
 ·next hr =>
  intro x hx hlt
  have hlt : r < x.c.header.round := hlt
  have hx := keepC_mem.1 hx
  have := h x hx.1 (by omega)
  have e : idsC (keepC d.L r) (x.c.header.round - 1) = idsC d.L (x.c.header.round - 1) := by
   unfold idsC keepC
   rw [List.filter_filter]
   congr 1
   refine List.filter_congr (fun y _ => ?_)
   by_cases e : y.c.header.round = x.c.header.round - 1
   ·rw [e]; simp; omega
   ·simp [e]
  show need ≤ (idsC (keepC d.L r) (x.c.header.round - 1)).length
  rw [e]
  exact this

theorem idsC_pos {L : List RowC} {r : Int} (h : 0 < (idsC L r).length) : ∃ x ∈ L, x.c.header.round = r := by
 unfold idsC at h
 rw [List.length_map] at h
 obtain ⟨x, hx⟩ := List.exists_mem_of_length_pos h
 obtain ⟨h1, h2⟩ := List.mem_filter.1 hx
 exact ⟨x, h1, by simpa using h2⟩

theorem link_none {need : Nat} {d : DagD} (hn : 0 < need) (h : LinkC need d) {r : Int} (hlow : d.low ≤ r) (hr : (idsC d.L r).length < need) : ∀ x ∈ d.L, x.c.header.round ≤ r := by
 have key : ∀ (n : Nat) (x : RowC), x ∈ d.L → x.c.header.round ≠ r + 1 + (n : Int) := by
  intro n
  induction n with
  | zero =>
   intro x hx e
   have := h x hx (by omega)
   rw [show x.c.header.round - 1 = r from by omega] at this
   omega
  | succ n ih =>
   intro x hx e
   have := h x hx (by omega)
   obtain ⟨y, hy, ey⟩ := idsC_pos (L := d.L) (r := x.c.header.round - 1) (by omega)
   exact ih y hy (by omega)
 intro x hx
 refine Int.not_lt.1 (fun hlt => ?_)
 exact key (x.c.header.round - r - 1).toNat x hx (by omega)

theorem round_is {need : Nat} {d : DagD} (hn : 0 < need) (h : LinkC need d) (hlow : 1 ≤ d.low) (hge : ∀ x ∈ d.L, d.low ≤ x.c.header.round) {k : Nat} (hall : 0 < k → need ≤ (idsC d.L (d.low + (k : Int) - 1)).length) (hr : (idsC d.L (d.low + (k : Int))).length < need) : roundC need d.L = if k = 0 then 0 else d.low + (k : Int) - 1 := by
 have hno := link_none hn h (r := d.low + (k : Int)) (by omega) hr
 have hle : ∀ x ∈ d.L, need ≤ (idsC d.L x.c.header.round).length → x.c.header.round < d.low + (k : Int) := by
  intro x hx he
  have := hno x hx
  rcases Int.lt_or_eq_of_le this with q | q
  ·exact q
  ·rw [q] at he; omega
 by_cases hk : k = 0
 ·rw [if_pos hk]
  rcases roundC_is need d.L with q | ⟨x, hx, e1, e2⟩
  ·exact q
  ·have := hle x hx (by rw [e1]; exact e2)
   have := hge x hx
   omega
 ·rw [if_neg hk]
  have he := hall (by omega)
  obtain ⟨x, hx, ex⟩ := idsC_pos (L := d.L) (r := d.low + (k : Int) - 1) (by omega)
  have h1 := roundC_max (need := need) hx (by rw [ex]; exact he)
  rcases roundC_is need d.L with q | ⟨y, hy, e1, e2⟩
  ·omega
  ·have := hle y hy (by rw [e1]; exact e2)
   omega
end Go.Proofs.YtmjkbdgcnoenbaaGreatDoor

/- A table as a map of structs, as it lies in memory; what Drop does to it. -/
namespace Go.Proofs.YtmjkbdgcnoenbaaGreatDoor
open Go Go.RowKit Go.Maps
set_option linter.unusedVariables false

def thingV (x : ThingD) : Value := .agg #[.int .i64 x.round, .string x.s]
def tabF (l : List ThingD) (id : ByteArray) : Option Value := (getR l id).map thingV

theorem tabF_some {l : List ThingD} {id : ByteArray} : (tabF l id).isSome = true ↔ id ∈ l.map (·.id) := by
 unfold tabF
 rw [Option.isSome_map]
 constructor
 ·intro h
  obtain ⟨x, hx⟩ := Option.isSome_iff_exists.1 h
  obtain ⟨h1, h2⟩ := getR_some hx
  exact List.mem_map.2 ⟨x, h1, h2⟩
 ·intro h
  obtain ⟨x, hx, e⟩ := List.mem_map.1 h
  unfold getR
  rw [List.find?_isSome]
  exact ⟨x, hx, by rw [bytes_eq]; exact decide_eq_true e⟩

structure PTab (w : World) (tb mb : Nat) (most low : Int) (l : List ThingD) : Prop where
 box : Arr w tb 146 [.map (some mb), .int .i64 most, .int .i64 low]
 map : SMap w mb (tabF l) l.length
 ne : tb ≠ mb
 nod : (l.map (·.id)).Nodup
 few : l.length ≤ 1000000

set_option maxRecDepth 100000 in
set_option maxHeartbeats 2000000 in
theorem tabDrop_any (round : Int) (tb mb : Nat) (most low : Int) (l : List ThingD) (w : World) (h : PTab w tb mb most low l) :
  Calls Tryz.prog 64 #[.pointer (some ⟨tb, 0, none⟩), .int .i64 round] w fun e w' => e = .returned (.int .i64 ((l.length : Int) - ((dropL l round).length : Int))) ∧ PTab w' tb mb most (max low round) (dropL l round) ∧ Kept (fun k => k = tb ∨ k = mb) w w' := by
 have hM := h.map
 have hfew := h.few
 have c2 := h.box.cell (i := 0) rfl
 have hne := h.ne
 obtain ⟨f0, hf0⟩ : ∃ f, Hid (tabF l = f) := ⟨_, rfl⟩
 obtain ⟨g0, hg0⟩ : ∃ f, Hid (tabF (dropL l round) = f) := ⟨_, rfl⟩
 rw [hf0.out] at hM
 have hsub : ∀ i, f0 i = none → g0 i = none := by
  intro i hi
  rw [← hf0.out] at hi
  rw [← hg0.out]
  unfold tabF at hi ⊢
  rw [getR_drop round i h.nod]
  cases hx : getR l i with
  | none => rfl
  | some x => rw [hx] at hi; cases hi
 have hstep : Hid (∀ id v, f0 id = some v → ∃ r s, v = .agg #[.int .i64 r, .string s] ∧ (r < round → g0 id = none) ∧ (¬ r < round → f0 id = g0 id)) := by
  intro id v hv
  have hv' := hv
  rw [← hf0.out] at hv'
  unfold tabF at hv'
  cases hx : getR l id with
  | none => rw [hx] at hv'; cases hv'
  | some x =>
   rw [hx] at hv'
   simp only [Option.map_some, Option.some.injEq] at hv'
   have hgr := getR_drop round id h.nod
   rw [hx] at hgr
   simp only at hgr
   refine ⟨x.round, x.s, hv'.symm, fun hr => ?_, fun hr => ?_⟩
   ·rw [← hg0.out]
    unfold tabF
    rw [hgr, if_neg (by omega)]
    rfl
   ·rw [← hg0.out, ← hf0.out]
    unfold tabF
    rw [hgr, hx, if_pos (by omega)]
 go_enter Tryz.func64, Tryz.ntmps64
 go_wp2_with (first
  | (at_len; refine smap_len (by rfl) _ 144 rfl 142 Tryz.underlying144 mb f0 _ rfl hM ?_)
  | (at_range; refine smap_range rfl _ 144 rfl 142 Tryz.underlying144 mb f0 _ rfl hM ?_; intro w1 hR1 hb1 hs1))
 obtain ⟨r, hr⟩ : ∃ r, Hid (w.heap.size = r) := ⟨_, rfl⟩
 rw [hr.out] at hR1 ⊢
 have hrb : r ≠ tb ∧ r ≠ mb := by have := hr.out; have := h.box.lt; have := hM.lt; omega
 have hX1 := h.box.below hb1 h.box.lt
 have hK1 : Kept (fun k => k = tb ∨ k = mb) w w1 := Kept.of_below hb1
 have hR0 := hR1.congr (fun i => (mixF_start f0 g0 hsub i).symm)
 clear hR1 c2
 go_loopw [6] (fun _ wr => ∃ (left : ByteArray → Bool) (cnt n : Nat), SRange wr mb r (mixF f0 g0 left) n left cnt ∧ Arr wr tb 146 [.map (some mb), .int .i64 most, .int .i64 low] ∧ Kept (fun k => k = tb ∨ k = mb) w wr) (fun _ wr => wr.rangeLeft mb r)
 case atStart => exact ⟨_, _, _, hR0, hX1, hK1⟩
 case round =>
  obtain ⟨left, cnt, n, hR, hX, hK⟩ := hrel
  clear hR0 hX1 hK1 hb1 hs1
  have c2 := hX.cell (i := 0) rfl
  go_wp2_with (at_next; refine smap_next rfl _ rfl mb r _ _ _ _ rfl hR ?_ ?_)
  ·intro hl
   have hMF : SMap wr mb g0 n := hR.map.congr (fun i => by
    unfold mixF
    rw [hl i]
    rfl)
   have hn := hMF.count (dropL_nod h.nod round) (fun i => by rw [← hg0.out]; exact tabF_some)
   rw [List.length_map] at hn
   have c1 := hX.cell (i := 2) rfl
   have f1 := hX.frozen 2
   have hle := dropL_le l round
   subst hn
   have hfin : ∀ (lw : Int) (w5 : World), lw = max low round → Arr w5 tb 146 [.map (some mb), .int .i64 most, .int .i64 lw] → SMap w5 mb g0 (dropL l round).length → PTab w5 tb mb most (max low round) (dropL l round) := fun lw w5 e h1 h2 =>
    ⟨by rw [← e]; exact h1, by rw [hg0.out]; exact h2, hne, dropL_nod h.nod round, by omega⟩
   obtain ⟨dn, hdn⟩ : ∃ z, Hid ((dropL l round).length = z) := ⟨_, rfl⟩
   rw [hdn.out] at hMF hle hfin
   have hset : ∀ lw : Int, Arr (wr.setCell ⟨tb, 2, none⟩ (.int .i64 lw)) tb 146 [.map (some mb), .int .i64 most, .int .i64 lw] ∧ SMap (wr.setCell ⟨tb, 2, none⟩ (.int .i64 lw)) mb g0 dn ∧ Kept (fun k => k = tb ∨ k = mb) w (wr.setCell ⟨tb, 2, none⟩ (.int .i64 lw)) := fun lw =>
    ⟨hX.set 2 _, hMF.kept (Kept.setCell wr ⟨tb, 2, none⟩ (.int .i64 lw)) (fun e => hne e.symm), hK.set (p := ⟨tb, 2, none⟩) (Or.inl rfl) _⟩
   clear hR hX hK hMF
   rcases (by omega : round ≤ low ∨ ¬ round ≤ low) with hm | hm
   ·have e5 : low = max low round := by omega
    obtain ⟨s1, s2, s3⟩ := hset low
    have hP := hfin low _ e5 s1 s2
    clear hset hfin e5
    go_wp2_with (at_len; refine smap_len (by rfl) _ 144 rfl 142 Tryz.underlying144 mb g0 _ rfl s2 ?_)
    go_wp2
    go_ret
    exact ⟨by rw [hdn.out]; rfl, hP, s3⟩
   ·have e5 : round = max low round := by omega
    obtain ⟨s1, s2, s3⟩ := hset round
    have hP := hfin round _ e5 s1 s2
    clear hset hfin e5
    go_wp2_with (at_len; refine smap_len (by rfl) _ 144 rfl 142 Tryz.underlying144 mb g0 _ rfl s2 ?_)
    go_wp2
    go_ret
    exact ⟨by rw [hdn.out]; rfl, hP, s3⟩
  ·intro id v w2 cnt2 hid hlx hfx hR2 hlt hk2 hs2 hen
   have hfx0 : f0 id = some v := by
    unfold mixF at hfx
    rw [if_pos hlx] at hfx
    exact hfx
   obtain ⟨rd, s, rfl, hgo, hst⟩ := hstep.out id v hfx0
   have hX2 := hX.kept hk2 (fun e => hrb.1 e.symm)
   have hK2 : Kept (fun k => k = tb ∨ k = mb) w w2 := hK.transNew hk2 (fun k e => by have e' : k = r := e; have := hr.out; omega)
   have hA := belowNew w2 (.cells #[.int .i64 rd, .string s] 142)
   have hX3 := hX2.below hA hX2.lt
   have hR3 := hR2.kept (Kept.of_below (S := fun _ => False) hA) (fun e => e) (fun e => e)
   have hK3 := hK2.trans (Kept.of_below hA)
   have c23 := hX2.cell (i := 0) rfl
   have ltb := hX2.lt
   have hLq := hR.left_eq
   clear hfx hfx0 hX hR hK hk2 c2 hs2
   by_cases hlr : rd < round
   ·go_wp2_with (at_delete; refine smap_del_range rfl _ _ 144 rfl 142 Tryz.underlying144 mb r _ _ _ _ rfl hR3 id hid rfl ?_)
    intro w4 cnt4 hR4 hle hk4
    have hX4 := hX3.kept hk4 (fun e => hne e)
    have hK4 := hK3.trans (hk4.mono (fun k _ e => Or.inr e))
    rw [strikeF_twice] at hR4
    have hR5 := hR4.congr (mixF_goes (left := left) (f := f0) (hgo hlr))
    clear hR4 hR3 hX3 hK3 hk4 hen
    go_wp2
    go_roundw
    case rel => exact ⟨_, _, _, hR5, hX4, hK4⟩
    case measure => rw [hR5.left_eq, hLq]; omega
   ·have hR5 := hR3.congr (mixF_stays (left := left) (hst (by omega)))
    go_wp2
    go_roundw
    case rel => exact ⟨_, _, _, hR5, hX3, hK3⟩
    case measure => rw [hR5.left_eq, hLq]; omega
end Go.Proofs.YtmjkbdgcnoenbaaGreatDoor

/- New, Put, Get, Len of a table. -/
namespace Go.Proofs.YtmjkbdgcnoenbaaGreatDoor
open Go Go.RowKit Go.Maps
set_option linter.unusedVariables false

theorem PTab.below {w w' : World} {tb mb : Nat} {most low : Int} {l : List ThingD} (h : PTab w tb mb most low l) (hb : Below w.heap.size w w') : PTab w' tb mb most low l := ⟨h.box.below hb h.box.lt, h.map.below hb, h.ne, h.nod, h.few⟩
theorem PTab.kept {S : Nat → Prop} {w w' : World} {tb mb : Nat} {most low : Int} {l : List ThingD} (h : PTab w tb mb most low l) (hk : Kept S w w') (h1 : ¬ S tb) (h2 : ¬ S mb) : PTab w' tb mb most low l := ⟨h.box.kept hk h1, h.map.kept hk h2, h.ne, h.nod, h.few⟩

theorem SMap.lens {w : World} {b : Nat} {f : ByteArray → Option Value} {n : Nat} (h : SMap w b f n) {t e : TypeId} (ht : Tryz.prog.underlying t = some (.map 9 e)) (ty : TypeId) (m : Nat) : (Builtin.len_ #[t] ty #[.map (some b)]).run Tryz.prog (w.drewN m) = .ok (.int .i64 (n : Int)) (w.drewN m) := by
 obtain ⟨D, ho, h1, _⟩ := h.keep (w' := w.drewN m) rfl
 rw [ho.len ht ty, h1]

theorem zeroThing (w : World) : (zeroValue 142).run Tryz.prog w = .ok (.agg #[.int .i64 0, .string ⟨#[]⟩]) w := Tryz.zeroValue142 w

set_option maxRecDepth 100000 in
theorem tabGet_any (id : ByteArray) (hid : id.size ≤ maxLen) (tb mb : Nat) (most low : Int) (l : List ThingD) (w : World) (h : PTab w tb mb most low l) :
  Calls Tryz.prog 48 #[.pointer (some ⟨tb, 0, none⟩), .string id] w fun e w' => e = .returned (.tuple #[.string (gotS (getR l id)), .int .i64 (gotR (getR l id)), .bool (getR l id).isSome]) ∧ Below w.heap.size w w' := by
 have hM := h.map
 have c2 := h.box.cell (i := 0) rfl
 have ltb := h.box.lt
 have hz := zeroThing w
 obtain ⟨f0, hf0⟩ : ∃ f, Hid (tabF l = f) := ⟨_, rfl⟩
 rw [hf0.out] at hM
 obtain ⟨s, rd, ok, h1, h2, h3⟩ : ∃ s rd ok, Hid (gotS (getR l id) = s ∧ gotR (getR l id) = rd ∧ (getR l id).isSome = ok) ∧ (f0 id).getD (.agg #[.int .i64 0, .string ⟨#[]⟩]) = .agg #[.int .i64 rd, .string s] ∧ (f0 id).isSome = ok := by
  refine ⟨_, _, _, ⟨rfl, rfl, rfl⟩, ?_, ?_⟩
  ·rw [← hf0.out]
   unfold tabF
   cases getR l id <;> rfl
  ·rw [← hf0.out]
   unfold tabF
   cases getR l id <;> rfl
 rw [h1.out.1, h1.out.2.1, h1.out.2.2]
 go_enter Tryz.func48, Tryz.ntmps48
 go_wp2_with (at_lookup; refine smap_look_ok (by rfl) _ _ 144 rfl 142 Tryz.underlying144 _ hz mb _ _ rfl hM id hid rfl ?_; rw [h2, h3])
 go_region
 go_wp2
 go_ret3
 exact ⟨rfl, Below.drew (belowNew w _)⟩

theorem putF_tab {l : List ThingD} {x : ThingD} (hx : x.id ∉ l.map (·.id)) (i : ByteArray) : tabF (putL l x) i = putF (tabF l) x.id (thingV x) i := by
 unfold tabF putF
 rw [getR_put hx]
 by_cases h : x.id = i
 ·rw [if_pos h, if_pos h.symm]
  rfl
 ·rw [if_neg h, if_neg (fun e => h e.symm)]

theorem nod_put {l : List ThingD} {x : ThingD} (h : (l.map (·.id)).Nodup) (hx : x.id ∉ l.map (·.id)) : ((putL l x).map (·.id)).Nodup := by
 unfold putL
 rw [List.map_append, List.map_cons, List.nodup_append]
 have h1 : (l.map (·.id)) = (l.take (putAt l x.id)).map (·.id) ++ (l.drop (putAt l x.id)).map (·.id) := by rw [← List.map_append, List.take_append_drop]
 rw [h1] at h hx
 obtain ⟨a, b, c⟩ := List.nodup_append.1 h
 rw [List.mem_append, not_or] at hx
 refine ⟨a, List.nodup_cons.2 ⟨hx.2, b⟩, fun y hy z hz e => ?_⟩
 rcases List.mem_cons.1 hz with rfl | hz
 ·subst e; exact hx.1 hy
 ·exact c y hy z hz e

def putEP (most : Int) (l : List ThingD) (low : Int) (id : ByteArray) (round : Int) : Nat :=
 if (getR l id).isSome = true then 13 else if round < low then 11 else if most ≤ (l.length : Int) then 4 else 0
def putTP (most : Int) (l : List ThingD) (low : Int) (x : ThingD) : List ThingD := if putEP most l low x.id x.round = 0 then putL l x else l

set_option maxRecDepth 100000 in
set_option maxHeartbeats 1000000 in
theorem tabPut_any (id : ByteArray) (hid : id.size ≤ maxLen) (round : Int) (s : ByteArray) (tb mb : Nat) (most low : Int) (l : List ThingD) (w : World) (h : PTab w tb mb most low l) (hl6 : l.length < 1000000) :
  Calls Tryz.prog 59 #[.pointer (some ⟨tb, 0, none⟩), .string id, .int .i64 round, .string s] w fun e w' => e = .returned (.int .i64 (putEP most l low id round : Int)) ∧ PTab w' tb mb most low (putTP most l low ⟨id, round, s⟩) ∧ Kept (fun k => k = tb ∨ k = mb) w w' := by
 have hM := h.map
 have c0 := h.box.cell (i := 1) rfl
 have c1 := h.box.cell (i := 2) rfl
 have c2 := h.box.cell (i := 0) rfl
 have ltb := h.box.lt
 have hz := zeroThing w
 obtain ⟨f0, hf0⟩ : ∃ f, Hid (tabF l = f) := ⟨_, rfl⟩
 rw [hf0.out] at hM
 have hok : (f0 id).isSome = (getR l id).isSome := by
  rw [← hf0.out]
  unfold tabF
  cases getR l id <;> rfl
 obtain ⟨ee, te, hee, hte⟩ : ∃ ee te, Hid (putEP most l low id round = ee) ∧ Hid (putTP most l low ⟨id, round, s⟩ = te) := ⟨_, _, rfl, rfl⟩
 have hEE := hee.out
 have hTE := hte.out
 unfold putTP at hTE
 simp only [hee.out] at hTE
 rw [hee.out, hte.out]
 unfold putEP at hEE
 obtain ⟨rz, sz, hz1⟩ : ∃ rz sz, (f0 id).getD (.agg #[.int .i64 0, .string ⟨#[]⟩]) = .agg #[.int .i64 rz, .string sz] := by
  rw [← hf0.out]
  unfold tabF
  cases getR l id <;> exact ⟨_, _, rfl⟩
 have hA := belowNew w (.cells #[.int .i64 rz, .string sz] 142)
 have hP1 := h.below hA
 have hM1 := hM.below hA
 have hO := hM1.lens Tryz.underlying144 3
 have hK1 : Kept (fun k => k = tb ∨ k = mb) w (w.alloc (.cells #[.int .i64 rz, .string sz] 142)) := Kept.of_below hA
 cases hin : (getR l id).isSome with
 | true =>
  rw [hin] at hok hEE
  rw [if_pos rfl] at hEE
  subst hEE
  rw [if_neg (by decide)] at hTE
  subst hTE
  go_enter Tryz.func59, Tryz.ntmps59
  go_wp2_with (at_lookup; refine smap_look_ok (by rfl) _ _ 144 rfl 142 Tryz.underlying144 _ hz mb _ _ rfl hM id hid rfl ?_; rw [hz1, hok])
  go_ret
  exact ⟨rfl, hP1, hK1⟩
 | false =>
  rw [hin] at hok hEE
  rw [if_neg (by decide)] at hEE
  have hni : id ∉ l.map (·.id) := fun hm => by
   have := tabF_some.2 hm
   rw [hf0.out, hok] at this
   cases this
  by_cases hlo : round < low
  ·rw [if_pos hlo] at hEE
   subst hEE
   rw [if_neg (by decide)] at hTE
   subst hTE
   go_enter Tryz.func59, Tryz.ntmps59
   go_wp2_with (at_lookup; refine smap_look_ok (by rfl) _ _ 144 rfl 142 Tryz.underlying144 _ hz mb _ _ rfl hM id hid rfl ?_; rw [hz1, hok])
   go_ret
   exact ⟨rfl, hP1, hK1⟩
  ·rw [if_neg hlo] at hEE
   by_cases hfu : most ≤ (l.length : Int)
   ·rw [if_pos hfu] at hEE
    subst hEE
    rw [if_neg (by decide)] at hTE
    subst hTE
    go_enter Tryz.func59, Tryz.ntmps59
    go_wp2_with (first | (at_lookup; refine smap_look_ok (by rfl) _ _ 144 rfl 142 Tryz.underlying144 _ hz mb _ _ rfl hM id hid rfl ?_; rw [hz1, hok]) | (at_len; refine smap_len (by rfl) _ 144 rfl 142 Tryz.underlying144 mb _ _ rfl hM1 ?_))
    have d0 := hP1.box.cell (i := 1) rfl
    have d2 := hP1.box.cell (i := 0) rfl
    clear c0 c1 c2 hz hM h hA
    generalize w.alloc (.cells #[.int .i64 rz, .string sz] 142) = w1 at hP1 hM1 hO hK1 d0 d2 ⊢
    go_quiet (fail)
    have hbd := below_drewN (Below.refl w1.heap.size w1) nq
    have hP2 := hP1.below hbd
    have hK2 := hK1.trans (Kept.of_below hbd)
    go_wp2
    go_ret
    exact ⟨rfl, hP2, hK2⟩
   ·rw [if_neg hfu] at hEE
    subst hEE
    rw [if_pos rfl] at hTE
    have hfin : ∀ w5, SMap w5 mb (putF f0 id (.agg #[.int .i64 round, .string s])) (putN f0 id l.length) → Kept (fun k => k = mb) (w.alloc (.cells #[.int .i64 rz, .string sz] 142)) w5 → PTab w5 tb mb most low te := by
     intro w5 h1 h2
     subst hTE
     have hpn : putN f0 id l.length = (putL l ⟨id, round, s⟩).length := by
      unfold putN
      rw [hok, if_neg (by decide), putL_length]
     rw [hpn] at h1
     refine ⟨hP1.box.kept h2 (fun e => h.ne e), h1.congr (fun i => ?_), h.ne, nod_put h.nod hni, by rw [putL_length]; omega⟩
     rw [putF_tab hni, hf0.out]
     rfl
    clear hTE
    go_enter Tryz.func59, Tryz.ntmps59
    go_wp2_with (first | (at_lookup; refine smap_look_ok (by rfl) _ _ 144 rfl 142 Tryz.underlying144 _ hz mb _ _ rfl hM id hid rfl ?_; rw [hz1, hok]) | (at_len; refine smap_len (by rfl) _ 144 rfl 142 Tryz.underlying144 mb _ _ rfl hM1 ?_))
    have d0 := hP1.box.cell (i := 1) rfl
    have d2 := hP1.box.cell (i := 0) rfl
    clear c0 c1 c2 hz hM hA
    generalize w.alloc (.cells #[.int .i64 rz, .string sz] 142) = w1 at hP1 hM1 hO hK1 d0 d2 hfin ⊢
    go_quiet (fail)
    have hbd := below_drewN (Below.refl w1.heap.size w1) nq
    have hP2 := hP1.below hbd
    have hK2 := hK1.trans (Kept.of_below hbd)
    have hM2 := hM1.below hbd
    have d22 := hP2.box.cell (i := 0) rfl
    clear d0 d2 hO hM1 hP1 hK1
    generalize hw2 : w1.drewN nq = w2 at hP2 hK2 hM2 hbd d22 ⊢
    have hm9 : l.length < maxLen := by unfold maxLen; omega
    go_wp2_with (at_mapUpdate; refine smap_put rfl _ _ _ 144 rfl 142 Tryz.underlying144 mb f0 _ rfl hM2 hm9 id hid rfl _ rfl ?_; intro w5 hM5 hk5)
    have hP5 := hfin w5 hM5 ((Kept.of_below hbd).trans hk5)
    have hK5 := hK2.trans (hk5.mono (fun k _ e => Or.inr e))
    clear hfin hk5 hM5 hM2 hP2 d22 hbd
    go_wp2
    go_ret
    exact ⟨rfl, hP5, hK5⟩

set_option maxRecDepth 100000 in
theorem tabNew_any (most : Int) (w : World) :
  Calls Tryz.prog 69 #[.int .i64 most] w fun e w' => ∃ tb, e = .returned (.pointer (some ⟨tb, 0, none⟩)) ∧ ∃ mb, PTab w' tb mb most (-9223372036854775808) [] ∧ w.heap.size ≤ tb ∧ w.heap.size ≤ mb ∧ Below w.heap.size w w' := by
 have hmm := @run_makeMap Tryz.prog
 have hb1 := belowNew w (.map #[] 0)
 have hM := SMap.new w
 have hb2 := belowNew (w.alloc (.map #[] 0)) (.cells #[.map (some w.heap.size), .int .i64 most, .int .i64 (-9223372036854775808)] 146)
 have hX := Arr.new (w.alloc (.map #[] 0)) 146 [.map (some w.heap.size), .int .i64 most, .int .i64 (-9223372036854775808)]
 have e8 : (w.alloc (.map #[] 0)).heap.size = w.heap.size + 1 := by show (w.heap.push _).size = _; exact Array.size_push _
 have hP : PTab ((w.alloc (.map #[] 0)).alloc (.cells #[.map (some w.heap.size), .int .i64 most, .int .i64 (-9223372036854775808)] 146)) (w.heap.size + 1) w.heap.size most (-9223372036854775808) [] :=
  ⟨by rw [← e8]; exact hX, hM.below hb2, by omega, List.nodup_nil, by simp⟩
 have hB := hb1.trans (hb2.mono (by omega))
 clear hX hM hb1 hb2 e8
 go_enter Tryz.func69, Tryz.ntmps69
 go_wp2
 go_ret
 exact ⟨_, rfl, _, hP, by omega, by omega, hB⟩
end Go.Proofs.YtmjkbdgcnoenbaaGreatDoor
