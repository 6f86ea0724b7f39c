/- Texts as one: ParMath, PlayRows, PlayTags, HdrSets, KindsStep, HdrOwn, HdrOwnS, FitP, RefInt, RefGetInt, WireIntsWalk. -/
import Derived.Test.YtmjkbdgcnoenbaaGreatDoorDz08
import Derived.Test.YtmjkbdgcnoenbaaGreatDoorDz09
import Derived.Test.YtmjkbdgcnoenbaaGreatDoorDz03
import Derived.Test.YtmjkbdgcnoenbaaGreatDoorDz02
import Derived.Test.YtmjkbdgcnoenbaaGreatDoorDz06
import Derived.Test.YtmjkbdgcnoenbaaGreatDoorDz01
import Derived.Deep.RegionWith
/- What DagParents is about: the certificates of the first round in whatever order, and a header upon them. -/
namespace Go.Proofs.YtmjkbdgcnoenbaaGreatDoor
open Go Go.RowKit
set_option linter.unusedVariables false

/-- The ids of the first round's first k headers, rising. -/
def upIds (k : Nat) : List ByteArray := (List.range k).foldl (fun l a => insT l (idB (hdr1 a))) []

theorem upIds_succ (k : Nat) : upIds (k + 1) = insT (upIds k) (idB (hdr1 k)) := by
  unfold upIds
  rw [List.range_succ, List.foldl_append]
  rfl

theorem insU_new {l : List ByteArray} {x : ByteArray} (h : x ∉ l) : insU l x = insT l x := by
  unfold insU
  rw [if_neg (fun e => h (List.mem_of_getElem? e))]

structure UpIds (k : Nat) (l : List ByteArray) : Prop where
  rise : l.Pairwise (fun a b => a.toList < b.toList)
  mem : ∀ y, y ∈ l ↔ ∃ a, a < k ∧ y = idB (hdr1 a)
  len : l.length = k

theorem upIds_is : ∀ k, k ≤ 7 → UpIds k (upIds k)
  | 0, _ => ⟨List.Pairwise.nil, fun y => ⟨fun h => (by cases h), fun ⟨a, h, _⟩ => absurd h (Nat.not_lt_zero _)⟩, rfl⟩
  | k + 1, hk => by
    have ih := upIds_is k (by omega)
    have hne : idB (hdr1 k) ∉ upIds k := fun e => by
      obtain ⟨a, ha, e⟩ := (ih.mem _).1 e
      have := ids1_inj (by omega) (by omega) e
      omega
    rw [upIds_succ]
    refine ⟨?_, fun y => ?_, by rw [insT_length, ih.len]⟩
    · rw [← insU_new hne]; exact insU_rise ih.rise _
    · rw [← insU_new hne, insU_mem, ih.mem]
      constructor
      · rintro (rfl | ⟨a, ha, rfl⟩)
        · exact ⟨k, by omega, rfl⟩
        · exact ⟨a, by omega, rfl⟩
      · rintro ⟨a, ha, rfl⟩
        rcases (by omega : a < k ∨ a = k) with h | rfl
        · exact Or.inr ⟨a, h, rfl⟩
        · exact Or.inl rfl

theorem inI_first (need k : Nat) : inI need (if k = 0 then [] else [upIds k]) 1 (idB (hdr1 k)) = [upIds (k + 1)] := by
  rw [upIds_succ]
  unfold inI inP
  rcases Nat.eq_zero_or_pos k with rfl | h
  · simp [upIds]
  · rw [if_neg (by omega : ¬ k = 0)]
    simp

/-- The numbers of the first round's authors, turned. -/
structure Turned (N : Nat) (qs : List Nat) : Prop where
  nod : qs.Nodup
  mem : ∀ a, a ∈ qs ↔ a < N
  len : qs.length = N

theorem Turned.range (N : Nat) : Turned N (List.range N) := ⟨List.nodup_range, fun a => List.mem_range, List.length_range⟩

theorem swap_nodup {α : Type} {l : List α} (h : l.Nodup) {a b : Nat} {x y : α} (hx : l[a]? = some x) (hy : l[b]? = some y) : ((l.set a y).set b x).Nodup ∧ ∀ z, z ∈ (l.set a y).set b x ↔ z ∈ l := by
  have hg : ∀ i, ((l.set a y).set b x)[i]? = if i = b then some x else if i = a then some y else l[i]? := fun i => by
    have ha := (List.getElem?_eq_some_iff.1 hx).1
    have hb := (List.getElem?_eq_some_iff.1 hy).1
    rw [List.getElem?_set, List.getElem?_set, List.length_set]
    by_cases h1 : b = i
    · subst h1; simp [hb]
    · rw [if_neg h1]
      by_cases h2 : a = i
      · subst h2; rw [if_pos rfl, if_pos ha, if_neg (fun e : a = b => h1 e.symm), if_pos rfl]
      · rw [if_neg h2, if_neg (fun e => h1 e.symm), if_neg (fun e => h2 e.symm)]
  have hinj : ∀ (m : List α), m.Nodup → ∀ i j z, m[i]? = some z → m[j]? = some z → i = j := fun m hm i j z h1 h2 => by
    obtain ⟨p1, q1⟩ := List.getElem?_eq_some_iff.1 h1
    obtain ⟨p2, q2⟩ := List.getElem?_eq_some_iff.1 h2
    have hp := List.pairwise_iff_getElem.1 hm
    rcases Nat.lt_trichotomy i j with h | h | h
    · exact (hp i j p1 p2 h (q1.trans q2.symm)).elim
    · exact h
    · exact (hp j i p2 p1 h (q2.trans q1.symm)).elim
  -- where an element stands now, and where it stood
  have hσ : ∀ i z, ((l.set a y).set b x)[i]? = some z → l[if i = b then a else if i = a then b else i]? = some z := fun i z hz => by
    rw [hg] at hz
    by_cases h1 : i = b
    · rw [if_pos h1] at hz ⊢; rw [hx]; exact hz
    · rw [if_neg h1] at hz ⊢
      by_cases h2 : i = a
      · rw [if_pos h2] at hz ⊢; rw [hy]; exact hz
      · rw [if_neg h2] at hz ⊢; exact hz
  constructor
  · refine List.pairwise_iff_getElem.2 (fun i j hi hj hij e => ?_)
    have h1 := hσ i _ (List.getElem?_eq_getElem hi)
    have h2 := hσ j _ (List.getElem?_eq_getElem hj)
    rw [← e] at h2
    have := hinj l h _ _ _ h1 h2
    split at this <;> split at this <;> first | omega | (split at this <;> first | omega | (split at this <;> omega))
  · intro z
    constructor
    · intro hz
      obtain ⟨i, hi, e⟩ := List.getElem_of_mem hz
      exact List.mem_of_getElem? (hσ i z (by rw [List.getElem?_eq_getElem hi, e]))
    · intro hz
      obtain ⟨i, hi, e⟩ := List.getElem_of_mem hz
      have hz' : l[i]? = some z := by rw [List.getElem?_eq_getElem hi, e]
      have hk := hg (if i = a then b else if i = b then a else i)
      refine List.mem_of_getElem? (i := if i = a then b else if i = b then a else i) ?_
      rw [hk]
      by_cases h1 : i = a
      · rw [if_pos h1, if_pos rfl]; rw [h1, hx] at hz'; exact hz'
      · rw [if_neg h1]
        by_cases h2 : i = b
        · rw [if_pos h2]
          rw [h2, hy] at hz'
          by_cases h3 : a = b
          · exact absurd (h2.trans h3.symm) h1
          · rw [if_neg h3, if_pos rfl]; exact hz'
        · rw [if_neg h2, if_neg h2, if_neg h1]; exact hz'

theorem Turned.swap {N : Nat} {qs : List Nat} (h : Turned N qs) {a b x y : Nat} (hx : qs[a]? = some x) (hy : qs[b]? = some y) : Turned N ((qs.set a y).set b x) := by
  obtain ⟨h1, h2⟩ := swap_nodup h.nod hx hy
  exact ⟨h1, fun z => by rw [h2, h.mem], by rw [List.length_set, List.length_set, h.len]⟩

section
variable {ks : List ByteArray} {n N i : Nat} {qs : List Nat} {d : DagD}

/-- The header upon the first round. -/
def hdrUp (N : Nat) : HdrD := ⟨1, 2, [], upIds N⟩

theorem Turned.split (h : Turned N qs) (i a : Nat) : a ∈ qs.drop i ↔ a < N ∧ a ∉ qs.take i := by
  have e := List.take_append_drop i qs
  have hn := h.nod
  rw [← e, List.nodup_append] at hn
  rw [← h.mem a]
  constructor
  · intro ha
    exact ⟨List.mem_of_mem_drop ha, fun ht => hn.2.2 a ht a ha rfl⟩
  · rintro ⟨h1, h2⟩
    rw [← e] at h1
    rcases List.mem_append.1 h1 with h1 | h1
    · exact absurd h1 h2
    · exact h1

theorem First.in_ (hF : First ks n (qs.take i).reverse d) (hT : Turned N qs) (hN : N ≤ 7) {a : Nat} (ha : a < N) : getC d.L (idB (hdr1 a)) = none ↔ a ∉ qs.take i := by
  rw [getC_none]
  constructor
  · intro h e
    exact h (rowA ks n a) ((hF.mem _).2 ⟨a, List.mem_reverse.2 e, rfl⟩) rfl
  · intro h x hx e
    obtain ⟨b, hb, rfl⟩ := (hF.mem x).1 hx
    have hb' := List.mem_reverse.1 hb
    have hbN := (hT.mem b).1 (List.mem_of_mem_take hb')
    have := ids1_inj (by omega) (by omega) e
    exact h (by rw [← this]; exact hb')

theorem First.miss_mem (hF : First ks n (qs.take i).reverse d) (hT : Turned N qs) (hN : N ≤ 7) (y : ByteArray) : y ∈ missL d.L (upIds N) ↔ y ∈ (qs.drop i).map (fun a => idB (hdr1 a)) := by
  rw [missL_mem, (upIds_is N hN).mem, List.mem_map]
  constructor
  · rintro ⟨⟨a, ha, rfl⟩, h⟩
    exact ⟨a, (hT.split i a).2 ⟨ha, (hF.in_ hT hN ha).1 h⟩, rfl⟩
  · rintro ⟨a, ha, rfl⟩
    have h1 := (hT.split i a).1 ha
    exact ⟨⟨a, h1.1, rfl⟩, (hF.in_ hT hN h1.1).2 h1.2⟩

theorem rise_nodup {l : List ByteArray} (h : l.Pairwise (fun a b => a.toList < b.toList)) : l.Nodup := h.imp (fun {a b} hab e => by rw [e] at hab; exact List.lt_irrefl _ hab)

theorem First.miss_len (hF : First ks n (qs.take i).reverse d) (hT : Turned N qs) (hN : N ≤ 7) : (missL d.L (upIds N)).length = N - i := by
  have hnd : ((qs.drop i).map (fun a => idB (hdr1 a))).Nodup := by
    refine List.pairwise_map.2 (List.Pairwise.imp_of_mem (fun {a b} ha hb hab e => ?_) ((List.drop_sublist i qs).nodup hT.nod))
    have h1 := (hT.mem a).1 (List.mem_of_mem_drop ha)
    have h2 := (hT.mem b).1 (List.mem_of_mem_drop hb)
    exact hab (ids1_inj (by omega) (by omega) e)
  have h1 := nodup_sub (rise_nodup (missL_rise d.L (upIds N))) (fun x hx => (hF.miss_mem hT hN x).1 hx)
  have h2 := nodup_sub hnd (fun x hx => (hF.miss_mem hT hN x).2 hx)
  rw [List.length_map, List.length_drop, hT.len] at h1 h2
  omega

theorem chk_up {f : Nat} (hf : f ≤ 2) (hf1 : 1 ≤ f) (en : List TagD → ByteArray → Nat) : chkH (3 * f + 1) (2 * f + 1) en (hdrUp (2 * f + 1)) = 0 := by
  have hU := upIds_is (2 * f + 1) (by omega)
  have hr : risP ⟨#[]⟩ (upIds (2 * f + 1)) = 0 := by
    refine risP_rise _ _ (fun p hp => ?_) (fun p hp => ?_) hU.rise
    · obtain ⟨a, _, rfl⟩ := (hU.mem p).1 hp
      exact idB_size _
    · obtain ⟨a, _, rfl⟩ := (hU.mem p).1 hp
      have hs := idB_size (hdr1 a)
      have e : (ByteArray.toList ⟨#[]⟩ : List UInt8) = [] := by decide +kernel
      rw [e]
      cases hl : (idB (hdr1 a)).toList with
      | nil =>
        have : (idB (hdr1 a)).toList.length = 32 := by rw [← hs, ByteArray.toList_eq]; exact Array.length_toList
        rw [hl] at this
        cases this
      | cons x r => exact List.nil_lt_cons x r
  unfold chkH hdrUp
  simp only [List.length_nil]
  rw [if_neg (by omega), if_neg (by omega), show refP en ⟨#[]⟩ [] = 0 from rfl, if_neg (by simp), hr, if_neg (by simp)]
  unfold countE
  rw [hU.len, if_neg (by omega), if_neg (by omega), if_neg (by omega)]

theorem First.miss (hF : First ks n (qs.take i).reverse d) : missD d (hdrUp N) = missL d.L (upIds N) := by
  unfold missD hdrUp
  rw [hF.low]
  exact if_neg (by show ¬ (2 : Int) ≤ 1; decide)

theorem First.voteUp (hF : First ks n (qs.take i).reverse d) (hT : Turned N qs) (hN : N ≤ 7) (hi : i ≤ N) (hV : d.V = []) (id : ByteArray) : voteE 0 d (hdrUp N) id = if i < N then 14 else 0 := by
  have hm := hF.miss_len hT hN
  have hr : ¬ (hdrUp N).round < d.low := by rw [hF.low]; show ¬ (2 : Int) < 1; decide
  have hp : parE d (hdrUp N) = if i < N then 14 else 0 := by
    unfold parE
    rw [hF.miss]
    by_cases h : i < N
    · rw [if_pos h, if_pos (fun e => by rw [e] at hm; simp at hm; omega)]
    · rw [if_neg h, if_neg (fun e => e (List.eq_nil_of_length_eq_zero (by omega))), if_neg]
      rintro ⟨_, ho⟩
      obtain ⟨p, hpm, hpo⟩ := List.any_eq_true.1 ho
      have hpo := of_decide_eq_true hpo
      have hpm : p ∈ upIds N := hpm
      obtain ⟨a, ha, rfl⟩ := ((upIds_is N hN).mem p).1 hpm
      cases hg : getC d.L (idB (hdr1 a)) with
      | none =>
        have := (hF.in_ hT hN ha).1 hg
        rw [List.take_of_length_le (by rw [hT.len]; omega)] at this
        exact this ((hT.mem a).2 ha)
      | some x =>
        rw [hg] at hpo
        obtain ⟨b, hb, e⟩ := (hF.mem x).1 (getC_some hg).1
        rw [e] at hpo
        exact hpo rfl
  unfold voteE
  rw [if_neg (by simp), if_neg hr, hp]
  by_cases h : i < N
  · rw [if_pos h, if_pos (by decide)]
  · rw [if_neg h, if_neg (by simp), hV, if_neg]
    simp [clashV]

theorem First.idsUp (hF : First ks n (qs.take i).reverse d) (hT : Turned N qs) (hN : N ≤ 7) (hi : N ≤ i) (hR : RiseC d.L) : idsC d.L 1 = upIds N := by
  have hU := upIds_is N hN
  refine rise_ext ?_ hU.rise (fun y => ?_)
  · unfold idsC
    exact List.pairwise_map.2 (List.Pairwise.filter _ hR)
  · rw [hU.mem]
    unfold idsC
    rw [List.mem_map]
    constructor
    · rintro ⟨x, hx, rfl⟩
      obtain ⟨a, ha, rfl⟩ := (hF.mem x).1 (List.mem_filter.1 hx).1
      exact ⟨a, (hT.mem a).1 (List.mem_of_mem_take (List.mem_reverse.1 ha)), rfl⟩
    · rintro ⟨a, ha, rfl⟩
      refine ⟨rowA ks n a, List.mem_filter.2 ⟨(hF.mem _).2 ⟨a, List.mem_reverse.2 ?_, rfl⟩, rfl⟩, rfl⟩
      rw [List.take_of_length_le (by rw [hT.len]; omega)]
      exact (hT.mem a).2 ha
end
end Go.Proofs.YtmjkbdgcnoenbaaGreatDoor

/- What acts make, as it lies in memory: rows of rows of texts, Bools, the maker's box. -/
namespace Go.Proofs.YtmjkbdgcnoenbaaGreatDoor
open Go Go.RowKit
set_option linter.unusedVariables false

/-- Bools. -/
def boolK : Kind Bool where
  n := 1
  c v := [.bool v]
  foot _ _ := False
  At _ _ := True
  pos := by decide
  len _ := rfl
  one x u hu := by
    simp only [List.mem_cons, List.not_mem_nil, or_false] at hu
    rcases hu with rfl; rfl
  lt _ h := h.elim
  keep _ _ := trivial

theorem RowAt.bool {w : World} {ao : Option Addr} {l : List Bool} (h : RowAt boolK w ao l) {i : Nat} {v : Bool} (hv : l[i]? = some v) :
    ∃ b off, ao = some ⟨b, off, none⟩ ∧ b < w.heap.size ∧ w.cell? ⟨b, off + i, none⟩ = some (.bool v) := by
  obtain ⟨g, off, h1, h2, h3⟩ := h.cell i v hv
  have := h3 0 _ rfl
  simp only [show boolK.n = 1 from rfl, Nat.mul_one, Nat.add_zero] at this
  exact ⟨g, off, h1, h2, this⟩

/-- A row of texts as it lies. -/
structure IdsM where
  ao : Option Addr
  cap : Nat
  l : List ByteArray

def idsK : Kind IdsM where
  n := 1
  c x := [.slice x.ao x.l.length x.cap]
  foot x := rowFoot strK x.ao x.l
  At w x := RowAt strK w x.ao x.l ∧ (x.ao = none → x.cap = 0)
  pos := by decide
  len _ := rfl
  one x u hu := by
    simp only [List.mem_cons, List.not_mem_nil, or_false] at hu
    rcases hu with rfl; rfl
  lt h hf := h.1.lt hf
  keep h hk := ⟨h.1.keep hk, h.2⟩

theorem RowAt.ids {w : World} {ao : Option Addr} {l : List IdsM} (h : RowAt idsK w ao l) {i : Nat} {x : IdsM} (hx : l[i]? = some x) :
    ∃ b off, ao = some ⟨b, off, none⟩ ∧ b < w.heap.size ∧ w.cell? ⟨b, off + i, none⟩ = some (.slice x.ao x.l.length x.cap) := by
  obtain ⟨g, off, h1, h2, h3⟩ := h.cell i x hx
  have := h3 0 _ rfl
  simp only [show idsK.n = 1 from rfl, Nat.mul_one, Nat.add_zero] at this
  exact ⟨g, off, h1, h2, this⟩

theorem infoIds : (Tryz.prog.info? 31).any (fun i => i.size == 1 && i.bytes == 24 && (match i.zero with | some z => z.cells.size == 1 | none => false)) = true := by kernel_rfl

theorem idsInfo : ∃ i z, Tryz.prog.info? 31 = some i ∧ i.zero = some z ∧ i.size = 1 ∧ i.bytes = 24 ∧ z.cells.size = 1 := by
  have h := infoIds
  cases hi : Tryz.prog.info? 31 with
  | none => rw [hi] at h; cases h
  | some i =>
    rw [hi] at h
    simp only [Option.any_some, Bool.and_eq_true, beq_iff_eq] at h
    cases hz : i.zero with
    | none => rw [hz] at h; simp at h
    | some z =>
      rw [hz] at h
      exact ⟨i, z, rfl, hz, h.1.1, h.1.2, by simpa using h.2⟩

theorem infoTagP : (Tryz.prog.info? 42).any (fun i => i.size == 2 && i.bytes == 24 && (match i.zero with | some z => z.cells.size == 2 | none => false)) = true := by kernel_rfl

theorem tagInfo : ∃ i z, Tryz.prog.info? 42 = some i ∧ i.zero = some z ∧ i.size = 2 ∧ i.bytes = 24 ∧ z.cells.size = 2 := by
  have h := infoTagP
  cases hi : Tryz.prog.info? 42 with
  | none => rw [hi] at h; cases h
  | some i =>
    rw [hi] at h
    simp only [Option.any_some, Bool.and_eq_true, beq_iff_eq] at h
    cases hz : i.zero with
    | none => rw [hz] at h; simp at h
    | some z =>
      rw [hz] at h
      exact ⟨i, z, rfl, hz, h.1.1, h.1.2, by simpa using h.2⟩

/-- The maker: its box, its row of rows. -/
structure PlAt (w : World) (pb : Nat) (q : Value) (rt : Nat) (xs : List IdsM) : Prop where
  box : Arr w pb 84 [.pointer (some ⟨rt, 0, none⟩), q, .slice none 0 0]
  row : KQ idsK 31 w (pb + 1) q xs
  gt : ∀ x ∈ xs, ∀ b, rowFoot strK x.ao x.l b → pb < b
  few : xs.length ≤ 1000
  few' : ∀ x ∈ xs, x.l.length ≤ 1000
  emp : ∀ x ∈ xs, x.l = [] → x.ao = none
  room : ∀ x ∈ xs, x.l.length ≤ x.cap

/-- The blocks that it has. -/
def PlFoot (pb : Nat) (q : Value) (xs : List IdsM) (k : Nat) : Prop := k = pb ∨ q.ownBlock = some k ∨ ∃ x ∈ xs, rowFoot strK x.ao x.l k

section
variable {w w' : World} {pb : Nat} {q : Value} {rt : Nat} {xs : List IdsM} {S : Nat → Prop}

theorem PlAt.kept (h : PlAt w pb q rt xs) (hk : Kept S w w') (hS : ∀ k, PlFoot pb q xs k → ¬ S k) : PlAt w' pb q rt xs :=
  ⟨h.box.kept hk (hS pb (Or.inl rfl)), h.row.kept hk (fun k e => hS k (Or.inr (Or.inl e))) (fun x hx b hb => hS b (Or.inr (Or.inr ⟨x, hx, hb⟩))), h.gt, h.few, h.few', h.emp, h.room⟩

theorem PlAt.below (h : PlAt w pb q rt xs) (hb : Below w.heap.size w w') : PlAt w' pb q rt xs :=
  h.kept (Kept.of_below (S := fun _ => False) hb) (fun _ _ h => h)

theorem PlAt.lt (h : PlAt w pb q rt xs) {k : Nat} (hk : PlFoot pb q xs k) : pb ≤ k ∧ k < w.heap.size := by
  rcases hk with rfl | e | ⟨x, hx, e⟩
  · exact ⟨Nat.le_refl _, h.box.lt⟩
  · have := h.row.lt k e; omega
  · have := h.gt x hx k e
    have := (h.row.at_ x hx).1.lt e
    omega
end

/-- .. as the blocks that it has and what is in it. -/
structure Pl (w : World) (pb : Nat) (S : Nat → Prop) (rt : Nat) (ids : List (List ByteArray)) : Prop where
  at_ : ∃ q xs, ids = xs.map IdsM.l ∧ (∀ k, S k ↔ PlFoot pb q xs k) ∧ PlAt w pb q rt xs

section
variable {w w' : World} {pb : Nat} {S S' : Nat → Prop} {rt : Nat} {ids : List (List ByteArray)}

theorem Pl.kept (h : Pl w pb S rt ids) (hk : Kept S' w w') (hS : ∀ k, S k → ¬ S' k) : Pl w' pb S rt ids := by
  obtain ⟨q, xs, h1, h2, h3⟩ := h
  exact ⟨q, xs, h1, h2, h3.kept hk (fun k e => hS k ((h2 k).2 e))⟩

theorem Pl.below (h : Pl w pb S rt ids) (hb : Below w.heap.size w w') : Pl w' pb S rt ids := by
  obtain ⟨q, xs, h1, h2, h3⟩ := h
  exact ⟨q, xs, h1, h2, h3.below hb⟩

theorem Pl.lt (h : Pl w pb S rt ids) {k : Nat} (hk : S k) : pb ≤ k ∧ k < w.heap.size := by
  obtain ⟨q, xs, h1, h2, h3⟩ := h
  exact h3.lt ((h2 k).1 hk)

theorem Pl.few (h : Pl w pb S rt ids) : ids.length ≤ 1000 := by
  obtain ⟨q, xs, rfl, h2, h3⟩ := h
  rw [List.length_map]
  exact h3.few
end
end Go.Proofs.YtmjkbdgcnoenbaaGreatDoor

/- What (*Plays).Tags does: the tags of a word, of those who vote. -/
namespace Go.Proofs.YtmjkbdgcnoenbaaGreatDoor
open Go Go.RowKit
set_option linter.unusedVariables false

theorem tagOne (w : World) (j : Int) (m : ByteArray) : RowAt tagK (w.alloc (.cells #[.int .i64 j, .string m] 42)) (some ⟨w.heap.size, 0, none⟩) [⟨j, m⟩] := by
  refine ⟨fun i x hx => ?_, fun _ _ => trivial⟩
  have hi := (List.getElem?_eq_some_iff.1 hx).1
  have h0 : i = 0 := by simp at hi; omega
  subst h0
  simp at hx
  subst hx
  refine ⟨w.heap.size, 0, rfl, by rw [alloc_size]; omega, fun k v hv => ?_⟩
  have := (Arr.new w 42 [.int .i64 j, .string m]).cell (i := k) hv
  simpa using this

set_option maxRecDepth 100000 in
set_option maxHeartbeats 1000000 in
theorem playTags_any (pb : Nat) (q : Value) (rt f : Nat) (ks : List ByteArray) (xs : List IdsM) (kind word : ByteArray) (ao : Option Addr) (cap : Nat) (who : List Bool) (w : World) (h : PlAt w pb q rt xs) (hT : Mx.TabAt w rt f ks) (hf : f ≤ 2) (hkl : ks.length = 3 * f + 1) (hks : ∀ k ∈ ks, k.size ≤ 32)
    (hW : RowAt boolK w ao who) (hwl : who.length ≤ maxLen) (hkd : kind.size ≤ 1000) (hwd : word.size ≤ 2000) (hG : Mx.Glob w) :
    Calls Tryz.prog 46 #[.pointer (some ⟨pb, 0, none⟩), .string kind, .string word, .slice ao who.length cap] w fun e w' => ∃ v, e = .returned v ∧ KQ tagK 42 w' w.heap.size v (tagsP ks kind word who (3 * f + 1)) ∧ Below w.heap.size w w' := by
  obtain ⟨i0, z0, hi0, hz0, hz1, hz2, hz3⟩ := tagInfo
  obtain ⟨N, hN⟩ : ∃ z, Hid (3 * f + 1 = z) := ⟨_, rfl⟩
  have hN7 : N ≤ 7 := by have := hN.out; omega
  have hkN : Hid (ks.length = N) := by show ks.length = N; rw [hkl, hN.out]
  have cN := fun w1 h1 => Mx.refN_any rt f ks w1 h1 hf
  have cS := fun (j : Nat) (hj : j < N) w1 h1 h2 => Mx.refSign_yes rt f ks j kind word w1 h1 (ks.getD j ⟨#[]⟩) (by rw [List.getD_eq_getElem?_getD, List.getElem?_eq_getElem (by have := hkN.out; omega)]; rfl) hks hf hkl hkd hwd h2
  unfold Mx.tagV at cS
  rw [hN.out] at cN ⊢
  have hkl' : Hid _ := hkl
  clear hkl
  go_enter Tryz.func46, Tryz.ntmps46
  go_wp2_with fail
  go_loopw [9, 10] (fun v9 v10 wr => ∃ i : Nat, i ≤ N ∧ v10 = .int .i64 (i : Int) ∧ KQ tagK 42 wr w.heap.size v9 (tagsP ks kind word who i) ∧ Below w.heap.size w wr) (fun _ v _ => N - (intOf v).toNat)
  case atStart => exact ⟨0, Nat.zero_le _, rfl, KQ.empty _ _ _ _, Below.refl _ _⟩
  case round =>
    obtain ⟨i, hi, rfl, hQ, hb⟩ := hrel
    have c0 := (h.box.below hb h.box.lt).cell (i := 0) rfl
    have hTb := hT.below hb
    have hGb := hG.below hb
    by_cases hil : i < N
    · have g1 : (i : Int) < (N : Int) := by omega
      have hlen := tagsP_length ks kind word who i
      have hsucc : Hid _ := tagsP_succ ks kind word who i
      obtain ⟨tl, htl⟩ : ∃ z, Hid (tagsP ks kind word who i = z) := ⟨_, rfl⟩
      obtain ⟨mc, hmc⟩ : ∃ z, Hid (Mx.macOf (ks.getD i ⟨#[]⟩) kind word = z) := ⟨_, rfl⟩
      have cS := cS i hil
      rw [htl.out] at hQ hlen
      have cS := fun (j : Nat) (hj : j < N) w1 h1 h2 => cS w1 h1 h2
      rw [hmc.out] at cS
      go_wp2_with fail
      refine (cN _ hTb).mono ?_
      rintro e wx ⟨rfl, rfl⟩
      cases hw : who[i]? with
      | some b =>
        have g2 : (i : Int) < (who.length : Int) := by have := (List.getElem?_eq_some_iff.1 hw).1; omega
        obtain ⟨g, off, rfl, hg, hcw⟩ := (hW.below hb).bool hw
        cases b with
        | false =>
          have hvo : ¬ votes who i = true := by unfold votes; rw [List.getD_eq_getElem?_getD, hw]; simp
          have hv2 : Hid (tagsP ks kind word who (i + 1) = tl) := by
            show _ = _
            rw [hsucc.out, if_neg hvo, htl.out, List.append_nil]
          clear hw hvo cN cS
          go_wp2
          go_roundw
          case rel => exact ⟨i + 1, by omega, by go_num, by rw [hv2.out]; exact hQ, hb⟩
          case measure => simp [intOf]; omega
        | true =>
          have hvo : votes who i = true := by unfold votes; rw [List.getD_eq_getElem?_getD, hw]; simp
          clear hw cN
          go_wp2_with fail
          refine (cS i hil _ hTb hGb).mono ?_
          rintro e ws ⟨rfl, hbs⟩
          have hv2 : Hid (tagsP ks kind word who (i + 1) = tl ++ [⟨(i : Int), mc⟩]) := by
            show _ = _
            rw [hsucc.out, if_pos hvo, htl.out, hmc.out]
          have hQs := hQ.below hbs
          have hbb := hb.trans (hbs.mono hb.size)
          have hb1 := belowNew ws (.cells #[.int .i64 (i : Int), .string mc] 42)
          have hQ1 := hQs.below hb1
          have hbb1 := hbb.trans (hb1.mono hbb.size)
          have hC1 := Arr.new ws 42 [.int .i64 (i : Int), .string mc]
          clear hbs hQs hb1 hQ hb hbb
          have hb2 := belowNew (ws.alloc (.cells #[.int .i64 (i : Int), .string mc] 42)) (.cells #[.int .i64 (i : Int), .string mc] 42)
          have hQ2 := hQ1.below hb2
          have hbb2 := hbb1.trans (hb2.mono hbb1.size)
          have hR2 := tagOne (ws.alloc (.cells #[.int .i64 (i : Int), .string mc] 42)) (i : Int) mc
          have hsz : Hid ((ws.alloc (.cells #[.int .i64 (i : Int), .string mc] 42)).heap.size = ws.heap.size + 1) := alloc_size _ _
          have hbs2 : w.heap.size ≤ ((ws.alloc (.cells #[.int .i64 (i : Int), .string mc] 42)).alloc (.cells #[.int .i64 (i : Int), .string mc] 42)).heap.size := hbb2.size
          have hnw := hR2.news
          rw [flatK_single] at hnw
          rw [hsz.out] at hnw
          have m1 : tl.length + 1 ≤ maxLen := by unfold maxLen; omega
          have m2 : (tl.length + 1) * 24 ≤ 140737488355328 := by omega
          have x0 := hC1.cell (i := 0) rfl
          have x1 := hC1.cell (i := 1) rfl
          clear hb2 hC1 hR2 hsz hbb1 hQ1
          go_wp2_with (at_builtin; refine wpList_push (K := tagK) rfl _ _ 46 rfl w.heap.size 42 i0 _ 24 Tryz.underlying46 hi0 hz0 hz1 hz2 hz3 _ tl rfl hQ2 ⟨(i : Int), mc⟩ trivial (fun _ h => h.elim) ⟨ws.heap.size + 1, 0, none⟩ 1 rfl hnw m1 m2 hbs2 ?_)
          intro ao3 cap3 w3 hQ5 hk3
          have hb5 := hbb2.trans (Kept.below hk3 hbb2.size (fun j hj => by have := (hQ2.lt j hj).1; omega))
          clear hk3 hQ2 hbb2 hnw m1 m2 x0 x1 hbs2
          go_wp2
          go_roundw
          case rel => exact ⟨i + 1, by omega, by go_num, by rw [hv2.out]; exact hQ5, hb5⟩
          case measure => simp [intOf]; omega
      | none =>
        have g2 : ¬ (i : Int) < (who.length : Int) := by have := List.getElem?_eq_none_iff.1 hw; omega
        have hvo : votes who i = true := by unfold votes; rw [List.getD_eq_getElem?_getD, hw]; simp
        clear hw cN
        go_wp2_with fail
        refine (cS i hil _ hTb hGb).mono ?_
        rintro e ws ⟨rfl, hbs⟩
        have hv2 : Hid (tagsP ks kind word who (i + 1) = tl ++ [⟨(i : Int), mc⟩]) := by
          show _ = _
          rw [hsucc.out, if_pos hvo, htl.out, hmc.out]
        have hQs := hQ.below hbs
        have hbb := hb.trans (hbs.mono hb.size)
        have hb1 := belowNew ws (.cells #[.int .i64 (i : Int), .string mc] 42)
        have hQ1 := hQs.below hb1
        have hbb1 := hbb.trans (hb1.mono hbb.size)
        have hC1 := Arr.new ws 42 [.int .i64 (i : Int), .string mc]
        clear hbs hQs hb1 hQ hb hbb
        have hb2 := belowNew (ws.alloc (.cells #[.int .i64 (i : Int), .string mc] 42)) (.cells #[.int .i64 (i : Int), .string mc] 42)
        have hQ2 := hQ1.below hb2
        have hbb2 := hbb1.trans (hb2.mono hbb1.size)
        have hR2 := tagOne (ws.alloc (.cells #[.int .i64 (i : Int), .string mc] 42)) (i : Int) mc
        have hsz : Hid ((ws.alloc (.cells #[.int .i64 (i : Int), .string mc] 42)).heap.size = ws.heap.size + 1) := alloc_size _ _
        have hbs2 : w.heap.size ≤ ((ws.alloc (.cells #[.int .i64 (i : Int), .string mc] 42)).alloc (.cells #[.int .i64 (i : Int), .string mc] 42)).heap.size := hbb2.size
        have hnw := hR2.news
        rw [flatK_single] at hnw
        rw [hsz.out] at hnw
        have m1 : tl.length + 1 ≤ maxLen := by unfold maxLen; omega
        have m2 : (tl.length + 1) * 24 ≤ 140737488355328 := by omega
        have x0 := hC1.cell (i := 0) rfl
        have x1 := hC1.cell (i := 1) rfl
        clear hb2 hC1 hR2 hsz hbb1 hQ1
        go_wp2_with (at_builtin; refine wpList_push (K := tagK) rfl _ _ 46 rfl w.heap.size 42 i0 _ 24 Tryz.underlying46 hi0 hz0 hz1 hz2 hz3 _ tl rfl hQ2 ⟨(i : Int), mc⟩ trivial (fun _ h => h.elim) ⟨ws.heap.size + 1, 0, none⟩ 1 rfl hnw m1 m2 hbs2 ?_)
        intro ao3 cap3 w3 hQ5 hk3
        have hb5 := hbb2.trans (Kept.below hk3 hbb2.size (fun j hj => by have := (hQ2.lt j hj).1; omega))
        clear hk3 hQ2 hbb2 hnw m1 m2 x0 x1 hbs2
        go_wp2
        go_roundw
        case rel => exact ⟨i + 1, by omega, by go_num, by rw [hv2.out]; exact hQ5, hb5⟩
        case measure => simp [intOf]; omega
    · obtain rfl : i = N := by omega
      have g1 : ¬ (i : Int) < (i : Int) := by omega
      obtain ⟨aoF, capF, rfl, _, _⟩ := hQ.form
      go_wp2_with fail
      refine (cN _ hTb).mono ?_
      rintro e wx ⟨rfl, rfl⟩
      go_wp2
      go_ret
      exact ⟨_, rfl, hQ, hb⟩
end Go.Proofs.YtmjkbdgcnoenbaaGreatDoor

/- A Ref in a new cell; four cells of a block that are written one behind the other. -/
namespace Go.Proofs.YtmjkbdgcnoenbaaGreatDoor
open Go.RowKit
set_option linter.unusedVariables false

theorem rd_append (l m : List RefM) : rd (l ++ m) = rd l ++ rd m := by simp [rd]

theorem new_ref (w : World) (x : RefM) : ∀ j u, (refK.c x)[j]? = some u → (w.alloc (.cells #[.string x.digest, .slice x.ao x.acks.length x.cap] 94)).cell? ((⟨w.heap.size, 0, none⟩ : Addr).add j) = some u := by
  intro j u hu
  rw [Go.WideShapes.add_plain, Nat.zero_add]
  exact (Arr.new w 94 [.string x.digest, .slice x.ao x.acks.length x.cap]).cell hu

/-- Four cells are written anew. -/
def set4 (w : World) (g : Nat) (v0 v1 v2 v3 : Value) : World := (((w.setCell ⟨g, 0, none⟩ v0).setCell ⟨g, 1, none⟩ v1).setCell ⟨g, 2, none⟩ v2).setCell ⟨g, 3, none⟩ v3

theorem Arr.set4 {w : World} {g : Nat} {t : TypeId} {a0 a1 a2 a3 : Value} (h : Arr w g t [a0, a1, a2, a3]) (v0 v1 v2 v3 : Value) : Arr (Proofs.YtmjkbdgcnoenbaaGreatDoor.set4 w g v0 v1 v2 v3) g t [v0, v1, v2, v3] := (((h.set 0 v0).set 1 v1).set 2 v2).set 3 v3

theorem below_set4 {B : Nat} {w w' : World} (h : Below B w w') {g : Nat} (hg : B ≤ g) (v0 v1 v2 v3 : Value) : Below B w (set4 w' g v0 v1 v2 v3) :=
  (((h.setCell (p := ⟨g, 0, none⟩) hg v0).setCell (p := ⟨g, 1, none⟩) hg v1).setCell (p := ⟨g, 2, none⟩) hg v2).setCell (p := ⟨g, 3, none⟩) hg v3

theorem kept_set4 (w : World) (g : Nat) (v0 v1 v2 v3 : Value) : Kept (fun k => k = g) w (set4 w g v0 v1 v2 v3) :=
  ((((Kept.refl (fun k => k = g) w).set (p := ⟨g, 0, none⟩) rfl v0).set (p := ⟨g, 1, none⟩) rfl v1).set (p := ⟨g, 2, none⟩) rfl v2).set (p := ⟨g, 3, none⟩) rfl v3
end Go.Proofs.YtmjkbdgcnoenbaaGreatDoor

/- append(q, xs...) of a row's elements, at a step of a region that draws its order. -/
namespace Go.Proofs.YtmjkbdgcnoenbaaGreatDoor
open Go.RowKit
set_option linter.unusedVariables false

section
variable {α : Type} {K : Kind α}

/-- The same, as an equation of the run. -/
theorem run_copy {P : Program} (w : World) (t ty : TypeId) (base : Nat) (e : TypeId) (i : TypeInfo) (z : Value) (bytes : Nat) (ht : P.underlying t = some (.slice e)) (hi : P.info? e = some i) (hz : i.zero = some z)
    (hsize : i.size = K.n) (hby : i.bytes = bytes) (hzs : z.cells.size = K.n)
    (v : Value) (hown : w.ownsRow base e K.n v 0 []) (ao : Option Addr) (cap : Nat) (l : List α)
    (hS : RowAt K w ao l) (hf : ∀ x ∈ l, ∀ b, K.foot x b → b < base) (hnil : ao = none → cap = 0) (hm : l.length ≤ maxLen) (hlen : l.length * bytes ≤ 140737488355328) (hbase : base ≤ w.heap.size) :
    ∃ ao' cap' w', (Builtin.append_ #[t, t] ty #[v, .slice ao l.length cap]).run P w = .ok (.slice ao' l.length cap') w' ∧ RowAt K w' ao' l ∧ (ao' = none → cap' = 0) ∧ (l ≠ [] → ∀ b off, ao' = some ⟨b, off, none⟩ → base ≤ b) ∧ Below base w w' := by
  cases ao with
  | none =>
    have hc0 := hnil rfl
    subst hc0
    have hss : l = [] := by
      cases l with
      | nil => rfl
      | cons y r => obtain ⟨_, _, e, _⟩ := hS.cell 0 y rfl; cases e
    subst hss
    have hrun := run_append_owned_none (P := P) (w := w) base t ty e i K.n ht hi v 0 [] hown
    rcases hown.2 with ⟨hv, _⟩ | ⟨g, c, cur, hv, _⟩
    · rw [hv] at hrun ⊢
      exact ⟨none, 0, w, hrun, nil_row _ _, fun _ => rfl, fun hne => absurd rfl hne, Below.refl _ _⟩
    · rw [hv] at hrun ⊢
      exact ⟨_, c, w, hrun, nil_row _ _, (fun e => by cases e), fun hne => absurd rfl hne, Below.refl _ _⟩
  | some ad =>
    obtain ⟨v', w', hrun, hown', hgrow, _⟩ := run_append_own (P := P) w base t ty e i z K.n bytes ht hi hz hsize hby hzs K.pos v 0 [] hown ad l.length cap (flatK K l) (flatK_length K l) hS.news (flatK_one K l) (by omega) (by rw [Nat.zero_add]; exact hlen) hbase
    have hb := (Below.refl base w).grown hgrow hbase (fun q hq => (hown.lt q hq).1)
    rw [Nat.zero_add, List.nil_append] at hown'
    have hA : ∀ x ∈ l, K.At w' x := fun x hx => K.keep (hS.at_ x hx) (fun b hb' => hb.block b (hf x hx b hb'))
    have hq := QRow.of_own hown'
    obtain ⟨ao', cap', rfl, _, _⟩ := hq.form
    refine ⟨ao', cap', w', hrun, hq.rowAt rfl hA, ?_, ?_, hb⟩
    · intro he
      rcases hown'.2 with ⟨hv, _⟩ | ⟨g, c, cur, hv, _⟩
      · simp at hv; exact hv.2.2
      · simp at hv; rw [hv.1] at he; cases he
    · intro hne b off he
      exact (hown'.lt b (by rw [he]; rfl)).1

/-- The same, at a step of a region that draws its order. -/
theorem step_copy {P : Program} (w : World) {ops : Array Oper} {o : Oper} {a : Act} {C : Act → World → Prop} {Q : Exit → Act → World → Prop} {E : Prop} (hgd : o.guard = none) (s x : Operand) (t : TypeId)
    (ho : o.op = .call { callee := .builtin .append, args := #[s, x], argTypes := #[t, t] })
    (base : Nat) (e : TypeId) (i : TypeInfo) (z : Value) (bytes : Nat) (ht : P.underlying t = some (.slice e)) (hi : P.info? e = some i) (hz : i.zero = some z)
    (hsize : i.size = K.n) (hby : i.bytes = bytes) (hzs : z.cells.size = K.n)
    (v : Value) (hs : a.eval s = v) (hown : w.ownsRow base e K.n v 0 []) (ao : Option Addr) (cap : Nat) (l : List α) (hx : a.eval x = .slice ao l.length cap)
    (hS : RowAt K w ao l) (hf : ∀ x ∈ l, ∀ b, K.foot x b → b < base) (hnil : ao = none → cap = 0) (hm : l.length ≤ maxLen) (hlen : l.length * bytes ≤ 140737488355328) (hbase : base ≤ w.heap.size)
    (h : ∀ ao' cap' w', RowAt K w' ao' l → (ao' = none → cap' = 0) → (l ≠ [] → ∀ b off, ao' = some ⟨b, off, none⟩ → base ≤ b) → Below base w w' → C (a.put o.dst (.slice ao' l.length cap')) w') : if Region.wanted o (yielded ops a.tmps) = true then Oper.wp P o a w C Q else E := by
  rw [if_pos (by simp [Region.wanted, hgd])]
  obtain ⟨ao', cap', w', hrun, r1, r2, r3, r4⟩ := run_copy (K := K) (P := P) w t o.type base e i z bytes ht hi hz hsize hby hzs v hown ao cap l hS hf hnil hm hlen hbase
  unfold Oper.wp
  simp [execOp, ho, resolve, invoke, builtin, hs, hx, hrun, Result.andThen]
  exact h ao' cap' w' r1 r2 r3 r4
end
end Go.Proofs.YtmjkbdgcnoenbaaGreatDoor

/- What tusklaw06.Own does; nothing old in memory is turned. -/
namespace Go.Proofs.YtmjkbdgcnoenbaaGreatDoor
open Go.RowKit
set_option linter.unusedVariables false

/-- Its lists are no longer than a machine holds. -/
structure HdrM.Lens (x : HdrM) : Prop where
  n : x.refs.length * 40 ≤ 140737488351232
  p : x.parents.length * 16 ≤ 140737488351232
  acks : ∀ r ∈ x.refs, r.acks.length * 24 ≤ 140737488351232

theorem rd_succ (l : List RefM) (k : Nat) (x : RefM) (h : l[k]? = some x) : rd (l.take (k + 1)) = rd (l.take k) ++ [x.d] := by
  have hk := (List.getElem?_eq_some_iff.1 h).1
  have he := (List.getElem?_eq_some_iff.1 h).2
  rw [List.take_succ_eq_append_getElem hk, he]
  simp [rd]

theorem results_hdrO {fn : Func} {p : Tmp} (h : fn.results = #[.cell p 33]) (tmps : Array Value) (w : World) (g : Nat) (x : HdrM)
    (hp : tmps.getD p undef = .pointer (some ⟨g, 0, none⟩)) (hg : Arr w g 33 x.c) :
    (results fn tmps).run Tryz.prog w = .ok x.v w :=
  results_cell_row h tmps w g 33 x.c.toArray (0, 0) _ hp hg Tryz.underlying33 rfl infoHdr6

/-- A header that shares nothing is handed back. -/
def GotOwnH (W : World) (x : HdrM) (e : Ending) (w : World) : Prop :=
  ∃ y : HdrM, e = .returned y.v ∧ y.d = x.d ∧ y.At w ∧ (∀ b, y.foot b → W.heap.size ≤ b) ∧ Below W.heap.size W w

set_option maxRecDepth 100000 in
set_option maxHeartbeats 4000000 in
theorem own6_any (x : HdrM) (w : World) (hA : x.At w) (hL : x.Lens) :
    Calls Tryz.prog 14 #[x.v] w fun e w' => GotOwnH w x e w' := by
  obtain ⟨au, ro, ra, rs, rc, pa, ps, pc⟩ := x
  have hA1 : RowAt refK w ra rs := hA.refs
  have hA2 : RowAt strK w pa ps := hA.ps
  have hnp : pa = none → pc = 0 := hA.np
  have hL1 : rs.length * 40 ≤ 140737488351232 := hL.n
  have hL2 : ps.length * 16 ≤ 140737488351232 := hL.p
  have hL3 : ∀ r ∈ rs, r.acks.length * 24 ≤ 140737488351232 := hL.acks
  obtain ⟨hX, hZ, hB⟩ := two_new w 33 33 [.int .i64 au, .int .i64 ro, .slice ra rs.length rc, .slice pa ps.length pc] [.int .i64 0, .int .i64 0, .slice none 0 0, .slice none 0 0]
  obtain ⟨i0, hi, hz0, hz1, hz2⟩ := info_parts infoRef6
  obtain ⟨i1, hi', hz0', hz1', hz2'⟩ := info_parts infoTag6
  clear hA hL
  unfold HdrM.v
  simp only
  go_enter Tryz.func14, Tryz.ntmps14
  go_wp2
  go_loopw [3, 4] (fun v3 v4 wr => ∃ (k : Nat) (m : List RefM), k ≤ rs.length ∧ m.length = k ∧ v4 = .int .i64 (k : Int) ∧ Hid (rd m = rd (rs.take k)) ∧ KQ refK 94 wr (w.heap.size + 1 + 1) v3 m ∧ (∀ x ∈ m, ∀ b, refK.foot x b → w.heap.size + 1 + 1 ≤ b) ∧ Arr wr w.heap.size 33 [.int .i64 au, .int .i64 ro, .slice ra rs.length rc, .slice pa ps.length pc] ∧ Arr wr (w.heap.size + 1) 33 [.int .i64 0, .int .i64 0, .slice none 0 0, .slice none 0 0] ∧ Below w.heap.size w wr) (fun _ v _ => rs.length - (intOf v).toNat)
  case atStart => exact ⟨0, [], Nat.zero_le _, rfl, rfl, (rfl : _ = _), KQ.empty _ _ _ _, (fun x hx => by cases hx), hX, hZ, hB⟩
  case round =>
    clear hX hZ hB
    obtain ⟨k, m, hk, hmk, rfl, hD, hq, hof, hX, hZ, hb⟩ := hrel
    have x2 := hX.cell (i := 2) rfl
    by_cases hlt : k < rs.length
    · obtain ⟨r, hr⟩ : ∃ r, rs[k]? = some r := ⟨rs[k], List.getElem?_eq_getElem hlt⟩
      obtain ⟨b, off, rfl, hbl, y0, y1⟩ := (hA1.below hb).ref hr
      obtain ⟨hrt, hrn⟩ := (hA1.below hb).at_ r (List.mem_of_getElem? hr)
      have hLr := hL3 r (List.mem_of_getElem? hr)
      have HD : Hid (rd (rs.take (k + 1)) = rd m ++ [r.d]) := by
        show _ = _
        rw [rd_succ rs k r hr, hD.out]
      obtain ⟨qa, qc, rfl, hqn, _⟩ := hq.form
      rw [hmk] at hq
      clear hr hD
      have hwz := hZ.lt
      obtain ⟨we, hwe⟩ : ∃ q, wr.alloc (.cells #[] 42) = q := ⟨_, rfl⟩
      have hbe0 : Below wr.heap.size wr we := by rw [← hwe]; exact belowNew _ _
      have hbe : Below wr.heap.size wr we.drew := Below.drew hbe0
      have hown : we.drew.ownsRow wr.heap.size 42 tagK.n (.slice (some ⟨wr.heap.size, 0, none⟩) 0 0) 0 [] := by rw [← hwe]; exact World.ownsRow_made wr #[] 0 (Nat.le_refl _) (by unfold maxLen; omega) (by simp)
      have hrt1 := hrt.below hbe
      have hz1e : wr.heap.size ≤ we.drew.heap.size := hbe.size
      have x2a := (hX.below hbe0 hX.lt).cell (i := 2) rfl
      have y0a : we.cell? ⟨b, off + k * 2, none⟩ = some (.string r.digest) := (hbe0.cell (p := ⟨b, off + k * 2, none⟩) hbl).trans y0
      have y1a : we.cell? ⟨b, off + k * 2 + 1, none⟩ = some (.slice r.ao r.acks.length r.cap) := (hbe0.cell (p := ⟨b, off + k * 2 + 1, none⟩) hbl).trans y1
      have n1 : r.acks.length ≤ maxLen := by unfold maxLen; omega
      have n2 : r.acks.length * 24 ≤ 140737488355328 := by omega
      have n3 : m.length + 1 ≤ maxLen := by unfold maxLen; omega
      have n4 : (m.length + 1) * 40 ≤ 140737488355328 := by omega
      go_wp2_with fail
      go_region_law (first
        | (refine step_copy (K := tagK) _ (by rfl) _ _ 46 (by rfl) wr.heap.size 42 i1 _ 24 Tryz.underlying46 hi' hz0' hz1' hz2' rfl _ (by rfl) hown r.ao r.cap r.acks (by rfl) hrt1 (fun _ _ _ h => h.elim) hrn n1 n2 hz1e ?_; intro ao3 cap3 w3 hO3 hOn3 hOf3 hb3; have hbA : Below wr.heap.size wr w3 := hbe.trans hb3; have x2b := (hX.below hbA hX.lt).cell (i := 2) rfl; have y0b : w3.cell? ⟨b, off + k * 2, none⟩ = some (.string r.digest) := (hbA.cell (p := ⟨b, off + k * 2, none⟩) hbl).trans y0; have hbx := belowNew w3 (.cells #[.string r.digest, .slice ao3 r.acks.length cap3] 94); have hbB := hbA.trans (hbx.mono hbA.size); have hq5 := hq.below hbB; have hx5 := Kind.below refK (x := ⟨r.digest, r.acks, ao3, cap3⟩) ⟨hO3, hOn3⟩ hbx; have hxf : ∀ b, refK.foot ⟨r.digest, r.acks, ao3, cap3⟩ b → wr.heap.size ≤ b := (fun g hg => by rcases hg with ⟨h1, o, h2⟩ | ⟨_, _, h⟩; exact hOf3 h1 g o h2; exact h.elim); have hxo : ∀ b, refK.foot ⟨r.digest, r.acks, ao3, cap3⟩ b → (Value.slice qa k qc).ownBlock ≠ some b := (fun g hg e => by have := hxf g hg; have := (hq.lt g e).2; omega); have hN := new_ref w3 ⟨r.digest, r.acks, ao3, cap3⟩; have hbs : w.heap.size + 1 + 1 ≤ (w3.alloc (.cells #[.string r.digest, .slice ao3 r.acks.length cap3] 94)).heap.size := Nat.le_trans hwz hbB.size)
        | (refine step_push (K := refK) _ (by rfl) _ _ 30 (by rfl) (w.heap.size + 1 + 1) 94 i0 _ 40 Tryz.underlying30 hi hz0 hz1 hz2 rfl _ m (by rfl) hq5 ⟨r.digest, r.acks, ao3, cap3⟩ hx5 hxo ⟨w3.heap.size, 0, none⟩ 1 (by rfl) hN n3 n4 hbs ?_; intro ao8 cap8 w8 hq8 hk8))
      all_goals
        have hkB := Kept.below hk8 hbs (fun j hj => (hq5.lt j hj).1)
        have hbF : Below (w.heap.size + 1 + 1) wr w8 := (hbB.mono hwz).trans hkB
        have hXF := hX.below hbF (by omega)
        have hZF := hZ.below hbF (by omega)
        have hbG : Below w.heap.size w w8 := hb.trans (hbF.mono (by omega))
        have hofG : ∀ y ∈ m ++ [(⟨r.digest, r.acks, ao3, cap3⟩ : RefM)], ∀ b, refK.foot y b → w.heap.size + 1 + 1 ≤ b := by
          intro y hy b hb
          rw [List.mem_append, List.mem_singleton] at hy
          rcases hy with hy | rfl
          · exact hof y hy b hb
          · have := hxf b hb; omega
        rw [hmk] at hq8
        have HDF : Hid (rd (m ++ [(⟨r.digest, r.acks, ao3, cap3⟩ : RefM)]) = rd (rs.take (k + 1))) := by
          show _ = _
          rw [HD.out, rd_append]
          rfl
        clear hk8 hkB hq5 hN hbs hbx hbB hbA hx5 hxo hO3 hOf3 hb3 x2b y0b hX hZ hb hq hown hrt hrt1 hbe hbe0 x2 y0 y1 x2a y0a y1a HD hwe hbF
        go_wp2
        go_roundw
        case rel => exact ⟨k + 1, m ++ [⟨r.digest, r.acks, ao3, cap3⟩], by omega, by simp [hmk], by go_num, HDF, hq8, hofG, hXF, hZF, hbG⟩
        case measure => simp [intOf]; omega
    · obtain rfl : k = rs.length := by omega
      clear hmk
      have HD : Hid (rd m = rd rs) := by
        have := hD.out
        rw [List.take_length] at this
        exact this
      obtain ⟨qa, qc, rfl, hqn, hqt⟩ := hq.form
      have hqf := hq.foot_ge (B := w.heap.size + 1 + 1) (Nat.le_refl _) hof
      have f2 := hX.frozen 2
      have hX1 := hX.set 2 (.slice qa m.length qc)
      have hZ1 := hZ.other (p := ⟨w.heap.size, 2, none⟩) (by show w.heap.size + 1 ≠ w.heap.size; omega) (.slice qa m.length qc)
      have hb1 := hb.setCell (p := ⟨w.heap.size, 2, none⟩) (Nat.le_refl _) (.slice qa m.length qc)
      have hqt1 := hqt.kept (Kept.setCell wr ⟨w.heap.size, 2, none⟩ (.slice qa m.length qc)) (fun b hb e => by have := hqf b hb; have e' : b = w.heap.size := e; omega)
      obtain ⟨w1, hw1⟩ : ∃ q, wr.setCell ⟨w.heap.size, 2, none⟩ (.slice qa m.length qc) = q := ⟨_, rfl⟩
      rw [hw1] at hX1 hZ1 hb1 hqt1
      obtain ⟨w2, hw2⟩ : ∃ q, w1.alloc (.cells #[] 9) = q := ⟨_, rfl⟩
      have hbe : Below w1.heap.size w1 w2 := by rw [← hw2]; exact belowNew _ _
      have hown : w2.ownsRow w1.heap.size 9 strK.n (.slice (some ⟨w1.heap.size, 0, none⟩) 0 0) 0 [] := by rw [← hw2]; exact World.ownsRow_made w1 #[] 0 (Nat.le_refl _) (by unfold maxLen; omega) (by simp)
      have hX2 := hX1.below hbe hX1.lt
      have hZ2 := hZ1.below hbe hZ1.lt
      have hb2 := hb1.trans (hbe.mono hb1.size)
      have hP2 := hA2.below hb2
      have hqt2 := hqt1.below hbe
      have hqf2 : ∀ b, rowFoot refK qa m b → b < w1.heap.size := fun b hb => hqt1.lt hb
      have x3 := hX2.cell (i := 3) rfl
      have hwl := hZ1.lt
      obtain ⟨j0, hj, hy0, hy1, hy2⟩ := info_parts infoString
      clear hX hZ hb hq hqt hD
      go_wp2_with (at_builtin; refine wpList_copy (K := strK) rfl _ _ 31 rfl w1.heap.size 9 j0 _ 16 Tryz.underlying31 hj hy0 hy1 hy2 rfl _ rfl hown pa pc ps rfl hP2 (fun _ _ _ h => h.elim) hnp ?c1 ?c2 ?c3 ?_)
      case c1 => unfold maxLen; omega
      case c2 => omega
      case c3 => exact hbe.size
      intro oa oc w3 hO3 hOn hOf hb3
      have hX3 := hX2.below hb3 hX1.lt
      have hZ3 := hZ2.below hb3 hZ1.lt
      have hqt3 := hqt2.keep (fun b hb => hb3.block b (hqf2 b hb))
      have hB3 := hb2.trans (hb3.mono hb1.size)
      have hof3 : ∀ b, rowFoot strK oa ps b → w.heap.size + 1 + 1 ≤ b := fun b hb => by
        obtain ⟨hl, off, e⟩ := strs_foot hb
        have := hOf (fun e => by rw [e] at hl; simp at hl) b off e
        omega
      clear hX1 hZ1 hX2 hZ2 hP2 hqt1 hqt2 hb1 hb2 hown hbe hb3 x3 hw2 hw1
      have x3 := hX3.cell (i := 3) rfl
      have f3 := hX3.frozen 3
      have hX4 := hX3.set 3 (.slice oa ps.length oc)
      have hZ4 := hZ3.other (p := ⟨w.heap.size, 3, none⟩) (by show w.heap.size + 1 ≠ w.heap.size; omega) (.slice oa ps.length oc)
      have hB4 := hB3.setCell (p := ⟨w.heap.size, 3, none⟩) (Nat.le_refl _) (.slice oa ps.length oc)
      have hqt4 := hqt3.kept (Kept.setCell w3 ⟨w.heap.size, 3, none⟩ (.slice oa ps.length oc)) (fun b hb e => by have := hqf b hb; have e' : b = w.heap.size := e; omega)
      have hO4 := hO3.kept (Kept.setCell w3 ⟨w.heap.size, 3, none⟩ (.slice oa ps.length oc)) (fun b hb e => by have := hof3 b hb; have e' : b = w.heap.size := e; omega)
      obtain ⟨w4, hw4⟩ : ∃ q, w3.setCell ⟨w.heap.size, 3, none⟩ (.slice oa ps.length oc) = q := ⟨_, rfl⟩
      rw [hw4] at hX4 hZ4 hB4 hqt4 hO4
      have t0 := hX4.cell (i := 0) rfl
      have t1 := hX4.cell (i := 1) rfl
      have t2 := hX4.cell (i := 2) rfl
      have t3 := hX4.cell (i := 3) rfl
      have z0 := hZ4.cell (i := 0) rfl
      have z1 := hZ4.cell (i := 1) rfl
      have z2 := hZ4.cell (i := 2) rfl
      have z3 := hZ4.cell (i := 3) rfl
      have g0 := hZ4.frozen 0
      have g1 := hZ4.frozen 1
      have g2 := hZ4.frozen 2
      have g3 := hZ4.frozen 3
      have kF := kept_set4 w4 (w.heap.size + 1) (.int .i64 au) (.int .i64 ro) (.slice qa m.length qc) (.slice oa ps.length oc)
      have hZF := hZ4.set4 (.int .i64 au) (.int .i64 ro) (.slice qa m.length qc) (.slice oa ps.length oc)
      have hBF := below_set4 hB4 (show w.heap.size ≤ w.heap.size + 1 by omega) (.int .i64 au) (.int .i64 ro) (.slice qa m.length qc) (.slice oa ps.length oc)
      have hqtF := hqt4.kept kF (fun b hb e => by have := hqf b hb; have e' : b = w.heap.size + 1 := e; omega)
      have hOF := hO4.kept kF (fun b hb e => by have := hof3 b hb; have e' : b = w.heap.size + 1 := e; omega)
      have fin : ∀ e : Ending, e = .returned (HdrM.v ⟨au, ro, qa, m, qc, oa, ps, oc⟩) → GotOwnH w ⟨au, ro, ra, rs, rc, pa, ps, pc⟩ e _ :=
        fun e hv => ⟨⟨au, ro, qa, m, qc, oa, ps, oc⟩, hv, by show HdrD.mk _ _ _ _ = HdrD.mk _ _ _ _; rw [HD.out], ⟨hqtF, hqn, hOF, hOn⟩, fun b hb => hb.elim (fun h => by have := hqf b h; omega) (fun h => by have := hof3 b h; omega), hBF⟩
      unfold set4 at hZF fin
      clear hX3 hZ3 hX4 hZ4 hB4 hqt4 hO4 kF hBF hqtF hOF hB3 hqt3 hO3 HD
      go_wp2
      refine bodyPost_ret (v := HdrM.v ⟨au, ro, qa, m, qc, oa, ps, oc⟩) (results_hdrO rfl _ _ (w.heap.size + 1) ⟨au, ro, qa, m, qc, oa, ps, oc⟩ rfl hZF) rfl ?_
      exact fin _ rfl
end Go.Proofs.YtmjkbdgcnoenbaaGreatDoor

/- What tusklaw06.Own does, and that its rows are its own; nothing old in memory is turned. -/
namespace Go.Proofs.YtmjkbdgcnoenbaaGreatDoor
open Go.RowKit
set_option linter.unusedVariables false

/-- append(q, xs...), q an empty row of the call's own: a row of the same elements that is the call's own. -/
theorem wpList_copyQ {α : Type} {K : Kind α} {P : Program} {w : World} {ops : Array Oper} {rest : List Oper} {o : Oper} {a : Act} {Q : Exit → Act → World → Prop} (hgd : o.guard = none) (s x : Operand) (t : TypeId)
    (ho : o.op = .call { callee := .builtin .append, args := #[s, x], argTypes := #[t, t] })
    (base : Nat) (e : TypeId) (i : TypeInfo) (z : Value) (bytes : Nat) (ht : P.underlying t = some (.slice e)) (hi : P.info? e = some i) (hz : i.zero = some z)
    (hsize : i.size = K.n) (hby : i.bytes = bytes) (hzs : z.cells.size = K.n)
    (v : Value) (hs : a.eval s = v) (hown : w.ownsRow base e K.n v 0 []) (ao : Option Addr) (cap : Nat) (l : List α) (hx : a.eval x = .slice ao l.length cap)
    (hS : RowAt K w ao l) (hf : ∀ x ∈ l, ∀ b, K.foot x b → b < base) (hnil : ao = none → cap = 0) (hm : l.length ≤ maxLen) (hlen : l.length * bytes ≤ 140737488355328) (hbase : base ≤ w.heap.size)
    (h : ∀ ao' cap' w', KQ K e w' base (.slice ao' l.length cap') l → Below base w w' → wpList P ops Q rest (a.put o.dst (.slice ao' l.length cap')) w') : wpList P ops Q (o :: rest) a w := by
  have mk : ∀ {w' : World} {v' : Value}, w'.ownsRow base e K.n v' l.length (flatK K l) → Below base w w' → KQ K e w' base v' l := by
    intro w' v' ho' hb
    refine ⟨QRow.of_own ho', fun x hx => K.keep (hS.at_ x hx) (fun b hb' => hb.block b (hf x hx b hb')), fun x hx b hb' he => ?_, fun k hk => ho'.lt k hk, fun n c he => ?_⟩
    · have := (ho'.lt b he).1
      have := hf x hx b hb'
      omega
    · rcases ho'.2 with ⟨hv, _⟩ | ⟨g, c', cur, hv, _⟩
      · rw [hv] at he; simp at he; exact he.2.symm
      · rw [hv] at he; simp at he
  cases ao with
  | none =>
    have hc0 := hnil rfl
    subst hc0
    have hss : l = [] := by
      cases l with
      | nil => rfl
      | cons y r => obtain ⟨_, _, e, _⟩ := hS.cell 0 y rfl; cases e
    subst hss
    refine wpList_append_own_none hgd s x t ho base e i K.n ht hi v 0 [] hs hown hx ?_
    have hk := mk hown (Below.refl _ _)
    obtain ⟨ao', cap', rfl, _, _⟩ := hk.form
    exact h ao' cap' w hk (Below.refl _ _)
  | some ad =>
    refine wpList_append_own w hgd s x t ho base e i z K.n bytes ht hi hz hsize hby hzs K.pos v 0 [] hs hown ad l.length cap (flatK K l) hx (flatK_length K l) hS.news (flatK_one K l) (by omega) (by rw [Nat.zero_add]; exact hlen) hbase ?_
    intro v' w' hown' hgrow _
    have hb := (Below.refl base w).grown hgrow hbase (fun q hq => (hown.lt q hq).1)
    rw [Nat.zero_add, List.nil_append] at hown'
    have hk := mk hown' hb
    obtain ⟨ao', cap', rfl, _, _⟩ := hk.form
    exact h ao' cap' w' hk hb

section
variable {α : Type} {K : Kind α}

/-- The same, as an equation of the run. -/
theorem run_copyC {P : Program} (w : World) (t ty : TypeId) (base : Nat) (e : TypeId) (i : TypeInfo) (z : Value) (bytes : Nat) (ht : P.underlying t = some (.slice e)) (hi : P.info? e = some i) (hz : i.zero = some z)
    (hsize : i.size = K.n) (hby : i.bytes = bytes) (hzs : z.cells.size = K.n)
    (v : Value) (hown : w.ownsRow base e K.n v 0 []) (ao : Option Addr) (cap : Nat) (l : List α)
    (hS : RowAt K w ao l) (hf : ∀ x ∈ l, ∀ b, K.foot x b → b < base) (hnil : ao = none → cap = 0) (hm : l.length ≤ maxLen) (hlen : l.length * bytes ≤ 140737488355328) (hbase : base ≤ w.heap.size) :
    ∃ ao' cap' w', (Builtin.append_ #[t, t] ty #[v, .slice ao l.length cap]).run P w = .ok (.slice ao' l.length cap') w' ∧ RowAt K w' ao' l ∧ (ao' = none → cap' = 0) ∧ (l ≠ [] → ∀ b off, ao' = some ⟨b, off, none⟩ → base ≤ b) ∧ Below base w w' ∧ l.length ≤ cap' := by
  cases ao with
  | none =>
    have hc0 := hnil rfl
    subst hc0
    have hss : l = [] := by
      cases l with
      | nil => rfl
      | cons y r => obtain ⟨_, _, e, _⟩ := hS.cell 0 y rfl; cases e
    subst hss
    have hrun := run_append_owned_none (P := P) (w := w) base t ty e i K.n ht hi v 0 [] hown
    rcases hown.2 with ⟨hv, _⟩ | ⟨g, c, cur, hv, _⟩
    · rw [hv] at hrun ⊢
      exact ⟨none, 0, w, hrun, nil_row _ _, fun _ => rfl, fun hne => absurd rfl hne, Below.refl _ _, Nat.le_refl _⟩
    · rw [hv] at hrun ⊢
      exact ⟨_, c, w, hrun, nil_row _ _, (fun e => by cases e), fun hne => absurd rfl hne, Below.refl _ _, Nat.zero_le _⟩
  | some ad =>
    obtain ⟨v', w', hrun, hown', hgrow, _⟩ := run_append_own (P := P) w base t ty e i z K.n bytes ht hi hz hsize hby hzs K.pos v 0 [] hown ad l.length cap (flatK K l) (flatK_length K l) hS.news (flatK_one K l) (by omega) (by rw [Nat.zero_add]; exact hlen) hbase
    have hb := (Below.refl base w).grown hgrow hbase (fun q hq => (hown.lt q hq).1)
    rw [Nat.zero_add, List.nil_append] at hown'
    have hA : ∀ x ∈ l, K.At w' x := fun x hx => K.keep (hS.at_ x hx) (fun b hb' => hb.block b (hf x hx b hb'))
    have hq := QRow.of_own hown'
    obtain ⟨ao', cap', rfl, hlc, _⟩ := hq.form
    refine ⟨ao', cap', w', hrun, hq.rowAt rfl hA, ?_, ?_, hb, hlc⟩
    · intro he
      rcases hown'.2 with ⟨hv, _⟩ | ⟨g, c, cur, hv, _⟩
      · simp at hv; exact hv.2.2
      · simp at hv; rw [hv.1] at he; cases he
    · intro hne b off he
      exact (hown'.lt b (by rw [he]; rfl)).1

/-- The same, at a step of a region that draws its order. -/
theorem step_copyC {P : Program} (w : World) {ops : Array Oper} {o : Oper} {a : Act} {C : Act → World → Prop} {Q : Exit → Act → World → Prop} {E : Prop} (hgd : o.guard = none) (s x : Operand) (t : TypeId)
    (ho : o.op = .call { callee := .builtin .append, args := #[s, x], argTypes := #[t, t] })
    (base : Nat) (e : TypeId) (i : TypeInfo) (z : Value) (bytes : Nat) (ht : P.underlying t = some (.slice e)) (hi : P.info? e = some i) (hz : i.zero = some z)
    (hsize : i.size = K.n) (hby : i.bytes = bytes) (hzs : z.cells.size = K.n)
    (v : Value) (hs : a.eval s = v) (hown : w.ownsRow base e K.n v 0 []) (ao : Option Addr) (cap : Nat) (l : List α) (hx : a.eval x = .slice ao l.length cap)
    (hS : RowAt K w ao l) (hf : ∀ x ∈ l, ∀ b, K.foot x b → b < base) (hnil : ao = none → cap = 0) (hm : l.length ≤ maxLen) (hlen : l.length * bytes ≤ 140737488355328) (hbase : base ≤ w.heap.size)
    (h : ∀ ao' cap' w', RowAt K w' ao' l → (ao' = none → cap' = 0) → (l ≠ [] → ∀ b off, ao' = some ⟨b, off, none⟩ → base ≤ b) → Below base w w' → l.length ≤ cap' → C (a.put o.dst (.slice ao' l.length cap')) w') : if Region.wanted o (yielded ops a.tmps) = true then Oper.wp P o a w C Q else E := by
  rw [if_pos (by simp [Region.wanted, hgd])]
  obtain ⟨ao', cap', w', hrun, r1, r2, r3, r4, r5⟩ := run_copyC (K := K) (P := P) w t o.type base e i z bytes ht hi hz hsize hby hzs v hown ao cap l hS hf hnil hm hlen hbase
  unfold Oper.wp
  simp [execOp, ho, resolve, invoke, builtin, hs, hx, hrun, Result.andThen]
  exact h ao' cap' w' r1 r2 r3 r4 r5
end

/-- A header that shares nothing is handed back: its rows are its own, and apart. -/
def GotOwnS (W : World) (x : HdrM) (e : Ending) (w : World) : Prop :=
  ∃ (y : HdrM) (M : Nat), e = .returned y.v ∧ y.d = x.d ∧ KQ refK 94 w (W.heap.size + 1 + 1) (.slice y.ra y.refs.length y.rc) y.refs ∧ (∀ b, rowFoot refK y.ra y.refs b → W.heap.size + 1 + 1 ≤ b ∧ b < M) ∧ (∀ b, (Value.slice y.ra y.refs.length y.rc).ownBlock = some b → b < M) ∧ KQ strK 9 w M (.slice y.pa y.parents.length y.pc) y.parents ∧ W.heap.size + 1 + 1 ≤ M ∧ (∀ r ∈ y.refs, r.acks.length ≤ r.cap) ∧ Below W.heap.size W w
end Go.Proofs.YtmjkbdgcnoenbaaGreatDoor

/- The sizes of the bytes of headers that acts make. -/
namespace Go.Proofs.YtmjkbdgcnoenbaaGreatDoor
open Go Go.RowKit
set_option linter.unusedVariables false

theorem goInt_len9 (n : Int) : (goInt n).length ≤ 9 := by
  have := txt_len_le []
  exact goInt_length n

theorem txts_len (m : Nat) : ∀ (l : List ByteArray), (∀ p ∈ l, p.size ≤ m) → ((bl l).flatMap txt).length ≤ (m + 9) * l.length
  | [], _ => by simp [bl]
  | p :: l, h => by
    have ih := txts_len m l (fun q hq => h q (List.mem_cons_of_mem _ hq))
    have hp := h p List.mem_cons_self
    have := txt_len_le p.data.toList
    simp only [bl, List.map_cons, List.flatMap_cons, List.length_append, List.length_cons] at ih ⊢
    have e : p.data.toList.length = p.size := rfl
    rw [Nat.mul_add, Nat.mul_one]
    omega

theorem strs_len (m : Nat) (l : List ByteArray) (h : ∀ p ∈ l, p.size ≤ m) : (lst (bl l)).length ≤ 9 + (m + 9) * l.length := by
  unfold lst
  have := txts_len m l h
  have := goInt_len9 ((bl l).length : Int)
  rw [List.length_append]
  omega

theorem encH_bare (a r : Int) (ps : List ByteArray) (h : ∀ p ∈ ps, p.size ≤ 1000) (hl : ps.length ≤ 1000) : (encH ⟨a, r, [], ps⟩).length ≤ 2000000 := by
  have h1 := strs_len 1000 ps h
  have h2 := goInt_len9 a
  have h3 := goInt_len9 r
  have h4 := goInt_len9 (([] : List RefD).length : Int)
  have h5 : (1000 + 9) * ps.length ≤ 1009 * 1000 := Nat.mul_le_mul_left _ hl
  unfold encH
  simp only [List.length_append, List.flatMap_nil, List.length_nil] at h4 ⊢
  omega

theorem bare_fit (a r : Int) (pa : Option Addr) (pc : Nat) (ps : List ByteArray) (h : ∀ p ∈ ps, p.size ≤ 1000) (hl : ps.length ≤ 1000) : HdrM.Fit ⟨a, r, none, [], 0, pa, ps, pc⟩ := by
  have := encH_bare a r ps h hl
  refine ⟨by simp, by show ps.length ≤ _; omega, (fun x hx => by cases hx), (fun x hx => by cases hx), ?_⟩
  show (encH ⟨a, r, rd [], ps⟩).length ≤ _
  have e : rd [] = [] := rfl
  rw [e]
  omega

theorem parP_mem {need r : Nat} {ids : List (List ByteArray)} {odd : Int} {p : ByteArray} (h : p ∈ parP need ids r odd) : ∃ l ∈ ids, p ∈ l := by
  have hg : p ∈ ids.getD (r - 1) [] := by
    unfold parP at h
    split at h
    · cases h
    · split at h
      · exact List.mem_of_mem_drop h
      · exact h
  rw [List.getD_eq_getElem?_getD] at hg
  cases hx : ids[r - 1]? with
  | none => rw [hx] at hg; cases hg
  | some l => rw [hx] at hg; exact ⟨l, List.mem_of_getElem? hx, hg⟩

theorem parP_len {need r : Nat} {ids : List (List ByteArray)} {odd : Int} {m : Nat} (h : ∀ l ∈ ids, l.length ≤ m) : (parP need ids r odd).length ≤ m := by
  have hg : (ids.getD (r - 1) []).length ≤ m := by
    rw [List.getD_eq_getElem?_getD]
    cases hx : ids[r - 1]? with
    | none => simp
    | some l => exact h l (List.mem_of_getElem? hx)
  unfold parP
  split
  · simp
  · split
    · rw [List.length_drop]; omega
    · exact hg

/-- A row of one new element. -/
theorem rowOne {α : Type} {K : Kind α} {w : World} {b : Nat} {x : α} (hb : b < w.heap.size) (hc : ∀ j u, (K.c x)[j]? = some u → w.cell? ⟨b, j, none⟩ = some u) (hA : K.At w x) : RowAt K w (some ⟨b, 0, none⟩) [x] := by
  refine ⟨fun i y hy => ?_, fun y hy => by rw [List.mem_singleton.1 hy]; exact hA⟩
  have hi := (List.getElem?_eq_some_iff.1 hy).1
  have h0 : i = 0 := by simp at hi; omega
  subst h0
  simp at hy
  subst hy
  exact ⟨b, 0, rfl, hb, fun j v hv => by rw [Nat.zero_mul, Nat.zero_add]; exact hc j v hv⟩
end Go.Proofs.YtmjkbdgcnoenbaaGreatDoor

/- What tuskref01.Int does: the same bytes of a number; nothing old in memory is turned. -/
namespace Go.Proofs.YtmjkbdgcnoenbaaGreatDoor
open Go.RowKit

theorem bcell {W w1 : World} (hb : Below W.heap.size W w1) : ∀ b o, b < W.heap.size → w1.cell? ⟨b, o, none⟩ = W.cell? ⟨b, o, none⟩ :=
  fun b o h => hb.cell (p := ⟨b, o, none⟩) h

theorem conv_byte {w : World} {b : Nat} {x : Nat} (hx : x < 256) (h : w.cell? ⟨b, 0, none⟩ = some (.int .u8 (x : Int))) :
    (convert 181 9 (.slice (some ⟨b, 0, none⟩) 1 1)).run Tryz.prog w = .ok (.string ⟨#[UInt8.ofNat x]⟩) w := by
  have := run_convert_bytes_back w 181 9 5 ⟨b, 0, none⟩ 1 [UInt8.ofNat x] Tryz.underlying181 Tryz.underlying5 Tryz.underlying9 (fun j hj => by
    have : j = 0 := by simp at hj; omega
    subst this
    have e : (UInt8.ofNat x).toNat = x := by simp; omega
    simp only [List.getElem_cons_zero, e]
    simpa [Addr.add] using h)
  exact this

set_option maxRecDepth 100000 in
set_option maxHeartbeats 1000000 in
theorem refInt_no (n : Int) (w : World) (h : n < 0 ∨ 4611686018427387903 < n) :
    Calls Tryz.prog 92 #[.int .i64 n] w fun e w' => e = .returned (.string ⟨#[]⟩) ∧ w' = w := by
  rcases h with h | h
  · go_enter Tryz.func92, Tryz.ntmps92
    go_wp2
    go_ret
    exact ⟨rfl, rfl⟩
  · have h0 : ¬ n < 0 := by omega
    go_enter Tryz.func92, Tryz.ntmps92
    go_wp2
    go_ret
    exact ⟨rfl, rfl⟩

set_option maxRecDepth 100000 in
set_option maxHeartbeats 1000000 in
theorem refInt_small (n : Nat) (w : World) (h : n < 128) :
    Calls Tryz.prog 92 #[.int .i64 n] w fun e w' => e = .returned (.string ⟨(enc n).toArray⟩) ∧ Below w.heap.size w w' := by
  have h0 : ¬ (n : Int) < 0 := by omega
  have h1 : ¬ (4611686018427387903 : Int) < n := by omega
  have h2 : (n : Int) < 128 := by omega
  have hcv : ∀ (w : World) (b : Nat), w.cell? ⟨b, 0, none⟩ = some (.int .u8 (n : Int)) → (convert 181 9 (.slice (some ⟨b, 0, none⟩) 1 1)).run Tryz.prog w = .ok (.string ⟨#[UInt8.ofNat n]⟩) w := fun w b hc => conv_byte (by omega) hc
  have HE : Hid (enc n = [UInt8.ofNat n]) := enc_small n h
  go_enter Tryz.func92, Tryz.ntmps92
  go_wp2
  go_ret
  exact ⟨by rw [HE.out]; rfl, (Below.refl _ _).alloc (Nat.le_refl _) _⟩

set_option maxRecDepth 100000 in
set_option maxHeartbeats 1000000 in
theorem refInt_big (n : Nat) (w : World) (h : 128 ≤ n) (hn : n ≤ 4611686018427387903)
    (ih : ∀ w, Calls Tryz.prog 92 #[.int .i64 ((n / 128 : Nat) : Int)] w fun e w' => e = .returned (.string ⟨(enc (n / 128)).toArray⟩) ∧ Below w.heap.size w w') :
    Calls Tryz.prog 92 #[.int .i64 n] w fun e w' => e = .returned (.string ⟨(enc n).toArray⟩) ∧ Below w.heap.size w w' := by
  have h0 : ¬ (n : Int) < 0 := by omega
  have h1 : ¬ (4611686018427387903 : Int) < n := by omega
  have h2 : ¬ (n : Int) < 128 := by omega
  obtain ⟨r, hr⟩ : ∃ r, r = n % 128 := ⟨_, rfl⟩
  obtain ⟨c, hc⟩ : ∃ c, c = 128 + r := ⟨_, rfl⟩
  obtain ⟨m, hm⟩ : ∃ m, m = n / 128 := ⟨_, rfl⟩
  have e1 : (n : Int).tmod 128 = (r : Int) := by rw [Int.tmod_eq_emod_of_nonneg (by omega)]; omega
  have e2 : IntKind.i64.wrap (128 + (r : Int)) = (c : Int) := by simp [IntKind.wrap, IntKind.bits, IntKind.signed]; omega
  have e3 : IntKind.u8.wrap (c : Int) = (c : Int) := by rw [IntKind.wrap_u8']; omega
  have e4 : IntKind.i64.wrap ((n : Int) / 128) = (m : Int) := by simp [IntKind.wrap, IntKind.bits, IntKind.signed]; omega
  have hcv : ∀ (w : World) (b : Nat), w.cell? ⟨b, 0, none⟩ = some (.int .u8 (c : Int)) → (convert 181 9 (.slice (some ⟨b, 0, none⟩) 1 1)).run Tryz.prog w = .ok (.string ⟨#[UInt8.ofNat c]⟩) w := fun w b hc => conv_byte (by omega) hc
  have HE : Hid (enc n = UInt8.ofNat c :: enc m) := by
    show _ = _
    rw [hc, hr, hm]; exact enc_big n h
  have IH : Hid (∀ w, Calls Tryz.prog 92 #[.int .i64 (m : Int)] w fun e w' => e = .returned (.string ⟨(enc m).toArray⟩) ∧ Below w.heap.size w w') := by
    rw [hm]; exact ih
  have hl := enc_length_nine m (by omega)
  clear ih hr hc hm
  generalize enc m = tl at *
  have e5 : (⟨#[UInt8.ofNat c]⟩ ++ ⟨tl.toArray⟩ : ByteArray) = ⟨(enc n).toArray⟩ := by
    rw [HE.out]; exact ByteArray.mk_append_mk [UInt8.ofNat c] tl
  go_enter Tryz.func92, Tryz.ntmps92
  go_wp2_with fail
  go_region_with (go_at_call 92; refine (IH.out _).mono ?_; rintro e w' ⟨rfl, hb⟩; have hcl := bcell hb)
  · have hbw : Below w.heap.size w w' := (((Below.refl _ w).alloc (Nat.le_refl _) _).drew).trans (hb.mono (by simp))
    clear hb hcl
    go_wp2
    go_ret
    exact ⟨rfl, hbw⟩
  · have hbw : Below w.heap.size w w' := (((Below.refl _ w).alloc (Nat.le_refl _) _).drew).trans (hb.mono (by simp))
    clear hb hcl
    go_wp2
    go_ret
    exact ⟨rfl, hbw⟩
  · have hbw : Below w.heap.size w w' := ((Below.refl _ w).drew).trans hb
    clear hb hcl
    go_wp2
    go_ret
    exact ⟨rfl, hbw.alloc hbw.size _⟩

theorem refInt_yes : ∀ (n : Nat) (w : World), n ≤ 4611686018427387903 →
    Calls Tryz.prog 92 #[.int .i64 n] w fun e w' => e = .returned (.string ⟨(enc n).toArray⟩) ∧ Below w.heap.size w w' := by
  intro n
  induction n using Nat.strongRecOn with
  | _ n ih =>
    intro w hn
    by_cases h : n < 128
    · exact refInt_small n w h
    · exact refInt_big n w (by omega) hn (fun w => ih (n / 128) (by omega) w (by omega))

theorem refInt_any (n : Int) (w : World) :
    Calls Tryz.prog 92 #[.int .i64 n] w fun e w' => e = .returned (.string ⟨(goInt n).toArray⟩) ∧ Below w.heap.size w w' := by
  by_cases h : 0 ≤ n ∧ n ≤ 4611686018427387903
  · obtain ⟨m, rfl⟩ := Int.eq_ofNat_of_zero_le h.1
    have e : goInt (m : Int) = enc m := by rw [goInt, if_pos h]; simp
    rw [e]
    exact refInt_yes m w (by omega)
  · have e : goInt n = [] := by rw [goInt, if_neg h]
    rw [e]
    refine (refInt_no n w (by omega)).mono ?_
    rintro e w' ⟨rfl, rfl⟩
    exact ⟨rfl, Below.refl _ _⟩
end Go.Proofs.YtmjkbdgcnoenbaaGreatDoor

/- What tuskref01.GetInt does: it answers as the number at the front of bytes is defined; memory stands. -/
namespace Go.Proofs.YtmjkbdgcnoenbaaGreatDoor
open Go.RowKit

def val : List UInt8 → Nat
  | [] => 0
  | c :: r => c.toNat % 128 + 128 * val r
end Go.Proofs.YtmjkbdgcnoenbaaGreatDoor

/- tusklaw01.WireInts answers true at every number and every string; nothing old in memory is turned. -/
namespace Go.Proofs.YtmjkbdgcnoenbaaGreatDoor
open Go.RowKit
end Go.Proofs.YtmjkbdgcnoenbaaGreatDoor
