/- Texts as one: DagRoundsWalk, CertsMath, HdrOpenH, Upto, HdrBulk, OpOpen, OpsOpen, CertsSt. -/
import Derived.Test.YtmjkbdgcnoenbaaGreatDoorDz23
import Derived.Test.YtmjkbdgcnoenbaaGreatDoorDz08
import Derived.Lib.QuietBelow
import Derived.BigQuiet
import Derived.Test.YtmjkbdgcnoenbaaGreatDoorDz09
import Derived.Test.YtmjkbdgcnoenbaaGreatDoorDz06
import Derived.Test.YtmjkbdgcnoenbaaGreatDoorDz10
import Derived.Test.YtmjkbdgcnoenbaaGreatDoorDz05
import Derived.JoinedCond
import Derived.Test.YtmjkbdgcnoenbaaGreatDoorDz18
/- tusklaw14.DagRounds answers true; nothing old in memory is turned. -/
namespace Go.Proofs.YtmjkbdgcnoenbaaGreatDoor
open Go Go.RowKit Go.Sort
set_option linter.unusedVariables false

/-- An act without its wild header. -/
def OpM.tame (o : OpM) : OpM := ⟨o.kind, o.author, o.back, o.odd, o.va, o.votes, o.vc, o.round, ⟨0, 0, none, [], 0, none, [], 0⟩⟩

theorem tame_in {V : World} {o : OpM} (h : RowAt boolK V o.va o.votes) (hl : o.votes.length ≤ maxLen) : OpIn V o.tame :=
  ⟨⟨nil_row _ _, fun _ => rfl, nil_row _ _, fun _ => rfl⟩, h, hl, bare_fit 0 0 none 0 [] (fun p hp => by cases hp) (by decide), by show (encH ⟨0, 0, [], []⟩).length ≤ _; decide +kernel, ⟨by show 0 * 40 ≤ _; decide, by show 0 * 16 ≤ _; decide, fun r hr => by cases hr⟩⟩

/-- All rounds are small. -/
def SmallR (d : DagD) (m : Int) : Prop := ∀ x ∈ d.L, x.c.header.round ≤ m

theorem SmallR.round {d : DagD} {m : Int} (h : SmallR d m) (hm : 0 ≤ m) (need : Nat) : roundC need d.L ≤ m := by
  rcases roundC_is need d.L with e | ⟨x, hx, e, _⟩
  · omega
  · rw [← e]; exact h x hx

theorem SmallR.add {d : DagD} {m : Int} (h : SmallR d m) (chk n : Nat) (c : CertD) (id : ByteArray) (hc : c.header.round ≤ m) : SmallR (addD chk n d c id) m := by
  unfold addD
  split
  · intro x hx
    rcases insC_mem.1 hx with rfl | hx
    · exact hc
    · exact h x hx
  · exact h

theorem SmallR.next {d : DagD} {m : Int} (h : SmallR d m) (need : Nat) : SmallR (nextD need d) m := by
  intro x hx
  rw [nextD_L] at hx
  exact h x hx
end Go.Proofs.YtmjkbdgcnoenbaaGreatDoor

/- What DagCerts is about: votes of validators, each for at most one header of an author; so no two headers of one author have enough. -/
namespace Go.Proofs.YtmjkbdgcnoenbaaGreatDoor
open Go Go.RowKit
set_option linter.unusedVariables false

theorem id0_nod {n : Nat} (hn1 : 1 ≤ n) (hn2 : n ≤ 2) : (ids0 n).Nodup := by
  rcases (by omega : n = 1 ∨ n = 2) with rfl | rfl
  · exact (List.pairwise_map.1 ids0_1).imp (fun hab e => hab (by rw [e]))
  · exact ids0_2

theorem id0_inj {n : Nat} (hn1 : 1 ≤ n) (hn2 : n ≤ 2) {a a' : Nat} {b b' : Bool} (ha : a < 3 * n + 1) (ha' : a' < 3 * n + 1) (h : id0 n a b = id0 n a' b') : a = a' ∧ b = b' := by
  have hN := id0_nod hn1 hn2
  rw [ids0_id0] at hN
  obtain ⟨h1, h2⟩ := List.pairwise_flatMap.1 hN
  have hm : ∀ a b, id0 n a b ∈ [id0 n a false, id0 n a true] := fun a b => by cases b <;> simp
  have hp := List.pairwise_iff_getElem.1 h2
  have hl : (List.range (3 * n + 1)).length = 3 * n + 1 := List.length_range
  rcases Nat.lt_trichotomy a a' with e | e | e
  · exact (hp a a' (by rw [hl]; exact ha) (by rw [hl]; exact ha') e (id0 n a b) (by rw [List.getElem_range]; exact hm a b) (id0 n a' b') (by rw [List.getElem_range]; exact hm a' b') h).elim
  · subst e
    refine ⟨rfl, ?_⟩
    have h3 := h1 a (List.mem_range.2 ha)
    have h4 : id0 n a false ≠ id0 n a true := by
      have := List.pairwise_cons.1 h3
      exact this.1 _ (List.mem_singleton.2 rfl)
    cases b <;> cases b'
    · rfl
    · exact (h4 h).elim
    · exact (h4 h.symm).elim
    · rfl
  · exact (hp a' a (by rw [hl]; exact ha') (by rw [hl]; exact ha) e (id0 n a' b') (by rw [List.getElem_range]; exact hm a' b') (id0 n a b) (by rw [List.getElem_range]; exact hm a b) h.symm).elim

/-- Which header an act makes. -/
def keyA (n : Nat) (o : OpM) : Nat := pickN o.author (3 * n + 1)
def keyB (o : OpM) : Bool := decide (pickN o.odd 3 = 1)
def hd0 (n a : Nat) (b : Bool) : HdrD := hdrP (ksF n) (2 * n + 1) [] a 0 0 b

theorem hd0_id (n a : Nat) (b : Bool) : idB (hd0 n a b) = id0 n a b := rfl

theorem hd0_author (n a : Nat) (b : Bool) : (hd0 n a b).author = (a : Int) := by
  unfold hd0 hdrP hdrP0
  cases b <;> rfl

theorem hd0_round (n a : Nat) (b : Bool) : (hd0 n a b).round = 1 := by
  unfold hd0 hdrP hdrP0
  cases b <;> rfl

theorem hdrO_tame (n : Nat) (o : OpM) : hdrO (ksF n) n [] o.tame = hd0 n (keyA n o) (keyB o) := by
  unfold hdrO OpM.tame
  simp only [if_true]
  unfold hdrA hd0 keyA keyB hdrP hdrP0 parP
  simp

theorem keyA_lt (n : Nat) (hn : n ≤ 2) (o : OpM) : keyA n o < 3 * n + 1 := (pickN_spec o.author (3 * n + 1) (by omega) (by omega)).1

/-- How many have voted for each header (c), and which this one has voted for (s): I are through. -/
structure Cnt (n I : Nat) (c : Nat → Bool → Nat) (s : Nat → Bool → Bool) : Prop where
  le : ∀ a, c a false + c a true ≤ I + if s a false = true ∨ s a true = true then 1 else 0
  one : ∀ a, ¬ (s a false = true ∧ s a true = true)

def none2 : Nat → Bool → Bool := fun _ _ => false

theorem Cnt.zero (n : Nat) : Cnt n 0 (fun _ _ => 0) none2 := ⟨fun a => by simp, fun a h => by cases h.1⟩

theorem Cnt.next {n I : Nat} {c : Nat → Bool → Nat} {s : Nat → Bool → Bool} (h : Cnt n I c s) : Cnt n (I + 1) c none2 :=
  ⟨fun a => by
    have := h.le a
    rw [if_neg (by rintro (e | e) <;> cases e)]
    split at this <;> omega, fun a h => by cases h.1⟩

def addC (c : Nat → Bool → Nat) (a : Nat) (b : Bool) : Nat → Bool → Nat := fun a' b' => if a' = a ∧ b' = b then c a b + 1 else c a' b'
def addS (s : Nat → Bool → Bool) (a : Nat) (b : Bool) : Nat → Bool → Bool := fun a' b' => if a' = a ∧ b' = b then true else s a' b'

theorem Cnt.vote {n I : Nat} {c : Nat → Bool → Nat} {s : Nat → Bool → Bool} (h : Cnt n I c s) {a : Nat} {b : Bool} (h1 : s a b = false) (h2 : s a (!b) = false) : Cnt n I (addC c a b) (addS s a b) := by
  have hle := h.le a
  constructor
  · intro a'
    by_cases e : a' = a
    · subst e
      cases b
      · have e1 : addC c a' false a' false = c a' false + 1 := by unfold addC; rw [if_pos ⟨rfl, rfl⟩]
        have e2 : addC c a' false a' true = c a' true := by unfold addC; rw [if_neg (fun e => by cases e.2)]
        have e3 : addS s a' false a' false = true := by unfold addS; rw [if_pos ⟨rfl, rfl⟩]
        rw [e1, e2, if_pos (Or.inl e3)]
        rw [if_neg (by rintro (e | e); rw [h1] at e; cases e; rw [show s a' true = false from h2] at e; cases e)] at hle
        omega
      · have e1 : addC c a' true a' true = c a' true + 1 := by unfold addC; rw [if_pos ⟨rfl, rfl⟩]
        have e2 : addC c a' true a' false = c a' false := by unfold addC; rw [if_neg (fun e => by cases e.2)]
        have e3 : addS s a' true a' true = true := by unfold addS; rw [if_pos ⟨rfl, rfl⟩]
        rw [e1, e2, if_pos (Or.inr e3)]
        rw [if_neg (by rintro (e | e); rw [show s a' false = false from h2] at e; cases e; rw [h1] at e; cases e)] at hle
        omega
    · have e1 : ∀ b', addC c a b a' b' = c a' b' := fun b' => by unfold addC; rw [if_neg (fun h => e h.1)]
      have e2 : ∀ b', addS s a b a' b' = s a' b' := fun b' => by unfold addS; rw [if_neg (fun h => e h.1)]
      rw [e1, e1, e2, e2]
      exact h.le a'
  · intro a' hh
    by_cases e : a' = a
    · subst e
      cases b
      · have e2 : addS s a' false a' true = s a' true := by unfold addS; rw [if_neg (fun e => by cases e.2)]
        rw [e2, show s a' true = false from h2] at hh
        cases hh.2
      · have e2 : addS s a' true a' false = s a' false := by unfold addS; rw [if_neg (fun e => by cases e.2)]
        rw [e2, show s a' false = false from h2] at hh
        cases hh.1
    · have e2 : ∀ b', addS s a b a' b' = s a' b' := fun b' => by unfold addS; rw [if_neg (fun h => e h.1)]
      rw [e2, e2] at hh
      exact h.one a' hh

/-- Two different headers of one author do not both have enough. -/
theorem Cnt.once {n I : Nat} {c : Nat → Bool → Nat} (h : Cnt n I c none2) (hI : I ≤ 3 * n + 1) {a : Nat} {b b' : Bool} (h1 : 2 * n + 1 ≤ c a b) (h2 : 2 * n + 1 ≤ c a b') : b = b' := by
  have := h.le a
  rw [if_neg (by rintro (e | e) <;> cases e)] at this
  cases b <;> cases b'
  · rfl
  · omega
  · omega
  · rfl

theorem Cnt.small {n I : Nat} {c : Nat → Bool → Nat} {s : Nat → Bool → Bool} (h : Cnt n I c s) (a : Nat) (b : Bool) : c a b ≤ I + 1 := by
  have := h.le a
  have h2 : (if s a false = true ∨ s a true = true then 1 else 0) ≤ 1 := by split <;> omega
  cases b <;> omega

/-- What the maps say. -/
structure Maps4 (n : Nat) (c : Nat → Bool → Nat) (F1 F2 : ByteArray → Option Value) : Prop where
  votes : ∀ a b, a < 3 * n + 1 → F1 (id0 n a b) = if c a b = 0 then none else some (.int .i64 (c a b : Int))
  at_ : ∀ a b, a < 3 * n + 1 → 0 < c a b → F2 (id0 n a b) = some (.agg #[.int .i64 (a : Int), .int .i64 1])

theorem Maps4.zero (n : Nat) : Maps4 n (fun _ _ => 0) (fun _ => none) (fun _ => none) := ⟨fun _ _ _ => rfl, fun _ _ _ h => absurd h (Nat.lt_irrefl _)⟩

theorem Maps4.vote {n : Nat} {c : Nat → Bool → Nat} {F1 F2 : ByteArray → Option Value} (h : Maps4 n c F1 F2) (hn1 : 1 ≤ n) (hn2 : n ≤ 2) {a : Nat} {b : Bool} (ha : a < 3 * n + 1) :
    Maps4 n (addC c a b) (putF F1 (id0 n a b) (.int .i64 ((c a b : Int) + 1))) (putF F2 (id0 n a b) (.agg #[.int .i64 (a : Int), .int .i64 1])) := by
  constructor
  · intro a' b' ha'
    unfold putF
    by_cases e : id0 n a' b' = id0 n a b
    · obtain ⟨e1, e2⟩ := id0_inj hn1 hn2 ha' ha e
      subst e1
      subst e2
      have e3 : addC c a' b' a' b' = c a' b' + 1 := by unfold addC; rw [if_pos (show a' = a' ∧ b' = b' from ⟨rfl, rfl⟩)]
      rw [if_pos rfl, e3, if_neg (by omega)]
      rfl
    · have hne : ¬ (a' = a ∧ b' = b) := fun h => e (by rw [h.1, h.2])
      have e3 : addC c a b a' b' = c a' b' := by unfold addC; rw [if_neg hne]
      rw [if_neg e, e3]
      exact h.votes a' b' ha'
  · intro a' b' ha' hc
    unfold putF
    by_cases e : id0 n a' b' = id0 n a b
    · obtain ⟨e1, e2⟩ := id0_inj hn1 hn2 ha' ha e
      rw [if_pos e, e1]
    · rw [if_neg e]
      unfold addC at hc
      rw [if_neg (fun h => e (by rw [h.1, h.2]))] at hc
      exact h.at_ a' b' ha' hc

def SeenF (n : Nat) (s : Nat → Bool → Bool) (F : ByteArray → Option Value) : Prop := ∀ a b, a < 3 * n + 1 → F (id0 n a b) = if s a b = true then some (.bool true) else none

theorem SeenF.vote {n : Nat} {s : Nat → Bool → Bool} {F : ByteArray → Option Value} (h : SeenF n s F) (hn1 : 1 ≤ n) (hn2 : n ≤ 2) {a : Nat} {b : Bool} (ha : a < 3 * n + 1) : SeenF n (addS s a b) (putF F (id0 n a b) (.bool true)) := by
  intro a' b' ha'
  unfold putF
  by_cases e : id0 n a' b' = id0 n a b
  · obtain ⟨e1, e2⟩ := id0_inj hn1 hn2 ha' ha e
    subst e1
    subst e2
    have e3 : addS s a' b' a' b' = true := by unfold addS; rw [if_pos (show a' = a' ∧ b' = b' from ⟨rfl, rfl⟩)]
    rw [if_pos rfl, e3, if_pos rfl]
  · have hne : ¬ (a' = a ∧ b' = b) := fun h => e (by rw [h.1, h.2])
    have e3 : addS s a b a' b' = s a' b' := by unfold addS; rw [if_neg hne]
    rw [if_neg e, e3]
    exact h a' b' ha'

/-- What this one has voted for is in its dag. -/
def Voted (n : Nat) (s : Nat → Bool → Bool) (d : DagD) : Prop := ∀ a b, s a b = true → a < 3 * n + 1 ∧ (⟨(a : Int), 1, id0 n a b⟩ : VoteD) ∈ d.V

theorem voteD_mem {chk : Nat} {d : DagD} {x : HdrD} {id : ByteArray} {v : VoteD} (h : v ∈ d.V) : v ∈ (voteD chk d x id).V := by
  unfold voteD
  split
  · show v ∈ voteV d x id
    unfold voteV
    split
    · exact h
    · exact List.mem_append_left _ h
  · exact h

theorem Voted.kept {n : Nat} {s : Nat → Bool → Bool} {d : DagD} (h : Voted n s d) (chk : Nat) (x : HdrD) (id : ByteArray) : Voted n s (voteD chk d x id) := fun a b hs => ⟨(h a b hs).1, voteD_mem (h a b hs).2⟩

theorem Voted.other {n : Nat} {s : Nat → Bool → Bool} {d : DagD} (h : Voted n s d) (hn1 : 1 ≤ n) (hn2 : n ≤ 2) {chk : Nat} {a : Nat} {b : Bool} (ha : a < 3 * n + 1) (he : voteE chk d (hd0 n a b) (id0 n a b) = 0) : s a (!b) = false := by
  cases hs : s a (!b) with
  | false => rfl
  | true =>
    exfalso
    have h1 := (h a (!b) hs).2
    have h2 := (voteE_ok he).2.2.2
    have h3 := clashV_false.1 h2 _ h1 (by rw [hd0_author]) (by rw [hd0_round])
    have := (id0_inj hn1 hn2 ha ha h3).2
    cases b <;> cases this

theorem Voted.add {n : Nat} {s : Nat → Bool → Bool} {d : DagD} (h : Voted n s d) {chk : Nat} {a : Nat} {b : Bool} (ha : a < 3 * n + 1) (he : voteE chk d (hd0 n a b) (id0 n a b) = 0) : Voted n (addS s a b) (voteD chk d (hd0 n a b) (id0 n a b)) := by
  intro a' b' hs
  unfold addS at hs
  by_cases e : a' = a ∧ b' = b
  · obtain ⟨rfl, rfl⟩ := e
    refine ⟨ha, ?_⟩
    unfold voteD
    rw [if_pos he]
    show _ ∈ voteV d _ _
    unfold voteV
    split
    · rename_i hf
      obtain ⟨v, hv, hp⟩ := List.any_eq_true.1 hf
      obtain ⟨p1, p2⟩ := votP_true.1 hp
      have h3 := clashV_false.1 (voteE_ok he).2.2.2 v hv p1 p2
      rw [hd0_author] at p1
      rw [hd0_round] at p2
      obtain ⟨va, vr, vi⟩ := v
      have p1 : va = (a' : Int) := p1
      have p2 : vr = 1 := p2
      have h3 : vi = id0 n a' b' := h3
      rw [p1, p2, h3] at hv
      exact hv
    · refine List.mem_append_right _ (List.mem_singleton.2 ?_)
      rw [hd0_author, hd0_round]
  · rw [if_neg e] at hs
    exact h.kept chk _ _ a' b' hs

/-- What is done: for each author one header, that has enough. -/
def DoneG (n : Nat) (c : Nat → Bool → Nat) (G : Int → Int → Option ByteArray) : Prop := ∀ a r id, G a r = some id → ∃ (k : Nat) (b : Bool), a = (k : Int) ∧ k < 3 * n + 1 ∧ id = id0 n k b ∧ 2 * n + 1 ≤ c k b

theorem DoneG.same {n I : Nat} {c : Nat → Bool → Nat} {G : Int → Int → Option ByteArray} (h : DoneG n c G) (hC : Cnt n I c none2) (hI : I ≤ 3 * n + 1) {a : Nat} {b : Bool} (hb : 2 * n + 1 ≤ c a b) {was : ByteArray} (hw : G (a : Int) 1 = some was) : was = id0 n a b := by
  obtain ⟨k, b', e1, _, e3, e4⟩ := h _ _ _ hw
  have : a = k := by omega
  subst this
  rw [e3, hC.once hI hb e4]

theorem DoneG.put {n : Nat} {c : Nat → Bool → Nat} {G : Int → Int → Option ByteArray} (h : DoneG n c G) {a : Nat} {b : Bool} (ha : a < 3 * n + 1) (hb : 2 * n + 1 ≤ c a b) : DoneG n c (fun x r => if x = (a : Int) ∧ r = 1 then some (id0 n a b) else G x r) := by
  intro x r id hid
  simp only at hid
  by_cases e : x = (a : Int) ∧ r = 1
  · rw [if_pos e] at hid
    exact ⟨a, b, e.1, ha, by simpa using hid.symm, hb⟩
  · rw [if_neg e] at hid
    exact h x r id hid
end Go.Proofs.YtmjkbdgcnoenbaaGreatDoor

/- How a header that came in is opened; its sizes. -/
namespace Go.Proofs.YtmjkbdgcnoenbaaGreatDoor
open Go.ChangeShapes Go.WideShapes Go.ChangeAt Go.RowKit Go.Joins Go.Deep
set_option linter.unusedVariables false

/-- How a Ref reads. -/
def RefQ {H : Type} (d : DataW H) (r : RefM) : Prop := ∃ y0 y1, d = .agg [y0, y1] ∧ StrQ y0 r.digest ∧ RowD TagQ y1 r.acks

theorem cellsRef6 : Tryz.prog.cellsOf 94 = 2 := by kernel_rfl
theorem cellsHdr6 : Tryz.prog.cellsOf 33 = 4 := by kernel_rfl
theorem cellsRefs6 : Tryz.prog.cellsOf 30 = 1 := by kernel_rfl
theorem bytesRef6 : Tryz.prog.bytesOf 94 = 40 := by kernel_rfl

set_option maxRecDepth 100000 in
theorem open_ref_cells {H : Type} {enc : TypeId × Value → H} {W : World} {fuel : Nat} {cs : List Value} {y : DataW H × List MemPlace}
    (hf : DataW.trod enc Tryz.prog W 0 (fun _ => true) true fuel 94 cs = some y) : ∃ r : RefM, cs = refK.c r ∧ refK.At W r ∧ RefQ y.1 r := by
  obtain ⟨xs, n, _, hx, hcl, hl, hg⟩ := DataW.trod_struct Tryz.underlying94 hf
  obtain ⟨c0, c1, rfl⟩ := list2x (hcl.trans cellsRef6)
  obtain ⟨y0, y1, rfl⟩ := list2x hl
  have g0 := hg 0 _ rfl
  have g1 := hg 1 _ rfl
  simp [cellsTags6, cellsStr6] at g0 g1
  obtain ⟨a0, e0, hy0, s0⟩ := DataW.trod_string Tryz.underlying9 g0
  obtain ⟨ao, len, cap, e1⟩ := slice_form Tryz.underlying46 g1
  simp at e0 e1
  subst e0 e1
  obtain ⟨l, rfl, l1, l2, l3, l4⟩ := open_tagsK g1
  refine ⟨⟨a0, l, ao, cap⟩, rfl, ⟨l1, l2⟩, y0.1, y1.1, ?_, ⟨by rw [hy0], s0⟩, l4⟩
  have := congrArg Prod.fst hx
  simpa using this

/-- How a header reads. -/
def HdrQ {H : Type} (d : DataW H) (x : HdrM) : Prop := ∃ y0 y1 y2 y3, d = .agg [y0, y1, y2, y3] ∧ RowD RefQ y2 x.refs ∧ RowD StrQ y3 x.parents

set_option maxRecDepth 100000 in
theorem open_hdr_cells {H : Type} {enc : TypeId × Value → H} {W : World} {fuel : Nat} {cs : List Value} {y : DataW H × List MemPlace}
    (hf : DataW.trod enc Tryz.prog W 0 (fun _ => true) true fuel 33 cs = some y) : ∃ x : HdrM, cs = hdrK.c x ∧ hdrK.At W x ∧ HdrQ y.1 x := by
  obtain ⟨xs, n, _, hx, hcl, hl, hg⟩ := DataW.trod_struct Tryz.underlying33 hf
  obtain ⟨c0, c1, c2, c3, rfl⟩ := list4x (hcl.trans cellsHdr6)
  obtain ⟨y0, y1, y2, y3, rfl⟩ := list4x hl
  have g0 := hg 0 _ rfl
  have g1 := hg 1 _ rfl
  have g2 := hg 2 _ rfl
  have g3 := hg 3 _ rfl
  simp [cellsInt6, cellsRefs6, cellsStrs6] at g0 g1 g2 g3
  obtain ⟨a0, e0, _, _⟩ := DataW.trod_int Tryz.underlying3 g0
  obtain ⟨a1, e1, _, _⟩ := DataW.trod_int Tryz.underlying3 g1
  obtain ⟨ra, rlen, rc, e2⟩ := slice_form Tryz.underlying30 g2
  obtain ⟨pa, plen, pc, e3⟩ := slice_form Tryz.underlying31 g3
  simp at e0 e1 e2 e3
  subst e0 e1 e2 e3
  obtain ⟨rs, rfl, r1, r2, r3, r4⟩ := open_row refK RefQ Tryz.underlying30 cellsRef6 open_ref_cells g2
  obtain ⟨ps, rfl, p1, p2, p3, p4⟩ := open_row strK StrQ Tryz.underlying31 cellsStr6 open_str_cells g3
  refine ⟨⟨a0, a1, ra, rs, rc, pa, ps, pc⟩, rfl, ⟨r1, r2, p1, p2⟩, y0.1, y1.1, y2.1, y3.1, ?_, r4, p4⟩
  have := congrArg Prod.fst hx
  simpa using this
end Go.Proofs.YtmjkbdgcnoenbaaGreatDoor

/- What the bound of the second form gives: the sizes of strings, and of slices of strings with all that they hold. -/
namespace Go.Proofs.YtmjkbdgcnoenbaaGreatDoor
open Go.ChangeShapes Go.WideShapes Go.ChangeAt Go.RowKit

/-- How many values and letters a row of strings holds. -/
def strsBulk (ss : List ByteArray) : Nat := (ss.map (fun s => s.size + 1)).sum
end Go.Proofs.YtmjkbdgcnoenbaaGreatDoor

/- What the bound of the second form gives of a header that came in. -/
namespace Go.Proofs.YtmjkbdgcnoenbaaGreatDoor
open Go.ChangeShapes Go.WideShapes Go.ChangeAt Go.RowKit
set_option linter.unusedVariables false

/-- What a Ref holds. -/
def refBulk (r : RefM) : Nat := r.digest.size + 1 + tagsBulk r.acks

def refsBulk (l : List RefM) : Nat := (l.map refBulk).sum
end Go.Proofs.YtmjkbdgcnoenbaaGreatDoor

/- How rows of acts that came in are opened. -/
namespace Go.Proofs.YtmjkbdgcnoenbaaGreatDoor
open Go.ChangeShapes Go.WideShapes Go.ChangeAt Go.RowKit Go.Joins Go.Deep
set_option linter.unusedVariables false

theorem list10x {α : Type} {l : List α} (h : l.length = 10) : ∃ c0 c1 c2 c3 c4 c5 c6 c7 c8 c9, l = [c0, c1, c2, c3, c4, c5, c6, c7, c8, c9] := by
  match l, h with
  | [c0, c1, c2, c3, c4, c5, c6, c7, c8, c9], _ => exact ⟨c0, c1, c2, c3, c4, c5, c6, c7, c8, c9, rfl⟩

theorem list7x {α : Type} {l : List α} (h : l.length = 7) : ∃ c0 c1 c2 c3 c4 c5 c6, l = [c0, c1, c2, c3, c4, c5, c6] := by
  match l, h with
  | [c0, c1, c2, c3, c4, c5, c6], _ => exact ⟨c0, c1, c2, c3, c4, c5, c6, rfl⟩

theorem cellsOp14 : Tryz.prog.cellsOf 35 = 10 := by kernel_rfl
theorem cellsBools14 : Tryz.prog.cellsOf 29 = 1 := by kernel_rfl
theorem cellsBool14 : Tryz.prog.cellsOf 4 = 1 := by kernel_rfl

def AnyB {H α : Type} (d : DataW H) (x : α) : Prop := True

theorem open_bool_cells {H : Type} {enc : TypeId × Value → H} {W : World} {fuel : Nat} {cs : List Value} {y : DataW H × List MemPlace}
    (hf : DataW.trod enc Tryz.prog W 0 (fun _ => true) true fuel 4 cs = some y) : ∃ x : Bool, cs = boolK.c x ∧ boolK.At W x ∧ AnyB y.1 x := by
  obtain ⟨b, e, _⟩ := DataW.trod_bool Tryz.underlying4 hf
  exact ⟨b, e, trivial, trivial⟩

/-- How an act reads. -/
def OpQ {H : Type} (d : DataW H) (o : OpM) : Prop := ∃ y0 y1 y2 y3 y4 y5 y6, d = .agg [y0, y1, y2, y3, y4, y5, y6] ∧ o.votes.length ≤ maxLen ∧ HdrQ y6 o.wild

instance : Inhabited OpM := ⟨⟨0, 0, 0, 0, none, [], 0, 0, ⟨0, 0, none, [], 0, none, [], 0⟩⟩⟩

set_option maxRecDepth 100000 in
theorem open_op_cells {H : Type} {enc : TypeId × Value → H} {W : World} {fuel : Nat} {cs : List Value} {y : DataW H × List MemPlace}
    (hf : DataW.trod enc Tryz.prog W 0 (fun _ => true) true fuel 35 cs = some y) : ∃ x : OpM, cs = opK.c x ∧ opK.At W x ∧ OpQ y.1 x := by
  obtain ⟨xs, n, _, hx, hcl, hl, hg⟩ := DataW.trod_struct Tryz.underlying35 hf
  obtain ⟨c0, c1, c2, c3, c4, c5, c6, c7, c8, c9, rfl⟩ := list10x (hcl.trans cellsOp14)
  obtain ⟨y0, y1, y2, y3, y4, y5, y6, rfl⟩ := list7x hl
  have g0 := hg 0 _ rfl
  have g1 := hg 1 _ rfl
  have g2 := hg 2 _ rfl
  have g3 := hg 3 _ rfl
  have g4 := hg 4 _ rfl
  have g5 := hg 5 _ rfl
  have g6 := hg 6 _ rfl
  simp [cellsInt6, cellsBools14, cellsHdr6] at g0 g1 g2 g3 g4 g5 g6
  obtain ⟨a0, e0, _, _⟩ := DataW.trod_int Tryz.underlying3 g0
  obtain ⟨a1, e1, _, _⟩ := DataW.trod_int Tryz.underlying3 g1
  obtain ⟨a2, e2, _, _⟩ := DataW.trod_int Tryz.underlying3 g2
  obtain ⟨a3, e3, _, _⟩ := DataW.trod_int Tryz.underlying3 g3
  obtain ⟨va, vlen, vc, e4⟩ := slice_form Tryz.underlying29 g4
  obtain ⟨a5, e5, _, _⟩ := DataW.trod_int Tryz.underlying3 g5
  obtain ⟨h, e6, hA, hQ⟩ := open_hdr_cells g6
  simp at e0 e1 e2 e3 e4 e5
  subst e0 e1 e2 e3 e4 e5
  obtain ⟨vs, rfl, r1, r2, r3, r4⟩ := open_row boolK AnyB Tryz.underlying29 cellsBool14 open_bool_cells g4
  refine ⟨⟨a0, a1, a2, a3, va, vs, vc, a5, h⟩, ?_, ⟨hA, r1⟩, y0.1, y1.1, y2.1, y3.1, y4.1, y5.1, y6.1, ?_, r3, hQ⟩
  · show _ = [Value.int .i64 a0, .int .i64 a1, .int .i64 a2, .int .i64 a3, .slice va vs.length vc, .int .i64 a5] ++ hdrK.c h
    rw [← e6]
    rfl
  · have := congrArg Prod.fst hx
    simpa using this
end Go.Proofs.YtmjkbdgcnoenbaaGreatDoor

/- How rows of rows of acts that came in are opened. -/
namespace Go.Proofs.YtmjkbdgcnoenbaaGreatDoor
open Go Go.ChangeShapes Go.WideShapes Go.ChangeAt Go.RowKit Go.Joins Go.Deep
set_option linter.unusedVariables false

/-- A row of acts as it lies. -/
structure OpsM where
  ao : Option Addr
  cap : Nat
  l : List OpM

def opsK : Kind OpsM where
  n := 1
  c x := [.slice x.ao x.l.length x.cap]
  foot x := rowFoot opK x.ao x.l
  At w x := RowAt opK w x.ao x.l
  pos := by decide
  len _ := rfl
  one x u hu := by
    simp only [List.mem_cons, List.not_mem_nil, or_false] at hu
    rcases hu with rfl; rfl
  lt h hf := RowAt.lt h hf
  keep h hk := RowAt.keep h hk

theorem RowAt.ops {w : World} {ao : Option Addr} {l : List OpsM} (h : RowAt opsK w ao l) {i : Nat} {x : OpsM} (hx : l[i]? = some x) :
    ∃ b off, ao = some ⟨b, off, none⟩ ∧ b < w.heap.size ∧ w.cell? ⟨b, off + i, none⟩ = some (.slice x.ao x.l.length x.cap) := by
  obtain ⟨g, off, h1, h2, h3⟩ := h.cell i x hx
  have := h3 0 _ rfl
  simp only [show opsK.n = 1 from rfl, Nat.mul_one, Nat.add_zero] at this
  exact ⟨g, off, h1, h2, this⟩

theorem cellsOps14 : Tryz.prog.cellsOf 22 = 1 := by kernel_rfl

/-- How a row of acts reads. -/
def OpsQ {H : Type} (d : DataW H) (x : OpsM) : Prop := x.l.length ≤ maxLen ∧ ∀ o ∈ x.l, o.votes.length ≤ maxLen

instance : Inhabited OpsM := ⟨⟨none, 0, []⟩⟩

theorem open_ops_cells {H : Type} {enc : TypeId × Value → H} {W : World} {fuel : Nat} {cs : List Value} {y : DataW H × List MemPlace}
    (hf : DataW.trod enc Tryz.prog W 0 (fun _ => true) true fuel 22 cs = some y) : ∃ x : OpsM, cs = opsK.c x ∧ opsK.At W x ∧ OpsQ y.1 x := by
  obtain ⟨va, vlen, vc, e⟩ := slice_form Tryz.underlying22 hf
  subst e
  obtain ⟨l, rfl, h2, _, h4, h5⟩ := open_row opK OpQ Tryz.underlying22 cellsOp14 open_op_cells hf
  refine ⟨⟨va, vc, l⟩, rfl, h2, h4, fun o ho => ?_⟩
  have ho' : o ∈ l := ho
  rcases h5 with ⟨_, rfl⟩ | ⟨ds, rest, hd, hlen, hq⟩
  · cases ho'
  · obtain ⟨i, hi, rfl⟩ := List.mem_iff_getElem.1 ho'
    have hi2 : i < ds.length := by omega
    obtain ⟨_, _, _, _, _, _, _, _, hv, _⟩ := hq i _ _ (List.getElem?_eq_getElem hi2) (List.getElem?_eq_getElem hi)
    exact hv

/-- A row of rows of acts. -/
theorem open_opss14 {H : Type} {enc : TypeId × Value → H} {W : World} {a : Option Addr} {len cap : Nat} {d : DataW H} {p : List MemPlace}
    (h : DataW.Trod enc Tryz.prog W 0 (fun _ => true) true 70 (.slice a len cap) d p) :
    ∃ l : List OpsM, l.length = len ∧ RowAt opsK W a l ∧ len ≤ maxLen ∧ (∀ x ∈ l, x.l.length ≤ maxLen ∧ ∀ o ∈ x.l, o.votes.length ≤ maxLen) := by
  obtain ⟨fuel, hf⟩ := h
  obtain ⟨l, h1, h2, _, h4, h5⟩ := open_row opsK OpsQ Tryz.underlying70 cellsOps14 open_ops_cells hf
  refine ⟨l, h1, h2, h4, fun x hx => ?_⟩
  rcases h5 with ⟨_, rfl⟩ | ⟨ds, rest, hd, hlen, hq⟩
  · cases hx
  · obtain ⟨i, hi, rfl⟩ := List.mem_iff_getElem.1 hx
    have hi2 : i < ds.length := by omega
    exact hq i _ _ (List.getElem?_eq_getElem hi2) (List.getElem?_eq_getElem hi)
end Go.Proofs.YtmjkbdgcnoenbaaGreatDoor

/- DagCerts' maps, beside the maker and a validator's dag. -/
namespace Go.Proofs.YtmjkbdgcnoenbaaGreatDoor
open Go Go.RowKit
set_option linter.unusedVariables false

theorem placeKey2 : PKey 76 :=
  PKey.of (t1 := 3) (t2 := 3) laidOut_true (of_decide_eq_true (by kernel_rfl)) Tryz.underlying76 (by kernel_rfl) (by kernel_rfl) rfl rfl (by decide) (by decide) (by kernel_rfl) rfl rfl (by kernel_rfl) (by kernel_rfl) Tryz.underlying3 Tryz.underlying3 (of_decide_eq_true (by kernel_rfl))

section
variable {V w w' : World} {n tb rt db pb me m1 m2 m3 : Nat} {SD SD' SP S : Nat → Prop} {d d' : DagD} {F1 F2 F3 : ByteArray → Option Value} {k1 k2 k3 : Nat}

/-- A header is made, where nothing is in. -/
theorem header_pl (bel : Below V.heap.size V w) (ply : Pl w pb SP rt []) (hE : TEnv V rt n (ksF n)) {o : OpM} (hO : OpIn V o) :
    Calls Tryz.prog 11 #[.pointer (some ⟨pb, 0, none⟩), o.v] w fun e w' => ∃ x : HdrM, e = .returned x.v ∧ x.d = hdrO (ksF n) n [] o ∧ x.At w' ∧ x.Fit ∧ (encH x.d).length ≤ 1073741824 ∧ x.Lens ∧ (∀ b, x.foot b → b < V.heap.size ∨ w.heap.size ≤ b) ∧ Below w.heap.size w w' := by
  obtain ⟨q, xs, hids, hS, hP⟩ := ply
  have hx0 : xs = [] := by
    cases xs with
    | nil => rfl
    | cons y r => cases hids
  have hi32 : ∀ x ∈ xs, ∀ i ∈ x.l, i.size ≤ 1000 := fun x hx => by rw [hx0] at hx; cases hx
  have hR := hE.below bel
  refine (playHdr_any pb q rt n (ksF n) xs o w hP hR.T hR.f2 hR.f1 hR.kl hR.k32 hi32 (hO.wild.below bel) hR.G).mono ?_
  rintro e w' ⟨x, rfl, hxd, hxA, hxo, hb⟩
  rw [← hids] at hxd
  have hsm : x.Fit ∧ (encH x.d).length ≤ 1073741824 ∧ x.Lens := by
    rcases hxo with ⟨h1, rfl⟩ | ⟨h1, _⟩
    · exact ⟨hO.fit, hO.len, hO.lens⟩
    · unfold hdrO at hxd
      rw [if_pos h1] at hxd
      have h2 := hdrP_small (ks := ksF n) (ids := []) (by have := hR.kl; have := hR.f2; omega) (fun l hl => by cases hl) (fun l hl => by cases hl) hxd
      exact ⟨h2.1, by omega, ⟨by have := h2.1.n; omega, by have := h2.1.p; omega, fun r hr => by have := h2.1.acks r hr; omega⟩⟩
  refine ⟨x, rfl, hxd, hxA, hsm.1, hsm.2.1, hsm.2.2, fun b hf => ?_, hb⟩
  rcases hxo with ⟨_, rfl⟩ | ⟨_, hx⟩
  · exact Or.inl (Kind.lt hdrK hO.wild hf)
  · exact Or.inr (hx b hf)

/-- Between two validators. -/
structure CO (V : World) (rt pb m1 m2 : Nat) (F1 F2 : ByteArray → Option Value) (k1 k2 : Nat) (w : World) : Prop where
  bel : Below V.heap.size V w
  ply : Pl w pb (fun k => k = pb) rt []
  pv : V.heap.size ≤ pb
  a1 : SMap w m1 F1 k1
  a2 : SMap w m2 F2 k2
  v1 : V.heap.size ≤ m1
  v2 : V.heap.size ≤ m2
  ne : m1 ≠ m2 ∧ m1 ≠ pb ∧ m2 ≠ pb

theorem CO.below (h : CO V rt pb m1 m2 F1 F2 k1 k2 w) (hb : Below w.heap.size w w') : CO V rt pb m1 m2 F1 F2 k1 k2 w' :=
  ⟨h.bel.trans (hb.mono h.bel.size), h.ply.below hb, h.pv, h.a1.below hb, h.a2.below hb, h.v1, h.v2, h.ne⟩

theorem CO.kept (h : CO V rt pb m1 m2 F1 F2 k1 k2 w) (hk : Kept S w w') (hS : ∀ k, S k → V.heap.size ≤ k ∧ k ≠ pb ∧ k ≠ m1 ∧ k ≠ m2) : CO V rt pb m1 m2 F1 F2 k1 k2 w' :=
  ⟨h.bel.trans (Kept.below hk h.bel.size (fun k e => (hS k e).1)), h.ply.kept hk (fun k e e' => (hS k e').2.1 e), h.pv, h.a1.kept hk (fun e => (hS m1 e).2.2.1 rfl), h.a2.kept hk (fun e => (hS m2 e).2.2.2 rfl), h.v1, h.v2, h.ne⟩

/-- While one votes. -/
structure CI (V : World) (n tb rt db pb me : Nat) (SD : Nat → Prop) (d : DagD) (m1 m2 m3 : Nat) (F1 F2 F3 : ByteArray → Option Value) (k1 k2 k3 : Nat) (w : World) : Prop where
  D : D1 V n tb rt db pb me SD (fun k => k = pb) d [] w
  a1 : SMap w m1 F1 k1
  a2 : SMap w m2 F2 k2
  a3 : SMap w m3 F3 k3
  v : V.heap.size ≤ m1 ∧ V.heap.size ≤ m2 ∧ V.heap.size ≤ m3
  ne : m1 ≠ m2 ∧ m1 ≠ m3 ∧ m2 ≠ m3 ∧ m1 ≠ pb ∧ m2 ≠ pb ∧ m3 ≠ pb
  off : ¬ SD m1 ∧ ¬ SD m2 ∧ ¬ SD m3

theorem CI.below (h : CI V n tb rt db pb me SD d m1 m2 m3 F1 F2 F3 k1 k2 k3 w) (hb : Below w.heap.size w w') : CI V n tb rt db pb me SD d m1 m2 m3 F1 F2 F3 k1 k2 k3 w' :=
  ⟨h.D.below hb, h.a1.below hb, h.a2.below hb, h.a3.below hb, h.v, h.ne, h.off⟩

theorem CI.voted (h : CI V n tb rt db pb me SD d m1 m2 m3 F1 F2 F3 k1 k2 k3 w) (hD : D1 V n tb rt db pb me SD' (fun k => k = pb) d' [] w') (hk : Kept SD w w') (hf : FreshS w SD SD') : CI V n tb rt db pb me SD' d' m1 m2 m3 F1 F2 F3 k1 k2 k3 w' := by
  have ho : ∀ m, ¬ SD m → m < w.heap.size → ¬ SD' m := fun m h1 h2 e => by
    rcases hf m e with e | e
    · exact h1 e
    · omega
  exact ⟨hD, h.a1.kept hk h.off.1, h.a2.kept hk h.off.2.1, h.a3.kept hk h.off.2.2, h.v, h.ne, ho m1 h.off.1 h.a1.lt, ho m2 h.off.2.1 h.a2.lt, ho m3 h.off.2.2 h.a3.lt⟩

theorem CI.put1 (h : CI V n tb rt db pb me SD d m1 m2 m3 F1 F2 F3 k1 k2 k3 w) {F : ByteArray → Option Value} {k : Nat} (hm : SMap w' m1 F k) (hk : Kept (fun k => k = m1) w w') : CI V n tb rt db pb me SD d m1 m2 m3 F F2 F3 k k2 k3 w' := by
  have e : ∀ k, (fun k => k = m1) k → k = m1 := fun k h => h
  exact ⟨h.D.kept hk (fun k hk => by rw [e k hk]; exact ⟨h.v.1, h.off.1, h.ne.2.2.2.1⟩), hm, h.a2.kept hk (fun q => h.ne.1 (e _ q).symm), h.a3.kept hk (fun q => h.ne.2.1 (e _ q).symm), h.v, h.ne, h.off⟩

theorem CI.put2 (h : CI V n tb rt db pb me SD d m1 m2 m3 F1 F2 F3 k1 k2 k3 w) {F : ByteArray → Option Value} {k : Nat} (hm : SMap w' m2 F k) (hk : Kept (fun k => k = m2) w w') : CI V n tb rt db pb me SD d m1 m2 m3 F1 F F3 k1 k k3 w' := by
  have e : ∀ k, (fun k => k = m2) k → k = m2 := fun k h => h
  exact ⟨h.D.kept hk (fun k hk => by rw [e k hk]; exact ⟨h.v.2.1, h.off.2.1, h.ne.2.2.2.2.1⟩), h.a1.kept hk (fun q => h.ne.1 (e _ q)), hm, h.a3.kept hk (fun q => h.ne.2.2.1 (e _ q).symm), h.v, h.ne, h.off⟩

theorem CI.put3 (h : CI V n tb rt db pb me SD d m1 m2 m3 F1 F2 F3 k1 k2 k3 w) {F : ByteArray → Option Value} {k : Nat} (hm : SMap w' m3 F k) (hk : Kept (fun k => k = m3) w w') : CI V n tb rt db pb me SD d m1 m2 m3 F1 F2 F k1 k2 k w' := by
  have e : ∀ k, (fun k => k = m3) k → k = m3 := fun k h => h
  exact ⟨h.D.kept hk (fun k hk => by rw [e k hk]; exact ⟨h.v.2.2, h.off.2.2, h.ne.2.2.2.2.2⟩), h.a1.kept hk (fun q => h.ne.2.1 (e _ q)), h.a2.kept hk (fun q => h.ne.2.2.1 (e _ q)), hm, h.v, h.ne, h.off⟩

theorem CI.out (h : CI V n tb rt db pb me SD d m1 m2 m3 F1 F2 F3 k1 k2 k3 w) : CO V rt pb m1 m2 F1 F2 k1 k2 w :=
  ⟨h.D.bel, h.D.ply, h.D.plt pb rfl, h.a1, h.a2, h.v.1, h.v.2.1, ⟨h.ne.1, h.ne.2.2.2.1, h.ne.2.2.2.2.1⟩⟩

/-- A new validator's dag, and its map. -/
theorem CO.in_ (h : CO V rt pb m1 m2 F1 F2 k1 k2 w) (hb : Below w.heap.size w w') (hd : PD w' db SD tb n (ksF n) me dag0) (hS : ∀ k, SD k → w.heap.size ≤ k) : CI V n tb rt db pb me SD dag0 m1 m2 w'.heap.size F1 F2 (fun _ => none) k1 k2 0 (w'.alloc (.map #[] 0)) := by
  have h1 := h.below hb
  have hD : D1 V n tb rt db pb me SD (fun k => k = pb) dag0 [] w' := ⟨h1.bel, hd, h1.ply, fun k e => Nat.le_trans h.bel.size (hS k e), fun k e => by have e' : k = pb := e; rw [e']; exact h.pv, fun k e e' => by
    have e2 : k = pb := e'
    have h3 := hS k e
    have h4 := (h.ply.lt (k := pb) rfl).2
    omega, fun l hl => by cases hl⟩
  have hbn := belowNew w' (.map #[] 0)
  have g1 := h.a1.lt
  have g2 := h.a2.lt
  have g3 := (h.ply.lt (k := pb) rfl).2
  have g4 := hb.size
  refine ⟨hD.below hbn, h1.a1.below hbn, h1.a2.below hbn, SMap.new w', ⟨h.v1, h.v2, h1.bel.size⟩, ⟨h.ne.1, by omega, by omega, h.ne.2.1, h.ne.2.2, by omega⟩, fun e => by have := hS _ e; omega, fun e => by have := hS _ e; omega, fun e => by have := hd.lt e; omega⟩
end

/-- A text's value, in a region that draws its order. -/
theorem SMap.looks {w : World} {b : Nat} {f : ByteArray → Option Value} {n : Nat} (h : SMap w b f n) {t e : TypeId} (ht : Tryz.prog.underlying t = some (.map 9 e)) {z : Value} (hz : ∀ w, (zeroValue e).run Tryz.prog w = .ok z w) {id : ByteArray} (hid : id.size ≤ maxLen) (m : Nat) : (Instr.lookup t (.map (some b)) (.string id) false).run Tryz.prog (w.drewN m) = .ok ((f id).getD z) (w.drewN m) := by
  obtain ⟨D, ho, h1, h2, h3⟩ := h.keep (w' := w.drewN m) rfl
  obtain ⟨v, ps, hrun, hv⟩ := ho.lookup lawStr ht (hz _) (zd := .held z) (zp := []) rfl (keyS_of hid)
  have e1 : v = (f id).getD z := by
    have := h3 id (.held z)
    unfold heldElem at hv
    simp only [Option.some.injEq, Prod.mk.injEq] at hv
    rw [this] at hv
    cases hf : f id with
    | none => rw [hf] at hv; simpa using hv.1
    | some u => rw [hf] at hv; simpa using hv.1
  subst e1
  exact hrun

theorem putN_le (f : ByteArray → Option Value) (id : ByteArray) (n : Nat) : putN f id n ≤ n + 1 := by
  unfold putN
  split <;> omega

/-- How many authors have one. -/
def cntG (N : Nat) (G : Int → Int → Option ByteArray) : Nat := ((List.range N).filter (fun a : Nat => (G (a : Int) 1).isSome)).length

theorem cntG_le (N : Nat) (G : Int → Int → Option ByteArray) : cntG N G ≤ N := by
  have := List.length_filter_le (fun a : Nat => (G (a : Int) 1).isSome) (List.range N)
  rw [List.length_range] at this
  exact this

theorem cntG_put {N a : Nat} (ha : a < N) (G : Int → Int → Option ByteArray) (id : ByteArray) : cntG N (fun x r => if x = (a : Int) ∧ r = 1 then some id else G x r) = if (G (a : Int) 1).isSome = true then cntG N G else cntG N G + 1 := by
  have key : ∀ N, ((List.range N).filter (fun k : Nat => (if (k : Int) = (a : Int) ∧ (1 : Int) = 1 then some id else G (k : Int) 1).isSome)).length = ((List.range N).filter (fun k : Nat => (G (k : Int) 1).isSome)).length + if a < N ∧ (G (a : Int) 1).isSome = false then 1 else 0 := by
    intro N
    induction N with
    | zero => simp
    | succ N ih =>
      rw [List.range_succ, List.filter_append, List.filter_append, List.length_append, List.length_append, ih]
      by_cases e : N = a
      · subst e
        rw [if_neg (by omega)]
        cases hg : (G (N : Int) 1).isSome with
        | false => simp [hg]
        | true => simp [hg]
      · have e2 : ¬ ((N : Int) = (a : Int) ∧ (1 : Int) = 1) := fun h => e (by omega)
        have e3 : (a < N + 1 ∧ (G (a : Int) 1).isSome = false) ↔ (a < N ∧ (G (a : Int) 1).isSome = false) := by
          constructor
          · rintro ⟨h1, h2⟩; exact ⟨by omega, h2⟩
          · rintro ⟨h1, h2⟩; exact ⟨by omega, h2⟩
        have e4 : [N].filter (fun k : Nat => (if (k : Int) = (a : Int) ∧ (1 : Int) = 1 then some id else G (k : Int) 1).isSome) = [N].filter (fun k : Nat => (G (k : Int) 1).isSome) := by
          refine List.filter_congr (fun k hk => ?_)
          rw [List.mem_singleton.1 hk, if_neg e2]
        rw [e4]
        simp only [e3]
        omega
  have := key N
  unfold cntG
  rw [this]
  cases hg : (G (a : Int) 1).isSome with
  | false => rw [if_pos ⟨ha, rfl⟩, if_neg (by simp)]
  | true => rw [if_neg (by simp), if_pos rfl, Nat.add_zero]
end Go.Proofs.YtmjkbdgcnoenbaaGreatDoor
