/- The reference's board as it lies in memory: a box, a row of pointers, what each of them leads to; New, at, Words. -/
import Derived.Test.YtbikabjogacfkaaDoorRefVotes
import Derived.Test.YtbikabjogacfkaaDoorRowsMore
import Derived.Test.YtbikabjogacfkaaDoorBoardMath
import Derived.Test.YtbikabjogacfkaaDoorTextMath
namespace Go.Proofs.YtbikabjogacfkaaDoor
open Go Go.RowKit
set_option linter.unusedVariables false

/-- Pointers to whole objects. -/
def ptrK : Kind Nat where
  n := 1
  c b := [.pointer (some ⟨b, 0, none⟩)]
  foot _ _ := False
  At _ _ := True
  pos := by decide
  len _ := rfl
  one x u hu := by
    simp only [List.mem_cons, List.not_mem_nil, or_false] at hu
    rcases hu with rfl; rfl
  lt _ h := h.elim
  keep _ _ := trivial

theorem infoPtrV : (Tryd.prog.info? 69).any (fun i => i.size == 1 && i.bytes == 8 && (match i.zero with | some z => z.cells.size == 1 | none => false)) = true := by kernel_rfl

theorem ptrInfoV : ∃ i z, Tryd.prog.info? 69 = some i ∧ i.zero = some z ∧ i.size = 1 ∧ i.bytes = 8 ∧ z.cells.size = 1 := by
  have h := infoPtrV
  cases hi : Tryd.prog.info? 69 with
  | none => rw [hi] at h; cases h
  | some i =>
    rw [hi] at h
    simp only [Option.any_some, Bool.and_eq_true, beq_iff_eq] at h
    cases hz : i.zero with
    | none => rw [hz] at h; simp at h
    | some z =>
      rw [hz] at h
      exact ⟨i, z, rfl, hz, h.1.1, h.1.2, by simpa using h.2⟩

theorem RowAt.ptr {w : World} {ao : Option Addr} {l : List Nat} (h : RowAt ptrK w ao l) {i : Nat} {x : Nat} (hx : l[i]? = some x) : ∃ g off, ao = some ⟨g, off, none⟩ ∧ g < w.heap.size ∧ w.cell? ⟨g, off + i, none⟩ = some (.pointer (some ⟨x, 0, none⟩)) := by
  obtain ⟨g, off, h1, h2, h3⟩ := h.cell i x hx
  have := h3 0 _ rfl
  simp only [show ptrK.n = 1 from rfl, Nat.mul_one, Nat.add_zero] at this
  exact ⟨g, off, h1, h2, this⟩

theorem new_ptr (w : World) (x : Nat) : ∀ j u, (ptrK.c x)[j]? = some u → (w.alloc (.cells #[.pointer (some ⟨x, 0, none⟩)] 69)).cell? ((⟨w.heap.size, 0, none⟩ : Addr).add j) = some u := by
  intro j u hu
  rw [Go.WideShapes.add_plain, Nat.zero_add]
  exact (Arr.new w 69 [.pointer (some ⟨x, 0, none⟩)]).cell hu

/-- A word of the reference's board as it lies. -/
structure RV where
  rb : Nat
  ao : Option Addr
  cap : Nat
  word : ByteArray
  P : List (Option TagD)

def RV.b (x : RV) : WordB := ⟨x.word, x.P⟩
def RV.foot (x : RV) (k : Nat) : Prop := k = x.rb ∨ rowFoot tagK x.ao (inL x.P) k

/-- The reference's board. -/
structure RBd (w : World) (bb : Nat) (q : Value) (rt : Nat) (kind : ByteArray) (most : Int) (vs : List RV) : Prop where
  box : Arr w bb 64 [.pointer (some ⟨rt, 0, none⟩), .string kind, .int .i64 most, q]
  row : KQ ptrK 69 w (bb + 1) q (vs.map (·.rb))
  at_ : ∀ x ∈ vs, RVAt w x.rb rt kind x.word (x.rb + 1) x.ao x.cap (inL x.P)
  gt : ∀ x ∈ vs, bb < x.rb
  apart : vs.Pairwise (fun x y => ¬ y.foot x.rb ∧ ¬ x.foot y.rb)
  off : ∀ x ∈ vs, ∀ k, x.foot k → q.ownBlock ≠ some k
  few : vs.length ≤ 1000000

/-- The blocks that it has. -/
def RFoot (bb : Nat) (q : Value) (vs : List RV) (k : Nat) : Prop := k = bb ∨ q.ownBlock = some k ∨ ∃ x ∈ vs, x.foot k

theorem RVAt.keptF {S : Nat → Prop} {w w' : World} {rb tb : Nat} {kind word : ByteArray} {B : Nat} {ao : Option Addr} {cap : Nat} {l : List TagD} (h : RVAt w rb tb kind word B ao cap l) (hk : Kept S w w') (hn : ¬ S rb) (hS : ∀ k, rowFoot tagK ao l k → ¬ S k) : RVAt w' rb tb kind word B ao cap l :=
  ⟨h.box.kept hk hn, h.row.kept hk hS, h.nil, h.lt, h.foot, h.cap, h.plain⟩

theorem RVAt.rebase {w : World} {rb tb : Nat} {kind word : ByteArray} {B B' : Nat} {ao : Option Addr} {cap : Nat} {l : List TagD} (h : RVAt w rb tb kind word B ao cap l) (hB : B' ≤ B) (hr : rb < B') : RVAt w rb tb kind word B' ao cap l :=
  ⟨h.box, h.row, h.nil, hr, fun b hb => Nat.le_trans hB (h.foot b hb), h.cap, h.plain⟩

section
variable {w w' : World} {bb : Nat} {q : Value} {rt : Nat} {kind : ByteArray} {most : Int} {vs : List RV} {S : Nat → Prop}

theorem RBd.kept (h : RBd w bb q rt kind most vs) (hk : Kept S w w') (hS : ∀ k, RFoot bb q vs k → ¬ S k) : RBd w' bb q rt kind most vs :=
  ⟨h.box.kept hk (hS bb (Or.inl rfl)), h.row.kept hk (fun k e => hS k (Or.inr (Or.inl e))) (fun _ _ _ h => h.elim), fun x hx => (h.at_ x hx).keptF hk (hS _ (Or.inr (Or.inr ⟨x, hx, Or.inl rfl⟩))) (fun k e => hS k (Or.inr (Or.inr ⟨x, hx, Or.inr e⟩))), h.gt, h.apart, h.off, h.few⟩

theorem RBd.below (h : RBd w bb q rt kind most vs) (hb : Below w.heap.size w w') : RBd w' bb q rt kind most vs :=
  h.kept (Kept.of_below (S := fun _ => False) hb) (fun _ _ h => h)

theorem RBd.lt (h : RBd w bb q rt kind most vs) {k : Nat} (hk : RFoot bb q vs k) : bb ≤ k ∧ k < w.heap.size := by
  rcases hk with rfl | e | ⟨x, hx, e | e⟩
  · exact ⟨Nat.le_refl _, h.box.lt⟩
  · have := h.row.lt k e; omega
  · subst e; exact ⟨Nat.le_of_lt (h.gt x hx), (h.at_ x hx).box.lt⟩
  · have := (h.at_ x hx).foot k e
    have := (h.at_ x hx).row.lt e
    have := h.gt x hx
    omega
end

/-- .. as the blocks that it has and what is in it. -/
structure RB (w : World) (bb : Nat) (S : Nat → Prop) (rt : Nat) (kind : ByteArray) (most : Int) (bs : List WordB) : Prop where
  at_ : ∃ q vs, bs = vs.map RV.b ∧ (∀ k, S k ↔ RFoot bb q vs k) ∧ RBd w bb q rt kind most vs

section
variable {w w' : World} {bb : Nat} {S S' : Nat → Prop} {rt : Nat} {kind : ByteArray} {most : Int} {bs : List WordB}

theorem RB.kept (h : RB w bb S rt kind most bs) (hk : Kept S' w w') (hS : ∀ k, S k → ¬ S' k) : RB w' bb S rt kind most bs := by
  obtain ⟨q, vs, h1, h2, h3⟩ := h
  exact ⟨q, vs, h1, h2, h3.kept hk (fun k e => hS k ((h2 k).2 e))⟩

theorem RB.below (h : RB w bb S rt kind most bs) (hb : Below w.heap.size w w') : RB w' bb S rt kind most bs := by
  obtain ⟨q, vs, h1, h2, h3⟩ := h
  exact ⟨q, vs, h1, h2, h3.below hb⟩

theorem RB.lt (h : RB w bb S rt kind most bs) {k : Nat} (hk : S k) : bb ≤ k ∧ k < w.heap.size := by
  obtain ⟨q, vs, h1, h2, h3⟩ := h
  exact h3.lt ((h2 k).1 hk)

theorem RB.few (h : RB w bb S rt kind most bs) : bs.length ≤ 1000000 := by
  obtain ⟨q, vs, rfl, h2, h3⟩ := h
  rw [List.length_map]
  exact h3.few
end

set_option maxRecDepth 100000 in
set_option maxHeartbeats 1000000 in
theorem refBNew_any (rt : Nat) (kind : ByteArray) (most : Int) (w : World) : Calls Tryd.prog 8 #[.pointer (some ⟨rt, 0, none⟩), .string kind, .int .i64 most] w fun e w' => e = .returned (.pointer (some ⟨w.heap.size, 0, none⟩)) ∧ RB w' w.heap.size (fun k => k = w.heap.size) rt kind (max 0 most) [] ∧ Below w.heap.size w w' := by
  have hb := belowNew w (.cells #[.pointer (some ⟨rt, 0, none⟩), .string kind, .int .i64 (max 0 most), .slice none 0 0] 64)
  have hX := Arr.new w 64 [.pointer (some ⟨rt, 0, none⟩), .string kind, .int .i64 (max 0 most), .slice none 0 0]
  have hfin : ∀ w', Arr w' w.heap.size 64 [.pointer (some ⟨rt, 0, none⟩), .string kind, .int .i64 (max 0 most), .slice none 0 0] → RB w' w.heap.size (fun k => k = w.heap.size) rt kind (max 0 most) [] := fun w' h => by
    refine ⟨.slice none 0 0, [], rfl, fun k => ⟨Or.inl, ?_⟩, h, KQ.empty _ _ _ _, (fun x hx => by cases hx), (fun x hx => by cases hx), List.Pairwise.nil, (fun x hx => by cases hx), Nat.zero_le _⟩
    rintro (e | e | ⟨x, hx, _⟩)
    · exact e
    · cases e
    · cases hx
  have hR := hfin _ hX
  clear hfin hX
  by_cases h0 : ¬ most ≤ 0
  · have e : max 0 most = most := by omega
    rw [e] at hb hR ⊢
    clear e
    go_enter Tryd.func8, Tryd.ntmps8
    go_wp2
    go_ret
    exact ⟨rfl, hR, hb⟩
  · have e : max 0 most = 0 := by omega
    rw [e] at hb hR ⊢
    have h1 : most ≤ 0 := by omega
    clear e
    go_enter Tryd.func8, Tryd.ntmps8
    go_wp2
    go_ret
    exact ⟨rfl, hR, hb⟩

/-- What at answers. -/
def atI (o : Option Nat) : Int := match o with | some i => (i : Int) | none => -1

set_option maxRecDepth 100000 in
set_option maxHeartbeats 1000000 in
theorem refBAt_any (word : ByteArray) (bb : Nat) (q : Value) (rt : Nat) (kind : ByteArray) (most : Int) (vs : List RV) (w : World) (h : RBd w bb q rt kind most vs) :
    Calls Tryd.prog 27 #[.pointer (some ⟨bb, 0, none⟩), .string word] w fun e w' => e = .returned (.int .i64 (atI (atW word (vs.map RV.b)))) ∧ Below w.heap.size w w' := by
  obtain ⟨ao, cap, rfl, hnil, hRow⟩ := h.row.form
  rw [List.length_map] at *
  have c3 := h.box.cell (i := 3) rfl
  have hfew := h.few
  cases hA : atW word (vs.map RV.b) with
  | some i0 =>
    obtain ⟨x0, hx0, hw0, _, hless⟩ := atW_some hA
    have hi0 : i0 < vs.length := by
      have := (List.getElem?_eq_some_iff.1 hx0).1
      simpa using this
    have hless' : Hid (∀ (j : Nat) (x : RV), j < i0 → vs[j]? = some x → (x.word.toList == word.toList) = false) := fun j x hj hx => by
      have := hless j x.b hj (by rw [List.getElem?_map, hx]; rfl)
      rw [bytes_eq]
      exact decide_eq_false this
    have hsame' : Hid (∀ x : RV, vs[i0]? = some x → (x.word.toList == word.toList) = true) := fun x hx => by
      rw [List.getElem?_map, hx] at hx0
      simp only [Option.map_some, Option.some.injEq] at hx0
      rw [bytes_eq]
      exact decide_eq_true (by rw [← hw0, ← hx0]; rfl)
    clear hx0 hw0 hless hA
    go_enter Tryd.func27, Tryd.ntmps27
    go_wp2_with fail
    go_loopw [5] (fun v5 wr => ∃ i : Nat, i ≤ i0 ∧ v5 = .int .i64 (i : Int) ∧ Below w.heap.size w wr) (fun v _ => i0 - (intOf v).toNat)
    case atStart => exact ⟨0, Nat.zero_le _, rfl, Below.refl _ _⟩
    case round =>
      obtain ⟨i, hi, rfl, hb⟩ := hrel
      have hil : i < vs.length := by omega
      have g1 : (i : Int) < (vs.length : Int) := by omega
      obtain ⟨x, hx⟩ : ∃ x, vs[i]? = some x := ⟨_, List.getElem?_eq_getElem hil⟩
      have hB := h.below hb
      have d3 := hB.box.cell (i := 3) rfl
      obtain ⟨g, off, rfl, hg, hp⟩ := (hRow.below hb).ptr (i := i) (x := x.rb) (by rw [List.getElem?_map, hx]; rfl)
      have hwd := (hB.at_ x (List.mem_of_getElem? hx)).box.cell (i := 2) rfl
      clear hB c3
      by_cases hlt : i < i0
      · have he := hless'.out i x hlt hx
        clear hx
        go_wp2
        go_roundw
        case rel => exact ⟨i + 1, by omega, by go_num, hb⟩
        case measure => simp [intOf]; omega
      · obtain rfl : i = i0 := by omega
        have he := hsame'.out x hx
        clear hx
        go_wp2
        go_ret
        exact ⟨rfl, hb⟩
  | none =>
    have hno' : Hid (∀ (j : Nat) (x : RV), vs[j]? = some x → (x.word.toList == word.toList) = false) := fun j x hx => by
      have := atW_none.1 hA x.b (List.mem_map_of_mem (List.mem_of_getElem? hx))
      rw [bytes_eq]
      exact decide_eq_false this
    clear hA
    go_enter Tryd.func27, Tryd.ntmps27
    go_wp2_with fail
    go_loopw [5] (fun v5 wr => ∃ i : Nat, i ≤ vs.length ∧ v5 = .int .i64 (i : Int) ∧ Below w.heap.size w wr) (fun v _ => vs.length - (intOf v).toNat)
    case atStart => exact ⟨0, Nat.zero_le _, rfl, Below.refl _ _⟩
    case round =>
      obtain ⟨i, hi, rfl, hb⟩ := hrel
      have hB := h.below hb
      have d3 := hB.box.cell (i := 3) rfl
      by_cases hil : i < vs.length
      · have g1 : (i : Int) < (vs.length : Int) := by omega
        obtain ⟨x, hx⟩ : ∃ x, vs[i]? = some x := ⟨_, List.getElem?_eq_getElem hil⟩
        obtain ⟨g, off, rfl, hg, hp⟩ := (hRow.below hb).ptr (i := i) (x := x.rb) (by rw [List.getElem?_map, hx]; rfl)
        have hwd := (hB.at_ x (List.mem_of_getElem? hx)).box.cell (i := 2) rfl
        have he := hno'.out i x hx
        clear hx hB c3
        go_wp2
        go_roundw
        case rel => exact ⟨i + 1, by omega, by go_num, hb⟩
        case measure => simp [intOf]; omega
      · have g1 : ¬ (i : Int) < (vs.length : Int) := by omega
        clear hB
        go_wp2
        go_ret
        exact ⟨rfl, hb⟩

set_option maxRecDepth 100000 in
set_option maxHeartbeats 1000000 in
theorem refBWords_any (bb : Nat) (S : Nat → Prop) (rt : Nat) (kind : ByteArray) (most : Int) (bs : List WordB) (w : World) (h : RB w bb S rt kind most bs) :
    Calls Tryd.prog 18 #[.pointer (some ⟨bb, 0, none⟩)] w fun e w' => ∃ v, e = .returned v ∧ KQ textK 9 w' w.heap.size v (bs.map (·.word)) ∧ Below w.heap.size w w' := by
  obtain ⟨q, vs, rfl, hS, h⟩ := h
  obtain ⟨i0, z0, hi0, hz0, hz1, hz2, hz3⟩ := strInfoT
  obtain ⟨ao, cap, rfl, hnil, hRow⟩ := h.row.form
  rw [List.length_map] at *
  have hfew := h.few
  obtain ⟨ws, hws⟩ : ∃ z, Hid ((vs.map RV.b).map (·.word) = z) := ⟨_, rfl⟩
  rw [hws.out]
  have hend : Hid ((vs.take vs.length).map (·.word) = ws) := by
    show _ = _
    rw [List.take_length, ← hws.out, List.map_map]
    rfl
  have hnx : Hid (∀ i x, vs[i]? = some x → (vs.take (i + 1)).map (·.word) = (vs.take i).map (·.word) ++ [x.word]) := fun i x hx => by
    rw [List.take_add_one, hx, List.map_append]
    rfl
  go_enter Tryd.func18, Tryd.ntmps18
  go_wp2_with fail
  go_loopw [3, 4] (fun v3 v4 wr => ∃ i : Nat, i ≤ vs.length ∧ v4 = .int .i64 (i : Int) ∧ KQ textK 9 wr w.heap.size v3 ((vs.take i).map (·.word)) ∧ Below w.heap.size w wr) (fun _ v _ => vs.length - (intOf v).toNat)
  case atStart => exact ⟨0, Nat.zero_le _, rfl, KQ.empty _ _ _ _, Below.refl _ _⟩
  case round =>
    obtain ⟨i, hi, rfl, hQ, hb⟩ := hrel
    have hB := h.below hb
    have d3 := hB.box.cell (i := 3) rfl
    by_cases hil : i < vs.length
    · have g1 : (i : Int) < (vs.length : Int) := by omega
      obtain ⟨x, hx⟩ : ∃ x, vs[i]? = some x := ⟨_, List.getElem?_eq_getElem hil⟩
      obtain ⟨g, off, rfl, hg, hp⟩ := (hRow.below hb).ptr (i := i) (x := x.rb) (by rw [List.getElem?_map, hx]; rfl)
      have hwd := (hB.at_ x (List.mem_of_getElem? hx)).box.cell (i := 2) rfl
      have hn := hnx.out i x hx
      have hlen : ((vs.take i).map (·.word)).length = i := by rw [List.length_map, List.length_take]; omega
      generalize (vs.take i).map (·.word) = k at *
      generalize x.word = id at *
      have hbx := belowNew wr (.cells #[.string id] 9)
      have hQ4 := hQ.below hbx
      have hb4 := hb.trans (hbx.mono hb.size)
      have hN := new_text wr id
      have hbs : w.heap.size ≤ (wr.alloc (.cells #[.string id] 9)).heap.size := by have := hbx.size; have := hb.size; omega
      have m1 : k.length + 1 ≤ maxLen := by unfold maxLen; omega
      have m2 : (k.length + 1) * 16 ≤ 140737488355328 := by omega
      have hn' : Hid _ := hn
      clear hx hB hn hlen hQ hb
      go_wp2_with (at_builtin; refine wpList_push (K := textK) rfl _ _ 43 rfl w.heap.size 9 i0 _ 16 Tryd.underlying43 hi0 hz0 hz1 hz2 hz3 _ k rfl hQ4 id trivial (fun _ h => h.elim) ⟨wr.heap.size, 0, none⟩ 1 rfl hN m1 m2 hbs ?_)
      intro ao3 cap3 w3 hQ5 hk3
      have hb5 := hb4.trans (Kept.below hk3 hb4.size (fun j hj => by have := (hQ4.lt j hj).1; omega))
      rw [← hn'.out] at hQ5
      clear hk3 hQ4 hb4 hbx hN hbs m1 m2 hn'
      go_wp2
      go_roundw
      case rel => exact ⟨i + 1, by omega, by go_num, hQ5, hb5⟩
      case measure => simp [intOf]; omega
    · obtain rfl : i = vs.length := by omega
      have g1 : ¬ (vs.length : Int) < (vs.length : Int) := by omega
      rw [hend.out] at hQ
      clear hB
      obtain ⟨aoF, capF, rfl, _, _⟩ := hQ.form
      go_wp2
      go_ret
      exact ⟨_, rfl, hQ, hb⟩
end Go.Proofs.YtbikabjogacfkaaDoor
