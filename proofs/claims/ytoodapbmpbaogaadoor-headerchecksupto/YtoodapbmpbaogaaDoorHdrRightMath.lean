/- A header that is right is plain; without acks, or with parents turned, it is not right. -/
import Derived.Test.YtoodapbmpbaogaaDoorHdrCheck
namespace Go.Proofs.YtoodapbmpbaogaaDoor
open Go.RowKit
set_option linter.unusedVariables false

theorem digE_zero {d a : ByteArray} (h : digE d a = 0) : d.size = 32 ∧ leB d a = false := by
  unfold digE at h
  by_cases h1 : d.size ≠ 32
  · rw [if_pos h1] at h; omega
  · rw [if_neg h1] at h
    cases hl : leB d a with
    | true => rw [if_pos hl] at h; omega
    | false => exact ⟨by omega, rfl⟩

theorem risP_zero : ∀ (l : List ByteArray) (a : ByteArray), risP a l = 0 → ∀ p ∈ l, p.size = 32
  | [], _, _, p, hp => by cases hp
  | k :: r, a, h, p, hp => by
    rw [risP] at h
    by_cases hd : digE k a ≠ 0
    · rw [if_pos hd] at h; omega
    · rw [if_neg hd] at h
      rcases List.mem_cons.1 hp with rfl | hp
      · exact (digE_zero (d := p) (a := a) (by omega)).1
      · exact risP_zero r k h p hp

theorem refP_zero {en : List TagD → ByteArray → Nat} : ∀ (l : List RefD) (a : ByteArray), refP en a l = 0 → ∀ x ∈ l, x.digest.size = 32 ∧ en x.acks x.digest = 0
  | [], _, _, p, hp => by cases hp
  | k :: r, a, h, p, hp => by
    rw [refP] at h
    by_cases hd : digE k.digest a ≠ 0
    · rw [if_pos hd] at h; omega
    · rw [if_neg hd] at h
      by_cases he : en k.acks k.digest ≠ 0
      · rw [if_pos he] at h; omega
      · rw [if_neg he] at h
        rcases List.mem_cons.1 hp with rfl | hp
        · exact ⟨(digE_zero (d := p.digest) (a := a) (by omega)).1, by omega⟩
        · exact refP_zero r k.digest h p hp

/-- A Ref's acks are others: the first that is wrong. -/
theorem refP_set {en : List TagD → ByteArray → Nat} : ∀ (l : List RefD) (a : ByteArray) (i : Nat) (x y : RefD), refP en a l = 0 → l[i]? = some x → y.digest = x.digest → en y.acks y.digest ≠ 0 → refP en a (l.set i y) = en y.acks y.digest
  | [], _, _, _, _, _, h, _, _ => by simp at h
  | k :: r, a, 0, x, y, h, hx, hd, hn => by
    simp at hx
    subst hx
    rw [refP] at h
    by_cases h1 : digE k.digest a ≠ 0
    · rw [if_pos h1] at h; omega
    · rw [List.set_cons_zero, refP, hd, if_neg h1, if_pos (by rw [← hd]; exact hn)]
  | k :: r, a, i + 1, x, y, h, hx, hd, hn => by
    rw [refP] at h
    by_cases h1 : digE k.digest a ≠ 0
    · rw [if_pos h1] at h; omega
    · rw [if_neg h1] at h
      by_cases he : en k.acks k.digest ≠ 0
      · rw [if_pos he] at h; omega
      · rw [if_neg he] at h
        rw [List.set_cons_succ, refP, if_neg h1, if_neg he]
        exact refP_set r k.digest i x y h (by simpa using hx) hd hn

theorem go_zero {ks : List ByteArray} {kind word : ByteArray} : ∀ (l : List (Int × ByteArray)) (ahead : Int), -1 ≤ ahead → Mx.enoughGo ks kind word ahead l = 0 → (l = [] ∨ (l.length : Int) + ahead + 1 ≤ ks.length) ∧ ∀ x ∈ l, 0 ≤ x.1 ∧ x.1 < ks.length ∧ x.2.size = 16
  | [], _, _, _ => ⟨Or.inl rfl, fun x hx => by cases hx⟩
  | x :: l, ahead, ha, h => by
    rw [Mx.enoughGo] at h
    by_cases he : Mx.tagErr ks kind word ahead x = 0
    · rw [if_pos he] at h
      unfold Mx.tagErr at he
      by_cases h1 : x.1 < 0 ∨ (ks.length : Int) ≤ x.1
      · rw [if_pos h1] at he; omega
      rw [if_neg h1] at he
      by_cases h2 : x.1 ≤ ahead
      · rw [if_pos h2] at he; omega
      rw [if_neg h2] at he
      by_cases h3 : x.2 = Mx.macOf (ks.getD x.1.toNat ⟨#[]⟩) kind word
      · obtain ⟨i1, i2⟩ := go_zero l x.1 (by omega) h
        refine ⟨Or.inr ?_, fun y hy => ?_⟩
        · rw [List.length_cons]
          rcases i1 with rfl | i1
          · simp; omega
          · omega
        · rcases List.mem_cons.1 hy with rfl | hy
          · exact ⟨by omega, by omega, by rw [h3]; exact Mx.macOf_size _ _ _⟩
          · exact i2 y hy
      · rw [if_neg h3] at he; omega
    · rw [if_neg he] at h
      exact absurd h he

theorem go_take {ks : List ByteArray} {kind word : ByteArray} : ∀ (l : List (Int × ByteArray)) (ahead : Int) (m : Nat), Mx.enoughGo ks kind word ahead l = 0 → Mx.enoughGo ks kind word ahead (l.take m) = 0
  | [], _, m, _ => by simp [Mx.enoughGo]
  | x :: l, ahead, 0, _ => by simp [Mx.enoughGo]
  | x :: l, ahead, m + 1, h => by
    rw [Mx.enoughGo] at h
    rw [List.take_succ_cons, Mx.enoughGo]
    by_cases he : Mx.tagErr ks kind word ahead x = 0
    · rw [if_pos he] at h ⊢
      exact go_take l x.1 m h
    · rw [if_neg he] at h
      exact absurd h he

theorem pairT_take (l : List TagD) (m : Nat) : pairT (l.take m) = (pairT l).take m := by simp [pairT, List.map_take]

/-- Tags that are enough: how many, and of which form. -/
theorem enT_zero {ks : List ByteArray} {f : Nat} {l : List TagD} {d : ByteArray} (hk : ks.length = 3 * f + 1) (hf : f ≤ 2) (h : enT ks f l d = 0) : 2 * f + 1 ≤ l.length ∧ l.length ≤ 7 ∧ (∀ t ∈ l, t.Fit) ∧ enT ks f (l.take (2 * f)) d = 12 := by
  unfold enT Mx.enoughL at h
  by_cases h0 : Mx.enoughGo ks ackW d (-1) (pairT l) = 0
  · rw [if_pos h0] at h
    by_cases h1 : (pairT l).length < 2 * f + 1
    · rw [if_pos h1] at h; omega
    · rw [pairT_length] at h1
      obtain ⟨i1, i2⟩ := go_zero (pairT l) (-1) (by omega) h0
      refine ⟨by omega, ?_, fun t ht => ?_, ?_⟩
      · rcases i1 with e | i1
        · have := congrArg List.length e
          rw [pairT_length] at this
          simp at this
          rw [this]
          simp
        · rw [pairT_length] at i1
          omega
      · have := i2 (t.who, t.mac) (List.mem_map.2 ⟨t, ht, rfl⟩)
        exact ⟨this.1, by have := this.2.1; simp only at this; omega, this.2.2⟩
      · unfold enT Mx.enoughL
        rw [pairT_take, if_pos (go_take _ _ _ h0), if_pos (by rw [List.length_take, pairT_length]; omega)]
  · rw [if_neg h0] at h
    exact absurd h h0

theorem less_eqH : ∀ (x y : List UInt8), Op.bytesLess x y = decide (x < y)
  | [], [] => by simp [Op.bytesLess]
  | _ :: _, [] => by simp [Op.bytesLess]
  | [], _ :: _ => by simp [Op.bytesLess]
  | a :: x, b :: y => by
    rw [Op.bytesLess, less_eqH x y]
    simp only [List.cons_lt_cons_iff]
    by_cases h1 : a < b <;> by_cases h2 : a = b <;> by_cases h3 : x < y <;> simp [h1, h2, h3]

theorem less_total {x y : List UInt8} (h : (Op.bytesLess x y || x == y) = false) : (Op.bytesLess y x || y == x) = true := by
  rw [Bool.or_eq_false_iff] at h
  rw [less_eqH] at h
  rw [less_eqH]
  have h1 : ¬ x < y := by simpa using h.1
  have h2 : ¬ x = y := by simpa using h.2
  have h3 : y < x := by
    rcases List.le_total x y with h4 | h4
    · rcases List.le_iff_lt_or_eq.1 h4 with h5 | h5
      · exact absurd h5 h1
      · exact absurd h5 h2
    · rcases List.le_iff_lt_or_eq.1 h4 with h5 | h5
      · exact h5
      · exact absurd h5.symm h2
  simp [h3]

theorem leB_nil {d : ByteArray} (h : d.size = 32) : leB d ⟨#[]⟩ = false := by
  unfold leB
  have hl : d.toList.length = 32 := by rw [ByteArray.toList_eq]; simpa using h
  have he : (⟨#[]⟩ : ByteArray).toList = [] := by rw [ByteArray.toList_eq]
  rw [he]
  cases hd : d.toList with
  | nil => rw [hd] at hl; simp at hl
  | cons x r => rfl

/-- Two parents turned: the second is not above the first. -/
theorem risP_turned {p q : ByteArray} {l : List ByteArray} (h : risP ⟨#[]⟩ (p :: q :: l) = 0) : risP ⟨#[]⟩ (q :: p :: l) = 9 := by
  have hs := risP_zero _ _ h
  have hp := hs p (by simp)
  have hq := hs q (by simp)
  rw [risP] at h
  have h1 : digE p ⟨#[]⟩ = 0 := by unfold digE; rw [if_neg (by omega), if_neg (by rw [leB_nil hp]; simp)]
  rw [if_neg (by omega), risP] at h
  by_cases h2 : digE q p ≠ 0
  · rw [if_pos h2] at h; omega
  · have h3 := (digE_zero (d := q) (a := p) (by omega)).2
    have h4 : leB p q = true := less_total h3
    have h5 : digE q ⟨#[]⟩ = 0 := by unfold digE; rw [if_neg (by omega), if_neg (by rw [leB_nil hq]; simp)]
    have h6 : digE p q = 9 := by unfold digE; rw [if_neg (by omega), if_pos h4]
    rw [risP, if_neg (by omega), risP, h6, if_pos (by decide)]

/-- The parts of a header that is right. -/
theorem chkH_parts {n need : Nat} {en : List TagD → ByteArray → Nat} {h : HdrD} (hc : chkH n need en h = 0) : ¬ (h.author < 0 ∨ (n : Int) ≤ h.author ∨ h.round < 1 ∨ 4611686018427387903 < h.round) ∧ h.refs.length ≤ 4 ∧ refP en ⟨#[]⟩ h.refs = 0 ∧ risP ⟨#[]⟩ h.parents = 0 ∧ h.parents.length ≤ n := by
  unfold chkH at hc
  by_cases h1 : h.author < 0 ∨ (n : Int) ≤ h.author ∨ h.round < 1 ∨ 4611686018427387903 < h.round
  · rw [if_pos h1] at hc; omega
  rw [if_neg h1] at hc
  by_cases h2 : 4 < h.refs.length
  · rw [if_pos h2] at hc; omega
  rw [if_neg h2] at hc
  by_cases h3 : refP en ⟨#[]⟩ h.refs ≠ 0
  · rw [if_pos h3] at hc; omega
  rw [if_neg h3] at hc
  by_cases h4 : risP ⟨#[]⟩ h.parents ≠ 0
  · rw [if_pos h4] at hc; omega
  rw [if_neg h4] at hc
  refine ⟨h1, by omega, by omega, by omega, ?_⟩
  unfold countE at hc
  by_cases h5 : h.round = 1 ∧ 0 < h.parents.length
  · rw [if_pos h5] at hc; omega
  rw [if_neg h5] at hc
  by_cases h6 : 1 < h.round ∧ h.parents.length < need
  · rw [if_pos h6] at hc; omega
  rw [if_neg h6] at hc
  by_cases h7 : n < h.parents.length
  · rw [if_pos h7] at hc; omega
  · omega

theorem right_fit {ks : List ByteArray} {f : Nat} {h : HdrD} (hk : ks.length = 3 * f + 1) (hf : f ≤ 2) (hc : chkH (3 * f + 1) (2 * f + 1) (enT ks f) h = 0) : h.Fit := by
  obtain ⟨h1, h2, h3, h4, h5⟩ := chkH_parts hc
  refine ⟨by omega, by omega, by omega, by omega, h2, fun x hx => ?_, by omega, fun p hp => by have := risP_zero _ _ h4 p hp; omega⟩
  obtain ⟨r1, r2⟩ := refP_zero _ _ h3 x hx
  obtain ⟨_, e2, e3, _⟩ := enT_zero hk hf r2
  exact ⟨by omega, e2, e3⟩

theorem right_few {ks : List ByteArray} {f : Nat} {h : HdrD} (hk : ks.length = 3 * f + 1) (hf : f ≤ 2) (hc : chkH (3 * f + 1) (2 * f + 1) (enT ks f) h = 0) {i : Nat} {x : RefD} (hx : h.refs[i]? = some x) :
    2 * f + 1 ≤ x.acks.length ∧ chkH (3 * f + 1) (2 * f + 1) (enT ks f) { h with refs := h.refs.set i ⟨x.digest, x.acks.take (2 * f)⟩ } = 12 := by
  obtain ⟨h1, h2, h3, h4, h5⟩ := chkH_parts hc
  obtain ⟨r1, r2⟩ := refP_zero _ _ h3 x (List.mem_of_getElem? hx)
  obtain ⟨e1, e2, e3, e4⟩ := enT_zero hk hf r2
  refine ⟨e1, ?_⟩
  have hs := refP_set h.refs ⟨#[]⟩ i x ⟨x.digest, x.acks.take (2 * f)⟩ h3 hx rfl (by rw [e4]; decide)
  rw [e4] at hs
  unfold chkH
  simp only
  rw [if_neg h1, if_neg (by rw [List.length_set]; omega), hs, if_pos (by decide)]

theorem right_turned {n need : Nat} {en : List TagD → ByteArray → Nat} {h : HdrD} (hc : chkH n need en h = 0) {p q : ByteArray} {l : List ByteArray} (hp : h.parents = p :: q :: l) : chkH n need en { h with parents := q :: p :: l } = 9 := by
  obtain ⟨h1, h2, h3, h4, h5⟩ := chkH_parts hc
  rw [hp] at h4
  have ht := risP_turned h4
  unfold chkH
  simp only
  rw [if_neg h1, if_neg (by omega), if_neg (by omega), ht, if_pos (by decide)]
end Go.Proofs.YtoodapbmpbaogaaDoor
