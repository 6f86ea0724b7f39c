/- Texts as one: KindsSet, KindsOwn, RegionLast, RowsMore, TabPure, TabMath, HdrRightMath, MapStr, MapStrRange, MapStrSize, DagTabMath. -/
import Derived.Test.YtmjkbdgcnoenbaaGreatDoorDz02
import Derived.Test.YtmjkbdgcnoenbaaGreatDoorDz08
import Derived.Deep.RegionHeld
import Derived.StillTail
import Derived.Test.YtmjkbdgcnoenbaaGreatDoorDz05
import Derived.Maps.OwnSet
import Derived.Maps.OwnOps
import Derived.StringKeys
import Derived.Maps.RangeWalk
/- A cell of a row of the call's own is written. -/
namespace Go.Proofs.YtmjkbdgcnoenbaaGreatDoor
open Go.RowKit
set_option linter.unusedVariables false

section
variable {α : Type} {K : Kind α}

theorem flatK_set : ∀ (l : List α) (i : Nat) (x y : α) (k : Nat) (v : Value), l[i]? = some x → k < K.n → K.c y = (K.c x).set k v → flatK K (l.set i y) = (flatK K l).set (i * K.n + k) v
  | [], _, _, _, _, _, h, _, _ => by simp at h
  | z :: r, 0, x, y, k, v, h, hk, hc => by
    simp at h
    subst h
    have e : ∀ q : α, flatK K (q :: r) = K.c q ++ flatK K r := fun q => by simp [flatK]
    rw [List.set_cons_zero, e, e, hc, List.set_append_left _ _ (by rw [K.len]; omega), Nat.zero_mul, Nat.zero_add]
  | z :: r, i + 1, x, y, k, v, h, hk, hc => by
    have ih := flatK_set r i x y k v (by simpa using h) hk hc
    have e : ∀ m : List α, flatK K (z :: m) = K.c z ++ flatK K m := fun m => by simp [flatK]
    rw [List.set_cons_succ, e, e, ih, List.set_append_right _ _ (by rw [K.len, Nat.add_mul]; omega), K.len]
    congr 2
    rw [Nat.add_mul]
    omega

/-- Where an element of a row of the call's own lies; what becomes of the row when a cell of it is written. -/
theorem KQ.set {T : TypeId} {w : World} {base : Nat} {ao : Option Addr} {n cap : Nat} {l : List α} (h : KQ K T w base (.slice ao n cap) l) {i : Nat} {x : α} (hx : l[i]? = some x) :
    ∃ g off, ao = some ⟨g, off, none⟩ ∧ base ≤ g ∧ g < w.heap.size ∧ (∀ k v, (K.c x)[k]? = some v → w.cell? ⟨g, off + i * K.n + k, none⟩ = some v) ∧ (∀ o, w.frozen? ⟨g, o, none⟩ = false) ∧
      ∀ (y : α) (k : Nat) (v : Value), k < K.n → K.c y = (K.c x).set k v → K.At w y → (∀ b, K.foot y b → K.foot x b) → KQ K T (w.setCell ⟨g, off + i * K.n + k, none⟩ v) base (.slice ao n cap) (l.set i y) := by
  have hi := (List.getElem?_eq_some_iff.1 hx).1
  rcases h.row.2 with ⟨ao', hv, hn⟩ | ⟨g, pre, post, cap', hv, hb, hg, hnc, hcm, hpl⟩
  · simp at hv
    omega
  · simp only [Value.slice.injEq] at hv
    obtain ⟨rfl, rfl, rfl⟩ := hv
    have hlen := h.row.1
    have hin : ∀ k, k < K.n → i * K.n + k < (flatK K l).length := by
      intro k hk
      rw [flatK_length]
      have : (i + 1) * K.n ≤ l.length * K.n := Nat.mul_le_mul_right _ hi
      rw [Nat.add_mul] at this
      omega
    refine ⟨g, pre.length, rfl, hb, hg.lt, fun k v hk => ?_, fun o => hg.frozen o, fun y k v hk hc hy hf => ?_⟩
    · have hk' : k < K.n := by have := (List.getElem?_eq_some_iff.1 hk).1; rw [K.len] at this; exact this
      refine hg.cell ?_
      have := hin k hk'
      rw [List.getElem?_append_left (by rw [List.length_append]; omega), List.getElem?_append_right (by omega)]
      have e : pre.length + i * K.n + k - pre.length = i * K.n + k := by omega
      rw [e, flatK_get K l i x hx k hk']
      exact hk
    · have hA := hg.set (pre.length + i * K.n + k) v
      have e1 : (pre ++ flatK K l ++ post).set (pre.length + i * K.n + k) v = pre ++ flatK K (l.set i y) ++ post := by
        have := hin k hk
        rw [flatK_set l i x y k v hx hk hc, List.set_append_left _ _ (by rw [List.length_append]; omega), List.set_append_right _ _ (by omega)]
        congr 3
        omega
      rw [e1] at hA
      have kk := Kept.setCell w ⟨g, pre.length + i * K.n + k, none⟩ v
      have hown : (Value.slice (some ⟨g, pre.length, none⟩) l.length cap).ownBlock = some g := rfl
      refine ⟨⟨by rw [flatK_length, List.length_set], Or.inr ⟨g, pre, post, cap, by rw [List.length_set], hb, hA, by rw [List.length_set]; exact hnc, hcm, by rw [List.length_set]; exact hpl⟩⟩, ?_, ?_, ?_, ?_⟩
      · intro z hz
        rcases List.mem_or_eq_of_mem_set hz with hz | rfl
        · exact K.kept (h.at_ z hz) kk (fun b hb' e => h.off z hz b hb' (by rw [hown]; have e' : b = g := e; rw [e']))
        · exact K.kept hy kk (fun b hb' e => h.off x (List.mem_of_getElem? hx) b (hf b hb') (by rw [hown]; have e' : b = g := e; rw [e']))
      · intro z hz b hb'
        rcases List.mem_or_eq_of_mem_set hz with hz | rfl
        · exact h.off z hz b hb'
        · exact h.off x (List.mem_of_getElem? hx) b (hf b hb')
      · intro q hq
        have := h.lt q hq
        exact ⟨this.1, Nat.lt_of_lt_of_le this.2 kk.size⟩
      · exact h.nil
end
end Go.Proofs.YtmjkbdgcnoenbaaGreatDoor

/- append(q, xs...) upon a row of the call's own, whatever is appended; a copy at an operation that is guarded. -/
namespace Go.Proofs.YtmjkbdgcnoenbaaGreatDoor
open Go.RowKit
set_option linter.unusedVariables false

section
variable {α : Type} {K : Kind α}

/-- append(q, xs...), q of the call's own, xs at an address. -/
theorem step_ownO {P : Program} (w : World) {ops : Array Oper} {o : Oper} {a : Act} {C : Act → World → Prop} {Q : Exit → Act → World → Prop} {E : Prop} (hgd : o.guard = none) (s x : Operand) (t : TypeId)
    (ho : o.op = .call { callee := .builtin .append, args := #[s, x], argTypes := #[t, t] })
    (base : Nat) (e : TypeId) (i : TypeInfo) (z : Value) (bytes : Nat) (ht : P.underlying t = some (.slice e)) (hi : P.info? e = some i) (hz : i.zero = some z)
    (hsize : i.size = K.n) (hby : i.bytes = bytes) (hzs : z.cells.size = K.n)
    (v : Value) (n : Nat) (xs : List Value) (hs : a.eval s = v) (hown : w.ownsRow base e K.n v n xs) (ad : Addr) (cap : Nat) (l : List α) (hx : a.eval x = .slice (some ad) l.length cap)
    (hS : RowAt K w (some ad) l) (hm : n + l.length ≤ maxLen) (hlen : (n + l.length) * bytes ≤ 140737488355328) (hbase : base ≤ w.heap.size)
    (h : ∀ ao' cap' w', w'.ownsRow base e K.n (.slice ao' (n + l.length) cap') (n + l.length) (xs ++ flatK K l) → Kept (fun k => v.ownBlock = some k) w w' → C (a.put o.dst (.slice ao' (n + l.length) cap')) w') : if Region.wanted o (yielded ops a.tmps) = true then Oper.wp P o a w C Q else E := by
  rw [if_pos (by simp [Region.wanted, hgd])]
  obtain ⟨v', w', hrun, hown', hgrow, _⟩ := run_append_own (P := P) w base t o.type e i z K.n bytes ht hi hz hsize hby hzs K.pos v n xs hown ad l.length cap (flatK K l) (flatK_length K l) hS.news (flatK_one K l) hm hlen hbase
  obtain ⟨ao', cap', rfl, _, _⟩ := (QRow.of_own hown').form
  unfold Oper.wp
  simp [execOp, ho, resolve, invoke, builtin, hs, hx, hrun, Result.andThen]
  exact h ao' cap' w' hown' (Kept.of_grown hgrow)

/-- The same, the lengths under letters. -/
theorem step_ownM {P : Program} (w : World) {ops : Array Oper} {o : Oper} {a : Act} {C : Act → World → Prop} {Q : Exit → Act → World → Prop} {E : Prop} (hgd : o.guard = none) (s x : Operand) (t : TypeId)
    (ho : o.op = .call { callee := .builtin .append, args := #[s, x], argTypes := #[t, t] })
    (base : Nat) (e : TypeId) (i : TypeInfo) (z : Value) (bytes : Nat) (ht : P.underlying t = some (.slice e)) (hi : P.info? e = some i) (hz : i.zero = some z)
    (hsize : i.size = K.n) (hby : i.bytes = bytes) (hzs : z.cells.size = K.n)
    (v : Value) (n m N : Nat) (xs : List Value) (hs : a.eval s = v) (hown : w.ownsRow base e K.n v n xs) (ad : Addr) (cap : Nat) (l : List α) (hl : l.length = m) (hN : n + m = N) (hx : a.eval x = .slice (some ad) m cap)
    (hS : RowAt K w (some ad) l) (hm : N ≤ maxLen) (hlen : N * bytes ≤ 140737488355328) (hbase : base ≤ w.heap.size)
    (h : ∀ ao' cap' w', w'.ownsRow base e K.n (.slice ao' N cap') N (xs ++ flatK K l) → Kept (fun k => v.ownBlock = some k) w w' → C (a.put o.dst (.slice ao' N cap')) w') : if Region.wanted o (yielded ops a.tmps) = true then Oper.wp P o a w C Q else E := by
  subst hl
  subst hN
  exact step_ownO w hgd s x t ho base e i z bytes ht hi hz hsize hby hzs v n xs hs hown ad cap l hx hS hm hlen hbase h

/-- append(q, xs...), q of the call's own, xs whatever row. -/
theorem step_ownR {P : Program} (w : World) {ops : Array Oper} {o : Oper} {a : Act} {C : Act → World → Prop} {Q : Exit → Act → World → Prop} {E : Prop} (hgd : o.guard = none) (s x : Operand) (t : TypeId)
    (ho : o.op = .call { callee := .builtin .append, args := #[s, x], argTypes := #[t, t] })
    (base : Nat) (e : TypeId) (i : TypeInfo) (z : Value) (bytes : Nat) (ht : P.underlying t = some (.slice e)) (hi : P.info? e = some i) (hz : i.zero = some z)
    (hsize : i.size = K.n) (hby : i.bytes = bytes) (hzs : z.cells.size = K.n)
    (v : Value) (n m N : Nat) (xs : List Value) (hs : a.eval s = v) (hown : w.ownsRow base e K.n v n xs) (ao : Option Addr) (cap : Nat) (l : List α) (hl : l.length = m) (hN : n + m = N) (hx : a.eval x = .slice ao m cap)
    (hS : RowAt K w ao l) (hnil : ao = none → cap = 0) (hm : N ≤ maxLen) (hlen : N * bytes ≤ 140737488355328) (hbase : base ≤ w.heap.size)
    (h : ∀ ao' cap' w', w'.ownsRow base e K.n (.slice ao' N cap') N (xs ++ flatK K l) → Kept (fun k => v.ownBlock = some k) w w' → C (a.put o.dst (.slice ao' N cap')) w') : if Region.wanted o (yielded ops a.tmps) = true then Oper.wp P o a w C Q else E := by
  cases ao with
  | some ad => exact step_ownM w hgd s x t ho base e i z bytes ht hi hz hsize hby hzs v n m N xs hs hown ad cap l hl hN hx hS hm hlen hbase h
  | none =>
    have hc0 := hnil rfl
    subst hc0
    have hss : l = [] := by
      cases l with
      | nil => rfl
      | cons y r => obtain ⟨_, _, e, _⟩ := hS.cell 0 y rfl; cases e
    subst hss
    have hm0 : m = 0 := by simpa using hl.symm
    subst hm0
    have hNn : N = n := by omega
    subst hNn
    rw [if_pos (by simp [Region.wanted, hgd])]
    have hrun := run_append_owned_none (P := P) (w := w) base t o.type e i K.n ht hi v N xs hown
    obtain ⟨ao', cap', rfl, _, _⟩ := (QRow.of_own hown).form
    have e0 : xs ++ flatK K ([] : List α) = xs := by simp [flatK]
    rw [e0] at h
    unfold Oper.wp
    simp [execOp, ho, resolve, invoke, builtin, hs, hx, hrun, Result.andThen]
    exact h ao' cap' w hown (Kept.refl _ _)

/-- A row of the call's own, flat elements. -/
theorem KQ.of_own {T : TypeId} {w : World} {base : Nat} {ao : Option Addr} {n cap : Nat} {l : List α} (hf : ∀ x b, ¬ K.foot x b) (hA : ∀ x ∈ l, K.At w x) (hn : n = l.length) (h : w.ownsRow base T K.n (.slice ao n cap) n (flatK K l)) : KQ K T w base (.slice ao n cap) l := by
  subst hn
  refine ⟨QRow.of_own h, hA, fun x hx b hb => absurd hb (hf x b), fun k hk => ⟨(h.lt k hk).1, (h.lt k hk).2⟩, ?_⟩
  intro n c he
  rcases h.2 with ⟨hv, _⟩ | ⟨g, c', cur, hv, _⟩
  · rw [hv] at he
    simp at he
    omega
  · rw [hv] at he
    cases he

/-- append(q, xs...), q an empty row of the call's own, at an operation that is wanted. -/
theorem wpList_copyW {P : Program} {w : World} {ops : Array Oper} {rest : List Oper} {o : Oper} {a : Act} {Q : Exit → Act → World → Prop} (hw : Region.wanted o (yielded ops a.tmps) = true) (s x : Operand) (t : TypeId)
    (ho : o.op = .call { callee := .builtin .append, args := #[s, x], argTypes := #[t, t] })
    (base : Nat) (e : TypeId) (i : TypeInfo) (z : Value) (bytes : Nat) (ht : P.underlying t = some (.slice e)) (hi : P.info? e = some i) (hz : i.zero = some z)
    (hsize : i.size = K.n) (hby : i.bytes = bytes) (hzs : z.cells.size = K.n)
    (v : Value) (hs : a.eval s = v) (hown : w.ownsRow base e K.n v 0 []) (ao : Option Addr) (cap : Nat) (l : List α) (hx : a.eval x = .slice ao l.length cap)
    (hS : RowAt K w ao l) (hf : ∀ x b, ¬ K.foot x b) (hnil : ao = none → cap = 0) (hm : l.length ≤ maxLen) (hlen : l.length * bytes ≤ 140737488355328) (hbase : base ≤ w.heap.size)
    (h : ∀ ao' cap' w', KQ K e w' base (.slice ao' l.length cap') l → Kept (fun k => v.ownBlock = some k) w w' → wpList P ops Q rest (a.put o.dst (.slice ao' l.length cap')) w') : wpList P ops Q (o :: rest) a w := by
  refine wpList_step fun K' hK' => ?_
  rw [if_pos hw]
  obtain ⟨ao', cap', w', hrun, r1, r2⟩ := run_copyK (K := K) (P := P) w t o.type base e i z bytes ht hi hz hsize hby hzs v hown ao cap l hS hf hnil hm hlen hbase
  unfold Oper.wp
  simp [execOp, ho, resolve, invoke, builtin, hs, hx, hrun, Result.andThen]
  exact hK' _ _ (h ao' cap' w' r1 r2)
end
end Go.Proofs.YtmjkbdgcnoenbaaGreatDoor

/- A region that draws its order and ends with one store that all others stand ahead of: loads are taken first under a condition on the world that need not hold behind that store. -/
namespace Go.Proofs.YtmjkbdgcnoenbaaGreatDoor
open Go

section
variable {P : Program} {ops : Array Oper} {Q : Exit → Act → World → Prop} {md : Region.Mode} {S : World → Prop} {z : Nat}

/-- Whatever order is picked from here on, and S holds behind every operation but number z. -/
def wpAnyK (P : Program) (md : Region.Mode) (ops : Array Oper) (Q : Exit → Act → World → Prop) (S : World → Prop) (z : Nat) : Nat → Array Bool → Act → World → Prop
  | 0, listed, a, w => Region.ready md ops listed = [] ∧ Q .normal a w
  | fuel + 1, listed, a, w =>
    (Region.ready md ops listed = [] → Q .normal a w) ∧
    ∀ i ∈ Region.ready md ops listed, wpOp P ops Q i (fun a' w' => (i ≠ z → S w') ∧ wpAnyK P md ops Q S z fuel (listed.setIfInBounds i true) a' w') a w

theorem wpAny_of_K : ∀ (fuel : Nat) (listed : Array Bool) (a : Act) (w : World), wpAnyK P md ops Q S z fuel listed a w → wpAny P md ops Q fuel listed a w
  | 0, _, _, _, h => h
  | fuel + 1, _, _, _, h => ⟨h.1, fun i hi => wpOp_mono (fun a' w' h' => wpAny_of_K fuel _ a' w' h'.2) (h.2 i hi)⟩

/-- Number z does not come up while one that it waits for has not. -/
theorem not_ready_of {i : Nat} {listed : Array Bool} (hz : Region.waitsFor md ops z i = true) (hun : listed.getD i true = false) : z ∉ Region.ready md ops listed := by
  intro hr
  obtain ⟨_, oz, hoz, hall⟩ := mem_ready.1 hr
  obtain ⟨o', ho', e, he, hb, hon⟩ := Region.waitsFor_spec hz
  have : o' = oz := Option.some.inj (ho'.symm.trans hoz)
  subst this
  have h3 := hall e he hb
  rw [hon, getD_both hun] at h3
  cases h3

theorem wpAnyK_first {i : Nat} {oi : Oper} {v : Value} (hi : ops[i]? = some oi) (hsel : ∀ (j : Nat) (o : Oper) cs b, ops[j]? = some o → o.op ≠ .select cs b)
    (hQ : ∀ c a w, Q (.panic c) (a.put oi.dst v) w → Q (.panic c) a w) (hz : Region.waitsFor md ops z i = true) (hiz : i ≠ z) :
    ∀ (fuel : Nat) (listed : Array Bool) (a : Act) (w : World),
      (∀ j oj, ops[j]? = some oj → j ≠ i → listed.getD j true = false → (∀ e ∈ oj.after, Region.binds md e = true → e.on ≠ i) → oi.apart ops oj = true) →
      i ∈ Region.ready md ops listed → YieldsIf P ops S oi v a → S w →
      wpAnyK P md ops Q S z fuel (listed.setIfInBounds i true) (a.put oi.dst v) w → wpAnyK P md ops Q S z (fuel + 1) listed a w := by
  intro fuel
  induction fuel with
  | zero =>
    intro listed a w _ hr hy hS H
    refine ⟨fun h => (by rw [h] at hr; cases hr), fun j hj => ?_⟩
    by_cases hji : j = i
    · subst hji; exact hy.wpOp hi hS ⟨fun _ => hS, H⟩
    · have := ready_mono hj hji
      rw [H.1] at this
      cases this
  | succ fuel ih =>
    intro listed a w hfree hr hy hS H
    have hun := (mem_ready.1 hr).1
    refine ⟨fun h => (by rw [h] at hr; cases hr), fun j hj => ?_⟩
    by_cases hji : j = i
    · subst hji; exact hy.wpOp hi hS ⟨fun _ => hS, H⟩
    · have hjz : j ≠ z := fun e => by subst e; exact not_ready_of hz hun hj
      have h1 := H.2 j (ready_mono hj hji)
      obtain ⟨hjun, oj, hoj, hall⟩ := mem_ready.1 hj
      have hnot : ∀ e ∈ oj.after, Region.binds md e = true → e.on ≠ i := fun e he hb heq => by
        have h1 := hall e he hb
        rw [heq, getD_both hun] at h1
        cases h1
      have h2 := wpOp_putIf hoj (hfree j oj hoj hji hjun hnot) (fun cs b => hsel i oi cs b hi) (fun cs b => hsel j oj cs b hoj) hQ hy h1
      have hfree' : ∀ k ok, ops[k]? = some ok → k ≠ i → (listed.setIfInBounds j true).getD k true = false →
          (∀ e ∈ ok.after, Region.binds md e = true → e.on ≠ i) → oi.apart ops ok = true := fun k ok hk hki hun hno => by
        refine hfree k ok hk hki ?_ hno
        by_cases hjk : j = k
        · subst hjk; exact hjun
        · rw [getD_set_ne true hjk] at hun; exact hun
      refine wpOp_mono (fun a' w' h3 => ⟨h3.2.1, ih (listed.setIfInBounds j true) a' w' hfree' (ready_mono hr (Ne.symm hji)) h3.1 (h3.2.1 hjz) ?_⟩) h2
      rw [Array.setIfInBounds_comm _ _ hji]
      exact h3.2.2

/-- Take number i first. -/
theorem wpAnyK_take {i : Nat} {oi : Oper} {v : Value} {fuel : Nat} {listed : Array Bool} {a : Act} {w : World} (hi : ops[i]? = some oi)
    (hs : Region.noSelect ops = true) (hf : Region.free md ops listed i = true) (hr : (Region.ready md ops listed).contains i = true) (hz : Region.waitsFor md ops z i = true) (hiz : i ≠ z)
    (hQ : ∀ c a w, Q (.panic c) (a.put oi.dst v) w → Q (.panic c) a w) (hS : S w) (hy : YieldsIf P ops S oi v a)
    (h : wpAnyK P md ops Q S z fuel (listed.setIfInBounds i true) (a.put oi.dst v) w) : wpAnyK P md ops Q S z (fuel + 1) listed a w :=
  wpAnyK_first hi (Region.noSelect_spec hs) hQ hz hiz fuel listed a w (Region.free_spec hi hf) (by simpa using hr) hy hS h

/-- The same, the slot under a letter. -/
theorem wpAnyK_takeD {i : Nat} {oi : Oper} {v : Value} {fuel : Nat} {listed : Array Bool} {a : Act} {w : World} (d : Option Nat) (hi : ops[i]? = some oi) (hd : oi.dst = d)
    (hs : Region.noSelect ops = true) (hf : Region.free md ops listed i = true) (hr : (Region.ready md ops listed).contains i = true) (hz : Region.waitsFor md ops z i = true) (hiz : i ≠ z)
    (hQ : ∀ c a w, Q (.panic c) (a.put d v) w → Q (.panic c) a w) (hS : S w) (hy : YieldsIf P ops S oi v a)
    (h : wpAnyK P md ops Q S z fuel (listed.setIfInBounds i true) (a.put d v) w) : wpAnyK P md ops Q S z (fuel + 1) listed a w := by
  subst hd
  exact wpAnyK_take hi hs hf hr hz hiz hQ hS hy h

/-- Each of the operations rs comes up next. -/
def AllReadyK (P : Program) (md : Region.Mode) (ops : Array Oper) (Q : Exit → Act → World → Prop) (S : World → Prop) (z : Nat) (fuel : Nat) (listed : Array Bool) (a : Act) (w : World) (rs : List Nat) : Prop :=
  ∀ i ∈ rs, wpOp P ops Q i (fun a' w' => (i ≠ z → S w') ∧ wpAnyK P md ops Q S z fuel (listed.setIfInBounds i true) a' w') a w

theorem AllReadyK.nil {fuel : Nat} {listed : Array Bool} {a : Act} {w : World} : AllReadyK P md ops Q S z fuel listed a w [] := fun _ h => by cases h

theorem AllReadyK.cons {fuel : Nat} {listed : Array Bool} {a : Act} {w : World} {i : Nat} {o : Oper} {rs : List Nat} (ho : ops[i]? = some o)
    (h : ∀ K' : Act → World → Prop, Shut (∀ a w, (i ≠ z → S w) → wpAnyK P md ops Q S z fuel (listed.setIfInBounds i true) a w → K' a w) → if Region.wanted o (yielded ops a.tmps) = true then Oper.wp P o a w K' Q else K' (a.put o.dst undef) w)
    (hs : AllReadyK P md ops Q S z fuel listed a w rs) : AllReadyK P md ops Q S z fuel listed a w (i :: rs) := fun j hj => by
  rcases List.mem_cons.1 hj with rfl | hj
  · exact wpOp_step ho (fun K' hK => h K' (fun a w hS hW => hK a w ⟨hS, hW⟩))
  · exact hs j hj

/-- The same, what is handed on laid into slot d. -/
theorem AllReadyK.consD {fuel : Nat} {listed : Array Bool} {a : Act} {w : World} {i : Nat} {o : Oper} {rs : List Nat} (d : Option Nat) (ho : ops[i]? = some o) (hd : o.dst = d)
    (h : ∀ K' : Act → World → Prop, Shut (∀ v w, (i ≠ z → S w) → wpAnyK P md ops Q S z fuel (listed.setIfInBounds i true) (a.put d v) w → K' (a.put o.dst v) w) → if Region.wanted o (yielded ops a.tmps) = true then Oper.wp P o a w K' Q else K' (a.put o.dst undef) w)
    (hs : AllReadyK P md ops Q S z fuel listed a w rs) : AllReadyK P md ops Q S z fuel listed a w (i :: rs) := by
  subst hd
  exact AllReadyK.cons ho (fun K' hK => h K' (fun v w hS hW => hK.out _ w hS hW)) hs

theorem wpAnyK_ready {rs : List Nat} {fuel : Nat} {listed : Array Bool} {a : Act} {w : World} (hr : Region.ready md ops listed = rs) (hne : rs ≠ [])
    (h : AllReadyK P md ops Q S z fuel listed a w rs) : wpAnyK P md ops Q S z (fuel + 1) listed a w :=
  ⟨fun h0 => absurd (hr ▸ h0) hne, hr ▸ h⟩

theorem wpAnyK_done {listed : Array Bool} {a : Act} {w : World} (hr : Region.ready md ops listed = []) (h : Q .normal a w) :
    ∀ fuel, wpAnyK P md ops Q S z fuel listed a w
  | 0 => ⟨hr, h⟩
  | _ + 1 => ⟨fun _ => h, by rw [hr]; simp⟩

/-- The beginning. -/
theorem wp_region_K {id : Nat} {a : Act} {w : World} (S : World → Prop) (z : Nat) (hm : P.follows .mixedOrders = true)
    (h : wpAnyK P .any ops Q S z ops.size (Array.replicate ops.size false) a w.drew) : (Code.region id ops true).wp P Q a w :=
  wp_region_any hm (wpAny_of_K _ _ _ _ h)
end
end Go.Proofs.YtmjkbdgcnoenbaaGreatDoor

/- More on rows of the call's own: where they lie, joined rows, rows of texts. -/
namespace Go.Proofs.YtmjkbdgcnoenbaaGreatDoor
open Go Go.RowKit
set_option linter.unusedVariables false

/-- A row's block is an old one's, or new. -/
def Fresh (w : World) (q q' : Value) : Prop := ∀ g, q'.ownBlock = some g → q.ownBlock = some g ∨ w.heap.size ≤ g

theorem Fresh.refl (w : World) (q : Value) : Fresh w q q := fun _ h => Or.inl h

/-- A row's block lies behind whatever lies ahead of its base. -/
theorem KQ.rebase {α : Type} {K : Kind α} {T : TypeId} {w : World} {B B' : Nat} {q : Value} {l : List α} (h : KQ K T w B q l) (hB : B' ≤ B) : KQ K T w B' q l := by
  refine ⟨⟨h.row.1, h.row.2.imp id ?_⟩, h.at_, h.off, fun k hk => ⟨Nat.le_trans hB (h.lt k hk).1, (h.lt k hk).2⟩, h.nil⟩
  rintro ⟨g, pre, post, cap, e, hb, r⟩
  exact ⟨g, pre, post, cap, e, Nat.le_trans hB hb, r⟩

theorem own_belowT {B : Nat} {e : TypeId} {k : Nat} {v : Value} {n : Nat} {xs : List Value} {w w' : World} (h : w.ownsRow B e k v n xs) (hb : Below w.heap.size w w') : w'.ownsRow B e k v n xs := by
  refine ⟨h.1, h.2.imp id ?_⟩
  rintro ⟨g, cap, cur, e1, e2, e3, e4⟩
  have hg : g < w.heap.size := (Array.getElem?_eq_some_iff.1 e3).1
  exact ⟨g, cap, cur, e1, e2, (hb.block g hg).trans e3, e4⟩

theorem RowAt.dropG {α : Type} {K : Kind α} {w : World} {b off : Nat} {l : List α} (h : RowAt K w (some ⟨b, off, none⟩) l) (i : Nat) : RowAt K w (some ⟨b, off + i * K.n, none⟩) (l.drop i) := by
  refine ⟨fun k t ht => ?_, fun x hx => h.at_ x (List.mem_of_mem_drop hx)⟩
  rw [List.getElem?_drop] at ht
  obtain ⟨b', off', e', h1, h2⟩ := h.cell _ t ht
  simp only [Option.some.injEq, Addr.mk.injEq, and_true] at e'
  obtain ⟨rfl, rfl⟩ := e'
  refine ⟨_, _, rfl, h1, fun q v hv => ?_⟩
  have := h2 q v hv
  have ea : off + (i + k) * K.n + q = off + i * K.n + k * K.n + q := by rw [Nat.add_mul]; omega
  rw [ea] at this
  exact this

/-- Behind three appends. -/
theorem KQ.joined {α : Type} {K : Kind α} {T : TypeId} {w : World} {B : Nat} {ao : Option Addr} {N cap : Nat} {LT LD lo : List α} {x : α} (hf : ∀ x b, ¬ K.foot x b) (hA : ∀ x, K.At w x) (h : w.ownsRow B T K.n (.slice ao N cap) N ([] ++ flatK K LT ++ flatK K [x] ++ flatK K LD)) (hl : lo = LT ++ x :: LD) (hN : N = lo.length) : KQ K T w B (.slice ao N cap) lo := by
  have e : [] ++ flatK K LT ++ flatK K [x] ++ flatK K LD = flatK K lo := by
    rw [hl, List.nil_append, ← flatK_append, ← flatK_append, List.append_assoc]
    rfl
  rw [e] at h
  exact KQ.of_own hf (fun x _ => hA x) hN h

theorem infoStrT : (Tryz.prog.info? 9).any (fun i => i.size == 1 && i.bytes == 16 && (match i.zero with | some z => z.cells.size == 1 | none => false)) = true := by kernel_rfl

theorem strInfoT : ∃ i z, Tryz.prog.info? 9 = some i ∧ i.zero = some z ∧ i.size = 1 ∧ i.bytes = 16 ∧ z.cells.size = 1 := by
  have h := infoStrT
  cases hi : Tryz.prog.info? 9 with
  | none => rw [hi] at h; cases h
  | some i =>
    rw [hi] at h
    simp only [Option.any_some, Bool.and_eq_true, beq_iff_eq] at h
    cases hz : i.zero with
    | none => rw [hz] at h; simp at h
    | some z =>
      rw [hz] at h
      exact ⟨i, z, rfl, hz, h.1.1, h.1.2, by simpa using h.2⟩

/-- Texts. -/
def textK : Kind ByteArray where
  n := 1
  c x := [.string x]
  foot _ _ := False
  At _ _ := True
  pos := by decide
  len _ := rfl
  one x u hu := by
    simp only [List.mem_cons, List.not_mem_nil, or_false] at hu
    rcases hu with rfl; rfl
  lt _ h := h.elim
  keep _ _ := trivial

theorem new_text (w : World) (x : ByteArray) : ∀ j u, (textK.c x)[j]? = some u → (w.alloc (.cells #[.string x] 9)).cell? ((⟨w.heap.size, 0, none⟩ : Addr).add j) = some u := by
  intro j u hu
  rw [Go.WideShapes.add_plain, Nat.zero_add]
  exact (Arr.new w 9 [.string x]).cell hu

/-- What a table has behind an act: what it had, or new. -/
def FreshS (w : World) (S S' : Nat → Prop) : Prop := ∀ k, S' k → S k ∨ w.heap.size ≤ k

/-- Where a row that is not empty lies. -/
theorem KQ.spot {α : Type} {K : Kind α} {T : TypeId} {w : World} {base : Nat} {ao : Option Addr} {n cap : Nat} {l : List α} (h : KQ K T w base (.slice ao n cap) l) (hl : 0 < l.length) : ∃ g off, ao = some ⟨g, off, none⟩ ∧ base ≤ g ∧ g < w.heap.size ∧ n = l.length ∧ n ≤ cap := by
  rcases h.row.2 with ⟨ao', hv, hn⟩ | ⟨g, pre, post, cap', hv, hb, hg, hnc, hcm, hpl⟩
  · omega
  · simp only [Value.slice.injEq] at hv
    obtain ⟨rfl, rfl, rfl⟩ := hv
    exact ⟨g, pre.length, rfl, hb, hg.lt, rfl, hnc⟩
end Go.Proofs.YtmjkbdgcnoenbaaGreatDoor

/- Things by ids and rounds, as lists. -/
namespace Go.Proofs.YtmjkbdgcnoenbaaGreatDoor
open Go.RowKit
set_option linter.unusedVariables false

/-- A thing, its id and its round. -/
structure ThingD where
  id : ByteArray
  round : Int
  s : ByteArray

instance : Inhabited ThingD := ⟨⟨⟨#[]⟩, 0, ⟨#[]⟩⟩⟩

/-- What is in by an id. -/
def getR (l : List ThingD) (id : ByteArray) : Option ThingD := l.find? (fun x => x.id.toList == id.toList)

def gotS (o : Option ThingD) : ByteArray := match o with | some x => x.s | none => ⟨#[]⟩
def gotR (o : Option ThingD) : Int := match o with | some x => x.round | none => 0

/-- Where a new id goes. -/
def putAt (l : List ThingD) (id : ByteArray) : Nat := (l.takeWhile (fun x => Op.bytesLess x.id.toList id.toList)).length

def putL (l : List ThingD) (x : ThingD) : List ThingD := l.take (putAt l x.id) ++ x :: l.drop (putAt l x.id)

/-- What Put answers. -/
def putE (most : Int) (l : List ThingD) (cut : Bool) (low : Int) (id : ByteArray) (round : Int) : Nat :=
  if (getR l id).isSome = true then 13 else if cut = true ∧ round < low then 11 else if most ≤ (l.length : Int) then 4 else 0

def putT (most : Int) (l : List ThingD) (cut : Bool) (low : Int) (x : ThingD) : List ThingD := if putE most l cut low x.id x.round = 0 then putL l x else l

/-- The ids of a round; those of lesser rounds taken out. -/
def idsL (l : List ThingD) (round : Int) : List ByteArray := (l.filter (fun x => x.round == round)).map (·.id)
def dropL (l : List ThingD) (round : Int) : List ThingD := l.filter (fun x => decide (round ≤ x.round))
def lowR (cut : Bool) (low round : Int) : Int := if cut = false ∨ low < round then round else low

theorem dropL_le (l : List ThingD) (round : Int) : (dropL l round).length ≤ l.length := List.length_filter_le _ _
theorem idsL_le (l : List ThingD) (round : Int) : (idsL l round).length ≤ l.length := by
  unfold idsL
  rw [List.length_map]
  exact List.length_filter_le _ _
end Go.Proofs.YtmjkbdgcnoenbaaGreatDoor

/- The pure side of layer 11: what is in a table as a list that rises by ids. -/
namespace Go.Proofs.YtmjkbdgcnoenbaaGreatDoor
open Go Go.RowKit
set_option linter.unusedVariables false

theorem getR_none {l : List ThingD} {id : ByteArray} (h : id ∉ l.map (·.id)) : getR l id = none := by
  unfold getR
  rw [List.find?_eq_none]
  intro y hy
  rw [bytes_eq]
  simp only [decide_eq_true_eq]
  exact fun e => h (List.mem_map.2 ⟨y, hy, e⟩)

theorem getR_cons (x : ThingD) (l : List ThingD) (id : ByteArray) : getR (x :: l) id = if x.id = id then some x else getR l id := by
  unfold getR
  rw [List.find?_cons, bytes_eq]
  by_cases h : x.id = id
  · rw [decide_eq_true h, if_pos h]
  · rw [decide_eq_false h, if_neg h]

theorem getR_drop {l : List ThingD} (r : Int) (id : ByteArray) : (l.map (·.id)).Nodup → getR (dropL l r) id = match getR l id with | some x => if r ≤ x.round then some x else none | none => none := by
  induction l with
  | nil => intro _; rfl
  | cons x l ih =>
    intro hn
    rw [List.map_cons, List.nodup_cons] at hn
    have ih := ih hn.2
    have ed : dropL (x :: l) r = if r ≤ x.round then x :: dropL l r else dropL l r := by
      unfold dropL
      rw [List.filter_cons]
      by_cases hr : r ≤ x.round <;> simp [hr]
    have hsub : ∀ i, i ∉ l.map (·.id) → i ∉ (dropL l r).map (·.id) := by
      intro i hi hm
      obtain ⟨y, hy, e⟩ := List.mem_map.1 hm
      exact hi (List.mem_map.2 ⟨y, (List.mem_filter.1 hy).1, e⟩)
    rw [getR_cons, ed]
    by_cases he : x.id = id
    · rw [if_pos he]
      by_cases hr : r ≤ x.round
      · simp only [if_pos hr]
        rw [getR_cons, if_pos he]
      · simp only [if_neg hr]
        exact getR_none (hsub _ (by rw [← he]; exact hn.1))
    · rw [if_neg he]
      by_cases hr : r ≤ x.round
      · rw [if_pos hr, getR_cons, if_neg he]
        exact ih
      · rw [if_neg hr]
        exact ih

theorem getR_some {l : List ThingD} {id : ByteArray} {x : ThingD} (h : getR l id = some x) : x ∈ l ∧ x.id = id := by
  unfold getR at h
  have h1 := List.mem_of_find?_eq_some h
  have h2 := List.find?_some h
  rw [bytes_eq] at h2
  exact ⟨h1, of_decide_eq_true h2⟩

theorem dropL_nod {l : List ThingD} (h : (l.map (·.id)).Nodup) (r : Int) : ((dropL l r).map (·.id)).Nodup := by
  unfold dropL
  induction l with
  | nil => exact List.nodup_nil
  | cons x l ih =>
    rw [List.map_cons, List.nodup_cons] at h
    rw [List.filter_cons]
    split
    · rw [List.map_cons, List.nodup_cons]
      refine ⟨fun hm => ?_, ih h.2⟩
      obtain ⟨y, hy, e⟩ := List.mem_map.1 hm
      exact h.1 (List.mem_map.2 ⟨y, (List.mem_filter.1 hy).1, e⟩)
    · exact ih h.2

/-- The things of a table stand by rising ids. -/
def Rise (l : List ThingD) : Prop := l.Pairwise (fun x y => x.id.toList < y.id.toList)

theorem Rise.nil : Rise [] := List.Pairwise.nil

theorem Rise.filter {l : List ThingD} (h : Rise l) (p : ThingD → Bool) : Rise (l.filter p) := List.Pairwise.filter p h

theorem Rise.drop {l : List ThingD} (h : Rise l) (r : Int) : Rise (dropL l r) := h.filter _

theorem Rise.nod {l : List ThingD} (h : Rise l) : (l.map (·.id)).Nodup := by
  unfold List.Nodup
  rw [List.pairwise_map]
  exact h.imp (fun {x y} h e => by rw [e] at h; exact List.lt_irrefl _ h)

theorem putL_cons (y : ThingD) (l : List ThingD) (x : ThingD) : putL (y :: l) x = if y.id.toList < x.id.toList then y :: putL l x else x :: y :: l := by
  unfold putL putAt
  rw [List.takeWhile_cons, lessT_eq]
  by_cases h : y.id.toList < x.id.toList
  · rw [decide_eq_true h, if_pos h]
    simp
  · rw [decide_eq_false h, if_neg h]
    simp

theorem putL_mem {l : List ThingD} {x y : ThingD} : y ∈ putL l x ↔ y = x ∨ y ∈ l := by
  induction l with
  | nil => simp [putL]
  | cons z l ih =>
    rw [putL_cons]
    split
    · rw [List.mem_cons, ih, List.mem_cons]
      constructor
      · rintro (h | h | h)
        · exact Or.inr (Or.inl h)
        · exact Or.inl h
        · exact Or.inr (Or.inr h)
      · rintro (h | h | h)
        · exact Or.inr (Or.inl h)
        · exact Or.inl h
        · exact Or.inr (Or.inr h)
    · exact List.mem_cons

theorem putL_length (l : List ThingD) (x : ThingD) : (putL l x).length = l.length + 1 := by
  induction l with
  | nil => rfl
  | cons z l ih =>
    rw [putL_cons]
    split
    · rw [List.length_cons, ih, List.length_cons]
    · rfl

theorem Rise.put {l : List ThingD} (h : Rise l) {x : ThingD} (hx : x.id ∉ l.map (·.id)) : Rise (putL l x) := by
  induction l with
  | nil => exact List.pairwise_singleton _ _
  | cons z l ih =>
    obtain ⟨h1, h2⟩ := List.pairwise_cons.1 h
    rw [List.map_cons, List.mem_cons, not_or] at hx
    rw [putL_cons]
    split
    · next hlt =>
      refine List.pairwise_cons.2 ⟨fun y hy => ?_, ih h2 hx.2⟩
      rcases putL_mem.1 hy with rfl | hy
      · exact hlt
      · exact h1 y hy
    · next hge =>
      have hlt : x.id.toList < z.id.toList := by
        rcases Std.lt_trichotomy x.id.toList z.id.toList with h | h | h
        · exact h
        · exact (hx.1 (bytes_inj h)).elim
        · exact (hge h).elim
      refine List.pairwise_cons.2 ⟨fun y hy => ?_, h⟩
      rcases List.mem_cons.1 hy with rfl | hy
      · exact hlt
      · exact List.lt_trans hlt (h1 y hy)

theorem getR_put {l : List ThingD} {x : ThingD} (hx : x.id ∉ l.map (·.id)) (id : ByteArray) : getR (putL l x) id = if x.id = id then some x else getR l id := by
  induction l with
  | nil => exact getR_cons x [] id
  | cons z l ih =>
    rw [List.map_cons, List.mem_cons, not_or] at hx
    rw [putL_cons]
    split
    · rw [getR_cons, ih hx.2, getR_cons]
      by_cases h1 : z.id = id
      · rw [if_pos h1, if_pos h1, if_neg (fun e => hx.1 (e.trans h1.symm))]
      · rw [if_neg h1, if_neg h1]
    · exact getR_cons x _ id

theorem getR_mem {l : List ThingD} (h : (l.map (·.id)).Nodup) {x : ThingD} (hx : x ∈ l) : getR l x.id = some x := by
  induction l with
  | nil => cases hx
  | cons z l ih =>
    rw [List.map_cons, List.nodup_cons] at h
    rw [getR_cons]
    rcases List.mem_cons.1 hx with rfl | hx
    · rw [if_pos rfl]
    · rw [if_neg (fun e => h.1 (by rw [e]; exact List.mem_map.2 ⟨x, hx, rfl⟩)), ih h.2 hx]

theorem ids_rise {l : List ThingD} (h : Rise l) (r : Int) : (idsL l r).Pairwise (fun a b => a.toList < b.toList) := by
  unfold idsL
  rw [List.pairwise_map]
  exact h.filter _

theorem ids_mem {l : List ThingD} (h : (l.map (·.id)).Nodup) {r : Int} {i : ByteArray} : i ∈ idsL l r ↔ ∃ x, getR l i = some x ∧ x.round = r := by
  unfold idsL
  rw [List.mem_map]
  constructor
  · rintro ⟨x, hx, rfl⟩
    obtain ⟨h1, h2⟩ := List.mem_filter.1 hx
    exact ⟨x, getR_mem h h1, by simpa using h2⟩
  · rintro ⟨x, hx, e⟩
    obtain ⟨h1, h2⟩ := getR_some hx
    exact ⟨x, List.mem_filter.2 ⟨h1, by simpa using e⟩, h2⟩
end Go.Proofs.YtmjkbdgcnoenbaaGreatDoor

/- A header that is right is plain; without acks, or with parents turned, it is not right. -/
namespace Go.Proofs.YtmjkbdgcnoenbaaGreatDoor
open Go.RowKit
set_option linter.unusedVariables false

theorem digE_zero {d a : ByteArray} (h : digE d a = 0) : d.size = 32 ∧ leB d a = false := by
  unfold digE at h
  by_cases h1 : d.size ≠ 32
  · rw [if_pos h1] at h; omega
  · rw [if_neg h1] at h
    cases hl : leB d a with
    | true => rw [if_pos hl] at h; omega
    | false => exact ⟨by omega, rfl⟩

theorem risP_zero : ∀ (l : List ByteArray) (a : ByteArray), risP a l = 0 → ∀ p ∈ l, p.size = 32
  | [], _, _, p, hp => by cases hp
  | k :: r, a, h, p, hp => by
    rw [risP] at h
    by_cases hd : digE k a ≠ 0
    · rw [if_pos hd] at h; omega
    · rw [if_neg hd] at h
      rcases List.mem_cons.1 hp with rfl | hp
      · exact (digE_zero (d := p) (a := a) (by omega)).1
      · exact risP_zero r k h p hp

theorem refP_zero {en : List TagD → ByteArray → Nat} : ∀ (l : List RefD) (a : ByteArray), refP en a l = 0 → ∀ x ∈ l, x.digest.size = 32 ∧ en x.acks x.digest = 0
  | [], _, _, p, hp => by cases hp
  | k :: r, a, h, p, hp => by
    rw [refP] at h
    by_cases hd : digE k.digest a ≠ 0
    · rw [if_pos hd] at h; omega
    · rw [if_neg hd] at h
      by_cases he : en k.acks k.digest ≠ 0
      · rw [if_pos he] at h; omega
      · rw [if_neg he] at h
        rcases List.mem_cons.1 hp with rfl | hp
        · exact ⟨(digE_zero (d := p.digest) (a := a) (by omega)).1, by omega⟩
        · exact refP_zero r k.digest h p hp

theorem go_zero {ks : List ByteArray} {kind word : ByteArray} : ∀ (l : List (Int × ByteArray)) (ahead : Int), -1 ≤ ahead → Mx.enoughGo ks kind word ahead l = 0 → (l = [] ∨ (l.length : Int) + ahead + 1 ≤ ks.length) ∧ ∀ x ∈ l, 0 ≤ x.1 ∧ x.1 < ks.length ∧ x.2.size = 16
  | [], _, _, _ => ⟨Or.inl rfl, fun x hx => by cases hx⟩
  | x :: l, ahead, ha, h => by
    rw [Mx.enoughGo] at h
    by_cases he : Mx.tagErr ks kind word ahead x = 0
    · rw [if_pos he] at h
      unfold Mx.tagErr at he
      by_cases h1 : x.1 < 0 ∨ (ks.length : Int) ≤ x.1
      · rw [if_pos h1] at he; omega
      rw [if_neg h1] at he
      by_cases h2 : x.1 ≤ ahead
      · rw [if_pos h2] at he; omega
      rw [if_neg h2] at he
      by_cases h3 : x.2 = Mx.macOf (ks.getD x.1.toNat ⟨#[]⟩) kind word
      · obtain ⟨i1, i2⟩ := go_zero l x.1 (by omega) h
        refine ⟨Or.inr ?_, fun y hy => ?_⟩
        · rw [List.length_cons]
          rcases i1 with rfl | i1
          · simp; omega
          · omega
        · rcases List.mem_cons.1 hy with rfl | hy
          · exact ⟨by omega, by omega, by rw [h3]; exact Mx.macOf_size _ _ _⟩
          · exact i2 y hy
      · rw [if_neg h3] at he; omega
    · rw [if_neg he] at h
      exact absurd h he

theorem go_take {ks : List ByteArray} {kind word : ByteArray} : ∀ (l : List (Int × ByteArray)) (ahead : Int) (m : Nat), Mx.enoughGo ks kind word ahead l = 0 → Mx.enoughGo ks kind word ahead (l.take m) = 0
  | [], _, m, _ => by simp [Mx.enoughGo]
  | x :: l, ahead, 0, _ => by simp [Mx.enoughGo]
  | x :: l, ahead, m + 1, h => by
    rw [Mx.enoughGo] at h
    rw [List.take_succ_cons, Mx.enoughGo]
    by_cases he : Mx.tagErr ks kind word ahead x = 0
    · rw [if_pos he] at h ⊢
      exact go_take l x.1 m h
    · rw [if_neg he] at h
      exact absurd h he

theorem pairT_take (l : List TagD) (m : Nat) : pairT (l.take m) = (pairT l).take m := by simp [pairT, List.map_take]

/-- Tags that are enough: how many, and of which form. -/
theorem enT_zero {ks : List ByteArray} {f : Nat} {l : List TagD} {d : ByteArray} (hk : ks.length = 3 * f + 1) (hf : f ≤ 2) (h : enT ks f l d = 0) : 2 * f + 1 ≤ l.length ∧ l.length ≤ 7 ∧ (∀ t ∈ l, t.Fit) ∧ enT ks f (l.take (2 * f)) d = 12 := by
  unfold enT Mx.enoughL at h
  by_cases h0 : Mx.enoughGo ks ackW d (-1) (pairT l) = 0
  · rw [if_pos h0] at h
    by_cases h1 : (pairT l).length < 2 * f + 1
    · rw [if_pos h1] at h; omega
    · rw [pairT_length] at h1
      obtain ⟨i1, i2⟩ := go_zero (pairT l) (-1) (by omega) h0
      refine ⟨by omega, ?_, fun t ht => ?_, ?_⟩
      · rcases i1 with e | i1
        · have := congrArg List.length e
          rw [pairT_length] at this
          simp at this
          rw [this]
          simp
        · rw [pairT_length] at i1
          omega
      · have := i2 (t.who, t.mac) (List.mem_map.2 ⟨t, ht, rfl⟩)
        exact ⟨this.1, by have := this.2.1; simp only at this; omega, this.2.2⟩
      · unfold enT Mx.enoughL
        rw [pairT_take, if_pos (go_take _ _ _ h0), if_pos (by rw [List.length_take, pairT_length]; omega)]
  · rw [if_neg h0] at h
    exact absurd h h0

/-- The parts of a header that is right. -/
theorem chkH_parts {n need : Nat} {en : List TagD → ByteArray → Nat} {h : HdrD} (hc : chkH n need en h = 0) : ¬ (h.author < 0 ∨ (n : Int) ≤ h.author ∨ h.round < 1 ∨ 4611686018427387903 < h.round) ∧ h.refs.length ≤ 4 ∧ refP en ⟨#[]⟩ h.refs = 0 ∧ risP ⟨#[]⟩ h.parents = 0 ∧ h.parents.length ≤ n := by
  unfold chkH at hc
  by_cases h1 : h.author < 0 ∨ (n : Int) ≤ h.author ∨ h.round < 1 ∨ 4611686018427387903 < h.round
  · rw [if_pos h1] at hc; omega
  rw [if_neg h1] at hc
  by_cases h2 : 4 < h.refs.length
  · rw [if_pos h2] at hc; omega
  rw [if_neg h2] at hc
  by_cases h3 : refP en ⟨#[]⟩ h.refs ≠ 0
  · rw [if_pos h3] at hc; omega
  rw [if_neg h3] at hc
  by_cases h4 : risP ⟨#[]⟩ h.parents ≠ 0
  · rw [if_pos h4] at hc; omega
  rw [if_neg h4] at hc
  refine ⟨h1, by omega, by omega, by omega, ?_⟩
  unfold countE at hc
  by_cases h5 : h.round = 1 ∧ 0 < h.parents.length
  · rw [if_pos h5] at hc; omega
  rw [if_neg h5] at hc
  by_cases h6 : 1 < h.round ∧ h.parents.length < need
  · rw [if_pos h6] at hc; omega
  rw [if_neg h6] at hc
  by_cases h7 : n < h.parents.length
  · rw [if_pos h7] at hc; omega
  · omega

theorem right_fit {ks : List ByteArray} {f : Nat} {h : HdrD} (hk : ks.length = 3 * f + 1) (hf : f ≤ 2) (hc : chkH (3 * f + 1) (2 * f + 1) (enT ks f) h = 0) : h.Fit := by
  obtain ⟨h1, h2, h3, h4, h5⟩ := chkH_parts hc
  refine ⟨by omega, by omega, by omega, by omega, h2, fun x hx => ?_, by omega, fun p hp => by have := risP_zero _ _ h4 p hp; omega⟩
  obtain ⟨r1, r2⟩ := refP_zero _ _ h3 x hx
  obtain ⟨_, e2, e3, _⟩ := enT_zero hk hf r2
  exact ⟨by omega, e2, e3⟩
end Go.Proofs.YtmjkbdgcnoenbaaGreatDoor

/- A map of texts to whatever values: what is in by each text; how it is looked up in, written, and struck from. -/
namespace Go.Proofs.YtmjkbdgcnoenbaaGreatDoor
open Go Go.RowKit Go.Maps
set_option linter.unusedVariables false

/-- Values as they are. -/
def heldElem (v : Value) : Option (DataW Value × List MemPlace) := some (.held v, [])

/-- A text as a key. -/
def keyS (id : ByteArray) : Lit := .string id.data.toList

theorem keyS_inj {a b : ByteArray} (h : keyS a = keyS b) : a = b := by
  unfold keyS at h
  simp only [Lit.string.injEq] at h
  cases a
  cases b
  simpa using h

theorem keyS_ok (id : ByteArray) : WideAt.IsKeyLit (keyS id) := trivial

theorem lawStr : Keyed Tryz.prog 9 := string_keyed Tryz.underlying9

theorem keyS_of {id : ByteArray} (h : id.size ≤ maxLen) : keyOf Tryz.prog 9 (.string id) = some (keyS id) := Go.WideMaps.keyOf_string_mk Tryz.underlying9 h

/-- Block b is a map that holds by each text what f tells, n things in all. -/
def SMap (w : World) (b : Nat) (f : ByteArray → Option Value) (n : Nat) : Prop :=
  ∃ D : DataW Value, w.ownsMap Tryz.prog 9 heldElem b n D ∧ Maps.size D = n ∧ (∀ id, Maps.has D (keyS id) = (f id).isSome) ∧ ∀ id z, D.atKey (keyS id) z = match f id with | some v => .held v | none => z

theorem owns_tight {k : TypeId} {R : Value → Option (DataW Value × List MemPlace)} {w : World} {b n : Nat} {D : DataW Value} (h : w.ownsMap Tryz.prog k R b n D) : w.ownsMap Tryz.prog k R b (Maps.size D) D := by
  obtain ⟨es, clock, hb, F, hs, rfl⟩ := h
  refine ⟨es, clock, hb, F, ?_, rfl⟩
  rw [Maps.size_eq, length_read]
  exact Nat.le_refl _

theorem SMap.lt {w : World} {b : Nat} {f : ByteArray → Option Value} {n : Nat} (h : SMap w b f n) : b < w.heap.size := by
  obtain ⟨D, h1, _⟩ := h
  exact h1.lt

theorem SMap.keep {w w' : World} {b : Nat} {f : ByteArray → Option Value} {n : Nat} (h : SMap w b f n) (hk : w'.heap[b]? = w.heap[b]?) : SMap w' b f n := by
  obtain ⟨D, ⟨es, clock, hb, F, hs, hD⟩, h2⟩ := h
  exact ⟨D, ⟨es, clock, hk.trans hb, F, hs, hD⟩, h2⟩

theorem SMap.kept {S : Nat → Prop} {w w' : World} {b : Nat} {f : ByteArray → Option Value} {n : Nat} (h : SMap w b f n) (hk : Kept S w w') (hb : ¬ S b) : SMap w' b f n := h.keep (hk.block b h.lt hb)

theorem SMap.below {w w' : World} {b : Nat} {f : ByteArray → Option Value} {n : Nat} (h : SMap w b f n) (hb : Below w.heap.size w w') : SMap w' b f n := h.keep (hb.block b h.lt)

theorem SMap.congr {w : World} {b : Nat} {f g : ByteArray → Option Value} {n : Nat} (h : SMap w b f n) (e : ∀ id, g id = f id) : SMap w b g n := by
  obtain rfl : g = f := funext e
  exact h

theorem SMap.new (w : World) : SMap (w.alloc (.map #[] 0)) w.heap.size (fun _ => none) 0 :=
  ⟨.map [], World.ownsMap_made w _ _ _, rfl, fun _ => rfl, fun _ _ => rfl⟩

/-- How many there are behind it. -/
def putN (f : ByteArray → Option Value) (id : ByteArray) (n : Nat) : Nat := if (f id).isSome = true then n else n + 1
def delN (f : ByteArray → Option Value) (id : ByteArray) (n : Nat) : Nat := if (f id).isSome = true then n - 1 else n

/-- What is put in. -/
def putF (f : ByteArray → Option Value) (id : ByteArray) (v : Value) (i : ByteArray) : Option Value := if i = id then some v else f i
def delF (f : ByteArray → Option Value) (id : ByteArray) (i : ByteArray) : Option Value := if i = id then none else f i

theorem SMap.puts {w w' : World} {b : Nat} {f : ByteArray → Option Value} {n m : Nat} {D : DataW Value} {id : ByteArray} {v : Value} (ho : w.ownsMap Tryz.prog 9 heldElem b n D) (h1 : Maps.size D = n) (h2 : ∀ id, Maps.has D (keyS id) = (f id).isSome) (h3 : ∀ id z, D.atKey (keyS id) z = match f id with | some v => .held v | none => z)
    (h : w'.ownsMap Tryz.prog 9 heldElem b m (D.put (keyS id) (.held v))) : SMap w' b (putF f id v) (putN f id n) := by
  have hT := ho.tidy lawStr
  have hsz : Maps.size (D.put (keyS id) (.held v)) = putN f id n := by
    unfold putN
    rw [size_put hT, h2, h1]
  refine ⟨_, by rw [← hsz]; exact owns_tight h, hsz, fun i => ?_, fun i z => ?_⟩
  · unfold putF
    by_cases e : i = id
    · subst e
      rw [if_pos rfl]
      exact has_put_same hT.isMap (keyS_ok _) _
    · rw [if_neg e, has_put_other (fun e' => e (keyS_inj e'))]
      exact h2 i
  · unfold putF
    by_cases e : i = id
    · subst e
      rw [if_pos rfl]
      exact atKey_put_same hT.isMap (keyS_ok _) _ _
    · rw [if_neg e, atKey_put_other (fun e' => e (keyS_inj e'))]
      exact h3 i z

section
variable {w : World} {ops : Array Oper} {rest : List Oper} {o : Oper} {a : Act} {Q : Exit → Act → World → Prop}

/-- 'v, ok := m[id]'. -/
theorem smap_look_ok (hw : Region.wanted o (yielded ops a.tmps) = true) (m x : Operand) (t : TypeId) (hop : o.op = Op.lookup t m x true) (e : TypeId) (ht : Tryz.prog.underlying t = some (.map 9 e)) (z : Value) (hz : (zeroValue e).run Tryz.prog w = .ok z w)
    (b : Nat) (f : ByteArray → Option Value) (n : Nat) (hm : a.eval m = .map (some b)) (h : SMap w b f n) (id : ByteArray) (hid : id.size ≤ maxLen) (hx : a.eval x = .string id)
    (hK : wpList Tryz.prog ops Q rest (a.put o.dst (.tuple #[(f id).getD z, .bool (f id).isSome])) w) : wpList Tryz.prog ops Q (o :: rest) a w := by
  obtain ⟨D, ho, h1, h2, h3⟩ := h
  refine wpList_step fun K' hK' => ?_
  rw [if_pos hw]
  obtain ⟨v, ps, hrun, hv⟩ := ho.look_ok lawStr ht hz (zd := .held z) (zp := []) rfl (keyS_of hid)
  have e1 : v = (f id).getD z := by
    have := h3 id (.held z)
    unfold heldElem at hv
    simp only [Option.some.injEq, Prod.mk.injEq] at hv
    rw [this] at hv
    cases hf : f id with
    | none => rw [hf] at hv; simpa using hv.1
    | some u => rw [hf] at hv; simpa using hv.1
  subst e1
  rw [h2] at hrun
  unfold Oper.wp
  simp [execOp, hop, hm, hx, hrun, Result.andThen]
  exact hK' _ _ hK

/-- 'm[id]'. -/
theorem smap_look (hw : Region.wanted o (yielded ops a.tmps) = true) (m x : Operand) (t : TypeId) (hop : o.op = Op.lookup t m x false) (e : TypeId) (ht : Tryz.prog.underlying t = some (.map 9 e)) (z : Value) (hz : (zeroValue e).run Tryz.prog w = .ok z w)
    (b : Nat) (f : ByteArray → Option Value) (n : Nat) (hm : a.eval m = .map (some b)) (h : SMap w b f n) (id : ByteArray) (hid : id.size ≤ maxLen) (hx : a.eval x = .string id)
    (hK : wpList Tryz.prog ops Q rest (a.put o.dst ((f id).getD z)) w) : wpList Tryz.prog ops Q (o :: rest) a w := by
  obtain ⟨D, ho, h1, h2, h3⟩ := h
  refine wpList_step fun K' hK' => ?_
  rw [if_pos hw]
  obtain ⟨v, ps, hrun, hv⟩ := ho.lookup lawStr ht hz (zd := .held z) (zp := []) rfl (keyS_of hid)
  have e1 : v = (f id).getD z := by
    have := h3 id (.held z)
    unfold heldElem at hv
    simp only [Option.some.injEq, Prod.mk.injEq] at hv
    rw [this] at hv
    cases hf : f id with
    | none => rw [hf] at hv; simpa using hv.1
    | some u => rw [hf] at hv; simpa using hv.1
  subst e1
  unfold Oper.wp
  simp [execOp, hop, hm, hx, hrun, Result.andThen]
  exact hK' _ _ hK

/-- 'm[id] = v'. -/
theorem smap_put (hg : o.guard = none) (m x v : Operand) (t : TypeId) (hop : o.op = Op.mapUpdate t m x v) (e : TypeId) (ht : Tryz.prog.underlying t = some (.map 9 e))
    (b : Nat) (f : ByteArray → Option Value) (n : Nat) (hm : a.eval m = .map (some b)) (h : SMap w b f n) (hn : n < maxLen) (id : ByteArray) (hid : id.size ≤ maxLen) (hx : a.eval x = .string id) (u : Value) (hv : a.eval v = u)
    (hK : ∀ w', SMap w' b (putF f id u) (putN f id n) → Kept (fun k => k = b) w w' → wpList Tryz.prog ops Q rest (a.put o.dst undef) w') : wpList Tryz.prog ops Q (o :: rest) a w := by
  obtain ⟨D, ho, h1, h2, h3⟩ := h
  refine wpList_mapUpdate_own w hg m x v t hop 9 e lawStr ht heldElem b n D hm ho hn _ _ _ hx hv (keyS_of hid) (.held u) [] rfl ?_
  intro w' ho' hg'
  refine hK w' (SMap.puts ho h1 h2 h3 ho') ((Kept.of_grown hg').mono (fun k _ e => by simpa using e.symm))

/-- 'len(m)'. -/
theorem smap_len (hw : Region.wanted o (yielded ops a.tmps) = true) (m : Operand) (t : TypeId) (hop : o.op = Op.call { callee := Callee.builtin Builtin.len, args := #[m], argTypes := #[t] }) (e : TypeId) (ht : Tryz.prog.underlying t = some (.map 9 e))
    (b : Nat) (f : ByteArray → Option Value) (n : Nat) (hm : a.eval m = .map (some b)) (h : SMap w b f n) (hK : wpList Tryz.prog ops Q rest (a.put o.dst (.int .i64 (n : Int))) w) : wpList Tryz.prog ops Q (o :: rest) a w := by
  obtain ⟨D, ho, h1, h2, h3⟩ := h
  refine wpList_step fun K' hK' => ?_
  rw [if_pos hw]
  have hl := ho.len ht o.type
  rw [h1] at hl
  unfold Oper.wp
  simp [execOp, hop, resolve, invoke, builtin, hm, hl, Result.andThen]
  exact hK' _ _ hK
end
end Go.Proofs.YtmjkbdgcnoenbaaGreatDoor

/- A map of texts that is gone through: what is still to come; the step; what is struck on the way. -/
namespace Go.Proofs.YtmjkbdgcnoenbaaGreatDoor
open Go Go.RowKit Go.Maps
set_option linter.unusedVariables false

/-- The map in block b is gone through by the iterator in block r: 'left' tells which texts are still to come, cnt how many. -/
def SRange (w : World) (b r : Nat) (f : ByteArray → Option Value) (n : Nat) (left : ByteArray → Bool) (cnt : Nat) : Prop :=
  ∃ (D : DataW Value) (lf : Lit → Bool) (N : Nat), w.ranges Tryz.prog 9 heldElem b r N D lf cnt ∧ Maps.size D = n ∧ (∀ id, Maps.has D (keyS id) = (f id).isSome) ∧ (∀ id z, D.atKey (keyS id) z = match f id with | some v => .held v | none => z) ∧ ∀ id, lf (keyS id) = left id

theorem SRange.map {w : World} {b r : Nat} {f : ByteArray → Option Value} {n : Nat} {left : ByteArray → Bool} {cnt : Nat} (h : SRange w b r f n left cnt) : SMap w b f n := by
  obtain ⟨D, lf, N, h1, h2, h3, h4, _⟩ := h
  exact ⟨D, by rw [← h2]; exact owns_tight h1.owns, h2, h3, h4⟩

theorem SRange.left_eq {w : World} {b r : Nat} {f : ByteArray → Option Value} {n : Nat} {left : ByteArray → Bool} {cnt : Nat} (h : SRange w b r f n left cnt) : w.rangeLeft b r = cnt := by
  obtain ⟨D, lf, N, h1, _⟩ := h
  exact h1.left_eq

theorem SRange.lt {w : World} {b r : Nat} {f : ByteArray → Option Value} {n : Nat} {left : ByteArray → Bool} {cnt : Nat} (h : SRange w b r f n left cnt) : r < w.heap.size := by
  obtain ⟨D, lf, N, h1, _⟩ := h
  exact h1.lt

theorem SRange.keep {w w' : World} {b r : Nat} {f : ByteArray → Option Value} {n : Nat} {left : ByteArray → Bool} {cnt : Nat} (h : SRange w b r f n left cnt) (hb : w'.heap[b]? = w.heap[b]?) (hr : w'.heap[r]? = w.heap[r]?) : SRange w' b r f n left cnt := by
  obtain ⟨D, lf, N, ⟨es, clock, since, seen, c0, k1, k2, k3, k4, k5, k6⟩, h2⟩ := h
  exact ⟨D, lf, N, ⟨es, clock, since, seen, c0, hb.trans k1, k2, k3, k4, hr.trans k5, k6⟩, h2⟩

theorem SRange.kept {S : Nat → Prop} {w w' : World} {b r : Nat} {f : ByteArray → Option Value} {n : Nat} {left : ByteArray → Bool} {cnt : Nat} (h : SRange w b r f n left cnt) (hk : Kept S w w') (hb : ¬ S b) (hr : ¬ S r) : SRange w' b r f n left cnt :=
  h.keep (hk.block b h.map.lt hb) (hk.block r h.lt hr)

theorem SRange.congr {w : World} {b r : Nat} {f g : ByteArray → Option Value} {n : Nat} {left : ByteArray → Bool} {cnt : Nat} (h : SRange w b r f n left cnt) (e : ∀ id, g id = f id) : SRange w b r g n left cnt := by
  obtain rfl : g = f := funext e
  exact h

theorem sameKey_S (a b : ByteArray) : (keyS a).sameKey (keyS b) = decide (a = b) := by
  by_cases e : a = b
  · subst e
    rw [decide_eq_true rfl]
    exact WideAt.sameKey_self (keyS_ok _)
  · rw [decide_eq_false e]
    exact sameKey_ne (fun h => e (keyS_inj h))

/-- One less is to come. -/
def strikeF (left : ByteArray → Bool) (id : ByteArray) (i : ByteArray) : Bool := left i && !decide (i = id)

section
variable {w : World} {ops : Array Oper} {rest : List Oper} {o : Oper} {a : Act} {Q : Exit → Act → World → Prop}

/-- 'range m'. -/
theorem smap_range (hg : o.guard = none) (m : Operand) (t : TypeId) (hop : o.op = Op.range t m) (e : TypeId) (ht : Tryz.prog.underlying t = some (.map 9 e)) (b : Nat) (f : ByteArray → Option Value) (n : Nat) (hm : a.eval m = .map (some b)) (h : SMap w b f n)
    (hK : ∀ w', SRange w' b w.heap.size f n (fun i => (f i).isSome) n → Below w.heap.size w w' → w'.heap.size = w.heap.size + 1 → wpList Tryz.prog ops Q rest (a.put o.dst (.pointer (some ⟨w.heap.size, 0, none⟩))) w') : wpList Tryz.prog ops Q (o :: rest) a w := by
  obtain ⟨D, ho, h1, h2, h3⟩ := h
  refine wpList_range_own w hg m t hop 9 e lawStr ht heldElem b n D hm ho ?_
  intro w' hr hg' hs
  exact hK w' ⟨D, Maps.has D, n, by rw [h1] at hr; exact hr, h1, h2, h3, h2⟩ ⟨hg'.os, hg'.tape, hg'.output, hg'.size, fun k hk => hg'.block k hk (by simp)⟩ hs

/-- The step. -/
theorem smap_next (hg : o.guard = none) (it : Operand) (hop : o.op = Op.next it false) (b r : Nat) (f : ByteArray → Option Value) (n : Nat) (left : ByteArray → Bool) (cnt : Nat) (hit : a.eval it = .pointer (some ⟨r, 0, none⟩)) (h : SRange w b r f n left cnt)
    (hDone : (∀ i, left i = false) → wpList Tryz.prog ops Q rest (a.put o.dst (.tuple #[.bool false])) w)
    (hMore : ∀ (id : ByteArray) (v : Value) (w' : World) (cnt' : Nat), id.size ≤ maxLen → left id = true → f id = some v → SRange w' b r f n (strikeF left id) cnt' → cnt' < cnt → Kept (fun k => k = r) w w' → w'.heap.size = w.heap.size → (Instr.entry (.pointer (some ⟨r, 0, none⟩))).run Tryz.prog w' = .ok (.tuple #[.string id, v]) w' → wpList Tryz.prog ops Q rest (a.put o.dst (.tuple #[.bool true, .string id, v])) w') : wpList Tryz.prog ops Q (o :: rest) a w := by
  obtain ⟨D, lf, N, hr, h1, h2, h3, h4⟩ := h
  refine wpList_next_ranges w hg it hop 9 lawStr heldElem (fun x : ByteArray => Value.string x) (fun v : Value => v) (fun key kl hk => ?_) (fun v y _ => ⟨v, rfl⟩) b r N D lf cnt hit hr ?_ ?_
  · obtain ⟨s, rfl, _⟩ := Go.WideMaps.string_of_keyOf Tryz.underlying9 hk
    exact ⟨s, rfl⟩
  · intro _ hl
    exact hDone (fun i => by rw [← h4]; exact hl _)
  · intro x c kl y w' cnt' hkey hlk hv hat hrg hlt hgr hsz hen
    obtain ⟨s, es, rfl, hs⟩ := Go.WideMaps.string_of_keyOf Tryz.underlying9 hkey
    simp only [Value.string.injEq] at es
    subst es
    have hv' : y = (.held c, []) := by
      unfold heldElem at hv
      simpa using hv.symm
    subst hv'
    have hlx : left x = true := by rw [← h4]; exact hlk
    have hfx : f x = some c := by
      have q1 := hat (.held undef)
      have q2 := hat .nil
      have e1 := h3 x (.held undef)
      have e2 := h3 x .nil
      cases hf : f x with
      | none =>
        rw [hf] at e2
        have : (DataW.nil : DataW Value) = .held c := e2.symm.trans q2
        cases this
      | some u =>
        rw [hf] at e2
        have : (DataW.held u : DataW Value) = .held c := e2.symm.trans q2
        simp only [DataW.held.injEq] at this
        rw [this]
    refine hMore x c w' cnt' hs hlx hfx ⟨D, _, N, hrg, h1, h2, h3, fun i => ?_⟩ hlt ((Kept.of_grown hgr).mono (fun k _ e => by simpa using e.symm)) hsz hen
    show (lf (keyS i) && !(keyS i).sameKey (keyS x)) = strikeF left x i
    rw [sameKey_S, h4]
    rfl

/-- 'delete(m, id)' in the round. -/
theorem smap_del_range (hg : o.guard = none) (m x : Operand) (t : TypeId) (hop : o.op = Op.call { callee := Callee.builtin Builtin.delete, args := #[m, x], argTypes := #[t, 9] }) (e : TypeId) (ht : Tryz.prog.underlying t = some (.map 9 e))
    (b r : Nat) (f : ByteArray → Option Value) (n : Nat) (left : ByteArray → Bool) (cnt : Nat) (hm : a.eval m = .map (some b)) (h : SRange w b r f n left cnt) (id : ByteArray) (hid : id.size ≤ maxLen) (hx : a.eval x = .string id)
    (hK : ∀ w' cnt', SRange w' b r (delF f id) (delN f id n) (strikeF left id) cnt' → cnt' ≤ cnt → Kept (fun k => k = b) w w' → wpList Tryz.prog ops Q rest (a.put o.dst (.tuple #[])) w') : wpList Tryz.prog ops Q (o :: rest) a w := by
  obtain ⟨D, lf, N, hr, h1, h2, h3, h4⟩ := h
  refine wpList_delete_ranges w hg m x t 9 hop e lawStr ht heldElem b r N D lf cnt hm hr _ _ hx (keyS_of hid) ?_
  intro w' cnt' hr' hle ht'
  have hT := hr.owns.tidy lawStr
  have hsz : Maps.size (D.del (keyS id)) = delN f id n := by
    unfold delN
    have := size_del (k := keyS id) hT
    rw [h2, h1] at this
    cases hc : (f id).isSome <;> rw [hc] at this <;> simp at this ⊢ <;> omega
  refine hK w' cnt' ⟨D.del (keyS id), _, N, hr', hsz, fun i => ?_, fun i z => ?_, fun i => ?_⟩ hle ((Kept.of_grown ht'.grown).mono (fun k _ e => by simpa using e.symm))
  · unfold delF
    by_cases e : i = id
    · subst e
      rw [if_pos rfl]
      exact has_del_same
    · rw [if_neg e, has_del_other (fun e' => e (keyS_inj e'))]
      exact h2 i
  · unfold delF
    by_cases e : i = id
    · subst e
      rw [if_pos rfl]
      exact atKey_del_same _
    · rw [if_neg e, atKey_del_other (fun e' => e (keyS_inj e'))]
      exact h3 i z
  · show (lf (keyS i) && !(keyS i).sameKey (keyS id)) = strikeF left id i
    rw [sameKey_S, h4]
    rfl
end
end Go.Proofs.YtmjkbdgcnoenbaaGreatDoor

/- How many things a map of texts holds: as many as there are texts by which it holds something. -/
namespace Go.Proofs.YtmjkbdgcnoenbaaGreatDoor
open Go Go.RowKit Go.Maps
set_option linter.unusedVariables false

theorem nodup_len {α : Type} [DecidableEq α] : ∀ (l m : List α), l.Nodup → (∀ x ∈ l, x ∈ m) → l.length ≤ m.length
  | [], m, _, _ => Nat.zero_le _
  | x :: l, m, hn, hs => by
    rw [List.nodup_cons] at hn
    have hx := hs x (by simp)
    have ih := nodup_len l (m.erase x) hn.2 (fun y hy => (List.mem_erase_of_ne (fun e => hn.1 (by rw [← e]; exact hy))).2 (hs y (by simp [hy])))
    rw [List.length_erase_of_mem hx] at ih
    have : 0 < m.length := List.length_pos_of_mem hx
    rw [List.length_cons]
    omega

theorem nodup_same {α : Type} [DecidableEq α] {l m : List α} (hl : l.Nodup) (hm : m.Nodup) (h : ∀ x, x ∈ l ↔ x ∈ m) : l.length = m.length :=
  Nat.le_antisymm (nodup_len l m hl (fun x hx => (h x).1 hx)) (nodup_len m l hm (fun x hx => (h x).2 hx))

theorem nodup_mapI {α β : Type} {g : α → β} (hg : ∀ a b, g a = g b → a = b) : ∀ {l : List α}, l.Nodup → (l.map g).Nodup
  | [], _ => List.nodup_nil
  | x :: l, h => by
    rw [List.nodup_cons] at h
    rw [List.map_cons, List.nodup_cons]
    refine ⟨fun hm => ?_, nodup_mapI hg h.2⟩
    obtain ⟨y, hy, e⟩ := List.mem_map.1 hm
    rw [hg y x e] at hy
    exact h.1 hy

theorem SMap.count {w : World} {b : Nat} {f : ByteArray → Option Value} {n : Nat} (h : SMap w b f n) {L : List ByteArray} (hL : L.Nodup) (hf : ∀ id, (f id).isSome = true ↔ id ∈ L) : n = L.length := by
  obtain ⟨D, ho, h1, h2, h3⟩ := h
  have hkeys : ∃ es : List (Lit × DataW Value), D = .map es ∧ es.Pairwise (fun p q => p.1 ≠ q.1) ∧ ∀ p ∈ es, ∃ s : ByteArray, p.1 = keyS s := by
    obtain ⟨es, hD, hp, _⟩ := ho.entries lawStr
    refine ⟨es, hD, hp, fun p hpm => ?_⟩
    obtain ⟨es', clock, hb, F, hs, hD'⟩ := ho
    rw [hD] at hD'
    simp only [DataW.map.injEq] at hD'
    rw [hD'] at hpm
    obtain ⟨x, hx, rfl⟩ := List.mem_map.1 (mem_sorted.1 hpm)
    obtain ⟨key, hkey⟩ := fit_keys F _ (List.mem_map.2 ⟨x, hx, rfl⟩)
    obtain ⟨s, _, e, _⟩ := Go.WideMaps.string_of_keyOf Tryz.underlying9 hkey
    exact ⟨s, e⟩
  obtain ⟨es, rfl, hp, hk⟩ := hkeys
  have hn : (es.map (·.1)).Nodup := by
    unfold List.Nodup
    rw [List.pairwise_map]
    exact hp
  have hm : (L.map keyS).Nodup := nodup_mapI (fun a b e => keyS_inj e) hL
  have hsame : ∀ kl, kl ∈ es.map (·.1) ↔ kl ∈ L.map keyS := by
    intro kl
    constructor
    · intro hx
      obtain ⟨p, hpm, rfl⟩ := List.mem_map.1 hx
      obtain ⟨s, e⟩ := hk p hpm
      rw [e]
      refine List.mem_map.2 ⟨s, (hf s).1 ?_, rfl⟩
      rw [← h2, has_eq]
      exact List.any_eq_true.2 ⟨p, hpm, by rw [e]; exact WideAt.sameKey_self (keyS_ok _)⟩
    · intro hx
      obtain ⟨s, hs, rfl⟩ := List.mem_map.1 hx
      have := (hf s).2 hs
      rw [← h2, has_eq] at this
      obtain ⟨p, hpm, hpk⟩ := List.any_eq_true.1 this
      exact List.mem_map.2 ⟨p, hpm, WideAt.sameKey_eq hpk⟩
  have := by classical exact nodup_same hn hm hsame
  rw [List.length_map, List.length_map] at this
  rw [← h1, size_eq, this]

/-- What the map is while it is gone through and some are struck: those still to come as they were, of the others those that stay. -/
def mixF (f g : ByteArray → Option Value) (left : ByteArray → Bool) (i : ByteArray) : Option Value := if left i = true then f i else g i

theorem mixF_start (f g : ByteArray → Option Value) (hg : ∀ i, f i = none → g i = none) : ∀ i, f i = mixF f g (fun i => (f i).isSome) i := by
  intro i
  unfold mixF
  cases hf : f i with
  | none => simp [hg i hf]
  | some v => simp [hf]

theorem mixF_stays {f g : ByteArray → Option Value} {left : ByteArray → Bool} {id : ByteArray} (h : f id = g id) : ∀ i, mixF f g (strikeF left id) i = mixF f g left i := by
  intro i
  unfold mixF strikeF
  by_cases e : i = id
  · subst e
    cases left i <;> simp [h]
  · simp [e]

theorem mixF_goes {f g : ByteArray → Option Value} {left : ByteArray → Bool} {id : ByteArray} (h : g id = none) : ∀ i, mixF f g (strikeF left id) i = delF (mixF f g left) id i := by
  intro i
  unfold mixF strikeF delF
  by_cases e : i = id
  · subst e
    simp [h]
  · simp [e]

theorem strikeF_twice (left : ByteArray → Bool) (id : ByteArray) : strikeF (strikeF left id) id = strikeF left id := by
  funext i
  unfold strikeF
  cases left i <;> cases decide (i = id) <;> rfl
end Go.Proofs.YtmjkbdgcnoenbaaGreatDoor

/- What a table keeps of certificates; missing parents; rounds that hang together. -/
namespace Go.Proofs.YtmjkbdgcnoenbaaGreatDoor
open Go Go.RowKit
set_option linter.unusedVariables false

/-- A certificate's bytes. -/
def encCB (c : CertD) : ByteArray := ⟨(encC c).toArray⟩

def thingC (x : RowC) : ThingD := ⟨x.id, x.c.header.round, encCB x.c⟩

def thingsC (L : List RowC) : List ThingD := L.map thingC

theorem things_length (L : List RowC) : (thingsC L).length = L.length := List.length_map ..

theorem getR_things (L : List RowC) (id : ByteArray) : getR (thingsC L) id = (getC L id).map thingC := by
  unfold getR getC thingsC
  rw [List.find?_map]
  rfl

theorem idsL_things (L : List RowC) (r : Int) : idsL (thingsC L) r = idsC L r := by
  unfold idsL idsC thingsC
  rw [List.filter_map, List.map_map]
  rfl

theorem dropL_things (L : List RowC) (r : Int) : dropL (thingsC L) r = thingsC (keepC L r) := by
  unfold dropL keepC thingsC
  rw [List.filter_map]
  rfl

theorem putL_things (L : List RowC) (x : RowC) : putL (thingsC L) (thingC x) = thingsC (insC L x) := by
  unfold putL insC putAt rowAtC thingsC
  rw [List.takeWhile_map, List.length_map, ← List.map_take, ← List.map_drop, List.map_append, List.map_cons]
  rfl

theorem getC_isSome {L : List RowC} {id : ByteArray} : (getC L id).isSome = true ↔ ∃ x ∈ L, x.id = id := by
  constructor
  · intro h
    obtain ⟨x, hx⟩ := Option.isSome_iff_exists.1 h
    exact ⟨x, getC_some hx⟩
  · rintro ⟨x, hx, e⟩
    cases hg : getC L id with
    | none => exact (getC_none.1 hg x hx e).elim
    | some y => rfl

/-- Rising lists of the same texts are one. -/
theorem rise_ext {l m : List ByteArray} (hl : l.Pairwise (fun a b => a.toList < b.toList)) (hm : m.Pairwise (fun a b => a.toList < b.toList)) (h : ∀ x, x ∈ l ↔ x ∈ m) : l = m := by
  have n1 : l.Nodup := hl.imp (fun {x y} h e => by rw [e] at h; exact List.lt_irrefl _ h)
  have n2 : m.Nodup := hm.imp (fun {x y} h e => by rw [e] at h; exact List.lt_irrefl _ h)
  have hp : l.Perm m := (List.perm_ext_iff_of_nodup n1 n2).2 h
  exact List.Perm.eq_of_pairwise (fun a b _ _ h1 h2 => (List.lt_irrefl _ (List.lt_trans h1 h2)).elim) hl hm hp

theorem insT_cons (y : ByteArray) (l : List ByteArray) (x : ByteArray) : insT (y :: l) x = if y.toList < x.toList then y :: insT l x else x :: y :: l := by
  unfold insT insAt
  rw [List.takeWhile_cons, lessT_eq]
  by_cases h : y.toList < x.toList
  · rw [decide_eq_true h, if_pos h]
    simp
  · rw [decide_eq_false h, if_neg h]
    simp

theorem insU_cons (y : ByteArray) (l : List ByteArray) (x : ByteArray) : insU (y :: l) x = if y.toList < x.toList then y :: insU l x else if y = x then y :: l else x :: y :: l := by
  by_cases h : y.toList < x.toList
  · have e : insAt (y :: l) x = insAt l x + 1 := by
      unfold insAt
      rw [List.takeWhile_cons, lessT_eq, decide_eq_true h]
      simp
    unfold insU
    rw [if_pos h, e, List.getElem?_cons_succ, insT_cons, if_pos h]
    split <;> rfl
  · have e : insAt (y :: l) x = 0 := by
      unfold insAt
      rw [List.takeWhile_cons, lessT_eq, decide_eq_false h]
      simp
    unfold insU
    rw [if_neg h, e, List.getElem?_cons_zero, insT_cons, if_neg h]
    simp only [Option.some.injEq]

theorem insU_mem {l : List ByteArray} {x y : ByteArray} : y ∈ insU l x ↔ y = x ∨ y ∈ l := by
  induction l with
  | nil => simp [insU, insT, insAt]
  | cons z l ih =>
    rw [insU_cons]
    split
    · rw [List.mem_cons, ih, List.mem_cons]
      constructor
      · rintro (h | h | h)
        · exact Or.inr (Or.inl h)
        · exact Or.inl h
        · exact Or.inr (Or.inr h)
      · rintro (h | h | h)
        · exact Or.inr (Or.inl h)
        · exact Or.inl h
        · exact Or.inr (Or.inr h)
    · split
      · next e =>
        subst e
        constructor
        · exact fun h => Or.inr h
        · rintro (h | h)
          · rw [h]; exact List.mem_cons_self
          · exact h
      · exact List.mem_cons

theorem insU_rise {l : List ByteArray} (h : l.Pairwise (fun a b => a.toList < b.toList)) (x : ByteArray) : (insU l x).Pairwise (fun a b => a.toList < b.toList) := by
  induction l with
  | nil => simp [insU, insT, insAt]
  | cons z l ih =>
    obtain ⟨h1, h2⟩ := List.pairwise_cons.1 h
    rw [insU_cons]
    split
    · next hlt =>
      refine List.pairwise_cons.2 ⟨fun y hy => ?_, ih h2⟩
      rcases insU_mem.1 hy with rfl | hy
      · exact hlt
      · exact h1 y hy
    · split
      · exact h
      · next hge hne =>
        have hlt : x.toList < z.toList := by
          rcases Std.lt_trichotomy x.toList z.toList with h | h | h
          · exact h
          · exact (hne (bytes_inj h).symm).elim
          · exact (hge h).elim
        refine List.pairwise_cons.2 ⟨fun y hy => ?_, h⟩
        rcases List.mem_cons.1 hy with rfl | hy
        · exact hlt
        · exact List.lt_trans hlt (h1 y hy)

theorem missStep_rise (L : List RowC) {l : List ByteArray} (h : l.Pairwise (fun a b => a.toList < b.toList)) (p : ByteArray) : (missStep L l p).Pairwise (fun a b => a.toList < b.toList) := by
  unfold missStep
  split
  · exact h
  · exact insU_rise h p

theorem missStep_mem {L : List RowC} {l : List ByteArray} {p y : ByteArray} : y ∈ missStep L l p ↔ (y = p ∧ getC L p = none) ∨ y ∈ l := by
  unfold missStep
  cases hg : getC L p with
  | none => simp [insU_mem]
  | some z => simp

theorem miss_fold (L : List RowC) : ∀ (ps l : List ByteArray), l.Pairwise (fun a b => a.toList < b.toList) → (ps.foldl (missStep L) l).Pairwise (fun a b => a.toList < b.toList) ∧ ∀ y, y ∈ ps.foldl (missStep L) l ↔ (y ∈ ps ∧ getC L y = none) ∨ y ∈ l
  | [], l, h => ⟨h, fun y => by simp⟩
  | p :: ps, l, h => by
    obtain ⟨h1, h2⟩ := miss_fold L ps _ (missStep_rise L h p)
    refine ⟨h1, fun y => ?_⟩
    rw [List.foldl_cons, h2, missStep_mem, List.mem_cons]
    constructor
    · rintro (⟨a, b⟩ | ⟨rfl, b⟩ | c)
      · exact Or.inl ⟨Or.inr a, b⟩
      · exact Or.inl ⟨Or.inl rfl, b⟩
      · exact Or.inr c
    · rintro (⟨rfl | a, b⟩ | c)
      · exact Or.inr (Or.inl ⟨rfl, b⟩)
      · exact Or.inl ⟨a, b⟩
      · exact Or.inr (Or.inr c)

theorem missL_rise (L : List RowC) (ps : List ByteArray) : (missL L ps).Pairwise (fun a b => a.toList < b.toList) := (miss_fold L ps [] List.Pairwise.nil).1

theorem missL_mem {L : List RowC} {ps : List ByteArray} {y : ByteArray} : y ∈ missL L ps ↔ y ∈ ps ∧ getC L y = none := by
  unfold missL
  rw [(miss_fold L ps [] List.Pairwise.nil).2]
  simp

/-- The parents that are not in, as they stand. -/
def notIn (L : List RowC) (ps : List ByteArray) : List ByteArray := ps.filter (fun p => !(getC L p).isSome)

theorem notIn_succ (L : List RowC) (ps : List ByteArray) (i : Nat) (p : ByteArray) (hp : ps[i]? = some p) : notIn L (ps.take (i + 1)) = notIn L (ps.take i) ++ (if (getC L p).isSome = true then [] else [p]) := by
  unfold notIn
  rw [List.take_add_one, hp, List.filter_append]
  congr 1
  simp only [Option.toList_some, List.filter_cons, List.filter_nil]
  cases (getC L p).isSome <;> rfl

theorem notIn_mem {L : List RowC} {ps : List ByteArray} {y : ByteArray} : y ∈ notIn L ps ↔ y ∈ ps ∧ getC L y = none := by
  unfold notIn
  rw [List.mem_filter]
  cases getC L y <;> simp

theorem notIn_le (L : List RowC) (ps : List ByteArray) : (notIn L ps).length ≤ ps.length := List.length_filter_le _ _

/-- Rounds hang together: above the low each goes upon enough. -/
def LinkC (need : Nat) (d : DagD) : Prop := ∀ x ∈ d.L, d.low < x.c.header.round → need ≤ (idsC d.L (x.c.header.round - 1)).length

theorem LinkC.zero (need : Nat) : LinkC need dag0 := fun x hx => by cases hx

theorem risP_pair : ∀ (l : List ByteArray) (a : ByteArray), risP a l = 0 → (∀ p ∈ l, a.toList < p.toList) ∧ l.Pairwise (fun x y => x.toList < y.toList)
  | [], _, _ => ⟨(fun p hp => by cases hp), List.Pairwise.nil⟩
  | k :: l, a, h => by
    unfold risP at h
    split at h
    · next hd => exact (hd h).elim
    · next hd =>
      have hd : digE k a = 0 := by simpa using hd
      obtain ⟨h1, h2⟩ := risP_pair l k h
      have hak : a.toList < k.toList := by
        unfold digE at hd
        split at hd
        · cases hd
        · next h5 =>
          split at hd
          · cases hd
          · next h6 =>
            have h6 : leB k a = false := by simpa using h6
            unfold leB at h6
            rw [lessT_eq, bytes_eq, Bool.or_eq_false_iff, decide_eq_false_iff_not, decide_eq_false_iff_not] at h6
            rcases Std.lt_trichotomy a.toList k.toList with q | q | q
            · exact q
            · exact (h6.2 (bytes_inj q.symm)).elim
            · exact (h6.1 q).elim
      exact ⟨fun p hp => by
        rcases List.mem_cons.1 hp with rfl | hp
        · exact hak
        · exact List.lt_trans hak (h1 p hp), List.pairwise_cons.2 ⟨h1, h2⟩⟩

theorem chkH_need {n need : Nat} {en : List TagD → ByteArray → Nat} {h : HdrD} (hc : chkH n need en h = 0) (hr : 1 < h.round) : need ≤ h.parents.length := by
  unfold chkH at hc
  split at hc
  · cases hc
  split at hc
  · cases hc
  split at hc
  · next e => exact (e hc).elim
  split at hc
  · next e => exact (e hc).elim
  unfold countE at hc
  split at hc
  · cases hc
  split at hc
  · cases hc
  next e => omega

theorem nodup_sub {l m : List ByteArray} (hl : l.Nodup) (h : ∀ x ∈ l, x ∈ m) : l.length ≤ m.length := by classical exact nodup_len l m hl h

/-- What is right and laid in goes upon enough. -/
theorem upon_enough {ks : List ByteArray} {f : Nat} {d : DagD} {c : CertD} (h1 : chkC ks f c = 0) (hlow : 1 ≤ d.low) (hp : parE d c.header = 0) (hr : d.low < c.header.round) : 2 * f + 1 ≤ (idsC d.L (c.header.round - 1)).length := by
  have hc := (chkC_hdr h1).1
  have hpp := (chkH_parts hc).2.2.2.1
  have hn : 2 * f + 1 ≤ c.header.parents.length := chkH_need hc (by omega)
  have hrise := (risP_pair _ _ hpp).2
  have hnod : c.header.parents.Nodup := hrise.imp (fun {x y} h e => by rw [e] at h; exact List.lt_irrefl _ h)
  refine Nat.le_trans hn (nodup_sub hnod (fun p hpm => ?_))
  unfold parE at hp
  split at hp
  · cases hp
  next hm =>
  split at hp
  · cases hp
  next ho =>
  have hm : missD d c.header = [] := by simpa using hm
  unfold missD at hm
  rw [if_neg (by omega)] at hm
  have hin : getC d.L p ≠ none := fun e => by
    have := (missL_mem (L := d.L)).2 ⟨hpm, e⟩
    rw [hm] at this
    cases this
  obtain ⟨x, hx⟩ := Option.ne_none_iff_exists'.1 hin
  obtain ⟨hxL, hxid⟩ := getC_some hx
  have hod : oddP d c.header = false := by
    cases e : oddP d c.header with
    | false => rfl
    | true => exact (ho ⟨hr, e⟩).elim
  unfold oddP at hod
  have := List.any_eq_false.1 hod p hpm
  rw [hx] at this
  have hro : x.c.header.round = c.header.round - 1 := by
    simp only [gotRd] at this
    exact Classical.not_not.1 (of_decide_eq_false (Bool.not_eq_true _ ▸ this))
  unfold idsC
  exact List.mem_map.2 ⟨x, List.mem_filter.2 ⟨hxL, by simpa using hro⟩, hxid⟩

theorem LinkC.add {ks : List ByteArray} {f : Nat} {d : DagD} (h : LinkC (2 * f + 1) d) (hlow : 1 ≤ d.low) (c : CertD) (id : ByteArray) : LinkC (2 * f + 1) (addD (chkC ks f c) (3 * f + 1) d c id) := by
  unfold addD
  split
  · next he =>
    obtain ⟨h1, h2, h3, h4, h5, h6⟩ := addE_ok he
    intro x hx hr
    refine Nat.le_trans ?_ (idsC_ins d.L ⟨id, c⟩ _)
    rcases insC_mem.1 hx with rfl | hx
    · exact upon_enough h1 hlow h4 hr
    · exact h x hx hr
  · exact h

theorem LinkC.lows {need : Nat} {d : DagD} (h : LinkC need d) (r : Int) : LinkC need (lowD d r) := by
  unfold lowD
  split
  · exact h
  · next hr =>
    intro x hx hlt
    have hlt : r < x.c.header.round := hlt
    have hx := keepC_mem.1 hx
    have := h x hx.1 (by omega)
    have e : idsC (keepC d.L r) (x.c.header.round - 1) = idsC d.L (x.c.header.round - 1) := by
      unfold idsC keepC
      rw [List.filter_filter]
      congr 1
      refine List.filter_congr (fun y _ => ?_)
      by_cases e : y.c.header.round = x.c.header.round - 1
      · rw [e]; simp; omega
      · simp [e]
    show need ≤ (idsC (keepC d.L r) (x.c.header.round - 1)).length
    rw [e]
    exact this

theorem idsC_pos {L : List RowC} {r : Int} (h : 0 < (idsC L r).length) : ∃ x ∈ L, x.c.header.round = r := by
  unfold idsC at h
  rw [List.length_map] at h
  obtain ⟨x, hx⟩ := List.exists_mem_of_length_pos h
  obtain ⟨h1, h2⟩ := List.mem_filter.1 hx
  exact ⟨x, h1, by simpa using h2⟩

/-- Behind the first round without enough there is none. -/
theorem link_none {need : Nat} {d : DagD} (hn : 0 < need) (h : LinkC need d) {r : Int} (hlow : d.low ≤ r) (hr : (idsC d.L r).length < need) : ∀ x ∈ d.L, x.c.header.round ≤ r := by
  have key : ∀ (n : Nat) (x : RowC), x ∈ d.L → x.c.header.round ≠ r + 1 + (n : Int) := by
    intro n
    induction n with
    | zero =>
      intro x hx e
      have := h x hx (by omega)
      rw [show x.c.header.round - 1 = r from by omega] at this
      omega
    | succ n ih =>
      intro x hx e
      have := h x hx (by omega)
      obtain ⟨y, hy, ey⟩ := idsC_pos (L := d.L) (r := x.c.header.round - 1) (by omega)
      exact ih y hy (by omega)
  intro x hx
  refine Int.not_lt.1 (fun hlt => ?_)
  exact key (x.c.header.round - r - 1).toNat x hx (by omega)

/-- What Round answers. -/
theorem round_is {need : Nat} {d : DagD} (hn : 0 < need) (h : LinkC need d) (hlow : 1 ≤ d.low) (hge : ∀ x ∈ d.L, d.low ≤ x.c.header.round) {k : Nat} (hall : 0 < k → need ≤ (idsC d.L (d.low + (k : Int) - 1)).length) (hr : (idsC d.L (d.low + (k : Int))).length < need) : roundC need d.L = if k = 0 then 0 else d.low + (k : Int) - 1 := by
  have hno := link_none hn h (r := d.low + (k : Int)) (by omega) hr
  have hle : ∀ x ∈ d.L, need ≤ (idsC d.L x.c.header.round).length → x.c.header.round < d.low + (k : Int) := by
    intro x hx he
    have := hno x hx
    rcases Int.lt_or_eq_of_le this with q | q
    · exact q
    · rw [q] at he; omega
  by_cases hk : k = 0
  · rw [if_pos hk]
    rcases roundC_is need d.L with q | ⟨x, hx, e1, e2⟩
    · exact q
    · have := hle x hx (by rw [e1]; exact e2)
      have := hge x hx
      omega
  · rw [if_neg hk]
    have he := hall (by omega)
    obtain ⟨x, hx, ex⟩ := idsC_pos (L := d.L) (r := d.low + (k : Int) - 1) (by omega)
    have h1 := roundC_max (need := need) hx (by rw [ex]; exact he)
    rcases roundC_is need d.L with q | ⟨y, hy, e1, e2⟩
    · omega
    · have := hle y hy (by rw [e1]; exact e2)
      omega
end Go.Proofs.YtmjkbdgcnoenbaaGreatDoor
