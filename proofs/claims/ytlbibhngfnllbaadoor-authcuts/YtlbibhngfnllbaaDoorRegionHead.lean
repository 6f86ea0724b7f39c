/- A region that draws its order, in two parts: a head whose operations are quiet in a class of worlds, each waited for by the tail; then the tail, in whatever order. One walk of the head in the text's order serves every order. -/
import Derived.StillTail
import Derived.Deep.Quiet
import Derived.Deep.MidRow
import Derived.Lib.QuietBelow
namespace Go.Proofs.YtlbibhngfnllbaaDoor
open Go Go.Sort Go.RowKit

section
variable {P : Program} {ops : Array Oper} {md : Region.Mode} {C : World → Prop}

/-- Each operation ahead of n is waited for by a later one ahead of n, or by all from n on. -/
def barB (md : Region.Mode) (ops : Array Oper) (n : Nat) : Bool :=
  (List.range n).all fun i => ((List.range n).any fun j => decide (i < j) && Region.waitsFor md ops j i) || ((List.range ops.size).all fun t => decide (t < n) || Region.waitsFor md ops t i)

theorem bar_waits {n : Nat} {listed : Array Bool} (hs : barB md ops n = true) (_hn : n ≤ ops.size) (inv : HeadInv md ops n listed) :
    ∀ (d i : Nat), n - i = d → i < n → listed.getD i true = false → ∀ t, n ≤ t → t ∉ Region.ready md ops listed := by
  intro d
  induction d using Nat.strongRecOn with
  | _ d ih =>
    intro i hd hi hun t ht hr
    obtain ⟨_, ot, hot, hall⟩ := mem_ready.1 hr
    have htlt : t < ops.size := (Array.getElem?_eq_some_iff.1 hot).1
    have h1 := List.all_eq_true.1 hs i (List.mem_range.2 hi)
    simp only [Bool.or_eq_true] at h1
    rcases h1 with h1 | h1
    · obtain ⟨j, hj, hj2⟩ := List.any_eq_true.1 h1
      simp only [Bool.and_eq_true, decide_eq_true_eq] at hj2
      obtain ⟨oj, hoj, e, he, hb, hon⟩ := Region.waitsFor_spec hj2.2
      have hjn := List.mem_range.1 hj
      cases hl : listed.getD j false with
      | true =>
        have h2 := inv.closed j oj hoj hl e he hb
        rw [hon, getD_both hun] at h2
        cases h2
      | false =>
        have hjs : j < listed.size := by rw [inv.size]; omega
        exact ih (n - j) (by omega) j rfl (by omega) (getD_in hjs hl) t ht hr
    · have h2 := List.all_eq_true.1 h1 t (List.mem_range.2 htlt)
      simp only [Bool.or_eq_true, decide_eq_true_eq] at h2
      rcases h2 with h2 | h2
      · omega
      · obtain ⟨o', ho', e, he, hb, hon⟩ := Region.waitsFor_spec h2
        have : o' = ot := Option.some.inj (ho'.symm.trans hot)
        subst this
        have h3 := hall e he hb
        rw [hon, getD_both hun] at h3
        cases h3

def wpAnyT (P : Program) (md : Region.Mode) (ops : Array Oper) (C : World → Prop) (n : Nat) (T : Array Bool → Act → Prop) : Nat → Array Bool → Act → Prop
  | 0, listed, a => T listed a
  | f + 1, listed, a =>
    Region.ready md ops listed ≠ [] ∧ ∀ i ∈ Region.ready md ops listed, i < n ∧ qOp P ops C i (wpAnyT P md ops C n T f (listed.setIfInBounds i true)) a

theorem wpAny_of_headT {n g : Nat} {T : Array Bool → Act → Prop} {Q' : Exit → Act → World → Prop} (hT : ∀ listed a w, C w → T listed a → wpAny P md ops Q' g listed a w) :
    ∀ (f : Nat) (listed : Array Bool) (a : Act) (w : World), C w → wpAnyT P md ops C n T f listed a → wpAny P md ops Q' (f + g) listed a w
  | 0, listed, a, w, hC, h => by rw [Nat.zero_add]; exact hT _ _ _ hC h
  | f + 1, listed, a, w, hC, h => by
    rw [show f + 1 + g = (f + g) + 1 by omega]
    exact ⟨fun h0 => absurd h0 h.1, fun i hi => wpOp_of_qOp hC (fun a' w' hw' h' => wpAny_of_headT hT f _ a' w' hw' h') (h.2 i hi).2⟩

theorem wpAnyT_first {n i : Nat} {oi : Oper} {v : Value} {T : Array Bool → Act → Prop} (hi : ops[i]? = some oi) (hsel : ∀ (j : Nat) (o : Oper) cs b, ops[j]? = some o → o.op ≠ .select cs b)
    (hs : barB md ops n = true) (hn : n ≤ ops.size) (hin : i < n)
    (hdone : ∀ listed a, T listed a → ∀ j ∈ Region.ready md ops listed, n ≤ j) :
    ∀ (f : Nat) (listed : Array Bool) (a : Act), HeadInv md ops n listed →
      (∀ j oj, ops[j]? = some oj → j ≠ i → listed.getD j true = false → (∀ e ∈ oj.after, Region.binds md e = true → e.on ≠ i) → oi.apart ops oj = true) →
      i ∈ Region.ready md ops listed → YieldsIn P ops C oi v a →
      wpAnyT P md ops C n T f (listed.setIfInBounds i true) (a.put oi.dst v) → wpAnyT P md ops C n T (f + 1) listed a := by
  intro f
  induction f with
  | zero =>
    intro listed a inv _ hr hy H
    have hun := (mem_ready.1 hr).1
    refine ⟨fun h => (by rw [h] at hr; cases hr), fun j hj => ?_⟩
    have hjn : j < n := by
      rcases Nat.lt_or_ge j n with h | h
      · exact h
      · exact absurd hj (bar_waits hs hn inv _ i rfl hin hun j h)
    refine ⟨hjn, ?_⟩
    by_cases hji : j = i
    · subst hji; exact hy.qOp hi H
    · have := hdone _ _ H j (ready_mono hj hji)
      omega
  | succ f ih =>
    intro listed a inv hfree hr hy H
    have hun := (mem_ready.1 hr).1
    refine ⟨fun h => (by rw [h] at hr; cases hr), fun j hj => ?_⟩
    have hjn : j < n := by
      rcases Nat.lt_or_ge j n with h | h
      · exact h
      · exact absurd hj (bar_waits hs hn inv _ i rfl hin hun j h)
    refine ⟨hjn, ?_⟩
    by_cases hji : j = i
    · subst hji; exact hy.qOp hi H
    · have h1 := (H.2 j (ready_mono hj hji)).2
      obtain ⟨hjun, oj, hoj, hall⟩ := mem_ready.1 hj
      have hnot : ∀ e ∈ oj.after, Region.binds md e = true → e.on ≠ i := fun e he hb heq => by
        have h1 := hall e he hb
        rw [heq, getD_both hun] at h1
        cases h1
      have h2 := qOp_put hoj (hfree j oj hoj hji hjun hnot) (fun cs b => hsel i oi cs b hi) (fun cs b => hsel j oj cs b hoj) hy h1
      have hfree' : ∀ k ok, ops[k]? = some ok → k ≠ i → (listed.setIfInBounds j true).getD k true = false →
          (∀ e ∈ ok.after, Region.binds md e = true → e.on ≠ i) → oi.apart ops ok = true := fun k ok hk hki hun hno => by
        refine hfree k ok hk hki ?_ hno
        by_cases hjk : j = k
        · subst hjk; exact hjun
        · rw [getD_set_ne true hjk] at hun; exact hun
      refine qOp_mono (fun a' h3 => ih (listed.setIfInBounds j true) a' (inv.set hj hjn) hfree' (ready_mono hr (Ne.symm hji)) h3.1 ?_) h2
      rw [Array.setIfInBounds_comm _ _ hji]
      exact h3.2

/-- The marks behind the head. -/
def headMarks : Nat → Nat → Array Bool → Array Bool
  | 0, _, listed => listed
  | f + 1, k, listed => headMarks f (k + 1) (listed.setIfInBounds k true)

/-- The head's operations may come up one by one, in the text's order. -/
def headLex (md : Region.Mode) (ops : Array Oper) : Nat → Nat → Array Bool → Bool
  | 0, _, _ => true
  | f + 1, k, listed => (Region.ready md ops listed).contains k && Region.free md ops listed k && headLex md ops f (k + 1) (listed.setIfInBounds k true)

/-- What the kernel looks at. -/
def headB (md : Region.Mode) (ops : Array Oper) (n : Nat) : Bool :=
  Region.noSelect ops && decide (n ≤ ops.size) && barB md ops n && headLex md ops n 0 (Array.replicate ops.size false) &&
    ((Region.ready md ops (headMarks n 0 (Array.replicate ops.size false))).all fun j => decide (n ≤ j))

theorem wpAnyT_lex {n : Nat} {Lq : Act → Prop} (L : Array Bool) (hsel : Region.noSelect ops = true) (hs : barB md ops n = true) (hn : n ≤ ops.size)
    (hL : ∀ j ∈ Region.ready md ops L, n ≤ j) :
    ∀ (l : List Oper) (k : Nat) (listed : Array Bool) (a : Act), (∀ j, j < l.length → l[j]? = ops[k + j]?) → k + l.length = n → HeadInv md ops n listed → headMarks l.length k listed = L →
    headLex md ops l.length k listed = true → wpQuiet P ops C Lq l a →
    wpAnyT P md ops C n (fun listed' a' => listed' = L ∧ Lq a') l.length listed a
  | [], k, listed, a, _, hk, _, hM, _, h => ⟨hM, h⟩
  | o :: l, k, listed, a, hl, hk, inv, hM, hB, h => by
    have h0 : ops[k]? = some o := by simpa using (hl 0 (by simp)).symm
    simp only [List.length_cons, headLex, Bool.and_eq_true] at hB
    obtain ⟨⟨hr, hf⟩, hB'⟩ := hB
    have hkn : k < n := by simp only [List.length_cons] at hk; omega
    have hr' : k ∈ Region.ready md ops listed := by simpa using hr
    have hst : qOp P ops C k (wpQuiet P ops C Lq l) a := by unfold qOp; simp only [h0]; exact h
    obtain ⟨v, hy, hK⟩ := yieldsIn_of_qOp h0 hst
    exact wpAnyT_first h0 (Region.noSelect_spec hsel) hs hn hkn (fun listed' a' hT => by rw [hT.1]; exact hL) l.length listed a inv (Region.free_spec h0 hf) hr' hy
      (wpAnyT_lex L hsel hs hn hL l (k + 1) _ _ (fun j hj => by have := hl (j + 1) (by simp; omega); simpa [Nat.add_assoc, Nat.add_comm 1 j] using this) (by simp only [List.length_cons] at hk; omega) (inv.set hr' hkn) hM hB' hK)

/-- THE LAW: the head, walked once in the text's order, every operation quiet in the class C; then the tail in whatever order, from every world of C. -/
theorem wp_region_head {id : Nat} {Q : Exit → Act → World → Prop} {a : Act} {w : World} {l : List Oper} (n : Nat) (hm : P.follows .mixedOrders = true) (hB : headB .any l.toArray n = true)
    (hC : C { w with drawn := w.drawn + 1 })
    (h : wpQuiet P l.toArray C (fun a' => ∀ w', C w' → wpAny P .any l.toArray Q (l.length - n) (headMarks n 0 (Array.replicate l.length false)) a' w') (l.take n) a) : (Code.region id l.toArray true).wp P Q a w := by
  simp only [headB, Bool.and_eq_true, decide_eq_true_eq] at hB
  obtain ⟨⟨⟨⟨hsel, hn⟩, hs⟩, hlex⟩, hL⟩ := hB
  have hn' : n ≤ l.length := by simpa using hn
  have htl : (l.take n).length = n := by simp; omega
  have inv0 : HeadInv .any l.toArray n (Array.replicate l.toArray.size false) :=
    ⟨by simp, fun j oj _ hl => (by rw [getD_replicate_false] at hl; cases hl), fun t _ ht => getD_in (by simpa using ht) (getD_replicate_false _ _)⟩
  have H := wpAnyT_lex (md := .any) (headMarks n 0 (Array.replicate l.toArray.size false)) hsel hs hn (fun j hj => by
      have := List.all_eq_true.1 hL j hj
      simpa using this) (l.take n) 0 _ a (fun j hj => by
    have hj' : j < n := by rw [htl] at hj; exact hj
    simp [hj']) (by simpa using htl) inv0 (by rw [htl]) (by rw [htl]; exact hlex) h
  refine wp_region_any hm ?_
  have := wpAny_of_headT (Q' := Q) (g := l.length - n) (fun listed a' w' hC' hT => by
    rw [hT.1]; simpa using hT.2 w' hC') _ _ _ { w with drawn := w.drawn + 1 } hC H
  rw [htl, show n + (l.length - n) = l.toArray.size by simp; omega] at this
  exact this

/-- The same at the class 'w after some draws'. -/
theorem wp_region_head_draws {id : Nat} {Q : Exit → Act → World → Prop} {a : Act} {w : World} {l : List Oper} (n : Nat) (hm : P.follows .mixedOrders = true) (hB : headB .any l.toArray n = true)
    (h : wpQuiet P l.toArray (fun w' => ∃ k, w' = w.drewN k) (fun a' => ∀ w', (∃ k, w' = w.drewN k) → wpAny P .any l.toArray Q (l.length - n) (headMarks n 0 (Array.replicate l.length false)) a' w') (l.take n) a) : (Code.region id l.toArray true).wp P Q a w :=
  wp_region_head (C := fun w' => ∃ k, w' = w.drewN k) n hm hB ⟨1, rfl⟩ h

/-- A list of operations, each of which yields its value in whatever world. -/
def wpPure (P : Program) (ops : Array Oper) (Q : Act → Prop) : List Oper → Act → Prop
  | [], a => Q a
  | o :: rest, a => ∃ v, Yields P ops o v a ∧ wpPure P ops Q rest (a.put o.dst v)

theorem wpAny_pure {Q : Exit → Act → World → Prop} {g : Nat} (hsel : Region.noSelect ops = true) (hQ : ∀ c a d v w, Q (.panic c) (a.put d v) w → Q (.panic c) a w) :
    ∀ (l : List Oper) (k : Nat) (listed : Array Bool) (a : Act) (w : World), (∀ j, j < l.length → l[j]? = ops[k + j]?) → headLex md ops l.length k listed = true →
      wpPure P ops (fun a' => wpAny P md ops Q g (headMarks l.length k listed) a' w) l a → wpAny P md ops Q (l.length + g) listed a w
  | [], _, _, _, _, _, _, h => by simpa [headMarks, wpPure] using h
  | o :: l, k, listed, a, w, hl, hB, h => by
    have h0 : ops[k]? = some o := by simpa using (hl 0 (by simp)).symm
    simp only [List.length_cons, headLex, Bool.and_eq_true] at hB
    obtain ⟨⟨hr, hf⟩, hB'⟩ := hB
    obtain ⟨v, hy, hK⟩ := h
    have := wpAny_pure (g := g) hsel hQ l (k + 1) (listed.setIfInBounds k true) (a.put o.dst v) w (fun j hj => by have := hl (j + 1) (by simp; omega); simpa [Nat.add_assoc, Nat.add_comm 1 j] using this) hB' hK
    rw [List.length_cons, show l.length + 1 + g = l.length + g + 1 by omega]
    exact wpAny_first h0 (Region.noSelect_spec hsel) (fun c a w h => hQ c a _ _ w h) (l.length + g) listed a w (Region.free_spec h0 hf) (by simpa using hr) hy this

theorem yields_extract {a : Act} (o : Oper) (t i : Nat) (vs : Array Value) (v : Value) (ho : o.op = .extract (.tmp t) i) (hg : o.guard = none) (ha : a.tmps.getD t undef = .tuple vs) (hv : vs[i]? = some v) : Yields P ops o v a := by
  refine .inl ⟨by simp [Region.wanted, hg], fun w => ?_⟩
  have he : a.eval (.tmp t) = .tuple vs := ha
  simp [execOp, ho, he, Instr.extract, hv]

/-- What the kernel looks at: a head of n, then m that yield in whatever world, then the rest one by one. -/
def headSeqB (md : Region.Mode) (ops : Array Oper) (n m : Nat) : Bool :=
  headB md ops n && decide (n + m ≤ ops.size) && headLex md ops m n (headMarks n 0 (Array.replicate ops.size false)) &&
    Region.seqB md ops (ops.size - (n + m)) (n + m) (headMarks m n (headMarks n 0 (Array.replicate ops.size false)))

/-- THE LAW, the tail being m operations that yield in whatever world and then the rest, one by one. -/
theorem wp_region_head_seq {id : Nat} {Q : Exit → Act → World → Prop} {a : Act} {w : World} {l : List Oper} (n m : Nat) (hm : P.follows .mixedOrders = true) (hB : headSeqB .any l.toArray n m = true)
    (hC : C { w with drawn := w.drawn + 1 }) (hQ : ∀ c a d v w, Q (.panic c) (a.put d v) w → Q (.panic c) a w)
    (h : wpQuiet P l.toArray C (fun a' => wpPure P l.toArray (fun a'' => ∀ w', C w' → wpList P l.toArray Q (l.drop (n + m)) a'' w') ((l.drop n).take m) a') (l.take n) a) : (Code.region id l.toArray true).wp P Q a w := by
  simp only [headSeqB, Bool.and_eq_true, decide_eq_true_eq] at hB
  obtain ⟨⟨⟨hB1, hnm⟩, hlex⟩, hseq⟩ := hB
  have hsel : Region.noSelect l.toArray = true := by simp only [headB, Bool.and_eq_true] at hB1; exact hB1.1.1.1.1
  have hnm' : n + m ≤ l.length := by simpa using hnm
  refine wp_region_head n hm hB1 hC ?_
  have mono : ∀ (l' : List Oper) (a : Act) (A B : Act → Prop), (∀ a, A a → B a) → wpQuiet P l.toArray C A l' a → wpQuiet P l.toArray C B l' a := by
    intro l'
    induction l' with
    | nil => intro a A B hAB h; exact hAB _ h
    | cons o r ih =>
      intro a A B hAB h
      unfold wpQuiet at h ⊢
      split
      · rename_i hw
        simp only [hw, if_true] at h
        exact Oper.quiet_mono (fun a' h' => ih a' A B hAB h') h
      · rename_i hw
        simp only [hw] at h
        exact ih _ A B hAB h
  have pmono : ∀ (l' : List Oper) (a : Act) (A B : Act → Prop), (∀ a, A a → B a) → wpPure P l.toArray A l' a → wpPure P l.toArray B l' a := by
    intro l'
    induction l' with
    | nil => intro a A B hAB h; exact hAB _ h
    | cons o r ih => intro a A B hAB ⟨v, hy, h⟩; exact ⟨v, hy, ih _ A B hAB h⟩
  refine mono _ _ _ _ (fun a' h' w' hw' => ?_) h
  have hlen : ((l.drop n).take m).length = m := by simp; omega
  have hdl : (l.drop (n + m)).length = l.toArray.size - (n + m) := by simp
  have := wpAny_pure (md := .any) (Q := Q) (g := l.toArray.size - (n + m)) hsel hQ ((l.drop n).take m) n (headMarks n 0 (Array.replicate l.length false)) a' w' (fun j hj => by
      rw [hlen] at hj
      simp [hj, List.getElem?_drop]) (by rw [hlen]; simpa using hlex) (pmono _ _ _ _ (fun a'' h'' => by
        have := wpAny_of_seq (md := .any) (Q' := Q) (l.drop (n + m)) (n + m) (headMarks m n (headMarks n 0 (Array.replicate l.length false))) a'' w' (fun j => by simp [List.getElem?_drop]) (by rw [hdl]; simpa using hseq) (h'' w' hw')
        rw [hdl] at this
        rw [hlen]
        exact this) h')
  rw [hlen, show m + (l.toArray.size - (n + m)) = l.length - n by simp; omega] at this
  exact this

/-- A whole array is read, in every world of the class. -/
theorem wpQuiet_load {Q : Act → Prop} {a : Act} {o : Oper} {rest : List Oper} (hg : o.guard = none) (ty : TypeId) (x : Operand) (ho : o.op = .load ty x) (b off : Nat) (hx : a.eval x = .pointer (some ⟨b, off, none⟩))
    (cs : List Value) (d : TypeDesc) (hC : ∀ w, C w → w.rangeAt b off cs) (hu : P.underlying ty = some d) (hd : d.isRow = true) (hi : (P.info? ty).map (·.size) = some cs.length)
    (h : wpQuiet P ops C Q rest (a.put o.dst (.agg cs.toArray))) : wpQuiet P ops C Q (o :: rest) a := by
  unfold wpQuiet
  rw [if_pos (by simp [Region.wanted, hg])]
  refine ⟨_, fun w hw => ?_, h⟩
  unfold Oper.quietAt execOp
  simp only [ho, hx, Instr.loadAt, Instr.sureAddr, Sem.run_bind, Sem.run_pure, Result.andThen_ok, run_loadVar_mid w b off ty cs d (hC w hw) hu hd hi]
  exact ⟨rfl, rfl⟩

/-- THE LAW at the class 'nothing old is turned'. -/
theorem wp_region_head_below {id : Nat} {Q : Exit → Act → World → Prop} {a : Act} {w : World} {l : List Oper} (n m : Nat) (hm : P.follows .mixedOrders = true) (hB : headSeqB .any l.toArray n m = true)
    (hQ : ∀ c a d v w, Q (.panic c) (a.put d v) w → Q (.panic c) a w)
    (h : wpQuiet P l.toArray (fun w' => ∃ p : Regrown, w' = grow (redrawn w p.d) p.os) (fun a' => wpPure P l.toArray (fun a'' => ∀ w', (∃ p : Regrown, w' = grow (redrawn w p.d) p.os) → wpList P l.toArray Q (l.drop (n + m)) a'' w') ((l.drop n).take m) a') (l.take n) a) : (Code.region id l.toArray true).wp P Q a w :=
  wp_region_head_seq (C := fun w' => ∃ p : Regrown, w' = grow (redrawn w p.d) p.os) n m hm hB ⟨⟨w.drawn + 1, #[]⟩, by rw [grow_empty]; rfl⟩ hQ h

/-- A range of an old block, in every world of the class. -/
theorem range_regrown {w : World} {b o : Nat} {cs : List Value} (h : w.rangeAt b o cs) : ∀ w', (∃ p : Regrown, w' = grow (redrawn w p.d) p.os) → w'.rangeAt b o cs := by
  rintro w' ⟨p, rfl⟩ j v hv
  exact cell_regrown (h j v hv) p.d p.os
end
end Go.Proofs.YtlbibhngfnllbaaDoor
