/- Texts as one: ReadBase, StrRows, Kinds, KindsCopy, KindsSet, KindsOwn, RegionLast, RowsMore, WalkRows, AccTx. -/
import Derived.Test.YtajpfkenhchafaaDoorEd03
import Derived.Test.YtajpfkenhchafaaDoorEd04
import Derived.Laws.AppendOwnNone
import Derived.Deep.RegionHeld
import Derived.StillTail
import Derived.ScopeJumps
import Derived.WalkMore
import Derived.Test.YtajpfkenhchafaaDoorEd02
/- Reading field by field, whatever is read: the first error, or what follows. -/
namespace Go.Proofs.YtajpfkenhchafaaDoor
open Go.RowKit
set_option linter.unusedVariables false

def mks (ts : List (List UInt8)) : List ByteArray := ts.map (fun t => ⟨t.toArray⟩)

theorem bl_mks (ts : List (List UInt8)) : bl (mks ts) = ts := by
  simp [bl, mks, List.map_map, Function.comp_def]

theorem mks_bl (ss : List ByteArray) : mks (bl ss) = ss := by
  simp [bl, mks, List.map_map, Function.comp_def]

theorem glGo_back (l : List UInt8) : ∀ (m at_ : Nat) (acc ts : List (List UInt8)) (k : Nat), at_ ≤ l.length → glGo l m at_ acc = (ts, k, 0) →
    ∃ us, ts = acc ++ us ∧ us.length = m ∧ k = at_ + (us.flatMap txt).length ∧ (l.drop at_).take (us.flatMap txt).length = us.flatMap txt ∧ k ≤ l.length ∧ ∀ t ∈ us, t.length ≤ 65536
  | 0, at_, acc, ts, k, hl, h => by
    rw [glGo] at h
    simp only [Prod.mk.injEq] at h
    obtain ⟨rfl, rfl, _⟩ := h
    exact ⟨[], by simp, rfl, by simp, by simp, hl, by simp⟩
  | m + 1, at_, acc, ts, k, hl, h => by
    rcases hg : getText (l.drop at_) with ⟨t, j, e⟩
    rw [glGo, hg] at h
    by_cases he : e ≠ 0
    · rw [if_pos he] at h
      simp only [Prod.mk.injEq] at h
      exact absurd h.2.2 he
    rw [if_neg he] at h
    have he0 : e = 0 := by omega
    subst he0
    have hb := getText_bounds _ t j hg
    have hk := getText_back _ t j hg
    rw [List.length_drop] at hb
    obtain ⟨us, e1, e2, e3, e4, e5, e6⟩ := glGo_back l m (at_ + j) (acc ++ [t]) ts k (by omega) h
    have hj : (txt t).length = j := by rw [hk, List.length_take, List.length_drop]; omega
    refine ⟨t :: us, by rw [e1]; simp, by simp [e2], ?_, ?_, e5, ?_⟩
    · rw [e3, List.flatMap_cons, List.length_append, hj]; omega
    · rw [List.flatMap_cons, List.length_append, hj, List.take_add, ← hk, List.drop_drop, e4]
    · intro x hx
      rw [List.mem_cons] at hx
      rcases hx with rfl | hx
      · exact hb.2.2.1
      · exact e6 x hx

theorem getList_back {l : List UInt8} {most : Int} {ts : List (List UInt8)} {k : Nat} (h : getList l most = (ts, k, 0)) :
    l.take k = lst ts ∧ k = (lst ts).length ∧ k ≤ l.length ∧ (ts.length : Int) ≤ most ∧ ∀ t ∈ ts, t.length ≤ 65536 := by
  rcases hg : getInt l with ⟨n, j, e⟩
  unfold getList at h
  rw [hg] at h
  by_cases he : e ≠ 0
  · rw [if_pos he] at h
    simp only [Prod.mk.injEq] at h
    exact absurd h.2.2 he
  rw [if_neg he] at h
  have he0 : e = 0 := by omega
  subst he0
  by_cases hm : most < (n : Int)
  · rw [if_pos hm] at h
    simp only [Prod.mk.injEq] at h
    omega
  rw [if_neg hm] at h
  have hb := getInt_bounds _ n j hg
  have hk := getInt_back _ n j hg
  obtain ⟨us, e1, e2, e3, e4, e5, e6⟩ := glGo_back l n j [] ts k hb.2.2 h
  rw [List.nil_append] at e1
  subst e1
  have hc : goInt (ts.length : Int) = enc n := by rw [e2]; exact goInt_nat n hb.1
  have hl : lst ts = enc n ++ ts.flatMap txt := by rw [lst, hc]
  have hkl : k = (lst ts).length := by rw [hl, List.length_append, ← hk.2]; exact e3
  refine ⟨?_, hkl, e5, by omega, e6⟩
  rw [hkl, hl, List.length_append, List.take_add, ← hk.2, hk.1, e4]

theorem giGo_zero : ∀ (l : List UInt8) (acc i : Nat), (giGo l acc i).2.2 ≠ 0 → (giGo l acc i).1 = 0 ∧ (giGo l acc i).2.1 = 0
  | [], _, _ => by simp [giGo]
  | c :: r, acc, i => by
    rw [giGo]
    split
    · split
      · intro _; exact ⟨rfl, rfl⟩
      · exact giGo_zero r _ _
    · split
      · intro _; exact ⟨rfl, rfl⟩
      · split
        · intro _; exact ⟨rfl, rfl⟩
        · intro h; exact absurd rfl h

theorem getInt_zero {l : List UInt8} {n k er : Nat} (h : getInt l = (n, k, er)) (he : er ≠ 0) : n = 0 ∧ k = 0 := by
  have := giGo_zero l 0 0
  unfold getInt at h
  rw [h] at this
  exact this he

theorem getText_zero {l t : List UInt8} {k er : Nat} (h : getText l = (t, k, er)) (he : er ≠ 0) : t = [] ∧ k = 0 := by
  unfold getText at h
  split at h
  · simp only [Prod.mk.injEq] at h
    exact ⟨h.1.symm, h.2.1.symm⟩
  · split at h
    · simp only [Prod.mk.injEq] at h
      exact ⟨h.1.symm, h.2.1.symm⟩
    · split at h
      · simp only [Prod.mk.injEq] at h
        exact ⟨h.1.symm, h.2.1.symm⟩
      · simp only [Prod.mk.injEq] at h
        exact absurd h.2.2.symm he

theorem glGo_zero (l : List UInt8) : ∀ (m at_ : Nat) (acc : List (List UInt8)), (glGo l m at_ acc).2.2 ≠ 0 → (glGo l m at_ acc).1 = [] ∧ (glGo l m at_ acc).2.1 = 0
  | 0, at_, acc => by rw [glGo]; intro h; exact absurd rfl h
  | m + 1, at_, acc => by
    rw [glGo]
    split
    · intro _; exact ⟨rfl, rfl⟩
    · exact glGo_zero l m _ _

theorem getList_zero {l : List UInt8} {most : Int} {t : List (List UInt8)} {k er : Nat} (h : getList l most = (t, k, er)) (he : er ≠ 0) : t = [] ∧ k = 0 := by
  unfold getList at h
  split at h
  · simp only [Prod.mk.injEq] at h
    exact ⟨h.1.symm, h.2.1.symm⟩
  · split at h
    · simp only [Prod.mk.injEq] at h
      exact ⟨h.1.symm, h.2.1.symm⟩
    · have := glGo_zero l (getInt l).1 (getInt l).2.1 []
      rw [h] at this
      exact this he

theorem rest_le (r : ByteArray) (k : Nat) (h : r.size ≤ maxLen) : (r.extract k r.size).size ≤ maxLen := by
  rw [ByteArray.size_extract]
  omega

section
variable {α : Type}

def rdI (l : List UInt8) (f : Nat → List UInt8 → Except Nat α) : Except Nat α := if (getInt l).2.2 ≠ 0 then .error (getInt l).2.2 else f (getInt l).1 (l.drop (getInt l).2.1)
def rdT (l : List UInt8) (f : List UInt8 → List UInt8 → Except Nat α) : Except Nat α := if (getText l).2.2 ≠ 0 then .error (getText l).2.2 else f (getText l).1 (l.drop (getText l).2.1)
def rdL (most : Int) (l : List UInt8) (f : List (List UInt8) → List UInt8 → Except Nat α) : Except Nat α := if (getList l most).2.2 ≠ 0 then .error (getList l most).2.2 else f (getList l most).1 (l.drop (getList l most).2.1)

theorem rdI_ok {l : List UInt8} {f : Nat → List UInt8 → Except Nat α} {n k : Nat} (h : getInt l = (n, k, 0)) : rdI l f = f n (l.drop k) := by
  unfold rdI; rw [h]; rfl
theorem rdI_err {l : List UInt8} {f : Nat → List UInt8 → Except Nat α} {n k er : Nat} (h : getInt l = (n, k, er)) (he : er ≠ 0) : rdI l f = .error er := by
  unfold rdI; rw [h, if_pos he]
theorem rdT_ok {l : List UInt8} {f : List UInt8 → List UInt8 → Except Nat α} {t : List UInt8} {k : Nat} (h : getText l = (t, k, 0)) : rdT l f = f t (l.drop k) := by
  unfold rdT; rw [h]; rfl
theorem rdT_err {l : List UInt8} {f : List UInt8 → List UInt8 → Except Nat α} {t : List UInt8} {k er : Nat} (h : getText l = (t, k, er)) (he : er ≠ 0) : rdT l f = .error er := by
  unfold rdT; rw [h, if_pos he]
theorem rdL_ok {most : Int} {l : List UInt8} {f : List (List UInt8) → List UInt8 → Except Nat α} {t : List (List UInt8)} {k : Nat} (h : getList l most = (t, k, 0)) : rdL most l f = f t (l.drop k) := by
  unfold rdL; rw [h]; rfl
theorem rdL_err {most : Int} {l : List UInt8} {f : List (List UInt8) → List UInt8 → Except Nat α} {t : List (List UInt8)} {k er : Nat} (h : getList l most = (t, k, er)) (he : er ≠ 0) : rdL most l f = .error er := by
  unfold rdL; rw [h, if_pos he]

theorem rdI_enc {f : Nat → List UInt8 → Except Nat α} (n : Nat) (r : List UInt8) (h : n ≤ 4611686018427387903) : rdI (enc n ++ r) f = f n r := by
  rw [rdI_ok (getInt_enc n r h), List.drop_left]
theorem rdT_txt {f : List UInt8 → List UInt8 → Except Nat α} (t r : List UInt8) (h : t.length ≤ 65536) : rdT (txt t ++ r) f = f t r := by
  rw [rdT_ok (getText_txt t r h), List.drop_left]
theorem rdL_lst {f : List (List UInt8) → List UInt8 → Except Nat α} (most : Int) (ts : List (List UInt8)) (r : List UInt8) (h : ∀ t ∈ ts, t.length ≤ 65536) (hn : ts.length ≤ 4611686018427387903) (hm : (ts.length : Int) ≤ most) : rdL most (lst ts ++ r) f = f ts r := by
  rw [rdL_ok (getList_lst ts r most h hn hm), List.drop_left]

theorem rdI_back {l : List UInt8} {f : Nat → List UInt8 → Except Nat α} {d : α} (h : rdI l f = .ok d) : ∃ n r, l = enc n ++ r ∧ n ≤ 4611686018427387903 ∧ f n r = .ok d := by
  rcases hg : getInt l with ⟨n, k, e⟩
  by_cases he : e = 0
  · subst he
    rw [rdI_ok hg] at h
    have hb := getInt_bounds _ n k hg
    have hk := getInt_back _ n k hg
    exact ⟨n, l.drop k, by rw [← hk.1, List.take_append_drop], hb.1, h⟩
  · rw [rdI_err hg he] at h
    cases h
theorem rdT_back {l : List UInt8} {f : List UInt8 → List UInt8 → Except Nat α} {d : α} (h : rdT l f = .ok d) : ∃ t r, l = txt t ++ r ∧ t.length ≤ 65536 ∧ f t r = .ok d := by
  rcases hg : getText l with ⟨t, k, e⟩
  by_cases he : e = 0
  · subst he
    rw [rdT_ok hg] at h
    have hb := getText_bounds _ t k hg
    have hk := getText_back _ t k hg
    exact ⟨t, l.drop k, by rw [hk, List.take_append_drop], hb.2.2.1, h⟩
  · rw [rdT_err hg he] at h
    cases h
theorem rdL_back {most : Int} {l : List UInt8} {f : List (List UInt8) → List UInt8 → Except Nat α} {d : α} (h : rdL most l f = .ok d) : ∃ t r, l = lst t ++ r ∧ (t.length : Int) ≤ most ∧ (∀ x ∈ t, x.length ≤ 65536) ∧ f t r = .ok d := by
  rcases hg : getList l most with ⟨t, k, e⟩
  by_cases he : e = 0
  · subst he
    rw [rdL_ok hg] at h
    have hk := getList_back hg
    exact ⟨t, l.drop k, by rw [← hk.1, List.take_append_drop], hk.2.2.2.1, hk.2.2.2.2, h⟩
  · rw [rdL_err hg he] at h
    cases h

/-- Each in its turn; the first error. -/
def eachE {β : Type} (f : β → Except Nat α) : List β → Except Nat (List α)
  | [] => .ok []
  | b :: r => match f b with
    | .error e => .error e
    | .ok a => match eachE f r with
      | .error e => .error e
      | .ok xs => .ok (a :: xs)

theorem eachE_back {β : Type} {f : β → Except Nat α} {g : α → β} (hg : ∀ b a, f b = .ok a → g a = b) : ∀ (bs : List β) (xs : List α), eachE f bs = .ok xs → xs.map g = bs
  | [], xs, h => by
    simp only [eachE, Except.ok.injEq] at h
    subst h
    rfl
  | b :: r, xs, h => by
    rw [eachE] at h
    cases hb : f b with
    | error e => rw [hb] at h; cases h
    | ok a =>
      rw [hb] at h
      cases hr : eachE f r with
      | error e => rw [hr] at h; cases h
      | ok xs' =>
        rw [hr] at h
        simp only [Except.ok.injEq] at h
        subst h
        rw [List.map_cons, hg b a hb, eachE_back hg r xs' hr]

theorem eachE_all {β : Type} {f : β → Except Nat α} {p : α → Prop} (hp : ∀ b a, f b = .ok a → p a) : ∀ (bs : List β) (xs : List α), eachE f bs = .ok xs → ∀ a ∈ xs, p a
  | [], xs, h => by
    simp only [eachE, Except.ok.injEq] at h
    subst h
    simp
  | b :: r, xs, h => by
    rw [eachE] at h
    cases hb : f b with
    | error e => rw [hb] at h; cases h
    | ok a =>
      rw [hb] at h
      cases hr : eachE f r with
      | error e => rw [hr] at h; cases h
      | ok xs' =>
        rw [hr] at h
        simp only [Except.ok.injEq] at h
        subst h
        intro x hx
        rw [List.mem_cons] at hx
        rcases hx with rfl | hx
        · exact hp b x hb
        · exact eachE_all hp r xs' hr x hx

theorem eachE_map {β : Type} {f : β → Except Nat α} {g : α → β} : ∀ (xs : List α), (∀ a ∈ xs, f (g a) = .ok a) → eachE f (xs.map g) = .ok xs
  | [], _ => rfl
  | a :: r, h => by
    rw [List.map_cons, eachE, h a (by simp)]
    simp only
    rw [eachE_map r (fun x hx => h x (by simp [hx]))]
end

theorem eachE_take {β α : Type} {f : β → Except Nat α} (l : List β) (k : Nat) (b : β) (hb : l[k]? = some b) (xs : List α) (h : eachE f (l.take k) = .ok xs) :
    (∀ a, f b = .ok a → eachE f (l.take (k + 1)) = .ok (xs ++ [a])) ∧ (∀ e, f b = .error e → eachE f l = .error e) := by
  induction l generalizing k xs with
  | nil => simp at hb
  | cons c r ih =>
    cases k with
    | zero =>
      simp at hb
      subst hb
      simp [eachE] at h
      subst h
      refine ⟨fun a ha => by simp [eachE, ha], fun e he => by simp [eachE, he]⟩
    | succ k =>
      simp at hb
      rw [List.take_succ_cons, eachE] at h
      cases hc : f c with
      | error e => rw [hc] at h; cases h
      | ok a0 =>
        rw [hc] at h
        cases hr : eachE f (r.take k) with
        | error e => rw [hr] at h; cases h
        | ok ys =>
          rw [hr] at h
          simp at h
          subst h
          obtain ⟨i1, i2⟩ := ih k hb ys hr
          refine ⟨fun a ha => ?_, fun e he => ?_⟩
          · rw [List.take_succ_cons, eachE, hc]
            simp only
            rw [i1 a ha]
            rfl
          · rw [eachE, hc]
            simp only
            rw [i2 e he]

theorem eachE_err {α β : Type} {f : β → Except Nat α} (hf : ∀ b e, f b = .error e → e ≠ 0) : ∀ (bs : List β) (e : Nat), eachE f bs = .error e → e ≠ 0
  | [], e, h => by cases h
  | b :: r, e, h => by
    rw [eachE] at h
    cases hb : f b with
    | error e' =>
      rw [hb] at h
      simp only [Except.error.injEq] at h
      subst h
      exact hf b e' hb
    | ok a =>
      rw [hb] at h
      cases hr : eachE f r with
      | error e' =>
        rw [hr] at h
        simp only [Except.error.injEq] at h
        subst h
        exact eachE_err hf r e' hr
      | ok xs => rw [hr] at h; cases h

end Go.Proofs.YtajpfkenhchafaaDoor

/- Rows of strings of the call's own. -/
namespace Go.Proofs.YtajpfkenhchafaaDoor
open Go.RowKit
set_option linter.unusedVariables false

theorem strs_news {w : World} {ad : Addr} {ss : List ByteArray} (h : StrsAt w (some ad) ss) : ∀ j u, ((bl ss).map strVal)[j]? = some u → w.cell? (ad.add j) = some u := by
  intro j u hu
  have hj : j < ss.length := by
    have := (List.getElem?_eq_some_iff.1 hu).1
    simpa [bl] using this
  obtain ⟨b, off, e, _, hc⟩ := h j hj
  simp at e
  subst e
  rw [Go.WideShapes.add_plain, hc]
  simp [bl, strVal, List.getElem?_eq_getElem hj] at hu
  rw [hu]

/-- A row of strings of the call's own. -/
def OwnStrs (base : Nat) (w : World) (ao : Option Addr) (ss : List ByteArray) : Prop :=
  ∀ j (h : j < ss.length), ∃ b off, ao = some ⟨b, off, none⟩ ∧ base ≤ b ∧ b < w.heap.size ∧ w.cell? ⟨b, off + j, none⟩ = some (.string ss[j])

theorem OwnStrs.at {base : Nat} {w : World} {ao : Option Addr} {ss : List ByteArray} (h : OwnStrs base w ao ss) : StrsAt w ao ss := by
  intro j hj
  obtain ⟨b, off, h1, _, h3, h4⟩ := h j hj
  exact ⟨b, off, h1, h3, h4⟩

theorem OwnStrs.put {base : Nat} {w : World} {ao : Option Addr} {ss : List ByteArray} (h : OwnStrs base w ao ss) {p : Addr} (hp : p.block < base) (v : Value) : OwnStrs base (w.setCell p v) ao ss := by
  intro j hj
  obtain ⟨b, off, h1, h2, h3, h4⟩ := h j hj
  have e : (w.setCell p v).heap[b]? = w.heap[b]? := Below.heap_setCell w p v b (by omega)
  refine ⟨b, off, h1, h2, ?_, ?_⟩
  · show b < (w.heap.modify p.block _).size
    simpa using h3
  · rw [← h4]
    simp only [World.cell?, e]

theorem OwnStrs.below {base : Nat} {w w' : World} {ao : Option Addr} {ss : List ByteArray} (h : OwnStrs base w ao ss) (hb : Below w.heap.size w w') : OwnStrs base w' ao ss := by
  intro j hj
  obtain ⟨b, off, h1, h2, h3, h4⟩ := h j hj
  exact ⟨b, off, h1, h2, Nat.lt_of_lt_of_le h3 hb.size, by rw [hb.cell (p := ⟨b, off + j, none⟩) h3]; exact h4⟩

theorem own_far {w : World} {B : Nat} {ao : Option Addr} {n cap : Nat} {ss : List ByteArray} (h : w.ownsRow B 9 1 (.slice ao n cap) n ((bl ss).map strVal)) (hn : n = ss.length) : OwnStrs B w ao ss := by
  subst hn
  intro j hj
  rcases h.2 with ⟨hv, h0⟩ | ⟨g, cap', cur, hv, hb, hg, _⟩
  · omega
  · simp at hv
    obtain ⟨rfl, _⟩ := hv
    refine ⟨g, 0, rfl, hb, (Array.getElem?_eq_some_iff.1 hg).1, ?_⟩
    have := h.cells (g := g) rfl j (.string ss[j]) (by simp [bl, strVal, List.getElem?_eq_getElem hj])
    rw [Go.WideShapes.add_plain] at this
    exact this

/-- append([]string{}, xs...): a row of the same strings, the call's own. -/
theorem wpList_append_strs {w : World} {ops : Array Oper} {rest : List Oper} {o : Oper} {a : Act} {Q : Exit → Act → World → Prop} (hgd : o.guard = none) (s x : Operand)
    (ho : o.op = .call { callee := .builtin .append, args := #[s, x], argTypes := #[22, 22] })
    (base : Nat) (v : Value) (hs : a.eval s = v) (hown : w.ownsRow base 9 1 v 0 []) (ao : Option Addr) (cap : Nat) (ss : List ByteArray) (hx : a.eval x = .slice ao ss.length cap)
    (hS : StrsAt w ao ss) (hnil : ao = none → cap = 0) (hlen : ss.length * 16 ≤ 140737488355328) (hbase : base ≤ w.heap.size)
    (h : ∀ ao' cap' w', OwnStrs base w' ao' ss → (ao' = none → cap' = 0) → Below base w w' → wpList Tryd.prog ops Q rest (a.put o.dst (.slice ao' ss.length cap')) w') : wpList Tryd.prog ops Q (o :: rest) a w := by
  obtain ⟨i0, hi, hz0, hz1, hz2⟩ := info_parts infoString
  have hbl : (bl ss).length = ss.length := by simp [bl]
  cases ao with
  | none =>
    have hc0 := hnil rfl
    subst hc0
    have hss : ss = [] := by
      cases ss with
      | nil => rfl
      | cons y r => obtain ⟨_, _, e, _⟩ := hS 0 (by simp); cases e
    subst hss
    refine wpList_append_own_none hgd s x 22 ho base 9 i0 1 Tryd.underlying22 hi v 0 [] hs hown hx ?_
    obtain ⟨ao', cap', rfl⟩ := own_slice hown
    refine h ao' cap' w (fun j hj => absurd hj (by simp)) ?_ (Below.refl _ _)
    intro he
    rcases hown.2 with ⟨hv, _⟩ | ⟨g, c, cur, hv, _⟩
    · simp at hv; exact hv.2
    · simp at hv; rw [hv.1] at he; cases he
  | some ad =>
    refine wpList_append_own w hgd s x 22 ho base 9 i0 (.string ⟨#[]⟩) 1 16 Tryd.underlying22 hi hz0 hz1 hz2 rfl (by decide) v 0 [] hs hown ad ss.length cap ((bl ss).map strVal) hx (by simp [bl]) (strs_news hS) (strVal_one _) (by unfold maxLen; omega) (by omega) hbase ?_
    intro v' w' hown' hgrow _
    have hb := (Below.refl base w).grown hgrow hbase (fun q hq => (hown.lt q hq).1)
    rw [Nat.zero_add] at hown'
    obtain ⟨ao', cap', rfl⟩ := own_slice hown'
    refine h ao' cap' w' (own_far hown' rfl) ?_ hb
    intro he
    rcases hown'.2 with ⟨hv, _⟩ | ⟨g, c, cur, hv, _⟩
    · simp at hv; exact hv.2.2
    · simp at hv; rw [hv.1] at he; cases he

/-- A new empty row of strings. -/
theorem own_made (w : World) (n : Nat) (hn : w.heap.size = n) : (w.alloc (.cells #[] 9)).ownsRow n 9 1 (.slice (some ⟨n, 0, none⟩) 0 0) 0 [] := by
  subst hn
  exact World.ownsRow_made w #[] 0 (Nat.le_refl _) (by unfold maxLen; omega) (by simp)

theorem OwnStrs.mono {b1 b2 : Nat} {w : World} {ao : Option Addr} {ss : List ByteArray} (h : OwnStrs b2 w ao ss) (hb : b1 ≤ b2) : OwnStrs b1 w ao ss := by
  intro j hj
  obtain ⟨b, off, h1, h2, h3⟩ := h j hj
  exact ⟨b, off, h1, Nat.le_trans hb h2, h3⟩

theorem nil_strs (w : World) (ao : Option Addr) : StrsAt w ao [] := fun j hj => absurd hj (by simp)

end Go.Proofs.YtajpfkenhchafaaDoor

/- Rows of whatever elements in memory: where they lie, what they reach, how they are appended to. -/
namespace Go.Proofs.YtajpfkenhchafaaDoor
open Go.RowKit
set_option linter.unusedVariables false

/-- A kind of elements: their cells, the blocks that they reach besides, and that all of it lies there. -/
structure Kind (α : Type) where
  n : Nat
  c : α → List Value
  foot : α → Nat → Prop
  At : World → α → Prop
  pos : 0 < n
  len : ∀ x, (c x).length = n
  one : ∀ x, ∀ u ∈ c x, u.oneCell' = true
  lt : ∀ {w x b}, At w x → foot x b → b < w.heap.size
  keep : ∀ {w w' x}, At w x → (∀ b, foot x b → w'.heap[b]? = w.heap[b]?) → At w' x

theorem cell_same {w w' : World} {b : Nat} (h : w'.heap[b]? = w.heap[b]?) (o : Nat) : w'.cell? ⟨b, o, none⟩ = w.cell? ⟨b, o, none⟩ := by
  simp only [World.cell?, h]

theorem lt_same {w w' : World} {b : Nat} (h : w'.heap[b]? = w.heap[b]?) (hb : b < w.heap.size) : b < w'.heap.size := by
  rw [Array.getElem?_eq_getElem hb] at h
  exact (Array.getElem?_eq_some_iff.1 h).1

section
variable {α : Type} (K : Kind α)

/-- Its cells, one element behind the other. -/
def flatK (l : List α) : List Value := l.flatMap K.c

theorem flatK_length (l : List α) : (flatK K l).length = l.length * K.n := by
  induction l with
  | nil => simp [flatK]
  | cons x r ih => simp only [flatK, List.flatMap_cons, List.length_append, K.len, List.length_cons] at ih ⊢; rw [ih, Nat.add_mul]; omega

theorem flatK_append (l m : List α) : flatK K (l ++ m) = flatK K l ++ flatK K m := by simp [flatK]

theorem flatK_single (x : α) : flatK K [x] = K.c x := by simp [flatK]

theorem flatK_get : ∀ (l : List α) (i : Nat) (x : α), l[i]? = some x → ∀ j, j < K.n → (flatK K l)[i * K.n + j]? = (K.c x)[j]?
  | [], _, _, h, _, _ => by simp at h
  | y :: r, 0, x, h, j, hj => by
    simp at h
    subst h
    have e : flatK K (y :: r) = K.c y ++ flatK K r := by simp [flatK]
    rw [e, List.getElem?_append_left (by rw [K.len]; omega), Nat.zero_mul, Nat.zero_add]
  | y :: r, i + 1, x, h, j, hj => by
    have h' : r[i]? = some x := by simpa using h
    have ih := flatK_get r i x h' j hj
    have e : flatK K (y :: r) = K.c y ++ flatK K r := by simp [flatK]
    rw [e, List.getElem?_append_right (by rw [K.len, Nat.add_mul]; omega), K.len]
    have : (i + 1) * K.n + j - K.n = i * K.n + j := by rw [Nat.add_mul]; omega
    rw [this]
    exact ih

theorem flatK_one (l : List α) : ∀ u ∈ flatK K l, u.oneCell' = true := by
  intro u hu
  obtain ⟨x, _, hx⟩ := List.mem_flatMap.1 hu
  exact K.one x u hx

/-- A row of elements lies at an address (of none: whatever the address). -/
structure RowAt (w : World) (ao : Option Addr) (l : List α) : Prop where
  cell : ∀ i x, l[i]? = some x → ∃ b off, ao = some ⟨b, off, none⟩ ∧ b < w.heap.size ∧ ∀ j v, (K.c x)[j]? = some v → w.cell? ⟨b, off + i * K.n + j, none⟩ = some v
  at_ : ∀ x ∈ l, K.At w x

/-- The blocks that a row reaches. -/
def rowFoot (ao : Option Addr) (l : List α) (b : Nat) : Prop := (l ≠ [] ∧ ∃ off, ao = some ⟨b, off, none⟩) ∨ ∃ x ∈ l, K.foot x b

variable {K}

theorem nil_row (w : World) (ao : Option Addr) : RowAt K w ao [] := ⟨fun i x hx => by simp at hx, fun x hx => by cases hx⟩

theorem nil_foot {ao : Option Addr} {b : Nat} (h : rowFoot K ao [] b) : False := by
  rcases h with ⟨h, _⟩ | ⟨x, hx, _⟩
  · exact h rfl
  · cases hx

theorem RowAt.lt {w : World} {ao : Option Addr} {l : List α} (h : RowAt K w ao l) {b : Nat} (hf : rowFoot K ao l b) : b < w.heap.size := by
  rcases hf with ⟨hl, off, rfl⟩ | ⟨x, hx, hf⟩
  · obtain ⟨x, r, rfl⟩ := List.exists_cons_of_ne_nil hl
    obtain ⟨b', off', e, hb, _⟩ := h.cell 0 x rfl
    simp at e
    omega
  · exact K.lt (h.at_ x hx) hf

theorem RowAt.keep {w w' : World} {ao : Option Addr} {l : List α} (h : RowAt K w ao l) (hk : ∀ b, rowFoot K ao l b → w'.heap[b]? = w.heap[b]?) : RowAt K w' ao l := by
  refine ⟨fun i x hx => ?_, fun x hx => K.keep (h.at_ x hx) (fun b hb => hk b (Or.inr ⟨x, hx, hb⟩))⟩
  obtain ⟨b, off, rfl, hb, hc⟩ := h.cell i x hx
  have e := hk b (Or.inl ⟨fun e => by rw [e] at hx; simp at hx, off, rfl⟩)
  exact ⟨b, off, rfl, lt_same e hb, fun j v hv => by rw [cell_same e]; exact hc j v hv⟩

theorem RowAt.below {w w' : World} {ao : Option Addr} {l : List α} (h : RowAt K w ao l) (hb : Below w.heap.size w w') : RowAt K w' ao l :=
  h.keep (fun b hf => hb.block b (h.lt hf))

theorem RowAt.kept {S : Nat → Prop} {w w' : World} {ao : Option Addr} {l : List α} (h : RowAt K w ao l) (hk : Kept S w w') (hn : ∀ b, rowFoot K ao l b → ¬ S b) : RowAt K w' ao l :=
  h.keep (fun b hf => hk.block b (h.lt hf) (hn b hf))

theorem Kind.below (K : Kind α) {w w' : World} {x : α} (h : K.At w x) (hb : Below w.heap.size w w') : K.At w' x := K.keep h (fun b hf => hb.block b (K.lt h hf))
theorem Kind.kept (K : Kind α) {S : Nat → Prop} {w w' : World} {x : α} (h : K.At w x) (hk : Kept S w w') (hn : ∀ b, K.foot x b → ¬ S b) : K.At w' x := K.keep h (fun b hf => hk.block b (K.lt h hf) (hn b hf))

theorem RowAt.take {w : World} {ao : Option Addr} {l : List α} (h : RowAt K w ao l) (n : Nat) : RowAt K w ao (l.take n) := by
  refine ⟨fun i x hx => h.cell i x ?_, fun x hx => h.at_ x (List.mem_of_mem_take hx)⟩
  rw [List.getElem?_take] at hx
  split at hx
  · exact hx
  · cases hx

theorem take_foot {ao : Option Addr} {l : List α} {n b : Nat} (h : rowFoot K ao (l.take n) b) : rowFoot K ao l b := by
  rcases h with ⟨hl, o⟩ | ⟨x, hx, hf⟩
  · exact Or.inl ⟨fun e => hl (by rw [e]; simp), o⟩
  · exact Or.inr ⟨x, List.mem_of_mem_take hx, hf⟩

/-- q is a row of the call's own that holds l. -/
structure KQ (K : Kind α) (T : TypeId) (w : World) (base : Nat) (q : Value) (l : List α) : Prop where
  row : QRow w base T K.n q l.length (flatK K l)
  at_ : ∀ x ∈ l, K.At w x
  off : ∀ x ∈ l, ∀ b, K.foot x b → q.ownBlock ≠ some b
  lt : ∀ k, q.ownBlock = some k → base ≤ k ∧ k < w.heap.size
  nil : ∀ n cap, q = .slice none n cap → cap = 0

theorem KQ.empty (K : Kind α) (T : TypeId) (w : World) (base : Nat) : KQ K T w base (.slice none 0 0) [] :=
  ⟨QRow.nil _ _ _ _ _, (fun x hx => by cases hx), (fun x hx => by cases hx), (fun k hk => by simp [Value.ownBlock] at hk), fun n cap e => by simp at e; exact e.2.symm⟩

theorem KQ.kept {T : TypeId} {S : Nat → Prop} {w w' : World} {base : Nat} {q : Value} {l : List α} (h : KQ K T w base q l) (hk : Kept S w w') (hq : ∀ k, q.ownBlock = some k → ¬ S k) (ho : ∀ x ∈ l, ∀ b, K.foot x b → ¬ S b) : KQ K T w' base q l :=
  ⟨h.row.kept hk hq, fun x hx => K.kept (h.at_ x hx) hk (ho x hx), h.off, fun k hq => ⟨(h.lt k hq).1, Nat.lt_of_lt_of_le (h.lt k hq).2 hk.size⟩, h.nil⟩

theorem KQ.below {T : TypeId} {w w' : World} {base : Nat} {q : Value} {l : List α} (h : KQ K T w base q l) (hb : Below w.heap.size w w') : KQ K T w' base q l :=
  h.kept (Kept.of_below (S := fun _ => False) hb) (fun _ _ h => h) (fun x _ _ _ h => h)

theorem QRow.rowAt {T : TypeId} {w : World} {base : Nat} {ao : Option Addr} {n cap : Nat} {l : List α} (h : QRow w base T K.n (.slice ao n cap) n (flatK K l)) (hn : n = l.length) (hA : ∀ x ∈ l, K.At w x) : RowAt K w ao l := by
  refine ⟨fun i x hx => ?_, hA⟩
  have hi := (List.getElem?_eq_some_iff.1 hx).1
  obtain ⟨g, off, cap', hv, hb, hlt, hc⟩ := h.cells (by omega)
  simp only [Value.slice.injEq, true_and] at hv
  refine ⟨g, off, hv.1, hlt, fun j v hj => ?_⟩
  have hj9 : j < K.n := by
    have := (List.getElem?_eq_some_iff.1 hj).1
    rw [K.len] at this
    exact this
  have := hc (i * K.n + j) v (by rw [flatK_get K l i x hx j hj9]; exact hj)
  rw [← Nat.add_assoc] at this
  exact this

theorem KQ.form {T : TypeId} {w : World} {base : Nat} {q : Value} {l : List α} (h : KQ K T w base q l) : ∃ ao cap, q = .slice ao l.length cap ∧ (ao = none → cap = 0) ∧ RowAt K w ao l := by
  obtain ⟨ao, cap, rfl, _, _⟩ := h.row.form
  exact ⟨ao, cap, rfl, fun e => h.nil _ _ (by rw [e]), h.row.rowAt rfl h.at_⟩

/-- Where a row of the call's own reaches. -/
theorem KQ.foot_ge {T : TypeId} {w : World} {base B : Nat} {ao : Option Addr} {n cap : Nat} {l : List α} (h : KQ K T w base (.slice ao n cap) l) (hB : B ≤ base) (hf : ∀ x ∈ l, ∀ b, K.foot x b → B ≤ b) : ∀ b, rowFoot K ao l b → B ≤ b := by
  intro b hb
  rcases hb with ⟨hl, off, rfl⟩ | ⟨x, hx, hf'⟩
  · have := (h.lt b rfl).1
    omega
  · exact hf x hx b hf'

/-- More is appended. -/
theorem KQ.push {T : TypeId} {w w' : World} {base : Nat} {q q' : Value} {l m : List α} (h : KQ K T w base q l) (hm : ∀ x ∈ m, K.At w x) (hmo : ∀ x ∈ m, ∀ b, K.foot x b → q.ownBlock ≠ some b) (h0 : 0 < m.length)
    (hrow : QRow w' base T K.n q' (l.length + m.length) (flatK K l ++ flatK K m)) (hgr : w.grownBy w' q.ownBlock) (hfr : ∀ g, q'.ownBlock = some g → q.ownBlock = some g ∨ w.heap.size ≤ g) : KQ K T w' base q' (l ++ m) := by
  have k6 := Kept.of_grown hgr
  have hoff : ∀ x, K.At w x → (∀ b, K.foot x b → q.ownBlock ≠ some b) → ∀ b, K.foot x b → q'.ownBlock ≠ some b := by
    intro x hx ho b hf e
    rcases hfr b e with h1 | h1
    · exact ho b hf h1
    · have := K.lt hx hf
      omega
  refine ⟨by rw [List.length_append, flatK_append]; exact hrow, ?_, ?_, ?_, ?_⟩
  · intro x hx
    rw [List.mem_append] at hx
    rcases hx with hx | hx
    · exact K.kept (h.at_ x hx) k6 (fun b hf e => h.off x hx b hf e)
    · exact K.kept (hm x hx) k6 (fun b hf e => hmo x hx b hf e)
  · intro x hx
    rw [List.mem_append] at hx
    rcases hx with hx | hx
    · exact hoff x (h.at_ x hx) (h.off x hx)
    · exact hoff x (hm x hx) (hmo x hx)
  · intro k hk
    rcases hrow.lt with hl | ⟨g, hg, hb, hl⟩
    · omega
    · rw [hk] at hg
      simp at hg
      subst hg
      exact ⟨hb, hl⟩
  · intro n cap e
    rcases hrow.2 with ⟨ao, hv, hn⟩ | ⟨g, pre, post, c, hv, _⟩
    · omega
    · rw [hv] at e
      cases e

/-- append(q, y). -/
theorem wpList_push {P : Program} {w : World} {ops : Array Oper} {rest : List Oper} {o : Oper} {a : Act} {Q : Exit → Act → World → Prop} (hgd : o.guard = none) (s x : Operand) (t : TypeId)
    (ho : o.op = .call { callee := .builtin .append, args := #[s, x], argTypes := #[t, t] })
    (base : Nat) (e : TypeId) (i : TypeInfo) (z : Value) (bytes : Nat) (ht : P.underlying t = some (.slice e)) (hi : P.info? e = some i) (hz : i.zero = some z)
    (hsize : i.size = K.n) (hby : i.bytes = bytes) (hzs : z.cells.size = K.n)
    (q : Value) (l : List α) (hs : a.eval s = q) (hq : KQ K e w base q l) (y : α) (hy : K.At w y) (hyo : ∀ b, K.foot y b → q.ownBlock ≠ some b)
    (ad : Addr) (c : Nat) (hx : a.eval x = .slice (some ad) 1 c) (hnews : ∀ j u, (K.c y)[j]? = some u → w.cell? (ad.add j) = some u)
    (h63 : l.length + 1 ≤ maxLen) (hbytes : (l.length + 1) * bytes ≤ 140737488355328) (hbase : base ≤ w.heap.size)
    (h : ∀ ao' cap' w', KQ K e w' base (.slice ao' (l.length + 1) cap') (l ++ [y]) → Kept (fun k => q.ownBlock = some k) w w' → wpList P ops Q rest (a.put o.dst (.slice ao' (l.length + 1) cap')) w') : wpList P ops Q (o :: rest) a w := by
  refine wpList_append_q hgd s x t ho base e i z K.n bytes ht hi hz hsize hby hzs K.pos q l.length (flatK K l) hs hq.row ad 1 c (K.c y) hx (by decide) (by rw [K.len]; omega) hnews (K.one y) h63 hbytes hbase ?_
  intro v' w' hrow hgr hfr
  obtain ⟨ao', cap', rfl, _, _⟩ := hrow.form
  refine h ao' cap' w' (hq.push (m := [y]) ?_ ?_ (by simp) (by rw [flatK_single]; exact hrow) hgr hfr) (Kept.of_grown hgr)
  · intro x hx; simp at hx; rw [hx]; exact hy
  · intro x hx; simp at hx; rw [hx]; exact hyo

/-- append(q, y), at a step of a region that draws its order. -/
theorem step_push {P : Program} (w : World) {ops : Array Oper} {o : Oper} {a : Act} {C : Act → World → Prop} {Q : Exit → Act → World → Prop} {E : Prop} (hgd : o.guard = none) (s x : Operand) (t : TypeId)
    (ho : o.op = .call { callee := .builtin .append, args := #[s, x], argTypes := #[t, t] })
    (base : Nat) (e : TypeId) (i : TypeInfo) (z : Value) (bytes : Nat) (ht : P.underlying t = some (.slice e)) (hi : P.info? e = some i) (hz : i.zero = some z)
    (hsize : i.size = K.n) (hby : i.bytes = bytes) (hzs : z.cells.size = K.n)
    (q : Value) (l : List α) (hs : a.eval s = q) (hq : KQ K e w base q l) (y : α) (hy : K.At w y) (hyo : ∀ b, K.foot y b → q.ownBlock ≠ some b)
    (ad : Addr) (c : Nat) (hx : a.eval x = .slice (some ad) 1 c) (hnews : ∀ j u, (K.c y)[j]? = some u → w.cell? (ad.add j) = some u)
    (h63 : l.length + 1 ≤ maxLen) (hbytes : (l.length + 1) * bytes ≤ 140737488355328) (hbase : base ≤ w.heap.size)
    (h : ∀ ao' cap' w', KQ K e w' base (.slice ao' (l.length + 1) cap') (l ++ [y]) → Kept (fun k => q.ownBlock = some k) w w' → C (a.put o.dst (.slice ao' (l.length + 1) cap')) w') : if Region.wanted o (yielded ops a.tmps) = true then Oper.wp P o a w C Q else E := by
  refine step_append_q w hgd s x t ho e i z K.n bytes ht hi hz hsize hby hzs K.pos base q l.length (flatK K l) hs hq.row ad 1 c (K.c y) hx (by decide) (by rw [K.len]; omega) hnews (K.one y) h63 hbytes hbase ?_
  intro v' w' hrow hgr hfr
  obtain ⟨ao', cap', rfl, _, _⟩ := hrow.form
  refine h ao' cap' w' (hq.push (m := [y]) ?_ ?_ (by simp) (by rw [flatK_single]; exact hrow) hgr hfr) (Kept.of_grown hgr)
  · intro x hx; simp at hx; rw [hx]; exact hy
  · intro x hx; simp at hx; rw [hx]; exact hyo

/-- The cells of a row that is copied. -/
theorem RowAt.news {w : World} {ad : Addr} {l : List α} (h : RowAt K w (some ad) l) : ∀ j u, (flatK K l)[j]? = some u → w.cell? (ad.add j) = some u := by
  intro j u hu
  have hj := (List.getElem?_eq_some_iff.1 hu).1
  rw [flatK_length] at hj
  have hi : j / K.n < l.length := (Nat.div_lt_iff_lt_mul K.pos).2 hj
  have hx : l[j / K.n]? = some l[j / K.n] := List.getElem?_eq_getElem hi
  obtain ⟨b, off, e, hb, hc⟩ := h.cell _ _ hx
  simp at e
  subst e
  have hg := flatK_get K l _ _ hx (j % K.n) (Nat.mod_lt _ K.pos)
  have e2 : j / K.n * K.n + j % K.n = j := Nat.div_add_mod' j K.n
  rw [e2, hu] at hg
  have := hc (j % K.n) u hg.symm
  rw [Go.WideShapes.add_plain]
  rw [Nat.add_assoc, e2] at this
  exact this

/-- append(q, xs...), q an empty row of the call's own: a row of the same elements, the call's own. -/
theorem wpList_copy {P : Program} {w : World} {ops : Array Oper} {rest : List Oper} {o : Oper} {a : Act} {Q : Exit → Act → World → Prop} (hgd : o.guard = none) (s x : Operand) (t : TypeId)
    (ho : o.op = .call { callee := .builtin .append, args := #[s, x], argTypes := #[t, t] })
    (base : Nat) (e : TypeId) (i : TypeInfo) (z : Value) (bytes : Nat) (ht : P.underlying t = some (.slice e)) (hi : P.info? e = some i) (hz : i.zero = some z)
    (hsize : i.size = K.n) (hby : i.bytes = bytes) (hzs : z.cells.size = K.n)
    (v : Value) (hs : a.eval s = v) (hown : w.ownsRow base e K.n v 0 []) (ao : Option Addr) (cap : Nat) (l : List α) (hx : a.eval x = .slice ao l.length cap)
    (hS : RowAt K w ao l) (hf : ∀ x ∈ l, ∀ b, K.foot x b → b < base) (hnil : ao = none → cap = 0) (hm : l.length ≤ maxLen) (hlen : l.length * bytes ≤ 140737488355328) (hbase : base ≤ w.heap.size)
    (h : ∀ ao' cap' w', RowAt K w' ao' l → (ao' = none → cap' = 0) → (l ≠ [] → ∀ b off, ao' = some ⟨b, off, none⟩ → base ≤ b) → Below base w w' → wpList P ops Q rest (a.put o.dst (.slice ao' l.length cap')) w') : wpList P ops Q (o :: rest) a w := by
  cases ao with
  | none =>
    have hc0 := hnil rfl
    subst hc0
    have hss : l = [] := by
      cases l with
      | nil => rfl
      | cons y r => obtain ⟨_, _, e, _⟩ := hS.cell 0 y rfl; cases e
    subst hss
    refine wpList_append_own_none hgd s x t ho base e i K.n ht hi v 0 [] hs hown hx ?_
    rcases hown.2 with ⟨hv, _⟩ | ⟨g, c, cur, hv, _⟩
    · rw [hv]
      exact h none 0 w (nil_row _ _) (fun _ => rfl) (fun hne => absurd rfl hne) (Below.refl _ _)
    · rw [hv]
      exact h _ c w (nil_row _ _) (fun e => by cases e) (fun hne => absurd rfl hne) (Below.refl _ _)
  | some ad =>
    refine wpList_append_own w hgd s x t ho base e i z K.n bytes ht hi hz hsize hby hzs K.pos v 0 [] hs hown ad l.length cap (flatK K l) hx (flatK_length K l) hS.news (flatK_one K l) (by omega) (by rw [Nat.zero_add]; exact hlen) hbase ?_
    intro v' w' hown' hgrow _
    have hb := (Below.refl base w).grown hgrow hbase (fun q hq => (hown.lt q hq).1)
    rw [Nat.zero_add, List.nil_append] at hown'
    have hA : ∀ x ∈ l, K.At w' x := fun x hx => K.keep (hS.at_ x hx) (fun b hb' => hb.block b (hf x hx b hb'))
    have hq := QRow.of_own hown'
    obtain ⟨ao', cap', rfl, _, _⟩ := hq.form
    refine h ao' cap' w' (hq.rowAt rfl hA) ?_ ?_ hb
    · intro he
      rcases hown'.2 with ⟨hv, _⟩ | ⟨g, c, cur, hv, _⟩
      · simp at hv; exact hv.2.2
      · simp at hv; rw [hv.1] at he; cases he
    · intro hne b off he
      exact (hown'.lt b (by rw [he]; rfl)).1
end
end Go.Proofs.YtajpfkenhchafaaDoor

/- append(q, xs...) of a row's elements, q an empty row of the call's own: nothing but q's block and new ones is turned. -/
namespace Go.Proofs.YtajpfkenhchafaaDoor
open Go.RowKit
set_option linter.unusedVariables false

section
variable {α : Type} {K : Kind α}

/-- As an equation of the run. -/
theorem run_copyK {P : Program} (w : World) (t ty : TypeId) (base : Nat) (e : TypeId) (i : TypeInfo) (z : Value) (bytes : Nat) (ht : P.underlying t = some (.slice e)) (hi : P.info? e = some i) (hz : i.zero = some z)
    (hsize : i.size = K.n) (hby : i.bytes = bytes) (hzs : z.cells.size = K.n)
    (v : Value) (hown : w.ownsRow base e K.n v 0 []) (ao : Option Addr) (cap : Nat) (l : List α)
    (hS : RowAt K w ao l) (hf : ∀ x b, ¬ K.foot x b) (hnil : ao = none → cap = 0) (hm : l.length ≤ maxLen) (hlen : l.length * bytes ≤ 140737488355328) (hbase : base ≤ w.heap.size) :
    ∃ ao' cap' w', (Builtin.append_ #[t, t] ty #[v, .slice ao l.length cap]).run P w = .ok (.slice ao' l.length cap') w' ∧ KQ K e w' base (.slice ao' l.length cap') l ∧ Kept (fun k => v.ownBlock = some k) w w' := by
  cases ao with
  | none =>
    have hc0 := hnil rfl
    subst hc0
    have hss : l = [] := by
      cases l with
      | nil => rfl
      | cons y r => obtain ⟨_, _, e, _⟩ := hS.cell 0 y rfl; cases e
    subst hss
    have hrun := run_append_owned_none (P := P) (w := w) base t ty e i K.n ht hi v 0 [] hown
    have hq := QRow.of_own hown
    rcases hown.2 with ⟨hv, _⟩ | ⟨g, c, cur, hv, _⟩
    · rw [hv] at hrun ⊢
      exact ⟨none, 0, w, hrun, KQ.empty K e w base, Kept.refl _ _⟩
    · rw [hv] at hrun hq hown ⊢
      exact ⟨_, c, w, hrun, ⟨hq, (fun x hx => by cases hx), (fun x hx => by cases hx), (fun k hk => ⟨(hown.lt k hk).1, (hown.lt k hk).2⟩), (fun n cap e => by cases e)⟩, Kept.refl _ _⟩
  | some ad =>
    obtain ⟨v', w', hrun, hown', hgrow, _⟩ := run_append_own (P := P) w base t ty e i z K.n bytes ht hi hz hsize hby hzs K.pos v 0 [] hown ad l.length cap (flatK K l) (flatK_length K l) hS.news (flatK_one K l) (by omega) (by rw [Nat.zero_add]; exact hlen) hbase
    rw [Nat.zero_add, List.nil_append] at hown'
    have hk := Kept.of_grown hgrow
    have hA : ∀ x ∈ l, K.At w' x := fun x hx => K.kept (hS.at_ x hx) hk (fun b hb' => absurd hb' (hf x b))
    have hq := QRow.of_own hown'
    obtain ⟨ao', cap', rfl, hlc, _⟩ := hq.form
    refine ⟨ao', cap', w', hrun, ⟨hq, hA, fun x hx b hb => absurd hb (hf x b), fun k hk => ⟨(hown'.lt k hk).1, (hown'.lt k hk).2⟩, ?_⟩, hk⟩
    intro n c he
    rcases hown'.2 with ⟨hv, _⟩ | ⟨g, c', cur, hv, _⟩
    · rw [hv] at he
      simp at he
      omega
    · rw [hv] at he
      cases he

/-- The same, at a step of a region that draws its order. -/
theorem step_copyK {P : Program} (w : World) {ops : Array Oper} {o : Oper} {a : Act} {C : Act → World → Prop} {Q : Exit → Act → World → Prop} {E : Prop} (hgd : o.guard = none) (s x : Operand) (t : TypeId)
    (ho : o.op = .call { callee := .builtin .append, args := #[s, x], argTypes := #[t, t] })
    (base : Nat) (e : TypeId) (i : TypeInfo) (z : Value) (bytes : Nat) (ht : P.underlying t = some (.slice e)) (hi : P.info? e = some i) (hz : i.zero = some z)
    (hsize : i.size = K.n) (hby : i.bytes = bytes) (hzs : z.cells.size = K.n)
    (v : Value) (hs : a.eval s = v) (hown : w.ownsRow base e K.n v 0 []) (ao : Option Addr) (cap : Nat) (l : List α) (hx : a.eval x = .slice ao l.length cap)
    (hS : RowAt K w ao l) (hf : ∀ x b, ¬ K.foot x b) (hnil : ao = none → cap = 0) (hm : l.length ≤ maxLen) (hlen : l.length * bytes ≤ 140737488355328) (hbase : base ≤ w.heap.size)
    (h : ∀ ao' cap' w', KQ K e w' base (.slice ao' l.length cap') l → Kept (fun k => v.ownBlock = some k) w w' → C (a.put o.dst (.slice ao' l.length cap')) w') : if Region.wanted o (yielded ops a.tmps) = true then Oper.wp P o a w C Q else E := by
  rw [if_pos (by simp [Region.wanted, hgd])]
  obtain ⟨ao', cap', w', hrun, r1, r2⟩ := run_copyK (K := K) (P := P) w t o.type base e i z bytes ht hi hz hsize hby hzs v hown ao cap l hS hf hnil hm hlen hbase
  unfold Oper.wp
  simp [execOp, ho, resolve, invoke, builtin, hs, hx, hrun, Result.andThen]
  exact h ao' cap' w' r1 r2
end
end Go.Proofs.YtajpfkenhchafaaDoor

/- A cell of a row of the call's own is written. -/
namespace Go.Proofs.YtajpfkenhchafaaDoor
open Go.RowKit
set_option linter.unusedVariables false

section
variable {α : Type} {K : Kind α}

theorem flatK_set : ∀ (l : List α) (i : Nat) (x y : α) (k : Nat) (v : Value), l[i]? = some x → k < K.n → K.c y = (K.c x).set k v → flatK K (l.set i y) = (flatK K l).set (i * K.n + k) v
  | [], _, _, _, _, _, h, _, _ => by simp at h
  | z :: r, 0, x, y, k, v, h, hk, hc => by
    simp at h
    subst h
    have e : ∀ q : α, flatK K (q :: r) = K.c q ++ flatK K r := fun q => by simp [flatK]
    rw [List.set_cons_zero, e, e, hc, List.set_append_left _ _ (by rw [K.len]; omega), Nat.zero_mul, Nat.zero_add]
  | z :: r, i + 1, x, y, k, v, h, hk, hc => by
    have ih := flatK_set r i x y k v (by simpa using h) hk hc
    have e : ∀ m : List α, flatK K (z :: m) = K.c z ++ flatK K m := fun m => by simp [flatK]
    rw [List.set_cons_succ, e, e, ih, List.set_append_right _ _ (by rw [K.len, Nat.add_mul]; omega), K.len]
    congr 2
    rw [Nat.add_mul]
    omega

/-- Where an element of a row of the call's own lies; what becomes of the row when a cell of it is written. -/
theorem KQ.set {T : TypeId} {w : World} {base : Nat} {ao : Option Addr} {n cap : Nat} {l : List α} (h : KQ K T w base (.slice ao n cap) l) {i : Nat} {x : α} (hx : l[i]? = some x) :
    ∃ g off, ao = some ⟨g, off, none⟩ ∧ base ≤ g ∧ g < w.heap.size ∧ (∀ k v, (K.c x)[k]? = some v → w.cell? ⟨g, off + i * K.n + k, none⟩ = some v) ∧ (∀ o, w.frozen? ⟨g, o, none⟩ = false) ∧
      ∀ (y : α) (k : Nat) (v : Value), k < K.n → K.c y = (K.c x).set k v → K.At w y → (∀ b, K.foot y b → K.foot x b) → KQ K T (w.setCell ⟨g, off + i * K.n + k, none⟩ v) base (.slice ao n cap) (l.set i y) := by
  have hi := (List.getElem?_eq_some_iff.1 hx).1
  rcases h.row.2 with ⟨ao', hv, hn⟩ | ⟨g, pre, post, cap', hv, hb, hg, hnc, hcm, hpl⟩
  · simp at hv
    omega
  · simp only [Value.slice.injEq] at hv
    obtain ⟨rfl, rfl, rfl⟩ := hv
    have hlen := h.row.1
    have hin : ∀ k, k < K.n → i * K.n + k < (flatK K l).length := by
      intro k hk
      rw [flatK_length]
      have : (i + 1) * K.n ≤ l.length * K.n := Nat.mul_le_mul_right _ hi
      rw [Nat.add_mul] at this
      omega
    refine ⟨g, pre.length, rfl, hb, hg.lt, fun k v hk => ?_, fun o => hg.frozen o, fun y k v hk hc hy hf => ?_⟩
    · have hk' : k < K.n := by have := (List.getElem?_eq_some_iff.1 hk).1; rw [K.len] at this; exact this
      refine hg.cell ?_
      have := hin k hk'
      rw [List.getElem?_append_left (by rw [List.length_append]; omega), List.getElem?_append_right (by omega)]
      have e : pre.length + i * K.n + k - pre.length = i * K.n + k := by omega
      rw [e, flatK_get K l i x hx k hk']
      exact hk
    · have hA := hg.set (pre.length + i * K.n + k) v
      have e1 : (pre ++ flatK K l ++ post).set (pre.length + i * K.n + k) v = pre ++ flatK K (l.set i y) ++ post := by
        have := hin k hk
        rw [flatK_set l i x y k v hx hk hc, List.set_append_left _ _ (by rw [List.length_append]; omega), List.set_append_right _ _ (by omega)]
        congr 3
        omega
      rw [e1] at hA
      have kk := Kept.setCell w ⟨g, pre.length + i * K.n + k, none⟩ v
      have hown : (Value.slice (some ⟨g, pre.length, none⟩) l.length cap).ownBlock = some g := rfl
      refine ⟨⟨by rw [flatK_length, List.length_set], Or.inr ⟨g, pre, post, cap, by rw [List.length_set], hb, hA, by rw [List.length_set]; exact hnc, hcm, by rw [List.length_set]; exact hpl⟩⟩, ?_, ?_, ?_, ?_⟩
      · intro z hz
        rcases List.mem_or_eq_of_mem_set hz with hz | rfl
        · exact K.kept (h.at_ z hz) kk (fun b hb' e => h.off z hz b hb' (by rw [hown]; have e' : b = g := e; rw [e']))
        · exact K.kept hy kk (fun b hb' e => h.off x (List.mem_of_getElem? hx) b (hf b hb') (by rw [hown]; have e' : b = g := e; rw [e']))
      · intro z hz b hb'
        rcases List.mem_or_eq_of_mem_set hz with hz | rfl
        · exact h.off z hz b hb'
        · exact h.off x (List.mem_of_getElem? hx) b (hf b hb')
      · intro q hq
        have := h.lt q hq
        exact ⟨this.1, Nat.lt_of_lt_of_le this.2 kk.size⟩
      · exact h.nil
end
end Go.Proofs.YtajpfkenhchafaaDoor

/- append(q, xs...) upon a row of the call's own, whatever is appended; a copy at an operation that is guarded. -/
namespace Go.Proofs.YtajpfkenhchafaaDoor
open Go.RowKit
set_option linter.unusedVariables false

section
variable {α : Type} {K : Kind α}

/-- append(q, xs...), q of the call's own, xs at an address. -/
theorem step_ownO {P : Program} (w : World) {ops : Array Oper} {o : Oper} {a : Act} {C : Act → World → Prop} {Q : Exit → Act → World → Prop} {E : Prop} (hgd : o.guard = none) (s x : Operand) (t : TypeId)
    (ho : o.op = .call { callee := .builtin .append, args := #[s, x], argTypes := #[t, t] })
    (base : Nat) (e : TypeId) (i : TypeInfo) (z : Value) (bytes : Nat) (ht : P.underlying t = some (.slice e)) (hi : P.info? e = some i) (hz : i.zero = some z)
    (hsize : i.size = K.n) (hby : i.bytes = bytes) (hzs : z.cells.size = K.n)
    (v : Value) (n : Nat) (xs : List Value) (hs : a.eval s = v) (hown : w.ownsRow base e K.n v n xs) (ad : Addr) (cap : Nat) (l : List α) (hx : a.eval x = .slice (some ad) l.length cap)
    (hS : RowAt K w (some ad) l) (hm : n + l.length ≤ maxLen) (hlen : (n + l.length) * bytes ≤ 140737488355328) (hbase : base ≤ w.heap.size)
    (h : ∀ ao' cap' w', w'.ownsRow base e K.n (.slice ao' (n + l.length) cap') (n + l.length) (xs ++ flatK K l) → Kept (fun k => v.ownBlock = some k) w w' → C (a.put o.dst (.slice ao' (n + l.length) cap')) w') : if Region.wanted o (yielded ops a.tmps) = true then Oper.wp P o a w C Q else E := by
  rw [if_pos (by simp [Region.wanted, hgd])]
  obtain ⟨v', w', hrun, hown', hgrow, _⟩ := run_append_own (P := P) w base t o.type e i z K.n bytes ht hi hz hsize hby hzs K.pos v n xs hown ad l.length cap (flatK K l) (flatK_length K l) hS.news (flatK_one K l) hm hlen hbase
  obtain ⟨ao', cap', rfl, _, _⟩ := (QRow.of_own hown').form
  unfold Oper.wp
  simp [execOp, ho, resolve, invoke, builtin, hs, hx, hrun, Result.andThen]
  exact h ao' cap' w' hown' (Kept.of_grown hgrow)

/-- The same, the lengths under letters. -/
theorem step_ownM {P : Program} (w : World) {ops : Array Oper} {o : Oper} {a : Act} {C : Act → World → Prop} {Q : Exit → Act → World → Prop} {E : Prop} (hgd : o.guard = none) (s x : Operand) (t : TypeId)
    (ho : o.op = .call { callee := .builtin .append, args := #[s, x], argTypes := #[t, t] })
    (base : Nat) (e : TypeId) (i : TypeInfo) (z : Value) (bytes : Nat) (ht : P.underlying t = some (.slice e)) (hi : P.info? e = some i) (hz : i.zero = some z)
    (hsize : i.size = K.n) (hby : i.bytes = bytes) (hzs : z.cells.size = K.n)
    (v : Value) (n m N : Nat) (xs : List Value) (hs : a.eval s = v) (hown : w.ownsRow base e K.n v n xs) (ad : Addr) (cap : Nat) (l : List α) (hl : l.length = m) (hN : n + m = N) (hx : a.eval x = .slice (some ad) m cap)
    (hS : RowAt K w (some ad) l) (hm : N ≤ maxLen) (hlen : N * bytes ≤ 140737488355328) (hbase : base ≤ w.heap.size)
    (h : ∀ ao' cap' w', w'.ownsRow base e K.n (.slice ao' N cap') N (xs ++ flatK K l) → Kept (fun k => v.ownBlock = some k) w w' → C (a.put o.dst (.slice ao' N cap')) w') : if Region.wanted o (yielded ops a.tmps) = true then Oper.wp P o a w C Q else E := by
  subst hl
  subst hN
  exact step_ownO w hgd s x t ho base e i z bytes ht hi hz hsize hby hzs v n xs hs hown ad cap l hx hS hm hlen hbase h

/-- append(q, xs...), q of the call's own, xs whatever row. -/
theorem step_ownR {P : Program} (w : World) {ops : Array Oper} {o : Oper} {a : Act} {C : Act → World → Prop} {Q : Exit → Act → World → Prop} {E : Prop} (hgd : o.guard = none) (s x : Operand) (t : TypeId)
    (ho : o.op = .call { callee := .builtin .append, args := #[s, x], argTypes := #[t, t] })
    (base : Nat) (e : TypeId) (i : TypeInfo) (z : Value) (bytes : Nat) (ht : P.underlying t = some (.slice e)) (hi : P.info? e = some i) (hz : i.zero = some z)
    (hsize : i.size = K.n) (hby : i.bytes = bytes) (hzs : z.cells.size = K.n)
    (v : Value) (n m N : Nat) (xs : List Value) (hs : a.eval s = v) (hown : w.ownsRow base e K.n v n xs) (ao : Option Addr) (cap : Nat) (l : List α) (hl : l.length = m) (hN : n + m = N) (hx : a.eval x = .slice ao m cap)
    (hS : RowAt K w ao l) (hnil : ao = none → cap = 0) (hm : N ≤ maxLen) (hlen : N * bytes ≤ 140737488355328) (hbase : base ≤ w.heap.size)
    (h : ∀ ao' cap' w', w'.ownsRow base e K.n (.slice ao' N cap') N (xs ++ flatK K l) → Kept (fun k => v.ownBlock = some k) w w' → C (a.put o.dst (.slice ao' N cap')) w') : if Region.wanted o (yielded ops a.tmps) = true then Oper.wp P o a w C Q else E := by
  cases ao with
  | some ad => exact step_ownM w hgd s x t ho base e i z bytes ht hi hz hsize hby hzs v n m N xs hs hown ad cap l hl hN hx hS hm hlen hbase h
  | none =>
    have hc0 := hnil rfl
    subst hc0
    have hss : l = [] := by
      cases l with
      | nil => rfl
      | cons y r => obtain ⟨_, _, e, _⟩ := hS.cell 0 y rfl; cases e
    subst hss
    have hm0 : m = 0 := by simpa using hl.symm
    subst hm0
    have hNn : N = n := by omega
    subst hNn
    rw [if_pos (by simp [Region.wanted, hgd])]
    have hrun := run_append_owned_none (P := P) (w := w) base t o.type e i K.n ht hi v N xs hown
    obtain ⟨ao', cap', rfl, _, _⟩ := (QRow.of_own hown).form
    have e0 : xs ++ flatK K ([] : List α) = xs := by simp [flatK]
    rw [e0] at h
    unfold Oper.wp
    simp [execOp, ho, resolve, invoke, builtin, hs, hx, hrun, Result.andThen]
    exact h ao' cap' w hown (Kept.refl _ _)

/-- A row of the call's own, flat elements. -/
theorem KQ.of_own {T : TypeId} {w : World} {base : Nat} {ao : Option Addr} {n cap : Nat} {l : List α} (hf : ∀ x b, ¬ K.foot x b) (hA : ∀ x ∈ l, K.At w x) (hn : n = l.length) (h : w.ownsRow base T K.n (.slice ao n cap) n (flatK K l)) : KQ K T w base (.slice ao n cap) l := by
  subst hn
  refine ⟨QRow.of_own h, hA, fun x hx b hb => absurd hb (hf x b), fun k hk => ⟨(h.lt k hk).1, (h.lt k hk).2⟩, ?_⟩
  intro n c he
  rcases h.2 with ⟨hv, _⟩ | ⟨g, c', cur, hv, _⟩
  · rw [hv] at he
    simp at he
    omega
  · rw [hv] at he
    cases he

/-- append(q, xs...), q an empty row of the call's own, at an operation that is wanted. -/
theorem wpList_copyW {P : Program} {w : World} {ops : Array Oper} {rest : List Oper} {o : Oper} {a : Act} {Q : Exit → Act → World → Prop} (hw : Region.wanted o (yielded ops a.tmps) = true) (s x : Operand) (t : TypeId)
    (ho : o.op = .call { callee := .builtin .append, args := #[s, x], argTypes := #[t, t] })
    (base : Nat) (e : TypeId) (i : TypeInfo) (z : Value) (bytes : Nat) (ht : P.underlying t = some (.slice e)) (hi : P.info? e = some i) (hz : i.zero = some z)
    (hsize : i.size = K.n) (hby : i.bytes = bytes) (hzs : z.cells.size = K.n)
    (v : Value) (hs : a.eval s = v) (hown : w.ownsRow base e K.n v 0 []) (ao : Option Addr) (cap : Nat) (l : List α) (hx : a.eval x = .slice ao l.length cap)
    (hS : RowAt K w ao l) (hf : ∀ x b, ¬ K.foot x b) (hnil : ao = none → cap = 0) (hm : l.length ≤ maxLen) (hlen : l.length * bytes ≤ 140737488355328) (hbase : base ≤ w.heap.size)
    (h : ∀ ao' cap' w', KQ K e w' base (.slice ao' l.length cap') l → Kept (fun k => v.ownBlock = some k) w w' → wpList P ops Q rest (a.put o.dst (.slice ao' l.length cap')) w') : wpList P ops Q (o :: rest) a w := by
  refine wpList_step fun K' hK' => ?_
  rw [if_pos hw]
  obtain ⟨ao', cap', w', hrun, r1, r2⟩ := run_copyK (K := K) (P := P) w t o.type base e i z bytes ht hi hz hsize hby hzs v hown ao cap l hS hf hnil hm hlen hbase
  unfold Oper.wp
  simp [execOp, ho, resolve, invoke, builtin, hs, hx, hrun, Result.andThen]
  exact hK' _ _ (h ao' cap' w' r1 r2)
end
end Go.Proofs.YtajpfkenhchafaaDoor

/- A region that draws its order and ends with one store that all others stand ahead of: loads are taken first under a condition on the world that need not hold behind that store. -/
namespace Go.Proofs.YtajpfkenhchafaaDoor
open Go

section
variable {P : Program} {ops : Array Oper} {Q : Exit → Act → World → Prop} {md : Region.Mode} {S : World → Prop} {z : Nat}

/-- Whatever order is picked from here on, and S holds behind every operation but number z. -/
def wpAnyK (P : Program) (md : Region.Mode) (ops : Array Oper) (Q : Exit → Act → World → Prop) (S : World → Prop) (z : Nat) : Nat → Array Bool → Act → World → Prop
  | 0, listed, a, w => Region.ready md ops listed = [] ∧ Q .normal a w
  | fuel + 1, listed, a, w =>
    (Region.ready md ops listed = [] → Q .normal a w) ∧
    ∀ i ∈ Region.ready md ops listed, wpOp P ops Q i (fun a' w' => (i ≠ z → S w') ∧ wpAnyK P md ops Q S z fuel (listed.setIfInBounds i true) a' w') a w

theorem wpAny_of_K : ∀ (fuel : Nat) (listed : Array Bool) (a : Act) (w : World), wpAnyK P md ops Q S z fuel listed a w → wpAny P md ops Q fuel listed a w
  | 0, _, _, _, h => h
  | fuel + 1, _, _, _, h => ⟨h.1, fun i hi => wpOp_mono (fun a' w' h' => wpAny_of_K fuel _ a' w' h'.2) (h.2 i hi)⟩

/-- Number z does not come up while one that it waits for has not. -/
theorem not_ready_of {i : Nat} {listed : Array Bool} (hz : Region.waitsFor md ops z i = true) (hun : listed.getD i true = false) : z ∉ Region.ready md ops listed := by
  intro hr
  obtain ⟨_, oz, hoz, hall⟩ := mem_ready.1 hr
  obtain ⟨o', ho', e, he, hb, hon⟩ := Region.waitsFor_spec hz
  have : o' = oz := Option.some.inj (ho'.symm.trans hoz)
  subst this
  have h3 := hall e he hb
  rw [hon, getD_both hun] at h3
  cases h3

theorem wpAnyK_first {i : Nat} {oi : Oper} {v : Value} (hi : ops[i]? = some oi) (hsel : ∀ (j : Nat) (o : Oper) cs b, ops[j]? = some o → o.op ≠ .select cs b)
    (hQ : ∀ c a w, Q (.panic c) (a.put oi.dst v) w → Q (.panic c) a w) (hz : Region.waitsFor md ops z i = true) (hiz : i ≠ z) :
    ∀ (fuel : Nat) (listed : Array Bool) (a : Act) (w : World),
      (∀ j oj, ops[j]? = some oj → j ≠ i → listed.getD j true = false → (∀ e ∈ oj.after, Region.binds md e = true → e.on ≠ i) → oi.apart ops oj = true) →
      i ∈ Region.ready md ops listed → YieldsIf P ops S oi v a → S w →
      wpAnyK P md ops Q S z fuel (listed.setIfInBounds i true) (a.put oi.dst v) w → wpAnyK P md ops Q S z (fuel + 1) listed a w := by
  intro fuel
  induction fuel with
  | zero =>
    intro listed a w _ hr hy hS H
    refine ⟨fun h => (by rw [h] at hr; cases hr), fun j hj => ?_⟩
    by_cases hji : j = i
    · subst hji; exact hy.wpOp hi hS ⟨fun _ => hS, H⟩
    · have := ready_mono hj hji
      rw [H.1] at this
      cases this
  | succ fuel ih =>
    intro listed a w hfree hr hy hS H
    have hun := (mem_ready.1 hr).1
    refine ⟨fun h => (by rw [h] at hr; cases hr), fun j hj => ?_⟩
    by_cases hji : j = i
    · subst hji; exact hy.wpOp hi hS ⟨fun _ => hS, H⟩
    · have hjz : j ≠ z := fun e => by subst e; exact not_ready_of hz hun hj
      have h1 := H.2 j (ready_mono hj hji)
      obtain ⟨hjun, oj, hoj, hall⟩ := mem_ready.1 hj
      have hnot : ∀ e ∈ oj.after, Region.binds md e = true → e.on ≠ i := fun e he hb heq => by
        have h1 := hall e he hb
        rw [heq, getD_both hun] at h1
        cases h1
      have h2 := wpOp_putIf hoj (hfree j oj hoj hji hjun hnot) (fun cs b => hsel i oi cs b hi) (fun cs b => hsel j oj cs b hoj) hQ hy h1
      have hfree' : ∀ k ok, ops[k]? = some ok → k ≠ i → (listed.setIfInBounds j true).getD k true = false →
          (∀ e ∈ ok.after, Region.binds md e = true → e.on ≠ i) → oi.apart ops ok = true := fun k ok hk hki hun hno => by
        refine hfree k ok hk hki ?_ hno
        by_cases hjk : j = k
        · subst hjk; exact hjun
        · rw [getD_set_ne true hjk] at hun; exact hun
      refine wpOp_mono (fun a' w' h3 => ⟨h3.2.1, ih (listed.setIfInBounds j true) a' w' hfree' (ready_mono hr (Ne.symm hji)) h3.1 (h3.2.1 hjz) ?_⟩) h2
      rw [Array.setIfInBounds_comm _ _ hji]
      exact h3.2.2

/-- Take number i first. -/
theorem wpAnyK_take {i : Nat} {oi : Oper} {v : Value} {fuel : Nat} {listed : Array Bool} {a : Act} {w : World} (hi : ops[i]? = some oi)
    (hs : Region.noSelect ops = true) (hf : Region.free md ops listed i = true) (hr : (Region.ready md ops listed).contains i = true) (hz : Region.waitsFor md ops z i = true) (hiz : i ≠ z)
    (hQ : ∀ c a w, Q (.panic c) (a.put oi.dst v) w → Q (.panic c) a w) (hS : S w) (hy : YieldsIf P ops S oi v a)
    (h : wpAnyK P md ops Q S z fuel (listed.setIfInBounds i true) (a.put oi.dst v) w) : wpAnyK P md ops Q S z (fuel + 1) listed a w :=
  wpAnyK_first hi (Region.noSelect_spec hs) hQ hz hiz fuel listed a w (Region.free_spec hi hf) (by simpa using hr) hy hS h

/-- The same, the slot under a letter. -/
theorem wpAnyK_takeD {i : Nat} {oi : Oper} {v : Value} {fuel : Nat} {listed : Array Bool} {a : Act} {w : World} (d : Option Nat) (hi : ops[i]? = some oi) (hd : oi.dst = d)
    (hs : Region.noSelect ops = true) (hf : Region.free md ops listed i = true) (hr : (Region.ready md ops listed).contains i = true) (hz : Region.waitsFor md ops z i = true) (hiz : i ≠ z)
    (hQ : ∀ c a w, Q (.panic c) (a.put d v) w → Q (.panic c) a w) (hS : S w) (hy : YieldsIf P ops S oi v a)
    (h : wpAnyK P md ops Q S z fuel (listed.setIfInBounds i true) (a.put d v) w) : wpAnyK P md ops Q S z (fuel + 1) listed a w := by
  subst hd
  exact wpAnyK_take hi hs hf hr hz hiz hQ hS hy h

/-- Each of the operations rs comes up next. -/
def AllReadyK (P : Program) (md : Region.Mode) (ops : Array Oper) (Q : Exit → Act → World → Prop) (S : World → Prop) (z : Nat) (fuel : Nat) (listed : Array Bool) (a : Act) (w : World) (rs : List Nat) : Prop :=
  ∀ i ∈ rs, wpOp P ops Q i (fun a' w' => (i ≠ z → S w') ∧ wpAnyK P md ops Q S z fuel (listed.setIfInBounds i true) a' w') a w

theorem AllReadyK.nil {fuel : Nat} {listed : Array Bool} {a : Act} {w : World} : AllReadyK P md ops Q S z fuel listed a w [] := fun _ h => by cases h

theorem AllReadyK.cons {fuel : Nat} {listed : Array Bool} {a : Act} {w : World} {i : Nat} {o : Oper} {rs : List Nat} (ho : ops[i]? = some o)
    (h : ∀ K' : Act → World → Prop, Shut (∀ a w, (i ≠ z → S w) → wpAnyK P md ops Q S z fuel (listed.setIfInBounds i true) a w → K' a w) → if Region.wanted o (yielded ops a.tmps) = true then Oper.wp P o a w K' Q else K' (a.put o.dst undef) w)
    (hs : AllReadyK P md ops Q S z fuel listed a w rs) : AllReadyK P md ops Q S z fuel listed a w (i :: rs) := fun j hj => by
  rcases List.mem_cons.1 hj with rfl | hj
  · exact wpOp_step ho (fun K' hK => h K' (fun a w hS hW => hK a w ⟨hS, hW⟩))
  · exact hs j hj

/-- The same, what is handed on laid into slot d. -/
theorem AllReadyK.consD {fuel : Nat} {listed : Array Bool} {a : Act} {w : World} {i : Nat} {o : Oper} {rs : List Nat} (d : Option Nat) (ho : ops[i]? = some o) (hd : o.dst = d)
    (h : ∀ K' : Act → World → Prop, Shut (∀ v w, (i ≠ z → S w) → wpAnyK P md ops Q S z fuel (listed.setIfInBounds i true) (a.put d v) w → K' (a.put o.dst v) w) → if Region.wanted o (yielded ops a.tmps) = true then Oper.wp P o a w K' Q else K' (a.put o.dst undef) w)
    (hs : AllReadyK P md ops Q S z fuel listed a w rs) : AllReadyK P md ops Q S z fuel listed a w (i :: rs) := by
  subst hd
  exact AllReadyK.cons ho (fun K' hK => h K' (fun v w hS hW => hK.out _ w hS hW)) hs

theorem wpAnyK_ready {rs : List Nat} {fuel : Nat} {listed : Array Bool} {a : Act} {w : World} (hr : Region.ready md ops listed = rs) (hne : rs ≠ [])
    (h : AllReadyK P md ops Q S z fuel listed a w rs) : wpAnyK P md ops Q S z (fuel + 1) listed a w :=
  ⟨fun h0 => absurd (hr ▸ h0) hne, hr ▸ h⟩

theorem wpAnyK_done {listed : Array Bool} {a : Act} {w : World} (hr : Region.ready md ops listed = []) (h : Q .normal a w) :
    ∀ fuel, wpAnyK P md ops Q S z fuel listed a w
  | 0 => ⟨hr, h⟩
  | _ + 1 => ⟨fun _ => h, by rw [hr]; simp⟩

/-- The beginning. -/
theorem wp_region_K {id : Nat} {a : Act} {w : World} (S : World → Prop) (z : Nat) (hm : P.follows .mixedOrders = true)
    (h : wpAnyK P .any ops Q S z ops.size (Array.replicate ops.size false) a w.drew) : (Code.region id ops true).wp P Q a w :=
  wp_region_any hm (wpAny_of_K _ _ _ _ h)
end
end Go.Proofs.YtajpfkenhchafaaDoor

/- More on rows of the call's own: where they lie, joined rows, rows of texts. -/
namespace Go.Proofs.YtajpfkenhchafaaDoor
open Go Go.RowKit
set_option linter.unusedVariables false

/-- A row's block is an old one's, or new. -/
def Fresh (w : World) (q q' : Value) : Prop := ∀ g, q'.ownBlock = some g → q.ownBlock = some g ∨ w.heap.size ≤ g

theorem Fresh.refl (w : World) (q : Value) : Fresh w q q := fun _ h => Or.inl h

/-- append(q, y), at a step of a region that draws its order: where the new row lies. -/
theorem step_pushF {α : Type} {K : Kind α} {P : Program} (w : World) {ops : Array Oper} {o : Oper} {a : Act} {C : Act → World → Prop} {Q : Exit → Act → World → Prop} {E : Prop} (hgd : o.guard = none) (s x : Operand) (t : TypeId)
    (ho : o.op = .call { callee := .builtin .append, args := #[s, x], argTypes := #[t, t] })
    (base : Nat) (e : TypeId) (i : TypeInfo) (z : Value) (bytes : Nat) (ht : P.underlying t = some (.slice e)) (hi : P.info? e = some i) (hz : i.zero = some z)
    (hsize : i.size = K.n) (hby : i.bytes = bytes) (hzs : z.cells.size = K.n)
    (q : Value) (l : List α) (hs : a.eval s = q) (hq : KQ K e w base q l) (y : α) (hy : K.At w y) (hyo : ∀ b, K.foot y b → q.ownBlock ≠ some b)
    (ad : Addr) (c : Nat) (hx : a.eval x = .slice (some ad) 1 c) (hnews : ∀ j u, (K.c y)[j]? = some u → w.cell? (ad.add j) = some u)
    (h63 : l.length + 1 ≤ maxLen) (hbytes : (l.length + 1) * bytes ≤ 140737488355328) (hbase : base ≤ w.heap.size)
    (h : ∀ ao' cap' w', KQ K e w' base (.slice ao' (l.length + 1) cap') (l ++ [y]) → Kept (fun k => q.ownBlock = some k) w w' → Fresh w q (.slice ao' (l.length + 1) cap') → C (a.put o.dst (.slice ao' (l.length + 1) cap')) w') : if Region.wanted o (yielded ops a.tmps) = true then Oper.wp P o a w C Q else E := by
  refine step_append_q w hgd s x t ho e i z K.n bytes ht hi hz hsize hby hzs K.pos base q l.length (flatK K l) hs hq.row ad 1 c (K.c y) hx (by decide) (by rw [K.len]; omega) hnews (K.one y) h63 hbytes hbase ?_
  intro v' w' hrow hgr hfr
  obtain ⟨ao', cap', rfl, _, _⟩ := hrow.form
  refine h ao' cap' w' (hq.push (m := [y]) ?_ ?_ (by simp) (by rw [flatK_single]; exact hrow) hgr hfr) (Kept.of_grown hgr) hfr
  · intro x hx; simp at hx; rw [hx]; exact hy
  · intro x hx; simp at hx; rw [hx]; exact hyo

/-- A row's block lies behind whatever lies ahead of its base. -/
theorem KQ.rebase {α : Type} {K : Kind α} {T : TypeId} {w : World} {B B' : Nat} {q : Value} {l : List α} (h : KQ K T w B q l) (hB : B' ≤ B) : KQ K T w B' q l := by
  refine ⟨⟨h.row.1, h.row.2.imp id ?_⟩, h.at_, h.off, fun k hk => ⟨Nat.le_trans hB (h.lt k hk).1, (h.lt k hk).2⟩, h.nil⟩
  rintro ⟨g, pre, post, cap, e, hb, r⟩
  exact ⟨g, pre, post, cap, e, Nat.le_trans hB hb, r⟩

theorem own_belowT {B : Nat} {e : TypeId} {k : Nat} {v : Value} {n : Nat} {xs : List Value} {w w' : World} (h : w.ownsRow B e k v n xs) (hb : Below w.heap.size w w') : w'.ownsRow B e k v n xs := by
  refine ⟨h.1, h.2.imp id ?_⟩
  rintro ⟨g, cap, cur, e1, e2, e3, e4⟩
  have hg : g < w.heap.size := (Array.getElem?_eq_some_iff.1 e3).1
  exact ⟨g, cap, cur, e1, e2, (hb.block g hg).trans e3, e4⟩

theorem RowAt.dropG {α : Type} {K : Kind α} {w : World} {b off : Nat} {l : List α} (h : RowAt K w (some ⟨b, off, none⟩) l) (i : Nat) : RowAt K w (some ⟨b, off + i * K.n, none⟩) (l.drop i) := by
  refine ⟨fun k t ht => ?_, fun x hx => h.at_ x (List.mem_of_mem_drop hx)⟩
  rw [List.getElem?_drop] at ht
  obtain ⟨b', off', e', h1, h2⟩ := h.cell _ t ht
  simp only [Option.some.injEq, Addr.mk.injEq, and_true] at e'
  obtain ⟨rfl, rfl⟩ := e'
  refine ⟨_, _, rfl, h1, fun q v hv => ?_⟩
  have := h2 q v hv
  have ea : off + (i + k) * K.n + q = off + i * K.n + k * K.n + q := by rw [Nat.add_mul]; omega
  rw [ea] at this
  exact this

/-- Behind three appends. -/
theorem KQ.joined {α : Type} {K : Kind α} {T : TypeId} {w : World} {B : Nat} {ao : Option Addr} {N cap : Nat} {LT LD lo : List α} {x : α} (hf : ∀ x b, ¬ K.foot x b) (hA : ∀ x, K.At w x) (h : w.ownsRow B T K.n (.slice ao N cap) N ([] ++ flatK K LT ++ flatK K [x] ++ flatK K LD)) (hl : lo = LT ++ x :: LD) (hN : N = lo.length) : KQ K T w B (.slice ao N cap) lo := by
  have e : [] ++ flatK K LT ++ flatK K [x] ++ flatK K LD = flatK K lo := by
    rw [hl, List.nil_append, ← flatK_append, ← flatK_append, List.append_assoc]
    rfl
  rw [e] at h
  exact KQ.of_own hf (fun x _ => hA x) hN h

theorem infoStrT : (Tryd.prog.info? 9).any (fun i => i.size == 1 && i.bytes == 16 && (match i.zero with | some z => z.cells.size == 1 | none => false)) = true := by kernel_rfl

theorem strInfoT : ∃ i z, Tryd.prog.info? 9 = some i ∧ i.zero = some z ∧ i.size = 1 ∧ i.bytes = 16 ∧ z.cells.size = 1 := by
  have h := infoStrT
  cases hi : Tryd.prog.info? 9 with
  | none => rw [hi] at h; cases h
  | some i =>
    rw [hi] at h
    simp only [Option.any_some, Bool.and_eq_true, beq_iff_eq] at h
    cases hz : i.zero with
    | none => rw [hz] at h; simp at h
    | some z =>
      rw [hz] at h
      exact ⟨i, z, rfl, hz, h.1.1, h.1.2, by simpa using h.2⟩

/-- Texts. -/
def textK : Kind ByteArray where
  n := 1
  c x := [.string x]
  foot _ _ := False
  At _ _ := True
  pos := by decide
  len _ := rfl
  one x u hu := by
    simp only [List.mem_cons, List.not_mem_nil, or_false] at hu
    rcases hu with rfl; rfl
  lt _ h := h.elim
  keep _ _ := trivial

theorem new_text (w : World) (x : ByteArray) : ∀ j u, (textK.c x)[j]? = some u → (w.alloc (.cells #[.string x] 9)).cell? ((⟨w.heap.size, 0, none⟩ : Addr).add j) = some u := by
  intro j u hu
  rw [Go.WideShapes.add_plain, Nat.zero_add]
  exact (Arr.new w 9 [.string x]).cell hu

/-- What a table has behind an act: what it had, or new. -/
def FreshS (w : World) (S S' : Nat → Prop) : Prop := ∀ k, S' k → S k ∨ w.heap.size ≤ k

/-- Where a row that is not empty lies. -/
theorem KQ.spot {α : Type} {K : Kind α} {T : TypeId} {w : World} {base : Nat} {ao : Option Addr} {n cap : Nat} {l : List α} (h : KQ K T w base (.slice ao n cap) l) (hl : 0 < l.length) : ∃ g off, ao = some ⟨g, off, none⟩ ∧ base ≤ g ∧ g < w.heap.size ∧ n = l.length ∧ n ≤ cap := by
  rcases h.row.2 with ⟨ao', hv, hn⟩ | ⟨g, pre, post, cap', hv, hb, hg, hnc, hcm, hpl⟩
  · omega
  · simp only [Value.slice.injEq] at hv
    obtain ⟨rfl, rfl, rfl⟩ := hv
    exact ⟨g, pre.length, rfl, hb, hg.lt, rfl, hnc⟩
end Go.Proofs.YtajpfkenhchafaaDoor

/- Rows that are appended to: a whole row behind another one; where they lie. -/
namespace Go.Proofs.YtajpfkenhchafaaDoor
open Go Go.RowKit
set_option linter.unusedVariables false

/-- append(q, xs...) of no elements. -/
theorem run_append_zero {P : Program} (w : World) (t ty e : TypeId) (i : TypeInfo) (ht : P.underlying t = some (.slice e)) (hi : P.info? e = some i) (ao b : Option Addr) (n cap c : Nat) (hn : n ≤ cap) :
    (Builtin.append_ #[t, t] ty #[.slice ao n cap, .slice b 0 c]).run P w = .ok (.slice ao n cap) w := by
  cases ao <;> cases b <;> simp [Builtin.append_, run_underlying ht, sizeOf, typeInfo, hi, Builtin.lenOf, Builtin.firstCells, hn, storeCells, loadCells, loadCellsFrom, Result.andThen]

/-- append(q, y): where it lies then. -/
theorem wpList_pushN {α : Type} {K : Kind α} {P : Program} {w : World} {ops : Array Oper} {rest : List Oper} {o : Oper} {a : Act} {Q : Exit → Act → World → Prop} (hgd : o.guard = none) (s x : Operand) (t : TypeId)
    (ho : o.op = .call { callee := .builtin .append, args := #[s, x], argTypes := #[t, t] })
    (base : Nat) (e : TypeId) (i : TypeInfo) (z : Value) (bytes : Nat) (ht : P.underlying t = some (.slice e)) (hi : P.info? e = some i) (hz : i.zero = some z)
    (hsize : i.size = K.n) (hby : i.bytes = bytes) (hzs : z.cells.size = K.n)
    (q : Value) (l : List α) (hs : a.eval s = q) (hq : KQ K e w base q l) (y : α) (hy : K.At w y) (hyo : ∀ b, K.foot y b → q.ownBlock ≠ some b)
    (ad : Addr) (c : Nat) (hx : a.eval x = .slice (some ad) 1 c) (hnews : ∀ j u, (K.c y)[j]? = some u → w.cell? (ad.add j) = some u)
    (h63 : l.length + 1 ≤ maxLen) (hbytes : (l.length + 1) * bytes ≤ 140737488355328) (hbase : base ≤ w.heap.size)
    (h : ∀ ao' cap' w', KQ K e w' base (.slice ao' (l ++ [y]).length cap') (l ++ [y]) → Kept (fun k => q.ownBlock = some k) w w' → Fresh w q (.slice ao' (l ++ [y]).length cap') → wpList P ops Q rest (a.put o.dst (.slice ao' (l ++ [y]).length cap')) w') : wpList P ops Q (o :: rest) a w := by
  refine wpList_append_q hgd s x t ho base e i z K.n bytes ht hi hz hsize hby hzs K.pos q l.length (flatK K l) hs hq.row ad 1 c (K.c y) hx (by decide) (by rw [K.len]; omega) hnews (K.one y) h63 hbytes hbase ?_
  intro v' w' hrow hgr hfr
  obtain ⟨ao', cap', rfl, _, _⟩ := hrow.form
  have el : (l ++ [y]).length = l.length + 1 := by simp
  have hh := h ao' cap' w'
  rw [el] at hh
  refine hh (hq.push (m := [y]) ?_ ?_ (by simp) (by rw [flatK_single]; exact hrow) hgr hfr) (Kept.of_grown hgr) hfr
  · intro x hx; simp at hx; rw [hx]; exact hy
  · intro x hx; simp at hx; rw [hx]; exact hyo

/-- append(q, xs...): a whole row, whatever its length. -/
theorem wpList_joins {α : Type} {K : Kind α} {P : Program} {w : World} {ops : Array Oper} {rest : List Oper} {o : Oper} {a : Act} {Q : Exit → Act → World → Prop} (hgd : o.guard = none) (s x : Operand) (t : TypeId)
    (ho : o.op = .call { callee := .builtin .append, args := #[s, x], argTypes := #[t, t] })
    (base : Nat) (e : TypeId) (i : TypeInfo) (z : Value) (bytes : Nat) (ht : P.underlying t = some (.slice e)) (hi : P.info? e = some i) (hz : i.zero = some z)
    (hsize : i.size = K.n) (hby : i.bytes = bytes) (hzs : z.cells.size = K.n)
    (q : Value) (l m : List α) (hs : a.eval s = q) (hq : KQ K e w base q l) (hf : ∀ x b, ¬ K.foot x b)
    (ao : Option Addr) (c : Nat) (hx : a.eval x = .slice ao m.length c) (hS : RowAt K w ao m)
    (h63 : l.length + m.length ≤ maxLen) (hbytes : (l.length + m.length) * bytes ≤ 140737488355328) (hbase : base ≤ w.heap.size)
    (h : ∀ ao' cap' w', KQ K e w' base (.slice ao' (l ++ m).length cap') (l ++ m) → Kept (fun k => q.ownBlock = some k) w w' → Fresh w q (.slice ao' (l ++ m).length cap') → wpList P ops Q rest (a.put o.dst (.slice ao' (l ++ m).length cap')) w') : wpList P ops Q (o :: rest) a w := by
  have el : (l ++ m).length = l.length + m.length := by simp
  cases hm : m with
  | nil =>
    subst hm
    obtain ⟨aq, cq, rfl, _, _⟩ := hq.form
    obtain ⟨_, _, eq, hlc, _⟩ := hq.row.form
    simp only [Value.slice.injEq] at eq
    obtain ⟨rfl, _, rfl⟩ := eq
    refine wpList_plain hgd fun K' hK' => ?_
    have hrun := run_append_zero (P := P) w t o.type e i ht hi aq ao l.length cq c hlc
    unfold Oper.wp
    simp [execOp, ho, resolve, invoke, builtin, hs, hx, hrun, Result.andThen]
    have hh := h aq cq w
    rw [List.append_nil] at hh
    exact hK' _ _ (hh hq (Kept.refl _ _) (Fresh.refl _ _))
  | cons y r =>
    have hpos : 0 < m.length := by rw [hm]; simp
    obtain ⟨g, off, rfl, _, _⟩ := hS.cell 0 y (by rw [hm]; rfl)
    refine wpList_append_q hgd s x t ho base e i z K.n bytes ht hi hz hsize hby hzs K.pos q l.length (flatK K l) hs hq.row ⟨g, off, none⟩ m.length c (flatK K m) hx hpos (flatK_length K m) hS.news (flatK_one K m) h63 hbytes hbase ?_
    intro v' w' hrow hgr hfr
    obtain ⟨ao', cap', rfl, _, _⟩ := hrow.form
    have hh := h ao' cap' w'
    rw [el] at hh
    exact hh (hq.push (m := m) (fun x hx => hS.at_ x hx) (fun x _ b hb => absurd hb (hf x b)) hpos hrow hgr hfr) (Kept.of_grown hgr) hfr

/-- The front of a row of the call's own. -/
theorem KQ.cutEnd {α : Type} {K : Kind α} {T : TypeId} {w : World} {base : Nat} {ao : Option Addr} {n cap : Nat} {l : List α} (h : KQ K T w base (.slice ao n cap) l) (hf : ∀ x b, ¬ K.foot x b) (m : Nat) (hm : m ≤ l.length) : KQ K T w base (.slice ao m cap) (l.take m) := by
  have hlen : (l.take m).length = m := by rw [List.length_take]; omega
  refine ⟨⟨by rw [flatK_length], ?_⟩, fun x hx => h.at_ x (List.mem_of_mem_take hx), fun x _ b hb => absurd hb (hf x b), fun k hk => h.lt k (by cases ao <;> exact hk), fun a b e => h.nil n b (by simp only [Value.slice.injEq] at e; rw [e.1, e.2.2])⟩
  rcases h.row.2 with ⟨ao', hv, hn⟩ | ⟨g, pre, post, cap', hv, hb, hg, hnc, hcm, hpl⟩
  · simp only [Value.slice.injEq] at hv
    obtain ⟨rfl, hv2, rfl⟩ := hv
    exact Or.inl ⟨ao, by congr 1; omega, by omega⟩
  · simp only [Value.slice.injEq] at hv
    obtain ⟨rfl, rfl, rfl⟩ := hv
    refine Or.inr ⟨g, pre, flatK K (l.drop m) ++ post, cap, by rw [hlen], hb, ?_, by omega, hcm, ?_⟩
    · have e : pre ++ flatK K (l.take m) ++ (flatK K (l.drop m) ++ post) = pre ++ flatK K l ++ post := by
        rw [← List.append_assoc, List.append_assoc pre, ← flatK_append, List.take_append_drop]
      rw [e]
      exact hg
    · rw [List.length_append, flatK_length, hpl, hlen, List.length_drop, ← Nat.add_mul]
      congr 1
      omega

theorem KQ.rowOf {α : Type} {K : Kind α} {T : TypeId} {w : World} {base : Nat} {ao : Option Addr} {n cap : Nat} {l : List α} (h : KQ K T w base (.slice ao n cap) l) : RowAt K w ao l ∧ n = l.length := by
  obtain ⟨ao', cap', e, _, hr⟩ := h.form
  simp only [Value.slice.injEq] at e
  obtain ⟨e1, e2, _⟩ := e
  rw [e1]
  exact ⟨hr, e2⟩

theorem KQ.capOf {α : Type} {K : Kind α} {T : TypeId} {w : World} {base : Nat} {ao : Option Addr} {n cap : Nat} {l : List α} (h : KQ K T w base (.slice ao n cap) l) : l.length ≤ cap ∧ cap ≤ maxLen := by
  obtain ⟨ao', cap', e, h1, h2⟩ := h.row.form
  simp only [Value.slice.injEq] at e
  obtain ⟨_, _, e3⟩ := e
  rw [e3]
  exact ⟨h1, h2⟩

/-- A label to which a scope jumps back, behind two statements: its first way is walked up to it, then all its passes alike. -/
theorem wp_scope_next {P : Program} {a : Act} {w : World} {Q : Exit → Act → World → Prop} {x1 x2 r : Code} (l : Nat) (J : Act → World → Prop) (μ : Act → World → Nat) (hf : findLabel (x1.seq (x2.seq ((Code.label l).seq r))) l = some (Code.skip.seq r))
    (pass : ∀ a w, J a w → r.wp P (Exit.jump l (fun a' w' => J a' w' ∧ μ a' w' < μ a w) Q) a w)
    (first : ∀ K1 : Act → World → Prop, (∀ a w, x2.wp P (Exit.then J (Exit.jump l J Q)) a w → K1 a w) → x1.wp P (Exit.then K1 (Exit.jump l J Q)) a w) : (Code.scope (x1.seq (x2.seq ((Code.label l).seq r)))).wp P Q a w := by
  have hz : ∀ a w, J a w → ((Code.label l).seq r).wp P (Exit.jump l J Q) a w := fun a w h => wp_seq (wp_label (Code.wp_mono (fun e a' w' hq => by cases e <;> first | exact hq | exact ⟨hq.1, hq.2.1⟩) (pass a w h)))
  refine wp_scope_jumps l J μ hf (wp_seq (first _ (fun a w h => wp_seq (Code.wp_mono (fun e a' w' hq => ?_) h)))) (fun a w h => wp_seq (wp_skip (pass a w h)))
  cases e with
  | normal => exact hz a' w' hq
  | _ => exact hq
end Go.Proofs.YtajpfkenhchafaaDoor

/- Transactions as they lie in memory, and rows of them; pairs of numbers; numbers from 0 on. -/
namespace Go.Proofs.YtajpfkenhchafaaDoor
open Go Go.RowKit
set_option linter.unusedVariables false

/-- A transaction as it lies. -/
structure TxA where
  kind : Int
  frm : ByteArray
  dst : ByteArray
  amt : Int
  non : Int
  key : ByteArray
  val : ByteArray
  rs : List ByteArray
  ws : List ByteArray
  ra : Option Addr
  rc : Nat
  wa : Option Addr
  wc : Nat

instance : Inhabited TxA := ⟨⟨0, ⟨#[]⟩, ⟨#[]⟩, 0, 0, ⟨#[]⟩, ⟨#[]⟩, [], [], none, 0, none, 0⟩⟩

def TxA.rw (x : TxA) : RwD := ⟨x.rs, x.ws⟩

def TxA.c (x : TxA) : List Value := [.int .i64 x.kind, .string x.frm, .string x.dst, .int .u64 x.amt, .int .u64 x.non, .string x.key, .string x.val, .slice x.ra x.rs.length x.rc, .slice x.wa x.ws.length x.wc]

def TxA.v (x : TxA) : Value := .agg #[.int .i64 x.kind, .string x.frm, .string x.dst, .int .u64 x.amt, .int .u64 x.non, .string x.key, .string x.val, .slice x.ra x.rs.length x.rc, .slice x.wa x.ws.length x.wc]

/-- Its lists lie in memory, nil is nil, and its keys are texts that a machine has. -/
structure TxA.At (w : World) (x : TxA) : Prop where
  rd : RowAt textK w x.ra x.rs
  wr : RowAt textK w x.wa x.ws
  nr : x.ra = none → x.rc = 0
  nw : x.wa = none → x.wc = 0
  zr : ∀ s ∈ x.rs, s.size ≤ maxLen
  zw : ∀ s ∈ x.ws, s.size ≤ maxLen

def txA : Kind TxA where
  n := 9
  c := TxA.c
  foot x b := rowFoot textK x.ra x.rs b ∨ rowFoot textK x.wa x.ws b
  At := TxA.At
  pos := by decide
  len _ := rfl
  one x u hu := by
    simp only [TxA.c, List.mem_cons, List.not_mem_nil, or_false] at hu
    rcases hu with rfl | rfl | rfl | rfl | rfl | rfl | rfl | rfl | rfl <;> rfl
  lt h hf := hf.elim h.rd.lt h.wr.lt
  keep h hk := ⟨h.rd.keep (fun b hb => hk b (Or.inl hb)), h.wr.keep (fun b hb => hk b (Or.inr hb)), h.nr, h.nw, h.zr, h.zw⟩

theorem TxA.At.below {w w' : World} {x : TxA} (h : TxA.At w x) (hb : Below w.heap.size w w') : TxA.At w' x := txA.below h hb

/-- The nine cells of one of a row. -/
theorem RowAt.tx {w : World} {ao : Option Addr} {l : List TxA} (h : RowAt txA w ao l) {i : Nat} {x : TxA} (hx : l[i]? = some x) :
    ∃ b off, ao = some ⟨b, off, none⟩ ∧ b < w.heap.size ∧ w.cell? ⟨b, off + i * 9, none⟩ = some (.int .i64 x.kind) ∧ w.cell? ⟨b, off + i * 9 + 1, none⟩ = some (.string x.frm) ∧ w.cell? ⟨b, off + i * 9 + 2, none⟩ = some (.string x.dst) ∧ w.cell? ⟨b, off + i * 9 + 3, none⟩ = some (.int .u64 x.amt) ∧ w.cell? ⟨b, off + i * 9 + 4, none⟩ = some (.int .u64 x.non) ∧
      w.cell? ⟨b, off + i * 9 + 5, none⟩ = some (.string x.key) ∧ w.cell? ⟨b, off + i * 9 + 6, none⟩ = some (.string x.val) ∧ w.cell? ⟨b, off + i * 9 + 7, none⟩ = some (.slice x.ra x.rs.length x.rc) ∧ w.cell? ⟨b, off + i * 9 + 8, none⟩ = some (.slice x.wa x.ws.length x.wc) ∧ TxA.At w x := by
  obtain ⟨b, off, h1, h2, h3⟩ := h.cell i x hx
  exact ⟨b, off, h1, h2, h3 0 _ rfl, h3 1 _ rfl, h3 2 _ rfl, h3 3 _ rfl, h3 4 _ rfl, h3 5 _ rfl, h3 6 _ rfl, h3 7 _ rfl, h3 8 _ rfl, h.at_ x (List.mem_of_getElem? hx)⟩

theorem RowAt.txt {w : World} {ao : Option Addr} {l : List ByteArray} (h : RowAt textK w ao l) {i : Nat} {v : ByteArray} (hv : l[i]? = some v) :
    ∃ b off, ao = some ⟨b, off, none⟩ ∧ b < w.heap.size ∧ w.cell? ⟨b, off + i, none⟩ = some (.string v) := by
  obtain ⟨b, off, h1, h2, h3⟩ := h.cell i v hv
  refine ⟨b, off, h1, h2, ?_⟩
  have := h3 0 _ rfl
  have e : off + i * textK.n + 0 = off + i := by show off + i * 1 + 0 = _; omega
  rw [e] at this
  exact this

/-- Numbers from 0 on. -/
def natK : Kind Nat where
  n := 1
  c v := [.int .i64 (v : Int)]
  foot _ _ := False
  At _ _ := True
  pos := by decide
  len _ := rfl
  one x u hu := by
    simp only [List.mem_cons, List.not_mem_nil, or_false] at hu
    rcases hu with rfl; rfl
  lt _ h := h.elim
  keep _ _ := trivial

theorem RowAt.nat {w : World} {ao : Option Addr} {l : List Nat} (h : RowAt natK w ao l) {i : Nat} {v : Nat} (hv : l[i]? = some v) :
    ∃ b off, ao = some ⟨b, off, none⟩ ∧ b < w.heap.size ∧ w.cell? ⟨b, off + i, none⟩ = some (.int .i64 (v : Int)) := by
  obtain ⟨b, off, h1, h2, h3⟩ := h.cell i v hv
  refine ⟨b, off, h1, h2, ?_⟩
  have := h3 0 _ rfl
  have e : off + i * natK.n + 0 = off + i := by show off + i * 1 + 0 = _; omega
  rw [e] at this
  exact this

/-- Pairs of numbers. -/
def pairK : Kind (Nat × Nat) where
  n := 2
  c v := [.int .i64 (v.1 : Int), .int .i64 (v.2 : Int)]
  foot _ _ := False
  At _ _ := True
  pos := by decide
  len _ := rfl
  one x u hu := by
    simp only [List.mem_cons, List.not_mem_nil, or_false] at hu
    rcases hu with rfl | rfl <;> rfl
  lt _ h := h.elim
  keep _ _ := trivial

theorem RowAt.pair {w : World} {ao : Option Addr} {l : List (Nat × Nat)} (h : RowAt pairK w ao l) {i : Nat} {v : Nat × Nat} (hv : l[i]? = some v) :
    ∃ b off, ao = some ⟨b, off, none⟩ ∧ b < w.heap.size ∧ w.cell? ⟨b, off + i * 2, none⟩ = some (.int .i64 (v.1 : Int)) ∧ w.cell? ⟨b, off + i * 2 + 1, none⟩ = some (.int .i64 (v.2 : Int)) := by
  obtain ⟨b, off, h1, h2, h3⟩ := h.cell i v hv
  exact ⟨b, off, h1, h2, h3 0 _ rfl, h3 1 _ rfl⟩

theorem infoParts {t : TypeId} {k b : Nat} (h : (Tryd.prog.info? t).any (fun i => i.size == k && i.bytes == b && (match i.zero with | some z => z.cells.size == k | none => false)) = true) : ∃ i z, Tryd.prog.info? t = some i ∧ i.zero = some z ∧ i.size = k ∧ i.bytes = b ∧ z.cells.size = k := by
  cases hi : Tryd.prog.info? t with
  | none => rw [hi] at h; cases h
  | some i =>
    rw [hi] at h
    simp only [Option.any_some, Bool.and_eq_true, beq_iff_eq] at h
    cases hz : i.zero with
    | none => rw [hz] at h; simp at h
    | some z =>
      rw [hz] at h
      exact ⟨i, z, rfl, hz, h.1.1, h.1.2, by simpa using h.2⟩

theorem intInfoA : ∃ i z, Tryd.prog.info? 3 = some i ∧ i.zero = some z ∧ i.size = 1 ∧ i.bytes = 8 ∧ z.cells.size = 1 := infoParts (by kernel_rfl)

theorem txInfoA : ∃ i z, Tryd.prog.info? 50 = some i ∧ i.zero = some z ∧ i.size = 9 ∧ i.bytes = 136 ∧ z.cells.size = 9 := infoParts (by kernel_rfl)

/-- A row of nothing that is new. -/
theorem KQ.madeA {α : Type} {K : Kind α} {T : TypeId} (w : World) (B : Nat) (hB : B ≤ w.heap.size) : KQ K T (w.alloc (.cells #[] T)) B (.slice (some ⟨w.heap.size, 0, none⟩) 0 0) [] :=
  ⟨⟨by simp [flatK], Or.inl ⟨_, rfl, rfl⟩⟩, fun x hx => (by cases hx), fun x hx => (by cases hx), fun k hk => by
    simp only [Value.ownBlock, Option.some.injEq] at hk
    rw [alloc_size]
    omega, fun n cap e => by simp at e⟩

/-- What the transactions declare. -/
def rwL (l : List TxA) : List RwD := l.map TxA.rw

theorem rwL_length (l : List TxA) : (rwL l).length = l.length := by simp [rwL]

theorem rwL_get {l : List TxA} {i : Nat} {x : TxA} (h : l[i]? = some x) : (rwL l)[i]? = some x.rw := by
  unfold rwL
  rw [List.getElem?_map, h]
  rfl
end Go.Proofs.YtajpfkenhchafaaDoor
