/- Texts as one: RefSame, ReadBase, StrRows, TxNeeds, TxOwn, Queue. -/
import Derived.Test.YtmngiekobmhpaaaGreatRk02
import Derived.Deep.QuietTactic
import Derived.BigQuiet
import Derived.Test.YtmngiekobmhpaaaGreatRk03
import Derived.Laws.AppendOwnNone
import Derived.ArgAppend
/- What tuskref01.Same does at two rows of the same strings: it answers true; nothing old in memory is turned. -/
namespace Go.Proofs.YtmngiekobmhpaaaGreat
open Go.RowKit

theorem StrsAt.drewN {w : World} {ao : Option Addr} {ss : List ByteArray} (h : StrsAt w ao ss) (n : Nat) : StrsAt (w.drewN n) ao ss :=
  h.below (below_drewN (Below.refl _ _) n)

set_option maxRecDepth 100000 in
set_option maxHeartbeats 1000000 in
theorem same_any (a0 a1 : Option Addr) (c0 c1 : Nat) (ss : List ByteArray) (w : World) (h0 : StrsAt w a0 ss) (h1 : StrsAt w a1 ss) (hn : ss.length ≤ 9223372036854775807) :
    Calls Tryz.prog 72 #[.slice a0 ss.length c0, .slice a1 ss.length c1] w fun e w' => e = .returned (.bool true) ∧ Below w.heap.size w w' := by
  go_enter Tryz.func72, Tryz.ntmps72
  go_wp2
  go_loopw [5] (fun i wr => ∃ m : Nat, m ≤ ss.length ∧ i = .int .i64 m ∧ Below w.heap.size w wr ∧ StrsAt wr a0 ss ∧ StrsAt wr a1 ss) (fun i _ => ss.length - (intOf i).toNat)
  case atStart => exact ⟨0, Nat.zero_le _, rfl, Below.refl _ _, h0, h1⟩
  case round =>
    clear h0 h1
    obtain ⟨m, hm, rfl, hw, k0, k1⟩ := hrel
    by_cases hlt : m < ss.length
    · obtain ⟨b0, o0, rfl, _, hcl0⟩ := k0 m hlt
      obtain ⟨b1, o1, rfl, _, hcl1⟩ := k1 m hlt
      go_wp2_with fail
      go_quiet (fail)
      have hwf := below_drewN hw nq
      have j0 := k0.drewN nq
      have j1 := k1.drewN nq
      clear hw k0 k1 hcl0 hcl1
      go_wp2
      go_roundw
      case rel => exact ⟨m + 1, by omega, by go_num, hwf, j0, j1⟩
      case measure => simp [intOf]; omega
    · go_wp2
      go_ret
      exact ⟨rfl, hw⟩
end Go.Proofs.YtmngiekobmhpaaaGreat

/- Reading field by field, whatever is read: the first error, or what follows. -/
namespace Go.Proofs.YtmngiekobmhpaaaGreat
open Go.RowKit
set_option linter.unusedVariables false

def mks (ts : List (List UInt8)) : List ByteArray := ts.map (fun t => ⟨t.toArray⟩)

theorem bl_mks (ts : List (List UInt8)) : bl (mks ts) = ts := by
  simp [bl, mks, List.map_map, Function.comp_def]

theorem glGo_back (l : List UInt8) : ∀ (m at_ : Nat) (acc ts : List (List UInt8)) (k : Nat), at_ ≤ l.length → glGo l m at_ acc = (ts, k, 0) →
    ∃ us, ts = acc ++ us ∧ us.length = m ∧ k = at_ + (us.flatMap txt).length ∧ (l.drop at_).take (us.flatMap txt).length = us.flatMap txt ∧ k ≤ l.length ∧ ∀ t ∈ us, t.length ≤ 65536
  | 0, at_, acc, ts, k, hl, h => by
    rw [glGo] at h
    simp only [Prod.mk.injEq] at h
    obtain ⟨rfl, rfl, _⟩ := h
    exact ⟨[], by simp, rfl, by simp, by simp, hl, by simp⟩
  | m + 1, at_, acc, ts, k, hl, h => by
    rcases hg : getText (l.drop at_) with ⟨t, j, e⟩
    rw [glGo, hg] at h
    by_cases he : e ≠ 0
    · rw [if_pos he] at h
      simp only [Prod.mk.injEq] at h
      exact absurd h.2.2 he
    rw [if_neg he] at h
    have he0 : e = 0 := by omega
    subst he0
    have hb := getText_bounds _ t j hg
    have hk := getText_back _ t j hg
    rw [List.length_drop] at hb
    obtain ⟨us, e1, e2, e3, e4, e5, e6⟩ := glGo_back l m (at_ + j) (acc ++ [t]) ts k (by omega) h
    have hj : (txt t).length = j := by rw [hk, List.length_take, List.length_drop]; omega
    refine ⟨t :: us, by rw [e1]; simp, by simp [e2], ?_, ?_, e5, ?_⟩
    · rw [e3, List.flatMap_cons, List.length_append, hj]; omega
    · rw [List.flatMap_cons, List.length_append, hj, List.take_add, ← hk, List.drop_drop, e4]
    · intro x hx
      rw [List.mem_cons] at hx
      rcases hx with rfl | hx
      · exact hb.2.2.1
      · exact e6 x hx

theorem getList_back {l : List UInt8} {most : Int} {ts : List (List UInt8)} {k : Nat} (h : getList l most = (ts, k, 0)) :
    l.take k = lst ts ∧ k = (lst ts).length ∧ k ≤ l.length ∧ (ts.length : Int) ≤ most ∧ ∀ t ∈ ts, t.length ≤ 65536 := by
  rcases hg : getInt l with ⟨n, j, e⟩
  unfold getList at h
  rw [hg] at h
  by_cases he : e ≠ 0
  · rw [if_pos he] at h
    simp only [Prod.mk.injEq] at h
    exact absurd h.2.2 he
  rw [if_neg he] at h
  have he0 : e = 0 := by omega
  subst he0
  by_cases hm : most < (n : Int)
  · rw [if_pos hm] at h
    simp only [Prod.mk.injEq] at h
    omega
  rw [if_neg hm] at h
  have hb := getInt_bounds _ n j hg
  have hk := getInt_back _ n j hg
  obtain ⟨us, e1, e2, e3, e4, e5, e6⟩ := glGo_back l n j [] ts k hb.2.2 h
  rw [List.nil_append] at e1
  subst e1
  have hc : goInt (ts.length : Int) = enc n := by rw [e2]; exact goInt_nat n hb.1
  have hl : lst ts = enc n ++ ts.flatMap txt := by rw [lst, hc]
  have hkl : k = (lst ts).length := by rw [hl, List.length_append, ← hk.2]; exact e3
  refine ⟨?_, hkl, e5, by omega, e6⟩
  rw [hkl, hl, List.length_append, List.take_add, ← hk.2, hk.1, e4]

theorem giGo_zero : ∀ (l : List UInt8) (acc i : Nat), (giGo l acc i).2.2 ≠ 0 → (giGo l acc i).1 = 0 ∧ (giGo l acc i).2.1 = 0
  | [], _, _ => by simp [giGo]
  | c :: r, acc, i => by
    rw [giGo]
    split
    · split
      · intro _; exact ⟨rfl, rfl⟩
      · exact giGo_zero r _ _
    · split
      · intro _; exact ⟨rfl, rfl⟩
      · split
        · intro _; exact ⟨rfl, rfl⟩
        · intro h; exact absurd rfl h

theorem getInt_zero {l : List UInt8} {n k er : Nat} (h : getInt l = (n, k, er)) (he : er ≠ 0) : n = 0 ∧ k = 0 := by
  have := giGo_zero l 0 0
  unfold getInt at h
  rw [h] at this
  exact this he

theorem getText_zero {l t : List UInt8} {k er : Nat} (h : getText l = (t, k, er)) (he : er ≠ 0) : t = [] ∧ k = 0 := by
  unfold getText at h
  split at h
  · simp only [Prod.mk.injEq] at h
    exact ⟨h.1.symm, h.2.1.symm⟩
  · split at h
    · simp only [Prod.mk.injEq] at h
      exact ⟨h.1.symm, h.2.1.symm⟩
    · split at h
      · simp only [Prod.mk.injEq] at h
        exact ⟨h.1.symm, h.2.1.symm⟩
      · simp only [Prod.mk.injEq] at h
        exact absurd h.2.2.symm he

theorem glGo_zero (l : List UInt8) : ∀ (m at_ : Nat) (acc : List (List UInt8)), (glGo l m at_ acc).2.2 ≠ 0 → (glGo l m at_ acc).1 = [] ∧ (glGo l m at_ acc).2.1 = 0
  | 0, at_, acc => by rw [glGo]; intro h; exact absurd rfl h
  | m + 1, at_, acc => by
    rw [glGo]
    split
    · intro _; exact ⟨rfl, rfl⟩
    · exact glGo_zero l m _ _

theorem getList_zero {l : List UInt8} {most : Int} {t : List (List UInt8)} {k er : Nat} (h : getList l most = (t, k, er)) (he : er ≠ 0) : t = [] ∧ k = 0 := by
  unfold getList at h
  split at h
  · simp only [Prod.mk.injEq] at h
    exact ⟨h.1.symm, h.2.1.symm⟩
  · split at h
    · simp only [Prod.mk.injEq] at h
      exact ⟨h.1.symm, h.2.1.symm⟩
    · have := glGo_zero l (getInt l).1 (getInt l).2.1 []
      rw [h] at this
      exact this he

theorem rest_le (r : ByteArray) (k : Nat) (h : r.size ≤ maxLen) : (r.extract k r.size).size ≤ maxLen := by
  rw [ByteArray.size_extract]
  omega

section
variable {α : Type}

def rdI (l : List UInt8) (f : Nat → List UInt8 → Except Nat α) : Except Nat α := if (getInt l).2.2 ≠ 0 then .error (getInt l).2.2 else f (getInt l).1 (l.drop (getInt l).2.1)
def rdT (l : List UInt8) (f : List UInt8 → List UInt8 → Except Nat α) : Except Nat α := if (getText l).2.2 ≠ 0 then .error (getText l).2.2 else f (getText l).1 (l.drop (getText l).2.1)
def rdL (most : Int) (l : List UInt8) (f : List (List UInt8) → List UInt8 → Except Nat α) : Except Nat α := if (getList l most).2.2 ≠ 0 then .error (getList l most).2.2 else f (getList l most).1 (l.drop (getList l most).2.1)

theorem rdI_ok {l : List UInt8} {f : Nat → List UInt8 → Except Nat α} {n k : Nat} (h : getInt l = (n, k, 0)) : rdI l f = f n (l.drop k) := by
  unfold rdI; rw [h]; rfl
theorem rdI_err {l : List UInt8} {f : Nat → List UInt8 → Except Nat α} {n k er : Nat} (h : getInt l = (n, k, er)) (he : er ≠ 0) : rdI l f = .error er := by
  unfold rdI; rw [h, if_pos he]
theorem rdT_ok {l : List UInt8} {f : List UInt8 → List UInt8 → Except Nat α} {t : List UInt8} {k : Nat} (h : getText l = (t, k, 0)) : rdT l f = f t (l.drop k) := by
  unfold rdT; rw [h]; rfl
theorem rdT_err {l : List UInt8} {f : List UInt8 → List UInt8 → Except Nat α} {t : List UInt8} {k er : Nat} (h : getText l = (t, k, er)) (he : er ≠ 0) : rdT l f = .error er := by
  unfold rdT; rw [h, if_pos he]
theorem rdL_ok {most : Int} {l : List UInt8} {f : List (List UInt8) → List UInt8 → Except Nat α} {t : List (List UInt8)} {k : Nat} (h : getList l most = (t, k, 0)) : rdL most l f = f t (l.drop k) := by
  unfold rdL; rw [h]; rfl
theorem rdL_err {most : Int} {l : List UInt8} {f : List (List UInt8) → List UInt8 → Except Nat α} {t : List (List UInt8)} {k er : Nat} (h : getList l most = (t, k, er)) (he : er ≠ 0) : rdL most l f = .error er := by
  unfold rdL; rw [h, if_pos he]

theorem rdI_enc {f : Nat → List UInt8 → Except Nat α} (n : Nat) (r : List UInt8) (h : n ≤ 4611686018427387903) : rdI (enc n ++ r) f = f n r := by
  rw [rdI_ok (getInt_enc n r h), List.drop_left]
theorem rdT_txt {f : List UInt8 → List UInt8 → Except Nat α} (t r : List UInt8) (h : t.length ≤ 65536) : rdT (txt t ++ r) f = f t r := by
  rw [rdT_ok (getText_txt t r h), List.drop_left]
theorem rdL_lst {f : List (List UInt8) → List UInt8 → Except Nat α} (most : Int) (ts : List (List UInt8)) (r : List UInt8) (h : ∀ t ∈ ts, t.length ≤ 65536) (hn : ts.length ≤ 4611686018427387903) (hm : (ts.length : Int) ≤ most) : rdL most (lst ts ++ r) f = f ts r := by
  rw [rdL_ok (getList_lst ts r most h hn hm), List.drop_left]

theorem rdI_back {l : List UInt8} {f : Nat → List UInt8 → Except Nat α} {d : α} (h : rdI l f = .ok d) : ∃ n r, l = enc n ++ r ∧ n ≤ 4611686018427387903 ∧ f n r = .ok d := by
  rcases hg : getInt l with ⟨n, k, e⟩
  by_cases he : e = 0
  · subst he
    rw [rdI_ok hg] at h
    have hb := getInt_bounds _ n k hg
    have hk := getInt_back _ n k hg
    exact ⟨n, l.drop k, by rw [← hk.1, List.take_append_drop], hb.1, h⟩
  · rw [rdI_err hg he] at h
    cases h
theorem rdT_back {l : List UInt8} {f : List UInt8 → List UInt8 → Except Nat α} {d : α} (h : rdT l f = .ok d) : ∃ t r, l = txt t ++ r ∧ t.length ≤ 65536 ∧ f t r = .ok d := by
  rcases hg : getText l with ⟨t, k, e⟩
  by_cases he : e = 0
  · subst he
    rw [rdT_ok hg] at h
    have hb := getText_bounds _ t k hg
    have hk := getText_back _ t k hg
    exact ⟨t, l.drop k, by rw [hk, List.take_append_drop], hb.2.2.1, h⟩
  · rw [rdT_err hg he] at h
    cases h
theorem rdL_back {most : Int} {l : List UInt8} {f : List (List UInt8) → List UInt8 → Except Nat α} {d : α} (h : rdL most l f = .ok d) : ∃ t r, l = lst t ++ r ∧ (t.length : Int) ≤ most ∧ (∀ x ∈ t, x.length ≤ 65536) ∧ f t r = .ok d := by
  rcases hg : getList l most with ⟨t, k, e⟩
  by_cases he : e = 0
  · subst he
    rw [rdL_ok hg] at h
    have hk := getList_back hg
    exact ⟨t, l.drop k, by rw [← hk.1, List.take_append_drop], hk.2.2.2.1, hk.2.2.2.2, h⟩
  · rw [rdL_err hg he] at h
    cases h

/-- Each in its turn; the first error. -/
def eachE {β : Type} (f : β → Except Nat α) : List β → Except Nat (List α)
  | [] => .ok []
  | b :: r => match f b with
    | .error e => .error e
    | .ok a => match eachE f r with
      | .error e => .error e
      | .ok xs => .ok (a :: xs)

theorem eachE_back {β : Type} {f : β → Except Nat α} {g : α → β} (hg : ∀ b a, f b = .ok a → g a = b) : ∀ (bs : List β) (xs : List α), eachE f bs = .ok xs → xs.map g = bs
  | [], xs, h => by
    simp only [eachE, Except.ok.injEq] at h
    subst h
    rfl
  | b :: r, xs, h => by
    rw [eachE] at h
    cases hb : f b with
    | error e => rw [hb] at h; cases h
    | ok a =>
      rw [hb] at h
      cases hr : eachE f r with
      | error e => rw [hr] at h; cases h
      | ok xs' =>
        rw [hr] at h
        simp only [Except.ok.injEq] at h
        subst h
        rw [List.map_cons, hg b a hb, eachE_back hg r xs' hr]

theorem eachE_all {β : Type} {f : β → Except Nat α} {p : α → Prop} (hp : ∀ b a, f b = .ok a → p a) : ∀ (bs : List β) (xs : List α), eachE f bs = .ok xs → ∀ a ∈ xs, p a
  | [], xs, h => by
    simp only [eachE, Except.ok.injEq] at h
    subst h
    simp
  | b :: r, xs, h => by
    rw [eachE] at h
    cases hb : f b with
    | error e => rw [hb] at h; cases h
    | ok a =>
      rw [hb] at h
      cases hr : eachE f r with
      | error e => rw [hr] at h; cases h
      | ok xs' =>
        rw [hr] at h
        simp only [Except.ok.injEq] at h
        subst h
        intro x hx
        rw [List.mem_cons] at hx
        rcases hx with rfl | hx
        · exact hp b x hb
        · exact eachE_all hp r xs' hr x hx

theorem eachE_map {β : Type} {f : β → Except Nat α} {g : α → β} : ∀ (xs : List α), (∀ a ∈ xs, f (g a) = .ok a) → eachE f (xs.map g) = .ok xs
  | [], _ => rfl
  | a :: r, h => by
    rw [List.map_cons, eachE, h a (by simp)]
    simp only
    rw [eachE_map r (fun x hx => h x (by simp [hx]))]
end

theorem eachE_take {β α : Type} {f : β → Except Nat α} (l : List β) (k : Nat) (b : β) (hb : l[k]? = some b) (xs : List α) (h : eachE f (l.take k) = .ok xs) :
    (∀ a, f b = .ok a → eachE f (l.take (k + 1)) = .ok (xs ++ [a])) ∧ (∀ e, f b = .error e → eachE f l = .error e) := by
  induction l generalizing k xs with
  | nil => simp at hb
  | cons c r ih =>
    cases k with
    | zero =>
      simp at hb
      subst hb
      simp [eachE] at h
      subst h
      refine ⟨fun a ha => by simp [eachE, ha], fun e he => by simp [eachE, he]⟩
    | succ k =>
      simp at hb
      rw [List.take_succ_cons, eachE] at h
      cases hc : f c with
      | error e => rw [hc] at h; cases h
      | ok a0 =>
        rw [hc] at h
        cases hr : eachE f (r.take k) with
        | error e => rw [hr] at h; cases h
        | ok ys =>
          rw [hr] at h
          simp at h
          subst h
          obtain ⟨i1, i2⟩ := ih k hb ys hr
          refine ⟨fun a ha => ?_, fun e he => ?_⟩
          · rw [List.take_succ_cons, eachE, hc]
            simp only
            rw [i1 a ha]
            rfl
          · rw [eachE, hc]
            simp only
            rw [i2 e he]

theorem eachE_err {α β : Type} {f : β → Except Nat α} (hf : ∀ b e, f b = .error e → e ≠ 0) : ∀ (bs : List β) (e : Nat), eachE f bs = .error e → e ≠ 0
  | [], e, h => by cases h
  | b :: r, e, h => by
    rw [eachE] at h
    cases hb : f b with
    | error e' =>
      rw [hb] at h
      simp only [Except.error.injEq] at h
      subst h
      exact hf b e' hb
    | ok a =>
      rw [hb] at h
      cases hr : eachE f r with
      | error e' =>
        rw [hr] at h
        simp only [Except.error.injEq] at h
        subst h
        exact eachE_err hf r e' hr
      | ok xs => rw [hr] at h; cases h
end Go.Proofs.YtmngiekobmhpaaaGreat

/- Rows of strings of the call's own. -/
namespace Go.Proofs.YtmngiekobmhpaaaGreat
open Go.RowKit
set_option linter.unusedVariables false

/-- A row of strings of the call's own. -/
def OwnStrs (base : Nat) (w : World) (ao : Option Addr) (ss : List ByteArray) : Prop :=
  ∀ j (h : j < ss.length), ∃ b off, ao = some ⟨b, off, none⟩ ∧ base ≤ b ∧ b < w.heap.size ∧ w.cell? ⟨b, off + j, none⟩ = some (.string ss[j])

theorem OwnStrs.at {base : Nat} {w : World} {ao : Option Addr} {ss : List ByteArray} (h : OwnStrs base w ao ss) : StrsAt w ao ss := by
  intro j hj
  obtain ⟨b, off, h1, _, h3, h4⟩ := h j hj
  exact ⟨b, off, h1, h3, h4⟩

theorem OwnStrs.put {base : Nat} {w : World} {ao : Option Addr} {ss : List ByteArray} (h : OwnStrs base w ao ss) {p : Addr} (hp : p.block < base) (v : Value) : OwnStrs base (w.setCell p v) ao ss := by
  intro j hj
  obtain ⟨b, off, h1, h2, h3, h4⟩ := h j hj
  have e : (w.setCell p v).heap[b]? = w.heap[b]? := Below.heap_setCell w p v b (by omega)
  refine ⟨b, off, h1, h2, ?_, ?_⟩
  · show b < (w.heap.modify p.block _).size
    simpa using h3
  · rw [← h4]
    simp only [World.cell?, e]

theorem OwnStrs.below {base : Nat} {w w' : World} {ao : Option Addr} {ss : List ByteArray} (h : OwnStrs base w ao ss) (hb : Below w.heap.size w w') : OwnStrs base w' ao ss := by
  intro j hj
  obtain ⟨b, off, h1, h2, h3, h4⟩ := h j hj
  exact ⟨b, off, h1, h2, Nat.lt_of_lt_of_le h3 hb.size, by rw [hb.cell (p := ⟨b, off + j, none⟩) h3]; exact h4⟩

theorem own_far {w : World} {B : Nat} {ao : Option Addr} {n cap : Nat} {ss : List ByteArray} (h : w.ownsRow B 9 1 (.slice ao n cap) n ((bl ss).map strVal)) (hn : n = ss.length) : OwnStrs B w ao ss := by
  subst hn
  intro j hj
  rcases h.2 with ⟨hv, h0⟩ | ⟨g, cap', cur, hv, hb, hg, _⟩
  · omega
  · simp at hv
    obtain ⟨rfl, _⟩ := hv
    refine ⟨g, 0, rfl, hb, (Array.getElem?_eq_some_iff.1 hg).1, ?_⟩
    have := h.cells (g := g) rfl j (.string ss[j]) (by simp [bl, strVal, List.getElem?_eq_getElem hj])
    rw [Go.WideShapes.add_plain] at this
    exact this

theorem OwnStrs.mono {b1 b2 : Nat} {w : World} {ao : Option Addr} {ss : List ByteArray} (h : OwnStrs b2 w ao ss) (hb : b1 ≤ b2) : OwnStrs b1 w ao ss := by
  intro j hj
  obtain ⟨b, off, h1, h2, h3⟩ := h j hj
  exact ⟨b, off, h1, Nat.le_trans hb h2, h3⟩

/-- A list of at most so many texts out of bytes. -/
theorem getListN (s : ByteArray) (m : Nat) (hm : m ≤ 1000) (w : World) (hs : s.size ≤ maxLen) (ts : List (List UInt8)) (k er : Nat) (hr : getList s.data.toList m = (ts, k, er)) :
    Calls Tryz.prog 91 #[.string s, .int .i64 (m : Int)] w fun e w' => ∃ ao cap, e = .returned (.tuple #[.slice ao (mks ts).length cap, .int .i64 (k : Int), .int .i64 (er : Int)]) ∧ OwnStrs w.heap.size w' ao (mks ts) ∧ (ao = none → cap = 0) ∧ Below w.heap.size w w' := by
  refine (getList_any s m w m hs (Or.inr (by omega)) (by omega)).mono ?_
  rintro e w' ⟨v, rfl, hg, hb⟩
  rw [hr] at hg
  obtain ⟨ao, cap, rfl, hown⟩ := hg
  have hml : (mks ts).length = ts.length := by simp [mks]
  refine ⟨ao, cap, by rw [hml], ?_, ?_, hb⟩
  · refine own_far (cap := cap) (n := ts.length) ?_ hml.symm
    rw [bl_mks]
    exact hown
  · intro he
    rcases hown.2 with ⟨hv, _⟩ | ⟨g, c, cur, hv, _⟩
    · simp at hv; exact hv.2.2
    · simp at hv; rw [hv.1] at he; cases he
end Go.Proofs.YtmngiekobmhpaaaGreat

/- What Needs, slices.Contains and Fits do; nothing old in memory is turned. -/
namespace Go.Proofs.YtmngiekobmhpaaaGreat
open Go.RowKit
set_option linter.unusedVariables false



/-- A row of strings is handed back. -/
def GotStrs (W : World) (l : List ByteArray) (e : Ending) (w : World) : Prop :=
  ∃ ao, e = .returned (.slice ao l.length l.length) ∧ StrsAt w ao l ∧ Below W.heap.size W w
end Go.Proofs.YtmngiekobmhpaaaGreat

/- What tusklaw04.Own, pay and works do; nothing old in memory is turned. -/
namespace Go.Proofs.YtmngiekobmhpaaaGreat
open Go.RowKit
set_option linter.unusedVariables false

theorem infoTx : (Tryz.prog.info? 123).map (·.size) = some 9 := by kernel_rfl

def zeroC : List Value := [.int .i64 0, .string ⟨#[]⟩, .string ⟨#[]⟩, .int .u64 0, .int .u64 0, .string ⟨#[]⟩, .string ⟨#[]⟩, .slice none 0 0, .slice none 0 0]

theorem results_tx {fn : Func} {p : Tmp} (h : fn.results = #[.cell p 123]) (tmps : Array Value) (w : World) (g : Nat) (t : TypeId) (d : TxD) (ra : Option Addr) (rc : Nat) (wa : Option Addr) (wc : Nat)
    (hp : tmps.getD p undef = .pointer (some ⟨g, 0, none⟩)) (hg : Arr w g t (txC d ra rc wa wc)) :
    (results fn tmps).run Tryz.prog w = .ok (txV d ra rc wa wc) w :=
  results_cell_row h tmps w g t (txC d ra rc wa wc).toArray (0, 0) _ hp hg Tryz.underlying123 rfl infoTx

theorem Arr.cells9 {w : World} {g : Nat} {t : TypeId} {a0 a1 a2 a3 a4 a5 a6 a7 a8 : Value} (h : Arr w g t [a0, a1, a2, a3, a4, a5, a6, a7, a8]) :
    w.cell? ⟨g, 0, none⟩ = some a0 ∧ w.cell? ⟨g, 1, none⟩ = some a1 ∧ w.cell? ⟨g, 2, none⟩ = some a2 ∧ w.cell? ⟨g, 3, none⟩ = some a3 ∧ w.cell? ⟨g, 4, none⟩ = some a4 ∧ w.cell? ⟨g, 5, none⟩ = some a5 ∧ w.cell? ⟨g, 6, none⟩ = some a6 ∧ w.cell? ⟨g, 7, none⟩ = some a7 ∧ w.cell? ⟨g, 8, none⟩ = some a8 :=
  ⟨h.cell rfl, h.cell rfl, h.cell rfl, h.cell rfl, h.cell rfl, h.cell rfl, h.cell rfl, h.cell rfl, h.cell rfl⟩

/-- Nine cells are written anew. -/
def set9 (w : World) (g : Nat) (v0 v1 v2 v3 v4 v5 v6 v7 v8 : Value) : World :=
  ((((((((w.setCell ⟨g, 0, none⟩ v0).setCell ⟨g, 1, none⟩ v1).setCell ⟨g, 2, none⟩ v2).setCell ⟨g, 3, none⟩ v3).setCell ⟨g, 4, none⟩ v4).setCell ⟨g, 5, none⟩ v5).setCell ⟨g, 6, none⟩ v6).setCell ⟨g, 7, none⟩ v7).setCell ⟨g, 8, none⟩ v8

theorem Arr.set9 {w : World} {g : Nat} {t : TypeId} {a0 a1 a2 a3 a4 a5 a6 a7 a8 : Value} (h : Arr w g t [a0, a1, a2, a3, a4, a5, a6, a7, a8]) (v0 v1 v2 v3 v4 v5 v6 v7 v8 : Value) :
    Arr (Proofs.YtmngiekobmhpaaaGreat.set9 w g v0 v1 v2 v3 v4 v5 v6 v7 v8) g t [v0, v1, v2, v3, v4, v5, v6, v7, v8] :=
  ((((((((h.set 0 v0).set 1 v1).set 2 v2).set 3 v3).set 4 v4).set 5 v5).set 6 v6).set 7 v7).set 8 v8

theorem below_set9 {B : Nat} {w w' : World} (h : Below B w w') {g : Nat} (hg : B ≤ g) (v0 v1 v2 v3 v4 v5 v6 v7 v8 : Value) : Below B w (set9 w' g v0 v1 v2 v3 v4 v5 v6 v7 v8) :=
  ((((((((h.setCell (p := ⟨g, 0, none⟩) hg v0).setCell (p := ⟨g, 1, none⟩) hg v1).setCell (p := ⟨g, 2, none⟩) hg v2).setCell (p := ⟨g, 3, none⟩) hg v3).setCell (p := ⟨g, 4, none⟩) hg v4).setCell (p := ⟨g, 5, none⟩) hg v5).setCell (p := ⟨g, 6, none⟩) hg v6).setCell (p := ⟨g, 7, none⟩) hg v7).setCell (p := ⟨g, 8, none⟩) hg v8

theorem OwnStrs.set9 {base : Nat} {w : World} {ao : Option Addr} {ss : List ByteArray} (h : OwnStrs base w ao ss) {g : Nat} (hg : g < base) (v0 v1 v2 v3 v4 v5 v6 v7 v8 : Value) : OwnStrs base (Proofs.YtmngiekobmhpaaaGreat.set9 w g v0 v1 v2 v3 v4 v5 v6 v7 v8) ao ss :=
  ((((((((h.put (p := ⟨g, 0, none⟩) hg v0).put (p := ⟨g, 1, none⟩) hg v1).put (p := ⟨g, 2, none⟩) hg v2).put (p := ⟨g, 3, none⟩) hg v3).put (p := ⟨g, 4, none⟩) hg v4).put (p := ⟨g, 5, none⟩) hg v5).put (p := ⟨g, 6, none⟩) hg v6).put (p := ⟨g, 7, none⟩) hg v7).put (p := ⟨g, 8, none⟩) hg v8

/-- A transaction is handed back. -/
def GotTx (W : World) (d : TxD) (e : Ending) (w : World) : Prop :=
  ∃ ra rc wa wc, e = .returned (txV d ra rc wa wc) ∧ TxAt w d ra wa ∧ (ra = none → rc = 0) ∧ (wa = none → wc = 0) ∧ Below W.heap.size W w

def payD : TxD := ⟨1, ⟨#[97, 98]⟩, ⟨#[99]⟩, 5, 1, ⟨#[]⟩, ⟨#[]⟩, [], [⟨#[97, 58, 97, 98]⟩, ⟨#[97, 58, 99]⟩]⟩
end Go.Proofs.YtmngiekobmhpaaaGreat

/- A row at whatever place of a block of the call's own, with room behind it: cut in front, appended to behind. -/
namespace Go.Proofs.YtmngiekobmhpaaaGreat
open Go.RowKit
set_option linter.unusedVariables false

/-- v is a row of n elements, the cells xs, in a block of the call's own (or it has no room at all). -/
def QRow (w : World) (base : Nat) (e : TypeId) (size : Nat) (v : Value) (n : Nat) (xs : List Value) : Prop :=
  xs.length = n * size ∧
  ((∃ ao, v = .slice ao 0 0 ∧ n = 0) ∨
   ∃ g pre post cap, v = .slice (some ⟨g, pre.length, none⟩) n cap ∧ base ≤ g ∧ Arr w g e (pre ++ xs ++ post) ∧ n ≤ cap ∧ cap ≤ maxLen ∧ post.length = (cap - n) * size)

theorem QRow.nil (w : World) (base : Nat) (e : TypeId) (size : Nat) (ao : Option Addr) : QRow w base e size (.slice ao 0 0) 0 [] :=
  ⟨by simp, Or.inl ⟨ao, rfl, rfl⟩⟩

theorem QRow.of_own {w : World} {base : Nat} {e : TypeId} {size : Nat} {v : Value} {n : Nat} {xs : List Value} (h : w.ownsRow base e size v n xs) : QRow w base e size v n xs := by
  refine ⟨h.1, ?_⟩
  rcases h.2 with ⟨hv, hn⟩ | ⟨g, cap, cur, hv, hb, hg, hnc, hcm, hsz, htk⟩
  · exact Or.inl ⟨none, hv, hn⟩
  · refine Or.inr ⟨g, [], cur.toList.drop (n * size), cap, hv, hb, ?_, hnc, hcm, ?_⟩
    · unfold Arr
      rw [List.nil_append, ← htk, List.take_append_drop]
      exact hg
    · rw [List.length_drop, Array.length_toList, hsz, Nat.sub_mul]

theorem QRow.form {w : World} {base : Nat} {e : TypeId} {size : Nat} {v : Value} {n : Nat} {xs : List Value} (h : QRow w base e size v n xs) : ∃ ao cap, v = .slice ao n cap ∧ n ≤ cap ∧ cap ≤ maxLen := by
  rcases h.2 with ⟨ao, hv, hn⟩ | ⟨g, pre, post, cap, hv, _, _, h1, h2, _⟩
  · subst hn
    exact ⟨ao, 0, hv, Nat.le_refl _, Nat.zero_le _⟩
  · exact ⟨_, cap, hv, h1, h2⟩

/-- Its cells, where it has some. -/
theorem QRow.cells {w : World} {base : Nat} {e : TypeId} {size : Nat} {v : Value} {n : Nat} {xs : List Value} (h : QRow w base e size v n xs) (hn : 0 < n) :
    ∃ g off cap, v = .slice (some ⟨g, off, none⟩) n cap ∧ base ≤ g ∧ g < w.heap.size ∧ ∀ j u, xs[j]? = some u → w.cell? ⟨g, off + j, none⟩ = some u := by
  rcases h.2 with ⟨ao, hv, h0⟩ | ⟨g, pre, post, cap, hv, hb, hg, h1, h2, h3⟩
  · omega
  · refine ⟨g, pre.length, cap, hv, hb, hg.lt, fun j u hu => hg.cell ?_⟩
    have hj := (List.getElem?_eq_some_iff.1 hu).1
    rw [List.getElem?_append_left (by rw [List.length_append]; omega), List.getElem?_append_right (by omega), Nat.add_sub_cancel_left]
    exact hu

/-- What stands elsewhere may turn. -/
theorem QRow.keep {w w' : World} {base : Nat} {e : TypeId} {size : Nat} {v : Value} {n : Nat} {xs : List Value} (h : QRow w base e size v n xs) (hk : ∀ g, v.ownBlock = some g → w'.heap[g]? = w.heap[g]?) : QRow w' base e size v n xs := by
  refine ⟨h.1, ?_⟩
  rcases h.2 with h0 | ⟨g, pre, post, cap, hv, hb, hg, r⟩
  · exact Or.inl h0
  · refine Or.inr ⟨g, pre, post, cap, hv, hb, ?_, r⟩
    unfold Arr at hg ⊢
    rw [hk g (by rw [hv]; rfl)]
    exact hg

/-- Cells that are written one behind the other. -/
theorem Arr.setCells {g : Nat} {t : TypeId} : ∀ (vs : List Value) (w : World) (pre mid post : List Value), mid.length = vs.length → Arr w g t (pre ++ mid ++ post) → Arr (w.setCells g pre.length vs) g t (pre ++ vs ++ post)
  | [], w, pre, mid, post, hl, h => by
    have : mid = [] := List.eq_nil_of_length_eq_zero hl
    subst this
    exact h
  | v :: vs, w, pre, [], post, hl, h => by simp at hl
  | v :: vs, w, pre, m :: mid, post, hl, h => by
    have h1 := h.set pre.length v
    have e : (pre ++ (m :: mid) ++ post).set pre.length v = (pre ++ [v]) ++ mid ++ post := by
      rw [List.append_assoc, List.set_append_right _ _ (by omega), Nat.sub_self]
      simp
    rw [e] at h1
    have h2 := Arr.setCells vs (w.setCell ⟨g, pre.length, none⟩ v) (pre ++ [v]) mid post (by simpa using hl) h1
    have e2 : (pre ++ [v]).length = pre.length + 1 := by simp
    rw [e2] at h2
    have e3 : pre ++ [v] ++ vs ++ post = pre ++ (v :: vs) ++ post := by simp
    rw [e3] at h2
    exact h2

theorem grown_setCells (g : Nat) : ∀ (vs : List Value) (o : Nat) (w : World), w.grownBy (w.setCells g o vs) (some g)
  | [], _, w => ⟨rfl, rfl, rfl, Nat.le_refl _, fun _ _ _ => rfl⟩
  | v :: vs, o, w => by
    obtain ⟨h1, h2, h3, h4, h5⟩ := grown_setCells g vs (o + 1) (w.setCell ⟨g, o, none⟩ v)
    refine ⟨h1, h2, h3, ?_, fun k hk hne => ?_⟩
    · have : (w.setCell ⟨g, o, none⟩ v).heap.size = w.heap.size := by show (w.heap.modify g _).size = _; simp
      rw [this] at h4
      exact h4
    · have hs : (w.setCell ⟨g, o, none⟩ v).heap.size = w.heap.size := by show (w.heap.modify g _).size = _; simp
      have hk' : k ≠ g := fun e => hne (by rw [e])
      have := h5 k (by rw [hs]; exact hk) hne
      rw [Below.heap_setCell w ⟨g, o, none⟩ v k hk'] at this
      exact this

/-- append(s, x): in the room behind, or in a new row. -/
theorem wpList_append_q {P : Program} {w : World} {ops : Array Oper} {rest : List Oper} {o : Oper} {a : Act} {Q : Exit → Act → World → Prop} (hgd : o.guard = none) (s x : Operand) (t : TypeId)
    (ho : o.op = .call { callee := .builtin .append, args := #[s, x], argTypes := #[t, t] })
    (base : Nat) (e : TypeId) (i : TypeInfo) (z : Value) (size bytes : Nat) (ht : P.underlying t = some (.slice e)) (hi : P.info? e = some i) (hz : i.zero = some z)
    (hsize : i.size = size) (hby : i.bytes = bytes) (hzs : z.cells.size = size) (hsz : 0 < size)
    (v : Value) (n : Nat) (xs : List Value) (hs : a.eval s = v) (hq : QRow w base e size v n xs)
    (ad : Addr) (m c : Nat) (news : List Value) (hx : a.eval x = .slice (some ad) m c) (hm : 0 < m) (hl : news.length = m * size) (hnews : ∀ j u, news[j]? = some u → w.cell? (ad.add j) = some u) (h1 : ∀ u ∈ news, u.oneCell' = true)
    (h63 : n + m ≤ maxLen) (hbytes : (n + m) * bytes ≤ 140737488355328) (hbase : base ≤ w.heap.size)
    (h : ∀ v' w', QRow w' base e size v' (n + m) (xs ++ news) → w.grownBy w' v.ownBlock → (∀ g, v'.ownBlock = some g → v.ownBlock = some g ∨ w.heap.size ≤ g) → wpList P ops Q rest (a.put o.dst v') w') : wpList P ops Q (o :: rest) a w := by
  have hmono : ∀ {w' : World} {v' : Value}, w'.ownsRow w.heap.size e size v' (n + m) (xs ++ news) → QRow w' base e size v' (n + m) (xs ++ news) := by
    intro w' v' ho'
    refine QRow.of_own ⟨ho'.1, ho'.2.imp id fun ⟨g, cap, cur, q1, q2, q3⟩ => ⟨g, cap, cur, q1, Nat.le_trans hbase q2, q3⟩⟩
  have hfresh : ∀ {w' : World} {v' : Value}, w'.ownsRow w.heap.size e size v' (n + m) (xs ++ news) → ∀ g, v'.ownBlock = some g → v.ownBlock = some g ∨ w.heap.size ≤ g := by
    intro w' v' ho' g hg
    exact Or.inr (ho'.lt g hg).1
  have hgr : ∀ {w' : World} (r : Option Nat), w.grownBy w' none → w.grownBy w' r := fun r hg => ⟨hg.os, hg.tape, hg.output, hg.size, fun k hk _ => hg.block k hk (by simp)⟩
  rcases hq.2 with ⟨ao, rfl, rfl⟩ | ⟨g, pre, post, cap, rfl, hb, hg, hnc, hcm, hpl⟩
  · have hxs : xs = [] := List.eq_nil_of_length_eq_zero (by simpa using hq.1)
    subst hxs
    refine wpList_append_grows w hgd s x t ho e i z size bytes ht hi hz hsize hby hzs hsz ao 0 0 [] hs (fun _ => ⟨rfl, rfl⟩) (by simp) (fun b _ j u hu => by simp at hu) ad m c news hx hl hnews h1 (by omega) h63 hbytes ?_
    intro v' w' r1 r2
    exact h v' w' (hmono r1) (hgr _ r2) (hfresh r1)
  · refine wpList_append_arg w hgd s x t ho e i z size bytes ht hi hz hsize hby hzs hsz g pre.length n cap xs hs hq.1 ?_ ad m c news hx hl hnews h1 ?_ h63 hbytes ?_ ?_
    · intro j u hu
      refine hg.cell ?_
      have hj := (List.getElem?_eq_some_iff.1 hu).1
      rw [List.getElem?_append_left (by rw [List.length_append]; omega), List.getElem?_append_right (by omega), Nat.add_sub_cancel_left]
      exact hu
    · intro hroom j hj
      have hlt : pre.length + n * size + j < (pre ++ xs ++ post).length := by
        have h2 : m * size ≤ (cap - n) * size := Nat.mul_le_mul_right _ (by omega)
        rw [List.length_append, List.length_append, hq.1, hpl]
        omega
      exact ⟨by rw [hg.cell (List.getElem?_eq_getElem hlt)]; rfl, hg.frozen _⟩
    · intro hroom
      have h2 : m * size ≤ (cap - n) * size := Nat.mul_le_mul_right _ (by omega)
      have hA : Arr w g e ((pre ++ xs) ++ post.take news.length ++ post.drop news.length) := by
        rw [List.append_assoc (pre ++ xs), List.take_append_drop]
        exact hg
      have hA2 := Arr.setCells news w (pre ++ xs) (post.take news.length) (post.drop news.length) (by rw [List.length_take]; omega) hA
      have e1 : (pre ++ xs).length = pre.length + n * size := by rw [List.length_append, hq.1]
      rw [e1] at hA2
      refine h _ _ ⟨by rw [List.length_append, hq.1, hl, Nat.add_mul], Or.inr ⟨g, pre, post.drop news.length, cap, rfl, hb, ?_, hroom, hcm, ?_⟩⟩ (grown_setCells g news _ w) (fun g' hg' => Or.inl hg')
      · rw [← List.append_assoc pre]
        exact hA2
      · rw [List.length_drop, hpl, hl, ← Nat.sub_mul]
        congr 1
        omega
    · intro _ v' w' r1 r2
      exact h v' w' (hmono r1) (hgr _ r2) (hfresh r1)

/-- All blocks that were there are as they were, but those of S. -/
structure Kept (S : Nat → Prop) (w w' : World) : Prop where
  os : w'.os = w.os
  tape : w'.tape = w.tape
  output : w'.output = w.output
  size : w.heap.size ≤ w'.heap.size
  block : ∀ k, k < w.heap.size → ¬ S k → w'.heap[k]? = w.heap[k]?

theorem Kept.refl (S : Nat → Prop) (w : World) : Kept S w w := ⟨rfl, rfl, rfl, Nat.le_refl _, fun _ _ _ => rfl⟩

theorem Kept.trans {S : Nat → Prop} {a b c : World} (h : Kept S a b) (k : Kept S b c) : Kept S a c :=
  ⟨k.os.trans h.os, k.tape.trans h.tape, k.output.trans h.output, Nat.le_trans h.size k.size, fun i hi hn => (k.block i (Nat.lt_of_lt_of_le hi h.size) hn).trans (h.block i hi hn)⟩

theorem Kept.mono {S T : Nat → Prop} {w w' : World} (h : Kept S w w') (hs : ∀ k, k < w.heap.size → S k → T k) : Kept T w w' :=
  ⟨h.os, h.tape, h.output, h.size, fun k hk hn => h.block k hk (fun hS => hn (hs k hk hS))⟩

theorem Kept.of_below {S : Nat → Prop} {w w' : World} (h : Below w.heap.size w w') : Kept S w w' := ⟨h.os, h.tape, h.output, h.size, fun k hk _ => h.block k hk⟩

theorem Kept.of_grown {w w' : World} {r : Option Nat} (h : w.grownBy w' r) : Kept (fun k => r = some k) w w' := ⟨h.os, h.tape, h.output, h.size, fun k hk hn => h.block k hk (fun e => hn e.symm)⟩

theorem Kept.setCell (w : World) (p : Addr) (v : Value) : Kept (fun k => k = p.block) w (w.setCell p v) :=
  ⟨rfl, rfl, rfl, by show _ ≤ (w.heap.modify p.block _).size; simp, fun k _ hn => Below.heap_setCell w p v k hn⟩

theorem Kept.below {S : Nat → Prop} {w w' : World} (h : Kept S w w') {B : Nat} (hB : B ≤ w.heap.size) (hS : ∀ k, S k → B ≤ k) : Below B w w' :=
  ⟨h.os, h.tape, h.output, h.size, fun k hk => h.block k (by omega) (fun hs => by have := hS k hs; omega)⟩

theorem Kept.cell {S : Nat → Prop} {w w' : World} (h : Kept S w w') {p : Addr} (hp : p.block < w.heap.size) (hn : ¬ S p.block) : w'.cell? p = w.cell? p := by
  have := h.block p.block hp hn
  simp only [World.cell?, this]

theorem Arr.kept {S : Nat → Prop} {w w' : World} {g : Nat} {t : TypeId} {cs : List Value} (h : Arr w g t cs) (hk : Kept S w w') (hn : ¬ S g) : Arr w' g t cs := by
  have hl := h.lt
  unfold Arr at h ⊢
  rw [hk.block g hl hn]
  exact h

theorem QRow.kept {S : Nat → Prop} {w w' : World} {base : Nat} {e : TypeId} {size : Nat} {v : Value} {n : Nat} {xs : List Value} (h : QRow w base e size v n xs) (hk : Kept S w w') (hn : ∀ g, v.ownBlock = some g → ¬ S g) : QRow w' base e size v n xs := by
  refine ⟨h.1, h.2.imp id ?_⟩
  rintro ⟨g, pre, post, cap, hv, hb, hg, r⟩
  exact ⟨g, pre, post, cap, hv, hb, hg.kept hk (hn g (by rw [hv]; rfl)), r⟩

/-- A row of no transactions, or one in memory: its block is there. -/
theorem QRow.lt {w : World} {base : Nat} {e : TypeId} {size : Nat} {v : Value} {n : Nat} {xs : List Value} (h : QRow w base e size v n xs) : n = 0 ∨ ∃ g, v.ownBlock = some g ∧ base ≤ g ∧ g < w.heap.size := by
  rcases h.2 with ⟨ao, hv, hn⟩ | ⟨g, pre, post, cap, hv, hb, hg, r⟩
  · exact Or.inl hn
  · exact Or.inr ⟨g, by rw [hv]; rfl, hb, hg.lt⟩

theorem Kept.transNew {S T : Nat → Prop} {a b c : World} (h : Kept S a b) (k : Kept T b c) (hT : ∀ j, T j → a.heap.size ≤ j) : Kept S a c :=
  ⟨k.os.trans h.os, k.tape.trans h.tape, k.output.trans h.output, Nat.le_trans h.size k.size, fun j hj hn => (k.block j (Nat.lt_of_lt_of_le hj h.size) (fun e => by have := hT j e; omega)).trans (h.block j hj hn)⟩

theorem Kept.setNew {S : Nat → Prop} {w w' : World} (h : Kept S w w') {a : Addr} (ha : w.heap.size ≤ a.block) (v : Value) : Kept S w (w'.setCell a v) :=
  ⟨h.os, h.tape, h.output, by rw [setCell_size]; exact h.size, fun k hk hn => by rw [Below.heap_setCell w' a v k (by omega)]; exact h.block k hk hn⟩

theorem Kept.set {S : Nat → Prop} {w w' : World} (h : Kept S w w') {p : Addr} (hp : S p.block) (v : Value) : Kept S w (w'.setCell p v) :=
  h.trans ((Kept.setCell w' p v).mono (fun k _ e => by rw [e]; exact hp))
end Go.Proofs.YtmngiekobmhpaaaGreat
