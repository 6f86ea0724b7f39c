/- Texts as one: Frame, TxFrame, RefSame, ReadBase, StrRows, TxNeeds. -/
import Derived.Test.YtcjmeaikdfgapaaDoorSd01
import Derived.ProofKit
import Derived.OpenShut
import Derived.ShutString
import Derived.ChangeOld
import Derived.Below
import Derived.SizedLaws
import Derived.SliceStrings
import Derived.Test.YtcjmeaikdfgapaaDoorSd02
import Derived.Lib.SmallJoins
import Derived.Deep.QuietTactic
import Derived.BigQuiet
import Derived.Test.YtcjmeaikdfgapaaDoorSd03
import Derived.Laws.AppendOwnNone
import Derived.Test.YtcjmeaikdfgapaaDoorSd04
/- What the frames of the proofs share: a slice of strings that came in, opened; its length's reach. -/
namespace Go.Proofs.YtcjmeaikdfgapaaDoor
open Go.ChangeShapes Go.WideShapes Go.ChangeAt Go.RowKit

theorem ownKnob_none : ownKnob Tryd.prog.godebug = none := by kernel_rfl
theorem laidOut_true : laidOutB Tryd.prog = true := by kernel_rfl
theorem cellsString : Tryd.prog.cellsOf 9 = 1 := by kernel_rfl
theorem bytesString : Tryd.prog.bytesOf 9 = 16 := by kernel_rfl

/-- How a slice of strings reads. -/
def StrsDatum {H : Type} (d : DataW H) (ss : List ByteArray) : Prop := (d = .nil ∧ ss = []) ∨ ∃ rest, d = .slice (strs ss) rest

theorem strs_open {H : Type} {enc : TypeId × Value → H} {W : World} {a : Option Addr} {len cap : Nat} {d : DataW H} {p : List MemPlace}
    (h : DataW.Trod enc Tryd.prog W 0 (fun _ => true) true 22 (.slice a len cap) d p) :
    ∃ ss : List ByteArray, ss.length = len ∧ StrsAt W a ss ∧ (∀ s ∈ ss, s.size ≤ maxLen) ∧ StrsDatum d ss := by
  obtain ⟨fuel, hf⟩ := h
  rcases open_strings Tryd.underlying22 Tryd.underlying9 cellsString hf with ⟨hcs, hx⟩ | ⟨x, l, c, ss, hcs, _, hl, hm, hz, hx, hcell, hws⟩
  · simp [Value.cells] at hcs
    obtain ⟨rfl, rfl, rfl⟩ := hcs
    exact ⟨[], rfl, fun j hj => absurd hj (by simp), fun s hs => absurd hs (by simp), Or.inl ⟨(Prod.mk.inj hx).1, rfl⟩⟩
  · simp [Value.cells] at hcs
    obtain ⟨rfl, rfl, rfl⟩ := hcs
    have hz' : ss.length = cap := by simpa using hz
    refine ⟨ss.take len, by simp; omega, ?_, fun s hs => hws s (List.mem_of_mem_take hs), Or.inr ⟨_, (Prod.mk.inj hx).1⟩⟩
    intro j hj
    have hj1 : j < ss.length := by simp at hj; omega
    obtain ⟨b, off, spot⟩ := x
    have hc0 := hcell 0 (by omega)
    have hspot : spot = none := by simpa [Addr.add] using World.cell?_spot hc0
    subst hspot
    have hcj := hcell j hj1
    rw [Go.WideShapes.add_plain] at hcj
    refine ⟨b, off, rfl, World.block_lt_of_cell? W _ hcj, ?_⟩
    rw [hcj]
    simp [List.getD, List.getElem?_eq_getElem hj1]

theorem strs_cap {H : Type} {enc : TypeId × Value → H} {W : World} {a : Option Addr} {len cap : Nat} {d : DataW H} {p : List MemPlace}
    (h : DataW.Trod enc Tryd.prog W 0 (fun _ => true) true 22 (.slice a len cap) d p) : a = none → cap = 0 := by
  intro ha
  obtain ⟨fuel, hf⟩ := h
  rcases open_strings Tryd.underlying22 Tryd.underlying9 cellsString hf with ⟨hcs, _⟩ | ⟨x, l, c, ss, hcs, _⟩
  · simp [Value.cells] at hcs
    exact hcs.2.2
  · simp [Value.cells] at hcs
    rw [hcs.1] at ha
    cases ha

theorem strs_sized {H : Type} {ts : List TypeId} {ds : List (DataW H)} (h : (DataW.weightsEach Tryd.prog ts ds).all (· ≤ reachBytes) = true) {j : Nat} {d : DataW H} {ss : List ByteArray} (ht : ts[j]? = some 22) (hd : ds[j]? = some d) (hs : StrsDatum d ss) :
    ss.length * 16 ≤ 140737488351232 := by
  rcases hs with ⟨rfl, rfl⟩ | ⟨rest, rfl⟩
  · simp
  · have := sized_slice h ht hd Tryd.underlying22
    rw [bytesString] at this
    simp [strs, reachBytes] at this
    omega
end Go.Proofs.YtcjmeaikdfgapaaDoor

/- How a transaction that came in is opened. -/
namespace Go.Proofs.YtcjmeaikdfgapaaDoor
open Go.ChangeShapes Go.WideShapes Go.ChangeAt Go.RowKit Go.Joins Go.Deep
set_option linter.unusedVariables false

theorem cellsTx : Tryd.prog.cellsOf 33 = 9 := by kernel_rfl

theorem array9 {α : Type} {cs : Array α} (h : cs.size = 9) : ∃ c0 c1 c2 c3 c4 c5 c6 c7 c8, cs = #[c0, c1, c2, c3, c4, c5, c6, c7, c8] := by
  obtain ⟨l⟩ := cs
  match l, h with
  | [c0, c1, c2, c3, c4, c5, c6, c7, c8], _ => exact ⟨c0, c1, c2, c3, c4, c5, c6, c7, c8, rfl⟩

theorem list9 {α : Type} {l : List α} (h : l.length = 9) : ∃ c0 c1 c2 c3 c4 c5 c6 c7 c8, l = [c0, c1, c2, c3, c4, c5, c6, c7, c8] := by
  match l, h with
  | [c0, c1, c2, c3, c4, c5, c6, c7, c8], _ => exact ⟨c0, c1, c2, c3, c4, c5, c6, c7, c8, rfl⟩

/-- How a transaction reads. -/
def TxDatum {H : Type} (d : DataW H) (D : TxD) : Prop :=
  ∃ y0 y1 y2 y3 y4 y5 y6 y7 y8, d = .agg [y0, y1, y2, y3, y4, y5, y6, y7, y8] ∧ StrsDatum y7 D.rs ∧ StrsDatum y8 D.ws

structure TxSizes (D : TxD) : Prop where
  frm : D.frm.size ≤ maxLen
  to : D.to.size ≤ maxLen
  key : D.key.size ≤ maxLen
  val : D.val.size ≤ maxLen
  rs : ∀ s ∈ D.rs, s.size ≤ maxLen
  ws : ∀ s ∈ D.ws, s.size ≤ maxLen

theorem wf_u64 {n : Int} (h : (Lit.int .u64 n).wf = true) : 0 ≤ n ∧ n < 18446744073709551616 := by
  simp [Lit.wf, IntKind.min, IntKind.max, IntKind.bits, IntKind.signed] at h
  omega

set_option maxRecDepth 100000 in
theorem open_tx {H : Type} {enc : TypeId × Value → H} {W : World} {r : Reach} {b0 : Nat} {v : Value} {d : DataW H} {p : List MemPlace} (hv : Value.okWide Tryd.prog W r b0 33 v)
    (h : DataW.Trod enc Tryd.prog W 0 (fun _ => true) true 33 v d p) :
    ∃ (D : TxD) (ra : Option Addr) (rc : Nat) (wa : Option Addr) (wc : Nat), v = txV D ra rc wa wc ∧ TxAt W D ra wa ∧ (ra = none → rc = 0) ∧ (wa = none → wc = 0) ∧ TxSizes D ∧ TxDatum d D := by
  obtain ⟨cs, rfl, hsz⟩ := okWide_struct Tryd.underlying33 hv
  obtain ⟨c0, c1, c2, c3, c4, c5, c6, c7, c8, rfl⟩ := array9 (hsz.trans cellsTx)
  obtain ⟨fuel, hf⟩ := h
  obtain ⟨xs, n, _, hx, _, hl, hg⟩ := DataW.trod_struct Tryd.underlying33 hf
  obtain ⟨y0, y1, y2, y3, y4, y5, y6, y7, y8, rfl⟩ := list9 hl
  have g0 := hg 0 _ rfl
  have g1 := hg 1 _ rfl
  have g2 := hg 2 _ rfl
  have g3 := hg 3 _ rfl
  have g4 := hg 4 _ rfl
  have g5 := hg 5 _ rfl
  have g6 := hg 6 _ rfl
  have g7 := hg 7 _ rfl
  have g8 := hg 8 _ rfl
  have kI : Tryd.prog.cellsOf 3 = 1 := by kernel_rfl
  have kU : Tryd.prog.cellsOf 23 = 1 := by kernel_rfl
  have kS : Tryd.prog.cellsOf 22 = 1 := by kernel_rfl
  simp [Value.cells, cellsString, kI, kU, kS] at g0 g1 g2 g3 g4 g5 g6 g7 g8
  obtain ⟨a0, e0, _, _⟩ := DataW.trod_int Tryd.underlying3 g0
  obtain ⟨a1, e1, _, s1⟩ := DataW.trod_string Tryd.underlying9 g1
  obtain ⟨a2, e2, _, s2⟩ := DataW.trod_string Tryd.underlying9 g2
  obtain ⟨a3, e3, _, u3⟩ := DataW.trod_int Tryd.underlying23 g3
  obtain ⟨a4, e4, _, u4⟩ := DataW.trod_int Tryd.underlying23 g4
  obtain ⟨a5, e5, _, s5⟩ := DataW.trod_string Tryd.underlying9 g5
  obtain ⟨a6, e6, _, s6⟩ := DataW.trod_string Tryd.underlying9 g6
  obtain ⟨ra, rl, rc, e7⟩ := slice_form Tryd.underlying22 g7
  obtain ⟨wa, wl, wc, e8⟩ := slice_form Tryd.underlying22 g8
  simp at e0 e1 e2 e3 e4 e5 e6 e7 e8
  subst e0 e1 e2 e3 e4 e5 e6 e7 e8
  have t7 : DataW.Trod enc Tryd.prog W 0 (fun _ => true) true 22 (.slice ra rl rc) y7.1 y7.2 := ⟨n, by simpa [Value.cells] using g7⟩
  have t8 : DataW.Trod enc Tryd.prog W 0 (fun _ => true) true 22 (.slice wa wl wc) y8.1 y8.2 := ⟨n, by simpa [Value.cells] using g8⟩
  obtain ⟨rs, rfl, r1, r2, r3⟩ := strs_open t7
  obtain ⟨ws, rfl, w1, w2, w3⟩ := strs_open t8
  obtain ⟨m3, rfl⟩ := Int.eq_ofNat_of_zero_le (wf_u64 u3).1
  obtain ⟨m4, rfl⟩ := Int.eq_ofNat_of_zero_le (wf_u64 u4).1
  refine ⟨⟨a0, a1, a2, m3, m4, a5, a6, rs, ws⟩, ra, rc, wa, wc, rfl, ⟨r1, w1⟩, strs_cap t7, strs_cap t8, ⟨s1, s2, s5, s6, r2, w2⟩, y0.1, y1.1, y2.1, y3.1, y4.1, y5.1, y6.1, y7.1, y8.1, ?_, r3, w3⟩
  have := (Prod.mk.inj hx).1
  simpa using this

set_option maxRecDepth 100000 in
theorem tx_sized {H : Type} {ts : List TypeId} {ds : List (DataW H)} (h : (DataW.weightsEach Tryd.prog ts ds).all (· ≤ reachBytes) = true) {j : Nat} {d : DataW H} {D : TxD} (ht : ts[j]? = some 33) (hd : ds[j]? = some d) (hs : TxDatum d D) :
    D.rs.length * 16 ≤ 140737488351232 ∧ D.ws.length * 16 ≤ 140737488351232 := by
  obtain ⟨y0, y1, y2, y3, y4, y5, y6, y7, y8, rfl, h7, h8⟩ := hs
  have hall : (DataW.weightsEach Tryd.prog [3, 9, 9, 23, 23, 9, 9, 22, 22] [y0, y1, y2, y3, y4, y5, y6, y7, y8]).all (· ≤ reachBytes) = true := by
    rw [List.all_eq_true]
    intro n hn
    exact List.all_eq_true.1 h _ (DataW.weights_mem_each ht hd n (by
      rw [DataW.weights, Tryd.underlying33]
      exact hn))
  exact ⟨strs_sized hall (j := 7) rfl rfl h7, strs_sized hall (j := 8) rfl rfl h8⟩
end Go.Proofs.YtcjmeaikdfgapaaDoor

/- What tuskref01.Same does at two rows of the same strings: it answers true; nothing old in memory is turned. -/
namespace Go.Proofs.YtcjmeaikdfgapaaDoor
open Go.RowKit

theorem own_strs {w : World} {B : Nat} {ao : Option Addr} {n cap : Nat} {ss : List ByteArray} (h : w.ownsRow B 9 1 (.slice ao n cap) n ((bl ss).map strVal)) (hn : n = ss.length) : StrsAt w ao ss := by
  subst hn
  intro j hj
  rcases h.2 with ⟨hv, h0⟩ | ⟨g, cap', cur, hv, hb, hg, _⟩
  · omega
  · simp at hv
    obtain ⟨rfl, _⟩ := hv
    refine ⟨g, 0, rfl, (Array.getElem?_eq_some_iff.1 hg).1, ?_⟩
    have := h.cells (g := g) rfl j (.string ss[j]) (by simp [bl, strVal, List.getElem?_eq_getElem hj])
    rw [Go.WideShapes.add_plain] at this
    exact this

theorem StrsAt.drewN {w : World} {ao : Option Addr} {ss : List ByteArray} (h : StrsAt w ao ss) (n : Nat) : StrsAt (w.drewN n) ao ss :=
  h.below (below_drewN (Below.refl _ _) n)
end Go.Proofs.YtcjmeaikdfgapaaDoor

/- Reading field by field, whatever is read: the first error, or what follows. -/
namespace Go.Proofs.YtcjmeaikdfgapaaDoor
open Go.RowKit
set_option linter.unusedVariables false

def mks (ts : List (List UInt8)) : List ByteArray := ts.map (fun t => ⟨t.toArray⟩)

theorem bl_mks (ts : List (List UInt8)) : bl (mks ts) = ts := by
  simp [bl, mks, List.map_map, Function.comp_def]

theorem mks_bl (ss : List ByteArray) : mks (bl ss) = ss := by
  simp [bl, mks, List.map_map, Function.comp_def]

theorem glGo_back (l : List UInt8) : ∀ (m at_ : Nat) (acc ts : List (List UInt8)) (k : Nat), at_ ≤ l.length → glGo l m at_ acc = (ts, k, 0) →
    ∃ us, ts = acc ++ us ∧ us.length = m ∧ k = at_ + (us.flatMap txt).length ∧ (l.drop at_).take (us.flatMap txt).length = us.flatMap txt ∧ k ≤ l.length ∧ ∀ t ∈ us, t.length ≤ 65536
  | 0, at_, acc, ts, k, hl, h => by
    rw [glGo] at h
    simp only [Prod.mk.injEq] at h
    obtain ⟨rfl, rfl, _⟩ := h
    exact ⟨[], by simp, rfl, by simp, by simp, hl, by simp⟩
  | m + 1, at_, acc, ts, k, hl, h => by
    rcases hg : getText (l.drop at_) with ⟨t, j, e⟩
    rw [glGo, hg] at h
    by_cases he : e ≠ 0
    · rw [if_pos he] at h
      simp only [Prod.mk.injEq] at h
      exact absurd h.2.2 he
    rw [if_neg he] at h
    have he0 : e = 0 := by omega
    subst he0
    have hb := getText_bounds _ t j hg
    have hk := getText_back _ t j hg
    rw [List.length_drop] at hb
    obtain ⟨us, e1, e2, e3, e4, e5, e6⟩ := glGo_back l m (at_ + j) (acc ++ [t]) ts k (by omega) h
    have hj : (txt t).length = j := by rw [hk, List.length_take, List.length_drop]; omega
    refine ⟨t :: us, by rw [e1]; simp, by simp [e2], ?_, ?_, e5, ?_⟩
    · rw [e3, List.flatMap_cons, List.length_append, hj]; omega
    · rw [List.flatMap_cons, List.length_append, hj, List.take_add, ← hk, List.drop_drop, e4]
    · intro x hx
      rw [List.mem_cons] at hx
      rcases hx with rfl | hx
      · exact hb.2.2.1
      · exact e6 x hx

theorem getList_back {l : List UInt8} {most : Int} {ts : List (List UInt8)} {k : Nat} (h : getList l most = (ts, k, 0)) :
    l.take k = lst ts ∧ k = (lst ts).length ∧ k ≤ l.length ∧ (ts.length : Int) ≤ most ∧ ∀ t ∈ ts, t.length ≤ 65536 := by
  rcases hg : getInt l with ⟨n, j, e⟩
  unfold getList at h
  rw [hg] at h
  by_cases he : e ≠ 0
  · rw [if_pos he] at h
    simp only [Prod.mk.injEq] at h
    exact absurd h.2.2 he
  rw [if_neg he] at h
  have he0 : e = 0 := by omega
  subst he0
  by_cases hm : most < (n : Int)
  · rw [if_pos hm] at h
    simp only [Prod.mk.injEq] at h
    omega
  rw [if_neg hm] at h
  have hb := getInt_bounds _ n j hg
  have hk := getInt_back _ n j hg
  obtain ⟨us, e1, e2, e3, e4, e5, e6⟩ := glGo_back l n j [] ts k hb.2.2 h
  rw [List.nil_append] at e1
  subst e1
  have hc : goInt (ts.length : Int) = enc n := by rw [e2]; exact goInt_nat n hb.1
  have hl : lst ts = enc n ++ ts.flatMap txt := by rw [lst, hc]
  have hkl : k = (lst ts).length := by rw [hl, List.length_append, ← hk.2]; exact e3
  refine ⟨?_, hkl, e5, by omega, e6⟩
  rw [hkl, hl, List.length_append, List.take_add, ← hk.2, hk.1, e4]

theorem giGo_zero : ∀ (l : List UInt8) (acc i : Nat), (giGo l acc i).2.2 ≠ 0 → (giGo l acc i).1 = 0 ∧ (giGo l acc i).2.1 = 0
  | [], _, _ => by simp [giGo]
  | c :: r, acc, i => by
    rw [giGo]
    split
    · split
      · intro _; exact ⟨rfl, rfl⟩
      · exact giGo_zero r _ _
    · split
      · intro _; exact ⟨rfl, rfl⟩
      · split
        · intro _; exact ⟨rfl, rfl⟩
        · intro h; exact absurd rfl h

theorem getInt_zero {l : List UInt8} {n k er : Nat} (h : getInt l = (n, k, er)) (he : er ≠ 0) : n = 0 ∧ k = 0 := by
  have := giGo_zero l 0 0
  unfold getInt at h
  rw [h] at this
  exact this he

theorem getText_zero {l t : List UInt8} {k er : Nat} (h : getText l = (t, k, er)) (he : er ≠ 0) : t = [] ∧ k = 0 := by
  unfold getText at h
  split at h
  · simp only [Prod.mk.injEq] at h
    exact ⟨h.1.symm, h.2.1.symm⟩
  · split at h
    · simp only [Prod.mk.injEq] at h
      exact ⟨h.1.symm, h.2.1.symm⟩
    · split at h
      · simp only [Prod.mk.injEq] at h
        exact ⟨h.1.symm, h.2.1.symm⟩
      · simp only [Prod.mk.injEq] at h
        exact absurd h.2.2.symm he

theorem glGo_zero (l : List UInt8) : ∀ (m at_ : Nat) (acc : List (List UInt8)), (glGo l m at_ acc).2.2 ≠ 0 → (glGo l m at_ acc).1 = [] ∧ (glGo l m at_ acc).2.1 = 0
  | 0, at_, acc => by rw [glGo]; intro h; exact absurd rfl h
  | m + 1, at_, acc => by
    rw [glGo]
    split
    · intro _; exact ⟨rfl, rfl⟩
    · exact glGo_zero l m _ _

theorem getList_zero {l : List UInt8} {most : Int} {t : List (List UInt8)} {k er : Nat} (h : getList l most = (t, k, er)) (he : er ≠ 0) : t = [] ∧ k = 0 := by
  unfold getList at h
  split at h
  · simp only [Prod.mk.injEq] at h
    exact ⟨h.1.symm, h.2.1.symm⟩
  · split at h
    · simp only [Prod.mk.injEq] at h
      exact ⟨h.1.symm, h.2.1.symm⟩
    · have := glGo_zero l (getInt l).1 (getInt l).2.1 []
      rw [h] at this
      exact this he

theorem rest_le (r : ByteArray) (k : Nat) (h : r.size ≤ maxLen) : (r.extract k r.size).size ≤ maxLen := by
  rw [ByteArray.size_extract]
  omega

section
variable {α : Type}

def rdI (l : List UInt8) (f : Nat → List UInt8 → Except Nat α) : Except Nat α := if (getInt l).2.2 ≠ 0 then .error (getInt l).2.2 else f (getInt l).1 (l.drop (getInt l).2.1)
def rdT (l : List UInt8) (f : List UInt8 → List UInt8 → Except Nat α) : Except Nat α := if (getText l).2.2 ≠ 0 then .error (getText l).2.2 else f (getText l).1 (l.drop (getText l).2.1)
def rdL (most : Int) (l : List UInt8) (f : List (List UInt8) → List UInt8 → Except Nat α) : Except Nat α := if (getList l most).2.2 ≠ 0 then .error (getList l most).2.2 else f (getList l most).1 (l.drop (getList l most).2.1)

theorem rdI_ok {l : List UInt8} {f : Nat → List UInt8 → Except Nat α} {n k : Nat} (h : getInt l = (n, k, 0)) : rdI l f = f n (l.drop k) := by
  unfold rdI; rw [h]; rfl
theorem rdI_err {l : List UInt8} {f : Nat → List UInt8 → Except Nat α} {n k er : Nat} (h : getInt l = (n, k, er)) (he : er ≠ 0) : rdI l f = .error er := by
  unfold rdI; rw [h, if_pos he]
theorem rdT_ok {l : List UInt8} {f : List UInt8 → List UInt8 → Except Nat α} {t : List UInt8} {k : Nat} (h : getText l = (t, k, 0)) : rdT l f = f t (l.drop k) := by
  unfold rdT; rw [h]; rfl
theorem rdT_err {l : List UInt8} {f : List UInt8 → List UInt8 → Except Nat α} {t : List UInt8} {k er : Nat} (h : getText l = (t, k, er)) (he : er ≠ 0) : rdT l f = .error er := by
  unfold rdT; rw [h, if_pos he]
theorem rdL_ok {most : Int} {l : List UInt8} {f : List (List UInt8) → List UInt8 → Except Nat α} {t : List (List UInt8)} {k : Nat} (h : getList l most = (t, k, 0)) : rdL most l f = f t (l.drop k) := by
  unfold rdL; rw [h]; rfl
theorem rdL_err {most : Int} {l : List UInt8} {f : List (List UInt8) → List UInt8 → Except Nat α} {t : List (List UInt8)} {k er : Nat} (h : getList l most = (t, k, er)) (he : er ≠ 0) : rdL most l f = .error er := by
  unfold rdL; rw [h, if_pos he]

theorem rdI_enc {f : Nat → List UInt8 → Except Nat α} (n : Nat) (r : List UInt8) (h : n ≤ 4611686018427387903) : rdI (enc n ++ r) f = f n r := by
  rw [rdI_ok (getInt_enc n r h), List.drop_left]
theorem rdT_txt {f : List UInt8 → List UInt8 → Except Nat α} (t r : List UInt8) (h : t.length ≤ 65536) : rdT (txt t ++ r) f = f t r := by
  rw [rdT_ok (getText_txt t r h), List.drop_left]
theorem rdL_lst {f : List (List UInt8) → List UInt8 → Except Nat α} (most : Int) (ts : List (List UInt8)) (r : List UInt8) (h : ∀ t ∈ ts, t.length ≤ 65536) (hn : ts.length ≤ 4611686018427387903) (hm : (ts.length : Int) ≤ most) : rdL most (lst ts ++ r) f = f ts r := by
  rw [rdL_ok (getList_lst ts r most h hn hm), List.drop_left]

theorem rdI_back {l : List UInt8} {f : Nat → List UInt8 → Except Nat α} {d : α} (h : rdI l f = .ok d) : ∃ n r, l = enc n ++ r ∧ n ≤ 4611686018427387903 ∧ f n r = .ok d := by
  rcases hg : getInt l with ⟨n, k, e⟩
  by_cases he : e = 0
  · subst he
    rw [rdI_ok hg] at h
    have hb := getInt_bounds _ n k hg
    have hk := getInt_back _ n k hg
    exact ⟨n, l.drop k, by rw [← hk.1, List.take_append_drop], hb.1, h⟩
  · rw [rdI_err hg he] at h
    cases h
theorem rdT_back {l : List UInt8} {f : List UInt8 → List UInt8 → Except Nat α} {d : α} (h : rdT l f = .ok d) : ∃ t r, l = txt t ++ r ∧ t.length ≤ 65536 ∧ f t r = .ok d := by
  rcases hg : getText l with ⟨t, k, e⟩
  by_cases he : e = 0
  · subst he
    rw [rdT_ok hg] at h
    have hb := getText_bounds _ t k hg
    have hk := getText_back _ t k hg
    exact ⟨t, l.drop k, by rw [hk, List.take_append_drop], hb.2.2.1, h⟩
  · rw [rdT_err hg he] at h
    cases h
theorem rdL_back {most : Int} {l : List UInt8} {f : List (List UInt8) → List UInt8 → Except Nat α} {d : α} (h : rdL most l f = .ok d) : ∃ t r, l = lst t ++ r ∧ (t.length : Int) ≤ most ∧ (∀ x ∈ t, x.length ≤ 65536) ∧ f t r = .ok d := by
  rcases hg : getList l most with ⟨t, k, e⟩
  by_cases he : e = 0
  · subst he
    rw [rdL_ok hg] at h
    have hk := getList_back hg
    exact ⟨t, l.drop k, by rw [← hk.1, List.take_append_drop], hk.2.2.2.1, hk.2.2.2.2, h⟩
  · rw [rdL_err hg he] at h
    cases h

/-- Each in its turn; the first error. -/
def eachE {β : Type} (f : β → Except Nat α) : List β → Except Nat (List α)
  | [] => .ok []
  | b :: r => match f b with
    | .error e => .error e
    | .ok a => match eachE f r with
      | .error e => .error e
      | .ok xs => .ok (a :: xs)

theorem eachE_back {β : Type} {f : β → Except Nat α} {g : α → β} (hg : ∀ b a, f b = .ok a → g a = b) : ∀ (bs : List β) (xs : List α), eachE f bs = .ok xs → xs.map g = bs
  | [], xs, h => by
    simp only [eachE, Except.ok.injEq] at h
    subst h
    rfl
  | b :: r, xs, h => by
    rw [eachE] at h
    cases hb : f b with
    | error e => rw [hb] at h; cases h
    | ok a =>
      rw [hb] at h
      cases hr : eachE f r with
      | error e => rw [hr] at h; cases h
      | ok xs' =>
        rw [hr] at h
        simp only [Except.ok.injEq] at h
        subst h
        rw [List.map_cons, hg b a hb, eachE_back hg r xs' hr]

theorem eachE_all {β : Type} {f : β → Except Nat α} {p : α → Prop} (hp : ∀ b a, f b = .ok a → p a) : ∀ (bs : List β) (xs : List α), eachE f bs = .ok xs → ∀ a ∈ xs, p a
  | [], xs, h => by
    simp only [eachE, Except.ok.injEq] at h
    subst h
    simp
  | b :: r, xs, h => by
    rw [eachE] at h
    cases hb : f b with
    | error e => rw [hb] at h; cases h
    | ok a =>
      rw [hb] at h
      cases hr : eachE f r with
      | error e => rw [hr] at h; cases h
      | ok xs' =>
        rw [hr] at h
        simp only [Except.ok.injEq] at h
        subst h
        intro x hx
        rw [List.mem_cons] at hx
        rcases hx with rfl | hx
        · exact hp b x hb
        · exact eachE_all hp r xs' hr x hx

theorem eachE_map {β : Type} {f : β → Except Nat α} {g : α → β} : ∀ (xs : List α), (∀ a ∈ xs, f (g a) = .ok a) → eachE f (xs.map g) = .ok xs
  | [], _ => rfl
  | a :: r, h => by
    rw [List.map_cons, eachE, h a (by simp)]
    simp only
    rw [eachE_map r (fun x hx => h x (by simp [hx]))]
end

theorem eachE_take {β α : Type} {f : β → Except Nat α} (l : List β) (k : Nat) (b : β) (hb : l[k]? = some b) (xs : List α) (h : eachE f (l.take k) = .ok xs) :
    (∀ a, f b = .ok a → eachE f (l.take (k + 1)) = .ok (xs ++ [a])) ∧ (∀ e, f b = .error e → eachE f l = .error e) := by
  induction l generalizing k xs with
  | nil => simp at hb
  | cons c r ih =>
    cases k with
    | zero =>
      simp at hb
      subst hb
      simp [eachE] at h
      subst h
      refine ⟨fun a ha => by simp [eachE, ha], fun e he => by simp [eachE, he]⟩
    | succ k =>
      simp at hb
      rw [List.take_succ_cons, eachE] at h
      cases hc : f c with
      | error e => rw [hc] at h; cases h
      | ok a0 =>
        rw [hc] at h
        cases hr : eachE f (r.take k) with
        | error e => rw [hr] at h; cases h
        | ok ys =>
          rw [hr] at h
          simp at h
          subst h
          obtain ⟨i1, i2⟩ := ih k hb ys hr
          refine ⟨fun a ha => ?_, fun e he => ?_⟩
          · rw [List.take_succ_cons, eachE, hc]
            simp only
            rw [i1 a ha]
            rfl
          · rw [eachE, hc]
            simp only
            rw [i2 e he]

theorem eachE_err {α β : Type} {f : β → Except Nat α} (hf : ∀ b e, f b = .error e → e ≠ 0) : ∀ (bs : List β) (e : Nat), eachE f bs = .error e → e ≠ 0
  | [], e, h => by cases h
  | b :: r, e, h => by
    rw [eachE] at h
    cases hb : f b with
    | error e' =>
      rw [hb] at h
      simp only [Except.error.injEq] at h
      subst h
      exact hf b e' hb
    | ok a =>
      rw [hb] at h
      cases hr : eachE f r with
      | error e' =>
        rw [hr] at h
        simp only [Except.error.injEq] at h
        subst h
        exact eachE_err hf r e' hr
      | ok xs => rw [hr] at h; cases h

end Go.Proofs.YtcjmeaikdfgapaaDoor

/- Rows of strings of the call's own. -/
namespace Go.Proofs.YtcjmeaikdfgapaaDoor
open Go.RowKit
set_option linter.unusedVariables false

theorem strs_news {w : World} {ad : Addr} {ss : List ByteArray} (h : StrsAt w (some ad) ss) : ∀ j u, ((bl ss).map strVal)[j]? = some u → w.cell? (ad.add j) = some u := by
  intro j u hu
  have hj : j < ss.length := by
    have := (List.getElem?_eq_some_iff.1 hu).1
    simpa [bl] using this
  obtain ⟨b, off, e, _, hc⟩ := h j hj
  simp at e
  subst e
  rw [Go.WideShapes.add_plain, hc]
  simp [bl, strVal, List.getElem?_eq_getElem hj] at hu
  rw [hu]

/-- A row of strings of the call's own. -/
def OwnStrs (base : Nat) (w : World) (ao : Option Addr) (ss : List ByteArray) : Prop :=
  ∀ j (h : j < ss.length), ∃ b off, ao = some ⟨b, off, none⟩ ∧ base ≤ b ∧ b < w.heap.size ∧ w.cell? ⟨b, off + j, none⟩ = some (.string ss[j])

theorem OwnStrs.at {base : Nat} {w : World} {ao : Option Addr} {ss : List ByteArray} (h : OwnStrs base w ao ss) : StrsAt w ao ss := by
  intro j hj
  obtain ⟨b, off, h1, _, h3, h4⟩ := h j hj
  exact ⟨b, off, h1, h3, h4⟩

theorem OwnStrs.put {base : Nat} {w : World} {ao : Option Addr} {ss : List ByteArray} (h : OwnStrs base w ao ss) {p : Addr} (hp : p.block < base) (v : Value) : OwnStrs base (w.setCell p v) ao ss := by
  intro j hj
  obtain ⟨b, off, h1, h2, h3, h4⟩ := h j hj
  have e : (w.setCell p v).heap[b]? = w.heap[b]? := Below.heap_setCell w p v b (by omega)
  refine ⟨b, off, h1, h2, ?_, ?_⟩
  · show b < (w.heap.modify p.block _).size
    simpa using h3
  · rw [← h4]
    simp only [World.cell?, e]

theorem OwnStrs.below {base : Nat} {w w' : World} {ao : Option Addr} {ss : List ByteArray} (h : OwnStrs base w ao ss) (hb : Below w.heap.size w w') : OwnStrs base w' ao ss := by
  intro j hj
  obtain ⟨b, off, h1, h2, h3, h4⟩ := h j hj
  exact ⟨b, off, h1, h2, Nat.lt_of_lt_of_le h3 hb.size, by rw [hb.cell (p := ⟨b, off + j, none⟩) h3]; exact h4⟩

theorem own_far {w : World} {B : Nat} {ao : Option Addr} {n cap : Nat} {ss : List ByteArray} (h : w.ownsRow B 9 1 (.slice ao n cap) n ((bl ss).map strVal)) (hn : n = ss.length) : OwnStrs B w ao ss := by
  subst hn
  intro j hj
  rcases h.2 with ⟨hv, h0⟩ | ⟨g, cap', cur, hv, hb, hg, _⟩
  · omega
  · simp at hv
    obtain ⟨rfl, _⟩ := hv
    refine ⟨g, 0, rfl, hb, (Array.getElem?_eq_some_iff.1 hg).1, ?_⟩
    have := h.cells (g := g) rfl j (.string ss[j]) (by simp [bl, strVal, List.getElem?_eq_getElem hj])
    rw [Go.WideShapes.add_plain] at this
    exact this

/-- append([]string{}, xs...): a row of the same strings, the call's own. -/
theorem wpList_append_strs {w : World} {ops : Array Oper} {rest : List Oper} {o : Oper} {a : Act} {Q : Exit → Act → World → Prop} (hgd : o.guard = none) (s x : Operand)
    (ho : o.op = .call { callee := .builtin .append, args := #[s, x], argTypes := #[22, 22] })
    (base : Nat) (v : Value) (hs : a.eval s = v) (hown : w.ownsRow base 9 1 v 0 []) (ao : Option Addr) (cap : Nat) (ss : List ByteArray) (hx : a.eval x = .slice ao ss.length cap)
    (hS : StrsAt w ao ss) (hnil : ao = none → cap = 0) (hlen : ss.length * 16 ≤ 140737488355328) (hbase : base ≤ w.heap.size)
    (h : ∀ ao' cap' w', OwnStrs base w' ao' ss → (ao' = none → cap' = 0) → Below base w w' → wpList Tryd.prog ops Q rest (a.put o.dst (.slice ao' ss.length cap')) w') : wpList Tryd.prog ops Q (o :: rest) a w := by
  obtain ⟨i0, hi, hz0, hz1, hz2⟩ := info_parts infoString
  have hbl : (bl ss).length = ss.length := by simp [bl]
  cases ao with
  | none =>
    have hc0 := hnil rfl
    subst hc0
    have hss : ss = [] := by
      cases ss with
      | nil => rfl
      | cons y r => obtain ⟨_, _, e, _⟩ := hS 0 (by simp); cases e
    subst hss
    refine wpList_append_own_none hgd s x 22 ho base 9 i0 1 Tryd.underlying22 hi v 0 [] hs hown hx ?_
    obtain ⟨ao', cap', rfl⟩ := own_slice hown
    refine h ao' cap' w (fun j hj => absurd hj (by simp)) ?_ (Below.refl _ _)
    intro he
    rcases hown.2 with ⟨hv, _⟩ | ⟨g, c, cur, hv, _⟩
    · simp at hv; exact hv.2
    · simp at hv; rw [hv.1] at he; cases he
  | some ad =>
    refine wpList_append_own w hgd s x 22 ho base 9 i0 (.string ⟨#[]⟩) 1 16 Tryd.underlying22 hi hz0 hz1 hz2 rfl (by decide) v 0 [] hs hown ad ss.length cap ((bl ss).map strVal) hx (by simp [bl]) (strs_news hS) (strVal_one _) (by unfold maxLen; omega) (by omega) hbase ?_
    intro v' w' hown' hgrow _
    have hb := (Below.refl base w).grown hgrow hbase (fun q hq => (hown.lt q hq).1)
    rw [Nat.zero_add] at hown'
    obtain ⟨ao', cap', rfl⟩ := own_slice hown'
    refine h ao' cap' w' (own_far hown' rfl) ?_ hb
    intro he
    rcases hown'.2 with ⟨hv, _⟩ | ⟨g, c, cur, hv, _⟩
    · simp at hv; exact hv.2.2
    · simp at hv; rw [hv.1] at he; cases he

/-- A new empty row of strings. -/
theorem own_made (w : World) (n : Nat) (hn : w.heap.size = n) : (w.alloc (.cells #[] 9)).ownsRow n 9 1 (.slice (some ⟨n, 0, none⟩) 0 0) 0 [] := by
  subst hn
  exact World.ownsRow_made w #[] 0 (Nat.le_refl _) (by unfold maxLen; omega) (by simp)

theorem OwnStrs.mono {b1 b2 : Nat} {w : World} {ao : Option Addr} {ss : List ByteArray} (h : OwnStrs b2 w ao ss) (hb : b1 ≤ b2) : OwnStrs b1 w ao ss := by
  intro j hj
  obtain ⟨b, off, h1, h2, h3⟩ := h j hj
  exact ⟨b, off, h1, Nat.le_trans hb h2, h3⟩

theorem nil_strs (w : World) (ao : Option Addr) : StrsAt w ao [] := fun j hj => absurd hj (by simp)

end Go.Proofs.YtcjmeaikdfgapaaDoor

/- What Needs, slices.Contains and Fits do; nothing old in memory is turned. -/
namespace Go.Proofs.YtcjmeaikdfgapaaDoor
open Go.RowKit
set_option linter.unusedVariables false

set_option maxRecDepth 100000 in
set_option maxHeartbeats 400000 in
theorem index_any (ao : Option Addr) (cap : Nat) (ss : List ByteArray) (v : ByteArray) (w : World) (hc : StrsAt w ao ss) (hn : ss.length ≤ 9223372036854775807) :
    Calls Tryd.prog 89 #[.slice ao ss.length cap, .string v] w fun e w' => (∃ i : Int, e = .returned (.int .i64 i) ∧ decide (0 ≤ i) = hasL ss v) ∧ w' = w := by
  go_enter Tryd.func89, Tryd.ntmps89
  go_wp2
  go_loop [8] (fun u => ∃ k : Nat, k ≤ ss.length ∧ u = .int .i64 k ∧ Hid (hasL ss v = hasL (ss.drop k) v)) (fun u => ss.length - (intOf u).toNat)
  case atStart => exact ⟨0, by omega, rfl, by show _ = _; simp⟩
  case round =>
    obtain ⟨k, hk, rfl, hK⟩ := hrel
    by_cases hlt : k < ss.length
    · obtain ⟨b, off, rfl, hbl, hcell⟩ := hc k hlt
      have hd : ss.drop k = ss[k] :: ss.drop (k + 1) := List.drop_eq_getElem_cons hlt
      have hK2 := hK.out
      rw [hd] at hK2
      obtain ⟨x, hx⟩ : ∃ x, x = ss[k] := ⟨_, rfl⟩
      rw [← hx] at hK2 hcell
      clear hK hd hx
      by_cases he : v.toList = x.toList
      · have H : Hid (hasL ss v = true) := by show _ = _; rw [hK2]; simp [hasL, he]
        clear hK2
        go_wp2
        go_ret
        exact ⟨⟨k, rfl, by rw [H.out]; simp⟩, rfl⟩
      · have H : Hid (hasL ss v = hasL (ss.drop (k + 1)) v) := by show _ = _; rw [hK2]; simp [hasL, he]
        have heb : (v.toList == x.toList) = false := beq_eq_false_iff_ne.2 he
        clear hK2
        go_wp2
        go_round
        case rel => exact ⟨k + 1, by omega, by go_num, H⟩
        case measure => simp [intOf]; omega
    · have H : Hid (hasL ss v = false) := by show _ = _; rw [hK.out, List.drop_of_length_le (by omega)]; rfl
      clear hK
      go_wp2
      go_ret
      exact ⟨⟨-1, rfl, by rw [H.out]; rfl⟩, rfl⟩

set_option maxRecDepth 100000 in
set_option maxHeartbeats 400000 in
theorem contains_any (ao : Option Addr) (cap : Nat) (ss : List ByteArray) (v : ByteArray) (w : World) (hc : StrsAt w ao ss) (hn : ss.length ≤ 9223372036854775807) :
    Calls Tryd.prog 71 #[.slice ao ss.length cap, .string v] w fun e w' => e = .returned (.bool (hasL ss v)) ∧ w' = w := by
  go_enter Tryd.func71, Tryd.ntmps71
  go_wp2_with fail
  refine (index_any ao cap ss v _ hc hn).mono ?_
  rintro e w' ⟨⟨i, rfl, hi⟩, rfl⟩
  go_wp2
  go_ret
  exact ⟨by rw [← hi]; rfl, rfl⟩

theorem one_strs (w : World) (a : ByteArray) (T : TypeId) : StrsAt (w.alloc (.cells #[.string a] T)) (some ⟨w.heap.size, 0, none⟩) [a] := by
  intro j hj
  have h := Arr.new w T [.string a]
  obtain rfl : j = 0 := by simp at hj; omega
  exact ⟨w.heap.size, 0, rfl, h.lt, h.cell rfl⟩

theorem two_strs (w : World) (a b : ByteArray) (T : TypeId) : StrsAt (w.alloc (.cells #[.string a, .string b] T)) (some ⟨w.heap.size, 0, none⟩) [a, b] := by
  intro j hj
  have h := Arr.new w T [.string a, .string b]
  match j, hj with
  | 0, _ => exact ⟨w.heap.size, 0, rfl, h.lt, h.cell rfl⟩
  | 1, _ => exact ⟨w.heap.size, 0, rfl, h.lt, h.cell rfl⟩



/-- A row of strings is handed back. -/
def GotStrs (W : World) (l : List ByteArray) (e : Ending) (w : World) : Prop :=
  ∃ ao, e = .returned (.slice ao l.length l.length) ∧ StrsAt w ao l ∧ Below W.heap.size W w

theorem GotStrs.of {W w : World} {l : List ByteArray} {n : Nat} {v : Value} {ao : Option Addr} (hv : v = .slice ao n n) (hn : n = l.length) (h : StrsAt w ao l) (hb : Below W.heap.size W w) : GotStrs W l (.returned v) w := by
  subst hv hn
  exact ⟨ao, rfl, h, hb⟩

set_option maxRecDepth 100000 in
set_option maxHeartbeats 1000000 in
theorem needs_any (d : TxD) (ra : Option Addr) (rc : Nat) (wa : Option Addr) (wc : Nat) (w : World) (hA : TxAt w d ra wa) :
    Calls Tryd.prog 70 #[txV d ra rc wa wc] w fun e w' => GotStrs w (needsL d) e w' := by
  have hX := TxBox.new w d ra rc wa wc
  have hB := belowNew w (.cells (txC d ra rc wa wc).toArray 33)
  have cc := check_any d ra rc wa wc _ (hA.below hB)
  by_cases hz : checkL d = 0
  · obtain ⟨z1, z2, z3, z4, z5, z6⟩ := check_zero hz
    obtain ⟨y1, y2, y3, y4⟩ := fields_sizes z2
    have N : needsL d = (if d.kind = 2 then [aP ++ d.frm, kP ++ d.key]
     else if Op.bytesLess (aP ++ d.frm).toList (aP ++ d.to).toList = true then [aP ++ d.frm, aP ++ d.to]
     else if Op.bytesLess (aP ++ d.to).toList (aP ++ d.frm).toList = true then [aP ++ d.to, aP ++ d.frm]
     else [aP ++ d.frm]) := by unfold needsL; rw [if_pos hz]
    rw [hz] at cc
    clear z2 z3 z4 z5 z6 hz hA
    obtain ⟨kind, frm, to, amt, non, key, val, rs, ws⟩ := d
    replace z1 : kind = 1 ∨ kind = 2 := z1
    replace y1 : frm.size ≤ 32 := y1
    replace y2 : to.size ≤ 32 := y2
    replace y3 : key.size ≤ 32 := y3
    replace N : needsL ⟨kind, frm, to, amt, non, key, val, rs, ws⟩ = (if kind = 2 then [aP ++ frm, kP ++ key]
     else if Op.bytesLess (aP ++ frm).toList (aP ++ to).toList = true then [aP ++ frm, aP ++ to]
     else if Op.bytesLess (aP ++ to).toList (aP ++ frm).toList = true then [aP ++ to, aP ++ frm]
     else [aP ++ frm]) := N
    unfold aP kP at N
    unfold txV at cc ⊢
    rcases z1 with rfl | rfl
    · rw [if_neg (by decide)] at N
      cases h1 : Op.bytesLess (⟨#[97, 58]⟩ ++ frm : ByteArray).toList (⟨#[97, 58]⟩ ++ to : ByteArray).toList with
      | true =>
        rw [if_pos h1] at N
        have HN : Hid (needsL ⟨1, frm, to, amt, non, key, val, rs, ws⟩ = _) := N
        clear N
        generalize needsL ⟨1, frm, to, amt, non, key, val, rs, ws⟩ = nl at *
        go_enter Tryd.func70, Tryd.ntmps70
        go_wp2_with fail
        refine cc.mono ?_
        rintro e w1 ⟨rfl, hb1⟩
        have hX1 := hX.below hb1 hX.lt
        have hB1 := hB.trans (hb1.mono hB.size)
        have c0 := hX1.cell (i := 0) rfl
        have c1 := hX1.cell (i := 1) rfl
        have c2 := hX1.cell (i := 2) rfl
        have c5 := hX1.cell (i := 5) rfl
        clear hb1 cc hX hB hX1
        have hsz := hB1.size
        go_wp2
        go_ret
        rw [HN.out]
        exact GotStrs.of rfl rfl (two_strs _ _ _ _) (hB1.alloc hsz _)
      | false =>
        rw [if_neg (by rw [h1]; simp)] at N
        cases h2 : Op.bytesLess (⟨#[97, 58]⟩ ++ to : ByteArray).toList (⟨#[97, 58]⟩ ++ frm : ByteArray).toList with
        | true =>
          rw [if_pos h2] at N
          have HN : Hid (needsL ⟨1, frm, to, amt, non, key, val, rs, ws⟩ = _) := N
          clear N
          generalize needsL ⟨1, frm, to, amt, non, key, val, rs, ws⟩ = nl at *
          go_enter Tryd.func70, Tryd.ntmps70
          go_wp2_with fail
          refine cc.mono ?_
          rintro e w1 ⟨rfl, hb1⟩
          have hX1 := hX.below hb1 hX.lt
          have hB1 := hB.trans (hb1.mono hB.size)
          have c0 := hX1.cell (i := 0) rfl
          have c1 := hX1.cell (i := 1) rfl
          have c2 := hX1.cell (i := 2) rfl
          have c5 := hX1.cell (i := 5) rfl
          clear hb1 cc hX hB hX1
          have hsz := hB1.size
          go_wp2
          go_ret
          rw [HN.out]
          exact GotStrs.of rfl rfl (two_strs _ _ _ _) (hB1.alloc hsz _)
        | false =>
          rw [if_neg (by rw [h2]; simp)] at N
          have HN : Hid (needsL ⟨1, frm, to, amt, non, key, val, rs, ws⟩ = _) := N
          clear N
          generalize needsL ⟨1, frm, to, amt, non, key, val, rs, ws⟩ = nl at *
          go_enter Tryd.func70, Tryd.ntmps70
          go_wp2_with fail
          refine cc.mono ?_
          rintro e w1 ⟨rfl, hb1⟩
          have hX1 := hX.below hb1 hX.lt
          have hB1 := hB.trans (hb1.mono hB.size)
          have c0 := hX1.cell (i := 0) rfl
          have c1 := hX1.cell (i := 1) rfl
          have c2 := hX1.cell (i := 2) rfl
          have c5 := hX1.cell (i := 5) rfl
          clear hb1 cc hX hB hX1
          have hsz := hB1.size
          go_wp2
          go_ret
          rw [HN.out]
          exact GotStrs.of rfl rfl (one_strs _ _ _) (hB1.alloc hsz _)
    · rw [if_pos rfl] at N
      have HN : Hid (needsL ⟨2, frm, to, amt, non, key, val, rs, ws⟩ = _) := N
      clear N
      generalize needsL ⟨2, frm, to, amt, non, key, val, rs, ws⟩ = nl at *
      go_enter Tryd.func70, Tryd.ntmps70
      go_wp2_with fail
      refine cc.mono ?_
      rintro e w1 ⟨rfl, hb1⟩
      have hX1 := hX.below hb1 hX.lt
      have hB1 := hB.trans (hb1.mono hB.size)
      have c0 := hX1.cell (i := 0) rfl
      have c1 := hX1.cell (i := 1) rfl
      have c2 := hX1.cell (i := 2) rfl
      have c5 := hX1.cell (i := 5) rfl
      clear hb1 cc hX hB hX1
      have hsz := hB1.size
      go_wp2
      go_ret
      rw [HN.out]
      exact GotStrs.of rfl rfl (two_strs _ _ _ _) (hB1.alloc hsz _)
  · have HN : Hid (needsL d = []) := by show _ = _; unfold needsL; rw [if_neg hz]
    have hz' : ((checkL d : Int) != 0) = true := by rw [bne_iff_ne]; omega
    generalize checkL d = n at cc hz'
    generalize needsL d = nl at *
    clear hz hA hX
    unfold txV at cc ⊢
    go_enter Tryd.func70, Tryd.ntmps70
    go_wp2_with fail
    refine cc.mono ?_
    rintro e w1 ⟨rfl, hb1⟩
    have hB1 := hB.trans (hb1.mono hB.size)
    clear hb1 cc
    go_wp2
    go_ret
    rw [HN.out]
    exact GotStrs.of rfl rfl (nil_strs _ _) hB1

set_option maxRecDepth 100000 in
set_option maxHeartbeats 1000000 in
theorem fits_any (d : TxD) (ra : Option Addr) (rc : Nat) (wa : Option Addr) (wc : Nat) (w : World) (hA : TxAt w d ra wa) (hn : d.ws.length ≤ 9223372036854775807) :
    Calls Tryd.prog 53 #[txV d ra rc wa wc] w fun e w' => e = .returned (.bool (fitsL d)) ∧ Below w.heap.size w w' := by
  have hX := TxBox.new w d ra rc wa wc
  have hB := belowNew w (.cells (txC d ra rc wa wc).toArray 33)
  have cc := needs_any d ra rc wa wc _ (hA.below hB)
  have hW : StrsAt w wa d.ws := hA.wr
  have HF : Hid (fitsL d = (!(needsL d).isEmpty && (needsL d).all (hasL d.ws))) := (rfl : _ = _)
  have hl2 : (needsL d).length ≤ 2 := by
    unfold needsL
    split
    · split
      · simp
      · split
        · simp
        · split <;> simp
    · simp
  generalize needsL d = nl at cc HF hl2
  generalize fitsL d = F at HF ⊢
  clear hA
  obtain ⟨kind, frm, to, amt, non, key, val, rs, ws⟩ := d
  replace hW : StrsAt w wa ws := hW
  replace hn : ws.length ≤ 9223372036854775807 := hn
  replace HF : Hid (F = (!nl.isEmpty && nl.all (hasL ws))) := HF
  unfold txV at cc ⊢
  go_enter Tryd.func53, Tryd.ntmps53
  go_wp2_with fail
  refine cc.mono ?_
  rintro e w1 ⟨ao, rfl, hS, hb1⟩
  have hX1 := hX.below hb1 hX.lt
  have hB1 := hB.trans (hb1.mono hB.size)
  replace hW := hW.below hB1
  have c8 := hX1.cell (i := 8) rfl
  clear hb1 cc hX hB hX1
  go_wp2
  go_loop [10] (fun u => ∃ k : Nat, k ≤ nl.length ∧ u = .int .i64 k ∧ Hid ((nl.take k).all (hasL ws) = true)) (fun u => nl.length - (intOf u).toNat)
  case atStart => exact ⟨0, by omega, rfl, by show _ = _; simp⟩
  case round =>
    obtain ⟨k, hk, rfl, hK⟩ := hrel
    by_cases hlt : k < nl.length
    · obtain ⟨b, off, rfl, hbl, hcell⟩ := hS k hlt
      have ct := contains_any wa wc ws nl[k] w1 hW hn
      have hall := hK.out
      have e1 : (nl.take (k + 1)).all (hasL ws) = ((nl.take k).all (hasL ws) && hasL ws nl[k]) := by
        rw [List.take_succ_eq_append_getElem hlt, List.all_append]; simp
      cases hh : hasL ws nl[k] with
      | true =>
        have H : Hid ((nl.take (k + 1)).all (hasL ws) = true) := by show _ = _; rw [e1, hall, hh]; rfl
        rw [hh] at ct
        clear e1 hall hK hh
        go_wp2_with fail
        refine ct.mono ?_
        rintro e w2 ⟨rfl, rfl⟩
        clear ct
        go_wp2
        go_round
        case rel => exact ⟨k + 1, by omega, by go_num, H⟩
        case measure => simp [intOf]; omega
      | false =>
        have H : Hid (F = false) := by
          show _ = _
          rw [HF.out]
          have e2 : nl.all (hasL ws) = false := by
            rw [← List.take_append_drop (k + 1) nl, List.all_append, e1, hh]
            simp
          rw [e2]
          simp
        rw [hh] at ct
        clear e1 hall hK hh
        go_wp2_with fail
        refine ct.mono ?_
        rintro e w2 ⟨rfl, rfl⟩
        clear ct
        go_wp2
        go_ret
        exact ⟨by rw [H.out]; rfl, hB1⟩
    · have H : Hid (F = decide (0 < nl.length)) := by
        show _ = _
        rw [HF.out]
        have h1 := hK.out
        rw [List.take_of_length_le (by omega)] at h1
        rw [h1]
        cases nl <;> simp
      clear hK
      go_wp2
      go_ret
      exact ⟨by rw [H.out]; rfl, hB1⟩
end Go.Proofs.YtcjmeaikdfgapaaDoor
