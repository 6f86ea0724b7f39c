/- Texts as one: TxEncode, TxNeeds, TxOwn, TxRows, SealMath, SealRows, TxKeyMath, TxDecMath. -/
import Derived.Test.YtaoiejgbbmjpkaaGreatDoorWk04
import Derived.Test.YtaoiejgbbmjpkaaGreatDoorWk02
import Derived.Deep.Slices
/- What Encode does; nothing old in memory is turned. -/
namespace Go.Proofs.YtaoiejgbbmjpkaaGreatDoor
open Go.RowKit
set_option linter.unusedVariables false

theorem isNm_size {s : ByteArray} (h : isNm s = true) : s.size ≤ 32 := by
  unfold isNm at h
  simp only [Bool.and_eq_true, decide_eq_true_eq] at h
  exact h.1.2

theorem isKy_size {s : ByteArray} (h : isKy s = true) : s.size ≤ 34 := by
  unfold isKy at h
  rw [Bool.and_eq_true] at h
  have := isNm_size h.2
  rw [ByteArray.size_extract] at this
  omega

theorem empty_size {s : ByteArray} (h : (s.toList == []) = true) : s.size = 0 := by
  rw [beq_iff_eq, ByteArray.toList_eq] at h
  have : s.data.toList.length = s.size := by simp
  rw [h] at this
  exact this.symm

theorem check_zero {d : TxD} (h : checkL d = 0) : (d.kind = 1 ∨ d.kind = 2) ∧ fieldsR d = true ∧ d.amt ≤ 4611686018427387903 ∧ d.non ≤ 4611686018427387903 ∧ keysL d.rs = 0 ∧ keysL d.ws = 0 := by
  unfold checkL at h
  by_cases h1 : d.kind ≠ 1 ∧ d.kind ≠ 2
  · rw [if_pos h1] at h; omega
  rw [if_neg h1] at h
  by_cases h2 : fieldsR d = false
  · rw [if_pos h2] at h; omega
  rw [if_neg h2] at h
  by_cases h3 : 4611686018427387903 < d.amt ∨ 4611686018427387903 < d.non
  · rw [if_pos h3] at h; omega
  rw [if_neg h3] at h
  by_cases h4 : keysL d.rs ≠ 0
  · rw [if_pos h4] at h; omega
  rw [if_neg h4] at h
  exact ⟨by omega, by simpa using h2, by omega, by omega, by omega, h⟩

theorem fields_sizes {d : TxD} (h : fieldsR d = true) : d.frm.size ≤ 32 ∧ d.to.size ≤ 32 ∧ d.key.size ≤ 32 ∧ d.val.size ≤ 64 := by
  unfold fieldsR at h
  rw [Bool.and_eq_true] at h
  have h1 := isNm_size h.1
  have h2 := h.2
  by_cases hk : d.kind = 1
  · rw [if_pos hk] at h2
    simp only [Bool.and_eq_true] at h2
    have a := isNm_size h2.1.1
    have b := empty_size h2.1.2
    have c := empty_size h2.2
    omega
  · rw [if_neg hk] at h2
    simp only [Bool.and_eq_true, decide_eq_true_eq] at h2
    have a := isNm_size h2.1.1.1
    have b := empty_size h2.1.2
    have c := h2.1.1.2
    omega

theorem keysGo_all : ∀ (l : List ByteArray) (a : ByteArray), keysGo a l = 0 → ∀ k ∈ l, isKy k = true
  | [], _, _ => by simp
  | k :: r, a, h => by
    rw [keysGo] at h
    by_cases h1 : isKy k = false
    · rw [if_pos h1] at h; omega
    rw [if_neg h1] at h
    by_cases h2 : (Op.bytesLess k.toList a.toList || k.toList == a.toList) = true
    · rw [if_pos h2] at h; omega
    rw [if_neg h2] at h
    intro x hx
    rw [List.mem_cons] at hx
    rcases hx with rfl | hx
    · simpa using h1
    · exact keysGo_all r k h x hx

theorem keys_sizes {l : List ByteArray} (h : keysL l = 0) : l.length ≤ 8 ∧ ∀ k ∈ l, isKy k = true := by
  have h8 := keysL_le l h
  unfold keysL at h
  rw [if_neg (by omega)] at h
  exact ⟨h8, keysGo_all l _ h⟩

theorem txt_le (l : List UInt8) : (txt l).length ≤ 9 + l.length := by
  have := goInt_length l.length
  rw [txt, List.length_append]
  omega

theorem flat_le : ∀ (l : List ByteArray), (∀ k ∈ l, k.size ≤ 34) → ((bl l).flatMap txt).length ≤ 43 * l.length
  | [], _ => by simp [bl]
  | k :: r, h => by
    have h1 := flat_le r (fun x hx => h x (by simp [hx]))
    have h2 := txt_le k.data.toList
    have h3 := h k (by simp)
    have h4 : k.data.toList.length = k.size := by simp
    simp only [bl, List.map_cons, List.flatMap_cons, List.length_append, List.length_cons]
    simp only [bl] at h1
    omega

theorem lst_le {l : List ByteArray} (h : keysL l = 0) : (lst (bl l)).length ≤ 353 := by
  obtain ⟨h8, hk⟩ := keys_sizes h
  have h1 := flat_le l (fun k hk' => isKy_size (hk k hk'))
  have h2 := goInt_length (bl l).length
  rw [lst, List.length_append]
  omega
end Go.Proofs.YtaoiejgbbmjpkaaGreatDoor

/- What Needs, slices.Contains and Fits do; nothing old in memory is turned. -/
namespace Go.Proofs.YtaoiejgbbmjpkaaGreatDoor
open Go.RowKit
set_option linter.unusedVariables false



/-- A row of strings is handed back. -/
def GotStrs (W : World) (l : List ByteArray) (e : Ending) (w : World) : Prop :=
  ∃ ao, e = .returned (.slice ao l.length l.length) ∧ StrsAt w ao l ∧ Below W.heap.size W w
end Go.Proofs.YtaoiejgbbmjpkaaGreatDoor

/- What tusklaw04.Own, pay and works do; nothing old in memory is turned. -/
namespace Go.Proofs.YtaoiejgbbmjpkaaGreatDoor
open Go.RowKit
set_option linter.unusedVariables false

theorem infoTx : (Tryz.prog.info? 86).map (·.size) = some 9 := by kernel_rfl

def zeroC : List Value := [.int .i64 0, .string ⟨#[]⟩, .string ⟨#[]⟩, .int .u64 0, .int .u64 0, .string ⟨#[]⟩, .string ⟨#[]⟩, .slice none 0 0, .slice none 0 0]

theorem results_tx {fn : Func} {p : Tmp} (h : fn.results = #[.cell p 86]) (tmps : Array Value) (w : World) (g : Nat) (t : TypeId) (d : TxD) (ra : Option Addr) (rc : Nat) (wa : Option Addr) (wc : Nat)
    (hp : tmps.getD p undef = .pointer (some ⟨g, 0, none⟩)) (hg : Arr w g t (txC d ra rc wa wc)) :
    (results fn tmps).run Tryz.prog w = .ok (txV d ra rc wa wc) w :=
  results_cell_row h tmps w g t (txC d ra rc wa wc).toArray (0, 0) _ hp hg Tryz.underlying86 rfl infoTx

/-- Nine cells are written anew. -/
def set9 (w : World) (g : Nat) (v0 v1 v2 v3 v4 v5 v6 v7 v8 : Value) : World :=
  ((((((((w.setCell ⟨g, 0, none⟩ v0).setCell ⟨g, 1, none⟩ v1).setCell ⟨g, 2, none⟩ v2).setCell ⟨g, 3, none⟩ v3).setCell ⟨g, 4, none⟩ v4).setCell ⟨g, 5, none⟩ v5).setCell ⟨g, 6, none⟩ v6).setCell ⟨g, 7, none⟩ v7).setCell ⟨g, 8, none⟩ v8

theorem Arr.set9 {w : World} {g : Nat} {t : TypeId} {a0 a1 a2 a3 a4 a5 a6 a7 a8 : Value} (h : Arr w g t [a0, a1, a2, a3, a4, a5, a6, a7, a8]) (v0 v1 v2 v3 v4 v5 v6 v7 v8 : Value) :
    Arr (Proofs.YtaoiejgbbmjpkaaGreatDoor.set9 w g v0 v1 v2 v3 v4 v5 v6 v7 v8) g t [v0, v1, v2, v3, v4, v5, v6, v7, v8] :=
  ((((((((h.set 0 v0).set 1 v1).set 2 v2).set 3 v3).set 4 v4).set 5 v5).set 6 v6).set 7 v7).set 8 v8

theorem below_set9 {B : Nat} {w w' : World} (h : Below B w w') {g : Nat} (hg : B ≤ g) (v0 v1 v2 v3 v4 v5 v6 v7 v8 : Value) : Below B w (set9 w' g v0 v1 v2 v3 v4 v5 v6 v7 v8) :=
  ((((((((h.setCell (p := ⟨g, 0, none⟩) hg v0).setCell (p := ⟨g, 1, none⟩) hg v1).setCell (p := ⟨g, 2, none⟩) hg v2).setCell (p := ⟨g, 3, none⟩) hg v3).setCell (p := ⟨g, 4, none⟩) hg v4).setCell (p := ⟨g, 5, none⟩) hg v5).setCell (p := ⟨g, 6, none⟩) hg v6).setCell (p := ⟨g, 7, none⟩) hg v7).setCell (p := ⟨g, 8, none⟩) hg v8

theorem OwnStrs.set9 {base : Nat} {w : World} {ao : Option Addr} {ss : List ByteArray} (h : OwnStrs base w ao ss) {g : Nat} (hg : g < base) (v0 v1 v2 v3 v4 v5 v6 v7 v8 : Value) : OwnStrs base (Proofs.YtaoiejgbbmjpkaaGreatDoor.set9 w g v0 v1 v2 v3 v4 v5 v6 v7 v8) ao ss :=
  ((((((((h.put (p := ⟨g, 0, none⟩) hg v0).put (p := ⟨g, 1, none⟩) hg v1).put (p := ⟨g, 2, none⟩) hg v2).put (p := ⟨g, 3, none⟩) hg v3).put (p := ⟨g, 4, none⟩) hg v4).put (p := ⟨g, 5, none⟩) hg v5).put (p := ⟨g, 6, none⟩) hg v6).put (p := ⟨g, 7, none⟩) hg v7).put (p := ⟨g, 8, none⟩) hg v8

/-- A transaction is handed back. -/
def GotTx (W : World) (d : TxD) (e : Ending) (w : World) : Prop :=
  ∃ ra rc wa wc, e = .returned (txV d ra rc wa wc) ∧ TxAt w d ra wa ∧ (ra = none → rc = 0) ∧ (wa = none → wc = 0) ∧ Below W.heap.size W w

def payD : TxD := ⟨1, ⟨#[97, 98]⟩, ⟨#[99]⟩, 5, 1, ⟨#[]⟩, ⟨#[]⟩, [], [⟨#[97, 58, 97, 98]⟩, ⟨#[97, 58, 99]⟩]⟩
end Go.Proofs.YtaoiejgbbmjpkaaGreatDoor

/- Rows of transactions in memory; how one that came in is opened. -/
namespace Go.Proofs.YtaoiejgbbmjpkaaGreatDoor
open Go.ChangeShapes Go.WideShapes Go.ChangeAt Go.RowKit Go.Joins Go.Deep
set_option linter.unusedVariables false

/-- A transaction as it lies in memory: its data, and where its lists lie. -/
structure TxM where
  d : TxD
  ra : Option Addr
  rc : Nat
  wa : Option Addr
  wc : Nat

def TxM.c (x : TxM) : List Value := txC x.d x.ra x.rc x.wa x.wc
def TxM.v (x : TxM) : Value := txV x.d x.ra x.rc x.wa x.wc

theorem TxM.c_length (x : TxM) : x.c.length = 9 := rfl

/-- Its lists lie in memory, and nil is nil. -/
structure TxM.At (x : TxM) (w : World) : Prop where
  at_ : TxAt w x.d x.ra x.wa
  nr : x.ra = none → x.rc = 0
  nw : x.wa = none → x.wc = 0

theorem TxM.At.below {x : TxM} {w w' : World} (h : x.At w) (hb : Below w.heap.size w w') : x.At w' := ⟨h.at_.below hb, h.nr, h.nw⟩

def flatX (l : List TxM) : List Value := l.flatMap TxM.c

theorem flatX_append (l m : List TxM) : flatX (l ++ m) = flatX l ++ flatX m := by simp [flatX]

theorem flatX_get : ∀ (l : List TxM) (i : Nat) (x : TxM), l[i]? = some x → ∀ j, j < 9 → (flatX l)[i * 9 + j]? = x.c[j]?
  | [], _, _, h, _, _ => by simp at h
  | y :: r, 0, x, h, j, hj => by
    simp at h
    subst h
    have e : flatX (y :: r) = y.c ++ flatX r := by simp [flatX]
    rw [e, List.getElem?_append_left (by rw [TxM.c_length]; omega), Nat.zero_mul, Nat.zero_add]
  | y :: r, i + 1, x, h, j, hj => by
    have h' : r[i]? = some x := by simpa using h
    have ih := flatX_get r i x h' j hj
    have e : flatX (y :: r) = y.c ++ flatX r := by simp [flatX]
    rw [e, List.getElem?_append_right (by rw [TxM.c_length]; omega), TxM.c_length]
    have : (i + 1) * 9 + j - 9 = i * 9 + j := by omega
    rw [this]
    exact ih

theorem flatX_one (l : List TxM) : ∀ u ∈ flatX l, u.oneCell' = true := by
  intro u hu
  obtain ⟨x, _, hx⟩ := List.mem_flatMap.1 hu
  simp only [TxM.c, txC, List.mem_cons, List.not_mem_nil, or_false] at hx
  rcases hx with rfl | rfl | rfl | rfl | rfl | rfl | rfl | rfl | rfl <;> rfl

/-- A row of transactions lies at an address. -/
def TxsAt (w : World) (ao : Option Addr) (l : List TxM) : Prop :=
  ∀ i x, l[i]? = some x → (∃ b off, ao = some ⟨b, off, none⟩ ∧ b < w.heap.size ∧ ∀ j v, x.c[j]? = some v → w.cell? ⟨b, off + i * 9 + j, none⟩ = some v) ∧ x.At w

theorem TxsAt.below {w w' : World} {ao : Option Addr} {l : List TxM} (h : TxsAt w ao l) (hb : Below w.heap.size w w') : TxsAt w' ao l := by
  intro i x hx
  obtain ⟨⟨b, off, h1, h2, h3⟩, h4⟩ := h i x hx
  exact ⟨⟨b, off, h1, Nat.lt_of_lt_of_le h2 hb.size, fun j v hv => by rw [hb.cell (p := ⟨b, off + i * 9 + j, none⟩) h2]; exact h3 j v hv⟩, h4.below hb⟩

/-- The nine cells of one of them. -/
theorem TxsAt.cells {w : World} {ao : Option Addr} {l : List TxM} (h : TxsAt w ao l) {i : Nat} {x : TxM} (hx : l[i]? = some x) :
    ∃ b off, ao = some ⟨b, off, none⟩ ∧ b < w.heap.size ∧ w.cell? ⟨b, off + i * 9, none⟩ = some (.int .i64 x.d.kind) ∧ w.cell? ⟨b, off + i * 9 + 1, none⟩ = some (.string x.d.frm) ∧ w.cell? ⟨b, off + i * 9 + 2, none⟩ = some (.string x.d.to) ∧ w.cell? ⟨b, off + i * 9 + 3, none⟩ = some (.int .u64 (x.d.amt : Int)) ∧ w.cell? ⟨b, off + i * 9 + 4, none⟩ = some (.int .u64 (x.d.non : Int)) ∧
      w.cell? ⟨b, off + i * 9 + 5, none⟩ = some (.string x.d.key) ∧ w.cell? ⟨b, off + i * 9 + 6, none⟩ = some (.string x.d.val) ∧ w.cell? ⟨b, off + i * 9 + 7, none⟩ = some (.slice x.ra x.d.rs.length x.rc) ∧ w.cell? ⟨b, off + i * 9 + 8, none⟩ = some (.slice x.wa x.d.ws.length x.wc) := by
  obtain ⟨⟨b, off, h1, h2, h3⟩, _⟩ := h i x hx
  exact ⟨b, off, h1, h2, h3 0 _ rfl, h3 1 _ rfl, h3 2 _ rfl, h3 3 _ rfl, h3 4 _ rfl, h3 5 _ rfl, h3 6 _ rfl, h3 7 _ rfl, h3 8 _ rfl⟩

theorem nil_txs (w : World) (ao : Option Addr) : TxsAt w ao [] := fun i x hx => by simp at hx

set_option maxRecDepth 100000 in
/-- A transaction's nine cells, opened. -/
theorem open_tx_cells {H : Type} {enc : TypeId × Value → H} {W : World} {fuel : Nat} {cs : List Value} {y : DataW H × List MemPlace}
    (hf : DataW.trod enc Tryz.prog W 0 (fun _ => true) true fuel 86 cs = some y) :
    ∃ x : TxM, cs = x.c ∧ x.At W ∧ TxSizes x.d ∧ TxDatum y.1 x.d := by
  obtain ⟨xs, n, _, hx, hcl, hl, hg⟩ := DataW.trod_struct Tryz.underlying86 hf
  obtain ⟨c0, c1, c2, c3, c4, c5, c6, c7, c8, rfl⟩ := list9 (hcl.trans cellsTx)
  obtain ⟨y0, y1, y2, y3, y4, y5, y6, y7, y8, rfl⟩ := list9 hl
  have g0 := hg 0 _ rfl
  have g1 := hg 1 _ rfl
  have g2 := hg 2 _ rfl
  have g3 := hg 3 _ rfl
  have g4 := hg 4 _ rfl
  have g5 := hg 5 _ rfl
  have g6 := hg 6 _ rfl
  have g7 := hg 7 _ rfl
  have g8 := hg 8 _ rfl
  have kI : Tryz.prog.cellsOf 3 = 1 := by kernel_rfl
  have kU : Tryz.prog.cellsOf 84 = 1 := by kernel_rfl
  have kS : Tryz.prog.cellsOf 28 = 1 := by kernel_rfl
  simp [cellsString, kI, kU, kS] at g0 g1 g2 g3 g4 g5 g6 g7 g8
  obtain ⟨a0, e0, _, _⟩ := DataW.trod_int Tryz.underlying3 g0
  obtain ⟨a1, e1, _, s1⟩ := DataW.trod_string Tryz.underlying9 g1
  obtain ⟨a2, e2, _, s2⟩ := DataW.trod_string Tryz.underlying9 g2
  obtain ⟨a3, e3, _, u3⟩ := DataW.trod_int Tryz.underlying84 g3
  obtain ⟨a4, e4, _, u4⟩ := DataW.trod_int Tryz.underlying84 g4
  obtain ⟨a5, e5, _, s5⟩ := DataW.trod_string Tryz.underlying9 g5
  obtain ⟨a6, e6, _, s6⟩ := DataW.trod_string Tryz.underlying9 g6
  obtain ⟨ra, rl, rc, e7⟩ := slice_form Tryz.underlying28 g7
  obtain ⟨wa, wl, wc, e8⟩ := slice_form Tryz.underlying28 g8
  simp at e0 e1 e2 e3 e4 e5 e6 e7 e8
  subst e0 e1 e2 e3 e4 e5 e6 e7 e8
  have t7 : DataW.Trod enc Tryz.prog W 0 (fun _ => true) true 28 (.slice ra rl rc) y7.1 y7.2 := ⟨n, by simpa [Value.cells] using g7⟩
  have t8 : DataW.Trod enc Tryz.prog W 0 (fun _ => true) true 28 (.slice wa wl wc) y8.1 y8.2 := ⟨n, by simpa [Value.cells] using g8⟩
  obtain ⟨rs, rfl, r1, r2, r3⟩ := strs_open t7
  obtain ⟨ws, rfl, w1, w2, w3⟩ := strs_open t8
  obtain ⟨m3, rfl⟩ := Int.eq_ofNat_of_zero_le (wf_u64 u3).1
  obtain ⟨m4, rfl⟩ := Int.eq_ofNat_of_zero_le (wf_u64 u4).1
  refine ⟨⟨⟨a0, a1, a2, m3, m4, a5, a6, rs, ws⟩, ra, rc, wa, wc⟩, rfl, ⟨⟨r1, w1⟩, strs_cap t7, strs_cap t8⟩, ⟨s1, s2, s5, s6, r2, w2⟩, y0.1, y1.1, y2.1, y3.1, y4.1, y5.1, y6.1, y7.1, y8.1, ?_, r3, w3⟩
  have := congrArg Prod.fst hx
  simpa using this

theorem StrsAt.kept {S : Nat → Prop} {w w' : World} {ao : Option Addr} {ss : List ByteArray} (h : StrsAt w ao ss) (hk : Kept S w w') (hn : ∀ b off, ao = some ⟨b, off, none⟩ → 0 < ss.length → ¬ S b) : StrsAt w' ao ss := by
  intro j hj
  obtain ⟨b, off, h1, h2, h3⟩ := h j hj
  exact ⟨b, off, h1, Nat.lt_of_lt_of_le h2 hk.size, by rw [hk.cell (p := ⟨b, off + j, none⟩) h2 (hn b off h1 (by omega))]; exact h3⟩

/-- Its lists lie outside the blocks of S. -/
structure TxM.Off (x : TxM) (S : Nat → Prop) : Prop where
  r : ∀ b off, x.ra = some ⟨b, off, none⟩ → 0 < x.d.rs.length → ¬ S b
  w : ∀ b off, x.wa = some ⟨b, off, none⟩ → 0 < x.d.ws.length → ¬ S b

theorem TxM.At.kept {x : TxM} {S : Nat → Prop} {w w' : World} (h : x.At w) (hk : Kept S w w') (ho : x.Off S) : x.At w' :=
  ⟨⟨h.at_.rd.kept hk ho.r, h.at_.wr.kept hk ho.w⟩, h.nr, h.nw⟩

theorem TxM.Off.mono {x : TxM} {S T : Nat → Prop} (h : x.Off T) (hs : ∀ k, S k → T k) : x.Off S :=
  ⟨fun b off e hl hk => h.r b off e hl (hs b hk), fun b off e hl hk => h.w b off e hl (hs b hk)⟩

/-- A row of the call's own that holds transactions. -/
theorem QRow.txs {w : World} {base : Nat} {ao : Option Addr} {n cap : Nat} {l : List TxM} (h : QRow w base 86 9 (.slice ao n cap) n (flatX l)) (hn : n = l.length) (hA : ∀ x ∈ l, x.At w) : TxsAt w ao l := by
  intro i x hx
  have hi := (List.getElem?_eq_some_iff.1 hx).1
  refine ⟨?_, hA x (List.mem_of_getElem? hx)⟩
  obtain ⟨g, off, cap', hv, hb, hlt, hc⟩ := h.cells (by omega)
  simp only [Value.slice.injEq, true_and] at hv
  refine ⟨g, off, hv.1, hlt, fun j v hj => ?_⟩
  have hj9 : j < 9 := by
    have := (List.getElem?_eq_some_iff.1 hj).1
    rw [TxM.c_length] at this
    exact this
  have := hc (i * 9 + j) v (by rw [flatX_get l i x hx j hj9]; exact hj)
  rw [← Nat.add_assoc] at this
  exact this
end Go.Proofs.YtaoiejgbbmjpkaaGreatDoor

/- A sealer's mathematics: what is added, what a tick seals, and that all is sealed in the end. -/
namespace Go.Proofs.YtaoiejgbbmjpkaaGreatDoor
set_option linter.unusedVariables false

/-- A sealer: what waits, how long, the last number. -/
structure Seal (α : Type) where
  size : Nat
  wait : Nat
  l : List α
  ticks : Nat
  number : Nat

/-- One more, if there is room. -/
def Seal.add {α : Type} (s : Seal α) (x : α) : Seal α := if 4 * s.size ≤ s.l.length then s else { s with l := s.l ++ [x] }

/-- Does a tick seal? -/
def Seal.seals {α : Type} (s : Seal α) : Bool := !s.l.isEmpty && !(decide (s.l.length < s.size) && decide (s.ticks + 1 < s.wait))

/-- What a tick seals. -/
def Seal.out {α : Type} (s : Seal α) : List α := if s.seals = true then s.l.take s.size else []

/-- A tick. -/
def Seal.tick {α : Type} (s : Seal α) : Seal α :=
  if s.l = [] then s else if s.seals = true then { s with l := s.l.drop s.size, ticks := 0, number := s.number + 1 } else { s with ticks := s.ticks + 1 }

/-- What holds of a sealer at all times. -/
structure Seal.Ok {α : Type} (s : Seal α) : Prop where
  size1 : 1 ≤ s.size
  size16 : s.size ≤ 16
  wait1 : 1 ≤ s.wait
  wait1000 : s.wait ≤ 1000
  room : s.l.length ≤ 4 * s.size
  less : s.ticks < s.wait
  still : s.l = [] → s.ticks = 0

/-- How many ticks more there can be till nothing waits. -/
def Seal.rank {α : Type} (s : Seal α) : Nat := s.l.length * s.wait - s.ticks
end Go.Proofs.YtaoiejgbbmjpkaaGreatDoor

/- A sealer in memory: its box, and the row of what waits. -/
namespace Go.Proofs.YtaoiejgbbmjpkaaGreatDoor
open Go.RowKit
set_option linter.unusedVariables false

theorem TxM.At.off_ge {x : TxM} {w : World} (h : x.At w) {S : Nat → Prop} (hS : ∀ k, S k → w.heap.size ≤ k) : x.Off S := by
  refine ⟨fun b off e hl hk => ?_, fun b off e hl hk => ?_⟩
  · obtain ⟨b', off', e', h2, _⟩ := h.at_.rd 0 hl
    rw [e] at e'
    simp at e'
    have := hS b hk
    omega
  · obtain ⟨b', off', e', h2, _⟩ := h.at_.wr 0 hl
    rw [e] at e'
    simp at e'
    have := hS b hk
    omega

/-- Two sets of blocks that a list keeps off, where the second has new blocks alone behind the first. -/
theorem TxM.At.off_grow {x : TxM} {w : World} (h : x.At w) {S T : Nat → Prop} (ho : x.Off S) (hT : ∀ k, T k → S k ∨ w.heap.size ≤ k) : x.Off T := by
  have h2 := h.off_ge (S := fun k => w.heap.size ≤ k) (fun k hk => hk)
  exact ⟨fun b off e hl hk => (hT b hk).elim (ho.r b off e hl) (h2.r b off e hl), fun b off e hl hk => (hT b hk).elim (ho.w b off e hl) (h2.w b off e hl)⟩

/-- The blocks that a sealer turns: its box, and its row's. -/
def SlB (p : Nat) (q : Value) : Nat → Prop := fun k => k = p ∨ q.ownBlock = some k

/-- A sealer: its box is block p, its row is q. -/
structure SlAt (T : TypeId) (w : World) (base p : Nat) (q : Value) (au : Int) (s : Seal TxM) : Prop where
  box : Arr w p T [.int .i64 au, .int .i64 (s.size : Int), .int .i64 (s.wait : Int), q, .int .i64 (s.ticks : Int), .int .i64 (s.number : Int)]
  row : QRow w base 86 9 q s.l.length (flatX s.l)
  at_ : ∀ x ∈ s.l, x.At w
  off : ∀ x ∈ s.l, x.Off (SlB p q)
  bp : base ≤ p
  ne : q.ownBlock ≠ some p
  lt : ∀ k, q.ownBlock = some k → k < w.heap.size
  lb : ∀ k, q.ownBlock = some k → base ≤ k

/-- A batch as a value. -/
def batV (a n : Int) (ao : Option Addr) (len cap : Nat) : Value := .agg #[.int .i64 a, .int .i64 n, .slice ao len cap]
end Go.Proofs.YtaoiejgbbmjpkaaGreatDoor

/- Keys and their front; lists of one key; what a right transaction needs. -/
namespace Go.Proofs.YtaoiejgbbmjpkaaGreatDoor
open Go.RowKit
set_option linter.unusedVariables false

theorem ky_above {k : ByteArray} (h : isKy k = true) : (Op.bytesLess k.toList (⟨#[]⟩ : ByteArray).toList || k.toList == (⟨#[]⟩ : ByteArray).toList) = false := by
  have hs : 1 ≤ k.size := by
    unfold isKy at h
    rw [Bool.and_eq_true] at h
    have h2 := h.2
    unfold isNm at h2
    simp only [Bool.and_eq_true, decide_eq_true_eq, ByteArray.size_extract] at h2
    omega
  have hl : k.data.toList.length = k.size := by simp
  rw [ByteArray.toList_eq, ByteArray.toList_eq]
  cases hd : k.data.toList with
  | nil => rw [hd] at hl; simp at hl; omega
  | cons x r => simp [Op.bytesLess]
end Go.Proofs.YtaoiejgbbmjpkaaGreatDoor

/- A transaction out of bytes, field by field; both ways round. -/
namespace Go.Proofs.YtaoiejgbbmjpkaaGreatDoor
open Go.RowKit
set_option linter.unusedVariables false

def bindI (l : List UInt8) (f : Nat → List UInt8 → TxD × Nat) : TxD × Nat := if (getInt l).2.2 ≠ 0 then (.none, (getInt l).2.2) else f (getInt l).1 (l.drop (getInt l).2.1)
def bindT (l : List UInt8) (f : List UInt8 → List UInt8 → TxD × Nat) : TxD × Nat := if (getText l).2.2 ≠ 0 then (.none, (getText l).2.2) else f (getText l).1 (l.drop (getText l).2.1)
def bindL (l : List UInt8) (f : List (List UInt8) → List UInt8 → TxD × Nat) : TxD × Nat := if (getList l 8).2.2 ≠ 0 then (.none, (getList l 8).2.2) else f (getList l 8).1 (l.drop (getList l 8).2.1)

def finTx (d : TxD) (l : List UInt8) : TxD × Nat :=
  if 2 < d.kind then (.none, 2) else if l ≠ [] then (.none, 6) else if checkL d ≠ 0 then (.none, checkL d) else (d, 0)

/-- A transaction out of bytes, or the first error. -/
def decL (l : List UInt8) : TxD × Nat :=
  bindI l fun kd l => bindT l fun fr l => bindT l fun to l => bindI l fun am l => bindI l fun no l => bindT l fun ky l => bindT l fun vl l => bindL l fun rs l => bindL l fun ws l =>
    finTx ⟨kd, ⟨fr.toArray⟩, ⟨to.toArray⟩, am, no, ⟨ky.toArray⟩, ⟨vl.toArray⟩, mks rs, mks ws⟩ l
end Go.Proofs.YtaoiejgbbmjpkaaGreatDoor
