/- Texts as one: TxQueue, TxRowsOpen, BatFrame, TxRead, TxDecode, BatDecode. -/
import Derived.Test.YtaoiejgbbmjpkaaGreatDoorCk16
import Derived.Test.YtaoiejgbbmjpkaaGreatDoorCk06
import Derived.Test.YtaoiejgbbmjpkaaGreatDoorCk07
import Derived.Defers
import Derived.Recover
import Derived.RegionTactic
/- A row of transactions of the call's own, that is appended to. -/
namespace Go.Proofs.YtaoiejgbbmjpkaaGreatDoor
open Go.RowKit
set_option linter.unusedVariables false

/-- q is a row of the call's own that holds l. -/
structure TxQ (w : World) (base : Nat) (q : Value) (l : List TxM) : Prop where
  row : QRow w base 86 9 q l.length (flatX l)
  at_ : ∀ x ∈ l, x.At w
  off : ∀ x ∈ l, x.Off (fun k => q.ownBlock = some k)
  lt : ∀ k, q.ownBlock = some k → base ≤ k ∧ k < w.heap.size
  nil : ∀ n cap, q = .slice none n cap → cap = 0

theorem TxQ.empty (w : World) (base : Nat) : TxQ w base (.slice none 0 0) [] :=
  ⟨QRow.nil _ _ _ _ _, (fun x hx => by cases hx), (fun x hx => by cases hx), (fun k hk => by simp [Value.ownBlock] at hk), fun n cap e => by simp at e; exact e.2.symm⟩

theorem TxQ.kept {S : Nat → Prop} {w w' : World} {base : Nat} {q : Value} {l : List TxM} (h : TxQ w base q l) (hk : Kept S w w') (hq : ∀ k, q.ownBlock = some k → ¬ S k) (ho : ∀ x ∈ l, x.Off S) : TxQ w' base q l :=
  ⟨h.row.kept hk hq, fun x hx => (h.at_ x hx).kept hk (ho x hx), h.off, fun k hq => ⟨(h.lt k hq).1, Nat.lt_of_lt_of_le (h.lt k hq).2 hk.size⟩, h.nil⟩

theorem TxQ.below {w w' : World} {base : Nat} {q : Value} {l : List TxM} (h : TxQ w base q l) (hb : Below w.heap.size w w') : TxQ w' base q l :=
  h.kept (Kept.of_below (S := fun _ => False) hb) (fun _ _ h => h) (fun x _ => ⟨fun _ _ _ _ h => h, fun _ _ _ _ h => h⟩)

theorem TxQ.form {w : World} {base : Nat} {q : Value} {l : List TxM} (h : TxQ w base q l) : ∃ ao cap, q = .slice ao l.length cap ∧ (ao = none → cap = 0) ∧ TxsAt w ao l := by
  obtain ⟨ao, cap, rfl, _, _⟩ := h.row.form
  exact ⟨ao, cap, rfl, fun e => h.nil _ _ (by rw [e]), h.row.txs rfl h.at_⟩

/-- More is appended. -/
theorem TxQ.push {w w' : World} {base : Nat} {q q' : Value} {l m : List TxM} (h : TxQ w base q l) (hm : ∀ x ∈ m, x.At w) (hmo : ∀ x ∈ m, x.Off (fun k => q.ownBlock = some k)) (h0 : 0 < m.length)
    (hrow : QRow w' base 86 9 q' (l.length + m.length) (flatX l ++ flatX m)) (hgr : w.grownBy w' q.ownBlock) (hfr : ∀ g, q'.ownBlock = some g → q.ownBlock = some g ∨ w.heap.size ≤ g) : TxQ w' base q' (l ++ m) := by
  have k6 := Kept.of_grown hgr
  refine ⟨by rw [List.length_append, flatX_append]; exact hrow, ?_, ?_, ?_, ?_⟩
  · intro x hx
    rw [List.mem_append] at hx
    rcases hx with hx | hx
    · exact (h.at_ x hx).kept k6 (h.off x hx)
    · exact (hm x hx).kept k6 (hmo x hx)
  · intro x hx
    rw [List.mem_append] at hx
    rcases hx with hx | hx
    · exact (h.at_ x hx).off_grow (h.off x hx) hfr
    · exact (hm x hx).off_grow (hmo x hx) hfr
  · intro k hk
    rcases hrow.lt with hl | ⟨g, hg, hb, hl⟩
    · omega
    · rw [hk] at hg
      simp at hg
      subst hg
      exact ⟨hb, hl⟩
  · intro n cap e
    rcases hrow.2 with ⟨ao, hv, hn⟩ | ⟨g, pre, post, c, hv, _⟩
    · omega
    · rw [hv] at e
      cases e

/-- Lists in new memory keep off what is older. -/
theorem off_own {x : TxM} {b : Nat} {w : World} (h1 : OwnStrs b w x.ra x.d.rs) (h2 : OwnStrs b w x.wa x.d.ws) {S : Nat → Prop} (hS : ∀ k, S k → k < b) : x.Off S := by
  refine ⟨fun bb off e hl hk => ?_, fun bb off e hl hk => ?_⟩
  · obtain ⟨b', off', e', h3, _⟩ := h1 0 hl
    rw [e] at e'
    simp at e'
    have := hS bb hk
    omega
  · obtain ⟨b', off', e', h3, _⟩ := h2 0 hl
    rw [e] at e'
    simp at e'
    have := hS bb hk
    omega

theorem infoTx4 : (Tryz.prog.info? 86).map (fun i => (i.zero, i.size, i.bytes)) = some (some (.agg #[.int .i64 0, .string ⟨#[]⟩, .string ⟨#[]⟩, .int .u64 0, .int .u64 0, .string ⟨#[]⟩, .string ⟨#[]⟩, .slice none 0 0, .slice none 0 0]), 9, 136) := by kernel_rfl

theorem c_one (x : TxM) : ∀ u ∈ x.c, u.oneCell' = true := by
  have := flatX_one [x]
  simpa [flatX] using this

theorem flatX_single (x : TxM) : flatX [x] = x.c := by simp [flatX]

theorem new_c (w : World) (x : TxM) : ∀ j u, x.c[j]? = some u → (w.alloc (.cells x.c.toArray 86)).cell? ((⟨w.heap.size, 0, none⟩ : Addr).add j) = some u := by
  intro j u hu
  rw [Go.WideShapes.add_plain, Nat.zero_add]
  exact (Arr.new w 86 x.c).cell hu
end Go.Proofs.YtaoiejgbbmjpkaaGreatDoor

/- How a row of transactions that came in is opened. (Laid only where the dump has []api.Tx: not yet built.) -/
namespace Go.Proofs.YtaoiejgbbmjpkaaGreatDoor
open Go.ChangeShapes Go.WideShapes Go.ChangeAt Go.RowKit Go.Joins Go.Deep
set_option linter.unusedVariables false

/-- How a row of transactions reads. -/
def TxsDatum {H : Type} (d : DataW H) (l : List TxM) : Prop :=
  (d = .nil ∧ l = []) ∨ ∃ (ds rest : List (DataW H)), d = .slice ds rest ∧ ds.length = l.length ∧ ∀ (i : Nat) (y : DataW H) (x : TxM), ds[i]? = some y → l[i]? = some x → TxDatum y x.d

set_option maxRecDepth 100000 in
/-- A row of transactions that came in. -/
theorem open_txs {H : Type} {enc : TypeId × Value → H} {W : World} {fuel : Nat} {a : Option Addr} {len cap : Nat} {y : DataW H × List MemPlace}
    (hf : DataW.trod enc Tryz.prog W 0 (fun _ => true) true fuel 24 [.slice a len cap] = some y) :
    ∃ l : List TxM, l.length = len ∧ TxsAt W a l ∧ (∀ x ∈ l, TxSizes x.d) ∧ (a = none → cap = 0) ∧ len ≤ maxLen ∧ TxsDatum y.1 l := by
  rcases open_slice Tryz.underlying24 hf with ⟨hcs, hx⟩ | ⟨x, l, c, m, n, D, Pl, hcs, _, hl, hm, hmm, hx, hc⟩
  · simp at hcs
    obtain ⟨rfl, rfl, rfl⟩ := hcs
    exact ⟨[], rfl, nil_txs _ _, by simp, fun _ => rfl, Nat.zero_le _, Or.inl ⟨by rw [hx], rfl⟩⟩
  · simp at hcs
    obtain ⟨rfl, rfl, rfl⟩ := hcs
    simp at hmm
    subst hmm
    have hall : ∀ i : Nat, ∃ q : TxM, i < len → (∀ j v, q.c[j]? = some v → W.cell? (x.add (i * 9 + j)) = some v) ∧ q.At W ∧ TxSizes q.d ∧ TxDatum (D i) q.d := by
      intro i
      by_cases hi : i < len
      · obtain ⟨cs', h1, h2⟩ := hc i (by omega)
        rw [cellsTx] at h1
        obtain ⟨_, hlen, hcell⟩ := World.cells?_some h1
        obtain ⟨q, rfl, q2, q3, q4⟩ := open_tx_cells h2
        refine ⟨q, fun _ => ⟨fun j v hv => ?_, q2, q3, q4⟩⟩
        have hj : j < q.c.length := (List.getElem?_eq_some_iff.1 hv).1
        have := hcell j (by rw [TxM.c_length] at hj; exact hj)
        rw [add_add] at this
        rw [this, hv]
      · exact ⟨⟨.none, none, 0, none, 0⟩, fun h => absurd h hi⟩
    obtain ⟨Y, hY⟩ := Classical.axiomOfChoice hall
    refine ⟨(List.range len).map Y, by simp, ?_, ?_, (fun h => by cases h), by omega, Or.inr ⟨_, _, by rw [hx], by simp, ?_⟩⟩
    · intro i q hq
      have hi : i < len := by
        by_cases hi : i < len
        · exact hi
        · rw [List.getElem?_eq_none (by simp; omega)] at hq
          cases hq
      obtain rfl : Y i = q := by simpa [hi] using hq
      obtain ⟨c0, q2, _, _⟩ := hY i hi
      obtain ⟨b, off, spot⟩ := x
      have hz := (hY 0 (by omega)).1 0 _ rfl
      have hspot : spot = none := by simpa [Addr.add] using World.cell?_spot hz
      subst hspot
      have hb0 := c0 0 _ rfl
      rw [Go.WideShapes.add_plain] at hb0
      refine ⟨⟨b, off, rfl, World.block_lt_of_cell? W _ hb0, fun j v hv => ?_⟩, q2⟩
      have := c0 j v hv
      rw [Go.WideShapes.add_plain] at this
      rw [← this, Nat.add_assoc]
    · intro q hq
      obtain ⟨i, hi, rfl⟩ := List.mem_map.1 hq
      exact (hY i (by simpa using hi)).2.2.1
    · intro i y' q hy hq
      have hi : i < len := by
        by_cases hi : i < len
        · exact hi
        · rw [List.getElem?_eq_none (by simp; omega)] at hq
          cases hq
      obtain rfl : Y i = q := by simpa [hi] using hq
      obtain rfl : D i = y' := by simpa [hi] using hy
      exact (hY i hi).2.2.2
end Go.Proofs.YtaoiejgbbmjpkaaGreatDoor

/- How a batch, and a row of operations, that came in are opened; their sizes. -/
namespace Go.Proofs.YtaoiejgbbmjpkaaGreatDoor
open Go.ChangeShapes Go.WideShapes Go.ChangeAt Go.RowKit Go.Joins Go.Deep
set_option linter.unusedVariables false

theorem weightsAll_mem {H : Type} {P : Program} {e : TypeId} : ∀ {l : List (DataW H)} {d : DataW H}, d ∈ l → ∀ n ∈ d.weights P e, n ∈ DataW.weightsAll P e l
  | [], d, h, _, _ => by cases h
  | x :: r, d, h, n, hn => by
    rw [List.mem_cons] at h
    rw [DataW.weightsAll, List.mem_append]
    rcases h with rfl | h
    · exact Or.inl hn
    · exact Or.inr (weightsAll_mem h n hn)

theorem all_of_weights {H : Type} {P : Program} {ts : List TypeId} {ds : List (DataW H)} (h : (DataW.weightsEach P ts ds).all (· ≤ reachBytes) = true) {j : Nat} {t : TypeId} {d : DataW H} (ht : ts[j]? = some t) (hd : ds[j]? = some d) : ∀ n ∈ d.weights P t, n ≤ reachBytes :=
  fun n hn => by simpa using List.all_eq_true.1 h n (DataW.weights_mem_each ht hd n hn)

/-- Its lists are no longer than a machine holds. -/
def TxLens (D : TxD) : Prop := D.rs.length * 16 ≤ 140737488351232 ∧ D.ws.length * 16 ≤ 140737488351232

set_option maxRecDepth 100000 in
theorem tx_fit {H : Type} {d : DataW H} {D : TxD} (h : ∀ n ∈ d.weights Tryz.prog 86, n ≤ reachBytes) (hs : TxDatum d D) : TxLens D :=
  tx_sized (ts := [86]) (ds := [d]) (by rw [List.all_eq_true]; intro n hn; simp [DataW.weightsEach] at hn; simpa using h n hn) (j := 0) rfl rfl hs

theorem txs_fit {H : Type} {d : DataW H} {l : List TxM} (h : ∀ n ∈ d.weights Tryz.prog 24, n ≤ reachBytes) (hs : TxsDatum d l) : ∀ x ∈ l, TxLens x.d := by
  rcases hs with ⟨rfl, rfl⟩ | ⟨ds, rest, rfl, hl, hq⟩
  · simp
  · intro x hx
    obtain ⟨i, hi⟩ := List.getElem?_of_mem hx
    have hi' : i < ds.length := by have := (List.getElem?_eq_some_iff.1 hi).1; omega
    refine tx_fit (fun n hn => h n ?_) (hq i ds[i] x (List.getElem?_eq_getElem hi') hi)
    rw [DataW.weights, Tryz.underlying24]
    simp only [List.mem_cons, List.mem_append]
    exact Or.inr (Or.inl (weightsAll_mem (List.getElem_mem hi') n hn))

theorem array3 {α : Type} {cs : Array α} (h : cs.size = 3) : ∃ c0 c1 c2, cs = #[c0, c1, c2] := by
  obtain ⟨l⟩ := cs
  match l, h with
  | [c0, c1, c2], _ => exact ⟨c0, c1, c2, rfl⟩

theorem list3 {α : Type} {l : List α} (h : l.length = 3) : ∃ c0 c1 c2, l = [c0, c1, c2] := by
  match l, h with
  | [c0, c1, c2], _ => exact ⟨c0, c1, c2, rfl⟩

theorem list2 {α : Type} {l : List α} (h : l.length = 2) : ∃ c0 c1, l = [c0, c1] := by
  match l, h with
  | [c0, c1], _ => exact ⟨c0, c1, rfl⟩

theorem cellsBat : Tryz.prog.cellsOf 26 = 3 := by kernel_rfl

/-- How a batch reads. -/
def BatDatum {H : Type} (d : DataW H) (l : List TxM) : Prop := ∃ y0 y1 y2, d = .agg [y0, y1, y2] ∧ TxsDatum y2 l

set_option maxRecDepth 100000 in
theorem open_bat {H : Type} {enc : TypeId × Value → H} {W : World} {r : Reach} {b0 : Nat} {v : Value} {d : DataW H} {p : List MemPlace} (hv : Value.okWide Tryz.prog W r b0 26 v)
    (h : DataW.Trod enc Tryz.prog W 0 (fun _ => true) true 26 v d p) :
    ∃ (a n : Int) (ao : Option Addr) (l : List TxM) (cap : Nat), v = batV a n ao l.length cap ∧ TxsAt W ao l ∧ (∀ x ∈ l, TxSizes x.d) ∧ (ao = none → cap = 0) ∧ l.length ≤ maxLen ∧ (Lit.int .i64 a).wf = true ∧ (Lit.int .i64 n).wf = true ∧ BatDatum d l := by
  obtain ⟨cs, rfl, hsz⟩ := okWide_struct Tryz.underlying26 hv
  obtain ⟨c0, c1, c2, rfl⟩ := array3 (hsz.trans cellsBat)
  obtain ⟨fuel, hf⟩ := h
  obtain ⟨xs, n, _, hx, _, hl, hg⟩ := DataW.trod_struct Tryz.underlying26 hf
  obtain ⟨y0, y1, y2, rfl⟩ := list3 hl
  have g0 := hg 0 _ rfl
  have g1 := hg 1 _ rfl
  have g2 := hg 2 _ rfl
  have kI : Tryz.prog.cellsOf 3 = 1 := by kernel_rfl
  have kS : Tryz.prog.cellsOf 24 = 1 := by kernel_rfl
  simp [Value.cells, kI, kS] at g0 g1 g2
  obtain ⟨a0, e0, _, w0⟩ := DataW.trod_int Tryz.underlying3 g0
  obtain ⟨a1, e1, _, w1⟩ := DataW.trod_int Tryz.underlying3 g1
  obtain ⟨ao, len, cap, e2⟩ := slice_form Tryz.underlying24 g2
  simp at e0 e1 e2
  subst e0 e1 e2
  obtain ⟨l, rfl, l1, l2, l3, l4, l5⟩ := open_txs g2
  refine ⟨a0, a1, ao, l, cap, rfl, l1, l2, l3, l4, w0, w1, y0.1, y1.1, y2.1, ?_, l5⟩
  have := (Prod.mk.inj hx).1
  simpa using this

set_option maxRecDepth 100000 in
theorem bat_fit {H : Type} {d : DataW H} {l : List TxM} (h : ∀ n ∈ d.weights Tryz.prog 26, n ≤ reachBytes) (hs : BatDatum d l) : ∀ x ∈ l, TxLens x.d := by
  obtain ⟨y0, y1, y2, rfl, hq⟩ := hs
  refine txs_fit (fun n hn => h n ?_) hq
  rw [DataW.weights, Tryz.underlying26]
  exact DataW.weights_mem_each (ts := [3, 3, 24]) (j := 2) rfl rfl n hn

/-- A batch that came in: in sizes that a machine holds. -/
theorem bat_sized {H : Type} {ts : List TypeId} {ds : List (DataW H)} (h : (DataW.weightsEach Tryz.prog ts ds).all (· ≤ reachBytes) = true) {j : Nat} {d : DataW H} {l : List TxM} (ht : ts[j]? = some 26) (hd : ds[j]? = some d) (hs : BatDatum d l) : ∀ x ∈ l, TxLens x.d := bat_fit (all_of_weights h ht hd) hs
end Go.Proofs.YtaoiejgbbmjpkaaGreatDoor

/- What the reader's tx does: the transaction that the bytes are, or the first error, thrown. -/
namespace Go.Proofs.YtaoiejgbbmjpkaaGreatDoor
open Go.RowKit
set_option linter.unusedVariables false

/-- What the reader's tx hands back, or throws. -/
def Read (W : World) (rb : Nat) (r : TxD × Nat) (e : Ending) (w : World) : Prop :=
  (r.2 = 0 ∧ ∃ ra rc wa wc, e = .returned (txV r.1 ra rc wa wc) ∧ OwnStrs (rb + 1) w ra r.1.rs ∧ OwnStrs (rb + 1) w wa r.1.ws ∧ (ra = none → rc = 0) ∧ (wa = none → wc = 0) ∧ Below rb W w) ∨ (r.2 ≠ 0 ∧ e = .panicked (thrown r.2) ∧ Below rb W w)

theorem Read.err {W w : World} {rb er : Nat} {r : TxD × Nat} (h : r = (.none, er)) (he : er ≠ 0) (hb : Below rb W w) : Read W rb r (.panicked (thrown er)) w := by
  subst h
  exact Or.inr ⟨he, rfl, hb⟩

theorem rest_size (r : ByteArray) (k : Nat) (h : r.size ≤ maxLen) : (r.extract k r.size).size ≤ maxLen := by
  rw [ByteArray.size_extract]
  omega

theorem conv_u64 (n : Nat) (h : n ≤ 4611686018427387903) : (n : Int) ≤ 4611686018427387903 := by omega

set_option maxRecDepth 100000 in
set_option maxHeartbeats 4000000 in
theorem tx_any (s : ByteArray) (rb : Nat) (W : World) (hR : Arr W rb 204 [.string s]) (hs : s.size ≤ maxLen) :
    Calls Tryz.prog 153 #[.pointer (some ⟨rb, 0, none⟩)] W fun e w' => Read W rb (decL s.data.toList) e w' := by
  have hlt := hR.lt
  have hz1 := Arr.new W 86 zeroC
  have hz2 := Arr.new (W.alloc (.cells zeroC.toArray 86)) 86 zeroC
  rw [alloc_size] at hz2
  have st : RdSt W rb rb W.heap.size (W.heap.size + 1) (W.heap.size + 1 + 1) 204 [] ((W.alloc (.cells zeroC.toArray 86)).alloc (.cells zeroC.toArray 86)) [.string s] zeroC :=
    ⟨(hR.alloc _).alloc _, hz1.alloc _, hz2, by omega, by omega, by omega, by omega, by omega, by omega, by omega, by omega, by omega, by rw [alloc_size, alloc_size]; omega, (fun p hp => by cases hp),
      ((Below.refl rb W).alloc (Nat.le_of_lt hlt) _).alloc (by rw [alloc_size]; omega) _⟩
  clear hz1 hz2 hR
  have H0 : Hid (decL s.data.toList = _) := (rfl : decL s.data.toList = decL s.data.toList)
  obtain ⟨out, hout⟩ : ∃ out, out = decL s.data.toList := ⟨_, rfl⟩
  rw [← hout]
  unfold decL at hout
  have H : Hid (out = _) := hout
  clear hout H0
  have r0s : Hid (s.size ≤ maxLen) := hs
  clear hs
  go_enter Tryz.func153, Tryz.ntmps153
  rcases h0 : getInt s.data.toList with ⟨v0, k0, e0⟩
  by_cases z : e0 ≠ 0
  · have H1 : Hid (out = (.none, e0)) := (H.out.trans (bindI_err h0 z) : _ = _)
    have cE := number_err st r0s.out v0 k0 e0 h0 z
    have hb := st.bel
    clear h0 H st
    go_wp2_with fail
    refine cE.mono ?_
    rintro e w1 ⟨rfl, hw1⟩
    subst hw1
    clear cE
    go_wp2
    exact ⟨rfl, Read.err H1.out z hb⟩
  replace z : e0 = 0 := by omega
  subst z
  have bk := (getInt_bounds _ _ _ h0).1
  have cE := number_ok st r0s.out v0 k0 h0
  have hx := H.out.trans (bindI_ok h0)
  try dsimp only at hx
  rw [← extract_drop] at hx
  have r1s : Hid (((s.extract k0 s.size) : ByteArray).size ≤ maxLen) := rest_size s k0 r0s.out
  obtain ⟨r1, hr⟩ : ∃ q, q = s.extract k0 s.size := ⟨_, rfl⟩
  rw [← hr] at hx r1s
  replace H : Hid (out = _) := hx
  clear hx h0
  rw [← hr] at cE
  clear hr st r0s
  have n0 : (v0 : Int) ≤ 4611686018427387903 := by omega
  clear bk
  go_wp2_with fail
  refine cE.mono ?_
  rintro e w1 ⟨rfl, st⟩
  clear cE
  rcases h1 : getText r1.data.toList with ⟨v1, k1, e1⟩
  by_cases z : e1 ≠ 0
  · have H1 : Hid (out = (.none, e1)) := (H.out.trans (bindT_err h1 z) : _ = _)
    have cE := text_err st r1s.out v1 k1 e1 h1 z
    have hb := st.bel
    clear h1 H st
    go_wp2_with fail
    refine cE.mono ?_
    rintro e w1 ⟨rfl, hw1⟩
    subst hw1
    clear cE
    go_wp2
    exact ⟨rfl, Read.err H1.out z hb⟩
  replace z : e1 = 0 := by omega
  subst z
  have cE := text_ok st r1s.out v1 k1 h1
  have hx := H.out.trans (bindT_ok h1)
  try dsimp only at hx
  rw [← extract_drop] at hx
  have r2s : Hid (((r1.extract k1 r1.size) : ByteArray).size ≤ maxLen) := rest_size r1 k1 r1s.out
  obtain ⟨r2, hr⟩ : ∃ q, q = r1.extract k1 r1.size := ⟨_, rfl⟩
  rw [← hr] at hx r2s
  replace H : Hid (out = _) := hx
  clear hx h1
  rw [← hr] at cE
  clear hr st r1s
  have hx := H.out
  generalize (⟨v1.toArray⟩ : ByteArray) = b1 at cE hx
  replace H : Hid (out = _) := hx
  clear hx
  go_wp2_with fail
  refine cE.mono ?_
  rintro e w2 ⟨rfl, st⟩
  clear cE
  have y := st.tx.cell (i := 1) rfl
  have f := st.tx.frozen 1
  have st' := st.setT 1 (.string b1)
  obtain ⟨w3, hw⟩ : ∃ q, w2.setCell ⟨W.heap.size + 1, 1, none⟩ (.string b1) = q := ⟨_, rfl⟩
  rw [hw] at st'
  replace st' : RdSt W rb rb W.heap.size (W.heap.size + 1) (W.heap.size + 1 + 1) 204 [] w3 [.string r2] [.int .i64 0, .string b1, .string ⟨#[]⟩, .int .u64 0, .int .u64 0, .string ⟨#[]⟩, .string ⟨#[]⟩, .slice none 0 0, .slice none 0 0] := st'
  clear st
  have st := st'
  clear st'
  rcases h2 : getText r2.data.toList with ⟨v2, k2, e2⟩
  by_cases z : e2 ≠ 0
  · have H1 : Hid (out = (.none, e2)) := (H.out.trans (bindT_err h2 z) : _ = _)
    have cE := text_err st r2s.out v2 k2 e2 h2 z
    have hb := st.bel
    clear h2 H st
    go_wp2_with fail
    refine cE.mono ?_
    rintro e w1 ⟨rfl, hw1⟩
    subst hw1
    clear cE
    go_wp2
    exact ⟨rfl, Read.err H1.out z hb⟩
  replace z : e2 = 0 := by omega
  subst z
  have cE := text_ok st r2s.out v2 k2 h2
  have hx := H.out.trans (bindT_ok h2)
  try dsimp only at hx
  rw [← extract_drop] at hx
  have r3s : Hid (((r2.extract k2 r2.size) : ByteArray).size ≤ maxLen) := rest_size r2 k2 r2s.out
  obtain ⟨r3, hr⟩ : ∃ q, q = r2.extract k2 r2.size := ⟨_, rfl⟩
  rw [← hr] at hx r3s
  replace H : Hid (out = _) := hx
  clear hx h2
  rw [← hr] at cE
  clear hr st r2s
  have hx := H.out
  generalize (⟨v2.toArray⟩ : ByteArray) = b2 at cE hx
  replace H : Hid (out = _) := hx
  clear hx
  go_wp2_with fail
  refine cE.mono ?_
  rintro e w4 ⟨rfl, st⟩
  clear cE
  have y := st.tx.cell (i := 2) rfl
  have f := st.tx.frozen 2
  have st' := st.setT 2 (.string b2)
  obtain ⟨w5, hw⟩ : ∃ q, w4.setCell ⟨W.heap.size + 1, 2, none⟩ (.string b2) = q := ⟨_, rfl⟩
  rw [hw] at st'
  replace st' : RdSt W rb rb W.heap.size (W.heap.size + 1) (W.heap.size + 1 + 1) 204 [] w5 [.string r3] [.int .i64 0, .string b1, .string b2, .int .u64 0, .int .u64 0, .string ⟨#[]⟩, .string ⟨#[]⟩, .slice none 0 0, .slice none 0 0] := st'
  clear st
  have st := st'
  clear st'
  rcases h3 : getInt r3.data.toList with ⟨v3, k3, e3⟩
  by_cases z : e3 ≠ 0
  · have H1 : Hid (out = (.none, e3)) := (H.out.trans (bindI_err h3 z) : _ = _)
    have cE := number_err st r3s.out v3 k3 e3 h3 z
    have hb := st.bel
    clear h3 H st
    go_wp2_with fail
    refine cE.mono ?_
    rintro e w1 ⟨rfl, hw1⟩
    subst hw1
    clear cE
    go_wp2
    exact ⟨rfl, Read.err H1.out z hb⟩
  replace z : e3 = 0 := by omega
  subst z
  have bk := (getInt_bounds _ _ _ h3).1
  have cE := number_ok st r3s.out v3 k3 h3
  have hx := H.out.trans (bindI_ok h3)
  try dsimp only at hx
  rw [← extract_drop] at hx
  have r4s : Hid (((r3.extract k3 r3.size) : ByteArray).size ≤ maxLen) := rest_size r3 k3 r3s.out
  obtain ⟨r4, hr⟩ : ∃ q, q = r3.extract k3 r3.size := ⟨_, rfl⟩
  rw [← hr] at hx r4s
  replace H : Hid (out = _) := hx
  clear hx h3
  rw [← hr] at cE
  clear hr st r3s
  have n3 : (v3 : Int) ≤ 4611686018427387903 := by omega
  clear bk
  go_wp2_with fail
  refine cE.mono ?_
  rintro e w6 ⟨rfl, st⟩
  clear cE
  have y := st.tx.cell (i := 3) rfl
  have f := st.tx.frozen 3
  have st' := st.setT 3 (.int .u64 (v3 : Int))
  obtain ⟨w7, hw⟩ : ∃ q, w6.setCell ⟨W.heap.size + 1, 3, none⟩ (.int .u64 (v3 : Int)) = q := ⟨_, rfl⟩
  rw [hw] at st'
  replace st' : RdSt W rb rb W.heap.size (W.heap.size + 1) (W.heap.size + 1 + 1) 204 [] w7 [.string r4] [.int .i64 0, .string b1, .string b2, .int .u64 (v3 : Int), .int .u64 0, .string ⟨#[]⟩, .string ⟨#[]⟩, .slice none 0 0, .slice none 0 0] := st'
  clear st
  have st := st'
  clear st'
  rcases h4 : getInt r4.data.toList with ⟨v4, k4, e4⟩
  by_cases z : e4 ≠ 0
  · have H1 : Hid (out = (.none, e4)) := (H.out.trans (bindI_err h4 z) : _ = _)
    have cE := number_err st r4s.out v4 k4 e4 h4 z
    have hb := st.bel
    clear h4 H st
    go_wp2_with fail
    refine cE.mono ?_
    rintro e w1 ⟨rfl, hw1⟩
    subst hw1
    clear cE
    go_wp2
    exact ⟨rfl, Read.err H1.out z hb⟩
  replace z : e4 = 0 := by omega
  subst z
  have bk := (getInt_bounds _ _ _ h4).1
  have cE := number_ok st r4s.out v4 k4 h4
  have hx := H.out.trans (bindI_ok h4)
  try dsimp only at hx
  rw [← extract_drop] at hx
  have r5s : Hid (((r4.extract k4 r4.size) : ByteArray).size ≤ maxLen) := rest_size r4 k4 r4s.out
  obtain ⟨r5, hr⟩ : ∃ q, q = r4.extract k4 r4.size := ⟨_, rfl⟩
  rw [← hr] at hx r5s
  replace H : Hid (out = _) := hx
  clear hx h4
  rw [← hr] at cE
  clear hr st r4s
  have n4 : (v4 : Int) ≤ 4611686018427387903 := by omega
  clear bk
  go_wp2_with fail
  refine cE.mono ?_
  rintro e w8 ⟨rfl, st⟩
  clear cE
  have y := st.tx.cell (i := 4) rfl
  have f := st.tx.frozen 4
  have st' := st.setT 4 (.int .u64 (v4 : Int))
  obtain ⟨w9, hw⟩ : ∃ q, w8.setCell ⟨W.heap.size + 1, 4, none⟩ (.int .u64 (v4 : Int)) = q := ⟨_, rfl⟩
  rw [hw] at st'
  replace st' : RdSt W rb rb W.heap.size (W.heap.size + 1) (W.heap.size + 1 + 1) 204 [] w9 [.string r5] [.int .i64 0, .string b1, .string b2, .int .u64 (v3 : Int), .int .u64 (v4 : Int), .string ⟨#[]⟩, .string ⟨#[]⟩, .slice none 0 0, .slice none 0 0] := st'
  clear st
  have st := st'
  clear st'
  rcases h5 : getText r5.data.toList with ⟨v5, k5, e5⟩
  by_cases z : e5 ≠ 0
  · have H1 : Hid (out = (.none, e5)) := (H.out.trans (bindT_err h5 z) : _ = _)
    have cE := text_err st r5s.out v5 k5 e5 h5 z
    have hb := st.bel
    clear h5 H st
    go_wp2_with fail
    refine cE.mono ?_
    rintro e w1 ⟨rfl, hw1⟩
    subst hw1
    clear cE
    go_wp2
    exact ⟨rfl, Read.err H1.out z hb⟩
  replace z : e5 = 0 := by omega
  subst z
  have cE := text_ok st r5s.out v5 k5 h5
  have hx := H.out.trans (bindT_ok h5)
  try dsimp only at hx
  rw [← extract_drop] at hx
  have r6s : Hid (((r5.extract k5 r5.size) : ByteArray).size ≤ maxLen) := rest_size r5 k5 r5s.out
  obtain ⟨r6, hr⟩ : ∃ q, q = r5.extract k5 r5.size := ⟨_, rfl⟩
  rw [← hr] at hx r6s
  replace H : Hid (out = _) := hx
  clear hx h5
  rw [← hr] at cE
  clear hr st r5s
  have hx := H.out
  generalize (⟨v5.toArray⟩ : ByteArray) = b5 at cE hx
  replace H : Hid (out = _) := hx
  clear hx
  go_wp2_with fail
  refine cE.mono ?_
  rintro e w10 ⟨rfl, st⟩
  clear cE
  have y := st.tx.cell (i := 5) rfl
  have f := st.tx.frozen 5
  have st' := st.setT 5 (.string b5)
  obtain ⟨w11, hw⟩ : ∃ q, w10.setCell ⟨W.heap.size + 1, 5, none⟩ (.string b5) = q := ⟨_, rfl⟩
  rw [hw] at st'
  replace st' : RdSt W rb rb W.heap.size (W.heap.size + 1) (W.heap.size + 1 + 1) 204 [] w11 [.string r6] [.int .i64 0, .string b1, .string b2, .int .u64 (v3 : Int), .int .u64 (v4 : Int), .string b5, .string ⟨#[]⟩, .slice none 0 0, .slice none 0 0] := st'
  clear st
  have st := st'
  clear st'
  rcases h6 : getText r6.data.toList with ⟨v6, k6, e6⟩
  by_cases z : e6 ≠ 0
  · have H1 : Hid (out = (.none, e6)) := (H.out.trans (bindT_err h6 z) : _ = _)
    have cE := text_err st r6s.out v6 k6 e6 h6 z
    have hb := st.bel
    clear h6 H st
    go_wp2_with fail
    refine cE.mono ?_
    rintro e w1 ⟨rfl, hw1⟩
    subst hw1
    clear cE
    go_wp2
    exact ⟨rfl, Read.err H1.out z hb⟩
  replace z : e6 = 0 := by omega
  subst z
  have cE := text_ok st r6s.out v6 k6 h6
  have hx := H.out.trans (bindT_ok h6)
  try dsimp only at hx
  rw [← extract_drop] at hx
  have r7s : Hid (((r6.extract k6 r6.size) : ByteArray).size ≤ maxLen) := rest_size r6 k6 r6s.out
  obtain ⟨r7, hr⟩ : ∃ q, q = r6.extract k6 r6.size := ⟨_, rfl⟩
  rw [← hr] at hx r7s
  replace H : Hid (out = _) := hx
  clear hx h6
  rw [← hr] at cE
  clear hr st r6s
  have hx := H.out
  generalize (⟨v6.toArray⟩ : ByteArray) = b6 at cE hx
  replace H : Hid (out = _) := hx
  clear hx
  go_wp2_with fail
  refine cE.mono ?_
  rintro e w12 ⟨rfl, st⟩
  clear cE
  have y := st.tx.cell (i := 6) rfl
  have f := st.tx.frozen 6
  have st' := st.setT 6 (.string b6)
  obtain ⟨w13, hw⟩ : ∃ q, w12.setCell ⟨W.heap.size + 1, 6, none⟩ (.string b6) = q := ⟨_, rfl⟩
  rw [hw] at st'
  replace st' : RdSt W rb rb W.heap.size (W.heap.size + 1) (W.heap.size + 1 + 1) 204 [] w13 [.string r7] [.int .i64 0, .string b1, .string b2, .int .u64 (v3 : Int), .int .u64 (v4 : Int), .string b5, .string b6, .slice none 0 0, .slice none 0 0] := st'
  clear st
  have st := st'
  clear st'
  rcases h7 : getList r7.data.toList 8 with ⟨v7, k7, e7⟩
  by_cases z : e7 ≠ 0
  · have H1 : Hid (out = (.none, e7)) := (H.out.trans (bindL_err h7 z) : _ = _)
    have cE := keys_err st r7s.out v7 k7 e7 h7 z
    have hb := st.bel
    have hb' := fun w1 (h : Below _ _ w1) => (st.below h).bel
    clear h7 H st
    go_wp2_with fail
    refine cE.mono ?_
    rintro e w1 ⟨rfl, hbb⟩
    replace hb := hb' w1 hbb
    clear cE hb' hbb
    go_wp2
    exact ⟨rfl, Read.err H1.out z hb⟩
  replace z : e7 = 0 := by omega
  subst z
  have bk := getList_back h7
  have bl7 : r7.data.toList.length = r7.size := by simp
  have cE := keys_ok st r7s.out v7 k7 h7 (by omega)
  have hx := H.out.trans (bindL_ok h7)
  try dsimp only at hx
  rw [← extract_drop] at hx
  have r8s : Hid (((r7.extract k7 r7.size) : ByteArray).size ≤ maxLen) := rest_size r7 k7 r7s.out
  obtain ⟨r8, hr⟩ : ∃ q, q = r7.extract k7 r7.size := ⟨_, rfl⟩
  rw [← hr] at hx r8s
  replace H : Hid (out = _) := hx
  clear hx h7
  rw [← hr] at cE
  clear hr st r7s bl7 bk
  have hx := H.out
  generalize mks v7 = m7 at cE hx
  replace H : Hid (out = _) := hx
  clear hx
  go_wp2_with fail
  refine cE.mono ?_
  rintro e w14 ⟨a7, c7, rfl, nn7, st⟩
  clear cE
  have y := st.tx.cell (i := 7) rfl
  have f := st.tx.frozen 7
  have st' := st.setT 7 (.slice a7 m7.length c7)
  obtain ⟨w15, hw⟩ : ∃ q, w14.setCell ⟨W.heap.size + 1, 7, none⟩ (.slice a7 m7.length c7) = q := ⟨_, rfl⟩
  rw [hw] at st'
  replace st' : RdSt W rb rb W.heap.size (W.heap.size + 1) (W.heap.size + 1 + 1) 204 ((a7, m7) :: []) w15 [.string r8] [.int .i64 0, .string b1, .string b2, .int .u64 (v3 : Int), .int .u64 (v4 : Int), .string b5, .string b6, .slice a7 m7.length c7, .slice none 0 0] := st'
  clear st
  have st := st'
  clear st'
  rcases h8 : getList r8.data.toList 8 with ⟨v8, k8, e8⟩
  by_cases z : e8 ≠ 0
  · have H1 : Hid (out = (.none, e8)) := (H.out.trans (bindL_err h8 z) : _ = _)
    have cE := keys_err st r8s.out v8 k8 e8 h8 z
    have hb := st.bel
    have hb' := fun w1 (h : Below _ _ w1) => (st.below h).bel
    clear h8 H st
    go_wp2_with fail
    refine cE.mono ?_
    rintro e w1 ⟨rfl, hbb⟩
    replace hb := hb' w1 hbb
    clear cE hb' hbb
    go_wp2
    exact ⟨rfl, Read.err H1.out z hb⟩
  replace z : e8 = 0 := by omega
  subst z
  have bk := getList_back h8
  have bl8 : r8.data.toList.length = r8.size := by simp
  have cE := keys_ok st r8s.out v8 k8 h8 (by omega)
  have hx := H.out.trans (bindL_ok h8)
  try dsimp only at hx
  rw [← extract_drop] at hx
  have r9s : Hid (((r8.extract k8 r8.size) : ByteArray).size ≤ maxLen) := rest_size r8 k8 r8s.out
  obtain ⟨r9, hr⟩ : ∃ q, q = r8.extract k8 r8.size := ⟨_, rfl⟩
  rw [← hr] at hx r9s
  replace H : Hid (out = _) := hx
  clear hx h8
  rw [← hr] at cE
  clear hr st r8s bl8 bk
  have hx := H.out
  generalize mks v8 = m8 at cE hx
  replace H : Hid (out = _) := hx
  clear hx
  go_wp2_with fail
  refine cE.mono ?_
  rintro e w16 ⟨a8, c8, rfl, nn8, st⟩
  clear cE
  have y := st.tx.cell (i := 8) rfl
  have f := st.tx.frozen 8
  have st' := st.setT 8 (.slice a8 m8.length c8)
  obtain ⟨w17, hw⟩ : ∃ q, w16.setCell ⟨W.heap.size + 1, 8, none⟩ (.slice a8 m8.length c8) = q := ⟨_, rfl⟩
  rw [hw] at st'
  replace st' : RdSt W rb rb W.heap.size (W.heap.size + 1) (W.heap.size + 1 + 1) 204 ((a8, m8) :: ((a7, m7) :: [])) w17 [.string r9] [.int .i64 0, .string b1, .string b2, .int .u64 (v3 : Int), .int .u64 (v4 : Int), .string b5, .string b6, .slice a7 m7.length c7, .slice a8 m8.length c8] := st'
  clear st
  have st := st'
  clear st'
  replace H : Hid (out = finTx ⟨(v0 : Int), b1, b2, v3, v4, b5, b6, m7, m8⟩ r9.data.toList) := H
  unfold finTx at H
  by_cases hk : (2 : Int) < (v0 : Int)
  · have H1 : Hid (out = (.none, 2)) := (H.out.trans (if_pos hk) : _ = _)
    have hb := st.bel
    clear H st
    go_wp2
    exact ⟨rfl, Read.err (er := 2) H1.out (by decide) hb⟩
  replace H : Hid (out = _) := (H.out.trans (if_neg hk) : _ = _)
  have hk' : (v0 : Int) ≤ 2 := by omega
  clear hk
  have y := st.tx.cell (i := 0) rfl
  have f := st.tx.frozen 0
  have st' := st.setT 0 (.int .i64 (v0 : Int))
  obtain ⟨wz, hw⟩ : ∃ q, w17.setCell ⟨W.heap.size + 1, 0, none⟩ (.int .i64 (v0 : Int)) = q := ⟨_, rfl⟩
  rw [hw] at st'
  replace st' : RdSt W rb rb W.heap.size (W.heap.size + 1) (W.heap.size + 1 + 1) 204 ((a8, m8) :: ((a7, m7) :: [])) wz [.string r9] [.int .i64 (v0 : Int), .string b1, .string b2, .int .u64 (v3 : Int), .int .u64 (v4 : Int), .string b5, .string b6, .slice a7 m7.length c7, .slice a8 m8.length c8] := st'
  clear st
  have st := st'
  clear st'
  have yr := st.rd.cell (i := 0) rfl
  by_cases hr : r9.data.toList ≠ []
  · have H1 : Hid (out = (.none, 6)) := (H.out.trans (if_pos hr) : _ = _)
    have hb := st.bel
    have hr1 : r9.toList.isEmpty = false := by rw [ByteArray.toList_eq]; simpa using hr
    clear H st hr
    go_wp2
    exact ⟨rfl, Read.err (er := 6) H1.out (by decide) hb⟩
  replace H : Hid (out = _) := (H.out.trans (if_neg hr) : _ = _)
  have hr1 : r9.toList.isEmpty = true := by rw [ByteArray.toList_eq]; simpa using hr
  clear hr
  have hA : TxAt wz ⟨(v0 : Int), b1, b2, v3, v4, b5, b6, m7, m8⟩ a7 a8 := ⟨(st.rows (a7, m7) (by simp)).at, (st.rows (a8, m8) (by simp)).at⟩
  have cC := check_any ⟨(v0 : Int), b1, b2, v3, v4, b5, b6, m7, m8⟩ a7 c7 a8 c8 wz hA
  obtain ⟨x0, x1, x2, x3, x4, x5, x6, x7, x8⟩ := st.tx.cells9
  by_cases hc : checkL ⟨(v0 : Int), b1, b2, v3, v4, b5, b6, m7, m8⟩ ≠ 0
  · have H1 : Hid (out = (.none, checkL ⟨(v0 : Int), b1, b2, v3, v4, b5, b6, m7, m8⟩)) := (H.out.trans (if_pos hc) : _ = _)
    have cM := must_err _ hc
    generalize checkL ⟨(v0 : Int), b1, b2, v3, v4, b5, b6, m7, m8⟩ = er at cC cM H1 hc
    have hb' := fun w1 (h : Below _ _ w1) => (st.below h).bel
    clear H st hA
    go_wp2_with fail
    refine cC.mono ?_
    rintro e wy ⟨rfl, hbb⟩
    replace hb' := hb' wy hbb
    clear cC hbb
    go_wp2_with fail
    refine (cM _).mono ?_
    rintro e wx ⟨rfl, rfl⟩
    go_wp2
    exact ⟨rfl, Read.err H1.out hc hb'⟩
  replace H : Hid (out = (⟨(v0 : Int), b1, b2, v3, v4, b5, b6, m7, m8⟩, 0)) := (H.out.trans (if_neg hc) : _ = _)
  replace hc : checkL ⟨(v0 : Int), b1, b2, v3, v4, b5, b6, m7, m8⟩ = 0 := by omega
  rw [hc] at cC
  clear hc hA
  go_wp2_with fail
  refine cC.mono ?_
  rintro e wy ⟨rfl, hbb⟩
  replace st := st.below hbb
  clear cC hbb
  go_wp2_with fail
  refine (must_ok _).mono ?_
  rintro e wx ⟨rfl, rfl⟩
  clear x0 x1 x2 x3 x4 x5 x6 x7 x8
  obtain ⟨x0, x1, x2, x3, x4, x5, x6, x7, x8⟩ := st.tx.cells9
  obtain ⟨q0, q1, q2, q3, q4, q5, q6, q7, q8⟩ := st.res.cells9
  have f0 := st.res.frozen 0
  have f1 := st.res.frozen 1
  have f2 := st.res.frozen 2
  have f3 := st.res.frozen 3
  have f4 := st.res.frozen 4
  have f5 := st.res.frozen 5
  have f6 := st.res.frozen 6
  have f7 := st.res.frozen 7
  have f8 := st.res.frozen 8
  go_wp2
  have hF := st.res.set9 (.int .i64 (v0 : Int)) (.string b1) (.string b2) (.int .u64 (v3 : Int)) (.int .u64 (v4 : Int)) (.string b5) (.string b6) (.slice a7 m7.length c7) (.slice a8 m8.length c8)
  have hBF := below_set9 st.bel (g := W.heap.size) (Nat.le_of_lt hlt) (.int .i64 (v0 : Int)) (.string b1) (.string b2) (.int .u64 (v3 : Int)) (.int .u64 (v4 : Int)) (.string b5) (.string b6) (.slice a7 m7.length c7) (.slice a8 m8.length c8)
  have hSF := (st.rows (a7, m7) (by simp)).set9 (g := W.heap.size) (by omega) (.int .i64 (v0 : Int)) (.string b1) (.string b2) (.int .u64 (v3 : Int)) (.int .u64 (v4 : Int)) (.string b5) (.string b6) (.slice a7 m7.length c7) (.slice a8 m8.length c8)
  have hTF := (st.rows (a8, m8) (by simp)).set9 (g := W.heap.size) (by omega) (.int .i64 (v0 : Int)) (.string b1) (.string b2) (.int .u64 (v3 : Int)) (.int .u64 (v4 : Int)) (.string b5) (.string b6) (.slice a7 m7.length c7) (.slice a8 m8.length c8)
  unfold set9 at hF hBF hSF hTF
  refine bodyPost_ret (v := txV ⟨(v0 : Int), b1, b2, v3, v4, b5, b6, m7, m8⟩ a7 c7 a8 c8) ?x1 ?x2 ?x3
  case x1 => exact results_tx rfl _ _ W.heap.size 86 ⟨(v0 : Int), b1, b2, v3, v4, b5, b6, m7, m8⟩ _ _ _ _ rfl hF
  case x2 => rfl
  rw [H.out]
  exact Or.inl ⟨rfl, a7, c7, a8, c8, rfl, hSF.mono (by omega), hTF.mono (by omega), nn7, nn8, hBF⟩
end Go.Proofs.YtaoiejgbbmjpkaaGreatDoor

/- What Decode does: the transaction of bytes, or the first error, caught; nothing old in memory is turned. -/
namespace Go.Proofs.YtaoiejgbbmjpkaaGreatDoor
open Go.RowKit
set_option linter.unusedVariables false

theorem Arr.other9 {w : World} {g g' : Nat} {t : TypeId} {cs : List Value} (h : Arr w g' t cs) (hg : g' ≠ g) (v0 v1 v2 v3 v4 v5 v6 v7 v8 : Value) : Arr (Proofs.YtaoiejgbbmjpkaaGreatDoor.set9 w g v0 v1 v2 v3 v4 v5 v6 v7 v8) g' t cs :=
  ((((((((h.other (p := ⟨g, 0, none⟩) hg v0).other (p := ⟨g, 1, none⟩) hg v1).other (p := ⟨g, 2, none⟩) hg v2).other (p := ⟨g, 3, none⟩) hg v3).other (p := ⟨g, 4, none⟩) hg v4).other (p := ⟨g, 5, none⟩) hg v5).other (p := ⟨g, 6, none⟩) hg v6).other (p := ⟨g, 7, none⟩) hg v7).other (p := ⟨g, 8, none⟩) hg v8

set_option maxRecDepth 100000 in
theorem catch_idle (p q : Addr) (w : World) :
    CallsD Tryz.prog 152 #[.pointer (some p), .pointer (some q)] .returning w fun e u' w' => e = .returned (.tuple #[]) ∧ u' = .returning ∧ w' = w := by
  have hnil : ∀ w : World, (binOp BinOp.neq 20 .nilIface .nilIface).run Tryz.prog w = .ok (.bool false) w := fun _ => by kernel_rfl
  refine callsD_of_wpS Tryz.func152 rfl fun c₀ cs hu => ?_
  apply wpS_seq
  apply wpS_region
  simp [wpOpsS, go_sem, recoverD, hu, Tryz.ntmps152, Exit.thenS]
  apply wpS_seq
  apply wpS_region
  simp [wpOpsS, go_sem, Exit.thenS]
  refine wpS_cond (t := false) (by simp [Act.eval, Array.replicate]) ?_
  simp only [Bool.false_eq_true, if_false]
  refine wpS_of_wp (wp_skip ?_)
  cases c₀
  simp_all [bodyPostS, results, Tryz.results152]

set_option maxRecDepth 100000 in
set_option maxHeartbeats 1000000 in
theorem catch_panicking (b0 : Nat) (er : Int) (older : List PanicEntry) (w : World) (hT : Arr w b0 86 zeroC) (hE : Arr w (b0 + 1) 50 [.int .i64 0]) :
    CallsD Tryz.prog 152 #[.pointer (some ⟨b0, 0, none⟩), .pointer (some ⟨b0 + 1, 0, none⟩)] (.panicking ({ v := .iface 50 (.int .i64 er), recovered := false } :: older)) w fun e u' w' =>
      e = .returned (.tuple #[]) ∧ u' = .panicking ({ v := .iface 50 (.int .i64 er), recovered := true } :: older) ∧ Arr w' b0 86 zeroC ∧ Arr w' (b0 + 1) 50 [.int .i64 er] ∧ Below b0 w w' := by
  refine callsD_of_wpS Tryz.func152 rfl fun c₀ cs hu => ?_
  apply wpS_seq
  apply wpS_region
  simp [wpOpsS, go_sem, recoverD, hu, Tryz.ntmps152, Exit.thenS]
  apply wpS_seq
  apply wpS_region
  simp [wpOpsS, go_sem, Exit.thenS]
  refine wpS_cond (t := true) (by simp [Act.eval, Array.replicate]) ?_
  simp only [if_true]
  refine wpS_of_wp ?_
  obtain ⟨y0, y1, y2, y3, y4, y5, y6, y7, y8⟩ := hT.cells9
  have f0 := hT.frozen 0
  have f1 := hT.frozen 1
  have f2 := hT.frozen 2
  have f3 := hT.frozen 3
  have f4 := hT.frozen 4
  have f5 := hT.frozen 5
  have f6 := hT.frozen 6
  have f7 := hT.frozen 7
  have f8 := hT.frozen 8
  have x0 := hE.cell (i := 0) rfl
  have g0 := hE.frozen 0
  have hta : ∀ w : World, (Instr.typeAssert (.iface 50 (.int .i64 er)) 20 50 false).run Tryz.prog w = .ok (.int .i64 er) w := fun _ => by kernel_rfl
  show Code.wp Tryz.prog _ _ { tmps := #[.pointer (some ⟨b0, 0, none⟩), .pointer (some ⟨b0 + 1, 0, none⟩), .iface 50 (.int .i64 er), .iface 50 (.int .i64 er), .iface 50 (.int .i64 er), .bool true, undef, undef, undef], defers := [] } w
  go_region
  have a1 : Arr ((set9 w b0 (.int .i64 0) (.string ⟨#[]⟩) (.string ⟨#[]⟩) (.int .u64 0) (.int .u64 0) (.string ⟨#[]⟩) (.string ⟨#[]⟩) (.slice none 0 0) (.slice none 0 0)).setCell ⟨b0 + 1, 0, none⟩ (.int .i64 er)).drew b0 86 zeroC := ((hT.set9 (.int .i64 0) (.string ⟨#[]⟩) (.string ⟨#[]⟩) (.int .u64 0) (.int .u64 0) (.string ⟨#[]⟩) (.string ⟨#[]⟩) (.slice none 0 0) (.slice none 0 0)).other (p := ⟨b0 + 1, 0, none⟩) (by show b0 ≠ b0 + 1; omega) (.int .i64 er)).drew
  have a2 : Arr ((set9 w b0 (.int .i64 0) (.string ⟨#[]⟩) (.string ⟨#[]⟩) (.int .u64 0) (.int .u64 0) (.string ⟨#[]⟩) (.string ⟨#[]⟩) (.slice none 0 0) (.slice none 0 0)).setCell ⟨b0 + 1, 0, none⟩ (.int .i64 er)).drew (b0 + 1) 50 [.int .i64 er] := ((hE.other9 (by omega) (.int .i64 0) (.string ⟨#[]⟩) (.string ⟨#[]⟩) (.int .u64 0) (.int .u64 0) (.string ⟨#[]⟩) (.string ⟨#[]⟩) (.slice none 0 0) (.slice none 0 0)).set 0 (.int .i64 er)).drew
  have a3 : Below b0 w ((set9 w b0 (.int .i64 0) (.string ⟨#[]⟩) (.string ⟨#[]⟩) (.int .u64 0) (.int .u64 0) (.string ⟨#[]⟩) (.string ⟨#[]⟩) (.slice none 0 0) (.slice none 0 0)).setCell ⟨b0 + 1, 0, none⟩ (.int .i64 er)).drew := Below.drew ((below_set9 (Below.refl b0 w) (Nat.le_refl _) (.int .i64 0) (.string ⟨#[]⟩) (.string ⟨#[]⟩) (.int .u64 0) (.int .u64 0) (.string ⟨#[]⟩) (.string ⟨#[]⟩) (.slice none 0 0) (.slice none 0 0)).setCell (p := ⟨b0 + 1, 0, none⟩) (by show b0 ≤ b0 + 1; omega) (.int .i64 er))
  unfold set9 at a1 a2 a3
  have fin := And.intro a1 (And.intro a2 a3)
  clear a1 a2 a3
  revert fin
  generalize (World.setCell _ ⟨b0 + 1, 0, none⟩ (.int .i64 er)).drew = wf
  intro fin
  cases c₀
  simp [bodyPostS, results, Tryz.results152]
  exact fin

theorem infoErrno : (Tryz.prog.info? 50).map (·.size) = some 1 := by kernel_rfl

theorem results_dec {fn : Func} {p q : Tmp} (h : fn.results = #[.cell p 86, .cell q 50]) (tmps : Array Value) (w : World) (g g2 : Nat) (d : TxD) (ra : Option Addr) (rc : Nat) (wa : Option Addr) (wc : Nat) (er : Int)
    (hp : tmps.getD p undef = .pointer (some ⟨g, 0, none⟩)) (hg : Arr w g 86 (txC d ra rc wa wc)) (hq : tmps.getD q undef = .pointer (some ⟨g2, 0, none⟩)) (hg2 : Arr w g2 50 [.int .i64 er]) :
    (results fn tmps).run Tryz.prog w = .ok (.tuple #[txV d ra rc wa wc, .int .i64 er]) w := by
  have hl := run_loadVar_row w g 86 86 (txC d ra rc wa wc).toArray (0, 0) _ hg Tryz.underlying86 rfl infoTx
  have hc := hg2.cell (i := 0) rfl
  have hp' : tmps[p]?.getD undef = .pointer (some ⟨g, 0, none⟩) := by simpa using hp
  have hq' : tmps[q]?.getD undef = .pointer (some ⟨g2, 0, none⟩) := by simpa using hq
  have hl2 : (loadVar 50 ⟨g2, 0, none⟩).run Tryz.prog w = .ok (.int .i64 er) w := by
    simp [go_sem, hc]
  simp [results, h, hp', hq', asAddr, hl, hl2]
  rfl

/-- Decode hands back a transaction and an error. -/
def GotDec (W : World) (r : TxD × Nat) (e : Ending) (w : World) : Prop :=
  ∃ ra rc wa wc, e = .returned (.tuple #[txV r.1 ra rc wa wc, .int .i64 (r.2 : Int)]) ∧ TxAt w r.1 ra wa ∧ (ra = none → rc = 0) ∧ (wa = none → wc = 0) ∧ Below W.heap.size W w

/-- The same, and its lists lie in new memory. -/
def GotDecO (W : World) (r : TxD × Nat) (e : Ending) (w : World) : Prop :=
  ∃ ra rc wa wc, e = .returned (.tuple #[txV r.1 ra rc wa wc, .int .i64 (r.2 : Int)]) ∧ OwnStrs W.heap.size w ra r.1.rs ∧ OwnStrs W.heap.size w wa r.1.ws ∧ (ra = none → rc = 0) ∧ (wa = none → wc = 0) ∧ Below W.heap.size W w

theorem GotDecO.got {W : World} {r : TxD × Nat} {e : Ending} {w : World} (h : GotDecO W r e w) : GotDec W r e w := by
  obtain ⟨ra, rc, wa, wc, h1, h2, h3, h4⟩ := h
  exact ⟨ra, rc, wa, wc, h1, ⟨h2.at, h3.at⟩, h4⟩

theorem nil_own (b : Nat) (w : World) (ao : Option Addr) : OwnStrs b w ao [] := fun j hj => absurd hj (by simp)

set_option maxRecDepth 100000 in
set_option maxHeartbeats 1000000 in
theorem decode_own (s : ByteArray) (w : World) (hs : s.size ≤ maxLen) :
    Calls Tryz.prog 144 #[.string s] w fun e w' => GotDecO w (decL s.data.toList) e w' := by
  have hmf : ∀ (fn : Fn) (first cap : Array Value) (w : World), (Instr.makeFunc fn first cap).run Tryz.prog w = .ok (.func fn first cap) w := fun _ _ _ _ => rfl
  obtain ⟨hT, hE, hB⟩ := two_new w 86 50 zeroC [.int .i64 0]
  have hR := Arr.new ((w.alloc (.cells zeroC.toArray 86)).alloc (.cells #[.int .i64 0] 50)) 204 [.string s]
  rw [alloc_size, alloc_size] at hR
  have cT := tx_any s (w.heap.size + 1 + 1) _ hR hs
  have hT3 := hT.alloc (.cells #[.string s] 204)
  have hE3 := hE.alloc (.cells #[.string s] 204)
  have hB3 := hB.alloc hB.size (.cells #[.string s] 204)
  clear hT hE hB hR
  go_enter_defers Tryz.func144, Tryz.ntmps144
  go_wp2_with fail
  refine cT.mono ?_
  rintro e w1 (⟨hz, ra, rc, wa, wc, rfl, hO1, hO2, hr, hw, hb⟩ | ⟨hz, rfl, hb⟩)
  · have hT1 := hT3.below hb (by omega)
    have hE1 := hE3.below hb (by omega)
    have hB1 := hB3.trans (hb.mono (by omega))
    clear hT3 hE3 hB3 hb cT
    obtain ⟨y0, y1, y2, y3, y4, y5, y6, y7, y8⟩ := hT1.cells9
    have f0 := hT1.frozen 0
    have f1 := hT1.frozen 1
    have f2 := hT1.frozen 2
    have f3 := hT1.frozen 3
    have f4 := hT1.frozen 4
    have f5 := hT1.frozen 5
    have f6 := hT1.frozen 6
    have f7 := hT1.frozen 7
    have f8 := hT1.frozen 8
    have x0 := hE1.cell (i := 0) rfl
    have g0 := hE1.frozen 0
    obtain ⟨d, hd⟩ : ∃ d, d = (decL s.data.toList).1 := ⟨_, rfl⟩
    rw [← hd] at hO1 hO2 ⊢
    have Hd : Hid (decL s.data.toList = (d, 0)) := by show _ = _; rw [hd, ← hz]
    clear hd hz
    unfold txV
    go_wp2
    have aT := (hT1.set9 (.int .i64 d.kind) (.string d.frm) (.string d.to) (.int .u64 (d.amt : Int)) (.int .u64 (d.non : Int)) (.string d.key) (.string d.val) (.slice ra d.rs.length rc) (.slice wa d.ws.length wc)).other (p := ⟨w.heap.size + 1, 0, none⟩) (by show w.heap.size ≠ w.heap.size + 1; omega) (.int .i64 0)
    have aE := (hE1.other9 (g := w.heap.size) (by omega) (.int .i64 d.kind) (.string d.frm) (.string d.to) (.int .u64 (d.amt : Int)) (.int .u64 (d.non : Int)) (.string d.key) (.string d.val) (.slice ra d.rs.length rc) (.slice wa d.ws.length wc)).set 0 (.int .i64 0)
    have aB := (below_set9 hB1 (g := w.heap.size) (Nat.le_refl _) (.int .i64 d.kind) (.string d.frm) (.string d.to) (.int .u64 (d.amt : Int)) (.int .u64 (d.non : Int)) (.string d.key) (.string d.val) (.slice ra d.rs.length rc) (.slice wa d.ws.length wc)).setCell (p := ⟨w.heap.size + 1, 0, none⟩) (by show w.heap.size ≤ w.heap.size + 1; omega) (.int .i64 0)
    have a1 := (hO1.set9 (g := w.heap.size) (by omega) (.int .i64 d.kind) (.string d.frm) (.string d.to) (.int .u64 (d.amt : Int)) (.int .u64 (d.non : Int)) (.string d.key) (.string d.val) (.slice ra d.rs.length rc) (.slice wa d.ws.length wc)).put (p := ⟨w.heap.size + 1, 0, none⟩) (by show w.heap.size + 1 < _; omega) (.int .i64 0)
    have a2 := (hO2.set9 (g := w.heap.size) (by omega) (.int .i64 d.kind) (.string d.frm) (.string d.to) (.int .u64 (d.amt : Int)) (.int .u64 (d.non : Int)) (.string d.key) (.string d.val) (.slice ra d.rs.length rc) (.slice wa d.ws.length wc)).put (p := ⟨w.heap.size + 1, 0, none⟩) (by show w.heap.size + 1 < _; omega) (.int .i64 0)
    unfold set9 at aT aE aB a1 a2
    replace aT : Arr _ w.heap.size 86 (txC d ra rc wa wc) := aT
    clear hT1 hE1 hB1 hO1 hO2 y0 y1 y2 y3 y4 y5 y6 y7 y8 f0 f1 f2 f3 f4 f5 f6 f7 f8 x0 g0
    have fin := And.intro aT (And.intro aE (And.intro aB (And.intro a1 a2)))
    clear aT aE aB a1 a2
    revert fin
    generalize (World.setCell _ ⟨w.heap.size + 1, 0, none⟩ (.int .i64 0)) = wf
    rintro ⟨aT, aE, aB, a1, a2⟩
    refine leaves_cons (f := 152) (args := #[.pointer (some ⟨w.heap.size, 0, none⟩), .pointer (some ⟨w.heap.size + 1, 0, none⟩)]) (by simp) (by simp [go_sem]) ?_
    refine (catch_idle ⟨w.heap.size, 0, none⟩ ⟨w.heap.size + 1, 0, none⟩ _).mono ?_
    rintro e u' w'' ⟨rfl, rfl, rfl⟩
    refine ⟨_, results_dec rfl _ _ w.heap.size (w.heap.size + 1) d ra rc wa wc 0 rfl aT rfl aE, ?_⟩
    rw [Hd.out]
    exact ⟨ra, rc, wa, wc, rfl, a1.mono (by omega), a2.mono (by omega), hr, hw, aB⟩
  · have hT1 := hT3.below hb (by omega)
    have hE1 := hE3.below hb (by omega)
    have hB1 := hB3.trans (hb.mono (by omega))
    clear hT3 hE3 hB3 hb cT
    have hn := dec_none s.data.toList hz
    obtain ⟨er, he⟩ : ∃ er, er = (decL s.data.toList).2 := ⟨_, rfl⟩
    rw [← he]
    have Hd : Hid (decL s.data.toList = (.none, er)) := by show _ = _; rw [he, ← hn]
    clear hn hz he
    go_wp2
    refine leaves_cons (f := 152) (args := #[.pointer (some ⟨w.heap.size, 0, none⟩), .pointer (some ⟨w.heap.size + 1, 0, none⟩)]) (by simp) (by simp [go_sem]) ?_
    refine (catch_panicking w.heap.size er [] _ hT1 hE1).mono ?_
    rintro e u' w'' ⟨rfl, rfl, aT, aE, aB⟩
    refine ⟨_, results_dec rfl _ _ w.heap.size (w.heap.size + 1) .none none 0 none 0 er rfl aT rfl aE, ?_⟩
    rw [Hd.out]
    exact ⟨none, 0, none, 0, rfl, nil_own _ _ _, nil_own _ _ _, fun _ => rfl, fun _ => rfl, hB1.trans aB⟩

theorem decode_any (s : ByteArray) (w : World) (hs : s.size ≤ maxLen) :
    Calls Tryz.prog 144 #[.string s] w fun e w' => GotDec w (decL s.data.toList) e w' := (decode_own s w hs).mono fun _ _ h => h.got
end Go.Proofs.YtaoiejgbbmjpkaaGreatDoor

/- What decodeAll and batch.Decode do; nothing old in memory is turned. -/
namespace Go.Proofs.YtaoiejgbbmjpkaaGreatDoor
open Go.RowKit
set_option linter.unusedVariables false

/-- decodeAll hands back a row and an error. -/
def GotAll (W : World) (r : Except Nat (List TxD)) (e : Ending) (w : World) : Prop :=
  ∃ ao cap l er, e = .returned (.tuple #[.slice ao (l : List TxM).length cap, .int .i64 ((er : Nat) : Int)]) ∧ TxsAt w ao l ∧ (ao = none → cap = 0) ∧ ((er = 0 ∧ r = .ok (dl l)) ∨ (er ≠ 0 ∧ r = .error er ∧ l = [])) ∧ (∀ b o, ao = some ⟨b, o, none⟩ → W.heap.size ≤ b) ∧ (∀ x ∈ l, x.Off (fun k => k < W.heap.size)) ∧ Below W.heap.size W w

theorem decE_of {l : List UInt8} {d : TxD} {er : Nat} (h : decL l = (d, er)) : (er = 0 → decE l = .ok d) ∧ (er ≠ 0 → decE l = .error er) := by
  unfold decE
  rw [h]
  exact ⟨fun e => by rw [if_neg (by simpa using e)], fun e => by rw [if_pos e]⟩

set_option maxRecDepth 100000 in
set_option maxHeartbeats 4000000 in
theorem decodeAll_any (ao : Option Addr) (cap : Nat) (ss : List ByteArray) (w : World) (hS : StrsAt w ao ss) (hsz : ∀ s ∈ ss, s.size ≤ maxLen) (hn : ss.length ≤ 16) :
    Calls Tryz.prog 129 #[.slice ao ss.length cap] w fun e w' => GotAll w (eachE decE (bl ss)) e w' := by
  obtain ⟨i0, hi, hz0, hz1, hz2⟩ := info_parts infoTx4
  go_enter Tryz.func129, Tryz.ntmps129
  go_wp2
  go_loopw [4, 6, 7, 8, 11] (fun v4 v6 v7 v8 v11 wr => ∃ (k : Nat) (l : List TxM), k ≤ ss.length ∧ l.length = k ∧ v11 = .int .i64 (k : Int) ∧ TxQ wr w.heap.size v4 l ∧ Hid (eachE decE ((bl ss).take k) = .ok (dl l)) ∧ (∀ x ∈ l, x.Off (fun k => k < w.heap.size)) ∧ Below w.heap.size w wr) (fun _ _ _ _ v _ => ss.length - (intOf v).toNat)
  case atStart => exact ⟨0, [], Nat.zero_le _, rfl, rfl, TxQ.empty _ _, by show _ = _; rfl, (fun x hx => by cases hx), Below.refl _ _⟩
  case round =>
    obtain ⟨k, l, hk, hlk, rfl, hq, hE, hold, hb⟩ := hrel
    by_cases hlt : k < ss.length
    · obtain ⟨b, off, rfl, hbl, hcell⟩ := (hS.below hb) k hlt
      have hbk : (bl ss)[k]? = some ss[k].data.toList := by simp [bl, hlt]
      have hek := eachE_take (f := decE) (bl ss) k _ hbk (dl l) hE.out
      have hs1 := hsz ss[k] (List.getElem_mem hlt)
      obtain ⟨s, hs⟩ : ∃ s, s = ss[k] := ⟨_, rfl⟩
      rw [← hs] at hcell hek hs1
      rcases hd : decL s.data.toList with ⟨d, er⟩
      have hdE := decE_of hd
      have cD := fun w1 => decode_own s w1 hs1
      rw [hd] at cD
      have hek1 : Hid (∀ a, decE s.data.toList = .ok a → eachE decE ((bl ss).take (k + 1)) = .ok (dl l ++ [a])) := hek.1
      have hek2 : Hid (∀ e, decE s.data.toList = .error e → eachE decE (bl ss) = .error e) := hek.2
      clear hs hbk hek hd hE
      obtain ⟨qa, qc, rfl, hqn, _⟩ := hq.form
      rw [hlk] at hq ⊢
      go_wp2_with fail
      refine (cD _).mono ?_
      rintro e w1 ⟨ra, rc, wa, wc, rfl, hO1, hO2, hr, hw, hb1⟩
      have hq1 := hq.below hb1
      have hb2 := hb.trans (hb1.mono hb.size)
      have hoffx : TxM.Off ⟨d, ra, rc, wa, wc⟩ (fun j => (Value.slice qa k qc).ownBlock = some j) := off_own hO1 hO2 (fun j hj => (hq.lt j hj).2)
      have hold2 : ∀ x ∈ l ++ [⟨d, ra, rc, wa, wc⟩], x.Off (fun k => k < w.heap.size) := by
        intro x hx
        rw [List.mem_append, List.mem_singleton] at hx
        rcases hx with hx | rfl
        · exact hold x hx
        · exact off_own hO1 hO2 (fun j hj => Nat.lt_of_lt_of_le hj hb.size)
      have hx1 : TxM.At ⟨d, ra, rc, wa, wc⟩ w1 := ⟨⟨hO1.at, hO2.at⟩, hr, hw⟩
      clear hb1 cD hcell hO1 hO2 hq hb
      unfold txV
      by_cases he : er = 0
      · subst he
        have hE2 : Hid (eachE decE ((bl ss).take (k + 1)) = .ok (dl l ++ [d])) := hek1.out d (hdE.1 rfl)
        have hbx := belowNew w1 (.cells (TxM.c ⟨d, ra, rc, wa, wc⟩).toArray 86)
        have hq2 := hq1.below hbx
        have hx2 := hx1.below hbx
        have hb3 := hb2.trans (hbx.mono hb2.size)
        clear hek1 hek2 hdE hq1 hx1
        have hby2 := belowNew (w1.alloc (.cells (TxM.c ⟨d, ra, rc, wa, wc⟩).toArray 86)) (.cells (TxM.c ⟨d, ra, rc, wa, wc⟩).toArray 86)
        have hq3 := hq2.below hby2
        have hx3 := hx2.below hby2
        have hb4 := hb3.trans (hby2.mono hb3.size)
        have hnew := new_c (w1.alloc (.cells (TxM.c ⟨d, ra, rc, wa, wc⟩).toArray 86)) ⟨d, ra, rc, wa, wc⟩
        rw [alloc_size] at hnew
        have hrow3 := hq3.row
        rw [hlk] at hrow3
        clear hq2 hx2 hb3 hbx hby2
        go_wp2_with (at_builtin; refine wpList_append_q rfl _ _ 24 rfl w.heap.size 86 i0 _ 9 136 Tryz.underlying24 hi hz0 hz1 hz2 rfl (by decide) _ k (flatX l) rfl hrow3 ⟨w1.heap.size + 1, 0, none⟩ 1 1 (TxM.c ⟨d, ra, rc, wa, wc⟩) rfl (by decide) rfl hnew (c_one _) ?c3 ?c4 hb4.size ?_)
        case c3 => unfold maxLen; omega
        case c4 => omega
        intro q' w3 hrow hgr hfr
        have hq5 := hq3.push (m := [⟨d, ra, rc, wa, wc⟩]) (by intro x hx; simp at hx; rw [hx]; exact hx3) (by intro x hx; simp at hx; rw [hx]; exact hoffx) (by simp) (by rw [flatX_single, hlk]; exact hrow) hgr (fun g hg => by rw [alloc_size, alloc_size]; exact hfr g hg)
        have hb5 : Below w.heap.size w w3 := hb4.trans ((Kept.of_grown hgr).below hb4.size (fun j hj => (hq3.lt j hj).1))
        obtain ⟨qa2, qc2, rfl, _, _⟩ := QRow.form hrow
        clear hrow hgr hfr hq3 hx3 hb4 hnew hrow3
        go_wp2
        go_roundw
        case rel => exact ⟨k + 1, l ++ [⟨d, ra, rc, wa, wc⟩], by omega, by simp [hlk], by go_num, hq5, by show _ = _; rw [hE2.out]; simp [dl], hold2, hb5⟩
        case measure => simp [intOf]; omega
      · have hne : ((er : Int) != 0) = true := by rw [bne_iff_ne]; omega
        have hE2 : Hid (eachE decE (bl ss) = .error er) := hek2.out er (hdE.2 he)
        have hbx := belowNew w1 (.cells (TxM.c ⟨d, ra, rc, wa, wc⟩).toArray 86)
        have hb3 := hb2.trans (hbx.mono hb2.size)
        clear hek1 hek2 hdE hq1 hx1 hbx
        go_wp2
        go_ret2
        exact ⟨none, 0, [], er, rfl, nil_txs _ _, fun _ => rfl, Or.inr ⟨he, hE2.out, rfl⟩, (fun b o e => by cases e), (fun x hx => by cases hx), hb3⟩
    · have hkl : k = ss.length := by omega
      have hE2 : Hid (eachE decE (bl ss) = .ok (dl l)) := by
        have h := hE.out
        rw [List.take_of_length_le (by simp [bl]; omega)] at h
        exact h
      obtain ⟨qa, qc, rfl, hqn, hqt⟩ := hq.form
      clear hE
      go_wp2
      go_ret2
      exact ⟨qa, qc, l, 0, rfl, hqt, hqn, Or.inl ⟨rfl, hE2.out⟩, (fun b o e => (hq.lt b (by rw [e]; rfl)).1), hold, hb⟩

/-- Decode hands back a batch and an error. -/
def GotBat (W : World) (r : Except Nat BatD) (e : Ending) (w : World) : Prop :=
  ∃ (a n : Int) (ao : Option Addr) (l : List TxM) (cap er : Nat), e = .returned (.tuple #[batV a n ao l.length cap, .int .i64 (er : Int)]) ∧ TxsAt w ao l ∧ (ao = none → cap = 0) ∧ ((er = 0 ∧ r = .ok ⟨a, n, dl l⟩) ∨ (er ≠ 0 ∧ r = .error er ∧ a = 0 ∧ n = 0 ∧ l = [])) ∧ Below W.heap.size W w

theorem gotBat_err {W w : World} {r : Except Nat BatD} {er : Nat} (h : r = .error er) (he : er ≠ 0) (hb : Below W.heap.size W w) (e : Ending) (hv : e = .returned (.tuple #[batV 0 0 none 0 0, .int .i64 (er : Int)])) : GotBat W r e w :=
  ⟨0, 0, none, [], 0, er, hv, nil_txs _ _, fun _ => rfl, Or.inr ⟨he, h, rfl, rfl, rfl⟩, hb⟩

/-- Decode hands back a batch, all of it new, and an error. -/
def GotBatN (W : World) (r : Except Nat BatD) (e : Ending) (w : World) : Prop :=
  ∃ (a n : Int) (ao : Option Addr) (l : List TxM) (cap er : Nat), e = .returned (.tuple #[batV a n ao l.length cap, .int .i64 (er : Int)]) ∧ TxsAt w ao l ∧ (ao = none → cap = 0) ∧ ((er = 0 ∧ r = .ok ⟨a, n, dl l⟩) ∨ (er ≠ 0 ∧ r = .error er ∧ a = 0 ∧ n = 0 ∧ l = [])) ∧
    (∀ b o, ao = some ⟨b, o, none⟩ → W.heap.size ≤ b) ∧ (∀ x ∈ l, x.Off (fun k => k < W.heap.size)) ∧ Below W.heap.size W w

theorem GotBatN.got {W w : World} {r : Except Nat BatD} {e : Ending} (h : GotBatN W r e w) : GotBat W r e w := by
  obtain ⟨a, n, ao, l, cap, er, h1, h2, h3, h4, _, _, h5⟩ := h
  exact ⟨a, n, ao, l, cap, er, h1, h2, h3, h4, h5⟩

theorem gotBatN_err {W w : World} {r : Except Nat BatD} {er : Nat} (h : r = .error er) (he : er ≠ 0) (hb : Below W.heap.size W w) (e : Ending) (hv : e = .returned (.tuple #[batV 0 0 none 0 0, .int .i64 (er : Int)])) : GotBatN W r e w :=
  ⟨0, 0, none, [], 0, er, hv, nil_txs _ _, fun _ => rfl, Or.inr ⟨he, h, rfl, rfl, rfl⟩, (fun b o e => by cases e), (fun x hx => by cases hx), hb⟩

set_option maxRecDepth 100000 in
set_option maxHeartbeats 4000000 in
theorem batDecode_new (s : ByteArray) (w : World) (hs : s.size ≤ maxLen) :
    Calls Tryz.prog 89 #[.string s] w fun e w' => GotBatN w (decBat s.data.toList) e w' := by
  have hZ := Arr.new w 26 [.int .i64 0, .int .i64 0, .slice none 0 0]
  have hB := belowNew w (.cells #[.int .i64 0, .int .i64 0, .slice none 0 0] 26)
  obtain ⟨out, hout⟩ : ∃ out, out = decBat s.data.toList := ⟨_, rfl⟩
  rw [← hout]
  unfold decBat at hout
  have hsz : Hid (s.size ≤ maxLen) := hs
  clear hs
  rcases hr0 : getInt s.data.toList with ⟨v0, k0, e0⟩
  have c0 := fun w1 => getInt_at s w1 v0 k0 e0 hsz.out hr0
  have H0 : Hid (out = _) := hout
  clear hout
  have hl0 : s.data.toList.length = s.size := by simp
  go_enter Tryz.func89, Tryz.ntmps89
  go_wp2_with fail
  refine (c0 _).mono ?_
  rintro e w1 ⟨rfl, rfl⟩
  clear c0
  by_cases he0 : e0 ≠ 0
  · have hout := H0.out
    rw [rdI_err hr0 he0] at hout
    have hfin := fun w' e hb hv => gotBatN_err (W := w) (w := w') (e := e) hout he0 hb hv
    have d0 : ((e0 : Int) != 0) = true := by rw [bne_iff_ne]; omega
    clear hout hr0 H0
    go_wp2
    refine bodyPost_ret (v := .tuple #[batV 0 0 none 0 0, .int .i64 (e0 : Int)]) (results_bat_tmp rfl _ _ w.heap.size 0 0 none 0 0 rfl hZ _ rfl) rfl ?_
    exact hfin _ _ hB rfl
  replace he0 : e0 = 0 := by omega
  subst he0
  obtain ⟨hv0, hk0, hk0'⟩ : v0 ≤ 4611686018427387903 ∧ k0 ≤ s.size ∧ (k0 : Int) ≤ s.size := by
    have hb := getInt_bounds _ v0 k0 hr0
    omega
  have hout := H0.out
  rw [rdI_ok hr0, ← extract_drop] at hout
  have hsz1 : Hid ((s.extract k0 s.size).size ≤ maxLen) := by have := hsz.out; show _ ≤ _; rw [ByteArray.size_extract]; omega
  obtain ⟨s1, hs1⟩ : ∃ q, s.extract k0 s.size = q := ⟨_, rfl⟩
  rw [hs1] at hout hsz1
  clear H0 hr0 hl0
  have hl1 : s1.data.toList.length = s1.size := by simp
  rcases hr1 : getInt s1.data.toList with ⟨v1, k1, e1⟩
  have c1 := fun w1 => getInt_at s1 w1 v1 k1 e1 hsz1.out hr1
  have H1 : Hid (out = _) := hout
  clear hout
  go_wp2_with fail
  refine (c1 _).mono ?_
  rintro e w1 ⟨rfl, rfl⟩
  clear c1
  by_cases he1 : e1 ≠ 0
  · have hout := H1.out
    rw [rdI_err hr1 he1] at hout
    have hfin := fun w' e hb hv => gotBatN_err (W := w) (w := w') (e := e) hout he1 hb hv
    have d0 : ((e1 : Int) != 0) = true := by rw [bne_iff_ne]; omega
    clear hout hr1 H1
    go_wp2
    refine bodyPost_ret (v := .tuple #[batV 0 0 none 0 0, .int .i64 (e1 : Int)]) (results_bat_tmp rfl _ _ w.heap.size 0 0 none 0 0 rfl hZ _ rfl) rfl ?_
    exact hfin _ _ hB rfl
  replace he1 : e1 = 0 := by omega
  subst he1
  obtain ⟨hv1, hk1, hk1'⟩ : v1 ≤ 4611686018427387903 ∧ k1 ≤ s1.size ∧ (k1 : Int) ≤ s1.size := by
    have hb := getInt_bounds _ v1 k1 hr1
    omega
  have hout := H1.out
  rw [rdI_ok hr1, ← extract_drop] at hout
  have hsz2 : Hid ((s1.extract k1 s1.size).size ≤ maxLen) := by have := hsz1.out; show _ ≤ _; rw [ByteArray.size_extract]; omega
  obtain ⟨s2, hs2⟩ : ∃ q, s1.extract k1 s1.size = q := ⟨_, rfl⟩
  rw [hs2] at hout hsz2
  clear H1 hr1 hl1
  have hl2 : s2.data.toList.length = s2.size := by simp
  rcases hr2 : getList s2.data.toList 16 with ⟨ts, k2, e2⟩
  have c2 := fun w1 => getListN s2 16 (by omega) w1 hsz2.out ts k2 e2 (by exact hr2)
  have H2 : Hid (out = _) := hout
  clear hout
  have hml : (mks ts).length = ts.length := by simp [mks]
  have hbm : bl (mks ts) = ts := bl_mks ts
  obtain ⟨ms, hms⟩ : ∃ q, q = mks ts := ⟨_, rfl⟩
  rw [← hms] at c2 hml hbm
  go_wp2_with fail
  refine (c2 _).mono ?_
  rintro e w2 ⟨a2, n2, rfl, hO2, hnn2, hb2⟩
  have hZ2 := hZ.below hb2 hZ.lt
  have hB2 := hB.trans (hb2.mono hB.size)
  clear hZ hB hb2 c2
  by_cases he2 : e2 ≠ 0
  · have hout := H2.out
    rw [rdL_err hr2 he2] at hout
    have d0 : ((e2 : Int) != 0) = true := by rw [bne_iff_ne]; omega
    have z0 := hZ2.cell (i := 0) rfl
    have z1 := hZ2.cell (i := 1) rfl
    have z2 := hZ2.cell (i := 2) rfl
    have g0 := hZ2.frozen 0
    have g1 := hZ2.frozen 1
    have g2 := hZ2.frozen 2
    have hZF := hZ2.set3 (.int .i64 0) (.int .i64 0) (.slice none 0 0)
    have hBF := below_set3 hB2 (g := w.heap.size) (Nat.le_refl _) (.int .i64 0) (.int .i64 0) (.slice none 0 0)
    have hfin := fun e hv => gotBatN_err (W := w) (e := e) hout he2 hBF hv
    unfold set3 at hZF hfin
    clear hout hr2 H2 hZ2 hB2 hBF hO2
    go_wp2
    refine bodyPost_ret (v := .tuple #[batV 0 0 none 0 0, .int .i64 (e2 : Int)]) (results_bat_tmp rfl _ _ w.heap.size 0 0 none 0 0 rfl hZF _ rfl) rfl ?_
    exact hfin _ rfl
  replace he2 : e2 = 0 := by omega
  subst he2
  have hgb := getList_back hr2
  have hk2 := hgb.2.2.1
  have hm16 := hgb.2.2.2.1
  have hmsz := hgb.2.2.2.2
  clear hgb
  rw [hl2] at hk2
  have hout := H2.out
  rw [rdL_ok hr2] at hout
  have hdr : Hid (s2.data.toList.drop k2 ≠ [] ↔ k2 < s2.size) := by
    show _ ↔ _
    rw [ne_eq, List.drop_eq_nil_iff, hl2]
    omega
  have c3 := fun w1 (h : StrsAt w1 a2 ms) => decodeAll_any a2 n2 ms w1 h (by rw [hms]; intro x hx; obtain ⟨t, ht, rfl⟩ := List.mem_map.1 hx; rw [size_mk]; have := hmsz t ht; unfold maxLen; omega) (by omega)
  rw [hbm, hml] at c3
  clear hbm hms hmsz hl2
  have H3 : Hid (out = _) := hout
  clear hout H2 hr2
  go_wp2_with fail
  refine (c3 _ hO2.at).mono ?_
  rintro e w3 ⟨a3, n3, l, er, rfl, hT3, hn3, hres, hfr3, hof3, hb3⟩
  have hnew : Hid ((∀ b o, a3 = some ⟨b, o, none⟩ → w.heap.size ≤ b) ∧ ∀ x ∈ l, x.Off (fun k => k < w.heap.size)) := ⟨fun b o e => Nat.le_trans hB2.size (hfr3 b o e), fun x hx => (hof3 x hx).mono (fun k hk => Nat.lt_of_lt_of_le hk hB2.size)⟩
  replace hfr3 : ∀ b o, a3 = some ⟨b, o, none⟩ → b ≠ w.heap.size := fun b o e => by have := hfr3 b o e; have := hZ2.lt; omega
  replace hof3 : ∀ x ∈ l, x.Off (fun k => k = w.heap.size) := fun x hx => (hof3 x hx).mono (fun k hk => by rw [hk]; exact hZ2.lt)
  have hZ3 := hZ2.below hb3 hZ2.lt
  have hB3 := hB2.trans (hb3.mono hB2.size)
  clear hZ2 hB2 hb3 c3 hO2
  have z0 := hZ3.cell (i := 0) rfl
  have z1 := hZ3.cell (i := 1) rfl
  have z2 := hZ3.cell (i := 2) rfl
  have g0 := hZ3.frozen 0
  have g1 := hZ3.frozen 1
  have g2 := hZ3.frozen 2
  have hZF := hZ3.set3 (.int .i64 0) (.int .i64 0) (.slice none 0 0)
  have hBF := below_set3 hB3 (g := w.heap.size) (Nat.le_refl _) (.int .i64 0) (.int .i64 0) (.slice none 0 0)
  rcases hres with ⟨rfl, hres⟩ | ⟨her, hres, rfl⟩
  rotate_left
  · have hout := H3.out
    rw [hres] at hout
    have d0 : ((er : Int) != 0) = true := by rw [bne_iff_ne]; omega
    have hfin := fun e hv => gotBatN_err (W := w) (e := e) hout her hBF hv
    unfold set3 at hZF hfin
    clear hout H3 hZ3 hB3 hBF hres
    go_wp2
    refine bodyPost_ret (v := .tuple #[batV 0 0 none 0 0, .int .i64 (er : Int)]) (results_bat_tmp rfl _ _ w.heap.size 0 0 none 0 0 rfl hZF _ rfl) rfl ?_
    exact hfin _ rfl
  have hout := H3.out
  rw [hres] at hout
  simp only at hout
  unfold finBat at hout
  clear H3
  by_cases hmore : k2 < s2.size
  · have hout2 := hout.trans (if_pos (hdr.out.2 hmore))
    have hfin := fun e hv => gotBatN_err (W := w) (e := e) hout2 (by decide) hBF hv
    have d0 : (k2 : Int) < (s2.size : Int) := by omega
    unfold set3 at hZF hfin
    clear hout hout2 hZ3 hB3 hBF hres
    go_wp2
    refine bodyPost_ret (v := .tuple #[batV 0 0 none 0 0, .int .i64 6]) (results_bat_tmp rfl _ _ w.heap.size 0 0 none 0 0 rfl hZF _ rfl) rfl ?_
    exact hfin _ rfl
  replace hout := hout.trans (if_neg (fun h => hmore (hdr.out.1 h)))
  have d0 : decide ((k2 : Int) < (s2.size : Int)) = false := decide_eq_false (by omega)
  have c4 := fun w1 (h : TxsAt w1 a3 l) => batCheck_any (v0 : Int) (v1 : Int) a3 l n3 w1 h
  have hout2 : out = (if checkB ⟨(v0 : Int), (v1 : Int), dl l⟩ ≠ 0 then .error (checkB ⟨(v0 : Int), (v1 : Int), dl l⟩) else .ok ⟨(v0 : Int), (v1 : Int), dl l⟩) := by
    rw [hout]
    by_cases h6 : (6 : Int) < (v0 : Int)
    · rw [if_pos h6]
      have hc : checkB ⟨(v0 : Int), (v1 : Int), dl l⟩ = 2 := if_pos (by show (v0 : Int) < 0 ∨ 6 < (v0 : Int) ∨ _; omega)
      rw [hc, if_pos (by decide)]
    · rw [if_neg h6]
  have H4 : Hid (out = _) := hout2
  clear hout hout2 hres hdr
  have hZ4 := hZ3.alloc (.cells (batC (v0 : Int) (v1 : Int) a3 l.length n3).toArray 26)
  have hB4 := hB3.alloc hB3.size (.cells (batC (v0 : Int) (v1 : Int) a3 l.length n3).toArray 26)
  have hN4 := Arr.new w3 26 (batC (v0 : Int) (v1 : Int) a3 l.length n3)
  have hT4 := hT3.below (belowNew w3 (.cells (batC (v0 : Int) (v1 : Int) a3 l.length n3).toArray 26))
  unfold batV at c4
  clear z0 z1 z2 g0 g1 g2 hZF hBF
  go_wp2_with fail
  refine (c4 _ hT4).mono ?_
  rintro e w5 ⟨rfl, hb5⟩
  have hZ5 := hZ4.below hb5 hZ4.lt
  have hN5 := hN4.below hb5 hN4.lt
  have hT5 := hT4.below hb5
  have hB5 := hB4.trans (hb5.mono hB4.size)
  clear hZ4 hN4 hT4 hB4 hb5 hZ3 hB3 hT3 c4
  have z0 := hZ5.cell (i := 0) rfl
  have z1 := hZ5.cell (i := 1) rfl
  have z2 := hZ5.cell (i := 2) rfl
  have g0 := hZ5.frozen 0
  have g1 := hZ5.frozen 1
  have g2 := hZ5.frozen 2
  by_cases hc : checkB ⟨(v0 : Int), (v1 : Int), dl l⟩ ≠ 0
  · have hout := H4.out.trans (if_pos hc)
    have hZF := hZ5.set3 (.int .i64 0) (.int .i64 0) (.slice none 0 0)
    have hBF := below_set3 hB5 (g := w.heap.size) (Nat.le_refl _) (.int .i64 0) (.int .i64 0) (.slice none 0 0)
    have hfin := fun e hv => gotBatN_err (W := w) (e := e) hout hc hBF hv
    generalize checkB ⟨(v0 : Int), (v1 : Int), dl l⟩ = er at hc hfin ⊢
    have d1 : ((er : Int) != 0) = true := by rw [bne_iff_ne]; omega
    unfold set3 at hZF hfin
    clear hout H4 hZ5 hB5 hBF
    go_wp2
    refine bodyPost_ret (v := .tuple #[batV 0 0 none 0 0, .int .i64 (er : Int)]) (results_bat_tmp rfl _ _ w.heap.size 0 0 none 0 0 rfl hZF _ rfl) rfl ?_
    exact hfin _ rfl
  have hout := H4.out.trans (if_neg hc)
  replace hc : checkB ⟨(v0 : Int), (v1 : Int), dl l⟩ = 0 := by omega
  rw [hc]
  have x0 := hN5.cell (i := 0) rfl
  have x1 := hN5.cell (i := 1) rfl
  have x2 := hN5.cell (i := 2) rfl
  have hZF := hZ5.set3 (.int .i64 (v0 : Int)) (.int .i64 (v1 : Int)) (.slice a3 l.length n3)
  have hBF := below_set3 hB5 (g := w.heap.size) (Nat.le_refl _) (.int .i64 (v0 : Int)) (.int .i64 (v1 : Int)) (.slice a3 l.length n3)
  have hTF : TxsAt (set3 w5 w.heap.size (.int .i64 (v0 : Int)) (.int .i64 (v1 : Int)) (.slice a3 l.length n3)) a3 l := hT5.set3 hfr3 hof3 _ _ _
  have hfin : ∀ e, e = .returned (.tuple #[batV (v0 : Int) (v1 : Int) a3 l.length n3, .int .i64 0]) → GotBatN w out e _ := fun e hv => ⟨_, _, _, _, _, 0, hv, hTF, hn3, Or.inl ⟨rfl, hout⟩, hnew.out.1, hnew.out.2, hBF⟩
  unfold set3 at hZF hfin
  clear hout H4 hZ5 hB5 hBF hTF hT5
  go_wp2
  refine bodyPost_ret (v := .tuple #[batV (v0 : Int) (v1 : Int) a3 l.length n3, .int .i64 0]) (results_bat_tmp rfl _ _ w.heap.size (v0 : Int) (v1 : Int) a3 l.length n3 rfl hZF _ rfl) rfl ?_
  exact hfin _ rfl

theorem batDecode_any (s : ByteArray) (w : World) (hs : s.size ≤ maxLen) :
    Calls Tryz.prog 89 #[.string s] w fun e w' => GotBat w (decBat s.data.toList) e w' := (batDecode_new s w hs).mono fun _ _ h => h.got
end Go.Proofs.YtaoiejgbbmjpkaaGreatDoor
