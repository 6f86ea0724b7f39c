/- Texts as one: KindsOpen, HdrOpen, HdrTagsEnc, Bld, BldFree, HdrEncode, HdrId. -/
import Derived.Test.YtmjkbdgcnoenbaaGreatDoorDz02
import Derived.Test.YtmjkbdgcnoenbaaGreatDoorDz05
import Derived.Deep.Slices
import Derived.Lib.SmallJoins
import Derived.Deep.RegionLaw
import Derived.Test.YtmjkbdgcnoenbaaGreatDoorDz01
import Derived.Test.YtmjkbdgcnoenbaaGreatDoorDz04
/- How a row of whatever elements that came in is opened. -/
namespace Go.Proofs.YtmjkbdgcnoenbaaGreatDoor
open Go.ChangeShapes Go.WideShapes Go.ChangeAt Go.RowKit Go.Joins Go.Deep
set_option linter.unusedVariables false

/-- How a row reads, its elements as Q says. -/
def RowD {H α : Type} (Q : DataW H → α → Prop) (d : DataW H) (l : List α) : Prop :=
  (d = .nil ∧ l = []) ∨ ∃ (ds rest : List (DataW H)), d = .slice ds rest ∧ ds.length = l.length ∧ ∀ (i : Nat) (y : DataW H) (x : α), ds[i]? = some y → l[i]? = some x → Q y x

set_option maxRecDepth 100000 in
theorem open_row {α : Type} [Inhabited α] (K : Kind α) {H : Type} {enc : TypeId × Value → H} {W : World} {T E : TypeId} (Q : DataW H → α → Prop) (hT : Tryz.prog.underlying T = some (.slice E)) (hE : Tryz.prog.cellsOf E = K.n)
    (opens : ∀ {fuel cs y}, DataW.trod enc Tryz.prog W 0 (fun _ => true) true fuel E cs = some y → ∃ x : α, cs = K.c x ∧ K.At W x ∧ Q y.1 x)
    {fuel : Nat} {a : Option Addr} {len cap : Nat} {y : DataW H × List MemPlace} (hf : DataW.trod enc Tryz.prog W 0 (fun _ => true) true fuel T [.slice a len cap] = some y) :
    ∃ l : List α, l.length = len ∧ RowAt K W a l ∧ (a = none → cap = 0) ∧ len ≤ maxLen ∧ RowD Q y.1 l := by
  rcases open_slice hT hf with ⟨hcs, hx⟩ | ⟨x, l, c, m, n, D, Pl, hcs, _, hl, hm, hmm, hx, hc⟩
  · simp at hcs
    obtain ⟨rfl, rfl, rfl⟩ := hcs
    exact ⟨[], rfl, nil_row _ _, fun _ => rfl, Nat.zero_le _, Or.inl ⟨by rw [hx], rfl⟩⟩
  · simp at hcs
    obtain ⟨rfl, rfl, rfl⟩ := hcs
    simp at hmm
    subst hmm
    have hall : ∀ i : Nat, ∃ q : α, i < len → (∀ j v, (K.c q)[j]? = some v → W.cell? (x.add (i * K.n + j)) = some v) ∧ K.At W q ∧ Q (D i) q := by
      intro i
      by_cases hi : i < len
      · obtain ⟨cs', h1, h2⟩ := hc i (by omega)
        rw [hE] at h1
        obtain ⟨_, hlen, hcell⟩ := World.cells?_some h1
        obtain ⟨q, rfl, q2, q3⟩ := opens h2
        refine ⟨q, fun _ => ⟨fun j v hv => ?_, q2, q3⟩⟩
        have hj : j < (K.c q).length := (List.getElem?_eq_some_iff.1 hv).1
        have := hcell j (by rw [K.len] at hj; exact hj)
        rw [add_add] at this
        rw [this, hv]
      · exact ⟨default, fun h => absurd h hi⟩
    obtain ⟨Y, hY⟩ := Classical.axiomOfChoice hall
    have hc0 : ∀ q : α, ∃ v, (K.c q)[0]? = some v := fun q => ⟨(K.c q)[0]'(by rw [K.len]; exact K.pos), List.getElem?_eq_getElem _⟩
    refine ⟨(List.range len).map Y, by simp, ⟨?_, ?_⟩, (fun h => by cases h), by omega, Or.inr ⟨_, _, by rw [hx], by simp, ?_⟩⟩
    · intro i q hq
      have hi : i < len := by
        by_cases hi : i < len
        · exact hi
        · rw [List.getElem?_eq_none (by simp; omega)] at hq
          cases hq
      obtain rfl : Y i = q := by simpa [hi] using hq
      obtain ⟨c0, q2, _⟩ := hY i hi
      obtain ⟨b, off, spot⟩ := x
      obtain ⟨v0, hv0⟩ := hc0 (Y 0)
      have hz := (hY 0 (by omega)).1 0 _ hv0
      have hspot : spot = none := by simpa [Addr.add] using World.cell?_spot hz
      subst hspot
      obtain ⟨v1, hv1⟩ := hc0 (Y i)
      have hb0 := c0 0 _ hv1
      rw [Go.WideShapes.add_plain] at hb0
      refine ⟨b, off, rfl, World.block_lt_of_cell? W _ hb0, fun j v hv => ?_⟩
      have := c0 j v hv
      rw [Go.WideShapes.add_plain] at this
      rw [← this, Nat.add_assoc]
    · intro q hq
      obtain ⟨i, hi, rfl⟩ := List.mem_map.1 hq
      exact (hY i (by simpa using hi)).2.1
    · intro i y' q hy hq
      have hi : i < len := by
        by_cases hi : i < len
        · exact hi
        · rw [List.getElem?_eq_none (by simp; omega)] at hq
          cases hq
      obtain rfl : Y i = q := by simpa [hi] using hq
      obtain rfl : D i = y' := by simpa [hi] using hy
      exact (hY i hi).2.2

theorem weightsAll_of {H : Type} {P : Program} {e : TypeId} : ∀ {l : List (DataW H)} {d : DataW H}, d ∈ l → ∀ n ∈ d.weights P e, n ∈ DataW.weightsAll P e l
  | [], d, h, _, _ => by cases h
  | x :: r, d, h, n, hn => by
    rw [List.mem_cons] at h
    rw [DataW.weightsAll, List.mem_append]
    rcases h with rfl | h
    · exact Or.inl hn
    · exact Or.inr (weightsAll_of h n hn)

/-- The sizes of a row's elements, and of the row. -/
theorem RowD.fit {H α : Type} {Q : DataW H → α → Prop} {d : DataW H} {l : List α} (hd : RowD Q d l) {T E : TypeId} (hT : Tryz.prog.underlying T = some (.slice E)) (h : ∀ n ∈ d.weights Tryz.prog T, n ≤ reachBytes) :
    l.length * Tryz.prog.bytesOf E ≤ reachBytes ∧ ∀ x ∈ l, ∃ y, Q y x ∧ ∀ n ∈ y.weights Tryz.prog E, n ≤ reachBytes := by
  rcases hd with ⟨rfl, rfl⟩ | ⟨ds, rest, rfl, hl, hq⟩
  · simp
  · refine ⟨?_, fun x hx => ?_⟩
    · have := h ((ds.length + rest.length) * Tryz.prog.bytesOf E) (by simp [DataW.weights, hT])
      rw [← hl]
      exact Nat.le_trans (Nat.mul_le_mul_right _ (by omega)) this
    · obtain ⟨i, hi⟩ := List.getElem?_of_mem hx
      have hi' : i < ds.length := by have := (List.getElem?_eq_some_iff.1 hi).1; omega
      refine ⟨ds[i], hq i ds[i] x (List.getElem?_eq_getElem hi') hi, fun n hn => h n ?_⟩
      rw [DataW.weights, hT]
      simp only [List.mem_cons, List.mem_append]
      exact Or.inr (Or.inl (weightsAll_of (List.getElem_mem hi') n hn))
end Go.Proofs.YtmjkbdgcnoenbaaGreatDoor

/- How tags, Refs and headers that came in are opened; their sizes. -/
namespace Go.Proofs.YtmjkbdgcnoenbaaGreatDoor
open Go.ChangeShapes Go.WideShapes Go.ChangeAt Go.RowKit Go.Joins Go.Deep
set_option linter.unusedVariables false

instance : Inhabited TagD := ⟨⟨0, ⟨#[]⟩⟩⟩
instance : Inhabited RefM := ⟨⟨⟨#[]⟩, [], none, 0⟩⟩

/-- How a text reads. -/
def StrQ {H : Type} (d : DataW H) (s : ByteArray) : Prop := d = .lit (.string s.data.toList) ∧ s.size ≤ maxLen

theorem StrQ.fit {H : Type} {y : DataW H} {s : ByteArray} (h : StrQ y s) {t : TypeId} (hw : ∀ n ∈ y.weights Tryz.prog t, n ≤ reachBytes) : s.size ≤ 140737488351232 := by
  have := hw s.data.toList.length (by rw [h.1]; simp [DataW.weights])
  simpa [reachBytes] using this

/-- How a tag reads. -/
def TagQ {H : Type} (d : DataW H) (t : TagD) : Prop := ∃ y0 y1, d = .agg [y0, y1] ∧ StrQ y1 t.mac

theorem list2x {α : Type} {l : List α} (h : l.length = 2) : ∃ c0 c1, l = [c0, c1] := by
  match l, h with
  | [c0, c1], _ => exact ⟨c0, c1, rfl⟩

theorem list4x {α : Type} {l : List α} (h : l.length = 4) : ∃ c0 c1 c2 c3, l = [c0, c1, c2, c3] := by
  match l, h with
  | [c0, c1, c2, c3], _ => exact ⟨c0, c1, c2, c3, rfl⟩

theorem cellsTag6 : Tryz.prog.cellsOf 42 = 2 := by kernel_rfl
theorem cellsInt6 : Tryz.prog.cellsOf 3 = 1 := by kernel_rfl
theorem cellsStr6 : Tryz.prog.cellsOf 9 = 1 := by kernel_rfl

set_option maxRecDepth 100000 in
theorem open_tag_cells {H : Type} {enc : TypeId × Value → H} {W : World} {fuel : Nat} {cs : List Value} {y : DataW H × List MemPlace}
    (hf : DataW.trod enc Tryz.prog W 0 (fun _ => true) true fuel 42 cs = some y) : ∃ t : TagD, cs = tagK.c t ∧ tagK.At W t ∧ TagQ y.1 t := by
  obtain ⟨xs, n, _, hx, hcl, hl, hg⟩ := DataW.trod_struct Tryz.underlying42 hf
  obtain ⟨c0, c1, rfl⟩ := list2x (hcl.trans cellsTag6)
  obtain ⟨y0, y1, rfl⟩ := list2x hl
  have g0 := hg 0 _ rfl
  have g1 := hg 1 _ rfl
  simp [cellsInt6, cellsStr6] at g0 g1
  obtain ⟨a0, e0, _, _⟩ := DataW.trod_int Tryz.underlying3 g0
  obtain ⟨a1, e1, hy1, s1⟩ := DataW.trod_string Tryz.underlying9 g1
  simp at e0 e1
  subst e0 e1
  refine ⟨⟨a0, a1⟩, rfl, trivial, y0.1, y1.1, ?_, by rw [hy1], s1⟩
  have := congrArg Prod.fst hx
  simpa using this

/-- What tags hold. -/
def tagsBulk (l : List TagD) : Nat := (l.map (fun t => t.mac.size + 1)).sum

theorem open_tagsK {H : Type} {enc : TypeId × Value → H} {W : World} {fuel : Nat} {a : Option Addr} {len cap : Nat} {y : DataW H × List MemPlace}
    (hf : DataW.trod enc Tryz.prog W 0 (fun _ => true) true fuel 46 [.slice a len cap] = some y) :
    ∃ l : List TagD, l.length = len ∧ RowAt tagK W a l ∧ (a = none → cap = 0) ∧ len ≤ maxLen ∧ RowD TagQ y.1 l :=
  open_row tagK TagQ Tryz.underlying46 cellsTag6 open_tag_cells hf

theorem txt_len_le (l : List UInt8) : (txt l).length ≤ 9 + l.length := by
  rw [txt, List.length_append]
  have := goInt_length (l.length : Int)
  omega

instance : Inhabited ByteArray := ⟨⟨#[]⟩⟩

theorem cellsTags6 : Tryz.prog.cellsOf 46 = 1 := by kernel_rfl
theorem cellsStrs6 : Tryz.prog.cellsOf 31 = 1 := by kernel_rfl
theorem bytesTag6 : Tryz.prog.bytesOf 42 = 24 := by kernel_rfl
theorem bytesStr6 : Tryz.prog.bytesOf 9 = 16 := by kernel_rfl
set_option maxRecDepth 100000 in
theorem open_str_cells {H : Type} {enc : TypeId × Value → H} {W : World} {fuel : Nat} {cs : List Value} {y : DataW H × List MemPlace}
    (hf : DataW.trod enc Tryz.prog W 0 (fun _ => true) true fuel 9 cs = some y) : ∃ s : ByteArray, cs = strK.c s ∧ strK.At W s ∧ StrQ y.1 s := by
  obtain ⟨a0, e0, hy0, s0⟩ := DataW.trod_string Tryz.underlying9 hf
  exact ⟨a0, e0, trivial, by rw [hy0], s0⟩
end Go.Proofs.YtmjkbdgcnoenbaaGreatDoor

/- What Tags of package header does; nothing old in memory is turned. -/
namespace Go.Proofs.YtmjkbdgcnoenbaaGreatDoor
open Go.RowKit
set_option linter.unusedVariables false

/-- Tags' members. -/
def memT (l : List TagD) : List ByteArray := l.map (fun t => ⟨(tagB t).toArray⟩)

theorem memT_length (l : List TagD) : (memT l).length = l.length := by simp [memT]

theorem bl_memT (l : List TagD) : bl (memT l) = l.map tagB := by simp [bl, memT]

theorem memT_succ (l : List TagD) (k : Nat) (t : TagD) (h : l[k]? = some t) : memT (l.take (k + 1)) = memT (l.take k) ++ [⟨(tagB t).toArray⟩] := by
  have hk := (List.getElem?_eq_some_iff.1 h).1
  have he := (List.getElem?_eq_some_iff.1 h).2
  rw [List.take_succ_eq_append_getElem hk, he]
  simp [memT]

theorem tag_join (t : TagD) : (⟨(goInt t.who).toArray⟩ ++ t.mac : ByteArray) = ⟨(tagB t).toArray⟩ := by
  apply ByteArray.ext
  simp [tagB]

theorem new_str (w : World) (s : ByteArray) : ∀ j u, (strK.c s)[j]? = some u → (w.alloc (.cells #[.string s] 9)).cell? ((⟨w.heap.size, 0, none⟩ : Addr).add j) = some u := by
  intro j u hu
  rw [Go.WideShapes.add_plain, Nat.zero_add]
  exact (Arr.new w 9 [.string s]).cell hu

set_option maxRecDepth 100000 in
set_option maxHeartbeats 1000000 in
theorem tags_any (ao : Option Addr) (cap : Nat) (l : List TagD) (w : World) (hA : RowAt tagK w ao l) (hn : l.length ≤ 1000000000) (hsz : ∀ t ∈ l, t.mac.size ≤ 140737488351232) (hlen : (tagsB l).length ≤ 140737488355328) :
    Calls Tryz.prog 89 #[.slice ao l.length cap] w fun e w' => e = .returned (.string ⟨(tagsB l).toArray⟩) ∧ Below w.heap.size w w' := by
  obtain ⟨i0, hi, hz0, hz1, hz2⟩ := info_parts infoString
  have Hlen : Hid ((tagsB l).length ≤ 140737488355328) := hlen
  clear hlen
  go_enter Tryz.func89, Tryz.ntmps89
  go_wp2
  go_loopw [3, 5, 8] (fun v3 v5 v8 wr => ∃ i : Nat, i ≤ l.length ∧ v8 = .int .i64 (i : Int) ∧ KQ strK 9 wr w.heap.size v3 (memT (l.take i)) ∧ Below w.heap.size w wr) (fun _ _ v _ => l.length - (intOf v).toNat)
  case atStart => exact ⟨0, Nat.zero_le _, rfl, KQ.empty _ _ _ _, Below.refl _ _⟩
  case round =>
    obtain ⟨i, hil, rfl, hq, hb⟩ := hrel
    by_cases hlt : i < l.length
    · obtain ⟨t, ht⟩ : ∃ t, l[i]? = some t := ⟨l[i], List.getElem?_eq_getElem hlt⟩
      obtain ⟨b, off, rfl, hbl, y0, y1⟩ := (hA.below hb).tag ht
      have hms := memT_succ l i t ht
      have hmz := hsz t (List.mem_of_getElem? ht)
      have hml : (memT (l.take i)).length = i := by rw [memT_length, List.length_take]; omega
      have hjo := tag_join t
      obtain ⟨nb, hnb⟩ : ∃ z, z = (⟨(goInt t.who).toArray⟩ : ByteArray) := ⟨_, rfl⟩
      obtain ⟨tb, htb⟩ : ∃ z, z = (⟨(tagB t).toArray⟩ : ByteArray) := ⟨_, rfl⟩
      have cI : Hid (∀ w1, Calls Tryz.prog 100 #[.int .i64 t.who] w1 fun e w2 => e = .returned (.string nb) ∧ Below w1.heap.size w1 w2) := by
        intro w1
        rw [hnb]
        exact int_any _ _
      have hnl : nb.size ≤ 9 := by rw [hnb, size_mk]; exact goInt_length _
      have hsum : ¬ (9223372036854775807 < nb.size + t.mac.size) := by omega
      rw [← hnb, ← htb] at hjo
      rw [← htb] at hms
      have Hms : Hid (memT (l.take (i + 1)) = memT (l.take i) ++ [tb]) := hms
      obtain ⟨ms, hmse⟩ : ∃ q, q = memT (l.take i) := ⟨_, rfl⟩
      rw [← hmse] at hq hml Hms
      clear hnb htb ht hms hmse
      have hbx := belowNew wr (.cells #[.int .i64 t.who, .string t.mac] 42)
      have hX := Arr.new wr 42 [.int .i64 t.who, .string t.mac]
      have hb2 := hb.trans (hbx.mono hb.size)
      have hq2 := hq.below hbx
      go_wp2_with fail
      obtain ⟨w1, hw1⟩ : ∃ q, wr.alloc (.cells #[.int .i64 t.who, .string t.mac] 42) = q := ⟨_, rfl⟩
      rw [hw1] at hX hb2 hq2 ⊢
      clear hw1 hbx hq hb y0 y1
      have x0 := hX.cell (i := 0) rfl
      have x1 := hX.cell (i := 1) rfl
      obtain ⟨qa, qc, rfl, hqn, _⟩ := hq2.form
      rw [hml] at hq2 ⊢
      go_region_law (first
        | (go_simp; go_at_call 100; refine (cI.out _).mono ?_; rintro e w2 ⟨rfl, hb3⟩; have hb4 : Below w1.heap.size w1 w2 := ((Below.refl _ w1).drew).trans hb3; have hX2 := hX.below hb4 hX.lt; have x0a := hX2.cell (i := 0) rfl; have x1a := hX2.cell (i := 1) rfl; have hbn := hb4.alloc hb4.size (.cells #[.string tb] 9); have hq4 := hq2.below hbn; have hN := new_str w2 tb; have hbs := (hb2.trans (hbn.mono hb2.size)).size)
        | (refine step_push (K := strK) _ (by rfl) _ _ 31 (by rfl) w.heap.size 9 i0 (.string ⟨#[]⟩) 16 Tryz.underlying31 hi hz0 hz1 hz2 rfl _ ms (by rfl) hq4 tb trivial (fun _ h => h.elim) ⟨w2.heap.size, 0, none⟩ 1 (by rfl) hN (by rw [hml]; unfold maxLen; omega) (by rw [hml]; omega) hbs ?_; intro ao3 cap3 w3 hq3 hk3))
      all_goals
        have hkB := Kept.below hk3 hbs (fun j hj => (hq4.lt j hj).1)
        have hbF := (hb2.trans (hbn.mono hb2.size)).trans hkB
        have hq5 : KQ strK 9 w3 w.heap.size (.slice ao3 (i + 1) cap3) (memT (l.take (i + 1))) := by rw [Hms.out, ← hml]; exact hq3
        clear hq3 hk3 hkB hq4 hN hbs hbn hX2 x0a x1a hb3 hb4 hq2 hb2 hX x0 x1
        go_wp2
        go_roundw
        case rel => exact ⟨i + 1, by omega, by go_num, hq5, hbF⟩
        case measure => simp [intOf]; omega
    · obtain rfl : i = l.length := by omega
      rw [List.take_length] at hq
      obtain ⟨qa, qc, rfl, hqn, hqt⟩ := hq.form
      have hlst : (lst (bl (memT l))).length ≤ 140737488355328 := by rw [bl_memT]; exact Hlen.out
      have cL := list_any qa qc (memT l) wr hqt.strs hlst (by rw [memT_length]; omega)
      have hml := memT_length l
      rw [hml] at cL ⊢
      have E : Hid ((⟨(lst (bl (memT l))).toArray⟩ : ByteArray) = ⟨(tagsB l).toArray⟩) := by show _ = _; rw [bl_memT]; rfl
      generalize (⟨(lst (bl (memT l))).toArray⟩ : ByteArray) = r at cL E
      clear hq hqt hlst hml
      go_wp2_with fail
      refine cL.mono ?_
      rintro e w1 ⟨rfl, hb1⟩
      have hbF := hb.trans (hb1.mono hb.size)
      clear cL
      go_wp2
      go_ret
      exact ⟨by rw [E.out]; rfl, hbF⟩
end Go.Proofs.YtmjkbdgcnoenbaaGreatDoor

/- A strings.Builder of the call's own at work. -/
namespace Go.Proofs.YtmjkbdgcnoenbaaGreatDoor
open Go.RowKit
set_option linter.unusedVariables false

/-- Block bb is a Builder of the call's own that holds l, block xb ahead of it still a row of the cells cs. -/
structure BldSt (W : World) (xb bb : Nat) (T : TypeId) (cs : List Value) (w : World) (l : List UInt8) : Prop where
  box : Arr w xb T cs
  ord : xb < bb
  bld : Lib.IsBuilder 183 5 bb bb (Lib.byteCells l) w
  bel : Below W.heap.size W w
  low : W.heap.size ≤ bb
  has : bb ≤ w.heap.size

theorem BldSt.new {W w : World} {xb : Nat} {T : TypeId} {cs : List Value} (hx : Arr w xb T cs) (hb : Below W.heap.size W w) :
    BldSt W xb w.heap.size T cs (w.alloc (.cells #[.pointer none, .slice none 0 0] 183)) [] :=
  ⟨hx.alloc _, hx.lt, Lib.fresh_isBuilder 183 5 w, hb.alloc hb.size _, hb.size, by rw [alloc_size]; omega⟩

theorem BldSt.call {W w w1 : World} {xb bb : Nat} {T : TypeId} {cs : List Value} {l : List UInt8} (h : BldSt W xb bb T cs w l) (hb : Below w.heap.size w w1) : BldSt W xb bb T cs w1 l :=
  ⟨h.box.below hb h.box.lt, h.ord, builder_keep h.bld hb, h.bel.trans (hb.mono h.bel.size), h.low, Nat.le_trans h.has hb.size⟩

theorem BldSt.write {W w : World} {xb bb : Nat} {T : TypeId} {cs : List Value} {l : List UInt8} (h : BldSt W xb bb T cs w l) (m : List UInt8) (hm : l.length + m.length ≤ 140737488355328) :
    Calls Tryz.prog 115 #[.pointer (some ⟨bb, 0, none⟩), .string ⟨m.toArray⟩] w fun e w' => e = .returned (.tuple #[.int .i64 m.length, .nilIface]) ∧ BldSt W xb bb T cs w' (l ++ m) := by
  refine (write_any bb bb _ ⟨m.toArray⟩ w h.bld (by rw [Lib.byteCells_length, size_mk]; exact hm) h.has).mono ?_
  rintro e w' ⟨rfl, h2, hb⟩
  refine ⟨by rw [size_mk], h.box.below hb h.ord, h.ord, Or.inr ?_, h.bel.trans (hb.mono h.low), h.low, Nat.le_trans h.has hb.size⟩
  rw [Lib.byteCells_append]
  rw [Lib.strCells_eq] at h2
  exact h2

theorem BldSt.read {W w : World} {xb bb : Nat} {T : TypeId} {cs : List Value} {l : List UInt8} (h : BldSt W xb bb T cs w l) (h0 : l ≠ []) :
    Calls Tryz.prog 117 #[.pointer (some ⟨bb, 0, none⟩)] w fun e w' => e = .returned (.string ⟨l.toArray⟩) ∧ Below W.heap.size W w' := by
  refine (string_any bb bb l w h.bld h0).mono ?_
  rintro e w' ⟨rfl, hb⟩
  exact ⟨rfl, h.bel.trans (hb.mono h.low)⟩
end Go.Proofs.YtmjkbdgcnoenbaaGreatDoor

/- A strings.Builder of the call's own at work beside other blocks of the call's own. -/
namespace Go.Proofs.YtmjkbdgcnoenbaaGreatDoor
open Go.RowKit
set_option linter.unusedVariables false

/-- Block g is neither the Builder's b nor its row's. -/
def BldOff (w : World) (b g : Nat) : Prop := g ≠ b ∧ ∀ p v T, w.heap[b]? = some (.cells #[p, v] T (0, 0)) → v.ownBlock ≠ some g

theorem BldOff.below {w w' : World} {b g : Nat} (h : BldOff w b g) (hb : Below w.heap.size w w') (hl : b < w.heap.size) : BldOff w' b g :=
  ⟨h.1, fun p v T he => h.2 p v T (by rw [← hb.block b hl]; exact he)⟩

theorem bld_lt {T e : TypeId} {B b : Nat} {bs : List Value} {w : World} (h : Lib.IsBuilder T e B b bs w) : b < w.heap.size := by
  rcases h with ⟨_, v, hb, _⟩ | ⟨_, v, hb, _⟩
  · exact (Array.getElem?_eq_some_iff.1 hb).1
  · exact (Array.getElem?_eq_some_iff.1 hb).1

/-- What is new is apart from a Builder. -/
theorem BldOff.new {T e : TypeId} {B b : Nat} {bs : List Value} {w : World} (h : Lib.IsBuilder T e B b bs w) {g : Nat} (hg : w.heap.size ≤ g) : BldOff w b g := by
  have hl := bld_lt h
  refine ⟨by omega, fun p v T' he => ?_⟩
  rcases h with ⟨_, v', hb, hown, _⟩ | ⟨_, v', hb, hown, _⟩
  · rw [hb] at he
    simp at he
    intro ho
    have := (hown.lt g (by rw [he.1.2]; exact ho)).2
    omega
  · rw [hb] at he
    simp at he
    intro ho
    have := (hown.lt g (by rw [he.1.2]; exact ho)).2
    omega

theorem copyCheck_free (B b : Nat) (bs : List Value) (w : World) (h : Lib.IsBuilder 183 5 B b bs w) :
    Calls Tryz.prog 141 #[.pointer (some ⟨b, 0, none⟩)] w fun e w' => e = .returned (.tuple #[]) ∧ (Lib.BuilderAt 183 5 B b (.pointer (some ⟨b, 0, none⟩)) bs w' ∧ Below B w w') ∧ w.heap.size ≤ w'.heap.size ∧ ∀ g, BldOff w b g → w'.heap[g]? = w.heap[g]? ∧ BldOff w' b g := by
  rcases h with h | h
  · refine (copyCheck_fresh b w h.cell0 h.shape h.frozen0).mono ?_
    rintro e w' ⟨rfl, rfl⟩
    have hu := h.used (.pointer (some ⟨b, 0, none⟩))
    refine ⟨rfl, ⟨h.used _, (Below.refl B w).setCell (p := ⟨b, 0, none⟩) h.1 _⟩, by rw [setCell_size]; omega, fun g hg => ⟨Below.heap_setCell w ⟨b, 0, none⟩ _ g hg.1, hg.1, fun p v T he => ?_⟩⟩
    obtain ⟨_, v', hb', _⟩ := h
    have := (Arr.set (show Arr w b 183 [.pointer none, v'] from hb') 0 (.pointer (some ⟨b, 0, none⟩)))
    unfold Arr at this
    rw [this] at he
    simp at he
    rw [← he.1.2]
    exact hg.2 _ _ _ hb'
  · refine (copyCheck_used b w h.cell0).mono ?_
    rintro e w' ⟨rfl, rfl⟩
    exact ⟨rfl, ⟨h, Below.refl B _⟩, Nat.le_refl _, fun g hg => ⟨rfl, hg⟩⟩

set_option maxRecDepth 100000 in
set_option maxHeartbeats 400000 in
theorem write_free (B b : Nat) (bs : List Value) (s : ByteArray) (w : World) (h : Lib.IsBuilder 183 5 B b bs w) (hlen : bs.length + s.size ≤ 140737488355328) (hBw : B ≤ w.heap.size) :
    Calls Tryz.prog 115 #[.pointer (some ⟨b, 0, none⟩), .string s] w fun e w' => e = .returned (.tuple #[.int .i64 s.size, .nilIface]) ∧ (Lib.BuilderAt 183 5 B b (.pointer (some ⟨b, 0, none⟩)) (bs ++ Lib.strCells s) w' ∧ Below B w w') ∧ w.heap.size ≤ w'.heap.size ∧ ∀ g, g < w.heap.size → BldOff w b g → w'.heap[g]? = w.heap[g]? := by
  obtain ⟨i0, hi, hz0, hz1, hz2⟩ := info_parts infoByte
  go_enter Tryz.func115, Tryz.ntmps115
  go_wp2_with fail
  refine (copyCheck_free B b bs _ h).mono ?_
  rintro e w1 ⟨rfl, ⟨h1, hb1⟩, hz, hoff⟩
  obtain ⟨hB, v, hbk, hown, hne⟩ := h1
  have c1 : w1.cell? ⟨b, 1, none⟩ = some v := by rw [Lib.cell_of_heap hbk]; rfl
  go_wp2_with (at_builtin; refine Lib.wpList_append_own_string _ rfl _ _ 181 9 rfl B 5 i0 Tryz.underlying181 Tryz.underlying9 hi hz0 hz1 hz2 _ _ _ rfl hown s rfl ?c3 ?c4 ?c5 ?_)
  case c3 => unfold maxLen; omega
  case c4 => omega
  case c5 => have := hb1.size; omega
  intro v' w2 hown' hgrow _
  have hlt : b < w1.heap.size := (Array.getElem?_eq_some_iff.1 hbk).1
  have hb2 : w2.heap[b]? = some (.cells #[.pointer (some ⟨b, 0, none⟩), v] 183 (0, 0)) := by
    rw [hgrow.block b hlt (fun e => hne e.symm)]
    exact hbk
  have d1 : w2.cell? ⟨b, 1, none⟩ = some v := by rw [Lib.cell_of_heap hb2]; rfl
  have f1 : w2.frozen? ⟨b, 1, none⟩ = false := Lib.frozen_of_heap hb2 1
  obtain ⟨ao, n', cap, rfl⟩ : ∃ ao n' cap, v' = .slice ao n' cap := by
    rcases hown'.2 with ⟨hv, _⟩ | ⟨g, cap, cur, hv, _⟩
    · exact ⟨_, _, _, hv⟩
    · exact ⟨_, _, _, hv⟩
  have fin1 : Lib.BuilderAt 183 5 B b (.pointer (some ⟨b, 0, none⟩)) (bs ++ Lib.strCells s) (w2.setCell ⟨b, 1, none⟩ (.slice ao n' cap)) :=
    Lib.BuilderAt.put (T := 183) (e := 5) hB hb2 (bs' := bs ++ Lib.strCells s) (by simpa [Lib.strCells_length] using hown') (by decide)
  have fin2 : Below B w (w2.setCell ⟨b, 1, none⟩ (.slice ao n' cap)) :=
    (hb1.grown hgrow (by have := hb1.size; omega) (fun k hk => (hown.lt k hk).1)).setCell (p := ⟨b, 1, none⟩) hB _
  have fin3 : Hid (w.heap.size ≤ (w2.setCell ⟨b, 1, none⟩ (.slice ao n' cap)).heap.size ∧ ∀ g, g < w.heap.size → BldOff w b g → (w2.setCell ⟨b, 1, none⟩ (.slice ao n' cap)).heap[g]? = w.heap[g]?) := by
    refine ⟨by rw [setCell_size]; have := hgrow.size; omega, fun g hg ho => ?_⟩
    obtain ⟨e1, o1⟩ := hoff g ho
    rw [Below.heap_setCell w2 ⟨b, 1, none⟩ _ g ho.1, hgrow.block g (by omega) (fun e => o1.2 _ _ _ hbk e.symm), e1]
  clear hown' hgrow hown hbk hb2 hb1 h hne hlt c1 hoff hz
  go_wp2
  go_ret2
  exact ⟨rfl, ⟨fin1, fin2⟩, fin3.out⟩

theorem BldSt.writeF {W w : World} {xb bb : Nat} {T : TypeId} {cs : List Value} {l : List UInt8} (h : BldSt W xb bb T cs w l) (m : List UInt8) (hm : l.length + m.length ≤ 140737488355328) :
    Calls Tryz.prog 115 #[.pointer (some ⟨bb, 0, none⟩), .string ⟨m.toArray⟩] w fun e w' => e = .returned (.tuple #[.int .i64 m.length, .nilIface]) ∧ BldSt W xb bb T cs w' (l ++ m) ∧ w.heap.size ≤ w'.heap.size ∧ ∀ g, g < w.heap.size → BldOff w bb g → w'.heap[g]? = w.heap[g]? := by
  refine (write_free bb bb _ ⟨m.toArray⟩ w h.bld (by rw [Lib.byteCells_length, size_mk]; exact hm) h.has).mono ?_
  rintro e w' ⟨rfl, ⟨h2, hb⟩, hz, hg⟩
  refine ⟨by rw [size_mk], ⟨h.box.below hb h.ord, h.ord, Or.inr ?_, h.bel.trans (hb.mono h.low), h.low, Nat.le_trans h.has hb.size⟩, hz, hg⟩
  rw [Lib.byteCells_append]
  rw [Lib.strCells_eq] at h2
  exact h2
end Go.Proofs.YtmjkbdgcnoenbaaGreatDoor

/- What package header's Encode does; nothing old in memory is turned. -/
namespace Go.Proofs.YtmjkbdgcnoenbaaGreatDoor
open Go.RowKit
set_option linter.unusedVariables false

/-- The bytes up to the k-th Ref. -/
def preH (x : HdrM) (k : Nat) : List UInt8 := goInt x.author ++ goInt x.round ++ goInt (x.refs.length : Int) ++ ((rd x.refs).take k).flatMap refB

theorem encH_eq (x : HdrM) : encH x.d = preH x x.refs.length ++ lst (bl x.parents) := by
  have e : (rd x.refs).take x.refs.length = rd x.refs := List.take_of_length_le (by rw [rd_length]; omega)
  unfold preH
  rw [e]
  simp [encH, HdrM.d, rd_length]

theorem preH_succ (x : HdrM) (k : Nat) (r : RefM) (h : x.refs[k]? = some r) : preH x (k + 1) = preH x k ++ txt r.digest.data.toList ++ tagsB r.acks := by
  have hk := (List.getElem?_eq_some_iff.1 h).1
  have hr : (rd x.refs)[k]? = some r.d := by simp [rd, h]
  obtain ⟨hk2, he⟩ := List.getElem?_eq_some_iff.1 hr
  unfold preH
  rw [List.take_succ_eq_append_getElem hk2, he, List.flatMap_append]
  simp [refB, RefM.d]

theorem preH_le (x : HdrM) (k : Nat) : (preH x k).length ≤ (encH x.d).length := by
  have h : (rd x.refs).flatMap refB = ((rd x.refs).take k).flatMap refB ++ ((rd x.refs).drop k).flatMap refB := by rw [← List.flatMap_append, List.take_append_drop]
  have e : encH x.d = goInt x.author ++ goInt x.round ++ goInt (x.refs.length : Int) ++ (rd x.refs).flatMap refB ++ lst (bl x.parents) := by simp [encH, HdrM.d, rd_length]
  rw [e, h, preH]
  simp only [List.length_append]
  omega

theorem preH_ne (x : HdrM) (k : Nat) (h : x.refs.length ≤ 4611686018427387903) : preH x k ≠ [] := by
  have := goInt_ne x.refs.length h
  unfold preH
  intro e
  simp at e
  exact this e.2.2.1

/-- What a header holds is no more than a machine takes. -/
structure HdrM.Fit (x : HdrM) : Prop where
  n : x.refs.length ≤ 1000000000
  p : x.parents.length ≤ 1000000000
  acks : ∀ r ∈ x.refs, r.acks.length ≤ 1000000000
  mac : ∀ r ∈ x.refs, ∀ t ∈ r.acks, t.mac.size ≤ 140737488351232
  len : (encH x.d).length ≤ 140737488355328

set_option maxRecDepth 100000 in
set_option maxHeartbeats 2000000 in
theorem hdrEncode_any (x : HdrM) (w : World) (hA : x.At w) (hf : x.Fit) :
    Calls Tryz.prog 80 #[x.v] w fun e w' => e = .returned (.string ⟨(encH x.d).toArray⟩) ∧ Below w.heap.size w w' := by
  have hX := Arr.new w 33 x.c
  have hB := belowNew w (.cells x.c.toArray 33)
  have st := BldSt.new hX hB
  rw [alloc_size] at st
  obtain ⟨out, hout⟩ : ∃ out, Hid (out = (⟨(encH x.d).toArray⟩ : ByteArray)) := ⟨_, rfl⟩
  rw [← hout.out]
  have hn := hf.n
  have hpn := hf.p
  have HL : Hid (∀ k, (preH x k).length ≤ 140737488355328) := fun k => Nat.le_trans (preH_le x k) hf.len
  have HP : Hid ((preH x x.refs.length).length + (lst (bl x.parents)).length ≤ 140737488355328) := by
    have := hf.len
    rw [encH_eq, List.length_append] at this
    exact this
  have HE : Hid (encH x.d = _) := encH_eq x
  have HK := hf.acks
  have HM := hf.mac
  have HS : Hid (∀ k r, x.refs[k]? = some r → preH x (k + 1) = preH x k ++ txt r.digest.data.toList ++ tagsB r.acks) := fun k r h => preH_succ x k r h
  have HN : Hid (∀ k, preH x k ≠ []) := fun k => preH_ne x k (by omega)
  have H0 : Hid (preH x 0 = goInt x.author ++ goInt x.round ++ goInt (x.refs.length : Int)) := by show _ = _; simp [preH]
  have g0 := goInt_length x.author
  have g1 := goInt_length x.round
  have g2 := goInt_length (x.refs.length : Int)
  have C0 := fun w1 => int_any x.author w1
  have C1 := fun w1 => int_any x.round w1
  have C2 := fun w1 => int_any (x.refs.length : Int) w1
  obtain ⟨au, ro, ra, rs, rc, pa, ps, pc⟩ := x
  have hA1 : RowAt refK w ra rs := hA.refs
  have hA2 : RowAt strK w pa ps := hA.ps
  obtain ⟨pre, hpre⟩ : ∃ q, q = preH ⟨au, ro, ra, rs, rc, pa, ps, pc⟩ := ⟨_, rfl⟩
  rw [← hpre] at HL HP HE HS HN H0
  clear hX hB hf hA hpre
  unfold HdrM.v
  unfold HdrM.c at st
  simp only at st hn hpn HL HP HE HK HM HS HN H0 g0 g1 g2 C0 C1 C2 ⊢
  generalize goInt au = l0 at *
  generalize goInt ro = l1 at *
  generalize goInt (rs.length : Int) = l2 at *
  have hlen : Hid (l0.length ≤ 9 ∧ l1.length ≤ 9 ∧ l2.length ≤ 9) := ⟨g0, g1, g2⟩
  clear g0 g1 g2
  go_enter Tryz.func80, Tryz.ntmps80
  have c0 := st.box.cell (i := 0) rfl
  go_wp2_with fail
  refine (C0 _).mono ?_
  rintro e w2 ⟨rfl, hb⟩
  replace st := st.call hb
  clear hb c0 C0
  go_wp2_with fail
  refine (st.write l0 (by have := hlen.out; simp; omega)).mono ?_
  rintro e w3 ⟨rfl, st2⟩
  clear st
  have c1 := st2.box.cell (i := 1) rfl
  go_wp2_with fail
  refine (C1 _).mono ?_
  rintro e w2 ⟨rfl, hb⟩
  replace st2 := st2.call hb
  clear hb c1 C1
  go_wp2_with fail
  refine (st2.write l1 (by have := hlen.out; simp; omega)).mono ?_
  rintro e w3 ⟨rfl, st3⟩
  clear st2
  have c2 := st3.box.cell (i := 2) rfl
  go_wp2_with fail
  refine (C2 _).mono ?_
  rintro e w2 ⟨rfl, hb⟩
  replace st3 := st3.call hb
  clear hb c2 C2
  go_wp2_with fail
  refine (st3.write l2 (by have := hlen.out; simp; omega)).mono ?_
  rintro e w3 ⟨rfl, st4⟩
  clear st3
  rw [List.nil_append, ← H0.out] at st4
  have c2 := st4.box.cell (i := 2) rfl
  go_wp2
  go_loopw [5, 22] (fun v5 v22 wr => ∃ k : Nat, k ≤ rs.length ∧ v22 = .int .i64 (k : Int) ∧ BldSt w w.heap.size (w.heap.size + 1) 33 [.int .i64 au, .int .i64 ro, .slice ra rs.length rc, .slice pa ps.length pc] wr (pre k)) (fun _ v _ => rs.length - (intOf v).toNat)
  case atStart => exact ⟨0, Nat.zero_le _, rfl, st4⟩
  case round =>
    clear st4 c2 H0
    obtain ⟨k, hk, rfl, st⟩ := hrel
    by_cases hlt : k < rs.length
    · obtain ⟨r, hr⟩ : ∃ r, rs[k]? = some r := ⟨rs[k], List.getElem?_eq_getElem hlt⟩
      obtain ⟨b, off, rfl, hbl, y0, y1⟩ := (hA1.below st.bel).ref hr
      have hrt := ((hA1.below st.bel).at_ r (List.mem_of_getElem? hr)).1
      have HMem : Hid (r ∈ rs) := List.mem_of_getElem? hr
      have hs1 := HS.out k r hr
      have hlk := HL.out (k + 1)
      rw [hs1] at hlk
      simp only [List.length_append] at hlk
      have hdl : r.digest.size ≤ (txt r.digest.data.toList).length := by rw [txt, List.length_append]; simp
      have cT := fun w1 => text_any r.digest w1 (by omega)
      have cG := fun w1 h => tags_any r.ao r.cap r.acks w1 h (HK r (List.mem_of_getElem? hr)) (HM r (List.mem_of_getElem? hr)) (by omega)
      have Hs1 : Hid (pre (k + 1) = _) := hs1
      generalize txt r.digest.data.toList = m0 at *
      generalize tagsB r.acks = m1 at *
      have hlk' : Hid ((pre k).length + m0.length + m1.length ≤ 140737488355328) := hlk
      clear hlk hdl hs1 hr
      have hbx := belowNew wr (.cells #[.string r.digest, .slice r.ao r.acks.length r.cap] 94)
      have hX := Arr.new wr 94 [.string r.digest, .slice r.ao r.acks.length r.cap]
      have st1 := st.call hbx
      have hrt1 := hrt.below hbx
      have hoff0 : BldOff _ (w.heap.size + 1) wr.heap.size := (BldOff.new st.bld (Nat.le_refl _)).below hbx (bld_lt st.bld)
      clear st hrt
      have x0 := hX.cell (i := 0) rfl
      have x1 := hX.cell (i := 1) rfl
      have hwl := st1.bel.size
      go_wp2_with fail
      refine (cT _).mono ?_
      rintro e w2 ⟨rfl, hb⟩
      have hoff1 := hoff0.below hb (bld_lt st1.bld)
      have st2 := st1.call hb
      have hX2 := hX.below hb hX.lt
      clear st1 hX hrt1 hb cT x0 x1 y0 y1 hoff0
      go_wp2_with fail
      have hxl := hX2.lt
      refine (st2.writeF m0 (by have := hlk'.out; omega)).mono ?_
      rintro e w3 ⟨rfl, st3, hz3, hg3⟩
      have hX3 : Arr w3 wr.heap.size 94 [.string r.digest, .slice r.ao r.acks.length r.cap] := by
        have := hg3 wr.heap.size hxl hoff1
        unfold Arr at hX2 ⊢
        rw [this]
        exact hX2
      have hrt3 := ((hA1.below st3.bel).at_ r (HMem.out)).1
      clear st2 hX2 hoff1 hg3
      have x1 := hX3.cell (i := 1) rfl
      go_wp2_with fail
      refine (cG _ hrt3).mono ?_
      rintro e w4 ⟨rfl, hb⟩
      have st4 := st3.call hb
      clear st3 hb cG x1 hX3 hrt3
      go_wp2_with fail
      refine (st4.write m1 (by have := hlk'.out; simp; omega)).mono ?_
      rintro e w5 ⟨rfl, st5⟩
      clear st4
      rw [← Hs1.out] at st5
      go_wp2
      go_roundw
      case rel => exact ⟨k + 1, by omega, by go_num, st5⟩
      case measure => simp [intOf]; omega
    · obtain rfl : k = rs.length := by omega
      have c3 := st.box.cell (i := 3) rfl
      have hPz := HP.out
      have cL := list_any pa pc ps wr (hA2.below st.bel).strs (by omega) (by omega)
      generalize lst (bl ps) = m2 at *
      clear hPz
      go_wp2_with fail
      refine cL.mono ?_
      rintro e w2 ⟨rfl, hb⟩
      have st2 := st.call hb
      clear st hb cL c3
      go_wp2_with fail
      refine (st2.write m2 (HP.out)).mono ?_
      rintro e w3 ⟨rfl, st3⟩
      clear st2
      go_wp2_with fail
      refine (st3.read (by have := HN.out rs.length; intro e; simp at e; exact this e.1)).mono ?_
      rintro e w4 ⟨rfl, hb4⟩
      go_wp2
      go_ret
      exact ⟨by rw [hout.out, HE.out]; rfl, hb4⟩
end Go.Proofs.YtmjkbdgcnoenbaaGreatDoor

/- What header.Id does; nothing old in memory is turned. -/
namespace Go.Proofs.YtmjkbdgcnoenbaaGreatDoor
open Go.RowKit
set_option linter.unusedVariables false

set_option maxRecDepth 100000 in
set_option maxHeartbeats 1000000 in
theorem hdrId_any (x : HdrM) (w : World) (hA : x.At w) (hf : x.Fit) (hl : (encH x.d).length ≤ 140737488351232) (hG : Mx.Glob w) :
    Calls Tryz.prog 53 #[x.v] w fun e w' => e = .returned (.string (Mx.bytes (Mx.sumL (encH x.d)))) ∧ Below w.heap.size w w' := by
  have hX := Arr.new w 33 x.c
  have hB := belowNew w (.cells x.c.toArray 33)
  have cE := hdrEncode_any x _ (hA.below hB) hf
  obtain ⟨eb, heb⟩ : ∃ q, q = (⟨(encH x.d).toArray⟩ : ByteArray) := ⟨_, rfl⟩
  have hes : eb.size ≤ 140737488351232 := by rw [heb, size_mk]; exact hl
  have cS := fun w1 hg => Mx.sum_any eb w1 hes hg
  have HE : Hid (Mx.bytes (Mx.sumL (encH x.d)) = Mx.bytes (Mx.sumL eb.data.toList)) := by show _ = _; rw [heb]
  rw [← heb] at cE
  obtain ⟨out, hout⟩ : ∃ q, Hid (q = Mx.bytes (Mx.sumL (encH x.d))) := ⟨_, rfl⟩
  rw [← hout.out]
  have hG1 := hG.below hB
  clear heb hes hA hf hl hG
  unfold HdrM.v at cE ⊢
  unfold HdrM.c at hX hB hG1 cE
  have x0 := hX.cell (i := 0) rfl
  have x1 := hX.cell (i := 1) rfl
  have x2 := hX.cell (i := 2) rfl
  have x3 := hX.cell (i := 3) rfl
  go_enter Tryz.func53, Tryz.ntmps53
  go_wp2_with fail
  refine cE.mono ?_
  rintro e w1 ⟨rfl, hb1⟩
  have hB1 := hB.trans (hb1.mono hB.size)
  have hG2 := hG1.below hb1
  clear cE hX hB hG1 x0 x1 x2 x3 hb1
  go_wp2_with fail
  refine (cS _ hG2).mono ?_
  rintro e w2 ⟨rfl, hb2⟩
  have hB2 := hB1.trans (hb2.mono hB1.size)
  clear cS hB1 hb2 hG2
  go_wp2
  go_ret
  exact ⟨by rw [hout.out, HE.out]; rfl, hB2⟩
end Go.Proofs.YtmjkbdgcnoenbaaGreatDoor
