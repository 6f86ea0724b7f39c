/- Texts as one: KindsOpen, HdrOpen, BlkEncode. -/
import Derived.Test.YtaoiejgbbmjpkaaGreatDoorWk03
import Derived.Test.YtaoiejgbbmjpkaaGreatDoorWk04
import Derived.Deep.Slices
import Derived.Lib.SmallJoins
import Derived.Test.YtaoiejgbbmjpkaaGreatDoorWk06
import Derived.Lib.QuietBelow
import Derived.BigQuiet
/- How a row of whatever elements that came in is opened. -/
namespace Go.Proofs.YtaoiejgbbmjpkaaGreatDoor
open Go.ChangeShapes Go.WideShapes Go.ChangeAt Go.RowKit Go.Joins Go.Deep
set_option linter.unusedVariables false

/-- How a row reads, its elements as Q says. -/
def RowD {H α : Type} (Q : DataW H → α → Prop) (d : DataW H) (l : List α) : Prop :=
  (d = .nil ∧ l = []) ∨ ∃ (ds rest : List (DataW H)), d = .slice ds rest ∧ ds.length = l.length ∧ ∀ (i : Nat) (y : DataW H) (x : α), ds[i]? = some y → l[i]? = some x → Q y x

set_option maxRecDepth 100000 in
theorem open_row {α : Type} [Inhabited α] (K : Kind α) {H : Type} {enc : TypeId × Value → H} {W : World} {T E : TypeId} (Q : DataW H → α → Prop) (hT : Tryz.prog.underlying T = some (.slice E)) (hE : Tryz.prog.cellsOf E = K.n)
    (opens : ∀ {fuel cs y}, DataW.trod enc Tryz.prog W 0 (fun _ => true) true fuel E cs = some y → ∃ x : α, cs = K.c x ∧ K.At W x ∧ Q y.1 x)
    {fuel : Nat} {a : Option Addr} {len cap : Nat} {y : DataW H × List MemPlace} (hf : DataW.trod enc Tryz.prog W 0 (fun _ => true) true fuel T [.slice a len cap] = some y) :
    ∃ l : List α, l.length = len ∧ RowAt K W a l ∧ (a = none → cap = 0) ∧ len ≤ maxLen ∧ RowD Q y.1 l := by
  rcases open_slice hT hf with ⟨hcs, hx⟩ | ⟨x, l, c, m, n, D, Pl, hcs, _, hl, hm, hmm, hx, hc⟩
  · simp at hcs
    obtain ⟨rfl, rfl, rfl⟩ := hcs
    exact ⟨[], rfl, nil_row _ _, fun _ => rfl, Nat.zero_le _, Or.inl ⟨by rw [hx], rfl⟩⟩
  · simp at hcs
    obtain ⟨rfl, rfl, rfl⟩ := hcs
    simp at hmm
    subst hmm
    have hall : ∀ i : Nat, ∃ q : α, i < len → (∀ j v, (K.c q)[j]? = some v → W.cell? (x.add (i * K.n + j)) = some v) ∧ K.At W q ∧ Q (D i) q := by
      intro i
      by_cases hi : i < len
      · obtain ⟨cs', h1, h2⟩ := hc i (by omega)
        rw [hE] at h1
        obtain ⟨_, hlen, hcell⟩ := World.cells?_some h1
        obtain ⟨q, rfl, q2, q3⟩ := opens h2
        refine ⟨q, fun _ => ⟨fun j v hv => ?_, q2, q3⟩⟩
        have hj : j < (K.c q).length := (List.getElem?_eq_some_iff.1 hv).1
        have := hcell j (by rw [K.len] at hj; exact hj)
        rw [add_add] at this
        rw [this, hv]
      · exact ⟨default, fun h => absurd h hi⟩
    obtain ⟨Y, hY⟩ := Classical.axiomOfChoice hall
    have hc0 : ∀ q : α, ∃ v, (K.c q)[0]? = some v := fun q => ⟨(K.c q)[0]'(by rw [K.len]; exact K.pos), List.getElem?_eq_getElem _⟩
    refine ⟨(List.range len).map Y, by simp, ⟨?_, ?_⟩, (fun h => by cases h), by omega, Or.inr ⟨_, _, by rw [hx], by simp, ?_⟩⟩
    · intro i q hq
      have hi : i < len := by
        by_cases hi : i < len
        · exact hi
        · rw [List.getElem?_eq_none (by simp; omega)] at hq
          cases hq
      obtain rfl : Y i = q := by simpa [hi] using hq
      obtain ⟨c0, q2, _⟩ := hY i hi
      obtain ⟨b, off, spot⟩ := x
      obtain ⟨v0, hv0⟩ := hc0 (Y 0)
      have hz := (hY 0 (by omega)).1 0 _ hv0
      have hspot : spot = none := by simpa [Addr.add] using World.cell?_spot hz
      subst hspot
      obtain ⟨v1, hv1⟩ := hc0 (Y i)
      have hb0 := c0 0 _ hv1
      rw [Go.WideShapes.add_plain] at hb0
      refine ⟨b, off, rfl, World.block_lt_of_cell? W _ hb0, fun j v hv => ?_⟩
      have := c0 j v hv
      rw [Go.WideShapes.add_plain] at this
      rw [← this, Nat.add_assoc]
    · intro q hq
      obtain ⟨i, hi, rfl⟩ := List.mem_map.1 hq
      exact (hY i (by simpa using hi)).2.1
    · intro i y' q hy hq
      have hi : i < len := by
        by_cases hi : i < len
        · exact hi
        · rw [List.getElem?_eq_none (by simp; omega)] at hq
          cases hq
      obtain rfl : Y i = q := by simpa [hi] using hq
      obtain rfl : D i = y' := by simpa [hi] using hy
      exact (hY i hi).2.2

theorem weightsAll_of {H : Type} {P : Program} {e : TypeId} : ∀ {l : List (DataW H)} {d : DataW H}, d ∈ l → ∀ n ∈ d.weights P e, n ∈ DataW.weightsAll P e l
  | [], d, h, _, _ => by cases h
  | x :: r, d, h, n, hn => by
    rw [List.mem_cons] at h
    rw [DataW.weightsAll, List.mem_append]
    rcases h with rfl | h
    · exact Or.inl hn
    · exact Or.inr (weightsAll_of h n hn)

theorem weights_of {H : Type} {P : Program} {ts : List TypeId} {ds : List (DataW H)} (h : (DataW.weightsEach P ts ds).all (· ≤ reachBytes) = true) {j : Nat} {t : TypeId} {d : DataW H} (ht : ts[j]? = some t) (hd : ds[j]? = some d) : ∀ n ∈ d.weights P t, n ≤ reachBytes :=
  fun n hn => by simpa using List.all_eq_true.1 h n (DataW.weights_mem_each ht hd n hn)

/-- The sizes of a row's elements, and of the row. -/
theorem RowD.fit {H α : Type} {Q : DataW H → α → Prop} {d : DataW H} {l : List α} (hd : RowD Q d l) {T E : TypeId} (hT : Tryz.prog.underlying T = some (.slice E)) (h : ∀ n ∈ d.weights Tryz.prog T, n ≤ reachBytes) :
    l.length * Tryz.prog.bytesOf E ≤ reachBytes ∧ ∀ x ∈ l, ∃ y, Q y x ∧ ∀ n ∈ y.weights Tryz.prog E, n ≤ reachBytes := by
  rcases hd with ⟨rfl, rfl⟩ | ⟨ds, rest, rfl, hl, hq⟩
  · simp
  · refine ⟨?_, fun x hx => ?_⟩
    · have := h ((ds.length + rest.length) * Tryz.prog.bytesOf E) (by simp [DataW.weights, hT])
      rw [← hl]
      exact Nat.le_trans (Nat.mul_le_mul_right _ (by omega)) this
    · obtain ⟨i, hi⟩ := List.getElem?_of_mem hx
      have hi' : i < ds.length := by have := (List.getElem?_eq_some_iff.1 hi).1; omega
      refine ⟨ds[i], hq i ds[i] x (List.getElem?_eq_getElem hi') hi, fun n hn => h n ?_⟩
      rw [DataW.weights, hT]
      simp only [List.mem_cons, List.mem_append]
      exact Or.inr (Or.inl (weightsAll_of (List.getElem_mem hi') n hn))
end Go.Proofs.YtaoiejgbbmjpkaaGreatDoor

/- How tags, Refs and headers that came in are opened; their sizes. -/
namespace Go.Proofs.YtaoiejgbbmjpkaaGreatDoor
open Go.ChangeShapes Go.WideShapes Go.ChangeAt Go.RowKit Go.Joins Go.Deep
set_option linter.unusedVariables false

instance : Inhabited TagD := ⟨⟨0, ⟨#[]⟩⟩⟩
instance : Inhabited RefM := ⟨⟨⟨#[]⟩, [], none, 0⟩⟩

/-- How a text reads. -/
def StrQ {H : Type} (d : DataW H) (s : ByteArray) : Prop := d = .lit (.string s.data.toList) ∧ s.size ≤ maxLen

theorem StrQ.fit {H : Type} {y : DataW H} {s : ByteArray} (h : StrQ y s) {t : TypeId} (hw : ∀ n ∈ y.weights Tryz.prog t, n ≤ reachBytes) : s.size ≤ 140737488351232 := by
  have := hw s.data.toList.length (by rw [h.1]; simp [DataW.weights])
  simpa [reachBytes] using this

/-- How a tag reads. -/
def TagQ {H : Type} (d : DataW H) (t : TagD) : Prop := ∃ y0 y1, d = .agg [y0, y1] ∧ StrQ y1 t.mac

theorem list2x {α : Type} {l : List α} (h : l.length = 2) : ∃ c0 c1, l = [c0, c1] := by
  match l, h with
  | [c0, c1], _ => exact ⟨c0, c1, rfl⟩

theorem list4x {α : Type} {l : List α} (h : l.length = 4) : ∃ c0 c1 c2 c3, l = [c0, c1, c2, c3] := by
  match l, h with
  | [c0, c1, c2, c3], _ => exact ⟨c0, c1, c2, c3, rfl⟩

theorem cellsTag6 : Tryz.prog.cellsOf 23 = 2 := by kernel_rfl
theorem cellsInt6 : Tryz.prog.cellsOf 3 = 1 := by kernel_rfl
theorem cellsStr6 : Tryz.prog.cellsOf 9 = 1 := by kernel_rfl

set_option maxRecDepth 100000 in
theorem open_tag_cells {H : Type} {enc : TypeId × Value → H} {W : World} {fuel : Nat} {cs : List Value} {y : DataW H × List MemPlace}
    (hf : DataW.trod enc Tryz.prog W 0 (fun _ => true) true fuel 23 cs = some y) : ∃ t : TagD, cs = tagK.c t ∧ tagK.At W t ∧ TagQ y.1 t := by
  obtain ⟨xs, n, _, hx, hcl, hl, hg⟩ := DataW.trod_struct Tryz.underlying23 hf
  obtain ⟨c0, c1, rfl⟩ := list2x (hcl.trans cellsTag6)
  obtain ⟨y0, y1, rfl⟩ := list2x hl
  have g0 := hg 0 _ rfl
  have g1 := hg 1 _ rfl
  simp [cellsInt6, cellsStr6] at g0 g1
  obtain ⟨a0, e0, _, _⟩ := DataW.trod_int Tryz.underlying3 g0
  obtain ⟨a1, e1, hy1, s1⟩ := DataW.trod_string Tryz.underlying9 g1
  simp at e0 e1
  subst e0 e1
  refine ⟨⟨a0, a1⟩, rfl, trivial, y0.1, y1.1, ?_, by rw [hy1], s1⟩
  have := congrArg Prod.fst hx
  simpa using this

/-- What tags hold. -/
def tagsBulk (l : List TagD) : Nat := (l.map (fun t => t.mac.size + 1)).sum

theorem open_tagsK {H : Type} {enc : TypeId × Value → H} {W : World} {fuel : Nat} {a : Option Addr} {len cap : Nat} {y : DataW H × List MemPlace}
    (hf : DataW.trod enc Tryz.prog W 0 (fun _ => true) true fuel 31 [.slice a len cap] = some y) :
    ∃ l : List TagD, l.length = len ∧ RowAt tagK W a l ∧ (a = none → cap = 0) ∧ len ≤ maxLen ∧ RowD TagQ y.1 l :=
  open_row tagK TagQ Tryz.underlying31 cellsTag6 open_tag_cells hf

theorem txt_len_le (l : List UInt8) : (txt l).length ≤ 9 + l.length := by
  rw [txt, List.length_append]
  have := goInt_length (l.length : Int)
  omega

theorem tagB_len_le (t : TagD) : (tagB t).length ≤ 9 + t.mac.size := by
  have := goInt_length t.who
  have h2 : t.mac.data.toList.length = t.mac.size := by simp
  rw [tagB, List.length_append]
  omega

theorem tags_flat_le : ∀ (l : List TagD), ((l.map tagB).flatMap txt).length ≤ 18 * tagsBulk l
  | [] => by simp
  | t :: l => by
    have ih := tags_flat_le l
    have h1 := txt_len_le (tagB t)
    have h2 := tagB_len_le t
    simp only [List.map_cons, List.flatMap_cons, List.length_append, tagsBulk, List.sum_cons] at ih ⊢
    omega

theorem tagsB_len_le (l : List TagD) : (tagsB l).length ≤ 9 + 18 * tagsBulk l := by
  have h1 := tags_flat_le l
  have h2 := goInt_length ((l.map tagB).length : Int)
  rw [tagsB, lst, List.length_append]
  omega

instance : Inhabited ByteArray := ⟨⟨#[]⟩⟩

theorem cellsTags6 : Tryz.prog.cellsOf 31 = 1 := by kernel_rfl
theorem cellsStrs6 : Tryz.prog.cellsOf 28 = 1 := by kernel_rfl
theorem bytesTag6 : Tryz.prog.bytesOf 23 = 24 := by kernel_rfl
theorem bytesStr6 : Tryz.prog.bytesOf 9 = 16 := by kernel_rfl
set_option maxRecDepth 100000 in
theorem open_str_cells {H : Type} {enc : TypeId × Value → H} {W : World} {fuel : Nat} {cs : List Value} {y : DataW H × List MemPlace}
    (hf : DataW.trod enc Tryz.prog W 0 (fun _ => true) true fuel 9 cs = some y) : ∃ s : ByteArray, cs = strK.c s ∧ strK.At W s ∧ StrQ y.1 s := by
  obtain ⟨a0, e0, hy0, s0⟩ := DataW.trod_string Tryz.underlying9 hf
  exact ⟨a0, e0, trivial, by rw [hy0], s0⟩
end Go.Proofs.YtaoiejgbbmjpkaaGreatDoor

/- What block.EncodeQc and block.Encode do; nothing old in memory is turned. -/
namespace Go.Proofs.YtaoiejgbbmjpkaaGreatDoor
open Go.RowKit Go.Sort
set_option linter.unusedVariables false

/-- What EncodeQc asks. -/
structure QcM.Enc (x : QcM) : Prop where
  blk : x.block.size ≤ 140737488351232
  few : x.votes.length ≤ 1000000000
  mac : ∀ t ∈ x.votes, t.mac.size ≤ 140737488351232
  len : (tagsB x.votes).length ≤ 140737488355328

/-- What Encode asks. -/
structure BlkM.Enc (x : BlkM) : Prop where
  qc : x.qc.Enc
  few : x.certs.length ≤ 1000000000
  len : (lst (bl x.certs)).length ≤ 140737488355328

theorem encQ_join (x : QcM) : (⟨(goInt x.view).toArray⟩ ++ ⟨(txt x.block.data.toList).toArray⟩ ++ ⟨(tagsB x.votes).toArray⟩ : ByteArray) = ⟨(encQ x.d).toArray⟩ := by
  rw [append_list (goInt x.view) ⟨(txt x.block.data.toList).toArray⟩]
  exact append_list _ _

theorem encK_join (x : BlkM) : (⟨(goInt x.view).toArray⟩ ++ ⟨(txt (encQ x.qc.d)).toArray⟩ ++ ⟨(lst (bl x.certs)).toArray⟩ : ByteArray) = ⟨(encK x.d).toArray⟩ := by
  rw [append_list (goInt x.view) ⟨(txt (encQ x.qc.d)).toArray⟩]
  exact append_list _ _

theorem encQ_len (x : QcM) (h : x.Enc) : (encQ x.d).length ≤ 281474976706580 := by
  have h1 := goInt_length x.view
  have h2 := txt_len_le x.block.data.toList
  have h3 : x.block.data.toList.length = x.block.size := by simp
  have h4 := h.blk
  have h5 := h.len
  show (goInt x.view ++ txt x.block.data.toList ++ tagsB x.votes).length ≤ _
  simp only [List.length_append]
  omega

set_option maxRecDepth 100000 in
set_option maxHeartbeats 2000000 in
theorem encodeQc_any (x : QcM) (w : World) (hA : x.At w) (hf : x.Enc) :
    Calls Tryz.prog 39 #[x.v] w fun e w' => e = .returned (.string ⟨(encQ x.d).toArray⟩) ∧ Below w.heap.size w w' := by
  have hX := Arr.new w 35 x.c
  have hB := belowNew w (.cells x.c.toArray 35)
  have hA1 := hA.below hB
  obtain ⟨w1, hw1⟩ : ∃ q, w.alloc (.cells x.c.toArray 35) = q := ⟨_, rfl⟩
  rw [hw1] at hX hB hA1
  have bl := fun d os => below_regrown w1 d os
  have hjo := encQ_join x
  have hbl := hf.blk
  have hvl := hf.len
  have hil := goInt_length x.view
  have htl := txt_len_le x.block.data.toList
  have hbz : x.block.data.toList.length = x.block.size := by simp
  obtain ⟨ib, hib⟩ : ∃ q, q = (⟨(goInt x.view).toArray⟩ : ByteArray) := ⟨_, rfl⟩
  obtain ⟨tb, htb⟩ : ∃ q, q = (⟨(txt x.block.data.toList).toArray⟩ : ByteArray) := ⟨_, rfl⟩
  obtain ⟨vb, hvb⟩ : ∃ q, q = (⟨(tagsB x.votes).toArray⟩ : ByteArray) := ⟨_, rfl⟩
  obtain ⟨out, hout⟩ : ∃ q, q = (⟨(encQ x.d).toArray⟩ : ByteArray) := ⟨_, rfl⟩
  have his : ib.size ≤ 9 := by rw [hib, size_mk]; exact hil
  have hts : tb.size ≤ 140737488351241 := by rw [htb, size_mk]; omega
  have hvs : vb.size ≤ 140737488355328 := by rw [hvb, size_mk]; exact hvl
  have hsum0 : ¬ (9223372036854775807 < ib.size + tb.size) := by omega
  have hsum : ¬ (9223372036854775807 < ib.size + tb.size + vb.size) := by omega
  have k1 : ∀ d os, Calls Tryz.prog 38 #[.int .i64 x.view] (grow (redrawn w1 d) os) fun e w'' => e = .returned (.string ib) ∧ ∃ p : Regrown, w'' = grow (redrawn w1 p.d) p.os := fun d os => Calls.regrown_of (by
    rw [hib]
    exact int_any x.view _)
  have k2 : ∀ d os, Calls Tryz.prog 70 #[.string x.block] (grow (redrawn w1 d) os) fun e w'' => e = .returned (.string tb) ∧ ∃ p : Regrown, w'' = grow (redrawn w1 p.d) p.os := fun d os => Calls.regrown_of (by
    rw [htb]
    exact text_any x.block _ (by omega))
  have k3 : ∀ d os, Calls Tryz.prog 71 #[.slice x.va x.votes.length x.vc] (grow (redrawn w1 d) os) fun e w'' => e = .returned (.string vb) ∧ ∃ p : Regrown, w'' = grow (redrawn w1 p.d) p.os := fun d os => Calls.regrown_of (by
    rw [hvb]
    exact tags_any x.va x.vc x.votes _ (hA1.below (bl d os)).votes hf.few hf.mac hf.len)
  rw [← hout, ← htb, ← hvb, ← hib] at hjo
  rw [← hout]
  have Hjo : Hid (ib ++ tb ++ vb = out) := hjo
  have hX0 : Arr w1 w.heap.size 35 [.int .i64 x.view, .string x.block, .slice x.va x.votes.length x.vc] := hX
  have A0 := cell_regrown (hX0.cell (i := 0) rfl)
  have A1 := cell_regrown (hX0.cell (i := 1) rfl)
  have A2 := cell_regrown (hX0.cell (i := 2) rfl)
  have HBF : Hid (∀ d os, Below w.heap.size w (grow (redrawn w1 d) os)) := fun d os => hB.trans ((bl d os).mono hB.size)
  unfold QcM.c at hw1
  unfold QcM.v
  clear hib htb hvb hout hjo hbl hvl htl hil hbz hf hA hA1 hX hX0 hB bl his hts hvs
  go_enter Tryz.func39, Tryz.ntmps39
  go_wp2_with fail
  refine wp_region_quiet_below (by kernel_rfl) (by kernel_rfl) ?_
  iterate 2 (go_big_quiet_step (fail))
  go_big_quiet_step (exact k1 _ _)
  iterate 2 (go_big_quiet_step (fail))
  go_big_quiet_step (exact k2 _ _)
  iterate 3 (go_big_quiet_step (fail))
  go_big_quiet_step (exact k3 _ _)
  iterate 2 (go_big_quiet_step (fail))
  refine wpQuiet_nil ?_
  rintro w' ⟨p, rfl⟩
  have hBF := HBF.out p.d p.os
  generalize grow (redrawn w1 p.d) p.os = w6 at hBF ⊢
  clear k1 k2 k3 A0 A1 A2 HBF
  go_wp2
  go_ret
  exact ⟨by rw [← Hjo.out]; rfl, hBF⟩

set_option maxRecDepth 100000 in
set_option maxHeartbeats 2000000 in
theorem blkEncode_any (x : BlkM) (w : World) (hA : x.At w) (hf : x.Enc) :
    Calls Tryz.prog 69 #[x.v] w fun e w' => e = .returned (.string ⟨(encK x.d).toArray⟩) ∧ Below w.heap.size w w' := by
  have hX := Arr.new w 37 x.c
  have hB := belowNew w (.cells x.c.toArray 37)
  have hA1 := hA.below hB
  obtain ⟨w1, hw1⟩ : ∃ q, w.alloc (.cells x.c.toArray 37) = q := ⟨_, rfl⟩
  rw [hw1] at hX hB hA1
  have bl' := fun d os => below_regrown w1 d os
  have hjo := encK_join x
  have hql := encQ_len x.qc hf.qc
  have hcl := hf.len
  have hil := goInt_length x.view
  have htl := txt_len_le (encQ x.qc.d)
  obtain ⟨ib, hib⟩ : ∃ q, q = (⟨(goInt x.view).toArray⟩ : ByteArray) := ⟨_, rfl⟩
  obtain ⟨qb, hqb⟩ : ∃ q, q = (⟨(encQ x.qc.d).toArray⟩ : ByteArray) := ⟨_, rfl⟩
  obtain ⟨tb, htb⟩ : ∃ q, q = (⟨(txt (encQ x.qc.d)).toArray⟩ : ByteArray) := ⟨_, rfl⟩
  obtain ⟨vb, hvb⟩ : ∃ q, q = (⟨(lst (bl x.certs)).toArray⟩ : ByteArray) := ⟨_, rfl⟩
  obtain ⟨out, hout⟩ : ∃ q, q = (⟨(encK x.d).toArray⟩ : ByteArray) := ⟨_, rfl⟩
  have his : ib.size ≤ 9 := by rw [hib, size_mk]; exact hil
  have hqs : qb.size ≤ 281474976706580 := by rw [hqb, size_mk]; exact hql
  have hts : tb.size ≤ 281474976706589 := by rw [htb, size_mk]; omega
  have hvs : vb.size ≤ 140737488355328 := by rw [hvb, size_mk]; exact hcl
  have hsum0 : ¬ (9223372036854775807 < ib.size + tb.size) := by omega
  have hsum : ¬ (9223372036854775807 < ib.size + tb.size + vb.size) := by omega
  have k1 : ∀ d os, Calls Tryz.prog 38 #[.int .i64 x.view] (grow (redrawn w1 d) os) fun e w'' => e = .returned (.string ib) ∧ ∃ p : Regrown, w'' = grow (redrawn w1 p.d) p.os := fun d os => Calls.regrown_of (by
    rw [hib]
    exact int_any x.view _)
  have k2 : ∀ d os, Calls Tryz.prog 39 #[x.qc.v] (grow (redrawn w1 d) os) fun e w'' => e = .returned (.string qb) ∧ ∃ p : Regrown, w'' = grow (redrawn w1 p.d) p.os := fun d os => Calls.regrown_of (by
    rw [hqb]
    exact encodeQc_any x.qc _ (hA1.below (bl' d os)).qc hf.qc)
  have k3 : ∀ d os, Calls Tryz.prog 70 #[.string qb] (grow (redrawn w1 d) os) fun e w'' => e = .returned (.string tb) ∧ ∃ p : Regrown, w'' = grow (redrawn w1 p.d) p.os := fun d os => Calls.regrown_of (by
    have := text_any qb (grow (redrawn w1 d) os) (by omega)
    have hed : qb.data.toList = encQ x.qc.d := by rw [hqb]
    rw [hed, ← htb] at this
    exact this)
  have k4 : ∀ d os, Calls Tryz.prog 73 #[.slice x.ca x.certs.length x.cc] (grow (redrawn w1 d) os) fun e w'' => e = .returned (.string vb) ∧ ∃ p : Regrown, w'' = grow (redrawn w1 p.d) p.os := fun d os => Calls.regrown_of (by
    rw [hvb]
    exact list_any x.ca x.cc x.certs _ (hA1.below (bl' d os)).certs.strs hf.len (by have := hf.few; omega))
  rw [← hout, ← htb, ← hvb, ← hib] at hjo
  rw [← hout]
  have Hjo : Hid (ib ++ tb ++ vb = out) := hjo
  have hX0 : Arr w1 w.heap.size 37 [.int .i64 x.view, .int .i64 x.qc.view, .string x.qc.block, .slice x.qc.va x.qc.votes.length x.qc.vc, .slice x.ca x.certs.length x.cc] := hX
  have A0 := cell_regrown (hX0.cell (i := 0) rfl)
  have A1 := cell_regrown (hX0.cell (i := 1) rfl)
  have A2 := cell_regrown (hX0.cell (i := 2) rfl)
  have A3 := cell_regrown (hX0.cell (i := 3) rfl)
  have A4 := cell_regrown (hX0.cell (i := 4) rfl)
  have HBF : Hid (∀ d os, Below w.heap.size w (grow (redrawn w1 d) os)) := fun d os => hB.trans ((bl' d os).mono hB.size)
  unfold BlkM.c at hw1
  unfold QcM.v at k2
  unfold BlkM.v
  clear hib hqb htb hvb hout hjo hql hcl htl hil hf hA hA1 hX hX0 hB bl' his hqs hts hvs
  go_enter Tryz.func69, Tryz.ntmps69
  go_wp2_with fail
  refine wp_region_quiet_below (by kernel_rfl) (by kernel_rfl) ?_
  iterate 2 (go_big_quiet_step (fail))
  go_big_quiet_step (exact k1 _ _)
  iterate 2 (go_big_quiet_step (fail))
  go_big_quiet_step (exact k2 _ _)
  go_big_quiet_step (exact k3 _ _)
  iterate 3 (go_big_quiet_step (fail))
  go_big_quiet_step (exact k4 _ _)
  iterate 2 (go_big_quiet_step (fail))
  refine wpQuiet_nil ?_
  rintro w' ⟨p, rfl⟩
  have hBF := HBF.out p.d p.os
  generalize grow (redrawn w1 p.d) p.os = w6 at hBF ⊢
  clear k1 k2 k3 k4 A0 A1 A2 A3 A4 HBF
  go_wp2
  go_ret
  exact ⟨by rw [← Hjo.out]; rfl, hBF⟩
end Go.Proofs.YtaoiejgbbmjpkaaGreatDoor
