/- Texts as one: SortStr, TabSort, TabIds, TabLie, MapPlace, MapPlaceRange, DagLie, CompactStr, RunX. -/
import Derived.Test.YtmjkbdgcnoenbaaGreatDoorDz09
import Derived.BigQuiet
import Derived.Deep.QuietTactic
import Derived.OwnWalk
import Derived.Shelf.Sort.Plain
import Derived.LoopN
import Derived.Ground.NamesProg
import Derived.Test.YtmjkbdgcnoenbaaGreatDoorDz11
import Derived.Test.YtmjkbdgcnoenbaaGreatDoorDz12
import Derived.DeepKeys4
import Derived.Maps.OwnSet
import Derived.Maps.OwnOps
import Derived.Shelf.Slices.CompactS
import Derived.Test.YtmjkbdgcnoenbaaGreatDoorDz01
import Derived.Test.YtmjkbdgcnoenbaaGreatDoorDz02
/- slices.Sort of texts by the library's own contract, laid over this program: a row of the call's own is sorted. -/
namespace Go.Proofs.YtmjkbdgcnoenbaaGreatDoor
open Go.Shelf Go.RowKit Go.Sort
set_option linter.unusedVariables false

def laysSortS_ren : Go.Shelf.Ren := ⟨fun | 190 => 49 | 125 => 75 | 258 => 74 | 128 => 111 | 129 => 112 | 302 => 102 | 303 => 103 | 304 => 104 | 305 => 105 | 306 => 106 | 307 => 107 | 308 => 108 | 309 => 109 | 310 => 110 | 333 => 131 | 329 => 132 | 330 => 133 | 334 => 134 | 335 => 135 | 336 => 136 | 344 => 146 | n => n, fun | 31 => 31 | 9 => 9 | 3 => 3 | 46 => 149 | 0 => 0 | 51 => 177 | 53 => 86 | 4 => 4 | 183 => 169 | 182 => 168 | 131 => 174 | 5 => 5 | 218 => 209 | 222 => 213 | 228 => 228 | 229 => 229 | n => n, fun | n => n⟩
theorem laysSortS : Go.Proofs.Lays.n190 Tryz.prog laysSortS_ren := {
  mixed := by kernel_rfl
  f125 := Tryz.func75.trans (congrArg some (by kernel_rfl))
  f128 := Tryz.func111.trans (congrArg some (by kernel_rfl))
  f129 := Tryz.func112.trans (congrArg some (by kernel_rfl))
  f190 := Tryz.func49.trans (congrArg some (by kernel_rfl))
  f258 := Tryz.func74.trans (congrArg some (by kernel_rfl))
  f302 := Tryz.func102.trans (congrArg some (by kernel_rfl))
  f303 := Tryz.func103.trans (congrArg some (by kernel_rfl))
  f304 := Tryz.func104.trans (congrArg some (by kernel_rfl))
  f305 := Tryz.func105.trans (congrArg some (by kernel_rfl))
  f306 := Tryz.func106.trans (congrArg some (by kernel_rfl))
  f307 := Tryz.func107.trans (congrArg some (by kernel_rfl))
  f308 := Tryz.func108.trans (congrArg some (by kernel_rfl))
  f309 := Tryz.func109.trans (congrArg some (by kernel_rfl))
  f310 := Tryz.func110.trans (congrArg some (by kernel_rfl))
  f329 := Tryz.func132.trans (congrArg some (by kernel_rfl))
  f330 := Tryz.func133.trans (congrArg some (by kernel_rfl))
  f333 := Tryz.func131.trans (congrArg some (by kernel_rfl))
  f334 := Tryz.func134.trans (congrArg some (by kernel_rfl))
  f335 := Tryz.func135.trans (congrArg some (by kernel_rfl))
  f336 := Tryz.func136.trans (congrArg some (by kernel_rfl))
  f344 := Tryz.func146.trans (congrArg some (by kernel_rfl))
  t0 := Tryz.underlying0
  a0 := Tryz.isAgg0
  z0 := Tryz.sizeOf0
  v0 := Tryz.zeroValue0
  t3 := Tryz.underlying3
  a3 := Tryz.isAgg3
  z3 := Tryz.sizeOf3
  v3 := Tryz.zeroValue3
  t4 := Tryz.underlying4
  a4 := Tryz.isAgg4
  z4 := Tryz.sizeOf4
  v4 := Tryz.zeroValue4
  t5 := Tryz.underlying5
  a5 := Tryz.isAgg5
  z5 := Tryz.sizeOf5
  v5 := Tryz.zeroValue5
  t9 := Tryz.underlying9
  a9 := Tryz.isAgg9
  z9 := Tryz.sizeOf9
  v9 := Tryz.zeroValue9
  t31 := Tryz.underlying31
  a31 := Tryz.isAgg31
  z31 := Tryz.sizeOf31
  v31 := Tryz.zeroValue31
  t46 := Tryz.underlying149
  a46 := Tryz.isAgg149
  z46 := Tryz.sizeOf149
  v46 := Tryz.zeroValue149
  t51 := Tryz.underlying177
  a51 := Tryz.isAgg177
  z51 := Tryz.sizeOf177
  v51 := Tryz.zeroValue177
  t53 := Tryz.underlying86
  a53 := Tryz.isAgg86
  z53 := Tryz.sizeOf86
  v53 := Tryz.zeroValue86
  t131 := Tryz.underlying174
  a131 := Tryz.isAgg174
  z131 := Tryz.sizeOf174
  v131 := Tryz.zeroValue174
  t182 := Tryz.underlying168
  a182 := Tryz.isAgg168
  z182 := Tryz.sizeOf168
  v182 := Tryz.zeroValue168
  t183 := Tryz.underlying169
  a183 := Tryz.isAgg169
  z183 := Tryz.sizeOf169
  v183 := Tryz.zeroValue169
  t218 := Tryz.underlying209
  a218 := Tryz.isAgg209
  z218 := Tryz.sizeOf209
  v218 := Tryz.zeroValue209
  t222 := Tryz.underlying213
  a222 := Tryz.isAgg213
  z222 := Tryz.sizeOf213
  v222 := Tryz.zeroValue213
  t228 := Tryz.underlying228
  a228 := Tryz.isAgg228
  z228 := Tryz.sizeOf228
  v228 := Tryz.zeroValue228
  t229 := Tryz.underlying229
  a229 := Tryz.isAgg229
  z229 := Tryz.sizeOf229
  v229 := Tryz.zeroValue229 }

/-- Texts, rising. -/
def sortT (l : List ByteArray) : List ByteArray := ((l.map (fun x => x.data.toList)).mergeSort (fun x y => decide (x ≤ y))).map (fun x => ⟨x.toArray⟩)

theorem sortT_length (l : List ByteArray) : (sortT l).length = l.length := by simp [sortT]

theorem flat_text (l : List ByteArray) : flatK textK l = l.map Value.string := by
  unfold flatK
  induction l with
  | nil => rfl
  | cons x l ih => rw [List.flatMap_cons, List.map_cons, ih]; rfl

theorem put_cells (pre A post : List Value) (d : List (List UInt8)) (hA : A.length = d.length) : putCells encStr pre.length d.toArray (pre ++ A ++ post).toArray = (pre ++ d.map encStr ++ post).toArray := by
  apply Array.ext_getElem?
  intro k
  unfold putCells
  rw [Array.getElem?_mapIdx]
  simp only [List.getElem?_toArray, List.size_toArray]
  by_cases h1 : k < pre.length
  · rw [List.append_assoc, List.append_assoc, List.getElem?_append_left h1, List.getElem?_append_left h1]
    cases pre[k]? with
    | none => rfl
    | some x => simp only [Option.map_some]; rw [if_neg (by omega)]
  · by_cases h2 : k < pre.length + d.length
    · have e1 : (pre ++ A ++ post)[k]? = A[k - pre.length]? := by
        rw [List.append_assoc, List.getElem?_append_right (by omega), List.getElem?_append_left (by omega)]
      have e2 : (pre ++ d.map encStr ++ post)[k]? = (d.map encStr)[k - pre.length]? := by
        rw [List.append_assoc, List.getElem?_append_right (by omega), List.getElem?_append_left (by rw [List.length_map]; omega)]
      rw [e1, e2, List.getElem?_eq_getElem (show k - pre.length < A.length by omega), List.getElem?_map, List.getElem?_eq_getElem (show k - pre.length < d.length by omega)]
      simp only [Option.map_some]
      rw [if_pos (by omega)]
      congr 2
      rw [getElem!_pos d.toArray (k - pre.length) (by simp; omega)]
      simp
    · have e1 : (pre ++ A ++ post)[k]? = post[k - (pre.length + d.length)]? := by
        rw [List.getElem?_append_right (by rw [List.length_append]; omega), List.length_append, hA]
      have e2 : (pre ++ d.map encStr ++ post)[k]? = post[k - (pre.length + d.length)]? := by
        rw [List.getElem?_append_right (by rw [List.length_append, List.length_map]; omega), List.length_append, List.length_map]
      rw [e1, e2]
      cases post[k - (pre.length + d.length)]? with
      | none => rfl
      | some x => simp only [Option.map_some]; rw [if_neg (by omega)]

/-- What the sort leaves of a row of the call's own. -/
theorem KQ.sorted {w : World} {B : Nat} {g off n cap : Nat} {l : List ByteArray} (h : KQ textK 9 w B (.slice (some ⟨g, off, none⟩) n cap) l) (hl : 0 < l.length) :
    Holds encStr w g off (l.map (fun x => x.data.toList)).toArray ∧ g < w.heap.size ∧ ∀ (N : Nat) (os : Array Obj),
      KQ textK 9 (grow (putRow encStr (Sort.ahead w N) g off ((l.map (fun x => x.data.toList)).mergeSort (fun x y => decide (x ≤ y))).toArray) os) B (.slice (some ⟨g, off, none⟩) n cap) (sortT l) ∧
      Kept (fun k => k = g) w (grow (putRow encStr (Sort.ahead w N) g off ((l.map (fun x => x.data.toList)).mergeSort (fun x y => decide (x ≤ y))).toArray) os) := by
  rcases h.row.2 with ⟨ao', hv, hn⟩ | ⟨g', pre, post, cap', hv, hb, hg, hnc, hcm, hpl⟩
  · omega
  · simp only [Value.slice.injEq, Option.some.injEq, Addr.mk.injEq, and_true] at hv
    obtain ⟨⟨rfl, rfl⟩, rfl, rfl⟩ := hv
    have hlt := hg.lt
    refine ⟨fun j hj => ?_, hlt, fun N os => ?_⟩
    · have hj' : j < l.length := by simpa using hj
      refine ⟨?_, hg.frozen _⟩
      have e : ((l.map (fun x => x.data.toList)).toArray)[j]! = l[j].data.toList := by
        rw [getElem!_pos _ j hj]
        simp
      rw [e]
      refine hg.cell ?_
      rw [flat_text, List.append_assoc, List.getElem?_append_right (by omega), List.getElem?_append_left (by rw [List.length_map]; omega), Nat.add_sub_cancel_left, List.getElem?_map, List.getElem?_eq_getElem hj']
      simp
    · obtain ⟨d, hd⟩ : ∃ d, d = (l.map (fun x => x.data.toList)).mergeSort (fun x y => decide (x ≤ y)) := ⟨_, rfl⟩
      have hdl : d.length = l.length := by rw [hd]; simp
      have hst : sortT l = d.map (fun x => ⟨x.toArray⟩) := by rw [hd]; rfl
      rw [← hd]
      have hblk : ∀ k, k < w.heap.size → k ≠ g → (grow (putRow encStr (Sort.ahead w N) g pre.length d.toArray) os).heap[k]? = w.heap[k]? := by
        intro k hk hne
        show ((w.heap.modify g _) ++ os)[k]? = _
        rw [Array.getElem?_append_left (by simpa using hk), Array.getElem?_modify, if_neg (fun e => hne e.symm)]
      have hgg : Arr (grow (putRow encStr (Sort.ahead w N) g pre.length d.toArray) os) g 9 (pre ++ flatK textK (sortT l) ++ post) := by
        have e : flatK textK (sortT l) = d.map encStr := by rw [flat_text, hst, List.map_map]; rfl
        rw [e]
        unfold Arr at hg ⊢
        show ((w.heap.modify g _) ++ os)[g]? = _
        rw [Array.getElem?_append_left (by simpa using hlt), Array.getElem?_modify, if_pos rfl, hg]
        show some (Obj.cells (putCells encStr pre.length d.toArray (pre ++ flatK textK l ++ post).toArray) _ _) = _
        rw [put_cells _ _ _ _ (by rw [flat_text, List.length_map]; exact hdl.symm)]
      refine ⟨⟨⟨by rw [flatK_length], Or.inr ⟨g, pre, post, cap, by rw [sortT_length], hb, hgg, by rw [sortT_length]; exact hnc, hcm, by rw [sortT_length]; exact hpl⟩⟩, fun _ _ => trivial, fun _ _ _ h => h.elim, fun k hk => ?_, h.nil⟩, rfl, rfl, rfl, ?_, fun k hk hne => hblk k hk hne⟩
      · simp only [Value.ownBlock, Option.some.injEq] at hk
        subst hk
        exact ⟨hb, hgg.lt⟩
      · show w.heap.size ≤ ((w.heap.modify g _) ++ os).size
        simp

set_option maxRecDepth 100000 in
theorem bitsLen0 (w : World) :
    Calls Tryz.prog 75 #[.int .u64 0] w fun e w' => ∃ n, e = .returned (.int .i64 n) ∧ w' = w := by
  go_enter Tryz.func75, Tryz.ntmps75
  go_wp2
  go_ret
  exact ⟨_, rfl, rfl⟩

set_option maxRecDepth 100000 in
theorem insert0 (ao : Option Addr) (cap : Nat) (w : World) :
    Calls Tryz.prog 102 #[.slice ao 0 cap, .int .i64 0, .int .i64 0] w fun e w' => e = .returned (.tuple #[]) ∧ w' = w := by
  go_enter Tryz.func102, Tryz.ntmps102
  go_wp2
  refine wp_loop_rounds 1 ?_
  unfold Code.rounds Code.rounds
  go_wp2
  go_end0
  exact ⟨rfl, rfl⟩

set_option maxRecDepth 100000 in
theorem pdq0 (ao : Option Addr) (cap : Nat) (n : Int) (w : World) :
    Calls Tryz.prog 74 #[.slice ao 0 cap, .int .i64 0, .int .i64 0, .int .i64 n] w fun e w' => e = .returned (.tuple #[]) ∧ w' = w := by
  go_enter Tryz.func74, Tryz.ntmps74
  go_wp2_with fail
  refine wp_loop_rounds 1 ?_
  unfold Code.rounds Code.rounds
  go_wp2_with fail
  refine (insert0 ao cap _).mono ?_
  rintro _ _ ⟨rfl, rfl⟩
  go_wp2_with fail
  first | go_end0 | refine bodyPost_ret (results_none rfl _ _ _) rfl ?_
  exact ⟨rfl, rfl⟩

set_option maxRecDepth 100000 in
set_option maxHeartbeats 1000000 in
theorem sortS_any (B : Nat) (q : Value) (l : List ByteArray) (w : World) (h : KQ textK 9 w B q l) (hl : l.length ≤ 1000000) :
    Calls Tryz.prog 49 #[q] w fun e w' => e = .returned (.tuple #[]) ∧ KQ textK 9 w' B q (sortT l) ∧ Kept (fun k => q.ownBlock = some k) w w' := by
  obtain ⟨ao, cap, rfl, hnil, hRow⟩ := h.form
  cases hc : l with
  | nil =>
    subst hc
    go_enter Tryz.func49, Tryz.ntmps49
    go_wp2_with fail
    refine (bitsLen0 w).mono ?_
    rintro _ _ ⟨n, rfl, rfl⟩
    go_wp2_with fail
    refine (pdq0 ao cap n _).mono ?_
    rintro _ _ ⟨rfl, rfl⟩
    go_wp2_with fail
    go_end0
    have e0 : sortT [] = [] := List.eq_nil_of_length_eq_zero (by rw [sortT_length]; rfl)
    exact ⟨rfl, by rw [e0]; exact h, Kept.refl _ _⟩
  | cons x r =>
    have hpos : 0 < l.length := by rw [hc]; simp
    rw [← hc]
    obtain ⟨g, off, rfl, _, _⟩ := hRow.cell 0 x (by rw [hc]; rfl)
    obtain ⟨h1, h2, h3⟩ := h.sorted hpos
    have hs := Any.slices_Sort_string laysSortS g off cap (l.map (fun x => x.data.toList)) w h1 h2 (by rw [List.length_map]; omega)
    rw [List.length_map] at hs
    refine (show Calls Tryz.prog 49 _ w _ from hs).mono ?_
    rintro e w' ⟨rfl, N, os, rfl⟩
    obtain ⟨h4, h5⟩ := h3 N os
    exact ⟨rfl, h4, h5.mono (fun k _ e => by rw [e]; rfl)⟩
end Go.Proofs.YtmjkbdgcnoenbaaGreatDoor

/- A list of ids sorted is the rising list of the same ids. -/
namespace Go.Proofs.YtmjkbdgcnoenbaaGreatDoor
open Go Go.RowKit Go.Sort
set_option linter.unusedVariables false

theorem nod_perm : ∀ {k m : List ByteArray}, k.Nodup → m.Nodup → (∀ i, i ∈ k ↔ i ∈ m) → k.Perm m := fun h1 h2 h => (List.perm_ext_iff_of_nodup h1 h2).2 h

/-- A list of ids that stand in any order, sorted: the rising list of the same ids. -/
theorem sortT_eq {k m : List ByteArray} (hm : m.Pairwise (fun a b => a.toList < b.toList)) (hp : k.Perm m) : sortT k = m := by
  have hl : ∀ x y : List UInt8, (decide (x ≤ y)) = true ↔ x ≤ y := fun x y => decide_eq_true_iff
  have h1 : ((k.map (fun x => x.data.toList)).mergeSort (fun x y => decide (x ≤ y))).Perm (m.map (fun x => x.data.toList)) := (List.mergeSort_perm _ _).trans (hp.map _)
  have h2 : ((k.map (fun x => x.data.toList)).mergeSort (fun x y => decide (x ≤ y))).Pairwise (· ≤ ·) := by
    have := List.pairwise_mergeSort (le := fun x y : List UInt8 => decide (x ≤ y)) (fun a b c h1 h2 => by rw [hl] at *; exact List.le_trans h1 h2) (fun a b => by
      rcases Std.le_total (a := a) (b := b) with h | h <;> simp [h]) (k.map (fun x => x.data.toList))
    exact this.imp (fun h => (hl _ _).1 h)
  have h3 : (m.map (fun x => x.data.toList)).Pairwise (· ≤ ·) := by
    rw [List.pairwise_map]
    exact hm.imp (fun {a b} h => by rw [ByteArray.toList_eq, ByteArray.toList_eq] at h; exact List.le_of_lt h)
  have h4 := List.Perm.eq_of_pairwise (fun a b _ _ h1 h2 => List.le_antisymm h1 h2) h2 h3 h1
  unfold sortT
  rw [h4, List.map_map]
  exact (List.map_congr_left (fun x _ => by cases x; rfl)).trans (List.map_id m)
end Go.Proofs.YtmjkbdgcnoenbaaGreatDoor

/- The ids of a round, by a map gone through and a sort. -/
namespace Go.Proofs.YtmjkbdgcnoenbaaGreatDoor
open Go Go.RowKit Go.Maps
set_option linter.unusedVariables false

set_option maxRecDepth 100000 in
set_option maxHeartbeats 2000000 in
theorem tabIds_any (round : Int) (tb mb : Nat) (most low : Int) (l : List ThingD) (w : World) (h : PTab w tb mb most low l) (hr : Rise l) :
    Calls Tryz.prog 68 #[.pointer (some ⟨tb, 0, none⟩), .int .i64 round] w fun e w' => ∃ v, e = .returned v ∧ KQ textK 9 w' w.heap.size v (idsL l round) ∧ Below w.heap.size w w' := by
  obtain ⟨i0, z0, hi0, hz0, hz1, hz2, hz3⟩ := strInfoT
  have hM := h.map
  have hfew := h.few
  have c2 := h.box.cell (i := 0) rfl
  have hne := h.ne
  obtain ⟨f0, hf0⟩ : ∃ f, Hid (tabF l = f) := ⟨_, rfl⟩
  rw [hf0.out] at hM
  go_enter Tryz.func68, Tryz.ntmps68
  go_wp2_with (at_range; refine smap_range rfl _ 144 rfl 142 Tryz.underlying144 mb f0 _ rfl hM ?_; intro w1 hR1 hb1 hs1)
  have hstep : Hid (∀ id v, f0 id = some v → ∃ rd s, v = .agg #[.int .i64 rd, .string s]) := by
    intro id v hv
    rw [← hf0.out] at hv
    unfold tabF at hv
    obtain ⟨x, hx, e⟩ := Option.map_eq_some_iff.1 hv
    exact ⟨x.round, x.s, e.symm⟩
  have hend : Hid (∀ k : List ByteArray, k.Nodup → (∀ i, i ∈ k ↔ ∃ s, f0 i = some (.agg #[.int .i64 round, .string s])) → sortT k = idsL l round) := by
    intro k hn hk
    refine sortT_eq (ids_rise hr round) (nod_perm hn ?_ (fun i => ?_))
    · exact (ids_rise hr round).imp (fun {x y} h e => by rw [e] at h; exact List.lt_irrefl _ h)
    · rw [hk, ids_mem hr.nod, ← hf0.out]
      unfold tabF
      constructor
      · rintro ⟨s, hs⟩
        obtain ⟨x, hx, e⟩ := Option.map_eq_some_iff.1 hs
        unfold thingV at e
        simp at e
        exact ⟨x, hx, e.1⟩
      · rintro ⟨x, hx, e⟩
        rw [hx, ← e]
        exact ⟨x.s, rfl⟩
  obtain ⟨r, hr0⟩ : ∃ r, Hid (w.heap.size = r) := ⟨_, rfl⟩
  rw [hr0.out] at hR1 ⊢
  have hrb : r ≠ tb ∧ r ≠ mb := by have := hr0.out; have := h.box.lt; have := hM.lt; omega
  have hwr : w.heap.size ≤ r := by rw [hr0.out]; exact Nat.le_refl _
  have hmb : mb < w.heap.size := hM.lt
  clear c2
  go_frame
  go_loopw [5] (fun v5 wr => ∃ (left : ByteArray → Bool) (cnt : Nat) (k : List ByteArray), SRange wr mb r f0 l.length left cnt ∧ KQ textK 9 wr (r + 1) v5 k ∧ k.Nodup ∧ k.length + cnt ≤ l.length ∧ (∀ i, i ∈ k ↔ left i = false ∧ ∃ s, f0 i = some (.agg #[.int .i64 round, .string s])) ∧ Below w.heap.size w wr) (fun _ wr => wr.rangeLeft mb r)
  case atStart =>
    refine ⟨_, _, [], hR1, KQ.empty _ _ _ _, List.nodup_nil, by simp, fun i => ⟨fun hi => by simp at hi, ?_⟩, hb1⟩
    rintro ⟨h1, s, h2⟩
    rw [h2] at h1
    cases h1
  case round =>
    obtain ⟨left, cnt, k, hR, hQ, hn, hlen, hk, hb⟩ := hrel
    clear hR1 hb1 hs1
    go_wp2_with (at_next; refine smap_next rfl _ rfl mb r _ _ _ _ rfl hR ?_ ?_)
    · intro hl
      have hfin := hend.out k hn (fun i => by rw [hk i, hl i]; simp)
      obtain ⟨ao, cap, rfl, hnil, hRow⟩ := hQ.form
      clear hR
      go_wp2_with fail
      refine (sortS_any (r + 1) _ k _ hQ (by omega)).mono ?_
      rintro _ w9 ⟨rfl, hQ9, hk9⟩
      have hb9 := hb.trans (Kept.below hk9 hb.size (fun j hj => by have := (hQ.lt j hj).1; omega))
      rw [hfin] at hQ9
      clear hk9 hQ
      go_wp2_with fail
      go_ret
      exact ⟨_, rfl, hQ9.rebase (by omega), hb9⟩
    · intro id v w2 cnt2 hid hlx hfx hR2 hlt hk2 hs2 hen
      obtain ⟨rd, s, rfl⟩ := hstep.out id v hfx
      have hA := belowNew w2 (.cells #[.int .i64 rd, .string s] 142)
      have hQ2 := hQ.kept hk2 (fun j hj e => by have e' : j = r := e; have := (hQ.lt j hj).1; omega) (fun _ _ _ h => h.elim)
      have hb2 := hb.trans (Kept.below hk2 hb.size (fun j e => by have e' : j = r := e; omega))
      have hQ3 := hQ2.below hA
      have hR3 := hR2.kept (Kept.of_below (S := fun _ => False) hA) (fun e => e) (fun e => e)
      have hb3 := hb2.trans (hA.mono hb2.size)
      have hLq := hR.left_eq
      have hne9 : id ∉ k := fun hm => by have := ((hk id).1 hm).1; rw [hlx] at this; cases this
      have hr2 := hR2.lt
      clear hQ hQ2 hb hb2 hk2 hR hs2 hR2
      by_cases he : rd = round
      · subst he
        have hk9 : ∀ i, i ∈ k ++ [id] ↔ strikeF left id i = false ∧ ∃ s, f0 i = some (.agg #[.int .i64 rd, .string s]) := by
          intro i
          rw [List.mem_append, List.mem_singleton, hk i]
          unfold strikeF
          by_cases hi : i = id
          · subst hi
            simp only [decide_true, Bool.not_true, Bool.and_false, true_and]
            exact ⟨fun _ => ⟨s, hfx⟩, fun _ => Or.inr trivial⟩
          · simp [hi]
        have hn9 : (k ++ [id]).Nodup := by
          rw [List.nodup_append]
          exact ⟨hn, by simp, fun a ha b hb e => by simp at hb; subst hb; subst e; exact hne9 ha⟩
        have hbx := belowNew (w2.alloc (.cells #[.int .i64 rd, .string s] 142)) (.cells #[.string id] 9)
        have hQ4 := hQ3.below hbx
        have hR4 := hR3.kept (Kept.of_below (S := fun _ => False) hbx) (fun e => e) (fun e => e)
        have hb4 := hb3.trans (hbx.mono hb3.size)
        have hN := new_text (w2.alloc (.cells #[.int .i64 rd, .string s] 142)) id
        have e8 : (w2.alloc (.cells #[.int .i64 rd, .string s] 142)).heap.size = w2.heap.size + 1 := by show (w2.heap.push _).size = _; exact Array.size_push _
        rw [e8] at hN
        have hbs : r + 1 ≤ ((w2.alloc (.cells #[.int .i64 rd, .string s] 142)).alloc (.cells #[.string id] 9)).heap.size := by have := hbx.size; have := hA.size; omega
        have m1 : k.length + 1 ≤ maxLen := by unfold maxLen; omega
        have m2 : (k.length + 1) * 16 ≤ 140737488355328 := by omega
        clear hk hQ3 hR3 hb3 e8
        go_wp2_with (at_builtin; refine wpList_push (K := textK) rfl _ _ 31 rfl (r + 1) 9 i0 _ 16 Tryz.underlying31 hi0 hz0 hz1 hz2 hz3 _ k rfl hQ4 id trivial (fun _ h => h.elim) ⟨w2.heap.size + 1, 0, none⟩ 1 rfl hN m1 m2 hbs ?_)
        intro ao3 cap3 w3 hQ5 hk3
        have hR5 := hR4.kept hk3 (fun e => by have := (hQ4.lt _ e).1; omega) (fun e => by have := (hQ4.lt _ e).1; omega)
        have hb5 := hb4.trans (Kept.below hk3 hb4.size (fun j hj => by have := (hQ4.lt j hj).1; omega))
        clear hk3 hQ4 hb4 hbx hN hbs m1 m2 hen hR4
        go_wp2
        go_roundw
        case rel => exact ⟨_, _, _, hR5, hQ5, hn9, by rw [List.length_append]; simp; omega, hk9, hb5⟩
        case measure => rw [hR5.left_eq, hLq]; omega
      · have hk9 : ∀ i, i ∈ k ↔ strikeF left id i = false ∧ ∃ s, f0 i = some (.agg #[.int .i64 round, .string s]) := by
          intro i
          rw [hk i]
          unfold strikeF
          by_cases hi : i = id
          · subst hi
            constructor
            · rintro ⟨h1, _⟩
              rw [hlx] at h1
              cases h1
            · rintro ⟨_, s', h2⟩
              rw [hfx] at h2
              simp at h2
              exact (he h2.1).elim
          · simp [hi]
        clear hk
        go_wp2
        go_roundw
        case rel => exact ⟨_, _, _, hR3, hQ3, hn, by omega, hk9, hb3⟩
        case measure => rw [hR3.left_eq, hLq]; omega
end Go.Proofs.YtmjkbdgcnoenbaaGreatDoor

/- The contracts of a table, in words that name nothing of how it lies. -/
namespace Go.Proofs.YtmjkbdgcnoenbaaGreatDoor
open Go Go.RowKit Go.Maps
set_option linter.unusedVariables false

/-- A table at block tb; S: the blocks that it has. -/
structure PT (w : World) (tb : Nat) (S : Nat → Prop) (most low : Int) (l : List ThingD) : Prop where
  at_ : ∃ mb m0, most = max 0 m0 ∧ (∀ k, S k ↔ k = tb ∨ k = mb) ∧ PTab w tb mb m0 low l
  rise : Rise l

theorem PT.lt {w : World} {tb : Nat} {S : Nat → Prop} {most low : Int} {l : List ThingD} (h : PT w tb S most low l) {k : Nat} (hk : S k) : k < w.heap.size := by
  obtain ⟨⟨mb, m0, rfl, h1, h2⟩, _⟩ := h
  rcases (h1 k).1 hk with e | e
  · rw [e]; exact h2.box.lt
  · rw [e]; exact h2.map.lt

theorem PT.kept {S' : Nat → Prop} {w w' : World} {tb : Nat} {S : Nat → Prop} {most low : Int} {l : List ThingD} (h : PT w tb S most low l) (hk : Kept S' w w') (hS : ∀ k, S k → ¬ S' k) : PT w' tb S most low l := by
  obtain ⟨⟨mb, m0, rfl, h1, h2⟩, h3⟩ := h
  exact ⟨⟨mb, m0, rfl, h1, h2.kept hk (hS tb ((h1 tb).2 (Or.inl rfl))) (hS mb ((h1 mb).2 (Or.inr rfl)))⟩, h3⟩

theorem PT.below {w w' : World} {tb : Nat} {S : Nat → Prop} {most low : Int} {l : List ThingD} (h : PT w tb S most low l) (hb : Below w.heap.size w w') : PT w' tb S most low l := by
  obtain ⟨⟨mb, m0, rfl, h1, h2⟩, h3⟩ := h
  exact ⟨⟨mb, m0, rfl, h1, h2.below hb⟩, h3⟩

theorem ptNew_any (most : Int) (w : World) :
    Calls Tryz.prog 69 #[.int .i64 most] w fun e w' => ∃ tb, e = .returned (.pointer (some ⟨tb, 0, none⟩)) ∧ ∃ S, PT w' tb S (max 0 most) (-9223372036854775808) [] ∧ (∀ k, S k → w.heap.size ≤ k) ∧ Below w.heap.size w w' := by
  refine (tabNew_any most w).mono ?_
  rintro e w' ⟨tb, rfl, mb, h1, h2, h3, h4⟩
  exact ⟨tb, rfl, fun k => k = tb ∨ k = mb, ⟨⟨mb, most, rfl, fun k => Iff.rfl, h1⟩, Rise.nil⟩, fun k hk => by rcases hk with rfl | rfl <;> assumption, h4⟩

theorem ptGet_any (id : ByteArray) (hid : id.size ≤ maxLen) (tb : Nat) (S : Nat → Prop) (most low : Int) (l : List ThingD) (w : World) (h : PT w tb S most low l) :
    Calls Tryz.prog 48 #[.pointer (some ⟨tb, 0, none⟩), .string id] w fun e w' => e = .returned (.tuple #[.string (gotS (getR l id)), .int .i64 (gotR (getR l id)), .bool (getR l id).isSome]) ∧ Below w.heap.size w w' := by
  obtain ⟨⟨mb, m0, rfl, h1, h2⟩, h3⟩ := h
  exact tabGet_any id hid tb mb m0 low l w h2

theorem ptIds_any (round : Int) (tb : Nat) (S : Nat → Prop) (most low : Int) (l : List ThingD) (w : World) (h : PT w tb S most low l) :
    Calls Tryz.prog 68 #[.pointer (some ⟨tb, 0, none⟩), .int .i64 round] w fun e w' => ∃ v, e = .returned v ∧ KQ textK 9 w' w.heap.size v (idsL l round) ∧ Below w.heap.size w w' := by
  obtain ⟨⟨mb, m0, rfl, h1, h2⟩, h3⟩ := h
  exact tabIds_any round tb mb m0 low l w h2 h3

theorem ptDrop_any (round : Int) (tb : Nat) (S : Nat → Prop) (most low : Int) (l : List ThingD) (w : World) (h : PT w tb S most low l) :
    Calls Tryz.prog 64 #[.pointer (some ⟨tb, 0, none⟩), .int .i64 round] w fun e w' => e = .returned (.int .i64 ((l.length : Int) - ((dropL l round).length : Int))) ∧ ∃ S', PT w' tb S' most (max low round) (dropL l round) ∧ FreshS w S S' ∧ Kept S w w' := by
  obtain ⟨⟨mb, m0, rfl, h1, h2⟩, h3⟩ := h
  refine (tabDrop_any round tb mb m0 low l w h2).mono ?_
  rintro e w' ⟨rfl, h4, h5⟩
  exact ⟨rfl, S, ⟨⟨mb, m0, rfl, h1, h4⟩, h3.drop round⟩, fun k hk => Or.inl hk, h5.mono (fun k _ hk => (h1 k).2 hk)⟩

theorem rise_putTP {most low : Int} {l : List ThingD} {x : ThingD} (h : Rise l) : Rise (putTP most l low x) := by
  unfold putTP
  by_cases he : putEP most l low x.id x.round = 0
  · rw [if_pos he]
    refine h.put (fun hm => ?_)
    have : (getR l x.id).isSome = true := by
      obtain ⟨y, hy, e⟩ := List.mem_map.1 hm
      unfold getR
      rw [List.find?_isSome]
      exact ⟨y, hy, by rw [bytes_eq]; exact decide_eq_true e⟩
    unfold putEP at he
    rw [if_pos this] at he
    cases he
  · rw [if_neg he]
    exact h

theorem putEP_max (m0 : Int) (l : List ThingD) (low : Int) (id : ByteArray) (round : Int) : putEP m0 l low id round = putEP (max 0 m0) l low id round := by
  unfold putEP
  have : (m0 ≤ (l.length : Int)) ↔ (max 0 m0 ≤ (l.length : Int)) := by omega
  simp only [this]

theorem putTP_max (m0 : Int) (l : List ThingD) (low : Int) (x : ThingD) : putTP m0 l low x = putTP (max 0 m0) l low x := by
  unfold putTP
  rw [putEP_max]

theorem ptPut_any (id : ByteArray) (hid : id.size ≤ maxLen) (round : Int) (s : ByteArray) (tb : Nat) (S : Nat → Prop) (most low : Int) (l : List ThingD) (w : World) (h : PT w tb S most low l) (hl6 : l.length < 1000000) :
    Calls Tryz.prog 59 #[.pointer (some ⟨tb, 0, none⟩), .string id, .int .i64 round, .string s] w fun e w' => e = .returned (.int .i64 (putEP most l low id round : Int)) ∧ ∃ S', PT w' tb S' most low (putTP most l low ⟨id, round, s⟩) ∧ FreshS w S S' ∧ Kept S w w' := by
  obtain ⟨⟨mb, m0, rfl, h1, h2⟩, h3⟩ := h
  refine (tabPut_any id hid round s tb mb m0 low l w h2 hl6).mono ?_
  rintro e w' ⟨rfl, h4, h5⟩
  rw [putTP_max] at h4
  rw [putEP_max]
  exact ⟨rfl, S, ⟨⟨mb, m0, rfl, h1, h4⟩, rise_putTP h3⟩, fun k hk => Or.inl hk, h5.mono (fun k _ hk => (h1 k).2 hk)⟩
end Go.Proofs.YtmjkbdgcnoenbaaGreatDoor

/- A map of places to whatever values: what is in by each place; how it is looked up in, written, and struck from. -/
namespace Go.Proofs.YtmjkbdgcnoenbaaGreatDoor
open Go Go.RowKit Go.Maps
set_option linter.unusedVariables false

/-- A place. -/
structure PlaceD where
  a : Int
  r : Int

def PlaceD.v (p : PlaceD) : Value := .agg #[.int .i64 p.a, .int .i64 p.r]
def PlaceD.Wf (p : PlaceD) : Prop := (Lit.int .i64 p.a).wf = true ∧ (Lit.int .i64 p.r).wf = true

instance : DecidableEq PlaceD := fun p q => decidable_of_iff (p.a = q.a ∧ p.r = q.r) (by cases p; cases q; simp)

/-- A place as a key. -/
def keyP (id : PlaceD) : Lit := .string (keyBytes [.int .i64 id.a, .int .i64 id.r])

/-- Type kt is such a struct's. -/
structure PKey (kt : TypeId) : Prop where
  law : Keyed Tryz.prog kt
  key : ∀ id : PlaceD, id.Wf → keyOf Tryz.prog kt id.v = some (keyP id)
  back : ∀ (v : Value) (kl : Lit), keyOf Tryz.prog kt v = some kl → ∃ id : PlaceD, v = id.v ∧ id.Wf ∧ kl = keyP id

theorem keyOf_pair {P : Program} {kt t1 t2 : TypeId} {f1 f2 : Field} (hu : P.underlying kt = some (.struct #[f1, f2])) (hkt : P.keyType kt = true) (h1 : f1.offset = 0) (h2 : f2.offset = 1) (hn1 : (f1.name != "_") = true) (hn2 : (f2.name != "_") = true) (hc : P.cellsOf kt = 2) (ht1 : f1.type = t1) (ht2 : f2.type = t2) (hc1 : P.cellsOf t1 = 1) (hc2 : P.cellsOf t2 = 1)
    (hu1 : P.underlying t1 = some (.int .i64)) (hu2 : P.underlying t2 = some (.int .i64)) (hsz : 0 < P.types.size) (a r : Int) (w1 : (Lit.int .i64 a).wf = true) (w2 : (Lit.int .i64 r).wf = true) : keyOf P kt (.agg #[.int .i64 a, .int .i64 r]) = some (.string (keyBytes [.int .i64 a, .int .i64 r])) := by
  obtain ⟨m, hm⟩ : ∃ m, P.types.size = m + 1 := ⟨P.types.size - 1, by omega⟩
  have hf : (Value.agg #[.int .i64 a, .int .i64 r]).formed P kt = true := by simp [Value.formed, hu, hc]
  have hk : P.keyLits (m + 1 + 1) kt [.int .i64 a, .int .i64 r] = some [.int .i64 a, .int .i64 r] := by
    simp [Program.keyLits, hu, hc, hn1, hn2, h1, h2, ht1, ht2, hc1, hc2, hu1, hu2, w1, w2]
  have hcs : (Value.agg #[.int .i64 a, .int .i64 r]).cells.toList = [.int .i64 a, .int .i64 r] := rfl
  unfold keyOf
  rw [hu]
  simp only [hkt, hf, Bool.and_self, if_true, hm, hcs, hk, Option.map_some]

theorem pair_of_keyOf {P : Program} {kt t1 t2 : TypeId} {f1 f2 : Field} (hu : P.underlying kt = some (.struct #[f1, f2])) (h1 : f1.offset = 0) (h2 : f2.offset = 1) (hc : P.cellsOf kt = 2) (ht1 : f1.type = t1) (ht2 : f2.type = t2) (hc1 : P.cellsOf t1 = 1) (hc2 : P.cellsOf t2 = 1)
    (hu1 : P.underlying t1 = some (.int .i64)) (hu2 : P.underlying t2 = some (.int .i64)) (hsz : 0 < P.types.size) (v : Value) (kl : Lit) (hk : keyOf P kt v = some kl) : ∃ id : PlaceD, v = id.v ∧ id.Wf ∧ kl = keyP id := by
  obtain ⟨m, hm⟩ : ∃ m, P.types.size = m + 1 := ⟨P.types.size - 1, by omega⟩
  unfold keyOf at hk
  rw [hu] at hk
  simp only [hm] at hk
  split at hk
  case isFalse => cases hk
  next hf =>
  cases v with
  | agg cs =>
    simp only [Value.formed, hu, hc, Bool.and_eq_true, beq_iff_eq] at hf
    obtain ⟨l, hl⟩ : ∃ l, cs = ⟨l⟩ := ⟨cs.toList, rfl⟩
    subst hl
    obtain ⟨_, hlen⟩ := hf
    have hlen' : l.length = 2 := hlen
    match l, hlen' with
    | [x, y], _ =>
      have hcs : (Value.agg ⟨[x, y]⟩).cells.toList = [x, y] := rfl
      rw [hcs] at hk
      have one : ∀ (t : TypeId) (z : Value) (r : List Lit), P.underlying t = some (.int .i64) → P.keyLits (m + 1) t [z] = some r → ∃ n, z = .int .i64 n ∧ (Lit.int .i64 n).wf = true ∧ r = [.int .i64 n] := by
        intro t z r ht hr
        unfold Program.keyLits at hr
        rw [ht] at hr
        cases z <;> simp at hr
        rename_i q n
        obtain ⟨⟨e1, e2⟩, e3⟩ := hr
        subst e1
        exact ⟨n, rfl, e2, e3.symm⟩
      cases hkl : P.keyLits (m + 1 + 1) kt [x, y] with
      | none => rw [hkl] at hk; cases hk
      | some ls =>
        rw [hkl] at hk
        unfold Program.keyLits at hkl
        rw [hu] at hkl
        simp only [] at hkl
        split at hkl
        case isFalse => cases hkl
        cases h3 : P.keyLits (m + 1) t1 [x] with
        | none => simp [ht1, h1, hc1, h3] at hkl
        | some r1 =>
          cases h4 : P.keyLits (m + 1) t2 [y] with
          | none => simp [ht1, ht2, h1, h2, hc1, hc2, h3, h4] at hkl
          | some r2 =>
            obtain ⟨a, e1, w1, q1⟩ := one t1 x r1 hu1 h3
            obtain ⟨r, e2, w2, q2⟩ := one t2 y r2 hu2 h4
            subst e1; subst e2; subst q1; subst q2
            simp [ht1, ht2, h1, h2, hc1, hc2, h3, h4] at hkl
            subst hkl
            simp only [Option.map_some, Option.some.injEq] at hk
            exact ⟨⟨a, r⟩, rfl, ⟨w1, w2⟩, hk.symm⟩
  | _ => simp [Value.formed, hu] at hf

theorem PKey.of {kt t1 t2 : TypeId} {f1 f2 : Field} (hl : laidOutB Tryz.prog = true) (hrow : kt < Tryz.prog.types.size) (hu : Tryz.prog.underlying kt = some (.struct #[f1, f2])) (hk : Tryz.prog.keyTypeAt 3 kt = true) (hkt : Tryz.prog.keyType kt = true)
    (h1 : f1.offset = 0) (h2 : f2.offset = 1) (hn1 : (f1.name != "_") = true) (hn2 : (f2.name != "_") = true) (hc : Tryz.prog.cellsOf kt = 2) (ht1 : f1.type = t1) (ht2 : f2.type = t2) (hc1 : Tryz.prog.cellsOf t1 = 1) (hc2 : Tryz.prog.cellsOf t2 = 1)
    (hu1 : Tryz.prog.underlying t1 = some (.int .i64)) (hu2 : Tryz.prog.underlying t2 = some (.int .i64)) (hsz : 0 < Tryz.prog.types.size) : PKey kt :=
  ⟨Keyed.of_law (deep_law_laid hl (m := 3) (by omega) hrow hk (by rw [hu])), fun id hw => keyOf_pair hu hkt h1 h2 hn1 hn2 hc ht1 ht2 hc1 hc2 hu1 hu2 hsz id.a id.r hw.1 hw.2, pair_of_keyOf hu h1 h2 hc ht1 ht2 hc1 hc2 hu1 hu2 hsz⟩

theorem keyP_ok (id : PlaceD) : WideAt.IsKeyLit (keyP id) := trivial

theorem PKey.inj {kt : TypeId} (K : PKey kt) {p q : PlaceD} (hp : p.Wf) (hq : q.Wf) (h : keyP p = keyP q) : p = q := by
  have h1 := K.key p hp
  have h2 := K.key q hq
  rw [h] at h1
  have := K.law.inj h1 h2
  cases p
  cases q
  simpa [PlaceD.v] using this

/-- Block b is a map that holds by each place what f tells, n things in all. -/
def PMap (w : World) (kt : TypeId) (b : Nat) (f : PlaceD → Option Value) (n : Nat) : Prop :=
  ∃ D : DataW Value, w.ownsMap Tryz.prog kt heldElem b n D ∧ Maps.size D = n ∧ (∀ id, id.Wf → Maps.has D (keyP id) = (f id).isSome) ∧ ∀ id z, id.Wf → D.atKey (keyP id) z = match f id with | some v => .held v | none => z

theorem PMap.lt {w : World} {kt : TypeId} {b : Nat} {f : PlaceD → Option Value} {n : Nat} (h : PMap w kt b f n) : b < w.heap.size := by
  obtain ⟨D, h1, _⟩ := h
  exact h1.lt

theorem PMap.keep {w w' : World} {kt : TypeId} {b : Nat} {f : PlaceD → Option Value} {n : Nat} (h : PMap w kt b f n) (hk : w'.heap[b]? = w.heap[b]?) : PMap w' kt b f n := by
  obtain ⟨D, ⟨es, clock, hb, F, hs, hD⟩, h2⟩ := h
  exact ⟨D, ⟨es, clock, hk.trans hb, F, hs, hD⟩, h2⟩

theorem PMap.kept {S : Nat → Prop} {w w' : World} {kt : TypeId} {b : Nat} {f : PlaceD → Option Value} {n : Nat} (h : PMap w kt b f n) (hk : Kept S w w') (hb : ¬ S b) : PMap w' kt b f n := h.keep (hk.block b h.lt hb)

theorem PMap.below {w w' : World} {kt : TypeId} {b : Nat} {f : PlaceD → Option Value} {n : Nat} (h : PMap w kt b f n) (hb : Below w.heap.size w w') : PMap w' kt b f n := h.keep (hb.block b h.lt)

theorem PMap.congr {w : World} {kt : TypeId} {b : Nat} {f g : PlaceD → Option Value} {n : Nat} (h : PMap w kt b f n) (e : ∀ id, g id = f id) : PMap w kt b g n := by
  obtain rfl : g = f := funext e
  exact h

theorem PMap.new (w : World) (kt : TypeId) : PMap (w.alloc (.map #[] 0)) kt w.heap.size (fun _ => none) 0 :=
  ⟨.map [], World.ownsMap_made w _ _ _, rfl, fun _ _ => rfl, fun _ _ _ => rfl⟩

/-- How many there are behind it. -/
def putNP (f : PlaceD → Option Value) (id : PlaceD) (n : Nat) : Nat := if (f id).isSome = true then n else n + 1
def delNP (f : PlaceD → Option Value) (id : PlaceD) (n : Nat) : Nat := if (f id).isSome = true then n - 1 else n

/-- What is put in. -/
def putFP (f : PlaceD → Option Value) (id : PlaceD) (v : Value) (i : PlaceD) : Option Value := if i = id then some v else f i
def delFP (f : PlaceD → Option Value) (id : PlaceD) (i : PlaceD) : Option Value := if i = id then none else f i

theorem PMap.puts {w w' : World} {kt : TypeId} {b : Nat} {f : PlaceD → Option Value} {n m : Nat} {D : DataW Value} {id : PlaceD} {v : Value} (ho : w.ownsMap Tryz.prog kt heldElem b n D) (h1 : Maps.size D = n) (h2 : ∀ id, id.Wf → Maps.has D (keyP id) = (f id).isSome) (h3 : ∀ id z, id.Wf → D.atKey (keyP id) z = match f id with | some v => .held v | none => z) (K : PKey kt) (hid : id.Wf)
    (h : w'.ownsMap Tryz.prog kt heldElem b m (D.put (keyP id) (.held v))) : PMap w' kt b (putFP f id v) (putNP f id n) := by
  have hT := ho.tidy K.law
  have hsz : Maps.size (D.put (keyP id) (.held v)) = putNP f id n := by
    unfold putNP
    rw [size_put hT, h2 _ hid, h1]
  refine ⟨_, by rw [← hsz]; exact owns_tight h, hsz, fun i hi => ?_, fun i z hi => ?_⟩
  · unfold putFP
    by_cases e : i = id
    · subst e
      rw [if_pos rfl]
      exact has_put_same hT.isMap (keyP_ok _) _
    · rw [if_neg e, has_put_other (fun e' => e (K.inj hi hid e'))]
      exact h2 i hi
  · unfold putFP
    by_cases e : i = id
    · subst e
      rw [if_pos rfl]
      exact atKey_put_same hT.isMap (keyP_ok _) _ _
    · rw [if_neg e, atKey_put_other (fun e' => e (K.inj hi hid e'))]
      exact h3 i z hi

section
variable {kt : TypeId} {w : World} {ops : Array Oper} {rest : List Oper} {o : Oper} {a : Act} {Q : Exit → Act → World → Prop}

/-- 'v, ok := m[id]'. -/
theorem pmap_look_ok (K : PKey kt) (hw : Region.wanted o (yielded ops a.tmps) = true) (m x : Operand) (t : TypeId) (hop : o.op = Op.lookup t m x true) (e : TypeId) (ht : Tryz.prog.underlying t = some (.map kt e)) (z : Value) (hz : (zeroValue e).run Tryz.prog w = .ok z w)
    (b : Nat) (f : PlaceD → Option Value) (n : Nat) (hm : a.eval m = .map (some b)) (h : PMap w kt b f n) (id : PlaceD) (hid : id.Wf) (hx : a.eval x = id.v)
    (hK : wpList Tryz.prog ops Q rest (a.put o.dst (.tuple #[(f id).getD z, .bool (f id).isSome])) w) : wpList Tryz.prog ops Q (o :: rest) a w := by
  obtain ⟨D, ho, h1, h2, h3⟩ := h
  refine wpList_step fun K' hK' => ?_
  rw [if_pos hw]
  obtain ⟨v, ps, hrun, hv⟩ := ho.look_ok K.law ht hz (zd := .held z) (zp := []) rfl (K.key id hid)
  have e1 : v = (f id).getD z := by
    have := h3 id (.held z) hid
    unfold heldElem at hv
    simp only [Option.some.injEq, Prod.mk.injEq] at hv
    rw [this] at hv
    cases hf : f id with
    | none => rw [hf] at hv; simpa using hv.1
    | some u => rw [hf] at hv; simpa using hv.1
  subst e1
  rw [h2 _ hid] at hrun
  unfold Oper.wp
  simp [execOp, hop, hm, hx, hrun, Result.andThen]
  exact hK' _ _ hK

/-- 'm[id] = v'. -/
theorem pmap_put (K : PKey kt) (hg : o.guard = none) (m x v : Operand) (t : TypeId) (hop : o.op = Op.mapUpdate t m x v) (e : TypeId) (ht : Tryz.prog.underlying t = some (.map kt e))
    (b : Nat) (f : PlaceD → Option Value) (n : Nat) (hm : a.eval m = .map (some b)) (h : PMap w kt b f n) (hn : n < maxLen) (id : PlaceD) (hid : id.Wf) (hx : a.eval x = id.v) (u : Value) (hv : a.eval v = u)
    (hK : ∀ w', PMap w' kt b (putFP f id u) (putNP f id n) → Kept (fun k => k = b) w w' → wpList Tryz.prog ops Q rest (a.put o.dst undef) w') : wpList Tryz.prog ops Q (o :: rest) a w := by
  obtain ⟨D, ho, h1, h2, h3⟩ := h
  refine wpList_mapUpdate_own w hg m x v t hop kt e K.law ht heldElem b n D hm ho hn _ _ _ hx hv (K.key id hid) (.held u) [] rfl ?_
  intro w' ho' hg'
  refine hK w' (PMap.puts ho h1 h2 h3 K hid ho') ((Kept.of_grown hg').mono (fun k _ e => by simpa using e.symm))

/-- 'len(m)'. -/
theorem pmap_len (hw : Region.wanted o (yielded ops a.tmps) = true) (m : Operand) (t : TypeId) (hop : o.op = Op.call { callee := Callee.builtin Builtin.len, args := #[m], argTypes := #[t] }) (e : TypeId) (ht : Tryz.prog.underlying t = some (.map kt e))
    (b : Nat) (f : PlaceD → Option Value) (n : Nat) (hm : a.eval m = .map (some b)) (h : PMap w kt b f n) (hK : wpList Tryz.prog ops Q rest (a.put o.dst (.int .i64 (n : Int))) w) : wpList Tryz.prog ops Q (o :: rest) a w := by
  obtain ⟨D, ho, h1, h2, h3⟩ := h
  refine wpList_step fun K' hK' => ?_
  rw [if_pos hw]
  have hl := ho.len ht o.type
  rw [h1] at hl
  unfold Oper.wp
  simp [execOp, hop, resolve, invoke, builtin, hm, hl, Result.andThen]
  exact hK' _ _ hK
end
end Go.Proofs.YtmjkbdgcnoenbaaGreatDoor

/- A map of places that is gone through: what is still to come; the step; what is struck on the way; and how many things it holds. -/
namespace Go.Proofs.YtmjkbdgcnoenbaaGreatDoor
open Go Go.RowKit Go.Maps
set_option linter.unusedVariables false

/-- The map in block b is gone through by the iterator in block r: 'left' tells which places are still to come, cnt how many. -/
def PRange (w : World) (kt : TypeId) (b r : Nat) (f : PlaceD → Option Value) (n : Nat) (left : PlaceD → Bool) (cnt : Nat) : Prop :=
  ∃ (D : DataW Value) (lf : Lit → Bool) (N : Nat), w.ranges Tryz.prog kt heldElem b r N D lf cnt ∧ Maps.size D = n ∧ (∀ id, id.Wf → Maps.has D (keyP id) = (f id).isSome) ∧ (∀ id z, id.Wf → D.atKey (keyP id) z = match f id with | some v => .held v | none => z) ∧ ∀ id, id.Wf → lf (keyP id) = left id

theorem PRange.map {w : World} {kt : TypeId} {b r : Nat} {f : PlaceD → Option Value} {n : Nat} {left : PlaceD → Bool} {cnt : Nat} (h : PRange w kt b r f n left cnt) : PMap w kt b f n := by
  obtain ⟨D, lf, N, h1, h2, h3, h4, _⟩ := h
  exact ⟨D, by rw [← h2]; exact owns_tight h1.owns, h2, h3, h4⟩

theorem PRange.left_eq {w : World} {kt : TypeId} {b r : Nat} {f : PlaceD → Option Value} {n : Nat} {left : PlaceD → Bool} {cnt : Nat} (h : PRange w kt b r f n left cnt) : w.rangeLeft b r = cnt := by
  obtain ⟨D, lf, N, h1, _⟩ := h
  exact h1.left_eq

theorem PRange.lt {w : World} {kt : TypeId} {b r : Nat} {f : PlaceD → Option Value} {n : Nat} {left : PlaceD → Bool} {cnt : Nat} (h : PRange w kt b r f n left cnt) : r < w.heap.size := by
  obtain ⟨D, lf, N, h1, _⟩ := h
  exact h1.lt

theorem PRange.keep {w w' : World} {kt : TypeId} {b r : Nat} {f : PlaceD → Option Value} {n : Nat} {left : PlaceD → Bool} {cnt : Nat} (h : PRange w kt b r f n left cnt) (hb : w'.heap[b]? = w.heap[b]?) (hr : w'.heap[r]? = w.heap[r]?) : PRange w' kt b r f n left cnt := by
  obtain ⟨D, lf, N, ⟨es, clock, since, seen, c0, k1, k2, k3, k4, k5, k6⟩, h2⟩ := h
  exact ⟨D, lf, N, ⟨es, clock, since, seen, c0, hb.trans k1, k2, k3, k4, hr.trans k5, k6⟩, h2⟩

theorem PRange.kept {S : Nat → Prop} {w w' : World} {kt : TypeId} {b r : Nat} {f : PlaceD → Option Value} {n : Nat} {left : PlaceD → Bool} {cnt : Nat} (h : PRange w kt b r f n left cnt) (hk : Kept S w w') (hb : ¬ S b) (hr : ¬ S r) : PRange w' kt b r f n left cnt :=
  h.keep (hk.block b h.map.lt hb) (hk.block r h.lt hr)

theorem PRange.congr {w : World} {kt : TypeId} {b r : Nat} {f g : PlaceD → Option Value} {n : Nat} {left : PlaceD → Bool} {cnt : Nat} (h : PRange w kt b r f n left cnt) (e : ∀ id, g id = f id) : PRange w kt b r g n left cnt := by
  obtain rfl : g = f := funext e
  exact h

theorem sameKey_P {kt : TypeId} (K : PKey kt) {a b : PlaceD} (ha : a.Wf) (hb : b.Wf) : (keyP a).sameKey (keyP b) = decide (a = b) := by
  by_cases e : a = b
  · subst e
    rw [decide_eq_true rfl]
    exact WideAt.sameKey_self (keyP_ok _)
  · rw [decide_eq_false e]
    exact sameKey_ne (fun h => e (K.inj ha hb h))

/-- One less is to come. -/
def strikeP (left : PlaceD → Bool) (id : PlaceD) (i : PlaceD) : Bool := left i && !decide (i = id)

section
variable {kt : TypeId} {w : World} {ops : Array Oper} {rest : List Oper} {o : Oper} {a : Act} {Q : Exit → Act → World → Prop}

/-- 'range m'. -/
theorem pmap_range (K : PKey kt) (hg : o.guard = none) (m : Operand) (t : TypeId) (hop : o.op = Op.range t m) (e : TypeId) (ht : Tryz.prog.underlying t = some (.map kt e)) (b : Nat) (f : PlaceD → Option Value) (n : Nat) (hm : a.eval m = .map (some b)) (h : PMap w kt b f n)
    (hK : ∀ w', PRange w' kt b w.heap.size f n (fun i => (f i).isSome) n → Below w.heap.size w w' → w'.heap.size = w.heap.size + 1 → wpList Tryz.prog ops Q rest (a.put o.dst (.pointer (some ⟨w.heap.size, 0, none⟩))) w') : wpList Tryz.prog ops Q (o :: rest) a w := by
  obtain ⟨D, ho, h1, h2, h3⟩ := h
  refine wpList_range_own w hg m t hop kt e K.law ht heldElem b n D hm ho ?_
  intro w' hr hg' hs
  exact hK w' ⟨D, Maps.has D, n, by rw [h1] at hr; exact hr, h1, h2, h3, h2⟩ ⟨hg'.os, hg'.tape, hg'.output, hg'.size, fun k hk => hg'.block k hk (by simp)⟩ hs

/-- The step. -/
theorem pmap_next (K : PKey kt) (hg : o.guard = none) (it : Operand) (hop : o.op = Op.next it false) (b r : Nat) (f : PlaceD → Option Value) (n : Nat) (left : PlaceD → Bool) (cnt : Nat) (hit : a.eval it = .pointer (some ⟨r, 0, none⟩)) (h : PRange w kt b r f n left cnt)
    (hDone : (∀ i : PlaceD, i.Wf → left i = false) → wpList Tryz.prog ops Q rest (a.put o.dst (.tuple #[.bool false])) w)
    (hMore : ∀ (id : PlaceD) (v : Value) (w' : World) (cnt' : Nat), id.Wf → left id = true → f id = some v → PRange w' kt b r f n (strikeP left id) cnt' → cnt' < cnt → Kept (fun k => k = r) w w' → w'.heap.size = w.heap.size → (Instr.entry (.pointer (some ⟨r, 0, none⟩))).run Tryz.prog w' = .ok (.tuple #[id.v, v]) w' → wpList Tryz.prog ops Q rest (a.put o.dst (.tuple #[.bool true, id.v, v])) w') : wpList Tryz.prog ops Q (o :: rest) a w := by
  obtain ⟨D, lf, N, hr, h1, h2, h3, h4⟩ := h
  refine wpList_next_ranges w hg it hop kt K.law heldElem (fun x : PlaceD => x.v) (fun v : Value => v) (fun key kl hk => ?_) (fun v y _ => ⟨v, rfl⟩) b r N D lf cnt hit hr ?_ ?_
  · obtain ⟨s, rfl, _⟩ := K.back _ _ hk
    exact ⟨s, rfl⟩
  · intro _ hl
    exact hDone (fun i hi => by rw [← h4 i hi]; exact hl _)
  · intro x c kl y w' cnt' hkey hlk hv hat hrg hlt hgr hsz hen
    obtain ⟨s, es, hs, rfl⟩ := K.back _ _ hkey
    have es' : x = s := by
      cases x; cases s
      simpa [PlaceD.v] using es
    subst es'
    have hv' : y = (.held c, []) := by
      unfold heldElem at hv
      simpa using hv.symm
    subst hv'
    have hlx : left x = true := by rw [← h4 x hs]; exact hlk
    have hfx : f x = some c := by
      have q2 := hat .nil
      have e2 := h3 x .nil hs
      cases hf : f x with
      | none =>
        rw [hf] at e2
        have : (DataW.nil : DataW Value) = .held c := e2.symm.trans q2
        cases this
      | some u =>
        rw [hf] at e2
        have : (DataW.held u : DataW Value) = .held c := e2.symm.trans q2
        simp only [DataW.held.injEq] at this
        rw [this]
    refine hMore x c w' cnt' hs hlx hfx ⟨D, _, N, hrg, h1, h2, h3, fun i hi => ?_⟩ hlt ((Kept.of_grown hgr).mono (fun k _ e => by simpa using e.symm)) hsz hen
    show (lf (keyP i) && !(keyP i).sameKey (keyP x)) = strikeP left x i
    rw [sameKey_P K hi hs, h4 i hi]
    rfl

/-- 'delete(m, id)' in the round. -/
theorem pmap_del_range (K : PKey kt) (hg : o.guard = none) (m x : Operand) (t : TypeId) (hop : o.op = Op.call { callee := Callee.builtin Builtin.delete, args := #[m, x], argTypes := #[t, kt] }) (e : TypeId) (ht : Tryz.prog.underlying t = some (.map kt e))
    (b r : Nat) (f : PlaceD → Option Value) (n : Nat) (left : PlaceD → Bool) (cnt : Nat) (hm : a.eval m = .map (some b)) (h : PRange w kt b r f n left cnt) (id : PlaceD) (hid : id.Wf) (hx : a.eval x = id.v)
    (hK : ∀ w' cnt', PRange w' kt b r (delFP f id) (delNP f id n) (strikeP left id) cnt' → cnt' ≤ cnt → Kept (fun k => k = b) w w' → wpList Tryz.prog ops Q rest (a.put o.dst (.tuple #[])) w') : wpList Tryz.prog ops Q (o :: rest) a w := by
  obtain ⟨D, lf, N, hr, h1, h2, h3, h4⟩ := h
  refine wpList_delete_ranges w hg m x t kt hop e K.law ht heldElem b r N D lf cnt hm hr _ _ hx (K.key id hid) ?_
  intro w' cnt' hr' hle ht'
  have hT := hr.owns.tidy K.law
  have hsz : Maps.size (D.del (keyP id)) = delNP f id n := by
    unfold delNP
    have := size_del (k := keyP id) hT
    rw [h2 _ hid, h1] at this
    cases hc : (f id).isSome <;> rw [hc] at this <;> simp at this ⊢ <;> omega
  refine hK w' cnt' ⟨D.del (keyP id), _, N, hr', hsz, fun i hi => ?_, fun i z hi => ?_, fun i hi => ?_⟩ hle ((Kept.of_grown ht'.grown).mono (fun k _ e => by simpa using e.symm))
  · unfold delFP
    by_cases e : i = id
    · subst e
      rw [if_pos rfl]
      exact has_del_same
    · rw [if_neg e, has_del_other (fun e' => e (K.inj hi hid e'))]
      exact h2 i hi
  · unfold delFP
    by_cases e : i = id
    · subst e
      rw [if_pos rfl]
      exact atKey_del_same _
    · rw [if_neg e, atKey_del_other (fun e' => e (K.inj hi hid e'))]
      exact h3 i z hi
  · show (lf (keyP i) && !(keyP i).sameKey (keyP id)) = strikeP left id i
    rw [sameKey_P K hi hid, h4 i hi]
    rfl
end

/-- 'v, ok := m[id]' as a run. -/
theorem PMap.looks {w : World} {kt : TypeId} {b : Nat} {f : PlaceD → Option Value} {n : Nat} (K : PKey kt) (h : PMap w kt b f n) {t e : TypeId} (ht : Tryz.prog.underlying t = some (.map kt e)) {z : Value} (hz : (zeroValue e).run Tryz.prog w = .ok z w) {id : PlaceD} (hid : id.Wf) : (Instr.lookup t (.map (some b)) id.v true).run Tryz.prog w = .ok (.tuple #[(f id).getD z, .bool (f id).isSome]) w := by
  obtain ⟨D, ho, h1, h2, h3⟩ := h
  obtain ⟨v, ps, hrun, hv⟩ := ho.look_ok K.law ht hz (zd := .held z) (zp := []) rfl (K.key id hid)
  have e1 : v = (f id).getD z := by
    have := h3 id (.held z) hid
    unfold heldElem at hv
    simp only [Option.some.injEq, Prod.mk.injEq] at hv
    rw [this] at hv
    cases hf : f id with
    | none => rw [hf] at hv; simpa using hv.1
    | some u => rw [hf] at hv; simpa using hv.1
  subst e1
  rw [h2 _ hid] at hrun
  exact hrun

/-- 'm[id] = v' as a run. -/
theorem PMap.update {w : World} {kt : TypeId} {b : Nat} {f : PlaceD → Option Value} {n : Nat} (K : PKey kt) (h : PMap w kt b f n) (hn : n < maxLen) {t e : TypeId} (ht : Tryz.prog.underlying t = some (.map kt e)) {id : PlaceD} (hid : id.Wf) (u : Value) :
    ∃ w', (Instr.mapUpdate t (.map (some b)) id.v u).run Tryz.prog w = .ok () w' ∧ PMap w' kt b (putFP f id u) (putNP f id n) ∧ Kept (fun k => k = b) w w' := by
  obtain ⟨D, ho, h1, h2, h3⟩ := h
  obtain ⟨w', hrun, r1, r2⟩ := ho.update K.law ht hn (K.key id hid) (val := u) (d := .held u) (ps := []) rfl
  exact ⟨w', hrun, PMap.puts ho h1 h2 h3 K hid r1, (Kept.of_grown r2).mono (fun k _ e => by simpa using e.symm)⟩

/-- 'delete(m, id)' in the round, as a run. -/
theorem PRange.delete {w : World} {kt : TypeId} {b r : Nat} {f : PlaceD → Option Value} {n : Nat} {left : PlaceD → Bool} {cnt : Nat} (K : PKey kt) (h : PRange w kt b r f n left cnt) {t e : TypeId} (ht : Tryz.prog.underlying t = some (.map kt e)) {id : PlaceD} (hid : id.Wf) (ty : TypeId) :
    ∃ w' cnt', (Builtin.delete_ #[t, kt] ty #[.map (some b), id.v]).run Tryz.prog w = .ok (.tuple #[]) w' ∧ PRange w' kt b r (delFP f id) (delNP f id n) (strikeP left id) cnt' ∧ cnt' ≤ cnt ∧ Kept (fun k => k = b) w w' := by
  obtain ⟨D, lf, N, hr, h1, h2, h3, h4⟩ := h
  obtain ⟨w', cnt', hrun, hr', hle, ht'⟩ := hr.drop K.law ht (K.key id hid) ty
  have hT := hr.owns.tidy K.law
  have hsz : Maps.size (D.del (keyP id)) = delNP f id n := by
    unfold delNP
    have := size_del (k := keyP id) hT
    rw [h2 _ hid, h1] at this
    cases hc : (f id).isSome <;> rw [hc] at this <;> simp at this ⊢ <;> omega
  refine ⟨w', cnt', hrun, ⟨D.del (keyP id), _, N, hr', hsz, fun i hi => ?_, fun i z hi => ?_, fun i hi => ?_⟩, hle, ((Kept.of_grown ht'.grown).mono (fun k _ e => by simpa using e.symm))⟩
  · unfold delFP
    by_cases e : i = id
    · subst e
      rw [if_pos rfl]
      exact has_del_same
    · rw [if_neg e, has_del_other (fun e' => e (K.inj hi hid e'))]
      exact h2 i hi
  · unfold delFP
    by_cases e : i = id
    · subst e
      rw [if_pos rfl]
      exact atKey_del_same _
    · rw [if_neg e, atKey_del_other (fun e' => e (K.inj hi hid e'))]
      exact h3 i z hi
  · show (lf (keyP i) && !(keyP i).sameKey (keyP id)) = strikeP left id i
    rw [sameKey_P K hi hid, h4 i hi]
    rfl

theorem PMap.count {w : World} {kt : TypeId} {b : Nat} {f : PlaceD → Option Value} {n : Nat} (K : PKey kt) (h : PMap w kt b f n) {L : List PlaceD} (hL : L.Nodup) (hW : ∀ id ∈ L, id.Wf) (hf : ∀ id, id.Wf → ((f id).isSome = true ↔ id ∈ L)) : n = L.length := by
  obtain ⟨D, ho, h1, h2, h3⟩ := h
  have hkeys : ∃ es : List (Lit × DataW Value), D = .map es ∧ es.Pairwise (fun p q => p.1 ≠ q.1) ∧ ∀ p ∈ es, ∃ s : PlaceD, s.Wf ∧ p.1 = keyP s := by
    obtain ⟨es, hD, hp, _⟩ := ho.entries K.law
    refine ⟨es, hD, hp, fun p hpm => ?_⟩
    obtain ⟨es', clock, hb, F, hs, hD'⟩ := ho
    rw [hD] at hD'
    simp only [DataW.map.injEq] at hD'
    rw [hD'] at hpm
    obtain ⟨x, hx, rfl⟩ := List.mem_map.1 (mem_sorted.1 hpm)
    obtain ⟨key, hkey⟩ := fit_keys F _ (List.mem_map.2 ⟨x, hx, rfl⟩)
    obtain ⟨s, _, hw, e⟩ := K.back _ _ hkey
    exact ⟨s, hw, e⟩
  obtain ⟨es, rfl, hp, hk⟩ := hkeys
  have hn : (es.map (·.1)).Nodup := by
    unfold List.Nodup
    rw [List.pairwise_map]
    exact hp
  have hm : (L.map keyP).Nodup := by
    unfold List.Nodup
    rw [List.pairwise_map]
    exact List.Pairwise.imp_of_mem (fun {x y} hx hy hne e => hne (K.inj (hW x hx) (hW y hy) e)) hL
  have hsame : ∀ kl, kl ∈ es.map (·.1) ↔ kl ∈ L.map keyP := by
    intro kl
    constructor
    · intro hx
      obtain ⟨p, hpm, rfl⟩ := List.mem_map.1 hx
      obtain ⟨s, hw, e⟩ := hk p hpm
      rw [e]
      refine List.mem_map.2 ⟨s, (hf s hw).1 ?_, rfl⟩
      rw [← h2 s hw, has_eq]
      exact List.any_eq_true.2 ⟨p, hpm, by rw [e]; exact WideAt.sameKey_self (keyP_ok _)⟩
    · intro hx
      obtain ⟨s, hs, rfl⟩ := List.mem_map.1 hx
      have := (hf s (hW s hs)).2 hs
      rw [← h2 s (hW s hs), has_eq] at this
      obtain ⟨p, hpm, hpk⟩ := List.any_eq_true.1 this
      exact List.mem_map.2 ⟨p, hpm, WideAt.sameKey_eq hpk⟩
  have := by classical exact nodup_same hn hm hsame
  rw [List.length_map, List.length_map] at this
  rw [← h1, size_eq, this]

/-- What the map is while it is gone through and some are struck: those still to come as they were, of the others those that stay. -/
def mixP (f g : PlaceD → Option Value) (left : PlaceD → Bool) (i : PlaceD) : Option Value := if left i = true then f i else g i

theorem mixP_start (f g : PlaceD → Option Value) (hg : ∀ i, f i = none → g i = none) : ∀ i, f i = mixP f g (fun i => (f i).isSome) i := by
  intro i
  unfold mixP
  cases hf : f i with
  | none => simp [hg i hf]
  | some v => simp [hf]

theorem mixP_stays {f g : PlaceD → Option Value} {left : PlaceD → Bool} {id : PlaceD} (h : f id = g id) : ∀ i, mixP f g (strikeP left id) i = mixP f g left i := by
  intro i
  unfold mixP strikeP
  by_cases e : i = id
  · subst e
    cases left i <;> simp [h]
  · simp [e]

theorem mixP_goes {f g : PlaceD → Option Value} {left : PlaceD → Bool} {id : PlaceD} (h : g id = none) : ∀ i, mixP f g (strikeP left id) i = delFP (mixP f g left) id i := by
  intro i
  unfold mixP strikeP delFP
  by_cases e : i = id
  · subst e
    simp [h]
  · simp [e]

theorem strikeP_twice (left : PlaceD → Bool) (id : PlaceD) : strikeP (strikeP left id) id = strikeP left id := by
  funext i
  unfold strikeP
  cases left i <;> cases decide (i = id) <;> rfl
end Go.Proofs.YtmjkbdgcnoenbaaGreatDoor

/- The program's dag as it lies in memory: a box, a table of certificates' bytes, and a map of places. -/
namespace Go.Proofs.YtmjkbdgcnoenbaaGreatDoor
open Go Go.RowKit Go.Maps
set_option linter.unusedVariables false

theorem slotKey : PKey 111 :=
  PKey.of (t1 := 3) (t2 := 3) laidOut_true (of_decide_eq_true (by kernel_rfl)) Tryz.underlying111 (by kernel_rfl) (by kernel_rfl) rfl rfl (by decide) (by decide) (by kernel_rfl) rfl rfl (by kernel_rfl) (by kernel_rfl) Tryz.underlying3 Tryz.underlying3 (of_decide_eq_true (by kernel_rfl))

/-- What was voted for at a place. -/
def votV (v : VoteD) : Value := .agg #[.string v.id]
def votM (V : List VoteD) (p : PlaceD) : Option Value := (V.find? (votP p.a p.r)).map votV
def plV (v : VoteD) : PlaceD := ⟨v.author, v.round⟩

theorem votM_some {V : List VoteD} {p : PlaceD} : (votM V p).isSome = true ↔ p ∈ V.map plV := by
  unfold votM
  rw [Option.isSome_map, List.find?_isSome, List.mem_map]
  constructor
  · rintro ⟨v, hv, e⟩
    obtain ⟨e1, e2⟩ := votP_true.1 e
    exact ⟨v, hv, by cases p; unfold plV; simp only at e1 e2; rw [e1, e2]⟩
  · rintro ⟨v, hv, e⟩
    exact ⟨v, hv, votP_true.2 ⟨by rw [← e]; rfl, by rw [← e]; rfl⟩⟩

theorem plV_nodup {V : List VoteD} (h : V.Pairwise (fun x y => ¬ (x.author = y.author ∧ x.round = y.round))) : (V.map plV).Nodup := by
  unfold List.Nodup
  rw [List.pairwise_map]
  exact h.imp (fun {x y} hn e => hn (by unfold plV at e; simpa using e))

theorem wrap_dag {x : Int} (h0 : -9223372036854775808 ≤ x) (h1 : x ≤ 9223372036854775807) : IntKind.i64.wrap x = x := by
  simp [IntKind.wrap, IntKind.bits, IntKind.signed]
  omega

theorem int_wf {a : Int} (h0 : -9223372036854775808 ≤ a) (h1 : a ≤ 9223372036854775807) : (Lit.int .i64 a).wf = true := WalkArith.wf_i64 (by omega)

theorem votM_keep {V : List VoteD} (hk : V.Pairwise (fun x y => ¬ (x.author = y.author ∧ x.round = y.round))) (r : Int) (p : PlaceD) : votM (keepV V r) p = if r ≤ p.r then votM V p else none := by
  have hf : ∀ l : List VoteD, (keepV l r).find? (votP p.a p.r) = if r ≤ p.r then l.find? (votP p.a p.r) else none := by
    intro l
    induction l with
    | nil => simp [keepV]
    | cons v l ih =>
      have e : keepV (v :: l) r = if r ≤ v.round then v :: keepV l r else keepV l r := by
        unfold keepV
        rw [List.filter_cons]
        by_cases h : r ≤ v.round <;> simp [h]
      rw [e, List.find?_cons]
      cases hv : votP p.a p.r v with
      | true =>
        obtain ⟨e1, e2⟩ := votP_true.1 hv
        by_cases h : r ≤ v.round
        · rw [if_pos h, List.find?_cons, hv, if_pos (by omega)]
        · rw [if_neg h, ih, if_neg (by omega), if_neg (by omega)]
      | false =>
        split
        · rw [List.find?_cons, hv, ih]
        · exact ih
  unfold votM
  rw [hf V]
  split <;> rfl

theorem votM_put {V : List VoteD} {v : VoteD} (h : foundV V v.author v.round = false) (p : PlaceD) : votM (V ++ [v]) p = putFP (votM V) (plV v) (votV v) p := by
  unfold votM putFP
  rw [List.find?_append]
  by_cases e : p = plV v
  · rw [if_pos e]
    subst e
    have : V.find? (votP (plV v).a (plV v).r) = none := by
      rw [List.find?_eq_none]
      intro u hu
      rw [votP_true]
      exact foundV_false.1 h u hu
    rw [this]
    simp [votP, plV]
  · rw [if_neg e]
    cases hf : V.find? (votP p.a p.r) with
    | some u => simp only [hf]; rfl
    | none =>
      simp only [hf]
      have : votP p.a p.r v = false := by
        cases hv : votP p.a p.r v with
        | false => rfl
        | true =>
          obtain ⟨e1, e2⟩ := votP_true.1 hv
          exact (e (by cases p; unfold plV; simp only at e1 e2; rw [e1, e2])).elim
      simp [this]

/-- What stands at a place, where it is this or nothing. -/
theorem votM_here {V : List VoteD} {a r : Int} {id : ByteArray} (h : clashV V a r id = false) : votM V ⟨a, r⟩ = if foundV V a r = true then some (.agg #[.string id]) else none := by
  unfold votM
  cases hf : V.find? (votP a r) with
  | none =>
    have : foundV V a r = false := by
      unfold foundV
      rw [List.any_eq_false]
      intro v hv
      exact List.find?_eq_none.1 hf v hv
    rw [this]
    rfl
  | some v =>
    have hm := List.mem_of_find?_eq_some hf
    have hp := List.find?_some hf
    have : foundV V a r = true := by
      unfold foundV
      exact List.any_eq_true.2 ⟨v, hm, hp⟩
    rw [this]
    obtain ⟨e1, e2⟩ := votP_true.1 hp
    have := clashV_false.1 h v hm e1 e2
    simp [votV, this]

theorem key_uniq : ∀ {V : List VoteD}, V.Pairwise (fun x y => ¬ (x.author = y.author ∧ x.round = y.round)) → ∀ {u v : VoteD}, u ∈ V → v ∈ V → u.author = v.author → u.round = v.round → u = v
  | [], _, u, v, hu, _, _, _ => by cases hu
  | z :: l, h, u, v, hu, hv, e1, e2 => by
    obtain ⟨h1, h2⟩ := List.pairwise_cons.1 h
    rcases List.mem_cons.1 hu with e3 | hu <;> rcases List.mem_cons.1 hv with e4 | hv
    · rw [e3, e4]
    · rw [e3] at e1 e2
      exact (h1 v hv ⟨e1, e2⟩).elim
    · rw [e4] at e1 e2
      exact (h1 u hu ⟨e1.symm, e2.symm⟩).elim
    · exact key_uniq h2 hu hv e1 e2

theorem votM_clash {V : List VoteD} (hk : V.Pairwise (fun x y => ¬ (x.author = y.author ∧ x.round = y.round))) {a r : Int} {id : ByteArray} (h : clashV V a r id = true) : ∃ o : ByteArray, votM V ⟨a, r⟩ = some (.agg #[.string o]) ∧ o ≠ id := by
  unfold clashV at h
  obtain ⟨v, hv, hp⟩ := List.any_eq_true.1 h
  rw [Bool.and_eq_true] at hp
  obtain ⟨h1, h2⟩ := hp
  have hne : v.id ≠ id := by
    rw [bytes_eq] at h2
    simpa using h2
  unfold votM
  cases hf : V.find? (votP a r) with
  | none => exact (List.find?_eq_none.1 hf v hv h1).elim
  | some u =>
    have hm := List.mem_of_find?_eq_some hf
    have hq := List.find?_some hf
    have hsame : u = v := by
      obtain ⟨a1, a2⟩ := votP_true.1 h1
      obtain ⟨b1, b2⟩ := votP_true.1 hq
      exact key_uniq hk hm hv (by rw [a1, b1]) (by rw [a2, b2])
    subst hsame
    exact ⟨u.id, rfl, hne⟩

/-- What a look tells, and that it tells a clash. -/
theorem votM_told {V : List VoteD} (hk : V.Pairwise (fun x y => ¬ (x.author = y.author ∧ x.round = y.round))) (a r : Int) (id : ByteArray) : ∃ (o : ByteArray) (b : Bool), (votM V ⟨a, r⟩).getD (.agg #[.string ⟨#[]⟩]) = .agg #[.string o] ∧ (votM V ⟨a, r⟩).isSome = b ∧ (b && (o.toList != id.toList)) = clashV V a r id := by
  cases hc : clashV V a r id with
  | true =>
    obtain ⟨o, h1, h2⟩ := votM_clash hk hc
    refine ⟨o, true, by rw [h1]; rfl, by rw [h1]; rfl, ?_⟩
    have : (o.toList == id.toList) = false := by rw [bytes_eq]; exact decide_eq_false h2
    simp [bne, this]
  | false =>
    have h1 := votM_here hc
    cases hf : foundV V a r with
    | true =>
      rw [hf, if_pos rfl] at h1
      exact ⟨id, true, by rw [h1]; rfl, by rw [h1]; rfl, by simp⟩
    | false =>
      rw [hf, if_neg (by decide)] at h1
      exact ⟨⟨#[]⟩, false, by rw [h1]; rfl, by rw [h1]; rfl, rfl⟩

theorem voteV_map {d : DagD} {h : HdrD} {id : ByteArray} (hc : clashV d.V h.author h.round id = false) (p : PlaceD) : votM (voteV d h id) p = putFP (votM d.V) ⟨h.author, h.round⟩ (.agg #[.string id]) p := by
  unfold voteV
  by_cases hf : foundV d.V h.author h.round = true
  · rw [if_pos hf]
    unfold putFP
    split
    · next e => rw [e, votM_here hc, if_pos hf]
    · rfl
  · rw [if_neg hf]
    have hf : foundV d.V h.author h.round = false := by simpa using hf
    exact votM_put (v := ⟨h.author, h.round, id⟩) hf p

theorem voteV_cnt {d : DagD} {h : HdrD} {id : ByteArray} (hc : clashV d.V h.author h.round id = false) : putNP (votM d.V) ⟨h.author, h.round⟩ d.V.length = (voteV d h id).length := by
  unfold putNP voteV
  rw [votM_here hc]
  by_cases hf : foundV d.V h.author h.round = true
  · rw [if_pos hf, if_pos hf]; rfl
  · rw [if_neg hf, if_neg hf]; simp

theorem cell_map {w : World} {b : Nat} {es : Array MapEntry} {c : Nat} (h : w.heap[b]? = some (.map es c)) (o : Nat) : w.cell? ⟨b, o, none⟩ = none := by
  simp [World.cell?, h]

/-- What stands in cells is not turned where a map alone is. -/
theorem PMap.cells {w w' : World} {kt : TypeId} {vb : Nat} {g : PlaceD → Option Value} {n : Nat} (h : PMap w kt vb g n) (hk : Kept (fun k => k = vb) w w') {b o : Nat} {v : Value} (hc : w.cell? ⟨b, o, none⟩ = some v) : w'.cell? ⟨b, o, none⟩ = some v := by
  obtain ⟨D, ⟨es, clock, hb, _⟩, _⟩ := h
  have hne : b ≠ vb := fun e => by
    subst e
    rw [cell_map hb] at hc
    cases hc
  have hlt : b < w.heap.size := by
    cases hx : w.heap[b]? with
    | none => simp [World.cell?, hx] at hc
    | some o => exact (Array.getElem?_eq_some_iff.1 hx).1
  rw [cell_same (hk.block b hlt hne)]
  exact hc

theorem TEnv.keptMap {w w' : World} {tb f : Nat} {ks : List ByteArray} {kt : TypeId} {vb : Nat} {g : PlaceD → Option Value} {n : Nat} (h : TEnv w tb f ks) (hm : PMap w kt vb g n) (hk : Kept (fun k => k = vb) w w') : TEnv w' tb f ks := by
  obtain ⟨a, cap, h1, h2⟩ := h.T.c1
  refine ⟨⟨Nat.lt_of_lt_of_le h.T.lt hk.size, hm.cells hk h.T.c0, a, cap, hm.cells hk h1, fun j hj => ?_⟩, h.f2, h.f1, h.kl, h.k32, ⟨fun j v hv => hm.cells hk (h.G.first j v hv), fun i hi j v hv => hm.cells hk (h.G.rows i hi j v hv)⟩⟩
  obtain ⟨b, off, e, hlt, hc⟩ := h2 j hj
  exact ⟨b, off, e, Nat.lt_of_lt_of_le hlt hk.size, hm.cells hk hc⟩

/-- A dag lies in block db; cb, C: its table's; vb: its map. -/
structure PDg (w : World) (db cb vb : Nat) (C : Nat → Prop) (tb f : Nat) (ks : List ByteArray) (me : Nat) (d : DagD) (tl : Int) : Prop where
  box : Arr w db 100 [.pointer (some ⟨tb, 0, none⟩), .int .i64 (me : Int), .int .i64 d.low, .int .i64 d.own, .pointer (some ⟨cb, 0, none⟩), .map (some vb)]
  tab : PT w cb C ((32 * (3 * f + 1) : Nat) : Int) tl (thingsC d.L)
  map : PMap w 111 vb (votM d.V) d.V.length
  dc : ¬ C db
  vc : ¬ C vb
  dv : db ≠ vb
  ok : DagOk ks f d
  link : LinkC (2 * f + 1) d
  tlow : tl ≤ d.low

/-- The blocks that it has. -/
def DagS (db vb : Nat) (C : Nat → Prop) (k : Nat) : Prop := k = db ∨ k = vb ∨ C k

/-- The program's dag at db, with the blocks S that it has. -/
structure PD (w : World) (db : Nat) (S : Nat → Prop) (tb f : Nat) (ks : List ByteArray) (me : Nat) (d : DagD) : Prop where
  at_ : ∃ cb vb C tl, (∀ k, S k ↔ DagS db vb C k) ∧ PDg w db cb vb C tb f ks me d tl

section
variable {w w' : World} {db cb vb : Nat} {S S' C : Nat → Prop} {tb f : Nat} {ks : List ByteArray} {me : Nat} {d : DagD} {tl : Int}

theorem PDg.lt (h : PDg w db cb vb C tb f ks me d tl) {k : Nat} (hk : DagS db vb C k) : k < w.heap.size := by
  rcases hk with rfl | rfl | hk
  · exact h.box.lt
  · exact h.map.lt
  · exact h.tab.lt hk

theorem PDg.kept (h : PDg w db cb vb C tb f ks me d tl) (hk : Kept S' w w') (hS : ∀ k, DagS db vb C k → ¬ S' k) : PDg w' db cb vb C tb f ks me d tl :=
  ⟨h.box.kept hk (hS db (Or.inl rfl)), h.tab.kept hk (fun k e => hS k (Or.inr (Or.inr e))), h.map.kept hk (hS vb (Or.inr (Or.inl rfl))), h.dc, h.vc, h.dv, h.ok, h.link, h.tlow⟩

theorem PDg.below (h : PDg w db cb vb C tb f ks me d tl) (hb : Below w.heap.size w w') : PDg w' db cb vb C tb f ks me d tl :=
  ⟨h.box.below hb h.box.lt, h.tab.below hb, h.map.below hb, h.dc, h.vc, h.dv, h.ok, h.link, h.tlow⟩

theorem PD.kept (h : PD w db S tb f ks me d) (hk : Kept S' w w') (hS : ∀ k, S k → ¬ S' k) : PD w' db S tb f ks me d := by
  obtain ⟨cb, vb, C, tl, h1, h2⟩ := h.at_
  exact ⟨cb, vb, C, tl, h1, h2.kept hk (fun k e => hS k ((h1 k).2 e))⟩

theorem PD.below (h : PD w db S tb f ks me d) (hb : Below w.heap.size w w') : PD w' db S tb f ks me d := by
  obtain ⟨cb, vb, C, tl, h1, h2⟩ := h.at_
  exact ⟨cb, vb, C, tl, h1, h2.below hb⟩

theorem PD.lt (h : PD w db S tb f ks me d) {k : Nat} (hk : S k) : k < w.heap.size := by
  obtain ⟨cb, vb, C, tl, h1, h2⟩ := h.at_
  exact h2.lt ((h1 k).1 hk)

theorem PD.ok (h : PD w db S tb f ks me d) : DagOk ks f d := by
  obtain ⟨cb, vb, C, tl, h1, h2⟩ := h.at_
  exact h2.ok
end
end Go.Proofs.YtmjkbdgcnoenbaaGreatDoor

/- slices.Compact of texts by the library's own contract, laid over this program: of a row of the call's own that is sorted, each is left once. -/
namespace Go.Proofs.YtmjkbdgcnoenbaaGreatDoor
open Go.Shelf Go.RowKit Go.Sort
set_option linter.unusedVariables false

def laysCompactS_ren : Go.Shelf.Ren := ⟨fun | 194 => 50 | n => n, fun | 31 => 31 | 9 => 9 | 3 => 3 | 0 => 0 | 4 => 4 | n => n, fun | n => n⟩

theorem laysCompactS : Go.Proofs.Lays.n194 Tryz.prog laysCompactS_ren := {
  mixed := by kernel_rfl
  f194 := Tryz.func50.trans (congrArg some (by kernel_rfl))
  t0 := Tryz.underlying0
  a0 := Tryz.isAgg0
  z0 := Tryz.sizeOf0
  v0 := Tryz.zeroValue0
  t3 := Tryz.underlying3
  a3 := Tryz.isAgg3
  z3 := Tryz.sizeOf3
  v3 := Tryz.zeroValue3
  t4 := Tryz.underlying4
  a4 := Tryz.isAgg4
  z4 := Tryz.sizeOf4
  v4 := Tryz.zeroValue4
  t9 := Tryz.underlying9
  a9 := Tryz.isAgg9
  z9 := Tryz.sizeOf9
  v9 := Tryz.zeroValue9
  t31 := Tryz.underlying31
  a31 := Tryz.isAgg31
  z31 := Tryz.sizeOf31
  v31 := Tryz.zeroValue31 }

/-- Each once, where the same ones stand side by side. -/
def dedupT (l : List ByteArray) : List ByteArray := (Lib.compact (l.map (fun x => x.data.toList))).map (fun x => ⟨x.toArray⟩)

theorem compact_le {α : Type} [Inhabited α] [DecidableEq α] (zs : List α) : (Lib.compact zs).length ≤ zs.length := by
  unfold Lib.compact Lib.compactUpTo
  rw [List.length_map]
  have := List.length_filter_le (Lib.keeps zs.toArray) (List.range zs.length)
  rw [List.length_range] at this
  exact this

theorem dedupT_le (l : List ByteArray) : (dedupT l).length ≤ l.length := by
  unfold dedupT
  rw [List.length_map]
  have := compact_le (l.map (fun x => x.data.toList))
  rw [List.length_map] at this
  exact this

/-- What is left of a row of the call's own. -/
theorem KQ.cutRow {w : World} {B : Nat} {g off n cap : Nat} {l : List ByteArray} (h : KQ textK 9 w B (.slice (some ⟨g, off, none⟩) n cap) l) (hl : 0 < l.length) :
    n = l.length ∧ n ≤ cap ∧ Holds encStr w g off (l.map (fun x => x.data.toList)).toArray ∧ g < w.heap.size ∧ ∀ (N : Nat) (c z : List (List UInt8)), c.length + z.length = l.length →
      KQ textK 9 (putRow encStr (Sort.ahead w N) g off (c ++ z).toArray) B (.slice (some ⟨g, off, none⟩) c.length cap) (c.map (fun x => ⟨x.toArray⟩)) ∧
      Kept (fun k => k = g) w (putRow encStr (Sort.ahead w N) g off (c ++ z).toArray) := by
  have hS := (h.sorted hl).1
  rcases h.row.2 with ⟨ao', hv, hn⟩ | ⟨g', pre, post, cap', hv, hb, hg, hnc, hcm, hpl⟩
  · omega
  · simp only [Value.slice.injEq, Option.some.injEq, Addr.mk.injEq, and_true] at hv
    obtain ⟨⟨rfl, rfl⟩, rfl, rfl⟩ := hv
    have hlt := hg.lt
    refine ⟨rfl, hnc, hS, hlt, fun N c z hcz => ?_⟩
    have hblk : ∀ k, k < w.heap.size → k ≠ g → (putRow encStr (Sort.ahead w N) g pre.length (c ++ z).toArray).heap[k]? = w.heap[k]? := by
      intro k hk hne
      show (w.heap.modify g _)[k]? = _
      rw [Array.getElem?_modify, if_neg (fun e => hne e.symm)]
    have ec : flatK textK (c.map (fun x => (⟨x.toArray⟩ : ByteArray))) = c.map encStr := by rw [flat_text, List.map_map]; rfl
    have hgg : Arr (putRow encStr (Sort.ahead w N) g pre.length (c ++ z).toArray) g 9 (pre ++ flatK textK (c.map (fun x => (⟨x.toArray⟩ : ByteArray))) ++ (z.map encStr ++ post)) := by
      rw [ec]
      have e2 : pre ++ c.map encStr ++ (z.map encStr ++ post) = pre ++ (c ++ z).map encStr ++ post := by simp
      rw [e2]
      unfold Arr at hg ⊢
      show (w.heap.modify g _)[g]? = _
      rw [Array.getElem?_modify, if_pos rfl, hg]
      show some (Obj.cells (putCells encStr pre.length (c ++ z).toArray (pre ++ flatK textK l ++ post).toArray) _ _) = _
      rw [put_cells _ _ _ _ (by rw [flat_text, List.length_map, List.length_append]; exact hcz.symm)]
    have hcl : (c.map (fun x => (⟨x.toArray⟩ : ByteArray))).length = c.length := List.length_map ..
    have hpl' : post.length = (cap - l.length) * 1 := hpl
    refine ⟨⟨⟨by rw [flatK_length], Or.inr ⟨g, pre, z.map encStr ++ post, cap, by rw [hcl], hb, hgg, by rw [hcl]; omega, hcm, ?_⟩⟩, fun _ _ => trivial, fun _ _ _ h => h.elim, fun k hk => ?_, ?_⟩, rfl, rfl, rfl, ?_, fun k hk hne => hblk k hk hne⟩
    · rw [List.length_append, List.length_map, hcl]
      show z.length + post.length = (cap - c.length) * 1
      omega
    · simp only [Value.ownBlock, Option.some.injEq] at hk
      subst hk
      exact ⟨hb, hgg.lt⟩
    · intro n' cap' e
      simp at e
    · show w.heap.size ≤ (w.heap.modify g _).size
      simp

set_option maxRecDepth 100000 in
set_option maxHeartbeats 1000000 in
theorem compactS_any (B : Nat) (q : Value) (l : List ByteArray) (w : World) (h : KQ textK 9 w B q l) (hl : l.length ≤ 1000000) :
    Calls Tryz.prog 50 #[q] w fun e w' => ∃ q', e = .returned q' ∧ KQ textK 9 w' B q' (dedupT l) ∧ Kept (fun k => q.ownBlock = some k) w w' := by
  obtain ⟨ao, cap, rfl, hnil, hRow⟩ := h.form
  cases hc : l with
  | nil =>
    subst hc
    refine (show Calls Tryz.prog 50 _ w _ from Any.slices_Compact_string_empty laysCompactS ao cap w).mono ?_
    rintro e w' ⟨rfl, rfl⟩
    have e0 : dedupT [] = [] := List.eq_nil_of_length_eq_zero (Nat.le_zero.1 (dedupT_le []))
    exact ⟨_, rfl, by rw [e0]; exact h, Kept.refl _ _⟩
  | cons x r =>
    have hpos : 0 < l.length := by rw [hc]; simp
    rw [← hc]
    obtain ⟨g, off, rfl, _, _⟩ := hRow.cell 0 x (by rw [hc]; rfl)
    obtain ⟨_, h0, h1, h2, h3⟩ := h.cutRow hpos
    have hs := Any.slices_Compact_string laysCompactS g off cap (l.map (fun x => x.data.toList)) w h1 (by rw [List.length_map]; omega) (by rw [List.length_map]; exact h0)
    rw [List.length_map] at hs
    refine (show Calls Tryz.prog 50 _ w _ from hs).mono ?_
    rintro e w' ⟨rfl, N, rfl⟩
    have hcl := compact_le (l.map (fun x => x.data.toList))
    rw [List.length_map] at hcl
    obtain ⟨h4, h5⟩ := h3 N (Lib.compact (l.map (fun x => x.data.toList))) (List.replicate (l.length - (Lib.compact (l.map (fun x => x.data.toList))).length) []) (by rw [List.length_replicate]; omega)
    exact ⟨_, rfl, h4, h5.mono (fun k _ e => by rw [e]; rfl)⟩

/-- Of a sorted row each is left, once. -/
theorem compact_rise {zs : List (List UInt8)} (hs : zs.Pairwise (· ≤ ·)) : (Lib.compact zs).Pairwise (· < ·) ∧ ∀ x, x ∈ Lib.compact zs ↔ x ∈ zs := by
  have hle : ∀ i j, i ≤ j → j < zs.length → zs.toArray[i]! ≤ zs.toArray[j]! := by
    intro i j hij hj
    rw [getElem!_pos _ i (by simp; omega), getElem!_pos _ j (by simpa using hj)]
    rcases Nat.lt_or_eq_of_le hij with h | h
    · simpa using List.pairwise_iff_getElem.1 hs i j (by omega) hj h
    · subst h; exact List.le_refl _
  have key : ∀ m, m ≤ zs.length → (Lib.compactUpTo zs.toArray m).Pairwise (· < ·) ∧ ∀ x, x ∈ Lib.compactUpTo zs.toArray m ↔ ∃ j, j < m ∧ zs.toArray[j]! = x := by
    intro m
    induction m with
    | zero => intro _; exact ⟨by simp [Lib.compactUpTo], fun x => by simp [Lib.compactUpTo]⟩
    | succ m ih =>
      intro hm
      obtain ⟨h1, h2⟩ := ih (by omega)
      rw [Lib.compactUpTo_succ]
      by_cases hk : Lib.keeps zs.toArray m = true
      · rw [if_pos hk]
        refine ⟨List.pairwise_append.2 ⟨h1, List.pairwise_singleton _ _, fun a ha b hb => ?_⟩, fun x => ?_⟩
        · rw [List.mem_singleton.1 hb]
          obtain ⟨j, hj, rfl⟩ := (h2 a).1 ha
          unfold Lib.keeps at hk
          simp only [decide_eq_true_eq] at hk
          rcases hk with hk | hk
          · omega
          · have q1 := hle j (m - 1) (by omega) (by omega)
            have q2 := hle (m - 1) m (by omega) (by omega)
            exact Std.lt_of_le_of_lt q1 (Std.lt_of_le_of_ne q2 (fun e => hk e.symm))
        · rw [List.mem_append, List.mem_singleton, h2]
          constructor
          · rintro (⟨j, hj, e⟩ | e)
            · exact ⟨j, by omega, e⟩
            · exact ⟨m, by omega, e.symm⟩
          · rintro ⟨j, hj, e⟩
            rcases Nat.lt_or_eq_of_le (Nat.le_of_lt_succ hj) with h | h
            · exact Or.inl ⟨j, h, e⟩
            · subst h; exact Or.inr e.symm
      · rw [if_neg hk, List.append_nil]
        refine ⟨h1, fun x => ?_⟩
        rw [h2]
        constructor
        · rintro ⟨j, hj, e⟩
          exact ⟨j, by omega, e⟩
        · rintro ⟨j, hj, e⟩
          rcases Nat.lt_or_eq_of_le (Nat.le_of_lt_succ hj) with h | h
          · exact ⟨j, h, e⟩
          · subst h
            unfold Lib.keeps at hk
            simp only [decide_eq_true_eq, not_or, Decidable.not_not] at hk
            exact ⟨j - 1, by omega, by rw [← e, hk.2]⟩
  obtain ⟨h1, h2⟩ := key zs.length (Nat.le_refl _)
  refine ⟨h1, fun x => (h2 x).trans ?_⟩
  constructor
  · rintro ⟨j, hj, rfl⟩
    rw [getElem!_pos _ j (by simpa using hj)]
    simp
  · intro hx
    obtain ⟨j, hj, e⟩ := List.getElem_of_mem hx
    exact ⟨j, hj, by rw [getElem!_pos _ j (by simpa using hj)]; simpa using e⟩

/-- Sorted, and each once: it rises, and has what was there. -/
theorem dedup_sort (k : List ByteArray) : (dedupT (sortT k)).Pairwise (fun a b => a.toList < b.toList) ∧ ∀ x, x ∈ dedupT (sortT k) ↔ x ∈ k := by
  have hl : ∀ x y : List UInt8, (decide (x ≤ y)) = true ↔ x ≤ y := fun x y => decide_eq_true_iff
  have e1 : (sortT k).map (fun x => x.data.toList) = (k.map (fun x => x.data.toList)).mergeSort (fun x y => decide (x ≤ y)) := by
    unfold sortT
    rw [List.map_map]
    exact (List.map_congr_left (fun x _ => rfl)).trans (List.map_id _)
  have h2 : ((k.map (fun x => x.data.toList)).mergeSort (fun x y => decide (x ≤ y))).Pairwise (· ≤ ·) := by
    have := List.pairwise_mergeSort (le := fun x y : List UInt8 => decide (x ≤ y)) (fun a b c h1 h2 => by rw [hl] at *; exact List.le_trans h1 h2) (fun a b => by
      rcases Std.le_total (a := a) (b := b) with h | h <;> simp [h]) (k.map (fun x => x.data.toList))
    exact this.imp (fun h => (hl _ _).1 h)
  obtain ⟨c1, c2⟩ := compact_rise h2
  unfold dedupT
  rw [e1]
  refine ⟨?_, fun x => ?_⟩
  · rw [List.pairwise_map]
    exact c1.imp (fun {a b} h => by rw [ByteArray.toList_eq, ByteArray.toList_eq]; exact h)
  · rw [List.mem_map]
    constructor
    · rintro ⟨y, hy, rfl⟩
      have := ((List.mergeSort_perm _ _).mem_iff).1 ((c2 y).1 hy)
      obtain ⟨z, hz, e⟩ := List.mem_map.1 this
      rw [← e]
      exact hz
    · intro hx
      refine ⟨x.data.toList, (c2 _).2 (((List.mergeSort_perm _ _).mem_iff).2 (List.mem_map.2 ⟨x, hx, rfl⟩)), ?_⟩
      cases x; rfl
end Go.Proofs.YtmjkbdgcnoenbaaGreatDoor

/- Behind an error nothing more is read. -/
namespace Go.Proofs.YtmjkbdgcnoenbaaGreatDoor
open Go.RowKit
set_option linter.unusedVariables false

/-- Behind an error nothing more is read. -/
def runX {α : Type} (E : Nat) (r : Except Nat α) : Except Nat α := if E ≠ 0 then .error E else r

theorem runX_zero {α : Type} (r : Except Nat α) : runX 0 r = r := rfl
theorem runX_err {α : Type} {E : Nat} (h : E ≠ 0) (r : Except Nat α) : runX E r = .error E := if_pos h
end Go.Proofs.YtmjkbdgcnoenbaaGreatDoor
