/- slices.Sort of texts by the library's own contract, laid over this program: a row of the call's own is sorted. -/
import Derived.Test.YtfbpjdjajecajaaRowsMore
import Derived.BigQuiet
import Derived.Deep.QuietTactic
import Derived.OwnWalk
import Derived.Shelf.Sort.Plain
import Derived.LoopN
import Derived.Ground.NamesProg
namespace Go.Proofs.Ytfbpjdjajecajaa
open Go.Shelf Go.RowKit Go.Sort
set_option linter.unusedVariables false

def laysSortS_ren : Go.Shelf.Ren := ⟨fun | 190 => 19 | 125 => 27 | 258 => 26 | 128 => 42 | 129 => 43 | 302 => 33 | 303 => 34 | 304 => 35 | 305 => 36 | 306 => 37 | 307 => 38 | 308 => 39 | 309 => 40 | 310 => 41 | 333 => 46 | 329 => 47 | 330 => 48 | 334 => 49 | 335 => 50 | 336 => 51 | 344 => 60 | n => n, fun | 31 => 29 | 9 => 9 | 3 => 3 | 46 => 72 | 0 => 0 | 51 => 87 | 53 => 89 | 4 => 4 | 183 => 80 | 182 => 79 | 131 => 63 | 5 => 5 | 218 => 92 | 222 => 96 | 228 => 103 | 229 => 104 | n => n, fun | n => n⟩
theorem laysSortS : Go.Proofs.Lays.n190 Try.prog laysSortS_ren := {
  mixed := by kernel_rfl
  f125 := Try.func27.trans (congrArg some (by kernel_rfl))
  f128 := Try.func42.trans (congrArg some (by kernel_rfl))
  f129 := Try.func43.trans (congrArg some (by kernel_rfl))
  f190 := Try.func19.trans (congrArg some (by kernel_rfl))
  f258 := Try.func26.trans (congrArg some (by kernel_rfl))
  f302 := Try.func33.trans (congrArg some (by kernel_rfl))
  f303 := Try.func34.trans (congrArg some (by kernel_rfl))
  f304 := Try.func35.trans (congrArg some (by kernel_rfl))
  f305 := Try.func36.trans (congrArg some (by kernel_rfl))
  f306 := Try.func37.trans (congrArg some (by kernel_rfl))
  f307 := Try.func38.trans (congrArg some (by kernel_rfl))
  f308 := Try.func39.trans (congrArg some (by kernel_rfl))
  f309 := Try.func40.trans (congrArg some (by kernel_rfl))
  f310 := Try.func41.trans (congrArg some (by kernel_rfl))
  f329 := Try.func47.trans (congrArg some (by kernel_rfl))
  f330 := Try.func48.trans (congrArg some (by kernel_rfl))
  f333 := Try.func46.trans (congrArg some (by kernel_rfl))
  f334 := Try.func49.trans (congrArg some (by kernel_rfl))
  f335 := Try.func50.trans (congrArg some (by kernel_rfl))
  f336 := Try.func51.trans (congrArg some (by kernel_rfl))
  f344 := Try.func60.trans (congrArg some (by kernel_rfl))
  t0 := Try.underlying0
  a0 := Try.isAgg0
  z0 := Try.sizeOf0
  v0 := Try.zeroValue0
  t3 := Try.underlying3
  a3 := Try.isAgg3
  z3 := Try.sizeOf3
  v3 := Try.zeroValue3
  t4 := Try.underlying4
  a4 := Try.isAgg4
  z4 := Try.sizeOf4
  v4 := Try.zeroValue4
  t5 := Try.underlying5
  a5 := Try.isAgg5
  z5 := Try.sizeOf5
  v5 := Try.zeroValue5
  t9 := Try.underlying9
  a9 := Try.isAgg9
  z9 := Try.sizeOf9
  v9 := Try.zeroValue9
  t31 := Try.underlying29
  a31 := Try.isAgg29
  z31 := Try.sizeOf29
  v31 := Try.zeroValue29
  t46 := Try.underlying72
  a46 := Try.isAgg72
  z46 := Try.sizeOf72
  v46 := Try.zeroValue72
  t51 := Try.underlying87
  a51 := Try.isAgg87
  z51 := Try.sizeOf87
  v51 := Try.zeroValue87
  t53 := Try.underlying89
  a53 := Try.isAgg89
  z53 := Try.sizeOf89
  v53 := Try.zeroValue89
  t131 := Try.underlying63
  a131 := Try.isAgg63
  z131 := Try.sizeOf63
  v131 := Try.zeroValue63
  t182 := Try.underlying79
  a182 := Try.isAgg79
  z182 := Try.sizeOf79
  v182 := Try.zeroValue79
  t183 := Try.underlying80
  a183 := Try.isAgg80
  z183 := Try.sizeOf80
  v183 := Try.zeroValue80
  t218 := Try.underlying92
  a218 := Try.isAgg92
  z218 := Try.sizeOf92
  v218 := Try.zeroValue92
  t222 := Try.underlying96
  a222 := Try.isAgg96
  z222 := Try.sizeOf96
  v222 := Try.zeroValue96
  t228 := Try.underlying103
  a228 := Try.isAgg103
  z228 := Try.sizeOf103
  v228 := Try.zeroValue103
  t229 := Try.underlying104
  a229 := Try.isAgg104
  z229 := Try.sizeOf104
  v229 := Try.zeroValue104 }

/-- Texts, rising. -/
def sortT (l : List ByteArray) : List ByteArray := ((l.map (fun x => x.data.toList)).mergeSort (fun x y => decide (x ≤ y))).map (fun x => ⟨x.toArray⟩)

theorem sortT_length (l : List ByteArray) : (sortT l).length = l.length := by simp [sortT]

theorem flat_text (l : List ByteArray) : flatK textK l = l.map Value.string := by
  unfold flatK
  induction l with
  | nil => rfl
  | cons x l ih => rw [List.flatMap_cons, List.map_cons, ih]; rfl

theorem put_cells (pre A post : List Value) (d : List (List UInt8)) (hA : A.length = d.length) : putCells encStr pre.length d.toArray (pre ++ A ++ post).toArray = (pre ++ d.map encStr ++ post).toArray := by
  apply Array.ext_getElem?
  intro k
  unfold putCells
  rw [Array.getElem?_mapIdx]
  simp only [List.getElem?_toArray, List.size_toArray]
  by_cases h1 : k < pre.length
  · rw [List.append_assoc, List.append_assoc, List.getElem?_append_left h1, List.getElem?_append_left h1]
    cases pre[k]? with
    | none => rfl
    | some x => simp only [Option.map_some]; rw [if_neg (by omega)]
  · by_cases h2 : k < pre.length + d.length
    · have e1 : (pre ++ A ++ post)[k]? = A[k - pre.length]? := by
        rw [List.append_assoc, List.getElem?_append_right (by omega), List.getElem?_append_left (by omega)]
      have e2 : (pre ++ d.map encStr ++ post)[k]? = (d.map encStr)[k - pre.length]? := by
        rw [List.append_assoc, List.getElem?_append_right (by omega), List.getElem?_append_left (by rw [List.length_map]; omega)]
      rw [e1, e2, List.getElem?_eq_getElem (show k - pre.length < A.length by omega), List.getElem?_map, List.getElem?_eq_getElem (show k - pre.length < d.length by omega)]
      simp only [Option.map_some]
      rw [if_pos (by omega)]
      congr 2
      rw [getElem!_pos d.toArray (k - pre.length) (by simp; omega)]
      simp
    · have e1 : (pre ++ A ++ post)[k]? = post[k - (pre.length + d.length)]? := by
        rw [List.getElem?_append_right (by rw [List.length_append]; omega), List.length_append, hA]
      have e2 : (pre ++ d.map encStr ++ post)[k]? = post[k - (pre.length + d.length)]? := by
        rw [List.getElem?_append_right (by rw [List.length_append, List.length_map]; omega), List.length_append, List.length_map]
      rw [e1, e2]
      cases post[k - (pre.length + d.length)]? with
      | none => rfl
      | some x => simp only [Option.map_some]; rw [if_neg (by omega)]

/-- What the sort leaves of a row of the call's own. -/
theorem KQ.sorted {w : World} {B : Nat} {g off n cap : Nat} {l : List ByteArray} (h : KQ textK 9 w B (.slice (some ⟨g, off, none⟩) n cap) l) (hl : 0 < l.length) :
    Holds encStr w g off (l.map (fun x => x.data.toList)).toArray ∧ g < w.heap.size ∧ ∀ (N : Nat) (os : Array Obj),
      KQ textK 9 (grow (putRow encStr (Sort.ahead w N) g off ((l.map (fun x => x.data.toList)).mergeSort (fun x y => decide (x ≤ y))).toArray) os) B (.slice (some ⟨g, off, none⟩) n cap) (sortT l) ∧
      Kept (fun k => k = g) w (grow (putRow encStr (Sort.ahead w N) g off ((l.map (fun x => x.data.toList)).mergeSort (fun x y => decide (x ≤ y))).toArray) os) := by
  rcases h.row.2 with ⟨ao', hv, hn⟩ | ⟨g', pre, post, cap', hv, hb, hg, hnc, hcm, hpl⟩
  · omega
  · simp only [Value.slice.injEq, Option.some.injEq, Addr.mk.injEq, and_true] at hv
    obtain ⟨⟨rfl, rfl⟩, rfl, rfl⟩ := hv
    have hlt := hg.lt
    refine ⟨fun j hj => ?_, hlt, fun N os => ?_⟩
    · have hj' : j < l.length := by simpa using hj
      refine ⟨?_, hg.frozen _⟩
      have e : ((l.map (fun x => x.data.toList)).toArray)[j]! = l[j].data.toList := by
        rw [getElem!_pos _ j hj]
        simp
      rw [e]
      refine hg.cell ?_
      rw [flat_text, List.append_assoc, List.getElem?_append_right (by omega), List.getElem?_append_left (by rw [List.length_map]; omega), Nat.add_sub_cancel_left, List.getElem?_map, List.getElem?_eq_getElem hj']
      simp
    · obtain ⟨d, hd⟩ : ∃ d, d = (l.map (fun x => x.data.toList)).mergeSort (fun x y => decide (x ≤ y)) := ⟨_, rfl⟩
      have hdl : d.length = l.length := by rw [hd]; simp
      have hst : sortT l = d.map (fun x => ⟨x.toArray⟩) := by rw [hd]; rfl
      rw [← hd]
      have hblk : ∀ k, k < w.heap.size → k ≠ g → (grow (putRow encStr (Sort.ahead w N) g pre.length d.toArray) os).heap[k]? = w.heap[k]? := by
        intro k hk hne
        show ((w.heap.modify g _) ++ os)[k]? = _
        rw [Array.getElem?_append_left (by simpa using hk), Array.getElem?_modify, if_neg (fun e => hne e.symm)]
      have hgg : Arr (grow (putRow encStr (Sort.ahead w N) g pre.length d.toArray) os) g 9 (pre ++ flatK textK (sortT l) ++ post) := by
        have e : flatK textK (sortT l) = d.map encStr := by rw [flat_text, hst, List.map_map]; rfl
        rw [e]
        unfold Arr at hg ⊢
        show ((w.heap.modify g _) ++ os)[g]? = _
        rw [Array.getElem?_append_left (by simpa using hlt), Array.getElem?_modify, if_pos rfl, hg]
        show some (Obj.cells (putCells encStr pre.length d.toArray (pre ++ flatK textK l ++ post).toArray) _ _) = _
        rw [put_cells _ _ _ _ (by rw [flat_text, List.length_map]; exact hdl.symm)]
      refine ⟨⟨⟨by rw [flatK_length], Or.inr ⟨g, pre, post, cap, by rw [sortT_length], hb, hgg, by rw [sortT_length]; exact hnc, hcm, by rw [sortT_length]; exact hpl⟩⟩, fun _ _ => trivial, fun _ _ _ h => h.elim, fun k hk => ?_, h.nil⟩, rfl, rfl, rfl, ?_, fun k hk hne => hblk k hk hne⟩
      · simp only [Value.ownBlock, Option.some.injEq] at hk
        subst hk
        exact ⟨hb, hgg.lt⟩
      · show w.heap.size ≤ ((w.heap.modify g _) ++ os).size
        simp

set_option maxRecDepth 100000 in
theorem bitsLen0 (w : World) :
    Calls Try.prog 27 #[.int .u64 0] w fun e w' => ∃ n, e = .returned (.int .i64 n) ∧ w' = w := by
  go_enter Try.func27, Try.ntmps27
  go_wp2
  go_ret
  exact ⟨_, rfl, rfl⟩

set_option maxRecDepth 100000 in
theorem insert0 (ao : Option Addr) (cap : Nat) (w : World) :
    Calls Try.prog 33 #[.slice ao 0 cap, .int .i64 0, .int .i64 0] w fun e w' => e = .returned (.tuple #[]) ∧ w' = w := by
  go_enter Try.func33, Try.ntmps33
  go_wp2
  refine wp_loop_rounds 1 ?_
  unfold Code.rounds Code.rounds
  go_wp2
  go_end0
  exact ⟨rfl, rfl⟩

set_option maxRecDepth 100000 in
theorem pdq0 (ao : Option Addr) (cap : Nat) (n : Int) (w : World) :
    Calls Try.prog 26 #[.slice ao 0 cap, .int .i64 0, .int .i64 0, .int .i64 n] w fun e w' => e = .returned (.tuple #[]) ∧ w' = w := by
  go_enter Try.func26, Try.ntmps26
  go_wp2_with fail
  refine wp_loop_rounds 1 ?_
  unfold Code.rounds Code.rounds
  go_wp2_with fail
  refine (insert0 ao cap _).mono ?_
  rintro _ _ ⟨rfl, rfl⟩
  go_wp2_with fail
  first | go_end0 | refine bodyPost_ret (results_none rfl _ _ _) rfl ?_
  exact ⟨rfl, rfl⟩

set_option maxRecDepth 100000 in
set_option maxHeartbeats 1000000 in
theorem sortS_any (B : Nat) (q : Value) (l : List ByteArray) (w : World) (h : KQ textK 9 w B q l) (hl : l.length ≤ 1000000) :
    Calls Try.prog 19 #[q] w fun e w' => e = .returned (.tuple #[]) ∧ KQ textK 9 w' B q (sortT l) ∧ Kept (fun k => q.ownBlock = some k) w w' := by
  obtain ⟨ao, cap, rfl, hnil, hRow⟩ := h.form
  cases hc : l with
  | nil =>
    subst hc
    go_enter Try.func19, Try.ntmps19
    go_wp2_with fail
    refine (bitsLen0 w).mono ?_
    rintro _ _ ⟨n, rfl, rfl⟩
    go_wp2_with fail
    refine (pdq0 ao cap n _).mono ?_
    rintro _ _ ⟨rfl, rfl⟩
    go_wp2_with fail
    go_end0
    have e0 : sortT [] = [] := List.eq_nil_of_length_eq_zero (by rw [sortT_length]; rfl)
    exact ⟨rfl, by rw [e0]; exact h, Kept.refl _ _⟩
  | cons x r =>
    have hpos : 0 < l.length := by rw [hc]; simp
    rw [← hc]
    obtain ⟨g, off, rfl, _, _⟩ := hRow.cell 0 x (by rw [hc]; rfl)
    obtain ⟨h1, h2, h3⟩ := h.sorted hpos
    have hs := Any.slices_Sort_string laysSortS g off cap (l.map (fun x => x.data.toList)) w h1 h2 (by rw [List.length_map]; omega)
    rw [List.length_map] at hs
    refine (show Calls Try.prog 19 _ w _ from hs).mono ?_
    rintro e w' ⟨rfl, N, os, rfl⟩
    obtain ⟨h4, h5⟩ := h3 N os
    exact ⟨rfl, h4, h5.mono (fun k _ e => by rw [e]; rfl)⟩
end Go.Proofs.Ytfbpjdjajecajaa
