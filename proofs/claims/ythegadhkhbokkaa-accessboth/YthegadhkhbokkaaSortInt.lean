/- slices.Sort of numbers by the library's own contract, laid over this program: a row of the call's own is sorted. -/
import Derived.Test.YthegadhkhbokkaaAccTx
import Derived.BigQuiet
import Derived.Deep.QuietTactic
import Derived.OwnWalk
import Derived.Shelf.Sort.Plain
import Derived.LoopN
import Derived.Ground.NamesProg
namespace Go.Proofs.Ythegadhkhbokkaa
open Go.Shelf Go.RowKit Go.Sort
set_option linter.unusedVariables false

def laysSortI_ren : Go.Shelf.Ren := ⟨fun | 189 => 26 | 125 => 30 | 257 => 29 | 128 => 41 | 129 => 42 | 294 => 33 | 295 => 34 | 296 => 35 | 297 => 36 | 298 => 37 | 299 => 38 | 216 => 31 | 300 => 39 | 301 => 40 | 328 => 44 | 329 => 45 | 330 => 46 | 331 => 47 | 332 => 48 | 215 => 43 | 343 => 49 | n => n, fun | 28 => 33 | 3 => 3 | 46 => 65 | 0 => 0 | 51 => 76 | 53 => 23 | 4 => 4 | 183 => 70 | 182 => 69 | 131 => 60 | 5 => 5 | 9 => 9 | 218 => 78 | 222 => 82 | 228 => 84 | 229 => 85 | n => n, fun | n => n⟩
theorem laysSortI : Go.Proofs.Lays.n189 Try.prog laysSortI_ren := {
  mixed := by kernel_rfl
  f125 := Try.func30.trans (congrArg some (by kernel_rfl))
  f128 := Try.func41.trans (congrArg some (by kernel_rfl))
  f129 := Try.func42.trans (congrArg some (by kernel_rfl))
  f189 := Try.func26.trans (congrArg some (by kernel_rfl))
  f215 := Try.func43.trans (congrArg some (by kernel_rfl))
  f216 := Try.func31.trans (congrArg some (by kernel_rfl))
  f257 := Try.func29.trans (congrArg some (by kernel_rfl))
  f294 := Try.func33.trans (congrArg some (by kernel_rfl))
  f295 := Try.func34.trans (congrArg some (by kernel_rfl))
  f296 := Try.func35.trans (congrArg some (by kernel_rfl))
  f297 := Try.func36.trans (congrArg some (by kernel_rfl))
  f298 := Try.func37.trans (congrArg some (by kernel_rfl))
  f299 := Try.func38.trans (congrArg some (by kernel_rfl))
  f300 := Try.func39.trans (congrArg some (by kernel_rfl))
  f301 := Try.func40.trans (congrArg some (by kernel_rfl))
  f328 := Try.func44.trans (congrArg some (by kernel_rfl))
  f329 := Try.func45.trans (congrArg some (by kernel_rfl))
  f330 := Try.func46.trans (congrArg some (by kernel_rfl))
  f331 := Try.func47.trans (congrArg some (by kernel_rfl))
  f332 := Try.func48.trans (congrArg some (by kernel_rfl))
  f343 := Try.func49.trans (congrArg some (by kernel_rfl))
  t0 := Try.underlying0
  a0 := Try.isAgg0
  z0 := Try.sizeOf0
  v0 := Try.zeroValue0
  t3 := Try.underlying3
  a3 := Try.isAgg3
  z3 := Try.sizeOf3
  v3 := Try.zeroValue3
  t4 := Try.underlying4
  a4 := Try.isAgg4
  z4 := Try.sizeOf4
  v4 := Try.zeroValue4
  t5 := Try.underlying5
  a5 := Try.isAgg5
  z5 := Try.sizeOf5
  v5 := Try.zeroValue5
  t9 := Try.underlying9
  a9 := Try.isAgg9
  z9 := Try.sizeOf9
  v9 := Try.zeroValue9
  t28 := Try.underlying33
  a28 := Try.isAgg33
  z28 := Try.sizeOf33
  v28 := Try.zeroValue33
  t46 := Try.underlying65
  a46 := Try.isAgg65
  z46 := Try.sizeOf65
  v46 := Try.zeroValue65
  t51 := Try.underlying76
  a51 := Try.isAgg76
  z51 := Try.sizeOf76
  v51 := Try.zeroValue76
  t53 := Try.underlying23
  a53 := Try.isAgg23
  z53 := Try.sizeOf23
  v53 := Try.zeroValue23
  t131 := Try.underlying60
  a131 := Try.isAgg60
  z131 := Try.sizeOf60
  v131 := Try.zeroValue60
  t182 := Try.underlying69
  a182 := Try.isAgg69
  z182 := Try.sizeOf69
  v182 := Try.zeroValue69
  t183 := Try.underlying70
  a183 := Try.isAgg70
  z183 := Try.sizeOf70
  v183 := Try.zeroValue70
  t218 := Try.underlying78
  a218 := Try.isAgg78
  z218 := Try.sizeOf78
  v218 := Try.zeroValue78
  t222 := Try.underlying82
  a222 := Try.isAgg82
  z222 := Try.sizeOf82
  v222 := Try.zeroValue82
  t228 := Try.underlying84
  a228 := Try.isAgg84
  z228 := Try.sizeOf84
  v228 := Try.zeroValue84
  t229 := Try.underlying85
  a229 := Try.isAgg85
  z229 := Try.sizeOf85
  v229 := Try.zeroValue85 }

/-- Numbers, rising. -/
def sortN (l : List Nat) : List Nat := ((l.map (fun x : Nat => ((x : Nat) : Int))).mergeSort (fun x y => decide (x ≤ y))).map Int.toNat

theorem sortN_length (l : List Nat) : (sortN l).length = l.length := by simp [sortN]

theorem flat_nat (l : List Nat) : flatK natK l = l.map (fun x : Nat => Value.int .i64 ((x : Nat) : Int)) := by
  unfold flatK
  induction l with
  | nil => rfl
  | cons x l ih => rw [List.flatMap_cons, List.map_cons, ih]; rfl

theorem put_cellsI (pre A post : List Value) (d : List Int) (hA : A.length = d.length) : putCells (Value.int .i64) pre.length d.toArray (pre ++ A ++ post).toArray = (pre ++ d.map (Value.int .i64) ++ post).toArray := by
  apply Array.ext_getElem?
  intro k
  unfold putCells
  rw [Array.getElem?_mapIdx]
  simp only [List.getElem?_toArray, List.size_toArray]
  by_cases h1 : k < pre.length
  · rw [List.append_assoc, List.append_assoc, List.getElem?_append_left h1, List.getElem?_append_left h1]
    cases pre[k]? with
    | none => rfl
    | some x => simp only [Option.map_some]; rw [if_neg (by omega)]
  · by_cases h2 : k < pre.length + d.length
    · have e1 : (pre ++ A ++ post)[k]? = A[k - pre.length]? := by
        rw [List.append_assoc, List.getElem?_append_right (by omega), List.getElem?_append_left (by omega)]
      have e2 : (pre ++ d.map (Value.int .i64) ++ post)[k]? = (d.map (Value.int .i64))[k - pre.length]? := by
        rw [List.append_assoc, List.getElem?_append_right (by omega), List.getElem?_append_left (by rw [List.length_map]; omega)]
      rw [e1, e2, List.getElem?_eq_getElem (show k - pre.length < A.length by omega), List.getElem?_map, List.getElem?_eq_getElem (show k - pre.length < d.length by omega)]
      simp only [Option.map_some]
      rw [if_pos (by omega)]
      congr 2
      rw [getElem!_pos d.toArray (k - pre.length) (by simp; omega)]
      simp
    · have e1 : (pre ++ A ++ post)[k]? = post[k - (pre.length + d.length)]? := by
        rw [List.getElem?_append_right (by rw [List.length_append]; omega), List.length_append, hA]
      have e2 : (pre ++ d.map (Value.int .i64) ++ post)[k]? = post[k - (pre.length + d.length)]? := by
        rw [List.getElem?_append_right (by rw [List.length_append, List.length_map]; omega), List.length_append, List.length_map]
      rw [e1, e2]
      cases post[k - (pre.length + d.length)]? with
      | none => rfl
      | some x => simp only [Option.map_some]; rw [if_neg (by omega)]

/-- What the sort leaves of a row of the call's own. -/
theorem KQ.sortedI {w : World} {B : Nat} {g off n cap : Nat} {l : List Nat} (h : KQ natK 3 w B (.slice (some ⟨g, off, none⟩) n cap) l) (hl : 0 < l.length) :
    Holds (Value.int .i64) w g off (l.map (fun x : Nat => ((x : Nat) : Int))).toArray ∧ g < w.heap.size ∧ ∀ (N : Nat) (os : Array Obj),
      KQ natK 3 (grow (putRow (Value.int .i64) (Sort.ahead w N) g off ((l.map (fun x : Nat => ((x : Nat) : Int))).mergeSort (fun x y => decide (x ≤ y))).toArray) os) B (.slice (some ⟨g, off, none⟩) n cap) (sortN l) ∧
      Kept (fun k => k = g) w (grow (putRow (Value.int .i64) (Sort.ahead w N) g off ((l.map (fun x : Nat => ((x : Nat) : Int))).mergeSort (fun x y => decide (x ≤ y))).toArray) os) := by
  rcases h.row.2 with ⟨ao', hv, hn⟩ | ⟨g', pre, post, cap', hv, hb, hg, hnc, hcm, hpl⟩
  · omega
  · simp only [Value.slice.injEq, Option.some.injEq, Addr.mk.injEq, and_true] at hv
    obtain ⟨⟨rfl, rfl⟩, rfl, rfl⟩ := hv
    have hlt := hg.lt
    refine ⟨fun j hj => ?_, hlt, fun N os => ?_⟩
    · have hj' : j < l.length := by simpa using hj
      refine ⟨?_, hg.frozen _⟩
      have e : ((l.map (fun x : Nat => ((x : Nat) : Int))).toArray)[j]! = ((l[j] : Nat) : Int) := by
        rw [getElem!_pos _ j hj]
        simp
      rw [e]
      refine hg.cell ?_
      rw [flat_nat, List.append_assoc, List.getElem?_append_right (by omega), List.getElem?_append_left (by rw [List.length_map]; omega), Nat.add_sub_cancel_left, List.getElem?_map, List.getElem?_eq_getElem hj']
      simp
    · obtain ⟨d, hd⟩ : ∃ d, d = (l.map (fun x : Nat => ((x : Nat) : Int))).mergeSort (fun x y => decide (x ≤ y)) := ⟨_, rfl⟩
      have hdl : d.length = l.length := by rw [hd]; simp
      have hst : sortN l = d.map Int.toNat := by rw [hd]; rfl
      rw [← hd]
      have hblk : ∀ k, k < w.heap.size → k ≠ g → (grow (putRow (Value.int .i64) (Sort.ahead w N) g pre.length d.toArray) os).heap[k]? = w.heap[k]? := by
        intro k hk hne
        show ((w.heap.modify g _) ++ os)[k]? = _
        rw [Array.getElem?_append_left (by simpa using hk), Array.getElem?_modify, if_neg (fun e => hne e.symm)]
      have hgg : Arr (grow (putRow (Value.int .i64) (Sort.ahead w N) g pre.length d.toArray) os) g 3 (pre ++ flatK natK (sortN l) ++ post) := by
        have hpos : ∀ z ∈ d, 0 ≤ z := by
          intro z hz
          rw [hd] at hz
          have := (List.mergeSort_perm _ _).mem_iff.1 hz
          obtain ⟨n, _, rfl⟩ := List.mem_map.1 this
          exact Int.natCast_nonneg n
        have e : flatK natK (sortN l) = d.map (Value.int .i64) := by
          rw [flat_nat, hst, List.map_map]
          refine List.map_congr_left (fun z hz => ?_)
          show Value.int .i64 ((z.toNat : Nat) : Int) = _
          rw [Int.toNat_of_nonneg (hpos z hz)]
        rw [e]
        unfold Arr at hg ⊢
        show ((w.heap.modify g _) ++ os)[g]? = _
        rw [Array.getElem?_append_left (by simpa using hlt), Array.getElem?_modify, if_pos rfl, hg]
        show some (Obj.cells (putCells (Value.int .i64) pre.length d.toArray (pre ++ flatK natK l ++ post).toArray) _ _) = _
        rw [put_cellsI _ _ _ _ (by rw [flat_nat, List.length_map]; exact hdl.symm)]
      refine ⟨⟨⟨by rw [flatK_length], Or.inr ⟨g, pre, post, cap, by rw [sortN_length], hb, hgg, by rw [sortN_length]; exact hnc, hcm, by rw [sortN_length]; exact hpl⟩⟩, fun _ _ => trivial, fun _ _ _ h => h.elim, fun k hk => ?_, h.nil⟩, rfl, rfl, rfl, ?_, fun k hk hne => hblk k hk hne⟩
      · simp only [Value.ownBlock, Option.some.injEq] at hk
        subst hk
        exact ⟨hb, hgg.lt⟩
      · show w.heap.size ≤ ((w.heap.modify g _) ++ os).size
        simp

theorem sortN_eq {k m : List Nat} (hm : m.Pairwise (· < ·)) (hp : k.Perm m) : sortN k = m := by
  unfold sortN
  have h1 : ((k.map (fun x : Nat => ((x : Nat) : Int))).mergeSort (fun x y => decide (x ≤ y))).Perm (m.map (fun x : Nat => ((x : Nat) : Int))) := (List.mergeSort_perm _ _).trans (hp.map _)
  have h2 : ((k.map (fun x : Nat => ((x : Nat) : Int))).mergeSort (fun x y => decide (x ≤ y))).Pairwise (· ≤ ·) := by
    have := List.pairwise_mergeSort (le := fun x y : Int => decide (x ≤ y)) (fun a b c h1 h2 => decide_eq_true (Int.le_trans (of_decide_eq_true h1) (of_decide_eq_true h2))) (fun a b => by
      rcases Int.le_total a b with h | h
      · rw [decide_eq_true h]; rfl
      · rw [decide_eq_true h, Bool.or_true]) (k.map (fun x : Nat => ((x : Nat) : Int)))
    exact this.imp (fun h => of_decide_eq_true h)
  have h3 : (m.map (fun x : Nat => ((x : Nat) : Int))).Pairwise (· ≤ ·) := by
    rw [List.pairwise_map]
    exact hm.imp (fun h => by omega)
  have h4 := List.Perm.eq_of_pairwise (fun a b _ _ h1 h2 => Int.le_antisymm h1 h2) h2 h3 h1
  rw [h4, List.map_map]
  conv => rhs; rw [← List.map_id m]
  exact List.map_congr_left (fun z _ => Int.toNat_natCast z)

set_option maxRecDepth 100000 in
theorem bitsLen0I (w : World) :
    Calls Try.prog 30 #[.int .u64 0] w fun e w' => ∃ n, e = .returned (.int .i64 n) ∧ w' = w := by
  go_enter Try.func30, Try.ntmps30
  go_wp2
  go_ret
  exact ⟨_, rfl, rfl⟩

set_option maxRecDepth 100000 in
theorem insert0I (ao : Option Addr) (cap : Nat) (w : World) :
    Calls Try.prog 33 #[.slice ao 0 cap, .int .i64 0, .int .i64 0] w fun e w' => e = .returned (.tuple #[]) ∧ w' = w := by
  go_enter Try.func33, Try.ntmps33
  go_wp2
  refine wp_loop_rounds 1 ?_
  unfold Code.rounds Code.rounds
  go_wp2
  go_end0
  exact ⟨rfl, rfl⟩

set_option maxRecDepth 100000 in
theorem pdq0I (ao : Option Addr) (cap : Nat) (n : Int) (w : World) :
    Calls Try.prog 29 #[.slice ao 0 cap, .int .i64 0, .int .i64 0, .int .i64 n] w fun e w' => e = .returned (.tuple #[]) ∧ w' = w := by
  go_enter Try.func29, Try.ntmps29
  go_wp2_with fail
  refine wp_loop_rounds 1 ?_
  unfold Code.rounds Code.rounds
  go_wp2_with fail
  refine (insert0I ao cap _).mono ?_
  rintro _ _ ⟨rfl, rfl⟩
  go_wp2_with fail
  first | go_end0 | refine bodyPost_ret (results_none rfl _ _ _) rfl ?_
  exact ⟨rfl, rfl⟩

set_option maxRecDepth 100000 in
set_option maxHeartbeats 1000000 in
theorem sortI_any (B : Nat) (q : Value) (l : List Nat) (w : World) (h : KQ natK 3 w B q l) (hl : l.length ≤ 1000000) :
    Calls Try.prog 26 #[q] w fun e w' => e = .returned (.tuple #[]) ∧ KQ natK 3 w' B q (sortN l) ∧ Kept (fun k => q.ownBlock = some k) w w' := by
  obtain ⟨ao, cap, rfl, hnil, hRow⟩ := h.form
  cases hc : l with
  | nil =>
    subst hc
    go_enter Try.func26, Try.ntmps26
    go_wp2_with fail
    refine (bitsLen0I w).mono ?_
    rintro _ _ ⟨n, rfl, rfl⟩
    go_wp2_with fail
    refine (pdq0I ao cap n _).mono ?_
    rintro _ _ ⟨rfl, rfl⟩
    go_wp2_with fail
    go_end0
    have e0 : sortN [] = [] := List.eq_nil_of_length_eq_zero (by rw [sortN_length]; rfl)
    exact ⟨rfl, by rw [e0]; exact h, Kept.refl _ _⟩
  | cons x r =>
    have hpos : 0 < l.length := by rw [hc]; simp
    rw [← hc]
    obtain ⟨g, off, rfl, _, _⟩ := hRow.cell 0 x (by rw [hc]; rfl)
    obtain ⟨h1, h2, h3⟩ := h.sortedI hpos
    have hs := Any.slices_Sort_int laysSortI g off cap (l.map (fun x : Nat => ((x : Nat) : Int))) w h1 h2 (by rw [List.length_map]; omega)
    rw [List.length_map] at hs
    refine (show Calls Try.prog 26 _ w _ from hs).mono ?_
    rintro e w' ⟨rfl, N, os, rfl⟩
    obtain ⟨h4, h5⟩ := h3 N os
    exact ⟨rfl, h4, h5.mono (fun k _ e => by rw [e]; rfl)⟩
end Go.Proofs.Ythegadhkhbokkaa
