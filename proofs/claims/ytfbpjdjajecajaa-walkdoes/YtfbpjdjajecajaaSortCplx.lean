/- Rows of places; slices.SortFunc of such by the library's own contract, laid over this program; slices.Compact of what rises; place.Sort. -/
import Derived.Test.YtfbpjdjajecajaaMapCplx
import Derived.Test.YtfbpjdjajecajaaRowsMore
import Derived.BigQuiet
import Derived.Deep.QuietTactic
import Derived.OwnWalk
import Derived.LoopN
import Derived.Shelf.SlSortCmp.Whole1
namespace Go.Proofs.Ytfbpjdjajecajaa
open Go Go.Shelf Go.RowKit Go.Sort
set_option linter.unusedVariables false

def laysSortC_ren : Go.Shelf.Ren := ⟨fun | 6 => 29 | 15 => 27 | 14 => 44 | 28 => 42 | 29 => 43 | 20 => 52 | 21 => 53 | 22 => 54 | 23 => 55 | 24 => 56 | 25 => 57 | 26 => 58 | 27 => 59 | 46 => 61 | 47 => 47 | 48 => 48 | 49 => 62 | 50 => 63 | 57 => 64 | n => n, fun | 22 => 56 | 24 => 45 | 25 => 75 | 3 => 3 | 39 => 72 | 0 => 0 | 53 => 87 | 55 => 89 | 4 => 4 | 46 => 80 | 45 => 79 | 50 => 63 | 5 => 5 | 9 => 9 | 66 => 92 | 70 => 96 | 76 => 103 | 77 => 104 | n => n, fun | n => n⟩
theorem laysSortC : Go.Proofs.SlLaysF.n6 Try.prog laysSortC_ren := {
  mixed := by kernel_rfl
  f6 := ⟨Try.f29.name, by decide, Try.func29.trans (congrArg some (by kernel_rfl))⟩
  f14 := ⟨Try.f44.name, by decide, Try.func44.trans (congrArg some (by kernel_rfl))⟩
  f15 := Try.func27.trans (congrArg some (by kernel_rfl))
  f20 := ⟨Try.f52.name, by decide, Try.func52.trans (congrArg some (by kernel_rfl))⟩
  f21 := ⟨Try.f53.name, by decide, Try.func53.trans (congrArg some (by kernel_rfl))⟩
  f22 := ⟨Try.f54.name, by decide, Try.func54.trans (congrArg some (by kernel_rfl))⟩
  f23 := ⟨Try.f55.name, by decide, Try.func55.trans (congrArg some (by kernel_rfl))⟩
  f24 := ⟨Try.f56.name, by decide, Try.func56.trans (congrArg some (by kernel_rfl))⟩
  f25 := ⟨Try.f57.name, by decide, Try.func57.trans (congrArg some (by kernel_rfl))⟩
  f26 := ⟨Try.f58.name, by decide, Try.func58.trans (congrArg some (by kernel_rfl))⟩
  f27 := ⟨Try.f59.name, by decide, Try.func59.trans (congrArg some (by kernel_rfl))⟩
  f28 := Try.func42.trans (congrArg some (by kernel_rfl))
  f29 := Try.func43.trans (congrArg some (by kernel_rfl))
  f46 := ⟨Try.f61.name, by decide, Try.func61.trans (congrArg some (by kernel_rfl))⟩
  f47 := Try.func47.trans (congrArg some (by kernel_rfl))
  f48 := Try.func48.trans (congrArg some (by kernel_rfl))
  f49 := ⟨Try.f62.name, by decide, Try.func62.trans (congrArg some (by kernel_rfl))⟩
  f50 := ⟨Try.f63.name, by decide, Try.func63.trans (congrArg some (by kernel_rfl))⟩
  f57 := ⟨Try.f64.name, by decide, Try.func64.trans (congrArg some (by kernel_rfl))⟩
  t0 := Try.underlying0
  a0 := Try.isAgg0
  z0 := Try.sizeOf0
  v0 := Try.zeroValue0
  t3 := Try.underlying3
  a3 := Try.isAgg3
  z3 := Try.sizeOf3
  v3 := Try.zeroValue3
  t4 := Try.underlying4
  a4 := Try.isAgg4
  z4 := Try.sizeOf4
  v4 := Try.zeroValue4
  t5 := Try.underlying5
  a5 := Try.isAgg5
  z5 := Try.sizeOf5
  v5 := Try.zeroValue5
  t9 := Try.underlying9
  a9 := Try.isAgg9
  z9 := Try.sizeOf9
  v9 := Try.zeroValue9
  t22 := Try.underlying56
  a22 := Try.isAgg56
  z22 := Try.sizeOf56
  v22 := Try.zeroValue56
  a24 := Try.isAgg45
  z24 := Try.sizeOf45
  t25 := Try.underlying75
  a25 := Try.isAgg75
  z25 := Try.sizeOf75
  v25 := Try.zeroValue75
  t39 := Try.underlying72
  a39 := Try.isAgg72
  z39 := Try.sizeOf72
  v39 := Try.zeroValue72
  t45 := Try.underlying79
  a45 := Try.isAgg79
  z45 := Try.sizeOf79
  v45 := Try.zeroValue79
  t46 := Try.underlying80
  a46 := Try.isAgg80
  z46 := Try.sizeOf80
  v46 := Try.zeroValue80
  t50 := Try.underlying63
  a50 := Try.isAgg63
  z50 := Try.sizeOf63
  v50 := Try.zeroValue63
  t53 := Try.underlying87
  a53 := Try.isAgg87
  z53 := Try.sizeOf87
  v53 := Try.zeroValue87
  t55 := Try.underlying89
  a55 := Try.isAgg89
  z55 := Try.sizeOf89
  v55 := Try.zeroValue89
  t66 := Try.underlying92
  a66 := Try.isAgg92
  z66 := Try.sizeOf92
  v66 := Try.zeroValue92
  t70 := Try.underlying96
  a70 := Try.isAgg96
  z70 := Try.sizeOf96
  v70 := Try.zeroValue96
  t76 := Try.underlying103
  a76 := Try.isAgg103
  z76 := Try.sizeOf103
  v76 := Try.zeroValue103
  t77 := Try.underlying104
  a77 := Try.isAgg104
  z77 := Try.sizeOf104
  v77 := Try.zeroValue104 }

/-- Places that are within bounds. -/
abbrev PlI := { p : PlD // p.In }

instance : Inhabited PlI := ⟨⟨⟨0, 0⟩, ⟨Nat.zero_le _, Nat.zero_le _⟩⟩⟩

def cK : Kind PlI where
  n := 1
  c x := [kC x.1]
  foot _ _ := False
  At _ _ := True
  pos := by decide
  len _ := rfl
  one x u hu := by
    simp only [List.mem_cons, List.not_mem_nil, or_false] at hu
    rcases hu with rfl; rfl
  lt _ h := h.elim
  keep _ _ := trivial

def encP (x : PlI) : Value := kC x.1

theorem flat_pl (l : List PlI) : flatK cK l = l.map encP := by
  unfold flatK
  induction l with
  | nil => rfl
  | cons x l ih => rw [List.flatMap_cons, List.map_cons, ih]; rfl

theorem put_cellsP (pre A post : List Value) (d : List PlI) (hA : A.length = d.length) : putCells encP pre.length d.toArray (pre ++ A ++ post).toArray = (pre ++ d.map encP ++ post).toArray := by
  apply Array.ext_getElem?
  intro k
  unfold putCells
  rw [Array.getElem?_mapIdx]
  simp only [List.getElem?_toArray, List.size_toArray]
  by_cases h1 : k < pre.length
  · rw [List.append_assoc, List.append_assoc, List.getElem?_append_left h1, List.getElem?_append_left h1]
    cases pre[k]? with
    | none => rfl
    | some x => simp only [Option.map_some]; rw [if_neg (by omega)]
  · by_cases h2 : k < pre.length + d.length
    · have e1 : (pre ++ A ++ post)[k]? = A[k - pre.length]? := by
        rw [List.append_assoc, List.getElem?_append_right (by omega), List.getElem?_append_left (by omega)]
      have e2 : (pre ++ d.map encP ++ post)[k]? = (d.map encP)[k - pre.length]? := by
        rw [List.append_assoc, List.getElem?_append_right (by omega), List.getElem?_append_left (by rw [List.length_map]; omega)]
      rw [e1, e2, List.getElem?_eq_getElem (show k - pre.length < A.length by omega), List.getElem?_map, List.getElem?_eq_getElem (show k - pre.length < d.length by omega)]
      simp only [Option.map_some]
      rw [if_pos (by omega)]
      congr 2
      rw [getElem!_pos d.toArray (k - pre.length) (by simp; omega)]
      simp
    · have e1 : (pre ++ A ++ post)[k]? = post[k - (pre.length + d.length)]? := by
        rw [List.getElem?_append_right (by rw [List.length_append]; omega), List.length_append, hA]
      have e2 : (pre ++ d.map encP ++ post)[k]? = post[k - (pre.length + d.length)]? := by
        rw [List.getElem?_append_right (by rw [List.length_append, List.length_map]; omega), List.length_append, List.length_map]
      rw [e1, e2]
      cases post[k - (pre.length + d.length)]? with
      | none => rfl
      | some x => simp only [Option.map_some]; rw [if_neg (by omega)]

/-- What the sort leaves of a row of the call's own. -/
theorem KQ.sortedP {w : World} {B : Nat} {g off n cap : Nat} {l : List PlI} (h : KQ cK 45 w B (.slice (some ⟨g, off, none⟩) n cap) l) (hl : 0 < l.length) :
    Holds encP w g off l.toArray ∧ g < w.heap.size ∧ ∀ (N : Nat) (d : List PlI) (os : Array Obj), d.length = l.length →
      KQ cK 45 (sortWorld encP w g off N d.toArray os) B (.slice (some ⟨g, off, none⟩) n cap) d ∧ Kept (fun k => k = g) w (sortWorld encP w g off N d.toArray os) := by
  rcases h.row.2 with ⟨ao', hv, hn⟩ | ⟨g', pre, post, cap', hv, hb, hg, hnc, hcm, hpl⟩
  · omega
  · simp only [Value.slice.injEq, Option.some.injEq, Addr.mk.injEq, and_true] at hv
    obtain ⟨⟨rfl, rfl⟩, rfl, rfl⟩ := hv
    have hlt := hg.lt
    refine ⟨fun j hj => ?_, hlt, fun N d os hdl => ?_⟩
    · have hj' : j < l.length := by simpa using hj
      refine ⟨?_, hg.frozen _⟩
      have e : (l.toArray)[j]! = l[j] := by
        rw [getElem!_pos _ j hj]
        simp
      rw [e]
      refine hg.cell ?_
      rw [flat_pl, List.append_assoc, List.getElem?_append_right (by omega), List.getElem?_append_left (by rw [List.length_map]; omega), Nat.add_sub_cancel_left, List.getElem?_map, List.getElem?_eq_getElem hj']
      rfl
    · have hblk : ∀ k, k < w.heap.size → k ≠ g → (sortWorld encP w g pre.length N d.toArray os).heap[k]? = w.heap[k]? := by
        intro k hk hne
        show ((w.heap.modify g _) ++ os)[k]? = _
        rw [Array.getElem?_append_left (by simpa using hk), Array.getElem?_modify, if_neg (fun e => hne e.symm)]
      have hgg : Arr (sortWorld encP w g pre.length N d.toArray os) g 45 (pre ++ flatK cK d ++ post) := by
        rw [flat_pl]
        unfold Arr at hg ⊢
        show ((w.heap.modify g _) ++ os)[g]? = _
        rw [Array.getElem?_append_left (by simpa using hlt), Array.getElem?_modify, if_pos rfl, hg]
        show some (Obj.cells (putCells encP pre.length d.toArray (pre ++ flatK cK l ++ post).toArray) _ _) = _
        rw [put_cellsP _ _ _ _ (by rw [flat_pl, List.length_map]; exact hdl.symm)]
      refine ⟨⟨⟨by rw [flatK_length], Or.inr ⟨g, pre, post, cap, by rw [hdl], hb, hgg, by rw [hdl]; exact hnc, hcm, by rw [hdl]; exact hpl⟩⟩, fun _ _ => trivial, fun _ _ _ h => h.elim, fun k hk => ?_, h.nil⟩, rfl, rfl, rfl, ?_, fun k hk hne => hblk k hk hne⟩
      · simp only [Value.ownBlock, Option.some.injEq] at hk
        subst hk
        exact ⟨hb, hgg.lt⟩
      · show w.heap.size ≤ ((w.heap.modify g _) ++ os).size
        simp

def cmpI (x y : PlI) : Int := cmpP x.1 y.1

theorem ltOf_cmp (x y : PlI) : ltOf cmpI x y = decide (ltP x.1 y.1) := by
  unfold ltOf cmpI
  rw [decide_eq_decide]
  exact cmpP_lt x.1 y.1

theorem swoP : SWO (ltOf cmpI) where
  irrefl x := by rw [ltOf_cmp]; exact decide_eq_false (ltP_irrefl _)
  trans x y z h1 h2 := by rw [ltOf_cmp, decide_eq_true_eq] at *; exact ltP_trans h1 h2
  ntrans x y z h1 h2 := by rw [ltOf_cmp, decide_eq_false_iff_not] at *; unfold ltP at *; omega

theorem cmpReadsP (blk off size : Nat) (w : World) : CmpReads Try.prog 30 #[] encP cmpI blk off size w :=
  fun _ _ _ _ x y => (plCompare_any x.1 y.1 _ x.2.1 x.2.2 y.2.1 y.2.2).mono fun _ _ ⟨he, hw⟩ => ⟨he, 0, hw⟩

set_option maxRecDepth 100000 in
theorem insertC0 (ao : Option Addr) (cap : Nat) (fv : Value) (w : World) :
    Calls Try.prog 52 #[.slice ao 0 cap, .int .i64 0, .int .i64 0, fv] w fun e w' => e = .returned (.tuple #[]) ∧ w' = w := by
  go_enter Try.func52, Try.ntmps52
  go_wp2
  refine wp_loop_rounds 1 ?_
  unfold Code.rounds Code.rounds
  go_wp2
  go_end0
  exact ⟨rfl, rfl⟩

set_option maxRecDepth 100000 in
theorem pdqC0 (ao : Option Addr) (cap : Nat) (n : Int) (fv : Value) (w : World) :
    Calls Try.prog 44 #[.slice ao 0 cap, .int .i64 0, .int .i64 0, .int .i64 n, fv] w fun e w' => e = .returned (.tuple #[]) ∧ w' = w := by
  go_enter Try.func44, Try.ntmps44
  go_wp2_with fail
  refine wp_loop_rounds 1 ?_
  unfold Code.rounds Code.rounds
  go_wp2_with fail
  refine (insertC0 ao cap fv _).mono ?_
  rintro _ _ ⟨rfl, rfl⟩
  go_wp2_with fail
  first | go_end0 | refine bodyPost_ret (results_none rfl _ _ _) rfl ?_
  exact ⟨rfl, rfl⟩

set_option maxRecDepth 100000 in
theorem bitsLenC0 (w : World) :
    Calls Try.prog 27 #[.int .u64 0] w fun e w' => ∃ n, e = .returned (.int .i64 n) ∧ w' = w := by
  go_enter Try.func27, Try.ntmps27
  go_wp2
  go_ret
  exact ⟨_, rfl, rfl⟩

set_option maxRecDepth 100000 in
set_option maxHeartbeats 1000000 in
theorem sortC_any (B : Nat) (q : Value) (l : List PlI) (w : World) (h : KQ cK 45 w B q l) (hl : l.length ≤ 1000000) :
    Calls Try.prog 29 #[q, .func (.func 30) #[] #[]] w fun e w' => e = .returned (.tuple #[]) ∧ ∃ d : List PlI, d.Perm l ∧ d.Pairwise (fun x y => ¬ ltP y.1 x.1) ∧ KQ cK 45 w' B q d ∧ Kept (fun k => q.ownBlock = some k) w w' := by
  obtain ⟨ao, cap, rfl, hnil, hRow⟩ := h.form
  cases hc : l with
  | nil =>
    subst hc
    go_enter Try.func29, Try.ntmps29
    go_wp2_with fail
    refine (bitsLenC0 w).mono ?_
    rintro _ _ ⟨n, rfl, rfl⟩
    go_wp2_with fail
    refine (pdqC0 ao cap n _ _).mono ?_
    rintro _ _ ⟨rfl, rfl⟩
    go_wp2_with fail
    go_end0
    exact ⟨rfl, [], List.Perm.refl _, List.Pairwise.nil, h, Kept.refl _ _⟩
  | cons x r =>
    have hpos : 0 < l.length := by rw [hc]; simp
    rw [← hc]
    obtain ⟨g, off, rfl, _, _⟩ := hRow.cell 0 x (by rw [hc]; rfl)
    obtain ⟨h1, h2, h3⟩ := h.sortedP hpos
    have eg : ∀ args w, (callFunc 30 args).run Try.prog w = .ok (.enter 30 args) w := enters_of Try.func30 (by kernel_rfl) rfl
    have hs := Any.slices_SortFunc laysSortC encP (fun _ => rfl) cmpI swoP 30 #[] g off cap l.toArray w eg (cmpReadsP g off _ w).lays h1 h2 (by simp; omega)
    simp only [List.size_toArray] at hs
    refine (show Calls Try.prog 29 _ w _ from hs).mono ?_
    rintro e w' ⟨rfl, d', N, os, hp, hsd, rfl⟩
    obtain ⟨p1, p2, p3⟩ := hp
    have hdl : d'.toList.length = l.length := by simpa using p1
    obtain ⟨h4, h5⟩ := h3 N d'.toList os hdl
    refine ⟨rfl, d'.toList, ?_, ?_, h4, h5.mono (fun k _ e => by rw [e]; rfl)⟩
    · have e1 : (d'.extract 0 l.length).toList = d'.toList := by rw [Array.toList_extract, List.extract_eq_take_drop, List.drop_zero, Nat.sub_zero]; exact List.take_of_length_le (Nat.le_of_eq hdl)
      have e2 : (l.toArray.extract 0 l.length).toList = l := by simp
      rw [e1, e2] at p3
      exact p3
    · refine List.pairwise_iff_getElem.2 (fun i j hi hj hij => ?_)
      have := hsd i j (Nat.zero_le _) hij (by omega)
      rw [ltOf_cmp, decide_eq_false_iff_not, getElem!_pos d' j (by simpa using hj), getElem!_pos d' i (by simpa using hi)] at this
      simpa using this

theorem RowAt.pl {w : World} {ao : Option Addr} {l : List PlI} (h : RowAt cK w ao l) {i : Nat} {x : PlI} (hx : l[i]? = some x) :
    ∃ g off, ao = some ⟨g, off, none⟩ ∧ g < w.heap.size ∧ w.cell? ⟨g, off + i, none⟩ = some (.complex .f64 (plX x.1) (plY x.1)) := by
  obtain ⟨g, off, h1, h2, h3⟩ := h.cell i x hx
  refine ⟨g, off, h1, h2, ?_⟩
  have := h3 0 _ rfl
  have e : off + i * cK.n + 0 = off + i := by show off + i * 1 + 0 = _; omega
  rw [e] at this
  exact this

/-- slices.Compact of what rises leaves it as it is. -/
theorem compactC_at (g off cap : Nat) (l : List PlI) (w : World) (h : RowAt cK w (some ⟨g, off, none⟩) l) (hr : RiseP (l.map (·.1))) (hl : l.length ≤ 1000000) :
    Calls Try.prog 31 #[.slice (some ⟨g, off, none⟩) l.length cap] w fun e w' => e = .returned (.slice (some ⟨g, off, none⟩) l.length cap) ∧ ∃ m, w' = w.drewN m := by
  by_cases h2 : l.length < 2
  · have g2 : (l.length : Int) < 2 := by omega
    go_enter Try.func31, Try.ntmps31
    go_wp2
    go_ret
    exact ⟨rfl, 0, rfl⟩
  · have g2 : ¬ (l.length : Int) < 2 := by omega
    obtain ⟨n, hn⟩ : ∃ n, Hid (l.length = n) := ⟨_, rfl⟩
    rw [hn.out] at g2 hl ⊢
    go_enter Try.func31, Try.ntmps31
    go_wp2_with fail
    go_loopw [3] (fun v3 wr => ∃ k : Nat, 1 ≤ k ∧ k ≤ n ∧ v3 = .int .i64 (k : Int) ∧ ∃ m, wr = w.drewN m) (fun v _ => n - (intOf v).toNat)
    case atStart => exact ⟨1, by omega, by omega, rfl, 0, rfl⟩
    case round =>
      obtain ⟨k, hk1, hkn, rfl, m, rfl⟩ := hrel
      by_cases hlt : k < n
      · obtain ⟨j, rfl⟩ : ∃ j, k = j + 1 := ⟨k - 1, by omega⟩
        have hn' := hn.out
        obtain ⟨x, hx⟩ : ∃ x, l[j + 1]? = some x := ⟨_, List.getElem?_eq_getElem (by omega)⟩
        obtain ⟨y, hy⟩ : ∃ y, l[j]? = some y := ⟨_, List.getElem?_eq_getElem (by omega)⟩
        obtain ⟨b1, o1, e1, _, c1⟩ := h.pl hx
        obtain ⟨b2, o2, e2, _, c2⟩ := h.pl hy
        simp only [Option.some.injEq, Addr.mk.injEq, and_true] at e1 e2
        obtain ⟨rfl, rfl⟩ := e1
        obtain ⟨rfl, rfl⟩ := e2
        have hne : y.1 ≠ x.1 := by
          have hp := List.pairwise_iff_getElem.1 hr j (j + 1) (by rw [List.length_map]; omega) (by rw [List.length_map]; omega) (by omega)
          rw [List.getElem_map, List.getElem_map, (List.getElem?_eq_some_iff.1 hx).2, (List.getElem?_eq_some_iff.1 hy).2] at hp
          intro e
          rw [e] at hp
          exact ltP_irrefl _ hp
        have heq : (FloatKind.f64.format.order (plX x.1) (plX y.1) == some .eq && FloatKind.f64.format.order (plY x.1) (plY y.1) == some .eq) = false := by
          rw [show (FloatKind.f64.format.order (plX x.1) (plX y.1) == some .eq && FloatKind.f64.format.order (plY x.1) (plY y.1) == some .eq) = _ from plC_eq (plXY x.2.1 x.2.2) (plXY y.2.1 y.2.2)]
          exact decide_eq_false (fun e => hne e.symm)
        generalize plX x.1 = x1 at c1 heq
        generalize plY x.1 = x2 at c1 heq
        generalize plX y.1 = y1 at c2 heq
        generalize plY y.1 = y2 at c2 heq
        have d1 : (w.drewN m).cell? ⟨g, off + (j + 1), none⟩ = some (.complex .f64 x1 x2) := c1
        have d2 : (w.drewN m).cell? ⟨g, off + j, none⟩ = some (.complex .f64 y1 y2) := c2
        have g3 : (j : Int) + 1 < (n : Int) := by omega
        have g4 : (j : Int) < (n : Int) := by omega
        have hq : Hid (∃ q, w.drewN m = w.drewN q) := ⟨m, rfl⟩
        clear c1 c2 hx hy hne hn' h hr hn
        have hfin : Hid (∀ q, ∃ m', (w.drewN m).drewN q = w.drewN m') := fun q => ⟨m + q, World.drewN_drewN _ _ _⟩
        generalize w.drewN m = w1 at d1 d2 hfin ⊢
        go_wp2_with fail
        go_quiet (fail)
        obtain ⟨m', hm'⟩ := hfin.out nq
        rw [hm']
        clear d1 d2 hfin hm' hq
        go_wp2
        go_roundw
        case rel => exact ⟨j + 2, by omega, by omega, by go_num, m', rfl⟩
        case measure => simp [intOf]; omega
      · have g3 : ¬ (k : Int) < (n : Int) := by omega
        go_wp2
        go_ret
        exact ⟨rfl, m, rfl⟩

theorem infoCplx : (Try.prog.info? 45).any (fun i => i.size == 1 && i.bytes == 16 && (match i.zero with | some z => z.cells.size == 1 | none => false)) = true := by kernel_rfl

theorem cplxInfo : ∃ i z, Try.prog.info? 45 = some i ∧ i.zero = some z ∧ i.size = 1 ∧ i.bytes = 16 ∧ z.cells.size = 1 := by
  have h := infoCplx
  cases hi : Try.prog.info? 45 with
  | none => rw [hi] at h; cases h
  | some i =>
    rw [hi] at h
    simp only [Option.any_some, Bool.and_eq_true, beq_iff_eq] at h
    cases hz : i.zero with
    | none => rw [hz] at h; simp at h
    | some z =>
      rw [hz] at h
      exact ⟨i, z, rfl, hz, h.1.1, h.1.2, by simpa using h.2⟩

theorem new_pl (w : World) (x : PlI) : ∀ j u, (cK.c x)[j]? = some u → (w.alloc (.cells #[.complex .f64 (plX x.1) (plY x.1)] 45)).cell? ((⟨w.heap.size, 0, none⟩ : Addr).add j) = some u := by
  intro j u hu
  cases j with
  | zero =>
    have e : Value.complex .f64 (plX x.1) (plY x.1) = u := by simpa [cK, kC] using hu
    rw [← e]
    exact (Arr.new w 45 [.complex .f64 (plX x.1) (plY x.1)]).cell (i := 0) rfl
  | succ j => simp [cK] at hu

theorem riseP_of {d : List PlI} (hs : d.Pairwise (fun x y => ¬ ltP y.1 x.1)) (hn : d.Nodup) : RiseP (d.map (·.1)) := by
  refine List.pairwise_map.2 ?_
  have := hs.and hn
  refine this.imp (fun {x y} ⟨h1, h2⟩ => ?_)
  rcases ltP_total x.1 y.1 with h | h | h
  · exact h
  · exact (h2 (Subtype.ext h)).elim
  · exact (h1 h).elim

set_option maxRecDepth 100000 in
theorem compactC_nil (ao : Option Addr) (c : Nat) (w : World) : Calls Try.prog 31 #[.slice ao 0 c] w fun e w' => e = .returned (.slice ao 0 c) ∧ w' = w := by
  go_enter Try.func31, Try.ntmps31
  go_wp2
  go_ret
  exact ⟨rfl, rfl⟩

set_option maxRecDepth 100000 in
set_option maxHeartbeats 2000000 in
theorem plSort_any (ao : Option Addr) (cap : Nat) (l : List PlI) (w : World) (h : RowAt cK w ao l) (hn : l.Nodup) (hl : l.length ≤ 1000) :
    Calls Try.prog 21 #[.slice ao l.length cap] w fun e w' => ∃ (d : List PlI) (ao' : Option Addr) (cap' : Nat), e = .returned (.slice ao' d.length cap') ∧ d.Perm l ∧ RiseP (d.map (·.1)) ∧ KQ cK 45 w' w.heap.size (.slice ao' d.length cap') d ∧ Below w.heap.size w w' := by
  obtain ⟨i0, z0, hi0, hz0, hz1, hz2, hz3⟩ := cplxInfo
  go_enter Try.func21, Try.ntmps21
  go_wp2_with fail
  go_loopw [3, 5, 6, 7, 10] (fun v3 _ _ _ v10 wr => ∃ (k : Nat) (a3 : Option Addr) (c3 : Nat), k ≤ l.length ∧ v10 = .int .i64 (k : Int) ∧ v3 = .slice a3 k c3 ∧ KQ cK 45 wr w.heap.size (.slice a3 k c3) (l.take k) ∧ Below w.heap.size w wr) (fun _ _ _ _ v _ => l.length - (intOf v).toNat)
  case atStart => exact ⟨0, none, 0, by omega, rfl, rfl, KQ.empty _ _ _ _, Below.refl _ _⟩
  case round =>
    obtain ⟨k, a3, c3, hk, rfl, rfl, hQ, hb⟩ := hrel
    by_cases hlt : k < l.length
    · have g1 : (k : Int) < (l.length : Int) := by omega
      obtain ⟨x, hx⟩ : ∃ x, l[k]? = some x := ⟨_, List.getElem?_eq_getElem hlt⟩
      obtain ⟨g, off, rfl, hg, y0⟩ := (h.below hb).pl hx
      have cT := plTidy_yes (plX x.1) (plY x.1) x.1 wr (plXY x.2.1 x.2.2)
      have hA := belowNew wr (.cells #[.complex .f64 (plX x.1) (plY x.1)] 45)
      have hQ2 := hQ.below hA
      have hN := new_pl wr x
      have m1 : (l.take k).length + 1 ≤ maxLen := by unfold maxLen; rw [List.length_take]; omega
      have m2 : ((l.take k).length + 1) * 16 ≤ 140737488355328 := by rw [List.length_take]; omega
      have hbs : w.heap.size ≤ (wr.alloc (.cells #[.complex .f64 (plX x.1) (plY x.1)] 45)).heap.size := by have := hb.size; have := hA.size; omega
      have hlk : Hid ((l.take k).length = k) := by show _ = _; rw [List.length_take]; omega
      have hnx : Hid (l.take k ++ [x] = l.take (k + 1)) := by show _ = _; rw [List.take_add_one, hx]; rfl
      have hown : ∀ j, (Value.slice a3 k c3).ownBlock = some j → w.heap.size ≤ j ∧ j < wr.heap.size := fun j hj => hQ.lt j hj
      have hb2 := hb.trans (hA.mono hb.size)
      clear hQ hx
      go_wp2_with fail
      refine cT.mono ?_
      rintro e w1 ⟨rfl, rfl⟩
      clear cT
      go_wp2_with (at_builtin; refine wpList_push (K := cK) rfl _ _ 56 rfl w.heap.size 45 i0 _ 16 Try.underlying56 hi0 hz0 hz1 hz2 hz3 _ (l.take k) rfl hQ2 x trivial (fun _ h => h.elim) ⟨w1.heap.size, 0, none⟩ 1 rfl hN m1 m2 hbs ?_)
      intro ao9 cap9 w9 hQ9 hk9
      rw [hnx.out] at hQ9
      have hb9 := hb2.trans (hk9.below hb2.size (fun j hj => (hown j hj).1))
      clear hQ2 hN m1 m2 hbs hlk hnx hown hk9 hb2 hA y0
      go_wp2
      go_roundw
      case rel => exact ⟨k + 1, ao9, cap9, by omega, by go_num, rfl, hQ9, hb9⟩
      case measure => simp [intOf]; omega
    · obtain rfl : k = l.length := by omega
      have g1 : ¬ (l.length : Int) < (l.length : Int) := by omega
      rw [List.take_length] at hQ
      have cS := sortC_any w.heap.size _ l wr hQ (by omega)
      have hown : ∀ j, (Value.slice a3 l.length c3).ownBlock = some j → w.heap.size ≤ j ∧ j < wr.heap.size := fun j hj => hQ.lt j hj
      clear hQ
      go_wp2_with fail
      refine cS.mono ?_
      rintro e w1 ⟨rfl, d, hp, hs, hQ1, hk1⟩
      have hb1 := hb.trans (hk1.below hb.size (fun j hj => (hown j hj).1))
      have hr := riseP_of hs (hp.nodup_iff.2 hn)
      have hdl : Hid (l.length = d.length) := hp.length_eq.symm
      clear hs hk1 hown hb cS
      rw [hdl.out] at hQ1 ⊢
      obtain ⟨aoX, capX, eX, hnil, hRow⟩ := hQ1.form
      simp only [Value.slice.injEq] at eX
      obtain ⟨rfl, _, rfl⟩ := eX
      cases hd : d with
      | nil =>
        subst hd
        have cC := compactC_nil a3 c3 w1
        go_wp2_with fail
        refine cC.mono ?_
        rintro e w2 ⟨rfl, rfl⟩
        go_wp2
        go_ret
        exact ⟨[], a3, c3, rfl, hp, hr, hQ1, hb1⟩
      | cons x r =>
        obtain ⟨g, off, rfl, _⟩ := hRow.pl (i := 0) (x := x) (by rw [hd]; rfl)
        have cC := compactC_at g off c3 d w1 hRow hr (by have := hdl.out; omega)
        rw [← hd]
        clear hd hRow
        go_wp2_with fail
        refine cC.mono ?_
        rintro e w2 ⟨rfl, m, rfl⟩
        have hQ2 := hQ1.below (below_drewN (Below.refl w1.heap.size w1) m)
        have hb2 := hb1.trans ((below_drewN (Below.refl w1.heap.size w1) m).mono hb1.size)
        clear cC
        go_wp2
        go_ret
        exact ⟨d, some ⟨g, off, none⟩, c3, rfl, hp, hr, hQ2, hb2⟩
end Go.Proofs.Ytfbpjdjajecajaa
