/- StatePuts: the walk. -/
import Derived.Test.YtolliiodfhdfiaaStaWorks
import Derived.Test.YtolliiodfhdfiaaStaPutMath
import Derived.Test.YtolliiodfhdfiaaRefTxNeeds
import Derived.Test.YtolliiodfhdfiaaRefTxName
import Derived.Deep.DeepCutAuto
import Derived.Deep.CutBlock
namespace Go.Proofs.Ytolliiodfhdfiaa
open Go Go.RowKit
set_option linter.unusedVariables false

/-- The statement's own map of what was put. -/
def strM (g : ByteArray → Option ByteArray) (n : ByteArray) : Option Value := (g n).map Value.string

theorem strM_put (g : ByteArray → Option ByteArray) (n x : ByteArray) : ∀ m, strM (pnF g n (some x)) m = putF (strM g) n (.string x) m := by
  intro m
  unfold strM putF pnF
  by_cases h : m = n
  · rw [if_pos h, if_pos h]; rfl
  · rw [if_neg h, if_neg h]

theorem strM_get (g : ByteArray → Option ByteArray) (n : ByteArray) : (strM g n).getD (.string ⟨#[]⟩) = .string ((g n).getD ⟨#[]⟩) ∧ (strM g n).isSome = (g n).isSome := by
  unfold strM
  cases g n <;> exact ⟨rfl, rfl⟩

set_option maxRecDepth 100000 in
theorem zeroStr22 (w : World) : (zeroValue 9).run Try.prog w = .ok (.string ⟨#[]⟩) w := by rfl

theorem putW_sizes (n : Nat) {key v : ByteArray} (hk : key.size ≤ 32) (hv : v.size ≤ 64) : TxSizes (putW n key v) := by
  have h1 : nA.size = 1 := rfl
  have h3 : wA.size = 3 := rfl
  have h4 := kpP_size key
  refine ⟨?_, Nat.zero_le _, ?_, ?_, fun s hs => (by cases hs), fun s hs => ?_⟩
  · show nA.size ≤ maxLen; unfold maxLen; omega
  · show key.size ≤ maxLen; unfold maxLen; omega
  · show v.size ≤ maxLen; unfold maxLen; omega
  · have : s = wA ∨ s = kP ++ key := by simpa [putW] using hs
    unfold maxLen
    rcases this with e | e <;> rw [e] <;> omega

theorem putT_sizes (n : Nat) {key v : ByteArray} (hk : key.size ≤ 32) (hv : v.size ≤ 64) : TxSizes (putT n key v) := by
  have h := putW_sizes n hk hv
  exact ⟨h.frm, h.to, h.key, h.val, h.rs, fun s hs => by cases hs⟩

/-- A cell that is no text is written: texts stay where they are. -/
theorem strs_arr_set {w : World} {g : Nat} {t : TypeId} {cs : List Value} {i : Nat} {ao : Option Addr} {ss : List ByteArray} (hA : Arr w g t cs) (hs : StrsAt w ao ss) (hi : ∀ s, cs[i]? ≠ some (.string s)) (u : Value) : StrsAt (w.setCell ⟨g, i, none⟩ u) ao ss := by
  intro j hj
  obtain ⟨b, off, e, hb, hc⟩ := hs j hj
  have hk := Kept.setCell w ⟨g, i, none⟩ u
  refine ⟨b, off, e, Nat.lt_of_lt_of_le hb hk.size, ?_⟩
  by_cases hbg : b = g
  · subst hbg
    have h1 : cs[off + j]? = some (.string ss[j]) := by
      have h2 : w.heap[b]? = some (.cells cs.toArray t (0, 0)) := hA
      rw [Lib.cell_of_heap h2] at hc
      simpa using hc
    refine (hA.set i u).cell ?_
    rw [List.getElem?_set_ne (fun q => hi _ (by rw [q]; exact h1))]
    exact h1
  · rw [hk.cell hb hbg]
    exact hc

set_option maxRecDepth 100000 in
set_option maxHeartbeats 8000000 in
theorem statePuts_walk (ao : Option Addr) (cp : Nat) (l : List ByteArray) (bo : Option Addr) (bp : Nat) (vs : List ByteArray) (W : World) (hL : StrsAt W ao l) (hll : l.length * 16 ≤ 140737488351232) (hlz : ∀ s ∈ l, s.size ≤ maxLen) (hV : StrsAt W bo vs) (hvl : vs.length * 16 ≤ 140737488351232) (hvz : ∀ s ∈ vs, s.size ≤ maxLen) :
    Calls Try.prog 5 #[.slice ao l.length cp, .slice bo vs.length bp] W fun e w' => e = .returned (.bool true) ∧ Below W.heap.size W w' := by
  have cW := works22_any W
  have hLr := hL.row
  have hVr := hV.row
  clear hL hV
  go_enter Try.func5, Try.ntmps5
  go_wp2_with fail
  refine cW.mono ?_
  rintro e w0 ⟨rfl, hbW⟩
  have cN := new22_any [] none 0 0 w0 (nil_row _ _) (fun s hs => by cases hs) (by decide)
  rw [newF_none] at cN
  clear cW
  go_wp2_with fail
  refine cN.mono ?_
  rintro e w1 ⟨p, S, rfl, h0, hS, hb1⟩
  have hge : ∀ k, S k → W.heap.size ≤ k := fun k hk => Nat.le_trans hbW.size (hS k hk)
  have hbA := hbW.trans (hb1.mono hbW.size)
  clear cN hS hbW hb1
  have mk : (Instr.makeMap 42 none).run Try.prog w1 = .ok (.map (some w1.heap.size)) (w1.alloc (.map #[] 0)) := rfl
  have hM0 := (SMap.new w1).congr (g := strM (fun _ => none)) (fun _ => rfl)
  have hbm := belowNew w1 (.map #[] 0)
  have h2 := h0.below hbm
  have hmS : ¬ S w1.heap.size := fun e => by have := h0.lt e; omega
  have hbB := hbA.trans (hbm.mono hbA.size)
  have hmg := hbA.size
  go_wp2_with fail
  generalize w1.alloc (.map #[] 0) = w2 at *
  generalize w1.heap.size = mb at *
  clear mk h0 hbA hbm
  go_loopw [7, 8, 9, 10] (fun v7 v8 _ _ wr => ∃ (i k n : Nat) (s : StF), i ≤ l.length ∧ i ≤ 40 ∧ k ≤ i ∧ n ≤ i ∧ v7 = .int .u64 (k : Int) ∧ v8 = .int .i64 (i : Int) ∧ PS wr p S s (2 * i) ∧ Hid ((s.acc nA).2 = k) ∧ SMap wr mb (strM s.val) n ∧ Below W.heap.size W wr) (fun _ v _ _ _ => l.length - (intOf v).toNat)
  case atStart => exact ⟨0, 0, 0, _, Nat.zero_le _, by omega, by omega, by omega, rfl, rfl, h2, rfl, hM0, hbB⟩
  case round =>
    obtain ⟨i, k, n, s, hi, hi2, hk, hn, rfl, rfl, hP, ha, hM, hb⟩ := hrel
    clear h2 hM0 hbB
    by_cases hlt : i < l.length ∧ i < 40
    · obtain ⟨hil, hi40⟩ := hlt
      have g1 : (i : Int) < (l.length : Int) := by omega
      have g2 : (i : Int) < 40 := by omega
      obtain ⟨x, hx⟩ : ∃ x, l[i]? = some x := ⟨_, List.getElem?_eq_getElem hil⟩
      have hxi : l[i] = x := (List.getElem?_eq_some_iff.1 hx).2
      have hxz := hlz x (List.mem_of_getElem? hx)
      obtain ⟨b, off, hao, hbl0, hcell0⟩ := hLr.strs i hil
      rw [hxi] at hcell0
      have hcW : ∀ w', Below W.heap.size W w' → b < w'.heap.size ∧ w'.cell? ⟨b, off + i, none⟩ = some (.string x) := fun w' hw' => ⟨Nat.lt_of_lt_of_le hbl0 hw'.size, by rw [cell_same (hw'.block _ hbl0)]; exact hcell0⟩
      subst hao
      clear hx hxi hbl0 hcell0
      have hcell := (hcW wr hb).2
      have cN := refName_any x wr hxz
      by_cases hnm : isNm x = true
      · rw [hnm] at cN
        have hx32 := isNm_size hnm
        replace hnm : Hid _ := hnm
        go_wp2_with fail
        refine cN.mono ?_
        rintro e w3 ⟨rfl, rfl⟩
        clear cN hcell
        go_upto_region 11 with fail
        go_cut [49] (fun s49 wx => ∃ bb : Bool, s49 = .bool bb ∧ Hid (bb = true → ∃ y, vs[i]? = some y ∧ y.size ≤ 64) ∧ wx = w3)
        case first =>
          by_cases hiv : i < vs.length
          · have g3 : (i : Int) < (vs.length : Int) := by omega
            obtain ⟨y, hy⟩ : ∃ y, vs[i]? = some y := ⟨_, List.getElem?_eq_getElem hiv⟩
            have hyi : vs[i] = y := (List.getElem?_eq_some_iff.1 hy).2
            obtain ⟨b2, off2, hbo, hbl2, hcell2⟩ := (hVr.below hb).strs i hiv
            rw [hyi] at hcell2
            subst hbo
            replace hy : Hid _ := hy
            clear hyi
            by_cases hy64 : y.size ≤ 64
            · have g4 : (y.size : Int) ≤ 64 := by omega
              go_wp2_with fail
              go_meet
              exact ⟨true, rfl, fun _ => ⟨y, hy.out, hy64⟩, rfl⟩
            · have g4 : ¬ (y.size : Int) ≤ 64 := by omega
              go_wp2_with fail
              go_meet
              exact ⟨false, rfl, (fun e => by cases e), rfl⟩
          · have g3 : ¬ (i : Int) < (vs.length : Int) := by omega
            go_wp2_with fail
            go_meet
            exact ⟨false, rfl, (fun e => by cases e), rfl⟩
        case rest =>
        obtain ⟨bb, rfl, hbb, rfl⟩ := hcut
        generalize wc = w3 at *
        go_upto_if 49 with fail
        go_cut [9] (fun s9 wx => ∃ v : ByteArray, s9 = .string v ∧ v.size ≤ 64 ∧ wx = w3)
        case first =>
          cases bb with
          | false =>
            go_wp2_with fail
            go_meet
            exact ⟨_, rfl, by show 0 ≤ 64; omega, rfl⟩
          | true =>
            obtain ⟨y, hy, hy64⟩ := hbb.out rfl
            have hiv := (List.getElem?_eq_some_iff.1 hy).1
            have g3 : (i : Int) < (vs.length : Int) := by omega
            have hyi : vs[i] = y := (List.getElem?_eq_some_iff.1 hy).2
            obtain ⟨b2, off2, hbo, hbl2, hcell2⟩ := (hVr.below hb).strs i hiv
            rw [hyi] at hcell2
            subst hbo
            clear hy hyi hbb
            go_wp2_with fail
            go_meet
            exact ⟨y, rfl, hy64, rfl⟩
        case rest =>
          obtain ⟨v, rfl, hv64, rfl⟩ := hcut
          have hcell := (hcW wc hb).2
          have hnb := belowNew wc (.cells #[.int .i64 2, .string ⟨#[97]⟩, .string ⟨#[]⟩, .int .u64 0, .int .u64 (k : Int), .string x, .string v, .slice none 0 0, .slice none 0 0] 25)
          have hX : Arr (wc.alloc (.cells #[.int .i64 2, .string ⟨#[97]⟩, .string ⟨#[]⟩, .int .u64 0, .int .u64 (k : Int), .string x, .string v, .slice none 0 0, .slice none 0 0] 25)) wc.heap.size 25 [.int .i64 2, .string ⟨#[97]⟩, .string ⟨#[]⟩, .int .u64 0, .int .u64 (k : Int), .string x, .string v, .slice none 0 0, .slice none 0 0] := Arr.new wc 25 _
          have lx := hX.lt
          have hB1 := hb.trans (hnb.mono hb.size)
          have hP1 := hP.below hnb
          have hM1 := hM.below hnb
          have cNd : Calls Try.prog 16 #[.agg #[.int .i64 2, .string ⟨#[97]⟩, .string ⟨#[]⟩, .int .u64 0, .int .u64 (k : Int), .string x, .string v, .slice none 0 0, .slice none 0 0]] (wc.alloc (.cells #[.int .i64 2, .string ⟨#[97]⟩, .string ⟨#[]⟩, .int .u64 0, .int .u64 (k : Int), .string x, .string v, .slice none 0 0, .slice none 0 0] 25)) fun e w' => GotStrs (wc.alloc (.cells #[.int .i64 2, .string ⟨#[97]⟩, .string ⟨#[]⟩, .int .u64 0, .int .u64 (k : Int), .string x, .string v, .slice none 0 0, .slice none 0 0] 25)) [wA, kP ++ x] e w' := by
            have h := refNeeds_any (putT k x v) none 0 none 0 (wc.alloc (.cells #[.int .i64 2, .string ⟨#[97]⟩, .string ⟨#[]⟩, .int .u64 0, .int .u64 (k : Int), .string x, .string v, .slice none 0 0, .slice none 0 0] 25)) ⟨nil_strs _ _, nil_strs _ _⟩ (putT_sizes k hx32 hv64)
            rw [putT_needs (by omega) hnm.out hv64] at h
            exact h
          have hgS : ¬ S wc.heap.size := fun e => by have := hP.lt e; omega
          have hgm : wc.heap.size ≠ mb := fun e => by have := hM.lt; omega
          have hWg : W.heap.size ≤ wc.heap.size := hb.size
          clear hP hM hbb hi
          go_upto_region 14 with fail
          generalize wc.alloc (.cells #[.int .i64 2, .string ⟨#[97]⟩, .string ⟨#[]⟩, .int .u64 0, .int .u64 (k : Int), .string x, .string v, .slice none 0 0, .slice none 0 0] 25) = w4 at *
          generalize wc.heap.size = g at *
          clear hnb hb hcell
          have y0 := hX.cell (i := 0) rfl
          have y1 := hX.cell (i := 1) rfl
          have y2 := hX.cell (i := 2) rfl
          have y3 := hX.cell (i := 3) rfl
          have y4 := hX.cell (i := 4) rfl
          have y5 := hX.cell (i := 5) rfl
          have y6 := hX.cell (i := 6) rfl
          have y7 := hX.cell (i := 7) rfl
          have y8 := hX.cell (i := 8) rfl
          go_wp2_with fail
          refine cNd.mono ?_
          rintro e w5 ⟨na, rfl, hna, hb5⟩
          have hX5 := hX.below hb5 lx
          have hP5 := hP1.below hb5
          have hM5 := hM1.below hb5
          have hB5 := hB1.trans (hb5.mono hB1.size)
          clear cNd y0 y1 y2 y3 y4 y5 y6 y7 y8 hX hP1 hM1 hB1 hb5
          have f8 := hX5.frozen 8
          have c8 := hX5.cell (i := 8) rfl
          have hX6 := hX5.set 8 (.slice na 2 2)
          have hk6 := Kept.setCell w5 ⟨g, 8, none⟩ (.slice na 2 2)
          have hS6 := strs_arr_set hX5 hna (i := 8) (fun s e => by simp at e) (.slice na 2 2)
          have hP6 := hP5.kept hk6 (fun q hq e => hgS (by rw [← show q = g from e]; exact hq))
          have hM6 := hM5.kept hk6 (fun e => hgm (show mb = g from e).symm)
          have hB6 := hB5.trans (hk6.below hB5.size (fun q e => by rw [show q = g from e]; exact hWg))
          have hyA : (TxM.mk (putW k x v) none 0 na 2).At (w5.setCell ⟨g, 8, none⟩ (.slice na 2 2)) := ⟨⟨nil_strs _ _, hS6⟩, fun _ => rfl, fun e => by
            obtain ⟨b', off', e', _⟩ := hS6 0 (by simp)
            rw [show na = none from e] at e'; cases e'⟩
          have hE := putW_E (s := s) (n := k) (key := x) (v := v) (by omega) hnm.out hv64 ha.out
          obtain ⟨hv1, hv2⟩ := putW_F (s := s) (n := k) (key := x) (v := v) (by omega) hnm.out hv64 ha.out
          have cA := applyD_any (TxM.mk (putW k x v) none 0 na 2) rfl _ hyA (putW_sizes k hx32 hv64) (by show 2 ≤ 500; decide) p S (2 * i) s hP6 (by omega) 0 (by rw [hE]; rfl)
          obtain ⟨s', hs'⟩ : ∃ q, Hid (applyF s (putW k x v) = q) := ⟨_, rfl⟩
          rw [hs'.out] at hv1 hv2
          have hge6 : ∀ q, S q → W.heap.size ≤ q := hge
          replace hv1 : Hid _ := hv1
          replace hv2 : Hid _ := hv2
          simp only [List.set_cons_succ, List.set_cons_zero] at hX6
          clear hna hX5 hk6 hP5 hM5 hB5 hyA hE hS6 ha
          go_upto_region 15 with fail
          generalize w5.setCell ⟨g, 8, none⟩ (.slice na 2 2) = w6 at *
          clear f8 c8
          have y0 := hX6.cell (i := 0) rfl
          have y1 := hX6.cell (i := 1) rfl
          have y2 := hX6.cell (i := 2) rfl
          have y3 := hX6.cell (i := 3) rfl
          have y4 := hX6.cell (i := 4) rfl
          have y5 := hX6.cell (i := 5) rfl
          have y6 := hX6.cell (i := 6) rfl
          have y7 := hX6.cell (i := 7) rfl
          have y8 := hX6.cell (i := 8) rfl
          go_wp2_with fail
          refine cA.mono ?_
          rintro e w7 ⟨rfl, h7, hk7⟩
          rw [hs'.out] at h7
          have hM7 := hM6.kept hk7 hmS
          have hB7 := hB6.trans (hk7.below hB6.size hge6)
          have hcell := (hcW w7 hB7).2
          have hmx : n < maxLen := by unfold maxLen; omega
          have hM8 : ∀ w8, SMap w8 mb (putF (strM s.val) x (.string v)) (putN (strM s.val) x n) → SMap w8 mb (strM s'.val) (putN (strM s.val) x n) := fun w8 h => h.congr (by rw [hv1.out]; exact strM_put s.val x v)
          have hn8 := putN_bound (strM s.val) x n
          have hwr : IntKind.u64.wrap ((k : Int) + 1) = ((k + 1 : Nat) : Int) := by rw [wrap64u _ (by omega) (by omega)]; rfl
          generalize strM s.val = f at *
          clear cA hk7 hP6 hX6 hM6 hB6 hs' y0 y1 y2 y3 y4 y5 y6 y7 y8 hv1
          go_wp2_with (at_mapUpdate; refine smap_put rfl _ _ _ 42 rfl 9 Try.underlying42 mb _ _ rfl hM7 hmx x hxz rfl _ rfl ?_; intro w8 hM8' hk8)
          have hM9 := hM8 w8 hM8'
          have hP8 := (h7.kept hk8 (fun q hq e => hmS (by rw [← show q = mb from e]; exact hq))).mono (show 2 * i + 2 ≤ 2 * (i + 1) by omega)
          have hB8 := hB7.trans (hk8.below hB7.size (fun q e => by rw [show q = mb from e]; exact hmg))
          clear hM8 hM8' hk8 h7 hM7 hB7 hcell
          go_wp2
          go_roundw
          case rel => exact ⟨i + 1, k + 1, _, s', by omega, by omega, by omega, Nat.le_trans hn8 (by omega), rfl, by go_num, hP8, hv2, hM9, hB8⟩
          case measure => simp [intOf]; omega
      · rw [Bool.eq_false_iff.2 hnm] at cN
        have hP' := hP.mono (show 2 * i ≤ 2 * (i + 1) by omega)
        clear hP
        go_wp2_with fail
        refine cN.mono ?_
        rintro e w3 ⟨rfl, rfl⟩
        clear cN hcell hnm
        go_wp2
        go_roundw
        case rel => exact ⟨i + 1, k, n, s, by omega, by omega, by omega, by omega, rfl, by go_num, hP', ha, hM, hb⟩
        case measure => simp [intOf]; omega
    · have hg : ¬ (i : Int) < (l.length : Int) ∨ ((i : Int) < (l.length : Int) ∧ ¬ (i : Int) < 40) := by omega
      have hNb : 2 * i ≤ 80 := by omega
      have hnb : n ≤ 40 := by omega
      have hkb : k ≤ 40 := by omega
      replace hP := hP.mono hNb
      clear hNb hlt hi hi2 hk
      go_upto_region 7 with fail
      go_cut [29] (fun s29 wx => s29 = .bool false ∧ wx = wr)
      case first =>
        rcases hg with g1 | ⟨g1, g2⟩
        all_goals
          go_wp2_with fail
          go_meet
          exact ⟨rfl, rfl⟩
      case rest =>
        obtain ⟨rfl, rfl⟩ := hcut
        clear hg
        go_wp2_with fail
        go_loopw [11, 12, 13, 14, 15] (fun v11 _ _ _ _ wr => ∃ (i : Nat), i ≤ l.length ∧ v11 = .int .i64 (i : Int) ∧ PS wr p S s 80 ∧ SMap wr mb (strM s.val) n ∧ Below W.heap.size W wr) (fun v _ _ _ _ _ => l.length - (intOf v).toNat)
        case atStart => exact ⟨0, Nat.zero_le _, rfl, hP, hM, hb⟩
        case round =>
          obtain ⟨j, hj, rfl, hP', hM', hb'⟩ := hrel
          clear hP hM hb
          by_cases hlt : j < l.length ∧ j < 40
          · obtain ⟨hil, hi40⟩ := hlt
            have g1 : (j : Int) < (l.length : Int) := by omega
            have g2 : (j : Int) < 40 := by omega
            obtain ⟨x, hx⟩ : ∃ x, l[j]? = some x := ⟨_, List.getElem?_eq_getElem hil⟩
            have hxi : l[j] = x := (List.getElem?_eq_some_iff.1 hx).2
            have hxz := hlz x (List.mem_of_getElem? hx)
            obtain ⟨b, off, hao, hbl0, hcell0⟩ := hLr.strs j hil
            rw [hxi] at hcell0
            have hcW : ∀ w', Below W.heap.size W w' → w'.cell? ⟨b, off + j, none⟩ = some (.string x) := fun w' hw' => by rw [cell_same (hw'.block _ hbl0)]; exact hcell0
            subst hao
            clear hx hxi hbl0 hcell0
            have hcell := hcW wr hb'
            have cV := valueS_any x hxz wr p S s 80 hP'
            obtain ⟨hg1, hg2⟩ := strM_get s.val x
            generalize (s.val x).getD ⟨#[]⟩ = vv at *
            generalize (s.val x).isSome = vi at *
            go_wp2_with fail
            refine cV.mono ?_
            rintro e w3 ⟨rfl, hb3⟩
            have hM3 := hM'.below hb3
            have hP3 := hP'.below hb3
            have hbF := hb'.trans (hb3.mono hb'.size)
            have hcell := hcW w3 hbF
            clear cV hP' hM' hb' hb3
            have hfin : Hid (SMap w3 mb (strM s.val) n) := hM3
            obtain ⟨f, hf⟩ : ∃ q, Hid (strM s.val = q) := ⟨_, rfl⟩
            rw [hf.out] at hM3 hg1 hg2
            clear hf
            go_wp2_with (at_lookup; refine smap_look_ok (by rfl) _ _ 42 rfl 9 Try.underlying42 _ (zeroStr22 _) mb _ _ rfl hM3 x hxz rfl ?_; rw [hg1, hg2])
            cases vi
            all_goals (
              go_wp2
              go_roundw
              case rel => exact ⟨j + 1, by omega, by go_num, hP3, hfin.out, hbF⟩
              case measure => simp [intOf]; omega)
          · have hg : ¬ (j : Int) < (l.length : Int) ∨ ((j : Int) < (l.length : Int) ∧ ¬ (j : Int) < 40) := by omega
            have cA := fun w1 (hb1 : Below wr.heap.size wr w1) => accountS_any nA (by unfold maxLen; decide) w1 p S s 80 (hP'.below hb1)
            rw [ha.out] at cA
            have cA' := cA wr (Below.refl _ _)
            clear cA
            rcases hg with g1 | ⟨g1, g2⟩
            all_goals
              go_wp2_with fail
              refine cA'.mono ?_
              rintro e w3 ⟨rfl, hb3⟩
              have hbF := hb'.trans (hb3.mono hb'.size)
              clear cA' hP' hM' hb' hb3
              go_wp2
              go_ret
              exact ⟨rfl, hbF⟩
end Go.Proofs.Ytolliiodfhdfiaa
