/- Texts as one: RefMixAll. -/
import Derived.Test.YtajpfkenhchafaaGreatDoorEz17
import Derived.Test.YtajpfkenhchafaaGreatDoorRows
import Derived.WalkKit
import Derived.WalkSpells
import Derived.WalkLawsBesides
import Derived.Deep.QuietTactic
import Derived.BigQuiet
import Derived.BigRegion
import Derived.Deep.AppendLies
import Derived.Deep.RegionHeld3
/- Texts as one: RefMixSmall, RefMixBlock, RefMixDigest, RefMixFace. -/
/- The reference's number, firsts and places; nothing old in memory is turned. -/
namespace Go.Proofs.YtajpfkenhchafaaGreatDoor.Mx
open Go.RowKit
set_option linter.unusedVariables false

set_option maxRecDepth 100000 in
set_option maxHeartbeats 1000000 in
theorem number_any (s : ByteArray) (w : World) (hs : s.size = 4) :
    Calls Tryz.prog 105 #[.string s] w fun e w' => e = .returned (.int .u32 ((wordAt s.data.toList 0).toNat : Int)) ∧ ∃ m, w' = w.drewN m := by
  have h0 : (0 : Int) < (s.size : Int) := by omega
  have h1 : (1 : Int) < (s.size : Int) := by omega
  have h2 : (2 : Int) < (s.size : Int) := by omega
  have h3 : (3 : Int) < (s.size : Int) := by omega
  have k0 : 0 < s.size := by omega
  have k1 : 1 < s.size := by omega
  have k2 : 2 < s.size := by omega
  have k3 : 3 < s.size := by omega
  go_enter Tryz.func105, Tryz.ntmps105
  go_wp2
  go_quiet (fail)
  go_wp2
  go_ret
  refine ⟨?_, nq, rfl⟩
  have e : ∀ i (hi : i < s.size), byteAt s.data.toList i = s[i].toNat := fun i hi => by
    unfold byteAt
    have hl : i < s.data.toList.length := by simpa using hi
    rw [List.getD, List.getElem?_eq_getElem hl]
    rfl
  rw [wordAt_toNat]
  simp only [Nat.mul_zero, Nat.zero_add, e 0 k0, e 1 k1, e 2 k2, e 3 k3]
  have b0 := s[0].toNat_lt
  have b1 := s[1].toNat_lt
  have b2 := s[2].toNat_lt
  have b3 := s[3].toNat_lt
  refine congrArg Ending.returned (congrArg (Value.int IntKind.u32) ?_)
  omega

def places : List Nat := [0, 4, 8, 12, 1, 5, 9, 13, 2, 6, 10, 14, 3, 7, 11, 15, 0, 5, 10, 15, 1, 6, 11, 12, 2, 7, 8, 13, 3, 4, 9, 14]
def iv (n : Nat) : Value := .int .i64 (n : Int)

set_option maxRecDepth 100000 in
theorem firsts_any (w : World) :
    Calls Tryz.prog 85 #[] w fun e w' => e = .returned (.slice (some ⟨w.heap.size, 0, none⟩) 8 8) ∧ w' = w.alloc (.cells (firstsL.map wv).toArray 132) := by
  go_enter Tryz.func85, Tryz.ntmps85
  go_wp2
  go_ret
  exact ⟨rfl, rfl⟩

set_option maxRecDepth 100000 in
theorem places_any (w : World) :
    Calls Tryz.prog 87 #[] w fun e w' => e = .returned (.slice (some ⟨w.heap.size, 0, none⟩) 32 32) ∧ w' = w.alloc (.cells (places.map iv).toArray 3) := by
  go_enter Tryz.func87, Tryz.ntmps87
  go_wp2
  go_ret
  exact ⟨rfl, rfl⟩

def allocAll (w : World) : List Obj → World
  | [] => w
  | o :: r => allocAll (w.alloc o) r

theorem allocAll_heap : ∀ (os : List Obj) (w : World), (allocAll w os).heap = w.heap ++ os.toArray
  | [], w => by simp [allocAll]
  | o :: r, w => by
    rw [allocAll, allocAll_heap r]
    show (w.heap.push o) ++ r.toArray = _
    simp

theorem allocAll_below : ∀ (os : List Obj) (w : World), Below w.heap.size w (allocAll w os)
  | [], w => Below.refl _ _
  | o :: r, w => ((Below.refl _ w).alloc (Nat.le_refl _) o).trans ((allocAll_below r (w.alloc o)).mono (by rw [alloc_size]; omega))

def rowSlice (N i : Nat) : Value := .slice (some ⟨N + i, 0, none⟩) 16 16
def rowObjs (N : Nat) : List Obj := ((List.range 10).map fun i => Obj.cells ((rowL i).map iv).toArray 3) ++ [Obj.cells ((List.range 10).map (rowSlice N)).toArray 32]

set_option maxRecDepth 100000 in
set_option maxHeartbeats 1000000 in
theorem rows_any (w : World) :
    Calls Tryz.prog 86 #[] w fun e w' => e = .returned (.slice (some ⟨w.heap.size + 10, 0, none⟩) 10 10) ∧ w' = allocAll w (rowObjs w.heap.size) := by
  go_enter Tryz.func86, Tryz.ntmps86
  go_wp2
  go_ret
  exact ⟨rfl, rfl⟩
end Go.Proofs.YtajpfkenhchafaaGreatDoor.Mx

/- What the reference's block does: eight words turned by a block's words; nothing old in memory is turned. -/
namespace Go.Proofs.YtajpfkenhchafaaGreatDoor.Mx
open Go.RowKit Go.Sort
set_option linter.unusedVariables false

theorem infoWord : (Tryz.prog.info? 132).map (fun i => (i.zero, i.size, i.bytes)) = some (some (.int .u32 0), 1, 4) := by kernel_rfl

theorem make16 (w : World) : (Instr.makeSlice 140 (.int .i64 16) (.int .i64 16)).run Tryz.prog w = .ok (.slice (some ⟨w.heap.size, 0, none⟩) 16 16) (w.alloc (.cells (List.replicate 16 (Value.int .u32 0)).toArray 132)) := by kernel_rfl
theorem make8 (w : World) : (Instr.makeSlice 140 (.int .i64 8) (.int .i64 8)).run Tryz.prog w = .ok (.slice (some ⟨w.heap.size, 0, none⟩) 8 8) (w.alloc (.cells (List.replicate 8 (Value.int .u32 0)).toArray 132)) := by kernel_rfl

/-- The words of a text of sixty-four bytes, one by one. -/
def mCells (s : List UInt8) (i : Nat) : List Value := (List.range 16).map fun j => if j < i then wv (wordAt s j) else .int .u32 0

theorem mCells_step (s : List UInt8) (i : Nat) : mCells s (i + 1) = (mCells s i).set i (wv (wordAt s i)) := by
  unfold mCells
  apply List.ext_getElem
  · simp
  · intro j h1 h2
    simp only [List.getElem_map, List.getElem_range, List.getElem_set]
    by_cases e : i = j
    · subst e; simp
    · rw [if_neg e]
      by_cases hj : j < i
      · rw [if_pos hj, if_pos (by omega)]
      · rw [if_neg hj, if_neg (by omega)]

theorem mCells_all (s : List UInt8) : mCells s 16 = (wordsL s).map wv := by
  unfold mCells wordsL
  rw [List.map_map]
  apply List.map_congr_left
  intro j hj
  rw [if_pos (List.mem_range.1 hj)]
  rfl

theorem word_sub (s : ByteArray) (i : Nat) (h : 4 * i + 4 ≤ s.size) : wordAt (s.extract (4 * i) (4 * i + 4)).data.toList 0 = wordAt s.data.toList i := by
  have e : ∀ k, k < 4 → byteAt (s.extract (4 * i) (4 * i + 4)).data.toList k = byteAt s.data.toList (4 * i + k) := fun k hk => by
    unfold byteAt
    congr 1
    simp only [ByteArray.data_extract, Array.toList_extract, List.extract_eq_take_drop, List.getD]
    rw [List.getElem?_take, if_pos (by omega), List.getElem?_drop]
  unfold wordAt
  simp only [Nat.mul_zero, Nat.zero_add]
  rw [e 0 (by omega), e 1 (by omega), e 2 (by omega), e 3 (by omega), Nat.add_zero]

/-- The tables of the reference. -/
structure Tabs (w : World) (N ab : Nat) : Prop where
  rows : ∀ i, i < 10 → Arr w (N + i) 3 ((rowL i).map iv)
  all : Arr w (N + 10) 32 ((List.range 10).map (rowSlice N))
  at' : Arr w ab 3 (places.map iv)

theorem Tabs.below {w w' : World} {N ab B : Nat} (h : Tabs w N ab) (hb : Below B w w') (h1 : N + 10 < B) (h2 : ab < B) : Tabs w' N ab :=
  ⟨fun i hi => (h.rows i hi).below hb (by omega), h.all.below hb h1, h.at'.below hb h2⟩

/-- The first k of the eight mixings. -/
def stirP (ws ms : List UInt32) (rs : List Nat) : Nat → List UInt32
  | 0 => ws
  | k + 1 => stepQ (stirP ws ms rs k) (places.getD (4 * k) 0) (places.getD (4 * k + 1) 0) (places.getD (4 * k + 2) 0) (places.getD (4 * k + 3) 0) (ms.getD (rs.getD (2 * k) 0) 0) (ms.getD (rs.getD (2 * k + 1) 0) 0)

theorem stirP_all (ws ms : List UInt32) (rs : List Nat) : stirP ws ms rs 8 = stirL ws ms rs := rfl
theorem stirP_len (ws ms : List UInt32) (rs : List Nat) : ∀ k, (stirP ws ms rs k).length = ws.length
  | 0 => rfl
  | k + 1 => by rw [stirP, stepQ_len, stirP_len ws ms rs k]

theorem places_lt : ∀ i, i < 32 → places.getD i 0 < 16 := by decide
theorem places_ne : ∀ k, k < 8 → places.getD (4 * k) 0 ≠ places.getD (4 * k + 1) 0 ∧ places.getD (4 * k) 0 ≠ places.getD (4 * k + 2) 0 ∧ places.getD (4 * k) 0 ≠ places.getD (4 * k + 3) 0 ∧
    places.getD (4 * k + 1) 0 ≠ places.getD (4 * k + 2) 0 ∧ places.getD (4 * k + 1) 0 ≠ places.getD (4 * k + 3) 0 ∧ places.getD (4 * k + 2) 0 ≠ places.getD (4 * k + 3) 0 := by decide
theorem row_get : ∀ i, i < 10 → ∀ j, j < 16 → (rowL i).getD j 0 < 16 := by decide

theorem spare_get (l : List UInt32) (sp : List Value) (i : Nat) (h : i < l.length) : (l.map wv ++ sp)[i]? = some (wv (l.getD i 0)) := by
  rw [List.getElem?_append_left (by simpa using h)]
  exact getD_get l i h
theorem spare_set (l : List UInt32) (sp : List Value) (i : Nat) (x : UInt32) (h : i < l.length) : (l.map wv ++ sp).set i (wv x) = (l.set i x).map wv ++ sp := by
  rw [List.set_append_left _ _ (by simpa using h), List.map_set]
theorem iv_get (l : List Nat) (i : Nat) (h : i < l.length) : (l.map iv)[i]? = some (iv (l.getD i 0)) := by
  simp [List.getElem?_eq_getElem h]

/-- The cells of what comes out while they are laid. -/
def foldCells (l : List UInt32) (i : Nat) : List Value := (List.range 8).map fun j => if j < i then wv (l.getD j 0) else .int .u32 0

theorem foldCells_step (l : List UInt32) (i : Nat) : foldCells l (i + 1) = (foldCells l i).set i (wv (l.getD i 0)) := by
  unfold foldCells
  apply List.ext_getElem
  · simp
  · intro j h1 h2
    simp only [List.getElem_map, List.getElem_range, List.getElem_set]
    by_cases e : i = j
    · subst e; simp
    · rw [if_neg e]
      by_cases hj : j < i
      · rw [if_pos hj, if_pos (by omega)]
      · rw [if_neg hj, if_neg (by omega)]

theorem foldCells_all (l : List UInt32) (hl : l.length = 8) : foldCells l 8 = l.map wv := by
  match l, hl with
  | [a, b, c, d, e, f, g, k], _ => rfl

theorem foldL_get (h m : List UInt32) (t : UInt32) (last : Bool) (i : Nat) (hi : i < 8) : (foldL h m t last).getD i 0 = wxor (wxor (h.getD i 0) ((rounds m (startL h t last) 10).getD i 0)) ((rounds m (startL h t last) 10).getD (i + 8) 0) := by
  rw [wxor_assoc]
  simp [foldL, List.getD, hi]

set_option maxRecDepth 100000 in
set_option maxHeartbeats 400000 in
theorem block_false (hs : List UInt32) (hb N ab : Nat) (s : ByteArray) (t : Nat) (w : World) (hh : hs.length = 8) (hsz : s.size = 64) (ht : t ≤ 140737488351232)
    (hH : Arr w hb 132 (hs.map wv)) (hT : Tabs w N ab) :
    Calls Tryz.prog 88 #[.slice (some ⟨hb, 0, none⟩) 8 8, .slice (some ⟨N + 10, 0, none⟩) 10 10, .slice (some ⟨ab, 0, none⟩) 32 32, .string s, .int .i64 (t : Int), .bool false] w
      fun e w' => ∃ g, e = .returned (.slice (some ⟨g, 0, none⟩) 8 8) ∧ Arr w' g 132 ((foldL hs (wordsL s.data.toList) (UInt32.ofNat t) false).map wv) ∧ Below w.heap.size w w' := by
  have X := fold_xor
  have hmk := make16 w
  obtain ⟨i0, hi, hz0, hz1, hz2⟩ := info_parts infoWord
  have hs64 : (s.size : Int) = 64 := by omega
  go_enter Tryz.func88, Tryz.ntmps88
  go_wp2
  go_loopw [14] (fun v14 wr => ∃ i : Nat, i ≤ 16 ∧ v14 = .int .i64 i ∧ Arr wr w.heap.size 132 (mCells s.data.toList i) ∧ Below w.heap.size w wr) (fun v14 _ => 16 - (intOf v14).toNat)
  case atStart =>
    exact ⟨0, Nat.zero_le _, rfl, Arr.new w 132 (List.replicate 16 (.int .u32 0)), (Below.refl _ w).alloc (Nat.le_refl _) _⟩
  case round =>
    obtain ⟨i, hi16, rfl, hM, hB⟩ := hrel
    by_cases hlt : i < 16
    · have h1 : (i : Int) < 16 := by omega
      have h0 : (0 : Int) ≤ (i : Int) := by omega
      obtain ⟨sub, hsub⟩ : ∃ z, Hid (z = s.extract (4 * i) (4 * i + 4)) := ⟨_, rfl⟩
      have hsx : s.extract (4 * i) (4 * i + 4) = sub := hsub.out.symm
      have hss : sub.size = 4 := by rw [hsub.out, ByteArray.size_extract]; omega
      have f1 := hM.frozen i
      have d1 : wr.cell? ⟨w.heap.size, i, none⟩ = some (.int .u32 0) := hM.cell (by simp [mCells, hlt])
      go_wp2_with fail
      refine (number_any sub wr hss).mono ?_
      rintro e w' ⟨rfl, nq, rfl⟩
      rw [hsub.out, word_sub s i (by omega)]
      go_wp2
      have hM' := (hM.drewN nq).set i (wv (wordAt s.data.toList i))
      rw [← mCells_step] at hM'
      go_roundw
      case rel => exact ⟨i + 1, by omega, by go_num, hM', (below_drewN hB nq).setCell (Nat.le_refl _) _⟩
      case measure => simp [intOf]; omega
    · obtain rfl : i = 16 := by omega
      rw [mCells_all] at hM
      have hH1 := hH.below hB hH.lt
      have hT1 : Tabs wr N ab := hT.below hB hT.all.lt hT.at'.lt
      clear hmk
      have hwr := hB.size
      go_wp2_with (at_builtin; refine wpList_append_lies _ (by rfl) _ _ 140 (by rfl) wr.heap.size 132 i0 (.int .u32 0) 1 4 Tryz.underlying140 hi hz0 hz1 hz2 rfl (by decide) _ 0 [] (by rfl) ?a1 ⟨hb, 0, none⟩ 8 8 (hs.map wv) (by rfl) ?a2 ?a3 ?a4 (by decide) (by decide) (by decide) ?a5 (wr.heap.size + 1) ?a6 ?_)
      case a1 => exact ⟨rfl, .inr ⟨_, 0, #[], rfl, Nat.le_refl _, heap_alloc_new wr _, Nat.le_refl _, by decide, rfl, rfl⟩⟩
      case a2 => simp [hh]
      case a3 =>
        intro j u hj
        rw [Addr.add_mid, Nat.zero_add]
        exact (hH1.alloc _).cell hj
      case a4 =>
        intro u hu
        obtain ⟨x, _, rfl⟩ := List.mem_map.1 hu
        rfl
      case a5 => rw [alloc_size]; omega
      case a6 => rw [alloc_size]
      intro g1 cap1 w6 hown1 hgrow1 hat1 hlt1
      have hB6 : Below wr.heap.size wr w6 := ((Below.refl _ wr).alloc (Nat.le_refl _) _).grown hgrow1 (by rw [alloc_size]; omega) (fun k hk => by cases hk; exact Nat.le_refl _)
      have h6s := hB6.size
      go_wp2_with fail
      refine (firsts_any w6).mono ?_
      rintro e w' ⟨rfl, rfl⟩
      have hB7 : Below wr.heap.size wr (w6.alloc (.cells (firstsL.map wv).toArray 132)) := hB6.alloc h6s _
      go_wp2_with (at_builtin; refine wpList_append_lies _ (by rfl) _ _ 140 (by rfl) wr.heap.size 132 i0 (.int .u32 0) 1 4 Tryz.underlying140 hi hz0 hz1 hz2 rfl (by decide) _ 8 (hs.map wv) (by rfl) ?b1 ⟨w6.heap.size, 0, none⟩ 8 8 (firstsL.map wv) (by rfl) (by rfl) ?b3 ?b4 (by decide) (by decide) (by decide) ?b5 (w6.heap.size + 1) ?b6 ?_)
      case b1 => exact hown1.alloc _
      case b3 =>
        intro j u hj
        rw [Addr.add_mid, Nat.zero_add]
        exact (Arr.new w6 132 (firstsL.map wv)).cell hj
      case b4 =>
        intro u hu
        obtain ⟨x, _, rfl⟩ := List.mem_map.1 hu
        rfl
      case b5 => rw [alloc_size]; omega
      case b6 => rw [alloc_size]
      intro g cap w8 hown hgrow hat2 hlt2
      have hB8 : Below wr.heap.size wr w8 := hB7.grown hgrow (by rw [alloc_size]; omega) (fun k hk => by
        cases hk
        rcases hown1.2 with ⟨h, _⟩ | ⟨g', _, _, h, hge, _⟩
        · cases h
        · cases h; exact hge)
      obtain ⟨sp, hW, hgw, hcap⟩ : ∃ sp, Arr w8 g 132 ((hs ++ firstsL).map wv ++ sp) ∧ wr.heap.size ≤ g ∧ 16 ≤ cap := by
        rcases hown.2 with ⟨h, _⟩ | ⟨g', cap', cur, h, hge, hcur, hc1, _, hc2, hc3⟩
        · cases h
        · cases h
          refine ⟨cur.toList.drop 16, ?_, hge, hc1⟩
          unfold Arr
          rw [hcur]
          have e : cur.toList.take 16 = (hs ++ firstsL).map wv := by simpa using hc3
          rw [← e, List.take_append_drop]
      have hM8 := hM.below hB8 hM.lt
      have hB9 := hB.trans (hB8.mono hwr)
      have hgN : w.heap.size < g := by have := hM.lt; omega
      clear hown1 hgrow1 hat1 hlt1 hB6 h6s hB7 hown hgrow hat2 hlt2 hB8 hM hT1 hH1 hB
      obtain ⟨m, hm⟩ : ∃ z, Hid (z = wordsL s.data.toList) := ⟨_, rfl⟩
      have hml : m.length = 16 := by rw [hm.out]; exact wordsL_len _
      rw [← hm.out] at hM8
      have gne : ¬ (g = w.heap.size) := by omega
      have hl16 : (hs ++ firstsL).length = 16 := by simp [hh, firstsL]
      obtain ⟨x, hx⟩ : ∃ z, Hid (z = (hs ++ firstsL).getD 12 0) := ⟨_, rfl⟩
      have c12 : w8.cell? ⟨g, 12, none⟩ = some (.int .u32 (x.toNat : Int)) := by
        rw [hx.out]; exact hW.cell (spare_get _ sp 12 (by omega))
      have f12 := hW.frozen 12
      obtain ⟨tt, htt⟩ : ∃ z, Hid (z = UInt32.ofNat t) := ⟨_, rfl⟩
      have hte : (t : Int) % 4294967296 = (tt.toNat : Int) := by rw [htt.out, UInt32.toNat_ofNat']; omega
      have hS : Arr (w8.setCell ⟨g, 12, none⟩ (wv (wxor x tt))) g 132 ((startL hs tt false).map wv ++ sp) := by
        have := hW.set 12 (wv (wxor x tt))
        rw [spare_set _ _ _ _ (by omega)] at this
        have e : startL hs tt false = (hs ++ firstsL).set 12 (wxor x tt) := by
          rw [hx.out]; rfl
        rw [e]; exact this
      obtain ⟨s0, hs0⟩ : ∃ z, Hid (z = startL hs tt false) := ⟨_, rfl⟩
      have hsl : s0.length = 16 := by rw [hs0.out]; exact startL_len hs tt false hh
      rw [← hs0.out] at hS
      go_wp2
      go_loopw [16] (fun v16 wr => ∃ i : Nat, i ≤ 10 ∧ v16 = .int .i64 i ∧ Arr wr g 132 ((rounds m s0 i).map wv ++ sp) ∧ Arr wr w.heap.size 132 (m.map wv) ∧ Below w.heap.size w wr) (fun v16 _ => 10 - (intOf v16).toNat)
      case atStart => exact ⟨0, Nat.zero_le _, rfl, hS, hM8.other (Ne.symm gne) _, hB9.setCell (Nat.le_of_lt hgN) _⟩
      case round =>
        clear hS hM8 hB9 hW c12 f12
        obtain ⟨i, hi10, rfl, hW, hM, hB⟩ := hrel
        by_cases hlt : i < 10
        · have h1 : (i : Int) < 10 := by omega
          have h0 : (0 : Int) ≤ (i : Int) := by omega
          have hT2 := hT.below hB hT.all.lt hT.at'.lt
          have cR : wr.cell? ⟨N + 10, i, none⟩ = some (.slice (some ⟨N + i, 0, none⟩) 16 16) := hT2.all.cell (by simp [hlt, rowSlice])
          go_wp2
          go_loopw [18] (fun v18 wr => ∃ k : Nat, k ≤ 8 ∧ v18 = .int .i64 k ∧ Arr wr g 132 ((stirP (rounds m s0 i) m (rowL i) k).map wv ++ sp) ∧ Arr wr w.heap.size 132 (m.map wv) ∧ Below w.heap.size w wr) (fun v18 _ => 8 - (intOf v18).toNat)
          case atStart => exact ⟨0, Nat.zero_le _, rfl, hW, hM, hB⟩
          case round =>
            clear hW hM hB hT2 cR
            obtain ⟨k, hk8, rfl, hW, hM, hB⟩ := hrel
            by_cases hlt2 : k < 8
            · have k1 : (k : Int) < 8 := by omega
              have k0 : (0 : Int) ≤ (k : Int) := by omega
              have hT2 := hT.below hB hT.all.lt hT.at'.lt
              obtain ⟨n1, n2, n3, n4, n5, n6⟩ := places_ne k hlt2
              have pl0 := places_lt (4 * k) (by omega)
              have pl1 := places_lt (4 * k + 1) (by omega)
              have pl2 := places_lt (4 * k + 2) (by omega)
              have pl3 := places_lt (4 * k + 3) (by omega)
              have cp0 : wr.cell? ⟨ab, 4 * k, none⟩ = some (iv (places.getD (4 * k) 0)) := hT2.at'.cell (iv_get _ _ (by simp [places]; omega))
              have cp1 : wr.cell? ⟨ab, 4 * k + 1, none⟩ = some (iv (places.getD (4 * k + 1) 0)) := hT2.at'.cell (iv_get _ _ (by simp [places]; omega))
              have cp2 : wr.cell? ⟨ab, 4 * k + 2, none⟩ = some (iv (places.getD (4 * k + 2) 0)) := hT2.at'.cell (iv_get _ _ (by simp [places]; omega))
              have cp3 : wr.cell? ⟨ab, 4 * k + 3, none⟩ = some (iv (places.getD (4 * k + 3) 0)) := hT2.at'.cell (iv_get _ _ (by simp [places]; omega))
              have cr0 : wr.cell? ⟨N + i, 2 * k, none⟩ = some (iv ((rowL i).getD (2 * k) 0)) := (hT2.rows i hlt).cell (iv_get _ _ (by rw [rowL_len i hlt]; omega))
              have cr1 : wr.cell? ⟨N + i, 2 * k + 1, none⟩ = some (iv ((rowL i).getD (2 * k + 1) 0)) := (hT2.rows i hlt).cell (iv_get _ _ (by rw [rowL_len i hlt]; omega))
              have rl0 := row_get i hlt (2 * k) (by omega)
              have rl1 := row_get i hlt (2 * k + 1) (by omega)
              obtain ⟨ws, hws⟩ : ∃ z, Hid (z = stirP (rounds m s0 i) m (rowL i) k) := ⟨_, rfl⟩
              have hwl : ws.length = 16 := by rw [hws.out, stirP_len, rounds_len]; exact hsl
              rw [← hws.out] at hW
              have hnext : Hid (stirP (rounds m s0 i) m (rowL i) (k + 1) = stepQ ws (places.getD (4 * k) 0) (places.getD (4 * k + 1) 0) (places.getD (4 * k + 2) 0) (places.getD (4 * k + 3) 0) (m.getD ((rowL i).getD (2 * k) 0) 0) (m.getD ((rowL i).getD (2 * k + 1) 0) 0)) := by
                show _ = _
                rw [stirP, ← hws.out]
              generalize places.getD (4 * k) 0 = p at *
              generalize places.getD (4 * k + 1) 0 = q at *
              generalize places.getD (4 * k + 2) 0 = u at *
              generalize places.getD (4 * k + 3) 0 = v at *
              generalize (rowL i).getD (2 * k) 0 = r0 at *
              generalize (rowL i).getD (2 * k + 1) 0 = r1 at *
              unfold iv at cp0 cp1 cp2 cp3 cr0 cr1
              obtain ⟨x0, hx0⟩ : ∃ z, Hid (z = m.getD r0 0) := ⟨_, rfl⟩
              obtain ⟨x1, hx1⟩ : ∃ z, Hid (z = m.getD r1 0) := ⟨_, rfl⟩
              obtain ⟨wp, hwp⟩ : ∃ z, Hid (z = ws.getD p 0) := ⟨_, rfl⟩
              obtain ⟨wq, hwq⟩ : ∃ z, Hid (z = ws.getD q 0) := ⟨_, rfl⟩
              obtain ⟨wu, hwu⟩ : ∃ z, Hid (z = ws.getD u 0) := ⟨_, rfl⟩
              obtain ⟨wv', hwv⟩ : ∃ z, Hid (z = ws.getD v 0) := ⟨_, rfl⟩
              have cm0 : wr.cell? ⟨w.heap.size, r0, none⟩ = some (.int .u32 (x0.toNat : Int)) := by rw [hx0.out]; exact hM.cell (getD_get m r0 (by omega))
              have cm1 : wr.cell? ⟨w.heap.size, r1, none⟩ = some (.int .u32 (x1.toNat : Int)) := by rw [hx1.out]; exact hM.cell (getD_get m r1 (by omega))
              have cwp : wr.cell? ⟨g, p, none⟩ = some (.int .u32 (wp.toNat : Int)) := by rw [hwp.out]; exact hW.cell (spare_get ws sp p (by omega))
              have cwq : wr.cell? ⟨g, q, none⟩ = some (.int .u32 (wq.toNat : Int)) := by rw [hwq.out]; exact hW.cell (spare_get ws sp q (by omega))
              have cwu : wr.cell? ⟨g, u, none⟩ = some (.int .u32 (wu.toNat : Int)) := by rw [hwu.out]; exact hW.cell (spare_get ws sp u (by omega))
              have cwv : wr.cell? ⟨g, v, none⟩ = some (.int .u32 (wv'.toNat : Int)) := by rw [hwv.out]; exact hW.cell (spare_get ws sp v (by omega))
              have fp := hW.frozen p
              have fq := hW.frozen q
              have fu := hW.frozen u
              have fv := hW.frozen v
              have i1 : (p : Int) < 16 := by omega
              have i2 : (q : Int) < 16 := by omega
              have i3 : (u : Int) < 16 := by omega
              have i4 : (v : Int) < 16 := by omega
              have i5 : (r0 : Int) < 16 := by omega
              have i6 : (r1 : Int) < 16 := by omega
              obtain ⟨z, hz⟩ : ∃ z, Hid (z = quad wp wq wu wv' x0 x1) := ⟨_, rfl⟩
              have cb : ∀ W : World, Calls Tryz.prog 106 #[.int .u32 (wp.toNat : Int), .int .u32 (wq.toNat : Int), .int .u32 (wu.toNat : Int), .int .u32 (wv'.toNat : Int), .int .u32 (x0.toNat : Int), .int .u32 (x1.toNat : Int)] W fun e w' => e = .returned (.tuple #[.int .u32 (z.a.toNat : Int), .int .u32 (z.b.toNat : Int), .int .u32 (z.c.toNat : Int), .int .u32 (z.d.toNat : Int)]) ∧ ∃ m, w' = W.drewN m := fun W => by
                rw [hz.out]; exact mixed_any _ _ _ _ _ _ W
              replace hnext : Hid _ := hnext
              have m1 : ¬ (p = q) := n1
              have m2 : ¬ (p = u) := n2
              have m3 : ¬ (p = v) := n3
              have m4 : ¬ (q = u) := n4
              have m5 : ¬ (q = v) := n5
              have m6 : ¬ (u = v) := n6
              clear hT2
              go_wp2
              go_big_quiet (fail)
              go_wp2
              clear cp0 cp1 cp2 cp3
              replace cwp : (wr.drewN nq).cell? ⟨g, p, none⟩ = _ := cwp
              replace cwq : (wr.drewN nq).cell? ⟨g, q, none⟩ = _ := cwq
              replace cwu : (wr.drewN nq).cell? ⟨g, u, none⟩ = _ := cwu
              replace cwv : (wr.drewN nq).cell? ⟨g, v, none⟩ = _ := cwv
              replace cm0 : (wr.drewN nq).cell? ⟨w.heap.size, r0, none⟩ = _ := cm0
              replace cm1 : (wr.drewN nq).cell? ⟨w.heap.size, r1, none⟩ = _ := cm1
              replace cr0 : (wr.drewN nq).cell? ⟨N + i, 2 * k, none⟩ = _ := cr0
              replace cr1 : (wr.drewN nq).cell? ⟨N + i, 2 * k + 1, none⟩ = _ := cr1
              replace fp : (wr.drewN nq).frozen? ⟨g, p, none⟩ = _ := fp
              replace fq : (wr.drewN nq).frozen? ⟨g, q, none⟩ = _ := fq
              replace fu : (wr.drewN nq).frozen? ⟨g, u, none⟩ = _ := fu
              replace fv : (wr.drewN nq).frozen? ⟨g, v, none⟩ = _ := fv
              replace hW := hW.drewN nq
              replace hM := hM.drewN nq
              replace hB := below_drewN hB nq
              generalize wr.drewN nq = wy at *
              go_big_quiet (exact Calls.quiet_of (cb _))
              clear cb
              go_wp2
              have hW' := ((((hW.drewN nq).set p (wv z.a)).set q (wv z.b)).set u (wv z.c)).set v (wv z.d)
              rw [spare_set _ _ _ _ (by omega), spare_set _ _ _ _ (by simp; omega), spare_set _ _ _ _ (by simp; omega), spare_set _ _ _ _ (by simp; omega)] at hW'
              have hst : (((ws.set p z.a).set q z.b).set u z.c).set v z.d = stirP (rounds m s0 i) m (rowL i) (k + 1) := by
                rw [hnext.out, hz.out, hwp.out, hwq.out, hwu.out, hwv.out, hx0.out, hx1.out]
                rfl
              rw [hst] at hW'
              exact ⟨⟨k + 1, by omega, by simp, hW', ((((hM.drewN nq).other (Ne.symm gne) _).other (Ne.symm gne) _).other (Ne.symm gne) _).other (Ne.symm gne) _, ((((below_drewN hB nq).setCell (Nat.le_of_lt hgN) _).setCell (Nat.le_of_lt hgN) _).setCell (Nat.le_of_lt hgN) _).setCell (Nat.le_of_lt hgN) _⟩, by simp [intOf]; omega⟩
            · obtain rfl : k = 8 := by omega
              rw [stirP_all] at hW
              go_wp2
              exact ⟨⟨i + 1, by omega, by simp, hW, hM, hB⟩, by simp [intOf]; omega⟩
        · obtain rfl : i = 10 := by omega
          obtain ⟨s1, hs1⟩ : ∃ z, Hid (z = rounds m s0 10) := ⟨_, rfl⟩
          have hsl1 : s1.length = 16 := by rw [hs1.out, rounds_len]; exact hsl
          rw [← hs1.out] at hW
          have hmk8 := make8 wr
          obtain ⟨G, hG⟩ : ∃ z, z = wr.heap.size := ⟨_, rfl⟩
          have hgG : g < G := by rw [hG]; exact hW.lt
          obtain ⟨fl, hfl⟩ : ∃ z, Hid (z = foldL hs (wordsL s.data.toList) (UInt32.ofNat t) false) := ⟨_, rfl⟩
          have hfll : fl.length = 8 := by rw [hfl.out]; exact foldL_len _ _ _ _
          have hO : Arr (wr.alloc (.cells (List.replicate 8 (Value.int .u32 0)).toArray 132)) G 132 (foldCells fl 0) := by
            rw [hG]; exact Arr.new wr 132 _
          have hW1 := hW.alloc (.cells (List.replicate 8 (Value.int .u32 0)).toArray 132)
          have hB1 := hB.alloc (hB.size) (.cells (List.replicate 8 (Value.int .u32 0)).toArray 132)
          rw [← hG] at hmk8
          have hGw : w.heap.size ≤ G := by rw [hG]; exact hB.size
          clear hG
          go_wp2
          go_loopw [28] (fun v28 wr => ∃ i : Nat, i ≤ 8 ∧ v28 = .int .i64 i ∧ Arr wr G 132 (foldCells fl i) ∧ Arr wr g 132 (s1.map wv ++ sp) ∧ Below w.heap.size w wr) (fun v28 _ => 8 - (intOf v28).toNat)
          case atStart => exact ⟨0, Nat.zero_le _, rfl, hO, hW1, hB1⟩
          case round =>
            clear hO hW1 hB1 hW hM hB hmk8
            obtain ⟨i, hi8, rfl, hO, hW, hB⟩ := hrel
            by_cases hlt : i < 8
            · have h1 : (i : Int) < 8 := by omega
              have h0 : (0 : Int) ≤ (i : Int) := by omega
              have hH1 := hH.below hB hH.lt
              obtain ⟨a, ha⟩ : ∃ z, Hid (z = hs.getD i 0) := ⟨_, rfl⟩
              obtain ⟨b, hb'⟩ : ∃ z, Hid (z = s1.getD i 0) := ⟨_, rfl⟩
              obtain ⟨c, hc⟩ : ∃ z, Hid (z = s1.getD (i + 8) 0) := ⟨_, rfl⟩
              have c1 : wr.cell? ⟨hb, i, none⟩ = some (.int .u32 (a.toNat : Int)) := by
                rw [ha.out]; exact hH1.cell (getD_get hs i (by omega))
              have c2 : wr.cell? ⟨g, i, none⟩ = some (.int .u32 (b.toNat : Int)) := by
                rw [hb'.out]; exact hW.cell (spare_get s1 sp i (by omega))
              have c3 : wr.cell? ⟨g, i + 8, none⟩ = some (.int .u32 (c.toNat : Int)) := by
                rw [hc.out]; exact hW.cell (spare_get s1 sp (i + 8) (by omega))
              have c4 : wr.cell? ⟨G, i, none⟩ = some (.int .u32 0) := hO.cell (by simp [foldCells, hlt])
              have f1 := hO.frozen i
              go_wp2
              go_region
              go_wp2
              have hO' := (hO.set i (wv (wxor (wxor a b) c))).drew
              have hval : wxor (wxor a b) c = fl.getD i 0 := by
                rw [hfl.out, foldL_get _ _ _ _ _ hlt, ha.out, hb'.out, hc.out, hs1.out, hs0.out, hm.out, htt.out]
              rw [hval, ← foldCells_step] at hO'
              rw [show Value.int IntKind.u32 ((wxor (wxor a b) c).toNat : Int) = wv (fl.getD i 0) from by rw [← hval]; rfl]
              exact ⟨⟨i + 1, by omega, by simp, hO', (hW.other (show g ≠ G by omega) _).drew, (hB.setCell hGw _).drew⟩, by simp [intOf]; omega⟩
            · obtain rfl : i = 8 := by omega
              rw [foldCells_all fl hfll, hfl.out] at hO
              go_wp2
              go_ret
              exact ⟨G, rfl, hO, hB⟩

set_option maxRecDepth 100000 in
set_option maxHeartbeats 400000 in
theorem block_true (hs : List UInt32) (hb N ab : Nat) (s : ByteArray) (t : Nat) (w : World) (hh : hs.length = 8) (hsz : s.size = 64) (ht : t ≤ 140737488351232)
    (hH : Arr w hb 132 (hs.map wv)) (hT : Tabs w N ab) :
    Calls Tryz.prog 88 #[.slice (some ⟨hb, 0, none⟩) 8 8, .slice (some ⟨N + 10, 0, none⟩) 10 10, .slice (some ⟨ab, 0, none⟩) 32 32, .string s, .int .i64 (t : Int), .bool true] w
      fun e w' => ∃ g, e = .returned (.slice (some ⟨g, 0, none⟩) 8 8) ∧ Arr w' g 132 ((foldL hs (wordsL s.data.toList) (UInt32.ofNat t) true).map wv) ∧ Below w.heap.size w w' := by
  have X := fold_xor
  have hmk := make16 w
  obtain ⟨i0, hi, hz0, hz1, hz2⟩ := info_parts infoWord
  have hs64 : (s.size : Int) = 64 := by omega
  go_enter Tryz.func88, Tryz.ntmps88
  go_wp2
  go_loopw [14] (fun v14 wr => ∃ i : Nat, i ≤ 16 ∧ v14 = .int .i64 i ∧ Arr wr w.heap.size 132 (mCells s.data.toList i) ∧ Below w.heap.size w wr) (fun v14 _ => 16 - (intOf v14).toNat)
  case atStart =>
    exact ⟨0, Nat.zero_le _, rfl, Arr.new w 132 (List.replicate 16 (.int .u32 0)), (Below.refl _ w).alloc (Nat.le_refl _) _⟩
  case round =>
    obtain ⟨i, hi16, rfl, hM, hB⟩ := hrel
    by_cases hlt : i < 16
    · have h1 : (i : Int) < 16 := by omega
      have h0 : (0 : Int) ≤ (i : Int) := by omega
      obtain ⟨sub, hsub⟩ : ∃ z, Hid (z = s.extract (4 * i) (4 * i + 4)) := ⟨_, rfl⟩
      have hsx : s.extract (4 * i) (4 * i + 4) = sub := hsub.out.symm
      have hss : sub.size = 4 := by rw [hsub.out, ByteArray.size_extract]; omega
      have f1 := hM.frozen i
      have d1 : wr.cell? ⟨w.heap.size, i, none⟩ = some (.int .u32 0) := hM.cell (by simp [mCells, hlt])
      go_wp2_with fail
      refine (number_any sub wr hss).mono ?_
      rintro e w' ⟨rfl, nq, rfl⟩
      rw [hsub.out, word_sub s i (by omega)]
      go_wp2
      have hM' := (hM.drewN nq).set i (wv (wordAt s.data.toList i))
      rw [← mCells_step] at hM'
      go_roundw
      case rel => exact ⟨i + 1, by omega, by go_num, hM', (below_drewN hB nq).setCell (Nat.le_refl _) _⟩
      case measure => simp [intOf]; omega
    · obtain rfl : i = 16 := by omega
      rw [mCells_all] at hM
      have hH1 := hH.below hB hH.lt
      have hT1 : Tabs wr N ab := hT.below hB hT.all.lt hT.at'.lt
      clear hmk
      have hwr := hB.size
      go_wp2_with (at_builtin; refine wpList_append_lies _ (by rfl) _ _ 140 (by rfl) wr.heap.size 132 i0 (.int .u32 0) 1 4 Tryz.underlying140 hi hz0 hz1 hz2 rfl (by decide) _ 0 [] (by rfl) ?a1 ⟨hb, 0, none⟩ 8 8 (hs.map wv) (by rfl) ?a2 ?a3 ?a4 (by decide) (by decide) (by decide) ?a5 (wr.heap.size + 1) ?a6 ?_)
      case a1 => exact ⟨rfl, .inr ⟨_, 0, #[], rfl, Nat.le_refl _, heap_alloc_new wr _, Nat.le_refl _, by decide, rfl, rfl⟩⟩
      case a2 => simp [hh]
      case a3 =>
        intro j u hj
        rw [Addr.add_mid, Nat.zero_add]
        exact (hH1.alloc _).cell hj
      case a4 =>
        intro u hu
        obtain ⟨x, _, rfl⟩ := List.mem_map.1 hu
        rfl
      case a5 => rw [alloc_size]; omega
      case a6 => rw [alloc_size]
      intro g1 cap1 w6 hown1 hgrow1 hat1 hlt1
      have hB6 : Below wr.heap.size wr w6 := ((Below.refl _ wr).alloc (Nat.le_refl _) _).grown hgrow1 (by rw [alloc_size]; omega) (fun k hk => by cases hk; exact Nat.le_refl _)
      have h6s := hB6.size
      go_wp2_with fail
      refine (firsts_any w6).mono ?_
      rintro e w' ⟨rfl, rfl⟩
      have hB7 : Below wr.heap.size wr (w6.alloc (.cells (firstsL.map wv).toArray 132)) := hB6.alloc h6s _
      go_wp2_with (at_builtin; refine wpList_append_lies _ (by rfl) _ _ 140 (by rfl) wr.heap.size 132 i0 (.int .u32 0) 1 4 Tryz.underlying140 hi hz0 hz1 hz2 rfl (by decide) _ 8 (hs.map wv) (by rfl) ?b1 ⟨w6.heap.size, 0, none⟩ 8 8 (firstsL.map wv) (by rfl) (by rfl) ?b3 ?b4 (by decide) (by decide) (by decide) ?b5 (w6.heap.size + 1) ?b6 ?_)
      case b1 => exact hown1.alloc _
      case b3 =>
        intro j u hj
        rw [Addr.add_mid, Nat.zero_add]
        exact (Arr.new w6 132 (firstsL.map wv)).cell hj
      case b4 =>
        intro u hu
        obtain ⟨x, _, rfl⟩ := List.mem_map.1 hu
        rfl
      case b5 => rw [alloc_size]; omega
      case b6 => rw [alloc_size]
      intro g cap w8 hown hgrow hat2 hlt2
      have hB8 : Below wr.heap.size wr w8 := hB7.grown hgrow (by rw [alloc_size]; omega) (fun k hk => by
        cases hk
        rcases hown1.2 with ⟨h, _⟩ | ⟨g', _, _, h, hge, _⟩
        · cases h
        · cases h; exact hge)
      obtain ⟨sp, hW, hgw, hcap⟩ : ∃ sp, Arr w8 g 132 ((hs ++ firstsL).map wv ++ sp) ∧ wr.heap.size ≤ g ∧ 16 ≤ cap := by
        rcases hown.2 with ⟨h, _⟩ | ⟨g', cap', cur, h, hge, hcur, hc1, _, hc2, hc3⟩
        · cases h
        · cases h
          refine ⟨cur.toList.drop 16, ?_, hge, hc1⟩
          unfold Arr
          rw [hcur]
          have e : cur.toList.take 16 = (hs ++ firstsL).map wv := by simpa using hc3
          rw [← e, List.take_append_drop]
      have hM8 := hM.below hB8 hM.lt
      have hB9 := hB.trans (hB8.mono hwr)
      have hgN : w.heap.size < g := by have := hM.lt; omega
      clear hown1 hgrow1 hat1 hlt1 hB6 h6s hB7 hown hgrow hat2 hlt2 hB8 hM hT1 hH1 hB
      obtain ⟨m, hm⟩ : ∃ z, Hid (z = wordsL s.data.toList) := ⟨_, rfl⟩
      have hml : m.length = 16 := by rw [hm.out]; exact wordsL_len _
      rw [← hm.out] at hM8
      have gne : ¬ (g = w.heap.size) := by omega
      have hl16 : (hs ++ firstsL).length = 16 := by simp [hh, firstsL]
      obtain ⟨x, hx⟩ : ∃ z, Hid (z = (hs ++ firstsL).getD 12 0) := ⟨_, rfl⟩
      have c12 : w8.cell? ⟨g, 12, none⟩ = some (.int .u32 (x.toNat : Int)) := by
        rw [hx.out]; exact hW.cell (spare_get _ sp 12 (by omega))
      have f12 := hW.frozen 12
      obtain ⟨tt, htt⟩ : ∃ z, Hid (z = UInt32.ofNat t) := ⟨_, rfl⟩
      have hte : (t : Int) % 4294967296 = (tt.toNat : Int) := by rw [htt.out, UInt32.toNat_ofNat']; omega
      obtain ⟨y, hy⟩ : ∃ z, Hid (z = (hs ++ firstsL).getD 14 0) := ⟨_, rfl⟩
      have c14 : w8.cell? ⟨g, 14, none⟩ = some (.int .u32 (y.toNat : Int)) := by
        rw [hy.out]; exact hW.cell (spare_get _ sp 14 (by omega))
      have f14 := hW.frozen 14
      have hnot : bits BinOp.xor IntKind.u32 (y.toNat : Int) 4294967295 = ((wxor y 4294967295).toNat : Int) := fold_xor y 4294967295
      have hS : Arr ((w8.setCell ⟨g, 12, none⟩ (wv (wxor x tt))).setCell ⟨g, 14, none⟩ (wv (wxor y 4294967295))) g 132 ((startL hs tt true).map wv ++ sp) := by
        have := (hW.set 12 (wv (wxor x tt))).set 14 (wv (wxor y 4294967295))
        rw [spare_set _ _ _ _ (by omega), spare_set _ _ _ _ (by rw [List.length_set]; omega)] at this
        have e : startL hs tt true = ((hs ++ firstsL).set 12 (wxor x tt)).set 14 (wxor y 4294967295) := by
          rw [hx.out, hy.out]
          match hs, hh with
          | [_, _, _, _, _, _, _, _], _ => rfl
        rw [e]; exact this
      obtain ⟨s0, hs0⟩ : ∃ z, Hid (z = startL hs tt true) := ⟨_, rfl⟩
      have hsl : s0.length = 16 := by rw [hs0.out]; exact startL_len hs tt true hh
      rw [← hs0.out] at hS
      go_wp2
      go_loopw [16] (fun v16 wr => ∃ i : Nat, i ≤ 10 ∧ v16 = .int .i64 i ∧ Arr wr g 132 ((rounds m s0 i).map wv ++ sp) ∧ Arr wr w.heap.size 132 (m.map wv) ∧ Below w.heap.size w wr) (fun v16 _ => 10 - (intOf v16).toNat)
      case atStart => exact ⟨0, Nat.zero_le _, rfl, hS, (hM8.other (Ne.symm gne) _).other (Ne.symm gne) _, (hB9.setCell (Nat.le_of_lt hgN) _).setCell (Nat.le_of_lt hgN) _⟩
      case round =>
        clear hS hM8 hB9 hW c12 f12 c14 f14 hnot hy
        obtain ⟨i, hi10, rfl, hW, hM, hB⟩ := hrel
        by_cases hlt : i < 10
        · have h1 : (i : Int) < 10 := by omega
          have h0 : (0 : Int) ≤ (i : Int) := by omega
          have hT2 := hT.below hB hT.all.lt hT.at'.lt
          have cR : wr.cell? ⟨N + 10, i, none⟩ = some (.slice (some ⟨N + i, 0, none⟩) 16 16) := hT2.all.cell (by simp [hlt, rowSlice])
          go_wp2
          go_loopw [18] (fun v18 wr => ∃ k : Nat, k ≤ 8 ∧ v18 = .int .i64 k ∧ Arr wr g 132 ((stirP (rounds m s0 i) m (rowL i) k).map wv ++ sp) ∧ Arr wr w.heap.size 132 (m.map wv) ∧ Below w.heap.size w wr) (fun v18 _ => 8 - (intOf v18).toNat)
          case atStart => exact ⟨0, Nat.zero_le _, rfl, hW, hM, hB⟩
          case round =>
            clear hW hM hB hT2 cR
            obtain ⟨k, hk8, rfl, hW, hM, hB⟩ := hrel
            by_cases hlt2 : k < 8
            · have k1 : (k : Int) < 8 := by omega
              have k0 : (0 : Int) ≤ (k : Int) := by omega
              have hT2 := hT.below hB hT.all.lt hT.at'.lt
              obtain ⟨n1, n2, n3, n4, n5, n6⟩ := places_ne k hlt2
              have pl0 := places_lt (4 * k) (by omega)
              have pl1 := places_lt (4 * k + 1) (by omega)
              have pl2 := places_lt (4 * k + 2) (by omega)
              have pl3 := places_lt (4 * k + 3) (by omega)
              have cp0 : wr.cell? ⟨ab, 4 * k, none⟩ = some (iv (places.getD (4 * k) 0)) := hT2.at'.cell (iv_get _ _ (by simp [places]; omega))
              have cp1 : wr.cell? ⟨ab, 4 * k + 1, none⟩ = some (iv (places.getD (4 * k + 1) 0)) := hT2.at'.cell (iv_get _ _ (by simp [places]; omega))
              have cp2 : wr.cell? ⟨ab, 4 * k + 2, none⟩ = some (iv (places.getD (4 * k + 2) 0)) := hT2.at'.cell (iv_get _ _ (by simp [places]; omega))
              have cp3 : wr.cell? ⟨ab, 4 * k + 3, none⟩ = some (iv (places.getD (4 * k + 3) 0)) := hT2.at'.cell (iv_get _ _ (by simp [places]; omega))
              have cr0 : wr.cell? ⟨N + i, 2 * k, none⟩ = some (iv ((rowL i).getD (2 * k) 0)) := (hT2.rows i hlt).cell (iv_get _ _ (by rw [rowL_len i hlt]; omega))
              have cr1 : wr.cell? ⟨N + i, 2 * k + 1, none⟩ = some (iv ((rowL i).getD (2 * k + 1) 0)) := (hT2.rows i hlt).cell (iv_get _ _ (by rw [rowL_len i hlt]; omega))
              have rl0 := row_get i hlt (2 * k) (by omega)
              have rl1 := row_get i hlt (2 * k + 1) (by omega)
              obtain ⟨ws, hws⟩ : ∃ z, Hid (z = stirP (rounds m s0 i) m (rowL i) k) := ⟨_, rfl⟩
              have hwl : ws.length = 16 := by rw [hws.out, stirP_len, rounds_len]; exact hsl
              rw [← hws.out] at hW
              have hnext : Hid (stirP (rounds m s0 i) m (rowL i) (k + 1) = stepQ ws (places.getD (4 * k) 0) (places.getD (4 * k + 1) 0) (places.getD (4 * k + 2) 0) (places.getD (4 * k + 3) 0) (m.getD ((rowL i).getD (2 * k) 0) 0) (m.getD ((rowL i).getD (2 * k + 1) 0) 0)) := by
                show _ = _
                rw [stirP, ← hws.out]
              generalize places.getD (4 * k) 0 = p at *
              generalize places.getD (4 * k + 1) 0 = q at *
              generalize places.getD (4 * k + 2) 0 = u at *
              generalize places.getD (4 * k + 3) 0 = v at *
              generalize (rowL i).getD (2 * k) 0 = r0 at *
              generalize (rowL i).getD (2 * k + 1) 0 = r1 at *
              unfold iv at cp0 cp1 cp2 cp3 cr0 cr1
              obtain ⟨x0, hx0⟩ : ∃ z, Hid (z = m.getD r0 0) := ⟨_, rfl⟩
              obtain ⟨x1, hx1⟩ : ∃ z, Hid (z = m.getD r1 0) := ⟨_, rfl⟩
              obtain ⟨wp, hwp⟩ : ∃ z, Hid (z = ws.getD p 0) := ⟨_, rfl⟩
              obtain ⟨wq, hwq⟩ : ∃ z, Hid (z = ws.getD q 0) := ⟨_, rfl⟩
              obtain ⟨wu, hwu⟩ : ∃ z, Hid (z = ws.getD u 0) := ⟨_, rfl⟩
              obtain ⟨wv', hwv⟩ : ∃ z, Hid (z = ws.getD v 0) := ⟨_, rfl⟩
              have cm0 : wr.cell? ⟨w.heap.size, r0, none⟩ = some (.int .u32 (x0.toNat : Int)) := by rw [hx0.out]; exact hM.cell (getD_get m r0 (by omega))
              have cm1 : wr.cell? ⟨w.heap.size, r1, none⟩ = some (.int .u32 (x1.toNat : Int)) := by rw [hx1.out]; exact hM.cell (getD_get m r1 (by omega))
              have cwp : wr.cell? ⟨g, p, none⟩ = some (.int .u32 (wp.toNat : Int)) := by rw [hwp.out]; exact hW.cell (spare_get ws sp p (by omega))
              have cwq : wr.cell? ⟨g, q, none⟩ = some (.int .u32 (wq.toNat : Int)) := by rw [hwq.out]; exact hW.cell (spare_get ws sp q (by omega))
              have cwu : wr.cell? ⟨g, u, none⟩ = some (.int .u32 (wu.toNat : Int)) := by rw [hwu.out]; exact hW.cell (spare_get ws sp u (by omega))
              have cwv : wr.cell? ⟨g, v, none⟩ = some (.int .u32 (wv'.toNat : Int)) := by rw [hwv.out]; exact hW.cell (spare_get ws sp v (by omega))
              have fp := hW.frozen p
              have fq := hW.frozen q
              have fu := hW.frozen u
              have fv := hW.frozen v
              have i1 : (p : Int) < 16 := by omega
              have i2 : (q : Int) < 16 := by omega
              have i3 : (u : Int) < 16 := by omega
              have i4 : (v : Int) < 16 := by omega
              have i5 : (r0 : Int) < 16 := by omega
              have i6 : (r1 : Int) < 16 := by omega
              obtain ⟨z, hz⟩ : ∃ z, Hid (z = quad wp wq wu wv' x0 x1) := ⟨_, rfl⟩
              have cb : ∀ W : World, Calls Tryz.prog 106 #[.int .u32 (wp.toNat : Int), .int .u32 (wq.toNat : Int), .int .u32 (wu.toNat : Int), .int .u32 (wv'.toNat : Int), .int .u32 (x0.toNat : Int), .int .u32 (x1.toNat : Int)] W fun e w' => e = .returned (.tuple #[.int .u32 (z.a.toNat : Int), .int .u32 (z.b.toNat : Int), .int .u32 (z.c.toNat : Int), .int .u32 (z.d.toNat : Int)]) ∧ ∃ m, w' = W.drewN m := fun W => by
                rw [hz.out]; exact mixed_any _ _ _ _ _ _ W
              replace hnext : Hid _ := hnext
              have m1 : ¬ (p = q) := n1
              have m2 : ¬ (p = u) := n2
              have m3 : ¬ (p = v) := n3
              have m4 : ¬ (q = u) := n4
              have m5 : ¬ (q = v) := n5
              have m6 : ¬ (u = v) := n6
              clear hT2
              go_wp2
              go_big_quiet (fail)
              go_wp2
              clear cp0 cp1 cp2 cp3
              replace cwp : (wr.drewN nq).cell? ⟨g, p, none⟩ = _ := cwp
              replace cwq : (wr.drewN nq).cell? ⟨g, q, none⟩ = _ := cwq
              replace cwu : (wr.drewN nq).cell? ⟨g, u, none⟩ = _ := cwu
              replace cwv : (wr.drewN nq).cell? ⟨g, v, none⟩ = _ := cwv
              replace cm0 : (wr.drewN nq).cell? ⟨w.heap.size, r0, none⟩ = _ := cm0
              replace cm1 : (wr.drewN nq).cell? ⟨w.heap.size, r1, none⟩ = _ := cm1
              replace cr0 : (wr.drewN nq).cell? ⟨N + i, 2 * k, none⟩ = _ := cr0
              replace cr1 : (wr.drewN nq).cell? ⟨N + i, 2 * k + 1, none⟩ = _ := cr1
              replace fp : (wr.drewN nq).frozen? ⟨g, p, none⟩ = _ := fp
              replace fq : (wr.drewN nq).frozen? ⟨g, q, none⟩ = _ := fq
              replace fu : (wr.drewN nq).frozen? ⟨g, u, none⟩ = _ := fu
              replace fv : (wr.drewN nq).frozen? ⟨g, v, none⟩ = _ := fv
              replace hW := hW.drewN nq
              replace hM := hM.drewN nq
              replace hB := below_drewN hB nq
              generalize wr.drewN nq = wy at *
              go_big_quiet (exact Calls.quiet_of (cb _))
              clear cb
              go_wp2
              have hW' := ((((hW.drewN nq).set p (wv z.a)).set q (wv z.b)).set u (wv z.c)).set v (wv z.d)
              rw [spare_set _ _ _ _ (by omega), spare_set _ _ _ _ (by simp; omega), spare_set _ _ _ _ (by simp; omega), spare_set _ _ _ _ (by simp; omega)] at hW'
              have hst : (((ws.set p z.a).set q z.b).set u z.c).set v z.d = stirP (rounds m s0 i) m (rowL i) (k + 1) := by
                rw [hnext.out, hz.out, hwp.out, hwq.out, hwu.out, hwv.out, hx0.out, hx1.out]
                rfl
              rw [hst] at hW'
              exact ⟨⟨k + 1, by omega, by simp, hW', ((((hM.drewN nq).other (Ne.symm gne) _).other (Ne.symm gne) _).other (Ne.symm gne) _).other (Ne.symm gne) _, ((((below_drewN hB nq).setCell (Nat.le_of_lt hgN) _).setCell (Nat.le_of_lt hgN) _).setCell (Nat.le_of_lt hgN) _).setCell (Nat.le_of_lt hgN) _⟩, by simp [intOf]; omega⟩
            · obtain rfl : k = 8 := by omega
              rw [stirP_all] at hW
              go_wp2
              exact ⟨⟨i + 1, by omega, by simp, hW, hM, hB⟩, by simp [intOf]; omega⟩
        · obtain rfl : i = 10 := by omega
          obtain ⟨s1, hs1⟩ : ∃ z, Hid (z = rounds m s0 10) := ⟨_, rfl⟩
          have hsl1 : s1.length = 16 := by rw [hs1.out, rounds_len]; exact hsl
          rw [← hs1.out] at hW
          have hmk8 := make8 wr
          obtain ⟨G, hG⟩ : ∃ z, z = wr.heap.size := ⟨_, rfl⟩
          have hgG : g < G := by rw [hG]; exact hW.lt
          obtain ⟨fl, hfl⟩ : ∃ z, Hid (z = foldL hs (wordsL s.data.toList) (UInt32.ofNat t) true) := ⟨_, rfl⟩
          have hfll : fl.length = 8 := by rw [hfl.out]; exact foldL_len _ _ _ _
          have hO : Arr (wr.alloc (.cells (List.replicate 8 (Value.int .u32 0)).toArray 132)) G 132 (foldCells fl 0) := by
            rw [hG]; exact Arr.new wr 132 _
          have hW1 := hW.alloc (.cells (List.replicate 8 (Value.int .u32 0)).toArray 132)
          have hB1 := hB.alloc (hB.size) (.cells (List.replicate 8 (Value.int .u32 0)).toArray 132)
          rw [← hG] at hmk8
          have hGw : w.heap.size ≤ G := by rw [hG]; exact hB.size
          clear hG
          go_wp2
          go_loopw [28] (fun v28 wr => ∃ i : Nat, i ≤ 8 ∧ v28 = .int .i64 i ∧ Arr wr G 132 (foldCells fl i) ∧ Arr wr g 132 (s1.map wv ++ sp) ∧ Below w.heap.size w wr) (fun v28 _ => 8 - (intOf v28).toNat)
          case atStart => exact ⟨0, Nat.zero_le _, rfl, hO, hW1, hB1⟩
          case round =>
            clear hO hW1 hB1 hW hM hB hmk8
            obtain ⟨i, hi8, rfl, hO, hW, hB⟩ := hrel
            by_cases hlt : i < 8
            · have h1 : (i : Int) < 8 := by omega
              have h0 : (0 : Int) ≤ (i : Int) := by omega
              have hH1 := hH.below hB hH.lt
              obtain ⟨a, ha⟩ : ∃ z, Hid (z = hs.getD i 0) := ⟨_, rfl⟩
              obtain ⟨b, hb'⟩ : ∃ z, Hid (z = s1.getD i 0) := ⟨_, rfl⟩
              obtain ⟨c, hc⟩ : ∃ z, Hid (z = s1.getD (i + 8) 0) := ⟨_, rfl⟩
              have c1 : wr.cell? ⟨hb, i, none⟩ = some (.int .u32 (a.toNat : Int)) := by
                rw [ha.out]; exact hH1.cell (getD_get hs i (by omega))
              have c2 : wr.cell? ⟨g, i, none⟩ = some (.int .u32 (b.toNat : Int)) := by
                rw [hb'.out]; exact hW.cell (spare_get s1 sp i (by omega))
              have c3 : wr.cell? ⟨g, i + 8, none⟩ = some (.int .u32 (c.toNat : Int)) := by
                rw [hc.out]; exact hW.cell (spare_get s1 sp (i + 8) (by omega))
              have c4 : wr.cell? ⟨G, i, none⟩ = some (.int .u32 0) := hO.cell (by simp [foldCells, hlt])
              have f1 := hO.frozen i
              go_wp2
              go_region
              go_wp2
              have hO' := (hO.set i (wv (wxor (wxor a b) c))).drew
              have hval : wxor (wxor a b) c = fl.getD i 0 := by
                rw [hfl.out, foldL_get _ _ _ _ _ hlt, ha.out, hb'.out, hc.out, hs1.out, hs0.out, hm.out, htt.out]
              rw [hval, ← foldCells_step] at hO'
              rw [show Value.int IntKind.u32 ((wxor (wxor a b) c).toNat : Int) = wv (fl.getD i 0) from by rw [← hval]; rfl]
              exact ⟨⟨i + 1, by omega, by simp, hO', (hW.other (show g ≠ G by omega) _).drew, (hB.setCell hGw _).drew⟩, by simp [intOf]; omega⟩
            · obtain rfl : i = 8 := by omega
              rw [foldCells_all fl hfll, hfl.out] at hO
              go_wp2
              go_ret
              exact ⟨G, rfl, hO, hB⟩

theorem block_any (hs : List UInt32) (hb N ab : Nat) (s : ByteArray) (t : Nat) (last : Bool) (w : World) (hh : hs.length = 8) (hsz : s.size = 64) (ht : t ≤ 140737488351232)
    (hH : Arr w hb 132 (hs.map wv)) (hT : Tabs w N ab) :
    Calls Tryz.prog 88 #[.slice (some ⟨hb, 0, none⟩) 8 8, .slice (some ⟨N + 10, 0, none⟩) 10 10, .slice (some ⟨ab, 0, none⟩) 32 32, .string s, .int .i64 (t : Int), .bool last] w
      fun e w' => ∃ g, e = .returned (.slice (some ⟨g, 0, none⟩) 8 8) ∧ Arr w' g 132 ((foldL hs (wordsL s.data.toList) (UInt32.ofNat t) last).map wv) ∧ Below w.heap.size w w' := by
  cases last
  · exact block_false hs hb N ab s t w hh hsz ht hH hT
  · exact block_true hs hb N ab s t w hh hsz ht hH hT
end Go.Proofs.YtajpfkenhchafaaGreatDoor.Mx

/- What the reference's digest, Sum, Keyed and Short do; nothing old in memory is turned. -/
namespace Go.Proofs.YtajpfkenhchafaaGreatDoor.Mx
open Go.RowKit Go.Sort
set_option linter.unusedVariables false

theorem infoByte : (Tryz.prog.info? 5).map (fun i => (i.zero, i.size, i.bytes)) = some (some (.int .u8 0), 1, 1) := by kernel_rfl

theorem allocAll_get (w : World) (os : List Obj) (i : Nat) (o : Obj) (h : os[i]? = some o) : (allocAll w os).heap[w.heap.size + i]? = some o := by
  rw [allocAll_heap, Array.getElem?_append_right (by omega)]
  simpa using h

theorem tabs_rows (w : World) : (∀ i, i < 10 → Arr (allocAll w (rowObjs w.heap.size)) (w.heap.size + i) 3 ((rowL i).map iv)) ∧ Arr (allocAll w (rowObjs w.heap.size)) (w.heap.size + 10) 32 ((List.range 10).map (rowSlice w.heap.size)) := by
  constructor
  · intro i hi
    refine allocAll_get w _ i _ ?_
    unfold rowObjs
    rw [List.getElem?_append_left (by simpa using hi)]
    simp [hi]
  · refine allocAll_get w _ 10 _ ?_
    rfl

theorem own_string {w : World} {B : Nat} {v : Value} {l : List UInt8} (h : w.ownsRow B 5 1 v l.length (l.map byteVal)) :
    (convert 65 9 v).run Tryz.prog w = .ok (.string ⟨l.toArray⟩) w := by
  rcases h.2 with ⟨rfl, hn⟩ | ⟨g, cap, cur, rfl, _⟩
  · rw [List.length_eq_zero_iff] at hn
    subst hn
    exact run_convert_bytes_nil w 65 5 Tryz.underlying65 Tryz.underlying5 0 0 9 Tryz.underlying9
  · refine run_convert_bytes_back w 65 9 5 ⟨g, 0, none⟩ cap l Tryz.underlying65 Tryz.underlying5 Tryz.underlying9 (fun j hj => ?_)
    exact h.cells rfl j _ (by simp [List.getElem?_eq_getElem hj, byteVal])

theorem made_zeros (n : Nat) : (madeCells #[Value.int .u8 0] n).toList = (List.replicate n (0 : UInt8)).map byteVal := by
  apply List.ext_getElem
  · simp [madeCells]
  · intro j h1 h2
    simp [madeCells, byteVal, Nat.mod_one]

theorem ext_list (T : ByteArray) (i : Nat) : (T.extract i (i + 64)).data.toList = (T.data.toList.drop i).take 64 := by
  simp only [ByteArray.data_extract, Array.toList_extract, List.extract_eq_take_drop]
  congr 1
  omega

/-- The last block. -/
theorem block_last (hl : List UInt32) (s : List UInt8) (T : ByteArray) (i nz : Nat) (hT : T.data.toList = s ++ List.replicate nz 0) (hi : i ≤ s.length) (he : i + 64 = T.size) :
    foldL hl (wordsL (T.extract i (i + 64)).data.toList) (UInt32.ofNat (min s.length (i + 64))) true = dig hl (s.drop i) i := by
  have hlen : T.size = s.length + nz := by
    have := congrArg List.length hT
    simpa using this
  rw [ext_list, hT, List.drop_append_of_le_length hi, List.take_of_length_le (by simp; omega), wordsL_zeros, dig_last _ _ _ (by simp; omega)]
  congr 2
  simp
  omega

/-- A block ahead of the last. -/
theorem block_more (hl : List UInt32) (s : List UInt8) (T : ByteArray) (i nz : Nat) (hT : T.data.toList = s ++ List.replicate nz 0) (hi : i + 64 < s.length) :
    dig (foldL hl (wordsL (T.extract i (i + 64)).data.toList) (UInt32.ofNat (min s.length (i + 64))) false) (s.drop (i + 64)) (i + 64) = dig hl (s.drop i) i := by
  rw [ext_list, hT, List.drop_append_of_le_length (by omega), List.take_append_of_le_length (by simp; omega), dig_more hl (s.drop i) i (by simp; omega), List.drop_drop, Nat.min_eq_right (by omega)]

/-- The four bytes of a word. -/
def fourL (x : UInt32) : List UInt8 := [UInt8.ofNat x.toNat, UInt8.ofNat (x.toNat / 256), UInt8.ofNat (x.toNat / 65536), UInt8.ofNat (x.toNat / 16777216)]

theorem text_step (h : List UInt32) (i : Nat) (hi : i < 8) : (textL h).take (4 * (i + 1)) = (textL h).take (4 * i) ++ fourL (h.getD i 0) := by
  have hl : (textL h).length = 32 := by simp [textL]
  have e : ∀ j, j < 32 → (textL h)[j]? = some (outByte h j) := fun j hj => by simp [textL, hj]
  apply List.ext_getElem?
  intro j
  rw [List.getElem?_append, List.length_take, hl, Nat.min_eq_left (by omega), List.getElem?_take, List.getElem?_take]
  by_cases h1 : j < 4 * i
  · rw [if_pos (by omega), if_pos h1, if_pos h1]
  · rw [if_neg h1]
    by_cases h2 : j < 4 * (i + 1)
    · rw [if_pos h2, e j (by omega)]
      have h3 : j = 4 * i ∨ j = 4 * i + 1 ∨ j = 4 * i + 2 ∨ j = 4 * i + 3 := by omega
      rcases h3 with rfl | rfl | rfl | rfl
      · rw [Nat.sub_self, show outByte h (4 * i) = UInt8.ofNat (h.getD i 0).toNat from by unfold outByte; rw [show 4 * i / 4 = i by omega, show 4 * i % 4 = 0 by omega]; simp]; rfl
      · rw [show 4 * i + 1 - 4 * i = 1 by omega, show outByte h (4 * i + 1) = UInt8.ofNat ((h.getD i 0).toNat / 256) from by unfold outByte; rw [show (4 * i + 1) / 4 = i by omega, show (4 * i + 1) % 4 = 1 by omega]]; rfl
      · rw [show 4 * i + 2 - 4 * i = 2 by omega, show outByte h (4 * i + 2) = UInt8.ofNat ((h.getD i 0).toNat / 65536) from by unfold outByte; rw [show (4 * i + 2) / 4 = i by omega, show (4 * i + 2) % 4 = 2 by omega]]; rfl
      · rw [show 4 * i + 3 - 4 * i = 3 by omega, show outByte h (4 * i + 3) = UInt8.ofNat ((h.getD i 0).toNat / 16777216) from by unfold outByte; rw [show (4 * i + 3) / 4 = i by omega, show (4 * i + 3) % 4 = 3 by omega]]; rfl
    · rw [if_neg h2, List.getElem?_eq_none (by simp [fourL]; omega)]

theorem four_vals (x : UInt32) : ([.int .u8 (IntKind.u8.wrap (x.toNat : Int)), .int .u8 (IntKind.u8.wrap (IntKind.u32.wrap ((x.toNat : Int) / 256))), .int .u8 (IntKind.u8.wrap (IntKind.u32.wrap ((x.toNat : Int) / 65536))), .int .u8 (IntKind.u8.wrap (IntKind.u32.wrap ((x.toNat : Int) / 16777216)))] : List Value) = (fourL x).map byteVal := by
  have hx := x.toNat_lt
  simp only [fourL, byteVal, List.map_cons, List.map_nil, IntKind.wrap_u8', IntKind.wrap_u32', UInt8.toNat_ofNat']
  refine List.cons_eq_cons.2 ⟨congrArg _ (by omega), List.cons_eq_cons.2 ⟨congrArg _ (by omega), List.cons_eq_cons.2 ⟨congrArg _ (by omega), List.cons_eq_cons.2 ⟨congrArg _ (by omega), rfl⟩⟩⟩⟩

set_option maxRecDepth 100000 in
set_option maxHeartbeats 2000000 in
theorem refDigest_any (s : ByteArray) (k : Nat) (w : World) (hs : s.size ≤ 1073741824) (hk : k ≤ 32) :
    Calls Tryz.prog 64 #[.string s, .int .i64 (k : Int)] w fun e w' => e = .returned (.string ⟨(digestL s.data.toList k).toArray⟩) ∧ Below w.heap.size w w' := by
  have hA1 := Arr.new w 132 (firstsL.map wv)
  have c0 := hA1.cell (i := 0) (v := .int .u32 1779033703) rfl
  have f0 := hA1.frozen 0
  go_enter Tryz.func64, Tryz.ntmps64
  go_wp2_with fail
  refine (firsts_any w).mono ?_
  rintro e w' ⟨rfl, rfl⟩
  obtain ⟨x0, hx0⟩ : ∃ z, Hid (z = (seedL k).getD 0 0) := ⟨_, rfl⟩
  have hpar : bits BinOp.xor IntKind.u32 (bits BinOp.xor IntKind.u32 1779033703 16842784) (256 * (k : Int)) = (x0.toNat : Int) := by
    have e1 : (256 * (k : Int)) = ((UInt32.ofNat (256 * k)).toNat : Int) := by
      rw [UInt32.toNat_ofNat']; omega
    rw [e1]
    have h1 := fold_xor 1779033703 16842784
    have h2 := fold_xor (wxor 1779033703 16842784) (UInt32.ofNat (256 * k))
    rw [show ((1779033703 : UInt32).toNat : Int) = 1779033703 from rfl, show ((16842784 : UInt32).toNat : Int) = 16842784 from rfl] at h1
    rw [h1, h2, wxor_assoc, hx0.out]
    rfl
  have hk1 : (256 * (k : Int)) % 4294967296 = 256 * (k : Int) := by omega
  have hA2 := Arr.new w 132 ((seedL k).map wv)
  have hseed : (firstsL.map wv).set 0 (.int .u32 (x0.toNat : Int)) = (seedL k).map wv := by rw [hx0.out]; rfl
  have hB2 := (Below.refl w.heap.size w).alloc (Nat.le_refl _) (.cells ((seedL k).map wv).toArray 132)
  obtain ⟨iB, hiB, hb0, hb1, hb2⟩ := info_parts infoByte
  obtain ⟨tgt, htgt⟩ : ∃ z, Hid (z = dig (seedL k) s.data.toList 0) := ⟨_, rfl⟩
  have hsl : s.data.toList.length = s.size := by simp
  by_cases hz : s.size = 0
  · have hz' : (s.size : Int) = 0 := by omega
    obtain ⟨nz, hnz⟩ : ∃ z, Hid (z = 64 - s.size % 64) := ⟨_, rfl⟩
    go_wp2_with (refine wpList_make_full _ (by rfl) _ _ 65 (by rfl) w.heap.size 5 iB (.int .u8 0) 1 Tryz.underlying65 hiB hb0 hb1 .i64 .i64 _ _ nz (by rfl) (by rfl) ?m1 ?m2 ?m3 ?m4 ?m5 ?_)
    case m1 => have := hnz.out; omega
    case m2 => have := hnz.out; omega
    case m3 => have := hnz.out; rw [hb2]; omega
    case m4 => have := hnz.out; unfold maxLen; omega
    case m5 => rw [alloc_size]; omega
    intro w3 hown3 hgrow3
    have hA3 := hA2.below ((Below.refl _ _).grown hgrow3 (Nat.le_refl _) (fun k hk => by cases hk)) hA2.lt
    have hB3 : Below w.heap.size w w3 := hB2.grown hgrow3 (by rw [alloc_size]; omega) (fun k hk => by cases hk)
    rw [made_zeros] at hown3
    have hcv := own_string (l := List.replicate nz 0) (by simpa using hown3)
    clear hown3 hgrow3
    obtain ⟨T, hT⟩ : ∃ z, Hid (z = s ++ ⟨Array.replicate nz 0⟩) := ⟨_, rfl⟩
    have hTc : s ++ (⟨Array.replicate nz 0⟩ : ByteArray) = T := hT.out.symm
    have hTl : T.data.toList = s.data.toList ++ List.replicate nz 0 := by rw [hT.out]; simp
    have hTs : Hid (T.size = s.size + nz) := by
      have := congrArg List.length hTl
      show _ = _
      simpa using this
    have hT64 : Hid (T.size % 64 = 0) := by have := hnz.out; have := hTs.out; show _ = _; omega
    have hTn : Hid ( s.size ≤ T.size ∧ T.size < s.size + 65 ∧ 0 < T.size ∧ (s.size = 0 → T.size = 64) ∧ (0 < s.size → T.size < s.size + 64)) := by have := hnz.out; have := hTs.out; show _ ∧ _; omega
    have hnb : nz ≤ 64 := by have := hnz.out; omega
    have hT42 : T.size ≤ 1073742000 := by have := hTn.out; omega
    have hmx : s.size + nz ≤ maxLen := by unfold maxLen; omega
    have hmx2 : T.size ≤ maxLen := by unfold maxLen; omega
    have hmx3 : ¬ (maxLen < s.size + nz) := by omega
    go_wp2_with fail
    refine (rows_any w3).mono ?_
    rintro e w' ⟨rfl, rfl⟩
    obtain ⟨hR1, hR2⟩ := tabs_rows w3
    have hbr := allocAll_below (rowObjs w3.heap.size) w3
    have hA4 := hA3.below hbr hA3.lt
    have hB4 := hB3.trans (hbr.mono hB3.size)
    clear hcv hbr
    generalize allocAll w3 (rowObjs w3.heap.size) = w4 at hR1 hR2 hA4 hB4 ⊢
    generalize w3.heap.size = N at hR1 hR2 ⊢
    go_wp2_with fail
    refine (places_any w4).mono ?_
    rintro e w' ⟨rfl, rfl⟩
    have hT5 : Tabs (w4.alloc (.cells (places.map iv).toArray 3)) N w4.heap.size := ⟨fun i hi => (hR1 i hi).alloc _, hR2.alloc _, Arr.new w4 _ _⟩
    have hA5 := hA4.alloc (.cells (places.map iv).toArray 3)
    have hB5 := hB4.alloc hB4.size (.cells (places.map iv).toArray 3)
    clear hR1 hR2 hA4 hB4 hA3 hB3
    generalize w4.alloc (.cells (places.map iv).toArray 3) = w5 at hT5 hA5 hB5 ⊢
    generalize w4.heap.size = ab at hT5 ⊢
    have hst : Hid (tgt = if 0 < T.size then dig (seedL k) (s.data.toList.drop 0) 0 else seedL k) := by
      show _ = _
      rw [if_pos hTn.out.2.2.1, htgt.out]; rfl
    skip
    go_wp2
    go_loopw [5, 10] (fun v5 v10 wr => ∃ (hl : List UInt32) (g i : Nat), v5 = .slice (some ⟨g, 0, none⟩) 8 8 ∧ v10 = .int .i64 i ∧ i % 64 = 0 ∧ i ≤ T.size ∧ hl.length = 8 ∧ Arr wr g 132 (hl.map wv) ∧ Tabs wr N ab ∧ Below w.heap.size w wr ∧ Hid (tgt = if i < T.size then dig hl (s.data.toList.drop i) i else hl)) (fun _ v10 _ => T.size - (intOf v10).toNat)
    case atStart => exact ⟨seedL k, w.heap.size, 0, rfl, rfl, rfl, Nat.zero_le _, rfl, hA5, hT5, hB5, hst⟩
    case round =>
      clear hA5 hT5 hB5 hst
      obtain ⟨hl, g, i, rfl, rfl, hi64, hiT, hhl, hH, hTb, hB, ht⟩ := hrel
      by_cases hlt : i < T.size
      · have h1 : (i : Int) < (T.size : Int) := by omega
        have h0 : (0 : Int) ≤ (i : Int) := by omega
        have h2 : (i : Int) + 64 ≤ (T.size : Int) := by have := hT64.out; omega
        have hb4 : T.size ≤ 1073742000 := by have := hTn.out; omega
        obtain ⟨sub, hsub⟩ : ∃ z, Hid (z = T.extract i (i + 64)) := ⟨_, rfl⟩
        have hsx : T.extract i (i + 64) = sub := hsub.out.symm
        have hss : sub.size = 64 := by rw [hsub.out, ByteArray.size_extract]; have := hT64.out; omega
        have htm : Hid (0 = min s.size (i + 64)) := by show _ = _; omega
        have hmin : min (0 : Int) ((i : Int) + 64) = 0 := by omega
        by_cases hlast : i + 64 = T.size
        · have h3 : (i : Int) + 64 = (T.size : Int) := by omega
          have hsx2 : T.extract i T.size = sub := by rw [← hlast]; exact hsx
          go_wp2_with fail
          refine (block_any hl g N ab sub 0 true wr hhl hss (by have := htm.out; omega) hH hTb).mono ?_
          rintro e w' ⟨g', rfl, hH', hb'⟩
          have hB' := hB.trans (hb'.mono hB.size)
          have hTb' := hTb.below hb' hTb.all.lt hTb.at'.lt
          have hnx : Hid (tgt = if i + 64 < T.size then dig (foldL hl (wordsL sub.data.toList) (UInt32.ofNat 0) true) (s.data.toList.drop (i + 64)) (i + 64) else foldL hl (wordsL sub.data.toList) (UInt32.ofNat 0) true) := by
            show _ = _
            rw [if_neg (by omega), ht.out, if_pos hlt, hsub.out, htm.out, ← hsl, block_last hl s.data.toList T i nz hTl (by have := hTn.out; omega) hlast]
          go_wp2
          go_roundw
          case rel => exact ⟨_, g', i + 64, rfl, by go_num, by omega, by have := hT64.out; omega, foldL_len _ _ _ _, hH', hTb', hB', hnx⟩
          case measure => simp [intOf]; omega
        · have h3 : ¬ (i : Int) + 64 = (T.size : Int) := by omega
          have h3b : ((i : Int) + 64 == (T.size : Int)) = false := by simpa using h3
          go_wp2_with fail
          refine (block_any hl g N ab sub 0 false wr hhl hss (by have := htm.out; omega) hH hTb).mono ?_
          rintro e w' ⟨g', rfl, hH', hb'⟩
          have hB' := hB.trans (hb'.mono hB.size)
          have hTb' := hTb.below hb' hTb.all.lt hTb.at'.lt
          have hnx : Hid (tgt = if i + 64 < T.size then dig (foldL hl (wordsL sub.data.toList) (UInt32.ofNat 0) false) (s.data.toList.drop (i + 64)) (i + 64) else foldL hl (wordsL sub.data.toList) (UInt32.ofNat 0) false) := by
            show _ = _
            rw [if_pos (by have := hT64.out; omega), ht.out, if_pos hlt, hsub.out, htm.out, ← hsl, block_more hl s.data.toList T i nz hTl (by have := hTn.out; have := hT64.out; omega)]
          go_wp2
          go_roundw
          case rel => exact ⟨_, g', i + 64, rfl, by go_num, by omega, by have := hT64.out; omega, foldL_len _ _ _ _, hH', hTb', hB', hnx⟩
          case measure => simp [intOf]; omega
      · have h1 : ¬ (i : Int) < (T.size : Int) := by omega
        have hend : tgt = hl := by rw [ht.out, if_neg hlt]
        have hfin : Hid (digestL s.data.toList k = textL hl) := by
          show _ = _
          unfold digestL
          rw [← htgt.out, hend]
        obtain ⟨Bs, hBs⟩ : ∃ z, z = wr.heap.size := ⟨_, rfl⟩
        have hgB : g < Bs := by rw [hBs]; exact hH.lt
        have hBw : w.heap.size ≤ Bs := by rw [hBs]; exact hB.size
        have hBle : Bs ≤ wr.heap.size := by omega
        clear hBs htgt ht hTb
        go_wp2
        go_loopw [11, 12] (fun v11 v12 wr => ∃ i : Nat, i ≤ 8 ∧ v12 = .int .i64 i ∧ wr.ownsRow Bs 5 1 v11 (4 * i) (((textL hl).take (4 * i)).map byteVal) ∧ Bs ≤ wr.heap.size ∧ Arr wr g 132 (hl.map wv) ∧ Below w.heap.size w wr) (fun _ v12 _ => 8 - (intOf v12).toNat)
        case atStart => exact ⟨0, Nat.zero_le _, rfl, World.ownsRow_nil _ _ _ _, hBle, hH, hB⟩
        case round =>
          clear hH hB hBle
          obtain ⟨i, hi8, rfl, hown, hBle, hH, hB⟩ := hrel
          by_cases hlt : i < 8
          · have h1 : (i : Int) < 8 := by omega
            have h0 : (0 : Int) ≤ (i : Int) := by omega
            obtain ⟨x, hx⟩ : ∃ z, Hid (z = hl.getD i 0) := ⟨_, rfl⟩
            have c1 : wr.cell? ⟨g, i, none⟩ = some (.int .u32 (x.toNat : Int)) := by
              rw [hx.out]; exact hH.cell (getD_get hl i (by omega))
            go_wp2
            have hO1 : ((wr.alloc (.cells #[.int .u8 (IntKind.u8.wrap (x.toNat : Int)), .int .u8 (IntKind.u8.wrap (IntKind.u32.wrap ((x.toNat : Int) / 256))), .int .u8 (IntKind.u8.wrap (IntKind.u32.wrap ((x.toNat : Int) / 65536))), .int .u8 (IntKind.u8.wrap (IntKind.u32.wrap ((x.toNat : Int) / 16777216)))] 5)).drew).ownsRow Bs 5 1 u11 (4 * i) (((textL hl).take (4 * i)).map byteVal) := hown.alloc _
            have hN1 : ∀ j u, ([.int .u8 (IntKind.u8.wrap (x.toNat : Int)), .int .u8 (IntKind.u8.wrap (IntKind.u32.wrap ((x.toNat : Int) / 256))), .int .u8 (IntKind.u8.wrap (IntKind.u32.wrap ((x.toNat : Int) / 65536))), .int .u8 (IntKind.u8.wrap (IntKind.u32.wrap ((x.toNat : Int) / 16777216)))] : List Value)[j]? = some u → ((wr.alloc (.cells #[.int .u8 (IntKind.u8.wrap (x.toNat : Int)), .int .u8 (IntKind.u8.wrap (IntKind.u32.wrap ((x.toNat : Int) / 256))), .int .u8 (IntKind.u8.wrap (IntKind.u32.wrap ((x.toNat : Int) / 65536))), .int .u8 (IntKind.u8.wrap (IntKind.u32.wrap ((x.toNat : Int) / 16777216)))] 5)).drew).cell? ((⟨wr.heap.size, 0, none⟩ : Addr).add j) = some u := by
              intro j u hj
              rw [Addr.add_mid, Nat.zero_add]
              exact (Arr.new wr 5 [.int .u8 (IntKind.u8.wrap (x.toNat : Int)), .int .u8 (IntKind.u8.wrap (IntKind.u32.wrap ((x.toNat : Int) / 256))), .int .u8 (IntKind.u8.wrap (IntKind.u32.wrap ((x.toNat : Int) / 65536))), .int .u8 (IntKind.u8.wrap (IntKind.u32.wrap ((x.toNat : Int) / 16777216)))]).drew.cell hj
            have hN2 : ∀ u ∈ ([.int .u8 (IntKind.u8.wrap (x.toNat : Int)), .int .u8 (IntKind.u8.wrap (IntKind.u32.wrap ((x.toNat : Int) / 256))), .int .u8 (IntKind.u8.wrap (IntKind.u32.wrap ((x.toNat : Int) / 65536))), .int .u8 (IntKind.u8.wrap (IntKind.u32.wrap ((x.toNat : Int) / 16777216)))] : List Value), u.oneCell' = true := by
              rw [four_vals]
              intro u hu
              obtain ⟨b, _, rfl⟩ := List.mem_map.1 hu
              rfl
            have hN3 : Bs ≤ ((wr.alloc (.cells #[.int .u8 (IntKind.u8.wrap (x.toNat : Int)), .int .u8 (IntKind.u8.wrap (IntKind.u32.wrap ((x.toNat : Int) / 256))), .int .u8 (IntKind.u8.wrap (IntKind.u32.wrap ((x.toNat : Int) / 65536))), .int .u8 (IntKind.u8.wrap (IntKind.u32.wrap ((x.toNat : Int) / 16777216)))] 5)).drew).heap.size := by show Bs ≤ (wr.alloc _).heap.size; rw [alloc_size]; omega
            have hN4 : ((wr.alloc (.cells #[.int .u8 (IntKind.u8.wrap (x.toNat : Int)), .int .u8 (IntKind.u8.wrap (IntKind.u32.wrap ((x.toNat : Int) / 256))), .int .u8 (IntKind.u8.wrap (IntKind.u32.wrap ((x.toNat : Int) / 65536))), .int .u8 (IntKind.u8.wrap (IntKind.u32.wrap ((x.toNat : Int) / 16777216)))] 5)).drew).heap.size = wr.heap.size + 1 := alloc_size wr _
            have hN5 : 4 * i + 4 ≤ maxLen := by unfold maxLen; omega
            have hN6 : (4 * i + 4) * 1 ≤ 140737488355328 := by omega
            have hkeep : ∀ w2, ((wr.alloc (.cells #[.int .u8 (IntKind.u8.wrap (x.toNat : Int)), .int .u8 (IntKind.u8.wrap (IntKind.u32.wrap ((x.toNat : Int) / 256))), .int .u8 (IntKind.u8.wrap (IntKind.u32.wrap ((x.toNat : Int) / 65536))), .int .u8 (IntKind.u8.wrap (IntKind.u32.wrap ((x.toNat : Int) / 16777216)))] 5)).drew).grownBy w2 u11.ownBlock → Below Bs wr w2 := fun w2 hg => (((Below.refl Bs wr).alloc hBle _).drew).grown hg hN3 (fun k hk => (hO1.lt k hk).1)
            have hkeep2 : ∀ w2, ((wr.alloc (.cells #[.int .u8 (IntKind.u8.wrap (x.toNat : Int)), .int .u8 (IntKind.u8.wrap (IntKind.u32.wrap ((x.toNat : Int) / 256))), .int .u8 (IntKind.u8.wrap (IntKind.u32.wrap ((x.toNat : Int) / 65536))), .int .u8 (IntKind.u8.wrap (IntKind.u32.wrap ((x.toNat : Int) / 16777216)))] 5)).drew).grownBy w2 u11.ownBlock → w2.cell? ⟨g, i, none⟩ = some (.int .u32 (x.toNat : Int)) := fun w2 hg => by
              rw [(hkeep w2 hg).cell (p := ⟨g, i, none⟩) hgB]; exact c1
            go_region_held3 (fun w' => w'.cell? ⟨g, i, none⟩ = some (.int .u32 (x.toNat : Int))) (first | go_keep | (apply hkeep2; assumption))
              ((refine step_append_lies _ (by rfl) _ _ 65 (by rfl) Bs 5 iB (.int .u8 0) 1 1 Tryz.underlying65 hiB hb0 hb1 hb2 rfl (by decide) _ (4 * i) (((textL hl).take (4 * i)).map byteVal) (by rfl) hO1 ⟨wr.heap.size, 0, none⟩ 4 4 [.int .u8 (IntKind.u8.wrap (x.toNat : Int)), .int .u8 (IntKind.u8.wrap (IntKind.u32.wrap ((x.toNat : Int) / 256))), .int .u8 (IntKind.u8.wrap (IntKind.u32.wrap ((x.toNat : Int) / 65536))), .int .u8 (IntKind.u8.wrap (IntKind.u32.wrap ((x.toNat : Int) / 16777216)))] (by rfl) (by rfl) hN1 hN2 (by decide) hN5 hN6 hN3 (wr.heap.size + 1) hN4 ?_; intro g2 cap2 w2 hown2 hgrow2 hat2 hlt2))
            have hbw := hkeep w2 hgrow2
            have hH2 := hH.below hbw hgB
            have hB2' := hB.trans (hbw.mono hBw)
            have hBl2 : Bs ≤ w2.heap.size := Nat.le_trans hBle hbw.size
            rw [four_vals, ← List.map_append, hx.out, ← text_step hl i hlt] at hown2
            clear hkeep hkeep2 hN1 hN2 hN3 hN4 hO1 hgrow2
            go_wp2
            go_roundw
            case rel => exact ⟨i + 1, by omega, by go_num, hown2, hBl2, hH2, hB2'⟩
            case measure => simp [intOf]; omega
          · obtain rfl : i = 8 := by omega
            have h1 : ¬ (8 : Int) < 8 := by omega
            have hl32 : (textL hl).length = 32 := by simp [textL]
            rw [List.take_of_length_le (by omega)] at hown
            have hcv := own_string (l := textL hl) (by rw [hl32]; exact hown)
            go_wp2
            go_ret
            refine ⟨?_, hB⟩
            rw [hfin.out]
            rfl
  · have hz' : ¬ (s.size : Int) = 0 := by omega
    by_cases hm : s.size % 64 = 0
    · have hm' : (s.size : Int) % 64 = 0 := by omega
      have hcv : True := trivial
      have hTl : Hid (s.data.toList = s.data.toList ++ List.replicate 0 0) := by show _ = _; simp
      have hT64 : Hid (s.size % 64 = 0) := hm
      have hTn : Hid (s.size ≤ s.size ∧ s.size < s.size + 65 ∧ 0 < s.size ∧ (s.size = 0 → s.size = 64) ∧ (0 < s.size → s.size < s.size + 64)) := by show _ ∧ _; omega
      have hT42 : s.size ≤ 1073742000 := by omega
      have hA3 := hA2
      have hB3 := hB2
      have hw3 : ∃ z, z = w.alloc (.cells ((seedL k).map wv).toArray 132) := ⟨_, rfl⟩
      obtain ⟨w3, hw3⟩ := hw3
      rw [← hw3] at hA3 hB3
      go_wp2_with fail
      rw [← hw3]
      clear hw3 hA2 hB2
      refine (rows_any w3).mono ?_
      rintro e w' ⟨rfl, rfl⟩
      obtain ⟨hR1, hR2⟩ := tabs_rows w3
      have hbr := allocAll_below (rowObjs w3.heap.size) w3
      have hA4 := hA3.below hbr hA3.lt
      have hB4 := hB3.trans (hbr.mono hB3.size)
      clear hcv hbr
      generalize allocAll w3 (rowObjs w3.heap.size) = w4 at hR1 hR2 hA4 hB4 ⊢
      generalize w3.heap.size = N at hR1 hR2 ⊢
      go_wp2_with fail
      refine (places_any w4).mono ?_
      rintro e w' ⟨rfl, rfl⟩
      have hT5 : Tabs (w4.alloc (.cells (places.map iv).toArray 3)) N w4.heap.size := ⟨fun i hi => (hR1 i hi).alloc _, hR2.alloc _, Arr.new w4 _ _⟩
      have hA5 := hA4.alloc (.cells (places.map iv).toArray 3)
      have hB5 := hB4.alloc hB4.size (.cells (places.map iv).toArray 3)
      clear hR1 hR2 hA4 hB4 hA3 hB3
      generalize w4.alloc (.cells (places.map iv).toArray 3) = w5 at hT5 hA5 hB5 ⊢
      generalize w4.heap.size = ab at hT5 ⊢
      have hst : Hid (tgt = if 0 < s.size then dig (seedL k) (s.data.toList.drop 0) 0 else seedL k) := by
        show _ = _
        rw [if_pos hTn.out.2.2.1, htgt.out]; rfl
      clear hm'
      go_wp2
      go_loopw [5, 10] (fun v5 v10 wr => ∃ (hl : List UInt32) (g i : Nat), v5 = .slice (some ⟨g, 0, none⟩) 8 8 ∧ v10 = .int .i64 i ∧ i % 64 = 0 ∧ i ≤ s.size ∧ hl.length = 8 ∧ Arr wr g 132 (hl.map wv) ∧ Tabs wr N ab ∧ Below w.heap.size w wr ∧ Hid (tgt = if i < s.size then dig hl (s.data.toList.drop i) i else hl)) (fun _ v10 _ => s.size - (intOf v10).toNat)
      case atStart => exact ⟨seedL k, w.heap.size, 0, rfl, rfl, rfl, Nat.zero_le _, rfl, hA5, hT5, hB5, hst⟩
      case round =>
        clear hA5 hT5 hB5 hst
        obtain ⟨hl, g, i, rfl, rfl, hi64, hiT, hhl, hH, hTb, hB, ht⟩ := hrel
        by_cases hlt : i < s.size
        · have h1 : (i : Int) < (s.size : Int) := by omega
          have h0 : (0 : Int) ≤ (i : Int) := by omega
          have h2 : (i : Int) + 64 ≤ (s.size : Int) := by have := hT64.out; omega
          have hb4 : s.size ≤ 1073742000 := by have := hTn.out; omega
          obtain ⟨sub, hsub⟩ : ∃ z, Hid (z = s.extract i (i + 64)) := ⟨_, rfl⟩
          have hsx : s.extract i (i + 64) = sub := hsub.out.symm
          have hss : sub.size = 64 := by rw [hsub.out, ByteArray.size_extract]; have := hT64.out; omega
          obtain ⟨tm, htm⟩ : ∃ z, Hid (z = min s.size (i + 64)) := ⟨_, rfl⟩
          have hmin : min (s.size : Int) ((i : Int) + 64) = (tm : Int) := by have := htm.out; omega
          by_cases hlast : i + 64 = s.size
          · have h3 : (i : Int) + 64 = (s.size : Int) := by omega
            have hsx2 : s.extract i s.size = sub := by rw [← hlast]; exact hsx
            go_wp2_with fail
            refine (block_any hl g N ab sub s.size true wr hhl hss (by omega) hH hTb).mono ?_
            rintro e w' ⟨g', rfl, hH', hb'⟩
            have hB' := hB.trans (hb'.mono hB.size)
            have hTb' := hTb.below hb' hTb.all.lt hTb.at'.lt
            have hnx : Hid (tgt = if i + 64 < s.size then dig (foldL hl (wordsL sub.data.toList) (UInt32.ofNat s.size) true) (s.data.toList.drop (i + 64)) (i + 64) else foldL hl (wordsL sub.data.toList) (UInt32.ofNat s.size) true) := by
              show _ = _
              have hbl := block_last hl s.data.toList s i 0 hTl.out (by omega) hlast
              rw [hsl, Nat.min_eq_left (by omega)] at hbl
              rw [if_neg (by omega), ht.out, if_pos hlt, hsub.out, hbl]
            go_wp2
            go_roundw
            case rel => exact ⟨_, g', i + 64, rfl, by go_num, by omega, by have := hT64.out; omega, foldL_len _ _ _ _, hH', hTb', hB', hnx⟩
            case measure => simp [intOf]; omega
          · have h3 : ¬ (i : Int) + 64 = (s.size : Int) := by omega
            have h3b : ((i : Int) + 64 == (s.size : Int)) = false := by simpa using h3
            go_wp2_with fail
            have cb := block_any hl g N ab sub (i + 64) false wr hhl hss (by omega) hH hTb
            rw [show ((i + 64 : Nat) : Int) = (i : Int) + 64 by omega] at cb
            refine cb.mono ?_
            rintro e w' ⟨g', rfl, hH', hb'⟩
            have hB' := hB.trans (hb'.mono hB.size)
            have hTb' := hTb.below hb' hTb.all.lt hTb.at'.lt
            have hnx : Hid (tgt = if i + 64 < s.size then dig (foldL hl (wordsL sub.data.toList) (UInt32.ofNat (i + 64)) false) (s.data.toList.drop (i + 64)) (i + 64) else foldL hl (wordsL sub.data.toList) (UInt32.ofNat (i + 64)) false) := by
              show _ = _
              have hbl := block_more hl s.data.toList s i 0 hTl.out (by have := hT64.out; omega)
              rw [hsl, Nat.min_eq_right (by have := hT64.out; omega)] at hbl
              rw [if_pos (by have := hT64.out; omega), ht.out, if_pos hlt, hsub.out, hbl]
            go_wp2
            go_roundw
            case rel => exact ⟨_, g', i + 64, rfl, by go_num, by omega, by have := hT64.out; omega, foldL_len _ _ _ _, hH', hTb', hB', hnx⟩
            case measure => simp [intOf]; omega
        · have h1 : ¬ (i : Int) < (s.size : Int) := by omega
          have hend : tgt = hl := by rw [ht.out, if_neg hlt]
          have hfin : Hid (digestL s.data.toList k = textL hl) := by
            show _ = _
            unfold digestL
            rw [← htgt.out, hend]
          obtain ⟨Bs, hBs⟩ : ∃ z, z = wr.heap.size := ⟨_, rfl⟩
          have hgB : g < Bs := by rw [hBs]; exact hH.lt
          have hBw : w.heap.size ≤ Bs := by rw [hBs]; exact hB.size
          have hBle : Bs ≤ wr.heap.size := by omega
          clear hBs htgt ht hTb
          go_wp2
          go_loopw [11, 12] (fun v11 v12 wr => ∃ i : Nat, i ≤ 8 ∧ v12 = .int .i64 i ∧ wr.ownsRow Bs 5 1 v11 (4 * i) (((textL hl).take (4 * i)).map byteVal) ∧ Bs ≤ wr.heap.size ∧ Arr wr g 132 (hl.map wv) ∧ Below w.heap.size w wr) (fun _ v12 _ => 8 - (intOf v12).toNat)
          case atStart => exact ⟨0, Nat.zero_le _, rfl, World.ownsRow_nil _ _ _ _, hBle, hH, hB⟩
          case round =>
            clear hH hB hBle
            obtain ⟨i, hi8, rfl, hown, hBle, hH, hB⟩ := hrel
            by_cases hlt : i < 8
            · have h1 : (i : Int) < 8 := by omega
              have h0 : (0 : Int) ≤ (i : Int) := by omega
              obtain ⟨x, hx⟩ : ∃ z, Hid (z = hl.getD i 0) := ⟨_, rfl⟩
              have c1 : wr.cell? ⟨g, i, none⟩ = some (.int .u32 (x.toNat : Int)) := by
                rw [hx.out]; exact hH.cell (getD_get hl i (by omega))
              go_wp2
              have hO1 : ((wr.alloc (.cells #[.int .u8 (IntKind.u8.wrap (x.toNat : Int)), .int .u8 (IntKind.u8.wrap (IntKind.u32.wrap ((x.toNat : Int) / 256))), .int .u8 (IntKind.u8.wrap (IntKind.u32.wrap ((x.toNat : Int) / 65536))), .int .u8 (IntKind.u8.wrap (IntKind.u32.wrap ((x.toNat : Int) / 16777216)))] 5)).drew).ownsRow Bs 5 1 u11 (4 * i) (((textL hl).take (4 * i)).map byteVal) := hown.alloc _
              have hN1 : ∀ j u, ([.int .u8 (IntKind.u8.wrap (x.toNat : Int)), .int .u8 (IntKind.u8.wrap (IntKind.u32.wrap ((x.toNat : Int) / 256))), .int .u8 (IntKind.u8.wrap (IntKind.u32.wrap ((x.toNat : Int) / 65536))), .int .u8 (IntKind.u8.wrap (IntKind.u32.wrap ((x.toNat : Int) / 16777216)))] : List Value)[j]? = some u → ((wr.alloc (.cells #[.int .u8 (IntKind.u8.wrap (x.toNat : Int)), .int .u8 (IntKind.u8.wrap (IntKind.u32.wrap ((x.toNat : Int) / 256))), .int .u8 (IntKind.u8.wrap (IntKind.u32.wrap ((x.toNat : Int) / 65536))), .int .u8 (IntKind.u8.wrap (IntKind.u32.wrap ((x.toNat : Int) / 16777216)))] 5)).drew).cell? ((⟨wr.heap.size, 0, none⟩ : Addr).add j) = some u := by
                intro j u hj
                rw [Addr.add_mid, Nat.zero_add]
                exact (Arr.new wr 5 [.int .u8 (IntKind.u8.wrap (x.toNat : Int)), .int .u8 (IntKind.u8.wrap (IntKind.u32.wrap ((x.toNat : Int) / 256))), .int .u8 (IntKind.u8.wrap (IntKind.u32.wrap ((x.toNat : Int) / 65536))), .int .u8 (IntKind.u8.wrap (IntKind.u32.wrap ((x.toNat : Int) / 16777216)))]).drew.cell hj
              have hN2 : ∀ u ∈ ([.int .u8 (IntKind.u8.wrap (x.toNat : Int)), .int .u8 (IntKind.u8.wrap (IntKind.u32.wrap ((x.toNat : Int) / 256))), .int .u8 (IntKind.u8.wrap (IntKind.u32.wrap ((x.toNat : Int) / 65536))), .int .u8 (IntKind.u8.wrap (IntKind.u32.wrap ((x.toNat : Int) / 16777216)))] : List Value), u.oneCell' = true := by
                rw [four_vals]
                intro u hu
                obtain ⟨b, _, rfl⟩ := List.mem_map.1 hu
                rfl
              have hN3 : Bs ≤ ((wr.alloc (.cells #[.int .u8 (IntKind.u8.wrap (x.toNat : Int)), .int .u8 (IntKind.u8.wrap (IntKind.u32.wrap ((x.toNat : Int) / 256))), .int .u8 (IntKind.u8.wrap (IntKind.u32.wrap ((x.toNat : Int) / 65536))), .int .u8 (IntKind.u8.wrap (IntKind.u32.wrap ((x.toNat : Int) / 16777216)))] 5)).drew).heap.size := by show Bs ≤ (wr.alloc _).heap.size; rw [alloc_size]; omega
              have hN4 : ((wr.alloc (.cells #[.int .u8 (IntKind.u8.wrap (x.toNat : Int)), .int .u8 (IntKind.u8.wrap (IntKind.u32.wrap ((x.toNat : Int) / 256))), .int .u8 (IntKind.u8.wrap (IntKind.u32.wrap ((x.toNat : Int) / 65536))), .int .u8 (IntKind.u8.wrap (IntKind.u32.wrap ((x.toNat : Int) / 16777216)))] 5)).drew).heap.size = wr.heap.size + 1 := alloc_size wr _
              have hN5 : 4 * i + 4 ≤ maxLen := by unfold maxLen; omega
              have hN6 : (4 * i + 4) * 1 ≤ 140737488355328 := by omega
              have hkeep : ∀ w2, ((wr.alloc (.cells #[.int .u8 (IntKind.u8.wrap (x.toNat : Int)), .int .u8 (IntKind.u8.wrap (IntKind.u32.wrap ((x.toNat : Int) / 256))), .int .u8 (IntKind.u8.wrap (IntKind.u32.wrap ((x.toNat : Int) / 65536))), .int .u8 (IntKind.u8.wrap (IntKind.u32.wrap ((x.toNat : Int) / 16777216)))] 5)).drew).grownBy w2 u11.ownBlock → Below Bs wr w2 := fun w2 hg => (((Below.refl Bs wr).alloc hBle _).drew).grown hg hN3 (fun k hk => (hO1.lt k hk).1)
              have hkeep2 : ∀ w2, ((wr.alloc (.cells #[.int .u8 (IntKind.u8.wrap (x.toNat : Int)), .int .u8 (IntKind.u8.wrap (IntKind.u32.wrap ((x.toNat : Int) / 256))), .int .u8 (IntKind.u8.wrap (IntKind.u32.wrap ((x.toNat : Int) / 65536))), .int .u8 (IntKind.u8.wrap (IntKind.u32.wrap ((x.toNat : Int) / 16777216)))] 5)).drew).grownBy w2 u11.ownBlock → w2.cell? ⟨g, i, none⟩ = some (.int .u32 (x.toNat : Int)) := fun w2 hg => by
                rw [(hkeep w2 hg).cell (p := ⟨g, i, none⟩) hgB]; exact c1
              go_region_held3 (fun w' => w'.cell? ⟨g, i, none⟩ = some (.int .u32 (x.toNat : Int))) (first | go_keep | (apply hkeep2; assumption))
                ((refine step_append_lies _ (by rfl) _ _ 65 (by rfl) Bs 5 iB (.int .u8 0) 1 1 Tryz.underlying65 hiB hb0 hb1 hb2 rfl (by decide) _ (4 * i) (((textL hl).take (4 * i)).map byteVal) (by rfl) hO1 ⟨wr.heap.size, 0, none⟩ 4 4 [.int .u8 (IntKind.u8.wrap (x.toNat : Int)), .int .u8 (IntKind.u8.wrap (IntKind.u32.wrap ((x.toNat : Int) / 256))), .int .u8 (IntKind.u8.wrap (IntKind.u32.wrap ((x.toNat : Int) / 65536))), .int .u8 (IntKind.u8.wrap (IntKind.u32.wrap ((x.toNat : Int) / 16777216)))] (by rfl) (by rfl) hN1 hN2 (by decide) hN5 hN6 hN3 (wr.heap.size + 1) hN4 ?_; intro g2 cap2 w2 hown2 hgrow2 hat2 hlt2))
              have hbw := hkeep w2 hgrow2
              have hH2 := hH.below hbw hgB
              have hB2' := hB.trans (hbw.mono hBw)
              have hBl2 : Bs ≤ w2.heap.size := Nat.le_trans hBle hbw.size
              rw [four_vals, ← List.map_append, hx.out, ← text_step hl i hlt] at hown2
              clear hkeep hkeep2 hN1 hN2 hN3 hN4 hO1 hgrow2
              go_wp2
              go_roundw
              case rel => exact ⟨i + 1, by omega, by go_num, hown2, hBl2, hH2, hB2'⟩
              case measure => simp [intOf]; omega
            · obtain rfl : i = 8 := by omega
              have h1 : ¬ (8 : Int) < 8 := by omega
              have hl32 : (textL hl).length = 32 := by simp [textL]
              rw [List.take_of_length_le (by omega)] at hown
              have hcv := own_string (l := textL hl) (by rw [hl32]; exact hown)
              go_wp2
              go_ret
              refine ⟨?_, hB⟩
              rw [hfin.out]
              rfl
    · have hm' : ¬ (s.size : Int) % 64 = 0 := by omega
      have hzb : ((s.size : Int) == 0) = false := by simpa using hz
      have hmb : ((s.size : Int) % 64 != 0) = true := by simpa using hm'
      obtain ⟨nz, hnz⟩ : ∃ z, Hid (z = 64 - s.size % 64) := ⟨_, rfl⟩
      go_wp2_with (refine wpList_make_full _ (by rfl) _ _ 65 (by rfl) w.heap.size 5 iB (.int .u8 0) 1 Tryz.underlying65 hiB hb0 hb1 .i64 .i64 _ _ nz (by rfl) (by rfl) ?m1 ?m2 ?m3 ?m4 ?m5 ?_)
      case m1 => have := hnz.out; omega
      case m2 => have := hnz.out; omega
      case m3 => have := hnz.out; rw [hb2]; omega
      case m4 => have := hnz.out; unfold maxLen; omega
      case m5 => rw [alloc_size]; omega
      intro w3 hown3 hgrow3
      have hA3 := hA2.below ((Below.refl _ _).grown hgrow3 (Nat.le_refl _) (fun k hk => by cases hk)) hA2.lt
      have hB3 : Below w.heap.size w w3 := hB2.grown hgrow3 (by rw [alloc_size]; omega) (fun k hk => by cases hk)
      rw [made_zeros] at hown3
      have hcv := own_string (l := List.replicate nz 0) (by simpa using hown3)
      clear hown3 hgrow3
      obtain ⟨T, hT⟩ : ∃ z, Hid (z = s ++ ⟨Array.replicate nz 0⟩) := ⟨_, rfl⟩
      have hTc : s ++ (⟨Array.replicate nz 0⟩ : ByteArray) = T := hT.out.symm
      have hTl : T.data.toList = s.data.toList ++ List.replicate nz 0 := by rw [hT.out]; simp
      have hTs : Hid (T.size = s.size + nz) := by
        have := congrArg List.length hTl
        show _ = _
        simpa using this
      have hT64 : Hid (T.size % 64 = 0) := by have := hnz.out; have := hTs.out; show _ = _; omega
      have hTn : Hid ( s.size ≤ T.size ∧ T.size < s.size + 65 ∧ 0 < T.size ∧ (s.size = 0 → T.size = 64) ∧ (0 < s.size → T.size < s.size + 64)) := by have := hnz.out; have := hTs.out; show _ ∧ _; omega
      have hnb : nz ≤ 64 := by have := hnz.out; omega
      have hT42 : T.size ≤ 1073742000 := by have := hTn.out; omega
      have hmx : s.size + nz ≤ maxLen := by unfold maxLen; omega
      have hmx2 : T.size ≤ maxLen := by unfold maxLen; omega
      have hmx3 : ¬ (maxLen < s.size + nz) := by omega
      go_wp2_with fail
      refine (rows_any w3).mono ?_
      rintro e w' ⟨rfl, rfl⟩
      obtain ⟨hR1, hR2⟩ := tabs_rows w3
      have hbr := allocAll_below (rowObjs w3.heap.size) w3
      have hA4 := hA3.below hbr hA3.lt
      have hB4 := hB3.trans (hbr.mono hB3.size)
      clear hcv hbr
      generalize allocAll w3 (rowObjs w3.heap.size) = w4 at hR1 hR2 hA4 hB4 ⊢
      generalize w3.heap.size = N at hR1 hR2 ⊢
      go_wp2_with fail
      refine (places_any w4).mono ?_
      rintro e w' ⟨rfl, rfl⟩
      have hT5 : Tabs (w4.alloc (.cells (places.map iv).toArray 3)) N w4.heap.size := ⟨fun i hi => (hR1 i hi).alloc _, hR2.alloc _, Arr.new w4 _ _⟩
      have hA5 := hA4.alloc (.cells (places.map iv).toArray 3)
      have hB5 := hB4.alloc hB4.size (.cells (places.map iv).toArray 3)
      clear hR1 hR2 hA4 hB4 hA3 hB3
      generalize w4.alloc (.cells (places.map iv).toArray 3) = w5 at hT5 hA5 hB5 ⊢
      generalize w4.heap.size = ab at hT5 ⊢
      have hst : Hid (tgt = if 0 < T.size then dig (seedL k) (s.data.toList.drop 0) 0 else seedL k) := by
        show _ = _
        rw [if_pos hTn.out.2.2.1, htgt.out]; rfl
      clear hm hm' hz hz' hzb hmb hmx hmx2 hmx3 hTc
      go_wp2
      go_loopw [5, 10] (fun v5 v10 wr => ∃ (hl : List UInt32) (g i : Nat), v5 = .slice (some ⟨g, 0, none⟩) 8 8 ∧ v10 = .int .i64 i ∧ i % 64 = 0 ∧ i ≤ T.size ∧ hl.length = 8 ∧ Arr wr g 132 (hl.map wv) ∧ Tabs wr N ab ∧ Below w.heap.size w wr ∧ Hid (tgt = if i < T.size then dig hl (s.data.toList.drop i) i else hl)) (fun _ v10 _ => T.size - (intOf v10).toNat)
      case atStart => exact ⟨seedL k, w.heap.size, 0, rfl, rfl, rfl, Nat.zero_le _, rfl, hA5, hT5, hB5, hst⟩
      case round =>
        clear hA5 hT5 hB5 hst
        obtain ⟨hl, g, i, rfl, rfl, hi64, hiT, hhl, hH, hTb, hB, ht⟩ := hrel
        by_cases hlt : i < T.size
        · have h1 : (i : Int) < (T.size : Int) := by omega
          have h0 : (0 : Int) ≤ (i : Int) := by omega
          have h2 : (i : Int) + 64 ≤ (T.size : Int) := by have := hT64.out; omega
          have hb4 : T.size ≤ 1073742000 := by have := hTn.out; omega
          obtain ⟨sub, hsub⟩ : ∃ z, Hid (z = T.extract i (i + 64)) := ⟨_, rfl⟩
          have hsx : T.extract i (i + 64) = sub := hsub.out.symm
          have hss : sub.size = 64 := by rw [hsub.out, ByteArray.size_extract]; have := hT64.out; omega
          obtain ⟨tm, htm⟩ : ∃ z, Hid (z = min s.size (i + 64)) := ⟨_, rfl⟩
          have hmin : min (s.size : Int) ((i : Int) + 64) = (tm : Int) := by have := htm.out; omega
          by_cases hlast : i + 64 = T.size
          · have h3 : (i : Int) + 64 = (T.size : Int) := by omega
            have hsle : (s.size : Int) ≤ (T.size : Int) := by have := hTn.out; omega
            have hsx2 : T.extract i T.size = sub := by rw [← hlast]; exact hsx
            go_wp2_with fail
            refine (block_any hl g N ab sub s.size true wr hhl hss (by omega) hH hTb).mono ?_
            rintro e w' ⟨g', rfl, hH', hb'⟩
            have hB' := hB.trans (hb'.mono hB.size)
            have hTb' := hTb.below hb' hTb.all.lt hTb.at'.lt
            have hnx : Hid (tgt = if i + 64 < T.size then dig (foldL hl (wordsL sub.data.toList) (UInt32.ofNat s.size) true) (s.data.toList.drop (i + 64)) (i + 64) else foldL hl (wordsL sub.data.toList) (UInt32.ofNat s.size) true) := by
              show _ = _
              have hbl := block_last hl s.data.toList T i nz hTl (by have := hTn.out; omega) hlast
              rw [hsl, Nat.min_eq_left (by have := hTn.out; omega)] at hbl
              rw [if_neg (by omega), ht.out, if_pos hlt, hsub.out, hbl]
            go_wp2
            go_roundw
            case rel => exact ⟨_, g', i + 64, rfl, by go_num, by omega, by have := hT64.out; omega, foldL_len _ _ _ _, hH', hTb', hB', hnx⟩
            case measure => simp [intOf]; omega
          · have h3 : ¬ (i : Int) + 64 = (T.size : Int) := by omega
            have h3b : ((i : Int) + 64 == (T.size : Int)) = false := by simpa using h3
            have hile : (i : Int) + 64 ≤ (s.size : Int) := by have := hTn.out; have := hT64.out; omega
            have hilt : ¬ (s.size : Int) ≤ (i : Int) + 64 := by have := hTn.out; have := hT64.out; omega
            go_wp2_with fail
            have cb := block_any hl g N ab sub (i + 64) false wr hhl hss (by omega) hH hTb
            rw [show ((i + 64 : Nat) : Int) = (i : Int) + 64 by omega] at cb
            refine cb.mono ?_
            rintro e w' ⟨g', rfl, hH', hb'⟩
            have hB' := hB.trans (hb'.mono hB.size)
            have hTb' := hTb.below hb' hTb.all.lt hTb.at'.lt
            have hnx : Hid (tgt = if i + 64 < T.size then dig (foldL hl (wordsL sub.data.toList) (UInt32.ofNat (i + 64)) false) (s.data.toList.drop (i + 64)) (i + 64) else foldL hl (wordsL sub.data.toList) (UInt32.ofNat (i + 64)) false) := by
              show _ = _
              have hbl := block_more hl s.data.toList T i nz hTl (by have := hTn.out; have := hT64.out; omega)
              rw [hsl, Nat.min_eq_right (by have := hTn.out; have := hT64.out; omega)] at hbl
              rw [if_pos (by have := hT64.out; omega), ht.out, if_pos hlt, hsub.out, hbl]
            go_wp2
            go_roundw
            case rel => exact ⟨_, g', i + 64, rfl, by go_num, by omega, by have := hT64.out; omega, foldL_len _ _ _ _, hH', hTb', hB', hnx⟩
            case measure => simp [intOf]; omega
        · have h1 : ¬ (i : Int) < (T.size : Int) := by omega
          have hend : tgt = hl := by rw [ht.out, if_neg hlt]
          have hfin : Hid (digestL s.data.toList k = textL hl) := by
            show _ = _
            unfold digestL
            rw [← htgt.out, hend]
          obtain ⟨Bs, hBs⟩ : ∃ z, z = wr.heap.size := ⟨_, rfl⟩
          have hgB : g < Bs := by rw [hBs]; exact hH.lt
          have hBw : w.heap.size ≤ Bs := by rw [hBs]; exact hB.size
          have hBle : Bs ≤ wr.heap.size := by omega
          clear hBs htgt ht hTb
          go_wp2
          go_loopw [11, 12] (fun v11 v12 wr => ∃ i : Nat, i ≤ 8 ∧ v12 = .int .i64 i ∧ wr.ownsRow Bs 5 1 v11 (4 * i) (((textL hl).take (4 * i)).map byteVal) ∧ Bs ≤ wr.heap.size ∧ Arr wr g 132 (hl.map wv) ∧ Below w.heap.size w wr) (fun _ v12 _ => 8 - (intOf v12).toNat)
          case atStart => exact ⟨0, Nat.zero_le _, rfl, World.ownsRow_nil _ _ _ _, hBle, hH, hB⟩
          case round =>
            clear hH hB hBle
            obtain ⟨i, hi8, rfl, hown, hBle, hH, hB⟩ := hrel
            by_cases hlt : i < 8
            · have h1 : (i : Int) < 8 := by omega
              have h0 : (0 : Int) ≤ (i : Int) := by omega
              obtain ⟨x, hx⟩ : ∃ z, Hid (z = hl.getD i 0) := ⟨_, rfl⟩
              have c1 : wr.cell? ⟨g, i, none⟩ = some (.int .u32 (x.toNat : Int)) := by
                rw [hx.out]; exact hH.cell (getD_get hl i (by omega))
              go_wp2
              have hO1 : ((wr.alloc (.cells #[.int .u8 (IntKind.u8.wrap (x.toNat : Int)), .int .u8 (IntKind.u8.wrap (IntKind.u32.wrap ((x.toNat : Int) / 256))), .int .u8 (IntKind.u8.wrap (IntKind.u32.wrap ((x.toNat : Int) / 65536))), .int .u8 (IntKind.u8.wrap (IntKind.u32.wrap ((x.toNat : Int) / 16777216)))] 5)).drew).ownsRow Bs 5 1 u11 (4 * i) (((textL hl).take (4 * i)).map byteVal) := hown.alloc _
              have hN1 : ∀ j u, ([.int .u8 (IntKind.u8.wrap (x.toNat : Int)), .int .u8 (IntKind.u8.wrap (IntKind.u32.wrap ((x.toNat : Int) / 256))), .int .u8 (IntKind.u8.wrap (IntKind.u32.wrap ((x.toNat : Int) / 65536))), .int .u8 (IntKind.u8.wrap (IntKind.u32.wrap ((x.toNat : Int) / 16777216)))] : List Value)[j]? = some u → ((wr.alloc (.cells #[.int .u8 (IntKind.u8.wrap (x.toNat : Int)), .int .u8 (IntKind.u8.wrap (IntKind.u32.wrap ((x.toNat : Int) / 256))), .int .u8 (IntKind.u8.wrap (IntKind.u32.wrap ((x.toNat : Int) / 65536))), .int .u8 (IntKind.u8.wrap (IntKind.u32.wrap ((x.toNat : Int) / 16777216)))] 5)).drew).cell? ((⟨wr.heap.size, 0, none⟩ : Addr).add j) = some u := by
                intro j u hj
                rw [Addr.add_mid, Nat.zero_add]
                exact (Arr.new wr 5 [.int .u8 (IntKind.u8.wrap (x.toNat : Int)), .int .u8 (IntKind.u8.wrap (IntKind.u32.wrap ((x.toNat : Int) / 256))), .int .u8 (IntKind.u8.wrap (IntKind.u32.wrap ((x.toNat : Int) / 65536))), .int .u8 (IntKind.u8.wrap (IntKind.u32.wrap ((x.toNat : Int) / 16777216)))]).drew.cell hj
              have hN2 : ∀ u ∈ ([.int .u8 (IntKind.u8.wrap (x.toNat : Int)), .int .u8 (IntKind.u8.wrap (IntKind.u32.wrap ((x.toNat : Int) / 256))), .int .u8 (IntKind.u8.wrap (IntKind.u32.wrap ((x.toNat : Int) / 65536))), .int .u8 (IntKind.u8.wrap (IntKind.u32.wrap ((x.toNat : Int) / 16777216)))] : List Value), u.oneCell' = true := by
                rw [four_vals]
                intro u hu
                obtain ⟨b, _, rfl⟩ := List.mem_map.1 hu
                rfl
              have hN3 : Bs ≤ ((wr.alloc (.cells #[.int .u8 (IntKind.u8.wrap (x.toNat : Int)), .int .u8 (IntKind.u8.wrap (IntKind.u32.wrap ((x.toNat : Int) / 256))), .int .u8 (IntKind.u8.wrap (IntKind.u32.wrap ((x.toNat : Int) / 65536))), .int .u8 (IntKind.u8.wrap (IntKind.u32.wrap ((x.toNat : Int) / 16777216)))] 5)).drew).heap.size := by show Bs ≤ (wr.alloc _).heap.size; rw [alloc_size]; omega
              have hN4 : ((wr.alloc (.cells #[.int .u8 (IntKind.u8.wrap (x.toNat : Int)), .int .u8 (IntKind.u8.wrap (IntKind.u32.wrap ((x.toNat : Int) / 256))), .int .u8 (IntKind.u8.wrap (IntKind.u32.wrap ((x.toNat : Int) / 65536))), .int .u8 (IntKind.u8.wrap (IntKind.u32.wrap ((x.toNat : Int) / 16777216)))] 5)).drew).heap.size = wr.heap.size + 1 := alloc_size wr _
              have hN5 : 4 * i + 4 ≤ maxLen := by unfold maxLen; omega
              have hN6 : (4 * i + 4) * 1 ≤ 140737488355328 := by omega
              have hkeep : ∀ w2, ((wr.alloc (.cells #[.int .u8 (IntKind.u8.wrap (x.toNat : Int)), .int .u8 (IntKind.u8.wrap (IntKind.u32.wrap ((x.toNat : Int) / 256))), .int .u8 (IntKind.u8.wrap (IntKind.u32.wrap ((x.toNat : Int) / 65536))), .int .u8 (IntKind.u8.wrap (IntKind.u32.wrap ((x.toNat : Int) / 16777216)))] 5)).drew).grownBy w2 u11.ownBlock → Below Bs wr w2 := fun w2 hg => (((Below.refl Bs wr).alloc hBle _).drew).grown hg hN3 (fun k hk => (hO1.lt k hk).1)
              have hkeep2 : ∀ w2, ((wr.alloc (.cells #[.int .u8 (IntKind.u8.wrap (x.toNat : Int)), .int .u8 (IntKind.u8.wrap (IntKind.u32.wrap ((x.toNat : Int) / 256))), .int .u8 (IntKind.u8.wrap (IntKind.u32.wrap ((x.toNat : Int) / 65536))), .int .u8 (IntKind.u8.wrap (IntKind.u32.wrap ((x.toNat : Int) / 16777216)))] 5)).drew).grownBy w2 u11.ownBlock → w2.cell? ⟨g, i, none⟩ = some (.int .u32 (x.toNat : Int)) := fun w2 hg => by
                rw [(hkeep w2 hg).cell (p := ⟨g, i, none⟩) hgB]; exact c1
              go_region_held3 (fun w' => w'.cell? ⟨g, i, none⟩ = some (.int .u32 (x.toNat : Int))) (first | go_keep | (apply hkeep2; assumption))
                ((refine step_append_lies _ (by rfl) _ _ 65 (by rfl) Bs 5 iB (.int .u8 0) 1 1 Tryz.underlying65 hiB hb0 hb1 hb2 rfl (by decide) _ (4 * i) (((textL hl).take (4 * i)).map byteVal) (by rfl) hO1 ⟨wr.heap.size, 0, none⟩ 4 4 [.int .u8 (IntKind.u8.wrap (x.toNat : Int)), .int .u8 (IntKind.u8.wrap (IntKind.u32.wrap ((x.toNat : Int) / 256))), .int .u8 (IntKind.u8.wrap (IntKind.u32.wrap ((x.toNat : Int) / 65536))), .int .u8 (IntKind.u8.wrap (IntKind.u32.wrap ((x.toNat : Int) / 16777216)))] (by rfl) (by rfl) hN1 hN2 (by decide) hN5 hN6 hN3 (wr.heap.size + 1) hN4 ?_; intro g2 cap2 w2 hown2 hgrow2 hat2 hlt2))
              have hbw := hkeep w2 hgrow2
              have hH2 := hH.below hbw hgB
              have hB2' := hB.trans (hbw.mono hBw)
              have hBl2 : Bs ≤ w2.heap.size := Nat.le_trans hBle hbw.size
              rw [four_vals, ← List.map_append, hx.out, ← text_step hl i hlt] at hown2
              clear hkeep hkeep2 hN1 hN2 hN3 hN4 hO1 hgrow2
              go_wp2
              go_roundw
              case rel => exact ⟨i + 1, by omega, by go_num, hown2, hBl2, hH2, hB2'⟩
              case measure => simp [intOf]; omega
            · obtain rfl : i = 8 := by omega
              have h1 : ¬ (8 : Int) < 8 := by omega
              have hl32 : (textL hl).length = 32 := by simp [textL]
              rw [List.take_of_length_le (by omega)] at hown
              have hcv := own_string (l := textL hl) (by rw [hl32]; exact hown)
              go_wp2
              go_ret
              refine ⟨?_, hB⟩
              rw [hfin.out]
              rfl
end Go.Proofs.YtajpfkenhchafaaGreatDoor.Mx

/- What the reference's Sum, Keyed and Short do; nothing old in memory is turned. -/
namespace Go.Proofs.YtajpfkenhchafaaGreatDoor.Mx
open Go.RowKit Go.Sort
set_option linter.unusedVariables false

set_option maxRecDepth 100000 in
theorem refSum_any (s : ByteArray) (w : World) (hs : s.size ≤ 1073741824) :
    Calls Tryz.prog 42 #[.string s] w fun e w' => e = .returned (.string (bytes (sumL s.data.toList))) ∧ Below w.heap.size w w' := by
  go_enter Tryz.func42, Tryz.ntmps42
  go_wp2_with fail
  refine (refDigest_any s 0 w hs (by decide)).mono ?_
  rintro e w' ⟨rfl, hB⟩
  go_wp2
  go_ret
  exact ⟨rfl, hB⟩
end Go.Proofs.YtajpfkenhchafaaGreatDoor.Mx
