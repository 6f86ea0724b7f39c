/- What the reference's block does: eight words turned by a block's words; nothing old in memory is turned. -/
import Derived.Test.YtlbibhngfnllbaaDoorRefMixSmall
import Derived.Test.YtlbibhngfnllbaaDoorMixBlend
import Derived.Test.YtlbibhngfnllbaaDoorRegionHead
import Derived.BigRegion
import Derived.Deep.AppendLies
namespace Go.Proofs.YtlbibhngfnllbaaDoor
open Go.RowKit Go.Sort
set_option linter.unusedVariables false

theorem infoWord : (Tryd.prog.info? 58).map (fun i => (i.zero, i.size, i.bytes)) = some (some (.int .u32 0), 1, 4) := by kernel_rfl

theorem make16 (w : World) : (Instr.makeSlice 66 (.int .i64 16) (.int .i64 16)).run Tryd.prog w = .ok (.slice (some ⟨w.heap.size, 0, none⟩) 16 16) (w.alloc (.cells (List.replicate 16 (Value.int .u32 0)).toArray 58)) := by kernel_rfl
theorem make8 (w : World) : (Instr.makeSlice 66 (.int .i64 8) (.int .i64 8)).run Tryd.prog w = .ok (.slice (some ⟨w.heap.size, 0, none⟩) 8 8) (w.alloc (.cells (List.replicate 8 (Value.int .u32 0)).toArray 58)) := by kernel_rfl

/-- The words of a text of sixty-four bytes, one by one. -/
def mCells (s : List UInt8) (i : Nat) : List Value := (List.range 16).map fun j => if j < i then wv (wordAt s j) else .int .u32 0

theorem mCells_step (s : List UInt8) (i : Nat) : mCells s (i + 1) = (mCells s i).set i (wv (wordAt s i)) := by
  unfold mCells
  apply List.ext_getElem
  · simp
  · intro j h1 h2
    simp only [List.getElem_map, List.getElem_range, List.getElem_set]
    by_cases e : i = j
    · subst e; simp
    · rw [if_neg e]
      by_cases hj : j < i
      · rw [if_pos hj, if_pos (by omega)]
      · rw [if_neg hj, if_neg (by omega)]

theorem mCells_all (s : List UInt8) : mCells s 16 = (wordsL s).map wv := by
  unfold mCells wordsL
  rw [List.map_map]
  apply List.map_congr_left
  intro j hj
  rw [if_pos (List.mem_range.1 hj)]
  rfl

theorem word_sub (s : ByteArray) (i : Nat) (h : 4 * i + 4 ≤ s.size) : wordAt (s.extract (4 * i) (4 * i + 4)).data.toList 0 = wordAt s.data.toList i := by
  have e : ∀ k, k < 4 → byteAt (s.extract (4 * i) (4 * i + 4)).data.toList k = byteAt s.data.toList (4 * i + k) := fun k hk => by
    unfold byteAt
    congr 1
    simp only [ByteArray.data_extract, Array.toList_extract, List.extract_eq_take_drop, List.getD]
    rw [List.getElem?_take, if_pos (by omega), List.getElem?_drop]
  unfold wordAt
  simp only [Nat.mul_zero, Nat.zero_add]
  rw [e 0 (by omega), e 1 (by omega), e 2 (by omega), e 3 (by omega), Nat.add_zero]

/-- The tables of the reference. -/
structure Tabs (w : World) (N ab : Nat) : Prop where
  rows : ∀ i, i < 10 → Arr w (N + i) 3 ((rowL i).map iv)
  all : Arr w (N + 10) 70 ((List.range 10).map (rowSlice N))
  at' : Arr w ab 3 (places.map iv)

theorem Tabs.below {w w' : World} {N ab B : Nat} (h : Tabs w N ab) (hb : Below B w w') (h1 : N + 10 < B) (h2 : ab < B) : Tabs w' N ab :=
  ⟨fun i hi => (h.rows i hi).below hb (by omega), h.all.below hb h1, h.at'.below hb h2⟩

/-- The first k of the eight mixings. -/
def stirP (ws ms : List UInt32) (rs : List Nat) : Nat → List UInt32
  | 0 => ws
  | k + 1 => stepQ (stirP ws ms rs k) (places.getD (4 * k) 0) (places.getD (4 * k + 1) 0) (places.getD (4 * k + 2) 0) (places.getD (4 * k + 3) 0) (ms.getD (rs.getD (2 * k) 0) 0) (ms.getD (rs.getD (2 * k + 1) 0) 0)

theorem stirP_all (ws ms : List UInt32) (rs : List Nat) : stirP ws ms rs 8 = stirL ws ms rs := rfl
theorem stirP_len (ws ms : List UInt32) (rs : List Nat) : ∀ k, (stirP ws ms rs k).length = ws.length
  | 0 => rfl
  | k + 1 => by rw [stirP, stepQ_len, stirP_len ws ms rs k]

theorem places_lt : ∀ i, i < 32 → places.getD i 0 < 16 := by decide
theorem places_ne : ∀ k, k < 8 → places.getD (4 * k) 0 ≠ places.getD (4 * k + 1) 0 ∧ places.getD (4 * k) 0 ≠ places.getD (4 * k + 2) 0 ∧ places.getD (4 * k) 0 ≠ places.getD (4 * k + 3) 0 ∧
    places.getD (4 * k + 1) 0 ≠ places.getD (4 * k + 2) 0 ∧ places.getD (4 * k + 1) 0 ≠ places.getD (4 * k + 3) 0 ∧ places.getD (4 * k + 2) 0 ≠ places.getD (4 * k + 3) 0 := by decide
theorem row_get : ∀ i, i < 10 → ∀ j, j < 16 → (rowL i).getD j 0 < 16 := by decide

theorem spare_get (l : List UInt32) (sp : List Value) (i : Nat) (h : i < l.length) : (l.map wv ++ sp)[i]? = some (wv (l.getD i 0)) := by
  rw [List.getElem?_append_left (by simpa using h)]
  exact getD_get l i h
theorem spare_set (l : List UInt32) (sp : List Value) (i : Nat) (x : UInt32) (h : i < l.length) : (l.map wv ++ sp).set i (wv x) = (l.set i x).map wv ++ sp := by
  rw [List.set_append_left _ _ (by simpa using h), List.map_set]
theorem iv_get (l : List Nat) (i : Nat) (h : i < l.length) : (l.map iv)[i]? = some (iv (l.getD i 0)) := by
  simp [List.getElem?_eq_getElem h]

/-- The cells of what comes out while they are laid. -/
def foldCells (l : List UInt32) (i : Nat) : List Value := (List.range 8).map fun j => if j < i then wv (l.getD j 0) else .int .u32 0

theorem foldCells_step (l : List UInt32) (i : Nat) : foldCells l (i + 1) = (foldCells l i).set i (wv (l.getD i 0)) := by
  unfold foldCells
  apply List.ext_getElem
  · simp
  · intro j h1 h2
    simp only [List.getElem_map, List.getElem_range, List.getElem_set]
    by_cases e : i = j
    · subst e; simp
    · rw [if_neg e]
      by_cases hj : j < i
      · rw [if_pos hj, if_pos (by omega)]
      · rw [if_neg hj, if_neg (by omega)]

theorem foldCells_all (l : List UInt32) (hl : l.length = 8) : foldCells l 8 = l.map wv := by
  match l, hl with
  | [a, b, c, d, e, f, g, k], _ => rfl

theorem foldL_get (h m : List UInt32) (t : UInt32) (last : Bool) (i : Nat) (hi : i < 8) : (foldL h m t last).getD i 0 = wxor (wxor (h.getD i 0) ((rounds m (startL h t last) 10).getD i 0)) ((rounds m (startL h t last) 10).getD (i + 8) 0) := by
  rw [wxor_assoc]
  simp [foldL, List.getD, hi]

set_option maxRecDepth 100000 in
set_option maxHeartbeats 400000 in
theorem block_false (hs : List UInt32) (hb N ab : Nat) (s : ByteArray) (t : Nat) (w : World) (hh : hs.length = 8) (hsz : s.size = 64) (ht : t ≤ 140737488351232)
    (hH : Arr w hb 58 (hs.map wv)) (hT : Tabs w N ab) :
    Calls Tryd.prog 42 #[.slice (some ⟨hb, 0, none⟩) 8 8, .slice (some ⟨N + 10, 0, none⟩) 10 10, .slice (some ⟨ab, 0, none⟩) 32 32, .string s, .int .i64 (t : Int), .bool false] w
      fun e w' => ∃ g, e = .returned (.slice (some ⟨g, 0, none⟩) 8 8) ∧ Arr w' g 58 ((foldL hs (wordsL s.data.toList) (UInt32.ofNat t) false).map wv) ∧ Below w.heap.size w w' := by
  have X := fold_xor
  have hmk := make16 w
  obtain ⟨i0, hi, hz0, hz1, hz2⟩ := info_parts infoWord
  have hs64 : (s.size : Int) = 64 := by omega
  go_enter Tryd.func42, Tryd.ntmps42
  go_wp2
  go_loopw [14] (fun v14 wr => ∃ i : Nat, i ≤ 16 ∧ v14 = .int .i64 i ∧ Arr wr w.heap.size 58 (mCells s.data.toList i) ∧ Below w.heap.size w wr) (fun v14 _ => 16 - (intOf v14).toNat)
  case atStart =>
    exact ⟨0, Nat.zero_le _, rfl, Arr.new w 58 (List.replicate 16 (.int .u32 0)), (Below.refl _ w).alloc (Nat.le_refl _) _⟩
  case round =>
    obtain ⟨i, hi16, rfl, hM, hB⟩ := hrel
    by_cases hlt : i < 16
    · have h1 : (i : Int) < 16 := by omega
      have h0 : (0 : Int) ≤ (i : Int) := by omega
      obtain ⟨sub, hsub⟩ : ∃ z, Hid (z = s.extract (4 * i) (4 * i + 4)) := ⟨_, rfl⟩
      have hsx : s.extract (4 * i) (4 * i + 4) = sub := hsub.out.symm
      have hss : sub.size = 4 := by rw [hsub.out, ByteArray.size_extract]; omega
      have f1 := hM.frozen i
      have d1 : wr.cell? ⟨w.heap.size, i, none⟩ = some (.int .u32 0) := hM.cell (by simp [mCells, hlt])
      go_wp2_with fail
      refine (number_any sub wr hss).mono ?_
      rintro e w' ⟨rfl, nq, rfl⟩
      rw [hsub.out, word_sub s i (by omega)]
      go_wp2
      have hM' := (hM.drewN nq).set i (wv (wordAt s.data.toList i))
      rw [← mCells_step] at hM'
      go_roundw
      case rel => exact ⟨i + 1, by omega, by go_num, hM', (below_drewN hB nq).setCell (Nat.le_refl _) _⟩
      case measure => simp [intOf]; omega
    · obtain rfl : i = 16 := by omega
      rw [mCells_all] at hM
      have hH1 := hH.below hB hH.lt
      have hT1 : Tabs wr N ab := hT.below hB hT.all.lt hT.at'.lt
      clear hmk
      have hwr := hB.size
      go_wp2_with (at_builtin; refine wpList_append_lies _ (by rfl) _ _ 66 (by rfl) wr.heap.size 58 i0 (.int .u32 0) 1 4 Tryd.underlying66 hi hz0 hz1 hz2 rfl (by decide) _ 0 [] (by rfl) ?a1 ⟨hb, 0, none⟩ 8 8 (hs.map wv) (by rfl) ?a2 ?a3 ?a4 (by decide) (by decide) (by decide) ?a5 (wr.heap.size + 1) ?a6 ?_)
      case a1 => exact ⟨rfl, .inr ⟨_, 0, #[], rfl, Nat.le_refl _, heap_alloc_new wr _, Nat.le_refl _, by decide, rfl, rfl⟩⟩
      case a2 => simp [hh]
      case a3 =>
        intro j u hj
        rw [Addr.add_mid, Nat.zero_add]
        exact (hH1.alloc _).cell hj
      case a4 =>
        intro u hu
        obtain ⟨x, _, rfl⟩ := List.mem_map.1 hu
        rfl
      case a5 => rw [alloc_size]; omega
      case a6 => rw [alloc_size]
      intro g1 cap1 w6 hown1 hgrow1 hat1 hlt1
      have hB6 : Below wr.heap.size wr w6 := ((Below.refl _ wr).alloc (Nat.le_refl _) _).grown hgrow1 (by rw [alloc_size]; omega) (fun k hk => by cases hk; exact Nat.le_refl _)
      have h6s := hB6.size
      go_wp2_with fail
      refine (firsts_any w6).mono ?_
      rintro e w' ⟨rfl, rfl⟩
      have hB7 : Below wr.heap.size wr (w6.alloc (.cells (firstsL.map wv).toArray 58)) := hB6.alloc h6s _
      go_wp2_with (at_builtin; refine wpList_append_lies _ (by rfl) _ _ 66 (by rfl) wr.heap.size 58 i0 (.int .u32 0) 1 4 Tryd.underlying66 hi hz0 hz1 hz2 rfl (by decide) _ 8 (hs.map wv) (by rfl) ?b1 ⟨w6.heap.size, 0, none⟩ 8 8 (firstsL.map wv) (by rfl) (by rfl) ?b3 ?b4 (by decide) (by decide) (by decide) ?b5 (w6.heap.size + 1) ?b6 ?_)
      case b1 => exact hown1.alloc _
      case b3 =>
        intro j u hj
        rw [Addr.add_mid, Nat.zero_add]
        exact (Arr.new w6 58 (firstsL.map wv)).cell hj
      case b4 =>
        intro u hu
        obtain ⟨x, _, rfl⟩ := List.mem_map.1 hu
        rfl
      case b5 => rw [alloc_size]; omega
      case b6 => rw [alloc_size]
      intro g cap w8 hown hgrow hat2 hlt2
      have hB8 : Below wr.heap.size wr w8 := hB7.grown hgrow (by rw [alloc_size]; omega) (fun k hk => by
        cases hk
        rcases hown1.2 with ⟨h, _⟩ | ⟨g', _, _, h, hge, _⟩
        · cases h
        · cases h; exact hge)
      obtain ⟨sp, hW, hgw, hcap⟩ : ∃ sp, Arr w8 g 58 ((hs ++ firstsL).map wv ++ sp) ∧ wr.heap.size ≤ g ∧ 16 ≤ cap := by
        rcases hown.2 with ⟨h, _⟩ | ⟨g', cap', cur, h, hge, hcur, hc1, _, hc2, hc3⟩
        · cases h
        · cases h
          refine ⟨cur.toList.drop 16, ?_, hge, hc1⟩
          unfold Arr
          rw [hcur]
          have e : cur.toList.take 16 = (hs ++ firstsL).map wv := by simpa using hc3
          rw [← e, List.take_append_drop]
      have hM8 := hM.below hB8 hM.lt
      have hB9 := hB.trans (hB8.mono hwr)
      have hgN : w.heap.size < g := by have := hM.lt; omega
      clear hown1 hgrow1 hat1 hlt1 hB6 h6s hB7 hown hgrow hat2 hlt2 hB8 hM hT1 hH1 hB
      obtain ⟨m, hm⟩ : ∃ z, Hid (z = wordsL s.data.toList) := ⟨_, rfl⟩
      have hml : m.length = 16 := by rw [hm.out]; exact wordsL_len _
      rw [← hm.out] at hM8
      have gne : ¬ (g = w.heap.size) := by omega
      have hl16 : (hs ++ firstsL).length = 16 := by simp [hh, firstsL]
      obtain ⟨x, hx⟩ : ∃ z, Hid (z = (hs ++ firstsL).getD 12 0) := ⟨_, rfl⟩
      have c12 : w8.cell? ⟨g, 12, none⟩ = some (.int .u32 (x.toNat : Int)) := by
        rw [hx.out]; exact hW.cell (spare_get _ sp 12 (by omega))
      have f12 := hW.frozen 12
      obtain ⟨tt, htt⟩ : ∃ z, Hid (z = UInt32.ofNat t) := ⟨_, rfl⟩
      have hte : (t : Int) % 4294967296 = (tt.toNat : Int) := by rw [htt.out, UInt32.toNat_ofNat']; omega
      have hS : Arr (w8.setCell ⟨g, 12, none⟩ (wv (wxor x tt))) g 58 ((startL hs tt false).map wv ++ sp) := by
        have := hW.set 12 (wv (wxor x tt))
        rw [spare_set _ _ _ _ (by omega)] at this
        have e : startL hs tt false = (hs ++ firstsL).set 12 (wxor x tt) := by
          rw [hx.out]; rfl
        rw [e]; exact this
      obtain ⟨s0, hs0⟩ : ∃ z, Hid (z = startL hs tt false) := ⟨_, rfl⟩
      have hsl : s0.length = 16 := by rw [hs0.out]; exact startL_len hs tt false hh
      rw [← hs0.out] at hS
      go_wp2
      go_loopw [16] (fun v16 wr => ∃ i : Nat, i ≤ 10 ∧ v16 = .int .i64 i ∧ Arr wr g 58 ((rounds m s0 i).map wv ++ sp) ∧ Arr wr w.heap.size 58 (m.map wv) ∧ Below w.heap.size w wr) (fun v16 _ => 10 - (intOf v16).toNat)
      case atStart => exact ⟨0, Nat.zero_le _, rfl, hS, hM8.other (Ne.symm gne) _, hB9.setCell (Nat.le_of_lt hgN) _⟩
      case round =>
        clear hS hM8 hB9 hW c12 f12
        obtain ⟨i, hi10, rfl, hW, hM, hB⟩ := hrel
        by_cases hlt : i < 10
        · have h1 : (i : Int) < 10 := by omega
          have h0 : (0 : Int) ≤ (i : Int) := by omega
          have hT2 := hT.below hB hT.all.lt hT.at'.lt
          have cR : wr.cell? ⟨N + 10, i, none⟩ = some (.slice (some ⟨N + i, 0, none⟩) 16 16) := hT2.all.cell (by simp [hlt, rowSlice])
          go_wp2
          go_loopw [18] (fun v18 wr => ∃ k : Nat, k ≤ 8 ∧ v18 = .int .i64 k ∧ Arr wr g 58 ((stirP (rounds m s0 i) m (rowL i) k).map wv ++ sp) ∧ Arr wr w.heap.size 58 (m.map wv) ∧ Below w.heap.size w wr) (fun v18 _ => 8 - (intOf v18).toNat)
          case atStart => exact ⟨0, Nat.zero_le _, rfl, hW, hM, hB⟩
          case round =>
            clear hW hM hB hT2 cR
            obtain ⟨k, hk8, rfl, hW, hM, hB⟩ := hrel
            by_cases hlt2 : k < 8
            · have k1 : (k : Int) < 8 := by omega
              have k0 : (0 : Int) ≤ (k : Int) := by omega
              have hT2 := hT.below hB hT.all.lt hT.at'.lt
              obtain ⟨n1, n2, n3, n4, n5, n6⟩ := places_ne k hlt2
              have pl0 := places_lt (4 * k) (by omega)
              have pl1 := places_lt (4 * k + 1) (by omega)
              have pl2 := places_lt (4 * k + 2) (by omega)
              have pl3 := places_lt (4 * k + 3) (by omega)
              have cp0 : wr.cell? ⟨ab, 4 * k, none⟩ = some (iv (places.getD (4 * k) 0)) := hT2.at'.cell (iv_get _ _ (by simp [places]; omega))
              have cp1 : wr.cell? ⟨ab, 4 * k + 1, none⟩ = some (iv (places.getD (4 * k + 1) 0)) := hT2.at'.cell (iv_get _ _ (by simp [places]; omega))
              have cp2 : wr.cell? ⟨ab, 4 * k + 2, none⟩ = some (iv (places.getD (4 * k + 2) 0)) := hT2.at'.cell (iv_get _ _ (by simp [places]; omega))
              have cp3 : wr.cell? ⟨ab, 4 * k + 3, none⟩ = some (iv (places.getD (4 * k + 3) 0)) := hT2.at'.cell (iv_get _ _ (by simp [places]; omega))
              have cr0 : wr.cell? ⟨N + i, 2 * k, none⟩ = some (iv ((rowL i).getD (2 * k) 0)) := (hT2.rows i hlt).cell (iv_get _ _ (by rw [rowL_len i hlt]; omega))
              have cr1 : wr.cell? ⟨N + i, 2 * k + 1, none⟩ = some (iv ((rowL i).getD (2 * k + 1) 0)) := (hT2.rows i hlt).cell (iv_get _ _ (by rw [rowL_len i hlt]; omega))
              have rl0 := row_get i hlt (2 * k) (by omega)
              have rl1 := row_get i hlt (2 * k + 1) (by omega)
              obtain ⟨ws, hws⟩ : ∃ z, Hid (z = stirP (rounds m s0 i) m (rowL i) k) := ⟨_, rfl⟩
              have hwl : ws.length = 16 := by rw [hws.out, stirP_len, rounds_len]; exact hsl
              rw [← hws.out] at hW
              have hnext : Hid (stirP (rounds m s0 i) m (rowL i) (k + 1) = stepQ ws (places.getD (4 * k) 0) (places.getD (4 * k + 1) 0) (places.getD (4 * k + 2) 0) (places.getD (4 * k + 3) 0) (m.getD ((rowL i).getD (2 * k) 0) 0) (m.getD ((rowL i).getD (2 * k + 1) 0) 0)) := by
                show _ = _
                rw [stirP, ← hws.out]
              generalize places.getD (4 * k) 0 = p at *
              generalize places.getD (4 * k + 1) 0 = q at *
              generalize places.getD (4 * k + 2) 0 = u at *
              generalize places.getD (4 * k + 3) 0 = v at *
              generalize (rowL i).getD (2 * k) 0 = r0 at *
              generalize (rowL i).getD (2 * k + 1) 0 = r1 at *
              unfold iv at cp0 cp1 cp2 cp3 cr0 cr1
              obtain ⟨x0, hx0⟩ : ∃ z, Hid (z = m.getD r0 0) := ⟨_, rfl⟩
              obtain ⟨x1, hx1⟩ : ∃ z, Hid (z = m.getD r1 0) := ⟨_, rfl⟩
              obtain ⟨wp, hwp⟩ : ∃ z, Hid (z = ws.getD p 0) := ⟨_, rfl⟩
              obtain ⟨wq, hwq⟩ : ∃ z, Hid (z = ws.getD q 0) := ⟨_, rfl⟩
              obtain ⟨wu, hwu⟩ : ∃ z, Hid (z = ws.getD u 0) := ⟨_, rfl⟩
              obtain ⟨wv', hwv⟩ : ∃ z, Hid (z = ws.getD v 0) := ⟨_, rfl⟩
              have cm0 : wr.cell? ⟨w.heap.size, r0, none⟩ = some (.int .u32 (x0.toNat : Int)) := by rw [hx0.out]; exact hM.cell (getD_get m r0 (by omega))
              have cm1 : wr.cell? ⟨w.heap.size, r1, none⟩ = some (.int .u32 (x1.toNat : Int)) := by rw [hx1.out]; exact hM.cell (getD_get m r1 (by omega))
              have cwp : wr.cell? ⟨g, p, none⟩ = some (.int .u32 (wp.toNat : Int)) := by rw [hwp.out]; exact hW.cell (spare_get ws sp p (by omega))
              have cwq : wr.cell? ⟨g, q, none⟩ = some (.int .u32 (wq.toNat : Int)) := by rw [hwq.out]; exact hW.cell (spare_get ws sp q (by omega))
              have cwu : wr.cell? ⟨g, u, none⟩ = some (.int .u32 (wu.toNat : Int)) := by rw [hwu.out]; exact hW.cell (spare_get ws sp u (by omega))
              have cwv : wr.cell? ⟨g, v, none⟩ = some (.int .u32 (wv'.toNat : Int)) := by rw [hwv.out]; exact hW.cell (spare_get ws sp v (by omega))
              have fp := hW.frozen p
              have fq := hW.frozen q
              have fu := hW.frozen u
              have fv := hW.frozen v
              have i1 : (p : Int) < 16 := by omega
              have i2 : (q : Int) < 16 := by omega
              have i3 : (u : Int) < 16 := by omega
              have i4 : (v : Int) < 16 := by omega
              have i5 : (r0 : Int) < 16 := by omega
              have i6 : (r1 : Int) < 16 := by omega
              obtain ⟨z, hz⟩ : ∃ z, Hid (z = quad wp wq wu wv' x0 x1) := ⟨_, rfl⟩
              have cb : ∀ W : World, Calls Tryd.prog 45 #[.int .u32 (wp.toNat : Int), .int .u32 (wq.toNat : Int), .int .u32 (wu.toNat : Int), .int .u32 (wv'.toNat : Int), .int .u32 (x0.toNat : Int), .int .u32 (x1.toNat : Int)] W fun e w' => e = .returned (.tuple #[.int .u32 (z.a.toNat : Int), .int .u32 (z.b.toNat : Int), .int .u32 (z.c.toNat : Int), .int .u32 (z.d.toNat : Int)]) ∧ ∃ m, w' = W.drewN m := fun W => by
                rw [hz.out]; exact mixed_any _ _ _ _ _ _ W
              replace hnext : Hid _ := hnext
              have m1 : ¬ (p = q) := n1
              have m2 : ¬ (p = u) := n2
              have m3 : ¬ (p = v) := n3
              have m4 : ¬ (q = u) := n4
              have m5 : ¬ (q = v) := n5
              have m6 : ¬ (u = v) := n6
              clear hT2
              go_wp2
              go_big_quiet (fail)
              go_wp2
              clear cp0 cp1 cp2 cp3
              replace cwp : (wr.drewN nq).cell? ⟨g, p, none⟩ = _ := cwp
              replace cwq : (wr.drewN nq).cell? ⟨g, q, none⟩ = _ := cwq
              replace cwu : (wr.drewN nq).cell? ⟨g, u, none⟩ = _ := cwu
              replace cwv : (wr.drewN nq).cell? ⟨g, v, none⟩ = _ := cwv
              replace cm0 : (wr.drewN nq).cell? ⟨w.heap.size, r0, none⟩ = _ := cm0
              replace cm1 : (wr.drewN nq).cell? ⟨w.heap.size, r1, none⟩ = _ := cm1
              replace cr0 : (wr.drewN nq).cell? ⟨N + i, 2 * k, none⟩ = _ := cr0
              replace cr1 : (wr.drewN nq).cell? ⟨N + i, 2 * k + 1, none⟩ = _ := cr1
              replace fp : (wr.drewN nq).frozen? ⟨g, p, none⟩ = _ := fp
              replace fq : (wr.drewN nq).frozen? ⟨g, q, none⟩ = _ := fq
              replace fu : (wr.drewN nq).frozen? ⟨g, u, none⟩ = _ := fu
              replace fv : (wr.drewN nq).frozen? ⟨g, v, none⟩ = _ := fv
              replace hW := hW.drewN nq
              replace hM := hM.drewN nq
              replace hB := below_drewN hB nq
              generalize wr.drewN nq = wy at *
              go_big_quiet (exact Calls.quiet_of (cb _))
              clear cb
              go_wp2
              have hW' := ((((hW.drewN nq).set p (wv z.a)).set q (wv z.b)).set u (wv z.c)).set v (wv z.d)
              rw [spare_set _ _ _ _ (by omega), spare_set _ _ _ _ (by simp; omega), spare_set _ _ _ _ (by simp; omega), spare_set _ _ _ _ (by simp; omega)] at hW'
              have hst : (((ws.set p z.a).set q z.b).set u z.c).set v z.d = stirP (rounds m s0 i) m (rowL i) (k + 1) := by
                rw [hnext.out, hz.out, hwp.out, hwq.out, hwu.out, hwv.out, hx0.out, hx1.out]
                rfl
              rw [hst] at hW'
              exact ⟨⟨k + 1, by omega, by simp, hW', ((((hM.drewN nq).other (Ne.symm gne) _).other (Ne.symm gne) _).other (Ne.symm gne) _).other (Ne.symm gne) _, ((((below_drewN hB nq).setCell (Nat.le_of_lt hgN) _).setCell (Nat.le_of_lt hgN) _).setCell (Nat.le_of_lt hgN) _).setCell (Nat.le_of_lt hgN) _⟩, by simp [intOf]; omega⟩
            · obtain rfl : k = 8 := by omega
              rw [stirP_all] at hW
              go_wp2
              exact ⟨⟨i + 1, by omega, by simp, hW, hM, hB⟩, by simp [intOf]; omega⟩
        · obtain rfl : i = 10 := by omega
          obtain ⟨s1, hs1⟩ : ∃ z, Hid (z = rounds m s0 10) := ⟨_, rfl⟩
          have hsl1 : s1.length = 16 := by rw [hs1.out, rounds_len]; exact hsl
          rw [← hs1.out] at hW
          have hmk8 := make8 wr
          obtain ⟨G, hG⟩ : ∃ z, z = wr.heap.size := ⟨_, rfl⟩
          have hgG : g < G := by rw [hG]; exact hW.lt
          obtain ⟨fl, hfl⟩ : ∃ z, Hid (z = foldL hs (wordsL s.data.toList) (UInt32.ofNat t) false) := ⟨_, rfl⟩
          have hfll : fl.length = 8 := by rw [hfl.out]; exact foldL_len _ _ _ _
          have hO : Arr (wr.alloc (.cells (List.replicate 8 (Value.int .u32 0)).toArray 58)) G 58 (foldCells fl 0) := by
            rw [hG]; exact Arr.new wr 58 _
          have hW1 := hW.alloc (.cells (List.replicate 8 (Value.int .u32 0)).toArray 58)
          have hB1 := hB.alloc (hB.size) (.cells (List.replicate 8 (Value.int .u32 0)).toArray 58)
          rw [← hG] at hmk8
          have hGw : w.heap.size ≤ G := by rw [hG]; exact hB.size
          clear hG
          go_wp2
          go_loopw [28] (fun v28 wr => ∃ i : Nat, i ≤ 8 ∧ v28 = .int .i64 i ∧ Arr wr G 58 (foldCells fl i) ∧ Arr wr g 58 (s1.map wv ++ sp) ∧ Below w.heap.size w wr) (fun v28 _ => 8 - (intOf v28).toNat)
          case atStart => exact ⟨0, Nat.zero_le _, rfl, hO, hW1, hB1⟩
          case round =>
            clear hO hW1 hB1 hW hM hB hmk8
            obtain ⟨i, hi8, rfl, hO, hW, hB⟩ := hrel
            by_cases hlt : i < 8
            · have h1 : (i : Int) < 8 := by omega
              have h0 : (0 : Int) ≤ (i : Int) := by omega
              have hH1 := hH.below hB hH.lt
              obtain ⟨a, ha⟩ : ∃ z, Hid (z = hs.getD i 0) := ⟨_, rfl⟩
              obtain ⟨b, hb'⟩ : ∃ z, Hid (z = s1.getD i 0) := ⟨_, rfl⟩
              obtain ⟨c, hc⟩ : ∃ z, Hid (z = s1.getD (i + 8) 0) := ⟨_, rfl⟩
              have c1 : wr.cell? ⟨hb, i, none⟩ = some (.int .u32 (a.toNat : Int)) := by
                rw [ha.out]; exact hH1.cell (getD_get hs i (by omega))
              have c2 : wr.cell? ⟨g, i, none⟩ = some (.int .u32 (b.toNat : Int)) := by
                rw [hb'.out]; exact hW.cell (spare_get s1 sp i (by omega))
              have c3 : wr.cell? ⟨g, i + 8, none⟩ = some (.int .u32 (c.toNat : Int)) := by
                rw [hc.out]; exact hW.cell (spare_get s1 sp (i + 8) (by omega))
              have c4 : wr.cell? ⟨G, i, none⟩ = some (.int .u32 0) := hO.cell (by simp [foldCells, hlt])
              have f1 := hO.frozen i
              go_wp2
              go_region
              go_wp2
              have hO' := (hO.set i (wv (wxor (wxor a b) c))).drew
              have hval : wxor (wxor a b) c = fl.getD i 0 := by
                rw [hfl.out, foldL_get _ _ _ _ _ hlt, ha.out, hb'.out, hc.out, hs1.out, hs0.out, hm.out, htt.out]
              rw [hval, ← foldCells_step] at hO'
              rw [show Value.int IntKind.u32 ((wxor (wxor a b) c).toNat : Int) = wv (fl.getD i 0) from by rw [← hval]; rfl]
              exact ⟨⟨i + 1, by omega, by simp, hO', (hW.other (show g ≠ G by omega) _).drew, (hB.setCell hGw _).drew⟩, by simp [intOf]; omega⟩
            · obtain rfl : i = 8 := by omega
              rw [foldCells_all fl hfll, hfl.out] at hO
              go_wp2
              go_ret
              exact ⟨G, rfl, hO, hB⟩

set_option maxRecDepth 100000 in
set_option maxHeartbeats 400000 in
theorem block_true (hs : List UInt32) (hb N ab : Nat) (s : ByteArray) (t : Nat) (w : World) (hh : hs.length = 8) (hsz : s.size = 64) (ht : t ≤ 140737488351232)
    (hH : Arr w hb 58 (hs.map wv)) (hT : Tabs w N ab) :
    Calls Tryd.prog 42 #[.slice (some ⟨hb, 0, none⟩) 8 8, .slice (some ⟨N + 10, 0, none⟩) 10 10, .slice (some ⟨ab, 0, none⟩) 32 32, .string s, .int .i64 (t : Int), .bool true] w
      fun e w' => ∃ g, e = .returned (.slice (some ⟨g, 0, none⟩) 8 8) ∧ Arr w' g 58 ((foldL hs (wordsL s.data.toList) (UInt32.ofNat t) true).map wv) ∧ Below w.heap.size w w' := by
  have X := fold_xor
  have hmk := make16 w
  obtain ⟨i0, hi, hz0, hz1, hz2⟩ := info_parts infoWord
  have hs64 : (s.size : Int) = 64 := by omega
  go_enter Tryd.func42, Tryd.ntmps42
  go_wp2
  go_loopw [14] (fun v14 wr => ∃ i : Nat, i ≤ 16 ∧ v14 = .int .i64 i ∧ Arr wr w.heap.size 58 (mCells s.data.toList i) ∧ Below w.heap.size w wr) (fun v14 _ => 16 - (intOf v14).toNat)
  case atStart =>
    exact ⟨0, Nat.zero_le _, rfl, Arr.new w 58 (List.replicate 16 (.int .u32 0)), (Below.refl _ w).alloc (Nat.le_refl _) _⟩
  case round =>
    obtain ⟨i, hi16, rfl, hM, hB⟩ := hrel
    by_cases hlt : i < 16
    · have h1 : (i : Int) < 16 := by omega
      have h0 : (0 : Int) ≤ (i : Int) := by omega
      obtain ⟨sub, hsub⟩ : ∃ z, Hid (z = s.extract (4 * i) (4 * i + 4)) := ⟨_, rfl⟩
      have hsx : s.extract (4 * i) (4 * i + 4) = sub := hsub.out.symm
      have hss : sub.size = 4 := by rw [hsub.out, ByteArray.size_extract]; omega
      have f1 := hM.frozen i
      have d1 : wr.cell? ⟨w.heap.size, i, none⟩ = some (.int .u32 0) := hM.cell (by simp [mCells, hlt])
      go_wp2_with fail
      refine (number_any sub wr hss).mono ?_
      rintro e w' ⟨rfl, nq, rfl⟩
      rw [hsub.out, word_sub s i (by omega)]
      go_wp2
      have hM' := (hM.drewN nq).set i (wv (wordAt s.data.toList i))
      rw [← mCells_step] at hM'
      go_roundw
      case rel => exact ⟨i + 1, by omega, by go_num, hM', (below_drewN hB nq).setCell (Nat.le_refl _) _⟩
      case measure => simp [intOf]; omega
    · obtain rfl : i = 16 := by omega
      rw [mCells_all] at hM
      have hH1 := hH.below hB hH.lt
      have hT1 : Tabs wr N ab := hT.below hB hT.all.lt hT.at'.lt
      clear hmk
      have hwr := hB.size
      go_wp2_with (at_builtin; refine wpList_append_lies _ (by rfl) _ _ 66 (by rfl) wr.heap.size 58 i0 (.int .u32 0) 1 4 Tryd.underlying66 hi hz0 hz1 hz2 rfl (by decide) _ 0 [] (by rfl) ?a1 ⟨hb, 0, none⟩ 8 8 (hs.map wv) (by rfl) ?a2 ?a3 ?a4 (by decide) (by decide) (by decide) ?a5 (wr.heap.size + 1) ?a6 ?_)
      case a1 => exact ⟨rfl, .inr ⟨_, 0, #[], rfl, Nat.le_refl _, heap_alloc_new wr _, Nat.le_refl _, by decide, rfl, rfl⟩⟩
      case a2 => simp [hh]
      case a3 =>
        intro j u hj
        rw [Addr.add_mid, Nat.zero_add]
        exact (hH1.alloc _).cell hj
      case a4 =>
        intro u hu
        obtain ⟨x, _, rfl⟩ := List.mem_map.1 hu
        rfl
      case a5 => rw [alloc_size]; omega
      case a6 => rw [alloc_size]
      intro g1 cap1 w6 hown1 hgrow1 hat1 hlt1
      have hB6 : Below wr.heap.size wr w6 := ((Below.refl _ wr).alloc (Nat.le_refl _) _).grown hgrow1 (by rw [alloc_size]; omega) (fun k hk => by cases hk; exact Nat.le_refl _)
      have h6s := hB6.size
      go_wp2_with fail
      refine (firsts_any w6).mono ?_
      rintro e w' ⟨rfl, rfl⟩
      have hB7 : Below wr.heap.size wr (w6.alloc (.cells (firstsL.map wv).toArray 58)) := hB6.alloc h6s _
      go_wp2_with (at_builtin; refine wpList_append_lies _ (by rfl) _ _ 66 (by rfl) wr.heap.size 58 i0 (.int .u32 0) 1 4 Tryd.underlying66 hi hz0 hz1 hz2 rfl (by decide) _ 8 (hs.map wv) (by rfl) ?b1 ⟨w6.heap.size, 0, none⟩ 8 8 (firstsL.map wv) (by rfl) (by rfl) ?b3 ?b4 (by decide) (by decide) (by decide) ?b5 (w6.heap.size + 1) ?b6 ?_)
      case b1 => exact hown1.alloc _
      case b3 =>
        intro j u hj
        rw [Addr.add_mid, Nat.zero_add]
        exact (Arr.new w6 58 (firstsL.map wv)).cell hj
      case b4 =>
        intro u hu
        obtain ⟨x, _, rfl⟩ := List.mem_map.1 hu
        rfl
      case b5 => rw [alloc_size]; omega
      case b6 => rw [alloc_size]
      intro g cap w8 hown hgrow hat2 hlt2
      have hB8 : Below wr.heap.size wr w8 := hB7.grown hgrow (by rw [alloc_size]; omega) (fun k hk => by
        cases hk
        rcases hown1.2 with ⟨h, _⟩ | ⟨g', _, _, h, hge, _⟩
        · cases h
        · cases h; exact hge)
      obtain ⟨sp, hW, hgw, hcap⟩ : ∃ sp, Arr w8 g 58 ((hs ++ firstsL).map wv ++ sp) ∧ wr.heap.size ≤ g ∧ 16 ≤ cap := by
        rcases hown.2 with ⟨h, _⟩ | ⟨g', cap', cur, h, hge, hcur, hc1, _, hc2, hc3⟩
        · cases h
        · cases h
          refine ⟨cur.toList.drop 16, ?_, hge, hc1⟩
          unfold Arr
          rw [hcur]
          have e : cur.toList.take 16 = (hs ++ firstsL).map wv := by simpa using hc3
          rw [← e, List.take_append_drop]
      have hM8 := hM.below hB8 hM.lt
      have hB9 := hB.trans (hB8.mono hwr)
      have hgN : w.heap.size < g := by have := hM.lt; omega
      clear hown1 hgrow1 hat1 hlt1 hB6 h6s hB7 hown hgrow hat2 hlt2 hB8 hM hT1 hH1 hB
      obtain ⟨m, hm⟩ : ∃ z, Hid (z = wordsL s.data.toList) := ⟨_, rfl⟩
      have hml : m.length = 16 := by rw [hm.out]; exact wordsL_len _
      rw [← hm.out] at hM8
      have gne : ¬ (g = w.heap.size) := by omega
      have hl16 : (hs ++ firstsL).length = 16 := by simp [hh, firstsL]
      obtain ⟨x, hx⟩ : ∃ z, Hid (z = (hs ++ firstsL).getD 12 0) := ⟨_, rfl⟩
      have c12 : w8.cell? ⟨g, 12, none⟩ = some (.int .u32 (x.toNat : Int)) := by
        rw [hx.out]; exact hW.cell (spare_get _ sp 12 (by omega))
      have f12 := hW.frozen 12
      obtain ⟨tt, htt⟩ : ∃ z, Hid (z = UInt32.ofNat t) := ⟨_, rfl⟩
      have hte : (t : Int) % 4294967296 = (tt.toNat : Int) := by rw [htt.out, UInt32.toNat_ofNat']; omega
      obtain ⟨y, hy⟩ : ∃ z, Hid (z = (hs ++ firstsL).getD 14 0) := ⟨_, rfl⟩
      have c14 : w8.cell? ⟨g, 14, none⟩ = some (.int .u32 (y.toNat : Int)) := by
        rw [hy.out]; exact hW.cell (spare_get _ sp 14 (by omega))
      have f14 := hW.frozen 14
      have hnot : bits BinOp.xor IntKind.u32 (y.toNat : Int) 4294967295 = ((wxor y 4294967295).toNat : Int) := fold_xor y 4294967295
      have hS : Arr ((w8.setCell ⟨g, 12, none⟩ (wv (wxor x tt))).setCell ⟨g, 14, none⟩ (wv (wxor y 4294967295))) g 58 ((startL hs tt true).map wv ++ sp) := by
        have := (hW.set 12 (wv (wxor x tt))).set 14 (wv (wxor y 4294967295))
        rw [spare_set _ _ _ _ (by omega), spare_set _ _ _ _ (by rw [List.length_set]; omega)] at this
        have e : startL hs tt true = ((hs ++ firstsL).set 12 (wxor x tt)).set 14 (wxor y 4294967295) := by
          rw [hx.out, hy.out]
          match hs, hh with
          | [_, _, _, _, _, _, _, _], _ => rfl
        rw [e]; exact this
      obtain ⟨s0, hs0⟩ : ∃ z, Hid (z = startL hs tt true) := ⟨_, rfl⟩
      have hsl : s0.length = 16 := by rw [hs0.out]; exact startL_len hs tt true hh
      rw [← hs0.out] at hS
      go_wp2
      go_loopw [16] (fun v16 wr => ∃ i : Nat, i ≤ 10 ∧ v16 = .int .i64 i ∧ Arr wr g 58 ((rounds m s0 i).map wv ++ sp) ∧ Arr wr w.heap.size 58 (m.map wv) ∧ Below w.heap.size w wr) (fun v16 _ => 10 - (intOf v16).toNat)
      case atStart => exact ⟨0, Nat.zero_le _, rfl, hS, (hM8.other (Ne.symm gne) _).other (Ne.symm gne) _, (hB9.setCell (Nat.le_of_lt hgN) _).setCell (Nat.le_of_lt hgN) _⟩
      case round =>
        clear hS hM8 hB9 hW c12 f12 c14 f14 hnot hy
        obtain ⟨i, hi10, rfl, hW, hM, hB⟩ := hrel
        by_cases hlt : i < 10
        · have h1 : (i : Int) < 10 := by omega
          have h0 : (0 : Int) ≤ (i : Int) := by omega
          have hT2 := hT.below hB hT.all.lt hT.at'.lt
          have cR : wr.cell? ⟨N + 10, i, none⟩ = some (.slice (some ⟨N + i, 0, none⟩) 16 16) := hT2.all.cell (by simp [hlt, rowSlice])
          go_wp2
          go_loopw [18] (fun v18 wr => ∃ k : Nat, k ≤ 8 ∧ v18 = .int .i64 k ∧ Arr wr g 58 ((stirP (rounds m s0 i) m (rowL i) k).map wv ++ sp) ∧ Arr wr w.heap.size 58 (m.map wv) ∧ Below w.heap.size w wr) (fun v18 _ => 8 - (intOf v18).toNat)
          case atStart => exact ⟨0, Nat.zero_le _, rfl, hW, hM, hB⟩
          case round =>
            clear hW hM hB hT2 cR
            obtain ⟨k, hk8, rfl, hW, hM, hB⟩ := hrel
            by_cases hlt2 : k < 8
            · have k1 : (k : Int) < 8 := by omega
              have k0 : (0 : Int) ≤ (k : Int) := by omega
              have hT2 := hT.below hB hT.all.lt hT.at'.lt
              obtain ⟨n1, n2, n3, n4, n5, n6⟩ := places_ne k hlt2
              have pl0 := places_lt (4 * k) (by omega)
              have pl1 := places_lt (4 * k + 1) (by omega)
              have pl2 := places_lt (4 * k + 2) (by omega)
              have pl3 := places_lt (4 * k + 3) (by omega)
              have cp0 : wr.cell? ⟨ab, 4 * k, none⟩ = some (iv (places.getD (4 * k) 0)) := hT2.at'.cell (iv_get _ _ (by simp [places]; omega))
              have cp1 : wr.cell? ⟨ab, 4 * k + 1, none⟩ = some (iv (places.getD (4 * k + 1) 0)) := hT2.at'.cell (iv_get _ _ (by simp [places]; omega))
              have cp2 : wr.cell? ⟨ab, 4 * k + 2, none⟩ = some (iv (places.getD (4 * k + 2) 0)) := hT2.at'.cell (iv_get _ _ (by simp [places]; omega))
              have cp3 : wr.cell? ⟨ab, 4 * k + 3, none⟩ = some (iv (places.getD (4 * k + 3) 0)) := hT2.at'.cell (iv_get _ _ (by simp [places]; omega))
              have cr0 : wr.cell? ⟨N + i, 2 * k, none⟩ = some (iv ((rowL i).getD (2 * k) 0)) := (hT2.rows i hlt).cell (iv_get _ _ (by rw [rowL_len i hlt]; omega))
              have cr1 : wr.cell? ⟨N + i, 2 * k + 1, none⟩ = some (iv ((rowL i).getD (2 * k + 1) 0)) := (hT2.rows i hlt).cell (iv_get _ _ (by rw [rowL_len i hlt]; omega))
              have rl0 := row_get i hlt (2 * k) (by omega)
              have rl1 := row_get i hlt (2 * k + 1) (by omega)
              obtain ⟨ws, hws⟩ : ∃ z, Hid (z = stirP (rounds m s0 i) m (rowL i) k) := ⟨_, rfl⟩
              have hwl : ws.length = 16 := by rw [hws.out, stirP_len, rounds_len]; exact hsl
              rw [← hws.out] at hW
              have hnext : Hid (stirP (rounds m s0 i) m (rowL i) (k + 1) = stepQ ws (places.getD (4 * k) 0) (places.getD (4 * k + 1) 0) (places.getD (4 * k + 2) 0) (places.getD (4 * k + 3) 0) (m.getD ((rowL i).getD (2 * k) 0) 0) (m.getD ((rowL i).getD (2 * k + 1) 0) 0)) := by
                show _ = _
                rw [stirP, ← hws.out]
              generalize places.getD (4 * k) 0 = p at *
              generalize places.getD (4 * k + 1) 0 = q at *
              generalize places.getD (4 * k + 2) 0 = u at *
              generalize places.getD (4 * k + 3) 0 = v at *
              generalize (rowL i).getD (2 * k) 0 = r0 at *
              generalize (rowL i).getD (2 * k + 1) 0 = r1 at *
              unfold iv at cp0 cp1 cp2 cp3 cr0 cr1
              obtain ⟨x0, hx0⟩ : ∃ z, Hid (z = m.getD r0 0) := ⟨_, rfl⟩
              obtain ⟨x1, hx1⟩ : ∃ z, Hid (z = m.getD r1 0) := ⟨_, rfl⟩
              obtain ⟨wp, hwp⟩ : ∃ z, Hid (z = ws.getD p 0) := ⟨_, rfl⟩
              obtain ⟨wq, hwq⟩ : ∃ z, Hid (z = ws.getD q 0) := ⟨_, rfl⟩
              obtain ⟨wu, hwu⟩ : ∃ z, Hid (z = ws.getD u 0) := ⟨_, rfl⟩
              obtain ⟨wv', hwv⟩ : ∃ z, Hid (z = ws.getD v 0) := ⟨_, rfl⟩
              have cm0 : wr.cell? ⟨w.heap.size, r0, none⟩ = some (.int .u32 (x0.toNat : Int)) := by rw [hx0.out]; exact hM.cell (getD_get m r0 (by omega))
              have cm1 : wr.cell? ⟨w.heap.size, r1, none⟩ = some (.int .u32 (x1.toNat : Int)) := by rw [hx1.out]; exact hM.cell (getD_get m r1 (by omega))
              have cwp : wr.cell? ⟨g, p, none⟩ = some (.int .u32 (wp.toNat : Int)) := by rw [hwp.out]; exact hW.cell (spare_get ws sp p (by omega))
              have cwq : wr.cell? ⟨g, q, none⟩ = some (.int .u32 (wq.toNat : Int)) := by rw [hwq.out]; exact hW.cell (spare_get ws sp q (by omega))
              have cwu : wr.cell? ⟨g, u, none⟩ = some (.int .u32 (wu.toNat : Int)) := by rw [hwu.out]; exact hW.cell (spare_get ws sp u (by omega))
              have cwv : wr.cell? ⟨g, v, none⟩ = some (.int .u32 (wv'.toNat : Int)) := by rw [hwv.out]; exact hW.cell (spare_get ws sp v (by omega))
              have fp := hW.frozen p
              have fq := hW.frozen q
              have fu := hW.frozen u
              have fv := hW.frozen v
              have i1 : (p : Int) < 16 := by omega
              have i2 : (q : Int) < 16 := by omega
              have i3 : (u : Int) < 16 := by omega
              have i4 : (v : Int) < 16 := by omega
              have i5 : (r0 : Int) < 16 := by omega
              have i6 : (r1 : Int) < 16 := by omega
              obtain ⟨z, hz⟩ : ∃ z, Hid (z = quad wp wq wu wv' x0 x1) := ⟨_, rfl⟩
              have cb : ∀ W : World, Calls Tryd.prog 45 #[.int .u32 (wp.toNat : Int), .int .u32 (wq.toNat : Int), .int .u32 (wu.toNat : Int), .int .u32 (wv'.toNat : Int), .int .u32 (x0.toNat : Int), .int .u32 (x1.toNat : Int)] W fun e w' => e = .returned (.tuple #[.int .u32 (z.a.toNat : Int), .int .u32 (z.b.toNat : Int), .int .u32 (z.c.toNat : Int), .int .u32 (z.d.toNat : Int)]) ∧ ∃ m, w' = W.drewN m := fun W => by
                rw [hz.out]; exact mixed_any _ _ _ _ _ _ W
              replace hnext : Hid _ := hnext
              have m1 : ¬ (p = q) := n1
              have m2 : ¬ (p = u) := n2
              have m3 : ¬ (p = v) := n3
              have m4 : ¬ (q = u) := n4
              have m5 : ¬ (q = v) := n5
              have m6 : ¬ (u = v) := n6
              clear hT2
              go_wp2
              go_big_quiet (fail)
              go_wp2
              clear cp0 cp1 cp2 cp3
              replace cwp : (wr.drewN nq).cell? ⟨g, p, none⟩ = _ := cwp
              replace cwq : (wr.drewN nq).cell? ⟨g, q, none⟩ = _ := cwq
              replace cwu : (wr.drewN nq).cell? ⟨g, u, none⟩ = _ := cwu
              replace cwv : (wr.drewN nq).cell? ⟨g, v, none⟩ = _ := cwv
              replace cm0 : (wr.drewN nq).cell? ⟨w.heap.size, r0, none⟩ = _ := cm0
              replace cm1 : (wr.drewN nq).cell? ⟨w.heap.size, r1, none⟩ = _ := cm1
              replace cr0 : (wr.drewN nq).cell? ⟨N + i, 2 * k, none⟩ = _ := cr0
              replace cr1 : (wr.drewN nq).cell? ⟨N + i, 2 * k + 1, none⟩ = _ := cr1
              replace fp : (wr.drewN nq).frozen? ⟨g, p, none⟩ = _ := fp
              replace fq : (wr.drewN nq).frozen? ⟨g, q, none⟩ = _ := fq
              replace fu : (wr.drewN nq).frozen? ⟨g, u, none⟩ = _ := fu
              replace fv : (wr.drewN nq).frozen? ⟨g, v, none⟩ = _ := fv
              replace hW := hW.drewN nq
              replace hM := hM.drewN nq
              replace hB := below_drewN hB nq
              generalize wr.drewN nq = wy at *
              go_big_quiet (exact Calls.quiet_of (cb _))
              clear cb
              go_wp2
              have hW' := ((((hW.drewN nq).set p (wv z.a)).set q (wv z.b)).set u (wv z.c)).set v (wv z.d)
              rw [spare_set _ _ _ _ (by omega), spare_set _ _ _ _ (by simp; omega), spare_set _ _ _ _ (by simp; omega), spare_set _ _ _ _ (by simp; omega)] at hW'
              have hst : (((ws.set p z.a).set q z.b).set u z.c).set v z.d = stirP (rounds m s0 i) m (rowL i) (k + 1) := by
                rw [hnext.out, hz.out, hwp.out, hwq.out, hwu.out, hwv.out, hx0.out, hx1.out]
                rfl
              rw [hst] at hW'
              exact ⟨⟨k + 1, by omega, by simp, hW', ((((hM.drewN nq).other (Ne.symm gne) _).other (Ne.symm gne) _).other (Ne.symm gne) _).other (Ne.symm gne) _, ((((below_drewN hB nq).setCell (Nat.le_of_lt hgN) _).setCell (Nat.le_of_lt hgN) _).setCell (Nat.le_of_lt hgN) _).setCell (Nat.le_of_lt hgN) _⟩, by simp [intOf]; omega⟩
            · obtain rfl : k = 8 := by omega
              rw [stirP_all] at hW
              go_wp2
              exact ⟨⟨i + 1, by omega, by simp, hW, hM, hB⟩, by simp [intOf]; omega⟩
        · obtain rfl : i = 10 := by omega
          obtain ⟨s1, hs1⟩ : ∃ z, Hid (z = rounds m s0 10) := ⟨_, rfl⟩
          have hsl1 : s1.length = 16 := by rw [hs1.out, rounds_len]; exact hsl
          rw [← hs1.out] at hW
          have hmk8 := make8 wr
          obtain ⟨G, hG⟩ : ∃ z, z = wr.heap.size := ⟨_, rfl⟩
          have hgG : g < G := by rw [hG]; exact hW.lt
          obtain ⟨fl, hfl⟩ : ∃ z, Hid (z = foldL hs (wordsL s.data.toList) (UInt32.ofNat t) true) := ⟨_, rfl⟩
          have hfll : fl.length = 8 := by rw [hfl.out]; exact foldL_len _ _ _ _
          have hO : Arr (wr.alloc (.cells (List.replicate 8 (Value.int .u32 0)).toArray 58)) G 58 (foldCells fl 0) := by
            rw [hG]; exact Arr.new wr 58 _
          have hW1 := hW.alloc (.cells (List.replicate 8 (Value.int .u32 0)).toArray 58)
          have hB1 := hB.alloc (hB.size) (.cells (List.replicate 8 (Value.int .u32 0)).toArray 58)
          rw [← hG] at hmk8
          have hGw : w.heap.size ≤ G := by rw [hG]; exact hB.size
          clear hG
          go_wp2
          go_loopw [28] (fun v28 wr => ∃ i : Nat, i ≤ 8 ∧ v28 = .int .i64 i ∧ Arr wr G 58 (foldCells fl i) ∧ Arr wr g 58 (s1.map wv ++ sp) ∧ Below w.heap.size w wr) (fun v28 _ => 8 - (intOf v28).toNat)
          case atStart => exact ⟨0, Nat.zero_le _, rfl, hO, hW1, hB1⟩
          case round =>
            clear hO hW1 hB1 hW hM hB hmk8
            obtain ⟨i, hi8, rfl, hO, hW, hB⟩ := hrel
            by_cases hlt : i < 8
            · have h1 : (i : Int) < 8 := by omega
              have h0 : (0 : Int) ≤ (i : Int) := by omega
              have hH1 := hH.below hB hH.lt
              obtain ⟨a, ha⟩ : ∃ z, Hid (z = hs.getD i 0) := ⟨_, rfl⟩
              obtain ⟨b, hb'⟩ : ∃ z, Hid (z = s1.getD i 0) := ⟨_, rfl⟩
              obtain ⟨c, hc⟩ : ∃ z, Hid (z = s1.getD (i + 8) 0) := ⟨_, rfl⟩
              have c1 : wr.cell? ⟨hb, i, none⟩ = some (.int .u32 (a.toNat : Int)) := by
                rw [ha.out]; exact hH1.cell (getD_get hs i (by omega))
              have c2 : wr.cell? ⟨g, i, none⟩ = some (.int .u32 (b.toNat : Int)) := by
                rw [hb'.out]; exact hW.cell (spare_get s1 sp i (by omega))
              have c3 : wr.cell? ⟨g, i + 8, none⟩ = some (.int .u32 (c.toNat : Int)) := by
                rw [hc.out]; exact hW.cell (spare_get s1 sp (i + 8) (by omega))
              have c4 : wr.cell? ⟨G, i, none⟩ = some (.int .u32 0) := hO.cell (by simp [foldCells, hlt])
              have f1 := hO.frozen i
              go_wp2
              go_region
              go_wp2
              have hO' := (hO.set i (wv (wxor (wxor a b) c))).drew
              have hval : wxor (wxor a b) c = fl.getD i 0 := by
                rw [hfl.out, foldL_get _ _ _ _ _ hlt, ha.out, hb'.out, hc.out, hs1.out, hs0.out, hm.out, htt.out]
              rw [hval, ← foldCells_step] at hO'
              rw [show Value.int IntKind.u32 ((wxor (wxor a b) c).toNat : Int) = wv (fl.getD i 0) from by rw [← hval]; rfl]
              exact ⟨⟨i + 1, by omega, by simp, hO', (hW.other (show g ≠ G by omega) _).drew, (hB.setCell hGw _).drew⟩, by simp [intOf]; omega⟩
            · obtain rfl : i = 8 := by omega
              rw [foldCells_all fl hfll, hfl.out] at hO
              go_wp2
              go_ret
              exact ⟨G, rfl, hO, hB⟩

theorem block_any (hs : List UInt32) (hb N ab : Nat) (s : ByteArray) (t : Nat) (last : Bool) (w : World) (hh : hs.length = 8) (hsz : s.size = 64) (ht : t ≤ 140737488351232)
    (hH : Arr w hb 58 (hs.map wv)) (hT : Tabs w N ab) :
    Calls Tryd.prog 42 #[.slice (some ⟨hb, 0, none⟩) 8 8, .slice (some ⟨N + 10, 0, none⟩) 10 10, .slice (some ⟨ab, 0, none⟩) 32 32, .string s, .int .i64 (t : Int), .bool last] w
      fun e w' => ∃ g, e = .returned (.slice (some ⟨g, 0, none⟩) 8 8) ∧ Arr w' g 58 ((foldL hs (wordsL s.data.toList) (UInt32.ofNat t) last).map wv) ∧ Below w.heap.size w w' := by
  cases last
  · exact block_false hs hb N ab s t w hh hsz ht hH hT
  · exact block_true hs hb N ab s t w hh hsz ht hH hT
end Go.Proofs.YtlbibhngfnllbaaDoor
