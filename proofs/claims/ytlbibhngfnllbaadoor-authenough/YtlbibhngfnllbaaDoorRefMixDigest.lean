/- What the reference's digest, Sum, Keyed and Short do; nothing old in memory is turned. -/
import Derived.Test.YtlbibhngfnllbaaDoorRefMixBlock
import Derived.Test.YtlbibhngfnllbaaDoorMixDigMath
import Derived.Deep.RegionHeld3
namespace Go.Proofs.YtlbibhngfnllbaaDoor
open Go.RowKit Go.Sort
set_option linter.unusedVariables false

theorem infoByte : (Tryd.prog.info? 5).map (fun i => (i.zero, i.size, i.bytes)) = some (some (.int .u8 0), 1, 1) := by kernel_rfl

theorem allocAll_get (w : World) (os : List Obj) (i : Nat) (o : Obj) (h : os[i]? = some o) : (allocAll w os).heap[w.heap.size + i]? = some o := by
  rw [allocAll_heap, Array.getElem?_append_right (by omega)]
  simpa using h

theorem tabs_rows (w : World) : (∀ i, i < 10 → Arr (allocAll w (rowObjs w.heap.size)) (w.heap.size + i) 3 ((rowL i).map iv)) ∧ Arr (allocAll w (rowObjs w.heap.size)) (w.heap.size + 10) 70 ((List.range 10).map (rowSlice w.heap.size)) := by
  constructor
  · intro i hi
    refine allocAll_get w _ i _ ?_
    unfold rowObjs
    rw [List.getElem?_append_left (by simpa using hi)]
    simp [hi]
  · refine allocAll_get w _ 10 _ ?_
    rfl

theorem own_string {w : World} {B : Nat} {v : Value} {l : List UInt8} (h : w.ownsRow B 5 1 v l.length (l.map byteVal)) :
    (convert 55 9 v).run Tryd.prog w = .ok (.string ⟨l.toArray⟩) w := by
  rcases h.2 with ⟨rfl, hn⟩ | ⟨g, cap, cur, rfl, _⟩
  · rw [List.length_eq_zero_iff] at hn
    subst hn
    exact run_convert_bytes_nil w 55 5 Tryd.underlying55 Tryd.underlying5 0 0 9 Tryd.underlying9
  · refine run_convert_bytes_back w 55 9 5 ⟨g, 0, none⟩ cap l Tryd.underlying55 Tryd.underlying5 Tryd.underlying9 (fun j hj => ?_)
    exact h.cells rfl j _ (by simp [List.getElem?_eq_getElem hj, byteVal])

theorem made_zeros (n : Nat) : (madeCells #[Value.int .u8 0] n).toList = (List.replicate n (0 : UInt8)).map byteVal := by
  apply List.ext_getElem
  · simp [madeCells]
  · intro j h1 h2
    simp [madeCells, byteVal, Nat.mod_one]

theorem ext_list (T : ByteArray) (i : Nat) : (T.extract i (i + 64)).data.toList = (T.data.toList.drop i).take 64 := by
  simp only [ByteArray.data_extract, Array.toList_extract, List.extract_eq_take_drop]
  congr 1
  omega

/-- The last block. -/
theorem block_last (hl : List UInt32) (s : List UInt8) (T : ByteArray) (i nz : Nat) (hT : T.data.toList = s ++ List.replicate nz 0) (hi : i ≤ s.length) (he : i + 64 = T.size) :
    foldL hl (wordsL (T.extract i (i + 64)).data.toList) (UInt32.ofNat (min s.length (i + 64))) true = dig hl (s.drop i) i := by
  have hlen : T.size = s.length + nz := by
    have := congrArg List.length hT
    simpa using this
  rw [ext_list, hT, List.drop_append_of_le_length hi, List.take_of_length_le (by simp; omega), wordsL_zeros, dig_last _ _ _ (by simp; omega)]
  congr 2
  simp
  omega

/-- A block ahead of the last. -/
theorem block_more (hl : List UInt32) (s : List UInt8) (T : ByteArray) (i nz : Nat) (hT : T.data.toList = s ++ List.replicate nz 0) (hi : i + 64 < s.length) :
    dig (foldL hl (wordsL (T.extract i (i + 64)).data.toList) (UInt32.ofNat (min s.length (i + 64))) false) (s.drop (i + 64)) (i + 64) = dig hl (s.drop i) i := by
  rw [ext_list, hT, List.drop_append_of_le_length (by omega), List.take_append_of_le_length (by simp; omega), dig_more hl (s.drop i) i (by simp; omega), List.drop_drop, Nat.min_eq_right (by omega)]

/-- The four bytes of a word. -/
def fourL (x : UInt32) : List UInt8 := [UInt8.ofNat x.toNat, UInt8.ofNat (x.toNat / 256), UInt8.ofNat (x.toNat / 65536), UInt8.ofNat (x.toNat / 16777216)]

theorem text_step (h : List UInt32) (i : Nat) (hi : i < 8) : (textL h).take (4 * (i + 1)) = (textL h).take (4 * i) ++ fourL (h.getD i 0) := by
  have hl : (textL h).length = 32 := by simp [textL]
  have e : ∀ j, j < 32 → (textL h)[j]? = some (outByte h j) := fun j hj => by simp [textL, hj]
  apply List.ext_getElem?
  intro j
  rw [List.getElem?_append, List.length_take, hl, Nat.min_eq_left (by omega), List.getElem?_take, List.getElem?_take]
  by_cases h1 : j < 4 * i
  · rw [if_pos (by omega), if_pos h1, if_pos h1]
  · rw [if_neg h1]
    by_cases h2 : j < 4 * (i + 1)
    · rw [if_pos h2, e j (by omega)]
      have h3 : j = 4 * i ∨ j = 4 * i + 1 ∨ j = 4 * i + 2 ∨ j = 4 * i + 3 := by omega
      rcases h3 with rfl | rfl | rfl | rfl
      · rw [Nat.sub_self, show outByte h (4 * i) = UInt8.ofNat (h.getD i 0).toNat from by unfold outByte; rw [show 4 * i / 4 = i by omega, show 4 * i % 4 = 0 by omega]; simp]; rfl
      · rw [show 4 * i + 1 - 4 * i = 1 by omega, show outByte h (4 * i + 1) = UInt8.ofNat ((h.getD i 0).toNat / 256) from by unfold outByte; rw [show (4 * i + 1) / 4 = i by omega, show (4 * i + 1) % 4 = 1 by omega]]; rfl
      · rw [show 4 * i + 2 - 4 * i = 2 by omega, show outByte h (4 * i + 2) = UInt8.ofNat ((h.getD i 0).toNat / 65536) from by unfold outByte; rw [show (4 * i + 2) / 4 = i by omega, show (4 * i + 2) % 4 = 2 by omega]]; rfl
      · rw [show 4 * i + 3 - 4 * i = 3 by omega, show outByte h (4 * i + 3) = UInt8.ofNat ((h.getD i 0).toNat / 16777216) from by unfold outByte; rw [show (4 * i + 3) / 4 = i by omega, show (4 * i + 3) % 4 = 3 by omega]]; rfl
    · rw [if_neg h2, List.getElem?_eq_none (by simp [fourL]; omega)]

theorem four_vals (x : UInt32) : ([.int .u8 (IntKind.u8.wrap (x.toNat : Int)), .int .u8 (IntKind.u8.wrap (IntKind.u32.wrap ((x.toNat : Int) / 256))), .int .u8 (IntKind.u8.wrap (IntKind.u32.wrap ((x.toNat : Int) / 65536))), .int .u8 (IntKind.u8.wrap (IntKind.u32.wrap ((x.toNat : Int) / 16777216)))] : List Value) = (fourL x).map byteVal := by
  have hx := x.toNat_lt
  simp only [fourL, byteVal, List.map_cons, List.map_nil, IntKind.wrap_u8', IntKind.wrap_u32', UInt8.toNat_ofNat']
  refine List.cons_eq_cons.2 ⟨congrArg _ (by omega), List.cons_eq_cons.2 ⟨congrArg _ (by omega), List.cons_eq_cons.2 ⟨congrArg _ (by omega), List.cons_eq_cons.2 ⟨congrArg _ (by omega), rfl⟩⟩⟩⟩

set_option maxRecDepth 100000 in
set_option maxHeartbeats 2000000 in
theorem refDigest_any (s : ByteArray) (k : Nat) (w : World) (hs : s.size ≤ 4096) (hk : k ≤ 32) :
    Calls Tryd.prog 34 #[.string s, .int .i64 (k : Int)] w fun e w' => e = .returned (.string ⟨(digestL s.data.toList k).toArray⟩) ∧ Below w.heap.size w w' := by
  have hA1 := Arr.new w 58 (firstsL.map wv)
  have c0 := hA1.cell (i := 0) (v := .int .u32 1779033703) rfl
  have f0 := hA1.frozen 0
  go_enter Tryd.func34, Tryd.ntmps34
  go_wp2_with fail
  refine (firsts_any w).mono ?_
  rintro e w' ⟨rfl, rfl⟩
  obtain ⟨x0, hx0⟩ : ∃ z, Hid (z = (seedL k).getD 0 0) := ⟨_, rfl⟩
  have hpar : bits BinOp.xor IntKind.u32 (bits BinOp.xor IntKind.u32 1779033703 16842784) (256 * (k : Int)) = (x0.toNat : Int) := by
    have e1 : (256 * (k : Int)) = ((UInt32.ofNat (256 * k)).toNat : Int) := by
      rw [UInt32.toNat_ofNat']; omega
    rw [e1]
    have h1 := fold_xor 1779033703 16842784
    have h2 := fold_xor (wxor 1779033703 16842784) (UInt32.ofNat (256 * k))
    rw [show ((1779033703 : UInt32).toNat : Int) = 1779033703 from rfl, show ((16842784 : UInt32).toNat : Int) = 16842784 from rfl] at h1
    rw [h1, h2, wxor_assoc, hx0.out]
    rfl
  have hk1 : (256 * (k : Int)) % 4294967296 = 256 * (k : Int) := by omega
  have hA2 := Arr.new w 58 ((seedL k).map wv)
  have hseed : (firstsL.map wv).set 0 (.int .u32 (x0.toNat : Int)) = (seedL k).map wv := by rw [hx0.out]; rfl
  have hB2 := (Below.refl w.heap.size w).alloc (Nat.le_refl _) (.cells ((seedL k).map wv).toArray 58)
  obtain ⟨iB, hiB, hb0, hb1, hb2⟩ := info_parts infoByte
  obtain ⟨tgt, htgt⟩ : ∃ z, Hid (z = dig (seedL k) s.data.toList 0) := ⟨_, rfl⟩
  have hsl : s.data.toList.length = s.size := by simp
  by_cases hz : s.size = 0
  · have hz' : (s.size : Int) = 0 := by omega
    obtain ⟨nz, hnz⟩ : ∃ z, Hid (z = 64 - s.size % 64) := ⟨_, rfl⟩
    go_wp2_with (refine wpList_make_full _ (by rfl) _ _ 55 (by rfl) w.heap.size 5 iB (.int .u8 0) 1 Tryd.underlying55 hiB hb0 hb1 .i64 .i64 _ _ nz (by rfl) (by rfl) ?m1 ?m2 ?m3 ?m4 ?m5 ?_)
    case m1 => have := hnz.out; omega
    case m2 => have := hnz.out; omega
    case m3 => have := hnz.out; rw [hb2]; omega
    case m4 => have := hnz.out; unfold maxLen; omega
    case m5 => rw [alloc_size]; omega
    intro w3 hown3 hgrow3
    have hA3 := hA2.below ((Below.refl _ _).grown hgrow3 (Nat.le_refl _) (fun k hk => by cases hk)) hA2.lt
    have hB3 : Below w.heap.size w w3 := hB2.grown hgrow3 (by rw [alloc_size]; omega) (fun k hk => by cases hk)
    rw [made_zeros] at hown3
    have hcv := own_string (l := List.replicate nz 0) (by simpa using hown3)
    clear hown3 hgrow3
    obtain ⟨T, hT⟩ : ∃ z, Hid (z = s ++ ⟨Array.replicate nz 0⟩) := ⟨_, rfl⟩
    have hTc : s ++ (⟨Array.replicate nz 0⟩ : ByteArray) = T := hT.out.symm
    have hTl : T.data.toList = s.data.toList ++ List.replicate nz 0 := by rw [hT.out]; simp
    have hTs : Hid (T.size = s.size + nz) := by
      have := congrArg List.length hTl
      show _ = _
      simpa using this
    have hT64 : Hid (T.size % 64 = 0) := by have := hnz.out; have := hTs.out; show _ = _; omega
    have hTn : Hid ( s.size ≤ T.size ∧ T.size < s.size + 65 ∧ 0 < T.size ∧ (s.size = 0 → T.size = 64) ∧ (0 < s.size → T.size < s.size + 64)) := by have := hnz.out; have := hTs.out; show _ ∧ _; omega
    have hnb : nz ≤ 64 := by have := hnz.out; omega
    have hT42 : T.size ≤ 4200 := by have := hTn.out; omega
    have hmx : s.size + nz ≤ maxLen := by unfold maxLen; omega
    have hmx2 : T.size ≤ maxLen := by unfold maxLen; omega
    have hmx3 : ¬ (maxLen < s.size + nz) := by omega
    go_wp2_with fail
    refine (rows_any w3).mono ?_
    rintro e w' ⟨rfl, rfl⟩
    obtain ⟨hR1, hR2⟩ := tabs_rows w3
    have hbr := allocAll_below (rowObjs w3.heap.size) w3
    have hA4 := hA3.below hbr hA3.lt
    have hB4 := hB3.trans (hbr.mono hB3.size)
    clear hcv hbr
    generalize allocAll w3 (rowObjs w3.heap.size) = w4 at hR1 hR2 hA4 hB4 ⊢
    generalize w3.heap.size = N at hR1 hR2 ⊢
    go_wp2_with fail
    refine (places_any w4).mono ?_
    rintro e w' ⟨rfl, rfl⟩
    have hT5 : Tabs (w4.alloc (.cells (places.map iv).toArray 3)) N w4.heap.size := ⟨fun i hi => (hR1 i hi).alloc _, hR2.alloc _, Arr.new w4 _ _⟩
    have hA5 := hA4.alloc (.cells (places.map iv).toArray 3)
    have hB5 := hB4.alloc hB4.size (.cells (places.map iv).toArray 3)
    clear hR1 hR2 hA4 hB4 hA3 hB3
    generalize w4.alloc (.cells (places.map iv).toArray 3) = w5 at hT5 hA5 hB5 ⊢
    generalize w4.heap.size = ab at hT5 ⊢
    have hst : Hid (tgt = if 0 < T.size then dig (seedL k) (s.data.toList.drop 0) 0 else seedL k) := by
      show _ = _
      rw [if_pos hTn.out.2.2.1, htgt.out]; rfl
    skip
    go_wp2
    go_loopw [5, 10] (fun v5 v10 wr => ∃ (hl : List UInt32) (g i : Nat), v5 = .slice (some ⟨g, 0, none⟩) 8 8 ∧ v10 = .int .i64 i ∧ i % 64 = 0 ∧ i ≤ T.size ∧ hl.length = 8 ∧ Arr wr g 58 (hl.map wv) ∧ Tabs wr N ab ∧ Below w.heap.size w wr ∧ Hid (tgt = if i < T.size then dig hl (s.data.toList.drop i) i else hl)) (fun _ v10 _ => T.size - (intOf v10).toNat)
    case atStart => exact ⟨seedL k, w.heap.size, 0, rfl, rfl, rfl, Nat.zero_le _, rfl, hA5, hT5, hB5, hst⟩
    case round =>
      clear hA5 hT5 hB5 hst
      obtain ⟨hl, g, i, rfl, rfl, hi64, hiT, hhl, hH, hTb, hB, ht⟩ := hrel
      by_cases hlt : i < T.size
      · have h1 : (i : Int) < (T.size : Int) := by omega
        have h0 : (0 : Int) ≤ (i : Int) := by omega
        have h2 : (i : Int) + 64 ≤ (T.size : Int) := by have := hT64.out; omega
        have hb4 : T.size ≤ 4200 := by have := hTn.out; omega
        obtain ⟨sub, hsub⟩ : ∃ z, Hid (z = T.extract i (i + 64)) := ⟨_, rfl⟩
        have hsx : T.extract i (i + 64) = sub := hsub.out.symm
        have hss : sub.size = 64 := by rw [hsub.out, ByteArray.size_extract]; have := hT64.out; omega
        have htm : Hid (0 = min s.size (i + 64)) := by show _ = _; omega
        have hmin : min (0 : Int) ((i : Int) + 64) = 0 := by omega
        by_cases hlast : i + 64 = T.size
        · have h3 : (i : Int) + 64 = (T.size : Int) := by omega
          have hsx2 : T.extract i T.size = sub := by rw [← hlast]; exact hsx
          go_wp2_with fail
          refine (block_any hl g N ab sub 0 true wr hhl hss (by have := htm.out; omega) hH hTb).mono ?_
          rintro e w' ⟨g', rfl, hH', hb'⟩
          have hB' := hB.trans (hb'.mono hB.size)
          have hTb' := hTb.below hb' hTb.all.lt hTb.at'.lt
          have hnx : Hid (tgt = if i + 64 < T.size then dig (foldL hl (wordsL sub.data.toList) (UInt32.ofNat 0) true) (s.data.toList.drop (i + 64)) (i + 64) else foldL hl (wordsL sub.data.toList) (UInt32.ofNat 0) true) := by
            show _ = _
            rw [if_neg (by omega), ht.out, if_pos hlt, hsub.out, htm.out, ← hsl, block_last hl s.data.toList T i nz hTl (by have := hTn.out; omega) hlast]
          go_wp2
          go_roundw
          case rel => exact ⟨_, g', i + 64, rfl, by go_num, by omega, by have := hT64.out; omega, foldL_len _ _ _ _, hH', hTb', hB', hnx⟩
          case measure => simp [intOf]; omega
        · have h3 : ¬ (i : Int) + 64 = (T.size : Int) := by omega
          have h3b : ((i : Int) + 64 == (T.size : Int)) = false := by simpa using h3
          go_wp2_with fail
          refine (block_any hl g N ab sub 0 false wr hhl hss (by have := htm.out; omega) hH hTb).mono ?_
          rintro e w' ⟨g', rfl, hH', hb'⟩
          have hB' := hB.trans (hb'.mono hB.size)
          have hTb' := hTb.below hb' hTb.all.lt hTb.at'.lt
          have hnx : Hid (tgt = if i + 64 < T.size then dig (foldL hl (wordsL sub.data.toList) (UInt32.ofNat 0) false) (s.data.toList.drop (i + 64)) (i + 64) else foldL hl (wordsL sub.data.toList) (UInt32.ofNat 0) false) := by
            show _ = _
            rw [if_pos (by have := hT64.out; omega), ht.out, if_pos hlt, hsub.out, htm.out, ← hsl, block_more hl s.data.toList T i nz hTl (by have := hTn.out; have := hT64.out; omega)]
          go_wp2
          go_roundw
          case rel => exact ⟨_, g', i + 64, rfl, by go_num, by omega, by have := hT64.out; omega, foldL_len _ _ _ _, hH', hTb', hB', hnx⟩
          case measure => simp [intOf]; omega
      · have h1 : ¬ (i : Int) < (T.size : Int) := by omega
        have hend : tgt = hl := by rw [ht.out, if_neg hlt]
        have hfin : Hid (digestL s.data.toList k = textL hl) := by
          show _ = _
          unfold digestL
          rw [← htgt.out, hend]
        obtain ⟨Bs, hBs⟩ : ∃ z, z = wr.heap.size := ⟨_, rfl⟩
        have hgB : g < Bs := by rw [hBs]; exact hH.lt
        have hBw : w.heap.size ≤ Bs := by rw [hBs]; exact hB.size
        have hBle : Bs ≤ wr.heap.size := by omega
        clear hBs htgt ht hTb
        go_wp2
        go_loopw [11, 12] (fun v11 v12 wr => ∃ i : Nat, i ≤ 8 ∧ v12 = .int .i64 i ∧ wr.ownsRow Bs 5 1 v11 (4 * i) (((textL hl).take (4 * i)).map byteVal) ∧ Bs ≤ wr.heap.size ∧ Arr wr g 58 (hl.map wv) ∧ Below w.heap.size w wr) (fun _ v12 _ => 8 - (intOf v12).toNat)
        case atStart => exact ⟨0, Nat.zero_le _, rfl, World.ownsRow_nil _ _ _ _, hBle, hH, hB⟩
        case round =>
          clear hH hB hBle
          obtain ⟨i, hi8, rfl, hown, hBle, hH, hB⟩ := hrel
          by_cases hlt : i < 8
          · have h1 : (i : Int) < 8 := by omega
            have h0 : (0 : Int) ≤ (i : Int) := by omega
            obtain ⟨x, hx⟩ : ∃ z, Hid (z = hl.getD i 0) := ⟨_, rfl⟩
            have c1 : wr.cell? ⟨g, i, none⟩ = some (.int .u32 (x.toNat : Int)) := by
              rw [hx.out]; exact hH.cell (getD_get hl i (by omega))
            go_wp2
            have hO1 : ((wr.alloc (.cells #[.int .u8 (IntKind.u8.wrap (x.toNat : Int)), .int .u8 (IntKind.u8.wrap (IntKind.u32.wrap ((x.toNat : Int) / 256))), .int .u8 (IntKind.u8.wrap (IntKind.u32.wrap ((x.toNat : Int) / 65536))), .int .u8 (IntKind.u8.wrap (IntKind.u32.wrap ((x.toNat : Int) / 16777216)))] 5)).drew).ownsRow Bs 5 1 u11 (4 * i) (((textL hl).take (4 * i)).map byteVal) := hown.alloc _
            have hN1 : ∀ j u, ([.int .u8 (IntKind.u8.wrap (x.toNat : Int)), .int .u8 (IntKind.u8.wrap (IntKind.u32.wrap ((x.toNat : Int) / 256))), .int .u8 (IntKind.u8.wrap (IntKind.u32.wrap ((x.toNat : Int) / 65536))), .int .u8 (IntKind.u8.wrap (IntKind.u32.wrap ((x.toNat : Int) / 16777216)))] : List Value)[j]? = some u → ((wr.alloc (.cells #[.int .u8 (IntKind.u8.wrap (x.toNat : Int)), .int .u8 (IntKind.u8.wrap (IntKind.u32.wrap ((x.toNat : Int) / 256))), .int .u8 (IntKind.u8.wrap (IntKind.u32.wrap ((x.toNat : Int) / 65536))), .int .u8 (IntKind.u8.wrap (IntKind.u32.wrap ((x.toNat : Int) / 16777216)))] 5)).drew).cell? ((⟨wr.heap.size, 0, none⟩ : Addr).add j) = some u := by
              intro j u hj
              rw [Addr.add_mid, Nat.zero_add]
              exact (Arr.new wr 5 [.int .u8 (IntKind.u8.wrap (x.toNat : Int)), .int .u8 (IntKind.u8.wrap (IntKind.u32.wrap ((x.toNat : Int) / 256))), .int .u8 (IntKind.u8.wrap (IntKind.u32.wrap ((x.toNat : Int) / 65536))), .int .u8 (IntKind.u8.wrap (IntKind.u32.wrap ((x.toNat : Int) / 16777216)))]).drew.cell hj
            have hN2 : ∀ u ∈ ([.int .u8 (IntKind.u8.wrap (x.toNat : Int)), .int .u8 (IntKind.u8.wrap (IntKind.u32.wrap ((x.toNat : Int) / 256))), .int .u8 (IntKind.u8.wrap (IntKind.u32.wrap ((x.toNat : Int) / 65536))), .int .u8 (IntKind.u8.wrap (IntKind.u32.wrap ((x.toNat : Int) / 16777216)))] : List Value), u.oneCell' = true := by
              rw [four_vals]
              intro u hu
              obtain ⟨b, _, rfl⟩ := List.mem_map.1 hu
              rfl
            have hN3 : Bs ≤ ((wr.alloc (.cells #[.int .u8 (IntKind.u8.wrap (x.toNat : Int)), .int .u8 (IntKind.u8.wrap (IntKind.u32.wrap ((x.toNat : Int) / 256))), .int .u8 (IntKind.u8.wrap (IntKind.u32.wrap ((x.toNat : Int) / 65536))), .int .u8 (IntKind.u8.wrap (IntKind.u32.wrap ((x.toNat : Int) / 16777216)))] 5)).drew).heap.size := by show Bs ≤ (wr.alloc _).heap.size; rw [alloc_size]; omega
            have hN4 : ((wr.alloc (.cells #[.int .u8 (IntKind.u8.wrap (x.toNat : Int)), .int .u8 (IntKind.u8.wrap (IntKind.u32.wrap ((x.toNat : Int) / 256))), .int .u8 (IntKind.u8.wrap (IntKind.u32.wrap ((x.toNat : Int) / 65536))), .int .u8 (IntKind.u8.wrap (IntKind.u32.wrap ((x.toNat : Int) / 16777216)))] 5)).drew).heap.size = wr.heap.size + 1 := alloc_size wr _
            have hN5 : 4 * i + 4 ≤ maxLen := by unfold maxLen; omega
            have hN6 : (4 * i + 4) * 1 ≤ 140737488355328 := by omega
            have hkeep : ∀ w2, ((wr.alloc (.cells #[.int .u8 (IntKind.u8.wrap (x.toNat : Int)), .int .u8 (IntKind.u8.wrap (IntKind.u32.wrap ((x.toNat : Int) / 256))), .int .u8 (IntKind.u8.wrap (IntKind.u32.wrap ((x.toNat : Int) / 65536))), .int .u8 (IntKind.u8.wrap (IntKind.u32.wrap ((x.toNat : Int) / 16777216)))] 5)).drew).grownBy w2 u11.ownBlock → Below Bs wr w2 := fun w2 hg => (((Below.refl Bs wr).alloc hBle _).drew).grown hg hN3 (fun k hk => (hO1.lt k hk).1)
            have hkeep2 : ∀ w2, ((wr.alloc (.cells #[.int .u8 (IntKind.u8.wrap (x.toNat : Int)), .int .u8 (IntKind.u8.wrap (IntKind.u32.wrap ((x.toNat : Int) / 256))), .int .u8 (IntKind.u8.wrap (IntKind.u32.wrap ((x.toNat : Int) / 65536))), .int .u8 (IntKind.u8.wrap (IntKind.u32.wrap ((x.toNat : Int) / 16777216)))] 5)).drew).grownBy w2 u11.ownBlock → w2.cell? ⟨g, i, none⟩ = some (.int .u32 (x.toNat : Int)) := fun w2 hg => by
              rw [(hkeep w2 hg).cell (p := ⟨g, i, none⟩) hgB]; exact c1
            go_region_held3 (fun w' => w'.cell? ⟨g, i, none⟩ = some (.int .u32 (x.toNat : Int))) (first | go_keep | (apply hkeep2; assumption))
              ((refine step_append_lies _ (by rfl) _ _ 55 (by rfl) Bs 5 iB (.int .u8 0) 1 1 Tryd.underlying55 hiB hb0 hb1 hb2 rfl (by decide) _ (4 * i) (((textL hl).take (4 * i)).map byteVal) (by rfl) hO1 ⟨wr.heap.size, 0, none⟩ 4 4 [.int .u8 (IntKind.u8.wrap (x.toNat : Int)), .int .u8 (IntKind.u8.wrap (IntKind.u32.wrap ((x.toNat : Int) / 256))), .int .u8 (IntKind.u8.wrap (IntKind.u32.wrap ((x.toNat : Int) / 65536))), .int .u8 (IntKind.u8.wrap (IntKind.u32.wrap ((x.toNat : Int) / 16777216)))] (by rfl) (by rfl) hN1 hN2 (by decide) hN5 hN6 hN3 (wr.heap.size + 1) hN4 ?_; intro g2 cap2 w2 hown2 hgrow2 hat2 hlt2))
            have hbw := hkeep w2 hgrow2
            have hH2 := hH.below hbw hgB
            have hB2' := hB.trans (hbw.mono hBw)
            have hBl2 : Bs ≤ w2.heap.size := Nat.le_trans hBle hbw.size
            rw [four_vals, ← List.map_append, hx.out, ← text_step hl i hlt] at hown2
            clear hkeep hkeep2 hN1 hN2 hN3 hN4 hO1 hgrow2
            go_wp2
            go_roundw
            case rel => exact ⟨i + 1, by omega, by go_num, hown2, hBl2, hH2, hB2'⟩
            case measure => simp [intOf]; omega
          · obtain rfl : i = 8 := by omega
            have h1 : ¬ (8 : Int) < 8 := by omega
            have hl32 : (textL hl).length = 32 := by simp [textL]
            rw [List.take_of_length_le (by omega)] at hown
            have hcv := own_string (l := textL hl) (by rw [hl32]; exact hown)
            go_wp2
            go_ret
            refine ⟨?_, hB⟩
            rw [hfin.out]
            rfl
  · have hz' : ¬ (s.size : Int) = 0 := by omega
    by_cases hm : s.size % 64 = 0
    · have hm' : (s.size : Int) % 64 = 0 := by omega
      have hcv : True := trivial
      have hTl : Hid (s.data.toList = s.data.toList ++ List.replicate 0 0) := by show _ = _; simp
      have hT64 : Hid (s.size % 64 = 0) := hm
      have hTn : Hid (s.size ≤ s.size ∧ s.size < s.size + 65 ∧ 0 < s.size ∧ (s.size = 0 → s.size = 64) ∧ (0 < s.size → s.size < s.size + 64)) := by show _ ∧ _; omega
      have hT42 : s.size ≤ 4200 := by omega
      have hA3 := hA2
      have hB3 := hB2
      have hw3 : ∃ z, z = w.alloc (.cells ((seedL k).map wv).toArray 58) := ⟨_, rfl⟩
      obtain ⟨w3, hw3⟩ := hw3
      rw [← hw3] at hA3 hB3
      go_wp2_with fail
      rw [← hw3]
      clear hw3 hA2 hB2
      refine (rows_any w3).mono ?_
      rintro e w' ⟨rfl, rfl⟩
      obtain ⟨hR1, hR2⟩ := tabs_rows w3
      have hbr := allocAll_below (rowObjs w3.heap.size) w3
      have hA4 := hA3.below hbr hA3.lt
      have hB4 := hB3.trans (hbr.mono hB3.size)
      clear hcv hbr
      generalize allocAll w3 (rowObjs w3.heap.size) = w4 at hR1 hR2 hA4 hB4 ⊢
      generalize w3.heap.size = N at hR1 hR2 ⊢
      go_wp2_with fail
      refine (places_any w4).mono ?_
      rintro e w' ⟨rfl, rfl⟩
      have hT5 : Tabs (w4.alloc (.cells (places.map iv).toArray 3)) N w4.heap.size := ⟨fun i hi => (hR1 i hi).alloc _, hR2.alloc _, Arr.new w4 _ _⟩
      have hA5 := hA4.alloc (.cells (places.map iv).toArray 3)
      have hB5 := hB4.alloc hB4.size (.cells (places.map iv).toArray 3)
      clear hR1 hR2 hA4 hB4 hA3 hB3
      generalize w4.alloc (.cells (places.map iv).toArray 3) = w5 at hT5 hA5 hB5 ⊢
      generalize w4.heap.size = ab at hT5 ⊢
      have hst : Hid (tgt = if 0 < s.size then dig (seedL k) (s.data.toList.drop 0) 0 else seedL k) := by
        show _ = _
        rw [if_pos hTn.out.2.2.1, htgt.out]; rfl
      clear hm'
      go_wp2
      go_loopw [5, 10] (fun v5 v10 wr => ∃ (hl : List UInt32) (g i : Nat), v5 = .slice (some ⟨g, 0, none⟩) 8 8 ∧ v10 = .int .i64 i ∧ i % 64 = 0 ∧ i ≤ s.size ∧ hl.length = 8 ∧ Arr wr g 58 (hl.map wv) ∧ Tabs wr N ab ∧ Below w.heap.size w wr ∧ Hid (tgt = if i < s.size then dig hl (s.data.toList.drop i) i else hl)) (fun _ v10 _ => s.size - (intOf v10).toNat)
      case atStart => exact ⟨seedL k, w.heap.size, 0, rfl, rfl, rfl, Nat.zero_le _, rfl, hA5, hT5, hB5, hst⟩
      case round =>
        clear hA5 hT5 hB5 hst
        obtain ⟨hl, g, i, rfl, rfl, hi64, hiT, hhl, hH, hTb, hB, ht⟩ := hrel
        by_cases hlt : i < s.size
        · have h1 : (i : Int) < (s.size : Int) := by omega
          have h0 : (0 : Int) ≤ (i : Int) := by omega
          have h2 : (i : Int) + 64 ≤ (s.size : Int) := by have := hT64.out; omega
          have hb4 : s.size ≤ 4200 := by have := hTn.out; omega
          obtain ⟨sub, hsub⟩ : ∃ z, Hid (z = s.extract i (i + 64)) := ⟨_, rfl⟩
          have hsx : s.extract i (i + 64) = sub := hsub.out.symm
          have hss : sub.size = 64 := by rw [hsub.out, ByteArray.size_extract]; have := hT64.out; omega
          obtain ⟨tm, htm⟩ : ∃ z, Hid (z = min s.size (i + 64)) := ⟨_, rfl⟩
          have hmin : min (s.size : Int) ((i : Int) + 64) = (tm : Int) := by have := htm.out; omega
          by_cases hlast : i + 64 = s.size
          · have h3 : (i : Int) + 64 = (s.size : Int) := by omega
            have hsx2 : s.extract i s.size = sub := by rw [← hlast]; exact hsx
            go_wp2_with fail
            refine (block_any hl g N ab sub s.size true wr hhl hss (by omega) hH hTb).mono ?_
            rintro e w' ⟨g', rfl, hH', hb'⟩
            have hB' := hB.trans (hb'.mono hB.size)
            have hTb' := hTb.below hb' hTb.all.lt hTb.at'.lt
            have hnx : Hid (tgt = if i + 64 < s.size then dig (foldL hl (wordsL sub.data.toList) (UInt32.ofNat s.size) true) (s.data.toList.drop (i + 64)) (i + 64) else foldL hl (wordsL sub.data.toList) (UInt32.ofNat s.size) true) := by
              show _ = _
              have hbl := block_last hl s.data.toList s i 0 hTl.out (by omega) hlast
              rw [hsl, Nat.min_eq_left (by omega)] at hbl
              rw [if_neg (by omega), ht.out, if_pos hlt, hsub.out, hbl]
            go_wp2
            go_roundw
            case rel => exact ⟨_, g', i + 64, rfl, by go_num, by omega, by have := hT64.out; omega, foldL_len _ _ _ _, hH', hTb', hB', hnx⟩
            case measure => simp [intOf]; omega
          · have h3 : ¬ (i : Int) + 64 = (s.size : Int) := by omega
            have h3b : ((i : Int) + 64 == (s.size : Int)) = false := by simpa using h3
            go_wp2_with fail
            have cb := block_any hl g N ab sub (i + 64) false wr hhl hss (by omega) hH hTb
            rw [show ((i + 64 : Nat) : Int) = (i : Int) + 64 by omega] at cb
            refine cb.mono ?_
            rintro e w' ⟨g', rfl, hH', hb'⟩
            have hB' := hB.trans (hb'.mono hB.size)
            have hTb' := hTb.below hb' hTb.all.lt hTb.at'.lt
            have hnx : Hid (tgt = if i + 64 < s.size then dig (foldL hl (wordsL sub.data.toList) (UInt32.ofNat (i + 64)) false) (s.data.toList.drop (i + 64)) (i + 64) else foldL hl (wordsL sub.data.toList) (UInt32.ofNat (i + 64)) false) := by
              show _ = _
              have hbl := block_more hl s.data.toList s i 0 hTl.out (by have := hT64.out; omega)
              rw [hsl, Nat.min_eq_right (by have := hT64.out; omega)] at hbl
              rw [if_pos (by have := hT64.out; omega), ht.out, if_pos hlt, hsub.out, hbl]
            go_wp2
            go_roundw
            case rel => exact ⟨_, g', i + 64, rfl, by go_num, by omega, by have := hT64.out; omega, foldL_len _ _ _ _, hH', hTb', hB', hnx⟩
            case measure => simp [intOf]; omega
        · have h1 : ¬ (i : Int) < (s.size : Int) := by omega
          have hend : tgt = hl := by rw [ht.out, if_neg hlt]
          have hfin : Hid (digestL s.data.toList k = textL hl) := by
            show _ = _
            unfold digestL
            rw [← htgt.out, hend]
          obtain ⟨Bs, hBs⟩ : ∃ z, z = wr.heap.size := ⟨_, rfl⟩
          have hgB : g < Bs := by rw [hBs]; exact hH.lt
          have hBw : w.heap.size ≤ Bs := by rw [hBs]; exact hB.size
          have hBle : Bs ≤ wr.heap.size := by omega
          clear hBs htgt ht hTb
          go_wp2
          go_loopw [11, 12] (fun v11 v12 wr => ∃ i : Nat, i ≤ 8 ∧ v12 = .int .i64 i ∧ wr.ownsRow Bs 5 1 v11 (4 * i) (((textL hl).take (4 * i)).map byteVal) ∧ Bs ≤ wr.heap.size ∧ Arr wr g 58 (hl.map wv) ∧ Below w.heap.size w wr) (fun _ v12 _ => 8 - (intOf v12).toNat)
          case atStart => exact ⟨0, Nat.zero_le _, rfl, World.ownsRow_nil _ _ _ _, hBle, hH, hB⟩
          case round =>
            clear hH hB hBle
            obtain ⟨i, hi8, rfl, hown, hBle, hH, hB⟩ := hrel
            by_cases hlt : i < 8
            · have h1 : (i : Int) < 8 := by omega
              have h0 : (0 : Int) ≤ (i : Int) := by omega
              obtain ⟨x, hx⟩ : ∃ z, Hid (z = hl.getD i 0) := ⟨_, rfl⟩
              have c1 : wr.cell? ⟨g, i, none⟩ = some (.int .u32 (x.toNat : Int)) := by
                rw [hx.out]; exact hH.cell (getD_get hl i (by omega))
              go_wp2
              have hO1 : ((wr.alloc (.cells #[.int .u8 (IntKind.u8.wrap (x.toNat : Int)), .int .u8 (IntKind.u8.wrap (IntKind.u32.wrap ((x.toNat : Int) / 256))), .int .u8 (IntKind.u8.wrap (IntKind.u32.wrap ((x.toNat : Int) / 65536))), .int .u8 (IntKind.u8.wrap (IntKind.u32.wrap ((x.toNat : Int) / 16777216)))] 5)).drew).ownsRow Bs 5 1 u11 (4 * i) (((textL hl).take (4 * i)).map byteVal) := hown.alloc _
              have hN1 : ∀ j u, ([.int .u8 (IntKind.u8.wrap (x.toNat : Int)), .int .u8 (IntKind.u8.wrap (IntKind.u32.wrap ((x.toNat : Int) / 256))), .int .u8 (IntKind.u8.wrap (IntKind.u32.wrap ((x.toNat : Int) / 65536))), .int .u8 (IntKind.u8.wrap (IntKind.u32.wrap ((x.toNat : Int) / 16777216)))] : List Value)[j]? = some u → ((wr.alloc (.cells #[.int .u8 (IntKind.u8.wrap (x.toNat : Int)), .int .u8 (IntKind.u8.wrap (IntKind.u32.wrap ((x.toNat : Int) / 256))), .int .u8 (IntKind.u8.wrap (IntKind.u32.wrap ((x.toNat : Int) / 65536))), .int .u8 (IntKind.u8.wrap (IntKind.u32.wrap ((x.toNat : Int) / 16777216)))] 5)).drew).cell? ((⟨wr.heap.size, 0, none⟩ : Addr).add j) = some u := by
                intro j u hj
                rw [Addr.add_mid, Nat.zero_add]
                exact (Arr.new wr 5 [.int .u8 (IntKind.u8.wrap (x.toNat : Int)), .int .u8 (IntKind.u8.wrap (IntKind.u32.wrap ((x.toNat : Int) / 256))), .int .u8 (IntKind.u8.wrap (IntKind.u32.wrap ((x.toNat : Int) / 65536))), .int .u8 (IntKind.u8.wrap (IntKind.u32.wrap ((x.toNat : Int) / 16777216)))]).drew.cell hj
              have hN2 : ∀ u ∈ ([.int .u8 (IntKind.u8.wrap (x.toNat : Int)), .int .u8 (IntKind.u8.wrap (IntKind.u32.wrap ((x.toNat : Int) / 256))), .int .u8 (IntKind.u8.wrap (IntKind.u32.wrap ((x.toNat : Int) / 65536))), .int .u8 (IntKind.u8.wrap (IntKind.u32.wrap ((x.toNat : Int) / 16777216)))] : List Value), u.oneCell' = true := by
                rw [four_vals]
                intro u hu
                obtain ⟨b, _, rfl⟩ := List.mem_map.1 hu
                rfl
              have hN3 : Bs ≤ ((wr.alloc (.cells #[.int .u8 (IntKind.u8.wrap (x.toNat : Int)), .int .u8 (IntKind.u8.wrap (IntKind.u32.wrap ((x.toNat : Int) / 256))), .int .u8 (IntKind.u8.wrap (IntKind.u32.wrap ((x.toNat : Int) / 65536))), .int .u8 (IntKind.u8.wrap (IntKind.u32.wrap ((x.toNat : Int) / 16777216)))] 5)).drew).heap.size := by show Bs ≤ (wr.alloc _).heap.size; rw [alloc_size]; omega
              have hN4 : ((wr.alloc (.cells #[.int .u8 (IntKind.u8.wrap (x.toNat : Int)), .int .u8 (IntKind.u8.wrap (IntKind.u32.wrap ((x.toNat : Int) / 256))), .int .u8 (IntKind.u8.wrap (IntKind.u32.wrap ((x.toNat : Int) / 65536))), .int .u8 (IntKind.u8.wrap (IntKind.u32.wrap ((x.toNat : Int) / 16777216)))] 5)).drew).heap.size = wr.heap.size + 1 := alloc_size wr _
              have hN5 : 4 * i + 4 ≤ maxLen := by unfold maxLen; omega
              have hN6 : (4 * i + 4) * 1 ≤ 140737488355328 := by omega
              have hkeep : ∀ w2, ((wr.alloc (.cells #[.int .u8 (IntKind.u8.wrap (x.toNat : Int)), .int .u8 (IntKind.u8.wrap (IntKind.u32.wrap ((x.toNat : Int) / 256))), .int .u8 (IntKind.u8.wrap (IntKind.u32.wrap ((x.toNat : Int) / 65536))), .int .u8 (IntKind.u8.wrap (IntKind.u32.wrap ((x.toNat : Int) / 16777216)))] 5)).drew).grownBy w2 u11.ownBlock → Below Bs wr w2 := fun w2 hg => (((Below.refl Bs wr).alloc hBle _).drew).grown hg hN3 (fun k hk => (hO1.lt k hk).1)
              have hkeep2 : ∀ w2, ((wr.alloc (.cells #[.int .u8 (IntKind.u8.wrap (x.toNat : Int)), .int .u8 (IntKind.u8.wrap (IntKind.u32.wrap ((x.toNat : Int) / 256))), .int .u8 (IntKind.u8.wrap (IntKind.u32.wrap ((x.toNat : Int) / 65536))), .int .u8 (IntKind.u8.wrap (IntKind.u32.wrap ((x.toNat : Int) / 16777216)))] 5)).drew).grownBy w2 u11.ownBlock → w2.cell? ⟨g, i, none⟩ = some (.int .u32 (x.toNat : Int)) := fun w2 hg => by
                rw [(hkeep w2 hg).cell (p := ⟨g, i, none⟩) hgB]; exact c1
              go_region_held3 (fun w' => w'.cell? ⟨g, i, none⟩ = some (.int .u32 (x.toNat : Int))) (first | go_keep | (apply hkeep2; assumption))
                ((refine step_append_lies _ (by rfl) _ _ 55 (by rfl) Bs 5 iB (.int .u8 0) 1 1 Tryd.underlying55 hiB hb0 hb1 hb2 rfl (by decide) _ (4 * i) (((textL hl).take (4 * i)).map byteVal) (by rfl) hO1 ⟨wr.heap.size, 0, none⟩ 4 4 [.int .u8 (IntKind.u8.wrap (x.toNat : Int)), .int .u8 (IntKind.u8.wrap (IntKind.u32.wrap ((x.toNat : Int) / 256))), .int .u8 (IntKind.u8.wrap (IntKind.u32.wrap ((x.toNat : Int) / 65536))), .int .u8 (IntKind.u8.wrap (IntKind.u32.wrap ((x.toNat : Int) / 16777216)))] (by rfl) (by rfl) hN1 hN2 (by decide) hN5 hN6 hN3 (wr.heap.size + 1) hN4 ?_; intro g2 cap2 w2 hown2 hgrow2 hat2 hlt2))
              have hbw := hkeep w2 hgrow2
              have hH2 := hH.below hbw hgB
              have hB2' := hB.trans (hbw.mono hBw)
              have hBl2 : Bs ≤ w2.heap.size := Nat.le_trans hBle hbw.size
              rw [four_vals, ← List.map_append, hx.out, ← text_step hl i hlt] at hown2
              clear hkeep hkeep2 hN1 hN2 hN3 hN4 hO1 hgrow2
              go_wp2
              go_roundw
              case rel => exact ⟨i + 1, by omega, by go_num, hown2, hBl2, hH2, hB2'⟩
              case measure => simp [intOf]; omega
            · obtain rfl : i = 8 := by omega
              have h1 : ¬ (8 : Int) < 8 := by omega
              have hl32 : (textL hl).length = 32 := by simp [textL]
              rw [List.take_of_length_le (by omega)] at hown
              have hcv := own_string (l := textL hl) (by rw [hl32]; exact hown)
              go_wp2
              go_ret
              refine ⟨?_, hB⟩
              rw [hfin.out]
              rfl
    · have hm' : ¬ (s.size : Int) % 64 = 0 := by omega
      have hzb : ((s.size : Int) == 0) = false := by simpa using hz
      have hmb : ((s.size : Int) % 64 != 0) = true := by simpa using hm'
      obtain ⟨nz, hnz⟩ : ∃ z, Hid (z = 64 - s.size % 64) := ⟨_, rfl⟩
      go_wp2_with (refine wpList_make_full _ (by rfl) _ _ 55 (by rfl) w.heap.size 5 iB (.int .u8 0) 1 Tryd.underlying55 hiB hb0 hb1 .i64 .i64 _ _ nz (by rfl) (by rfl) ?m1 ?m2 ?m3 ?m4 ?m5 ?_)
      case m1 => have := hnz.out; omega
      case m2 => have := hnz.out; omega
      case m3 => have := hnz.out; rw [hb2]; omega
      case m4 => have := hnz.out; unfold maxLen; omega
      case m5 => rw [alloc_size]; omega
      intro w3 hown3 hgrow3
      have hA3 := hA2.below ((Below.refl _ _).grown hgrow3 (Nat.le_refl _) (fun k hk => by cases hk)) hA2.lt
      have hB3 : Below w.heap.size w w3 := hB2.grown hgrow3 (by rw [alloc_size]; omega) (fun k hk => by cases hk)
      rw [made_zeros] at hown3
      have hcv := own_string (l := List.replicate nz 0) (by simpa using hown3)
      clear hown3 hgrow3
      obtain ⟨T, hT⟩ : ∃ z, Hid (z = s ++ ⟨Array.replicate nz 0⟩) := ⟨_, rfl⟩
      have hTc : s ++ (⟨Array.replicate nz 0⟩ : ByteArray) = T := hT.out.symm
      have hTl : T.data.toList = s.data.toList ++ List.replicate nz 0 := by rw [hT.out]; simp
      have hTs : Hid (T.size = s.size + nz) := by
        have := congrArg List.length hTl
        show _ = _
        simpa using this
      have hT64 : Hid (T.size % 64 = 0) := by have := hnz.out; have := hTs.out; show _ = _; omega
      have hTn : Hid ( s.size ≤ T.size ∧ T.size < s.size + 65 ∧ 0 < T.size ∧ (s.size = 0 → T.size = 64) ∧ (0 < s.size → T.size < s.size + 64)) := by have := hnz.out; have := hTs.out; show _ ∧ _; omega
      have hnb : nz ≤ 64 := by have := hnz.out; omega
      have hT42 : T.size ≤ 4200 := by have := hTn.out; omega
      have hmx : s.size + nz ≤ maxLen := by unfold maxLen; omega
      have hmx2 : T.size ≤ maxLen := by unfold maxLen; omega
      have hmx3 : ¬ (maxLen < s.size + nz) := by omega
      go_wp2_with fail
      refine (rows_any w3).mono ?_
      rintro e w' ⟨rfl, rfl⟩
      obtain ⟨hR1, hR2⟩ := tabs_rows w3
      have hbr := allocAll_below (rowObjs w3.heap.size) w3
      have hA4 := hA3.below hbr hA3.lt
      have hB4 := hB3.trans (hbr.mono hB3.size)
      clear hcv hbr
      generalize allocAll w3 (rowObjs w3.heap.size) = w4 at hR1 hR2 hA4 hB4 ⊢
      generalize w3.heap.size = N at hR1 hR2 ⊢
      go_wp2_with fail
      refine (places_any w4).mono ?_
      rintro e w' ⟨rfl, rfl⟩
      have hT5 : Tabs (w4.alloc (.cells (places.map iv).toArray 3)) N w4.heap.size := ⟨fun i hi => (hR1 i hi).alloc _, hR2.alloc _, Arr.new w4 _ _⟩
      have hA5 := hA4.alloc (.cells (places.map iv).toArray 3)
      have hB5 := hB4.alloc hB4.size (.cells (places.map iv).toArray 3)
      clear hR1 hR2 hA4 hB4 hA3 hB3
      generalize w4.alloc (.cells (places.map iv).toArray 3) = w5 at hT5 hA5 hB5 ⊢
      generalize w4.heap.size = ab at hT5 ⊢
      have hst : Hid (tgt = if 0 < T.size then dig (seedL k) (s.data.toList.drop 0) 0 else seedL k) := by
        show _ = _
        rw [if_pos hTn.out.2.2.1, htgt.out]; rfl
      clear hm hm' hz hz' hzb hmb hmx hmx2 hmx3 hTc
      go_wp2
      go_loopw [5, 10] (fun v5 v10 wr => ∃ (hl : List UInt32) (g i : Nat), v5 = .slice (some ⟨g, 0, none⟩) 8 8 ∧ v10 = .int .i64 i ∧ i % 64 = 0 ∧ i ≤ T.size ∧ hl.length = 8 ∧ Arr wr g 58 (hl.map wv) ∧ Tabs wr N ab ∧ Below w.heap.size w wr ∧ Hid (tgt = if i < T.size then dig hl (s.data.toList.drop i) i else hl)) (fun _ v10 _ => T.size - (intOf v10).toNat)
      case atStart => exact ⟨seedL k, w.heap.size, 0, rfl, rfl, rfl, Nat.zero_le _, rfl, hA5, hT5, hB5, hst⟩
      case round =>
        clear hA5 hT5 hB5 hst
        obtain ⟨hl, g, i, rfl, rfl, hi64, hiT, hhl, hH, hTb, hB, ht⟩ := hrel
        by_cases hlt : i < T.size
        · have h1 : (i : Int) < (T.size : Int) := by omega
          have h0 : (0 : Int) ≤ (i : Int) := by omega
          have h2 : (i : Int) + 64 ≤ (T.size : Int) := by have := hT64.out; omega
          have hb4 : T.size ≤ 4200 := by have := hTn.out; omega
          obtain ⟨sub, hsub⟩ : ∃ z, Hid (z = T.extract i (i + 64)) := ⟨_, rfl⟩
          have hsx : T.extract i (i + 64) = sub := hsub.out.symm
          have hss : sub.size = 64 := by rw [hsub.out, ByteArray.size_extract]; have := hT64.out; omega
          obtain ⟨tm, htm⟩ : ∃ z, Hid (z = min s.size (i + 64)) := ⟨_, rfl⟩
          have hmin : min (s.size : Int) ((i : Int) + 64) = (tm : Int) := by have := htm.out; omega
          by_cases hlast : i + 64 = T.size
          · have h3 : (i : Int) + 64 = (T.size : Int) := by omega
            have hsle : (s.size : Int) ≤ (T.size : Int) := by have := hTn.out; omega
            have hsx2 : T.extract i T.size = sub := by rw [← hlast]; exact hsx
            go_wp2_with fail
            refine (block_any hl g N ab sub s.size true wr hhl hss (by omega) hH hTb).mono ?_
            rintro e w' ⟨g', rfl, hH', hb'⟩
            have hB' := hB.trans (hb'.mono hB.size)
            have hTb' := hTb.below hb' hTb.all.lt hTb.at'.lt
            have hnx : Hid (tgt = if i + 64 < T.size then dig (foldL hl (wordsL sub.data.toList) (UInt32.ofNat s.size) true) (s.data.toList.drop (i + 64)) (i + 64) else foldL hl (wordsL sub.data.toList) (UInt32.ofNat s.size) true) := by
              show _ = _
              have hbl := block_last hl s.data.toList T i nz hTl (by have := hTn.out; omega) hlast
              rw [hsl, Nat.min_eq_left (by have := hTn.out; omega)] at hbl
              rw [if_neg (by omega), ht.out, if_pos hlt, hsub.out, hbl]
            go_wp2
            go_roundw
            case rel => exact ⟨_, g', i + 64, rfl, by go_num, by omega, by have := hT64.out; omega, foldL_len _ _ _ _, hH', hTb', hB', hnx⟩
            case measure => simp [intOf]; omega
          · have h3 : ¬ (i : Int) + 64 = (T.size : Int) := by omega
            have h3b : ((i : Int) + 64 == (T.size : Int)) = false := by simpa using h3
            have hile : (i : Int) + 64 ≤ (s.size : Int) := by have := hTn.out; have := hT64.out; omega
            have hilt : ¬ (s.size : Int) ≤ (i : Int) + 64 := by have := hTn.out; have := hT64.out; omega
            go_wp2_with fail
            have cb := block_any hl g N ab sub (i + 64) false wr hhl hss (by omega) hH hTb
            rw [show ((i + 64 : Nat) : Int) = (i : Int) + 64 by omega] at cb
            refine cb.mono ?_
            rintro e w' ⟨g', rfl, hH', hb'⟩
            have hB' := hB.trans (hb'.mono hB.size)
            have hTb' := hTb.below hb' hTb.all.lt hTb.at'.lt
            have hnx : Hid (tgt = if i + 64 < T.size then dig (foldL hl (wordsL sub.data.toList) (UInt32.ofNat (i + 64)) false) (s.data.toList.drop (i + 64)) (i + 64) else foldL hl (wordsL sub.data.toList) (UInt32.ofNat (i + 64)) false) := by
              show _ = _
              have hbl := block_more hl s.data.toList T i nz hTl (by have := hTn.out; have := hT64.out; omega)
              rw [hsl, Nat.min_eq_right (by have := hTn.out; have := hT64.out; omega)] at hbl
              rw [if_pos (by have := hT64.out; omega), ht.out, if_pos hlt, hsub.out, hbl]
            go_wp2
            go_roundw
            case rel => exact ⟨_, g', i + 64, rfl, by go_num, by omega, by have := hT64.out; omega, foldL_len _ _ _ _, hH', hTb', hB', hnx⟩
            case measure => simp [intOf]; omega
        · have h1 : ¬ (i : Int) < (T.size : Int) := by omega
          have hend : tgt = hl := by rw [ht.out, if_neg hlt]
          have hfin : Hid (digestL s.data.toList k = textL hl) := by
            show _ = _
            unfold digestL
            rw [← htgt.out, hend]
          obtain ⟨Bs, hBs⟩ : ∃ z, z = wr.heap.size := ⟨_, rfl⟩
          have hgB : g < Bs := by rw [hBs]; exact hH.lt
          have hBw : w.heap.size ≤ Bs := by rw [hBs]; exact hB.size
          have hBle : Bs ≤ wr.heap.size := by omega
          clear hBs htgt ht hTb
          go_wp2
          go_loopw [11, 12] (fun v11 v12 wr => ∃ i : Nat, i ≤ 8 ∧ v12 = .int .i64 i ∧ wr.ownsRow Bs 5 1 v11 (4 * i) (((textL hl).take (4 * i)).map byteVal) ∧ Bs ≤ wr.heap.size ∧ Arr wr g 58 (hl.map wv) ∧ Below w.heap.size w wr) (fun _ v12 _ => 8 - (intOf v12).toNat)
          case atStart => exact ⟨0, Nat.zero_le _, rfl, World.ownsRow_nil _ _ _ _, hBle, hH, hB⟩
          case round =>
            clear hH hB hBle
            obtain ⟨i, hi8, rfl, hown, hBle, hH, hB⟩ := hrel
            by_cases hlt : i < 8
            · have h1 : (i : Int) < 8 := by omega
              have h0 : (0 : Int) ≤ (i : Int) := by omega
              obtain ⟨x, hx⟩ : ∃ z, Hid (z = hl.getD i 0) := ⟨_, rfl⟩
              have c1 : wr.cell? ⟨g, i, none⟩ = some (.int .u32 (x.toNat : Int)) := by
                rw [hx.out]; exact hH.cell (getD_get hl i (by omega))
              go_wp2
              have hO1 : ((wr.alloc (.cells #[.int .u8 (IntKind.u8.wrap (x.toNat : Int)), .int .u8 (IntKind.u8.wrap (IntKind.u32.wrap ((x.toNat : Int) / 256))), .int .u8 (IntKind.u8.wrap (IntKind.u32.wrap ((x.toNat : Int) / 65536))), .int .u8 (IntKind.u8.wrap (IntKind.u32.wrap ((x.toNat : Int) / 16777216)))] 5)).drew).ownsRow Bs 5 1 u11 (4 * i) (((textL hl).take (4 * i)).map byteVal) := hown.alloc _
              have hN1 : ∀ j u, ([.int .u8 (IntKind.u8.wrap (x.toNat : Int)), .int .u8 (IntKind.u8.wrap (IntKind.u32.wrap ((x.toNat : Int) / 256))), .int .u8 (IntKind.u8.wrap (IntKind.u32.wrap ((x.toNat : Int) / 65536))), .int .u8 (IntKind.u8.wrap (IntKind.u32.wrap ((x.toNat : Int) / 16777216)))] : List Value)[j]? = some u → ((wr.alloc (.cells #[.int .u8 (IntKind.u8.wrap (x.toNat : Int)), .int .u8 (IntKind.u8.wrap (IntKind.u32.wrap ((x.toNat : Int) / 256))), .int .u8 (IntKind.u8.wrap (IntKind.u32.wrap ((x.toNat : Int) / 65536))), .int .u8 (IntKind.u8.wrap (IntKind.u32.wrap ((x.toNat : Int) / 16777216)))] 5)).drew).cell? ((⟨wr.heap.size, 0, none⟩ : Addr).add j) = some u := by
                intro j u hj
                rw [Addr.add_mid, Nat.zero_add]
                exact (Arr.new wr 5 [.int .u8 (IntKind.u8.wrap (x.toNat : Int)), .int .u8 (IntKind.u8.wrap (IntKind.u32.wrap ((x.toNat : Int) / 256))), .int .u8 (IntKind.u8.wrap (IntKind.u32.wrap ((x.toNat : Int) / 65536))), .int .u8 (IntKind.u8.wrap (IntKind.u32.wrap ((x.toNat : Int) / 16777216)))]).drew.cell hj
              have hN2 : ∀ u ∈ ([.int .u8 (IntKind.u8.wrap (x.toNat : Int)), .int .u8 (IntKind.u8.wrap (IntKind.u32.wrap ((x.toNat : Int) / 256))), .int .u8 (IntKind.u8.wrap (IntKind.u32.wrap ((x.toNat : Int) / 65536))), .int .u8 (IntKind.u8.wrap (IntKind.u32.wrap ((x.toNat : Int) / 16777216)))] : List Value), u.oneCell' = true := by
                rw [four_vals]
                intro u hu
                obtain ⟨b, _, rfl⟩ := List.mem_map.1 hu
                rfl
              have hN3 : Bs ≤ ((wr.alloc (.cells #[.int .u8 (IntKind.u8.wrap (x.toNat : Int)), .int .u8 (IntKind.u8.wrap (IntKind.u32.wrap ((x.toNat : Int) / 256))), .int .u8 (IntKind.u8.wrap (IntKind.u32.wrap ((x.toNat : Int) / 65536))), .int .u8 (IntKind.u8.wrap (IntKind.u32.wrap ((x.toNat : Int) / 16777216)))] 5)).drew).heap.size := by show Bs ≤ (wr.alloc _).heap.size; rw [alloc_size]; omega
              have hN4 : ((wr.alloc (.cells #[.int .u8 (IntKind.u8.wrap (x.toNat : Int)), .int .u8 (IntKind.u8.wrap (IntKind.u32.wrap ((x.toNat : Int) / 256))), .int .u8 (IntKind.u8.wrap (IntKind.u32.wrap ((x.toNat : Int) / 65536))), .int .u8 (IntKind.u8.wrap (IntKind.u32.wrap ((x.toNat : Int) / 16777216)))] 5)).drew).heap.size = wr.heap.size + 1 := alloc_size wr _
              have hN5 : 4 * i + 4 ≤ maxLen := by unfold maxLen; omega
              have hN6 : (4 * i + 4) * 1 ≤ 140737488355328 := by omega
              have hkeep : ∀ w2, ((wr.alloc (.cells #[.int .u8 (IntKind.u8.wrap (x.toNat : Int)), .int .u8 (IntKind.u8.wrap (IntKind.u32.wrap ((x.toNat : Int) / 256))), .int .u8 (IntKind.u8.wrap (IntKind.u32.wrap ((x.toNat : Int) / 65536))), .int .u8 (IntKind.u8.wrap (IntKind.u32.wrap ((x.toNat : Int) / 16777216)))] 5)).drew).grownBy w2 u11.ownBlock → Below Bs wr w2 := fun w2 hg => (((Below.refl Bs wr).alloc hBle _).drew).grown hg hN3 (fun k hk => (hO1.lt k hk).1)
              have hkeep2 : ∀ w2, ((wr.alloc (.cells #[.int .u8 (IntKind.u8.wrap (x.toNat : Int)), .int .u8 (IntKind.u8.wrap (IntKind.u32.wrap ((x.toNat : Int) / 256))), .int .u8 (IntKind.u8.wrap (IntKind.u32.wrap ((x.toNat : Int) / 65536))), .int .u8 (IntKind.u8.wrap (IntKind.u32.wrap ((x.toNat : Int) / 16777216)))] 5)).drew).grownBy w2 u11.ownBlock → w2.cell? ⟨g, i, none⟩ = some (.int .u32 (x.toNat : Int)) := fun w2 hg => by
                rw [(hkeep w2 hg).cell (p := ⟨g, i, none⟩) hgB]; exact c1
              go_region_held3 (fun w' => w'.cell? ⟨g, i, none⟩ = some (.int .u32 (x.toNat : Int))) (first | go_keep | (apply hkeep2; assumption))
                ((refine step_append_lies _ (by rfl) _ _ 55 (by rfl) Bs 5 iB (.int .u8 0) 1 1 Tryd.underlying55 hiB hb0 hb1 hb2 rfl (by decide) _ (4 * i) (((textL hl).take (4 * i)).map byteVal) (by rfl) hO1 ⟨wr.heap.size, 0, none⟩ 4 4 [.int .u8 (IntKind.u8.wrap (x.toNat : Int)), .int .u8 (IntKind.u8.wrap (IntKind.u32.wrap ((x.toNat : Int) / 256))), .int .u8 (IntKind.u8.wrap (IntKind.u32.wrap ((x.toNat : Int) / 65536))), .int .u8 (IntKind.u8.wrap (IntKind.u32.wrap ((x.toNat : Int) / 16777216)))] (by rfl) (by rfl) hN1 hN2 (by decide) hN5 hN6 hN3 (wr.heap.size + 1) hN4 ?_; intro g2 cap2 w2 hown2 hgrow2 hat2 hlt2))
              have hbw := hkeep w2 hgrow2
              have hH2 := hH.below hbw hgB
              have hB2' := hB.trans (hbw.mono hBw)
              have hBl2 : Bs ≤ w2.heap.size := Nat.le_trans hBle hbw.size
              rw [four_vals, ← List.map_append, hx.out, ← text_step hl i hlt] at hown2
              clear hkeep hkeep2 hN1 hN2 hN3 hN4 hO1 hgrow2
              go_wp2
              go_roundw
              case rel => exact ⟨i + 1, by omega, by go_num, hown2, hBl2, hH2, hB2'⟩
              case measure => simp [intOf]; omega
            · obtain rfl : i = 8 := by omega
              have h1 : ¬ (8 : Int) < 8 := by omega
              have hl32 : (textL hl).length = 32 := by simp [textL]
              rw [List.take_of_length_le (by omega)] at hown
              have hcv := own_string (l := textL hl) (by rw [hl32]; exact hown)
              go_wp2
              go_ret
              refine ⟨?_, hB⟩
              rw [hfin.out]
              rfl
end Go.Proofs.YtlbibhngfnllbaaDoor
