/- tusklaw05.BatchBack answers true at every batch and every text; nothing old in memory is turned. -/
import Derived.Test.YtdnkakmdhdceaaaDoorBatWorks
import Derived.Test.YtdnkakmdhdceaaaDoorBatOwn
import Derived.Test.YtdnkakmdhdceaaaDoorBatDigest
namespace Go.Proofs.YtdnkakmdhdceaaaDoor
open Go.RowKit
set_option linter.unusedVariables false

/-- A right transaction's lists are short. -/
theorem lens_right {d : TxD} (h : checkL d = 0) : d.rs.length ≤ 8 ∧ d.ws.length ≤ 8 := by
  unfold checkL at h
  split at h
  · omega
  split at h
  · omega
  split at h
  · omega
  split at h
  · omega
  rename_i h4
  exact ⟨keysL_le _ (by omega), keysL_le _ h⟩

theorem digB_size {b : BatD} (h : checkB b = 0) : (digB b).size = 32 := by
  unfold digB
  rw [if_pos h, Mx.bytes_size]
  exact Mx.digestL_len _ _

theorem encBB_of {b : BatD} (h : checkB b = 0) : encBB b = ⟨(encBat b).toArray⟩ := if_pos h

set_option maxRecDepth 100000 in
set_option maxHeartbeats 4000000 in
theorem batchBack_walk (a n : Int) (ao : Option Addr) (l : List TxM) (cap : Nat) (s : ByteArray) (w : World) (hA : TxsAt w ao l) (hL : ∀ x ∈ l, TxLens x.d) (hsz : ∀ x ∈ l, TxSizes x.d) (hs : s.size ≤ 140737488351232) (hG : Mx.Glob w) :
    Calls Tryd.prog 4 #[batV a n ao l.length cap, .string s] w fun e w' => e = .returned (.bool true) ∧ Below w.heap.size w w' := by
  have hX := Arr.new w 24 [.int .i64 a, .int .i64 n, .slice ao l.length cap]
  have hB := belowNew w (.cells #[.int .i64 a, .int .i64 n, .slice ao l.length cap] 24)
  have cW := works05_any
  unfold batV
  go_enter Tryd.func4, Tryd.ntmps4
  go_wp2_with fail
  refine (cW _).mono ?_
  rintro e w1 ⟨rfl, hb1⟩
  have hX1 := hX.below hb1 hX.lt
  have hB1 := hB.trans (hb1.mono hB.size)
  clear hX hB hb1 cW
  have x0 := hX1.cell (i := 0) rfl
  have x1 := hX1.cell (i := 1) rfl
  have x2 := hX1.cell (i := 2) rfl
  by_cases h1 : 20000 < s.size
  · have h1' : (20000 : Int) < s.size := by omega
    go_wp2
    go_ret
    exact ⟨rfl, hB1⟩
  have h1' : ¬ (20000 : Int) < s.size := by omega
  have d1 : decide ((20000 : Int) < s.size) = false := decide_eq_false h1'
  by_cases h2 : 100 < l.length
  · have h2' : (100 : Int) < l.length := by omega
    go_wp2
    go_ret
    exact ⟨rfl, hB1⟩
  have h2' : ¬ (100 : Int) < l.length := by omega
  have d2 : decide ((100 : Int) < l.length) = false := decide_eq_false h2'
  have hmx : s.size ≤ maxLen := by unfold maxLen; omega
  have cO := fun w1 (h : TxsAt w1 ao l) => own05_any a n ao l cap w1 h hL (by omega)
  unfold batV at cO
  have cS := fun w1 => batDecode_any s w1 hmx
  have Hback : Hid (∀ b, decBat s.data.toList = .ok b → checkB b = 0 ∧ encBB b = s) := fun b hb => by
    have := encBat_dec hb
    refine ⟨this.1, ?_⟩
    rw [encBB_of this.1, this.2]
  go_wp2_with fail
  refine (cO _ (hA.below hB1)).mono ?_
  rintro e w2 ⟨ao2, cap2, m, rfl, hdm, hT2, hn2, hb2⟩
  have hX2 := hX1.below hb2 hX1.lt
  have hB2 := hB1.trans (hb2.mono hB1.size)
  have cE := batEncode_any a n ao2 m cap2 w2 hT2
  rw [hdm] at cE
  clear hX1 hb2 x0 x1 x2
  unfold batV at cE ⊢
  by_cases hz : checkB ⟨a, n, dl l⟩ ≠ 0
  · generalize encBB ⟨a, n, dl l⟩ = eb at cE
    generalize checkB ⟨a, n, dl l⟩ = er at cE hz
    have hz2 : ((er : Int) == 0) = false := beq_eq_false_iff_ne.2 (by omega)
    go_wp2_with fail
    refine cE.mono ?_
    rintro e w3 ⟨rfl, hb3⟩
    have hB3 := hB2.trans (hb3.mono hB2.size)
    clear hb3 cE hX2 hB2 hT2
    go_wp2_with fail
    refine (cS _).mono ?_
    rintro e w8 ⟨a8, n8, ao8, l8, cap8, er8, rfl, hT8, hn8, hres8, hb8⟩
    have hB8 := hB3.trans (hb8.mono hB3.size)
    clear hb8 hB3 cS
    rcases hres8 with ⟨rfl, hres8⟩ | ⟨he8, hres8, rfl, rfl, rfl⟩
    · obtain ⟨hc8, hs8⟩ := Hback.out _ hres8
      have hbn := belowNew w8 (.cells #[.int .i64 a8, .int .i64 n8, .slice ao8 l8.length cap8] 24)
      have hB9 := hB8.trans (hbn.mono hB8.size)
      have cF := batEncode_any a8 n8 ao8 l8 cap8 _ (hT8.below hbn)
      rw [hc8, hs8] at cF
      clear hbn hB8 hT8 hres8 hc8 hs8 Hback
      unfold batV at cF ⊢
      go_wp2_with fail
      refine cF.mono ?_
      rintro e w9 ⟨rfl, hb9⟩
      have hBF := hB9.trans (hb9.mono hB9.size)
      clear hb9 hB9 cF
      go_wp2
      go_ret
      exact ⟨rfl, hBF⟩
    · have he8' : ((er8 : Int) != 0) = true := by rw [bne_iff_ne]; omega
      have hbn := belowNew w8 (.cells #[.int .i64 0, .int .i64 0, .slice ao8 0 cap8] 24)
      have hB9 := hB8.trans (hbn.mono hB8.size)
      clear hbn hB8 hT8 hres8 Hback
      unfold batV
      go_wp2
      go_ret
      exact ⟨rfl, hB9⟩
  have hz' : checkB ⟨a, n, dl l⟩ = 0 := by omega
  obtain ⟨_, _, _, _, _, hl16, hright⟩ := checkB_zero hz'
  have hlen := encBat_len hz'
  have hdec := decBat_enc hz'
  have hdg := digB_size hz'
  have hLs : ∀ x ∈ l, x.d.rs.length ≤ 8 ∧ x.d.ws.length ≤ 8 := fun x hx => lens_right (hright x.d (List.mem_map.2 ⟨x, hx, rfl⟩))
  obtain ⟨eb, heb⟩ : ∃ q, Hid (q = encBB ⟨a, n, dl l⟩) := ⟨_, rfl⟩
  have hebl : eb.data.toList = encBat ⟨a, n, dl l⟩ := by rw [heb.out, encBB_of hz']
  have hebs : eb.size ≤ maxLen := by
    have : eb.data.toList.length = eb.size := by simp
    rw [hebl] at this
    unfold maxLen
    omega
  rw [← heb.out, hz'] at cE
  have cD := fun w1 => batDecode_any eb w1 hebs
  rw [hebl, hdec] at cD
  have HLs : Hid _ := hLs
  have Hl16 : Hid _ := hl16
  clear hlen hdec hebl hebs heb hright hLs hl16 hz
  go_wp2_with fail
  refine cE.mono ?_
  rintro e w3 ⟨rfl, hb3⟩
  have hB3 := hB2.trans (hb3.mono hB2.size)
  have hX3 := hX2.below hb3 hX2.lt
  clear hb3 cE hX2 hB2 hT2
  go_wp2_with fail
  refine (cD _).mono ?_
  rintro e w4 ⟨a4, n4, ao4, l4, cap4, er4, rfl, hT4, hn4, hres4, hb4⟩
  obtain ⟨rfl, rfl, rfl, hdd⟩ : er4 = 0 ∧ a4 = a ∧ n4 = n ∧ dl l = dl l4 := by
    rcases hres4 with ⟨h1, h2⟩ | ⟨h1, h2, _⟩
    · simp at h2
      exact ⟨h1, h2.1.symm, h2.2.1.symm, h2.2.2⟩
    · cases h2
  have hB4 := hB3.trans (hb4.mono hB3.size)
  have hX4 := hX3.below hb4 hX3.lt
  have hbn := belowNew w4 (.cells #[.int .i64 a4, .int .i64 n4, .slice ao4 l4.length cap4] 24)
  have hT5 := hT4.below hbn
  have hB5 := hB4.trans (hbn.mono hB4.size)
  have hX5 := hX4.below hbn hX4.lt
  have hl4 : l4.length ≤ 16 := by rw [← dl_length l4, ← hdd]; exact Hl16.out
  have cM := sameB_any a4 n4 ao4 l4 cap4 ao l cap _ hT5 (hA.below hB5) hdd.symm (by omega) (fun x hx => by
    have h1 : x.d ∈ dl l := by rw [hdd]; exact List.mem_map.2 ⟨x, hx, rfl⟩
    obtain ⟨y, hy, hyx⟩ := List.mem_map.1 h1
    have := HLs.out y hy
    rw [hyx] at this
    omega)
  clear hb4 hB3 hX3 cD hres4 hB4 hX4 hbn hT4
  unfold batV at cM ⊢
  have x0 := hX5.cell (i := 0) rfl
  have x1 := hX5.cell (i := 1) rfl
  have x2 := hX5.cell (i := 2) rfl
  go_wp2_with fail
  refine cM.mono ?_
  rintro e w6 ⟨rfl, hb6⟩
  have hB6 := hB5.trans (hb6.mono hB5.size)
  have hX6 := hX5.below hb6 hX5.lt
  clear hb6 hB5 hX5 cM hT5 x0 x1 x2
  have x0 := hX6.cell (i := 0) rfl
  have x1 := hX6.cell (i := 1) rfl
  have x2 := hX6.cell (i := 2) rfl
  go_wp2_with fail
  refine (cO _ (hA.below hB6)).mono ?_
  rintro e w7 ⟨ao7, cap7, m7, rfl, hdm7, hT7, hn7, hb7⟩
  have hB7 := hB6.trans (hb7.mono hB6.size)
  have cG := batDigest_any a4 n4 ao7 m7 cap7 w7 hT7 (hG.below hB7)
  rw [hdm7] at cG
  generalize digB ⟨a4, n4, dl l⟩ = dg at cG hdg
  clear hb7 hB6 hX6 x0 x1 x2 cO
  unfold batV at cG ⊢
  go_wp2_with fail
  refine cG.mono ?_
  rintro e w3 ⟨rfl, hb3⟩
  have hB3 := hB7.trans (hb3.mono hB7.size)
  have hdg' : (dg.size : Int) = 32 := by omega
  clear hb3 hB7 cG hT7 hdm7
  go_wp2_with fail
  refine (cS _).mono ?_
  rintro e w8 ⟨a8, n8, ao8, l8, cap8, er8, rfl, hT8, hn8, hres8, hb8⟩
  have hB8 := hB3.trans (hb8.mono hB3.size)
  clear hb8 hB3 cS
  rcases hres8 with ⟨rfl, hres8⟩ | ⟨he8, hres8, rfl, rfl, rfl⟩
  · obtain ⟨hc8, hs8⟩ := Hback.out _ hres8
    have hbn := belowNew w8 (.cells #[.int .i64 a8, .int .i64 n8, .slice ao8 l8.length cap8] 24)
    have hB9 := hB8.trans (hbn.mono hB8.size)
    have cF := batEncode_any a8 n8 ao8 l8 cap8 _ (hT8.below hbn)
    rw [hc8, hs8] at cF
    clear hbn hB8 hT8 hres8 hc8 hs8 Hback
    unfold batV at cF ⊢
    go_wp2_with fail
    refine cF.mono ?_
    rintro e w9 ⟨rfl, hb9⟩
    have hBF := hB9.trans (hb9.mono hB9.size)
    clear hb9 hB9 cF
    go_wp2
    go_ret
    exact ⟨rfl, hBF⟩
  · have he8' : ((er8 : Int) != 0) = true := by rw [bne_iff_ne]; omega
    have hbn := belowNew w8 (.cells #[.int .i64 0, .int .i64 0, .slice ao8 0 cap8] 24)
    have hB9 := hB8.trans (hbn.mono hB8.size)
    clear hbn hB8 hT8 hres8 Hback
    unfold batV
    go_wp2
    go_ret
    exact ⟨rfl, hB9⟩
end Go.Proofs.YtdnkakmdhdceaaaDoor
