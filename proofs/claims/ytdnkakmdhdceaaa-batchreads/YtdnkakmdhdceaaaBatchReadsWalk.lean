/- tusklaw05.BatchReads answers true at every text; nothing old in memory is turned. -/
import Derived.Test.YtdnkakmdhdceaaaRefBatDecode
import Derived.Test.YtdnkakmdhdceaaaRefBatSame
namespace Go.Proofs.Ytdnkakmdhdceaaa
open Go.RowKit
set_option linter.unusedVariables false

/-- A right transaction's lists are short. -/
theorem lens_right {d : TxD} (h : checkL d = 0) : d.rs.length ≤ 8 ∧ d.ws.length ≤ 8 := by
  unfold checkL at h
  split at h
  · omega
  split at h
  · omega
  split at h
  · omega
  split at h
  · omega
  rename_i h4
  exact ⟨keysL_le _ (by omega), keysL_le _ h⟩

theorem decBat_lens {l : List UInt8} {a n : Int} {m : List TxM} (h : decBat l = .ok ⟨a, n, dl m⟩) : m.length ≤ 16 ∧ ∀ x ∈ m, x.d.rs.length ≤ 8 ∧ x.d.ws.length ≤ 8 := by
  have hc := (encBat_dec h).1
  obtain ⟨_, _, _, _, _, h6, h7⟩ := checkB_zero hc
  exact ⟨by simpa [dl] using h6, fun x hx => lens_right (h7 x.d (List.mem_map.2 ⟨x, hx, rfl⟩))⟩

set_option maxRecDepth 100000 in
set_option maxHeartbeats 4000000 in
theorem batchReads_walk (s : ByteArray) (w : World) (hs : s.size ≤ 140737488351232) :
    Calls Try.prog 3 #[.string s] w fun e w' => e = .returned (.bool true) ∧ Below w.heap.size w w' := by
  by_cases hl : 20000 < s.size
  · have hl' : (20000 : Int) < s.size := by omega
    go_enter Try.func3, Try.ntmps3
    go_wp2
    go_ret
    exact ⟨rfl, Below.refl _ _⟩
  have hl' : ¬ (20000 : Int) < s.size := by omega
  have hmx : s.size ≤ maxLen := by unfold maxLen; omega
  have cA := fun w1 => batDecode_any s w1 hmx
  have cB := fun w1 => refBatDecode_any s w1 hmx
  have hlens : ∀ a n m, decBat s.data.toList = .ok ⟨a, n, dl m⟩ → m.length ≤ 16 ∧ ∀ x ∈ m, x.d.rs.length ≤ 8 ∧ x.d.ws.length ≤ 8 := fun a n m h => decBat_lens h
  have HL : Hid _ := hlens
  clear hlens
  obtain ⟨r, hr⟩ : ∃ r, r = decBat s.data.toList := ⟨_, rfl⟩
  rw [← hr] at cA cB HL
  clear hr
  go_enter Try.func3, Try.ntmps3
  go_wp2_with fail
  refine (cA _).mono ?_
  rintro e w1 ⟨a, n, ao, l, cap, er, rfl, hT, hn0, hres, hb1⟩
  have hT1 := hT.below (belowNew w1 (.cells (batC a n ao l.length cap).toArray 24))
  have hX1 := Arr.new w1 24 (batC a n ao l.length cap)
  have hb2 := hb1.alloc hb1.size (.cells (batC a n ao l.length cap).toArray 24)
  clear hT hb1 cA
  unfold batV
  go_wp2_with fail
  refine (cB _).mono ?_
  rintro e w2 ⟨a2, n2, ao2, l2, cap2, er2, rfl, hT2, hn2, hres2, hb3⟩
  have hT1b := hT1.below hb3
  have hX1b := hX1.below hb3 hX1.lt
  have hb4 := hb2.trans (hb3.mono hb2.size)
  have hbn := belowNew w2 (.cells (batC a2 n2 ao2 l2.length cap2).toArray 24)
  have hT1c := hT1b.below hbn
  have hT2c := hT2.below hbn
  have hX1c := hX1b.below hbn hX1b.lt
  have hb5 := hb4.trans (hbn.mono hb4.size)
  clear hT1 hX1 hb2 hb3 cB hT1b hT2 hX1b hb4 hbn
  have hsame : a = a2 ∧ n = n2 ∧ dl l = dl l2 ∧ er = er2 ∧ l.length ≤ 16 ∧ ∀ x ∈ l, x.d.rs.length ≤ 9223372036854775807 ∧ x.d.ws.length ≤ 9223372036854775807 := by
    rcases hres with ⟨h1, h2⟩ | ⟨h1, h2, h3, h4, h5⟩
    · rcases hres2 with ⟨g1, g2⟩ | ⟨g1, g2, _⟩
      · have := HL.out a n l h2
        rw [h2] at g2
        simp at g2
        exact ⟨g2.1, g2.2.1, g2.2.2, by omega, this.1, fun x hx => by have := this.2 x hx; omega⟩
      · rw [h2] at g2; cases g2
    · rcases hres2 with ⟨g1, g2⟩ | ⟨g1, g2, g3, g4, g5⟩
      · rw [h2] at g2; cases g2
      · rw [h2] at g2
        simp at g2
        subst h3 h4 h5 g3 g4 g5
        exact ⟨rfl, rfl, rfl, g2, by simp, fun x hx => by cases hx⟩
  obtain ⟨rfl, rfl, hdd, rfl, h16, hLs⟩ := hsame
  clear HL hres hres2
  have cS := sameB_any a n ao l cap ao2 l2 cap2 _ hT1c hT2c hdd (by omega) hLs
  have hll : l2.length = l.length := by rw [← dl_length l2, ← hdd, dl_length]
  unfold batV at cS ⊢
  have x0 := hX1c.cell (i := 0) rfl
  have x1 := hX1c.cell (i := 1) rfl
  have x2 := hX1c.cell (i := 2) rfl
  unfold batC at x0 x1 x2
  clear hT1c hT2c hll
  go_wp2_with fail
  refine cS.mono ?_
  rintro e w6 ⟨rfl, hb6⟩
  have hbF := hb5.trans (hb6.mono hb5.size)
  clear hb6 hb5 cS x0 x1 x2 hX1c
  go_wp2
  go_ret
  exact ⟨rfl, hbF⟩
end Go.Proofs.Ytdnkakmdhdceaaa
