/- What tuskref03.New does: a table in new memory, or none; nothing old in memory is turned. -/
import Derived.Test.YtlbibhngfnllbaaDoorAuthNew
import Derived.Test.YtlbibhngfnllbaaDoorAuthRefWire
import Derived.Test.YtlbibhngfnllbaaDoorRefMixFace
namespace Go.Proofs.YtlbibhngfnllbaaDoor
open Go.RowKit Go.Sort
set_option linter.unusedVariables false

set_option maxRecDepth 100000 in
theorem refNew_range (f : Int) (seed : ByteArray) (w : World) (h : f < 1 ∨ 2 < f) :
    Calls Tryd.prog 10 #[.int .i64 f, .string seed] w fun e w' => e = .returned (.tuple #[.pointer none, .int .i64 2]) ∧ w' = w := by
  by_cases h1 : f < 1
  · go_enter Tryd.func10, Tryd.ntmps10
    go_wp2
    go_ret2
    exact ⟨rfl, rfl⟩
  · have h2 : 2 < f := by omega
    go_enter Tryd.func10, Tryd.ntmps10
    go_wp2
    go_ret2
    exact ⟨rfl, rfl⟩

set_option maxRecDepth 100000 in
theorem refNew_long (f : Int) (seed : ByteArray) (w : World) (h1 : ¬ f < 1) (h2 : ¬ 2 < f) (hs : (32 : Int) < (seed.size : Int)) :
    Calls Tryd.prog 10 #[.int .i64 f, .string seed] w fun e w' => e = .returned (.tuple #[.pointer none, .int .i64 8]) ∧ w' = w := by
  go_enter Tryd.func10, Tryd.ntmps10
  go_wp2
  go_ret2
  exact ⟨rfl, rfl⟩

set_option maxRecDepth 100000 in
set_option maxHeartbeats 400000 in
theorem refNew_yes (f : Nat) (seed : ByteArray) (w : World) (h1 : 1 ≤ f) (h2 : f ≤ 2) (hs : seed.size ≤ 32) (hG : Glob w) :
    Calls Tryd.prog 10 #[.int .i64 (f : Int), .string seed] w fun e w' => ∃ b, e = .returned (.tuple #[.pointer (some ⟨b, 0, none⟩), .int .i64 0]) ∧ w.heap.size ≤ b ∧ TabAt w' b f (keysL seed (3 * f + 1)) ∧ Below w.heap.size w w' := by
  obtain ⟨i0, hi, hz0, hz1, hz2⟩ := info_parts infoStr
  have h1' : ¬ (f : Int) < 1 := by omega
  have h2' : ¬ (2 : Int) < (f : Int) := by omega
  have hs' : ¬ (32 : Int) < (seed.size : Int) := by omega
  go_enter Tryd.func10, Tryd.ntmps10
  have hA := Arr.new w 52 [.int .i64 (f : Int), .slice none 0 0]
  have hB := (Below.refl w.heap.size w).alloc (Nat.le_refl _) (.cells #[.int .i64 (f : Int), .slice none 0 0] 52)
  obtain ⟨n, hn⟩ : ∃ n, Hid (n = 3 * f + 1) := ⟨_, rfl⟩
  have hn7 : n ≤ 7 := by have := hn.out; omega
  go_wp2
  go_loopw [7] (fun v22 wr => ∃ (i : Nat) (v : Value), i ≤ n ∧ v22 = .int .i64 (i : Int) ∧ Arr wr w.heap.size 52 [.int .i64 (f : Int), v] ∧ wr.ownsRow (w.heap.size + 1) 9 1 v i ((keysL seed i).map Value.string) ∧ Below w.heap.size w wr) (fun v22 _ => n - (intOf v22).toNat)
  case atStart => exact ⟨0, .slice none 0 0, Nat.zero_le _, rfl, hA, World.ownsRow_nil _ _ _ _, hB⟩
  case round =>
    clear hA hB
    obtain ⟨i, v, hin, rfl, hA, hown, hB⟩ := hrel
    by_cases hlt : i < n
    · have h1 : (i : Int) ≤ 3 * (f : Int) := by have := hn.out; omega
      have c1 := hA.cell (i := 1) (v := v) rfl
      have f1 := hA.frozen 1
      obtain ⟨nb, hnb⟩ : ∃ z, Hid (z = (⟨(goInt (i : Int)).toArray⟩ : ByteArray)) := ⟨_, rfl⟩
      obtain ⟨kk, hkk⟩ : ∃ z, Hid (z = keyOf seed i) := ⟨_, rfl⟩
      have hnl : nb.size ≤ 9 := by rw [hnb.out, ByteArray.size_mk']; exact goInt_length _
      have cI : Hid (∀ w1, Calls Tryd.prog 25 #[.int .i64 (i : Int)] w1 fun e w2 => e = .returned (.string nb) ∧ Below w1.heap.size w1 w2) := by
        intro w1
        rw [hnb.out]
        exact refInt_any _ _
      have cK : Hid (∀ w1, Glob w1 → Calls Tryd.prog 24 #[.string seed, .string nb] w1 fun e w2 => e = .returned (.string kk) ∧ Below w1.heap.size w1 w2) := by
        intro w1 hg
        have h := refKeyed_any seed nb w1 (by omega) (by omega)
        have he : bytes (keyedL seed.data.toList nb.data.toList) = kk := by rw [hkk.out, hnb.out]; rfl
        rw [he] at h
        exact h
      have hN5 : i + 1 ≤ maxLen := by unfold maxLen; omega
      have hN6 : (i + 1) * 16 ≤ 140737488355328 := by omega
      have hGd : Glob wr.drew := ⟨(Glob.below2 hG hB).first, (Glob.below2 hG hB).rows⟩
      go_wp2_with fail
      go_region_law (first
        | (go_simp; go_at_call 25; refine (cI.out _).mono ?_; rintro e w1 ⟨rfl, hb1⟩; have c1a : w1.cell? ⟨w.heap.size, 1, none⟩ = some v := (hb1.cell (p := ⟨w.heap.size, 1, none⟩) hA.lt).trans c1; have hG1 := hGd.below hb1)
        | (go_simp; go_at_call 24; refine (cK.out _ hG1).mono ?_; rintro e w2 ⟨rfl, hb2⟩; have hb3 : Below wr.heap.size wr w2 := ((Below.refl _ wr).drew).trans (hb1.trans (hb2.mono hb1.size)); have c1b : w2.cell? ⟨w.heap.size, 1, none⟩ = some v := (hb3.cell (p := ⟨w.heap.size, 1, none⟩) hA.lt).trans c1; have c1d : (w2.alloc (.cells #[.string kk] 9)).cell? ⟨w.heap.size, 1, none⟩ = some v := ((hb3.alloc hb3.size (.cells #[.string kk] 9)).cell (p := ⟨w.heap.size, 1, none⟩) hA.lt).trans c1; have hO1 := (own_below hown hb3).alloc (.cells #[.string kk] 9); have hN1 := new_cell w2 kk; have hN3 : w.heap.size + 1 ≤ (w2.alloc (.cells #[.string kk] 9)).heap.size := (by rw [alloc_size]; have := hb3.size; have := hA.lt; omega); have hN4 := alloc_size w2 (.cells #[.string kk] 9))
        | (refine step_append_lies _ (by rfl) _ _ 46 (by rfl) (w.heap.size + 1) 9 i0 (.string ⟨#[]⟩) 1 16 Tryd.underlying46 hi hz0 hz1 hz2 rfl (by decide) _ i ((keysL seed i).map Value.string) (by rfl) hO1 ⟨w2.heap.size, 0, none⟩ 1 1 [.string kk] (by rfl) (by rfl) hN1 (one_str kk) (by decide) hN5 hN6 hN3 (w2.heap.size + 1) hN4 ?_; intro g2 cap2 w3 hown3 hgrow3 hat3 hlt3; have hbw := tab_below hA hb3 hN3 hO1 hgrow3; have hA3 := hA.below hbw (Nat.lt_succ_self _); have c1c := hA3.cell (i := 1) (v := v) rfl; have f1c := hA3.frozen 1))
      all_goals
        have hA4 := hA3.set 1 (.slice (some ⟨g2, 0, none⟩) (i + 1) cap2)
        have hown4 := ownsRow_setCell_below hown3 (a := ⟨w.heap.size, 1, none⟩) (Nat.lt_succ_self _) (.slice (some ⟨g2, 0, none⟩) (i + 1) cap2)
        have hB4 : Below w.heap.size w (w3.setCell ⟨w.heap.size, 1, none⟩ (.slice (some ⟨g2, 0, none⟩) (i + 1) cap2)) := (hB.trans (hbw.mono (Nat.le_succ _))).setCell (Nat.le_refl _) _
        rw [hkk.out, show ([.string (keyOf seed i)] : List Value) = [keyOf seed i].map Value.string from rfl, ← List.map_append, ← keysL_succ] at hown4
        generalize w3.setCell _ _ = w4 at hA4 hown4 hB4 ⊢
        go_wp2
        go_roundw
        case rel => exact ⟨i + 1, _, by omega, by go_num, hA4, hown4, hB4⟩
        case measure => simp [intOf]; omega
    · have h1 : ¬ (i : Int) ≤ 3 * (f : Int) := by have := hn.out; omega
      have hie : i = n := by omega
      rw [hie] at hown
      have hown' : wr.ownsRow (w.heap.size + 1) 9 1 v (keysL seed n).length ((keysL seed n).map Value.string) := by rw [keysL_len]; exact hown
      obtain ⟨a, cap, hv, hst⟩ := own_strs hown'
      have hT : Hid (TabAt wr w.heap.size f (keysL seed (3 * f + 1))) := by
        rw [← hn.out]
        exact ⟨hA.lt, hA.cell rfl, a, cap, by rw [← hv]; exact hA.cell rfl, hst⟩
      go_wp2
      go_ret2
      exact ⟨_, rfl, Nat.le_refl _, hT.out, hB⟩
end Go.Proofs.YtlbibhngfnllbaaDoor
