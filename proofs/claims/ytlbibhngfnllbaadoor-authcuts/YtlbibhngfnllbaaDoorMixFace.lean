/- What mix.Sum, mix.Keyed and mix.Short do; nothing old in memory is turned. -/
import Derived.Test.YtlbibhngfnllbaaDoorMixDigest
namespace Go.Proofs.YtlbibhngfnllbaaDoor
open Go.RowKit Go.Sort
set_option linter.unusedVariables false

def bytes (l : List UInt8) : ByteArray := ⟨l.toArray⟩
theorem bytes_size (l : List UInt8) : (bytes l).size = l.length := by simp [bytes, ByteArray.size]
theorem bytes_list (l : List UInt8) : (bytes l).data.toList = l := by simp [bytes]

set_option maxRecDepth 100000 in
theorem sum_any (s : ByteArray) (w : World) (hs : s.size ≤ 140737488351232) (hG : Glob w) :
    Calls Tryd.prog 31 #[.string s] w fun e w' => e = .returned (.string (bytes (sumL s.data.toList))) ∧ Below w.heap.size w w' := by
  go_enter Tryd.func31, Tryd.ntmps31
  go_wp2_with fail
  refine (digest_any ⟨#[]⟩ s w (by decide) hs hG).mono ?_
  rintro e w' ⟨rfl, hB⟩
  go_wp2
  go_ret
  exact ⟨rfl, hB⟩

set_option maxRecDepth 100000 in
theorem keyed_any (key s : ByteArray) (w : World) (hk : key.size ≤ 140737488351232) (hs : s.size ≤ 140737488351232) (hG : Glob w) :
    Calls Tryd.prog 22 #[.string key, .string s] w fun e w' => e = .returned (.string (bytes (keyedL key.data.toList s.data.toList))) ∧ Below w.heap.size w w' := by
  have hkl : key.data.toList.length = key.size := by simp
  go_enter Tryd.func22, Tryd.ntmps22
  by_cases h : 32 < key.size
  · have h1 : (32 : Int) < (key.size : Int) := by omega
    go_wp2_with fail
    refine (sum_any key w hk hG).mono ?_
    rintro e w' ⟨rfl, hB⟩
    have hG' := hG.below hB
    have hz : (bytes (sumL key.data.toList)).size = 32 := by rw [bytes_size]; exact digestL_len _ _
    go_wp2_with fail
    refine (digest_any _ s w' (by omega) hs hG').mono ?_
    rintro e w2 ⟨rfl, hB2⟩
    have hB3 := hB.trans (hB2.mono hB.size)
    go_wp2
    go_ret
    refine ⟨?_, hB3⟩
    unfold keyedL
    rw [if_pos (by omega), bytes_list]
    rfl
  · have h1 : ¬ (32 : Int) < (key.size : Int) := by omega
    go_wp2_with fail
    refine (digest_any key s w (by omega) hs hG).mono ?_
    rintro e w2 ⟨rfl, hB2⟩
    go_wp2
    go_ret
    refine ⟨?_, hB2⟩
    unfold keyedL
    rw [if_neg (by omega)]
    rfl

set_option maxRecDepth 100000 in
theorem short_any (key s : ByteArray) (w : World) (hk : key.size ≤ 140737488351232) (hs : s.size ≤ 140737488351232) (hG : Glob w) :
    Calls Tryd.prog 27 #[.string key, .string s] w fun e w' => e = .returned (.string ((bytes (keyedL key.data.toList s.data.toList)).extract 0 16)) ∧ Below w.heap.size w w' := by
  go_enter Tryd.func27, Tryd.ntmps27
  go_wp2_with fail
  refine (keyed_any key s w hk hs hG).mono ?_
  rintro e w' ⟨rfl, hB⟩
  have hz : (bytes (keyedL key.data.toList s.data.toList)).size = 32 := by rw [bytes_size]; exact keyedL_len _ _
  obtain ⟨x, hx⟩ : ∃ z, Hid (z = bytes (keyedL key.data.toList s.data.toList)) := ⟨_, rfl⟩
  rw [← hx.out] at hz ⊢
  have h16 : (16 : Int) ≤ (x.size : Int) := by omega
  go_wp2
  go_ret
  rw [← hx.out]
  exact ⟨rfl, hB⟩
end Go.Proofs.YtlbibhngfnllbaaDoor
