/- tusklaw04.TxReads answers true at every string; nothing old in memory is turned. -/
import Derived.Test.YtlpnoimoeadheaaTxDecode
import Derived.Test.YtlpnoimoeadheaaTxBackMath
import Derived.Test.YtlpnoimoeadheaaRefTxDecode
import Derived.Test.YtlpnoimoeadheaaRefTxSame
namespace Go.Proofs.Ytlpnoimoeadheaa
open Go.RowKit
set_option linter.unusedVariables false

theorem dec_len (l : List UInt8) : (decL l).1.rs.length ≤ 9223372036854775807 ∧ (decL l).1.ws.length ≤ 9223372036854775807 := by
  by_cases h : (decL l).2 = 0
  · have hd : decL l = ((decL l).1, 0) := by rw [← h]
    obtain ⟨hc, _⟩ := enc_dec hd
    obtain ⟨_, _, _, _, z5, z6⟩ := check_zero hc
    have := (keys_sizes z5).1
    have := (keys_sizes z6).1
    omega
  · rw [dec_none l h]
    exact ⟨by decide, by decide⟩

set_option maxRecDepth 100000 in
set_option maxHeartbeats 1000000 in
theorem reads_walk (s : ByteArray) (w : World) (hs : s.size ≤ 140737488351232) :
    Calls Try.prog 4 #[.string s] w fun e w' => e = .returned (.bool true) ∧ Below w.heap.size w w' := by
  by_cases h5 : 5000 < s.size
  · have h1 : (5000 : Int) < s.size := by omega
    go_enter Try.func4, Try.ntmps4
    go_wp2
    go_ret
    exact ⟨rfl, Below.refl _ _⟩
  have h1 : (s.size : Int) ≤ 5000 := by omega
  have hs' : s.size ≤ maxLen := by unfold maxLen; omega
  have cA := fun w1 => decode_any s w1 hs'
  have cB := fun w1 => refDecode_any s w1 hs'
  have hl := dec_len s.data.toList
  clear hs hs' h5
  generalize hd : (decL s.data.toList).1 = d at hl
  generalize he : (decL s.data.toList).2 = er
  unfold GotDec at cA cB
  simp only [hd, he] at cA cB
  clear hd he
  have cS := fun q1 q2 q3 q4 p1 p2 p3 p4 w1 (h1 : TxAt w1 d q1 q3) (h2 : TxAt w1 d p1 p3) => sameTx_any d q1 q2 q3 q4 p1 p2 p3 p4 w1 h1 h2 hl.1 hl.2
  clear hl
  go_enter Try.func4, Try.ntmps4
  go_wp2_with fail
  refine (cA _).mono ?_
  rintro e w1 ⟨p1, p2, p3, p4, rfl, hA1, _, _, hB1⟩
  have bN := belowNew w1 (.cells (txC d p1 p2 p3 p4).toArray 25)
  have hX : Arr _ _ _ (txC d p1 p2 p3 p4) := Arr.new w1 25 (txC d p1 p2 p3 p4)
  have hB2 := hB1.trans (bN.mono hB1.size)
  have hA2 := hA1.below bN
  clear bN hA1 hB1 cA
  unfold txV
  go_wp2_with fail
  refine (cB _).mono ?_
  rintro e w3 ⟨q1, q2, q3, q4, rfl, hC3, _, _, hb3⟩
  have hX3 := hX.below hb3 hX.lt
  have hB3 := hB2.trans (hb3.mono hB2.size)
  have hA3 := hA2.below hb3
  clear hb3 hX hA2 hB2 cB
  have bN := belowNew w3 (.cells (txC d q1 q2 q3 q4).toArray 25)
  have hX4 := hX3.below bN hX3.lt
  have hB4 := hB3.trans (bN.mono hB3.size)
  have hA4 := hA3.below bN
  have hC4 := hC3.below bN
  clear bN hX3 hA3 hB3 hC3
  obtain ⟨x0, x1, x2, x3, x4, x5, x6, x7, x8⟩ := hX4.cells9
  simp only [txC] at x0 x1 x2 x3 x4 x5 x6 x7 x8
  unfold txV
  go_wp2_with fail
  refine (cS p1 p2 p3 p4 q1 q2 q3 q4 _ hA4 hC4).mono ?_
  rintro e w5 ⟨rfl, hb5⟩
  have hB5 := hB4.trans (hb5.mono hB4.size)
  clear hb5 hB4 hA4 hC4 cS x0 x1 x2 x3 x4 x5 x6 x7 x8 hX4
  go_wp2
  go_ret
  exact ⟨rfl, hB5⟩
end Go.Proofs.Ytlpnoimoeadheaa
