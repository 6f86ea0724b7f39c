/- tusklaw04.TxNames answers true at every string; nothing old in memory is turned. -/
import Derived.Test.YtlpnoimoeadheaaTxWorks
import Derived.Test.YtlpnoimoeadheaaRefTxName
import Derived.Test.YtlpnoimoeadheaaTxKeyMath
namespace Go.Proofs.Ytlpnoimoeadheaa
open Go.RowKit
set_option linter.unusedVariables false

def bN : ByteArray := ⟨#[98]⟩
def eN : ByteArray := ⟨#[]⟩
theorem bN_name : isNm bN = true := by decide +kernel
theorem eN_empty : (eN.toList == []) = true := by decide +kernel
theorem eN_size : decide (eN.size ≤ 64) = true := by decide +kernel
theorem keys_nil : keysL [] = 0 := by decide +kernel

theorem names1 (s : ByteArray) : checkL ⟨1, s, bN, 0, 0, eN, eN, [], []⟩ = if isNm s = true then 0 else 3 := by
  unfold checkL fieldsR
  simp only [bN_name, eN_empty, keys_nil]
  cases isNm s <;> simp

theorem names2 (s : ByteArray) : checkL ⟨1, bN, s, 0, 0, eN, eN, [], []⟩ = if isNm s = true then 0 else 3 := by
  unfold checkL fieldsR
  simp only [bN_name, eN_empty, keys_nil]
  cases isNm s <;> simp

theorem names3 (s : ByteArray) : checkL ⟨2, bN, eN, 0, 0, s, eN, [], []⟩ = if isNm s = true then 0 else 3 := by
  unfold checkL fieldsR
  simp only [bN_name, eN_empty, keys_nil, eN_size]
  cases isNm s <;> simp

theorem names4 (s : ByteArray) : checkL ⟨2, bN, eN, 0, 0, bN, eN, [kP ++ s], []⟩ = if isNm s = true then 0 else 3 := by
  unfold checkL fieldsR
  simp only [bN_name, eN_empty, keys_nil, eN_size, keys_one_k]
  cases isNm s <;> simp

theorem names5 (s : ByteArray) : checkL ⟨2, bN, eN, 0, 0, bN, eN, [], [aP ++ s]⟩ = if isNm s = true then 0 else 3 := by
  unfold checkL fieldsR
  simp only [bN_name, eN_empty, keys_nil, eN_size, keys_one_a]
  cases isNm s <;> simp

set_option maxRecDepth 100000 in
set_option maxHeartbeats 1000000 in
theorem names_walk (s : ByteArray) (w : World) (hs : s.size ≤ 140737488351232) :
    Calls Try.prog 7 #[.string s] w fun e w' => e = .returned (.bool true) ∧ Below w.heap.size w w' := by
  by_cases h1000 : 1000 < s.size
  · have h1 : (1000 : Int) < s.size := by omega
    go_enter Try.func7, Try.ntmps7
    go_wp2_with fail
    refine (works_any _).mono ?_
    rintro e w1 ⟨rfl, hb1⟩
    go_wp2
    go_ret
    exact ⟨rfl, hb1⟩
  have h1 : (s.size : Int) ≤ 1000 := by omega
  have cN := fun w1 => refName_any s w1 (by unfold maxLen; omega)
  have c1 := fun w1 => check_any ⟨1, s, bN, 0, 0, eN, eN, [], []⟩ none 0 none 0 w1 ⟨nil_strs _ _, nil_strs _ _⟩
  have c2 := fun w1 => check_any ⟨1, bN, s, 0, 0, eN, eN, [], []⟩ none 0 none 0 w1 ⟨nil_strs _ _, nil_strs _ _⟩
  have c3 := fun w1 => check_any ⟨2, bN, eN, 0, 0, s, eN, [], []⟩ none 0 none 0 w1 ⟨nil_strs _ _, nil_strs _ _⟩
  have c4 := fun w1 : World => check_any ⟨2, bN, eN, 0, 0, bN, eN, [kP ++ s], []⟩ (some ⟨w1.heap.size, 0, none⟩) 1 none 0 (w1.alloc (.cells #[.string (kP ++ s)] 9)) ⟨one_strs _ _ _, nil_strs _ _⟩
  have c5 := fun w1 : World => check_any ⟨2, bN, eN, 0, 0, bN, eN, [], [aP ++ s]⟩ none 0 (some ⟨w1.heap.size, 0, none⟩) 1 (w1.alloc (.cells #[.string (aP ++ s)] 9)) ⟨nil_strs _ _, one_strs _ _ _⟩
  simp only [names1] at c1
  simp only [names2] at c2
  simp only [names3] at c3
  simp only [names4] at c4
  simp only [names5] at c5
  unfold txV at c1 c2 c3 c4 c5
  unfold kP at c4
  unfold aP at c5
  unfold bN eN at c1 c2 c3 c4 c5
  cases hn : isNm s with
  | true =>
    simp only [hn] at cN c1 c2 c3 c4 c5
    go_enter Try.func7, Try.ntmps7
    go_wp2_with fail
    refine (works_any _).mono ?_
    rintro e w1 ⟨rfl, hb1⟩
    go_wp2_with fail
    refine (cN _).mono ?_
    rintro e w2 ⟨rfl, rfl⟩
    go_wp2_with fail
    refine (c1 _).mono ?_
    rintro e w2 ⟨rfl, hb⟩
    replace hb1 := hb1.trans (hb.mono hb1.size)
    clear hb
    go_wp2_with fail
    refine (c2 _).mono ?_
    rintro e w3 ⟨rfl, hb⟩
    replace hb1 := hb1.trans (hb.mono hb1.size)
    clear hb
    go_wp2_with fail
    refine (c3 _).mono ?_
    rintro e w4 ⟨rfl, hb⟩
    replace hb1 := hb1.trans (hb.mono hb1.size)
    clear hb
    go_wp2_with fail
    refine (c4 _).mono ?_
    rintro e w5 ⟨rfl, hb⟩
    replace hb1 := (hb1.alloc hb1.size _).trans (hb.mono (hb1.alloc hb1.size _).size)
    clear hb
    go_wp2_with fail
    refine (c5 _).mono ?_
    rintro e w6 ⟨rfl, hb⟩
    replace hb1 := (hb1.alloc hb1.size _).trans (hb.mono (hb1.alloc hb1.size _).size)
    clear hb
    go_wp2
    go_ret
    exact ⟨rfl, hb1⟩
  | false =>
    simp only [hn] at cN c1 c2 c3 c4 c5
    go_enter Try.func7, Try.ntmps7
    go_wp2_with fail
    refine (works_any _).mono ?_
    rintro e w1 ⟨rfl, hb1⟩
    go_wp2_with fail
    refine (cN _).mono ?_
    rintro e w2 ⟨rfl, rfl⟩
    go_wp2_with fail
    refine (c1 _).mono ?_
    rintro e w2 ⟨rfl, hb⟩
    replace hb1 := hb1.trans (hb.mono hb1.size)
    clear hb
    go_wp2_with fail
    refine (c2 _).mono ?_
    rintro e w3 ⟨rfl, hb⟩
    replace hb1 := hb1.trans (hb.mono hb1.size)
    clear hb
    go_wp2_with fail
    refine (c3 _).mono ?_
    rintro e w4 ⟨rfl, hb⟩
    replace hb1 := hb1.trans (hb.mono hb1.size)
    clear hb
    go_wp2_with fail
    refine (c4 _).mono ?_
    rintro e w5 ⟨rfl, hb⟩
    replace hb1 := (hb1.alloc hb1.size _).trans (hb.mono (hb1.alloc hb1.size _).size)
    clear hb
    go_wp2_with fail
    refine (c5 _).mono ?_
    rintro e w6 ⟨rfl, hb⟩
    replace hb1 := (hb1.alloc hb1.size _).trans (hb.mono (hb1.alloc hb1.size _).size)
    clear hb
    go_wp2
    go_ret
    exact ⟨rfl, hb1⟩
end Go.Proofs.Ytlpnoimoeadheaa
