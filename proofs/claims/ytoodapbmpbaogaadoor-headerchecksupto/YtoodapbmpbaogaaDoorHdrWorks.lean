/- What tusklaw06.Both, header.Id and tusklaw06.works do; nothing old in memory is turned. -/
import Derived.Test.YtoodapbmpbaogaaDoorHdrCheckAll
import Derived.Test.YtoodapbmpbaogaaDoorHdrEncode
import Derived.Test.YtoodapbmpbaogaaDoorRefAuthAll
namespace Go.Proofs.YtoodapbmpbaogaaDoor
open Go.RowKit
set_option linter.unusedVariables false

def seedW : ByteArray := ⟨#[115, 101, 101, 100]⟩

set_option maxRecDepth 100000 in
set_option maxHeartbeats 1000000 in
theorem both_any (f : Int) (w : World) (hG : Mx.Glob w) :
    Calls Tryd.prog 8 #[.int .i64 f] w fun e w' => ∃ n b r : Nat, n ≤ 2 ∧ 1 ≤ n ∧ e = .returned (.tuple #[.pointer (some ⟨b, 0, none⟩), .pointer (some ⟨r, 0, none⟩), .bool true]) ∧ Mx.TabAt w' b n (Mx.keysL seedW (3 * n + 1)) ∧ Mx.TabAt w' r n (Mx.keysL seedW (3 * n + 1)) ∧ Below w.heap.size w w' := by
  obtain ⟨n, n1, n2, hn⟩ := Mx.pick_f f
  have cA := fun w1 hg => Mx.new_yes n seedW w1 n1 n2 (by decide) hg
  have cR := fun w1 hg => Mx.refNew_yes n seedW w1 n1 n2 (by decide) hg
  obtain ⟨ks, hks⟩ : ∃ q, Hid (q = Mx.keysL seedW (3 * n + 1)) := ⟨_, rfl⟩
  simp only [← hks.out] at cA cR
  unfold seedW at cA cR
  go_enter Tryd.func8, Tryd.ntmps8
  go_wp2_with fail
  refine (cA _ hG).mono ?_
  rintro e w1 ⟨b, rfl, hb1, hT1, hB1⟩
  clear cA
  go_wp2_with fail
  refine (cR _ (hG.below hB1)).mono ?_
  rintro e w2 ⟨r, rfl, hr2, hT2, hB2⟩
  have hT3 := hT1.below hB2
  have hB3 := hB1.trans (hB2.mono hB1.size)
  clear cR hT1 hB1 hB2
  go_wp2
  go_ret3
  exact ⟨n, b, r, n2, n1, rfl, by rw [← hks.out]; exact hT3, by rw [← hks.out]; exact hT2, hB3⟩

set_option maxRecDepth 100000 in
set_option maxHeartbeats 1000000 in
theorem hdrId_any (x : HdrM) (w : World) (hA : x.At w) (hf : x.Fit) (hl : (encH x.d).length ≤ 140737488351232) (hG : Mx.Glob w) :
    Calls Tryd.prog 39 #[x.v] w fun e w' => e = .returned (.string (Mx.bytes (Mx.sumL (encH x.d)))) ∧ Below w.heap.size w w' := by
  have hX := Arr.new w 66 x.c
  have hB := belowNew w (.cells x.c.toArray 66)
  have cE := hdrEncode_any x _ (hA.below hB) hf
  obtain ⟨eb, heb⟩ : ∃ q, q = (⟨(encH x.d).toArray⟩ : ByteArray) := ⟨_, rfl⟩
  have hes : eb.size ≤ 140737488351232 := by rw [heb, size_mk]; exact hl
  have cS := fun w1 hg => Mx.sum_any eb w1 hes hg
  have HE : Hid (Mx.bytes (Mx.sumL (encH x.d)) = Mx.bytes (Mx.sumL eb.data.toList)) := by show _ = _; rw [heb]
  rw [← heb] at cE
  obtain ⟨out, hout⟩ : ∃ q, Hid (q = Mx.bytes (Mx.sumL (encH x.d))) := ⟨_, rfl⟩
  rw [← hout.out]
  have hG1 := hG.below hB
  clear heb hes hA hf hl hG
  unfold HdrM.v at cE ⊢
  unfold HdrM.c at hX hB hG1 cE
  have x0 := hX.cell (i := 0) rfl
  have x1 := hX.cell (i := 1) rfl
  have x2 := hX.cell (i := 2) rfl
  have x3 := hX.cell (i := 3) rfl
  go_enter Tryd.func39, Tryd.ntmps39
  go_wp2_with fail
  refine cE.mono ?_
  rintro e w1 ⟨rfl, hb1⟩
  have hB1 := hB.trans (hb1.mono hB.size)
  have hG2 := hG1.below hb1
  clear cE hX hB hG1 x0 x1 x2 x3 hb1
  go_wp2_with fail
  refine (cS _ hG2).mono ?_
  rintro e w2 ⟨rfl, hb2⟩
  have hB2 := hB1.trans (hb2.mono hB1.size)
  clear cS hB1 hb2 hG2
  go_wp2
  go_ret
  exact ⟨by rw [hout.out, HE.out]; rfl, hB2⟩

/-- The header of the chapter's example. -/
def exH : HdrM := ⟨1, 1, none, [], 0, none, [], 0⟩

theorem exH_at (w : World) : exH.At w := ⟨nil_row _ _, fun _ => rfl, nil_row _ _, fun _ => rfl⟩

theorem exH_enc : (⟨(encH exH.d).toArray⟩ : ByteArray) = ⟨#[1, 1, 0, 0]⟩ := by decide +kernel

theorem exH_chk (n : Nat) (en : List TagD → ByteArray → Nat) (h : 1 ≤ n) : chkH (3 * n + 1) (2 * n + 1) en exH.d = 0 := by
  have h1 : ¬ (exH.d.author < 0 ∨ ((3 * n + 1 : Nat) : Int) ≤ exH.d.author ∨ exH.d.round < 1 ∨ 4611686018427387903 < exH.d.round) := by
    simp only [exH, HdrM.d]
    omega
  unfold chkH
  rw [if_neg h1]
  simp [exH, HdrM.d, rd, refP, risP, countE]

theorem exH_fit : exH.Fit := ⟨by decide, by decide, by simp [exH], by simp [exH], by decide +kernel⟩

/-- Thirty-two zero bytes in memory. -/
def zeroC32 : List Value := List.replicate 32 (.int .u8 0)

def zero32 : ByteArray := ⟨(List.replicate 32 0).toArray⟩

theorem zeroC32_get (j : Nat) (hj : j < zero32.data.toList.length) : zeroC32[j]? = some (.int .u8 (zero32.data.toList[j].toNat : Int)) := by
  have hj' : j < 32 := hj
  have e1 : zeroC32[j]? = some (.int .u8 0) := by unfold zeroC32; rw [List.getElem?_replicate, if_pos hj']
  have e2 : zero32.data.toList[j]? = some 0 := by
    show (List.replicate 32 (0 : UInt8))[j]? = _
    rw [List.getElem?_replicate, if_pos hj']
  rw [List.getElem?_eq_getElem hj, Option.some.injEq] at e2
  rw [e1, e2]
  rfl

theorem zero32_ris : risP ⟨#[]⟩ [zero32] = 0 := by decide +kernel

/-- With a parent. -/
def exH2 (b : Nat) : HdrM := ⟨1, 1, none, [], 0, some ⟨b, 0, none⟩, [zero32], 1⟩

theorem exH2_chk (n b : Nat) (en : List TagD → ByteArray → Nat) (h : 1 ≤ n) : chkH (3 * n + 1) (2 * n + 1) en (exH2 b).d = 3 := by
  have h1 : ¬ ((exH2 b).d.author < 0 ∨ ((3 * n + 1 : Nat) : Int) ≤ (exH2 b).d.author ∨ (exH2 b).d.round < 1 ∨ 4611686018427387903 < (exH2 b).d.round) := by
    simp only [exH2, HdrM.d]
    omega
  unfold chkH
  rw [if_neg h1]
  have h2 : (exH2 b).d.parents = [zero32] := rfl
  rw [h2, zero32_ris]
  simp [exH2, HdrM.d, rd, refP, countE]

theorem exH2_len (b : Nat) : (encH (exH2 b).d).length ≤ 140737488351232 := by
  have : (encH ⟨1, 1, [], [zero32]⟩).length ≤ 140737488351232 := by decide +kernel
  exact this

theorem exH2_fit (b : Nat) : (exH2 b).Fit := ⟨by simp [exH2], by simp [exH2], by simp [exH2], by simp [exH2], by have := exH2_len b; omega⟩
end Go.Proofs.YtoodapbmpbaogaaDoor
