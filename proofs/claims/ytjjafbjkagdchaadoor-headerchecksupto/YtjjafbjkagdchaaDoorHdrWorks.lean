/- What tusklaw06.Both, header.Id and tusklaw06.works do; nothing old in memory is turned. -/
import Derived.Test.YtjjafbjkagdchaaDoorHdrCheckAll
import Derived.Test.YtjjafbjkagdchaaDoorHdrEncode
import Derived.Test.YtjjafbjkagdchaaDoorRefAuthAll
namespace Go.Proofs.YtjjafbjkagdchaaDoor
open Go.RowKit
set_option linter.unusedVariables false

def seedW : ByteArray := ⟨#[115, 101, 101, 100]⟩

set_option maxRecDepth 100000 in
set_option maxHeartbeats 1000000 in
theorem both_any (f : Int) (w : World) (hG : Mx.Glob w) :
    Calls Tryd.prog 7 #[.int .i64 f] w fun e w' => ∃ n b r : Nat, n ≤ 2 ∧ 1 ≤ n ∧ e = .returned (.tuple #[.pointer (some ⟨b, 0, none⟩), .pointer (some ⟨r, 0, none⟩), .bool true]) ∧ Mx.TabAt w' b n (Mx.keysL seedW (3 * n + 1)) ∧ Mx.TabAt w' r n (Mx.keysL seedW (3 * n + 1)) ∧ Below w.heap.size w w' := by
  obtain ⟨n, n1, n2, hn⟩ := Mx.pick_f f
  have cA := fun w1 hg => Mx.new_yes n seedW w1 n1 n2 (by decide) hg
  have cR := fun w1 hg => Mx.refNew_yes n seedW w1 n1 n2 (by decide) hg
  obtain ⟨ks, hks⟩ : ∃ q, Hid (q = Mx.keysL seedW (3 * n + 1)) := ⟨_, rfl⟩
  simp only [← hks.out] at cA cR
  unfold seedW at cA cR
  go_enter Tryd.func7, Tryd.ntmps7
  go_wp2_with fail
  refine (cA _ hG).mono ?_
  rintro e w1 ⟨b, rfl, hb1, hT1, hB1⟩
  clear cA
  go_wp2_with fail
  refine (cR _ (hG.below hB1)).mono ?_
  rintro e w2 ⟨r, rfl, hr2, hT2, hB2⟩
  have hT3 := hT1.below hB2
  have hB3 := hB1.trans (hB2.mono hB1.size)
  clear cR hT1 hB1 hB2
  go_wp2
  go_ret3
  exact ⟨n, b, r, n2, n1, rfl, by rw [← hks.out]; exact hT3, by rw [← hks.out]; exact hT2, hB3⟩

set_option maxRecDepth 100000 in
set_option maxHeartbeats 1000000 in
theorem hdrId_any (x : HdrM) (w : World) (hA : x.At w) (hf : x.Fit) (hl : (encH x.d).length ≤ 140737488351232) (hG : Mx.Glob w) :
    Calls Tryd.prog 14 #[x.v] w fun e w' => e = .returned (.string (Mx.bytes (Mx.sumL (encH x.d)))) ∧ Below w.heap.size w w' := by
  have hX := Arr.new w 25 x.c
  have hB := belowNew w (.cells x.c.toArray 25)
  have cE := hdrEncode_any x _ (hA.below hB) hf
  obtain ⟨eb, heb⟩ : ∃ q, q = (⟨(encH x.d).toArray⟩ : ByteArray) := ⟨_, rfl⟩
  have hes : eb.size ≤ 140737488351232 := by rw [heb, size_mk]; exact hl
  have cS := fun w1 hg => Mx.sum_any eb w1 hes hg
  have HE : Hid (Mx.bytes (Mx.sumL (encH x.d)) = Mx.bytes (Mx.sumL eb.data.toList)) := by show _ = _; rw [heb]
  rw [← heb] at cE
  obtain ⟨out, hout⟩ : ∃ q, Hid (q = Mx.bytes (Mx.sumL (encH x.d))) := ⟨_, rfl⟩
  rw [← hout.out]
  have hG1 := hG.below hB
  clear heb hes hA hf hl hG
  unfold HdrM.v at cE ⊢
  unfold HdrM.c at hX hB hG1 cE
  have x0 := hX.cell (i := 0) rfl
  have x1 := hX.cell (i := 1) rfl
  have x2 := hX.cell (i := 2) rfl
  have x3 := hX.cell (i := 3) rfl
  go_enter Tryd.func14, Tryd.ntmps14
  go_wp2_with fail
  refine cE.mono ?_
  rintro e w1 ⟨rfl, hb1⟩
  have hB1 := hB.trans (hb1.mono hB.size)
  have hG2 := hG1.below hb1
  clear cE hX hB hG1 x0 x1 x2 x3 hb1
  go_wp2_with fail
  refine (cS _ hG2).mono ?_
  rintro e w2 ⟨rfl, hb2⟩
  have hB2 := hB1.trans (hb2.mono hB1.size)
  clear cS hB1 hb2 hG2
  go_wp2
  go_ret
  exact ⟨by rw [hout.out, HE.out]; rfl, hB2⟩

/-- The header of the chapter's example. -/
def exH : HdrM := ⟨1, 1, none, [], 0, none, [], 0⟩

theorem exH_at (w : World) : exH.At w := ⟨nil_row _ _, fun _ => rfl, nil_row _ _, fun _ => rfl⟩

theorem exH_enc : (⟨(encH exH.d).toArray⟩ : ByteArray) = ⟨#[1, 1, 0, 0]⟩ := by decide +kernel

theorem exH_chk (n : Nat) (en : List TagD → ByteArray → Nat) (h : 1 ≤ n) : chkH (3 * n + 1) (2 * n + 1) en exH.d = 0 := by
  have h1 : ¬ (exH.d.author < 0 ∨ ((3 * n + 1 : Nat) : Int) ≤ exH.d.author ∨ exH.d.round < 1 ∨ 4611686018427387903 < exH.d.round) := by
    simp only [exH, HdrM.d]
    omega
  unfold chkH
  rw [if_neg h1]
  simp [exH, HdrM.d, rd, refP, risP, countE]

theorem exH_fit : exH.Fit := ⟨by decide, by decide, by simp [exH], by simp [exH], by decide +kernel⟩

/-- Thirty-two zero bytes in memory. -/
def zeroC32 : List Value := List.replicate 32 (.int .u8 0)

def zero32 : ByteArray := ⟨(List.replicate 32 0).toArray⟩

theorem zeroC32_get (j : Nat) (hj : j < zero32.data.toList.length) : zeroC32[j]? = some (.int .u8 (zero32.data.toList[j].toNat : Int)) := by
  have hj' : j < 32 := hj
  have e1 : zeroC32[j]? = some (.int .u8 0) := by unfold zeroC32; rw [List.getElem?_replicate, if_pos hj']
  have e2 : zero32.data.toList[j]? = some 0 := by
    show (List.replicate 32 (0 : UInt8))[j]? = _
    rw [List.getElem?_replicate, if_pos hj']
  rw [List.getElem?_eq_getElem hj, Option.some.injEq] at e2
  rw [e1, e2]
  rfl

theorem zero32_ris : risP ⟨#[]⟩ [zero32] = 0 := by decide +kernel

/-- With a parent. -/
def exH2 (b : Nat) : HdrM := ⟨1, 1, none, [], 0, some ⟨b, 0, none⟩, [zero32], 1⟩

theorem exH2_chk (n b : Nat) (en : List TagD → ByteArray → Nat) (h : 1 ≤ n) : chkH (3 * n + 1) (2 * n + 1) en (exH2 b).d = 3 := by
  have h1 : ¬ ((exH2 b).d.author < 0 ∨ ((3 * n + 1 : Nat) : Int) ≤ (exH2 b).d.author ∨ (exH2 b).d.round < 1 ∨ 4611686018427387903 < (exH2 b).d.round) := by
    simp only [exH2, HdrM.d]
    omega
  unfold chkH
  rw [if_neg h1]
  have h2 : (exH2 b).d.parents = [zero32] := rfl
  rw [h2, zero32_ris]
  simp [exH2, HdrM.d, rd, refP, countE]

theorem exH2_len (b : Nat) : (encH (exH2 b).d).length ≤ 140737488351232 := by
  have : (encH ⟨1, 1, [], [zero32]⟩).length ≤ 140737488351232 := by decide +kernel
  exact this

theorem exH2_fit (b : Nat) : (exH2 b).Fit := ⟨by simp [exH2], by simp [exH2], by simp [exH2], by simp [exH2], by have := exH2_len b; omega⟩

set_option maxRecDepth 100000 in
set_option maxHeartbeats 2000000 in
theorem works6_any (w : World) (hG : Mx.Glob w) :
    Calls Tryd.prog 17 #[] w fun e w' => e = .returned (.bool true) ∧ Below w.heap.size w w' := by
  have cB := both_any 0 w hG
  go_enter Tryd.func17, Tryd.ntmps17
  go_wp2_with fail
  refine cB.mono ?_
  rintro e w1 ⟨n, tb, rb, n2, n1, rfl, hT1, _, hB1⟩
  have hG1 := hG.below hB1
  have hk32 : ∀ k ∈ Mx.keysL seedW (3 * n + 1), k.size ≤ 32 := Mx.keysL_size _ _
  generalize Mx.keysL seedW (3 * n + 1) = ks at *
  have hX := Arr.new w1 25 [.int .i64 1, .int .i64 1, .slice none 0 0, .slice none 0 0]
  have hbx := belowNew w1 (.cells #[.int .i64 1, .int .i64 1, .slice none 0 0, .slice none 0 0] 25)
  have hT2 := hT1.below hbx
  have hG2 := hG1.below hbx
  have hB2 := hB1.trans (hbx.mono hB1.size)
  have cC := hdrCheck_any tb n ks exH _ hT2 n2 hk32 (exH_at _) (by simp [exH]) (by simp [exH]) hG2
  rw [exH_chk n _ n1] at cC
  unfold HdrM.v exH at cC
  simp only [List.length_nil] at cC
  have hBw1 := hbx
  clear cB hbx hG
  go_wp2_with fail
  refine cC.mono ?_
  rintro e w2 ⟨rfl, hb2⟩
  have hX2 := hX.below hb2 hX.lt
  have hT3 := hT2.below hb2
  have hG3 := hG2.below hb2
  have hB3 := hB2.trans (hb2.mono hB2.size)
  have hBw12 := hBw1.trans (hb2.mono hBw1.size)
  clear cC hX hT2 hG2 hB2 hb2 hBw1
  have hms : ∀ w : World, (Instr.makeSlice 58 (.int .i64 32) (.int .i64 32)).run Tryd.prog w = .ok (.slice (some ⟨w.heap.size, 0, none⟩) 32 32) (w.alloc (.cells zeroC32.toArray 5)) := fun _ => by kernel_rfl
  have hbm := belowNew w2 (.cells zeroC32.toArray 5)
  have hM := Arr.new w2 5 zeroC32
  have hcv : (convert 58 9 (.slice (some ⟨w2.heap.size, 0, none⟩) 32 32)).run Tryd.prog (w2.alloc (.cells zeroC32.toArray 5)) = .ok (.string zero32) (w2.alloc (.cells zeroC32.toArray 5)) := by
    refine run_convert_bytes_back (P := Tryd.prog) _ 58 9 5 ⟨w2.heap.size, 0, none⟩ 32 zero32.data.toList Tryd.underlying58 Tryd.underlying5 Tryd.underlying9 (fun j hj => ?_)
    rw [Go.WideShapes.add_plain, Nat.zero_add]
    exact hM.cell (zeroC32_get j hj)
  have hbs := belowNew (w2.alloc (.cells zeroC32.toArray 5)) (.cells #[.string zero32] 9)
  have hS := Arr.new (w2.alloc (.cells zeroC32.toArray 5)) 9 [.string zero32]
  rw [alloc_size] at hS
  have hbb := hbm.trans (hbs.mono hbm.size)
  have hX3 := hX2.below hbb hX2.lt
  have hT4 := hT3.below hbb
  have hG4 := hG3.below hbb
  have hB4 := hB3.trans (hbb.mono hB3.size)
  have x3 := hX3.cell (i := 3) rfl
  have f3 := hX3.frozen 3
  have hX5 := hX3.set 3 (.slice (some ⟨w2.heap.size + 1, 0, none⟩) 1 1)
  have hxl := hX2.lt
  have hxw : w1.heap.size < w2.heap.size := hxl
  have hk5 := Kept.setCell ((w2.alloc (.cells zeroC32.toArray 5)).alloc (.cells #[.string zero32] 9)) ⟨w1.heap.size, 3, none⟩ (.slice (some ⟨w2.heap.size + 1, 0, none⟩) 1 1)
  have hS5 := hS.kept hk5 (fun e => by have e' : w2.heap.size + 1 = w1.heap.size := e; omega)
  have hb5 := hk5.below (B := w1.heap.size) (by rw [alloc_size, alloc_size]; omega) (fun k hk => by have e' : k = w1.heap.size := hk; omega)
  obtain ⟨w5, hw5⟩ : ∃ q, ((w2.alloc (.cells zeroC32.toArray 5)).alloc (.cells #[.string zero32] 9)).setCell ⟨w1.heap.size, 3, none⟩ (.slice (some ⟨w2.heap.size + 1, 0, none⟩) 1 1) = q := ⟨_, rfl⟩
  rw [hw5] at hX5 hS5 hb5
  have hbW : Below w1.heap.size w1 w5 := ((hBw12.trans (hbb.mono hBw12.size)).trans hb5)
  have hT5 := hT1.below hbW
  have hG5 := hG1.below hbW
  have hB5 := hB1.trans (hbW.mono hB1.size)
  have hE2 : HdrM.At w5 (exH2 (w2.heap.size + 1)) := by
    refine ⟨nil_row _ _, fun _ => rfl, ⟨fun i x hx => ?_, fun _ _ => trivial⟩, fun e => by cases e⟩
    match i, hx with
    | 0, hx =>
      simp [exH2] at hx
      subst hx
      refine ⟨w2.heap.size + 1, 0, rfl, hS5.lt, fun j v hv => ?_⟩
      have := hS5.cell hv
      simpa using this
  have cC := hdrCheck_any tb n ks (exH2 (w2.heap.size + 1)) w5 hT5 n2 hk32 hE2 (by simp [exH2]) (by simp [exH2, maxLen]) hG5
  rw [exH2_chk n _ _ n1] at cC
  have cN := fun w' h => hdrEncode_any exH w' h exH_fit
  rw [exH_enc] at cN
  have cI := fun w' h hg => hdrId_any (exH2 (w2.heap.size + 1)) w' h (exH2_fit _) (exH2_len _) hg
  have hid : (Mx.bytes (Mx.sumL (encH (exH2 (w2.heap.size + 1)).d))).size = 32 := by rw [Mx.bytes_size]; exact Mx.digestL_len _ _
  generalize Mx.bytes (Mx.sumL (encH (exH2 (w2.heap.size + 1)).d)) = idb at cI hid
  have hid' : (idb.size : Int) = 32 := by omega
  unfold HdrM.v exH2 at cC cI
  unfold HdrM.v at cN
  have eN := exH_at
  unfold exH at cN eN
  simp only [List.length_nil, List.length_cons, Nat.zero_add] at cC cN cI eN
  clear hX2 hT3 hG3 hB3 hbm hM hbs hS hbb hX3 hT4 hG4 hB4 hk5 hb5 hid hT5 hS5 hT1 hG1 hB1 hbW hBw12
  unfold exH2 at hE2
  have y0 := hX5.cell (i := 0) rfl
  have y1 := hX5.cell (i := 1) rfl
  have y2 := hX5.cell (i := 2) rfl
  have y3 := hX5.cell (i := 3) rfl
  go_wp2_with fail
  refine cC.mono ?_
  rintro e w6 ⟨rfl, hb6⟩
  have hX6 := hX5.below hb6 hX5.lt
  have hE6 := hE2.below hb6
  have hG6 := hG5.below hb6
  have hB6 := hB5.trans (hb6.mono hB5.size)
  clear cC hX5 hE2 hG5 hB5 hb6 y0 y1 y2 y3 hw5 hcv hms x3 f3
  go_wp2_with fail
  refine (cN _ (eN _)).mono ?_
  rintro e w7 ⟨rfl, hb7⟩
  have hX7 := hX6.below hb7 hX6.lt
  have hE7 := hE6.below hb7
  have hG7 := hG6.below hb7
  have hB7 := hB6.trans (hb7.mono hB6.size)
  clear cN hX6 hE6 hG6 hB6 hb7 eN
  have y0 := hX7.cell (i := 0) rfl
  have y1 := hX7.cell (i := 1) rfl
  have y2 := hX7.cell (i := 2) rfl
  have y3 := hX7.cell (i := 3) rfl
  go_wp2_with fail
  refine (cI _ hE7 hG7).mono ?_
  rintro e w8 ⟨rfl, hb8⟩
  have hBF := hB7.trans (hb8.mono hB7.size)
  clear cI hX7 hE7 hG7 hB7 hb8 y0 y1 y2 y3
  go_wp2
  go_ret
  exact ⟨rfl, hBF⟩
end Go.Proofs.YtjjafbjkagdchaaDoor
