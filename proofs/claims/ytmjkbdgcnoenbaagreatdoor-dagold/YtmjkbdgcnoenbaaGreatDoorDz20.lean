/- Texts as one: OldIds, OldMath, OldSt. -/
import Derived.Test.YtmjkbdgcnoenbaaGreatDoorDz08
import Derived.Test.YtmjkbdgcnoenbaaGreatDoorDz09
import Derived.Test.YtmjkbdgcnoenbaaGreatDoorDz10
import Derived.Test.YtmjkbdgcnoenbaaGreatDoorDz18
import Derived.Test.YtmjkbdgcnoenbaaGreatDoorDz02
/- The headers of six rounds, each upon all of the round ahead: their ids, and that they differ. -/
namespace Go.Proofs.YtmjkbdgcnoenbaaGreatDoor
open Go Go.RowKit
set_option linter.unusedVariables false

/-- The ids of a round's headers, rising: each upon all of the round ahead. -/
def upR (N : Nat) : Nat → List ByteArray
  | 0 => []
  | r + 1 => (List.range N).foldl (fun l (a : Nat) => insT l (idB ⟨(a : Int), (r : Int) + 1, [], upR N r⟩)) []

def hdrR (N r a : Nat) : HdrD := ⟨(a : Int), (r : Int) + 1, [], upR N r⟩

theorem byteA_ext {x y : ByteArray} (h : x.data.toList = y.data.toList) : x = y := by
  cases x; cases y
  simp only at h
  rw [Array.ext' h]

def ol_3_0 : List ByteArray := []

def od_3_0_0 : ByteArray := ⟨#[161, 2, 217, 174, 48, 141, 178, 67, 178, 55, 235, 102, 203, 206, 47, 252, 7, 132, 184, 105, 185, 236, 239, 59, 68, 81, 209, 58, 166, 138, 136, 50]⟩

set_option maxRecDepth 1000000 in
theorem oi_3_0_0 : (idB ⟨((0 : Nat) : Int), ((0 : Nat) : Int) + 1, [], ol_3_0⟩).data.toList = od_3_0_0.data.toList := by decide +kernel

def od_3_0_1 : ByteArray := ⟨#[210, 159, 13, 50, 242, 62, 6, 158, 125, 124, 90, 15, 142, 43, 50, 55, 72, 224, 88, 97, 142, 48, 209, 182, 129, 247, 40, 98, 126, 133, 220, 221]⟩

set_option maxRecDepth 1000000 in
theorem oi_3_0_1 : (idB ⟨((1 : Nat) : Int), ((0 : Nat) : Int) + 1, [], ol_3_0⟩).data.toList = od_3_0_1.data.toList := by decide +kernel

def od_3_0_2 : ByteArray := ⟨#[110, 245, 196, 70, 39, 49, 21, 235, 100, 196, 210, 107, 240, 101, 124, 168, 222, 68, 130, 40, 90, 186, 38, 205, 5, 243, 155, 56, 41, 213, 60, 252]⟩

set_option maxRecDepth 1000000 in
theorem oi_3_0_2 : (idB ⟨((2 : Nat) : Int), ((0 : Nat) : Int) + 1, [], ol_3_0⟩).data.toList = od_3_0_2.data.toList := by decide +kernel

def ol_3_1 : List ByteArray := [od_3_0_2, od_3_0_0, od_3_0_1]

def od_3_1_0 : ByteArray := ⟨#[77, 109, 154, 197, 169, 221, 204, 25, 65, 155, 120, 127, 240, 229, 126, 122, 17, 233, 119, 182, 164, 43, 67, 96, 186, 212, 77, 191, 176, 34, 7, 167]⟩

set_option maxRecDepth 1000000 in
theorem oi_3_1_0 : (idB ⟨((0 : Nat) : Int), ((1 : Nat) : Int) + 1, [], ol_3_1⟩).data.toList = od_3_1_0.data.toList := by decide +kernel

def od_3_1_1 : ByteArray := ⟨#[193, 198, 76, 2, 124, 7, 139, 132, 41, 83, 123, 137, 244, 200, 10, 153, 20, 24, 166, 154, 153, 44, 56, 24, 81, 142, 145, 26, 111, 171, 110, 7]⟩

set_option maxRecDepth 1000000 in
theorem oi_3_1_1 : (idB ⟨((1 : Nat) : Int), ((1 : Nat) : Int) + 1, [], ol_3_1⟩).data.toList = od_3_1_1.data.toList := by decide +kernel

def od_3_1_2 : ByteArray := ⟨#[241, 71, 7, 201, 41, 8, 206, 216, 8, 218, 222, 40, 159, 181, 118, 7, 122, 35, 80, 57, 0, 132, 172, 67, 54, 67, 139, 124, 196, 217, 30, 202]⟩

set_option maxRecDepth 1000000 in
theorem oi_3_1_2 : (idB ⟨((2 : Nat) : Int), ((1 : Nat) : Int) + 1, [], ol_3_1⟩).data.toList = od_3_1_2.data.toList := by decide +kernel

def ol_3_2 : List ByteArray := [od_3_1_0, od_3_1_1, od_3_1_2]

def od_3_2_0 : ByteArray := ⟨#[69, 250, 160, 104, 222, 44, 36, 26, 45, 253, 227, 239, 249, 167, 205, 65, 90, 105, 129, 72, 20, 195, 81, 72, 244, 243, 23, 19, 34, 249, 63, 179]⟩

set_option maxRecDepth 1000000 in
theorem oi_3_2_0 : (idB ⟨((0 : Nat) : Int), ((2 : Nat) : Int) + 1, [], ol_3_2⟩).data.toList = od_3_2_0.data.toList := by decide +kernel

def od_3_2_1 : ByteArray := ⟨#[37, 94, 95, 34, 182, 254, 105, 67, 93, 19, 20, 254, 146, 147, 244, 242, 6, 184, 89, 169, 109, 229, 242, 250, 244, 253, 131, 82, 189, 186, 146, 101]⟩

set_option maxRecDepth 1000000 in
theorem oi_3_2_1 : (idB ⟨((1 : Nat) : Int), ((2 : Nat) : Int) + 1, [], ol_3_2⟩).data.toList = od_3_2_1.data.toList := by decide +kernel

def od_3_2_2 : ByteArray := ⟨#[122, 42, 24, 192, 194, 57, 135, 193, 58, 147, 248, 201, 146, 179, 28, 150, 97, 188, 90, 189, 26, 3, 0, 140, 152, 132, 181, 227, 178, 185, 31, 109]⟩

set_option maxRecDepth 1000000 in
theorem oi_3_2_2 : (idB ⟨((2 : Nat) : Int), ((2 : Nat) : Int) + 1, [], ol_3_2⟩).data.toList = od_3_2_2.data.toList := by decide +kernel

def ol_3_3 : List ByteArray := [od_3_2_1, od_3_2_0, od_3_2_2]

def od_3_3_0 : ByteArray := ⟨#[28, 149, 155, 42, 110, 131, 44, 70, 66, 178, 206, 101, 43, 231, 182, 19, 85, 227, 167, 7, 45, 198, 26, 6, 94, 5, 73, 183, 122, 175, 177, 66]⟩

set_option maxRecDepth 1000000 in
theorem oi_3_3_0 : (idB ⟨((0 : Nat) : Int), ((3 : Nat) : Int) + 1, [], ol_3_3⟩).data.toList = od_3_3_0.data.toList := by decide +kernel

def od_3_3_1 : ByteArray := ⟨#[166, 168, 62, 227, 67, 36, 81, 231, 9, 209, 103, 170, 42, 158, 230, 119, 16, 207, 225, 242, 1, 109, 14, 112, 126, 140, 51, 242, 126, 191, 40, 51]⟩

set_option maxRecDepth 1000000 in
theorem oi_3_3_1 : (idB ⟨((1 : Nat) : Int), ((3 : Nat) : Int) + 1, [], ol_3_3⟩).data.toList = od_3_3_1.data.toList := by decide +kernel

def od_3_3_2 : ByteArray := ⟨#[200, 147, 78, 190, 186, 11, 140, 21, 172, 153, 223, 41, 182, 214, 16, 246, 255, 90, 98, 147, 215, 88, 112, 97, 136, 217, 205, 210, 191, 33, 135, 179]⟩

set_option maxRecDepth 1000000 in
theorem oi_3_3_2 : (idB ⟨((2 : Nat) : Int), ((3 : Nat) : Int) + 1, [], ol_3_3⟩).data.toList = od_3_3_2.data.toList := by decide +kernel

def ol_3_4 : List ByteArray := [od_3_3_0, od_3_3_1, od_3_3_2]

def od_3_4_0 : ByteArray := ⟨#[238, 82, 46, 45, 133, 244, 92, 25, 144, 199, 150, 46, 47, 195, 78, 120, 115, 57, 117, 190, 199, 98, 240, 249, 107, 208, 45, 61, 232, 250, 152, 168]⟩

set_option maxRecDepth 1000000 in
theorem oi_3_4_0 : (idB ⟨((0 : Nat) : Int), ((4 : Nat) : Int) + 1, [], ol_3_4⟩).data.toList = od_3_4_0.data.toList := by decide +kernel

def od_3_4_1 : ByteArray := ⟨#[195, 66, 125, 130, 81, 213, 28, 167, 164, 239, 102, 247, 220, 114, 5, 62, 85, 39, 39, 26, 57, 167, 240, 78, 175, 16, 141, 88, 78, 148, 168, 109]⟩

set_option maxRecDepth 1000000 in
theorem oi_3_4_1 : (idB ⟨((1 : Nat) : Int), ((4 : Nat) : Int) + 1, [], ol_3_4⟩).data.toList = od_3_4_1.data.toList := by decide +kernel

def od_3_4_2 : ByteArray := ⟨#[32, 136, 55, 192, 215, 189, 116, 57, 17, 159, 29, 252, 169, 10, 160, 19, 108, 158, 46, 132, 159, 188, 31, 96, 250, 169, 248, 237, 225, 150, 142, 236]⟩

set_option maxRecDepth 1000000 in
theorem oi_3_4_2 : (idB ⟨((2 : Nat) : Int), ((4 : Nat) : Int) + 1, [], ol_3_4⟩).data.toList = od_3_4_2.data.toList := by decide +kernel

def ol_3_5 : List ByteArray := [od_3_4_2, od_3_4_1, od_3_4_0]

def od_3_5_0 : ByteArray := ⟨#[154, 230, 34, 9, 112, 53, 82, 202, 119, 120, 179, 92, 171, 173, 84, 177, 29, 49, 104, 52, 218, 76, 120, 242, 167, 38, 177, 172, 179, 166, 126, 73]⟩

set_option maxRecDepth 1000000 in
theorem oi_3_5_0 : (idB ⟨((0 : Nat) : Int), ((5 : Nat) : Int) + 1, [], ol_3_5⟩).data.toList = od_3_5_0.data.toList := by decide +kernel

def od_3_5_1 : ByteArray := ⟨#[156, 223, 79, 167, 172, 124, 228, 55, 77, 124, 66, 132, 14, 32, 168, 141, 93, 13, 50, 26, 219, 78, 90, 241, 112, 136, 76, 74, 9, 221, 123, 164]⟩

set_option maxRecDepth 1000000 in
theorem oi_3_5_1 : (idB ⟨((1 : Nat) : Int), ((5 : Nat) : Int) + 1, [], ol_3_5⟩).data.toList = od_3_5_1.data.toList := by decide +kernel

def od_3_5_2 : ByteArray := ⟨#[175, 182, 239, 254, 72, 221, 181, 176, 222, 165, 158, 74, 6, 181, 22, 8, 143, 15, 144, 72, 192, 249, 102, 123, 3, 14, 114, 155, 39, 123, 188, 94]⟩

set_option maxRecDepth 1000000 in
theorem oi_3_5_2 : (idB ⟨((2 : Nat) : Int), ((5 : Nat) : Int) + 1, [], ol_3_5⟩).data.toList = od_3_5_2.data.toList := by decide +kernel

theorem up_3_0 : upR 3 0 = ol_3_0 := rfl

theorem ot_3_0_0 : idB (hdrR 3 0 0) = od_3_0_0 := by
  unfold hdrR
  rw [up_3_0]
  exact byteA_ext oi_3_0_0

theorem ot_3_0_1 : idB (hdrR 3 0 1) = od_3_0_1 := by
  unfold hdrR
  rw [up_3_0]
  exact byteA_ext oi_3_0_1

theorem ot_3_0_2 : idB (hdrR 3 0 2) = od_3_0_2 := by
  unfold hdrR
  rw [up_3_0]
  exact byteA_ext oi_3_0_2

set_option maxRecDepth 100000 in
theorem up_3_1 : upR 3 1 = ol_3_1 := by
  show (List.range 3).foldl (fun l (a : Nat) => insT l (idB ⟨(a : Int), ((0 : Nat) : Int) + 1, [], upR 3 0⟩)) [] = _
  rw [up_3_0, show List.range 3 = [0, 1, 2] from rfl]
  simp only [List.foldl_cons, List.foldl_nil]
  rw [byteA_ext oi_3_0_0, byteA_ext oi_3_0_1, byteA_ext oi_3_0_2]
  decide +kernel

theorem ot_3_1_0 : idB (hdrR 3 1 0) = od_3_1_0 := by
  unfold hdrR
  rw [up_3_1]
  exact byteA_ext oi_3_1_0

theorem ot_3_1_1 : idB (hdrR 3 1 1) = od_3_1_1 := by
  unfold hdrR
  rw [up_3_1]
  exact byteA_ext oi_3_1_1

theorem ot_3_1_2 : idB (hdrR 3 1 2) = od_3_1_2 := by
  unfold hdrR
  rw [up_3_1]
  exact byteA_ext oi_3_1_2

set_option maxRecDepth 100000 in
theorem up_3_2 : upR 3 2 = ol_3_2 := by
  show (List.range 3).foldl (fun l (a : Nat) => insT l (idB ⟨(a : Int), ((1 : Nat) : Int) + 1, [], upR 3 1⟩)) [] = _
  rw [up_3_1, show List.range 3 = [0, 1, 2] from rfl]
  simp only [List.foldl_cons, List.foldl_nil]
  rw [byteA_ext oi_3_1_0, byteA_ext oi_3_1_1, byteA_ext oi_3_1_2]
  decide +kernel

theorem ot_3_2_0 : idB (hdrR 3 2 0) = od_3_2_0 := by
  unfold hdrR
  rw [up_3_2]
  exact byteA_ext oi_3_2_0

theorem ot_3_2_1 : idB (hdrR 3 2 1) = od_3_2_1 := by
  unfold hdrR
  rw [up_3_2]
  exact byteA_ext oi_3_2_1

theorem ot_3_2_2 : idB (hdrR 3 2 2) = od_3_2_2 := by
  unfold hdrR
  rw [up_3_2]
  exact byteA_ext oi_3_2_2

set_option maxRecDepth 100000 in
theorem up_3_3 : upR 3 3 = ol_3_3 := by
  show (List.range 3).foldl (fun l (a : Nat) => insT l (idB ⟨(a : Int), ((2 : Nat) : Int) + 1, [], upR 3 2⟩)) [] = _
  rw [up_3_2, show List.range 3 = [0, 1, 2] from rfl]
  simp only [List.foldl_cons, List.foldl_nil]
  rw [byteA_ext oi_3_2_0, byteA_ext oi_3_2_1, byteA_ext oi_3_2_2]
  decide +kernel

theorem ot_3_3_0 : idB (hdrR 3 3 0) = od_3_3_0 := by
  unfold hdrR
  rw [up_3_3]
  exact byteA_ext oi_3_3_0

theorem ot_3_3_1 : idB (hdrR 3 3 1) = od_3_3_1 := by
  unfold hdrR
  rw [up_3_3]
  exact byteA_ext oi_3_3_1

theorem ot_3_3_2 : idB (hdrR 3 3 2) = od_3_3_2 := by
  unfold hdrR
  rw [up_3_3]
  exact byteA_ext oi_3_3_2

set_option maxRecDepth 100000 in
theorem up_3_4 : upR 3 4 = ol_3_4 := by
  show (List.range 3).foldl (fun l (a : Nat) => insT l (idB ⟨(a : Int), ((3 : Nat) : Int) + 1, [], upR 3 3⟩)) [] = _
  rw [up_3_3, show List.range 3 = [0, 1, 2] from rfl]
  simp only [List.foldl_cons, List.foldl_nil]
  rw [byteA_ext oi_3_3_0, byteA_ext oi_3_3_1, byteA_ext oi_3_3_2]
  decide +kernel

theorem ot_3_4_0 : idB (hdrR 3 4 0) = od_3_4_0 := by
  unfold hdrR
  rw [up_3_4]
  exact byteA_ext oi_3_4_0

theorem ot_3_4_1 : idB (hdrR 3 4 1) = od_3_4_1 := by
  unfold hdrR
  rw [up_3_4]
  exact byteA_ext oi_3_4_1

theorem ot_3_4_2 : idB (hdrR 3 4 2) = od_3_4_2 := by
  unfold hdrR
  rw [up_3_4]
  exact byteA_ext oi_3_4_2

set_option maxRecDepth 100000 in
theorem up_3_5 : upR 3 5 = ol_3_5 := by
  show (List.range 3).foldl (fun l (a : Nat) => insT l (idB ⟨(a : Int), ((4 : Nat) : Int) + 1, [], upR 3 4⟩)) [] = _
  rw [up_3_4, show List.range 3 = [0, 1, 2] from rfl]
  simp only [List.foldl_cons, List.foldl_nil]
  rw [byteA_ext oi_3_4_0, byteA_ext oi_3_4_1, byteA_ext oi_3_4_2]
  decide +kernel

theorem ot_3_5_0 : idB (hdrR 3 5 0) = od_3_5_0 := by
  unfold hdrR
  rw [up_3_5]
  exact byteA_ext oi_3_5_0

theorem ot_3_5_1 : idB (hdrR 3 5 1) = od_3_5_1 := by
  unfold hdrR
  rw [up_3_5]
  exact byteA_ext oi_3_5_1

theorem ot_3_5_2 : idB (hdrR 3 5 2) = od_3_5_2 := by
  unfold hdrR
  rw [up_3_5]
  exact byteA_ext oi_3_5_2

theorem all_3 : (List.range 18).map (fun j => idB (hdrR 3 (j / 3) (j % 3))) = [od_3_0_0, od_3_0_1, od_3_0_2, od_3_1_0, od_3_1_1, od_3_1_2, od_3_2_0, od_3_2_1, od_3_2_2, od_3_3_0, od_3_3_1, od_3_3_2, od_3_4_0, od_3_4_1, od_3_4_2, od_3_5_0, od_3_5_1, od_3_5_2] := by
  show [idB (hdrR 3 0 0), idB (hdrR 3 0 1), idB (hdrR 3 0 2), idB (hdrR 3 1 0), idB (hdrR 3 1 1), idB (hdrR 3 1 2), idB (hdrR 3 2 0), idB (hdrR 3 2 1), idB (hdrR 3 2 2), idB (hdrR 3 3 0), idB (hdrR 3 3 1), idB (hdrR 3 3 2), idB (hdrR 3 4 0), idB (hdrR 3 4 1), idB (hdrR 3 4 2), idB (hdrR 3 5 0), idB (hdrR 3 5 1), idB (hdrR 3 5 2)] = _
  rw [ot_3_0_0, ot_3_0_1, ot_3_0_2, ot_3_1_0, ot_3_1_1, ot_3_1_2, ot_3_2_0, ot_3_2_1, ot_3_2_2, ot_3_3_0, ot_3_3_1, ot_3_3_2, ot_3_4_0, ot_3_4_1, ot_3_4_2, ot_3_5_0, ot_3_5_1, ot_3_5_2]

set_option maxRecDepth 100000 in
theorem nod_3 : ((List.range 18).map (fun j => idB (hdrR 3 (j / 3) (j % 3)))).Nodup := by
  rw [all_3]
  have h : ([od_3_0_0, od_3_0_1, od_3_0_2, od_3_1_0, od_3_1_1, od_3_1_2, od_3_2_0, od_3_2_1, od_3_2_2, od_3_3_0, od_3_3_1, od_3_3_2, od_3_4_0, od_3_4_1, od_3_4_2, od_3_5_0, od_3_5_1, od_3_5_2].map (fun x => x.data.toList.take 2)).Nodup := by decide +kernel
  exact (List.pairwise_map.1 h).imp (fun hab e => hab (by rw [e]))

def ol_5_0 : List ByteArray := []

def od_5_0_0 : ByteArray := ⟨#[161, 2, 217, 174, 48, 141, 178, 67, 178, 55, 235, 102, 203, 206, 47, 252, 7, 132, 184, 105, 185, 236, 239, 59, 68, 81, 209, 58, 166, 138, 136, 50]⟩

set_option maxRecDepth 1000000 in
theorem oi_5_0_0 : (idB ⟨((0 : Nat) : Int), ((0 : Nat) : Int) + 1, [], ol_5_0⟩).data.toList = od_5_0_0.data.toList := by decide +kernel

def od_5_0_1 : ByteArray := ⟨#[210, 159, 13, 50, 242, 62, 6, 158, 125, 124, 90, 15, 142, 43, 50, 55, 72, 224, 88, 97, 142, 48, 209, 182, 129, 247, 40, 98, 126, 133, 220, 221]⟩

set_option maxRecDepth 1000000 in
theorem oi_5_0_1 : (idB ⟨((1 : Nat) : Int), ((0 : Nat) : Int) + 1, [], ol_5_0⟩).data.toList = od_5_0_1.data.toList := by decide +kernel

def od_5_0_2 : ByteArray := ⟨#[110, 245, 196, 70, 39, 49, 21, 235, 100, 196, 210, 107, 240, 101, 124, 168, 222, 68, 130, 40, 90, 186, 38, 205, 5, 243, 155, 56, 41, 213, 60, 252]⟩

set_option maxRecDepth 1000000 in
theorem oi_5_0_2 : (idB ⟨((2 : Nat) : Int), ((0 : Nat) : Int) + 1, [], ol_5_0⟩).data.toList = od_5_0_2.data.toList := by decide +kernel

def od_5_0_3 : ByteArray := ⟨#[26, 209, 105, 198, 228, 18, 161, 112, 71, 116, 255, 241, 113, 4, 16, 200, 254, 253, 134, 90, 205, 72, 229, 98, 125, 124, 56, 171, 17, 172, 172, 167]⟩

set_option maxRecDepth 1000000 in
theorem oi_5_0_3 : (idB ⟨((3 : Nat) : Int), ((0 : Nat) : Int) + 1, [], ol_5_0⟩).data.toList = od_5_0_3.data.toList := by decide +kernel

def od_5_0_4 : ByteArray := ⟨#[175, 223, 178, 77, 226, 246, 160, 254, 157, 156, 178, 196, 55, 128, 254, 76, 170, 164, 187, 73, 91, 1, 95, 27, 199, 224, 150, 150, 142, 141, 200, 14]⟩

set_option maxRecDepth 1000000 in
theorem oi_5_0_4 : (idB ⟨((4 : Nat) : Int), ((0 : Nat) : Int) + 1, [], ol_5_0⟩).data.toList = od_5_0_4.data.toList := by decide +kernel

def ol_5_1 : List ByteArray := [od_5_0_3, od_5_0_2, od_5_0_0, od_5_0_4, od_5_0_1]

def od_5_1_0 : ByteArray := ⟨#[49, 226, 149, 254, 212, 217, 66, 251, 192, 67, 15, 223, 5, 12, 38, 79, 34, 18, 93, 191, 144, 81, 183, 99, 86, 9, 145, 106, 69, 166, 251, 250]⟩

set_option maxRecDepth 1000000 in
theorem oi_5_1_0 : (idB ⟨((0 : Nat) : Int), ((1 : Nat) : Int) + 1, [], ol_5_1⟩).data.toList = od_5_1_0.data.toList := by decide +kernel

def od_5_1_1 : ByteArray := ⟨#[147, 226, 186, 224, 255, 200, 244, 20, 222, 90, 137, 183, 183, 9, 106, 125, 50, 9, 239, 189, 85, 77, 225, 2, 91, 143, 229, 164, 190, 90, 187, 215]⟩

set_option maxRecDepth 1000000 in
theorem oi_5_1_1 : (idB ⟨((1 : Nat) : Int), ((1 : Nat) : Int) + 1, [], ol_5_1⟩).data.toList = od_5_1_1.data.toList := by decide +kernel

def od_5_1_2 : ByteArray := ⟨#[159, 43, 47, 156, 166, 199, 210, 92, 45, 116, 81, 137, 242, 115, 119, 131, 184, 9, 2, 106, 26, 160, 224, 219, 136, 187, 94, 139, 170, 51, 224, 7]⟩

set_option maxRecDepth 1000000 in
theorem oi_5_1_2 : (idB ⟨((2 : Nat) : Int), ((1 : Nat) : Int) + 1, [], ol_5_1⟩).data.toList = od_5_1_2.data.toList := by decide +kernel

def od_5_1_3 : ByteArray := ⟨#[205, 9, 83, 138, 167, 243, 129, 232, 111, 136, 104, 190, 85, 28, 226, 160, 79, 18, 125, 33, 66, 44, 79, 73, 162, 88, 203, 196, 27, 221, 108, 144]⟩

set_option maxRecDepth 1000000 in
theorem oi_5_1_3 : (idB ⟨((3 : Nat) : Int), ((1 : Nat) : Int) + 1, [], ol_5_1⟩).data.toList = od_5_1_3.data.toList := by decide +kernel

def od_5_1_4 : ByteArray := ⟨#[66, 158, 14, 77, 25, 183, 205, 3, 30, 30, 192, 138, 16, 247, 190, 61, 12, 110, 237, 45, 178, 88, 96, 65, 61, 189, 173, 26, 196, 176, 25, 102]⟩

set_option maxRecDepth 1000000 in
theorem oi_5_1_4 : (idB ⟨((4 : Nat) : Int), ((1 : Nat) : Int) + 1, [], ol_5_1⟩).data.toList = od_5_1_4.data.toList := by decide +kernel

def ol_5_2 : List ByteArray := [od_5_1_0, od_5_1_4, od_5_1_1, od_5_1_2, od_5_1_3]

def od_5_2_0 : ByteArray := ⟨#[229, 107, 253, 94, 67, 70, 174, 251, 117, 112, 38, 238, 28, 62, 24, 44, 33, 208, 132, 70, 10, 133, 53, 205, 122, 163, 75, 248, 148, 157, 133, 91]⟩

set_option maxRecDepth 1000000 in
theorem oi_5_2_0 : (idB ⟨((0 : Nat) : Int), ((2 : Nat) : Int) + 1, [], ol_5_2⟩).data.toList = od_5_2_0.data.toList := by decide +kernel

def od_5_2_1 : ByteArray := ⟨#[11, 219, 234, 39, 129, 102, 102, 193, 63, 59, 224, 39, 190, 106, 242, 70, 114, 128, 121, 42, 247, 151, 194, 48, 182, 91, 191, 210, 148, 22, 253, 62]⟩

set_option maxRecDepth 1000000 in
theorem oi_5_2_1 : (idB ⟨((1 : Nat) : Int), ((2 : Nat) : Int) + 1, [], ol_5_2⟩).data.toList = od_5_2_1.data.toList := by decide +kernel

def od_5_2_2 : ByteArray := ⟨#[193, 52, 196, 240, 158, 139, 61, 126, 226, 211, 26, 194, 29, 143, 20, 37, 255, 114, 193, 230, 155, 223, 179, 139, 87, 166, 124, 211, 223, 185, 143, 69]⟩

set_option maxRecDepth 1000000 in
theorem oi_5_2_2 : (idB ⟨((2 : Nat) : Int), ((2 : Nat) : Int) + 1, [], ol_5_2⟩).data.toList = od_5_2_2.data.toList := by decide +kernel

def od_5_2_3 : ByteArray := ⟨#[211, 36, 197, 181, 209, 195, 164, 160, 153, 95, 57, 116, 166, 205, 43, 196, 212, 133, 185, 201, 82, 225, 69, 197, 96, 234, 121, 101, 26, 170, 177, 94]⟩

set_option maxRecDepth 1000000 in
theorem oi_5_2_3 : (idB ⟨((3 : Nat) : Int), ((2 : Nat) : Int) + 1, [], ol_5_2⟩).data.toList = od_5_2_3.data.toList := by decide +kernel

def od_5_2_4 : ByteArray := ⟨#[206, 250, 127, 136, 234, 1, 173, 105, 54, 214, 245, 214, 201, 49, 153, 79, 49, 160, 38, 145, 126, 148, 101, 222, 33, 46, 9, 32, 159, 167, 155, 176]⟩

set_option maxRecDepth 1000000 in
theorem oi_5_2_4 : (idB ⟨((4 : Nat) : Int), ((2 : Nat) : Int) + 1, [], ol_5_2⟩).data.toList = od_5_2_4.data.toList := by decide +kernel

def ol_5_3 : List ByteArray := [od_5_2_1, od_5_2_2, od_5_2_4, od_5_2_3, od_5_2_0]

def od_5_3_0 : ByteArray := ⟨#[73, 53, 146, 176, 204, 140, 86, 35, 153, 63, 143, 224, 126, 139, 48, 26, 130, 172, 232, 161, 2, 104, 215, 84, 154, 220, 212, 0, 1, 198, 104, 94]⟩

set_option maxRecDepth 1000000 in
theorem oi_5_3_0 : (idB ⟨((0 : Nat) : Int), ((3 : Nat) : Int) + 1, [], ol_5_3⟩).data.toList = od_5_3_0.data.toList := by decide +kernel

def od_5_3_1 : ByteArray := ⟨#[121, 23, 202, 252, 60, 50, 191, 63, 50, 88, 207, 6, 66, 194, 123, 28, 100, 142, 78, 92, 23, 209, 205, 171, 103, 143, 253, 151, 247, 56, 143, 226]⟩

set_option maxRecDepth 1000000 in
theorem oi_5_3_1 : (idB ⟨((1 : Nat) : Int), ((3 : Nat) : Int) + 1, [], ol_5_3⟩).data.toList = od_5_3_1.data.toList := by decide +kernel

def od_5_3_2 : ByteArray := ⟨#[157, 196, 144, 75, 255, 183, 203, 191, 185, 88, 80, 210, 250, 154, 79, 114, 40, 99, 56, 211, 180, 100, 3, 8, 202, 66, 56, 14, 210, 117, 107, 20]⟩

set_option maxRecDepth 1000000 in
theorem oi_5_3_2 : (idB ⟨((2 : Nat) : Int), ((3 : Nat) : Int) + 1, [], ol_5_3⟩).data.toList = od_5_3_2.data.toList := by decide +kernel

def od_5_3_3 : ByteArray := ⟨#[165, 242, 10, 26, 110, 75, 125, 183, 74, 251, 198, 98, 77, 41, 186, 215, 155, 206, 77, 107, 9, 10, 157, 218, 83, 36, 193, 127, 217, 67, 22, 179]⟩

set_option maxRecDepth 1000000 in
theorem oi_5_3_3 : (idB ⟨((3 : Nat) : Int), ((3 : Nat) : Int) + 1, [], ol_5_3⟩).data.toList = od_5_3_3.data.toList := by decide +kernel

def od_5_3_4 : ByteArray := ⟨#[13, 54, 119, 89, 135, 159, 32, 37, 52, 199, 126, 106, 146, 60, 81, 147, 180, 186, 157, 192, 79, 51, 74, 4, 151, 163, 109, 42, 71, 0, 182, 16]⟩

set_option maxRecDepth 1000000 in
theorem oi_5_3_4 : (idB ⟨((4 : Nat) : Int), ((3 : Nat) : Int) + 1, [], ol_5_3⟩).data.toList = od_5_3_4.data.toList := by decide +kernel

def ol_5_4 : List ByteArray := [od_5_3_4, od_5_3_0, od_5_3_1, od_5_3_2, od_5_3_3]

def od_5_4_0 : ByteArray := ⟨#[8, 155, 249, 154, 138, 248, 102, 142, 141, 102, 253, 94, 149, 203, 80, 43, 50, 23, 70, 139, 179, 170, 145, 237, 158, 108, 71, 75, 18, 124, 227, 191]⟩

set_option maxRecDepth 1000000 in
theorem oi_5_4_0 : (idB ⟨((0 : Nat) : Int), ((4 : Nat) : Int) + 1, [], ol_5_4⟩).data.toList = od_5_4_0.data.toList := by decide +kernel

def od_5_4_1 : ByteArray := ⟨#[239, 9, 75, 9, 219, 9, 240, 242, 196, 142, 225, 192, 18, 203, 125, 127, 141, 105, 151, 77, 181, 12, 45, 134, 57, 228, 82, 83, 64, 110, 58, 219]⟩

set_option maxRecDepth 1000000 in
theorem oi_5_4_1 : (idB ⟨((1 : Nat) : Int), ((4 : Nat) : Int) + 1, [], ol_5_4⟩).data.toList = od_5_4_1.data.toList := by decide +kernel

def od_5_4_2 : ByteArray := ⟨#[67, 50, 194, 239, 34, 149, 145, 205, 113, 178, 212, 59, 47, 83, 185, 56, 233, 157, 238, 55, 104, 190, 95, 206, 6, 125, 0, 224, 200, 214, 36, 230]⟩

set_option maxRecDepth 1000000 in
theorem oi_5_4_2 : (idB ⟨((2 : Nat) : Int), ((4 : Nat) : Int) + 1, [], ol_5_4⟩).data.toList = od_5_4_2.data.toList := by decide +kernel

def od_5_4_3 : ByteArray := ⟨#[121, 253, 239, 7, 214, 192, 154, 103, 125, 183, 29, 86, 216, 158, 218, 208, 213, 54, 162, 27, 39, 239, 117, 163, 130, 239, 64, 201, 97, 4, 241, 141]⟩

set_option maxRecDepth 1000000 in
theorem oi_5_4_3 : (idB ⟨((3 : Nat) : Int), ((4 : Nat) : Int) + 1, [], ol_5_4⟩).data.toList = od_5_4_3.data.toList := by decide +kernel

def od_5_4_4 : ByteArray := ⟨#[17, 249, 121, 94, 97, 244, 42, 156, 208, 64, 121, 90, 180, 142, 89, 189, 132, 9, 134, 44, 69, 47, 104, 113, 44, 95, 44, 37, 105, 93, 172, 97]⟩

set_option maxRecDepth 1000000 in
theorem oi_5_4_4 : (idB ⟨((4 : Nat) : Int), ((4 : Nat) : Int) + 1, [], ol_5_4⟩).data.toList = od_5_4_4.data.toList := by decide +kernel

def ol_5_5 : List ByteArray := [od_5_4_0, od_5_4_4, od_5_4_2, od_5_4_3, od_5_4_1]

def od_5_5_0 : ByteArray := ⟨#[237, 219, 70, 254, 230, 229, 191, 71, 198, 115, 222, 89, 46, 157, 142, 224, 133, 115, 185, 215, 159, 242, 105, 162, 184, 207, 139, 242, 169, 165, 210, 180]⟩

set_option maxRecDepth 1000000 in
theorem oi_5_5_0 : (idB ⟨((0 : Nat) : Int), ((5 : Nat) : Int) + 1, [], ol_5_5⟩).data.toList = od_5_5_0.data.toList := by decide +kernel

def od_5_5_1 : ByteArray := ⟨#[241, 232, 205, 114, 186, 90, 8, 63, 25, 86, 211, 230, 138, 51, 4, 188, 99, 187, 30, 131, 22, 250, 138, 235, 57, 94, 79, 12, 166, 58, 193, 187]⟩

set_option maxRecDepth 1000000 in
theorem oi_5_5_1 : (idB ⟨((1 : Nat) : Int), ((5 : Nat) : Int) + 1, [], ol_5_5⟩).data.toList = od_5_5_1.data.toList := by decide +kernel

def od_5_5_2 : ByteArray := ⟨#[95, 177, 127, 54, 170, 54, 27, 239, 113, 69, 157, 96, 170, 165, 181, 7, 164, 78, 117, 68, 42, 185, 231, 199, 57, 103, 48, 224, 180, 241, 135, 218]⟩

set_option maxRecDepth 1000000 in
theorem oi_5_5_2 : (idB ⟨((2 : Nat) : Int), ((5 : Nat) : Int) + 1, [], ol_5_5⟩).data.toList = od_5_5_2.data.toList := by decide +kernel

def od_5_5_3 : ByteArray := ⟨#[109, 101, 64, 130, 120, 129, 116, 204, 187, 203, 216, 104, 165, 68, 83, 33, 152, 248, 89, 254, 241, 27, 201, 141, 145, 156, 88, 77, 225, 194, 116, 181]⟩

set_option maxRecDepth 1000000 in
theorem oi_5_5_3 : (idB ⟨((3 : Nat) : Int), ((5 : Nat) : Int) + 1, [], ol_5_5⟩).data.toList = od_5_5_3.data.toList := by decide +kernel

def od_5_5_4 : ByteArray := ⟨#[79, 233, 79, 173, 110, 180, 114, 15, 18, 240, 76, 139, 120, 112, 184, 59, 239, 239, 244, 165, 191, 177, 225, 59, 72, 69, 15, 163, 254, 136, 21, 151]⟩

set_option maxRecDepth 1000000 in
theorem oi_5_5_4 : (idB ⟨((4 : Nat) : Int), ((5 : Nat) : Int) + 1, [], ol_5_5⟩).data.toList = od_5_5_4.data.toList := by decide +kernel

theorem up_5_0 : upR 5 0 = ol_5_0 := rfl

theorem ot_5_0_0 : idB (hdrR 5 0 0) = od_5_0_0 := by
  unfold hdrR
  rw [up_5_0]
  exact byteA_ext oi_5_0_0

theorem ot_5_0_1 : idB (hdrR 5 0 1) = od_5_0_1 := by
  unfold hdrR
  rw [up_5_0]
  exact byteA_ext oi_5_0_1

theorem ot_5_0_2 : idB (hdrR 5 0 2) = od_5_0_2 := by
  unfold hdrR
  rw [up_5_0]
  exact byteA_ext oi_5_0_2

theorem ot_5_0_3 : idB (hdrR 5 0 3) = od_5_0_3 := by
  unfold hdrR
  rw [up_5_0]
  exact byteA_ext oi_5_0_3

theorem ot_5_0_4 : idB (hdrR 5 0 4) = od_5_0_4 := by
  unfold hdrR
  rw [up_5_0]
  exact byteA_ext oi_5_0_4

set_option maxRecDepth 100000 in
theorem up_5_1 : upR 5 1 = ol_5_1 := by
  show (List.range 5).foldl (fun l (a : Nat) => insT l (idB ⟨(a : Int), ((0 : Nat) : Int) + 1, [], upR 5 0⟩)) [] = _
  rw [up_5_0, show List.range 5 = [0, 1, 2, 3, 4] from rfl]
  simp only [List.foldl_cons, List.foldl_nil]
  rw [byteA_ext oi_5_0_0, byteA_ext oi_5_0_1, byteA_ext oi_5_0_2, byteA_ext oi_5_0_3, byteA_ext oi_5_0_4]
  decide +kernel

theorem ot_5_1_0 : idB (hdrR 5 1 0) = od_5_1_0 := by
  unfold hdrR
  rw [up_5_1]
  exact byteA_ext oi_5_1_0

theorem ot_5_1_1 : idB (hdrR 5 1 1) = od_5_1_1 := by
  unfold hdrR
  rw [up_5_1]
  exact byteA_ext oi_5_1_1

theorem ot_5_1_2 : idB (hdrR 5 1 2) = od_5_1_2 := by
  unfold hdrR
  rw [up_5_1]
  exact byteA_ext oi_5_1_2

theorem ot_5_1_3 : idB (hdrR 5 1 3) = od_5_1_3 := by
  unfold hdrR
  rw [up_5_1]
  exact byteA_ext oi_5_1_3

theorem ot_5_1_4 : idB (hdrR 5 1 4) = od_5_1_4 := by
  unfold hdrR
  rw [up_5_1]
  exact byteA_ext oi_5_1_4

set_option maxRecDepth 100000 in
theorem up_5_2 : upR 5 2 = ol_5_2 := by
  show (List.range 5).foldl (fun l (a : Nat) => insT l (idB ⟨(a : Int), ((1 : Nat) : Int) + 1, [], upR 5 1⟩)) [] = _
  rw [up_5_1, show List.range 5 = [0, 1, 2, 3, 4] from rfl]
  simp only [List.foldl_cons, List.foldl_nil]
  rw [byteA_ext oi_5_1_0, byteA_ext oi_5_1_1, byteA_ext oi_5_1_2, byteA_ext oi_5_1_3, byteA_ext oi_5_1_4]
  decide +kernel

theorem ot_5_2_0 : idB (hdrR 5 2 0) = od_5_2_0 := by
  unfold hdrR
  rw [up_5_2]
  exact byteA_ext oi_5_2_0

theorem ot_5_2_1 : idB (hdrR 5 2 1) = od_5_2_1 := by
  unfold hdrR
  rw [up_5_2]
  exact byteA_ext oi_5_2_1

theorem ot_5_2_2 : idB (hdrR 5 2 2) = od_5_2_2 := by
  unfold hdrR
  rw [up_5_2]
  exact byteA_ext oi_5_2_2

theorem ot_5_2_3 : idB (hdrR 5 2 3) = od_5_2_3 := by
  unfold hdrR
  rw [up_5_2]
  exact byteA_ext oi_5_2_3

theorem ot_5_2_4 : idB (hdrR 5 2 4) = od_5_2_4 := by
  unfold hdrR
  rw [up_5_2]
  exact byteA_ext oi_5_2_4

set_option maxRecDepth 100000 in
theorem up_5_3 : upR 5 3 = ol_5_3 := by
  show (List.range 5).foldl (fun l (a : Nat) => insT l (idB ⟨(a : Int), ((2 : Nat) : Int) + 1, [], upR 5 2⟩)) [] = _
  rw [up_5_2, show List.range 5 = [0, 1, 2, 3, 4] from rfl]
  simp only [List.foldl_cons, List.foldl_nil]
  rw [byteA_ext oi_5_2_0, byteA_ext oi_5_2_1, byteA_ext oi_5_2_2, byteA_ext oi_5_2_3, byteA_ext oi_5_2_4]
  decide +kernel

theorem ot_5_3_0 : idB (hdrR 5 3 0) = od_5_3_0 := by
  unfold hdrR
  rw [up_5_3]
  exact byteA_ext oi_5_3_0

theorem ot_5_3_1 : idB (hdrR 5 3 1) = od_5_3_1 := by
  unfold hdrR
  rw [up_5_3]
  exact byteA_ext oi_5_3_1

theorem ot_5_3_2 : idB (hdrR 5 3 2) = od_5_3_2 := by
  unfold hdrR
  rw [up_5_3]
  exact byteA_ext oi_5_3_2

theorem ot_5_3_3 : idB (hdrR 5 3 3) = od_5_3_3 := by
  unfold hdrR
  rw [up_5_3]
  exact byteA_ext oi_5_3_3

theorem ot_5_3_4 : idB (hdrR 5 3 4) = od_5_3_4 := by
  unfold hdrR
  rw [up_5_3]
  exact byteA_ext oi_5_3_4

set_option maxRecDepth 100000 in
theorem up_5_4 : upR 5 4 = ol_5_4 := by
  show (List.range 5).foldl (fun l (a : Nat) => insT l (idB ⟨(a : Int), ((3 : Nat) : Int) + 1, [], upR 5 3⟩)) [] = _
  rw [up_5_3, show List.range 5 = [0, 1, 2, 3, 4] from rfl]
  simp only [List.foldl_cons, List.foldl_nil]
  rw [byteA_ext oi_5_3_0, byteA_ext oi_5_3_1, byteA_ext oi_5_3_2, byteA_ext oi_5_3_3, byteA_ext oi_5_3_4]
  decide +kernel

theorem ot_5_4_0 : idB (hdrR 5 4 0) = od_5_4_0 := by
  unfold hdrR
  rw [up_5_4]
  exact byteA_ext oi_5_4_0

theorem ot_5_4_1 : idB (hdrR 5 4 1) = od_5_4_1 := by
  unfold hdrR
  rw [up_5_4]
  exact byteA_ext oi_5_4_1

theorem ot_5_4_2 : idB (hdrR 5 4 2) = od_5_4_2 := by
  unfold hdrR
  rw [up_5_4]
  exact byteA_ext oi_5_4_2

theorem ot_5_4_3 : idB (hdrR 5 4 3) = od_5_4_3 := by
  unfold hdrR
  rw [up_5_4]
  exact byteA_ext oi_5_4_3

theorem ot_5_4_4 : idB (hdrR 5 4 4) = od_5_4_4 := by
  unfold hdrR
  rw [up_5_4]
  exact byteA_ext oi_5_4_4

set_option maxRecDepth 100000 in
theorem up_5_5 : upR 5 5 = ol_5_5 := by
  show (List.range 5).foldl (fun l (a : Nat) => insT l (idB ⟨(a : Int), ((4 : Nat) : Int) + 1, [], upR 5 4⟩)) [] = _
  rw [up_5_4, show List.range 5 = [0, 1, 2, 3, 4] from rfl]
  simp only [List.foldl_cons, List.foldl_nil]
  rw [byteA_ext oi_5_4_0, byteA_ext oi_5_4_1, byteA_ext oi_5_4_2, byteA_ext oi_5_4_3, byteA_ext oi_5_4_4]
  decide +kernel

theorem ot_5_5_0 : idB (hdrR 5 5 0) = od_5_5_0 := by
  unfold hdrR
  rw [up_5_5]
  exact byteA_ext oi_5_5_0

theorem ot_5_5_1 : idB (hdrR 5 5 1) = od_5_5_1 := by
  unfold hdrR
  rw [up_5_5]
  exact byteA_ext oi_5_5_1

theorem ot_5_5_2 : idB (hdrR 5 5 2) = od_5_5_2 := by
  unfold hdrR
  rw [up_5_5]
  exact byteA_ext oi_5_5_2

theorem ot_5_5_3 : idB (hdrR 5 5 3) = od_5_5_3 := by
  unfold hdrR
  rw [up_5_5]
  exact byteA_ext oi_5_5_3

theorem ot_5_5_4 : idB (hdrR 5 5 4) = od_5_5_4 := by
  unfold hdrR
  rw [up_5_5]
  exact byteA_ext oi_5_5_4

theorem all_5 : (List.range 30).map (fun j => idB (hdrR 5 (j / 5) (j % 5))) = [od_5_0_0, od_5_0_1, od_5_0_2, od_5_0_3, od_5_0_4, od_5_1_0, od_5_1_1, od_5_1_2, od_5_1_3, od_5_1_4, od_5_2_0, od_5_2_1, od_5_2_2, od_5_2_3, od_5_2_4, od_5_3_0, od_5_3_1, od_5_3_2, od_5_3_3, od_5_3_4, od_5_4_0, od_5_4_1, od_5_4_2, od_5_4_3, od_5_4_4, od_5_5_0, od_5_5_1, od_5_5_2, od_5_5_3, od_5_5_4] := by
  show [idB (hdrR 5 0 0), idB (hdrR 5 0 1), idB (hdrR 5 0 2), idB (hdrR 5 0 3), idB (hdrR 5 0 4), idB (hdrR 5 1 0), idB (hdrR 5 1 1), idB (hdrR 5 1 2), idB (hdrR 5 1 3), idB (hdrR 5 1 4), idB (hdrR 5 2 0), idB (hdrR 5 2 1), idB (hdrR 5 2 2), idB (hdrR 5 2 3), idB (hdrR 5 2 4), idB (hdrR 5 3 0), idB (hdrR 5 3 1), idB (hdrR 5 3 2), idB (hdrR 5 3 3), idB (hdrR 5 3 4), idB (hdrR 5 4 0), idB (hdrR 5 4 1), idB (hdrR 5 4 2), idB (hdrR 5 4 3), idB (hdrR 5 4 4), idB (hdrR 5 5 0), idB (hdrR 5 5 1), idB (hdrR 5 5 2), idB (hdrR 5 5 3), idB (hdrR 5 5 4)] = _
  rw [ot_5_0_0, ot_5_0_1, ot_5_0_2, ot_5_0_3, ot_5_0_4, ot_5_1_0, ot_5_1_1, ot_5_1_2, ot_5_1_3, ot_5_1_4, ot_5_2_0, ot_5_2_1, ot_5_2_2, ot_5_2_3, ot_5_2_4, ot_5_3_0, ot_5_3_1, ot_5_3_2, ot_5_3_3, ot_5_3_4, ot_5_4_0, ot_5_4_1, ot_5_4_2, ot_5_4_3, ot_5_4_4, ot_5_5_0, ot_5_5_1, ot_5_5_2, ot_5_5_3, ot_5_5_4]

set_option maxRecDepth 100000 in
theorem nod_5 : ((List.range 30).map (fun j => idB (hdrR 5 (j / 5) (j % 5)))).Nodup := by
  rw [all_5]
  have h : ([od_5_0_0, od_5_0_1, od_5_0_2, od_5_0_3, od_5_0_4, od_5_1_0, od_5_1_1, od_5_1_2, od_5_1_3, od_5_1_4, od_5_2_0, od_5_2_1, od_5_2_2, od_5_2_3, od_5_2_4, od_5_3_0, od_5_3_1, od_5_3_2, od_5_3_3, od_5_3_4, od_5_4_0, od_5_4_1, od_5_4_2, od_5_4_3, od_5_4_4, od_5_5_0, od_5_5_1, od_5_5_2, od_5_5_3, od_5_5_4].map (fun x => x.data.toList.take 2)).Nodup := by decide +kernel
  exact (List.pairwise_map.1 h).imp (fun hab e => hab (by rw [e]))

/-- The ids of six rounds differ. -/
theorem idR_inj {n : Nat} (hn1 : 1 ≤ n) (hn2 : n ≤ 2) {j k : Nat} (hj : j < 6 * (2 * n + 1)) (hk : k < 6 * (2 * n + 1)) (h : idB (hdrR (2 * n + 1) (j / (2 * n + 1)) (j % (2 * n + 1))) = idB (hdrR (2 * n + 1) (k / (2 * n + 1)) (k % (2 * n + 1)))) : j = k := by
  have key : ∀ N, ((List.range (6 * N)).map (fun j => idB (hdrR N (j / N) (j % N)))).Nodup → ∀ j k, j < 6 * N → k < 6 * N → idB (hdrR N (j / N) (j % N)) = idB (hdrR N (k / N) (k % N)) → j = k := fun N hN j k hj hk h => by
    have hp := List.pairwise_iff_getElem.1 (List.pairwise_map.1 hN)
    have hl : (List.range (6 * N)).length = 6 * N := List.length_range
    rcases Nat.lt_trichotomy j k with e | e | e
    · exact (hp j k (by rw [hl]; exact hj) (by rw [hl]; exact hk) e (by simpa using h)).elim
    · exact e
    · exact (hp k j (by rw [hl]; exact hk) (by rw [hl]; exact hj) e (by simpa using h.symm)).elim
  rcases (by omega : n = 1 ∨ n = 2) with rfl | rfl
  · exact key 3 nod_3 j k hj hk h
  · exact key 5 nod_5 j k hj hk h
end Go.Proofs.YtmjkbdgcnoenbaaGreatDoor

/- What DagOld is about: round upon round the certificates of the first authors, each upon all of the round ahead; then the low rises. -/
namespace Go.Proofs.YtmjkbdgcnoenbaaGreatDoor
open Go Go.RowKit
set_option linter.unusedVariables false

def upA (N r a : Nat) : List ByteArray := (List.range a).foldl (fun l (b : Nat) => insT l (idB (hdrR N r b))) []

theorem upA_succ (N r a : Nat) : upA N r (a + 1) = insT (upA N r a) (idB (hdrR N r a)) := by
  unfold upA
  rw [List.range_succ, List.foldl_append]
  rfl

theorem upR_succ (N r : Nat) : upR N (r + 1) = upA N r N := rfl

section
variable {ks : List ByteArray} {n r a m R : Nat} {d : DagD}

theorem idR2 (hn1 : 1 ≤ n) (hn2 : n ≤ 2) {r s a b : Nat} (hr : r < 6) (hs : s < 6) (ha : a < 2 * n + 1) (hb : b < 2 * n + 1) (h : idB (hdrR (2 * n + 1) r a) = idB (hdrR (2 * n + 1) s b)) : r = s ∧ a = b := by
  have h1 : ∀ r a, a < 2 * n + 1 → (a + r * (2 * n + 1)) / (2 * n + 1) = r ∧ (a + r * (2 * n + 1)) % (2 * n + 1) = a := fun r a ha => ⟨by rw [Nat.add_mul_div_right _ _ (by omega), Nat.div_eq_of_lt ha, Nat.zero_add], by rw [Nat.add_mul_mod_self_right, Nat.mod_eq_of_lt ha]⟩
  have h2 : ∀ r a, r < 6 → a < 2 * n + 1 → a + r * (2 * n + 1) < 6 * (2 * n + 1) := fun r a hr ha => by
    have := Nat.mul_le_mul_right (2 * n + 1) (by omega : r ≤ 5)
    omega
  have e := idR_inj hn1 hn2 (h2 r a hr ha) (h2 s b hs hb) (by rw [(h1 r a ha).1, (h1 r a ha).2, (h1 s b hb).1, (h1 s b hb).2]; exact h)
  have e1 := (h1 r a ha).1
  have e2 := (h1 r a ha).2
  rw [e, (h1 s b hb).1] at e1
  rw [e, (h1 s b hb).2] at e2
  exact ⟨e1.symm, e2.symm⟩

structure UpA (N r a : Nat) (l : List ByteArray) : Prop where
  rise : l.Pairwise (fun a b => a.toList < b.toList)
  mem : ∀ y, y ∈ l ↔ ∃ b, b < a ∧ y = idB (hdrR N r b)
  len : l.length = a

theorem upA_is (hn1 : 1 ≤ n) (hn2 : n ≤ 2) (hr : r < 6) : ∀ a, a ≤ 2 * n + 1 → UpA (2 * n + 1) r a (upA (2 * n + 1) r a)
  | 0, _ => ⟨List.Pairwise.nil, fun y => ⟨fun h => (by cases h), fun ⟨a, h, _⟩ => absurd h (Nat.not_lt_zero _)⟩, rfl⟩
  | k + 1, hk => by
    have ih := upA_is hn1 hn2 hr k (by omega)
    have hne : idB (hdrR (2 * n + 1) r k) ∉ upA (2 * n + 1) r k := fun e => by
      obtain ⟨b, hb, e⟩ := (ih.mem _).1 e
      have := (idR2 hn1 hn2 hr hr (by omega) (by omega) e).2
      omega
    rw [upA_succ]
    refine ⟨?_, fun y => ?_, by rw [insT_length, ih.len]⟩
    · rw [← insU_new hne]; exact insU_rise ih.rise _
    · rw [← insU_new hne, insU_mem, ih.mem]
      constructor
      · rintro (rfl | ⟨a, ha, rfl⟩)
        · exact ⟨k, by omega, rfl⟩
        · exact ⟨a, by omega, rfl⟩
      · rintro ⟨a, ha, rfl⟩
        rcases (by omega : a < k ∨ a = k) with h | rfl
        · exact Or.inr ⟨a, h, rfl⟩
        · exact Or.inl rfl

theorem upR_len (hn1 : 1 ≤ n) (hn2 : n ≤ 2) (hr : r ≤ 6) : (upR (2 * n + 1) r).length = if r = 0 then 0 else 2 * n + 1 := by
  cases r with
  | zero => rfl
  | succ r => rw [upR_succ, (upA_is hn1 hn2 (by omega) _ (Nat.le_refl _)).len, if_neg (by omega)]

/-- A round's certificate. -/
def certR (ks : List ByteArray) (n r a : Nat) : CertD := ⟨hdrR (2 * n + 1) r a, tagsP ks voteW (idB (hdrR (2 * n + 1) r a)) [] (3 * n + 1)⟩

def rowR (ks : List ByteArray) (n r a : Nat) : RowC := ⟨idB (hdrR (2 * n + 1) r a), certR ks n r a⟩

theorem chk_hdrR (hn1 : 1 ≤ n) (hn2 : n ≤ 2) (hr : r < 6) (ha : a < 3 * n + 1) (en : List TagD → ByteArray → Nat) : chkH (3 * n + 1) (2 * n + 1) en (hdrR (2 * n + 1) r a) = 0 := by
  have hl := upR_len hn1 hn2 (r := r) (by omega)
  have hrs : risP ⟨#[]⟩ (upR (2 * n + 1) r) = 0 := by
    cases r with
    | zero => rfl
    | succ r =>
      have hU := upA_is hn1 hn2 (r := r) (by omega) _ (Nat.le_refl _)
      rw [upR_succ]
      refine risP_rise _ _ (fun p hp => ?_) (fun p hp => ?_) hU.rise
      · obtain ⟨a, _, rfl⟩ := (hU.mem p).1 hp
        exact idB_size _
      · obtain ⟨b, _, rfl⟩ := (hU.mem p).1 hp
        have hs := idB_size (hdrR (2 * n + 1) r b)
        have e : (ByteArray.toList ⟨#[]⟩ : List UInt8) = [] := by decide +kernel
        rw [e]
        cases hl : (idB (hdrR (2 * n + 1) r b)).toList with
        | nil =>
          have : (idB (hdrR (2 * n + 1) r b)).toList.length = 32 := by rw [← hs, ByteArray.toList_eq]; exact Array.length_toList
          rw [hl] at this
          cases this
        | cons x r => exact List.nil_lt_cons x r
  unfold chkH hdrR
  simp only [List.length_nil]
  rw [if_neg (by omega), if_neg (by omega), show refP en ⟨#[]⟩ [] = 0 from rfl, if_neg (by simp), hrs, if_neg (by simp)]
  unfold countE
  rw [hl]
  by_cases h0 : r = 0
  · rw [if_pos h0, if_neg (by omega), if_neg (by omega), if_neg (by omega)]
  · rw [if_neg h0, if_neg (by omega), if_neg (by omega), if_neg (by omega)]

theorem chk_certR (hn1 : 1 ≤ n) (hn2 : n ≤ 2) (hk : ks.length = 3 * n + 1) (hr : r < 6) (ha : a < 3 * n + 1) : chkC ks n (certR ks n r a) = 0 := by
  unfold chkC
  have h1 : chkH (3 * n + 1) (2 * n + 1) (enT ks n) (certR ks n r a).header = 0 := chk_hdrR hn1 hn2 hr ha _
  rw [h1, if_neg (by simp)]
  exact enough_all hk voteW (idB (hdrR (2 * n + 1) r a))

/-- What is in: r rounds, and a more. -/
def rowsR (ks : List ByteArray) (n r a : Nat) : List RowC := (List.range r).flatMap (fun q => (List.range (2 * n + 1)).map (rowR ks n q)) ++ (List.range a).map (rowR ks n r)

theorem rowsR_mem {x : RowC} : x ∈ rowsR ks n r a ↔ (∃ q b, q < r ∧ b < 2 * n + 1 ∧ x = rowR ks n q b) ∨ ∃ b, b < a ∧ x = rowR ks n r b := by
  unfold rowsR
  rw [List.mem_append, List.mem_flatMap, List.mem_map]
  constructor
  · rintro (⟨q, hq, h⟩ | ⟨b, hb, rfl⟩)
    · obtain ⟨b, hb, rfl⟩ := List.mem_map.1 h
      exact Or.inl ⟨q, b, List.mem_range.1 hq, List.mem_range.1 hb, rfl⟩
    · exact Or.inr ⟨b, List.mem_range.1 hb, rfl⟩
  · rintro (⟨q, b, hq, hb, rfl⟩ | ⟨b, hb, rfl⟩)
    · exact Or.inl ⟨q, List.mem_range.2 hq, List.mem_map.2 ⟨b, List.mem_range.2 hb, rfl⟩⟩
    · exact Or.inr ⟨b, List.mem_range.2 hb, rfl⟩

theorem rowsR_next : rowsR ks n r (2 * n + 1) = rowsR ks n (r + 1) 0 := by
  unfold rowsR
  generalize 2 * n + 1 = N
  rw [List.range_succ (n := r), List.flatMap_append]
  simp

theorem rowsR_more : rowsR ks n r (a + 1) = rowsR ks n r a ++ [rowR ks n r a] := by
  unfold rowsR
  rw [List.range_succ (n := a), List.map_append, List.append_assoc]
  rfl

theorem rowsR_len : (rowsR ks n r a).length = r * (2 * n + 1) + a := by
  induction r generalizing a with
  | zero => simp [rowsR]
  | succ r ih =>
    have h0 := @ih (2 * n + 1)
    have e : rowsR ks n (r + 1) a = rowsR ks n r (2 * n + 1) ++ (List.range a).map (rowR ks n (r + 1)) := by
      rw [rowsR_next]
      unfold rowsR
      simp
    rw [e, List.length_append, h0, List.length_map, List.length_range, Nat.add_mul r 1, Nat.one_mul]

structure Old (ks : List ByteArray) (n r a : Nat) (d : DagD) : Prop where
  perm : d.L.Perm (rowsR ks n r a)
  low : d.low = 1

theorem Old.mem (h : Old ks n r a d) {x : RowC} : x ∈ d.L ↔ (∃ q b, q < r ∧ b < 2 * n + 1 ∧ x = rowR ks n q b) ∨ ∃ b, b < a ∧ x = rowR ks n r b := by
  rw [h.perm.mem_iff, rowsR_mem]

theorem Old.next (h : Old ks n r (2 * n + 1) d) : Old ks n (r + 1) 0 d := ⟨by rw [← rowsR_next]; exact h.perm, h.low⟩

theorem Old.addE (h : Old ks n r a d) (hn1 : 1 ≤ n) (hn2 : n ≤ 2) (hk : ks.length = 3 * n + 1) (hr : r < 6) (ha : a < 2 * n + 1) : Proofs.YtmjkbdgcnoenbaaGreatDoor.addE (chkC ks n (certR ks n r a)) (3 * n + 1) d (hdrR (2 * n + 1) r a) (idB (hdrR (2 * n + 1) r a)) = 0 := by
  have h3 : getC d.L (idB (hdrR (2 * n + 1) r a)) = none := getC_none.2 (fun x hx e => by
    rcases h.mem.1 hx with ⟨q, b, hq, hb, rfl⟩ | ⟨b, hb, rfl⟩
    · have := (idR2 hn1 hn2 (by omega) hr hb ha e).1
      omega
    · have := (idR2 hn1 hn2 hr hr (by omega) ha e).2
      omega)
  have h5 : sameP d.L (hdrR (2 * n + 1) r a) = false := sameP_false.2 (fun x hx e => by
    rcases h.mem.1 hx with ⟨q, b, hq, hb, rfl⟩ | ⟨b, hb, rfl⟩
    · have e2 : ((q : Nat) : Int) + 1 = (r : Int) + 1 := e.2
      omega
    · have e1 : ((b : Nat) : Int) = (a : Int) := e.1
      omega)
  have h4 : parE d (hdrR (2 * n + 1) r a) = 0 := by
    cases r with
    | zero => exact parE_first h.low rfl
    | succ r =>
      have hU := upA_is hn1 hn2 (r := r) (by omega) _ (Nat.le_refl _)
      have hin : ∀ b, b < 2 * n + 1 → rowR ks n r b ∈ d.L := fun b hb => h.mem.2 (Or.inl ⟨r, b, by omega, hb, rfl⟩)
      have hm : missD d (hdrR (2 * n + 1) (r + 1) a) = [] := by
        unfold missD
        split
        · rfl
        · refine List.eq_nil_iff_forall_not_mem.2 (fun y hy => ?_)
          obtain ⟨h1, h2⟩ := missL_mem.1 hy
          have h1 : y ∈ upA (2 * n + 1) r (2 * n + 1) := h1
          obtain ⟨b, hb, rfl⟩ := (hU.mem y).1 h1
          exact getC_none.1 h2 _ (hin b hb) rfl
      unfold parE
      rw [hm, if_neg (by simp), if_neg]
      rintro ⟨_, ho⟩
      obtain ⟨p, hpm, hpo⟩ := List.any_eq_true.1 ho
      have hpo := of_decide_eq_true hpo
      have hpm : p ∈ upA (2 * n + 1) r (2 * n + 1) := hpm
      obtain ⟨b, hb, rfl⟩ := (hU.mem p).1 hpm
      cases hg : getC d.L (idB (hdrR (2 * n + 1) r b)) with
      | none => exact getC_none.1 hg _ (hin b hb) rfl
      | some x =>
        rw [hg] at hpo
        obtain ⟨hx, hxi⟩ := getC_some hg
        rcases h.mem.1 hx with ⟨q, c, hq, hc, rfl⟩ | ⟨c, hc, rfl⟩
        · have := (idR2 hn1 hn2 (by omega) (by omega) hc hb hxi).1
          subst this
          apply hpo
          show ((q : Nat) : Int) + 1 = ((q + 1 : Nat) : Int) + 1 - 1
          omega
        · have := (idR2 hn1 hn2 (by omega) (by omega) (by omega) hb hxi).1
          omega
  have hl : d.L.length = r * (2 * n + 1) + a := by rw [h.perm.length_eq, rowsR_len]
  have hb := Nat.mul_le_mul_right (2 * n + 1) (by omega : r ≤ 5)
  unfold Proofs.YtmjkbdgcnoenbaaGreatDoor.addE
  rw [chk_certR hn1 hn2 hk hr (by omega), if_neg (by simp), if_neg (by rw [h.low]; show ¬ ((r : Nat) : Int) + 1 < 1; omega), h3, if_neg (by simp), h4, if_neg (by simp), h5, if_neg (by simp), if_neg (by rw [hl]; omega)]

theorem Old.add (h : Old ks n r a d) (hn1 : 1 ≤ n) (hn2 : n ≤ 2) (hk : ks.length = 3 * n + 1) (hr : r < 6) (ha : a < 2 * n + 1) : Old ks n r (a + 1) (addD (chkC ks n (certR ks n r a)) (3 * n + 1) d (certR ks n r a) (idB (hdrR (2 * n + 1) r a))) := by
  have e : Proofs.YtmjkbdgcnoenbaaGreatDoor.addE (chkC ks n (certR ks n r a)) (3 * n + 1) d (certR ks n r a).header (idB (hdrR (2 * n + 1) r a)) = 0 := h.addE hn1 hn2 hk hr ha
  unfold addD
  rw [if_pos e]
  refine ⟨?_, h.low⟩
  rw [rowsR_more]
  exact (insC_perm d.L (rowR ks n r a)).trans ((List.Perm.cons _ h.perm).trans (List.perm_append_singleton _ _).symm)

/-- How many stay. -/
theorem rowsR_keep (m : Nat) : ∀ R, ((rowsR ks n R 0).filter (fun x => decide ((m : Int) + 1 ≤ x.c.header.round))).length = (R - m) * (2 * n + 1)
  | 0 => by simp [rowsR]
  | R + 1 => by
    have e : rowsR ks n (R + 1) 0 = rowsR ks n R 0 ++ (List.range (2 * n + 1)).map (rowR ks n R) := by
      rw [← rowsR_next]
      unfold rowsR
      simp
    rw [e, List.filter_append, List.length_append, rowsR_keep m R]
    by_cases h : m ≤ R
    · have hf : ((List.range (2 * n + 1)).map (rowR ks n R)).filter (fun x => decide ((m : Int) + 1 ≤ x.c.header.round)) = (List.range (2 * n + 1)).map (rowR ks n R) := List.filter_eq_self.2 (fun x hx => by
        obtain ⟨b, _, rfl⟩ := List.mem_map.1 hx
        exact decide_eq_true (by show (m : Int) + 1 ≤ ((R : Nat) : Int) + 1; omega))
      rw [hf, List.length_map, List.length_range, show R + 1 - m = (R - m) + 1 by omega, Nat.add_mul (R - m) 1, Nat.one_mul]
    · have hf : ((List.range (2 * n + 1)).map (rowR ks n R)).filter (fun x => decide ((m : Int) + 1 ≤ x.c.header.round)) = [] := List.filter_eq_nil_iff.2 (fun x hx => by
        obtain ⟨b, _, rfl⟩ := List.mem_map.1 hx
        have h1 : ¬ (m : Int) + 1 ≤ (rowR ks n R b).c.header.round := by show ¬ (m : Int) + 1 ≤ ((R : Nat) : Int) + 1; omega
        rw [decide_eq_false h1]
        simp)
      rw [hf, show R + 1 - m = 0 by omega, show R - m = 0 by omega]
      rfl

theorem Old.lowN (h : Old ks n R 0 d) (m : Nat) : Proofs.YtmjkbdgcnoenbaaGreatDoor.lowN d ((m : Int) + 1) = min R m * (2 * n + 1) := by
  unfold Proofs.YtmjkbdgcnoenbaaGreatDoor.lowN
  rw [h.low]
  by_cases hm : m = 0
  · subst hm
    rw [if_pos (by decide)]
    simp
  · rw [if_neg (by omega)]
    have h1 : (keepC d.L ((m : Int) + 1)).length = (R - m) * (2 * n + 1) := by
      unfold keepC
      rw [(h.perm.filter _).length_eq, rowsR_keep]
    rw [h1, h.perm.length_eq, rowsR_len, Nat.add_zero, ← Nat.sub_mul]
    congr 1
    omega

theorem Old.first (h : Old ks n R 0 d) (hR : 1 ≤ R) : rowR ks n 0 0 ∈ d.L := h.mem.2 (Or.inl ⟨0, 0, by omega, by omega, rfl⟩)

theorem Old.lowGet (h : Old ks n R 0 d) (hn1 : 1 ≤ n) (hn2 : n ≤ 2) (hR : 1 ≤ R) (hR6 : R ≤ 6) (m : Nat) : (getC (lowD d ((m : Int) + 1)).L (idB (hdrR (2 * n + 1) 0 0))).isSome = decide (m = 0) := by
  unfold lowD
  rw [h.low]
  by_cases hm : m = 0
  · subst hm
    rw [if_pos (by decide)]
    have h1 : (getC d.L (idB (hdrR (2 * n + 1) 0 0))).isSome = true := getC_isSome.2 ⟨_, h.first hR, rfl⟩
    rw [h1]
    rfl
  · rw [if_neg (by omega), decide_eq_false hm]
    cases hg : getC (keepC d.L ((m : Int) + 1)) (idB (hdrR (2 * n + 1) 0 0)) with
    | none => rfl
    | some x =>
      exfalso
      obtain ⟨hx, hxi⟩ := getC_some hg
      obtain ⟨hx1, hx2⟩ := keepC_mem.1 hx
      rcases h.mem.1 hx1 with ⟨q, b, hq, hb, rfl⟩ | ⟨b, hb, rfl⟩
      · have := (idR2 hn1 hn2 (by omega) (by omega) hb (by omega) hxi).1
        subst this
        have hx2 : (m : Int) + 1 ≤ ((0 : Nat) : Int) + 1 := hx2
        omega
      · omega

theorem Old.lowE (h : Old ks n R 0 d) (hn1 : 1 ≤ n) (hn2 : n ≤ 2) (hk : ks.length = 3 * n + 1) (hR : 1 ≤ R) (m : Nat) : Proofs.YtmjkbdgcnoenbaaGreatDoor.addE (chkC ks n (certR ks n 0 0)) (3 * n + 1) (lowD d ((m : Int) + 1)) (hdrR (2 * n + 1) 0 0) (idB (hdrR (2 * n + 1) 0 0)) = if m = 0 then 13 else 11 := by
  have h0 : (hdrR (2 * n + 1) 0 0).round = 1 := rfl
  unfold Proofs.YtmjkbdgcnoenbaaGreatDoor.addE
  rw [chk_certR hn1 hn2 hk (by omega) (by omega), if_neg (by simp), h0]
  by_cases hm : m = 0
  · subst hm
    have hd : lowD d (((0 : Nat) : Int) + 1) = d := by unfold lowD; rw [h.low, if_pos (by decide)]
    have h1 : (getC d.L (idB (hdrR (2 * n + 1) 0 0))).isSome = true := getC_isSome.2 ⟨_, h.first hR, rfl⟩
    rw [hd, h.low, if_neg (by decide), if_pos h1, if_pos rfl]
  · have hd : (lowD d ((m : Int) + 1)).low = (m : Int) + 1 := by unfold lowD; rw [h.low, if_neg (by omega)]
    rw [hd, if_pos (by omega), if_neg hm]

theorem Old.lowIds (h : Old ks n R 0 d) (m : Nat) (hm : 0 < m) : idsC (lowD d ((m : Int) + 1)).L (m : Int) = [] := by
  unfold lowD
  rw [h.low, if_neg (by omega)]
  show idsC (keepC d.L ((m : Int) + 1)) (m : Int) = []
  unfold idsC
  rw [List.filter_eq_nil_iff.2 (fun x hx => ?_)]
  · rfl
  · have := (keepC_mem.1 hx).2
    simp
    omega

/-- The maker's ids. -/
def idsR (N r a : Nat) : List (List ByteArray) := (List.range r).map (fun q => upR N (q + 1)) ++ (if a = 0 then [] else [upA N r a])

theorem idsR_next (n r : Nat) : idsR (2 * n + 1) r (2 * n + 1) = idsR (2 * n + 1) (r + 1) 0 := by
  unfold idsR
  rw [if_neg (by omega), if_pos rfl, List.append_nil]
  generalize hN : 2 * n + 1 = N
  rw [List.range_succ, List.map_append]
  rfl

theorem idsR_len (N r a : Nat) : (idsR N r a).length = r + if a = 0 then 0 else 1 := by
  unfold idsR
  rw [List.length_append, List.length_map, List.length_range]
  split <;> rfl

theorem idsR_get (N r a : Nat) (hr : 0 < r) : (idsR N r a).getD (r - 1) [] = upR N r := by
  unfold idsR
  rw [List.getD_eq_getElem?_getD, List.getElem?_append_left (by rw [List.length_map, List.length_range]; omega), List.getElem?_map, List.getElem?_range (by omega)]
  show upR N (r - 1 + 1) = _
  rw [show r - 1 + 1 = r by omega]

theorem inI_R (hn1 : 1 ≤ n) (hn2 : n ≤ 2) (hr : r < 6) : inI (2 * n + 1) (idsR (2 * n + 1) r a) (r + 1) (idB (hdrR (2 * n + 1) r a)) = idsR (2 * n + 1) r (a + 1) := by
  have hl := idsR_len (2 * n + 1) r a
  by_cases ha : a = 0
  · subst ha
    have hP : inP (2 * n + 1) (idsR (2 * n + 1) r 0) (r + 1) = idsR (2 * n + 1) r 0 ++ [[]] := by
      unfold inP
      rw [if_pos]
      refine ⟨by rw [hl]; rfl, ?_⟩
      by_cases h0 : r = 0
      · exact Or.inl (by omega)
      · refine Or.inr ?_
        rw [show r + 1 - 2 = r - 1 by omega, idsR_get _ _ _ (by omega), upR_len hn1 hn2 (by omega), if_neg h0]
        exact Nat.le_refl _
    unfold inI
    rw [hP]
    have e : idsR (2 * n + 1) r 0 = (List.range r).map (fun q => upR (2 * n + 1) (q + 1)) := by unfold idsR; simp
    have el : ((List.range r).map (fun q => upR (2 * n + 1) (q + 1))).length = r := by rw [List.length_map, List.length_range]
    rw [e, if_neg (by rw [List.length_append, el]; simp), Nat.add_sub_cancel]
    have hg : ((List.range r).map (fun q => upR (2 * n + 1) (q + 1)) ++ [[]]).getD r [] = [] := by
      rw [List.getD_eq_getElem?_getD, List.getElem?_append_right (by rw [el]; exact Nat.le_refl _), el, Nat.sub_self]
      rfl
    rw [hg, List.set_append_right _ _ (by rw [el]; exact Nat.le_refl _), el, Nat.sub_self]
    rfl
  · have hP : inP (2 * n + 1) (idsR (2 * n + 1) r a) (r + 1) = idsR (2 * n + 1) r a := by
      unfold inP
      rw [if_neg]
      rintro ⟨h, _⟩
      rw [hl, if_neg ha] at h
      omega
    unfold inI
    rw [hP, if_neg (by rw [hl, if_neg ha]; omega), Nat.add_sub_cancel]
    unfold idsR
    rw [if_neg ha, if_neg (by omega)]
    have el : ((List.range r).map (fun q => upR (2 * n + 1) (q + 1))).length = r := by rw [List.length_map, List.length_range]
    have hg : ((List.range r).map (fun q => upR (2 * n + 1) (q + 1)) ++ [upA (2 * n + 1) r a]).getD r [] = upA (2 * n + 1) r a := by
      rw [List.getD_eq_getElem?_getD, List.getElem?_append_right (by rw [el]; exact Nat.le_refl _), el, Nat.sub_self]
      rfl
    rw [hg, List.set_append_right _ _ (by rw [el]; exact Nat.le_refl _), el, Nat.sub_self, upA_succ]
    rfl

theorem idsR_small (hn1 : 1 ≤ n) (hn2 : n ≤ 2) (hr : r ≤ 6) (hra : a = 0 ∨ r < 6) (ha : a ≤ 2 * n + 1) : ∀ l ∈ idsR (2 * n + 1) r a, l.length ≤ 5 := by
  intro l hl
  unfold idsR at hl
  rcases List.mem_append.1 hl with h | h
  · obtain ⟨q, hq, rfl⟩ := List.mem_map.1 h
    have := List.mem_range.1 hq
    rw [upR_len hn1 hn2 (by omega), if_neg (by omega)]
    omega
  · split at h
    · cases h
    · rw [List.mem_singleton.1 h, (upA_is hn1 hn2 (by omega) a ha).len]
      omega
end
end Go.Proofs.YtmjkbdgcnoenbaaGreatDoor

/- DagOld's row of certificates and its first one, beside the dag and the maker. -/
namespace Go.Proofs.YtmjkbdgcnoenbaaGreatDoor
open Go Go.RowKit
set_option linter.unusedVariables false

theorem hdrO_R (ks : List ByteArray) {n r i : Nat} (hn1 : 1 ≤ n) (hn2 : n ≤ 2) (hr : r < 6) (hi : i < 3 * n + 1) : hdrO ks n (idsR (2 * n + 1) r 0) (opA (i : Int) 0) = hdrR (2 * n + 1) r i := by
  unfold hdrO opA
  simp only [if_true]
  unfold hdrA hdrP
  have e : pickN 0 3 = 0 := by decide
  have e4 : pickN 0 4 = 0 := by decide
  have hl : (idsR (2 * n + 1) r 0).length = r := by rw [idsR_len]; rfl
  rw [if_neg (by rw [e]; decide), pickN_small hi (by omega), e4, hl, Nat.sub_zero]
  unfold hdrP0 hdrR
  congr 1
  unfold parP
  by_cases h0 : r = 0
  · rw [if_pos h0, h0]; rfl
  · rw [if_neg h0, if_neg (fun h => h.2 rfl), idsR_get _ _ _ (by omega)]

theorem certO_R (ks : List ByteArray) {n r i : Nat} (hn1 : 1 ≤ n) (hn2 : n ≤ 2) (hr : r < 6) (hi : i < 3 * n + 1) : certO ks n (idsR (2 * n + 1) r 0) (opA (i : Int) 0) = certR ks n r i := by
  unfold certO certR
  rw [hdrO_R ks hn1 hn2 hr hi]
  rfl

/-- A certificate that can be written. -/
def CertM.Good (c : CertM) : Prop := c.hdr.Fit ∧ (encH c.hdr.d).length ≤ 1073741824 ∧ c.hdr.Lens ∧ c.votes.length ≤ 7

/-- The row of a round's certificates. -/
structure LO (V : World) (B : Nat) (SD SP : Nat → Prop) (v : Value) (L : List CertM) (cs : List CertD) (w : World) : Prop where
  row : KQ certK 48 w B v L
  dat : L.map CertM.d = cs
  fit : ∀ c ∈ L, c.Good
  foot : ∀ c ∈ L, ∀ b, c.foot b → b < V.heap.size ∨ B ≤ b
  offq : ∀ k, v.ownBlock = some k → ¬ SD k ∧ ¬ SP k
  off : ∀ c ∈ L, ∀ b, c.foot b → ¬ SD b ∧ ¬ SP b

section
variable {V w w' w0 : World} {B n : Nat} {SD SP SD' SP' S : Nat → Prop} {v : Value} {L : List CertM} {cs : List CertD}

theorem LO.below (h : LO V B SD SP v L cs w) (hb : Below w.heap.size w w') : LO V B SD SP v L cs w' := ⟨h.row.below hb, h.dat, h.fit, h.foot, h.offq, h.off⟩

theorem LO.move (h0 : LO V B SD SP v L cs w0) (h : LO V B SD SP v L cs w) (hk : Kept S w w') (hS : ∀ k, S k → SD k ∨ SP k) (hD : ∀ k, SD' k → SD k ∨ w0.heap.size ≤ k) (hP : ∀ k, SP' k → SP k ∨ w0.heap.size ≤ k) : LO V B SD' SP' v L cs w' := by
  refine ⟨h.row.kept hk (fun k hk' e => (hS k e).elim (h.offq k hk').1 (h.offq k hk').2) (fun x hx b hf e => (hS b e).elim (h.off x hx b hf).1 (h.off x hx b hf).2), h.dat, h.fit, h.foot, fun k hk' => ⟨fun e => ?_, fun e => ?_⟩, fun c hc b hf => ⟨fun e => ?_, fun e => ?_⟩⟩
  · rcases hD k e with e | e
    · exact (h.offq k hk').1 e
    · have := (h0.row.lt k hk').2; omega
  · rcases hP k e with e | e
    · exact (h.offq k hk').2 e
    · have := (h0.row.lt k hk').2; omega
  · rcases hD b e with e | e
    · exact (h.off c hc b hf).1 e
    · have := Kind.lt certK (h0.row.at_ c hc) hf; omega
  · rcases hP b e with e | e
    · exact (h.off c hc b hf).2 e
    · have := Kind.lt certK (h0.row.at_ c hc) hf; omega

/-- Something else is turned, neither of this row's nor of what it reaches. -/
theorem LO.kept (h : LO V B SD SP v L cs w) {g : Nat} (hk : Kept (fun k => k = g) w w') (hg : V.heap.size ≤ g) (hgB : g < B) : LO V B SD SP v L cs w' :=
  ⟨h.row.kept hk (fun k hk' e => by have := (h.row.lt k hk').1; have e' : k = g := e; omega) (fun x hx b hf e => by have e' : b = g := e; have := h.foot x hx b hf; omega), h.dat, h.fit, h.foot, h.offq, h.off⟩

theorem LO.len (h : LO V B SD SP v L cs w) : L.length = cs.length := by rw [← h.dat, List.length_map]

theorem LO.get (h : LO V B SD SP v L cs w) {i : Nat} {x : CertD} (hx : cs[i]? = some x) : ∃ c, L[i]? = some c ∧ c.d = x := by
  rw [← h.dat, List.getElem?_map] at hx
  cases hL : L[i]? with
  | none => rw [hL] at hx; cases hx
  | some c => rw [hL] at hx; simp at hx; exact ⟨c, rfl, hx⟩

/-- The first one, in its box. -/
structure FP (V : World) (SD SP : Nat → Prop) (fb : Nat) (c : CertM) (w : World) : Prop where
  box : Arr w fb 48 c.c
  at_ : c.At w
  offb : V.heap.size ≤ fb ∧ ¬ SD fb ∧ ¬ SP fb
  off : ∀ b, c.foot b → ¬ SD b ∧ ¬ SP b

variable {fb : Nat} {c : CertM}

theorem FP.below (h : FP V SD SP fb c w) (hb : Below w.heap.size w w') : FP V SD SP fb c w' := ⟨h.box.below hb h.box.lt, h.at_.below hb, h.offb, h.off⟩

theorem FP.move (h0 : FP V SD SP fb c w0) (h : FP V SD SP fb c w) (hk : Kept S w w') (hS : ∀ k, S k → SD k ∨ SP k) (hD : ∀ k, SD' k → SD k ∨ w0.heap.size ≤ k) (hP : ∀ k, SP' k → SP k ∨ w0.heap.size ≤ k) : FP V SD' SP' fb c w' := by
  refine ⟨h.box.kept hk (fun e => (hS fb e).elim h.offb.2.1 h.offb.2.2), Kind.kept certK h.at_ hk (fun b hf e => (hS b e).elim (h.off b hf).1 (h.off b hf).2), ⟨h.offb.1, fun e => ?_, fun e => ?_⟩, fun b hf => ⟨fun e => ?_, fun e => ?_⟩⟩
  · rcases hD fb e with e | e
    · exact h.offb.2.1 e
    · have := h0.box.lt; omega
  · rcases hP fb e with e | e
    · exact h.offb.2.2 e
    · have := h0.box.lt; omega
  · rcases hD b e with e | e
    · exact (h.off b hf).1 e
    · have := Kind.lt certK h0.at_ hf; omega
  · rcases hP b e with e | e
    · exact (h.off b hf).2 e
    · have := Kind.lt certK h0.at_ hf; omega
end
end Go.Proofs.YtmjkbdgcnoenbaaGreatDoor
