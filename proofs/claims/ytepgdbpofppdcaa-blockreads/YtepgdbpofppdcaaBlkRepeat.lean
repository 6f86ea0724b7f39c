/- What block.Genesis, block.Word and the reference's do; strings.Repeat by the library's own contract, laid over this program; nothing old in memory is turned. -/
import Derived.Test.YtepgdbpofppdcaaBlkMath
import Derived.Test.YtepgdbpofppdcaaTxArr
import Derived.Shelf.Strings.Repeat
import Derived.Ground.NamesProg
import Derived.Lib.Agree
namespace Go.Proofs.Ytepgdbpofppdcaa
open Go.Shelf Go.RowKit
set_option linter.unusedVariables false

def laysRepeat_ren : Go.Shelf.Ren := ⟨fun | 105 => 50 | 212 => 58 | 99 => 59 | 165 => 60 | 166 => 54 | 170 => 61 | 169 => 56 | 263 => 65 | 264 => 66 | 206 => 67 | 240 => 64 | 241 => 68 | 276 => 69 | 277 => 70 | n => n, fun | 9 => 9 | 3 => 3 | 4 => 4 | 20 => 20 | 0 => 0 | 46 => 85 | 109 => 97 | 5 => 5 | 72 => 91 | 76 => 94 | 51 => 105 | 146 => 106 | 53 => 86 | 148 => 108 | 70 => 89 | 37 => 83 | 75 => 93 | 127 => 104 | 164 => 110 | 80 => 47 | n => n, fun | n => n⟩

theorem laysRepeat : Go.Proofs.Lays.n105 Try.prog laysRepeat_ren := {
  mixed := by kernel_rfl
  f99 := Try.func59.trans (congrArg some (by kernel_rfl))
  f105 := Try.func50.trans (congrArg some (by kernel_rfl))
  f165 := Try.func60.trans (congrArg some (by kernel_rfl))
  f166 := Try.func54.trans (congrArg some (by kernel_rfl))
  f169 := Try.func56.trans (congrArg some (by kernel_rfl))
  f170 := Try.func61.trans (congrArg some (by kernel_rfl))
  f206 := Try.func67.trans (congrArg some (by kernel_rfl))
  f212 := Try.func58.trans (congrArg some (by kernel_rfl))
  f240 := Try.func64.trans (congrArg some (by kernel_rfl))
  f241 := Try.func68.trans (congrArg some (by kernel_rfl))
  f263 := Try.func65.trans (congrArg some (by kernel_rfl))
  f264 := Try.func66.trans (congrArg some (by kernel_rfl))
  f276 := Try.func69.trans (congrArg some (by kernel_rfl))
  f277 := Try.func70.trans (congrArg some (by kernel_rfl))
  t0 := Try.underlying0
  a0 := Try.isAgg0
  z0 := Try.sizeOf0
  v0 := Try.zeroValue0
  t3 := Try.underlying3
  a3 := Try.isAgg3
  z3 := Try.sizeOf3
  v3 := Try.zeroValue3
  t4 := Try.underlying4
  a4 := Try.isAgg4
  z4 := Try.sizeOf4
  v4 := Try.zeroValue4
  t5 := Try.underlying5
  a5 := Try.isAgg5
  z5 := Try.sizeOf5
  v5 := Try.zeroValue5
  t9 := Try.underlying9
  a9 := Try.isAgg9
  z9 := Try.sizeOf9
  v9 := Try.zeroValue9
  t20 := Try.underlying20
  a20 := Try.isAgg20
  z20 := Try.sizeOf20
  v20 := Try.zeroValue20
  t37 := Try.underlying83
  a37 := Try.isAgg83
  z37 := Try.sizeOf83
  v37 := Try.zeroValue83
  t46 := Try.underlying85
  a46 := Try.isAgg85
  z46 := Try.sizeOf85
  v46 := Try.zeroValue85
  t51 := Try.underlying105
  a51 := Try.isAgg105
  z51 := Try.sizeOf105
  v51 := Try.zeroValue105
  t53 := Try.underlying86
  a53 := Try.isAgg86
  z53 := Try.sizeOf86
  v53 := Try.zeroValue86
  t70 := Try.underlying89
  a70 := Try.isAgg89
  z70 := Try.sizeOf89
  v70 := Try.zeroValue89
  t72 := Try.underlying91
  a72 := Try.isAgg91
  z72 := Try.sizeOf91
  v72 := Try.zeroValue91
  t75 := Try.underlying93
  a75 := Try.isAgg93
  z75 := Try.sizeOf93
  v75 := Try.zeroValue93
  t76 := Try.underlying94
  a76 := Try.isAgg94
  z76 := Try.sizeOf94
  v76 := Try.zeroValue94
  t109 := Try.underlying97
  a109 := Try.isAgg97
  z109 := Try.sizeOf97
  v109 := Try.zeroValue97
  t127 := Try.underlying104
  a127 := Try.isAgg104
  z127 := Try.sizeOf104
  v127 := Try.zeroValue104
  t146 := Try.underlying106
  a146 := Try.isAgg106
  z146 := Try.sizeOf106
  v146 := Try.zeroValue106
  t148 := Try.underlying108
  a148 := Try.isAgg108
  z148 := Try.sizeOf108
  v148 := Try.zeroValue108
  t164 := Try.underlying110
  a164 := Try.isAgg110
  z164 := Try.sizeOf110
  v164 := Try.zeroValue110 }

theorem laysRepeat_extra : Builder.Extra Try.prog laysRepeat_ren where
  sizeBuilder := by kernel_rfl
  liesBuilder := by kernel_rfl
  t5 := laysRepeat.t5
  a5 := laysRepeat.a5
  z5 := laysRepeat.z5
  v5 := laysRepeat.v5
  infoByte := by kernel_rfl
  cellsByte := by kernel_rfl
  sizeByte := by kernel_rfl
  neB5 := by decide

theorem repeat_zeros (w : World) :
    Calls Try.prog 50 #[.string ⟨#[0]⟩, .int .i64 32] w fun e w' => e = .returned (.string gen32) ∧ Below w.heap.size w w' := by
  have h := Any.strings_Repeat laysRepeat laysRepeat_extra ⟨#[0]⟩ 32 w (by decide) (by decide)
  exact h

set_option maxRecDepth 100000 in
theorem genesis_any (w : World) :
    Calls Try.prog 22 #[] w fun e w' => e = .returned (.string gen32) ∧ Below w.heap.size w w' := by
  have c := repeat_zeros w
  generalize gen32 = g at *
  go_enter Try.func22, Try.ntmps22
  go_wp2_with fail
  refine c.mono ?_
  rintro e w1 ⟨rfl, hb⟩
  go_wp2
  go_ret
  exact ⟨rfl, hb⟩

/-- Thirty-two zero bytes in memory. -/
def zeroC8 : List Value := List.replicate 32 (.int .u8 0)

theorem zeroC8_get (j : Nat) (hj : j < gen32.data.toList.length) : zeroC8[j]? = some (.int .u8 (gen32.data.toList[j].toNat : Int)) := by
  have hj' : j < 32 := hj
  have e1 : zeroC8[j]? = some (.int .u8 0) := by unfold zeroC8; rw [List.getElem?_replicate, if_pos hj']
  have e2 : gen32.data.toList[j]? = some 0 := by
    show (List.replicate 32 (0 : UInt8))[j]? = _
    rw [List.getElem?_replicate, if_pos hj']
  rw [List.getElem?_eq_getElem hj, Option.some.injEq] at e2
  rw [e1, e2]
  rfl

set_option maxRecDepth 100000 in
theorem refGenesis_any (w : World) :
    Calls Try.prog 23 #[] w fun e w' => e = .returned (.string gen32) ∧ Below w.heap.size w w' := by
  have hms : ∀ w : World, (Instr.makeSlice 83 (.int .i64 32) (.int .i64 32)).run Try.prog w = .ok (.slice (some ⟨w.heap.size, 0, none⟩) 32 32) (w.alloc (.cells zeroC8.toArray 5)) := fun _ => by kernel_rfl
  have hbm := belowNew w (.cells zeroC8.toArray 5)
  have hM := Arr.new w 5 zeroC8
  have hcv : (convert 83 9 (.slice (some ⟨w.heap.size, 0, none⟩) 32 32)).run Try.prog (w.alloc (.cells zeroC8.toArray 5)) = .ok (.string gen32) (w.alloc (.cells zeroC8.toArray 5)) := by
    refine run_convert_bytes_back (P := Try.prog) _ 83 9 5 ⟨w.heap.size, 0, none⟩ 32 gen32.data.toList Try.underlying83 Try.underlying5 Try.underlying9 (fun j hj => ?_)
    rw [Go.WideShapes.add_plain, Nat.zero_add]
    exact hM.cell (zeroC8_get j hj)
  generalize gen32 = g at *
  clear hM
  go_enter Try.func23, Try.ntmps23
  go_wp2
  go_ret
  exact ⟨rfl, hbm⟩

theorem word_join (v : Int) (id : ByteArray) : (⟨(goInt v).toArray⟩ : ByteArray) ++ id = wordB v id := append_list _ _

set_option maxRecDepth 100000 in
theorem word_any (v : Int) (id : ByteArray) (w : World) (hid : id.size ≤ 140737488351232) :
    Calls Try.prog 20 #[.int .i64 v, .string id] w fun e w' => e = .returned (.string (wordB v id)) ∧ Below w.heap.size w w' := by
  have c := int_any v w
  have hg := goInt_length v
  have hjo : Hid _ := word_join v id
  have hz : (⟨(goInt v).toArray⟩ : ByteArray).size ≤ 9 := by rw [size_mk]; exact hg
  generalize (⟨(goInt v).toArray⟩ : ByteArray) = q at *
  generalize wordB v id = out at *
  clear hg
  go_enter Try.func20, Try.ntmps20
  go_wp2_with fail
  refine c.mono ?_
  rintro e w1 ⟨rfl, hb⟩
  clear c
  go_wp2
  go_ret
  exact ⟨by rw [← hjo.out]; rfl, hb⟩

end Go.Proofs.Ytepgdbpofppdcaa
