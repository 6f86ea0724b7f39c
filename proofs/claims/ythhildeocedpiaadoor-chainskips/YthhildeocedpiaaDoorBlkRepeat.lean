/- What block.Genesis and the reference's do; strings.Repeat by the library's own contract, laid over this program; nothing old in memory is turned. -/
import Derived.Test.YthhildeocedpiaaDoorBlkMath
import Derived.Test.YthhildeocedpiaaDoorTxArr
import Derived.Shelf.Strings.Repeat
import Derived.Ground.NamesProg
import Derived.Lib.Agree
namespace Go.Proofs.YthhildeocedpiaaDoor
open Go.Shelf Go.RowKit
set_option linter.unusedVariables false

def laysRepeat_ren : Go.Shelf.Ren := ⟨fun | 105 => 75 | 212 => 94 | 99 => 95 | 165 => 96 | 166 => 46 | 170 => 97 | 169 => 51 | 263 => 107 | 264 => 108 | 206 => 109 | 240 => 74 | 241 => 110 | 276 => 93 | 277 => 117 | n => n, fun | 9 => 9 | 3 => 3 | 4 => 4 | 20 => 20 | 0 => 0 | 46 => 126 | 109 => 151 | 5 => 5 | 72 => 87 | 76 => 90 | 51 => 155 | 146 => 164 | 53 => 57 | 148 => 166 | 70 => 85 | 37 => 72 | 75 => 89 | 127 => 127 | 164 => 149 | 80 => 60 | n => n, fun | n => n⟩

theorem laysRepeat : Go.Proofs.Lays.n105 Tryd.prog laysRepeat_ren := {
  mixed := by kernel_rfl
  f99 := Tryd.func95.trans (congrArg some (by kernel_rfl))
  f105 := Tryd.func75.trans (congrArg some (by kernel_rfl))
  f165 := Tryd.func96.trans (congrArg some (by kernel_rfl))
  f166 := Tryd.func46.trans (congrArg some (by kernel_rfl))
  f169 := Tryd.func51.trans (congrArg some (by kernel_rfl))
  f170 := Tryd.func97.trans (congrArg some (by kernel_rfl))
  f206 := Tryd.func109.trans (congrArg some (by kernel_rfl))
  f212 := Tryd.func94.trans (congrArg some (by kernel_rfl))
  f240 := Tryd.func74.trans (congrArg some (by kernel_rfl))
  f241 := Tryd.func110.trans (congrArg some (by kernel_rfl))
  f263 := Tryd.func107.trans (congrArg some (by kernel_rfl))
  f264 := Tryd.func108.trans (congrArg some (by kernel_rfl))
  f276 := Tryd.func93.trans (congrArg some (by kernel_rfl))
  f277 := Tryd.func117.trans (congrArg some (by kernel_rfl))
  t0 := Tryd.underlying0
  a0 := Tryd.isAgg0
  z0 := Tryd.sizeOf0
  v0 := Tryd.zeroValue0
  t3 := Tryd.underlying3
  a3 := Tryd.isAgg3
  z3 := Tryd.sizeOf3
  v3 := Tryd.zeroValue3
  t4 := Tryd.underlying4
  a4 := Tryd.isAgg4
  z4 := Tryd.sizeOf4
  v4 := Tryd.zeroValue4
  t5 := Tryd.underlying5
  a5 := Tryd.isAgg5
  z5 := Tryd.sizeOf5
  v5 := Tryd.zeroValue5
  t9 := Tryd.underlying9
  a9 := Tryd.isAgg9
  z9 := Tryd.sizeOf9
  v9 := Tryd.zeroValue9
  t20 := Tryd.underlying20
  a20 := Tryd.isAgg20
  z20 := Tryd.sizeOf20
  v20 := Tryd.zeroValue20
  t37 := Tryd.underlying72
  a37 := Tryd.isAgg72
  z37 := Tryd.sizeOf72
  v37 := Tryd.zeroValue72
  t46 := Tryd.underlying126
  a46 := Tryd.isAgg126
  z46 := Tryd.sizeOf126
  v46 := Tryd.zeroValue126
  t51 := Tryd.underlying155
  a51 := Tryd.isAgg155
  z51 := Tryd.sizeOf155
  v51 := Tryd.zeroValue155
  t53 := Tryd.underlying57
  a53 := Tryd.isAgg57
  z53 := Tryd.sizeOf57
  v53 := Tryd.zeroValue57
  t70 := Tryd.underlying85
  a70 := Tryd.isAgg85
  z70 := Tryd.sizeOf85
  v70 := Tryd.zeroValue85
  t72 := Tryd.underlying87
  a72 := Tryd.isAgg87
  z72 := Tryd.sizeOf87
  v72 := Tryd.zeroValue87
  t75 := Tryd.underlying89
  a75 := Tryd.isAgg89
  z75 := Tryd.sizeOf89
  v75 := Tryd.zeroValue89
  t76 := Tryd.underlying90
  a76 := Tryd.isAgg90
  z76 := Tryd.sizeOf90
  v76 := Tryd.zeroValue90
  t109 := Tryd.underlying151
  a109 := Tryd.isAgg151
  z109 := Tryd.sizeOf151
  v109 := Tryd.zeroValue151
  t127 := Tryd.underlying127
  a127 := Tryd.isAgg127
  z127 := Tryd.sizeOf127
  v127 := Tryd.zeroValue127
  t146 := Tryd.underlying164
  a146 := Tryd.isAgg164
  z146 := Tryd.sizeOf164
  v146 := Tryd.zeroValue164
  t148 := Tryd.underlying166
  a148 := Tryd.isAgg166
  z148 := Tryd.sizeOf166
  v148 := Tryd.zeroValue166
  t164 := Tryd.underlying149
  a164 := Tryd.isAgg149
  z164 := Tryd.sizeOf149
  v164 := Tryd.zeroValue149 }

theorem laysRepeat_extra : Builder.Extra Tryd.prog laysRepeat_ren where
  sizeBuilder := by kernel_rfl
  liesBuilder := by kernel_rfl
  t5 := laysRepeat.t5
  a5 := laysRepeat.a5
  z5 := laysRepeat.z5
  v5 := laysRepeat.v5
  infoByte := by kernel_rfl
  cellsByte := by kernel_rfl
  sizeByte := by kernel_rfl
  neB5 := by decide

theorem repeat_zeros (w : World) :
    Calls Tryd.prog 75 #[.string ⟨#[0]⟩, .int .i64 32] w fun e w' => e = .returned (.string gen32) ∧ Below w.heap.size w w' := by
  have h := Any.strings_Repeat laysRepeat laysRepeat_extra ⟨#[0]⟩ 32 w (by decide) (by decide)
  exact h

set_option maxRecDepth 100000 in
theorem genesis_any (w : World) :
    Calls Tryd.prog 53 #[] w fun e w' => e = .returned (.string gen32) ∧ Below w.heap.size w w' := by
  have c := repeat_zeros w
  generalize gen32 = g at *
  go_enter Tryd.func53, Tryd.ntmps53
  go_wp2_with fail
  refine c.mono ?_
  rintro e w1 ⟨rfl, hb⟩
  go_wp2
  go_ret
  exact ⟨rfl, hb⟩

/-- Thirty-two zero bytes in memory. -/
def zeroC8 : List Value := List.replicate 32 (.int .u8 0)

theorem zeroC8_get (j : Nat) (hj : j < gen32.data.toList.length) : zeroC8[j]? = some (.int .u8 (gen32.data.toList[j].toNat : Int)) := by
  have hj' : j < 32 := hj
  have e1 : zeroC8[j]? = some (.int .u8 0) := by unfold zeroC8; rw [List.getElem?_replicate, if_pos hj']
  have e2 : gen32.data.toList[j]? = some 0 := by
    show (List.replicate 32 (0 : UInt8))[j]? = _
    rw [List.getElem?_replicate, if_pos hj']
  rw [List.getElem?_eq_getElem hj, Option.some.injEq] at e2
  rw [e1, e2]
  rfl

set_option maxRecDepth 100000 in
theorem refGenesis_any (w : World) :
    Calls Tryd.prog 28 #[] w fun e w' => e = .returned (.string gen32) ∧ Below w.heap.size w w' := by
  have hms : ∀ w : World, (Instr.makeSlice 72 (.int .i64 32) (.int .i64 32)).run Tryd.prog w = .ok (.slice (some ⟨w.heap.size, 0, none⟩) 32 32) (w.alloc (.cells zeroC8.toArray 5)) := fun _ => by kernel_rfl
  have hbm := belowNew w (.cells zeroC8.toArray 5)
  have hM := Arr.new w 5 zeroC8
  have hcv : (convert 72 9 (.slice (some ⟨w.heap.size, 0, none⟩) 32 32)).run Tryd.prog (w.alloc (.cells zeroC8.toArray 5)) = .ok (.string gen32) (w.alloc (.cells zeroC8.toArray 5)) := by
    refine run_convert_bytes_back (P := Tryd.prog) _ 72 9 5 ⟨w.heap.size, 0, none⟩ 32 gen32.data.toList Tryd.underlying72 Tryd.underlying5 Tryd.underlying9 (fun j hj => ?_)
    rw [Go.WideShapes.add_plain, Nat.zero_add]
    exact hM.cell (zeroC8_get j hj)
  generalize gen32 = g at *
  clear hM
  go_enter Tryd.func28, Tryd.ntmps28
  go_wp2
  go_ret
  exact ⟨rfl, hbm⟩
end Go.Proofs.YthhildeocedpiaaDoor
