/- What block.Genesis, block.Word and the reference's do; strings.Repeat by the library's own contract, laid over this program; nothing old in memory is turned. -/
import Derived.Test.YtoodapbmpbaogaaDoorBlkMath
import Derived.Test.YtoodapbmpbaogaaDoorTxArr
import Derived.Shelf.Strings.Repeat
import Derived.Ground.NamesProg
import Derived.Lib.Agree
namespace Go.Proofs.YtoodapbmpbaogaaDoor
open Go.Shelf Go.RowKit
set_option linter.unusedVariables false

def laysRepeat_ren : Go.Shelf.Ren := ⟨fun | 105 => 70 | 212 => 87 | 99 => 88 | 165 => 89 | 166 => 77 | 170 => 90 | 169 => 78 | 263 => 104 | 264 => 105 | 206 => 106 | 240 => 92 | 241 => 107 | 276 => 108 | 277 => 113 | n => n, fun | 9 => 9 | 3 => 3 | 4 => 4 | 20 => 20 | 0 => 0 | 46 => 104 | 109 => 121 | 5 => 5 | 72 => 111 | 76 => 114 | 51 => 127 | 146 => 146 | 53 => 58 | 148 => 148 | 70 => 109 | 37 => 62 | 75 => 113 | 127 => 126 | 164 => 150 | 80 => 61 | n => n, fun | n => n⟩

theorem laysRepeat : Go.Proofs.Lays.n105 Tryd.prog laysRepeat_ren := {
  mixed := by kernel_rfl
  f99 := Tryd.func88.trans (congrArg some (by kernel_rfl))
  f105 := Tryd.func70.trans (congrArg some (by kernel_rfl))
  f165 := Tryd.func89.trans (congrArg some (by kernel_rfl))
  f166 := Tryd.func77.trans (congrArg some (by kernel_rfl))
  f169 := Tryd.func78.trans (congrArg some (by kernel_rfl))
  f170 := Tryd.func90.trans (congrArg some (by kernel_rfl))
  f206 := Tryd.func106.trans (congrArg some (by kernel_rfl))
  f212 := Tryd.func87.trans (congrArg some (by kernel_rfl))
  f240 := Tryd.func92.trans (congrArg some (by kernel_rfl))
  f241 := Tryd.func107.trans (congrArg some (by kernel_rfl))
  f263 := Tryd.func104.trans (congrArg some (by kernel_rfl))
  f264 := Tryd.func105.trans (congrArg some (by kernel_rfl))
  f276 := Tryd.func108.trans (congrArg some (by kernel_rfl))
  f277 := Tryd.func113.trans (congrArg some (by kernel_rfl))
  t0 := Tryd.underlying0
  a0 := Tryd.isAgg0
  z0 := Tryd.sizeOf0
  v0 := Tryd.zeroValue0
  t3 := Tryd.underlying3
  a3 := Tryd.isAgg3
  z3 := Tryd.sizeOf3
  v3 := Tryd.zeroValue3
  t4 := Tryd.underlying4
  a4 := Tryd.isAgg4
  z4 := Tryd.sizeOf4
  v4 := Tryd.zeroValue4
  t5 := Tryd.underlying5
  a5 := Tryd.isAgg5
  z5 := Tryd.sizeOf5
  v5 := Tryd.zeroValue5
  t9 := Tryd.underlying9
  a9 := Tryd.isAgg9
  z9 := Tryd.sizeOf9
  v9 := Tryd.zeroValue9
  t20 := Tryd.underlying20
  a20 := Tryd.isAgg20
  z20 := Tryd.sizeOf20
  v20 := Tryd.zeroValue20
  t37 := Tryd.underlying62
  a37 := Tryd.isAgg62
  z37 := Tryd.sizeOf62
  v37 := Tryd.zeroValue62
  t46 := Tryd.underlying104
  a46 := Tryd.isAgg104
  z46 := Tryd.sizeOf104
  v46 := Tryd.zeroValue104
  t51 := Tryd.underlying127
  a51 := Tryd.isAgg127
  z51 := Tryd.sizeOf127
  v51 := Tryd.zeroValue127
  t53 := Tryd.underlying58
  a53 := Tryd.isAgg58
  z53 := Tryd.sizeOf58
  v53 := Tryd.zeroValue58
  t70 := Tryd.underlying109
  a70 := Tryd.isAgg109
  z70 := Tryd.sizeOf109
  v70 := Tryd.zeroValue109
  t72 := Tryd.underlying111
  a72 := Tryd.isAgg111
  z72 := Tryd.sizeOf111
  v72 := Tryd.zeroValue111
  t75 := Tryd.underlying113
  a75 := Tryd.isAgg113
  z75 := Tryd.sizeOf113
  v75 := Tryd.zeroValue113
  t76 := Tryd.underlying114
  a76 := Tryd.isAgg114
  z76 := Tryd.sizeOf114
  v76 := Tryd.zeroValue114
  t109 := Tryd.underlying121
  a109 := Tryd.isAgg121
  z109 := Tryd.sizeOf121
  v109 := Tryd.zeroValue121
  t127 := Tryd.underlying126
  a127 := Tryd.isAgg126
  z127 := Tryd.sizeOf126
  v127 := Tryd.zeroValue126
  t146 := Tryd.underlying146
  a146 := Tryd.isAgg146
  z146 := Tryd.sizeOf146
  v146 := Tryd.zeroValue146
  t148 := Tryd.underlying148
  a148 := Tryd.isAgg148
  z148 := Tryd.sizeOf148
  v148 := Tryd.zeroValue148
  t164 := Tryd.underlying150
  a164 := Tryd.isAgg150
  z164 := Tryd.sizeOf150
  v164 := Tryd.zeroValue150 }

theorem laysRepeat_extra : Builder.Extra Tryd.prog laysRepeat_ren where
  sizeBuilder := by kernel_rfl
  liesBuilder := by kernel_rfl
  t5 := laysRepeat.t5
  a5 := laysRepeat.a5
  z5 := laysRepeat.z5
  v5 := laysRepeat.v5
  infoByte := by kernel_rfl
  cellsByte := by kernel_rfl
  sizeByte := by kernel_rfl
  neB5 := by decide

theorem repeat_zeros (w : World) :
    Calls Tryd.prog 70 #[.string ⟨#[0]⟩, .int .i64 32] w fun e w' => e = .returned (.string gen32) ∧ Below w.heap.size w w' := by
  have h := Any.strings_Repeat laysRepeat laysRepeat_extra ⟨#[0]⟩ 32 w (by decide) (by decide)
  exact h

set_option maxRecDepth 100000 in
theorem genesis_any (w : World) :
    Calls Tryd.prog 31 #[] w fun e w' => e = .returned (.string gen32) ∧ Below w.heap.size w w' := by
  have c := repeat_zeros w
  generalize gen32 = g at *
  go_enter Tryd.func31, Tryd.ntmps31
  go_wp2_with fail
  refine c.mono ?_
  rintro e w1 ⟨rfl, hb⟩
  go_wp2
  go_ret
  exact ⟨rfl, hb⟩

/-- Thirty-two zero bytes in memory. -/
def zeroC8 : List Value := List.replicate 32 (.int .u8 0)

theorem zeroC8_get (j : Nat) (hj : j < gen32.data.toList.length) : zeroC8[j]? = some (.int .u8 (gen32.data.toList[j].toNat : Int)) := by
  have hj' : j < 32 := hj
  have e1 : zeroC8[j]? = some (.int .u8 0) := by unfold zeroC8; rw [List.getElem?_replicate, if_pos hj']
  have e2 : gen32.data.toList[j]? = some 0 := by
    show (List.replicate 32 (0 : UInt8))[j]? = _
    rw [List.getElem?_replicate, if_pos hj']
  rw [List.getElem?_eq_getElem hj, Option.some.injEq] at e2
  rw [e1, e2]
  rfl

set_option maxRecDepth 100000 in
theorem refGenesis_any (w : World) :
    Calls Tryd.prog 49 #[] w fun e w' => e = .returned (.string gen32) ∧ Below w.heap.size w w' := by
  have hms : ∀ w : World, (Instr.makeSlice 62 (.int .i64 32) (.int .i64 32)).run Tryd.prog w = .ok (.slice (some ⟨w.heap.size, 0, none⟩) 32 32) (w.alloc (.cells zeroC8.toArray 5)) := fun _ => by kernel_rfl
  have hbm := belowNew w (.cells zeroC8.toArray 5)
  have hM := Arr.new w 5 zeroC8
  have hcv : (convert 62 9 (.slice (some ⟨w.heap.size, 0, none⟩) 32 32)).run Tryd.prog (w.alloc (.cells zeroC8.toArray 5)) = .ok (.string gen32) (w.alloc (.cells zeroC8.toArray 5)) := by
    refine run_convert_bytes_back (P := Tryd.prog) _ 62 9 5 ⟨w.heap.size, 0, none⟩ 32 gen32.data.toList Tryd.underlying62 Tryd.underlying5 Tryd.underlying9 (fun j hj => ?_)
    rw [Go.WideShapes.add_plain, Nat.zero_add]
    exact hM.cell (zeroC8_get j hj)
  generalize gen32 = g at *
  clear hM
  go_enter Tryd.func49, Tryd.ntmps49
  go_wp2
  go_ret
  exact ⟨rfl, hbm⟩

theorem word_join (v : Int) (id : ByteArray) : (⟨(goInt v).toArray⟩ : ByteArray) ++ id = wordB v id := append_list _ _

set_option maxRecDepth 100000 in
theorem word_any (v : Int) (id : ByteArray) (w : World) (hid : id.size ≤ 140737488351232) :
    Calls Tryd.prog 29 #[.int .i64 v, .string id] w fun e w' => e = .returned (.string (wordB v id)) ∧ Below w.heap.size w w' := by
  have c := int_any v w
  have hg := goInt_length v
  have hjo : Hid _ := word_join v id
  have hz : (⟨(goInt v).toArray⟩ : ByteArray).size ≤ 9 := by rw [size_mk]; exact hg
  generalize (⟨(goInt v).toArray⟩ : ByteArray) = q at *
  generalize wordB v id = out at *
  clear hg
  go_enter Tryd.func29, Tryd.ntmps29
  go_wp2_with fail
  refine c.mono ?_
  rintro e w1 ⟨rfl, hb⟩
  clear c
  go_wp2
  go_ret
  exact ⟨by rw [← hjo.out]; rfl, hb⟩

end Go.Proofs.YtoodapbmpbaogaaDoor
