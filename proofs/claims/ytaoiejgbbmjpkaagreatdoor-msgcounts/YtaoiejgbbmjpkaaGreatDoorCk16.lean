/- Texts as one: MsgWorks, BlkGreat, MsgGreat, BatSealer, BatTick, TxReader. -/
import Derived.Test.YtaoiejgbbmjpkaaGreatDoorCk15
import Derived.Test.YtaoiejgbbmjpkaaGreatDoorCk04
import Derived.Test.YtaoiejgbbmjpkaaGreatDoorCk08
import Derived.Test.YtaoiejgbbmjpkaaGreatDoorCk12
import Derived.Test.YtaoiejgbbmjpkaaGreatDoorCk03
import Derived.Test.YtaoiejgbbmjpkaaGreatDoorCk06
import Derived.BigQuiet
import Derived.BigRegion
import Derived.Laws.ResultCell
import Derived.Test.YtaoiejgbbmjpkaaGreatDoorCk07
import Derived.WalkLawsBesides
/- What tusklaw09.works does: it says yes; nothing old in memory is turned. -/
namespace Go.Proofs.YtaoiejgbbmjpkaaGreatDoor
open Go.RowKit
set_option linter.unusedVariables false

/-- A message that asks. -/
def askM (k : Int) (d : ByteArray) : MsgM := ⟨k, d, 0, tagZ, bat0, hdr9, cert0, blk0, qc0⟩

theorem askM_at (k : Int) (d : ByteArray) (w : World) : (askM k d).At w := ⟨(msg0_at k w).bat, (msg0_at k w).hdr, (msg0_at k w).cert, (msg0_at k w).blk, (msg0_at k w).qc⟩

theorem askM_num (k : Int) (d : ByteArray) : (askM k d).Num :=
  ⟨Nat.zero_le _, (fun t ht => by cases ht), Nat.zero_le _, Nat.zero_le _, (fun t ht => by cases ht), Nat.zero_le _, Nat.zero_le _, (fun t ht => by cases ht), Nat.zero_le _, Nat.zero_le _, Nat.zero_le _, Nat.zero_le _⟩

theorem ask_fields {k : Int} (hk : k = 9 ∨ k = 10 ∨ k = 11) : fieldsK k = [100] := by
  rcases hk with rfl | rfl | rfl <;> rfl

theorem ask_chk {k : Int} (hk : k = 9 ∨ k = 10 ∨ k = 11) (d : ByteArray) : chkM (askM k d).d = if d.size = 32 then 0 else 3 := by
  have hf : fieldsK (askM k d).d.kind = [100] := ask_fields hk
  have hb : (askM k d).d.Bare := ⟨Or.inl (by rw [hf]; decide), Or.inr rfl, Or.inr ⟨rfl, rfl⟩, Or.inr ⟨rfl, rfl, rfl⟩, Or.inr ⟨rfl, rfl, rfl, rfl⟩, Or.inr ⟨⟨rfl, rfl, rfl, rfl⟩, rfl⟩, Or.inr ⟨rfl, ⟨rfl, rfl, rfl⟩, rfl⟩, Or.inr ⟨rfl, rfl, rfl⟩⟩
  have h98 : ¬ (98 : UInt8) ∈ fieldsK (askM k d).d.kind := by rw [hf]; decide
  have hok := okM_plain hb h98
  have hne : ¬ fieldsK (askM k d).d.kind = [] := by rw [hf]; simp
  unfold chkM
  rw [if_neg hne, if_neg (fun h => h hb), if_neg h98]
  by_cases hz : d.size = 32
  · rw [if_pos hz, if_pos]
    rw [hok, hf]
    intro c hc
    rw [List.mem_singleton.1 hc]
    exact decide_eq_true hz
  · rw [if_neg hz, if_neg]
    rw [hok, hf]
    intro h
    exact hz (of_decide_eq_true (h 100 (by decide)))

/-- Its bytes. -/
def askB (k : UInt8) (d : ByteArray) : ByteArray := ⟨(k :: 32 :: d.data.toList).toArray⟩

theorem ask_enc (k : Nat) (hk : k = 9 ∨ k = 10 ∨ k = 11) (d : ByteArray) (hd : d.size = 32) : encM (askM (k : Int) d).d = k.toUInt8 :: 32 :: d.data.toList := by
  have hk' : (k : Int) = 9 ∨ (k : Int) = 10 ∨ (k : Int) = 11 := by omega
  have hf : fieldsK (askM (k : Int) d).d.kind = [100] := ask_fields hk'
  unfold encM
  rw [hf]
  show goInt (k : Int) ++ [100].flatMap (fieldB (askM (k : Int) d).d) = _
  rw [List.flatMap_cons, List.flatMap_nil, List.append_nil]
  show goInt (k : Int) ++ txt d.data.toList = _
  have e1 : goInt (k : Int) = [k.toUInt8] := by
    rcases hk with rfl | rfl | rfl <;> decide
  have e2 : txt d.data.toList = 32 :: d.data.toList := by
    unfold txt
    have : d.data.toList.length = 32 := by simpa using hd
    rw [this]
    rfl
  rw [e1, e2]
  rfl

theorem askEncode_any (k : Nat) (hk : k = 9 ∨ k = 10 ∨ k = 11) (d : ByteArray) (w : World) :
    Calls Tryz.prog 31 #[.agg [.int .i64 (k : Int), .string d, .int .i64 0, .int .i64 0, .string ⟨#[]⟩, .int .i64 0, .int .i64 0, .slice none 0 0, .int .i64 0, .int .i64 0, .slice none 0 0, .slice none 0 0, .int .i64 0, .int .i64 0, .slice none 0 0, .slice none 0 0, .slice none 0 0, .int .i64 0, .int .i64 0, .string ⟨#[]⟩, .slice none 0 0, .slice none 0 0, .int .i64 0, .string ⟨#[]⟩, .slice none 0 0].toArray] w fun e w' => e = .returned (.tuple #[.string (if d.size = 32 then askB k.toUInt8 d else ⟨#[]⟩), .int .i64 (((if d.size = 32 then 0 else 3 : Nat)) : Int)]) ∧ Below w.heap.size w w' := by
  have hk' : (k : Int) = 9 ∨ (k : Int) = 10 ∨ (k : Int) = 11 := by omega
  have h := msgEncode_any (askM (k : Int) d) w (askM_at _ _ _) (askM_num _ _)
  have e2 : encMB (askM (k : Int) d).d = if d.size = 32 then askB k.toUInt8 d else ⟨#[]⟩ := by
    unfold encMB
    rw [ask_chk hk']
    by_cases hz : d.size = 32
    · rw [if_pos hz, if_pos rfl, if_pos hz, ask_enc k hk d hz]
      rfl
    · rw [if_neg hz, if_neg (by decide), if_neg hz]
  rw [e2, ask_chk hk'] at h
  exact h

theorem results_msg_tmp {fn : Func} {p u : Tmp} (h : fn.results = #[.cell p 39, .tmp u]) (tmps : Array Value) (w : World) (g : Nat) (x : MsgM)
    (hp : tmps.getD p undef = .pointer (some ⟨g, 0, none⟩)) (hg : Arr w g 39 x.c) (v : Value) (hv : tmps.getD u undef = v) :
    (results fn tmps).run Tryz.prog w = .ok (.tuple #[x.v, v]) w := by
  rw [results_cell_tmp h, hp, hv]
  have hl := run_loadVar_row w g 39 39 x.c.toArray (0, 0) _ hg Tryz.underlying39 rfl infoMsg9
  simp [asAddr, hl, MsgM.v, Result.andThen]

set_option maxRecDepth 100000 in
set_option maxHeartbeats 2000000 in
theorem decode12 (w : World) :
    Calls Tryz.prog 32 #[.string ⟨#[12]⟩] w fun e w' => e = .returned (.tuple #[.agg [.int .i64 0, .string ⟨#[]⟩, .int .i64 0, .int .i64 0, .string ⟨#[]⟩, .int .i64 0, .int .i64 0, .slice none 0 0, .int .i64 0, .int .i64 0, .slice none 0 0, .slice none 0 0, .int .i64 0, .int .i64 0, .slice none 0 0, .slice none 0 0, .slice none 0 0, .int .i64 0, .int .i64 0, .string ⟨#[]⟩, .slice none 0 0, .slice none 0 0, .int .i64 0, .string ⟨#[]⟩, .slice none 0 0].toArray, .int .i64 5]) ∧ Below w.heap.size w w' := by
  have hX := Arr.new w 39 [.int .i64 0, .string ⟨#[]⟩, .int .i64 0, .int .i64 0, .string ⟨#[]⟩, .int .i64 0, .int .i64 0, .slice none 0 0, .int .i64 0, .int .i64 0, .slice none 0 0, .slice none 0 0, .int .i64 0, .int .i64 0, .slice none 0 0, .slice none 0 0, .slice none 0 0, .int .i64 0, .int .i64 0, .string ⟨#[]⟩, .slice none 0 0, .slice none 0 0, .int .i64 0, .string ⟨#[]⟩, .slice none 0 0]
  have hB := belowNew w (.cells [.int .i64 0, .string ⟨#[]⟩, .int .i64 0, .int .i64 0, .string ⟨#[]⟩, .int .i64 0, .int .i64 0, .slice none 0 0, .int .i64 0, .int .i64 0, .slice none 0 0, .slice none 0 0, .int .i64 0, .int .i64 0, .slice none 0 0, .slice none 0 0, .slice none 0 0, .int .i64 0, .int .i64 0, .string ⟨#[]⟩, .slice none 0 0, .slice none 0 0, .int .i64 0, .string ⟨#[]⟩, .slice none 0 0].toArray 39)
  have cG : ∀ w1, Calls Tryz.prog 62 #[.string ⟨#[12]⟩] w1 fun e w' => e = .returned (.tuple #[.int .i64 12, .int .i64 1, .int .i64 0]) ∧ w' = w1 := fun w1 => getInt_any ⟨#[12]⟩ w1 (by decide)
  have cL : ∀ w1, Calls Tryz.prog 13 #[.int .i64 12] w1 fun e w' => e = .returned (.string ⟨#[]⟩) ∧ w' = w1 := fun w1 => letters_any 12 w1
  obtain ⟨w1, hw1⟩ : ∃ q', w.alloc (.cells [.int .i64 0, .string ⟨#[]⟩, .int .i64 0, .int .i64 0, .string ⟨#[]⟩, .int .i64 0, .int .i64 0, .slice none 0 0, .int .i64 0, .int .i64 0, .slice none 0 0, .slice none 0 0, .int .i64 0, .int .i64 0, .slice none 0 0, .slice none 0 0, .slice none 0 0, .int .i64 0, .int .i64 0, .string ⟨#[]⟩, .slice none 0 0, .slice none 0 0, .int .i64 0, .string ⟨#[]⟩, .slice none 0 0].toArray 39) = q' := ⟨_, rfl⟩
  rw [hw1] at hX hB
  have h1 : (List.toArray (α := Value) [.int .i64 0, .string ⟨#[]⟩, .int .i64 0, .int .i64 0, .string ⟨#[]⟩, .int .i64 0, .int .i64 0, .slice none 0 0, .int .i64 0, .int .i64 0, .slice none 0 0, .slice none 0 0, .int .i64 0, .int .i64 0, .slice none 0 0, .slice none 0 0, .slice none 0 0, .int .i64 0, .int .i64 0, .string ⟨#[]⟩, .slice none 0 0, .slice none 0 0, .int .i64 0, .string ⟨#[]⟩, .slice none 0 0]).all (·.oneCell') = true := Array.all_eq_true_iff_forall_mem.2 (fun v hv => msgK.one (msg0 0) v (List.mem_toArray.1 hv))
  have hF := hX.row [.int .i64 0, .string ⟨#[]⟩, .int .i64 0, .int .i64 0, .string ⟨#[]⟩, .int .i64 0, .int .i64 0, .slice none 0 0, .int .i64 0, .int .i64 0, .slice none 0 0, .slice none 0 0, .int .i64 0, .int .i64 0, .slice none 0 0, .slice none 0 0, .slice none 0 0, .int .i64 0, .int .i64 0, .string ⟨#[]⟩, .slice none 0 0, .slice none 0 0, .int .i64 0, .string ⟨#[]⟩, .slice none 0 0]
  have hBF := below_setRow hB (g := w.heap.size) (Nat.le_refl _) [.int .i64 0, .string ⟨#[]⟩, .int .i64 0, .int .i64 0, .string ⟨#[]⟩, .int .i64 0, .int .i64 0, .slice none 0 0, .int .i64 0, .int .i64 0, .slice none 0 0, .slice none 0 0, .int .i64 0, .int .i64 0, .slice none 0 0, .slice none 0 0, .slice none 0 0, .int .i64 0, .int .i64 0, .string ⟨#[]⟩, .slice none 0 0, .slice none 0 0, .int .i64 0, .string ⟨#[]⟩, .slice none 0 0].toArray
  go_enter Tryz.func32, Tryz.ntmps32
  go_wp2_with fail
  refine (cG _).mono ?_
  rintro e w2 ⟨rfl, hw2⟩
  rw [← hw2] at hX hF hBF
  clear hw2 hw1 cG
  go_wp2_with fail
  refine (cL _).mono ?_
  rintro e w3 ⟨rfl, hw3⟩
  rw [← hw3] at hX hF hBF
  clear hw3 cL
  go_wp2_with (refine wpList_store_row (by rfl) 39 _ _ (by rfl) w.heap.size [.int .i64 0, .string ⟨#[]⟩, .int .i64 0, .int .i64 0, .string ⟨#[]⟩, .int .i64 0, .int .i64 0, .slice none 0 0, .int .i64 0, .int .i64 0, .slice none 0 0, .slice none 0 0, .int .i64 0, .int .i64 0, .slice none 0 0, .slice none 0 0, .slice none 0 0, .int .i64 0, .int .i64 0, .string ⟨#[]⟩, .slice none 0 0, .slice none 0 0, .int .i64 0, .string ⟨#[]⟩, .slice none 0 0].toArray (by rfl) (by rfl) 39 _ hX infoMsg9 (by rfl) h1 ?_)
  refine bodyPost_ret (v := .tuple #[MsgM.v (msg0 0), .int .i64 5]) ?r1 ?r2 ?r3
  case r1 => exact results_msg_tmp rfl _ _ w.heap.size (msg0 0) rfl hF _ rfl
  case r2 => rfl
  exact ⟨rfl, hBF⟩

/-- Thirty-two zero bytes. -/
def zero32 : ByteArray := ⟨(List.replicate 32 0).toArray⟩
def zeroC9 : List Value := List.replicate 32 (.int .u8 0)

theorem zeroC9_get (j : Nat) (hj : j < zero32.data.toList.length) : zeroC9[j]? = some (.int .u8 (zero32.data.toList[j].toNat : Int)) := by
  have hj' : j < 32 := hj
  have e1 : zeroC9[j]? = some (.int .u8 0) := by unfold zeroC9; rw [List.getElem?_replicate, if_pos hj']
  have e2 : zero32.data.toList[j]? = some 0 := by
    show (List.replicate 32 (0 : UInt8))[j]? = _
    rw [List.getElem?_replicate, if_pos hj']
  rw [List.getElem?_eq_getElem hj, Option.some.injEq] at e2
  rw [e1, e2]
  rfl

set_option maxRecDepth 100000 in
set_option maxHeartbeats 4000000 in
theorem works9_any (w : World) :
    Calls Tryz.prog 9 #[] w fun e w' => e = .returned (.bool true) ∧ Below w.heap.size w w' := by
  have hms : ∀ w : World, (Instr.makeSlice 74 (.int .i64 32) (.int .i64 32)).run Tryz.prog w = .ok (.slice (some ⟨w.heap.size, 0, none⟩) 32 32) (w.alloc (.cells zeroC9.toArray 5)) := fun _ => by kernel_rfl
  have hB := belowNew w (.cells zeroC9.toArray 5)
  have hM := Arr.new w 5 zeroC9
  have hcv : (convert 74 9 (.slice (some ⟨w.heap.size, 0, none⟩) 32 32)).run Tryz.prog (w.alloc (.cells zeroC9.toArray 5)) = .ok (.string zero32) (w.alloc (.cells zeroC9.toArray 5)) := by
    refine run_convert_bytes_back (P := Tryz.prog) _ 74 9 5 ⟨w.heap.size, 0, none⟩ 32 zero32.data.toList Tryz.underlying74 Tryz.underlying5 Tryz.underlying9 (fun j hj => ?_)
    rw [Go.WideShapes.add_plain, Nat.zero_add]
    exact hM.cell (zeroC9_get j hj)
  have hz : zero32.size = 32 := rfl
  have hz1 : (zero32.extract 1 32).size = 31 := rfl
  have c1 : ∀ w1, Calls Tryz.prog 31 #[.agg [.int .i64 9, .string zero32, .int .i64 0, .int .i64 0, .string ⟨#[]⟩, .int .i64 0, .int .i64 0, .slice none 0 0, .int .i64 0, .int .i64 0, .slice none 0 0, .slice none 0 0, .int .i64 0, .int .i64 0, .slice none 0 0, .slice none 0 0, .slice none 0 0, .int .i64 0, .int .i64 0, .string ⟨#[]⟩, .slice none 0 0, .slice none 0 0, .int .i64 0, .string ⟨#[]⟩, .slice none 0 0].toArray] w1 fun e w' => e = .returned (.tuple #[.string (askB 9 zero32), .int .i64 0]) ∧ Below w1.heap.size w1 w' := fun w1 => by
    have := askEncode_any 9 (Or.inl rfl) zero32 w1
    rw [if_pos hz, if_pos hz] at this
    exact this
  have c2 : ∀ w1, Calls Tryz.prog 31 #[.agg [.int .i64 9, .string (zero32.extract 1 32), .int .i64 0, .int .i64 0, .string ⟨#[]⟩, .int .i64 0, .int .i64 0, .slice none 0 0, .int .i64 0, .int .i64 0, .slice none 0 0, .slice none 0 0, .int .i64 0, .int .i64 0, .slice none 0 0, .slice none 0 0, .slice none 0 0, .int .i64 0, .int .i64 0, .string ⟨#[]⟩, .slice none 0 0, .slice none 0 0, .int .i64 0, .string ⟨#[]⟩, .slice none 0 0].toArray] w1 fun e w' => e = .returned (.tuple #[.string ⟨#[]⟩, .int .i64 3]) ∧ Below w1.heap.size w1 w' := fun w1 => by
    have := askEncode_any 9 (Or.inl rfl) (zero32.extract 1 32) w1
    rw [if_neg (by rw [hz1]; decide), if_neg (by rw [hz1]; decide)] at this
    exact this
  have c3 := decode12
  have hjo : (⟨#[9, 32]⟩ : ByteArray) ++ zero32 = askB 9 zero32 := by rfl
  obtain ⟨t, ht⟩ : ∃ t, t = askB 9 zero32 := ⟨_, rfl⟩
  rw [← ht] at c1 hjo
  obtain ⟨g, hg⟩ : ∃ t, t = zero32 := ⟨_, rfl⟩
  rw [← hg] at hcv hz c1 c2 hjo
  obtain ⟨w1, hw1⟩ : ∃ q', w.alloc (.cells zeroC9.toArray 5) = q' := ⟨_, rfl⟩
  rw [hw1] at hcv hB
  clear hM hg ht hz1
  go_enter Tryz.func9, Tryz.ntmps9
  go_wp2_with fail
  refine (c1 _).mono ?_
  rintro e w2 ⟨rfl, hb2⟩
  have hB2 := hB.trans (hb2.mono hB.size)
  clear hB hb2 c1 hw1 hcv hms
  go_wp2_with fail
  refine (c2 _).mono ?_
  rintro e w3 ⟨rfl, hb3⟩
  have hB3 := hB2.trans (hb3.mono hB2.size)
  clear hB2 hb3 c2
  go_wp2_with fail
  refine (c3 _).mono ?_
  rintro e w4 ⟨rfl, hb4⟩
  have hB4 := hB3.trans (hb4.mono hB3.size)
  clear hB3 hb4 c3
  have hX := Arr.new w4 39 [.int .i64 0, .string ⟨#[]⟩, .int .i64 0, .int .i64 0, .string ⟨#[]⟩, .int .i64 0, .int .i64 0, .slice none 0 0, .int .i64 0, .int .i64 0, .slice none 0 0, .slice none 0 0, .int .i64 0, .int .i64 0, .slice none 0 0, .slice none 0 0, .slice none 0 0, .int .i64 0, .int .i64 0, .string ⟨#[]⟩, .slice none 0 0, .slice none 0 0, .int .i64 0, .string ⟨#[]⟩, .slice none 0 0]
  have hbx := hB4.alloc hB4.size (.cells [.int .i64 0, .string ⟨#[]⟩, .int .i64 0, .int .i64 0, .string ⟨#[]⟩, .int .i64 0, .int .i64 0, .slice none 0 0, .int .i64 0, .int .i64 0, .slice none 0 0, .slice none 0 0, .int .i64 0, .int .i64 0, .slice none 0 0, .slice none 0 0, .slice none 0 0, .int .i64 0, .int .i64 0, .string ⟨#[]⟩, .slice none 0 0, .slice none 0 0, .int .i64 0, .string ⟨#[]⟩, .slice none 0 0].toArray 39)
  have h1 : (List.toArray (α := Value) [.int .i64 0, .string ⟨#[]⟩, .int .i64 0, .int .i64 0, .string ⟨#[]⟩, .int .i64 0, .int .i64 0, .slice none 0 0, .int .i64 0, .int .i64 0, .slice none 0 0, .slice none 0 0, .int .i64 0, .int .i64 0, .slice none 0 0, .slice none 0 0, .slice none 0 0, .int .i64 0, .int .i64 0, .string ⟨#[]⟩, .slice none 0 0, .slice none 0 0, .int .i64 0, .string ⟨#[]⟩, .slice none 0 0]).all (·.oneCell') = true := Array.all_eq_true_iff_forall_mem.2 (fun v hv => msgK.one (msg0 0) v (List.mem_toArray.1 hv))
  have hF := hX.row [.int .i64 0, .string ⟨#[]⟩, .int .i64 0, .int .i64 0, .string ⟨#[]⟩, .int .i64 0, .int .i64 0, .slice none 0 0, .int .i64 0, .int .i64 0, .slice none 0 0, .slice none 0 0, .int .i64 0, .int .i64 0, .slice none 0 0, .slice none 0 0, .slice none 0 0, .int .i64 0, .int .i64 0, .string ⟨#[]⟩, .slice none 0 0, .slice none 0 0, .int .i64 0, .string ⟨#[]⟩, .slice none 0 0]
  have hBF := below_setRow hbx (g := w4.heap.size) hB4.size [.int .i64 0, .string ⟨#[]⟩, .int .i64 0, .int .i64 0, .string ⟨#[]⟩, .int .i64 0, .int .i64 0, .slice none 0 0, .int .i64 0, .int .i64 0, .slice none 0 0, .slice none 0 0, .int .i64 0, .int .i64 0, .slice none 0 0, .slice none 0 0, .slice none 0 0, .int .i64 0, .int .i64 0, .string ⟨#[]⟩, .slice none 0 0, .slice none 0 0, .int .i64 0, .string ⟨#[]⟩, .slice none 0 0].toArray
  go_wp2_with (refine wpList_store_row (by rfl) 39 _ _ (by rfl) w4.heap.size [.int .i64 0, .string ⟨#[]⟩, .int .i64 0, .int .i64 0, .string ⟨#[]⟩, .int .i64 0, .int .i64 0, .slice none 0 0, .int .i64 0, .int .i64 0, .slice none 0 0, .slice none 0 0, .int .i64 0, .int .i64 0, .slice none 0 0, .slice none 0 0, .slice none 0 0, .int .i64 0, .int .i64 0, .string ⟨#[]⟩, .slice none 0 0, .slice none 0 0, .int .i64 0, .string ⟨#[]⟩, .slice none 0 0].toArray (by rfl) (by rfl) 39 _ hX infoMsg9 (by rfl) h1 ?_)
  go_ret
  exact ⟨rfl, hBF⟩
end Go.Proofs.YtaoiejgbbmjpkaaGreatDoor

/- What tusklaw08.Great does: it answers yes or no; nothing old in memory is turned. -/
namespace Go.Proofs.YtaoiejgbbmjpkaaGreatDoor
open Go.RowKit
set_option linter.unusedVariables false

/-- Yes or no. -/
def YesNo (e : Ending) : Prop := ∃ g : Bool, e = .returned (.bool g)

set_option maxRecDepth 100000 in
set_option maxHeartbeats 2000000 in
theorem greatBlk_any (x : BlkM) (w : World) (hA : x.At w) (hc : x.certs.length ≤ maxLen) :
    Calls Tryz.prog 12 #[x.v] w fun e w' => YesNo e ∧ Below w.heap.size w w' := by
  obtain ⟨v, q, ca, l, cc⟩ := x
  have hX := Arr.new w 37 [.int .i64 v, .int .i64 q.view, .string q.block, .slice q.va q.votes.length q.vc, .slice ca l.length cc]
  have hB := belowNew w (.cells #[.int .i64 v, .int .i64 q.view, .string q.block, .slice q.va q.votes.length q.vc, .slice ca l.length cc] 37)
  have hR : RowAt strK _ ca l := (hA.below hB).certs
  have hc' : l.length ≤ maxLen := hc
  unfold maxLen at hc'
  unfold BlkM.v
  simp only
  have x2 := hX.cell (i := 2) rfl
  have x3 := hX.cell (i := 3) rfl
  have x4 := hX.cell (i := 4) rfl
  clear hA hc
  go_enter Tryz.func12, Tryz.ntmps12
  go_wp2
  obtain ⟨w1, hw1⟩ : ∃ q', w.alloc (.cells #[.int .i64 v, .int .i64 q.view, .string q.block, .slice q.va q.votes.length q.vc, .slice ca l.length cc] 37) = q' := ⟨_, rfl⟩
  rw [hw1] at hX hB hR x2 x3 x4 ⊢
  go_loopw [3, 4] (fun v3 v4 wr => ∃ (k : Nat) (z : Int), k ≤ l.length ∧ v4 = .int .i64 (k : Int) ∧ v3 = .int .i64 z ∧ wr = w1) (fun _ v _ => l.length - (intOf v).toNat)
  case atStart => exact ⟨0, _, Nat.zero_le _, rfl, rfl, rfl⟩
  case round =>
    obtain ⟨k, z, hk, rfl, rfl, rfl⟩ := hrel
    by_cases hlt : k < l.length
    · obtain ⟨m, hm⟩ : ∃ m, l[k]? = some m := ⟨l[k], List.getElem?_eq_getElem hlt⟩
      obtain ⟨b, off, rfl, hbl, hcc⟩ := hR.cell k m hm
      have c0 := hcc 0 (.string m) rfl
      have e0 : off + k * strK.n + 0 = off + k := by show off + k * 1 + 0 = _; omega
      rw [e0] at c0
      clear hcc hm e0
      go_wp2
      go_roundw
      case rel => exact ⟨k + 1, _, by omega, by go_num, rfl, trivial⟩
      case measure => simp [intOf]; omega
    · go_wp2
      go_ret
      exact ⟨⟨_, rfl⟩, hB⟩
end Go.Proofs.YtaoiejgbbmjpkaaGreatDoor

/- What tusklaw09.Great does: it answers yes or no; nothing old in memory is turned. -/
namespace Go.Proofs.YtaoiejgbbmjpkaaGreatDoor
open Go.RowKit
set_option linter.unusedVariables false

/-- Yes, or no, and then some lists are short. -/
def GotGreat (x : MsgM) (e : Ending) : Prop := ∃ g : Bool, e = .returned (.bool g) ∧ (g = false → x.bat.txs.length ≤ 50 ∧ x.cert.votes.length ≤ 50 ∧ x.qc.votes.length ≤ 50)

/-- A message's lists are no longer than lists are. -/
structure MsgM.Max (x : MsgM) : Prop where
  txs : x.bat.txs.length ≤ maxLen
  refs : x.hdr.refs.length ≤ maxLen
  ps : x.hdr.parents.length ≤ maxLen
  crefs : x.cert.hdr.refs.length ≤ maxLen
  cps : x.cert.hdr.parents.length ≤ maxLen
  certs : x.blk.certs.length ≤ maxLen

set_option maxRecDepth 100000 in
set_option maxHeartbeats 4000000 in
theorem great9_any (x : MsgM) (w : World) (hA : x.At w) (hm : x.Max) :
    Calls Tryz.prog 5 #[x.v] w fun e w' => GotGreat x e ∧ Below w.heap.size w w' := by
  obtain ⟨ki, dg, vi, tg, ba, he, ce, bl, q⟩ := x
  have hX1 := Arr.new w 39 [.int .i64 ki, .string dg, .int .i64 vi, .int .i64 tg.who, .string tg.mac, .int .i64 ba.author, .int .i64 ba.number, .slice ba.ta ba.txs.length ba.tc, .int .i64 he.author, .int .i64 he.round, .slice he.ra he.refs.length he.rc, .slice he.pa he.parents.length he.pc, .int .i64 ce.hdr.author, .int .i64 ce.hdr.round, .slice ce.hdr.ra ce.hdr.refs.length ce.hdr.rc, .slice ce.hdr.pa ce.hdr.parents.length ce.hdr.pc, .slice ce.va ce.votes.length ce.vc, .int .i64 bl.view, .int .i64 bl.qc.view, .string bl.qc.block, .slice bl.qc.va bl.qc.votes.length bl.qc.vc, .slice bl.ca bl.certs.length bl.cc, .int .i64 q.view, .string q.block, .slice q.va q.votes.length q.vc]
  have hB1 := belowNew w (.cells #[.int .i64 ki, .string dg, .int .i64 vi, .int .i64 tg.who, .string tg.mac, .int .i64 ba.author, .int .i64 ba.number, .slice ba.ta ba.txs.length ba.tc, .int .i64 he.author, .int .i64 he.round, .slice he.ra he.refs.length he.rc, .slice he.pa he.parents.length he.pc, .int .i64 ce.hdr.author, .int .i64 ce.hdr.round, .slice ce.hdr.ra ce.hdr.refs.length ce.hdr.rc, .slice ce.hdr.pa ce.hdr.parents.length ce.hdr.pc, .slice ce.va ce.votes.length ce.vc, .int .i64 bl.view, .int .i64 bl.qc.view, .string bl.qc.block, .slice bl.qc.va bl.qc.votes.length bl.qc.vc, .slice bl.ca bl.certs.length bl.cc, .int .i64 q.view, .string q.block, .slice q.va q.votes.length q.vc] 39)
  have hA1 := hA.below hB1
  have c1 := fun w1 h1 => great_any he w1 h1 hm.refs hm.ps
  have c2 := fun w1 h1 => great_any ce.hdr w1 h1 hm.crefs hm.cps
  have c3 := fun w1 h1 => greatBlk_any bl w1 h1 hm.certs
  unfold HdrM.v at c1 c2
  unfold BlkM.v at c3
  have yes : ∀ {w'}, Below w.heap.size w w' → ∀ e, e = .returned (.bool true) → GotGreat ⟨ki, dg, vi, tg, ba, he, ce, bl, q⟩ e ∧ Below w.heap.size w w' := fun hb e he => ⟨⟨true, he, fun h => by cases h⟩, hb⟩
  unfold MsgM.v MsgM.c
  simp only
  clear hA hm
  have x7 := hX1.cell (i := 7) rfl
  have x8 := hX1.cell (i := 8) rfl
  have x9 := hX1.cell (i := 9) rfl
  have x10 := hX1.cell (i := 10) rfl
  have x11 := hX1.cell (i := 11) rfl
  obtain ⟨w1, hw1⟩ : ∃ q', w.alloc (.cells #[.int .i64 ki, .string dg, .int .i64 vi, .int .i64 tg.who, .string tg.mac, .int .i64 ba.author, .int .i64 ba.number, .slice ba.ta ba.txs.length ba.tc, .int .i64 he.author, .int .i64 he.round, .slice he.ra he.refs.length he.rc, .slice he.pa he.parents.length he.pc, .int .i64 ce.hdr.author, .int .i64 ce.hdr.round, .slice ce.hdr.ra ce.hdr.refs.length ce.hdr.rc, .slice ce.hdr.pa ce.hdr.parents.length ce.hdr.pc, .slice ce.va ce.votes.length ce.vc, .int .i64 bl.view, .int .i64 bl.qc.view, .string bl.qc.block, .slice bl.qc.va bl.qc.votes.length bl.qc.vc, .slice bl.ca bl.certs.length bl.cc, .int .i64 q.view, .string q.block, .slice q.va q.votes.length q.vc] 39) = q' := ⟨_, rfl⟩
  replace hX1 : Arr w1 w.heap.size 39 [.int .i64 ki, .string dg, .int .i64 vi, .int .i64 tg.who, .string tg.mac, .int .i64 ba.author, .int .i64 ba.number, .slice ba.ta ba.txs.length ba.tc, .int .i64 he.author, .int .i64 he.round, .slice he.ra he.refs.length he.rc, .slice he.pa he.parents.length he.pc, .int .i64 ce.hdr.author, .int .i64 ce.hdr.round, .slice ce.hdr.ra ce.hdr.refs.length ce.hdr.rc, .slice ce.hdr.pa ce.hdr.parents.length ce.hdr.pc, .slice ce.va ce.votes.length ce.vc, .int .i64 bl.view, .int .i64 bl.qc.view, .string bl.qc.block, .slice bl.qc.va bl.qc.votes.length bl.qc.vc, .slice bl.ca bl.certs.length bl.cc, .int .i64 q.view, .string q.block, .slice q.va q.votes.length q.vc] := by rw [← hw1]; exact hX1
  rw [hw1] at hB1 hA1 x7 x8 x9 x10 x11
  go_enter Tryz.func5, Tryz.ntmps5
  by_cases h1 : 50 < ba.txs.length
  · go_wp2
    go_ret
    exact yes hB1 _ rfl
  go_wp2_with fail
  refine (c1 _ hA1.hdr).mono ?_
  rintro e w2 ⟨⟨g1, rfl⟩, hb1⟩
  have hX2 := hX1.below hb1 hX1.lt
  have hA2 := hA1.below hb1
  have hB2 := hB1.trans (hb1.mono hB1.size)
  clear c1 hX1 hA1 hB1 hb1 x7 x8 x9 x10 x11 hw1
  have x12 := hX2.cell (i := 12) rfl
  have x13 := hX2.cell (i := 13) rfl
  have x14 := hX2.cell (i := 14) rfl
  have x15 := hX2.cell (i := 15) rfl
  cases g1
  case true =>
    go_wp2
    go_ret
    exact yes hB2 _ rfl
  go_wp2_with fail
  refine (c2 _ hA2.cert.hdr).mono ?_
  rintro e w3 ⟨⟨g2, rfl⟩, hb2⟩
  have hX3 := hX2.below hb2 hX2.lt
  have hA3 := hA2.below hb2
  have hB3 := hB2.trans (hb2.mono hB2.size)
  clear c2 hX2 hA2 hB2 hb2 x12 x13 x14 x15
  have x16 := hX3.cell (i := 16) rfl
  have x17 := hX3.cell (i := 17) rfl
  have x18 := hX3.cell (i := 18) rfl
  have x19 := hX3.cell (i := 19) rfl
  have x20 := hX3.cell (i := 20) rfl
  have x21 := hX3.cell (i := 21) rfl
  cases g2
  case true =>
    go_wp2
    go_ret
    exact yes hB3 _ rfl
  by_cases h2 : 50 < ce.votes.length
  · go_wp2
    go_ret
    exact yes hB3 _ rfl
  go_wp2_with fail
  refine (c3 _ hA3.blk).mono ?_
  rintro e w4 ⟨⟨g3, rfl⟩, hb3⟩
  have hX4 := hX3.below hb3 hX3.lt
  have hB4 := hB3.trans (hb3.mono hB3.size)
  clear c3 hX3 hA3 hB3 hb3 x16 x17 x18 x19 x20 x21
  have x1 := hX4.cell (i := 1) rfl
  have x23 := hX4.cell (i := 23) rfl
  have x24 := hX4.cell (i := 24) rfl
  cases g3
  case true =>
    go_wp2
    go_ret
    exact yes hB4 _ rfl
  by_cases h3 : 50 < q.votes.length
  · go_wp2
    go_ret
    exact yes hB4 _ rfl
  go_wp2
  go_ret
  exact ⟨⟨_, rfl, fun _ => ⟨Nat.le_of_not_lt h1, Nat.le_of_not_lt h2, Nat.le_of_not_lt h3⟩⟩, hB4⟩
end Go.Proofs.YtaoiejgbbmjpkaaGreatDoor

/- What NewSealer, Waits, copied and Add do. -/
namespace Go.Proofs.YtaoiejgbbmjpkaaGreatDoor
open Go.RowKit
set_option linter.unusedVariables false

theorem SlAt.mono {T : TypeId} {w : World} {base base' p : Nat} {q : Value} {au : Int} {s : Seal TxM} (h : SlAt T w base p q au s) (hb : base' ≤ base) : SlAt T w base' p q au s :=
  ⟨h.box, ⟨h.row.1, h.row.2.imp id fun ⟨g, pre, post, cap, q1, q2, q3⟩ => ⟨g, pre, post, cap, q1, Nat.le_trans hb q2, q3⟩⟩, h.at_, h.off, Nat.le_trans hb h.bp, h.ne, h.lt, fun k hk => Nat.le_trans hb (h.lb k hk)⟩

/-- A new sealer. -/
def Seal.new (size wait : Nat) : Seal TxM := ⟨size, wait, [], 0, 0⟩

theorem Seal.new_ok {size wait : Nat} (h1 : 1 ≤ size) (h2 : size ≤ 16) (h3 : 1 ≤ wait) (h4 : wait ≤ 1000) : (Seal.new size wait).Ok :=
  ⟨h1, h2, h3, h4, by simp [Seal.new], by simp [Seal.new]; omega, fun _ => rfl⟩

theorem SlAt.new (T : TypeId) (w : World) (au : Int) (size wait : Nat) : SlAt T (w.alloc (.cells #[.int .i64 au, .int .i64 (size : Int), .int .i64 (wait : Int), .slice none 0 0, .int .i64 0, .int .i64 0] T)) w.heap.size w.heap.size (.slice none 0 0) au (Seal.new size wait) :=
  ⟨Arr.new w T _, QRow.nil _ _ _ _ _, (fun x hx => by cases hx), (fun x hx => by cases hx), Nat.le_refl _, by simp [Value.ownBlock], by simp [Value.ownBlock], by simp [Value.ownBlock]⟩

/-- What adding answers. -/
def addE (s : Seal TxM) (d : TxD) : Nat := if checkL d ≠ 0 then checkL d else if 4 * s.size ≤ s.l.length then 4 else 0

/-- One more, if it is right and there is room. -/
def Seal.put (s : Seal TxM) (x : TxM) : Seal TxM := if addE s x.d = 0 then { s with l := s.l ++ [x] } else s

/-- Behind Add. -/
def Added (T : TypeId) (w : World) (base p : Nat) (q : Value) (au : Int) (s : Seal TxM) (d : TxD) (own : Bool) (e : Ending) (w' : World) : Prop :=
  e = .returned (.int .i64 (addE s d : Int)) ∧ ∃ x q', x.d = d ∧ SlAt T w' base p q' au (s.put x) ∧ Kept (SlB p q) w w' ∧ (∀ k, SlB p q' k → SlB p q k ∨ w.heap.size ≤ k)

/-- Behind Add, where the very one that was given is kept. -/
def AddedX (T : TypeId) (w : World) (base p : Nat) (q : Value) (au : Int) (s : Seal TxM) (x : TxM) (e : Ending) (w' : World) : Prop :=
  e = .returned (.int .i64 (addE s x.d : Int)) ∧ ∃ q', SlAt T w' base p q' au (s.put x) ∧ Kept (SlB p q) w w' ∧ (∀ k, SlB p q' k → SlB p q k ∨ w.heap.size ≤ k)

theorem AddedX.added {T : TypeId} {w : World} {base p : Nat} {q : Value} {au : Int} {s : Seal TxM} {x : TxM} {e : Ending} {w' : World} (h : AddedX T w base p q au s x e w') : Added T w base p q au s x.d true e w' := by
  obtain ⟨h1, q', h2⟩ := h
  exact ⟨h1, x, q', rfl, h2⟩

theorem addedX_no {T : TypeId} {w w' : World} {base p : Nat} {q : Value} {au : Int} {s : Seal TxM} (h : SlAt T w base p q au s) (x : TxM) (hne : addE s x.d ≠ 0) (hb : Below w.heap.size w w') (e : Ending) (he : e = .returned (.int .i64 (addE s x.d : Int))) : AddedX T w base p q au s x e w' :=
  ⟨he, q, by unfold Seal.put; rw [if_neg hne]; exact h.below hb, Kept.of_below hb, fun k hk => Or.inl hk⟩

theorem added_no {T : TypeId} {w w' : World} {base p : Nat} {q : Value} {au : Int} {s : Seal TxM} (h : SlAt T w base p q au s) (x : TxM) (hne : addE s x.d ≠ 0) (hb : Below w.heap.size w w') (e : Ending) (he : e = .returned (.int .i64 (addE s x.d : Int))) : Added T w base p q au s x.d true e w' :=
  ⟨he, x, q, rfl, by unfold Seal.put; rw [if_neg hne]; exact h.below hb, Kept.of_below hb, fun k hk => Or.inl hk⟩

theorem addedX_yes {T : TypeId} {w wF w5 w6 : World} {base p : Nat} {q q' : Value} {au : Int} {s : Seal TxM} (h : SlAt T w base p q au s) (y : TxM) (hE : addE s y.d = 0) (hBF : Below w.heap.size w wF) (hy : y.At wF) (hyo : y.Off (SlB p q)) (hW5 : Below wF.heap.size wF w5)
    (hrow : QRow w6 base 86 9 q' (s.l.length + 1) (flatX s.l ++ y.c)) (hgr : w5.grownBy w6 q.ownBlock) (hfr : ∀ g, q'.ownBlock = some g → q.ownBlock = some g ∨ w5.heap.size ≤ g) (e : Ending) (he : e = .returned (.int .i64 0)) :
    AddedX T w base p q au s y e (w6.setCell ⟨p, 3, none⟩ q') := by
  have hB5 : Below w.heap.size w w5 := hBF.trans (hW5.mono hBF.size)
  have hpw := h.own.2
  have h5s := hB5.size
  have k6 : Kept (SlB p q) w5 w6 := (Kept.of_grown hgr).mono (fun k _ hk => Or.inr hk)
  have k7 : Kept (SlB p q) w5 (w6.setCell ⟨p, 3, none⟩ q') := k6.trans ((Kept.setCell w6 ⟨p, 3, none⟩ q').mono (fun k _ hk => Or.inl hk))
  have hne : q'.ownBlock ≠ some p := by
    intro hq
    rcases hfr p hq with h1 | h1
    · exact h.ne h1
    · omega
  have hy5 : y.At w5 := hy.below hW5
  have ha5 : ∀ x ∈ s.l, x.At w5 := fun x hx => (h.at_ x hx).below hB5
  have hgo : ∀ k, SlB p q' k → SlB p q k ∨ w5.heap.size ≤ k := by
    rintro k (hk | hk)
    · exact Or.inl (Or.inl hk)
    · exact (hfr k hk).imp (fun h => Or.inr h) id
  refine ⟨by rw [hE]; exact he, q', ?_, (Kept.of_below hB5).trans k7, fun k hk => (hgo k hk).imp id (fun h => by omega)⟩
  unfold Seal.put
  rw [if_pos hE]
  refine ⟨?_, ?_, ?_, ?_, h.bp, hne, ?_, ?_⟩
  · exact (((h.below hB5).box.kept (Kept.of_grown hgr) h.ne).set 3 q')
  · show QRow _ base 86 9 q' (s.l ++ [y]).length (flatX (s.l ++ [y]))
    have e1 : (s.l ++ [y]).length = s.l.length + 1 := by simp
    have e2 : flatX (s.l ++ [y]) = flatX s.l ++ y.c := by rw [flatX_append]; simp [flatX]
    rw [e1, e2]
    exact hrow.kept (Kept.setCell w6 ⟨p, 3, none⟩ q') (fun g hg hk => hne (by rw [hg]; exact congrArg some hk))
  · intro x hx
    replace hx : x ∈ s.l ++ [y] := hx
    rw [List.mem_append, List.mem_singleton] at hx
    rcases hx with hx | rfl
    · exact (ha5 x hx).kept k7 (h.off x hx)
    · exact hy5.kept k7 hyo
  · intro x hx
    replace hx : x ∈ s.l ++ [y] := hx
    rw [List.mem_append, List.mem_singleton] at hx
    rcases hx with hx | rfl
    · exact (ha5 x hx).off_grow (h.off x hx) hgo
    · exact hy5.off_grow hyo hgo
  · intro k hk
    rcases hrow.lt with h0 | ⟨g, hg, _, hl⟩
    · omega
    · rw [hk] at hg
      simp at hg
      rw [setCell_size]
      omega
  · intro k hk
    rcases hrow.lt with h0 | ⟨g, hg, hb, _⟩
    · omega
    · rw [hk] at hg
      simp at hg
      omega
end Go.Proofs.YtaoiejgbbmjpkaaGreatDoor

/- What cut and Tick do. -/
namespace Go.Proofs.YtaoiejgbbmjpkaaGreatDoor
open Go.RowKit
set_option linter.unusedVariables false

theorem flatX_drop (l : List TxM) (n : Nat) : (flatX l).drop (n * 9) = flatX (l.drop n) := by
  induction n generalizing l with
  | zero => simp
  | succ n ih =>
    cases l with
    | nil => simp [flatX]
    | cons x r =>
      have e : flatX (x :: r) = x.c ++ flatX r := by simp [flatX]
      have e2 : (n + 1) * 9 = x.c.length + n * 9 := by rw [TxM.c_length]; omega
      rw [e, List.drop_succ_cons, e2, ← List.drop_drop, List.drop_left, ih]

theorem TxsAt.take {w : World} {ao : Option Addr} {l : List TxM} (h : TxsAt w ao l) (n : Nat) : TxsAt w ao (l.take n) := by
  intro i x hx
  exact h i x (by
    rw [List.getElem?_take] at hx
    split at hx
    · exact hx
    · cases hx)

theorem TxsAt.kept {S : Nat → Prop} {w w' : World} {ao : Option Addr} {l : List TxM} (h : TxsAt w ao l) (hk : Kept S w w') (hb : ∀ b off, ao = some ⟨b, off, none⟩ → ¬ S b) (ho : ∀ x ∈ l, x.Off S) : TxsAt w' ao l := by
  intro i x hx
  obtain ⟨⟨b, off, h1, h2, h3⟩, h4⟩ := h i x hx
  exact ⟨⟨b, off, h1, Nat.lt_of_lt_of_le h2 hk.size, fun j v hv => by rw [hk.cell (p := ⟨b, off + i * 9 + j, none⟩) h2 (hb b off h1)]; exact h3 j v hv⟩, h4.kept hk (ho x (List.mem_of_getElem? hx))⟩

/-- What is cut off the front, and what is left. -/
theorem cut_fin {T : TypeId} {w w2 : World} {base p g off cap : Nat} {au : Int} {s : Seal TxM} (hd : SlAt T w2 base p (.slice (some ⟨g, off, none⟩) s.l.length cap) au s) (hn0 : 0 < s.l.length) (n : Nat) (hn : n = min s.size s.l.length) (ao' : Option Addr) (hao : ¬ cap = n → ao' = some ⟨g, off + n * 9, none⟩) (hob : ∀ k a b, (Value.slice ao' a b).ownBlock = some k → k = g) (kd : Kept (fun k => k = p) w w2)
    (w' : World) (hw : w2.setCell ⟨p, 3, none⟩ (.slice ao' (s.l.length - n) (cap - n)) = w') :
    TxsAt w' (some ⟨g, off, none⟩) (s.l.take s.size) ∧ SlAt T w' base p (.slice ao' (s.l.length - n) (cap - n)) au { s with l := s.l.drop s.size } ∧ Kept (fun k => k = p) w w' := by
  have hgp : g ≠ p := fun e => hd.ne (by rw [← e]; rfl)
  have k2 : Kept (fun k => k = p) w2 w' := by rw [← hw]; exact Kept.setCell w2 ⟨p, 3, none⟩ _
  have hoff : ∀ x ∈ s.l, x.Off (fun k => k = p) := fun x hx => (hd.off x hx).mono (fun k hk => Or.inl hk)
  have hob2 : ∀ k, (Value.slice ao' (s.l.length - n) (cap - n)).ownBlock = some k → k = g := fun k hk => hob k _ _ hk
  refine ⟨((hd.row.txs rfl hd.at_).take _).kept k2 (fun b o e => by simp at e; rw [← e.1]; exact hgp) (fun x hx => hoff x (List.mem_of_mem_take hx)), ?_, kd.trans k2⟩
  have hdr : s.l.drop s.size = s.l.drop n := by
    rw [hn]
    by_cases hl : s.size ≤ s.l.length
    · rw [Nat.min_eq_left hl]
    · rw [List.drop_of_length_le (by omega), List.drop_of_length_le (by omega)]
  have hcut := hd.row.cut n (by omega) ao' (fun b o e hc => by simp at e; rw [hao hc, ← e.1, ← e.2])
  rw [flatX_drop, ← hdr] at hcut
  have hlen : (s.l.drop s.size).length = s.l.length - n := by rw [hdr, List.length_drop]
  refine ⟨?_, ?_, ?_, ?_, hd.bp, ?_, ?_, fun k hk => by rw [hob2 k hk]; exact hd.lb g rfl⟩
  · rw [← hw]
    exact hd.box.set 3 _
  · show QRow w' base 86 9 _ (s.l.drop s.size).length (flatX (s.l.drop s.size))
    rw [hlen]
    exact hcut.kept k2 (fun k hk => by rw [hob2 k hk]; exact hgp)
  · exact fun x hx => (hd.at_ x (List.mem_of_mem_drop hx)).kept k2 (hoff x (List.mem_of_mem_drop hx))
  · intro x hx
    refine (hd.off x (List.mem_of_mem_drop hx)).mono (fun k hk => ?_)
    rcases hk with hk | hk
    · exact Or.inl hk
    · exact Or.inr (by rw [hob2 k hk]; rfl)
  · exact fun e => hgp (hob2 p e).symm
  · intro k hk
    rw [hob2 k hk]
    exact Nat.lt_of_lt_of_le (hd.lt g rfl) k2.size

/-- Behind Tick: what is handed back, and the sealer. -/
def Ticked (T : TypeId) (w : World) (base p : Nat) (q : Value) (au : Int) (s : Seal TxM) (e : Ending) (w' : World) : Prop :=
  ∃ fo fc q', e = .returned (.tuple #[batV (if s.seals = true then au else 0) (if s.seals = true then (s.number : Int) + 1 else 0) fo s.out.length fc, .bool s.seals]) ∧ (fo = none → fc = 0) ∧ TxsAt w' fo s.out ∧ SlAt T w' base p q' au s.tick ∧ Kept (fun k => k = p) w w' ∧ (∀ k, q'.ownBlock = some k → q.ownBlock = some k ∨ w.heap.size ≤ k)

theorem infoBat : (Tryz.prog.info? 26).map (·.size) = some 3 := by kernel_rfl

theorem results_bat_tmp {fn : Func} {p u : Tmp} (h : fn.results = #[.cell p 26, .tmp u]) (tmps : Array Value) (w : World) (g : Nat) (a n : Int) (ao : Option Addr) (len cap : Nat)
    (hp : tmps.getD p undef = .pointer (some ⟨g, 0, none⟩)) (hg : Arr w g 26 (batC a n ao len cap)) (v : Value) (hv : tmps.getD u undef = v) :
    (results fn tmps).run Tryz.prog w = .ok (.tuple #[batV a n ao len cap, v]) w := by
  rw [results_cell_tmp h, hp, hv]
  have hl := run_loadVar_row w g 26 26 (batC a n ao len cap).toArray (0, 0) _ hg Tryz.underlying26 rfl infoBat
  simp [asAddr, hl, batV, batC, Result.andThen]

/-- No batch. -/
def zeroB : List Value := [.int .i64 0, .int .i64 0, .slice none 0 0]

theorem SlAt.setTicks {T : TypeId} {w : World} {base p : Nat} {q : Value} {au : Int} {s : Seal TxM} (h : SlAt T w base p q au s) (t : Nat) : SlAt T (w.setCell ⟨p, 4, none⟩ (.int .i64 (t : Int))) base p q au { s with ticks := t } := by
  have k2 := Kept.setCell w ⟨p, 4, none⟩ (.int .i64 (t : Int))
  exact ⟨h.box.set 4 _, h.row.kept k2 (fun g hg e => h.ne (by rw [hg]; exact congrArg some e)), fun x hx => (h.at_ x hx).kept k2 ((h.off x hx).mono (fun k hk => Or.inl hk)), h.off, h.bp, h.ne, (fun k hk => by rw [setCell_size]; exact h.lt k hk), h.lb⟩

theorem SlAt.setNumber {T : TypeId} {w : World} {base p : Nat} {q : Value} {au : Int} {s : Seal TxM} (h : SlAt T w base p q au s) (t : Nat) : SlAt T (w.setCell ⟨p, 5, none⟩ (.int .i64 (t : Int))) base p q au { s with number := t } := by
  have k2 := Kept.setCell w ⟨p, 5, none⟩ (.int .i64 (t : Int))
  exact ⟨h.box.set 5 _, h.row.kept k2 (fun g hg e => h.ne (by rw [hg]; exact congrArg some e)), fun x hx => (h.at_ x hx).kept k2 ((h.off x hx).mono (fun k hk => Or.inl hk)), h.off, h.bp, h.ne, (fun k hk => by rw [setCell_size]; exact h.lt k hk), h.lb⟩

theorem SlAt.putOff {T : TypeId} {w : World} {base p : Nat} {q : Value} {au : Int} {s : Seal TxM} (h : SlAt T w base p q au s) {a : Addr} (ha : ∀ k, SlB p q k → k ≠ a.block) (ho : ∀ x ∈ s.l, x.Off (fun k => k = a.block)) (v : Value) : SlAt T (w.setCell a v) base p q au s :=
  h.kept (Kept.setCell w a v) (fun k hk e => ha k hk e) ho

theorem Kept.set3 {S : Nat → Prop} {w w' : World} (h : Kept S w w') {g : Nat} (hg : w.heap.size ≤ g) (v0 v1 v2 : Value) : Kept S w (Proofs.YtaoiejgbbmjpkaaGreatDoor.set3 w' g v0 v1 v2) :=
  ((h.setNew (a := ⟨g, 0, none⟩) hg v0).setNew (a := ⟨g, 1, none⟩) hg v1).setNew (a := ⟨g, 2, none⟩) hg v2

theorem SlAt.set3 {T : TypeId} {w : World} {base p : Nat} {q : Value} {au : Int} {s : Seal TxM} (h : SlAt T w base p q au s) {g : Nat} (ha : ∀ k, SlB p q k → k ≠ g) (ho : ∀ x ∈ s.l, x.Off (fun k => k = g)) (v0 v1 v2 : Value) : SlAt T (Proofs.YtaoiejgbbmjpkaaGreatDoor.set3 w g v0 v1 v2) base p q au s :=
  ((h.putOff (a := ⟨g, 0, none⟩) ha ho v0).putOff (a := ⟨g, 1, none⟩) ha ho v1).putOff (a := ⟨g, 2, none⟩) ha ho v2

theorem TxsAt.set3 {w : World} {ao : Option Addr} {l : List TxM} (h : TxsAt w ao l) {g : Nat} (hb : ∀ b off, ao = some ⟨b, off, none⟩ → b ≠ g) (ho : ∀ x ∈ l, x.Off (fun k => k = g)) (v0 v1 v2 : Value) : TxsAt (Proofs.YtaoiejgbbmjpkaaGreatDoor.set3 w g v0 v1 v2) ao l :=
  ((h.kept (Kept.setCell _ ⟨g, 0, none⟩ v0) (fun b o e k => hb b o e k) ho).kept (Kept.setCell _ ⟨g, 1, none⟩ v1) (fun b o e k => hb b o e k) ho).kept (Kept.setCell _ ⟨g, 2, none⟩ v2) (fun b o e k => hb b o e k) ho

/-- A sealer's blocks are older than what is new. -/
theorem SlAt.apart {T : TypeId} {w : World} {base p : Nat} {q : Value} {au : Int} {s : Seal TxM} (h : SlAt T w base p q au s) {g : Nat} (hg : w.heap.size ≤ g) : ∀ k, SlB p q k → k ≠ g := by
  rintro k (rfl | hk)
  · have := h.own.2; omega
  · have := h.lt k hk; omega

theorem ticked_no {T : TypeId} {w w' : World} {base p : Nat} {q : Value} {au : Int} {s : Seal TxM} (hse : s.seals = false) (h : SlAt T w' base p q au s.tick) (hk : Kept (fun k => k = p) w w') (e : Ending) (he : e = .returned (.tuple #[batV 0 0 none 0 0, .bool false])) : Ticked T w base p q au s e w' := by
  have hou : s.out = [] := by unfold Seal.out; rw [hse]; rfl
  unfold Ticked
  rw [hse, hou]
  exact ⟨none, 0, q, he, fun _ => rfl, nil_txs _ _, h, hk, fun k hk => Or.inl hk⟩

theorem ticked_yes {T : TypeId} {w w' : World} {base p : Nat} {q q' : Value} {au : Int} {s : Seal TxM} (hse : s.seals = true) {fo : Option Addr} {fc : Nat} (h0 : fo = none → fc = 0) (hA : TxsAt w' fo (s.l.take s.size)) (h : SlAt T w' base p q' au s.tick) (hk : Kept (fun k => k = p) w w') (hq : ∀ k, q'.ownBlock = some k → q.ownBlock = some k ∨ w.heap.size ≤ k) (e : Ending) (he : e = .returned (.tuple #[batV au ((s.number : Int) + 1) fo (min s.size s.l.length) fc, .bool true])) : Ticked T w base p q au s e w' := by
  have hou : s.out = s.l.take s.size := by unfold Seal.out; rw [hse]; rfl
  unfold Ticked
  rw [hse, hou, List.length_take]
  exact ⟨fo, fc, q', he, h0, hA, h, hk, hq⟩
end Go.Proofs.YtaoiejgbbmjpkaaGreatDoor

/- What must does, and the reader's number, text and keys. -/
namespace Go.Proofs.YtaoiejgbbmjpkaaGreatDoor
open Go.RowKit
set_option linter.unusedVariables false

/-- The error er, thrown. -/
def thrown (er : Nat) : List PanicEntry := [{ v := .iface 50 (.int .i64 (er : Int)), recovered := false }]

set_option maxRecDepth 100000 in
theorem must_ok (w : World) : Calls Tryz.prog 161 #[.int .i64 0] w fun e w' => e = .returned (.tuple #[]) ∧ w' = w := by
  go_enter Tryz.func161, Tryz.ntmps161
  go_wp2
  go_end0
  exact ⟨rfl, rfl⟩

set_option maxRecDepth 100000 in
theorem must_err (er : Nat) (he : er ≠ 0) (w : World) : Calls Tryz.prog 161 #[.int .i64 (er : Int)] w fun e w' => e = .panicked (thrown er) ∧ w' = w := by
  have hne : ((er : Int) != 0) = true := by rw [bne_iff_ne]; omega
  go_enter Tryz.func161, Tryz.ntmps161
  go_wp2
  exact ⟨rfl, rfl, rfl⟩

/-- A reader's block, a result's, a transaction's that is being read; rows of the call's own. -/
structure RdSt (W : World) (base rb zb tb top : Nat) (T : TypeId) (R : List (Option Addr × List ByteArray)) (w : World) (rcs cs : List Value) : Prop where
  rd : Arr w rb T rcs
  res : Arr w zb 86 zeroC
  tx : Arr w tb 86 cs
  d1 : rb ≠ zb
  d2 : rb ≠ tb
  d3 : zb ≠ tb
  t1 : rb < top
  t2 : zb < top
  t3 : tb < top
  b1 : base ≤ rb
  b2 : base ≤ zb
  b3 : base ≤ tb
  tw : top ≤ w.heap.size
  rows : ∀ p ∈ R, OwnStrs top w p.1 p.2
  bel : Below base W w

theorem RdSt.below {W : World} {base rb zb tb top : Nat} {T : TypeId} {R : List (Option Addr × List ByteArray)} {w w1 : World} {rcs cs : List Value} (h : RdSt W base rb zb tb top T R w rcs cs) (hb : Below w.heap.size w w1) : RdSt W base rb zb tb top T R w1 rcs cs :=
  ⟨h.rd.below hb h.rd.lt, h.res.below hb h.res.lt, h.tx.below hb h.tx.lt, h.d1, h.d2, h.d3, h.t1, h.t2, h.t3, h.b1, h.b2, h.b3, Nat.le_trans h.tw hb.size, fun p hp => (h.rows p hp).below hb, h.bel.trans (hb.mono (by have := h.rd.lt; have := h.b1; omega))⟩

theorem RdSt.setR {W : World} {base rb zb tb top : Nat} {T : TypeId} {R : List (Option Addr × List ByteArray)} {w : World} {rcs cs : List Value} (h : RdSt W base rb zb tb top T R w rcs cs) (i : Nat) (v : Value) : RdSt W base rb zb tb top T R (w.setCell ⟨rb, i, none⟩ v) (rcs.set i v) cs :=
  ⟨h.rd.set i v, h.res.other (p := ⟨rb, i, none⟩) (fun e => h.d1 e.symm) v, h.tx.other (p := ⟨rb, i, none⟩) (fun e => h.d2 e.symm) v, h.d1, h.d2, h.d3, h.t1, h.t2, h.t3, h.b1, h.b2, h.b3, by rw [setCell_size]; exact h.tw, fun p hp => (h.rows p hp).put (p := ⟨rb, i, none⟩) h.t1 v, h.bel.setCell (p := ⟨rb, i, none⟩) h.b1 v⟩

theorem RdSt.setT {W : World} {base rb zb tb top : Nat} {T : TypeId} {R : List (Option Addr × List ByteArray)} {w : World} {rcs cs : List Value} (h : RdSt W base rb zb tb top T R w rcs cs) (i : Nat) (v : Value) : RdSt W base rb zb tb top T R (w.setCell ⟨tb, i, none⟩ v) rcs (cs.set i v) :=
  ⟨h.rd.other (p := ⟨tb, i, none⟩) h.d2 v, h.res.other (p := ⟨tb, i, none⟩) h.d3 v, h.tx.set i v, h.d1, h.d2, h.d3, h.t1, h.t2, h.t3, h.b1, h.b2, h.b3, by rw [setCell_size]; exact h.tw, fun p hp => (h.rows p hp).put (p := ⟨tb, i, none⟩) h.t3 v, h.bel.setCell (p := ⟨tb, i, none⟩) h.b3 v⟩

theorem RdSt.row {W : World} {base rb zb tb top : Nat} {T : TypeId} {R : List (Option Addr × List ByteArray)} {w : World} {rcs cs : List Value} (h : RdSt W base rb zb tb top T R w rcs cs) {a : Option Addr} {ss : List ByteArray} (hr : OwnStrs top w a ss) : RdSt W base rb zb tb top T ((a, ss) :: R) w rcs cs :=
  ⟨h.rd, h.res, h.tx, h.d1, h.d2, h.d3, h.t1, h.t2, h.t3, h.b1, h.b2, h.b3, h.tw, fun p hp => by
    rw [List.mem_cons] at hp
    rcases hp with rfl | hp
    · exact hr
    · exact h.rows p hp, h.bel⟩

set_option maxRecDepth 100000 in
set_option maxHeartbeats 400000 in
theorem number_ok {W : World} {base rb zb tb top : Nat} {R : List (Option Addr × List ByteArray)} {w : World} {rest : ByteArray} {cs : List Value} (st : RdSt W base rb zb tb top 204 R w [.string rest] cs) (hs : rest.size ≤ maxLen) (n k : Nat) (hr : getInt rest.data.toList = (n, k, 0)) :
    Calls Tryz.prog 158 #[.pointer (some ⟨rb, 0, none⟩)] w fun e w' => e = .returned (.int .i64 (n : Int)) ∧ RdSt W base rb zb tb top 204 R w' [.string (rest.extract k rest.size)] cs := by
  have c0 := st.rd.cell (i := 0) rfl
  have f0 := st.rd.frozen 0
  have fin := st.setR 0 (.string (rest.extract k rest.size))
  have hb := getInt_bounds _ n k hr
  have hl : rest.data.toList.length = rest.size := by simp
  have hk : (k : Int) ≤ rest.size := by omega
  have cG := fun w1 => getInt_at rest w1 n k 0 hs hr
  clear st hr hb hl hs
  go_enter Tryz.func158, Tryz.ntmps158
  go_wp2_with fail
  refine (cG _).mono ?_
  rintro e w1 ⟨rfl, rfl⟩
  go_wp2_with fail
  refine (must_ok _).mono ?_
  rintro e w2 ⟨rfl, rfl⟩
  go_wp2
  go_ret
  exact ⟨rfl, fin⟩

set_option maxRecDepth 100000 in
set_option maxHeartbeats 400000 in
theorem number_err {W : World} {base rb zb tb top : Nat} {R : List (Option Addr × List ByteArray)} {w : World} {rest : ByteArray} {cs : List Value} (st : RdSt W base rb zb tb top 204 R w [.string rest] cs) (hs : rest.size ≤ maxLen) (n k er : Nat) (hr : getInt rest.data.toList = (n, k, er)) (he : er ≠ 0) :
    Calls Tryz.prog 158 #[.pointer (some ⟨rb, 0, none⟩)] w fun e w' => e = .panicked (thrown er) ∧ w' = w := by
  have c0 := st.rd.cell (i := 0) rfl
  have cG := fun w1 => getInt_at rest w1 n k er hs hr
  have cM := must_err er he
  clear st hr hs
  go_enter Tryz.func158, Tryz.ntmps158
  go_wp2_with fail
  refine (cG _).mono ?_
  rintro e w1 ⟨rfl, rfl⟩
  go_wp2_with fail
  refine (cM _).mono ?_
  rintro e w2 ⟨rfl, rfl⟩
  go_wp2
  exact ⟨rfl, rfl, rfl⟩

set_option maxRecDepth 100000 in
set_option maxHeartbeats 400000 in
theorem text_ok {W : World} {base rb zb tb top : Nat} {R : List (Option Addr × List ByteArray)} {w : World} {rest : ByteArray} {cs : List Value} (st : RdSt W base rb zb tb top 204 R w [.string rest] cs) (hs : rest.size ≤ maxLen) (t : List UInt8) (k : Nat) (hr : getText rest.data.toList = (t, k, 0)) :
    Calls Tryz.prog 159 #[.pointer (some ⟨rb, 0, none⟩)] w fun e w' => e = .returned (.string ⟨t.toArray⟩) ∧ RdSt W base rb zb tb top 204 R w' [.string (rest.extract k rest.size)] cs := by
  have c0 := st.rd.cell (i := 0) rfl
  have f0 := st.rd.frozen 0
  have fin := st.setR 0 (.string (rest.extract k rest.size))
  have hb := getText_bounds _ t k hr
  have hl : rest.data.toList.length = rest.size := by simp
  have hk : (k : Int) ≤ rest.size := by omega
  have cG := fun w1 => getText_at rest w1 t k 0 hs hr
  clear st hr hb hl hs
  generalize (⟨t.toArray⟩ : ByteArray) = tt at *
  go_enter Tryz.func159, Tryz.ntmps159
  go_wp2_with fail
  refine (cG _).mono ?_
  rintro e w1 ⟨rfl, rfl⟩
  go_wp2_with fail
  refine (must_ok _).mono ?_
  rintro e w2 ⟨rfl, rfl⟩
  go_wp2
  go_ret
  exact ⟨rfl, fin⟩

set_option maxRecDepth 100000 in
set_option maxHeartbeats 400000 in
theorem text_err {W : World} {base rb zb tb top : Nat} {R : List (Option Addr × List ByteArray)} {w : World} {rest : ByteArray} {cs : List Value} (st : RdSt W base rb zb tb top 204 R w [.string rest] cs) (hs : rest.size ≤ maxLen) (t : List UInt8) (k er : Nat) (hr : getText rest.data.toList = (t, k, er)) (he : er ≠ 0) :
    Calls Tryz.prog 159 #[.pointer (some ⟨rb, 0, none⟩)] w fun e w' => e = .panicked (thrown er) ∧ w' = w := by
  have c0 := st.rd.cell (i := 0) rfl
  have cG := fun w1 => getText_at rest w1 t k er hs hr
  have cM := must_err er he
  clear st hr hs
  generalize (⟨t.toArray⟩ : ByteArray) = tt at *
  go_enter Tryz.func159, Tryz.ntmps159
  go_wp2_with fail
  refine (cG _).mono ?_
  rintro e w1 ⟨rfl, rfl⟩
  go_wp2_with fail
  refine (cM _).mono ?_
  rintro e w2 ⟨rfl, rfl⟩
  go_wp2
  exact ⟨rfl, rfl, rfl⟩

/-- A list of at most eight texts out of bytes. -/
theorem getList8 (s : ByteArray) (w : World) (hs : s.size ≤ maxLen) (ts : List (List UInt8)) (k er : Nat) (hr : getList s.data.toList 8 = (ts, k, er)) :
    Calls Tryz.prog 128 #[.string s, .int .i64 8] w fun e w' => ∃ ao cap, e = .returned (.tuple #[.slice ao (mks ts).length cap, .int .i64 (k : Int), .int .i64 (er : Int)]) ∧ OwnStrs w.heap.size w' ao (mks ts) ∧ (ao = none → cap = 0) ∧ Below w.heap.size w w' := by
  refine (getList_any s 8 w 8 hs (Or.inr (by omega)) (by omega)).mono ?_
  rintro e w' ⟨v, rfl, hg, hb⟩
  rw [hr] at hg
  obtain ⟨ao, cap, rfl, hown⟩ := hg
  have hml : (mks ts).length = ts.length := by simp [mks]
  refine ⟨ao, cap, by rw [hml], ?_, ?_, hb⟩
  · refine own_far (cap := cap) (n := ts.length) ?_ hml.symm
    rw [bl_mks]
    exact hown
  · intro he
    rcases hown.2 with ⟨hv, _⟩ | ⟨g, c, cur, hv, _⟩
    · simp at hv; exact hv.2.2
    · simp at hv; rw [hv.1] at he; cases he

set_option maxRecDepth 100000 in
set_option maxHeartbeats 400000 in
theorem keys_ok {W : World} {base rb zb tb top : Nat} {R : List (Option Addr × List ByteArray)} {w : World} {rest : ByteArray} {cs : List Value} (st : RdSt W base rb zb tb top 204 R w [.string rest] cs) (hs : rest.size ≤ maxLen) (ts : List (List UInt8)) (k : Nat) (hr : getList rest.data.toList 8 = (ts, k, 0)) (hk : k ≤ rest.size) :
    Calls Tryz.prog 160 #[.pointer (some ⟨rb, 0, none⟩)] w fun e w' => ∃ ao cap, e = .returned (.slice ao (mks ts).length cap) ∧ (ao = none → cap = 0) ∧ RdSt W base rb zb tb top 204 ((ao, mks ts) :: R) w' [.string (rest.extract k rest.size)] cs := by
  have c0 := st.rd.cell (i := 0) rfl
  replace hk : (k : Int) ≤ rest.size := by omega
  have cG := fun w1 => getList8 rest w1 hs ts k 0 hr
  clear hr hs
  generalize mks ts = ms at *
  go_enter Tryz.func160, Tryz.ntmps160
  go_wp2_with fail
  refine (cG _).mono ?_
  rintro e w1 ⟨ao, cap, rfl, hO, hn, hb⟩
  have st1 := (st.below hb).row (hO.mono st.tw)
  have fin := st1.setR 0 (.string (rest.extract k rest.size))
  have c1 := st1.rd.cell (i := 0) rfl
  have f1 := st1.rd.frozen 0
  clear st st1 c0 hO hb cG
  go_wp2_with fail
  refine (must_ok _).mono ?_
  rintro e w2 ⟨rfl, rfl⟩
  go_wp2
  go_ret
  exact ⟨ao, cap, rfl, hn, fin⟩

set_option maxRecDepth 100000 in
set_option maxHeartbeats 400000 in
theorem keys_err {W : World} {base rb zb tb top : Nat} {R : List (Option Addr × List ByteArray)} {w : World} {rest : ByteArray} {cs : List Value} (st : RdSt W base rb zb tb top 204 R w [.string rest] cs) (hs : rest.size ≤ maxLen) (ts : List (List UInt8)) (k er : Nat) (hr : getList rest.data.toList 8 = (ts, k, er)) (he : er ≠ 0) :
    Calls Tryz.prog 160 #[.pointer (some ⟨rb, 0, none⟩)] w fun e w' => e = .panicked (thrown er) ∧ Below w.heap.size w w' := by
  have c0 := st.rd.cell (i := 0) rfl
  have cG := fun w1 => getList8 rest w1 hs ts k er hr
  have cM := must_err er he
  clear hr hs st
  generalize mks ts = ms at *
  go_enter Tryz.func160, Tryz.ntmps160
  go_wp2_with fail
  refine (cG _).mono ?_
  rintro e w1 ⟨ao, cap, rfl, hO, hn, hb⟩
  clear hO hn c0 cG
  go_wp2_with fail
  refine (cM _).mono ?_
  rintro e w2 ⟨rfl, rfl⟩
  go_wp2
  exact ⟨rfl, rfl, hb⟩
end Go.Proofs.YtaoiejgbbmjpkaaGreatDoor
