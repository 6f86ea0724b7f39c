/- MsgAsks: for every input the statement answers true, and each argument reads afterwards as it read before. No condition. -/
import Derived.Test.YtmngiekobmhpaaaPk12
import Derived.BigQuiet
import Derived.Test.YtmngiekobmhpaaaPk02
/- What tusklaw09.works does: it says yes; nothing old in memory is turned. -/
namespace Go.Proofs.Ytmngiekobmhpaaa
open Go.RowKit
set_option linter.unusedVariables false

/-- A message that asks. -/
def askM (k : Int) (d : ByteArray) : MsgM := ⟨k, d, 0, tagZ, bat0, hdr9, cert0, blk0, qc0⟩

theorem askM_at (k : Int) (d : ByteArray) (w : World) : (askM k d).At w := ⟨(msg0_at k w).bat, (msg0_at k w).hdr, (msg0_at k w).cert, (msg0_at k w).blk, (msg0_at k w).qc⟩

theorem askM_num (k : Int) (d : ByteArray) : (askM k d).Num :=
  ⟨Nat.zero_le _, (fun t ht => by cases ht), Nat.zero_le _, Nat.zero_le _, (fun t ht => by cases ht), Nat.zero_le _, Nat.zero_le _, (fun t ht => by cases ht), Nat.zero_le _, Nat.zero_le _, Nat.zero_le _, Nat.zero_le _⟩

theorem ask_fields {k : Int} (hk : k = 9 ∨ k = 10 ∨ k = 11) : fieldsK k = [100] := by
  rcases hk with rfl | rfl | rfl <;> rfl

theorem ask_chk {k : Int} (hk : k = 9 ∨ k = 10 ∨ k = 11) (d : ByteArray) : chkM (askM k d).d = if d.size = 32 then 0 else 3 := by
  have hf : fieldsK (askM k d).d.kind = [100] := ask_fields hk
  have hb : (askM k d).d.Bare := ⟨Or.inl (by rw [hf]; decide), Or.inr rfl, Or.inr ⟨rfl, rfl⟩, Or.inr ⟨rfl, rfl, rfl⟩, Or.inr ⟨rfl, rfl, rfl, rfl⟩, Or.inr ⟨⟨rfl, rfl, rfl, rfl⟩, rfl⟩, Or.inr ⟨rfl, ⟨rfl, rfl, rfl⟩, rfl⟩, Or.inr ⟨rfl, rfl, rfl⟩⟩
  have h98 : ¬ (98 : UInt8) ∈ fieldsK (askM k d).d.kind := by rw [hf]; decide
  have hok := okM_plain hb h98
  have hne : ¬ fieldsK (askM k d).d.kind = [] := by rw [hf]; simp
  unfold chkM
  rw [if_neg hne, if_neg (fun h => h hb), if_neg h98]
  by_cases hz : d.size = 32
  · rw [if_pos hz, if_pos]
    rw [hok, hf]
    intro c hc
    rw [List.mem_singleton.1 hc]
    exact decide_eq_true hz
  · rw [if_neg hz, if_neg]
    rw [hok, hf]
    intro h
    exact hz (of_decide_eq_true (h 100 (by decide)))

/-- Its bytes. -/
def askB (k : UInt8) (d : ByteArray) : ByteArray := ⟨(k :: 32 :: d.data.toList).toArray⟩

theorem ask_enc (k : Nat) (hk : k = 9 ∨ k = 10 ∨ k = 11) (d : ByteArray) (hd : d.size = 32) : encM (askM (k : Int) d).d = k.toUInt8 :: 32 :: d.data.toList := by
  have hk' : (k : Int) = 9 ∨ (k : Int) = 10 ∨ (k : Int) = 11 := by omega
  have hf : fieldsK (askM (k : Int) d).d.kind = [100] := ask_fields hk'
  unfold encM
  rw [hf]
  show goInt (k : Int) ++ [100].flatMap (fieldB (askM (k : Int) d).d) = _
  rw [List.flatMap_cons, List.flatMap_nil, List.append_nil]
  show goInt (k : Int) ++ txt d.data.toList = _
  have e1 : goInt (k : Int) = [k.toUInt8] := by
    rcases hk with rfl | rfl | rfl <;> decide
  have e2 : txt d.data.toList = 32 :: d.data.toList := by
    unfold txt
    have : d.data.toList.length = 32 := by simpa using hd
    rw [this]
    rfl
  rw [e1, e2]
  rfl

theorem askEncode_any (k : Nat) (hk : k = 9 ∨ k = 10 ∨ k = 11) (d : ByteArray) (w : World) :
    Calls Try.prog 7 #[.agg [.int .i64 (k : Int), .string d, .int .i64 0, .int .i64 0, .string ⟨#[]⟩, .int .i64 0, .int .i64 0, .slice none 0 0, .int .i64 0, .int .i64 0, .slice none 0 0, .slice none 0 0, .int .i64 0, .int .i64 0, .slice none 0 0, .slice none 0 0, .slice none 0 0, .int .i64 0, .int .i64 0, .string ⟨#[]⟩, .slice none 0 0, .slice none 0 0, .int .i64 0, .string ⟨#[]⟩, .slice none 0 0].toArray] w fun e w' => e = .returned (.tuple #[.string (if d.size = 32 then askB k.toUInt8 d else ⟨#[]⟩), .int .i64 (((if d.size = 32 then 0 else 3 : Nat)) : Int)]) ∧ Below w.heap.size w w' := by
  have hk' : (k : Int) = 9 ∨ (k : Int) = 10 ∨ (k : Int) = 11 := by omega
  have h := msgEncode_any (askM (k : Int) d) w (askM_at _ _ _) (askM_num _ _)
  have e2 : encMB (askM (k : Int) d).d = if d.size = 32 then askB k.toUInt8 d else ⟨#[]⟩ := by
    unfold encMB
    rw [ask_chk hk']
    by_cases hz : d.size = 32
    · rw [if_pos hz, if_pos rfl, if_pos hz, ask_enc k hk d hz]
      rfl
    · rw [if_neg hz, if_neg (by decide), if_neg hz]
  rw [e2, ask_chk hk'] at h
  exact h

theorem results_msg_tmp {fn : Func} {p u : Tmp} (h : fn.results = #[.cell p 39, .tmp u]) (tmps : Array Value) (w : World) (g : Nat) (x : MsgM)
    (hp : tmps.getD p undef = .pointer (some ⟨g, 0, none⟩)) (hg : Arr w g 39 x.c) (v : Value) (hv : tmps.getD u undef = v) :
    (results fn tmps).run Try.prog w = .ok (.tuple #[x.v, v]) w := by
  rw [results_cell_tmp h, hp, hv]
  have hl := run_loadVar_row w g 39 39 x.c.toArray (0, 0) _ hg Try.underlying39 rfl infoMsg9
  simp [asAddr, hl, MsgM.v, Result.andThen]

set_option maxRecDepth 100000 in
set_option maxHeartbeats 2000000 in
theorem decode12 (w : World) :
    Calls Try.prog 51 #[.string ⟨#[12]⟩] w fun e w' => e = .returned (.tuple #[.agg [.int .i64 0, .string ⟨#[]⟩, .int .i64 0, .int .i64 0, .string ⟨#[]⟩, .int .i64 0, .int .i64 0, .slice none 0 0, .int .i64 0, .int .i64 0, .slice none 0 0, .slice none 0 0, .int .i64 0, .int .i64 0, .slice none 0 0, .slice none 0 0, .slice none 0 0, .int .i64 0, .int .i64 0, .string ⟨#[]⟩, .slice none 0 0, .slice none 0 0, .int .i64 0, .string ⟨#[]⟩, .slice none 0 0].toArray, .int .i64 5]) ∧ Below w.heap.size w w' := by
  have hX := Arr.new w 39 [.int .i64 0, .string ⟨#[]⟩, .int .i64 0, .int .i64 0, .string ⟨#[]⟩, .int .i64 0, .int .i64 0, .slice none 0 0, .int .i64 0, .int .i64 0, .slice none 0 0, .slice none 0 0, .int .i64 0, .int .i64 0, .slice none 0 0, .slice none 0 0, .slice none 0 0, .int .i64 0, .int .i64 0, .string ⟨#[]⟩, .slice none 0 0, .slice none 0 0, .int .i64 0, .string ⟨#[]⟩, .slice none 0 0]
  have hB := belowNew w (.cells [.int .i64 0, .string ⟨#[]⟩, .int .i64 0, .int .i64 0, .string ⟨#[]⟩, .int .i64 0, .int .i64 0, .slice none 0 0, .int .i64 0, .int .i64 0, .slice none 0 0, .slice none 0 0, .int .i64 0, .int .i64 0, .slice none 0 0, .slice none 0 0, .slice none 0 0, .int .i64 0, .int .i64 0, .string ⟨#[]⟩, .slice none 0 0, .slice none 0 0, .int .i64 0, .string ⟨#[]⟩, .slice none 0 0].toArray 39)
  have cG : ∀ w1, Calls Try.prog 72 #[.string ⟨#[12]⟩] w1 fun e w' => e = .returned (.tuple #[.int .i64 12, .int .i64 1, .int .i64 0]) ∧ w' = w1 := fun w1 => getInt_any ⟨#[12]⟩ w1 (by decide)
  have cL : ∀ w1, Calls Try.prog 22 #[.int .i64 12] w1 fun e w' => e = .returned (.string ⟨#[]⟩) ∧ w' = w1 := fun w1 => letters_any 12 w1
  obtain ⟨w1, hw1⟩ : ∃ q', w.alloc (.cells [.int .i64 0, .string ⟨#[]⟩, .int .i64 0, .int .i64 0, .string ⟨#[]⟩, .int .i64 0, .int .i64 0, .slice none 0 0, .int .i64 0, .int .i64 0, .slice none 0 0, .slice none 0 0, .int .i64 0, .int .i64 0, .slice none 0 0, .slice none 0 0, .slice none 0 0, .int .i64 0, .int .i64 0, .string ⟨#[]⟩, .slice none 0 0, .slice none 0 0, .int .i64 0, .string ⟨#[]⟩, .slice none 0 0].toArray 39) = q' := ⟨_, rfl⟩
  rw [hw1] at hX hB
  have h1 : (List.toArray (α := Value) [.int .i64 0, .string ⟨#[]⟩, .int .i64 0, .int .i64 0, .string ⟨#[]⟩, .int .i64 0, .int .i64 0, .slice none 0 0, .int .i64 0, .int .i64 0, .slice none 0 0, .slice none 0 0, .int .i64 0, .int .i64 0, .slice none 0 0, .slice none 0 0, .slice none 0 0, .int .i64 0, .int .i64 0, .string ⟨#[]⟩, .slice none 0 0, .slice none 0 0, .int .i64 0, .string ⟨#[]⟩, .slice none 0 0]).all (·.oneCell') = true := Array.all_eq_true_iff_forall_mem.2 (fun v hv => msgK.one (msg0 0) v (List.mem_toArray.1 hv))
  have hF := hX.row [.int .i64 0, .string ⟨#[]⟩, .int .i64 0, .int .i64 0, .string ⟨#[]⟩, .int .i64 0, .int .i64 0, .slice none 0 0, .int .i64 0, .int .i64 0, .slice none 0 0, .slice none 0 0, .int .i64 0, .int .i64 0, .slice none 0 0, .slice none 0 0, .slice none 0 0, .int .i64 0, .int .i64 0, .string ⟨#[]⟩, .slice none 0 0, .slice none 0 0, .int .i64 0, .string ⟨#[]⟩, .slice none 0 0]
  have hBF := below_setRow hB (g := w.heap.size) (Nat.le_refl _) [.int .i64 0, .string ⟨#[]⟩, .int .i64 0, .int .i64 0, .string ⟨#[]⟩, .int .i64 0, .int .i64 0, .slice none 0 0, .int .i64 0, .int .i64 0, .slice none 0 0, .slice none 0 0, .int .i64 0, .int .i64 0, .slice none 0 0, .slice none 0 0, .slice none 0 0, .int .i64 0, .int .i64 0, .string ⟨#[]⟩, .slice none 0 0, .slice none 0 0, .int .i64 0, .string ⟨#[]⟩, .slice none 0 0].toArray
  go_enter Try.func51, Try.ntmps51
  go_wp2_with fail
  refine (cG _).mono ?_
  rintro e w2 ⟨rfl, hw2⟩
  rw [← hw2] at hX hF hBF
  clear hw2 hw1 cG
  go_wp2_with fail
  refine (cL _).mono ?_
  rintro e w3 ⟨rfl, hw3⟩
  rw [← hw3] at hX hF hBF
  clear hw3 cL
  go_wp2_with (refine wpList_store_row (by rfl) 39 _ _ (by rfl) w.heap.size [.int .i64 0, .string ⟨#[]⟩, .int .i64 0, .int .i64 0, .string ⟨#[]⟩, .int .i64 0, .int .i64 0, .slice none 0 0, .int .i64 0, .int .i64 0, .slice none 0 0, .slice none 0 0, .int .i64 0, .int .i64 0, .slice none 0 0, .slice none 0 0, .slice none 0 0, .int .i64 0, .int .i64 0, .string ⟨#[]⟩, .slice none 0 0, .slice none 0 0, .int .i64 0, .string ⟨#[]⟩, .slice none 0 0].toArray (by rfl) (by rfl) 39 _ hX infoMsg9 (by rfl) h1 ?_)
  refine bodyPost_ret (v := .tuple #[MsgM.v (msg0 0), .int .i64 5]) ?r1 ?r2 ?r3
  case r1 => exact results_msg_tmp rfl _ _ w.heap.size (msg0 0) rfl hF _ rfl
  case r2 => rfl
  exact ⟨rfl, hBF⟩

/-- Thirty-two zero bytes. -/
def zero32 : ByteArray := ⟨(List.replicate 32 0).toArray⟩
def zeroC9 : List Value := List.replicate 32 (.int .u8 0)

theorem zeroC9_get (j : Nat) (hj : j < zero32.data.toList.length) : zeroC9[j]? = some (.int .u8 (zero32.data.toList[j].toNat : Int)) := by
  have hj' : j < 32 := hj
  have e1 : zeroC9[j]? = some (.int .u8 0) := by unfold zeroC9; rw [List.getElem?_replicate, if_pos hj']
  have e2 : zero32.data.toList[j]? = some 0 := by
    show (List.replicate 32 (0 : UInt8))[j]? = _
    rw [List.getElem?_replicate, if_pos hj']
  rw [List.getElem?_eq_getElem hj, Option.some.injEq] at e2
  rw [e1, e2]
  rfl

set_option maxRecDepth 100000 in
set_option maxHeartbeats 4000000 in
theorem works9_any (w : World) :
    Calls Try.prog 12 #[] w fun e w' => e = .returned (.bool true) ∧ Below w.heap.size w w' := by
  have hms : ∀ w : World, (Instr.makeSlice 57 (.int .i64 32) (.int .i64 32)).run Try.prog w = .ok (.slice (some ⟨w.heap.size, 0, none⟩) 32 32) (w.alloc (.cells zeroC9.toArray 5)) := fun _ => by kernel_rfl
  have hB := belowNew w (.cells zeroC9.toArray 5)
  have hM := Arr.new w 5 zeroC9
  have hcv : (convert 57 9 (.slice (some ⟨w.heap.size, 0, none⟩) 32 32)).run Try.prog (w.alloc (.cells zeroC9.toArray 5)) = .ok (.string zero32) (w.alloc (.cells zeroC9.toArray 5)) := by
    refine run_convert_bytes_back (P := Try.prog) _ 57 9 5 ⟨w.heap.size, 0, none⟩ 32 zero32.data.toList Try.underlying57 Try.underlying5 Try.underlying9 (fun j hj => ?_)
    rw [Go.WideShapes.add_plain, Nat.zero_add]
    exact hM.cell (zeroC9_get j hj)
  have hz : zero32.size = 32 := rfl
  have hz1 : (zero32.extract 1 32).size = 31 := rfl
  have c1 : ∀ w1, Calls Try.prog 7 #[.agg [.int .i64 9, .string zero32, .int .i64 0, .int .i64 0, .string ⟨#[]⟩, .int .i64 0, .int .i64 0, .slice none 0 0, .int .i64 0, .int .i64 0, .slice none 0 0, .slice none 0 0, .int .i64 0, .int .i64 0, .slice none 0 0, .slice none 0 0, .slice none 0 0, .int .i64 0, .int .i64 0, .string ⟨#[]⟩, .slice none 0 0, .slice none 0 0, .int .i64 0, .string ⟨#[]⟩, .slice none 0 0].toArray] w1 fun e w' => e = .returned (.tuple #[.string (askB 9 zero32), .int .i64 0]) ∧ Below w1.heap.size w1 w' := fun w1 => by
    have := askEncode_any 9 (Or.inl rfl) zero32 w1
    rw [if_pos hz, if_pos hz] at this
    exact this
  have c2 : ∀ w1, Calls Try.prog 7 #[.agg [.int .i64 9, .string (zero32.extract 1 32), .int .i64 0, .int .i64 0, .string ⟨#[]⟩, .int .i64 0, .int .i64 0, .slice none 0 0, .int .i64 0, .int .i64 0, .slice none 0 0, .slice none 0 0, .int .i64 0, .int .i64 0, .slice none 0 0, .slice none 0 0, .slice none 0 0, .int .i64 0, .int .i64 0, .string ⟨#[]⟩, .slice none 0 0, .slice none 0 0, .int .i64 0, .string ⟨#[]⟩, .slice none 0 0].toArray] w1 fun e w' => e = .returned (.tuple #[.string ⟨#[]⟩, .int .i64 3]) ∧ Below w1.heap.size w1 w' := fun w1 => by
    have := askEncode_any 9 (Or.inl rfl) (zero32.extract 1 32) w1
    rw [if_neg (by rw [hz1]; decide), if_neg (by rw [hz1]; decide)] at this
    exact this
  have c3 := decode12
  have hjo : (⟨#[9, 32]⟩ : ByteArray) ++ zero32 = askB 9 zero32 := by rfl
  obtain ⟨t, ht⟩ : ∃ t, t = askB 9 zero32 := ⟨_, rfl⟩
  rw [← ht] at c1 hjo
  obtain ⟨g, hg⟩ : ∃ t, t = zero32 := ⟨_, rfl⟩
  rw [← hg] at hcv hz c1 c2 hjo
  obtain ⟨w1, hw1⟩ : ∃ q', w.alloc (.cells zeroC9.toArray 5) = q' := ⟨_, rfl⟩
  rw [hw1] at hcv hB
  clear hM hg ht hz1
  go_enter Try.func12, Try.ntmps12
  go_wp2_with fail
  refine (c1 _).mono ?_
  rintro e w2 ⟨rfl, hb2⟩
  have hB2 := hB.trans (hb2.mono hB.size)
  clear hB hb2 c1 hw1 hcv hms
  go_wp2_with fail
  refine (c2 _).mono ?_
  rintro e w3 ⟨rfl, hb3⟩
  have hB3 := hB2.trans (hb3.mono hB2.size)
  clear hB2 hb3 c2
  go_wp2_with fail
  refine (c3 _).mono ?_
  rintro e w4 ⟨rfl, hb4⟩
  have hB4 := hB3.trans (hb4.mono hB3.size)
  clear hB3 hb4 c3
  have hX := Arr.new w4 39 [.int .i64 0, .string ⟨#[]⟩, .int .i64 0, .int .i64 0, .string ⟨#[]⟩, .int .i64 0, .int .i64 0, .slice none 0 0, .int .i64 0, .int .i64 0, .slice none 0 0, .slice none 0 0, .int .i64 0, .int .i64 0, .slice none 0 0, .slice none 0 0, .slice none 0 0, .int .i64 0, .int .i64 0, .string ⟨#[]⟩, .slice none 0 0, .slice none 0 0, .int .i64 0, .string ⟨#[]⟩, .slice none 0 0]
  have hbx := hB4.alloc hB4.size (.cells [.int .i64 0, .string ⟨#[]⟩, .int .i64 0, .int .i64 0, .string ⟨#[]⟩, .int .i64 0, .int .i64 0, .slice none 0 0, .int .i64 0, .int .i64 0, .slice none 0 0, .slice none 0 0, .int .i64 0, .int .i64 0, .slice none 0 0, .slice none 0 0, .slice none 0 0, .int .i64 0, .int .i64 0, .string ⟨#[]⟩, .slice none 0 0, .slice none 0 0, .int .i64 0, .string ⟨#[]⟩, .slice none 0 0].toArray 39)
  have h1 : (List.toArray (α := Value) [.int .i64 0, .string ⟨#[]⟩, .int .i64 0, .int .i64 0, .string ⟨#[]⟩, .int .i64 0, .int .i64 0, .slice none 0 0, .int .i64 0, .int .i64 0, .slice none 0 0, .slice none 0 0, .int .i64 0, .int .i64 0, .slice none 0 0, .slice none 0 0, .slice none 0 0, .int .i64 0, .int .i64 0, .string ⟨#[]⟩, .slice none 0 0, .slice none 0 0, .int .i64 0, .string ⟨#[]⟩, .slice none 0 0]).all (·.oneCell') = true := Array.all_eq_true_iff_forall_mem.2 (fun v hv => msgK.one (msg0 0) v (List.mem_toArray.1 hv))
  have hF := hX.row [.int .i64 0, .string ⟨#[]⟩, .int .i64 0, .int .i64 0, .string ⟨#[]⟩, .int .i64 0, .int .i64 0, .slice none 0 0, .int .i64 0, .int .i64 0, .slice none 0 0, .slice none 0 0, .int .i64 0, .int .i64 0, .slice none 0 0, .slice none 0 0, .slice none 0 0, .int .i64 0, .int .i64 0, .string ⟨#[]⟩, .slice none 0 0, .slice none 0 0, .int .i64 0, .string ⟨#[]⟩, .slice none 0 0]
  have hBF := below_setRow hbx (g := w4.heap.size) hB4.size [.int .i64 0, .string ⟨#[]⟩, .int .i64 0, .int .i64 0, .string ⟨#[]⟩, .int .i64 0, .int .i64 0, .slice none 0 0, .int .i64 0, .int .i64 0, .slice none 0 0, .slice none 0 0, .int .i64 0, .int .i64 0, .slice none 0 0, .slice none 0 0, .slice none 0 0, .int .i64 0, .int .i64 0, .string ⟨#[]⟩, .slice none 0 0, .slice none 0 0, .int .i64 0, .string ⟨#[]⟩, .slice none 0 0].toArray
  go_wp2_with (refine wpList_store_row (by rfl) 39 _ _ (by rfl) w4.heap.size [.int .i64 0, .string ⟨#[]⟩, .int .i64 0, .int .i64 0, .string ⟨#[]⟩, .int .i64 0, .int .i64 0, .slice none 0 0, .int .i64 0, .int .i64 0, .slice none 0 0, .slice none 0 0, .int .i64 0, .int .i64 0, .slice none 0 0, .slice none 0 0, .slice none 0 0, .int .i64 0, .int .i64 0, .string ⟨#[]⟩, .slice none 0 0, .slice none 0 0, .int .i64 0, .string ⟨#[]⟩, .slice none 0 0].toArray (by rfl) (by rfl) 39 _ hX infoMsg9 (by rfl) h1 ?_)
  go_ret
  exact ⟨rfl, hBF⟩
end Go.Proofs.Ytmngiekobmhpaaa

/- The walk of MsgAsks: at every text it answers true; nothing old in memory is turned. -/
namespace Go.Proofs.Ytmngiekobmhpaaa
open Go.RowKit
set_option linter.unusedVariables false

theorem askB_size (k : UInt8) (d : ByteArray) (hd : d.size = 32) : (askB k d).size = 34 := by
  have : d.data.toList.length = 32 := by simpa using hd
  show (askB k d).data.toList.length = 34
  simp only [askB, List.length_cons, this]

theorem askB_rest (k : UInt8) (d : ByteArray) (hd : d.size = 32) : (askB k d).extract 1 34 = ⟨(32 :: d.data.toList).toArray⟩ := by
  have hl : d.data.toList.length = 32 := by simpa using hd
  apply ByteArray.ext
  rw [ByteArray.data_extract]
  apply Array.ext'
  rw [Array.toList_extract]
  simp only [askB, List.extract_eq_take_drop, List.drop_succ_cons, List.drop_zero]
  rw [List.take_of_length_le (by simp; omega)]

set_option maxRecDepth 100000 in
set_option maxHeartbeats 8000000 in
theorem msgAsks_walk (d : ByteArray) (w : World) (hs : d.size ≤ 140737488351232) :
    Calls Try.prog 4 #[.string d] w fun e w' => e = .returned (.bool true) ∧ Below w.heap.size w w' := by
  have cW := works9_any w
  have c1 := fun w1 => askEncode_any 9 (Or.inl rfl) d w1
  have c2 := fun w1 => askEncode_any 10 (Or.inr (Or.inl rfl)) d w1
  have c3 := fun w1 => askEncode_any 11 (Or.inr (Or.inr rfl)) d w1
  go_enter Try.func4, Try.ntmps4
  go_wp2_with fail
  refine cW.mono ?_
  rintro e w1 ⟨rfl, hB⟩
  clear cW
  by_cases hbig : (1000 : Int) < (d.size : Int)
  · clear c1 c2 c3
    go_wp2
    go_ret
    exact ⟨rfl, hB⟩
  by_cases hd : d.size = 32
  · rw [if_pos hd, if_pos hd] at c1 c2 c3
    have a1 := askB_size 9 d hd
    have a2 := askB_size 10 d hd
    have a3 := askB_size 11 d hd
    have r1 := askB_rest 9 d hd
    have r2 := askB_rest 10 d hd
    have r3 := askB_rest 11 d hd
    have i1 : (askB 9 d)[0]'(by rw [a1]; decide) = 9 := rfl
    have i2 : (askB 10 d)[0]'(by rw [a2]; decide) = 10 := rfl
    have i3 : (askB 11 d)[0]'(by rw [a3]; decide) = 11 := rfl
    generalize (⟨(32 :: d.data.toList).toArray⟩ : ByteArray) = rest at *
    have c1' : ∀ w1, Calls Try.prog 7 _ w1 fun e w' => e = .returned (.tuple #[.string (askB 9 d), .int .i64 0]) ∧ Below w1.heap.size w1 w' := c1
    have c2' : ∀ w1, Calls Try.prog 7 _ w1 fun e w' => e = .returned (.tuple #[.string (askB 10 d), .int .i64 0]) ∧ Below w1.heap.size w1 w' := c2
    have c3' : ∀ w1, Calls Try.prog 7 _ w1 fun e w' => e = .returned (.tuple #[.string (askB 11 d), .int .i64 0]) ∧ Below w1.heap.size w1 w' := c3
    clear c1 c2 c3
    generalize askB 9 d = t1 at *
    generalize askB 10 d = t2 at *
    generalize askB 11 d = t3 at *
    have hd' : ((d.size : Int) != 32) = false := by rw [bne_eq_false_iff_eq]; omega
    clear hd
    go_wp2_with fail
    refine (c1' _).mono ?_
    rintro e w2 ⟨rfl, hb2⟩
    have hB2 := hB.trans (hb2.mono hB.size)
    clear hB hb2 c1'
    go_wp2_with fail
    refine (c2' _).mono ?_
    rintro e w3 ⟨rfl, hb3⟩
    have hB3 := hB2.trans (hb3.mono hB2.size)
    clear hB2 hb3 c2'
    go_wp2_with fail
    refine (c3' _).mono ?_
    rintro e w4 ⟨rfl, hb4⟩
    have hB4 := hB3.trans (hb4.mono hB3.size)
    clear hB3 hb4 c3'
    go_wp2_with fail
    go_big_quiet (fail)
    have hB5 := below_drewN hB4 nq
    generalize w4.drewN nq = w5 at hB5 ⊢
    clear hB4
    go_wp2
    go_ret
    exact ⟨rfl, hB5⟩
  · rw [if_neg hd, if_neg hd] at c1 c2 c3
    have c1' : ∀ w1, Calls Try.prog 7 _ w1 fun e w' => e = .returned (.tuple #[.string ⟨#[]⟩, .int .i64 3]) ∧ Below w1.heap.size w1 w' := c1
    have c2' : ∀ w1, Calls Try.prog 7 _ w1 fun e w' => e = .returned (.tuple #[.string ⟨#[]⟩, .int .i64 3]) ∧ Below w1.heap.size w1 w' := c2
    have c3' : ∀ w1, Calls Try.prog 7 _ w1 fun e w' => e = .returned (.tuple #[.string ⟨#[]⟩, .int .i64 3]) ∧ Below w1.heap.size w1 w' := c3
    have hd' : ((d.size : Int) != 32) = true := by rw [bne_iff_ne]; omega
    clear hd c1 c2 c3
    go_wp2_with fail
    refine (c1' _).mono ?_
    rintro e w2 ⟨rfl, hb2⟩
    have hB2 := hB.trans (hb2.mono hB.size)
    clear hB hb2 c1'
    go_wp2_with fail
    refine (c2' _).mono ?_
    rintro e w3 ⟨rfl, hb3⟩
    have hB3 := hB2.trans (hb3.mono hB2.size)
    clear hB2 hb3 c2'
    go_wp2_with fail
    refine (c3' _).mono ?_
    rintro e w4 ⟨rfl, hb4⟩
    have hB4 := hB3.trans (hb4.mono hB3.size)
    clear hB3 hb4 c3'
    go_wp2
    go_ret
    exact ⟨rfl, hB4⟩
end Go.Proofs.Ytmngiekobmhpaaa

/- MsgAsks: for every input the statement answers true, and each argument reads afterwards as it read before. No condition. -/
namespace Go.Proofs.Ytmngiekobmhpaaa
open Go.ChangeShapes Go.WideShapes Go.ChangeAt Go.RowKit
open Go.ChangeMaps (open_string shut_string)
set_option linter.unusedVariables false

set_option maxRecDepth 100000 in
theorem msgAsks_lifted (os : Os) (started : os.Started) (H : Type) (enc : TypeId × Value → H) :
    ReturnsInHanded {} Try.checked os 4 .any (Rows.msgAsksSpec.pre6 enc Try.prog Try.f4 Rows.msgAsksRow.domain false) (Rows.msgAsksSpec.post enc Try.prog Try.f4 false true false false) := by
  refine returnsInHanded_of_change_sized (C := Try.checked) ownKnob_none started (by kernel_rfl) Try.func4
    (ChangeSpec.witness6 (enc := enc) (C := Try.checked) false ⟨#[], #[.string ByteArray.empty], []⟩ 8 (by kernel_rfl) (by kernel_rfl) (by kernel_rfl) (by kernel_rfl)) ?_
  intro W base args ds gs before hval0 hW hcnd hsz0 _
  have hval : ∀ (j : Nat) t v, Try.f4.params[j]? = some t → args[j]? = some v → Value.okWide Try.prog W .any base t v := hval0
  have hsz : (DataW.weightsEach Try.prog (Try.f4.params.toList ++ Rows.msgAsksSpec.plain.varTypes Try.prog) (ds ++ gs)).all (· ≤ reachBytes) = true := hsz0
  have hW' := hW
  obtain ⟨p, q, hA0, hV, rfl, hfz, hnd⟩ := hW
  have hA : DataW.TrodAll enc Try.prog W 0 (fun _ => true) true Try.f4.params.toList args.toList ds p := hA0
  rw [Try.params4] at hA hval hsz
  obtain ⟨v0, vs0, d0, ds0, p0, q0, hargs, rfl, rfl, h0, r0⟩ := trodAll_cons hA
  obtain ⟨rfl, rfl, rfl⟩ := trodAll_nil r0
  obtain rfl : args = #[v0] := by cases args; simp_all
  obtain ⟨rfl, rfl⟩ := trodVars_none hV
  have k0 := h0
  have lt0 : ∀ x ∈ p0, x.block < W.heap.size := by obtain ⟨m, hm⟩ := k0; exact DataW.trod_lt m _ _ _ hm
  obtain ⟨a0, rfl, hd0, hp0, w0⟩ := open_string Try.underlying9 (hval 0 9 v0 rfl rfl) h0
  have s0 : a0.size ≤ 140737488351232 := by
    have := sized_string hsz (j := 0) (t := 9) (bytes := a0.data.toList) rfl (by rw [hd0]; rfl)
    simpa [reachBytes] using this
  clear hA0 hval0 hsz0
  refine (msgAsks_walk a0 W s0).mono fun e W' ⟨he, bel⟩ => ?_
  subst he
  exact ⟨_, rfl, _, _, _, [], _, [], hW', trodAll_mk1 (shut_bool Try.underlying4 _), (trodAll_cons_mk (Below.trod laidOut_true (by kernel_rfl) (of_decide_eq_true (by kernel_rfl)) k0 bel lt0) trodAll_mk0), rfl, bel.frame _, fun h => by cases h⟩

theorem msgAsks_holds : Rows.MsgAsksSaid :=
  OpenClaim.holds_of_wide 4 Try.f4 rfl rfl rfl rfl rfl rfl rfl ⟨rfl, rfl, rfl, rfl, rfl⟩ rfl rfl rfl rfl rfl (by kernel_rfl) Try.func4 (by kernel_rfl)
    (of_decide_eq_true (by kernel_rfl)) (by unfold Func.isWrapper; rw [if_neg (of_decide_eq_false (by kernel_rfl))]; exact ⟨rfl, rfl⟩)
    (fun os started H enc _ => msgAsks_lifted os started H enc)
end Go.Proofs.Ytmngiekobmhpaaa
