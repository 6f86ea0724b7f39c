/- Texts as one: MsgWordParts, TxMath, Frame, TxFrame, TxName, TxCheck, TxRight, Bld. -/
import Derived.Test.YtaoiejgbbmjpkaaGreatDoorWk03
import Derived.Test.YtaoiejgbbmjpkaaGreatDoorWk02
import Derived.Test.YtaoiejgbbmjpkaaGreatDoorWk01
import Derived.ProofKit
import Derived.OpenShut
import Derived.ShutString
import Derived.ChangeOld
import Derived.Below
import Derived.SizedLaws
import Derived.SliceStrings
import Derived.Lib.SmallJoins
/- How the words of a header's and of a certificate's tags are listed. -/
namespace Go.Proofs.YtaoiejgbbmjpkaaGreatDoor
open Go.RowKit
set_option linter.unusedVariables false

def ackB : ByteArray := ⟨#[97, 99, 107]⟩
def voteB : ByteArray := ⟨#[118, 111, 116, 101]⟩
def agreeB : ByteArray := ⟨#[97, 103, 114, 101, 101]⟩
def proposeB : ByteArray := ⟨#[112, 114, 111, 112, 111, 115, 101]⟩
def newviewB : ByteArray := ⟨#[110, 101, 119, 118, 105, 101, 119]⟩

/-- The words of the tags in Refs. -/
def refWords (l : List RefD) : List WordD := l.flatMap (fun r => ofWord ackB r.digest r.acks)

/-- The words of the tags in a quorum's certificate. -/
def qcWords (q : QcD) : List WordD := ofWord agreeB (wordB q.view q.block) q.votes

theorem refWords_succ (l : List RefM) (k : Nat) (r : RefM) (h : l[k]? = some r) : refWords (rd (l.take (k + 1))) = refWords (rd (l.take k)) ++ ofWord ackB r.digest r.acks := by
  have hk := (List.getElem?_eq_some_iff.1 h).1
  have he := (List.getElem?_eq_some_iff.1 h).2
  rw [List.take_succ_eq_append_getElem hk, he]
  simp [refWords, rd, RefM.d]

theorem refWords_le (l : List RefM) (k : Nat) : (refWords (rd (l.take k))).length ≤ (refWords (rd l)).length := by
  conv => rhs; rw [← List.take_append_drop k l]
  simp only [refWords, rd, List.map_append, List.flatMap_append, List.length_append]
  omega

set_option maxRecDepth 100000 in
set_option maxHeartbeats 1000000 in
theorem wordsHeader_any (p B : Nat) (l : List WordD) (x : HdrM) (w : World) (h : WAt w p B l) (hA : ∀ w1, Kept (WS p B) w w1 → x.At w1) (hn : l.length + (refWords (rd x.refs)).length ≤ 1000000000) (hr : x.refs.length ≤ 1000000000) :
    Calls Tryz.prog 15 #[.pointer (some ⟨p, 0, none⟩), x.v] w fun e w' => e = .returned (.tuple #[]) ∧ WAt w' p B (l ++ refWords (rd x.refs)) ∧ Kept (WS p B) w w' := by
  obtain ⟨au, ro, ra, refs, rc, pa, ps, pc⟩ := x
  replace hA : ∀ w1, Kept (WS p B) w w1 → RowAt refK w1 ra refs := fun w1 hb => (hA w1 hb).refs
  replace hn : l.length + (refWords (rd refs)).length ≤ 1000000000 := hn
  replace hr : refs.length ≤ 1000000000 := hr
  show Calls _ _ _ _ fun e w' => e = .returned (.tuple #[]) ∧ WAt w' p B (l ++ refWords (rd refs)) ∧ Kept (WS p B) w w'
  unfold HdrM.v
  have hbx := belowNew w (.cells #[.int .i64 au, .int .i64 ro, .slice ra refs.length rc, .slice pa ps.length pc] 30)
  have hT := Arr.new w 30 [.int .i64 au, .int .i64 ro, .slice ra refs.length rc, .slice pa ps.length pc]
  have hpl := h.lt
  have h1 := h.below hbx
  have hb1 : Kept (WS p B) w _ := Kept.of_below hbx
  obtain ⟨w1, hw1⟩ : ∃ z, w.alloc (.cells #[.int .i64 au, .int .i64 ro, .slice ra refs.length rc, .slice pa ps.length pc] 30) = z := ⟨_, rfl⟩
  rw [hw1] at hT h1 hb1
  clear hbx
  have x2 := hT.cell (i := 2) rfl
  go_enter Tryz.func15, Tryz.ntmps15
  go_wp2_with fail
  go_loopw [5, 9] (fun v5 v9 wr => ∃ i : Nat, i ≤ refs.length ∧ v9 = .int .i64 (i : Int) ∧ WAt wr p B (l ++ refWords (rd (refs.take i))) ∧ Kept (WS p B) w wr) (fun _ v _ => refs.length - (intOf v).toNat)
  case atStart => exact ⟨0, Nat.zero_le _, rfl, by simpa [refWords, rd] using h1, hb1⟩
  case round =>
    obtain ⟨i, hil, rfl, hW, hb⟩ := hrel
    by_cases hlt : i < refs.length
    · obtain ⟨r, hr0⟩ : ∃ r, refs[i]? = some r := ⟨refs[i], List.getElem?_eq_getElem hlt⟩
      have hRow := hA wr hb
      obtain ⟨b, off, rfl, hbl, y0, y1⟩ := hRow.ref hr0
      have hms := refWords_succ refs i r hr0
      have hle := refWords_le refs (i + 1)
      obtain ⟨ms, hmse⟩ : ∃ z, z = l ++ refWords (rd (refs.take i)) := ⟨_, rfl⟩
      have hln : ms.length + r.acks.length ≤ 1000000000 := by
        rw [hms, List.length_append, ofWord_length] at hle
        rw [hmse, List.length_append]
        omega
      have Hms : Hid (l ++ refWords (rd (refs.take (i + 1))) = ms ++ ofWord ackB r.digest r.acks) := by show _ = _; rw [hms, hmse, List.append_assoc]
      rw [← hmse] at hW
      have hK : ∀ w2, Kept (WS p B) w w2 → RowAt tagK w2 r.ao r.acks := fun w2 h2 => ((hA w2 h2).at_ r (List.mem_of_getElem? hr0)).1
      obtain ⟨dg, ak, ao2, cap2⟩ := r
      replace y0 : wr.cell? ⟨b, off + i * 2, none⟩ = some (.string dg) := y0
      replace y1 : wr.cell? ⟨b, off + i * 2 + 1, none⟩ = some (.slice ao2 ak.length cap2) := y1
      replace hK : ∀ w2, Kept (WS p B) w w2 → RowAt tagK w2 ao2 ak := hK
      replace hln : ms.length + ak.length ≤ 1000000000 := hln
      replace Hms : Hid (l ++ refWords (rd (refs.take (i + 1))) = ms ++ ofWord ackB dg ak) := Hms
      have hpl2 := hW.lt
      have hbx := belowNew wr (.cells #[.string dg, .slice ao2 ak.length cap2] 53)
      have hT2 := Arr.new wr 53 [.string dg, .slice ao2 ak.length cap2]
      have hb2 := hb.trans (Kept.of_below hbx)
      have hW2 := hW.below hbx
      clear hms hle hmse hRow hr0 hbx hW hb
      have cA := wordsAdd_any p B ms ackB dg ao2 cap2 ak _ hW2 (hK _ hb2) (fun _ w3 h3 => hK _ (hb2.trans h3)) hln
      unfold ackB at cA
      have z0 := hT2.cell (i := 0) rfl
      have z1 := hT2.cell (i := 1) rfl
      go_wp2_with fail
      refine cA.mono ?_
      rintro e w3 ⟨rfl, hW3, hb3⟩
      have hb4 := hb2.trans hb3
      clear cA z0 z1 hT2 hW2 hb2 y0 y1
      go_wp2
      go_roundw
      case rel => exact ⟨i + 1, by omega, by go_num, by rw [Hms.out]; exact hW3, hb4⟩
      case measure => simp [intOf]; omega
    · obtain rfl : i = refs.length := by omega
      rw [List.take_length] at hW
      go_wp2
      go_end0
      exact ⟨rfl, hW, hb⟩

set_option maxRecDepth 100000 in
set_option maxHeartbeats 1000000 in
theorem wordsQc_any (p B : Nat) (l : List WordD) (x : QcM) (w : World) (h : WAt w p B l) (hA : ∀ w1, Kept (WS p B) w w1 → x.At w1) (hn : l.length + x.votes.length ≤ 1000000000) (hid : x.block.size ≤ 140737488351232) :
    Calls Tryz.prog 18 #[.pointer (some ⟨p, 0, none⟩), x.v] w fun e w' => e = .returned (.tuple #[]) ∧ WAt w' p B (l ++ qcWords x.d) ∧ Kept (WS p B) w w' := by
  obtain ⟨vi, bk, va, vs, vc⟩ := x
  replace hA : ∀ w1, Kept (WS p B) w w1 → RowAt tagK w1 va vs := fun w1 hb => (hA w1 hb).votes
  replace hn : l.length + vs.length ≤ 1000000000 := hn
  replace hid : bk.size ≤ 140737488351232 := hid
  show Calls _ _ _ _ fun e w' => e = .returned (.tuple #[]) ∧ WAt w' p B (l ++ ofWord agreeB (wordB vi bk) vs) ∧ Kept (WS p B) w w'
  have cW : Hid (∀ w1, Calls Tryz.prog 37 #[.int .i64 vi, .string bk] w1 fun e w2 => e = .returned (.string (wordB vi bk)) ∧ Below w1.heap.size w1 w2) := fun w1 => word_any vi bk w1 hid
  generalize wordB vi bk = wd at *
  unfold QcM.v
  have hbx := belowNew w (.cells #[.int .i64 vi, .string bk, .slice va vs.length vc] 35)
  have hT := Arr.new w 35 [.int .i64 vi, .string bk, .slice va vs.length vc]
  have hpl := h.lt
  have h1 := h.below hbx
  have hb1 : Kept (WS p B) w _ := Kept.of_below hbx
  obtain ⟨w1, hw1⟩ : ∃ z, w.alloc (.cells #[.int .i64 vi, .string bk, .slice va vs.length vc] 35) = z := ⟨_, rfl⟩
  rw [hw1] at hT h1 hb1
  clear hbx
  have x0 := hT.cell (i := 0) rfl
  have x1 := hT.cell (i := 1) rfl
  have x2 := hT.cell (i := 2) rfl
  have cA : Hid (∀ w2, Below w1.heap.size w1 w2 → Calls Tryz.prog 16 #[.pointer (some ⟨p, 0, none⟩), .string ⟨#[97, 103, 114, 101, 101]⟩, .string wd, .slice va vs.length vc] w2 fun e w3 => e = .returned (.tuple #[]) ∧ WAt w3 p B (l ++ ofWord agreeB wd vs) ∧ Kept (WS p B) w w3) := by
    intro w2 hb2
    have hp1 := h1.lt
    have hb3 := hb1.trans (Kept.of_below hb2)
    refine (wordsAdd_any p B l agreeB wd va vc vs w2 (h1.below hb2) (hA _ hb3) (fun _ w3 h3 => hA _ (hb3.trans h3)) hn).mono ?_
    rintro e w3 ⟨rfl, hw, hb⟩
    exact ⟨rfl, hw, hb3.trans hb⟩
  go_enter Tryz.func18, Tryz.ntmps18
  go_wp2_with fail
  go_region_law (first
    | (go_simp; go_at_call 37; refine (cW.out _).mono ?_; rintro e w2 ⟨rfl, hb3⟩; have hb4 : Below w1.heap.size w1 w2 := ((Below.refl _ w1).drew).trans hb3; have hX2 := hT.below hb4 hT.lt; have x0a := hX2.cell (i := 0) rfl; have x1a := hX2.cell (i := 1) rfl; have x2a := hX2.cell (i := 2) rfl)
    | (go_simp; go_at_call 16; refine (cA.out w2 hb4).mono ?_; rintro e w3 ⟨rfl, hwF, hbF⟩))
  all_goals
    go_wp2
    go_end0
    exact ⟨rfl, hwF, hbF⟩
end Go.Proofs.YtaoiejgbbmjpkaaGreatDoor

/- Layer 4's mathematics: names, keys, when a transaction is right, what it needs. -/
namespace Go.Proofs.YtaoiejgbbmjpkaaGreatDoor
open Go.RowKit
set_option linter.unusedVariables false

def nameByte (c : UInt8) : Bool := (decide (97 ≤ c.toNat) && decide (c.toNat ≤ 122)) || (decide (48 ≤ c.toNat) && decide (c.toNat ≤ 57))

/-- Is it a name? -/
def isNm (s : ByteArray) : Bool := decide (1 ≤ s.size) && decide (s.size ≤ 32) && s.data.toList.all nameByte

/-- Does it begin so? -/
def cutOk (s p : ByteArray) : Bool := decide (p.size ≤ s.size) && ((s.extract 0 p.size).toList == p.toList)

def aP : ByteArray := ⟨#[97, 58]⟩
def kP : ByteArray := ⟨#[107, 58]⟩

/-- Is it a key? -/
def isKy (s : ByteArray) : Bool := (cutOk s aP || cutOk s kP) && isNm (s.extract 2 s.size)

/-- What is wrong with a list of keys, behind one. -/
def keysGo : ByteArray → List ByteArray → Nat
  | _, [] => 0
  | a, k :: r => if isKy k = false then 3 else if (Op.bytesLess k.toList a.toList || k.toList == a.toList) = true then 9 else keysGo k r

def keysL (l : List ByteArray) : Nat := if 8 < l.length then 8 else keysGo ⟨#[]⟩ l

/-- A transaction. -/
structure TxD where
  kind : Int
  frm : ByteArray
  to : ByteArray
  amt : Nat
  non : Nat
  key : ByteArray
  val : ByteArray
  rs : List ByteArray
  ws : List ByteArray

def TxD.none : TxD := ⟨0, ⟨#[]⟩, ⟨#[]⟩, 0, 0, ⟨#[]⟩, ⟨#[]⟩, [], []⟩

def fieldsR (d : TxD) : Bool :=
  isNm d.frm && (if d.kind = 1 then isNm d.to && (d.key.toList == []) && (d.val.toList == []) else isNm d.key && decide (d.val.size ≤ 64) && (d.to.toList == []) && decide (d.amt = 0))

/-- What is wrong with a transaction. -/
def checkL (d : TxD) : Nat :=
  if d.kind ≠ 1 ∧ d.kind ≠ 2 then 5 else if fieldsR d = false then 3 else if 4611686018427387903 < d.amt ∨ 4611686018427387903 < d.non then 2 else if keysL d.rs ≠ 0 then keysL d.rs else keysL d.ws

/-- A right transaction's bytes. -/
def encL (d : TxD) : List UInt8 :=
  goInt d.kind ++ txt d.frm.data.toList ++ txt d.to.data.toList ++ goInt d.amt ++ goInt d.non ++ txt d.key.data.toList ++ txt d.val.data.toList ++ lst (bl d.rs) ++ lst (bl d.ws)

def encB (d : TxD) : ByteArray := if checkL d = 0 then ⟨(encL d).toArray⟩ else ⟨#[]⟩

/-- What a transaction needs. -/
def needsL (d : TxD) : List ByteArray :=
  if checkL d = 0 then
    (if d.kind = 2 then [aP ++ d.frm, kP ++ d.key]
     else if Op.bytesLess (aP ++ d.frm).toList (aP ++ d.to).toList = true then [aP ++ d.frm, aP ++ d.to]
     else if Op.bytesLess (aP ++ d.to).toList (aP ++ d.frm).toList = true then [aP ++ d.to, aP ++ d.frm]
     else [aP ++ d.frm])
  else []

def hasL (l : List ByteArray) (s : ByteArray) : Bool := l.any (fun x => s.toList == x.toList)

def fitsL (d : TxD) : Bool := !(needsL d).isEmpty && (needsL d).all (hasL d.ws)

/-- A transaction as a value. -/
def txV (d : TxD) (ra : Option Addr) (rc : Nat) (wa : Option Addr) (wc : Nat) : Value :=
  .agg #[.int .i64 d.kind, .string d.frm, .string d.to, .int .u64 (d.amt : Int), .int .u64 (d.non : Int), .string d.key, .string d.val, .slice ra d.rs.length rc, .slice wa d.ws.length wc]

/-- Its lists lie in memory. -/
structure TxAt (w : World) (d : TxD) (ra wa : Option Addr) : Prop where
  rd : StrsAt w ra d.rs
  wr : StrsAt w wa d.ws

theorem TxAt.below {w w' : World} {d : TxD} {ra wa : Option Addr} (h : TxAt w d ra wa) (hb : Below w.heap.size w w') : TxAt w' d ra wa := ⟨h.rd.below hb, h.wr.below hb⟩

theorem keysL_le (l : List ByteArray) (h : keysL l = 0) : l.length ≤ 8 := by
  unfold keysL at h
  split at h <;> omega
end Go.Proofs.YtaoiejgbbmjpkaaGreatDoor

/- What the frames of the proofs share: a slice of strings that came in, opened; its length's reach. -/
namespace Go.Proofs.YtaoiejgbbmjpkaaGreatDoor
open Go.ChangeShapes Go.WideShapes Go.ChangeAt Go.RowKit

theorem ownKnob_none : ownKnob Tryz.prog.godebug = none := by kernel_rfl
theorem laidOut_true : laidOutB Tryz.prog = true := by kernel_rfl
theorem cellsString : Tryz.prog.cellsOf 9 = 1 := by kernel_rfl
theorem bytesString : Tryz.prog.bytesOf 9 = 16 := by kernel_rfl

/-- How a slice of strings reads. -/
def StrsDatum {H : Type} (d : DataW H) (ss : List ByteArray) : Prop := (d = .nil ∧ ss = []) ∨ ∃ rest, d = .slice (strs ss) rest

theorem strs_open {H : Type} {enc : TypeId × Value → H} {W : World} {a : Option Addr} {len cap : Nat} {d : DataW H} {p : List MemPlace}
    (h : DataW.Trod enc Tryz.prog W 0 (fun _ => true) true 28 (.slice a len cap) d p) :
    ∃ ss : List ByteArray, ss.length = len ∧ StrsAt W a ss ∧ (∀ s ∈ ss, s.size ≤ maxLen) ∧ StrsDatum d ss := by
  obtain ⟨fuel, hf⟩ := h
  rcases open_strings Tryz.underlying28 Tryz.underlying9 cellsString hf with ⟨hcs, hx⟩ | ⟨x, l, c, ss, hcs, _, hl, hm, hz, hx, hcell, hws⟩
  · simp [Value.cells] at hcs
    obtain ⟨rfl, rfl, rfl⟩ := hcs
    exact ⟨[], rfl, fun j hj => absurd hj (by simp), fun s hs => absurd hs (by simp), Or.inl ⟨(Prod.mk.inj hx).1, rfl⟩⟩
  · simp [Value.cells] at hcs
    obtain ⟨rfl, rfl, rfl⟩ := hcs
    have hz' : ss.length = cap := by simpa using hz
    refine ⟨ss.take len, by simp; omega, ?_, fun s hs => hws s (List.mem_of_mem_take hs), Or.inr ⟨_, (Prod.mk.inj hx).1⟩⟩
    intro j hj
    have hj1 : j < ss.length := by simp at hj; omega
    obtain ⟨b, off, spot⟩ := x
    have hc0 := hcell 0 (by omega)
    have hspot : spot = none := by simpa [Addr.add] using World.cell?_spot hc0
    subst hspot
    have hcj := hcell j hj1
    rw [Go.WideShapes.add_plain] at hcj
    refine ⟨b, off, rfl, World.block_lt_of_cell? W _ hcj, ?_⟩
    rw [hcj]
    simp [List.getD, List.getElem?_eq_getElem hj1]

theorem strs_cap {H : Type} {enc : TypeId × Value → H} {W : World} {a : Option Addr} {len cap : Nat} {d : DataW H} {p : List MemPlace}
    (h : DataW.Trod enc Tryz.prog W 0 (fun _ => true) true 28 (.slice a len cap) d p) : a = none → cap = 0 := by
  intro ha
  obtain ⟨fuel, hf⟩ := h
  rcases open_strings Tryz.underlying28 Tryz.underlying9 cellsString hf with ⟨hcs, _⟩ | ⟨x, l, c, ss, hcs, _⟩
  · simp [Value.cells] at hcs
    exact hcs.2.2
  · simp [Value.cells] at hcs
    rw [hcs.1] at ha
    cases ha

theorem strs_sized {H : Type} {ts : List TypeId} {ds : List (DataW H)} (h : (DataW.weightsEach Tryz.prog ts ds).all (· ≤ reachBytes) = true) {j : Nat} {d : DataW H} {ss : List ByteArray} (ht : ts[j]? = some 28) (hd : ds[j]? = some d) (hs : StrsDatum d ss) :
    ss.length * 16 ≤ 140737488351232 := by
  rcases hs with ⟨rfl, rfl⟩ | ⟨rest, rfl⟩
  · simp
  · have := sized_slice h ht hd Tryz.underlying28
    rw [bytesString] at this
    simp [strs, reachBytes] at this
    omega
end Go.Proofs.YtaoiejgbbmjpkaaGreatDoor

/- How a transaction that came in is opened. -/
namespace Go.Proofs.YtaoiejgbbmjpkaaGreatDoor
open Go.ChangeShapes Go.WideShapes Go.ChangeAt Go.RowKit Go.Joins Go.Deep
set_option linter.unusedVariables false

theorem cellsTx : Tryz.prog.cellsOf 86 = 9 := by kernel_rfl

theorem list9 {α : Type} {l : List α} (h : l.length = 9) : ∃ c0 c1 c2 c3 c4 c5 c6 c7 c8, l = [c0, c1, c2, c3, c4, c5, c6, c7, c8] := by
  match l, h with
  | [c0, c1, c2, c3, c4, c5, c6, c7, c8], _ => exact ⟨c0, c1, c2, c3, c4, c5, c6, c7, c8, rfl⟩

/-- How a transaction reads. -/
def TxDatum {H : Type} (d : DataW H) (D : TxD) : Prop :=
  ∃ y0 y1 y2 y3 y4 y5 y6 y7 y8, d = .agg [y0, y1, y2, y3, y4, y5, y6, y7, y8] ∧ StrsDatum y7 D.rs ∧ StrsDatum y8 D.ws

structure TxSizes (D : TxD) : Prop where
  frm : D.frm.size ≤ maxLen
  to : D.to.size ≤ maxLen
  key : D.key.size ≤ maxLen
  val : D.val.size ≤ maxLen
  rs : ∀ s ∈ D.rs, s.size ≤ maxLen
  ws : ∀ s ∈ D.ws, s.size ≤ maxLen

theorem wf_u64 {n : Int} (h : (Lit.int .u64 n).wf = true) : 0 ≤ n ∧ n < 18446744073709551616 := by
  simp [Lit.wf, IntKind.min, IntKind.max, IntKind.bits, IntKind.signed] at h
  omega

set_option maxRecDepth 100000 in
theorem tx_sized {H : Type} {ts : List TypeId} {ds : List (DataW H)} (h : (DataW.weightsEach Tryz.prog ts ds).all (· ≤ reachBytes) = true) {j : Nat} {d : DataW H} {D : TxD} (ht : ts[j]? = some 86) (hd : ds[j]? = some d) (hs : TxDatum d D) :
    D.rs.length * 16 ≤ 140737488351232 ∧ D.ws.length * 16 ≤ 140737488351232 := by
  obtain ⟨y0, y1, y2, y3, y4, y5, y6, y7, y8, rfl, h7, h8⟩ := hs
  have hall : (DataW.weightsEach Tryz.prog [3, 9, 9, 84, 84, 9, 9, 28, 28] [y0, y1, y2, y3, y4, y5, y6, y7, y8]).all (· ≤ reachBytes) = true := by
    rw [List.all_eq_true]
    intro n hn
    exact List.all_eq_true.1 h _ (DataW.weights_mem_each ht hd n (by
      rw [DataW.weights, Tryz.underlying86]
      exact hn))
  exact ⟨strs_sized hall (j := 7) rfl rfl h7, strs_sized hall (j := 8) rfl rfl h8⟩
end Go.Proofs.YtaoiejgbbmjpkaaGreatDoor

/- What isName, strings.CutPrefix and isKey do; memory stands. -/
namespace Go.Proofs.YtaoiejgbbmjpkaaGreatDoor
open Go.RowKit
set_option linter.unusedVariables false

theorem all_take_succ (s : ByteArray) (k : Nat) (h : k < s.size) (p : UInt8 → Bool) : (s.data.toList.take (k + 1)).all p = ((s.data.toList.take k).all p && p s[k]) := by
  rw [List.take_succ_eq_append_getElem (by simpa using h), List.all_append]
  simp
  rfl

theorem all_of_take (s : ByteArray) (k : Nat) (h : k < s.size) (p : UInt8 → Bool) (hp : p s[k] = false) : s.data.toList.all p = false := by
  have e : s.data.toList = s.data.toList.take (k + 1) ++ s.data.toList.drop (k + 1) := by rw [List.take_append_drop]
  rw [e, List.all_append, all_take_succ s k h, hp]
  simp

set_option maxRecDepth 100000 in
set_option maxHeartbeats 1000000 in
theorem isName_any (s : ByteArray) (w : World) :
    Calls Tryz.prog 148 #[.string s] w fun e w' => e = .returned (.bool (isNm s)) ∧ w' = w := by
  by_cases h1 : s.size < 1
  · have H : Hid (isNm s = false) := by show _ = _; simp [isNm]; intro h; omega
    have h1' : (s.size : Int) < 1 := by omega
    go_enter Tryz.func148, Tryz.ntmps148
    go_wp2
    go_ret
    exact ⟨by rw [H.out]; rfl, rfl⟩
  by_cases h2 : 32 < s.size
  · have H : Hid (isNm s = false) := by show _ = _; simp [isNm]; intro _ h; omega
    have h1' : ¬ (s.size : Int) < 1 := by omega
    have h2' : (32 : Int) < s.size := by omega
    go_enter Tryz.func148, Tryz.ntmps148
    go_wp2
    go_ret
    exact ⟨by rw [H.out]; rfl, rfl⟩
  have HN : Hid (isNm s = s.data.toList.all nameByte) := by
    show _ = _
    unfold isNm
    rw [decide_eq_true (by omega), decide_eq_true (by omega)]
    rfl
  have h1' : ¬ (s.size : Int) < 1 := by omega
  have h2' : ¬ (32 : Int) < s.size := by omega
  go_enter Tryz.func148, Tryz.ntmps148
  go_wp2
  go_loop [16] (fun v => ∃ k : Nat, k ≤ s.size ∧ v = .int .i64 k ∧ Hid ((s.data.toList.take k).all nameByte = true)) (fun v => s.size - (intOf v).toNat)
  case atStart => exact ⟨0, by omega, rfl, by show _ = _; simp⟩
  case round =>
    obtain ⟨k, hk, rfl, hall⟩ := hrel
    by_cases hlt : k < s.size
    · obtain ⟨c, hc⟩ : ∃ c, s[k].toNat = c := ⟨_, rfl⟩
      have hY : (97 ≤ c ∧ c ≤ 122 ∨ 48 ≤ c ∧ c ≤ 57) → Hid ((s.data.toList.take (k + 1)).all nameByte = true) := by
        intro h
        show _ = _
        rw [all_take_succ s k hlt, hall.out]
        unfold nameByte
        rw [hc]
        simp only [Bool.true_and, Bool.or_eq_true, Bool.and_eq_true, decide_eq_true_eq]
        exact h
      have hN : ¬ (97 ≤ c ∧ c ≤ 122 ∨ 48 ≤ c ∧ c ≤ 57) → Hid (isNm s = false) := by
        intro h
        show _ = _
        rw [HN.out]
        refine all_of_take s k hlt _ ?_
        unfold nameByte
        rw [hc]
        simp only [Bool.or_eq_false_iff, Bool.and_eq_false_iff, decide_eq_false_iff_not]
        omega
      clear hall
      have hI : ((c : Int) < 48 ∧ (c : Int) ≤ 57 ∧ (c : Int) < 97 ∧ (c : Int) ≤ 122) ∨ ((48 : Int) ≤ c ∧ (57 : Int) < c ∧ (c : Int) < 97 ∧ (c : Int) ≤ 122) ∨ ((48 : Int) ≤ c ∧ (57 : Int) < c ∧ (97 : Int) ≤ c ∧ (122 : Int) < c) ∨
          ((48 : Int) ≤ c ∧ (c : Int) ≤ 57 ∧ (c : Int) < 97 ∧ (c : Int) ≤ 122) ∨ ((48 : Int) ≤ c ∧ (57 : Int) < c ∧ (97 : Int) ≤ c ∧ (c : Int) ≤ 122) := by omega
      rcases hI with ⟨i1, i2, i3, i4⟩ | ⟨i1, i2, i3, i4⟩ | ⟨i1, i2, i3, i4⟩ | ⟨i1, i2, i3, i4⟩ | ⟨i1, i2, i3, i4⟩
      · have H := hN (by omega)
        clear hY hN
        go_wp2
        go_ret
        exact ⟨by rw [H.out]; rfl, rfl⟩
      · have H := hN (by omega)
        clear hY hN
        have d57 : decide ((c : Int) ≤ 57) = false := decide_eq_false (by omega)
        go_wp2
        go_ret
        exact ⟨by rw [H.out]; rfl, rfl⟩
      · have H := hN (by omega)
        clear hY hN
        have d122 : decide ((c : Int) ≤ 122) = false := decide_eq_false (by omega)
        have d57 : decide ((c : Int) ≤ 57) = false := decide_eq_false (by omega)
        go_wp2
        go_ret
        exact ⟨by rw [H.out]; rfl, rfl⟩
      · have H := hY (by omega)
        clear hY hN
        go_wp2
        go_round
        case rel => exact ⟨k + 1, by omega, by go_num, H⟩
        case measure => simp [intOf]; omega
      · have H := hY (by omega)
        clear hY hN
        go_wp2
        go_round
        case rel => exact ⟨k + 1, by omega, by go_num, H⟩
        case measure => simp [intOf]; omega
    · have H : Hid (isNm s = true) := by
        show _ = _
        rw [HN.out, ← hall.out, List.take_of_length_le (by simp; omega)]
      go_wp2
      go_ret
      exact ⟨by rw [H.out]; rfl, rfl⟩

set_option maxRecDepth 100000 in
set_option maxHeartbeats 400000 in
theorem hasPrefix_any (s p : ByteArray) (w : World) :
    Calls Tryz.prog 164 #[.string s, .string p] w fun e w' => e = .returned (.bool (cutOk s p)) ∧ w' = w := by
  unfold cutOk
  by_cases h : p.size ≤ s.size
  · have h' : (p.size : Int) ≤ s.size := by omega
    go_enter Tryz.func164, Tryz.ntmps164
    go_wp2
    go_ret
    exact ⟨by simp; intro _; exact h, rfl⟩
  · have h' : ¬ (p.size : Int) ≤ s.size := by omega
    go_enter Tryz.func164, Tryz.ntmps164
    go_wp2
    go_ret
    exact ⟨by simp, rfl⟩

theorem cutOk_size {s p : ByteArray} (h : cutOk s p = true) : p.size ≤ s.size := by
  unfold cutOk at h
  simp at h
  exact h.1

set_option maxRecDepth 100000 in
set_option maxHeartbeats 400000 in
theorem cut_in (s p : ByteArray) (w : World) :
    Calls Tryz.prog 162 #[.string s, .string p] w fun e w' => e = .returned (.tuple #[.string (if cutOk s p then s.extract p.size s.size else s), .bool (cutOk s p)]) ∧ w' = w := by
  cases hc : cutOk s p with
  | true =>
    have h := cutOk_size hc
    have h' : (p.size : Int) ≤ s.size := by omega
    have cs := hasPrefix_any s p
    rw [hc] at cs
    go_enter Tryz.func162, Tryz.ntmps162
    go_wp2_with fail
    refine (cs _).mono ?_
    rintro e w' ⟨rfl, rfl⟩
    go_wp2
    go_ret2
    exact ⟨by simp, rfl⟩
  | false =>
    have cs := hasPrefix_any s p
    rw [hc] at cs
    go_enter Tryz.func162, Tryz.ntmps162
    go_wp2_with fail
    refine (cs _).mono ?_
    rintro e w' ⟨rfl, rfl⟩
    go_wp2
    go_ret2
    exact ⟨by simp, rfl⟩

set_option maxRecDepth 100000 in
set_option maxHeartbeats 400000 in
theorem cut_any (s p : ByteArray) (w : World) :
    Calls Tryz.prog 156 #[.string s, .string p] w fun e w' => e = .returned (.tuple #[.string (if cutOk s p then s.extract p.size s.size else s), .bool (cutOk s p)]) ∧ w' = w := by
  have cs := cut_in s p
  generalize (if cutOk s p then s.extract p.size s.size else s) = u at cs ⊢
  generalize cutOk s p = b at cs ⊢
  go_enter Tryz.func156, Tryz.ntmps156
  go_wp2_with fail
  refine (cs _).mono ?_
  rintro e w' ⟨rfl, rfl⟩
  go_wp2
  go_ret2
  exact ⟨rfl, rfl⟩

set_option maxRecDepth 100000 in
set_option maxHeartbeats 400000 in
theorem isKey_any (s : ByteArray) (w : World) :
    Calls Tryz.prog 149 #[.string s] w fun e w' => e = .returned (.bool (isKy s)) ∧ w' = w := by
  cases ha : cutOk s aP with
  | true =>
    have ca : ∀ w, Calls Tryz.prog 156 #[.string s, .string ⟨#[97, 58]⟩] w fun e w' => e = .returned (.tuple #[.string (s.extract 2 s.size), .bool true]) ∧ w' = w := fun w => by
      have h := cut_any s aP w
      rw [ha, if_pos rfl] at h
      exact h
    have cn := isName_any (s.extract 2 s.size)
    have H : Hid (isKy s = isNm (s.extract 2 s.size)) := by show _ = _; unfold isKy; rw [ha]; rfl
    generalize isNm (s.extract 2 s.size) = b at cn H
    generalize s.extract 2 s.size = u at cn ca
    go_enter Tryz.func149, Tryz.ntmps149
    go_wp2_with fail
    refine (ca _).mono ?_
    rintro e w' ⟨rfl, rfl⟩
    go_wp2_with fail
    refine (cn _).mono ?_
    rintro e w' ⟨rfl, rfl⟩
    go_wp2
    go_ret
    exact ⟨by rw [H.out]; rfl, rfl⟩
  | false =>
    have ca : ∀ w, Calls Tryz.prog 156 #[.string s, .string ⟨#[97, 58]⟩] w fun e w' => e = .returned (.tuple #[.string s, .bool false]) ∧ w' = w := fun w => by
      have h := cut_any s aP w
      rw [ha, if_neg (by simp)] at h
      exact h
    cases hk : cutOk s kP with
    | true =>
      have ck : ∀ w, Calls Tryz.prog 156 #[.string s, .string ⟨#[107, 58]⟩] w fun e w' => e = .returned (.tuple #[.string (s.extract 2 s.size), .bool true]) ∧ w' = w := fun w => by
        have h := cut_any s kP w
        rw [hk, if_pos rfl] at h
        exact h
      have cn := isName_any (s.extract 2 s.size)
      have H : Hid (isKy s = isNm (s.extract 2 s.size)) := by show _ = _; unfold isKy; rw [ha, hk]; rfl
      generalize isNm (s.extract 2 s.size) = b at cn H
      generalize s.extract 2 s.size = u at cn ck
      go_enter Tryz.func149, Tryz.ntmps149
      go_wp2_with fail
      refine (ca _).mono ?_
      rintro e w' ⟨rfl, rfl⟩
      go_wp2_with fail
      refine (ck _).mono ?_
      rintro e w' ⟨rfl, rfl⟩
      go_wp2_with fail
      refine (cn _).mono ?_
      rintro e w' ⟨rfl, rfl⟩
      go_wp2
      go_ret
      exact ⟨by rw [H.out]; rfl, rfl⟩
    | false =>
      have ck : ∀ w, Calls Tryz.prog 156 #[.string s, .string ⟨#[107, 58]⟩] w fun e w' => e = .returned (.tuple #[.string s, .bool false]) ∧ w' = w := fun w => by
        have h := cut_any s kP w
        rw [hk, if_neg (by simp)] at h
        exact h
      have H : Hid (isKy s = false) := by show _ = _; unfold isKy; rw [ha, hk]; rfl
      go_enter Tryz.func149, Tryz.ntmps149
      go_wp2_with fail
      refine (ca _).mono ?_
      rintro e w' ⟨rfl, rfl⟩
      go_wp2_with fail
      refine (ck _).mono ?_
      rintro e w' ⟨rfl, rfl⟩
      go_wp2
      go_ret
      exact ⟨by rw [H.out]; rfl, rfl⟩
end Go.Proofs.YtaoiejgbbmjpkaaGreatDoor

/- What checkKeys, fieldsRight and Check do; nothing old in memory is turned. -/
namespace Go.Proofs.YtaoiejgbbmjpkaaGreatDoor
open Go.RowKit
set_option linter.unusedVariables false

set_option maxRecDepth 100000 in
set_option maxHeartbeats 1000000 in
theorem checkKeys_any (ao : Option Addr) (cap : Nat) (ss : List ByteArray) (w : World) (hc : StrsAt w ao ss) :
    Calls Tryz.prog 137 #[.slice ao ss.length cap] w fun e w' => e = .returned (.int .i64 (keysL ss : Int)) ∧ w' = w := by
  by_cases h8 : 8 < ss.length
  · have H : Hid (keysL ss = 8) := by show _ = _; unfold keysL; rw [if_pos h8]
    have h8' : (8 : Int) < ss.length := by omega
    go_enter Tryz.func137, Tryz.ntmps137
    go_wp2
    go_ret
    exact ⟨by rw [H.out]; rfl, rfl⟩
  have h8' : ¬ (8 : Int) < ss.length := by omega
  have HK : Hid (keysL ss = keysGo ⟨#[]⟩ ss) := by show _ = _; unfold keysL; rw [if_neg h8]
  go_enter Tryz.func137, Tryz.ntmps137
  go_wp2
  go_loop [3, 11] (fun v3 v11 => ∃ (k : Nat) (a : ByteArray), k ≤ ss.length ∧ v11 = .int .i64 k ∧ v3 = .string a ∧ Hid (keysL ss = keysGo a (ss.drop k))) (fun _ v => ss.length - (intOf v).toNat)
  case atStart => exact ⟨0, ⟨#[]⟩, by omega, rfl, rfl, HK⟩
  case round =>
    obtain ⟨k, a, hk, rfl, rfl, hK⟩ := hrel
    by_cases hlt : k < ss.length
    · obtain ⟨b, off, rfl, hbl, hcell⟩ := hc k hlt
      have hd : ss.drop k = ss[k] :: ss.drop (k + 1) := List.drop_eq_getElem_cons hlt
      have hK2 := hK.out
      rw [hd, keysGo] at hK2
      have cn := isKey_any ss[k]
      obtain ⟨x, hx⟩ : ∃ x, x = ss[k] := ⟨_, rfl⟩
      rw [← hx] at hK2 cn hcell
      clear hK hd hx HK
      cases hky : isKy x with
      | false =>
        have H : Hid (keysL ss = 3) := by show _ = _; rw [hK2, if_pos hky]
        rw [hky] at cn
        clear hK2 hky
        go_wp2_with fail
        refine (cn _).mono ?_
        rintro e w' ⟨rfl, rfl⟩
        go_wp2
        go_ret
        exact ⟨by rw [H.out]; rfl, rfl⟩
      | true =>
        rw [hky] at cn
        rw [if_neg (by rw [hky]; simp)] at hK2
        cases hle : (Op.bytesLess x.toList a.toList || x.toList == a.toList) with
        | true =>
          have H : Hid (keysL ss = 9) := by show _ = _; rw [hK2, if_pos hle]
          clear hK2 hky
          go_wp2_with fail
          refine (cn _).mono ?_
          rintro e w' ⟨rfl, rfl⟩
          go_wp2
          go_ret
          exact ⟨by rw [H.out]; rfl, rfl⟩
        | false =>
          have H : Hid (keysL ss = keysGo x (ss.drop (k + 1))) := by show _ = _; rw [hK2, if_neg (by rw [hle]; simp)]
          clear hK2 hky
          go_wp2_with fail
          refine (cn _).mono ?_
          rintro e w' ⟨rfl, rfl⟩
          go_wp2
          go_round
          case rel => exact ⟨k + 1, x, by omega, by go_num, rfl, H⟩
          case measure => simp [intOf]; omega
    · have H : Hid (keysL ss = 0) := by
        show _ = _
        rw [hK.out, List.drop_of_length_le (by omega), keysGo]
      clear hK
      go_wp2
      go_ret
      exact ⟨by rw [H.out]; rfl, rfl⟩

theorem bemp (s : ByteArray) : (s.toList == []) = s.toList.isEmpty := by cases s.toList <;> rfl

set_option maxRecDepth 100000 in
set_option maxHeartbeats 1000000 in
theorem fieldsRight_any (d : TxD) (ra : Option Addr) (rc : Nat) (wa : Option Addr) (wc : Nat) (w : World) :
    Calls Tryz.prog 136 #[txV d ra rc wa wc] w fun e w' => e = .returned (.bool (fieldsR d)) ∧ Below w.heap.size w w' := by
  obtain ⟨kind, frm, to, amt, non, key, val, rs, ws⟩ := d
  have hB : ∀ c, Below w.heap.size w (w.alloc c) := fun c => (Below.refl w.heap.size w).alloc (Nat.le_refl _) c
  unfold txV
  have c1 := isName_any frm
  cases h1 : isNm frm with
  | false =>
    have H : Hid (fieldsR ⟨kind, frm, to, amt, non, key, val, rs, ws⟩ = false) := by show _ = _; simp [fieldsR, h1]
    rw [h1] at c1
    go_enter Tryz.func136, Tryz.ntmps136
    go_wp2_with fail
    refine (c1 _).mono ?_
    rintro e w' ⟨rfl, rfl⟩
    go_wp2
    go_ret
    exact ⟨by rw [H.out]; rfl, hB _⟩
  | true =>
    rw [h1] at c1
    by_cases hk : kind = 1
    · subst hk
      have c2 := isName_any to
      have H : Hid (fieldsR ⟨1, frm, to, amt, non, key, val, rs, ws⟩ = (isNm to && key.toList.isEmpty && val.toList.isEmpty)) := by show _ = _; simp only [fieldsR, h1, bemp]; simp
      generalize isNm to = b2 at c2 H
      cases b2 with
      | false =>
        go_enter Tryz.func136, Tryz.ntmps136
        go_wp2_with fail
        refine (c1 _).mono ?_
        rintro e w' ⟨rfl, rfl⟩
        go_wp2_with fail
        refine (c2 _).mono ?_
        rintro e w' ⟨rfl, rfl⟩
        go_wp2
        go_ret
        exact ⟨by rw [H.out]; rfl, hB _⟩
      | true =>
        by_cases hkey : key.toList = []
        · have hke : key.toList.isEmpty = true := by rw [hkey]; rfl
          rw [hke] at H
          replace H : Hid (fieldsR ⟨1, frm, to, amt, non, key, val, rs, ws⟩ = val.toList.isEmpty) := H
          go_enter Tryz.func136, Tryz.ntmps136
          go_wp2_with fail
          refine (c1 _).mono ?_
          rintro e w' ⟨rfl, rfl⟩
          go_wp2_with fail
          refine (c2 _).mono ?_
          rintro e w' ⟨rfl, rfl⟩
          go_wp2
          go_ret
          exact ⟨by rw [H.out]; rfl, hB _⟩
        · have hke : key.toList.isEmpty = false := by simpa using hkey
          rw [hke] at H
          replace H : Hid (fieldsR ⟨1, frm, to, amt, non, key, val, rs, ws⟩ = false) := H
          go_enter Tryz.func136, Tryz.ntmps136
          go_wp2_with fail
          refine (c1 _).mono ?_
          rintro e w' ⟨rfl, rfl⟩
          go_wp2_with fail
          refine (c2 _).mono ?_
          rintro e w' ⟨rfl, rfl⟩
          go_wp2
          go_ret
          exact ⟨by rw [H.out]; rfl, hB _⟩
    · have c2 := isName_any key
      have hk1 : (kind == 1) = false := beq_eq_false_iff_ne.2 hk
      have H : Hid (fieldsR ⟨kind, frm, to, amt, non, key, val, rs, ws⟩ = (isNm key && decide (val.size ≤ 64) && to.toList.isEmpty && decide (amt = 0))) := by show _ = _; simp only [fieldsR, h1, bemp, if_neg hk]; simp
      generalize isNm key = b2 at c2 H
      cases b2 with
      | false =>
        go_enter Tryz.func136, Tryz.ntmps136
        go_wp2_with fail
        refine (c1 _).mono ?_
        rintro e w' ⟨rfl, rfl⟩
        go_wp2_with fail
        refine (c2 _).mono ?_
        rintro e w' ⟨rfl, rfl⟩
        go_wp2
        go_ret
        exact ⟨by rw [H.out]; rfl, hB _⟩
      | true =>
        by_cases hv : val.size ≤ 64
        · have hv' : (val.size : Int) ≤ 64 := by omega
          by_cases ht : to.toList = []
          · have hte : to.toList.isEmpty = true := by rw [ht]; rfl
            rw [hte, decide_eq_true hv] at H
            by_cases ha : amt = 0
            · subst ha
              replace H : Hid (fieldsR ⟨kind, frm, to, 0, non, key, val, rs, ws⟩ = true) := H
              go_enter Tryz.func136, Tryz.ntmps136
              go_wp2_with fail
              refine (c1 _).mono ?_
              rintro e w' ⟨rfl, rfl⟩
              go_wp2_with fail
              refine (c2 _).mono ?_
              rintro e w' ⟨rfl, rfl⟩
              go_wp2
              go_ret
              exact ⟨by rw [H.out]; rfl, hB _⟩
            · have ha' : ((amt : Int) == 0) = false := beq_eq_false_iff_ne.2 (by omega)
              rw [decide_eq_false ha] at H
              replace H : Hid (fieldsR ⟨kind, frm, to, amt, non, key, val, rs, ws⟩ = false) := H
              go_enter Tryz.func136, Tryz.ntmps136
              go_wp2_with fail
              refine (c1 _).mono ?_
              rintro e w' ⟨rfl, rfl⟩
              go_wp2_with fail
              refine (c2 _).mono ?_
              rintro e w' ⟨rfl, rfl⟩
              go_wp2
              go_ret
              exact ⟨by rw [H.out]; rfl, hB _⟩
          · have hte : to.toList.isEmpty = false := by simpa using ht
            rw [hte, decide_eq_true hv] at H
            replace H : Hid (fieldsR ⟨kind, frm, to, amt, non, key, val, rs, ws⟩ = false) := H
            go_enter Tryz.func136, Tryz.ntmps136
            go_wp2_with fail
            refine (c1 _).mono ?_
            rintro e w' ⟨rfl, rfl⟩
            go_wp2_with fail
            refine (c2 _).mono ?_
            rintro e w' ⟨rfl, rfl⟩
            go_wp2
            go_ret
            exact ⟨by rw [H.out]; rfl, hB _⟩
        · have hv' : (64 : Int) < val.size := by omega
          rw [decide_eq_false hv] at H
          replace H : Hid (fieldsR ⟨kind, frm, to, amt, non, key, val, rs, ws⟩ = false) := H
          have dv : decide ((val.size : Int) ≤ 64) = false := decide_eq_false (by omega)
          go_enter Tryz.func136, Tryz.ntmps136
          go_wp2_with fail
          refine (c1 _).mono ?_
          rintro e w' ⟨rfl, rfl⟩
          go_wp2_with fail
          refine (c2 _).mono ?_
          rintro e w' ⟨rfl, rfl⟩
          go_wp2
          go_ret
          exact ⟨by rw [H.out]; rfl, hB _⟩
end Go.Proofs.YtaoiejgbbmjpkaaGreatDoor

/- What Check does; nothing old in memory is turned. -/
namespace Go.Proofs.YtaoiejgbbmjpkaaGreatDoor
open Go.RowKit
set_option linter.unusedVariables false

/-- A transaction's nine cells. -/
def txC (d : TxD) (ra : Option Addr) (rc : Nat) (wa : Option Addr) (wc : Nat) : List Value :=
  [.int .i64 d.kind, .string d.frm, .string d.to, .int .u64 (d.amt : Int), .int .u64 (d.non : Int), .string d.key, .string d.val, .slice ra d.rs.length rc, .slice wa d.ws.length wc]

/-- A transaction lies in a block. -/
def TxBox (w : World) (b : Nat) (d : TxD) (ra : Option Addr) (rc : Nat) (wa : Option Addr) (wc : Nat) : Prop := Arr w b 86 (txC d ra rc wa wc)

theorem TxBox.new (w : World) (d : TxD) (ra : Option Addr) (rc : Nat) (wa : Option Addr) (wc : Nat) : TxBox (w.alloc (.cells (txC d ra rc wa wc).toArray 86)) w.heap.size d ra rc wa wc := Arr.new w 86 _

set_option maxRecDepth 100000 in
set_option maxHeartbeats 1000000 in
theorem check_any (d : TxD) (ra : Option Addr) (rc : Nat) (wa : Option Addr) (wc : Nat) (w : World) (hA : TxAt w d ra wa) :
    Calls Tryz.prog 103 #[txV d ra rc wa wc] w fun e w' => e = .returned (.int .i64 (checkL d : Int)) ∧ Below w.heap.size w w' := by
  have hX := TxBox.new w d ra rc wa wc
  have hB := belowNew w (.cells (txC d ra rc wa wc).toArray 86)
  have hA0 := hA.below hB
  have cf := fieldsRight_any d ra rc wa wc (w.alloc (.cells (txC d ra rc wa wc).toArray 86))
  obtain ⟨kind, frm, to, amt, non, key, val, rs, ws⟩ := d
  have HC : Hid (checkL ⟨kind, frm, to, amt, non, key, val, rs, ws⟩ = _) := (rfl : checkL _ = if kind ≠ 1 ∧ kind ≠ 2 then 5 else if fieldsR ⟨kind, frm, to, amt, non, key, val, rs, ws⟩ = false then 3 else if 4611686018427387903 < amt ∨ 4611686018427387903 < non then 2 else if keysL rs ≠ 0 then keysL rs else keysL ws)
  unfold txV at cf ⊢
  by_cases hk : kind ≠ 1 ∧ kind ≠ 2
  · have hk1 : (kind != 1) = true := by simpa using hk.1
    have hk2 : (kind != 2) = true := by simpa using hk.2
    have H : Hid (checkL ⟨kind, frm, to, amt, non, key, val, rs, ws⟩ = 5) := by show _ = _; rw [HC.out, if_pos hk]
    clear HC hA hA0 cf hX
    go_enter Tryz.func103, Tryz.ntmps103
    go_wp2
    go_ret
    exact ⟨by rw [H.out]; rfl, hB⟩
  have hkk : kind = 1 ∨ kind = 2 := by omega
  replace HC : Hid (checkL ⟨kind, frm, to, amt, non, key, val, rs, ws⟩ = _) := (HC.out.trans (if_neg hk) : _ = _)
  have key1 : ∀ kind', kind' = kind → (kind' = 1 ∨ kind' = 2) := by rintro _ rfl; exact hkk
  clear hk
  cases hf : fieldsR ⟨kind, frm, to, amt, non, key, val, rs, ws⟩ with
  | false =>
    have H : Hid (checkL ⟨kind, frm, to, amt, non, key, val, rs, ws⟩ = 3) := by show _ = _; rw [HC.out, if_pos hf]
    rw [hf] at cf
    clear HC hA hA0 hX hf
    rcases hkk with rfl | rfl
    all_goals
      go_enter Tryz.func103, Tryz.ntmps103
      go_wp2_with fail
      refine cf.mono ?_
      rintro e w1 ⟨rfl, hb1⟩
      have hB1 := hB.trans (hb1.mono hB.size)
      clear hb1 cf
      go_wp2
      go_ret
      exact ⟨by rw [H.out]; rfl, hB1⟩
  | true =>
    replace HC : Hid (checkL ⟨kind, frm, to, amt, non, key, val, rs, ws⟩ = _) := (HC.out.trans (if_neg (by rw [hf]; simp)) : _ = _)
    rw [hf] at cf
    clear hf
    by_cases hr : 4611686018427387903 < amt ∨ 4611686018427387903 < non
    · have H : Hid (checkL ⟨kind, frm, to, amt, non, key, val, rs, ws⟩ = 2) := by show _ = _; rw [HC.out, if_pos hr]
      have hr' : ((4611686018427387903 : Int) < amt) ∨ ((amt : Int) ≤ 4611686018427387903 ∧ (4611686018427387903 : Int) < non) := by omega
      clear HC hr
      rcases hkk with rfl | rfl
      all_goals
        rcases hr' with h1 | ⟨h1, h2⟩
        all_goals
          go_enter Tryz.func103, Tryz.ntmps103
          go_wp2_with fail
          refine cf.mono ?_
          rintro e w1 ⟨rfl, hb1⟩
          have hX1 := hX.below hb1 hX.lt
          have hB1 := hB.trans (hb1.mono hB.size)
          have c3 := hX1.cell (i := 3) rfl
          have c4 := hX1.cell (i := 4) rfl
          clear hb1 cf hX1
          go_wp2
          go_ret
          exact ⟨by rw [H.out]; rfl, hB1⟩
    · replace HC : Hid (checkL ⟨kind, frm, to, amt, non, key, val, rs, ws⟩ = _) := (HC.out.trans (if_neg hr) : _ = _)
      have h1 : (amt : Int) ≤ 4611686018427387903 := by omega
      have h2 : (non : Int) ≤ 4611686018427387903 := by omega
      clear hr
      have ck1 : ∀ w1, StrsAt w1 ra rs → Calls Tryz.prog 137 #[.slice ra rs.length rc] w1 fun e w' => e = .returned (.int .i64 (keysL rs : Int)) ∧ w' = w1 := fun w1 h => checkKeys_any ra rc rs w1 h
      have ck2 : ∀ w1, StrsAt w1 wa ws → Calls Tryz.prog 137 #[.slice wa ws.length wc] w1 fun e w' => e = .returned (.int .i64 (keysL ws : Int)) ∧ w' = w1 := fun w1 h => checkKeys_any wa wc ws w1 h
      by_cases hz : keysL rs = 0
      · have H : Hid (checkL ⟨kind, frm, to, amt, non, key, val, rs, ws⟩ = keysL ws) := by show _ = _; rw [HC.out, if_neg (by rw [hz]; simp)]
        rw [hz] at ck1
        clear HC hz
        generalize keysL ws = n2 at ck2 H
        rcases hkk with rfl | rfl
        all_goals
          go_enter Tryz.func103, Tryz.ntmps103
          go_wp2_with fail
          refine cf.mono ?_
          rintro e w1 ⟨rfl, hb1⟩
          have hX1 := hX.below hb1 hX.lt
          have hB1 := hB.trans (hb1.mono hB.size)
          have hA1 := hA0.below hb1
          have hA2 : StrsAt w1 wa ws := hA1.wr
          replace hA1 : StrsAt w1 ra rs := hA1.rd
          have c3 := hX1.cell (i := 3) rfl
          have c4 := hX1.cell (i := 4) rfl
          have c7 := hX1.cell (i := 7) rfl
          have c8 := hX1.cell (i := 8) rfl
          clear hb1 cf hX1 hX hA0 hA
          go_wp2_with fail
          refine (ck1 _ hA1).mono ?_
          rintro e w2 ⟨rfl, rfl⟩
          go_wp2_with fail
          refine (ck2 _ hA2).mono ?_
          rintro e w3 ⟨rfl, rfl⟩
          go_wp2
          go_ret
          exact ⟨by rw [H.out]; rfl, hB1⟩
      · have H : Hid (checkL ⟨kind, frm, to, amt, non, key, val, rs, ws⟩ = keysL rs) := by show _ = _; rw [HC.out, if_pos hz]
        have hz' : ((keysL rs : Int) != 0) = true := by rw [bne_iff_ne]; omega
        clear HC hz
        generalize keysL rs = n2 at ck1 H hz'
        rcases hkk with rfl | rfl
        all_goals
          go_enter Tryz.func103, Tryz.ntmps103
          go_wp2_with fail
          refine cf.mono ?_
          rintro e w1 ⟨rfl, hb1⟩
          have hX1 := hX.below hb1 hX.lt
          have hB1 := hB.trans (hb1.mono hB.size)
          have hA1 := hA0.below hb1
          replace hA1 : StrsAt w1 ra rs := hA1.rd
          have c3 := hX1.cell (i := 3) rfl
          have c4 := hX1.cell (i := 4) rfl
          have c7 := hX1.cell (i := 7) rfl
          clear hb1 cf hX1 hX hA0 hA
          go_wp2_with fail
          refine (ck1 _ hA1).mono ?_
          rintro e w2 ⟨rfl, rfl⟩
          go_wp2
          go_ret
          exact ⟨by rw [H.out]; rfl, hB1⟩
end Go.Proofs.YtaoiejgbbmjpkaaGreatDoor

/- A strings.Builder of the call's own at work. -/
namespace Go.Proofs.YtaoiejgbbmjpkaaGreatDoor
open Go.RowKit
set_option linter.unusedVariables false

/-- Block bb is a Builder of the call's own that holds l, block xb ahead of it still a row of the cells cs. -/
structure BldSt (W : World) (xb bb : Nat) (T : TypeId) (cs : List Value) (w : World) (l : List UInt8) : Prop where
  box : Arr w xb T cs
  ord : xb < bb
  bld : Lib.IsBuilder 99 5 bb bb (Lib.byteCells l) w
  bel : Below W.heap.size W w
  low : W.heap.size ≤ bb
  has : bb ≤ w.heap.size

theorem BldSt.new {W w : World} {xb : Nat} {T : TypeId} {cs : List Value} (hx : Arr w xb T cs) (hb : Below W.heap.size W w) :
    BldSt W xb w.heap.size T cs (w.alloc (.cells #[.pointer none, .slice none 0 0] 99)) [] :=
  ⟨hx.alloc _, hx.lt, Lib.fresh_isBuilder 99 5 w, hb.alloc hb.size _, hb.size, by rw [alloc_size]; omega⟩

theorem BldSt.call {W w w1 : World} {xb bb : Nat} {T : TypeId} {cs : List Value} {l : List UInt8} (h : BldSt W xb bb T cs w l) (hb : Below w.heap.size w w1) : BldSt W xb bb T cs w1 l :=
  ⟨h.box.below hb h.box.lt, h.ord, builder_keep h.bld hb, h.bel.trans (hb.mono h.bel.size), h.low, Nat.le_trans h.has hb.size⟩

theorem BldSt.write {W w : World} {xb bb : Nat} {T : TypeId} {cs : List Value} {l : List UInt8} (h : BldSt W xb bb T cs w l) (m : List UInt8) (hm : l.length + m.length ≤ 140737488355328) :
    Calls Tryz.prog 59 #[.pointer (some ⟨bb, 0, none⟩), .string ⟨m.toArray⟩] w fun e w' => e = .returned (.tuple #[.int .i64 m.length, .nilIface]) ∧ BldSt W xb bb T cs w' (l ++ m) := by
  refine (write_any bb bb _ ⟨m.toArray⟩ w h.bld (by rw [Lib.byteCells_length, size_mk]; exact hm) h.has).mono ?_
  rintro e w' ⟨rfl, h2, hb⟩
  refine ⟨by rw [size_mk], h.box.below hb h.ord, h.ord, Or.inr ?_, h.bel.trans (hb.mono h.low), h.low, Nat.le_trans h.has hb.size⟩
  rw [Lib.byteCells_append]
  rw [Lib.strCells_eq] at h2
  exact h2

theorem BldSt.read {W w : World} {xb bb : Nat} {T : TypeId} {cs : List Value} {l : List UInt8} (h : BldSt W xb bb T cs w l) (h0 : l ≠ []) :
    Calls Tryz.prog 61 #[.pointer (some ⟨bb, 0, none⟩)] w fun e w' => e = .returned (.string ⟨l.toArray⟩) ∧ Below W.heap.size W w' := by
  refine (string_any bb bb l w h.bld h0).mono ?_
  rintro e w' ⟨rfl, hb⟩
  exact ⟨rfl, h.bel.trans (hb.mono h.low)⟩
end Go.Proofs.YtaoiejgbbmjpkaaGreatDoor
