/- Texts as one: TxBackMath, ReadMath, BatchMath, BatCheck, CertRows, MsgMath, MsgRows, HdrTagsEnc. -/
import Derived.Test.YtaoiejgbbmjpkaaGreatDoorWk05
import Derived.Test.YtaoiejgbbmjpkaaGreatDoorWk04
import Derived.Test.YtaoiejgbbmjpkaaGreatDoorWk03
import Derived.Deep.RegionLaw
/- Both ways round: bytes of a transaction, and the transaction of bytes. -/
namespace Go.Proofs.YtaoiejgbbmjpkaaGreatDoor
open Go.RowKit
set_option linter.unusedVariables false

theorem bytes_len (s : ByteArray) : s.data.toList.length = s.size := by simp

theorem enc_len {d : TxD} (h : checkL d = 0) : (encL d).length ≤ 2000 := by
  obtain ⟨z1, z2, z3, z4, z5, z6⟩ := check_zero h
  obtain ⟨y1, y2, y3, y4⟩ := fields_sizes z2
  have y5 := lst_le z5
  have y6 := lst_le z6
  have x0 := goInt_length d.kind
  have x1 := txt_le d.frm.data.toList
  have x2 := txt_le d.to.data.toList
  have x3 := goInt_length d.amt
  have x4 := goInt_length d.non
  have x5 := txt_le d.key.data.toList
  have x6 := txt_le d.val.data.toList
  have t1 := bytes_len d.frm
  have t2 := bytes_len d.to
  have t5 := bytes_len d.key
  have t6 := bytes_len d.val
  unfold encL
  simp only [List.length_append]
  omega
end Go.Proofs.YtaoiejgbbmjpkaaGreatDoor

/- Reading field by field, whatever is read: the first error, or what follows. -/
namespace Go.Proofs.YtaoiejgbbmjpkaaGreatDoor
open Go.RowKit
set_option linter.unusedVariables false

/-- A transaction out of bytes, as what is read or the error. -/
def decE (l : List UInt8) : Except Nat TxD := if (decL l).2 ≠ 0 then .error (decL l).2 else .ok (decL l).1
end Go.Proofs.YtaoiejgbbmjpkaaGreatDoor

/- Layer 5's mathematics: when a batch is right, its bytes, both ways round. -/
namespace Go.Proofs.YtaoiejgbbmjpkaaGreatDoor
open Go.RowKit
set_option linter.unusedVariables false

/-- A batch. -/
structure BatD where
  author : Int
  number : Int
  txs : List TxD

/-- The first error of transactions. -/
def firstE : List TxD → Nat
  | [] => 0
  | d :: r => if checkL d ≠ 0 then checkL d else firstE r

def checkB (b : BatD) : Nat :=
  if b.author < 0 ∨ 6 < b.author ∨ b.number < 1 ∨ 4611686018427387903 < b.number then 2 else if b.txs.length = 0 then 12 else if 16 < b.txs.length then 8 else firstE b.txs

/-- A right batch's bytes. -/
def encBat (b : BatD) : List UInt8 := goInt b.author ++ goInt b.number ++ lst (b.txs.map encL)

def finBat (b : BatD) (l : List UInt8) : Except Nat BatD :=
  if l ≠ [] then .error 6 else if 6 < b.author then .error 2 else if checkB b ≠ 0 then .error (checkB b) else .ok b

/-- A batch out of bytes, or the first error. -/
def decBat (l : List UInt8) : Except Nat BatD :=
  rdI l fun a l => rdI l fun n l => rdL 16 l fun ms l => match eachE decE ms with
    | .error e => .error e
    | .ok ts => finBat ⟨(a : Int), (n : Int), ts⟩ l

theorem firstE_zero : ∀ (l : List TxD), firstE l = 0 → ∀ d ∈ l, checkL d = 0
  | [], _ => by simp
  | d :: r, h => by
    rw [firstE] at h
    by_cases h1 : checkL d ≠ 0
    · rw [if_pos h1] at h; exact absurd h h1
    rw [if_neg h1] at h
    intro x hx
    rw [List.mem_cons] at hx
    rcases hx with rfl | hx
    · omega
    · exact firstE_zero r h x hx

theorem checkB_zero {b : BatD} (h : checkB b = 0) : 0 ≤ b.author ∧ b.author ≤ 6 ∧ 1 ≤ b.number ∧ b.number ≤ 4611686018427387903 ∧ 1 ≤ b.txs.length ∧ b.txs.length ≤ 16 ∧ ∀ d ∈ b.txs, checkL d = 0 := by
  unfold checkB at h
  by_cases h1 : b.author < 0 ∨ 6 < b.author ∨ b.number < 1 ∨ 4611686018427387903 < b.number
  · rw [if_pos h1] at h; omega
  rw [if_neg h1] at h
  by_cases h2 : b.txs.length = 0
  · rw [if_pos h2] at h; omega
  rw [if_neg h2] at h
  by_cases h3 : 16 < b.txs.length
  · rw [if_pos h3] at h; omega
  rw [if_neg h3] at h
  exact ⟨by omega, by omega, by omega, by omega, by omega, by omega, firstE_zero _ h⟩

theorem flat_enc_le : ∀ (l : List TxD), (∀ d ∈ l, checkL d = 0) → ((l.map encL).flatMap txt).length ≤ 2009 * l.length
  | [], _ => by simp
  | d :: r, h => by
    have h1 := flat_enc_le r (fun x hx => h x (by simp [hx]))
    have h2 := txt_le (encL d)
    have h3 := enc_len (h d (by simp))
    simp only [List.map_cons, List.flatMap_cons, List.length_append, List.length_cons]
    omega

theorem encBat_len {b : BatD} (h : checkB b = 0) : (encBat b).length ≤ 33000 := by
  obtain ⟨_, _, _, _, _, z6, z7⟩ := checkB_zero h
  have x0 := goInt_length b.author
  have x1 := goInt_length b.number
  have x2 := flat_enc_le b.txs z7
  have x3 := goInt_length (b.txs.map encL).length
  unfold encBat
  rw [lst]
  simp only [List.length_append]
  omega
end Go.Proofs.YtaoiejgbbmjpkaaGreatDoor

/- What batch.Check does; nothing old in memory is turned. -/
namespace Go.Proofs.YtaoiejgbbmjpkaaGreatDoor
open Go.RowKit
set_option linter.unusedVariables false

/-- The data of a row. -/
def dl (l : List TxM) : List TxD := l.map TxM.d

theorem dl_length (l : List TxM) : (dl l).length = l.length := by simp [dl]

/-- A batch's cells. -/
def batC (a n : Int) (ao : Option Addr) (len cap : Nat) : List Value := [.int .i64 a, .int .i64 n, .slice ao len cap]

theorem firstE_drop (l : List TxM) (k : Nat) (x : TxM) (hx : l[k]? = some x) : firstE (dl (l.drop k)) = if checkL x.d ≠ 0 then checkL x.d else firstE (dl (l.drop (k + 1))) := by
  have hk := (List.getElem?_eq_some_iff.1 hx).1
  have hd : l.drop k = l[k] :: l.drop (k + 1) := List.drop_eq_getElem_cons hk
  have he : l[k] = x := (List.getElem?_eq_some_iff.1 hx).2
  rw [hd, he, dl, List.map_cons, firstE]
  rfl

set_option maxRecDepth 100000 in
theorem isAuthor_any (n : Int) (w : World) : Calls Tryz.prog 102 #[.int .i64 n] w fun e w' => e = .returned (.bool (decide (0 ≤ n) && decide (n ≤ 6))) ∧ w' = w := by
  by_cases h0 : 0 ≤ n
  · by_cases h1 : n ≤ 6
    · rw [decide_eq_true h0, decide_eq_true h1]
      go_enter Tryz.func102, Tryz.ntmps102
      go_wp2
      go_ret
      exact ⟨rfl, rfl⟩
    · rw [decide_eq_true h0, decide_eq_false h1]
      have d1 : decide (n ≤ 6) = false := decide_eq_false h1
      go_enter Tryz.func102, Tryz.ntmps102
      go_wp2
      go_ret
      exact ⟨rfl, rfl⟩
  · rw [decide_eq_false h0]
    have d0 : decide (0 ≤ n) = false := decide_eq_false h0
    go_enter Tryz.func102, Tryz.ntmps102
    go_wp2
    go_ret
    exact ⟨rfl, rfl⟩

set_option maxRecDepth 100000 in
set_option maxHeartbeats 1000000 in
theorem batCheck_any (a n : Int) (ao : Option Addr) (l : List TxM) (cap : Nat) (w : World) (hA : TxsAt w ao l) :
    Calls Tryz.prog 67 #[batV a n ao l.length cap] w fun e w' => e = .returned (.int .i64 (checkB ⟨a, n, dl l⟩ : Int)) ∧ Below w.heap.size w w' := by
  have hX : Arr _ _ _ (batC a n ao l.length cap) := Arr.new w 26 (batC a n ao l.length cap)
  have hB := belowNew w (.cells (batC a n ao l.length cap).toArray 26)
  have x0 := hX.cell (i := 0) rfl
  have x1 := hX.cell (i := 1) rfl
  have x2 := hX.cell (i := 2) rfl
  have cA := isAuthor_any a
  have hdl := dl_length l
  have bad : ∀ {P : Prop}, (a < 0 ∨ 6 < a ∨ n < 1 ∨ 4611686018427387903 < n) → Hid (checkB ⟨a, n, dl l⟩ = 2) := fun h => (if_pos h : _ = _)
  unfold batV
  by_cases h0 : a < 0 ∨ 6 < a
  · have H := bad (P := True) (by omega)
    have d0 : (decide (0 ≤ a) && decide (a ≤ 6)) = false := by rw [Bool.and_eq_false_iff, decide_eq_false_iff_not, decide_eq_false_iff_not]; omega
    rw [d0] at cA
    go_enter Tryz.func67, Tryz.ntmps67
    go_wp2_with fail
    refine (cA _).mono ?_
    rintro e w1 ⟨rfl, rfl⟩
    go_wp2
    go_ret
    exact ⟨by rw [H.out]; rfl, hB⟩
  have d0 : (decide (0 ≤ a) && decide (a ≤ 6)) = true := by rw [Bool.and_eq_true, decide_eq_true_eq, decide_eq_true_eq]; omega
  rw [d0] at cA
  by_cases h1 : n < 1
  · have H := bad (P := True) (by omega)
    go_enter Tryz.func67, Tryz.ntmps67
    go_wp2_with fail
    refine (cA _).mono ?_
    rintro e w1 ⟨rfl, rfl⟩
    go_wp2
    go_ret
    exact ⟨by rw [H.out]; rfl, hB⟩
  have d1 : decide (n < 1) = false := decide_eq_false h1
  by_cases h2 : 4611686018427387903 < n
  · have H := bad (P := True) (by omega)
    go_enter Tryz.func67, Tryz.ntmps67
    go_wp2_with fail
    refine (cA _).mono ?_
    rintro e w1 ⟨rfl, rfl⟩
    go_wp2
    go_ret
    exact ⟨by rw [H.out]; rfl, hB⟩
  have d2 : decide (4611686018427387903 < n) = false := decide_eq_false h2
  have H0 : checkB ⟨a, n, dl l⟩ = _ := if_neg (show ¬ (a < 0 ∨ 6 < a ∨ n < 1 ∨ 4611686018427387903 < n) by omega)
  clear bad
  by_cases h3 : l.length = 0
  · have H : Hid (checkB ⟨a, n, dl l⟩ = 12) := (H0.trans (if_pos (by show (dl l).length = 0; omega)) : _ = _)
    have hn : l = [] := List.eq_nil_of_length_eq_zero h3
    clear H0
    subst hn
    go_enter Tryz.func67, Tryz.ntmps67
    go_wp2_with fail
    refine (cA _).mono ?_
    rintro e w1 ⟨rfl, rfl⟩
    go_wp2
    go_ret
    exact ⟨by rw [H.out]; rfl, hB⟩
  have e3 : ((l.length : Int) == 0) = false := beq_eq_false_iff_ne.2 (by omega)
  replace H0 := H0.trans (if_neg (by show ¬ (dl l).length = 0; omega))
  by_cases h4 : 16 < l.length
  · have H : Hid (checkB ⟨a, n, dl l⟩ = 8) := (H0.trans (if_pos (by show 16 < (dl l).length; omega)) : _ = _)
    have e4 : (16 : Int) < l.length := by omega
    clear H0
    go_enter Tryz.func67, Tryz.ntmps67
    go_wp2_with fail
    refine (cA _).mono ?_
    rintro e w1 ⟨rfl, rfl⟩
    go_wp2
    go_ret
    exact ⟨by rw [H.out]; rfl, hB⟩
  have e4 : decide ((16 : Int) < l.length) = false := decide_eq_false (by omega)
  have H : Hid (checkB ⟨a, n, dl l⟩ = firstE (dl l)) := (H0.trans (if_neg (by show ¬ 16 < (dl l).length; omega)) : _ = _)
  have e5 : l.length ≤ 16 := by omega
  clear H0 h3 h4 h0 h1 h2
  go_enter Tryz.func67, Tryz.ntmps67
  go_wp2_with fail
  refine (cA _).mono ?_
  rintro e w1 ⟨rfl, rfl⟩
  clear cA
  go_wp2
  go_loopw [4, 5, 31] (fun v4 v5 v31 wr => ∃ k : Nat, k ≤ l.length ∧ v31 = .int .i64 (k : Int) ∧ Hid (checkB ⟨a, n, dl l⟩ = firstE (dl (l.drop k))) ∧ Below w.heap.size w wr) (fun _ _ v _ => l.length - (intOf v).toNat)
  case atStart => exact ⟨0, Nat.zero_le _, rfl, H, hB⟩
  case round =>
    obtain ⟨k, hk, rfl, hK, hb⟩ := hrel
    clear H hB hX x0 x1 x2
    by_cases hlt : k < l.length
    · obtain ⟨x, hx⟩ : ∃ x, l[k]? = some x := ⟨l[k], List.getElem?_eq_getElem hlt⟩
      obtain ⟨b, off, rfl, hbl, y0, y1, y2, y3, y4, y5, y6, y7, y8⟩ := (hA.below hb).cells hx
      have hAt := (hA k x hx).2.below hb
      have hstep := hK.out.trans (firstE_drop l k x hx)
      have cC := fun w1 (h : TxAt w1 x.d x.ra x.wa) => check_any x.d x.ra x.rc x.wa x.wc w1 h
      clear hK hx
      have hAt2 := hAt.below (belowNew wr (.cells x.c.toArray 86))
      have hb2 := hb.alloc hb.size (.cells x.c.toArray 86)
      go_wp2_with fail
      refine (cC _ hAt2.at_).mono ?_
      rintro e w2 ⟨rfl, hb3⟩
      have hb4 := hb2.trans (hb3.mono hb2.size)
      clear hb2 hb3 hAt2 hAt cC y0 y1 y2 y3 y4 y5 y6 y7 y8
      by_cases hc : checkL x.d ≠ 0
      · have H : Hid (checkB ⟨a, n, dl l⟩ = checkL x.d) := (hstep.trans (if_pos hc) : _ = _)
        have hc2 : ((checkL x.d : Int) != 0) = true := by rw [bne_iff_ne]; omega
        clear hstep
        go_wp2
        go_ret
        exact ⟨by rw [H.out]; rfl, hb4⟩
      · have H : Hid (checkB ⟨a, n, dl l⟩ = firstE (dl (l.drop (k + 1)))) := (hstep.trans (if_neg hc) : _ = _)
        have hc2 : checkL x.d = 0 := by omega
        clear hstep hc
        go_wp2
        go_roundw
        case rel => exact ⟨k + 1, by omega, by go_num, H, hb4⟩
        case measure => simp [intOf]; omega
    · have H : Hid (checkB ⟨a, n, dl l⟩ = 0) := by show _ = _; rw [hK.out, List.drop_of_length_le (by omega)]; rfl
      clear hK
      go_wp2
      go_ret
      exact ⟨by rw [H.out]; rfl, hb⟩
end Go.Proofs.YtaoiejgbbmjpkaaGreatDoor

/- Certificates as they lie in memory. -/
namespace Go.Proofs.YtaoiejgbbmjpkaaGreatDoor
open Go.RowKit
set_option linter.unusedVariables false

/-- A certificate as it lies in memory. -/
structure CertM where
  hdr : HdrM
  va : Option Addr
  votes : List TagD
  vc : Nat

def CertM.d (x : CertM) : CertD := ⟨x.hdr.d, x.votes⟩
def CertM.c (x : CertM) : List Value := [.int .i64 x.hdr.author, .int .i64 x.hdr.round, .slice x.hdr.ra x.hdr.refs.length x.hdr.rc, .slice x.hdr.pa x.hdr.parents.length x.hdr.pc, .slice x.va x.votes.length x.vc]
def CertM.v (x : CertM) : Value := .agg #[.int .i64 x.hdr.author, .int .i64 x.hdr.round, .slice x.hdr.ra x.hdr.refs.length x.hdr.rc, .slice x.hdr.pa x.hdr.parents.length x.hdr.pc, .slice x.va x.votes.length x.vc]

/-- Its lists lie in memory, and nil is nil. -/
structure CertM.At (w : World) (x : CertM) : Prop where
  hdr : x.hdr.At w
  votes : RowAt tagK w x.va x.votes
  nv : x.va = none → x.vc = 0

def CertM.foot (x : CertM) (b : Nat) : Prop := x.hdr.foot b ∨ rowFoot tagK x.va x.votes b

def certK : Kind CertM where
  n := 5
  c := CertM.c
  foot := CertM.foot
  At := CertM.At
  pos := by decide
  len _ := rfl
  one x u hu := by
    simp only [CertM.c, List.mem_cons, List.not_mem_nil, or_false] at hu
    rcases hu with rfl | rfl | rfl | rfl | rfl <;> rfl
  lt h hf := hf.elim (fun q => Kind.lt hdrK h.hdr q) h.votes.lt
  keep h hk := ⟨Kind.keep hdrK h.hdr (fun b hb => hk b (Or.inl hb)), h.votes.keep (fun b hb => hk b (Or.inr hb)), h.nv⟩

theorem CertM.At.below {w w' : World} {x : CertM} (ha : x.At w) (hb : Below w.heap.size w w') : x.At w' := Kind.below certK ha hb

/-- No certificate. -/
def cert0 : CertM := ⟨⟨0, 0, none, [], 0, none, [], 0⟩, none, [], 0⟩

theorem cert0_at (w : World) : cert0.At w := ⟨⟨nil_row _ _, fun _ => rfl, nil_row _ _, fun _ => rfl⟩, nil_row _ _, fun _ => rfl⟩

theorem infoCert7 : (Tryz.prog.info? 33).map (·.size) = some 5 := by kernel_rfl
end Go.Proofs.YtaoiejgbbmjpkaaGreatDoor

/- The mathematics of layer 9: when a message is right, its bytes, both ways round. -/
namespace Go.Proofs.YtaoiejgbbmjpkaaGreatDoor
open Go.RowKit
set_option linter.unusedVariables false

/-- A message. -/
structure MsgD where
  kind : Int
  digest : ByteArray
  view : Int
  tag : TagD
  batch : BatD
  header : HdrD
  cert : CertD
  block : BlkD
  qc : QcD

def tagZ : TagD := ⟨0, ⟨#[]⟩⟩
def batZ : BatD := ⟨0, 0, []⟩
def hdrZ : HdrD := ⟨0, 0, [], []⟩
def certZ : CertD := ⟨hdrZ, []⟩
def qcZ : QcD := ⟨0, ⟨#[]⟩, []⟩
def blkZ : BlkD := ⟨0, qcZ, []⟩

/-- A message with a kind alone. -/
def msgZ (k : Int) : MsgD := ⟨k, ⟨#[]⟩, 0, tagZ, batZ, hdrZ, certZ, blkZ, qcZ⟩

/-- The fields of a kind: b batch, d digest, v view, t tag, h header, c cert, k block, q Qc. -/
def fieldsK (k : Int) : List UInt8 :=
  if k = 1 then [98] else if k = 2 then [100, 116] else if k = 3 then [104] else if k = 4 then [100, 116] else if k = 5 then [99] else if k = 6 then [107, 116]
  else if k = 7 then [118, 100, 116] else if k = 8 then [118, 113, 116] else if k = 9 then [100] else if k = 10 then [100] else if k = 11 then [100] else []

theorem fieldsK_none {k : Int} (h : k < 1 ∨ 11 < k) : fieldsK k = [] := by
  unfold fieldsK
  rw [if_neg (by omega), if_neg (by omega), if_neg (by omega), if_neg (by omega), if_neg (by omega), if_neg (by omega), if_neg (by omega), if_neg (by omega), if_neg (by omega), if_neg (by omega), if_neg (by omega)]

theorem kind_cases {k : Int} (h : fieldsK k ≠ []) : k = 1 ∨ k = 2 ∨ k = 3 ∨ k = 4 ∨ k = 5 ∨ k = 6 ∨ k = 7 ∨ k = 8 ∨ k = 9 ∨ k = 10 ∨ k = 11 := by
  have h1 : ¬ (k < 1 ∨ 11 < k) := fun hc => h (fieldsK_none hc)
  omega

/-- Fields that hold nothing. -/
abbrev TagD.Nil (t : TagD) : Prop := t.who = 0 ∧ t.mac.size = 0
abbrev BatD.Nil (b : BatD) : Prop := b.author = 0 ∧ b.number = 0 ∧ b.txs.length = 0
abbrev HdrD.Nil (h : HdrD) : Prop := h.author = 0 ∧ h.round = 0 ∧ h.refs.length = 0 ∧ h.parents.length = 0
abbrev CertD.Nil (c : CertD) : Prop := c.header.Nil ∧ c.votes.length = 0
abbrev QcD.Nil (q : QcD) : Prop := q.view = 0 ∧ q.block.size = 0 ∧ q.votes.length = 0
abbrev BlkD.Nil (b : BlkD) : Prop := b.view = 0 ∧ b.qc.Nil ∧ b.certs.length = 0

/-- Fields that do not belong to its kind hold nothing. -/
abbrev MsgD.Bare (m : MsgD) : Prop :=
  (100 ∈ fieldsK m.kind ∨ m.digest.size = 0) ∧ (118 ∈ fieldsK m.kind ∨ m.view = 0) ∧ (116 ∈ fieldsK m.kind ∨ m.tag.Nil) ∧ (98 ∈ fieldsK m.kind ∨ m.batch.Nil) ∧ (104 ∈ fieldsK m.kind ∨ m.header.Nil) ∧
  (99 ∈ fieldsK m.kind ∨ m.cert.Nil) ∧ (107 ∈ fieldsK m.kind ∨ m.block.Nil) ∧ (113 ∈ fieldsK m.kind ∨ m.qc.Nil)

/-- Plain fields. -/
abbrev tagOk (t : TagD) : Prop := 0 ≤ t.who ∧ t.who ≤ 6 ∧ t.mac.size = 16
abbrev tagsOk (l : List TagD) : Prop := (∀ t ∈ l, tagOk t) ∧ l.length ≤ 7

theorem tagOk.fit {t : TagD} (h : tagOk t) : t.Fit := ⟨h.1, h.2.1, h.2.2⟩
abbrev numOk (n : Int) : Prop := 0 ≤ n ∧ n ≤ 4611686018427387903
abbrev HdrD.Plain (h : HdrD) : Prop := (0 ≤ h.author ∧ h.author ≤ 6 ∧ numOk h.round ∧ h.refs.length ≤ 4 ∧ h.parents.length ≤ 7) ∧ (∀ p ∈ h.parents, p.size = 32) ∧ ∀ r ∈ h.refs, r.digest.size = 32 ∧ tagsOk r.acks
abbrev QcD.Plain (q : QcD) : Prop := numOk q.view ∧ q.block.size = 32 ∧ tagsOk q.votes
abbrev BlkD.Plain (b : BlkD) : Prop := numOk b.view ∧ b.qc.Plain ∧ b.certs.length ≤ 8 ∧ ∀ c ∈ b.certs, c.size = 40
abbrev CertD.Plain (c : CertD) : Prop := c.header.Plain ∧ tagsOk c.votes

/-- The fields that belong to its kind are right (a batch aside). -/
structure MsgD.Ok (m : MsgD) : Prop where
  dig : 100 ∈ fieldsK m.kind → m.digest.size = 32
  num : numOk m.view
  tag : 116 ∈ fieldsK m.kind → tagOk m.tag
  hdr : m.header.Plain
  cert : m.cert.Plain
  qc : 113 ∈ fieldsK m.kind → m.qc.Plain
  blk : 107 ∈ fieldsK m.kind → m.block.Plain

def okM (m : MsgD) : Bool :=
  decide (100 ∈ fieldsK m.kind → m.digest.size = 32) && decide (numOk m.view) && decide (116 ∈ fieldsK m.kind → tagOk m.tag) && decide m.header.Plain && decide m.cert.Plain && decide (113 ∈ fieldsK m.kind → m.qc.Plain) && decide (107 ∈ fieldsK m.kind → m.block.Plain)

theorem okM_iff {m : MsgD} : okM m = true ↔ m.Ok := by
  unfold okM
  simp only [Bool.and_eq_true, decide_eq_true_eq]
  constructor
  · rintro ⟨⟨⟨⟨⟨⟨a, b⟩, c⟩, d⟩, e⟩, f⟩, g⟩
    exact ⟨a, b, c, d, e, f, g⟩
  · rintro ⟨a, b, c, d, e, f, g⟩
    exact ⟨⟨⟨⟨⟨⟨a, b⟩, c⟩, d⟩, e⟩, f⟩, g⟩

/-- What is wrong with a message. -/
def chkM (m : MsgD) : Nat := if fieldsK m.kind = [] then 5 else if ¬ m.Bare then 3 else if 98 ∈ fieldsK m.kind then checkB m.batch else if okM m = true then 0 else 3

/-- A field's bytes. -/
def fieldB (m : MsgD) (c : UInt8) : List UInt8 :=
  if c = 118 then goInt m.view else if c = 116 then tagsB [m.tag] else if c = 100 then txt m.digest.data.toList else if c = 98 then txt (encBat m.batch) else if c = 104 then txt (encH m.header)
  else if c = 99 then txt (encC m.cert) else if c = 107 then txt (encK m.block) else txt (encQ m.qc)

/-- A right message's bytes. -/
def encM (m : MsgD) : List UInt8 := goInt m.kind ++ (fieldsK m.kind).flatMap (fieldB m)

/-- One field from the front of bytes. -/
def rdF {α : Type} (c : UInt8) (p : MsgD) (l : List UInt8) (f : MsgD → List UInt8 → Except Nat α) : Except Nat α :=
  if c = 118 then rdI l fun v l => f { p with view := (v : Int) } l
  else if c = 116 then rdG l fun ts l => match ts with
    | [t] => f { p with tag := t } l
    | _ => .error 12
  else rdT l fun t l =>
    if c = 100 then f { p with digest := ⟨t.toArray⟩ } l
    else if c = 98 then match decBat t with
      | .error e => .error e
      | .ok b => f { p with batch := b } l
    else if c = 104 then match decH t with
      | .error e => .error e
      | .ok b => f { p with header := b } l
    else if c = 99 then match decC t with
      | .error e => .error e
      | .ok b => f { p with cert := b } l
    else if c = 107 then match decK t with
      | .error e => .error e
      | .ok b => f { p with block := b } l
    else match decQ t with
      | .error e => .error e
      | .ok b => f { p with qc := b } l

/-- The fields one behind the other. -/
def rdFs {α : Type} : List UInt8 → MsgD → List UInt8 → (MsgD → List UInt8 → Except Nat α) → Except Nat α
  | [], p, l, f => f p l
  | c :: cs, p, l, f => rdF c p l fun p l => rdFs cs p l f

/-- A message out of bytes, or the first error. -/
def decM (l : List UInt8) : Except Nat MsgD :=
  rdI l fun k l => if fieldsK (k : Int) = [] then .error 5 else rdFs (fieldsK (k : Int)) (msgZ (k : Int)) l fun m l => if l ≠ [] then .error 6 else if chkM m ≠ 0 then .error (chkM m) else .ok m

theorem hdr_plain_fit {h : HdrD} (hp : h.Plain) : h.Fit := by
  obtain ⟨⟨a, b, c, d, e⟩, f, g⟩ := hp
  exact ⟨a, b, c.1, c.2, d, fun x hx => ⟨by have := (g x hx).1; omega, (g x hx).2.2, fun t ht => ((g x hx).2.1 t ht).fit⟩, e, fun p hp => by have := f p hp; omega⟩

theorem bytes_nil {b : ByteArray} (h : b.size = 0) : b = ⟨#[]⟩ := by
  obtain ⟨a⟩ := b
  have : a = #[] := Array.eq_empty_of_size_eq_zero h
  rw [this]

theorem HdrD.Nil.eq {t : HdrD} (h : t.Nil) : t = hdrZ := by
  obtain ⟨a, b, c, d⟩ := t
  obtain ⟨h1, h2, h3, h4⟩ := h
  have h1' : a = 0 := h1
  have h2' : b = 0 := h2
  have h3' : c = [] := List.length_eq_zero_iff.1 h3
  have h4' : d = [] := List.length_eq_zero_iff.1 h4
  rw [h1', h2', h3', h4']
  rfl

theorem CertD.Nil.eq {t : CertD} (h : t.Nil) : t = certZ := by
  obtain ⟨a, b⟩ := t
  obtain ⟨h1, h2⟩ := h
  have h1' : a = hdrZ := HdrD.Nil.eq h1
  have h2' : b = [] := List.length_eq_zero_iff.1 h2
  rw [h1', h2']
  rfl

/-- One field out of another message. -/
def setF (c : UInt8) (p m : MsgD) : MsgD :=
  if c = 118 then { p with view := m.view } else if c = 116 then { p with tag := m.tag } else if c = 100 then { p with digest := m.digest } else if c = 98 then { p with batch := m.batch }
  else if c = 104 then { p with header := m.header } else if c = 99 then { p with cert := m.cert } else if c = 107 then { p with block := m.block } else { p with qc := m.qc }

/-- A field that can be read. -/
def fitF (m : MsgD) (c : UInt8) : Prop :=
  if c = 118 then numOk m.view else if c = 116 then m.tag.Fit else if c = 100 then m.digest.size ≤ 65536 else if c = 98 then checkB m.batch = 0 ∧ (encBat m.batch).length ≤ 65536
  else if c = 104 then m.header.Fit ∧ (encH m.header).length ≤ 65536
  else if c = 99 then (m.cert.header.Fit ∧ (encH m.cert.header).length ≤ 65536 ∧ m.cert.votes.length ≤ 7 ∧ ∀ t ∈ m.cert.votes, t.Fit) ∧ (encC m.cert).length ≤ 65536
  else if c = 107 then m.block.Fit ∧ (encK m.block).length ≤ 65536 else m.qc.Fit ∧ (encQ m.qc).length ≤ 65536

/-- The letters of fields. -/
def letters : List UInt8 := [118, 116, 100, 98, 104, 99, 107, 113]

theorem fieldsK_letters (k : Int) : (fieldsK k).Nodup ∧ ∀ c ∈ fieldsK k, c ∈ letters := by
  by_cases h : fieldsK k = []
  · rw [h]; simp
  · rcases kind_cases h with rfl | rfl | rfl | rfl | rfl | rfl | rfl | rfl | rfl | rfl | rfl <;> decide

def setFs : List UInt8 → MsgD → MsgD → MsgD
  | [], p, _ => p
  | c :: cs, p, m => setFs cs (setF c p m) m

theorem chkM_parts {m : MsgD} (h : chkM m = 0) : fieldsK m.kind ≠ [] ∧ m.Bare ∧ (98 ∈ fieldsK m.kind → checkB m.batch = 0) ∧ (98 ∉ fieldsK m.kind → m.Ok) := by
  unfold chkM at h
  split at h
  · cases h
  rename_i h1
  split at h
  · cases h
  rename_i h2
  refine ⟨h1, Decidable.of_not_not h2, fun h3 => ?_, fun h3 => ?_⟩
  · rw [if_pos h3] at h
    exact h
  · rw [if_neg h3] at h
    split at h
    · exact okM_iff.1 (by assumption)
    · cases h

theorem batch_alone {k : Int} {c : UInt8} (hc : c ∈ fieldsK k) (h : c ≠ 98) : 98 ∉ fieldsK k := by
  have hk : fieldsK k ≠ [] := fun e => by rw [e] at hc; cases hc
  rcases kind_cases hk with rfl | rfl | rfl | rfl | rfl | rfl | rfl | rfl | rfl | rfl | rfl
  · have : c ∈ ([98] : List UInt8) := hc
    simp at this
    exact absurd this h
  all_goals decide
end Go.Proofs.YtaoiejgbbmjpkaaGreatDoor

/- Transactions, batches and messages as they lie in memory. -/
namespace Go.Proofs.YtaoiejgbbmjpkaaGreatDoor
open Go.RowKit
set_option linter.unusedVariables false

/-- Transactions. -/
def txK : Kind TxM where
  n := 9
  c := TxM.c
  foot x b := rowFoot strK x.ra x.d.rs b ∨ rowFoot strK x.wa x.d.ws b
  At w x := x.At w
  pos := by decide
  len _ := rfl
  one x u hu := by
    simp only [TxM.c, txC, List.mem_cons, List.not_mem_nil, or_false] at hu
    rcases hu with rfl | rfl | rfl | rfl | rfl | rfl | rfl | rfl | rfl <;> rfl
  lt h hf := hf.elim h.at_.rd.row.lt h.at_.wr.row.lt
  keep h hk := ⟨⟨(h.at_.rd.row.keep (fun b hb => hk b (Or.inl hb))).strs, (h.at_.wr.row.keep (fun b hb => hk b (Or.inr hb))).strs⟩, h.nr, h.nw⟩

theorem RowAt.txs {w : World} {ao : Option Addr} {l : List TxM} (h : RowAt txK w ao l) : TxsAt w ao l :=
  fun i x hx => ⟨h.cell i x hx, h.at_ x (List.mem_of_getElem? hx)⟩

theorem TxsAt.rows {w : World} {ao : Option Addr} {l : List TxM} (h : TxsAt w ao l) : RowAt txK w ao l :=
  ⟨fun i x hx => (h i x hx).1, fun x hx => by
    obtain ⟨i, hi⟩ := List.getElem?_of_mem hx
    exact (h i x hi).2⟩

/-- A batch as it lies in memory. -/
structure BatM where
  author : Int
  number : Int
  ta : Option Addr
  txs : List TxM
  tc : Nat

def BatM.d (x : BatM) : BatD := ⟨x.author, x.number, dl x.txs⟩
def BatM.c (x : BatM) : List Value := [.int .i64 x.author, .int .i64 x.number, .slice x.ta x.txs.length x.tc]
def BatM.v (x : BatM) : Value := .agg #[.int .i64 x.author, .int .i64 x.number, .slice x.ta x.txs.length x.tc]

structure BatM.At (w : World) (x : BatM) : Prop where
  txs : RowAt txK w x.ta x.txs
  nt : x.ta = none → x.tc = 0

def batK : Kind BatM where
  n := 3
  c := BatM.c
  foot x := rowFoot txK x.ta x.txs
  At := BatM.At
  pos := by decide
  len _ := rfl
  one x u hu := by
    simp only [BatM.c, List.mem_cons, List.not_mem_nil, or_false] at hu
    rcases hu with rfl | rfl | rfl <;> rfl
  lt h hf := h.txs.lt hf
  keep h hk := ⟨h.txs.keep hk, h.nt⟩

/-- A message as it lies in memory. -/
structure MsgM where
  kind : Int
  digest : ByteArray
  view : Int
  tag : TagD
  bat : BatM
  hdr : HdrM
  cert : CertM
  blk : BlkM
  qc : QcM

def MsgM.d (x : MsgM) : MsgD := ⟨x.kind, x.digest, x.view, x.tag, x.bat.d, x.hdr.d, x.cert.d, x.blk.d, x.qc.d⟩
def MsgM.c (x : MsgM) : List Value := [.int .i64 x.kind, .string x.digest, .int .i64 x.view, .int .i64 x.tag.who, .string x.tag.mac,
  .int .i64 x.bat.author, .int .i64 x.bat.number, .slice x.bat.ta x.bat.txs.length x.bat.tc,
  .int .i64 x.hdr.author, .int .i64 x.hdr.round, .slice x.hdr.ra x.hdr.refs.length x.hdr.rc, .slice x.hdr.pa x.hdr.parents.length x.hdr.pc,
  .int .i64 x.cert.hdr.author, .int .i64 x.cert.hdr.round, .slice x.cert.hdr.ra x.cert.hdr.refs.length x.cert.hdr.rc, .slice x.cert.hdr.pa x.cert.hdr.parents.length x.cert.hdr.pc, .slice x.cert.va x.cert.votes.length x.cert.vc,
  .int .i64 x.blk.view, .int .i64 x.blk.qc.view, .string x.blk.qc.block, .slice x.blk.qc.va x.blk.qc.votes.length x.blk.qc.vc, .slice x.blk.ca x.blk.certs.length x.blk.cc,
  .int .i64 x.qc.view, .string x.qc.block, .slice x.qc.va x.qc.votes.length x.qc.vc]
def MsgM.v (x : MsgM) : Value := .agg x.c.toArray

/-- Its lists lie in memory, and nil is nil. -/
structure MsgM.At (w : World) (x : MsgM) : Prop where
  bat : x.bat.At w
  hdr : x.hdr.At w
  cert : x.cert.At w
  blk : x.blk.At w
  qc : x.qc.At w

def MsgM.foot (x : MsgM) (b : Nat) : Prop := rowFoot txK x.bat.ta x.bat.txs b ∨ x.hdr.foot b ∨ x.cert.foot b ∨ x.blk.foot b ∨ x.qc.foot b

def msgK : Kind MsgM where
  n := 25
  c := MsgM.c
  foot := MsgM.foot
  At := MsgM.At
  pos := by decide
  len _ := rfl
  one x u hu := by
    simp only [MsgM.c, List.mem_cons, List.not_mem_nil, or_false] at hu
    rcases hu with rfl | rfl | rfl | rfl | rfl | rfl | rfl | rfl | rfl | rfl | rfl | rfl | rfl | rfl | rfl | rfl | rfl | rfl | rfl | rfl | rfl | rfl | rfl | rfl | rfl <;> rfl
  lt h hf := by
    rcases hf with hf | hf | hf | hf | hf
    · exact Kind.lt batK h.bat hf
    · exact Kind.lt hdrK h.hdr hf
    · exact Kind.lt certK h.cert hf
    · exact Kind.lt blkK h.blk hf
    · exact Kind.lt qcK h.qc hf
  keep h hk := ⟨Kind.keep batK h.bat (fun b hb => hk b (Or.inl hb)), Kind.keep hdrK h.hdr (fun b hb => hk b (Or.inr (Or.inl hb))), Kind.keep certK h.cert (fun b hb => hk b (Or.inr (Or.inr (Or.inl hb)))),
    Kind.keep blkK h.blk (fun b hb => hk b (Or.inr (Or.inr (Or.inr (Or.inl hb))))), Kind.keep qcK h.qc (fun b hb => hk b (Or.inr (Or.inr (Or.inr (Or.inr hb)))))⟩

theorem MsgM.At.below {w w' : World} {x : MsgM} (ha : x.At w) (hb : Below w.heap.size w w') : x.At w' := Kind.below msgK ha hb

/-- No message, of a kind. -/
def bat0 : BatM := ⟨0, 0, none, [], 0⟩
def hdr9 : HdrM := ⟨0, 0, none, [], 0, none, [], 0⟩
def msg0 (k : Int) : MsgM := ⟨k, ⟨#[]⟩, 0, tagZ, bat0, hdr9, cert0, blk0, qc0⟩

theorem msg0_at (k : Int) (w : World) : (msg0 k).At w := ⟨⟨nil_row _ _, fun _ => rfl⟩, ⟨nil_row _ _, fun _ => rfl, nil_row _ _, fun _ => rfl⟩, cert0_at w, blk0_at w, qc0_at w⟩

theorem infoMsg9 : (Tryz.prog.info? 39).map (·.size) = some 25 := by kernel_rfl
end Go.Proofs.YtaoiejgbbmjpkaaGreatDoor

/- What Tags of package header does; nothing old in memory is turned. -/
namespace Go.Proofs.YtaoiejgbbmjpkaaGreatDoor
open Go.RowKit
set_option linter.unusedVariables false

/-- Tags' members. -/
def memT (l : List TagD) : List ByteArray := l.map (fun t => ⟨(tagB t).toArray⟩)

theorem memT_length (l : List TagD) : (memT l).length = l.length := by simp [memT]

theorem bl_memT (l : List TagD) : bl (memT l) = l.map tagB := by simp [bl, memT]

theorem memT_succ (l : List TagD) (k : Nat) (t : TagD) (h : l[k]? = some t) : memT (l.take (k + 1)) = memT (l.take k) ++ [⟨(tagB t).toArray⟩] := by
  have hk := (List.getElem?_eq_some_iff.1 h).1
  have he := (List.getElem?_eq_some_iff.1 h).2
  rw [List.take_succ_eq_append_getElem hk, he]
  simp [memT]

theorem tag_join (t : TagD) : (⟨(goInt t.who).toArray⟩ ++ t.mac : ByteArray) = ⟨(tagB t).toArray⟩ := by
  apply ByteArray.ext
  simp [tagB]

theorem new_str (w : World) (s : ByteArray) : ∀ j u, (strK.c s)[j]? = some u → (w.alloc (.cells #[.string s] 9)).cell? ((⟨w.heap.size, 0, none⟩ : Addr).add j) = some u := by
  intro j u hu
  rw [Go.WideShapes.add_plain, Nat.zero_add]
  exact (Arr.new w 9 [.string s]).cell hu

set_option maxRecDepth 100000 in
set_option maxHeartbeats 1000000 in
theorem tags_any (ao : Option Addr) (cap : Nat) (l : List TagD) (w : World) (hA : RowAt tagK w ao l) (hn : l.length ≤ 1000000000) (hsz : ∀ t ∈ l, t.mac.size ≤ 140737488351232) (hlen : (tagsB l).length ≤ 140737488355328) :
    Calls Tryz.prog 71 #[.slice ao l.length cap] w fun e w' => e = .returned (.string ⟨(tagsB l).toArray⟩) ∧ Below w.heap.size w w' := by
  obtain ⟨i0, hi, hz0, hz1, hz2⟩ := info_parts infoString
  have Hlen : Hid ((tagsB l).length ≤ 140737488355328) := hlen
  clear hlen
  go_enter Tryz.func71, Tryz.ntmps71
  go_wp2
  go_loopw [3, 5, 8] (fun v3 v5 v8 wr => ∃ i : Nat, i ≤ l.length ∧ v8 = .int .i64 (i : Int) ∧ KQ strK 9 wr w.heap.size v3 (memT (l.take i)) ∧ Below w.heap.size w wr) (fun _ _ v _ => l.length - (intOf v).toNat)
  case atStart => exact ⟨0, Nat.zero_le _, rfl, KQ.empty _ _ _ _, Below.refl _ _⟩
  case round =>
    obtain ⟨i, hil, rfl, hq, hb⟩ := hrel
    by_cases hlt : i < l.length
    · obtain ⟨t, ht⟩ : ∃ t, l[i]? = some t := ⟨l[i], List.getElem?_eq_getElem hlt⟩
      obtain ⟨b, off, rfl, hbl, y0, y1⟩ := (hA.below hb).tag ht
      have hms := memT_succ l i t ht
      have hmz := hsz t (List.mem_of_getElem? ht)
      have hml : (memT (l.take i)).length = i := by rw [memT_length, List.length_take]; omega
      have hjo := tag_join t
      obtain ⟨nb, hnb⟩ : ∃ z, z = (⟨(goInt t.who).toArray⟩ : ByteArray) := ⟨_, rfl⟩
      obtain ⟨tb, htb⟩ : ∃ z, z = (⟨(tagB t).toArray⟩ : ByteArray) := ⟨_, rfl⟩
      have cI : Hid (∀ w1, Calls Tryz.prog 38 #[.int .i64 t.who] w1 fun e w2 => e = .returned (.string nb) ∧ Below w1.heap.size w1 w2) := by
        intro w1
        rw [hnb]
        exact int_any _ _
      have hnl : nb.size ≤ 9 := by rw [hnb, size_mk]; exact goInt_length _
      have hsum : ¬ (9223372036854775807 < nb.size + t.mac.size) := by omega
      rw [← hnb, ← htb] at hjo
      rw [← htb] at hms
      have Hms : Hid (memT (l.take (i + 1)) = memT (l.take i) ++ [tb]) := hms
      obtain ⟨ms, hmse⟩ : ∃ q, q = memT (l.take i) := ⟨_, rfl⟩
      rw [← hmse] at hq hml Hms
      clear hnb htb ht hms hmse
      have hbx := belowNew wr (.cells #[.int .i64 t.who, .string t.mac] 23)
      have hX := Arr.new wr 23 [.int .i64 t.who, .string t.mac]
      have hb2 := hb.trans (hbx.mono hb.size)
      have hq2 := hq.below hbx
      go_wp2_with fail
      obtain ⟨w1, hw1⟩ : ∃ q, wr.alloc (.cells #[.int .i64 t.who, .string t.mac] 23) = q := ⟨_, rfl⟩
      rw [hw1] at hX hb2 hq2 ⊢
      clear hw1 hbx hq hb y0 y1
      have x0 := hX.cell (i := 0) rfl
      have x1 := hX.cell (i := 1) rfl
      obtain ⟨qa, qc, rfl, hqn, _⟩ := hq2.form
      rw [hml] at hq2 ⊢
      go_region_law (first
        | (go_simp; go_at_call 38; refine (cI.out _).mono ?_; rintro e w2 ⟨rfl, hb3⟩; have hb4 : Below w1.heap.size w1 w2 := ((Below.refl _ w1).drew).trans hb3; have hX2 := hX.below hb4 hX.lt; have x0a := hX2.cell (i := 0) rfl; have x1a := hX2.cell (i := 1) rfl; have hbn := hb4.alloc hb4.size (.cells #[.string tb] 9); have hq4 := hq2.below hbn; have hN := new_str w2 tb; have hbs := (hb2.trans (hbn.mono hb2.size)).size)
        | (refine step_push (K := strK) _ (by rfl) _ _ 28 (by rfl) w.heap.size 9 i0 (.string ⟨#[]⟩) 16 Tryz.underlying28 hi hz0 hz1 hz2 rfl _ ms (by rfl) hq4 tb trivial (fun _ h => h.elim) ⟨w2.heap.size, 0, none⟩ 1 (by rfl) hN (by rw [hml]; unfold maxLen; omega) (by rw [hml]; omega) hbs ?_; intro ao3 cap3 w3 hq3 hk3))
      all_goals
        have hkB := Kept.below hk3 hbs (fun j hj => (hq4.lt j hj).1)
        have hbF := (hb2.trans (hbn.mono hb2.size)).trans hkB
        have hq5 : KQ strK 9 w3 w.heap.size (.slice ao3 (i + 1) cap3) (memT (l.take (i + 1))) := by rw [Hms.out, ← hml]; exact hq3
        clear hq3 hk3 hkB hq4 hN hbs hbn hX2 x0a x1a hb3 hb4 hq2 hb2 hX x0 x1
        go_wp2
        go_roundw
        case rel => exact ⟨i + 1, by omega, by go_num, hq5, hbF⟩
        case measure => simp [intOf]; omega
    · obtain rfl : i = l.length := by omega
      rw [List.take_length] at hq
      obtain ⟨qa, qc, rfl, hqn, hqt⟩ := hq.form
      have hlst : (lst (bl (memT l))).length ≤ 140737488355328 := by rw [bl_memT]; exact Hlen.out
      have cL := list_any qa qc (memT l) wr hqt.strs hlst (by rw [memT_length]; omega)
      have hml := memT_length l
      rw [hml] at cL ⊢
      have E : Hid ((⟨(lst (bl (memT l))).toArray⟩ : ByteArray) = ⟨(tagsB l).toArray⟩) := by show _ = _; rw [bl_memT]; rfl
      generalize (⟨(lst (bl (memT l))).toArray⟩ : ByteArray) = r at cL E
      clear hq hqt hlst hml
      go_wp2_with fail
      refine cL.mono ?_
      rintro e w1 ⟨rfl, hb1⟩
      have hbF := hb.trans (hb1.mono hb.size)
      clear cL
      go_wp2
      go_ret
      exact ⟨by rw [E.out]; rfl, hbF⟩
end Go.Proofs.YtaoiejgbbmjpkaaGreatDoor
