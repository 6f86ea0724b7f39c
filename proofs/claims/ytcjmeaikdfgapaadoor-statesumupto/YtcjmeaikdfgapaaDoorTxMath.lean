/- Layer 4's mathematics: names, keys, when a transaction is right, what it needs. -/
import Derived.Test.YtcjmeaikdfgapaaDoorWireBackMath
namespace Go.Proofs.YtcjmeaikdfgapaaDoor
open Go.RowKit
set_option linter.unusedVariables false

def nameByte (c : UInt8) : Bool := (decide (97 ≤ c.toNat) && decide (c.toNat ≤ 122)) || (decide (48 ≤ c.toNat) && decide (c.toNat ≤ 57))

/-- Is it a name? -/
def isNm (s : ByteArray) : Bool := decide (1 ≤ s.size) && decide (s.size ≤ 32) && s.data.toList.all nameByte

/-- Does it begin so? -/
def cutOk (s p : ByteArray) : Bool := decide (p.size ≤ s.size) && ((s.extract 0 p.size).toList == p.toList)

def aP : ByteArray := ⟨#[97, 58]⟩
def kP : ByteArray := ⟨#[107, 58]⟩

/-- Is it a key? -/
def isKy (s : ByteArray) : Bool := (cutOk s aP || cutOk s kP) && isNm (s.extract 2 s.size)

/-- What is wrong with a list of keys, behind one. -/
def keysGo : ByteArray → List ByteArray → Nat
  | _, [] => 0
  | a, k :: r => if isKy k = false then 3 else if (Op.bytesLess k.toList a.toList || k.toList == a.toList) = true then 9 else keysGo k r

def keysL (l : List ByteArray) : Nat := if 8 < l.length then 8 else keysGo ⟨#[]⟩ l

/-- A transaction. -/
structure TxD where
  kind : Int
  frm : ByteArray
  to : ByteArray
  amt : Nat
  non : Nat
  key : ByteArray
  val : ByteArray
  rs : List ByteArray
  ws : List ByteArray

def TxD.none : TxD := ⟨0, ⟨#[]⟩, ⟨#[]⟩, 0, 0, ⟨#[]⟩, ⟨#[]⟩, [], []⟩

def fieldsR (d : TxD) : Bool :=
  isNm d.frm && (if d.kind = 1 then isNm d.to && (d.key.toList == []) && (d.val.toList == []) else isNm d.key && decide (d.val.size ≤ 64) && (d.to.toList == []) && decide (d.amt = 0))

/-- What is wrong with a transaction. -/
def checkL (d : TxD) : Nat :=
  if d.kind ≠ 1 ∧ d.kind ≠ 2 then 5 else if fieldsR d = false then 3 else if 4611686018427387903 < d.amt ∨ 4611686018427387903 < d.non then 2 else if keysL d.rs ≠ 0 then keysL d.rs else keysL d.ws

/-- A right transaction's bytes. -/
def encL (d : TxD) : List UInt8 :=
  goInt d.kind ++ txt d.frm.data.toList ++ txt d.to.data.toList ++ goInt d.amt ++ goInt d.non ++ txt d.key.data.toList ++ txt d.val.data.toList ++ lst (bl d.rs) ++ lst (bl d.ws)

def encB (d : TxD) : ByteArray := if checkL d = 0 then ⟨(encL d).toArray⟩ else ⟨#[]⟩

/-- What a transaction needs. -/
def needsL (d : TxD) : List ByteArray :=
  if checkL d = 0 then
    (if d.kind = 2 then [aP ++ d.frm, kP ++ d.key]
     else if Op.bytesLess (aP ++ d.frm).toList (aP ++ d.to).toList = true then [aP ++ d.frm, aP ++ d.to]
     else if Op.bytesLess (aP ++ d.to).toList (aP ++ d.frm).toList = true then [aP ++ d.to, aP ++ d.frm]
     else [aP ++ d.frm])
  else []

def hasL (l : List ByteArray) (s : ByteArray) : Bool := l.any (fun x => s.toList == x.toList)

def fitsL (d : TxD) : Bool := !(needsL d).isEmpty && (needsL d).all (hasL d.ws)

/-- A transaction as a value. -/
def txV (d : TxD) (ra : Option Addr) (rc : Nat) (wa : Option Addr) (wc : Nat) : Value :=
  .agg #[.int .i64 d.kind, .string d.frm, .string d.to, .int .u64 (d.amt : Int), .int .u64 (d.non : Int), .string d.key, .string d.val, .slice ra d.rs.length rc, .slice wa d.ws.length wc]

/-- Its lists lie in memory. -/
structure TxAt (w : World) (d : TxD) (ra wa : Option Addr) : Prop where
  rd : StrsAt w ra d.rs
  wr : StrsAt w wa d.ws

theorem TxAt.below {w w' : World} {d : TxD} {ra wa : Option Addr} (h : TxAt w d ra wa) (hb : Below w.heap.size w w') : TxAt w' d ra wa := ⟨h.rd.below hb, h.wr.below hb⟩

theorem StrsAt.below' {B : Nat} {w w' : World} {ao : Option Addr} {ss : List ByteArray} (h : StrsAt w ao ss) (hb : Below B w w') (hB : w.heap.size ≤ B) : StrsAt w' ao ss := h.below (hb.mono hB)

theorem keysL_le (l : List ByteArray) (h : keysL l = 0) : l.length ≤ 8 := by
  unfold keysL at h
  split at h <;> omega

theorem keysGo_err : ∀ (l : List ByteArray) (a : ByteArray), keysGo a l ≤ 9
  | [], _ => by simp [keysGo]
  | k :: r, a => by
    rw [keysGo]
    split
    · omega
    · split
      · omega
      · exact keysGo_err r k

end Go.Proofs.YtcjmeaikdfgapaaDoor
