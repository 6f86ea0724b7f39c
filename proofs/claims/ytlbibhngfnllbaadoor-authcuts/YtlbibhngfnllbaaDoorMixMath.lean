/- The digest of layer 2 as plain functions of lists: words of thirty-two bits, their mixing, blocks, the digest of a text under a key. -/
import Derived.Laws.BitsAllLaws
namespace Go.Proofs.YtlbibhngfnllbaaDoor

def rotr (x : UInt32) (n : Nat) : UInt32 := UInt32.ofNat ((x.toNat / 2 ^ n) ||| (x.toNat * 2 ^ (32 - n) % 4294967296))

/-- A word as a value. -/
def wv (x : UInt32) : Value := .int .u32 (x.toNat : Int)

theorem wv_one (x : UInt32) : (wv x).oneCell' = true := rfl

theorem u32_lt (x : UInt32) : x.toNat < 4294967296 := x.toNat_lt

def wadd (x y : UInt32) : UInt32 := x + y
def wxor (x y : UInt32) : UInt32 := x ^^^ y
def wor (x y : UInt32) : UInt32 := x ||| y

theorem fold_add (x y : UInt32) : ((x.toNat : Int) + (y.toNat : Int)) % 4294967296 = ((wadd x y).toNat : Int) := by
  unfold wadd; rw [UInt32.toNat_add]; omega
theorem fold_xor (x y : UInt32) : bits .xor .u32 (x.toNat : Int) (y.toNat : Int) = ((wxor x y).toNat : Int) := by
  unfold wxor; rw [u32_xor_nat _ _ x.toNat_lt y.toNat_lt, UInt32.toNat_xor]
theorem fold_or (x y : UInt32) : bits .or .u32 (x.toNat : Int) (y.toNat : Int) = ((wor x y).toNat : Int) := by
  unfold wor; rw [u32_or_nat _ _ x.toNat_lt y.toNat_lt, UInt32.toNat_or]
theorem wadd_assoc (x y z : UInt32) : wadd (wadd x y) z = wadd x (wadd y z) := UInt32.add_assoc x y z
theorem wxor_assoc (x y z : UInt32) : wxor (wxor x y) z = wxor x (wxor y z) := UInt32.xor_assoc x y z

theorem rotr_toNat (x : UInt32) (n : Nat) : (rotr x n).toNat = (x.toNat / 2 ^ n) ||| (x.toNat * 2 ^ (32 - n) % 4294967296) := by
  unfold rotr
  rw [UInt32.toNat_ofNat']
  refine Nat.mod_eq_of_lt (Nat.or_lt_two_pow (n := 32) (Nat.lt_of_le_of_lt (Nat.div_le_self _ _) x.toNat_lt) (Nat.mod_lt _ (by decide)))

/-- Four words, mixed with two. -/
structure Quad where
  a : UInt32
  b : UInt32
  c : UInt32
  d : UInt32

def quad (a b c d x y : UInt32) : Quad :=
  let a1 := wadd a (wadd b x)
  let d1 := rotr (wxor d a1) 16
  let c1 := wadd c d1
  let b1 := rotr (wxor b c1) 12
  let a2 := wadd a1 (wadd b1 y)
  let d2 := rotr (wxor d1 a2) 8
  let c2 := wadd c1 d2
  let b2 := rotr (wxor b1 c2) 7
  ⟨a2, b2, c2, d2⟩

def rv (r : Nat) : Value := .int .u8 (r : Int)

/-- Four words of a row, mixed with two. -/
def stepQ (ws : List UInt32) (p q u v : Nat) (x y : UInt32) : List UInt32 :=
  let r := quad (ws.getD p 0) (ws.getD q 0) (ws.getD u 0) (ws.getD v 0) x y
  (((ws.set p r.a).set q r.b).set u r.c).set v r.d

/-- Columns, then diagonals. -/
def stirL (ws ms : List UInt32) (rs : List Nat) : List UInt32 :=
  let s0 := stepQ ws 0 4 8 12 (ms.getD (rs.getD 0 0) 0) (ms.getD (rs.getD 1 0) 0)
  let s1 := stepQ s0 1 5 9 13 (ms.getD (rs.getD 2 0) 0) (ms.getD (rs.getD 3 0) 0)
  let s2 := stepQ s1 2 6 10 14 (ms.getD (rs.getD 4 0) 0) (ms.getD (rs.getD 5 0) 0)
  let s3 := stepQ s2 3 7 11 15 (ms.getD (rs.getD 6 0) 0) (ms.getD (rs.getD 7 0) 0)
  let s4 := stepQ s3 0 5 10 15 (ms.getD (rs.getD 8 0) 0) (ms.getD (rs.getD 9 0) 0)
  let s5 := stepQ s4 1 6 11 12 (ms.getD (rs.getD 10 0) 0) (ms.getD (rs.getD 11 0) 0)
  let s6 := stepQ s5 2 7 8 13 (ms.getD (rs.getD 12 0) 0) (ms.getD (rs.getD 13 0) 0)
  stepQ s6 3 4 9 14 (ms.getD (rs.getD 14 0) 0) (ms.getD (rs.getD 15 0) 0)
end Go.Proofs.YtlbibhngfnllbaaDoor
