/- Texts as one: WireList, WireGetList, WireBackMath, TxMath, TextMath, StaMath, StaWay, ExeMath, ExePlan, ExeRun, TxName, TxCheck. -/
import Derived.Test.YtajpfkenhchafaaDoorEd02
import Derived.Test.YtajpfkenhchafaaDoorEd01
/- What wire.List does: the texts' bytes behind their count; nothing old in memory is turned. -/
namespace Go.Proofs.YtajpfkenhchafaaDoor
open Go.RowKit

theorem grown_of_below {w w' : World} (h : Below w.heap.size w w') : w.grownBy w' none := ⟨h.os, h.tape, h.output, h.size, fun k hk _ => h.block k hk⟩

theorem builder_keep {T e : TypeId} {B b : Nat} {bs : List Value} {w w' : World} (h : Lib.IsBuilder T e B b bs w) (hb : Below w.heap.size w w') : Lib.IsBuilder T e B b bs w' := by
  have one : ∀ p, Lib.BuilderAt T e B b p bs w → Lib.BuilderAt T e B b p bs w' := by
    rintro p ⟨hB, v, hbk, hown, hne⟩
    refine ⟨hB, v, ?_, hown.kept (grown_of_below hb) ?_, hne⟩
    · rw [hb.block b (Array.getElem?_eq_some_iff.1 hbk).1]; exact hbk
    · cases hv : v.ownBlock <;> simp
  rcases h with h | h
  · exact Or.inl (one _ h)
  · exact Or.inr (one _ h)
end Go.Proofs.YtajpfkenhchafaaDoor

/- What wire.GetList does: the texts at the front of bytes, in new memory, in how many bytes, and the error; nothing old in memory is turned. -/
namespace Go.Proofs.YtajpfkenhchafaaDoor
open Go.RowKit

/-- m texts more, from a place on, behind those that are got. -/
def glGo (l : List UInt8) : Nat → Nat → List (List UInt8) → List (List UInt8) × Nat × Nat
  | 0, at_, acc => (acc, at_, 0)
  | m + 1, at_, acc => if (getText (l.drop at_)).2.2 ≠ 0 then ([], 0, (getText (l.drop at_)).2.2) else glGo l m (at_ + (getText (l.drop at_)).2.1) (acc ++ [(getText (l.drop at_)).1])

def getList (l : List UInt8) (most : Int) : List (List UInt8) × Nat × Nat :=
  if (getInt l).2.2 ≠ 0 then ([], 0, (getInt l).2.2)
  else if most < (getInt l).1 then ([], 0, 8)
  else glGo l (getInt l).1 (getInt l).2.1 []

def strVal (t : List UInt8) : Value := .string ⟨t.toArray⟩

def slLen : Value → Nat | .slice _ n _ => n | _ => 0

theorem infoString : (Tryd.prog.info? 9).map (fun i => (i.zero, i.size, i.bytes)) = some (some (.string ⟨#[]⟩), 1, 16) := by kernel_rfl

theorem strVal_one (l : List (List UInt8)) : ∀ u ∈ l.map strVal, u.oneCell' = true := by
  intro u hu
  obtain ⟨b, _, rfl⟩ := List.mem_map.1 hu
  rfl

theorem extract_drop (s : ByteArray) (a : Nat) : (s.extract a s.size).data.toList = s.data.toList.drop a := by
  rw [extract_list]
  rw [List.take_of_length_le (by simp)]

theorem own_slice {w : World} {B : Nat} {e : TypeId} {v : Value} {n : Nat} {xs : List Value} (h : w.ownsRow B e 1 v n xs) : ∃ ao cap, v = .slice ao n cap := by
  rcases h.2 with ⟨rfl, rfl⟩ | ⟨g, cap, cur, rfl, _⟩
  · exact ⟨_, _, rfl⟩
  · exact ⟨_, _, rfl⟩

def GotList (w w' : World) (r : List (List UInt8) × Nat × Nat) (v : Value) : Prop :=
  ∃ ao cap, v = .tuple #[.slice ao r.1.length cap, .int .i64 r.2.1, .int .i64 r.2.2] ∧ w'.ownsRow w.heap.size 9 1 (.slice ao r.1.length cap) r.1.length (r.1.map strVal)
end Go.Proofs.YtajpfkenhchafaaDoor

/- The plain mathematics of layer wire, both ways: what is written is got again; what is got is written as it was; what is cut off is too short. -/
namespace Go.Proofs.YtajpfkenhchafaaDoor

theorem toNat_more (m : Nat) : (UInt8.ofNat (128 + m % 128)).toNat = 128 + m % 128 := by
  simp
  omega

theorem toNat_last (m : Nat) (h : m < 128) : (UInt8.ofNat m).toNat = m := by
  simp
  omega

theorem giGo_enc : ∀ (m acc i : Nat) (r : List UInt8), acc + m * 128 ^ i ≤ 4611686018427387903 → (i = 0 ∨ m ≠ 0) → i + (enc m).length ≤ 9 →
    giGo (enc m ++ r) acc i = (acc + m * 128 ^ i, i + (enc m).length, 0) := by
  intro m
  induction m using Nat.strongRecOn with
  | _ m ih =>
    intro acc i r h1 h2 h3
    by_cases hm : m < 128
    · rw [enc_small m hm] at h3 ⊢
      rw [List.singleton_append, giGo, toNat_last m hm, if_neg (by omega)]
      have e : m % 128 = m := by omega
      rw [e, if_neg (by omega), if_neg (by omega)]
      simp
    · rw [enc_big m (by omega)] at h3 ⊢
      have hp := enc_length_pos (m / 128)
      rw [List.length_cons] at h3
      rw [List.cons_append, giGo, toNat_more, if_pos (by omega), if_neg (by omega)]
      have e : (128 + m % 128) % 128 = m % 128 := by omega
      have e2 : acc + m % 128 * 128 ^ i + m / 128 * 128 ^ (i + 1) = acc + m * 128 ^ i := by
        have e3 : m = m % 128 + 128 * (m / 128) := by omega
        rw [Nat.pow_succ]
        conv => rhs; rw [e3]
        rw [Nat.add_mul, ← Nat.mul_assoc, Nat.mul_comm (m / 128) (128 ^ i), Nat.mul_comm 128 (m / 128), Nat.mul_assoc (m / 128) 128, Nat.mul_comm 128 (128 ^ i), ← Nat.mul_assoc (m / 128), Nat.mul_comm (m / 128) (128 ^ i)]
        omega
      rw [e, ih (m / 128) (by omega) _ _ r (by rw [e2]; exact h1) (by omega) (by omega), e2, List.length_cons]
      congr 2
      omega

theorem getInt_enc (n : Nat) (r : List UInt8) (h : n ≤ 4611686018427387903) : getInt (enc n ++ r) = (n, (enc n).length, 0) := by
  have := giGo_enc n 0 0 r (by simpa using h) (Or.inl rfl) (by have := enc_length_nine n h; omega)
  rw [getInt, this]
  simp

theorem giGo_back : ∀ (l : List UInt8) (acc i N k : Nat), giGo l acc i = (N, k, 0) → ∃ m, N = acc + m * 128 ^ i ∧ k = i + (enc m).length ∧ l.take (enc m).length = enc m ∧ (i = 0 ∨ m ≠ 0)
  | [], _, _, _, _ => by intro h; simp [giGo] at h
  | c :: r, acc, i, N, k => by
    intro h
    have hc : c.toNat < 256 := UInt8.toNat_lt c
    rw [giGo] at h
    by_cases h1 : 128 ≤ c.toNat
    · rw [if_pos h1] at h
      by_cases h2 : i + 1 = 9
      · rw [if_pos h2] at h; simp at h
      · rw [if_neg h2] at h
        obtain ⟨m, e1, e2, e3, e4⟩ := giGo_back r _ _ _ _ h
        have hm : m ≠ 0 := by omega
        have hen : enc (c.toNat % 128 + 128 * m) = c :: enc m := by
          rw [enc_big _ (by omega)]
          have a1 : (c.toNat % 128 + 128 * m) / 128 = m := by omega
          have a2 : 128 + (c.toNat % 128 + 128 * m) % 128 = c.toNat := by omega
          rw [a1, a2]
          simp
        refine ⟨c.toNat % 128 + 128 * m, ?_, ?_, ?_, by omega⟩
        · rw [e1, Nat.pow_succ, Nat.add_mul, Nat.mul_comm (128 ^ i) 128, ← Nat.mul_assoc, Nat.mul_comm m 128]
          omega
        · rw [hen, List.length_cons]; omega
        · rw [hen, List.length_cons, List.take_succ_cons, e3]
    · rw [if_neg h1] at h
      by_cases h2 : 4611686018427387903 < acc + c.toNat % 128 * 128 ^ i
      · rw [if_pos h2] at h; simp at h
      · rw [if_neg h2] at h
        by_cases h3 : c.toNat = 0 ∧ 1 < i + 1
        · rw [if_pos h3] at h; simp at h
        · rw [if_neg h3] at h
          simp only [Prod.mk.injEq] at h
          have hen : enc c.toNat = [c] := by rw [enc_small _ (by omega)]; simp
          have e : c.toNat % 128 = c.toNat := by omega
          rw [e] at h
          refine ⟨c.toNat, h.1.symm, ?_, ?_, by omega⟩
          · rw [hen]; simp; omega
          · rw [hen]; simp

theorem getInt_back (l : List UInt8) (n k : Nat) (h : getInt l = (n, k, 0)) : l.take k = enc n ∧ k = (enc n).length := by
  obtain ⟨m, e1, e2, e3, _⟩ := giGo_back l 0 0 n k h
  simp at e1 e2
  subst e1
  subst e2
  exact ⟨e3, rfl⟩

theorem giGo_cut : ∀ (m acc i j : Nat), i + (enc m).length ≤ 9 → j < (enc m).length → giGo ((enc m).take j) acc i = (0, 0, 1) := by
  intro m
  induction m using Nat.strongRecOn with
  | _ m ih =>
    intro acc i j h1 h2
    by_cases hm : m < 128
    · rw [enc_small m hm] at h2 ⊢
      have : j = 0 := by simp at h2; omega
      subst this
      simp [giGo]
    · rw [enc_big m (by omega)] at h1 h2 ⊢
      have hp := enc_length_pos (m / 128)
      rw [List.length_cons] at h1 h2
      cases j with
      | zero => simp [giGo]
      | succ j =>
        rw [List.take_succ_cons, giGo, toNat_more, if_pos (by omega), if_neg (by omega)]
        exact ih (m / 128) (by omega) _ _ j (by omega) (by omega)

theorem getInt_cut (n j : Nat) (h : n ≤ 4611686018427387903) (hj : j < (enc n).length) : getInt ((enc n).take j) = (0, 0, 1) :=
  giGo_cut n 0 0 j (by have := enc_length_nine n h; omega) hj

theorem txt_enc (t : List UInt8) (h : t.length ≤ 4611686018427387903) : txt t = enc t.length ++ t := by
  rw [txt, goInt_nat _ h]

theorem getText_txt (t r : List UInt8) (h : t.length ≤ 65536) : getText (txt t ++ r) = (t, (txt t).length, 0) := by
  rw [txt_enc t (by omega), List.append_assoc]
  unfold getText
  rw [getInt_enc _ _ (by omega)]
  simp only [ne_eq, not_true_eq_false, if_false]
  rw [if_neg (by omega), if_neg (by simp)]
  simp

theorem getText_long (t r : List UInt8) (h : 65536 < t.length) (h2 : t.length ≤ 4611686018427387903) : getText (txt t ++ r) = ([], 0, 8) := by
  rw [txt_enc t h2, List.append_assoc]
  unfold getText
  rw [getInt_enc _ _ h2]
  simp [h]

theorem getText_back (l t : List UInt8) (k : Nat) (h : getText l = (t, k, 0)) : txt t = l.take k := by
  have hb := getText_bounds l t k h
  unfold getText at h
  rcases hr : getInt l with ⟨n, j, e⟩
  rw [hr] at h
  simp only at h
  by_cases h1 : e ≠ 0
  · rw [if_pos h1] at h; simp at h; omega
  · have h1 : e = 0 := by omega
    subst h1
    obtain ⟨g1, g2⟩ := getInt_back l n j hr
    have hbb := getInt_bounds l n j hr
    rw [if_neg (by simp)] at h
    by_cases h2 : 65536 < n
    · rw [if_pos h2] at h; simp at h
    · rw [if_neg h2] at h
      by_cases h3 : l.length - j < n
      · rw [if_pos h3] at h; simp at h
      · rw [if_neg h3] at h
        simp only [Prod.mk.injEq] at h
        obtain ⟨rfl, rfl, _⟩ := h
        have hlen : (List.take n (List.drop j l)).length = n := by simp; omega
        rw [txt_enc _ (by omega), hlen, ← g1, List.take_add]

theorem getText_cut (t : List UInt8) (j : Nat) (h : t.length ≤ 65536) (hj : j < (txt t).length) : getText ((txt t).take j) = ([], 0, 1) := by
  rw [txt_enc t (by omega)] at hj ⊢
  by_cases h1 : j < (enc t.length).length
  · rw [List.take_append_of_le_length (by omega)]
    unfold getText
    rw [getInt_cut _ _ (by omega) h1]
    simp
  · have e : (enc t.length ++ t).take j = enc t.length ++ t.take (j - (enc t.length).length) := by
      rw [List.take_append]
      rw [List.take_of_length_le (by omega)]
    rw [e]
    unfold getText
    rw [getInt_enc _ _ (by omega)]
    rw [List.length_append] at hj
    simp only [ne_eq, not_true_eq_false, if_false]
    rw [if_neg (by omega), if_pos (by rw [List.length_append, List.length_take]; omega)]

theorem glGo_flat : ∀ (ts : List (List UInt8)) (pre r : List UInt8) (acc : List (List UInt8)), (∀ t ∈ ts, t.length ≤ 65536) →
    glGo (pre ++ (ts.flatMap txt ++ r)) ts.length pre.length acc = (acc ++ ts, pre.length + (ts.flatMap txt).length, 0)
  | [], pre, r, acc, _ => by simp [glGo]
  | t :: ts, pre, r, acc, h => by
    have ht : t.length ≤ 65536 := h t (by simp)
    rw [List.length_cons, glGo, List.drop_left]
    have e1 : (t :: ts).flatMap txt ++ r = txt t ++ (ts.flatMap txt ++ r) := by simp
    rw [e1, getText_txt t _ ht]
    simp only [ne_eq, not_true_eq_false, if_false]
    have e2 : pre ++ (txt t ++ (ts.flatMap txt ++ r)) = (pre ++ txt t) ++ (ts.flatMap txt ++ r) := by simp
    have e3 : pre.length + (txt t).length = (pre ++ txt t).length := by simp
    rw [e2, e3, glGo_flat ts (pre ++ txt t) r (acc ++ [t]) (fun x hx => h x (by simp [hx]))]
    simp
    omega

theorem getList_lst (ts : List (List UInt8)) (r : List UInt8) (most : Int) (h : ∀ t ∈ ts, t.length ≤ 65536) (hn : ts.length ≤ 4611686018427387903) (hm : (ts.length : Int) ≤ most) :
    getList (lst ts ++ r) most = (ts, (lst ts).length, 0) := by
  have e : lst ts ++ r = enc ts.length ++ (ts.flatMap txt ++ r) := by rw [lst, goInt_nat _ hn]; simp
  unfold getList
  rw [e, getInt_enc _ _ hn]
  simp only [ne_eq, not_true_eq_false, if_false]
  rw [if_neg (by omega), glGo_flat ts (enc ts.length) r [] h, lst, goInt_nat _ hn]
  simp

theorem getList_few (ts : List (List UInt8)) (r : List UInt8) (most : Int) (hn : ts.length ≤ 4611686018427387903) (hm : most < (ts.length : Int)) :
    getList (lst ts ++ r) most = ([], 0, 8) := by
  have e : lst ts ++ r = enc ts.length ++ (ts.flatMap txt ++ r) := by rw [lst, goInt_nat _ hn]; simp
  unfold getList
  rw [e, getInt_enc _ _ hn]
  simp only [ne_eq, not_true_eq_false, if_false]
  rw [if_pos hm]

theorem glGo_cut : ∀ (ts : List (List UInt8)) (pre : List UInt8) (acc : List (List UInt8)) (j : Nat), (∀ t ∈ ts, t.length ≤ 65536) → j < (ts.flatMap txt).length →
    glGo (pre ++ (ts.flatMap txt).take j) ts.length pre.length acc = ([], 0, 1)
  | [], pre, acc, j, _, hj => by simp at hj
  | t :: ts, pre, acc, j, h, hj => by
    have ht : t.length ≤ 65536 := h t (by simp)
    have e1 : (t :: ts).flatMap txt = txt t ++ ts.flatMap txt := by simp
    rw [e1] at hj ⊢
    rw [List.length_cons, glGo, List.drop_left]
    by_cases h1 : j < (txt t).length
    · rw [List.take_append_of_le_length (by omega), getText_cut t j ht h1]
      simp
    · have e2 : (txt t ++ ts.flatMap txt).take j = txt t ++ (ts.flatMap txt).take (j - (txt t).length) := by
        rw [List.take_append]
        rw [List.take_of_length_le (by omega)]
      rw [e2, getText_txt t _ ht]
      simp only [ne_eq, not_true_eq_false, if_false]
      have e4 : pre ++ (txt t ++ (ts.flatMap txt).take (j - (txt t).length)) = (pre ++ txt t) ++ (ts.flatMap txt).take (j - (txt t).length) := by simp
      have e3 : pre.length + (txt t).length = (pre ++ txt t).length := by simp
      rw [e4, e3]
      exact glGo_cut ts (pre ++ txt t) (acc ++ [t]) _ (fun x hx => h x (by simp [hx])) (by rw [List.length_append] at hj; omega)

theorem getList_cut (ts : List (List UInt8)) (most : Int) (j : Nat) (h : ∀ t ∈ ts, t.length ≤ 65536) (hn : ts.length ≤ 4611686018427387903) (hm : (ts.length : Int) ≤ most) (hj : j < (lst ts).length) :
    getList ((lst ts).take j) most = ([], 0, 1) := by
  have e : lst ts = enc ts.length ++ ts.flatMap txt := by rw [lst, goInt_nat _ hn]
  rw [e] at hj ⊢
  unfold getList
  by_cases h1 : j < (enc ts.length).length
  · rw [List.take_append_of_le_length (by omega), getInt_cut _ _ hn h1]
    simp
  · have e2 : (enc ts.length ++ ts.flatMap txt).take j = enc ts.length ++ (ts.flatMap txt).take (j - (enc ts.length).length) := by
      rw [List.take_append]
      rw [List.take_of_length_le (by omega)]
    rw [e2, getInt_enc _ _ hn]
    simp only [ne_eq, not_true_eq_false, if_false]
    rw [if_neg (by omega)]
    exact glGo_cut ts _ [] _ h (by rw [List.length_append] at hj; omega)

end Go.Proofs.YtajpfkenhchafaaDoor

/- Layer 4's mathematics: names, keys, when a transaction is right, what it needs. -/
namespace Go.Proofs.YtajpfkenhchafaaDoor
open Go.RowKit
set_option linter.unusedVariables false

def nameByte (c : UInt8) : Bool := (decide (97 ≤ c.toNat) && decide (c.toNat ≤ 122)) || (decide (48 ≤ c.toNat) && decide (c.toNat ≤ 57))

/-- Is it a name? -/
def isNm (s : ByteArray) : Bool := decide (1 ≤ s.size) && decide (s.size ≤ 32) && s.data.toList.all nameByte

/-- Does it begin so? -/
def cutOk (s p : ByteArray) : Bool := decide (p.size ≤ s.size) && ((s.extract 0 p.size).toList == p.toList)

def aP : ByteArray := ⟨#[97, 58]⟩
def kP : ByteArray := ⟨#[107, 58]⟩

/-- Is it a key? -/
def isKy (s : ByteArray) : Bool := (cutOk s aP || cutOk s kP) && isNm (s.extract 2 s.size)

/-- What is wrong with a list of keys, behind one. -/
def keysGo : ByteArray → List ByteArray → Nat
  | _, [] => 0
  | a, k :: r => if isKy k = false then 3 else if (Op.bytesLess k.toList a.toList || k.toList == a.toList) = true then 9 else keysGo k r

def keysL (l : List ByteArray) : Nat := if 8 < l.length then 8 else keysGo ⟨#[]⟩ l

/-- A transaction. -/
structure TxD where
  kind : Int
  frm : ByteArray
  to : ByteArray
  amt : Nat
  non : Nat
  key : ByteArray
  val : ByteArray
  rs : List ByteArray
  ws : List ByteArray

def TxD.none : TxD := ⟨0, ⟨#[]⟩, ⟨#[]⟩, 0, 0, ⟨#[]⟩, ⟨#[]⟩, [], []⟩

def fieldsR (d : TxD) : Bool :=
  isNm d.frm && (if d.kind = 1 then isNm d.to && (d.key.toList == []) && (d.val.toList == []) else isNm d.key && decide (d.val.size ≤ 64) && (d.to.toList == []) && decide (d.amt = 0))

/-- What is wrong with a transaction. -/
def checkL (d : TxD) : Nat :=
  if d.kind ≠ 1 ∧ d.kind ≠ 2 then 5 else if fieldsR d = false then 3 else if 4611686018427387903 < d.amt ∨ 4611686018427387903 < d.non then 2 else if keysL d.rs ≠ 0 then keysL d.rs else keysL d.ws

/-- A right transaction's bytes. -/
def encL (d : TxD) : List UInt8 :=
  goInt d.kind ++ txt d.frm.data.toList ++ txt d.to.data.toList ++ goInt d.amt ++ goInt d.non ++ txt d.key.data.toList ++ txt d.val.data.toList ++ lst (bl d.rs) ++ lst (bl d.ws)

def encB (d : TxD) : ByteArray := if checkL d = 0 then ⟨(encL d).toArray⟩ else ⟨#[]⟩

/-- What a transaction needs. -/
def needsL (d : TxD) : List ByteArray :=
  if checkL d = 0 then
    (if d.kind = 2 then [aP ++ d.frm, kP ++ d.key]
     else if Op.bytesLess (aP ++ d.frm).toList (aP ++ d.to).toList = true then [aP ++ d.frm, aP ++ d.to]
     else if Op.bytesLess (aP ++ d.to).toList (aP ++ d.frm).toList = true then [aP ++ d.to, aP ++ d.frm]
     else [aP ++ d.frm])
  else []

def hasL (l : List ByteArray) (s : ByteArray) : Bool := l.any (fun x => s.toList == x.toList)

def fitsL (d : TxD) : Bool := !(needsL d).isEmpty && (needsL d).all (hasL d.ws)

/-- A transaction as a value. -/
def txV (d : TxD) (ra : Option Addr) (rc : Nat) (wa : Option Addr) (wc : Nat) : Value :=
  .agg #[.int .i64 d.kind, .string d.frm, .string d.to, .int .u64 (d.amt : Int), .int .u64 (d.non : Int), .string d.key, .string d.val, .slice ra d.rs.length rc, .slice wa d.ws.length wc]

/-- Its lists lie in memory. -/
structure TxAt (w : World) (d : TxD) (ra wa : Option Addr) : Prop where
  rd : StrsAt w ra d.rs
  wr : StrsAt w wa d.ws

theorem TxAt.below {w w' : World} {d : TxD} {ra wa : Option Addr} (h : TxAt w d ra wa) (hb : Below w.heap.size w w') : TxAt w' d ra wa := ⟨h.rd.below hb, h.wr.below hb⟩

theorem StrsAt.below' {B : Nat} {w w' : World} {ao : Option Addr} {ss : List ByteArray} (h : StrsAt w ao ss) (hb : Below B w w') (hB : w.heap.size ≤ B) : StrsAt w' ao ss := h.below (hb.mono hB)

theorem keysL_le (l : List ByteArray) (h : keysL l = 0) : l.length ≤ 8 := by
  unfold keysL at h
  split at h <;> omega

theorem keysGo_err : ∀ (l : List ByteArray) (a : ByteArray), keysGo a l ≤ 9
  | [], _ => by simp [keysGo]
  | k :: r, a => by
    rw [keysGo]
    split
    · omega
    · split
      · omega
      · exact keysGo_err r k

end Go.Proofs.YtajpfkenhchafaaDoor

/- Texts: their order and when they are the same. -/
namespace Go.Proofs.YtajpfkenhchafaaDoor
open Go Go.RowKit
set_option linter.unusedVariables false

theorem bytes_eq (a b : ByteArray) : (a.toList == b.toList) = decide (a = b) := by
  by_cases h : a = b
  · subst h; simp
  · rw [decide_eq_false h]
    refine beq_eq_false_iff_ne.2 (fun e => h ?_)
    rw [ByteArray.toList_eq, ByteArray.toList_eq] at e
    cases a
    cases b
    simpa using e

theorem lessT_eq : ∀ (x y : List UInt8), Op.bytesLess x y = decide (x < y)
  | [], [] => by simp [Op.bytesLess]
  | _ :: _, [] => by simp [Op.bytesLess]
  | [], _ :: _ => by simp [Op.bytesLess]
  | a :: x, b :: y => by
    rw [Op.bytesLess, lessT_eq x y]
    simp only [List.cons_lt_cons_iff]
    by_cases h1 : a < b <;> by_cases h2 : a = b <;> by_cases h3 : x < y <;> simp [h1, h2, h3]

theorem bytes_inj {a b : ByteArray} (h : a.toList = b.toList) : a = b := by
  have h1 := bytes_eq a b
  rw [h] at h1
  exact of_decide_eq_true (by rw [← h1]; simp)
end Go.Proofs.YtajpfkenhchafaaDoor

/- Layer 22's mathematics: states as functions, what Apply does with them, the order in which they are written. -/
namespace Go.Proofs.YtajpfkenhchafaaDoor
open Go
set_option linter.unusedVariables false

/-- Accounts: amount and number; values. -/
structure StF where
  acc : ByteArray → Nat × Nat
  val : ByteArray → Option ByteArray

def pnF {α : Type} (f : ByteArray → α) (n : ByteArray) (x : α) : ByteArray → α := fun m => if m = n then x else f m

theorem pnF_at {α : Type} (f : ByteArray → α) (n : ByteArray) (x : α) : pnF f n x n = x := by unfold pnF; rw [if_pos rfl]
theorem pnF_ne {α : Type} (f : ByteArray → α) {n m : ByteArray} (x : α) (h : m ≠ n) : pnF f n x m = f m := by unfold pnF; rw [if_neg h]

/-- What Apply answers. -/
def applyE (s : StF) (d : TxD) : Nat :=
  if fitsL d = false then 1
  else if d.non ≠ (s.acc d.frm).2 then 2
  else if d.kind = 1 ∧ (s.acc d.frm).1 < d.amt then 3
  else if d.kind = 1 ∧ d.to ≠ d.frm ∧ 4611686018427387903 < (s.acc d.to).1 + d.amt then 4
  else 0

/-- The accounts behind it, if it is done. -/
def accD (f : ByteArray → Nat × Nat) (d : TxD) : ByteArray → Nat × Nat :=
  if d.kind = 1 then
    pnF (pnF f d.frm ((f d.frm).1 - d.amt, (f d.frm).2 + 1)) d.to ((pnF f d.frm ((f d.frm).1 - d.amt, (f d.frm).2 + 1) d.to).1 + d.amt, (pnF f d.frm ((f d.frm).1 - d.amt, (f d.frm).2 + 1) d.to).2)
  else pnF f d.frm ((f d.frm).1, (f d.frm).2 + 1)

def applyF (s : StF) (d : TxD) : StF :=
  if applyE s d = 0 then ⟨accD s.acc d, if d.kind = 1 then s.val else pnF s.val d.key (some d.val)⟩ else s

/-- The accounts that it reaches. -/
def nmsD (d : TxD) : List ByteArray := if d.kind = 1 then [d.frm, d.to] else [d.frm]

theorem frm_in (d : TxD) : d.frm ∈ nmsD d := by unfold nmsD; split <;> simp
theorem to_in {d : TxD} (h : d.kind = 1) : d.to ∈ nmsD d := by unfold nmsD; rw [if_pos h]; simp

theorem accD_out (f : ByteArray → Nat × Nat) {d : TxD} {n : ByteArray} (h : n ∉ nmsD d) : accD f d n = f n := by
  have h1 : n ≠ d.frm := fun e => h (by rw [e]; exact frm_in d)
  unfold accD
  split
  · rename_i hk
    have h2 : n ≠ d.to := fun e => h (by rw [e]; exact to_in hk)
    rw [pnF_ne _ _ h2, pnF_ne _ _ h1]
  · rw [pnF_ne _ _ h1]

/-- It looks at these alone. -/
theorem accD_in {f g : ByteArray → Nat × Nat} {d : TxD} (h : ∀ n ∈ nmsD d, f n = g n) {n : ByteArray} (hn : n ∈ nmsD d) : accD f d n = accD g d n := by
  have h1 := h d.frm (frm_in d)
  unfold accD
  split
  · rename_i hk
    have h2 := h d.to (to_in hk)
    by_cases e : n = d.to
    · rw [e, pnF_at, pnF_at]
      by_cases e2 : d.to = d.frm
      · rw [e2, pnF_at, pnF_at, h1]
      · rw [pnF_ne _ _ e2, pnF_ne _ _ e2, h2]
    · rw [pnF_ne _ _ e, pnF_ne _ _ e]
      by_cases e2 : n = d.frm
      · rw [e2, pnF_at, pnF_at, h1]
      · rw [pnF_ne _ _ e2, pnF_ne _ _ e2]
        exact h n hn
  · by_cases e2 : n = d.frm
    · rw [e2, pnF_at, pnF_at, h1]
    · rw [pnF_ne _ _ e2, pnF_ne _ _ e2]
      exact h n hn

theorem applyE_of {s t : StF} {d : TxD} (h : ∀ n ∈ nmsD d, s.acc n = t.acc n) : applyE s d = applyE t d := by
  unfold applyE
  rw [h d.frm (frm_in d)]
  by_cases hk : d.kind = 1
  · rw [h d.to (to_in hk)]
  · simp [hk]

theorem applyF_out (s : StF) {d : TxD} {n : ByteArray} (h : n ∉ nmsD d) : (applyF s d).acc n = s.acc n := by
  unfold applyF
  split
  · exact accD_out s.acc h
  · rfl

theorem applyF_in {s t : StF} {d : TxD} (h : ∀ n ∈ nmsD d, s.acc n = t.acc n) {n : ByteArray} (hn : n ∈ nmsD d) : (applyF s d).acc n = (applyF t d).acc n := by
  unfold applyF
  rw [applyE_of h]
  split
  · exact accD_in h hn
  · exact h n hn

/-- The value that it lays. -/
theorem applyF_val (s : StF) (d : TxD) : (applyF s d).val = if applyE s d = 0 ∧ d.kind ≠ 1 then pnF s.val d.key (some d.val) else s.val := by
  unfold applyF
  by_cases h1 : applyE s d = 0 <;> by_cases h2 : d.kind = 1 <;> simp [h1, h2]

/-- Two that reach different accounts, and lay different values, may be done in either order. -/
theorem apply_either (s : StF) {d e : TxD} (h : ∀ n ∈ nmsD d, n ∉ nmsD e) (hk : d.kind ≠ 1 → e.kind ≠ 1 → d.key ≠ e.key) :
    applyE (applyF s e) d = applyE s d ∧ applyE (applyF s d) e = applyE s e ∧ applyF (applyF s d) e = applyF (applyF s e) d := by
  have h' : ∀ n ∈ nmsD e, n ∉ nmsD d := fun n hn hm => h n hm hn
  have e1 : applyE (applyF s e) d = applyE s d := applyE_of (fun n hn => applyF_out s (h n hn))
  have e2 : applyE (applyF s d) e = applyE s e := applyE_of (fun n hn => applyF_out s (h' n hn))
  refine ⟨e1, e2, ?_⟩
  have ha : (applyF (applyF s d) e).acc = (applyF (applyF s e) d).acc := funext (fun n => by
    by_cases hd : n ∈ nmsD d
    · rw [applyF_out _ (h n hd)]
      exact applyF_in (fun m hm => (applyF_out s (h m hm)).symm) hd
    · rw [applyF_out (applyF s e) hd]
      by_cases he : n ∈ nmsD e
      · exact applyF_in (fun m hm => applyF_out s (h' m hm)) he
      · rw [applyF_out _ he, applyF_out _ he, applyF_out _ hd])
  have hv : (applyF (applyF s d) e).val = (applyF (applyF s e) d).val := by
    rw [applyF_val (applyF s d) e, applyF_val (applyF s e) d, applyF_val s d, applyF_val s e, e1, e2]
    by_cases c1 : applyE s d = 0 ∧ d.kind ≠ 1
    · by_cases c2 : applyE s e = 0 ∧ e.kind ≠ 1
      · rw [if_pos c1, if_pos c1, if_pos c2, if_pos c2]
        have hne := hk c1.2 c2.2
        refine funext (fun n => ?_)
        unfold pnF
        by_cases n1 : n = d.key <;> by_cases n2 : n = e.key
        · exact (hne (n1.symm.trans n2)).elim
        · rw [if_neg n2, if_pos n1, if_pos n1]
        · rw [if_pos n2, if_neg n1, if_pos n2]
        · rw [if_neg n2, if_neg n1, if_neg n1, if_neg n2]
      · rw [if_pos c1, if_pos c1, if_neg c2, if_neg c2]
    · rw [if_neg c1, if_neg c1]
  generalize applyF (applyF s d) e = x at ha hv
  generalize applyF (applyF s e) d = y at ha hv
  cases x
  cases y
  simp only at ha hv
  rw [ha, hv]

/-- With another answer than 0 nothing changes. -/
theorem applyF_no {s : StF} {d : TxD} (h : applyE s d ≠ 0) : applyF s d = s := by unfold applyF; rw [if_neg h]

/-- The sum over names. -/
def sumN (f : ByteArray → Nat × Nat) (L : List ByteArray) : Nat := (L.map (fun n => (f n).1)).sum

theorem sumN_out (f : ByteArray → Nat × Nat) (n : ByteArray) (x : Nat × Nat) : ∀ {L : List ByteArray}, n ∉ L → sumN (pnF f n x) L = sumN f L
  | [], _ => rfl
  | m :: r, h => by
    have h1 : m ≠ n := fun e => h (by rw [e]; exact List.mem_cons_self)
    have ih := sumN_out f n x (L := r) (fun e => h (List.mem_cons_of_mem _ e))
    unfold sumN at ih ⊢
    rw [List.map_cons, List.map_cons, List.sum_cons, List.sum_cons, ih, pnF_ne _ _ h1]

theorem sumN_put (f : ByteArray → Nat × Nat) (n : ByteArray) (x : Nat × Nat) : ∀ {L : List ByteArray}, L.Nodup → n ∈ L → sumN (pnF f n x) L + (f n).1 = sumN f L + x.1
  | [], _, h => by cases h
  | m :: r, hd, h => by
    obtain ⟨h1, h2⟩ := List.nodup_cons.1 hd
    rcases List.mem_cons.1 h with e | e
    · subst e
      have := sumN_out f n x h1
      unfold sumN at this ⊢
      rw [List.map_cons, List.map_cons, List.sum_cons, List.sum_cons, this, pnF_at]
      omega
    · have hne : m ≠ n := fun q => h1 (by rw [q]; exact e)
      have ih := sumN_put f n x h2 e
      unfold sumN at ih ⊢
      rw [List.map_cons, List.map_cons, List.sum_cons, List.sum_cons, pnF_ne _ _ hne]
      omega

/-- The sum stays. -/
theorem sum_apply (s : StF) (d : TxD) {L : List ByteArray} (hL : L.Nodup) (h1 : d.frm ∈ L) (h2 : d.kind = 1 → d.to ∈ L) : sumN (applyF s d).acc L = sumN s.acc L := by
  by_cases h : applyE s d = 0
  · unfold applyF
    rw [if_pos h]
    show sumN (accD s.acc d) L = _
    unfold accD
    by_cases hk : d.kind = 1
    · rw [if_pos hk]
      have ha : d.amt ≤ (s.acc d.frm).1 := by
        unfold applyE at h
        split at h
        · cases h
        · split at h
          · cases h
          · split at h
            · cases h
            · rename_i h3
              exact Nat.le_of_not_lt (fun e => h3 ⟨hk, e⟩)
      have p1 := sumN_put s.acc d.frm ((s.acc d.frm).1 - d.amt, (s.acc d.frm).2 + 1) hL h1
      have p2 := sumN_put (pnF s.acc d.frm ((s.acc d.frm).1 - d.amt, (s.acc d.frm).2 + 1)) d.to ((pnF s.acc d.frm ((s.acc d.frm).1 - d.amt, (s.acc d.frm).2 + 1) d.to).1 + d.amt, (pnF s.acc d.frm ((s.acc d.frm).1 - d.amt, (s.acc d.frm).2 + 1) d.to).2) hL (h2 hk)
      simp only at p1 p2
      omega
    · rw [if_neg hk]
      have p1 := sumN_put s.acc d.frm ((s.acc d.frm).1, (s.acc d.frm).2 + 1) hL h1
      simp only at p1
      omega
  · rw [applyF_no h]

/-- Rising lists with the same members are the same. -/
theorem rise_ext : ∀ {l m : List ByteArray}, l.Pairwise (fun a b => a.toList < b.toList) → m.Pairwise (fun a b => a.toList < b.toList) → (∀ p, p ∈ l ↔ p ∈ m) → l = m := by
  intro l
  induction l with
  | nil =>
    intro m _ _ h
    cases m with
    | nil => rfl
    | cons y m => have := (h y).2 (List.mem_cons_self ..); cases this
  | cons x l ih =>
    intro m hl hm h
    cases m with
    | nil => have := (h x).1 (List.mem_cons_self ..); cases this
    | cons y m =>
      obtain ⟨hl1, hl2⟩ := List.pairwise_cons.1 hl
      obtain ⟨hm1, hm2⟩ := List.pairwise_cons.1 hm
      have hxy : x = y := by
        rcases List.mem_cons.1 ((h x).1 (List.mem_cons_self ..)) with e | e
        · exact e
        · rcases List.mem_cons.1 ((h y).2 (List.mem_cons_self ..)) with e2 | e2
          · exact e2.symm
          · exact absurd (List.lt_trans (hm1 x e) (hl1 y e2)) (List.lt_irrefl _)
      subst hxy
      have hnl : x ∉ l := fun e => absurd (hl1 x e) (List.lt_irrefl _)
      have hnm : x ∉ m := fun e => absurd (hm1 x e) (List.lt_irrefl _)
      rw [ih hl2 hm2 (fun p => by
        constructor
        · intro e
          rcases List.mem_cons.1 ((h p).1 (List.mem_cons_of_mem _ e)) with q | q
          · rw [q] at e; exact (hnl e).elim
          · exact q
        · intro e
          rcases List.mem_cons.1 ((h p).2 (List.mem_cons_of_mem _ e)) with q | q
          · rw [q] at e; exact (hnm e).elim
          · exact q)]

/-- The accounts that are written, of those that are kept: whichever are kept. -/
theorem live_ext {f : ByteArray → Nat × Nat} {l m : List ByteArray} (hl : l.Pairwise (fun a b => a.toList < b.toList)) (hm : m.Pairwise (fun a b => a.toList < b.toList)) (h1 : ∀ n, f n ≠ (0, 0) → n ∈ l) (h2 : ∀ n, f n ≠ (0, 0) → n ∈ m) :
    l.filter (fun n => decide (f n ≠ (0, 0))) = m.filter (fun n => decide (f n ≠ (0, 0))) := by
  refine rise_ext (hl.sublist List.filter_sublist) (hm.sublist List.filter_sublist) (fun p => ?_)
  rw [List.mem_filter, List.mem_filter]
  constructor
  · rintro ⟨_, e⟩; exact ⟨h2 p (of_decide_eq_true e), e⟩
  · rintro ⟨_, e⟩; exact ⟨h1 p (of_decide_eq_true e), e⟩

theorem liveV_ext {f : ByteArray → Option ByteArray} {l m : List ByteArray} (hl : l.Pairwise (fun a b => a.toList < b.toList)) (hm : m.Pairwise (fun a b => a.toList < b.toList)) (h1 : ∀ n, f n ≠ none → n ∈ l) (h2 : ∀ n, f n ≠ none → n ∈ m) :
    l.filter (fun n => (f n).isSome) = m.filter (fun n => (f n).isSome) := by
  have hs : ∀ {n}, (f n).isSome = true → f n ≠ none := fun h e => by rw [e] at h; cases h
  refine rise_ext (hl.sublist List.filter_sublist) (hm.sublist List.filter_sublist) (fun p => ?_)
  rw [List.mem_filter, List.mem_filter]
  constructor
  · rintro ⟨_, e⟩; exact ⟨h2 p (hs e), e⟩
  · rintro ⟨_, e⟩; exact ⟨h1 p (hs e), e⟩

def inN (l : List ByteArray) (n : ByteArray) : Bool := l.any (fun x => decide (x = n))

/-- The beginning. -/
def newF (rich : List ByteArray) (funds : Nat) : StF := ⟨fun n => if (isNm n && inN rich n) = true then (min funds 4611686018427387903, 0) else (0, 0), fun _ => none⟩

theorem newF_step (rich : List ByteArray) (funds : Nat) {i : Nat} {x : ByteArray} (hx : rich[i]? = some x) (n : ByteArray) : (newF (rich.take (i + 1)) funds).acc n = if isNm x = true then pnF (newF (rich.take i) funds).acc x (min funds 4611686018427387903, 0) n else (newF (rich.take i) funds).acc n := by
  have hm : inN (rich.take (i + 1)) n = (inN (rich.take i) n || decide (x = n)) := by
    unfold inN
    rw [List.take_add_one, hx, List.any_append]
    simp
  unfold newF pnF
  simp only [hm]
  by_cases h2 : n = x
  · subst h2
    by_cases h1 : isNm n = true
    · simp [h1]
    · simp [h1]
  · have h3 : ¬ x = n := fun e => h2 e.symm
    by_cases h1 : isNm x = true
    · simp [h2, h3, h1]
    · simp [h3, h1]
end Go.Proofs.YtajpfkenhchafaaDoor

/- Two that fit and are not in each other's way reach different accounts and lay different values. -/
namespace Go.Proofs.YtajpfkenhchafaaDoor
open Go
set_option linter.unusedVariables false

theorem hasL_mem {l : List ByteArray} {s : ByteArray} (h : hasL l s = true) : s ∈ l := by
  unfold hasL at h
  obtain ⟨x, hx, e⟩ := List.any_eq_true.1 h
  rw [bytes_eq] at e
  rw [of_decide_eq_true e]
  exact hx

theorem fits_check {d : TxD} (h : fitsL d = true) : checkL d = 0 := by
  unfold fitsL needsL at h
  by_cases hc : checkL d = 0
  · exact hc
  · rw [if_neg hc] at h
    cases h

theorem fits_kind {d : TxD} (h : fitsL d = true) : d.kind = 1 ∨ d.kind = 2 := by
  have hc := fits_check h
  unfold checkL at hc
  split at hc
  · cases hc
  · rename_i hk
    by_cases h1 : d.kind = 1
    · exact Or.inl h1
    · exact Or.inr (Decidable.byContradiction (fun h2 => hk ⟨h1, h2⟩))

theorem needs_ws {d : TxD} (h : fitsL d = true) {k : ByteArray} (hk : k ∈ needsL d) : k ∈ d.ws := by
  unfold fitsL at h
  rw [Bool.and_eq_true, List.all_eq_true] at h
  exact hasL_mem (h.2 k hk)

theorem nms_needs {d : TxD} (h : fitsL d = true) {n : ByteArray} (hn : n ∈ nmsD d) : aP ++ n ∈ needsL d := by
  have hc := fits_check h
  unfold needsL
  rw [if_pos hc]
  unfold nmsD at hn
  rcases fits_kind h with hk | hk
  · rw [if_pos hk] at hn
    rw [if_neg (by rw [hk]; decide)]
    have h1 : n = d.frm ∨ n = d.to := by simpa using hn
    split
    · rcases h1 with e | e <;> rw [e] <;> simp
    · split
      · rcases h1 with e | e <;> rw [e] <;> simp
      · rename_i a1 a2
        have e2 : aP ++ d.frm = aP ++ d.to := by
          rw [lessT_eq] at a1 a2
          have b1 : ¬ (aP ++ d.frm).toList < (aP ++ d.to).toList := by simpa using a1
          have b2 : ¬ (aP ++ d.to).toList < (aP ++ d.frm).toList := by simpa using a2
          refine bytes_inj ?_
          rcases List.le_total (aP ++ d.frm).toList (aP ++ d.to).toList with h4 | h4
          · rcases List.le_iff_lt_or_eq.1 h4 with h5 | h5
            · exact (b1 h5).elim
            · exact h5
          · rcases List.le_iff_lt_or_eq.1 h4 with h5 | h5
            · exact (b2 h5).elim
            · exact h5.symm
        rcases h1 with e | e
        · rw [e]; exact List.mem_singleton.2 rfl
        · rw [e, ← e2]; exact List.mem_singleton.2 rfl
  · rw [if_neg (by rw [hk]; decide)] at hn
    rw [if_pos hk, List.mem_singleton.1 hn]
    exact List.mem_cons_self

theorem key_needs {d : TxD} (h : fitsL d = true) (hk : d.kind ≠ 1) : kP ++ d.key ∈ needsL d := by
  have h2 : d.kind = 2 := (fits_kind h).resolve_left hk
  unfold needsL
  rw [if_pos (fits_check h), if_pos h2]
  simp

theorem fit_apart {d e : TxD} (hd : fitsL d = true) (he : fitsL e = true) (hc : clashB ⟨d.rs, d.ws⟩ ⟨e.rs, e.ws⟩ = false) : (∀ n ∈ nmsD d, n ∉ nmsD e) ∧ (d.kind ≠ 1 → e.kind ≠ 1 → d.key ≠ e.key) := by
  have hno : ∀ k, k ∈ d.ws → k ∉ e.ws := fun k h1 h2 => by
    have : clashB ⟨d.rs, d.ws⟩ ⟨e.rs, e.ws⟩ = true := clashB_iff.2 (Or.inl ⟨k, h1, Or.inl h2⟩)
    rw [hc] at this
    cases this
  refine ⟨fun n h1 h2 => hno _ (needs_ws hd (nms_needs hd h1)) (needs_ws he (nms_needs he h2)), fun h1 h2 q => ?_⟩
  have := needs_ws hd (key_needs hd h1)
  rw [q] at this
  exact hno _ this (needs_ws he (key_needs he h2))

/-- 22.4, of states. -/
theorem state_either (s : StF) {d e : TxD} (hd : fitsL d = true) (he : fitsL e = true) (hc : clashB ⟨d.rs, d.ws⟩ ⟨e.rs, e.ws⟩ = false) :
    applyE (applyF s e) d = applyE s d ∧ applyE (applyF s d) e = applyE s e ∧ applyF (applyF s d) e = applyF (applyF s e) d :=
  apply_either s (fit_apart hd he hc).1 (fit_apart hd he hc).2
end Go.Proofs.YtajpfkenhchafaaDoor

/- Layer 23's mathematics: transactions done in whatever order keeps those in each other's way in theirs, are as done one by one. -/
namespace Go.Proofs.YtajpfkenhchafaaDoor
open Go
set_option linter.unusedVariables false

def TxD.rw (d : TxD) : RwD := ⟨d.rs, d.ws⟩

theorem fits_no {s : StF} {d : TxD} (h : ¬ fitsL d = true) : applyE s d = 1 ∧ applyF s d = s := by
  have e : applyE s d = 1 := by unfold applyE; rw [if_pos (Bool.eq_false_iff.2 h)]
  exact ⟨e, applyF_no (by rw [e]; decide)⟩

/-- Two that are not in each other's way may be done in either order, whether they fit or not. -/
theorem either_all (s : StF) {d e : TxD} (hc : clashB d.rw e.rw = false) : applyE (applyF s e) d = applyE s d ∧ applyE (applyF s d) e = applyE s e ∧ applyF (applyF s d) e = applyF (applyF s e) d := by
  by_cases hd : fitsL d = true
  · by_cases he : fitsL e = true
    · exact state_either s hd he hc
    · have h := fun t => fits_no (s := t) he
      exact ⟨by rw [(h s).2], by rw [(h _).1, (h s).1], by rw [(h _).2, (h s).2]⟩
  · have h := fun t => fits_no (s := t) hd
    exact ⟨by rw [(h _).1, (h s).1], by rw [(h s).2], by rw [(h s).2, (h _).2]⟩

/-- The state behind those of the list, done in its order. -/
def runS (d : Nat → TxD) : StF → List Nat → StF
  | s, [] => s
  | s, i :: r => runS d (applyF s (d i)) r

/-- What each is answered. -/
def runR (d : Nat → TxD) : StF → List Nat → Nat → Nat
  | _, [], _ => 0
  | s, i :: r, j => if i = j then applyE s (d i) else runR d (applyF s (d i)) r j

theorem runS_append (d : Nat → TxD) : ∀ (a b : List Nat) (s : StF), runS d s (a ++ b) = runS d (runS d s a) b
  | [], _, _ => rfl
  | i :: a, b, s => runS_append d a b (applyF s (d i))

theorem runR_append (d : Nat → TxD) : ∀ (a b : List Nat) (s : StF) (j : Nat), runR d s (a ++ b) j = if j ∈ a then runR d s a j else runR d (runS d s a) b j
  | [], _, _, _ => by simp [runS]
  | i :: a, b, s, j => by
    show (if i = j then applyE s (d i) else runR d (applyF s (d i)) (a ++ b) j) = _
    rw [runR_append d a b (applyF s (d i)) j]
    by_cases h : i = j
    · rw [if_pos h, if_pos (by rw [h]; exact List.mem_cons_self)]
      show _ = (if i = j then applyE s (d i) else _)
      rw [if_pos h]
    · rw [if_neg h]
      have hm : j ∈ i :: a ↔ j ∈ a := by
        rw [List.mem_cons]
        exact ⟨fun e => e.resolve_left (fun q => h q.symm), Or.inr⟩
      by_cases hj : j ∈ a
      · rw [if_pos hj, if_pos (hm.2 hj)]
        show _ = (if i = j then applyE s (d i) else _)
        rw [if_neg h]
      · rw [if_neg hj, if_neg (fun e => hj (hm.1 e))]
        rfl

/-- The same states, and the same answers. -/
def RunEq (d : Nat → TxD) (s : StF) (a b : List Nat) : Prop := runS d s a = runS d s b ∧ ∀ j, runR d s a j = runR d s b j

theorem RunEq.refl (d : Nat → TxD) (s : StF) (a : List Nat) : RunEq d s a a := ⟨rfl, fun _ => rfl⟩
theorem RunEq.trans {d : Nat → TxD} {s : StF} {a b c : List Nat} (h : RunEq d s a b) (k : RunEq d s b c) : RunEq d s a c := ⟨h.1.trans k.1, fun j => (h.2 j).trans (k.2 j)⟩

theorem RunEq.cons {d : Nat → TxD} {s : StF} {i : Nat} {a b : List Nat} (h : RunEq d (applyF s (d i)) a b) : RunEq d s (i :: a) (i :: b) :=
  ⟨h.1, fun j => by
    show (if i = j then applyE s (d i) else runR d (applyF s (d i)) a j) = (if i = j then applyE s (d i) else runR d (applyF s (d i)) b j)
    rw [h.2 j]⟩

theorem RunEq.front {d : Nat → TxD} : ∀ (c : List Nat) {s : StF} {a b : List Nat}, (∀ t, RunEq d t a b) → RunEq d s (c ++ a) (c ++ b)
  | [], s, a, b, h => h s
  | i :: c, s, a, b, h => RunEq.cons (RunEq.front c h)

theorem RunEq.behind {d : Nat → TxD} {s : StF} {a b c : List Nat} (h : RunEq d s a b) (hm : ∀ j, j ∈ a ↔ j ∈ b) : RunEq d s (a ++ c) (b ++ c) := by
  refine ⟨by rw [runS_append, runS_append, h.1], fun j => ?_⟩
  rw [runR_append, runR_append, h.1, h.2 j]
  by_cases e : j ∈ a
  · rw [if_pos e, if_pos ((hm j).1 e)]
  · rw [if_neg e, if_neg (fun q => e ((hm j).2 q))]

theorem RunEq.swap {d : Nat → TxD} {i k : Nat} (hik : i ≠ k) (hc : clashB (d i).rw (d k).rw = false) (s : StF) (r : List Nat) : RunEq d s (i :: k :: r) (k :: i :: r) := by
  obtain ⟨h1, h2, h3⟩ := either_all s hc
  refine ⟨?_, fun j => ?_⟩
  · show runS d (applyF (applyF s (d i)) (d k)) r = runS d (applyF (applyF s (d k)) (d i)) r
    rw [h3]
  · show (if i = j then applyE s (d i) else if k = j then applyE (applyF s (d i)) (d k) else runR d (applyF (applyF s (d i)) (d k)) r j) = (if k = j then applyE s (d k) else if i = j then applyE (applyF s (d k)) (d i) else runR d (applyF (applyF s (d k)) (d i)) r j)
    rw [h1, h2, h3]
    by_cases e1 : i = j
    · rw [if_pos e1, if_neg (fun e => hik (e1.trans e.symm)), if_pos e1]
    · rw [if_neg e1, if_neg e1]

/-- One goes behind those that it is not in the way of. -/
theorem RunEq.last {d : Nat → TxD} {m : Nat} : ∀ {b : List Nat} (s : StF), m ∉ b → (∀ i ∈ b, clashB (d m).rw (d i).rw = false) → RunEq d s (m :: b) (b ++ [m])
  | [], s, _, _ => RunEq.refl _ _ _
  | i :: b, s, h1, h2 => by
    have e : m ≠ i := fun q => h1 (by rw [q]; exact List.mem_cons_self)
    exact (RunEq.swap e (h2 i List.mem_cons_self) s b).trans (RunEq.cons (RunEq.last _ (fun q => h1 (List.mem_cons_of_mem _ q)) (fun k hk => h2 k (List.mem_cons_of_mem _ hk))))

/-- Whatever order keeps those in each other's way in theirs. -/
theorem order_same {d : Nat → TxD} : ∀ (n : Nat) {σ : List Nat} (s : StF), σ.Perm (List.range n) → σ.Pairwise (fun a b => b < a → clashB (d a).rw (d b).rw = false) → RunEq d s σ (List.range n)
  | 0, σ, s, hp, _ => by
    have : σ = [] := by simpa using hp
    rw [this]
    exact RunEq.refl _ _ _
  | n + 1, σ, s, hp, hw => by
    have hn : n ∈ σ := hp.mem_iff.2 (List.mem_range.2 (Nat.lt_succ_self n))
    obtain ⟨a, b, rfl⟩ := List.append_of_mem hn
    have hnd : (a ++ n :: b).Nodup := hp.nodup_iff.2 List.nodup_range
    have hp2 : (a ++ b).Perm (List.range n) := by
      have h1 : (n :: (a ++ b)).Perm (n :: List.range n) := by
        refine (List.perm_middle.symm.trans hp).trans ?_
        rw [List.range_succ]
        exact List.perm_append_comm
      exact h1.cons_inv
    have hlt : ∀ i ∈ a ++ b, i < n := fun i hi => List.mem_range.1 (hp2.mem_iff.1 hi)
    have hnb : n ∉ b := fun e => by have := hlt n (List.mem_append_right _ e); omega
    obtain ⟨hw1, hw2, hw3⟩ := List.pairwise_append.1 hw
    obtain ⟨hw4, hw5⟩ := List.pairwise_cons.1 hw2
    have hwab : (a ++ b).Pairwise (fun x y => y < x → clashB (d x).rw (d y).rw = false) := List.pairwise_append.2 ⟨hw1, hw5, fun x hx y hy => hw3 x hx y (List.mem_cons_of_mem _ hy)⟩
    have h1 : RunEq d s (a ++ n :: b) (a ++ (b ++ [n])) := RunEq.front a (fun t => RunEq.last t hnb (fun i hi => hw4 i hi (hlt i (List.mem_append_right _ hi))))
    rw [← List.append_assoc] at h1
    rw [List.range_succ]
    exact h1.trans ((order_same n s hp2 hwab).behind (fun j => hp2.mem_iff))

/-- One by one. -/
theorem runS_range (d : Nat → TxD) (s : StF) (n : Nat) : runS d s (List.range (n + 1)) = applyF (runS d s (List.range n)) (d n) := by
  rw [List.range_succ, runS_append]
  rfl

theorem runR_range (d : Nat → TxD) (s : StF) (n j : Nat) (h : j < n) : runR d s (List.range n) j = applyE (runS d s (List.range j)) (d j) := by
  induction n with
  | zero => omega
  | succ n ih =>
    rw [List.range_succ, runR_append]
    by_cases e : j < n
    · rw [if_pos (List.mem_range.2 e), ih e]
    · have : j = n := by omega
      subst this
      rw [if_neg (fun q => e (List.mem_range.1 q))]
      show (if j = j then applyE _ (d j) else _) = _
      rw [if_pos rfl]
end Go.Proofs.YtajpfkenhchafaaDoor

/- A plan that is right: its members in their order keep those in each other's way in theirs. -/
namespace Go.Proofs.YtajpfkenhchafaaDoor
open Go
set_option linter.unusedVariables false

theorem markR_bad {n w : Nat} : ∀ {r : List Int} {m : List Nat} {e : Nat}, markR n w m r = .error e → e ≠ 0
  | [], m, e, h => by unfold markR at h; cases h
  | x :: r, m, e, h => by
    rw [markR_cons] at h
    cases h2 : mark1 n w m x with
    | error e' =>
      rw [h2] at h
      have h : (Except.error e' : Except Nat (List Nat)) = .error e := h
      injection h with h
      subst h
      unfold mark1 at h2
      split at h2
      · injection h2 with h2; omega
      · split at h2
        · injection h2 with h2; omega
        · cases h2
    | ok m' =>
      rw [h2] at h
      exact markR_bad h

theorem markP_bad {n : Nat} : ∀ {p : List (List Int)} {w : Nat} {m : List Nat} {e : Nat}, markP n w m p = .error e → e ≠ 0
  | [], w, m, e, h => by unfold markP at h; cases h
  | r :: p, w, m, e, h => by
    rw [markP_cons] at h
    cases h2 : markR n w m r with
    | error e' =>
      rw [h2] at h
      have h : (Except.error e' : Except Nat (List Nat)) = .error e := h
      injection h with h
      subst h
      exact markR_bad h2
    | ok m' =>
      rw [h2] at h
      exact markP_bad h

/-- What a plan's being right says. -/
theorem chk_zero {l : List RwD} {P : List (List Int)} (h : chkN l P = 0) : ∃ m, Marked l.length P m ∧ ∀ i k, i < k → adjB l i k = true → m.getD i 0 < m.getD k 0 := by
  unfold chkN at h
  cases h1 : markP l.length 0 (List.replicate l.length 0) P with
  | error e =>
    rw [h1] at h
    exact absurd h (markP_bad h1)
  | ok m =>
    rw [h1] at h
    have h : chkM l m = 0 := h
    unfold chkM at h
    split at h
    · cases h
    · rename_i h2
      split at h
      · cases h
      · rename_i h3
        split at h
        · cases h
        · rename_i h4
          have hl : m.length = l.length := by rw [markP_length h1, List.length_replicate]
          obtain ⟨q1, q2⟩ := markP_inv (by rw [List.length_replicate]) h1
          refine ⟨m, ⟨hl, fun k r hk => ?_, fun y hy => ?_⟩, fun i k hik ha => ?_⟩
          · obtain ⟨c1, c2⟩ := q1 k r hk
            exact ⟨fun x hx => by obtain ⟨b1, b2, b3⟩ := c1 x hx; exact ⟨b1, b2, by rw [b3]; omega⟩, c2⟩
          · rcases q2 y with e | ⟨_, k, r, e1, e2, e3⟩
            · rw [getD_zeros] at e
              have hy2 : y < m.length := by omega
              rw [List.getD_eq_getElem?_getD, List.getElem?_eq_getElem hy2] at e
              exact absurd (List.any_eq_true.2 ⟨m[y], List.getElem_mem hy2, decide_eq_true e⟩) h2
            · exact ⟨k, r, e1, e2, by rw [e3]; omega⟩
          · have n1 : m.getD i 0 ≠ m.getD k 0 := fun e => h3 (List.any_eq_true.2 ⟨(i, k), edgesL_mem.2 ⟨hik, ha⟩, decide_eq_true e⟩)
            have n2 : ¬ m.getD k 0 < m.getD i 0 := fun e => h4 (List.any_eq_true.2 ⟨(i, k), edgesL_mem.2 ⟨hik, ha⟩, decide_eq_true e⟩)
            omega

/-- Its members, one wave behind the other. -/
def flatP (P : List (List Int)) : List Nat := P.flatten.map Int.toNat

theorem flatP_mem {n : Nat} {P : List (List Int)} {m : List Nat} (h : Marked n P m) {y : Nat} : y ∈ flatP P ↔ y < n := by
  unfold flatP
  rw [List.mem_map]
  constructor
  · rintro ⟨x, hx, rfl⟩
    obtain ⟨r, hr, hxr⟩ := List.mem_flatten.1 hx
    obtain ⟨k, hk⟩ := List.getElem?_of_mem hr
    obtain ⟨b1, b2, _⟩ := (h.row k r hk).1 x hxr
    omega
  · intro hy
    obtain ⟨k, r, h1, h2, _⟩ := h.mem y hy
    exact ⟨(y : Int), List.mem_flatten.2 ⟨r, List.mem_of_getElem? h1, h2⟩, Int.toNat_natCast y⟩

theorem flat_pair {P : List (List Int)} {R : Int → Int → Prop} (h1 : ∀ (k : Nat) (r : List Int), P[k]? = some r → r.Pairwise R) (h2 : ∀ (j k : Nat) (q r : List Int), j < k → P[j]? = some q → P[k]? = some r → ∀ x ∈ q, ∀ y ∈ r, R x y) : P.flatten.Pairwise R := by
  rw [List.pairwise_flatten]
  refine ⟨fun r hr => ?_, ?_⟩
  · obtain ⟨k, hk⟩ := List.getElem?_of_mem hr
    exact h1 k r hk
  · rw [List.pairwise_iff_getElem]
    intro j k hj hk hjk x hx y hy
    exact h2 j k P[j] P[k] hjk (List.getElem?_eq_getElem hj) (List.getElem?_eq_getElem hk) x hx y hy

theorem flatP_nodup {n : Nat} {P : List (List Int)} {m : List Nat} (h : Marked n P m) : (flatP P).Nodup := by
  unfold flatP List.Nodup
  rw [List.pairwise_map]
  refine flat_pair (fun k r hk => ?_) (fun j k q r hjk hj hk x hx y hy e => ?_)
  · obtain ⟨c1, c2⟩ := h.row k r hk
    refine List.Pairwise.imp_of_mem (fun {a b} ha hb hab e => hab ?_) c2
    have := (c1 a ha).1
    have := (c1 b hb).1
    omega
  · have e1 := ((h.row j q hj).1 x hx).2.2
    have e2 := ((h.row k r hk).1 y hy).2.2
    rw [e] at e1
    omega

theorem flatP_rise {n : Nat} {P : List (List Int)} {m : List Nat} (h : Marked n P m) : (flatP P).Pairwise (fun a b => m.getD a 0 ≤ m.getD b 0) := by
  unfold flatP
  rw [List.pairwise_map]
  refine flat_pair (fun k r hk => ?_) (fun j k q r hjk hj hk x hx y hy => ?_)
  · obtain ⟨c1, c2⟩ := h.row k r hk
    refine List.Pairwise.imp_of_mem (fun {a b} ha hb hab => ?_) c2
    rw [(c1 a ha).2.2, (c1 b hb).2.2]
    exact Nat.le_refl _
  · rw [((h.row j q hj).1 x hx).2.2, ((h.row k r hk).1 y hy).2.2]
    omega

/-- 23.3: by any plan that is right, as one by one. -/
theorem plan_same {d : Nat → TxD} {l : List RwD} {P : List (List Int)} (hl : ∀ i, i < l.length → l[i]? = some (d i).rw) (h : chkN l P = 0) (s : StF) : RunEq d s (flatP P) (List.range l.length) := by
  obtain ⟨m, hM, ho⟩ := chk_zero h
  have hnd := flatP_nodup hM
  refine order_same l.length s ((List.perm_ext_iff_of_nodup hnd List.nodup_range).2 (fun y => by rw [flatP_mem hM, List.mem_range])) ?_
  refine List.Pairwise.imp_of_mem (fun {a b} ha hb hab hlt => ?_) (flatP_rise hM)
  have ha' := (flatP_mem hM).1 ha
  have hb' := (flatP_mem hM).1 hb
  cases hc : clashB (d a).rw (d b).rw with
  | false => rfl
  | true =>
    have hadj : adjB l b a = true := by
      unfold adjB
      rw [hl a ha', hl b hb']
      show clashB (d b).rw (d a).rw = true
      rw [clashB_comm]
      exact hc
    have := ho b a hlt hadj
    omega
end Go.Proofs.YtajpfkenhchafaaDoor

/- One by one: the results and the state; what a row of results is while a plan is gone through. -/
namespace Go.Proofs.YtajpfkenhchafaaDoor
open Go
set_option linter.unusedVariables false

/-- The results of some, one by one. -/
def execR : StF → List TxD → List Nat
  | _, [] => []
  | s, d :: l => applyE s d :: execR (applyF s d) l

/-- The state behind some, one by one. -/
def execS : StF → List TxD → StF
  | s, [] => s
  | s, d :: l => execS (applyF s d) l

theorem execS_append : ∀ (a b : List TxD) (s : StF), execS s (a ++ b) = execS (execS s a) b
  | [], _, _ => rfl
  | d :: a, b, s => execS_append a b (applyF s d)

theorem execR_append : ∀ (a b : List TxD) (s : StF), execR s (a ++ b) = execR s a ++ execR (execS s a) b
  | [], _, _ => rfl
  | d :: a, b, s => by
    show applyE s d :: execR (applyF s d) (a ++ b) = _
    rw [execR_append a b]
    rfl

theorem execR_length : ∀ (a : List TxD) (s : StF), (execR s a).length = a.length
  | [], _ => rfl
  | d :: a, s => by
    show (execR (applyF s d) a).length + 1 = _
    rw [execR_length a]
    rfl

/-- The transactions by their numbers. -/
def dAt (l : List TxD) (i : Nat) : TxD := l.getD i ⟨0, ⟨#[]⟩, ⟨#[]⟩, 0, 0, ⟨#[]⟩, ⟨#[]⟩, [], []⟩

theorem dAt_get {l : List TxD} {i : Nat} {d : TxD} (h : l[i]? = some d) : dAt l i = d := by
  unfold dAt
  rw [List.getD_eq_getElem?_getD, h, Option.getD_some]

theorem range_take {l : List TxD} : ∀ (n : Nat) (s : StF), n ≤ l.length → runS (dAt l) s (List.range n) = execS s (l.take n)
  | 0, s, _ => by rw [List.range_zero, List.take_zero]; rfl
  | n + 1, s, h => by
    obtain ⟨d, hd⟩ : ∃ d, l[n]? = some d := ⟨_, List.getElem?_eq_getElem (by omega)⟩
    rw [runS_range, range_take n s (by omega), dAt_get hd, List.take_add_one, hd, execS_append]
    rfl

theorem range_all (l : List TxD) (s : StF) : runS (dAt l) s (List.range l.length) = execS s l := by
  rw [range_take l.length s (Nat.le_refl _), List.take_length]

theorem execR_get : ∀ (l : List TxD) (s : StF) (i : Nat) (d : TxD), l[i]? = some d → (execR s l)[i]? = some (applyE (execS s (l.take i)) d)
  | [], _, _, _, h => by simp at h
  | e :: l, s, 0, d, h => by
    obtain rfl : e = d := by simpa using h
    rfl
  | e :: l, s, i + 1, d, h => by
    show (execR (applyF s e) l)[i]? = _
    rw [execR_get l (applyF s e) i d (by simpa using h)]
    rfl

/-- What stands in the row of results when some were done. -/
def outL (d : Nat → TxD) (n : Nat) (s : StF) (σ : List Nat) : List Nat := (List.range n).map (runR d s σ)

theorem outL_length (d : Nat → TxD) (n : Nat) (s : StF) (σ : List Nat) : (outL d n s σ).length = n := by unfold outL; rw [List.length_map, List.length_range]

theorem outL_nil (d : Nat → TxD) (n : Nat) (s : StF) : outL d n s [] = List.replicate n 0 := by
  refine List.ext_getElem? (fun j => ?_)
  unfold outL
  rw [List.getElem?_map, List.getElem?_replicate]
  by_cases hj : j < n
  · rw [List.getElem?_range hj, if_pos hj]; rfl
  · rw [List.getElem?_eq_none (by rw [List.length_range]; omega), if_neg hj]; rfl

theorem outL_get {d : Nat → TxD} {n : Nat} {s : StF} {σ : List Nat} {x : Nat} (h : x < n) : (outL d n s σ)[x]? = some (runR d s σ x) := by
  unfold outL
  rw [List.getElem?_map, List.getElem?_range h]
  rfl

theorem runR_one (d : Nat → TxD) (s : StF) (x j : Nat) : runR d s [x] j = if j = x then applyE s (d x) else 0 := by
  show (if x = j then applyE s (d x) else 0) = _
  by_cases h : x = j
  · rw [if_pos h, if_pos h.symm]
  · rw [if_neg h, if_neg (fun e => h e.symm)]

theorem runR_out (d : Nat → TxD) : ∀ (s : StF) (σ : List Nat) (j : Nat), j ∉ σ → runR d s σ j = 0
  | _, [], _, _ => rfl
  | s, i :: σ, j, h => by
    show (if i = j then applyE s (d i) else runR d (applyF s (d i)) σ j) = 0
    rw [if_neg (fun e => h (by rw [e]; exact List.mem_cons_self)), runR_out d _ σ j (fun e => h (List.mem_cons_of_mem _ e))]

theorem outL_set {d : Nat → TxD} {n : Nat} {s : StF} {σ : List Nat} {x : Nat} (h : x ∉ σ) (hx : x < n) : (outL d n s σ).set x (applyE (runS d s σ) (d x)) = outL d n s (σ ++ [x]) := by
  refine List.ext_getElem? (fun j => ?_)
  by_cases hj : j < n
  · rw [outL_get hj, runR_append]
    by_cases e : x = j
    · subst e
      rw [List.getElem?_set_self (by rw [outL_length]; exact hj), if_neg h, runR_one, if_pos rfl]
    · rw [List.getElem?_set_ne e, outL_get hj]
      by_cases hm : j ∈ σ
      · rw [if_pos hm]
      · rw [if_neg hm, runR_one, if_neg (fun q => e q.symm)]
        congr 1
        exact runR_out d s σ j hm
  · rw [List.getElem?_eq_none (by rw [List.length_set, outL_length]; omega), List.getElem?_eq_none (by rw [outL_length]; omega)]

/-- A right plan, done: the results and the state are those of one by one. -/
theorem plan_out {l : List TxD} {P : List (List Int)} (h : chkN (l.map TxD.rw) P = 0) (s : StF) : outL (dAt l) l.length s (flatP P) = execR s l ∧ runS (dAt l) s (flatP P) = execS s l := by
  have hl : ∀ i, i < (l.map TxD.rw).length → (l.map TxD.rw)[i]? = some (dAt l i).rw := fun i hi => by
    rw [List.length_map] at hi
    rw [List.getElem?_map, List.getElem?_eq_getElem hi, dAt_get (List.getElem?_eq_getElem hi)]
    rfl
  obtain ⟨e1, e2⟩ := plan_same hl h s
  rw [List.length_map] at e1 e2
  refine ⟨?_, by rw [e1, range_all]⟩
  refine List.ext_getElem? (fun j => ?_)
  by_cases hj : j < l.length
  · rw [outL_get hj, e2, runR_range _ _ _ _ hj, range_take j s (by omega), execR_get l s j _ (List.getElem?_eq_getElem hj), dAt_get (List.getElem?_eq_getElem hj)]
  · rw [List.getElem?_eq_none (by rw [outL_length]; omega), List.getElem?_eq_none (by rw [execR_length]; omega)]

/-- Each number of a right plan is one of the row's, and none stands twice. -/
theorem plan_nums {l : List TxD} {P : List (List Int)} (h : chkN (l.map TxD.rw) P = 0) : (flatP P).Nodup ∧ (∀ y ∈ flatP P, y < l.length) ∧ (flatP P).length = l.length ∧ ∀ (k : Nat) (r : List Int), P[k]? = some r → ∀ x ∈ r, 0 ≤ x ∧ x < (l.length : Int) := by
  obtain ⟨m, hm, -⟩ := chk_zero h
  rw [List.length_map] at hm
  refine ⟨flatP_nodup hm, fun y hy => (flatP_mem hm).1 hy, ?_, fun k r hr x hx => ?_⟩
  · have hp : (flatP P).Perm (List.range l.length) := by
      refine (List.perm_ext_iff_of_nodup (flatP_nodup hm) List.nodup_range).2 (fun a => ?_)
      rw [flatP_mem hm, List.mem_range]
    rw [hp.length_eq, List.length_range]
  · have := (hm.row k r hr).1 x hx
    exact ⟨this.1, this.2.1⟩
end Go.Proofs.YtajpfkenhchafaaDoor

/- What isName, strings.CutPrefix and isKey do; memory stands. -/
namespace Go.Proofs.YtajpfkenhchafaaDoor
open Go.RowKit
set_option linter.unusedVariables false

theorem all_take_succ (s : ByteArray) (k : Nat) (h : k < s.size) (p : UInt8 → Bool) : (s.data.toList.take (k + 1)).all p = ((s.data.toList.take k).all p && p s[k]) := by
  rw [List.take_succ_eq_append_getElem (by simpa using h), List.all_append]
  simp
  rfl

theorem all_of_take (s : ByteArray) (k : Nat) (h : k < s.size) (p : UInt8 → Bool) (hp : p s[k] = false) : s.data.toList.all p = false := by
  have e : s.data.toList = s.data.toList.take (k + 1) ++ s.data.toList.drop (k + 1) := by rw [List.take_append_drop]
  rw [e, List.all_append, all_take_succ s k h, hp]
  simp

set_option maxRecDepth 100000 in
set_option maxHeartbeats 1000000 in
theorem isName_any (s : ByteArray) (w : World) :
    Calls Tryd.prog 86 #[.string s] w fun e w' => e = .returned (.bool (isNm s)) ∧ w' = w := by
  by_cases h1 : s.size < 1
  · have H : Hid (isNm s = false) := by show _ = _; simp [isNm]; intro h; omega
    have h1' : (s.size : Int) < 1 := by omega
    go_enter Tryd.func86, Tryd.ntmps86
    go_wp2
    go_ret
    exact ⟨by rw [H.out]; rfl, rfl⟩
  by_cases h2 : 32 < s.size
  · have H : Hid (isNm s = false) := by show _ = _; simp [isNm]; intro _ h; omega
    have h1' : ¬ (s.size : Int) < 1 := by omega
    have h2' : (32 : Int) < s.size := by omega
    go_enter Tryd.func86, Tryd.ntmps86
    go_wp2
    go_ret
    exact ⟨by rw [H.out]; rfl, rfl⟩
  have HN : Hid (isNm s = s.data.toList.all nameByte) := by
    show _ = _
    unfold isNm
    rw [decide_eq_true (by omega), decide_eq_true (by omega)]
    rfl
  have h1' : ¬ (s.size : Int) < 1 := by omega
  have h2' : ¬ (32 : Int) < s.size := by omega
  go_enter Tryd.func86, Tryd.ntmps86
  go_wp2
  go_loop [16] (fun v => ∃ k : Nat, k ≤ s.size ∧ v = .int .i64 k ∧ Hid ((s.data.toList.take k).all nameByte = true)) (fun v => s.size - (intOf v).toNat)
  case atStart => exact ⟨0, by omega, rfl, by show _ = _; simp⟩
  case round =>
    obtain ⟨k, hk, rfl, hall⟩ := hrel
    by_cases hlt : k < s.size
    · obtain ⟨c, hc⟩ : ∃ c, s[k].toNat = c := ⟨_, rfl⟩
      have hY : (97 ≤ c ∧ c ≤ 122 ∨ 48 ≤ c ∧ c ≤ 57) → Hid ((s.data.toList.take (k + 1)).all nameByte = true) := by
        intro h
        show _ = _
        rw [all_take_succ s k hlt, hall.out]
        unfold nameByte
        rw [hc]
        simp only [Bool.true_and, Bool.or_eq_true, Bool.and_eq_true, decide_eq_true_eq]
        exact h
      have hN : ¬ (97 ≤ c ∧ c ≤ 122 ∨ 48 ≤ c ∧ c ≤ 57) → Hid (isNm s = false) := by
        intro h
        show _ = _
        rw [HN.out]
        refine all_of_take s k hlt _ ?_
        unfold nameByte
        rw [hc]
        simp only [Bool.or_eq_false_iff, Bool.and_eq_false_iff, decide_eq_false_iff_not]
        omega
      clear hall
      have hI : ((c : Int) < 48 ∧ (c : Int) ≤ 57 ∧ (c : Int) < 97 ∧ (c : Int) ≤ 122) ∨ ((48 : Int) ≤ c ∧ (57 : Int) < c ∧ (c : Int) < 97 ∧ (c : Int) ≤ 122) ∨ ((48 : Int) ≤ c ∧ (57 : Int) < c ∧ (97 : Int) ≤ c ∧ (122 : Int) < c) ∨
          ((48 : Int) ≤ c ∧ (c : Int) ≤ 57 ∧ (c : Int) < 97 ∧ (c : Int) ≤ 122) ∨ ((48 : Int) ≤ c ∧ (57 : Int) < c ∧ (97 : Int) ≤ c ∧ (c : Int) ≤ 122) := by omega
      rcases hI with ⟨i1, i2, i3, i4⟩ | ⟨i1, i2, i3, i4⟩ | ⟨i1, i2, i3, i4⟩ | ⟨i1, i2, i3, i4⟩ | ⟨i1, i2, i3, i4⟩
      · have H := hN (by omega)
        clear hY hN
        go_wp2
        go_ret
        exact ⟨by rw [H.out]; rfl, rfl⟩
      · have H := hN (by omega)
        clear hY hN
        have d57 : decide ((c : Int) ≤ 57) = false := decide_eq_false (by omega)
        go_wp2
        go_ret
        exact ⟨by rw [H.out]; rfl, rfl⟩
      · have H := hN (by omega)
        clear hY hN
        have d122 : decide ((c : Int) ≤ 122) = false := decide_eq_false (by omega)
        have d57 : decide ((c : Int) ≤ 57) = false := decide_eq_false (by omega)
        go_wp2
        go_ret
        exact ⟨by rw [H.out]; rfl, rfl⟩
      · have H := hY (by omega)
        clear hY hN
        go_wp2
        go_round
        case rel => exact ⟨k + 1, by omega, by go_num, H⟩
        case measure => simp [intOf]; omega
      · have H := hY (by omega)
        clear hY hN
        go_wp2
        go_round
        case rel => exact ⟨k + 1, by omega, by go_num, H⟩
        case measure => simp [intOf]; omega
    · have H : Hid (isNm s = true) := by
        show _ = _
        rw [HN.out, ← hall.out, List.take_of_length_le (by simp; omega)]
      go_wp2
      go_ret
      exact ⟨by rw [H.out]; rfl, rfl⟩

set_option maxRecDepth 100000 in
set_option maxHeartbeats 400000 in
theorem hasPrefix_any (s p : ByteArray) (w : World) :
    Calls Tryd.prog 100 #[.string s, .string p] w fun e w' => e = .returned (.bool (cutOk s p)) ∧ w' = w := by
  unfold cutOk
  by_cases h : p.size ≤ s.size
  · have h' : (p.size : Int) ≤ s.size := by omega
    go_enter Tryd.func100, Tryd.ntmps100
    go_wp2
    go_ret
    exact ⟨by simp; intro _; exact h, rfl⟩
  · have h' : ¬ (p.size : Int) ≤ s.size := by omega
    go_enter Tryd.func100, Tryd.ntmps100
    go_wp2
    go_ret
    exact ⟨by simp, rfl⟩

theorem cutOk_size {s p : ByteArray} (h : cutOk s p = true) : p.size ≤ s.size := by
  unfold cutOk at h
  simp at h
  exact h.1

set_option maxRecDepth 100000 in
set_option maxHeartbeats 400000 in
theorem cut_in (s p : ByteArray) (w : World) :
    Calls Tryd.prog 98 #[.string s, .string p] w fun e w' => e = .returned (.tuple #[.string (if cutOk s p then s.extract p.size s.size else s), .bool (cutOk s p)]) ∧ w' = w := by
  cases hc : cutOk s p with
  | true =>
    have h := cutOk_size hc
    have h' : (p.size : Int) ≤ s.size := by omega
    have cs := hasPrefix_any s p
    rw [hc] at cs
    go_enter Tryd.func98, Tryd.ntmps98
    go_wp2_with fail
    refine (cs _).mono ?_
    rintro e w' ⟨rfl, rfl⟩
    go_wp2
    go_ret2
    exact ⟨by simp, rfl⟩
  | false =>
    have cs := hasPrefix_any s p
    rw [hc] at cs
    go_enter Tryd.func98, Tryd.ntmps98
    go_wp2_with fail
    refine (cs _).mono ?_
    rintro e w' ⟨rfl, rfl⟩
    go_wp2
    go_ret2
    exact ⟨by simp, rfl⟩

set_option maxRecDepth 100000 in
set_option maxHeartbeats 400000 in
theorem cut_any (s p : ByteArray) (w : World) :
    Calls Tryd.prog 95 #[.string s, .string p] w fun e w' => e = .returned (.tuple #[.string (if cutOk s p then s.extract p.size s.size else s), .bool (cutOk s p)]) ∧ w' = w := by
  have cs := cut_in s p
  generalize (if cutOk s p then s.extract p.size s.size else s) = u at cs ⊢
  generalize cutOk s p = b at cs ⊢
  go_enter Tryd.func95, Tryd.ntmps95
  go_wp2_with fail
  refine (cs _).mono ?_
  rintro e w' ⟨rfl, rfl⟩
  go_wp2
  go_ret2
  exact ⟨rfl, rfl⟩

set_option maxRecDepth 100000 in
set_option maxHeartbeats 400000 in
theorem isKey_any (s : ByteArray) (w : World) :
    Calls Tryd.prog 87 #[.string s] w fun e w' => e = .returned (.bool (isKy s)) ∧ w' = w := by
  cases ha : cutOk s aP with
  | true =>
    have ca : ∀ w, Calls Tryd.prog 95 #[.string s, .string ⟨#[97, 58]⟩] w fun e w' => e = .returned (.tuple #[.string (s.extract 2 s.size), .bool true]) ∧ w' = w := fun w => by
      have h := cut_any s aP w
      rw [ha, if_pos rfl] at h
      exact h
    have cn := isName_any (s.extract 2 s.size)
    have H : Hid (isKy s = isNm (s.extract 2 s.size)) := by show _ = _; unfold isKy; rw [ha]; rfl
    generalize isNm (s.extract 2 s.size) = b at cn H
    generalize s.extract 2 s.size = u at cn ca
    go_enter Tryd.func87, Tryd.ntmps87
    go_wp2_with fail
    refine (ca _).mono ?_
    rintro e w' ⟨rfl, rfl⟩
    go_wp2_with fail
    refine (cn _).mono ?_
    rintro e w' ⟨rfl, rfl⟩
    go_wp2
    go_ret
    exact ⟨by rw [H.out]; rfl, rfl⟩
  | false =>
    have ca : ∀ w, Calls Tryd.prog 95 #[.string s, .string ⟨#[97, 58]⟩] w fun e w' => e = .returned (.tuple #[.string s, .bool false]) ∧ w' = w := fun w => by
      have h := cut_any s aP w
      rw [ha, if_neg (by simp)] at h
      exact h
    cases hk : cutOk s kP with
    | true =>
      have ck : ∀ w, Calls Tryd.prog 95 #[.string s, .string ⟨#[107, 58]⟩] w fun e w' => e = .returned (.tuple #[.string (s.extract 2 s.size), .bool true]) ∧ w' = w := fun w => by
        have h := cut_any s kP w
        rw [hk, if_pos rfl] at h
        exact h
      have cn := isName_any (s.extract 2 s.size)
      have H : Hid (isKy s = isNm (s.extract 2 s.size)) := by show _ = _; unfold isKy; rw [ha, hk]; rfl
      generalize isNm (s.extract 2 s.size) = b at cn H
      generalize s.extract 2 s.size = u at cn ck
      go_enter Tryd.func87, Tryd.ntmps87
      go_wp2_with fail
      refine (ca _).mono ?_
      rintro e w' ⟨rfl, rfl⟩
      go_wp2_with fail
      refine (ck _).mono ?_
      rintro e w' ⟨rfl, rfl⟩
      go_wp2_with fail
      refine (cn _).mono ?_
      rintro e w' ⟨rfl, rfl⟩
      go_wp2
      go_ret
      exact ⟨by rw [H.out]; rfl, rfl⟩
    | false =>
      have ck : ∀ w, Calls Tryd.prog 95 #[.string s, .string ⟨#[107, 58]⟩] w fun e w' => e = .returned (.tuple #[.string s, .bool false]) ∧ w' = w := fun w => by
        have h := cut_any s kP w
        rw [hk, if_neg (by simp)] at h
        exact h
      have H : Hid (isKy s = false) := by show _ = _; unfold isKy; rw [ha, hk]; rfl
      go_enter Tryd.func87, Tryd.ntmps87
      go_wp2_with fail
      refine (ca _).mono ?_
      rintro e w' ⟨rfl, rfl⟩
      go_wp2_with fail
      refine (ck _).mono ?_
      rintro e w' ⟨rfl, rfl⟩
      go_wp2
      go_ret
      exact ⟨by rw [H.out]; rfl, rfl⟩
end Go.Proofs.YtajpfkenhchafaaDoor

/- What checkKeys, fieldsRight and Check do; nothing old in memory is turned. -/
namespace Go.Proofs.YtajpfkenhchafaaDoor
open Go.RowKit
set_option linter.unusedVariables false

set_option maxRecDepth 100000 in
set_option maxHeartbeats 1000000 in
theorem checkKeys_any (ao : Option Addr) (cap : Nat) (ss : List ByteArray) (w : World) (hc : StrsAt w ao ss) :
    Calls Tryd.prog 72 #[.slice ao ss.length cap] w fun e w' => e = .returned (.int .i64 (keysL ss : Int)) ∧ w' = w := by
  by_cases h8 : 8 < ss.length
  · have H : Hid (keysL ss = 8) := by show _ = _; unfold keysL; rw [if_pos h8]
    have h8' : (8 : Int) < ss.length := by omega
    go_enter Tryd.func72, Tryd.ntmps72
    go_wp2
    go_ret
    exact ⟨by rw [H.out]; rfl, rfl⟩
  have h8' : ¬ (8 : Int) < ss.length := by omega
  have HK : Hid (keysL ss = keysGo ⟨#[]⟩ ss) := by show _ = _; unfold keysL; rw [if_neg h8]
  go_enter Tryd.func72, Tryd.ntmps72
  go_wp2
  go_loop [3, 11] (fun v3 v11 => ∃ (k : Nat) (a : ByteArray), k ≤ ss.length ∧ v11 = .int .i64 k ∧ v3 = .string a ∧ Hid (keysL ss = keysGo a (ss.drop k))) (fun _ v => ss.length - (intOf v).toNat)
  case atStart => exact ⟨0, ⟨#[]⟩, by omega, rfl, rfl, HK⟩
  case round =>
    obtain ⟨k, a, hk, rfl, rfl, hK⟩ := hrel
    by_cases hlt : k < ss.length
    · obtain ⟨b, off, rfl, hbl, hcell⟩ := hc k hlt
      have hd : ss.drop k = ss[k] :: ss.drop (k + 1) := List.drop_eq_getElem_cons hlt
      have hK2 := hK.out
      rw [hd, keysGo] at hK2
      have cn := isKey_any ss[k]
      obtain ⟨x, hx⟩ : ∃ x, x = ss[k] := ⟨_, rfl⟩
      rw [← hx] at hK2 cn hcell
      clear hK hd hx HK
      cases hky : isKy x with
      | false =>
        have H : Hid (keysL ss = 3) := by show _ = _; rw [hK2, if_pos hky]
        rw [hky] at cn
        clear hK2 hky
        go_wp2_with fail
        refine (cn _).mono ?_
        rintro e w' ⟨rfl, rfl⟩
        go_wp2
        go_ret
        exact ⟨by rw [H.out]; rfl, rfl⟩
      | true =>
        rw [hky] at cn
        rw [if_neg (by rw [hky]; simp)] at hK2
        cases hle : (Op.bytesLess x.toList a.toList || x.toList == a.toList) with
        | true =>
          have H : Hid (keysL ss = 9) := by show _ = _; rw [hK2, if_pos hle]
          clear hK2 hky
          go_wp2_with fail
          refine (cn _).mono ?_
          rintro e w' ⟨rfl, rfl⟩
          go_wp2
          go_ret
          exact ⟨by rw [H.out]; rfl, rfl⟩
        | false =>
          have H : Hid (keysL ss = keysGo x (ss.drop (k + 1))) := by show _ = _; rw [hK2, if_neg (by rw [hle]; simp)]
          clear hK2 hky
          go_wp2_with fail
          refine (cn _).mono ?_
          rintro e w' ⟨rfl, rfl⟩
          go_wp2
          go_round
          case rel => exact ⟨k + 1, x, by omega, by go_num, rfl, H⟩
          case measure => simp [intOf]; omega
    · have H : Hid (keysL ss = 0) := by
        show _ = _
        rw [hK.out, List.drop_of_length_le (by omega), keysGo]
      clear hK
      go_wp2
      go_ret
      exact ⟨by rw [H.out]; rfl, rfl⟩

theorem bemp (s : ByteArray) : (s.toList == []) = s.toList.isEmpty := by cases s.toList <;> rfl

set_option maxRecDepth 100000 in
set_option maxHeartbeats 1000000 in
theorem fieldsRight_any (d : TxD) (ra : Option Addr) (rc : Nat) (wa : Option Addr) (wc : Nat) (w : World) :
    Calls Tryd.prog 71 #[txV d ra rc wa wc] w fun e w' => e = .returned (.bool (fieldsR d)) ∧ Below w.heap.size w w' := by
  obtain ⟨kind, frm, to, amt, non, key, val, rs, ws⟩ := d
  have hB : ∀ c, Below w.heap.size w (w.alloc c) := fun c => (Below.refl w.heap.size w).alloc (Nat.le_refl _) c
  unfold txV
  have c1 := isName_any frm
  cases h1 : isNm frm with
  | false =>
    have H : Hid (fieldsR ⟨kind, frm, to, amt, non, key, val, rs, ws⟩ = false) := by show _ = _; simp [fieldsR, h1]
    rw [h1] at c1
    go_enter Tryd.func71, Tryd.ntmps71
    go_wp2_with fail
    refine (c1 _).mono ?_
    rintro e w' ⟨rfl, rfl⟩
    go_wp2
    go_ret
    exact ⟨by rw [H.out]; rfl, hB _⟩
  | true =>
    rw [h1] at c1
    by_cases hk : kind = 1
    · subst hk
      have c2 := isName_any to
      have H : Hid (fieldsR ⟨1, frm, to, amt, non, key, val, rs, ws⟩ = (isNm to && key.toList.isEmpty && val.toList.isEmpty)) := by show _ = _; simp only [fieldsR, h1, bemp]; simp
      generalize isNm to = b2 at c2 H
      cases b2 with
      | false =>
        go_enter Tryd.func71, Tryd.ntmps71
        go_wp2_with fail
        refine (c1 _).mono ?_
        rintro e w' ⟨rfl, rfl⟩
        go_wp2_with fail
        refine (c2 _).mono ?_
        rintro e w' ⟨rfl, rfl⟩
        go_wp2
        go_ret
        exact ⟨by rw [H.out]; rfl, hB _⟩
      | true =>
        by_cases hkey : key.toList = []
        · have hke : key.toList.isEmpty = true := by rw [hkey]; rfl
          rw [hke] at H
          replace H : Hid (fieldsR ⟨1, frm, to, amt, non, key, val, rs, ws⟩ = val.toList.isEmpty) := H
          go_enter Tryd.func71, Tryd.ntmps71
          go_wp2_with fail
          refine (c1 _).mono ?_
          rintro e w' ⟨rfl, rfl⟩
          go_wp2_with fail
          refine (c2 _).mono ?_
          rintro e w' ⟨rfl, rfl⟩
          go_wp2
          go_ret
          exact ⟨by rw [H.out]; rfl, hB _⟩
        · have hke : key.toList.isEmpty = false := by simpa using hkey
          rw [hke] at H
          replace H : Hid (fieldsR ⟨1, frm, to, amt, non, key, val, rs, ws⟩ = false) := H
          go_enter Tryd.func71, Tryd.ntmps71
          go_wp2_with fail
          refine (c1 _).mono ?_
          rintro e w' ⟨rfl, rfl⟩
          go_wp2_with fail
          refine (c2 _).mono ?_
          rintro e w' ⟨rfl, rfl⟩
          go_wp2
          go_ret
          exact ⟨by rw [H.out]; rfl, hB _⟩
    · have c2 := isName_any key
      have hk1 : (kind == 1) = false := beq_eq_false_iff_ne.2 hk
      have H : Hid (fieldsR ⟨kind, frm, to, amt, non, key, val, rs, ws⟩ = (isNm key && decide (val.size ≤ 64) && to.toList.isEmpty && decide (amt = 0))) := by show _ = _; simp only [fieldsR, h1, bemp, if_neg hk]; simp
      generalize isNm key = b2 at c2 H
      cases b2 with
      | false =>
        go_enter Tryd.func71, Tryd.ntmps71
        go_wp2_with fail
        refine (c1 _).mono ?_
        rintro e w' ⟨rfl, rfl⟩
        go_wp2_with fail
        refine (c2 _).mono ?_
        rintro e w' ⟨rfl, rfl⟩
        go_wp2
        go_ret
        exact ⟨by rw [H.out]; rfl, hB _⟩
      | true =>
        by_cases hv : val.size ≤ 64
        · have hv' : (val.size : Int) ≤ 64 := by omega
          by_cases ht : to.toList = []
          · have hte : to.toList.isEmpty = true := by rw [ht]; rfl
            rw [hte, decide_eq_true hv] at H
            by_cases ha : amt = 0
            · subst ha
              replace H : Hid (fieldsR ⟨kind, frm, to, 0, non, key, val, rs, ws⟩ = true) := H
              go_enter Tryd.func71, Tryd.ntmps71
              go_wp2_with fail
              refine (c1 _).mono ?_
              rintro e w' ⟨rfl, rfl⟩
              go_wp2_with fail
              refine (c2 _).mono ?_
              rintro e w' ⟨rfl, rfl⟩
              go_wp2
              go_ret
              exact ⟨by rw [H.out]; rfl, hB _⟩
            · have ha' : ((amt : Int) == 0) = false := beq_eq_false_iff_ne.2 (by omega)
              rw [decide_eq_false ha] at H
              replace H : Hid (fieldsR ⟨kind, frm, to, amt, non, key, val, rs, ws⟩ = false) := H
              go_enter Tryd.func71, Tryd.ntmps71
              go_wp2_with fail
              refine (c1 _).mono ?_
              rintro e w' ⟨rfl, rfl⟩
              go_wp2_with fail
              refine (c2 _).mono ?_
              rintro e w' ⟨rfl, rfl⟩
              go_wp2
              go_ret
              exact ⟨by rw [H.out]; rfl, hB _⟩
          · have hte : to.toList.isEmpty = false := by simpa using ht
            rw [hte, decide_eq_true hv] at H
            replace H : Hid (fieldsR ⟨kind, frm, to, amt, non, key, val, rs, ws⟩ = false) := H
            go_enter Tryd.func71, Tryd.ntmps71
            go_wp2_with fail
            refine (c1 _).mono ?_
            rintro e w' ⟨rfl, rfl⟩
            go_wp2_with fail
            refine (c2 _).mono ?_
            rintro e w' ⟨rfl, rfl⟩
            go_wp2
            go_ret
            exact ⟨by rw [H.out]; rfl, hB _⟩
        · have hv' : (64 : Int) < val.size := by omega
          rw [decide_eq_false hv] at H
          replace H : Hid (fieldsR ⟨kind, frm, to, amt, non, key, val, rs, ws⟩ = false) := H
          have dv : decide ((val.size : Int) ≤ 64) = false := decide_eq_false (by omega)
          go_enter Tryd.func71, Tryd.ntmps71
          go_wp2_with fail
          refine (c1 _).mono ?_
          rintro e w' ⟨rfl, rfl⟩
          go_wp2_with fail
          refine (c2 _).mono ?_
          rintro e w' ⟨rfl, rfl⟩
          go_wp2
          go_ret
          exact ⟨by rw [H.out]; rfl, hB _⟩
end Go.Proofs.YtajpfkenhchafaaDoor
