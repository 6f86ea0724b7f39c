/- Texts as one: WireList, WireGetList, WireBackMath, TxMath, SlimBase, TextMath. -/
import Derived.Test.YtcjmeaikdfgapaaDoorSd01
import Derived.Test.YtcjmeaikdfgapaaDoorRows
import Derived.WalkKit
import Derived.WalkSpells
import Derived.WalkLawsBesides
import Derived.ScopeJumps
import Derived.WalkMore
import Derived.RegionTactic
import Derived.Deep.QuietTactic
import Derived.BigQuiet
import Derived.Laws.AppendOwnNone
/- What wire.List does: the texts' bytes behind their count; nothing old in memory is turned. -/
namespace Go.Proofs.YtcjmeaikdfgapaaDoor
open Go.RowKit

theorem grown_of_below {w w' : World} (h : Below w.heap.size w w') : w.grownBy w' none := ⟨h.os, h.tape, h.output, h.size, fun k hk _ => h.block k hk⟩

theorem builder_keep {T e : TypeId} {B b : Nat} {bs : List Value} {w w' : World} (h : Lib.IsBuilder T e B b bs w) (hb : Below w.heap.size w w') : Lib.IsBuilder T e B b bs w' := by
  have one : ∀ p, Lib.BuilderAt T e B b p bs w → Lib.BuilderAt T e B b p bs w' := by
    rintro p ⟨hB, v, hbk, hown, hne⟩
    refine ⟨hB, v, ?_, hown.kept (grown_of_below hb) ?_, hne⟩
    · rw [hb.block b (Array.getElem?_eq_some_iff.1 hbk).1]; exact hbk
    · cases hv : v.ownBlock <;> simp
  rcases h with h | h
  · exact Or.inl (one _ h)
  · exact Or.inr (one _ h)
end Go.Proofs.YtcjmeaikdfgapaaDoor

/- What wire.GetList does: the texts at the front of bytes, in new memory, in how many bytes, and the error; nothing old in memory is turned. -/
namespace Go.Proofs.YtcjmeaikdfgapaaDoor
open Go.RowKit

/-- m texts more, from a place on, behind those that are got. -/
def glGo (l : List UInt8) : Nat → Nat → List (List UInt8) → List (List UInt8) × Nat × Nat
  | 0, at_, acc => (acc, at_, 0)
  | m + 1, at_, acc => if (getText (l.drop at_)).2.2 ≠ 0 then ([], 0, (getText (l.drop at_)).2.2) else glGo l m (at_ + (getText (l.drop at_)).2.1) (acc ++ [(getText (l.drop at_)).1])

def getList (l : List UInt8) (most : Int) : List (List UInt8) × Nat × Nat :=
  if (getInt l).2.2 ≠ 0 then ([], 0, (getInt l).2.2)
  else if most < (getInt l).1 then ([], 0, 8)
  else glGo l (getInt l).1 (getInt l).2.1 []

def strVal (t : List UInt8) : Value := .string ⟨t.toArray⟩

def slLen : Value → Nat | .slice _ n _ => n | _ => 0

theorem infoString : (Tryd.prog.info? 9).map (fun i => (i.zero, i.size, i.bytes)) = some (some (.string ⟨#[]⟩), 1, 16) := by kernel_rfl

theorem strVal_one (l : List (List UInt8)) : ∀ u ∈ l.map strVal, u.oneCell' = true := by
  intro u hu
  obtain ⟨b, _, rfl⟩ := List.mem_map.1 hu
  rfl

theorem extract_drop (s : ByteArray) (a : Nat) : (s.extract a s.size).data.toList = s.data.toList.drop a := by
  rw [extract_list]
  rw [List.take_of_length_le (by simp)]

theorem own_slice {w : World} {B : Nat} {e : TypeId} {v : Value} {n : Nat} {xs : List Value} (h : w.ownsRow B e 1 v n xs) : ∃ ao cap, v = .slice ao n cap := by
  rcases h.2 with ⟨rfl, rfl⟩ | ⟨g, cap, cur, rfl, _⟩
  · exact ⟨_, _, rfl⟩
  · exact ⟨_, _, rfl⟩

def GotList (w w' : World) (r : List (List UInt8) × Nat × Nat) (v : Value) : Prop :=
  ∃ ao cap, v = .tuple #[.slice ao r.1.length cap, .int .i64 r.2.1, .int .i64 r.2.2] ∧ w'.ownsRow w.heap.size 9 1 (.slice ao r.1.length cap) r.1.length (r.1.map strVal)
end Go.Proofs.YtcjmeaikdfgapaaDoor

/- The plain mathematics of layer wire, both ways: what is written is got again; what is got is written as it was; what is cut off is too short. -/
namespace Go.Proofs.YtcjmeaikdfgapaaDoor

theorem toNat_more (m : Nat) : (UInt8.ofNat (128 + m % 128)).toNat = 128 + m % 128 := by
  simp
  omega

theorem toNat_last (m : Nat) (h : m < 128) : (UInt8.ofNat m).toNat = m := by
  simp
  omega

theorem giGo_enc : ∀ (m acc i : Nat) (r : List UInt8), acc + m * 128 ^ i ≤ 4611686018427387903 → (i = 0 ∨ m ≠ 0) → i + (enc m).length ≤ 9 →
    giGo (enc m ++ r) acc i = (acc + m * 128 ^ i, i + (enc m).length, 0) := by
  intro m
  induction m using Nat.strongRecOn with
  | _ m ih =>
    intro acc i r h1 h2 h3
    by_cases hm : m < 128
    · rw [enc_small m hm] at h3 ⊢
      rw [List.singleton_append, giGo, toNat_last m hm, if_neg (by omega)]
      have e : m % 128 = m := by omega
      rw [e, if_neg (by omega), if_neg (by omega)]
      simp
    · rw [enc_big m (by omega)] at h3 ⊢
      have hp := enc_length_pos (m / 128)
      rw [List.length_cons] at h3
      rw [List.cons_append, giGo, toNat_more, if_pos (by omega), if_neg (by omega)]
      have e : (128 + m % 128) % 128 = m % 128 := by omega
      have e2 : acc + m % 128 * 128 ^ i + m / 128 * 128 ^ (i + 1) = acc + m * 128 ^ i := by
        have e3 : m = m % 128 + 128 * (m / 128) := by omega
        rw [Nat.pow_succ]
        conv => rhs; rw [e3]
        rw [Nat.add_mul, ← Nat.mul_assoc, Nat.mul_comm (m / 128) (128 ^ i), Nat.mul_comm 128 (m / 128), Nat.mul_assoc (m / 128) 128, Nat.mul_comm 128 (128 ^ i), ← Nat.mul_assoc (m / 128), Nat.mul_comm (m / 128) (128 ^ i)]
        omega
      rw [e, ih (m / 128) (by omega) _ _ r (by rw [e2]; exact h1) (by omega) (by omega), e2, List.length_cons]
      congr 2
      omega

theorem getInt_enc (n : Nat) (r : List UInt8) (h : n ≤ 4611686018427387903) : getInt (enc n ++ r) = (n, (enc n).length, 0) := by
  have := giGo_enc n 0 0 r (by simpa using h) (Or.inl rfl) (by have := enc_length_nine n h; omega)
  rw [getInt, this]
  simp

theorem giGo_back : ∀ (l : List UInt8) (acc i N k : Nat), giGo l acc i = (N, k, 0) → ∃ m, N = acc + m * 128 ^ i ∧ k = i + (enc m).length ∧ l.take (enc m).length = enc m ∧ (i = 0 ∨ m ≠ 0)
  | [], _, _, _, _ => by intro h; simp [giGo] at h
  | c :: r, acc, i, N, k => by
    intro h
    have hc : c.toNat < 256 := UInt8.toNat_lt c
    rw [giGo] at h
    by_cases h1 : 128 ≤ c.toNat
    · rw [if_pos h1] at h
      by_cases h2 : i + 1 = 9
      · rw [if_pos h2] at h; simp at h
      · rw [if_neg h2] at h
        obtain ⟨m, e1, e2, e3, e4⟩ := giGo_back r _ _ _ _ h
        have hm : m ≠ 0 := by omega
        have hen : enc (c.toNat % 128 + 128 * m) = c :: enc m := by
          rw [enc_big _ (by omega)]
          have a1 : (c.toNat % 128 + 128 * m) / 128 = m := by omega
          have a2 : 128 + (c.toNat % 128 + 128 * m) % 128 = c.toNat := by omega
          rw [a1, a2]
          simp
        refine ⟨c.toNat % 128 + 128 * m, ?_, ?_, ?_, by omega⟩
        · rw [e1, Nat.pow_succ, Nat.add_mul, Nat.mul_comm (128 ^ i) 128, ← Nat.mul_assoc, Nat.mul_comm m 128]
          omega
        · rw [hen, List.length_cons]; omega
        · rw [hen, List.length_cons, List.take_succ_cons, e3]
    · rw [if_neg h1] at h
      by_cases h2 : 4611686018427387903 < acc + c.toNat % 128 * 128 ^ i
      · rw [if_pos h2] at h; simp at h
      · rw [if_neg h2] at h
        by_cases h3 : c.toNat = 0 ∧ 1 < i + 1
        · rw [if_pos h3] at h; simp at h
        · rw [if_neg h3] at h
          simp only [Prod.mk.injEq] at h
          have hen : enc c.toNat = [c] := by rw [enc_small _ (by omega)]; simp
          have e : c.toNat % 128 = c.toNat := by omega
          rw [e] at h
          refine ⟨c.toNat, h.1.symm, ?_, ?_, by omega⟩
          · rw [hen]; simp; omega
          · rw [hen]; simp

theorem getInt_back (l : List UInt8) (n k : Nat) (h : getInt l = (n, k, 0)) : l.take k = enc n ∧ k = (enc n).length := by
  obtain ⟨m, e1, e2, e3, _⟩ := giGo_back l 0 0 n k h
  simp at e1 e2
  subst e1
  subst e2
  exact ⟨e3, rfl⟩

theorem giGo_cut : ∀ (m acc i j : Nat), i + (enc m).length ≤ 9 → j < (enc m).length → giGo ((enc m).take j) acc i = (0, 0, 1) := by
  intro m
  induction m using Nat.strongRecOn with
  | _ m ih =>
    intro acc i j h1 h2
    by_cases hm : m < 128
    · rw [enc_small m hm] at h2 ⊢
      have : j = 0 := by simp at h2; omega
      subst this
      simp [giGo]
    · rw [enc_big m (by omega)] at h1 h2 ⊢
      have hp := enc_length_pos (m / 128)
      rw [List.length_cons] at h1 h2
      cases j with
      | zero => simp [giGo]
      | succ j =>
        rw [List.take_succ_cons, giGo, toNat_more, if_pos (by omega), if_neg (by omega)]
        exact ih (m / 128) (by omega) _ _ j (by omega) (by omega)

theorem getInt_cut (n j : Nat) (h : n ≤ 4611686018427387903) (hj : j < (enc n).length) : getInt ((enc n).take j) = (0, 0, 1) :=
  giGo_cut n 0 0 j (by have := enc_length_nine n h; omega) hj

theorem txt_enc (t : List UInt8) (h : t.length ≤ 4611686018427387903) : txt t = enc t.length ++ t := by
  rw [txt, goInt_nat _ h]

theorem getText_txt (t r : List UInt8) (h : t.length ≤ 65536) : getText (txt t ++ r) = (t, (txt t).length, 0) := by
  rw [txt_enc t (by omega), List.append_assoc]
  unfold getText
  rw [getInt_enc _ _ (by omega)]
  simp only [ne_eq, not_true_eq_false, if_false]
  rw [if_neg (by omega), if_neg (by simp)]
  simp

theorem getText_long (t r : List UInt8) (h : 65536 < t.length) (h2 : t.length ≤ 4611686018427387903) : getText (txt t ++ r) = ([], 0, 8) := by
  rw [txt_enc t h2, List.append_assoc]
  unfold getText
  rw [getInt_enc _ _ h2]
  simp [h]

theorem getText_back (l t : List UInt8) (k : Nat) (h : getText l = (t, k, 0)) : txt t = l.take k := by
  have hb := getText_bounds l t k h
  unfold getText at h
  rcases hr : getInt l with ⟨n, j, e⟩
  rw [hr] at h
  simp only at h
  by_cases h1 : e ≠ 0
  · rw [if_pos h1] at h; simp at h; omega
  · have h1 : e = 0 := by omega
    subst h1
    obtain ⟨g1, g2⟩ := getInt_back l n j hr
    have hbb := getInt_bounds l n j hr
    rw [if_neg (by simp)] at h
    by_cases h2 : 65536 < n
    · rw [if_pos h2] at h; simp at h
    · rw [if_neg h2] at h
      by_cases h3 : l.length - j < n
      · rw [if_pos h3] at h; simp at h
      · rw [if_neg h3] at h
        simp only [Prod.mk.injEq] at h
        obtain ⟨rfl, rfl, _⟩ := h
        have hlen : (List.take n (List.drop j l)).length = n := by simp; omega
        rw [txt_enc _ (by omega), hlen, ← g1, List.take_add]

theorem getText_cut (t : List UInt8) (j : Nat) (h : t.length ≤ 65536) (hj : j < (txt t).length) : getText ((txt t).take j) = ([], 0, 1) := by
  rw [txt_enc t (by omega)] at hj ⊢
  by_cases h1 : j < (enc t.length).length
  · rw [List.take_append_of_le_length (by omega)]
    unfold getText
    rw [getInt_cut _ _ (by omega) h1]
    simp
  · have e : (enc t.length ++ t).take j = enc t.length ++ t.take (j - (enc t.length).length) := by
      rw [List.take_append]
      rw [List.take_of_length_le (by omega)]
    rw [e]
    unfold getText
    rw [getInt_enc _ _ (by omega)]
    rw [List.length_append] at hj
    simp only [ne_eq, not_true_eq_false, if_false]
    rw [if_neg (by omega), if_pos (by rw [List.length_append, List.length_take]; omega)]

theorem glGo_flat : ∀ (ts : List (List UInt8)) (pre r : List UInt8) (acc : List (List UInt8)), (∀ t ∈ ts, t.length ≤ 65536) →
    glGo (pre ++ (ts.flatMap txt ++ r)) ts.length pre.length acc = (acc ++ ts, pre.length + (ts.flatMap txt).length, 0)
  | [], pre, r, acc, _ => by simp [glGo]
  | t :: ts, pre, r, acc, h => by
    have ht : t.length ≤ 65536 := h t (by simp)
    rw [List.length_cons, glGo, List.drop_left]
    have e1 : (t :: ts).flatMap txt ++ r = txt t ++ (ts.flatMap txt ++ r) := by simp
    rw [e1, getText_txt t _ ht]
    simp only [ne_eq, not_true_eq_false, if_false]
    have e2 : pre ++ (txt t ++ (ts.flatMap txt ++ r)) = (pre ++ txt t) ++ (ts.flatMap txt ++ r) := by simp
    have e3 : pre.length + (txt t).length = (pre ++ txt t).length := by simp
    rw [e2, e3, glGo_flat ts (pre ++ txt t) r (acc ++ [t]) (fun x hx => h x (by simp [hx]))]
    simp
    omega

theorem getList_lst (ts : List (List UInt8)) (r : List UInt8) (most : Int) (h : ∀ t ∈ ts, t.length ≤ 65536) (hn : ts.length ≤ 4611686018427387903) (hm : (ts.length : Int) ≤ most) :
    getList (lst ts ++ r) most = (ts, (lst ts).length, 0) := by
  have e : lst ts ++ r = enc ts.length ++ (ts.flatMap txt ++ r) := by rw [lst, goInt_nat _ hn]; simp
  unfold getList
  rw [e, getInt_enc _ _ hn]
  simp only [ne_eq, not_true_eq_false, if_false]
  rw [if_neg (by omega), glGo_flat ts (enc ts.length) r [] h, lst, goInt_nat _ hn]
  simp

theorem getList_few (ts : List (List UInt8)) (r : List UInt8) (most : Int) (hn : ts.length ≤ 4611686018427387903) (hm : most < (ts.length : Int)) :
    getList (lst ts ++ r) most = ([], 0, 8) := by
  have e : lst ts ++ r = enc ts.length ++ (ts.flatMap txt ++ r) := by rw [lst, goInt_nat _ hn]; simp
  unfold getList
  rw [e, getInt_enc _ _ hn]
  simp only [ne_eq, not_true_eq_false, if_false]
  rw [if_pos hm]

theorem glGo_cut : ∀ (ts : List (List UInt8)) (pre : List UInt8) (acc : List (List UInt8)) (j : Nat), (∀ t ∈ ts, t.length ≤ 65536) → j < (ts.flatMap txt).length →
    glGo (pre ++ (ts.flatMap txt).take j) ts.length pre.length acc = ([], 0, 1)
  | [], pre, acc, j, _, hj => by simp at hj
  | t :: ts, pre, acc, j, h, hj => by
    have ht : t.length ≤ 65536 := h t (by simp)
    have e1 : (t :: ts).flatMap txt = txt t ++ ts.flatMap txt := by simp
    rw [e1] at hj ⊢
    rw [List.length_cons, glGo, List.drop_left]
    by_cases h1 : j < (txt t).length
    · rw [List.take_append_of_le_length (by omega), getText_cut t j ht h1]
      simp
    · have e2 : (txt t ++ ts.flatMap txt).take j = txt t ++ (ts.flatMap txt).take (j - (txt t).length) := by
        rw [List.take_append]
        rw [List.take_of_length_le (by omega)]
      rw [e2, getText_txt t _ ht]
      simp only [ne_eq, not_true_eq_false, if_false]
      have e4 : pre ++ (txt t ++ (ts.flatMap txt).take (j - (txt t).length)) = (pre ++ txt t) ++ (ts.flatMap txt).take (j - (txt t).length) := by simp
      have e3 : pre.length + (txt t).length = (pre ++ txt t).length := by simp
      rw [e4, e3]
      exact glGo_cut ts (pre ++ txt t) (acc ++ [t]) _ (fun x hx => h x (by simp [hx])) (by rw [List.length_append] at hj; omega)

theorem getList_cut (ts : List (List UInt8)) (most : Int) (j : Nat) (h : ∀ t ∈ ts, t.length ≤ 65536) (hn : ts.length ≤ 4611686018427387903) (hm : (ts.length : Int) ≤ most) (hj : j < (lst ts).length) :
    getList ((lst ts).take j) most = ([], 0, 1) := by
  have e : lst ts = enc ts.length ++ ts.flatMap txt := by rw [lst, goInt_nat _ hn]
  rw [e] at hj ⊢
  unfold getList
  by_cases h1 : j < (enc ts.length).length
  · rw [List.take_append_of_le_length (by omega), getInt_cut _ _ hn h1]
    simp
  · have e2 : (enc ts.length ++ ts.flatMap txt).take j = enc ts.length ++ (ts.flatMap txt).take (j - (enc ts.length).length) := by
      rw [List.take_append]
      rw [List.take_of_length_le (by omega)]
    rw [e2, getInt_enc _ _ hn]
    simp only [ne_eq, not_true_eq_false, if_false]
    rw [if_neg (by omega)]
    exact glGo_cut ts _ [] _ h (by rw [List.length_append] at hj; omega)

end Go.Proofs.YtcjmeaikdfgapaaDoor

/- Layer 4's mathematics: names, keys, when a transaction is right, what it needs. -/
namespace Go.Proofs.YtcjmeaikdfgapaaDoor
open Go.RowKit
set_option linter.unusedVariables false

def nameByte (c : UInt8) : Bool := (decide (97 ≤ c.toNat) && decide (c.toNat ≤ 122)) || (decide (48 ≤ c.toNat) && decide (c.toNat ≤ 57))

/-- Is it a name? -/
def isNm (s : ByteArray) : Bool := decide (1 ≤ s.size) && decide (s.size ≤ 32) && s.data.toList.all nameByte

/-- Does it begin so? -/
def cutOk (s p : ByteArray) : Bool := decide (p.size ≤ s.size) && ((s.extract 0 p.size).toList == p.toList)

def aP : ByteArray := ⟨#[97, 58]⟩
def kP : ByteArray := ⟨#[107, 58]⟩

/-- Is it a key? -/
def isKy (s : ByteArray) : Bool := (cutOk s aP || cutOk s kP) && isNm (s.extract 2 s.size)

/-- What is wrong with a list of keys, behind one. -/
def keysGo : ByteArray → List ByteArray → Nat
  | _, [] => 0
  | a, k :: r => if isKy k = false then 3 else if (Op.bytesLess k.toList a.toList || k.toList == a.toList) = true then 9 else keysGo k r

def keysL (l : List ByteArray) : Nat := if 8 < l.length then 8 else keysGo ⟨#[]⟩ l

/-- A transaction. -/
structure TxD where
  kind : Int
  frm : ByteArray
  to : ByteArray
  amt : Nat
  non : Nat
  key : ByteArray
  val : ByteArray
  rs : List ByteArray
  ws : List ByteArray

def TxD.none : TxD := ⟨0, ⟨#[]⟩, ⟨#[]⟩, 0, 0, ⟨#[]⟩, ⟨#[]⟩, [], []⟩

def fieldsR (d : TxD) : Bool :=
  isNm d.frm && (if d.kind = 1 then isNm d.to && (d.key.toList == []) && (d.val.toList == []) else isNm d.key && decide (d.val.size ≤ 64) && (d.to.toList == []) && decide (d.amt = 0))

/-- What is wrong with a transaction. -/
def checkL (d : TxD) : Nat :=
  if d.kind ≠ 1 ∧ d.kind ≠ 2 then 5 else if fieldsR d = false then 3 else if 4611686018427387903 < d.amt ∨ 4611686018427387903 < d.non then 2 else if keysL d.rs ≠ 0 then keysL d.rs else keysL d.ws

/-- A right transaction's bytes. -/
def encL (d : TxD) : List UInt8 :=
  goInt d.kind ++ txt d.frm.data.toList ++ txt d.to.data.toList ++ goInt d.amt ++ goInt d.non ++ txt d.key.data.toList ++ txt d.val.data.toList ++ lst (bl d.rs) ++ lst (bl d.ws)

def encB (d : TxD) : ByteArray := if checkL d = 0 then ⟨(encL d).toArray⟩ else ⟨#[]⟩

/-- What a transaction needs. -/
def needsL (d : TxD) : List ByteArray :=
  if checkL d = 0 then
    (if d.kind = 2 then [aP ++ d.frm, kP ++ d.key]
     else if Op.bytesLess (aP ++ d.frm).toList (aP ++ d.to).toList = true then [aP ++ d.frm, aP ++ d.to]
     else if Op.bytesLess (aP ++ d.to).toList (aP ++ d.frm).toList = true then [aP ++ d.to, aP ++ d.frm]
     else [aP ++ d.frm])
  else []

def hasL (l : List ByteArray) (s : ByteArray) : Bool := l.any (fun x => s.toList == x.toList)

def fitsL (d : TxD) : Bool := !(needsL d).isEmpty && (needsL d).all (hasL d.ws)

/-- A transaction as a value. -/
def txV (d : TxD) (ra : Option Addr) (rc : Nat) (wa : Option Addr) (wc : Nat) : Value :=
  .agg #[.int .i64 d.kind, .string d.frm, .string d.to, .int .u64 (d.amt : Int), .int .u64 (d.non : Int), .string d.key, .string d.val, .slice ra d.rs.length rc, .slice wa d.ws.length wc]

/-- Its lists lie in memory. -/
structure TxAt (w : World) (d : TxD) (ra wa : Option Addr) : Prop where
  rd : StrsAt w ra d.rs
  wr : StrsAt w wa d.ws

theorem TxAt.below {w w' : World} {d : TxD} {ra wa : Option Addr} (h : TxAt w d ra wa) (hb : Below w.heap.size w w') : TxAt w' d ra wa := ⟨h.rd.below hb, h.wr.below hb⟩

theorem StrsAt.below' {B : Nat} {w w' : World} {ao : Option Addr} {ss : List ByteArray} (h : StrsAt w ao ss) (hb : Below B w w') (hB : w.heap.size ≤ B) : StrsAt w' ao ss := h.below (hb.mono hB)

theorem keysL_le (l : List ByteArray) (h : keysL l = 0) : l.length ≤ 8 := by
  unfold keysL at h
  split at h <;> omega

theorem keysGo_err : ∀ (l : List ByteArray) (a : ByteArray), keysGo a l ≤ 9
  | [], _ => by simp [keysGo]
  | k :: r, a => by
    rw [keysGo]
    split
    · omega
    · split
      · omega
      · exact keysGo_err r k

end Go.Proofs.YtcjmeaikdfgapaaDoor

/- What the base texts import where package wire is not there. -/
namespace Go.Proofs.YtcjmeaikdfgapaaDoor
open Go.RowKit
end Go.Proofs.YtcjmeaikdfgapaaDoor

/- Texts: their order and when they are the same. -/
namespace Go.Proofs.YtcjmeaikdfgapaaDoor
open Go Go.RowKit
set_option linter.unusedVariables false

theorem bytes_eq (a b : ByteArray) : (a.toList == b.toList) = decide (a = b) := by
  by_cases h : a = b
  · subst h; simp
  · rw [decide_eq_false h]
    refine beq_eq_false_iff_ne.2 (fun e => h ?_)
    rw [ByteArray.toList_eq, ByteArray.toList_eq] at e
    cases a
    cases b
    simpa using e

theorem lessT_eq : ∀ (x y : List UInt8), Op.bytesLess x y = decide (x < y)
  | [], [] => by simp [Op.bytesLess]
  | _ :: _, [] => by simp [Op.bytesLess]
  | [], _ :: _ => by simp [Op.bytesLess]
  | a :: x, b :: y => by
    rw [Op.bytesLess, lessT_eq x y]
    simp only [List.cons_lt_cons_iff]
    by_cases h1 : a < b <;> by_cases h2 : a = b <;> by_cases h3 : x < y <;> simp [h1, h2, h3]

theorem bytes_inj {a b : ByteArray} (h : a.toList = b.toList) : a = b := by
  have h1 := bytes_eq a b
  rw [h] at h1
  exact of_decide_eq_true (by rw [← h1]; simp)
end Go.Proofs.YtcjmeaikdfgapaaDoor
