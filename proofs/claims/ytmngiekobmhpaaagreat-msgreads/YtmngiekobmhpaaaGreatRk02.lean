/- Texts as one: WireList, WireGetList, WireBackMath, TxMath, Frame, TxFrame. -/
import Derived.Test.YtmngiekobmhpaaaGreatRk01
import Derived.ProofKit
import Derived.OpenShut
import Derived.ShutString
import Derived.ChangeOld
import Derived.Below
import Derived.SizedLaws
import Derived.SliceStrings
import Derived.Lib.SmallJoins
/- What wire.List does: the texts' bytes behind their count; nothing old in memory is turned. -/
namespace Go.Proofs.YtmngiekobmhpaaaGreat
open Go.RowKit

theorem grown_of_below {w w' : World} (h : Below w.heap.size w w') : w.grownBy w' none := ⟨h.os, h.tape, h.output, h.size, fun k hk _ => h.block k hk⟩

theorem builder_keep {T e : TypeId} {B b : Nat} {bs : List Value} {w w' : World} (h : Lib.IsBuilder T e B b bs w) (hb : Below w.heap.size w w') : Lib.IsBuilder T e B b bs w' := by
  have one : ∀ p, Lib.BuilderAt T e B b p bs w → Lib.BuilderAt T e B b p bs w' := by
    rintro p ⟨hB, v, hbk, hown, hne⟩
    refine ⟨hB, v, ?_, hown.kept (grown_of_below hb) ?_, hne⟩
    · rw [hb.block b (Array.getElem?_eq_some_iff.1 hbk).1]; exact hbk
    · cases hv : v.ownBlock <;> simp
  rcases h with h | h
  · exact Or.inl (one _ h)
  · exact Or.inr (one _ h)
end Go.Proofs.YtmngiekobmhpaaaGreat

/- What wire.GetList does: the texts at the front of bytes, in new memory, in how many bytes, and the error; nothing old in memory is turned. -/
namespace Go.Proofs.YtmngiekobmhpaaaGreat
open Go.RowKit

/-- m texts more, from a place on, behind those that are got. -/
def glGo (l : List UInt8) : Nat → Nat → List (List UInt8) → List (List UInt8) × Nat × Nat
  | 0, at_, acc => (acc, at_, 0)
  | m + 1, at_, acc => if (getText (l.drop at_)).2.2 ≠ 0 then ([], 0, (getText (l.drop at_)).2.2) else glGo l m (at_ + (getText (l.drop at_)).2.1) (acc ++ [(getText (l.drop at_)).1])

def getList (l : List UInt8) (most : Int) : List (List UInt8) × Nat × Nat :=
  if (getInt l).2.2 ≠ 0 then ([], 0, (getInt l).2.2)
  else if most < (getInt l).1 then ([], 0, 8)
  else glGo l (getInt l).1 (getInt l).2.1 []

def strVal (t : List UInt8) : Value := .string ⟨t.toArray⟩

def slLen : Value → Nat | .slice _ n _ => n | _ => 0

theorem infoString : (Tryz.prog.info? 9).map (fun i => (i.zero, i.size, i.bytes)) = some (some (.string ⟨#[]⟩), 1, 16) := by kernel_rfl

theorem extract_drop (s : ByteArray) (a : Nat) : (s.extract a s.size).data.toList = s.data.toList.drop a := by
  rw [extract_list]
  rw [List.take_of_length_le (by simp)]

theorem own_slice {w : World} {B : Nat} {e : TypeId} {v : Value} {n : Nat} {xs : List Value} (h : w.ownsRow B e 1 v n xs) : ∃ ao cap, v = .slice ao n cap := by
  rcases h.2 with ⟨rfl, rfl⟩ | ⟨g, cap, cur, rfl, _⟩
  · exact ⟨_, _, rfl⟩
  · exact ⟨_, _, rfl⟩

theorem getText_at (s : ByteArray) (w : World) (t : List UInt8) (k er : Nat) (hs : s.size ≤ maxLen) (hr : getText s.data.toList = (t, k, er)) :
    Calls Tryz.prog 89 #[.string s] w fun e w' => e = .returned (.tuple #[.string ⟨t.toArray⟩, .int .i64 k, .int .i64 er]) ∧ w' = w := by
  have h := getText_any s w hs
  rw [hr] at h
  exact h

def GotList (w w' : World) (r : List (List UInt8) × Nat × Nat) (v : Value) : Prop :=
  ∃ ao cap, v = .tuple #[.slice ao r.1.length cap, .int .i64 r.2.1, .int .i64 r.2.2] ∧ w'.ownsRow w.heap.size 9 1 (.slice ao r.1.length cap) r.1.length (r.1.map strVal)

set_option maxRecDepth 100000 in
set_option maxHeartbeats 1000000 in
theorem getList_any (s : ByteArray) (most : Int) (w : World) (R : Nat) (hs : s.size ≤ maxLen) (hR : s.size ≤ R ∨ most ≤ R) (hroom : R * 16 ≤ 140737488355328) :
    Calls Tryz.prog 91 #[.string s, .int .i64 most] w fun e w' => ∃ v, e = .returned v ∧ GotList w w' (getList s.data.toList most) v ∧ Below w.heap.size w w' := by
  obtain ⟨i0, hi, hz0, hz1, hz2⟩ := info_parts infoString
  have hs0 : Hid (s.size ≤ maxLen) := hs
  unfold maxLen at hs
  rcases hr : getInt s.data.toList with ⟨n, k, er⟩
  have HR : Hid (getInt s.data.toList = (n, k, er)) := hr
  by_cases h1 : er = 0
  · subst h1
    have hb := getInt_bounds _ n k hr
    have hsz : s.data.toList.length = s.size := by simp
    rw [hsz] at hb
    have hb1 := hb.1
    have hb2 := hb.2.1
    have hb3 := hb.2.2
    by_cases h2 : most < (n : Int)
    · have H : Hid (getList s.data.toList most = ([], 0, 8)) := by
        show _ = _
        simp [getList, hr, h2]
      clear hr hb hsz
      go_enter Tryz.func91, Tryz.ntmps91
      go_wp2_with fail
      refine (getInt_at s _ n k _ hs0.out HR.out).mono ?_
      rintro e w' ⟨rfl, rfl⟩
      go_wp2
      go_ret3
      refine ⟨_, rfl, ?_, Below.refl _ _⟩
      rw [H.out]
      exact ⟨none, 0, rfl, World.ownsRow_nil _ _ _ _⟩
    · have H : Hid (getList s.data.toList most = glGo s.data.toList n k []) := by
        show _ = _
        simp [getList, hr, h2]
      clear hr hb hsz
      go_enter Tryz.func91, Tryz.ntmps91
      go_wp2_with fail
      refine (getInt_at s _ n k _ hs0.out HR.out).mono ?_
      rintro e w' ⟨rfl, rfl⟩
      go_wp2
      go_loopw [8, 10] (fun v8 v10 wr => ∃ (ts : List (List UInt8)) (p : Nat) (ao : Option Addr) (cap : Nat), v8 = .int .i64 p ∧ v10 = .slice ao ts.length cap ∧ wr.ownsRow w'.heap.size 9 1 (.slice ao ts.length cap) ts.length (ts.map strVal) ∧ Below w'.heap.size w' wr ∧ p ≤ s.size ∧ ts.length + 1 ≤ p ∧ ts.length ≤ n ∧ Hid (getList s.data.toList most = glGo s.data.toList (n - ts.length) p ts)) (fun _ v10 _ => n - slLen v10)
      case atStart => exact ⟨[], k, none, 0, rfl, rfl, World.ownsRow_nil _ _ _ _, Below.refl _ _, hb3, by simpa using hb2, Nat.zero_le _, H⟩
      case round =>
        clear H
        obtain ⟨ts, p, ao, cap, rfl, rfl, hown, hbel, hp, htp, htn, HG⟩ := hrel
        by_cases hlt : ts.length < n
        · rcases ht : getText (s.data.toList.drop p) with ⟨t, j, et⟩
          obtain ⟨m, hm⟩ : ∃ m, n - ts.length = m + 1 := ⟨n - ts.length - 1, by omega⟩
          have HT : Hid (getText (s.extract p s.size).data.toList = (t, j, et)) := by
            show _ = _
            rw [extract_drop]; exact ht
          have hsl : Hid ((s.extract p s.size).size ≤ maxLen) := by
            show _ ≤ _
            rw [ByteArray.size_extract]
            unfold maxLen
            omega
          by_cases h3 : et = 0
          · subst h3
            have hj := getText_bounds _ t j ht
            have hjl : (s.data.toList.drop p).length = s.size - p := by simp
            rw [hjl] at hj
            have HG' : Hid (getList s.data.toList most = glGo s.data.toList (n - (ts ++ [t]).length) (p + j) (ts ++ [t])) := by
              have h := HG.out
              rw [hm, glGo, ht] at h
              have e1 : n - (ts ++ [t]).length = m := by simp; omega
              rw [e1]
              show _ = _
              simpa using h
            have hj1 := hj.1
            have hj2 := hj.2.1
            have hRt : (ts.length + 1) * 16 ≤ 140737488355328 := by
              have : ts.length + 1 ≤ R := by rcases hR with h | h <;> omega
              omega
            have hszw := hbel.size
            clear hj hjl ht HG hm
            go_wp2_with fail
            refine (getText_at _ _ t j 0 hsl.out HT.out).mono ?_
            rintro e w1 ⟨rfl, rfl⟩
            go_wp2_with (at_builtin; refine wpList_append_own _ rfl _ _ 28 rfl w'.heap.size 9 i0 (.string ⟨#[]⟩) 1 16 Tryz.underlying28 hi hz0 hz1 hz2 rfl (by decide) _ _ _ rfl (hown.alloc _) ⟨w1.heap.size, 0, none⟩ 1 1 [strVal t] rfl rfl ?c1 ?c2 ?c3 ?c4 ?c5 ?_)
            case c1 =>
              intro i u hj
              match i, hj with
              | 0, hj => simp at hj; subst hj; simp [Addr.add, strVal]
            case c2 => intro u hu; simp at hu; subst hu; rfl
            case c3 => unfold maxLen; omega
            case c4 => exact hRt
            case c5 => simp; omega
            · intro v' w2 hown' hgrow _
              have hb2 : Below w'.heap.size w' w2 := (hbel.alloc hszw _).grown hgrow (by simp; omega) (fun q hq => (hown.lt q hq).1)
              obtain ⟨ao', cap', rfl⟩ := own_slice hown'
              have hlt1 : (ts ++ [t]).length = ts.length + 1 := by simp
              have hown2 : w2.ownsRow w'.heap.size 9 1 (.slice ao' (ts ++ [t]).length cap') (ts ++ [t]).length ((ts ++ [t]).map strVal) := by
                rw [hlt1]
                simpa using hown'
              clear hown' hgrow hown hbel
              go_wp2
              go_roundw
              case rel => exact ⟨ts ++ [t], p + j, ao', cap', by go_num, by rw [hlt1], hown2, hb2, by omega, by omega, by omega, HG'⟩
              case measure => simp [slLen]; omega
          · have hne : ((et : Int) != 0) = true := by rw [bne_iff_ne]; omega
            have HE : Hid (getList s.data.toList most = ([], 0, et)) := by
              have h := HG.out
              rw [hm, glGo, ht] at h
              show _ = _
              simpa [h3] using h
            clear HG ht hm hown
            go_wp2_with fail
            refine (getText_at _ _ t j et hsl.out HT.out).mono ?_
            rintro e w1 ⟨rfl, rfl⟩
            go_wp2
            go_ret3
            refine ⟨_, rfl, ?_, hbel⟩
            rw [HE.out]
            exact ⟨none, 0, rfl, World.ownsRow_nil _ _ _ _⟩
        · have HE : Hid (getList s.data.toList most = (ts, p, 0)) := by
            have h := HG.out
            have e1 : n - ts.length = 0 := by omega
            rw [e1, glGo] at h
            exact h
          clear HG
          go_wp2
          go_ret3
          refine ⟨_, rfl, ?_, hbel⟩
          rw [HE.out]
          exact ⟨ao, cap, rfl, hown⟩
  · have hne : ((er : Int) != 0) = true := by rw [bne_iff_ne]; omega
    have H : Hid (getList s.data.toList most = ([], 0, er)) := by
      show _ = _
      simp [getList, hr, h1]
    clear hr
    go_enter Tryz.func91, Tryz.ntmps91
    go_wp2_with fail
    refine (getInt_at s _ n k _ hs0.out HR.out).mono ?_
    rintro e w' ⟨rfl, rfl⟩
    go_wp2
    go_ret3
    refine ⟨_, rfl, ?_, Below.refl _ _⟩
    rw [H.out]
    exact ⟨none, 0, rfl, World.ownsRow_nil _ _ _ _⟩
end Go.Proofs.YtmngiekobmhpaaaGreat

/- The plain mathematics of layer wire, both ways: what is written is got again; what is got is written as it was; what is cut off is too short. -/
namespace Go.Proofs.YtmngiekobmhpaaaGreat

theorem toNat_more (m : Nat) : (UInt8.ofNat (128 + m % 128)).toNat = 128 + m % 128 := by
  simp
  omega

theorem toNat_last (m : Nat) (h : m < 128) : (UInt8.ofNat m).toNat = m := by
  simp
  omega

theorem giGo_enc : ∀ (m acc i : Nat) (r : List UInt8), acc + m * 128 ^ i ≤ 4611686018427387903 → (i = 0 ∨ m ≠ 0) → i + (enc m).length ≤ 9 →
    giGo (enc m ++ r) acc i = (acc + m * 128 ^ i, i + (enc m).length, 0) := by
  intro m
  induction m using Nat.strongRecOn with
  | _ m ih =>
    intro acc i r h1 h2 h3
    by_cases hm : m < 128
    · rw [enc_small m hm] at h3 ⊢
      rw [List.singleton_append, giGo, toNat_last m hm, if_neg (by omega)]
      have e : m % 128 = m := by omega
      rw [e, if_neg (by omega), if_neg (by omega)]
      simp
    · rw [enc_big m (by omega)] at h3 ⊢
      have hp := enc_length_pos (m / 128)
      rw [List.length_cons] at h3
      rw [List.cons_append, giGo, toNat_more, if_pos (by omega), if_neg (by omega)]
      have e : (128 + m % 128) % 128 = m % 128 := by omega
      have e2 : acc + m % 128 * 128 ^ i + m / 128 * 128 ^ (i + 1) = acc + m * 128 ^ i := by
        have e3 : m = m % 128 + 128 * (m / 128) := by omega
        rw [Nat.pow_succ]
        conv => rhs; rw [e3]
        rw [Nat.add_mul, ← Nat.mul_assoc, Nat.mul_comm (m / 128) (128 ^ i), Nat.mul_comm 128 (m / 128), Nat.mul_assoc (m / 128) 128, Nat.mul_comm 128 (128 ^ i), ← Nat.mul_assoc (m / 128), Nat.mul_comm (m / 128) (128 ^ i)]
        omega
      rw [e, ih (m / 128) (by omega) _ _ r (by rw [e2]; exact h1) (by omega) (by omega), e2, List.length_cons]
      congr 2
      omega

theorem getInt_enc (n : Nat) (r : List UInt8) (h : n ≤ 4611686018427387903) : getInt (enc n ++ r) = (n, (enc n).length, 0) := by
  have := giGo_enc n 0 0 r (by simpa using h) (Or.inl rfl) (by have := enc_length_nine n h; omega)
  rw [getInt, this]
  simp

theorem giGo_back : ∀ (l : List UInt8) (acc i N k : Nat), giGo l acc i = (N, k, 0) → ∃ m, N = acc + m * 128 ^ i ∧ k = i + (enc m).length ∧ l.take (enc m).length = enc m ∧ (i = 0 ∨ m ≠ 0)
  | [], _, _, _, _ => by intro h; simp [giGo] at h
  | c :: r, acc, i, N, k => by
    intro h
    have hc : c.toNat < 256 := UInt8.toNat_lt c
    rw [giGo] at h
    by_cases h1 : 128 ≤ c.toNat
    · rw [if_pos h1] at h
      by_cases h2 : i + 1 = 9
      · rw [if_pos h2] at h; simp at h
      · rw [if_neg h2] at h
        obtain ⟨m, e1, e2, e3, e4⟩ := giGo_back r _ _ _ _ h
        have hm : m ≠ 0 := by omega
        have hen : enc (c.toNat % 128 + 128 * m) = c :: enc m := by
          rw [enc_big _ (by omega)]
          have a1 : (c.toNat % 128 + 128 * m) / 128 = m := by omega
          have a2 : 128 + (c.toNat % 128 + 128 * m) % 128 = c.toNat := by omega
          rw [a1, a2]
          simp
        refine ⟨c.toNat % 128 + 128 * m, ?_, ?_, ?_, by omega⟩
        · rw [e1, Nat.pow_succ, Nat.add_mul, Nat.mul_comm (128 ^ i) 128, ← Nat.mul_assoc, Nat.mul_comm m 128]
          omega
        · rw [hen, List.length_cons]; omega
        · rw [hen, List.length_cons, List.take_succ_cons, e3]
    · rw [if_neg h1] at h
      by_cases h2 : 4611686018427387903 < acc + c.toNat % 128 * 128 ^ i
      · rw [if_pos h2] at h; simp at h
      · rw [if_neg h2] at h
        by_cases h3 : c.toNat = 0 ∧ 1 < i + 1
        · rw [if_pos h3] at h; simp at h
        · rw [if_neg h3] at h
          simp only [Prod.mk.injEq] at h
          have hen : enc c.toNat = [c] := by rw [enc_small _ (by omega)]; simp
          have e : c.toNat % 128 = c.toNat := by omega
          rw [e] at h
          refine ⟨c.toNat, h.1.symm, ?_, ?_, by omega⟩
          · rw [hen]; simp; omega
          · rw [hen]; simp

theorem getInt_back (l : List UInt8) (n k : Nat) (h : getInt l = (n, k, 0)) : l.take k = enc n ∧ k = (enc n).length := by
  obtain ⟨m, e1, e2, e3, _⟩ := giGo_back l 0 0 n k h
  simp at e1 e2
  subst e1
  subst e2
  exact ⟨e3, rfl⟩

theorem txt_enc (t : List UInt8) (h : t.length ≤ 4611686018427387903) : txt t = enc t.length ++ t := by
  rw [txt, goInt_nat _ h]

theorem getText_txt (t r : List UInt8) (h : t.length ≤ 65536) : getText (txt t ++ r) = (t, (txt t).length, 0) := by
  rw [txt_enc t (by omega), List.append_assoc]
  unfold getText
  rw [getInt_enc _ _ (by omega)]
  simp only [ne_eq, not_true_eq_false, if_false]
  rw [if_neg (by omega), if_neg (by simp)]
  simp

theorem getText_back (l t : List UInt8) (k : Nat) (h : getText l = (t, k, 0)) : txt t = l.take k := by
  have hb := getText_bounds l t k h
  unfold getText at h
  rcases hr : getInt l with ⟨n, j, e⟩
  rw [hr] at h
  simp only at h
  by_cases h1 : e ≠ 0
  · rw [if_pos h1] at h; simp at h; omega
  · have h1 : e = 0 := by omega
    subst h1
    obtain ⟨g1, g2⟩ := getInt_back l n j hr
    have hbb := getInt_bounds l n j hr
    rw [if_neg (by simp)] at h
    by_cases h2 : 65536 < n
    · rw [if_pos h2] at h; simp at h
    · rw [if_neg h2] at h
      by_cases h3 : l.length - j < n
      · rw [if_pos h3] at h; simp at h
      · rw [if_neg h3] at h
        simp only [Prod.mk.injEq] at h
        obtain ⟨rfl, rfl, _⟩ := h
        have hlen : (List.take n (List.drop j l)).length = n := by simp; omega
        rw [txt_enc _ (by omega), hlen, ← g1, List.take_add]

theorem glGo_flat : ∀ (ts : List (List UInt8)) (pre r : List UInt8) (acc : List (List UInt8)), (∀ t ∈ ts, t.length ≤ 65536) →
    glGo (pre ++ (ts.flatMap txt ++ r)) ts.length pre.length acc = (acc ++ ts, pre.length + (ts.flatMap txt).length, 0)
  | [], pre, r, acc, _ => by simp [glGo]
  | t :: ts, pre, r, acc, h => by
    have ht : t.length ≤ 65536 := h t (by simp)
    rw [List.length_cons, glGo, List.drop_left]
    have e1 : (t :: ts).flatMap txt ++ r = txt t ++ (ts.flatMap txt ++ r) := by simp
    rw [e1, getText_txt t _ ht]
    simp only [ne_eq, not_true_eq_false, if_false]
    have e2 : pre ++ (txt t ++ (ts.flatMap txt ++ r)) = (pre ++ txt t) ++ (ts.flatMap txt ++ r) := by simp
    have e3 : pre.length + (txt t).length = (pre ++ txt t).length := by simp
    rw [e2, e3, glGo_flat ts (pre ++ txt t) r (acc ++ [t]) (fun x hx => h x (by simp [hx]))]
    simp
    omega

theorem getList_lst (ts : List (List UInt8)) (r : List UInt8) (most : Int) (h : ∀ t ∈ ts, t.length ≤ 65536) (hn : ts.length ≤ 4611686018427387903) (hm : (ts.length : Int) ≤ most) :
    getList (lst ts ++ r) most = (ts, (lst ts).length, 0) := by
  have e : lst ts ++ r = enc ts.length ++ (ts.flatMap txt ++ r) := by rw [lst, goInt_nat _ hn]; simp
  unfold getList
  rw [e, getInt_enc _ _ hn]
  simp only [ne_eq, not_true_eq_false, if_false]
  rw [if_neg (by omega), glGo_flat ts (enc ts.length) r [] h, lst, goInt_nat _ hn]
  simp
end Go.Proofs.YtmngiekobmhpaaaGreat

/- Layer 4's mathematics: names, keys, when a transaction is right, what it needs. -/
namespace Go.Proofs.YtmngiekobmhpaaaGreat
open Go.RowKit
set_option linter.unusedVariables false

def nameByte (c : UInt8) : Bool := (decide (97 ≤ c.toNat) && decide (c.toNat ≤ 122)) || (decide (48 ≤ c.toNat) && decide (c.toNat ≤ 57))

/-- Is it a name? -/
def isNm (s : ByteArray) : Bool := decide (1 ≤ s.size) && decide (s.size ≤ 32) && s.data.toList.all nameByte

/-- Does it begin so? -/
def cutOk (s p : ByteArray) : Bool := decide (p.size ≤ s.size) && ((s.extract 0 p.size).toList == p.toList)

def aP : ByteArray := ⟨#[97, 58]⟩
def kP : ByteArray := ⟨#[107, 58]⟩

/-- Is it a key? -/
def isKy (s : ByteArray) : Bool := (cutOk s aP || cutOk s kP) && isNm (s.extract 2 s.size)

/-- What is wrong with a list of keys, behind one. -/
def keysGo : ByteArray → List ByteArray → Nat
  | _, [] => 0
  | a, k :: r => if isKy k = false then 3 else if (Op.bytesLess k.toList a.toList || k.toList == a.toList) = true then 9 else keysGo k r

def keysL (l : List ByteArray) : Nat := if 8 < l.length then 8 else keysGo ⟨#[]⟩ l

/-- A transaction. -/
structure TxD where
  kind : Int
  frm : ByteArray
  to : ByteArray
  amt : Nat
  non : Nat
  key : ByteArray
  val : ByteArray
  rs : List ByteArray
  ws : List ByteArray

def TxD.none : TxD := ⟨0, ⟨#[]⟩, ⟨#[]⟩, 0, 0, ⟨#[]⟩, ⟨#[]⟩, [], []⟩

def fieldsR (d : TxD) : Bool :=
  isNm d.frm && (if d.kind = 1 then isNm d.to && (d.key.toList == []) && (d.val.toList == []) else isNm d.key && decide (d.val.size ≤ 64) && (d.to.toList == []) && decide (d.amt = 0))

/-- What is wrong with a transaction. -/
def checkL (d : TxD) : Nat :=
  if d.kind ≠ 1 ∧ d.kind ≠ 2 then 5 else if fieldsR d = false then 3 else if 4611686018427387903 < d.amt ∨ 4611686018427387903 < d.non then 2 else if keysL d.rs ≠ 0 then keysL d.rs else keysL d.ws

/-- A right transaction's bytes. -/
def encL (d : TxD) : List UInt8 :=
  goInt d.kind ++ txt d.frm.data.toList ++ txt d.to.data.toList ++ goInt d.amt ++ goInt d.non ++ txt d.key.data.toList ++ txt d.val.data.toList ++ lst (bl d.rs) ++ lst (bl d.ws)

def encB (d : TxD) : ByteArray := if checkL d = 0 then ⟨(encL d).toArray⟩ else ⟨#[]⟩

/-- What a transaction needs. -/
def needsL (d : TxD) : List ByteArray :=
  if checkL d = 0 then
    (if d.kind = 2 then [aP ++ d.frm, kP ++ d.key]
     else if Op.bytesLess (aP ++ d.frm).toList (aP ++ d.to).toList = true then [aP ++ d.frm, aP ++ d.to]
     else if Op.bytesLess (aP ++ d.to).toList (aP ++ d.frm).toList = true then [aP ++ d.to, aP ++ d.frm]
     else [aP ++ d.frm])
  else []

def hasL (l : List ByteArray) (s : ByteArray) : Bool := l.any (fun x => s.toList == x.toList)

def fitsL (d : TxD) : Bool := !(needsL d).isEmpty && (needsL d).all (hasL d.ws)

/-- A transaction as a value. -/
def txV (d : TxD) (ra : Option Addr) (rc : Nat) (wa : Option Addr) (wc : Nat) : Value :=
  .agg #[.int .i64 d.kind, .string d.frm, .string d.to, .int .u64 (d.amt : Int), .int .u64 (d.non : Int), .string d.key, .string d.val, .slice ra d.rs.length rc, .slice wa d.ws.length wc]

/-- Its lists lie in memory. -/
structure TxAt (w : World) (d : TxD) (ra wa : Option Addr) : Prop where
  rd : StrsAt w ra d.rs
  wr : StrsAt w wa d.ws

theorem TxAt.below {w w' : World} {d : TxD} {ra wa : Option Addr} (h : TxAt w d ra wa) (hb : Below w.heap.size w w') : TxAt w' d ra wa := ⟨h.rd.below hb, h.wr.below hb⟩

theorem keysL_le (l : List ByteArray) (h : keysL l = 0) : l.length ≤ 8 := by
  unfold keysL at h
  split at h <;> omega
end Go.Proofs.YtmngiekobmhpaaaGreat

/- What the frames of the proofs share: a slice of strings that came in, opened; its length's reach. -/
namespace Go.Proofs.YtmngiekobmhpaaaGreat
open Go.ChangeShapes Go.WideShapes Go.ChangeAt Go.RowKit

theorem ownKnob_none : ownKnob Tryz.prog.godebug = none := by kernel_rfl
theorem laidOut_true : laidOutB Tryz.prog = true := by kernel_rfl
theorem cellsString : Tryz.prog.cellsOf 9 = 1 := by kernel_rfl
theorem bytesString : Tryz.prog.bytesOf 9 = 16 := by kernel_rfl

/-- How a slice of strings reads. -/
def StrsDatum {H : Type} (d : DataW H) (ss : List ByteArray) : Prop := (d = .nil ∧ ss = []) ∨ ∃ rest, d = .slice (strs ss) rest
end Go.Proofs.YtmngiekobmhpaaaGreat

/- How a transaction that came in is opened. -/
namespace Go.Proofs.YtmngiekobmhpaaaGreat
open Go.ChangeShapes Go.WideShapes Go.ChangeAt Go.RowKit Go.Joins Go.Deep
set_option linter.unusedVariables false

/-- How a transaction reads. -/
def TxDatum {H : Type} (d : DataW H) (D : TxD) : Prop :=
  ∃ y0 y1 y2 y3 y4 y5 y6 y7 y8, d = .agg [y0, y1, y2, y3, y4, y5, y6, y7, y8] ∧ StrsDatum y7 D.rs ∧ StrsDatum y8 D.ws

structure TxSizes (D : TxD) : Prop where
  frm : D.frm.size ≤ maxLen
  to : D.to.size ≤ maxLen
  key : D.key.size ≤ maxLen
  val : D.val.size ≤ maxLen
  rs : ∀ s ∈ D.rs, s.size ≤ maxLen
  ws : ∀ s ∈ D.ws, s.size ≤ maxLen
end Go.Proofs.YtmngiekobmhpaaaGreat
