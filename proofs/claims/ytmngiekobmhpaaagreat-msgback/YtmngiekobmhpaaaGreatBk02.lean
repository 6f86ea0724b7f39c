/- Texts as one: WireList, WireGetList, WireBackMath, TxMath, Frame, TxFrame. -/
import Derived.Test.YtmngiekobmhpaaaGreatBk01
import Derived.ProofKit
import Derived.OpenShut
import Derived.ShutString
import Derived.ChangeOld
import Derived.Below
import Derived.SizedLaws
import Derived.SliceStrings
import Derived.Lib.SmallJoins
/- What wire.List does: the texts' bytes behind their count; nothing old in memory is turned. -/
namespace Go.Proofs.YtmngiekobmhpaaaGreat
open Go.RowKit

theorem grown_of_below {w w' : World} (h : Below w.heap.size w w') : w.grownBy w' none := ⟨h.os, h.tape, h.output, h.size, fun k hk _ => h.block k hk⟩

theorem builder_keep {T e : TypeId} {B b : Nat} {bs : List Value} {w w' : World} (h : Lib.IsBuilder T e B b bs w) (hb : Below w.heap.size w w') : Lib.IsBuilder T e B b bs w' := by
  have one : ∀ p, Lib.BuilderAt T e B b p bs w → Lib.BuilderAt T e B b p bs w' := by
    rintro p ⟨hB, v, hbk, hown, hne⟩
    refine ⟨hB, v, ?_, hown.kept (grown_of_below hb) ?_, hne⟩
    · rw [hb.block b (Array.getElem?_eq_some_iff.1 hbk).1]; exact hbk
    · cases hv : v.ownBlock <;> simp
  rcases h with h | h
  · exact Or.inl (one _ h)
  · exact Or.inr (one _ h)

set_option maxRecDepth 100000 in
set_option maxHeartbeats 1000000 in
theorem list_any (ao : Option Addr) (cap : Nat) (ss : List ByteArray) (w : World) (hc : StrsAt w ao ss) (hlen : (lst (bl ss)).length ≤ 140737488355328) (hn : ss.length ≤ 4611686018427387903) :
    Calls Tryz.prog 104 #[.slice ao ss.length cap] w fun e w' => e = .returned (.string ⟨(lst (bl ss)).toArray⟩) ∧ Below w.heap.size w w' := by
  have h0 : Lib.IsBuilder 76 5 w.heap.size w.heap.size [] (w.alloc (.cells #[.pointer none, .slice none 0 0] 76)) := Lib.fresh_isBuilder 76 5 w
  have b0 : Below w.heap.size w (w.alloc (.cells #[.pointer none, .slice none 0 0] 76)) := (Below.refl _ w).alloc (Nat.le_refl _) _
  have hbl : (bl ss).length = ss.length := by simp [bl]
  have hg9 := goInt_length ss.length
  have hL : ∀ k, k ≤ ss.length → (goInt ss.length ++ ((bl ss).take k).flatMap txt).length ≤ 140737488355328 := by
    intro k _
    have h1 := take_flat_le (bl ss) k
    have h2 : (lst (bl ss)).length = (goInt ss.length).length + ((bl ss).flatMap txt).length := by rw [lst, List.length_append, hbl]
    rw [List.length_append]
    omega
  have HL : Hid (∀ k, k ≤ ss.length → (goInt ss.length ++ ((bl ss).take k).flatMap txt).length ≤ 140737488355328) := hL
  have Hbl : Hid ((bl ss).length = ss.length) := hbl
  clear hL hlen hbl
  go_enter Tryz.func104, Tryz.ntmps104
  go_wp2_with fail
  refine (int_any _ _).mono ?_
  rintro e w1 ⟨rfl, hb1⟩
  have h1 := builder_keep h0 hb1
  have b1 : Below w.heap.size w w1 := b0.trans (hb1.mono (by simp))
  go_wp2_with fail
  refine (write_any w.heap.size w.heap.size [] _ _ h1 ?_ b1.size).mono ?_
  · rw [size_mk]; simp; omega
  rintro e w2 ⟨rfl, h2, hb2⟩
  have h2' : Lib.IsBuilder 76 5 w.heap.size w.heap.size (Lib.byteCells (goInt ss.length ++ ((bl ss).take 0).flatMap txt)) w2 := by
    refine Or.inr ?_
    rw [List.nil_append, Lib.strCells_eq] at h2
    simpa using h2
  have b2 : Below w.heap.size w w2 := b1.trans hb2
  clear h0 b0 h1 hb1 b1 h2 hb2
  go_wp2
  go_loopw [12] (fun i wr => ∃ k : Nat, k ≤ ss.length ∧ i = .int .i64 k ∧ Lib.IsBuilder 76 5 w.heap.size w.heap.size (Lib.byteCells (goInt ss.length ++ ((bl ss).take k).flatMap txt)) wr ∧ Below w.heap.size w wr) (fun i _ => ss.length - (intOf i).toNat)
  case atStart => exact ⟨0, Nat.zero_le _, rfl, h2', b2⟩
  case round =>
    clear h2' b2
    obtain ⟨k, hk, rfl, hI, hb⟩ := hrel
    by_cases hlt : k < ss.length
    · obtain ⟨b, off, rfl, hbl, hcell⟩ := (hc.below hb) k hlt
      have hkb : k < (bl ss).length := by rw [Hbl.out]; exact hlt
      have hek : (bl ss)[k] = ss[k].data.toList := by simp [bl]
      have hlen1 := HL.out (k + 1) hlt
      rw [take_flat _ _ hkb, hek, ← List.append_assoc, List.length_append] at hlen1
      have htl : ss[k].size ≤ (txt ss[k].data.toList).length := by simp [txt]
      have HE : Hid (goInt ss.length ++ ((bl ss).take (k + 1)).flatMap txt = (goInt ss.length ++ ((bl ss).take k).flatMap txt) ++ txt ss[k].data.toList) := by
        show _ = _
        rw [take_flat _ _ hkb, hek, ← List.append_assoc]
      clear hek hkb
      go_wp2_with fail
      refine (text_any _ _ (by omega)).mono ?_
      rintro e w3 ⟨rfl, hb3⟩
      have hI3 := builder_keep hI hb3
      have b3 : Below w.heap.size w w3 := hb.trans (hb3.mono hb.size)
      go_wp2_with fail
      refine (write_any w.heap.size w.heap.size _ _ _ hI3 ?_ b3.size).mono ?_
      · rw [size_mk, Lib.byteCells_length]; exact hlen1
      rintro e w4 ⟨rfl, h4, hb4⟩
      have h4' : Lib.IsBuilder 76 5 w.heap.size w.heap.size (Lib.byteCells (goInt ss.length ++ ((bl ss).take (k + 1)).flatMap txt)) w4 := by
        rw [HE.out, Lib.byteCells_append]
        exact Or.inr h4
      have b4 := b3.trans hb4
      clear hI hI3 hb3 b3 h4 hb4 hb
      go_wp2
      go_roundw
      case rel => exact ⟨k + 1, by omega, by go_num, h4', b4⟩
      case measure => simp [intOf]; omega
    · go_wp2_with fail
      refine (string_any w.heap.size w.heap.size _ _ hI ?_).mono ?_
      · have := goInt_ne ss.length hn
        intro e
        simp at e
        exact this e.1
      rintro e w3 ⟨rfl, hb3⟩
      go_wp2
      go_ret
      refine ⟨ret_str ?_, hb.trans hb3⟩
      have e1 : k = (bl ss).length := by rw [Hbl.out]; omega
      rw [e1, List.take_length, lst, Hbl.out]
end Go.Proofs.YtmngiekobmhpaaaGreat

/- What wire.GetList does: the texts at the front of bytes, in new memory, in how many bytes, and the error; nothing old in memory is turned. -/
namespace Go.Proofs.YtmngiekobmhpaaaGreat
open Go.RowKit

/-- m texts more, from a place on, behind those that are got. -/
def glGo (l : List UInt8) : Nat → Nat → List (List UInt8) → List (List UInt8) × Nat × Nat
  | 0, at_, acc => (acc, at_, 0)
  | m + 1, at_, acc => if (getText (l.drop at_)).2.2 ≠ 0 then ([], 0, (getText (l.drop at_)).2.2) else glGo l m (at_ + (getText (l.drop at_)).2.1) (acc ++ [(getText (l.drop at_)).1])

def getList (l : List UInt8) (most : Int) : List (List UInt8) × Nat × Nat :=
  if (getInt l).2.2 ≠ 0 then ([], 0, (getInt l).2.2)
  else if most < (getInt l).1 then ([], 0, 8)
  else glGo l (getInt l).1 (getInt l).2.1 []

def strVal (t : List UInt8) : Value := .string ⟨t.toArray⟩

def slLen : Value → Nat | .slice _ n _ => n | _ => 0

theorem infoString : (Tryz.prog.info? 9).map (fun i => (i.zero, i.size, i.bytes)) = some (some (.string ⟨#[]⟩), 1, 16) := by kernel_rfl

theorem strVal_one (l : List (List UInt8)) : ∀ u ∈ l.map strVal, u.oneCell' = true := by
  intro u hu
  obtain ⟨b, _, rfl⟩ := List.mem_map.1 hu
  rfl

theorem extract_drop (s : ByteArray) (a : Nat) : (s.extract a s.size).data.toList = s.data.toList.drop a := by
  rw [extract_list]
  rw [List.take_of_length_le (by simp)]

theorem own_slice {w : World} {B : Nat} {e : TypeId} {v : Value} {n : Nat} {xs : List Value} (h : w.ownsRow B e 1 v n xs) : ∃ ao cap, v = .slice ao n cap := by
  rcases h.2 with ⟨rfl, rfl⟩ | ⟨g, cap, cur, rfl, _⟩
  · exact ⟨_, _, rfl⟩
  · exact ⟨_, _, rfl⟩

theorem getText_at (s : ByteArray) (w : World) (t : List UInt8) (k er : Nat) (hs : s.size ≤ maxLen) (hr : getText s.data.toList = (t, k, er)) :
    Calls Tryz.prog 89 #[.string s] w fun e w' => e = .returned (.tuple #[.string ⟨t.toArray⟩, .int .i64 k, .int .i64 er]) ∧ w' = w := by
  have h := getText_any s w hs
  rw [hr] at h
  exact h

def GotList (w w' : World) (r : List (List UInt8) × Nat × Nat) (v : Value) : Prop :=
  ∃ ao cap, v = .tuple #[.slice ao r.1.length cap, .int .i64 r.2.1, .int .i64 r.2.2] ∧ w'.ownsRow w.heap.size 9 1 (.slice ao r.1.length cap) r.1.length (r.1.map strVal)

set_option maxRecDepth 100000 in
set_option maxHeartbeats 1000000 in
theorem getList_any (s : ByteArray) (most : Int) (w : World) (R : Nat) (hs : s.size ≤ maxLen) (hR : s.size ≤ R ∨ most ≤ R) (hroom : R * 16 ≤ 140737488355328) :
    Calls Tryz.prog 91 #[.string s, .int .i64 most] w fun e w' => ∃ v, e = .returned v ∧ GotList w w' (getList s.data.toList most) v ∧ Below w.heap.size w w' := by
  obtain ⟨i0, hi, hz0, hz1, hz2⟩ := info_parts infoString
  have hs0 : Hid (s.size ≤ maxLen) := hs
  unfold maxLen at hs
  rcases hr : getInt s.data.toList with ⟨n, k, er⟩
  have HR : Hid (getInt s.data.toList = (n, k, er)) := hr
  by_cases h1 : er = 0
  · subst h1
    have hb := getInt_bounds _ n k hr
    have hsz : s.data.toList.length = s.size := by simp
    rw [hsz] at hb
    have hb1 := hb.1
    have hb2 := hb.2.1
    have hb3 := hb.2.2
    by_cases h2 : most < (n : Int)
    · have H : Hid (getList s.data.toList most = ([], 0, 8)) := by
        show _ = _
        simp [getList, hr, h2]
      clear hr hb hsz
      go_enter Tryz.func91, Tryz.ntmps91
      go_wp2_with fail
      refine (getInt_at s _ n k _ hs0.out HR.out).mono ?_
      rintro e w' ⟨rfl, rfl⟩
      go_wp2
      go_ret3
      refine ⟨_, rfl, ?_, Below.refl _ _⟩
      rw [H.out]
      exact ⟨none, 0, rfl, World.ownsRow_nil _ _ _ _⟩
    · have H : Hid (getList s.data.toList most = glGo s.data.toList n k []) := by
        show _ = _
        simp [getList, hr, h2]
      clear hr hb hsz
      go_enter Tryz.func91, Tryz.ntmps91
      go_wp2_with fail
      refine (getInt_at s _ n k _ hs0.out HR.out).mono ?_
      rintro e w' ⟨rfl, rfl⟩
      go_wp2
      go_loopw [8, 10] (fun v8 v10 wr => ∃ (ts : List (List UInt8)) (p : Nat) (ao : Option Addr) (cap : Nat), v8 = .int .i64 p ∧ v10 = .slice ao ts.length cap ∧ wr.ownsRow w'.heap.size 9 1 (.slice ao ts.length cap) ts.length (ts.map strVal) ∧ Below w'.heap.size w' wr ∧ p ≤ s.size ∧ ts.length + 1 ≤ p ∧ ts.length ≤ n ∧ Hid (getList s.data.toList most = glGo s.data.toList (n - ts.length) p ts)) (fun _ v10 _ => n - slLen v10)
      case atStart => exact ⟨[], k, none, 0, rfl, rfl, World.ownsRow_nil _ _ _ _, Below.refl _ _, hb3, by simpa using hb2, Nat.zero_le _, H⟩
      case round =>
        clear H
        obtain ⟨ts, p, ao, cap, rfl, rfl, hown, hbel, hp, htp, htn, HG⟩ := hrel
        by_cases hlt : ts.length < n
        · rcases ht : getText (s.data.toList.drop p) with ⟨t, j, et⟩
          obtain ⟨m, hm⟩ : ∃ m, n - ts.length = m + 1 := ⟨n - ts.length - 1, by omega⟩
          have HT : Hid (getText (s.extract p s.size).data.toList = (t, j, et)) := by
            show _ = _
            rw [extract_drop]; exact ht
          have hsl : Hid ((s.extract p s.size).size ≤ maxLen) := by
            show _ ≤ _
            rw [ByteArray.size_extract]
            unfold maxLen
            omega
          by_cases h3 : et = 0
          · subst h3
            have hj := getText_bounds _ t j ht
            have hjl : (s.data.toList.drop p).length = s.size - p := by simp
            rw [hjl] at hj
            have HG' : Hid (getList s.data.toList most = glGo s.data.toList (n - (ts ++ [t]).length) (p + j) (ts ++ [t])) := by
              have h := HG.out
              rw [hm, glGo, ht] at h
              have e1 : n - (ts ++ [t]).length = m := by simp; omega
              rw [e1]
              show _ = _
              simpa using h
            have hj1 := hj.1
            have hj2 := hj.2.1
            have hRt : (ts.length + 1) * 16 ≤ 140737488355328 := by
              have : ts.length + 1 ≤ R := by rcases hR with h | h <;> omega
              omega
            have hszw := hbel.size
            clear hj hjl ht HG hm
            go_wp2_with fail
            refine (getText_at _ _ t j 0 hsl.out HT.out).mono ?_
            rintro e w1 ⟨rfl, rfl⟩
            go_wp2_with (at_builtin; refine wpList_append_own _ rfl _ _ 28 rfl w'.heap.size 9 i0 (.string ⟨#[]⟩) 1 16 Tryz.underlying28 hi hz0 hz1 hz2 rfl (by decide) _ _ _ rfl (hown.alloc _) ⟨w1.heap.size, 0, none⟩ 1 1 [strVal t] rfl rfl ?c1 ?c2 ?c3 ?c4 ?c5 ?_)
            case c1 =>
              intro i u hj
              match i, hj with
              | 0, hj => simp at hj; subst hj; simp [Addr.add, strVal]
            case c2 => intro u hu; simp at hu; subst hu; rfl
            case c3 => unfold maxLen; omega
            case c4 => exact hRt
            case c5 => simp; omega
            · intro v' w2 hown' hgrow _
              have hb2 : Below w'.heap.size w' w2 := (hbel.alloc hszw _).grown hgrow (by simp; omega) (fun q hq => (hown.lt q hq).1)
              obtain ⟨ao', cap', rfl⟩ := own_slice hown'
              have hlt1 : (ts ++ [t]).length = ts.length + 1 := by simp
              have hown2 : w2.ownsRow w'.heap.size 9 1 (.slice ao' (ts ++ [t]).length cap') (ts ++ [t]).length ((ts ++ [t]).map strVal) := by
                rw [hlt1]
                simpa using hown'
              clear hown' hgrow hown hbel
              go_wp2
              go_roundw
              case rel => exact ⟨ts ++ [t], p + j, ao', cap', by go_num, by rw [hlt1], hown2, hb2, by omega, by omega, by omega, HG'⟩
              case measure => simp [slLen]; omega
          · have hne : ((et : Int) != 0) = true := by rw [bne_iff_ne]; omega
            have HE : Hid (getList s.data.toList most = ([], 0, et)) := by
              have h := HG.out
              rw [hm, glGo, ht] at h
              show _ = _
              simpa [h3] using h
            clear HG ht hm hown
            go_wp2_with fail
            refine (getText_at _ _ t j et hsl.out HT.out).mono ?_
            rintro e w1 ⟨rfl, rfl⟩
            go_wp2
            go_ret3
            refine ⟨_, rfl, ?_, hbel⟩
            rw [HE.out]
            exact ⟨none, 0, rfl, World.ownsRow_nil _ _ _ _⟩
        · have HE : Hid (getList s.data.toList most = (ts, p, 0)) := by
            have h := HG.out
            have e1 : n - ts.length = 0 := by omega
            rw [e1, glGo] at h
            exact h
          clear HG
          go_wp2
          go_ret3
          refine ⟨_, rfl, ?_, hbel⟩
          rw [HE.out]
          exact ⟨ao, cap, rfl, hown⟩
  · have hne : ((er : Int) != 0) = true := by rw [bne_iff_ne]; omega
    have H : Hid (getList s.data.toList most = ([], 0, er)) := by
      show _ = _
      simp [getList, hr, h1]
    clear hr
    go_enter Tryz.func91, Tryz.ntmps91
    go_wp2_with fail
    refine (getInt_at s _ n k _ hs0.out HR.out).mono ?_
    rintro e w' ⟨rfl, rfl⟩
    go_wp2
    go_ret3
    refine ⟨_, rfl, ?_, Below.refl _ _⟩
    rw [H.out]
    exact ⟨none, 0, rfl, World.ownsRow_nil _ _ _ _⟩
end Go.Proofs.YtmngiekobmhpaaaGreat

/- The plain mathematics of layer wire, both ways: what is written is got again; what is got is written as it was; what is cut off is too short. -/
namespace Go.Proofs.YtmngiekobmhpaaaGreat

theorem toNat_more (m : Nat) : (UInt8.ofNat (128 + m % 128)).toNat = 128 + m % 128 := by
  simp
  omega

theorem toNat_last (m : Nat) (h : m < 128) : (UInt8.ofNat m).toNat = m := by
  simp
  omega

theorem giGo_enc : ∀ (m acc i : Nat) (r : List UInt8), acc + m * 128 ^ i ≤ 4611686018427387903 → (i = 0 ∨ m ≠ 0) → i + (enc m).length ≤ 9 →
    giGo (enc m ++ r) acc i = (acc + m * 128 ^ i, i + (enc m).length, 0) := by
  intro m
  induction m using Nat.strongRecOn with
  | _ m ih =>
    intro acc i r h1 h2 h3
    by_cases hm : m < 128
    · rw [enc_small m hm] at h3 ⊢
      rw [List.singleton_append, giGo, toNat_last m hm, if_neg (by omega)]
      have e : m % 128 = m := by omega
      rw [e, if_neg (by omega), if_neg (by omega)]
      simp
    · rw [enc_big m (by omega)] at h3 ⊢
      have hp := enc_length_pos (m / 128)
      rw [List.length_cons] at h3
      rw [List.cons_append, giGo, toNat_more, if_pos (by omega), if_neg (by omega)]
      have e : (128 + m % 128) % 128 = m % 128 := by omega
      have e2 : acc + m % 128 * 128 ^ i + m / 128 * 128 ^ (i + 1) = acc + m * 128 ^ i := by
        have e3 : m = m % 128 + 128 * (m / 128) := by omega
        rw [Nat.pow_succ]
        conv => rhs; rw [e3]
        rw [Nat.add_mul, ← Nat.mul_assoc, Nat.mul_comm (m / 128) (128 ^ i), Nat.mul_comm 128 (m / 128), Nat.mul_assoc (m / 128) 128, Nat.mul_comm 128 (128 ^ i), ← Nat.mul_assoc (m / 128), Nat.mul_comm (m / 128) (128 ^ i)]
        omega
      rw [e, ih (m / 128) (by omega) _ _ r (by rw [e2]; exact h1) (by omega) (by omega), e2, List.length_cons]
      congr 2
      omega

theorem getInt_enc (n : Nat) (r : List UInt8) (h : n ≤ 4611686018427387903) : getInt (enc n ++ r) = (n, (enc n).length, 0) := by
  have := giGo_enc n 0 0 r (by simpa using h) (Or.inl rfl) (by have := enc_length_nine n h; omega)
  rw [getInt, this]
  simp

theorem giGo_back : ∀ (l : List UInt8) (acc i N k : Nat), giGo l acc i = (N, k, 0) → ∃ m, N = acc + m * 128 ^ i ∧ k = i + (enc m).length ∧ l.take (enc m).length = enc m ∧ (i = 0 ∨ m ≠ 0)
  | [], _, _, _, _ => by intro h; simp [giGo] at h
  | c :: r, acc, i, N, k => by
    intro h
    have hc : c.toNat < 256 := UInt8.toNat_lt c
    rw [giGo] at h
    by_cases h1 : 128 ≤ c.toNat
    · rw [if_pos h1] at h
      by_cases h2 : i + 1 = 9
      · rw [if_pos h2] at h; simp at h
      · rw [if_neg h2] at h
        obtain ⟨m, e1, e2, e3, e4⟩ := giGo_back r _ _ _ _ h
        have hm : m ≠ 0 := by omega
        have hen : enc (c.toNat % 128 + 128 * m) = c :: enc m := by
          rw [enc_big _ (by omega)]
          have a1 : (c.toNat % 128 + 128 * m) / 128 = m := by omega
          have a2 : 128 + (c.toNat % 128 + 128 * m) % 128 = c.toNat := by omega
          rw [a1, a2]
          simp
        refine ⟨c.toNat % 128 + 128 * m, ?_, ?_, ?_, by omega⟩
        · rw [e1, Nat.pow_succ, Nat.add_mul, Nat.mul_comm (128 ^ i) 128, ← Nat.mul_assoc, Nat.mul_comm m 128]
          omega
        · rw [hen, List.length_cons]; omega
        · rw [hen, List.length_cons, List.take_succ_cons, e3]
    · rw [if_neg h1] at h
      by_cases h2 : 4611686018427387903 < acc + c.toNat % 128 * 128 ^ i
      · rw [if_pos h2] at h; simp at h
      · rw [if_neg h2] at h
        by_cases h3 : c.toNat = 0 ∧ 1 < i + 1
        · rw [if_pos h3] at h; simp at h
        · rw [if_neg h3] at h
          simp only [Prod.mk.injEq] at h
          have hen : enc c.toNat = [c] := by rw [enc_small _ (by omega)]; simp
          have e : c.toNat % 128 = c.toNat := by omega
          rw [e] at h
          refine ⟨c.toNat, h.1.symm, ?_, ?_, by omega⟩
          · rw [hen]; simp; omega
          · rw [hen]; simp

theorem getInt_back (l : List UInt8) (n k : Nat) (h : getInt l = (n, k, 0)) : l.take k = enc n ∧ k = (enc n).length := by
  obtain ⟨m, e1, e2, e3, _⟩ := giGo_back l 0 0 n k h
  simp at e1 e2
  subst e1
  subst e2
  exact ⟨e3, rfl⟩

theorem giGo_cut : ∀ (m acc i j : Nat), i + (enc m).length ≤ 9 → j < (enc m).length → giGo ((enc m).take j) acc i = (0, 0, 1) := by
  intro m
  induction m using Nat.strongRecOn with
  | _ m ih =>
    intro acc i j h1 h2
    by_cases hm : m < 128
    · rw [enc_small m hm] at h2 ⊢
      have : j = 0 := by simp at h2; omega
      subst this
      simp [giGo]
    · rw [enc_big m (by omega)] at h1 h2 ⊢
      have hp := enc_length_pos (m / 128)
      rw [List.length_cons] at h1 h2
      cases j with
      | zero => simp [giGo]
      | succ j =>
        rw [List.take_succ_cons, giGo, toNat_more, if_pos (by omega), if_neg (by omega)]
        exact ih (m / 128) (by omega) _ _ j (by omega) (by omega)

theorem getInt_cut (n j : Nat) (h : n ≤ 4611686018427387903) (hj : j < (enc n).length) : getInt ((enc n).take j) = (0, 0, 1) :=
  giGo_cut n 0 0 j (by have := enc_length_nine n h; omega) hj

theorem txt_enc (t : List UInt8) (h : t.length ≤ 4611686018427387903) : txt t = enc t.length ++ t := by
  rw [txt, goInt_nat _ h]

theorem getText_txt (t r : List UInt8) (h : t.length ≤ 65536) : getText (txt t ++ r) = (t, (txt t).length, 0) := by
  rw [txt_enc t (by omega), List.append_assoc]
  unfold getText
  rw [getInt_enc _ _ (by omega)]
  simp only [ne_eq, not_true_eq_false, if_false]
  rw [if_neg (by omega), if_neg (by simp)]
  simp

theorem getText_long (t r : List UInt8) (h : 65536 < t.length) (h2 : t.length ≤ 4611686018427387903) : getText (txt t ++ r) = ([], 0, 8) := by
  rw [txt_enc t h2, List.append_assoc]
  unfold getText
  rw [getInt_enc _ _ h2]
  simp [h]

theorem getText_back (l t : List UInt8) (k : Nat) (h : getText l = (t, k, 0)) : txt t = l.take k := by
  have hb := getText_bounds l t k h
  unfold getText at h
  rcases hr : getInt l with ⟨n, j, e⟩
  rw [hr] at h
  simp only at h
  by_cases h1 : e ≠ 0
  · rw [if_pos h1] at h; simp at h; omega
  · have h1 : e = 0 := by omega
    subst h1
    obtain ⟨g1, g2⟩ := getInt_back l n j hr
    have hbb := getInt_bounds l n j hr
    rw [if_neg (by simp)] at h
    by_cases h2 : 65536 < n
    · rw [if_pos h2] at h; simp at h
    · rw [if_neg h2] at h
      by_cases h3 : l.length - j < n
      · rw [if_pos h3] at h; simp at h
      · rw [if_neg h3] at h
        simp only [Prod.mk.injEq] at h
        obtain ⟨rfl, rfl, _⟩ := h
        have hlen : (List.take n (List.drop j l)).length = n := by simp; omega
        rw [txt_enc _ (by omega), hlen, ← g1, List.take_add]

theorem getText_cut (t : List UInt8) (j : Nat) (h : t.length ≤ 65536) (hj : j < (txt t).length) : getText ((txt t).take j) = ([], 0, 1) := by
  rw [txt_enc t (by omega)] at hj ⊢
  by_cases h1 : j < (enc t.length).length
  · rw [List.take_append_of_le_length (by omega)]
    unfold getText
    rw [getInt_cut _ _ (by omega) h1]
    simp
  · have e : (enc t.length ++ t).take j = enc t.length ++ t.take (j - (enc t.length).length) := by
      rw [List.take_append]
      rw [List.take_of_length_le (by omega)]
    rw [e]
    unfold getText
    rw [getInt_enc _ _ (by omega)]
    rw [List.length_append] at hj
    simp only [ne_eq, not_true_eq_false, if_false]
    rw [if_neg (by omega), if_pos (by rw [List.length_append, List.length_take]; omega)]

theorem glGo_flat : ∀ (ts : List (List UInt8)) (pre r : List UInt8) (acc : List (List UInt8)), (∀ t ∈ ts, t.length ≤ 65536) →
    glGo (pre ++ (ts.flatMap txt ++ r)) ts.length pre.length acc = (acc ++ ts, pre.length + (ts.flatMap txt).length, 0)
  | [], pre, r, acc, _ => by simp [glGo]
  | t :: ts, pre, r, acc, h => by
    have ht : t.length ≤ 65536 := h t (by simp)
    rw [List.length_cons, glGo, List.drop_left]
    have e1 : (t :: ts).flatMap txt ++ r = txt t ++ (ts.flatMap txt ++ r) := by simp
    rw [e1, getText_txt t _ ht]
    simp only [ne_eq, not_true_eq_false, if_false]
    have e2 : pre ++ (txt t ++ (ts.flatMap txt ++ r)) = (pre ++ txt t) ++ (ts.flatMap txt ++ r) := by simp
    have e3 : pre.length + (txt t).length = (pre ++ txt t).length := by simp
    rw [e2, e3, glGo_flat ts (pre ++ txt t) r (acc ++ [t]) (fun x hx => h x (by simp [hx]))]
    simp
    omega

theorem getList_lst (ts : List (List UInt8)) (r : List UInt8) (most : Int) (h : ∀ t ∈ ts, t.length ≤ 65536) (hn : ts.length ≤ 4611686018427387903) (hm : (ts.length : Int) ≤ most) :
    getList (lst ts ++ r) most = (ts, (lst ts).length, 0) := by
  have e : lst ts ++ r = enc ts.length ++ (ts.flatMap txt ++ r) := by rw [lst, goInt_nat _ hn]; simp
  unfold getList
  rw [e, getInt_enc _ _ hn]
  simp only [ne_eq, not_true_eq_false, if_false]
  rw [if_neg (by omega), glGo_flat ts (enc ts.length) r [] h, lst, goInt_nat _ hn]
  simp

theorem getList_few (ts : List (List UInt8)) (r : List UInt8) (most : Int) (hn : ts.length ≤ 4611686018427387903) (hm : most < (ts.length : Int)) :
    getList (lst ts ++ r) most = ([], 0, 8) := by
  have e : lst ts ++ r = enc ts.length ++ (ts.flatMap txt ++ r) := by rw [lst, goInt_nat _ hn]; simp
  unfold getList
  rw [e, getInt_enc _ _ hn]
  simp only [ne_eq, not_true_eq_false, if_false]
  rw [if_pos hm]

theorem glGo_cut : ∀ (ts : List (List UInt8)) (pre : List UInt8) (acc : List (List UInt8)) (j : Nat), (∀ t ∈ ts, t.length ≤ 65536) → j < (ts.flatMap txt).length →
    glGo (pre ++ (ts.flatMap txt).take j) ts.length pre.length acc = ([], 0, 1)
  | [], pre, acc, j, _, hj => by simp at hj
  | t :: ts, pre, acc, j, h, hj => by
    have ht : t.length ≤ 65536 := h t (by simp)
    have e1 : (t :: ts).flatMap txt = txt t ++ ts.flatMap txt := by simp
    rw [e1] at hj ⊢
    rw [List.length_cons, glGo, List.drop_left]
    by_cases h1 : j < (txt t).length
    · rw [List.take_append_of_le_length (by omega), getText_cut t j ht h1]
      simp
    · have e2 : (txt t ++ ts.flatMap txt).take j = txt t ++ (ts.flatMap txt).take (j - (txt t).length) := by
        rw [List.take_append]
        rw [List.take_of_length_le (by omega)]
      rw [e2, getText_txt t _ ht]
      simp only [ne_eq, not_true_eq_false, if_false]
      have e4 : pre ++ (txt t ++ (ts.flatMap txt).take (j - (txt t).length)) = (pre ++ txt t) ++ (ts.flatMap txt).take (j - (txt t).length) := by simp
      have e3 : pre.length + (txt t).length = (pre ++ txt t).length := by simp
      rw [e4, e3]
      exact glGo_cut ts (pre ++ txt t) (acc ++ [t]) _ (fun x hx => h x (by simp [hx])) (by rw [List.length_append] at hj; omega)

theorem getList_cut (ts : List (List UInt8)) (most : Int) (j : Nat) (h : ∀ t ∈ ts, t.length ≤ 65536) (hn : ts.length ≤ 4611686018427387903) (hm : (ts.length : Int) ≤ most) (hj : j < (lst ts).length) :
    getList ((lst ts).take j) most = ([], 0, 1) := by
  have e : lst ts = enc ts.length ++ ts.flatMap txt := by rw [lst, goInt_nat _ hn]
  rw [e] at hj ⊢
  unfold getList
  by_cases h1 : j < (enc ts.length).length
  · rw [List.take_append_of_le_length (by omega), getInt_cut _ _ hn h1]
    simp
  · have e2 : (enc ts.length ++ ts.flatMap txt).take j = enc ts.length ++ (ts.flatMap txt).take (j - (enc ts.length).length) := by
      rw [List.take_append]
      rw [List.take_of_length_le (by omega)]
    rw [e2, getInt_enc _ _ hn]
    simp only [ne_eq, not_true_eq_false, if_false]
    rw [if_neg (by omega)]
    exact glGo_cut ts _ [] _ h (by rw [List.length_append] at hj; omega)

end Go.Proofs.YtmngiekobmhpaaaGreat

/- Layer 4's mathematics: names, keys, when a transaction is right, what it needs. -/
namespace Go.Proofs.YtmngiekobmhpaaaGreat
open Go.RowKit
set_option linter.unusedVariables false

def nameByte (c : UInt8) : Bool := (decide (97 ≤ c.toNat) && decide (c.toNat ≤ 122)) || (decide (48 ≤ c.toNat) && decide (c.toNat ≤ 57))

/-- Is it a name? -/
def isNm (s : ByteArray) : Bool := decide (1 ≤ s.size) && decide (s.size ≤ 32) && s.data.toList.all nameByte

/-- Does it begin so? -/
def cutOk (s p : ByteArray) : Bool := decide (p.size ≤ s.size) && ((s.extract 0 p.size).toList == p.toList)

def aP : ByteArray := ⟨#[97, 58]⟩
def kP : ByteArray := ⟨#[107, 58]⟩

/-- Is it a key? -/
def isKy (s : ByteArray) : Bool := (cutOk s aP || cutOk s kP) && isNm (s.extract 2 s.size)

/-- What is wrong with a list of keys, behind one. -/
def keysGo : ByteArray → List ByteArray → Nat
  | _, [] => 0
  | a, k :: r => if isKy k = false then 3 else if (Op.bytesLess k.toList a.toList || k.toList == a.toList) = true then 9 else keysGo k r

def keysL (l : List ByteArray) : Nat := if 8 < l.length then 8 else keysGo ⟨#[]⟩ l

/-- A transaction. -/
structure TxD where
  kind : Int
  frm : ByteArray
  to : ByteArray
  amt : Nat
  non : Nat
  key : ByteArray
  val : ByteArray
  rs : List ByteArray
  ws : List ByteArray

def TxD.none : TxD := ⟨0, ⟨#[]⟩, ⟨#[]⟩, 0, 0, ⟨#[]⟩, ⟨#[]⟩, [], []⟩

def fieldsR (d : TxD) : Bool :=
  isNm d.frm && (if d.kind = 1 then isNm d.to && (d.key.toList == []) && (d.val.toList == []) else isNm d.key && decide (d.val.size ≤ 64) && (d.to.toList == []) && decide (d.amt = 0))

/-- What is wrong with a transaction. -/
def checkL (d : TxD) : Nat :=
  if d.kind ≠ 1 ∧ d.kind ≠ 2 then 5 else if fieldsR d = false then 3 else if 4611686018427387903 < d.amt ∨ 4611686018427387903 < d.non then 2 else if keysL d.rs ≠ 0 then keysL d.rs else keysL d.ws

/-- A right transaction's bytes. -/
def encL (d : TxD) : List UInt8 :=
  goInt d.kind ++ txt d.frm.data.toList ++ txt d.to.data.toList ++ goInt d.amt ++ goInt d.non ++ txt d.key.data.toList ++ txt d.val.data.toList ++ lst (bl d.rs) ++ lst (bl d.ws)

def encB (d : TxD) : ByteArray := if checkL d = 0 then ⟨(encL d).toArray⟩ else ⟨#[]⟩

/-- What a transaction needs. -/
def needsL (d : TxD) : List ByteArray :=
  if checkL d = 0 then
    (if d.kind = 2 then [aP ++ d.frm, kP ++ d.key]
     else if Op.bytesLess (aP ++ d.frm).toList (aP ++ d.to).toList = true then [aP ++ d.frm, aP ++ d.to]
     else if Op.bytesLess (aP ++ d.to).toList (aP ++ d.frm).toList = true then [aP ++ d.to, aP ++ d.frm]
     else [aP ++ d.frm])
  else []

def hasL (l : List ByteArray) (s : ByteArray) : Bool := l.any (fun x => s.toList == x.toList)

def fitsL (d : TxD) : Bool := !(needsL d).isEmpty && (needsL d).all (hasL d.ws)

/-- A transaction as a value. -/
def txV (d : TxD) (ra : Option Addr) (rc : Nat) (wa : Option Addr) (wc : Nat) : Value :=
  .agg #[.int .i64 d.kind, .string d.frm, .string d.to, .int .u64 (d.amt : Int), .int .u64 (d.non : Int), .string d.key, .string d.val, .slice ra d.rs.length rc, .slice wa d.ws.length wc]

/-- Its lists lie in memory. -/
structure TxAt (w : World) (d : TxD) (ra wa : Option Addr) : Prop where
  rd : StrsAt w ra d.rs
  wr : StrsAt w wa d.ws

theorem TxAt.below {w w' : World} {d : TxD} {ra wa : Option Addr} (h : TxAt w d ra wa) (hb : Below w.heap.size w w') : TxAt w' d ra wa := ⟨h.rd.below hb, h.wr.below hb⟩

theorem StrsAt.below' {B : Nat} {w w' : World} {ao : Option Addr} {ss : List ByteArray} (h : StrsAt w ao ss) (hb : Below B w w') (hB : w.heap.size ≤ B) : StrsAt w' ao ss := h.below (hb.mono hB)

theorem keysL_le (l : List ByteArray) (h : keysL l = 0) : l.length ≤ 8 := by
  unfold keysL at h
  split at h <;> omega

theorem keysGo_err : ∀ (l : List ByteArray) (a : ByteArray), keysGo a l ≤ 9
  | [], _ => by simp [keysGo]
  | k :: r, a => by
    rw [keysGo]
    split
    · omega
    · split
      · omega
      · exact keysGo_err r k

end Go.Proofs.YtmngiekobmhpaaaGreat

/- What the frames of the proofs share: a slice of strings that came in, opened; its length's reach. -/
namespace Go.Proofs.YtmngiekobmhpaaaGreat
open Go.ChangeShapes Go.WideShapes Go.ChangeAt Go.RowKit

theorem ownKnob_none : ownKnob Tryz.prog.godebug = none := by kernel_rfl
theorem laidOut_true : laidOutB Tryz.prog = true := by kernel_rfl
theorem cellsString : Tryz.prog.cellsOf 9 = 1 := by kernel_rfl
theorem bytesString : Tryz.prog.bytesOf 9 = 16 := by kernel_rfl

/-- How a slice of strings reads. -/
def StrsDatum {H : Type} (d : DataW H) (ss : List ByteArray) : Prop := (d = .nil ∧ ss = []) ∨ ∃ rest, d = .slice (strs ss) rest

theorem strs_open {H : Type} {enc : TypeId × Value → H} {W : World} {a : Option Addr} {len cap : Nat} {d : DataW H} {p : List MemPlace}
    (h : DataW.Trod enc Tryz.prog W 0 (fun _ => true) true 28 (.slice a len cap) d p) :
    ∃ ss : List ByteArray, ss.length = len ∧ StrsAt W a ss ∧ (∀ s ∈ ss, s.size ≤ maxLen) ∧ StrsDatum d ss := by
  obtain ⟨fuel, hf⟩ := h
  rcases open_strings Tryz.underlying28 Tryz.underlying9 cellsString hf with ⟨hcs, hx⟩ | ⟨x, l, c, ss, hcs, _, hl, hm, hz, hx, hcell, hws⟩
  · simp [Value.cells] at hcs
    obtain ⟨rfl, rfl, rfl⟩ := hcs
    exact ⟨[], rfl, fun j hj => absurd hj (by simp), fun s hs => absurd hs (by simp), Or.inl ⟨(Prod.mk.inj hx).1, rfl⟩⟩
  · simp [Value.cells] at hcs
    obtain ⟨rfl, rfl, rfl⟩ := hcs
    have hz' : ss.length = cap := by simpa using hz
    refine ⟨ss.take len, by simp; omega, ?_, fun s hs => hws s (List.mem_of_mem_take hs), Or.inr ⟨_, (Prod.mk.inj hx).1⟩⟩
    intro j hj
    have hj1 : j < ss.length := by simp at hj; omega
    obtain ⟨b, off, spot⟩ := x
    have hc0 := hcell 0 (by omega)
    have hspot : spot = none := by simpa [Addr.add] using World.cell?_spot hc0
    subst hspot
    have hcj := hcell j hj1
    rw [Go.WideShapes.add_plain] at hcj
    refine ⟨b, off, rfl, World.block_lt_of_cell? W _ hcj, ?_⟩
    rw [hcj]
    simp [List.getD, List.getElem?_eq_getElem hj1]

theorem strs_cap {H : Type} {enc : TypeId × Value → H} {W : World} {a : Option Addr} {len cap : Nat} {d : DataW H} {p : List MemPlace}
    (h : DataW.Trod enc Tryz.prog W 0 (fun _ => true) true 28 (.slice a len cap) d p) : a = none → cap = 0 := by
  intro ha
  obtain ⟨fuel, hf⟩ := h
  rcases open_strings Tryz.underlying28 Tryz.underlying9 cellsString hf with ⟨hcs, _⟩ | ⟨x, l, c, ss, hcs, _⟩
  · simp [Value.cells] at hcs
    exact hcs.2.2
  · simp [Value.cells] at hcs
    rw [hcs.1] at ha
    cases ha

theorem strs_sized {H : Type} {ts : List TypeId} {ds : List (DataW H)} (h : (DataW.weightsEach Tryz.prog ts ds).all (· ≤ reachBytes) = true) {j : Nat} {d : DataW H} {ss : List ByteArray} (ht : ts[j]? = some 28) (hd : ds[j]? = some d) (hs : StrsDatum d ss) :
    ss.length * 16 ≤ 140737488351232 := by
  rcases hs with ⟨rfl, rfl⟩ | ⟨rest, rfl⟩
  · simp
  · have := sized_slice h ht hd Tryz.underlying28
    rw [bytesString] at this
    simp [strs, reachBytes] at this
    omega
end Go.Proofs.YtmngiekobmhpaaaGreat

/- How a transaction that came in is opened. -/
namespace Go.Proofs.YtmngiekobmhpaaaGreat
open Go.ChangeShapes Go.WideShapes Go.ChangeAt Go.RowKit Go.Joins Go.Deep
set_option linter.unusedVariables false

theorem cellsTx : Tryz.prog.cellsOf 123 = 9 := by kernel_rfl

theorem array9 {α : Type} {cs : Array α} (h : cs.size = 9) : ∃ c0 c1 c2 c3 c4 c5 c6 c7 c8, cs = #[c0, c1, c2, c3, c4, c5, c6, c7, c8] := by
  obtain ⟨l⟩ := cs
  match l, h with
  | [c0, c1, c2, c3, c4, c5, c6, c7, c8], _ => exact ⟨c0, c1, c2, c3, c4, c5, c6, c7, c8, rfl⟩

theorem list9 {α : Type} {l : List α} (h : l.length = 9) : ∃ c0 c1 c2 c3 c4 c5 c6 c7 c8, l = [c0, c1, c2, c3, c4, c5, c6, c7, c8] := by
  match l, h with
  | [c0, c1, c2, c3, c4, c5, c6, c7, c8], _ => exact ⟨c0, c1, c2, c3, c4, c5, c6, c7, c8, rfl⟩

/-- How a transaction reads. -/
def TxDatum {H : Type} (d : DataW H) (D : TxD) : Prop :=
  ∃ y0 y1 y2 y3 y4 y5 y6 y7 y8, d = .agg [y0, y1, y2, y3, y4, y5, y6, y7, y8] ∧ StrsDatum y7 D.rs ∧ StrsDatum y8 D.ws

structure TxSizes (D : TxD) : Prop where
  frm : D.frm.size ≤ maxLen
  to : D.to.size ≤ maxLen
  key : D.key.size ≤ maxLen
  val : D.val.size ≤ maxLen
  rs : ∀ s ∈ D.rs, s.size ≤ maxLen
  ws : ∀ s ∈ D.ws, s.size ≤ maxLen

theorem wf_u64 {n : Int} (h : (Lit.int .u64 n).wf = true) : 0 ≤ n ∧ n < 18446744073709551616 := by
  simp [Lit.wf, IntKind.min, IntKind.max, IntKind.bits, IntKind.signed] at h
  omega

set_option maxRecDepth 100000 in
theorem open_tx {H : Type} {enc : TypeId × Value → H} {W : World} {r : Reach} {b0 : Nat} {v : Value} {d : DataW H} {p : List MemPlace} (hv : Value.okWide Tryz.prog W r b0 123 v)
    (h : DataW.Trod enc Tryz.prog W 0 (fun _ => true) true 123 v d p) :
    ∃ (D : TxD) (ra : Option Addr) (rc : Nat) (wa : Option Addr) (wc : Nat), v = txV D ra rc wa wc ∧ TxAt W D ra wa ∧ (ra = none → rc = 0) ∧ (wa = none → wc = 0) ∧ TxSizes D ∧ TxDatum d D := by
  obtain ⟨cs, rfl, hsz⟩ := okWide_struct Tryz.underlying123 hv
  obtain ⟨c0, c1, c2, c3, c4, c5, c6, c7, c8, rfl⟩ := array9 (hsz.trans cellsTx)
  obtain ⟨fuel, hf⟩ := h
  obtain ⟨xs, n, _, hx, _, hl, hg⟩ := DataW.trod_struct Tryz.underlying123 hf
  obtain ⟨y0, y1, y2, y3, y4, y5, y6, y7, y8, rfl⟩ := list9 hl
  have g0 := hg 0 _ rfl
  have g1 := hg 1 _ rfl
  have g2 := hg 2 _ rfl
  have g3 := hg 3 _ rfl
  have g4 := hg 4 _ rfl
  have g5 := hg 5 _ rfl
  have g6 := hg 6 _ rfl
  have g7 := hg 7 _ rfl
  have g8 := hg 8 _ rfl
  have kI : Tryz.prog.cellsOf 3 = 1 := by kernel_rfl
  have kU : Tryz.prog.cellsOf 50 = 1 := by kernel_rfl
  have kS : Tryz.prog.cellsOf 28 = 1 := by kernel_rfl
  simp [Value.cells, cellsString, kI, kU, kS] at g0 g1 g2 g3 g4 g5 g6 g7 g8
  obtain ⟨a0, e0, _, _⟩ := DataW.trod_int Tryz.underlying3 g0
  obtain ⟨a1, e1, _, s1⟩ := DataW.trod_string Tryz.underlying9 g1
  obtain ⟨a2, e2, _, s2⟩ := DataW.trod_string Tryz.underlying9 g2
  obtain ⟨a3, e3, _, u3⟩ := DataW.trod_int Tryz.underlying50 g3
  obtain ⟨a4, e4, _, u4⟩ := DataW.trod_int Tryz.underlying50 g4
  obtain ⟨a5, e5, _, s5⟩ := DataW.trod_string Tryz.underlying9 g5
  obtain ⟨a6, e6, _, s6⟩ := DataW.trod_string Tryz.underlying9 g6
  obtain ⟨ra, rl, rc, e7⟩ := slice_form Tryz.underlying28 g7
  obtain ⟨wa, wl, wc, e8⟩ := slice_form Tryz.underlying28 g8
  simp at e0 e1 e2 e3 e4 e5 e6 e7 e8
  subst e0 e1 e2 e3 e4 e5 e6 e7 e8
  have t7 : DataW.Trod enc Tryz.prog W 0 (fun _ => true) true 28 (.slice ra rl rc) y7.1 y7.2 := ⟨n, by simpa [Value.cells] using g7⟩
  have t8 : DataW.Trod enc Tryz.prog W 0 (fun _ => true) true 28 (.slice wa wl wc) y8.1 y8.2 := ⟨n, by simpa [Value.cells] using g8⟩
  obtain ⟨rs, rfl, r1, r2, r3⟩ := strs_open t7
  obtain ⟨ws, rfl, w1, w2, w3⟩ := strs_open t8
  obtain ⟨m3, rfl⟩ := Int.eq_ofNat_of_zero_le (wf_u64 u3).1
  obtain ⟨m4, rfl⟩ := Int.eq_ofNat_of_zero_le (wf_u64 u4).1
  refine ⟨⟨a0, a1, a2, m3, m4, a5, a6, rs, ws⟩, ra, rc, wa, wc, rfl, ⟨r1, w1⟩, strs_cap t7, strs_cap t8, ⟨s1, s2, s5, s6, r2, w2⟩, y0.1, y1.1, y2.1, y3.1, y4.1, y5.1, y6.1, y7.1, y8.1, ?_, r3, w3⟩
  have := (Prod.mk.inj hx).1
  simpa using this

set_option maxRecDepth 100000 in
theorem tx_sized {H : Type} {ts : List TypeId} {ds : List (DataW H)} (h : (DataW.weightsEach Tryz.prog ts ds).all (· ≤ reachBytes) = true) {j : Nat} {d : DataW H} {D : TxD} (ht : ts[j]? = some 123) (hd : ds[j]? = some d) (hs : TxDatum d D) :
    D.rs.length * 16 ≤ 140737488351232 ∧ D.ws.length * 16 ≤ 140737488351232 := by
  obtain ⟨y0, y1, y2, y3, y4, y5, y6, y7, y8, rfl, h7, h8⟩ := hs
  have hall : (DataW.weightsEach Tryz.prog [3, 9, 9, 50, 50, 9, 9, 28, 28] [y0, y1, y2, y3, y4, y5, y6, y7, y8]).all (· ≤ reachBytes) = true := by
    rw [List.all_eq_true]
    intro n hn
    exact List.all_eq_true.1 h _ (DataW.weights_mem_each ht hd n (by
      rw [DataW.weights, Tryz.underlying123]
      exact hn))
  exact ⟨strs_sized hall (j := 7) rfl rfl h7, strs_sized hall (j := 8) rfl rfl h8⟩
end Go.Proofs.YtmngiekobmhpaaaGreat
