/- What package header's Check does; nothing old in memory is turned. -/
import Derived.Test.YtoodapbmpbaogaaDoorHdrRows
import Derived.Test.YtoodapbmpbaogaaDoorAuthAll
namespace Go.Proofs.YtoodapbmpbaogaaDoor
open Go.RowKit
set_option linter.unusedVariables false

/-- Is a text at most another one? -/
def leB (a b : ByteArray) : Bool := Op.bytesLess a.toList b.toList || a.toList == b.toList

/-- What is wrong with a digest behind the one ahead. -/
def digE (d ahead : ByteArray) : Nat := if d.size ≠ 32 then 3 else if leB d ahead = true then 9 else 0

def risP : ByteArray → List ByteArray → Nat
  | _, [] => 0
  | a, k :: r => if digE k a ≠ 0 then digE k a else risP k r

def refP (en : List TagD → ByteArray → Nat) : ByteArray → List RefD → Nat
  | _, [] => 0
  | a, x :: r => if digE x.digest a ≠ 0 then digE x.digest a else if en x.acks x.digest ≠ 0 then en x.acks x.digest else refP en x.digest r

def countE (n need : Nat) (round : Int) (ps : Nat) : Nat := if round = 1 ∧ 0 < ps then 3 else if 1 < round ∧ ps < need then 12 else if n < ps then 8 else 0

/-- What is wrong with a header, n validators, need of them enough. -/
def chkH (n need : Nat) (en : List TagD → ByteArray → Nat) (h : HdrD) : Nat :=
  if h.author < 0 ∨ (n : Int) ≤ h.author ∨ h.round < 1 ∨ 4611686018427387903 < h.round then 2 else if 4 < h.refs.length then 8 else if refP en ⟨#[]⟩ h.refs ≠ 0 then refP en ⟨#[]⟩ h.refs
  else if risP ⟨#[]⟩ h.parents ≠ 0 then risP ⟨#[]⟩ h.parents else countE n need h.round h.parents.length

def ackW : ByteArray := ⟨#[97, 99, 107]⟩

def pairT (l : List TagD) : List (Int × ByteArray) := l.map (fun t => (t.who, t.mac))

theorem pairT_length (l : List TagD) : (pairT l).length = l.length := by simp [pairT]

/-- What is wrong with tags of a word. -/
def enT (ks : List ByteArray) (f : Nat) (l : List TagD) (d : ByteArray) : Nat := Mx.enoughL ks f ackW d (pairT l)

theorem RowAt.pairs {w : World} {ao : Option Addr} {l : List TagD} (h : RowAt tagK w ao l) : Mx.TagsAt w ao (pairT l) := by
  intro j x hx
  obtain ⟨t, ht, rfl⟩ : ∃ t, l[j]? = some t ∧ (t.who, t.mac) = x := by
    simp [pairT] at hx
    exact hx
  exact h.tag ht

set_option maxRecDepth 100000 in
theorem checkDigest_any (d ahead : ByteArray) (w : World) :
    Calls Tryd.prog 91 #[.string d, .string ahead] w fun e w' => e = .returned (.int .i64 (digE d ahead : Int)) ∧ w' = w := by
  by_cases h : d.size ≠ 32
  · have h1 : ((d.size : Int) != 32) = true := by rw [bne_iff_ne]; omega
    have H : Hid (digE d ahead = 3) := (if_pos h : _ = _)
    go_enter Tryd.func91, Tryd.ntmps91
    go_wp2
    go_ret
    exact ⟨by rw [H.out]; rfl, rfl⟩
  · have h1 : ((d.size : Int) != 32) = false := by rw [bne_eq_false_iff_eq]; omega
    cases hl : leB d ahead with
    | true =>
      have H : Hid (digE d ahead = 9) := by show _ = _; unfold digE; rw [if_neg h, if_pos hl]
      have hl' : (Op.bytesLess d.toList ahead.toList || d.toList == ahead.toList) = true := hl
      clear h hl
      go_enter Tryd.func91, Tryd.ntmps91
      go_wp2
      go_ret
      exact ⟨by rw [H.out]; rfl, rfl⟩
    | false =>
      have H : Hid (digE d ahead = 0) := by show _ = _; unfold digE; rw [if_neg h, if_neg (by rw [hl]; simp)]
      have hl' : (Op.bytesLess d.toList ahead.toList || d.toList == ahead.toList) = false := hl
      clear h hl
      go_enter Tryd.func91, Tryd.ntmps91
      go_wp2
      go_ret
      exact ⟨by rw [H.out]; rfl, rfl⟩

theorem risP_next {l : List ByteArray} {i : Nat} {a k : ByteArray} (hk : l[i]? = some k) : risP a (l.drop i) = if digE k a ≠ 0 then digE k a else risP k (l.drop (i + 1)) := by
  obtain ⟨hi, he⟩ := List.getElem?_eq_some_iff.1 hk
  rw [List.drop_eq_getElem_cons hi, he, risP]

theorem refP_next {en : List TagD → ByteArray → Nat} {l : List RefM} {i : Nat} {a : ByteArray} {x : RefM} (hx : l[i]? = some x) : refP en a (rd (l.drop i)) = if digE x.digest a ≠ 0 then digE x.digest a else if en x.acks x.digest ≠ 0 then en x.acks x.digest else refP en x.digest (rd (l.drop (i + 1))) := by
  obtain ⟨hi, he⟩ := List.getElem?_eq_some_iff.1 hx
  rw [List.drop_eq_getElem_cons hi, he]
  rfl

set_option maxRecDepth 100000 in
set_option maxHeartbeats 1000000 in
theorem checkParents_any (ao : Option Addr) (cap : Nat) (l : List ByteArray) (w : World) (hA : RowAt strK w ao l) (hn : l.length ≤ maxLen) :
    Calls Tryd.prog 72 #[.slice ao l.length cap] w fun e w' => e = .returned (.int .i64 (risP ⟨#[]⟩ l : Int)) ∧ w' = w := by
  have hS := hA.strs
  obtain ⟨res, hres⟩ : ∃ z, Hid (z = risP ⟨#[]⟩ l) := ⟨_, rfl⟩
  rw [← hres.out]
  unfold maxLen at hn
  go_enter Tryd.func72, Tryd.ntmps72
  go_wp2
  go_loop [3, 5, 6, 9] (fun v3 v5 v6 v9 => ∃ (i : Nat) (a : ByteArray), i ≤ l.length ∧ v9 = .int .i64 (i : Int) ∧ v3 = .string a ∧ Hid (res = risP a (l.drop i))) (fun _ _ _ v => l.length - (intOf v).toNat)
  case atStart => exact ⟨0, ⟨#[]⟩, Nat.zero_le _, rfl, rfl, hres⟩
  case round =>
    obtain ⟨i, a, hil, rfl, rfl, HR⟩ := hrel
    by_cases hlt : i < l.length
    · obtain ⟨b, off, rfl, hbl, hc⟩ := hS i hlt
      have hnx := risP_next (a := a) (List.getElem?_eq_getElem hlt)
      have HR2 := HR.out.trans hnx
      obtain ⟨k, hk⟩ : ∃ k, k = l[i] := ⟨_, rfl⟩
      rw [← hk] at hc HR2
      have cD := fun w1 => checkDigest_any k a w1
      clear hnx hk HR
      by_cases hd : digE k a ≠ 0
      · rw [if_pos hd] at HR2
        have HF : Hid (res = digE k a) := HR2
        have hne : ((digE k a : Int) != 0) = true := by rw [bne_iff_ne]; omega
        generalize digE k a = de at *
        clear HR2
        go_wp2_with fail
        refine (cD _).mono ?_
        rintro e w1 ⟨rfl, rfl⟩
        go_wp2
        go_ret
        exact ⟨by rw [HF.out]; rfl, rfl⟩
      · have hd0 : digE k a = 0 := by omega
        rw [if_neg hd] at HR2
        have HF : Hid (res = risP k (l.drop (i + 1))) := HR2
        rw [hd0] at cD
        clear HR2 hd hd0
        go_wp2_with fail
        refine (cD _).mono ?_
        rintro e w1 ⟨rfl, rfl⟩
        go_wp2
        go_round
        case rel => exact ⟨i + 1, k, by omega, by go_num, rfl, HF⟩
        case measure => simp [intOf]; omega
    · have HF : Hid (res = 0) := by
        have := HR.out
        rw [List.drop_eq_nil_of_le (by omega), risP] at this
        exact this
      clear HR
      go_wp2
      go_ret
      exact ⟨by rw [HF.out]; rfl, rfl⟩

set_option maxRecDepth 100000 in
set_option maxHeartbeats 1000000 in
theorem checkRefs_any (tb f : Nat) (ks : List ByteArray) (ao : Option Addr) (cap : Nat) (l : List RefM) (w : World) (hT : Mx.TabAt w tb f ks) (hf : f ≤ 2) (hks : ∀ k ∈ ks, k.size ≤ 32) (hA : RowAt refK w ao l) (hn : l.length ≤ 4) (hlm : ∀ x ∈ l, x.acks.length ≤ maxLen) (hG : Mx.Glob w) :
    Calls Tryd.prog 71 #[.pointer (some ⟨tb, 0, none⟩), .slice ao l.length cap] w fun e w' => e = .returned (.int .i64 (refP (enT ks f) ⟨#[]⟩ (rd l) : Int)) ∧ Below w.heap.size w w' := by
  obtain ⟨res, hres⟩ : ∃ z, Hid (z = refP (enT ks f) ⟨#[]⟩ (rd l)) := ⟨_, rfl⟩
  rw [← hres.out]
  go_enter Tryd.func71, Tryd.ntmps71
  go_wp2
  go_loopw [5, 7, 8, 9, 12] (fun v5 v7 v8 v9 v12 wr => ∃ (i : Nat) (a : ByteArray), i ≤ l.length ∧ v12 = .int .i64 (i : Int) ∧ v5 = .string a ∧ Below w.heap.size w wr ∧ Hid (res = refP (enT ks f) a (rd (l.drop i)))) (fun _ _ _ _ v _ => l.length - (intOf v).toNat)
  case atStart => exact ⟨0, ⟨#[]⟩, Nat.zero_le _, rfl, rfl, Below.refl _ _, hres⟩
  case round =>
    obtain ⟨i, a, hil, rfl, rfl, hb, HR⟩ := hrel
    by_cases hlt : i < l.length
    · obtain ⟨x, hx⟩ : ∃ x, l[i]? = some x := ⟨l[i], List.getElem?_eq_getElem hlt⟩
      obtain ⟨b, off, rfl, hbl, y0, y1⟩ := (hA.below hb).ref hx
      have hxt := ((hA.below hb).at_ x (List.mem_of_getElem? hx)).1
      have hxl := hlm x (List.mem_of_getElem? hx)
      have HR2 := HR.out.trans (refP_next hx)
      have cD := fun w1 => checkDigest_any x.digest a w1
      have hbx := belowNew wr (.cells #[.string x.digest, .slice x.ao x.acks.length x.cap] 106)
      have hX := Arr.new wr 106 [.string x.digest, .slice x.ao x.acks.length x.cap]
      have hb2 := hb.trans (hbx.mono hb.size)
      have hxt2 := hxt.below hbx
      have x0 := hX.cell (i := 0) rfl
      have x1 := hX.cell (i := 1) rfl
      clear hx HR
      by_cases hd : digE x.digest a ≠ 0
      · rw [if_pos hd] at HR2
        have HF : Hid (res = digE x.digest a) := HR2
        have hne : ((digE x.digest a : Int) != 0) = true := by rw [bne_iff_ne]; omega
        generalize digE x.digest a = de at *
        clear HR2
        go_wp2_with fail
        refine (cD _).mono ?_
        rintro e w1 ⟨rfl, rfl⟩
        go_wp2
        go_ret
        exact ⟨by rw [HF.out]; rfl, hb2⟩
      · have hd0 : digE x.digest a = 0 := by omega
        have hsz : x.digest.size = 32 := by
          unfold digE at hd0
          by_cases h : x.digest.size ≠ 32
          · rw [if_pos h] at hd0; omega
          · omega
        rw [if_neg hd] at HR2
        rw [hd0] at cD
        have cE := Mx.enough_any tb f ks x.ao x.cap (pairT x.acks) ackW x.digest _ (hT.below hb2) hf hks hxt2.pairs (by rw [pairT_length]; exact hxl) (by decide) (by omega) (hG.below hb2)
        rw [pairT_length] at cE
        have he0 : Mx.enoughL ks f ackW x.digest (pairT x.acks) = enT ks f x.acks x.digest := rfl
        rw [he0] at cE
        unfold ackW at cE
        clear hd hd0 he0 hsz
        by_cases he : enT ks f x.acks x.digest ≠ 0
        · rw [if_pos he] at HR2
          have HF : Hid (res = enT ks f x.acks x.digest) := HR2
          have hne : ((enT ks f x.acks x.digest : Int) != 0) = true := by rw [bne_iff_ne]; omega
          generalize enT ks f x.acks x.digest = de at *
          clear HR2
          go_wp2_with fail
          refine (cD _).mono ?_
          rintro e w1 ⟨rfl, rfl⟩
          go_wp2_with fail
          refine cE.mono ?_
          rintro e w2 ⟨rfl, hb3⟩
          have hb4 := hb2.trans (hb3.mono hb2.size)
          clear hb3 cE cD
          go_wp2
          go_ret
          exact ⟨by rw [HF.out]; rfl, hb4⟩
        · have he1 : enT ks f x.acks x.digest = 0 := by omega
          rw [if_neg he] at HR2
          have HF : Hid (res = refP (enT ks f) x.digest (rd (l.drop (i + 1)))) := HR2
          rw [he1] at cE
          clear HR2 he he1
          go_wp2_with fail
          refine (cD _).mono ?_
          rintro e w1 ⟨rfl, rfl⟩
          go_wp2_with fail
          refine cE.mono ?_
          rintro e w2 ⟨rfl, hb3⟩
          have hb4 := hb2.trans (hb3.mono hb2.size)
          have hX3 := hX.below hb3 hX.lt
          have x0b := hX3.cell (i := 0) rfl
          clear hb3 cE cD
          go_wp2
          go_roundw
          case rel => exact ⟨i + 1, x.digest, by omega, by go_num, rfl, hb4, HF⟩
          case measure => simp [intOf]; omega
    · have HF : Hid (res = 0) := by
        have := HR.out
        rw [List.drop_eq_nil_of_le (by omega)] at this
        exact this
      clear HR
      go_wp2
      go_ret
      exact ⟨by rw [HF.out]; rfl, hb⟩

set_option maxRecDepth 100000 in
set_option maxHeartbeats 1000000 in
theorem checkCount_any (tb f : Nat) (ks : List ByteArray) (round : Int) (n : Nat) (w : World) (hT : Mx.TabAt w tb f ks) (hf : f ≤ 2) :
    Calls Tryd.prog 73 #[.pointer (some ⟨tb, 0, none⟩), .int .i64 round, .int .i64 (n : Int)] w fun e w' => e = .returned (.int .i64 (countE (3 * f + 1) (2 * f + 1) round n : Int)) ∧ w' = w := by
  have cN := Mx.n_any tb f ks w hT hf
  have cD := Mx.need_any tb f ks w hT hf
  by_cases h1 : round = 1
  · subst h1
    have hq : ¬ (1 : Int) < 1 := by omega
    by_cases h2 : 0 < n
    · have H : Hid (countE (3 * f + 1) (2 * f + 1) 1 n = 3) := (if_pos ⟨rfl, h2⟩ : _ = _)
      have h2' : (0 : Int) < (n : Int) := by omega
      go_enter Tryd.func73, Tryd.ntmps73
      go_wp2
      go_ret
      exact ⟨by rw [H.out]; rfl, rfl⟩
    · obtain rfl : n = 0 := by omega
      have H : Hid (countE (3 * f + 1) (2 * f + 1) 1 0 = 0) := by show _ = _; unfold countE; rw [if_neg (fun h => h2 h.2), if_neg (fun h => hq h.1), if_neg (by omega)]
      have h3 : ¬ ((3 * f + 1 : Nat) : Int) < ((0 : Nat) : Int) := by omega
      go_enter Tryd.func73, Tryd.ntmps73
      go_wp2_with fail
      refine cN.mono ?_
      rintro e w1 ⟨rfl, rfl⟩
      go_wp2
      go_ret
      exact ⟨by rw [H.out]; rfl, rfl⟩
  · have h1' : (round == 1) = false := beq_eq_false_iff_ne.2 h1
    by_cases h3 : 1 < round
    · by_cases h4 : n < 2 * f + 1
      · have H : Hid (countE (3 * f + 1) (2 * f + 1) round n = 12) := by show _ = _; unfold countE; rw [if_neg (fun h => h1 h.1), if_pos ⟨h3, h4⟩]
        have h4' : (n : Int) < ((2 * f + 1 : Nat) : Int) := by omega
        clear h1 h4
        go_enter Tryd.func73, Tryd.ntmps73
        go_wp2_with fail
        refine cD.mono ?_
        rintro e w1 ⟨rfl, rfl⟩
        go_wp2
        go_ret
        exact ⟨by rw [H.out]; rfl, rfl⟩
      · have h4' : ¬ (n : Int) < ((2 * f + 1 : Nat) : Int) := by omega
        by_cases h5 : 3 * f + 1 < n
        · have H : Hid (countE (3 * f + 1) (2 * f + 1) round n = 8) := by show _ = _; unfold countE; rw [if_neg (fun h => h1 h.1), if_neg (fun h => h4 h.2), if_pos h5]
          have h5' : ((3 * f + 1 : Nat) : Int) < (n : Int) := by omega
          clear h1 h4 h5
          go_enter Tryd.func73, Tryd.ntmps73
          go_wp2_with fail
          refine cD.mono ?_
          rintro e w1 ⟨rfl, rfl⟩
          go_wp2_with fail
          refine cN.mono ?_
          rintro e w1 ⟨rfl, rfl⟩
          go_wp2
          go_ret
          exact ⟨by rw [H.out]; rfl, rfl⟩
        · have H : Hid (countE (3 * f + 1) (2 * f + 1) round n = 0) := by show _ = _; unfold countE; rw [if_neg (fun h => h1 h.1), if_neg (fun h => h4 h.2), if_neg h5]
          have h5' : ¬ ((3 * f + 1 : Nat) : Int) < (n : Int) := by omega
          clear h1 h4 h5
          go_enter Tryd.func73, Tryd.ntmps73
          go_wp2_with fail
          refine cD.mono ?_
          rintro e w1 ⟨rfl, rfl⟩
          go_wp2_with fail
          refine cN.mono ?_
          rintro e w1 ⟨rfl, rfl⟩
          go_wp2
          go_ret
          exact ⟨by rw [H.out]; rfl, rfl⟩
    · by_cases h5 : 3 * f + 1 < n
      · have H : Hid (countE (3 * f + 1) (2 * f + 1) round n = 8) := by show _ = _; unfold countE; rw [if_neg (fun h => h1 h.1), if_neg (fun h => h3 h.1), if_pos h5]
        have h5' : ((3 * f + 1 : Nat) : Int) < (n : Int) := by omega
        clear h1 h5
        go_enter Tryd.func73, Tryd.ntmps73
        go_wp2_with fail
        refine cN.mono ?_
        rintro e w1 ⟨rfl, rfl⟩
        go_wp2
        go_ret
        exact ⟨by rw [H.out]; rfl, rfl⟩
      · have H : Hid (countE (3 * f + 1) (2 * f + 1) round n = 0) := by show _ = _; unfold countE; rw [if_neg (fun h => h1 h.1), if_neg (fun h => h3 h.1), if_neg h5]
        have h5' : ¬ ((3 * f + 1 : Nat) : Int) < (n : Int) := by omega
        clear h1 h5
        go_enter Tryd.func73, Tryd.ntmps73
        go_wp2_with fail
        refine cN.mono ?_
        rintro e w1 ⟨rfl, rfl⟩
        go_wp2
        go_ret
        exact ⟨by rw [H.out]; rfl, rfl⟩
end Go.Proofs.YtoodapbmpbaogaaDoor
