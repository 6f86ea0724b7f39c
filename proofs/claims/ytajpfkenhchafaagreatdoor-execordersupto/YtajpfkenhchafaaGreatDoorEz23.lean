/- Texts as one: RefTxName, TxKeyMath, RefTxCheck, RefTxRight, RefInt, RefGetInt, WireIntsWalk, RefText, RefList. -/
import Derived.Test.YtajpfkenhchafaaGreatDoorEz03
import Derived.Test.YtajpfkenhchafaaGreatDoorEz04
import Derived.Deep.QuietTactic
import Derived.BigQuiet
import Derived.Test.YtajpfkenhchafaaGreatDoorEz02
import Derived.Deep.RegionWith
/- What tuskref04.Name and Key do; memory stands. -/
namespace Go.Proofs.YtajpfkenhchafaaGreatDoor
open Go.RowKit
set_option linter.unusedVariables false

set_option maxRecDepth 100000 in
set_option maxHeartbeats 1000000 in
theorem refName_any (s : ByteArray) (w : World) (hs : s.size ≤ maxLen) :
    Calls Tryz.prog 47 #[.string s] w fun e w' => e = .returned (.bool (isNm s)) ∧ w' = w := by
  unfold maxLen at hs
  go_enter Tryz.func47, Tryz.ntmps47
  go_wp2
  go_loop [3] (fun v => ∃ k : Nat, k ≤ s.size ∧ v = .int .i64 k ∧ Hid ((s.data.toList.take k).all nameByte = true)) (fun v => s.size - (intOf v).toNat)
  case atStart => exact ⟨0, by omega, rfl, by show _ = _; simp⟩
  case round =>
    obtain ⟨k, hk, rfl, hall⟩ := hrel
    by_cases hlt : k < s.size
    · obtain ⟨c, hc⟩ : ∃ c, s[k].toNat = c := ⟨_, rfl⟩
      have hY : (97 ≤ c ∧ c ≤ 122 ∨ 48 ≤ c ∧ c ≤ 57) → Hid ((s.data.toList.take (k + 1)).all nameByte = true) := by
        intro h
        show _ = _
        rw [all_take_succ s k hlt, hall.out]
        unfold nameByte
        rw [hc]
        simp only [Bool.true_and, Bool.or_eq_true, Bool.and_eq_true, decide_eq_true_eq]
        exact h
      have hN : ¬ (97 ≤ c ∧ c ≤ 122 ∨ 48 ≤ c ∧ c ≤ 57) → Hid (isNm s = false) := by
        intro h
        show _ = _
        unfold isNm
        rw [all_of_take s k hlt _ (by
          unfold nameByte
          rw [hc]
          simp only [Bool.or_eq_false_iff, Bool.and_eq_false_iff, decide_eq_false_iff_not]
          omega)]
        simp
      clear hall
      have hI : ((c : Int) < 48 ∧ (c : Int) ≤ 57 ∧ (c : Int) < 97 ∧ (c : Int) ≤ 122) ∨ ((48 : Int) ≤ c ∧ (57 : Int) < c ∧ (c : Int) < 97 ∧ (c : Int) ≤ 122) ∨ ((48 : Int) ≤ c ∧ (57 : Int) < c ∧ (97 : Int) ≤ c ∧ (122 : Int) < c) ∨
          ((48 : Int) ≤ c ∧ (c : Int) ≤ 57 ∧ (c : Int) < 97 ∧ (c : Int) ≤ 122) ∨ ((48 : Int) ≤ c ∧ (57 : Int) < c ∧ (97 : Int) ≤ c ∧ (c : Int) ≤ 122) := by omega
      rcases hI with ⟨i1, i2, i3, i4⟩ | ⟨i1, i2, i3, i4⟩ | ⟨i1, i2, i3, i4⟩ | ⟨i1, i2, i3, i4⟩ | ⟨i1, i2, i3, i4⟩
      · have H := hN (by omega)
        clear hY hN
        go_wp2
        go_ret
        exact ⟨by rw [H.out]; rfl, rfl⟩
      · have H := hN (by omega)
        clear hY hN
        go_wp2
        go_ret
        exact ⟨by rw [H.out]; rfl, rfl⟩
      · have H := hN (by omega)
        clear hY hN
        go_wp2
        go_ret
        exact ⟨by rw [H.out]; rfl, rfl⟩
      · have H := hY (by omega)
        clear hY hN
        have d57 : decide ((57 : Int) < c) = false := decide_eq_false (by omega)
        go_wp2
        go_round
        case rel => exact ⟨k + 1, by omega, by go_num, H⟩
        case measure => simp [intOf]; omega
      · have H := hY (by omega)
        clear hY hN
        have d122 : decide ((122 : Int) < c) = false := decide_eq_false (by omega)
        go_wp2
        go_round
        case rel => exact ⟨k + 1, by omega, by go_num, H⟩
        case measure => simp [intOf]; omega
    · have H : Hid (isNm s = (decide (1 ≤ s.size) && decide (s.size ≤ 32))) := by
        show _ = _
        have h1 := hall.out
        rw [List.take_of_length_le (by simp; omega)] at h1
        unfold isNm
        rw [h1]
        simp
      clear hall
      by_cases h1 : 1 ≤ s.size
      · have h1' : (1 : Int) ≤ s.size := by omega
        replace H : Hid (isNm s = decide (s.size ≤ 32)) := by show _ = _; rw [H.out, decide_eq_true h1]; rfl
        by_cases h2 : s.size ≤ 32
        · replace H : Hid (isNm s = true) := by show _ = _; rw [H.out, decide_eq_true h2]
          have h2' : (s.size : Int) ≤ 32 := by omega
          go_wp2
          go_ret
          exact ⟨by rw [H.out]; rfl, rfl⟩
        · replace H : Hid (isNm s = false) := by show _ = _; rw [H.out, decide_eq_false h2]
          have h2' : (32 : Int) < s.size := by omega
          have d2 : decide ((s.size : Int) ≤ 32) = false := decide_eq_false (by omega)
          go_wp2
          go_ret
          exact ⟨by rw [H.out]; rfl, rfl⟩
      · replace H : Hid (isNm s = false) := by show _ = _; rw [H.out, decide_eq_false h1]; rfl
        have h1' : (s.size : Int) < 1 := by omega
        go_wp2
        go_ret
        exact ⟨by rw [H.out]; rfl, rfl⟩
end Go.Proofs.YtajpfkenhchafaaGreatDoor

/- Keys and their front; lists of one key; what a right transaction needs. -/
namespace Go.Proofs.YtajpfkenhchafaaGreatDoor
open Go.RowKit
set_option linter.unusedVariables false

theorem less_eq : ∀ (x y : List UInt8), Op.bytesLess x y = decide (x < y)
  | [], [] => by simp [Op.bytesLess]
  | _ :: _, [] => by simp [Op.bytesLess]
  | [], _ :: _ => by simp [Op.bytesLess]
  | a :: x, b :: y => by
    rw [Op.bytesLess, less_eq x y]
    simp only [List.cons_lt_cons_iff]
    by_cases h1 : a < b <;> by_cases h2 : a = b <;> by_cases h3 : x < y <;> simp [h1, h2, h3]

theorem less_asymm {x y : List UInt8} (h : Op.bytesLess x y = true) : Op.bytesLess y x = false := by
  rw [less_eq, decide_eq_true_eq] at h
  rw [less_eq, decide_eq_false_iff_not]
  exact List.lt_asymm h

theorem less_ne {x y : List UInt8} (h : Op.bytesLess x y = true) : x ≠ y := by
  rintro rfl
  have := less_asymm h
  rw [h] at this
  cases this

theorem a_below_k (x y : ByteArray) : Op.bytesLess (aP ++ x).toList (kP ++ y).toList = true := by
  have h1 : (aP ++ x) = ⟨([97, 58] ++ x.data.toList).toArray⟩ := append_list [97, 58] x
  have h2 : (kP ++ y) = ⟨([107, 58] ++ y.data.toList).toArray⟩ := append_list [107, 58] y
  rw [h1, h2, ByteArray.toList_eq, ByteArray.toList_eq]
  simp [Op.bytesLess]

theorem ky_above {k : ByteArray} (h : isKy k = true) : (Op.bytesLess k.toList (⟨#[]⟩ : ByteArray).toList || k.toList == (⟨#[]⟩ : ByteArray).toList) = false := by
  have hs : 1 ≤ k.size := by
    unfold isKy at h
    rw [Bool.and_eq_true] at h
    have h2 := h.2
    unfold isNm at h2
    simp only [Bool.and_eq_true, decide_eq_true_eq, ByteArray.size_extract] at h2
    omega
  have hl : k.data.toList.length = k.size := by simp
  rw [ByteArray.toList_eq, ByteArray.toList_eq]
  cases hd : k.data.toList with
  | nil => rw [hd] at hl; simp at hl; omega
  | cons x r => simp [Op.bytesLess]
end Go.Proofs.YtajpfkenhchafaaGreatDoor

/- What tuskref04.Key, keys and Check do; nothing old in memory is turned. -/
namespace Go.Proofs.YtajpfkenhchafaaGreatDoor
open Go.RowKit
set_option linter.unusedVariables false

theorem cut_two {s : ByteArray} (h : 2 < s.size) (a b : UInt8) : cutOk s ⟨#[a, b]⟩ = ((s.extract 0 2).toList == [a, b]) := by
  unfold cutOk
  have h1 : (⟨#[a, b]⟩ : ByteArray).size = 2 := rfl
  rw [h1, decide_eq_true (by omega), ByteArray.toList_eq ⟨#[a, b]⟩]
  rfl

theorem small_key {s : ByteArray} (h : s.size ≤ 2) : isKy s = false := by
  unfold isKy
  have h1 : isNm (s.extract 2 s.size) = false := by
    cases hn : isNm (s.extract 2 s.size) with
    | false => rfl
    | true =>
      unfold isNm at hn
      simp only [Bool.and_eq_true, decide_eq_true_eq, ByteArray.size_extract] at hn
      omega
  rw [h1]
  simp

set_option maxRecDepth 100000 in
set_option maxHeartbeats 400000 in
theorem refKey_any (s : ByteArray) (w : World) (hs : s.size ≤ maxLen) :
    Calls Tryz.prog 120 #[.string s] w fun e w' => e = .returned (.bool (isKy s)) ∧ w' = w := by
  by_cases h2 : 2 < s.size
  · have h2' : (2 : Int) < s.size := by omega
    have hsz : (2 : Int) ≤ s.size := by omega
    have cn := refName_any (s.extract 2 s.size) w (by rw [ByteArray.size_extract]; omega)
    have H : Hid (isKy s = ((((s.extract 0 2).toList == [97, 58]) || ((s.extract 0 2).toList == [107, 58])) && isNm (s.extract 2 s.size))) := by
      show _ = _
      unfold isKy aP kP
      rw [cut_two h2, cut_two h2]
    generalize isNm (s.extract 2 s.size) = b at cn H
    clear hs
    by_cases ha : (s.extract 0 2).toList = [97, 58]
    · replace H : Hid (isKy s = b) := by show _ = _; rw [H.out, ha]; simp
      go_enter Tryz.func120, Tryz.ntmps120
      go_wp2_with fail
      refine cn.mono ?_
      rintro e w' ⟨rfl, rfl⟩
      go_wp2
      go_ret
      exact ⟨by rw [H.out]; rfl, rfl⟩
    · have ha' : ((s.extract 0 2).toList == [97, 58]) = false := beq_eq_false_iff_ne.2 ha
      by_cases hk : (s.extract 0 2).toList = [107, 58]
      · replace H : Hid (isKy s = b) := by show _ = _; rw [H.out, ha', hk]; simp
        go_enter Tryz.func120, Tryz.ntmps120
        go_wp2_with fail
        refine cn.mono ?_
        rintro e w' ⟨rfl, rfl⟩
        go_wp2
        go_ret
        exact ⟨by rw [H.out]; rfl, rfl⟩
      · have hk' : ((s.extract 0 2).toList == [107, 58]) = false := beq_eq_false_iff_ne.2 hk
        replace H : Hid (isKy s = false) := by show _ = _; rw [H.out, ha', hk']; simp
        go_enter Tryz.func120, Tryz.ntmps120
        go_wp2
        go_ret
        exact ⟨by rw [H.out]; rfl, rfl⟩
  · have h2' : ¬ (2 : Int) < s.size := by omega
    have H : Hid (isKy s = false) := small_key (by omega)
    go_enter Tryz.func120, Tryz.ntmps120
    go_wp2
    go_ret
    exact ⟨by rw [H.out]; rfl, rfl⟩

/-- The one ahead. -/
def prevK (ss : List ByteArray) (k : Nat) : ByteArray := if k = 0 then ⟨#[]⟩ else ss.getD (k - 1) ⟨#[]⟩

set_option maxRecDepth 100000 in
set_option maxHeartbeats 1000000 in
theorem refKeys_any (ao : Option Addr) (cap : Nat) (ss : List ByteArray) (w : World) (hc : StrsAt w ao ss) (hz : ∀ s ∈ ss, s.size ≤ maxLen) :
    Calls Tryz.prog 107 #[.slice ao ss.length cap] w fun e w' => e = .returned (.int .i64 (keysL ss : Int)) ∧ Below w.heap.size w w' := by
  by_cases h8 : 8 < ss.length
  · have H : Hid (keysL ss = 8) := by show _ = _; unfold keysL; rw [if_pos h8]
    have h8' : (8 : Int) < ss.length := by omega
    go_enter Tryz.func107, Tryz.ntmps107
    go_wp2
    go_ret
    exact ⟨by rw [H.out]; rfl, Below.refl _ _⟩
  have h8' : ¬ (8 : Int) < ss.length := by omega
  have HK : Hid (keysL ss = keysGo ⟨#[]⟩ ss) := by show _ = _; unfold keysL; rw [if_neg h8]
  go_enter Tryz.func107, Tryz.ntmps107
  go_wp2
  go_loopw [3] (fun v wr => ∃ k : Nat, k ≤ ss.length ∧ v = .int .i64 k ∧ Hid (keysL ss = keysGo (prevK ss k) (ss.drop k)) ∧ Below w.heap.size w wr) (fun v _ => ss.length - (intOf v).toNat)
  case atStart => exact ⟨0, by omega, rfl, HK, Below.refl _ _⟩
  case round =>
    obtain ⟨k, hk, rfl, hK, hb⟩ := hrel
    by_cases hlt : k < ss.length
    · obtain ⟨b, off, rfl, hbl, hcell⟩ := (hc.below hb) k hlt
      have hd : ss.drop k = ss[k] :: ss.drop (k + 1) := List.drop_eq_getElem_cons hlt
      have hK2 := hK.out
      rw [hd, keysGo] at hK2
      have cn := fun w1 => refKey_any ss[k] w1 (hz _ (List.getElem_mem hlt))
      obtain ⟨x, hx⟩ : ∃ x, x = ss[k] := ⟨_, rfl⟩
      have hpr : prevK ss (k + 1) = x := by rw [hx]; unfold prevK; rw [if_neg (by omega)]; simp [List.getD, hlt]
      rw [← hx] at hK2 cn hcell
      clear hK hd HK
      cases hky : isKy x with
      | false =>
        have H : Hid (keysL ss = 3) := by show _ = _; rw [hK2, if_pos hky]
        simp only [hky] at cn
        clear hK2 hky hx hpr hc
        go_wp2_with fail
        refine (cn _).mono ?_
        rintro e w' ⟨rfl, rfl⟩
        go_wp2
        go_ret
        exact ⟨by rw [H.out]; rfl, hb⟩
      | true =>
        have hab := ky_above hky
        simp only [hky] at cn
        rw [if_neg (by rw [hky]; simp)] at hK2
        by_cases hk0 : k = 0
        · subst hk0
          have H : Hid (keysL ss = keysGo (prevK ss (0 + 1)) (ss.drop (0 + 1))) := by
            show _ = _
            rw [hpr, hK2]
            have : prevK ss 0 = ⟨#[]⟩ := rfl
            rw [this, hab, if_neg (by simp)]
          replace hcell : wr.cell? ⟨b, off, none⟩ = some (.string x) := hcell
          clear hK2 hky hx hpr hc hab
          go_wp2_with fail
          refine (cn _).mono ?_
          rintro e w' ⟨rfl, rfl⟩
          go_wp2_with fail
          go_quiet (fail)
          have hb2 := below_drewN hb nq
          clear hb hcell
          go_wp2
          go_roundw
          case rel => exact ⟨0 + 1, by omega, by go_num, H, hb2⟩
          case measure => simp [intOf]; omega
        · obtain ⟨j, rfl⟩ : ∃ j, k = j + 1 := ⟨k - 1, by omega⟩
          obtain ⟨b', off', e', _, hcell'⟩ := (hc.below hb) j (by omega)
          simp at e'
          obtain ⟨rfl, rfl⟩ := e'
          obtain ⟨y, hy⟩ : ∃ y, y = ss[j] := ⟨_, rfl⟩
          have hpy : prevK ss (j + 1) = y := by rw [hy]; unfold prevK; rw [if_neg (by omega)]; simp [List.getD, show j < ss.length by omega]
          rw [← hy] at hcell'
          rw [hpy] at hK2
          have hj1 : (((j + 1 : Nat) : Int)) - 1 = (j : Int) := by omega
          have hdk : decide ((0 : Int) < ((j + 1 : Nat) : Int)) = true := decide_eq_true (by omega)
          cases hle : (Op.bytesLess x.toList y.toList || x.toList == y.toList) with
          | true =>
            have H : Hid (keysL ss = 9) := by show _ = _; rw [hK2, if_pos hle]
            clear hK2 hky hx hpr hc hab hy hpy
            go_wp2_with fail
            refine (cn _).mono ?_
            rintro e w' ⟨rfl, rfl⟩
            go_wp2_with fail
            go_quiet (fail)
            have hb2 := below_drewN hb nq
            clear hb hcell hcell'
            go_wp2
            go_ret
            exact ⟨by rw [H.out]; rfl, hb2⟩
          | false =>
            have H : Hid (keysL ss = keysGo (prevK ss (j + 1 + 1)) (ss.drop (j + 1 + 1))) := by show _ = _; rw [hpr, hK2, if_neg (by rw [hle]; simp)]
            clear hK2 hky hx hpr hc hab hy hpy
            go_wp2_with fail
            refine (cn _).mono ?_
            rintro e w' ⟨rfl, rfl⟩
            go_wp2_with fail
            go_quiet (fail)
            have hb2 := below_drewN hb nq
            clear hb hcell hcell'
            go_wp2
            go_roundw
            case rel => exact ⟨j + 1 + 1, by omega, by go_num, H, hb2⟩
            case measure => simp [intOf]; omega
    · have H : Hid (keysL ss = 0) := by
        show _ = _
        rw [hK.out, List.drop_of_length_le (by omega), keysGo]
      clear hK
      go_wp2
      go_ret
      exact ⟨by rw [H.out]; rfl, hb⟩
end Go.Proofs.YtajpfkenhchafaaGreatDoor

/- What tuskref04.Check does; nothing old in memory is turned. -/
namespace Go.Proofs.YtajpfkenhchafaaGreatDoor
open Go.RowKit
set_option linter.unusedVariables false

theorem check_three {d : TxD} (hk : d.kind = 1 ∨ d.kind = 2) (h : fieldsR d = false) : checkL d = 3 := by
  unfold checkL
  rw [if_neg (by omega), if_pos h]

theorem check_two {d : TxD} (hk : d.kind = 1 ∨ d.kind = 2) (h : fieldsR d = true) (hr : 4611686018427387903 < d.amt ∨ 4611686018427387903 < d.non) : checkL d = 2 := by
  unfold checkL
  rw [if_neg (by omega), if_neg (by rw [h]; simp), if_pos hr]

theorem check_rs {d : TxD} (hk : d.kind = 1 ∨ d.kind = 2) (h : fieldsR d = true) (h1 : d.amt ≤ 4611686018427387903) (h2 : d.non ≤ 4611686018427387903) (hz : keysL d.rs ≠ 0) : checkL d = keysL d.rs := by
  unfold checkL
  rw [if_neg (by omega), if_neg (by rw [h]; simp), if_neg (by omega), if_pos hz]

theorem check_ws {d : TxD} (hk : d.kind = 1 ∨ d.kind = 2) (h : fieldsR d = true) (h1 : d.amt ≤ 4611686018427387903) (h2 : d.non ≤ 4611686018427387903) (hz : keysL d.rs = 0) : checkL d = keysL d.ws := by
  unfold checkL
  rw [if_neg (by omega), if_neg (by rw [h]; simp), if_neg (by omega), if_neg (by rw [hz]; simp)]

set_option maxRecDepth 100000 in
set_option maxHeartbeats 4000000 in
theorem refCheck_any (d : TxD) (ra : Option Addr) (rc : Nat) (wa : Option Addr) (wc : Nat) (w : World) (hA : TxAt w d ra wa) (hs : TxSizes d) :
    Calls Tryz.prog 89 #[txV d ra rc wa wc] w fun e w' => e = .returned (.int .i64 (checkL d : Int)) ∧ Below w.heap.size w w' := by
  have hX : Arr _ _ _ (txC d ra rc wa wc) := TxBox.new w d ra rc wa wc
  have hB := belowNew w (.cells (txC d ra rc wa wc).toArray 55)
  have hA0 := hA.below hB
  have cF := fun w1 => refName_any d.frm w1 hs.frm
  have cT := fun w1 => refName_any d.to w1 hs.to
  have cK := fun w1 => refName_any d.key w1 hs.key
  have ck1 := fun w1 (h : StrsAt w1 ra d.rs) => refKeys_any ra rc d.rs w1 h hs.rs
  have ck2 := fun w1 (h : StrsAt w1 wa d.ws) => refKeys_any wa wc d.ws w1 h hs.ws
  have hR0 := hA0.rd
  have hW0 := hA0.wr
  have t3 := check_three (d := d)
  have t2 := check_two (d := d)
  have tr := check_rs (d := d)
  have tw := check_ws (d := d)
  have t5 : d.kind ≠ 1 ∧ d.kind ≠ 2 → checkL d = 5 := fun h => by unfold checkL; rw [if_pos h]
  have F : fieldsR d = (isNm d.frm && (if d.kind = 1 then isNm d.to && (d.key.toList == []) && (d.val.toList == []) else isNm d.key && decide (d.val.size ≤ 64) && (d.to.toList == []) && decide (d.amt = 0))) := rfl
  simp only [bemp] at F
  clear hA hA0 hs
  obtain ⟨kind, frm, rcp, amt, non, key, val, rs, ws⟩ := d
  dsimp only at cF cT cK ck1 ck2 hR0 hW0 t3 t2 tr tw t5 F
  unfold txV
  generalize hchk : checkL ⟨kind, frm, rcp, amt, non, key, val, rs, ws⟩ = chk at *
  clear hchk
  generalize hfld : fieldsR ⟨kind, frm, rcp, amt, non, key, val, rs, ws⟩ = fld at *
  clear hfld
  by_cases hk : kind ≠ 1 ∧ kind ≠ 2
  · have H : Hid (chk = 5) := t5 hk
    have hk1 : (kind != 1) = true := by simpa using hk.1
    have hk2 : (kind != 2) = true := by simpa using hk.2
    clear t3 t2 tr tw t5 F hk cF cT cK ck1 ck2 hR0 hW0 hX
    go_enter Tryz.func89, Tryz.ntmps89
    go_wp2
    go_ret
    exact ⟨by rw [H.out]; rfl, hB⟩
  clear t5
  cases n1 : isNm frm with
  | false =>
    have hkk : kind = 1 ∨ kind = 2 := by omega
    clear hk
    simp only [n1] at cF
    replace F : fld = false := by rw [F, n1]; rfl
    rcases hkk with rfl | rfl
    · have hkk : (1 : Int) = 1 ∨ (1 : Int) = 2 := Or.inl rfl
      have H : Hid (chk = 3) := t3 hkk F
      clear t3 t2 tr tw F hkk hX
      clear ck1 ck2 hR0 hW0
      go_enter Tryz.func89, Tryz.ntmps89
      go_wp2_with fail
      refine (cF _).mono ?_
      rintro e w0 ⟨rfl, hw1⟩
      subst hw1
      go_wp2
      go_ret
      exact ⟨by rw [H.out]; rfl, hB⟩
    · have hkk : (2 : Int) = 1 ∨ (2 : Int) = 2 := Or.inr rfl
      have H : Hid (chk = 3) := t3 hkk F
      clear t3 t2 tr tw F hkk hX
      clear ck1 ck2 hR0 hW0
      go_enter Tryz.func89, Tryz.ntmps89
      go_wp2_with fail
      refine (cF _).mono ?_
      rintro e w0 ⟨rfl, hw1⟩
      subst hw1
      go_wp2
      go_ret
      exact ⟨by rw [H.out]; rfl, hB⟩
  | true =>
    simp only [n1] at cF
    rw [n1, Bool.true_and] at F
    by_cases hk1 : kind = 1
    · subst hk1
      have hkk : (1 : Int) = 1 ∨ (1 : Int) = 2 := Or.inl rfl
      rw [if_pos rfl] at F
      clear hk cK
      cases n2 : isNm rcp with
      | false =>
        simp only [n2] at cT
        replace F : fld = false := by rw [F, n2]; rfl
        have H : Hid (chk = 3) := t3 hkk F
        clear t3 t2 tr tw F hkk hX
        clear ck1 ck2 hR0 hW0
        go_enter Tryz.func89, Tryz.ntmps89
        go_wp2_with fail
        refine (cF _).mono ?_
        rintro e w0 ⟨rfl, hw1⟩
        subst hw1
        go_wp2_with fail
        refine (cT _).mono ?_
        rintro e w1 ⟨rfl, hw1⟩
        subst hw1
        go_wp2
        go_ret
        exact ⟨by rw [H.out]; rfl, hB⟩
      | true =>
        simp only [n2] at cT
        rw [n2, Bool.true_and] at F
        by_cases hkey : key.toList = []
        · have e1 : key.toList.isEmpty = true := by rw [hkey]; rfl
          rw [e1, Bool.true_and] at F
          by_cases hval : val.toList = []
          · have e2 : val.toList.isEmpty = true := by rw [hval]; rfl
            rw [e2] at F
            by_cases ha : 4611686018427387903 < amt
            · have H : Hid (chk = 2) := t2 hkk F (Or.inl ha)
              have ha' : (4611686018427387903 : Int) < amt := by omega
              clear t3 t2 tr tw F hkk hX
              clear ck1 ck2 hR0 hW0 ha
              go_enter Tryz.func89, Tryz.ntmps89
              go_wp2_with fail
              refine (cF _).mono ?_
              rintro e w0 ⟨rfl, hw1⟩
              subst hw1
              go_wp2_with fail
              refine (cT _).mono ?_
              rintro e w1 ⟨rfl, hw1⟩
              subst hw1
              go_wp2
              go_ret
              exact ⟨by rw [H.out]; rfl, hB⟩
            have ha' : (amt : Int) ≤ 4611686018427387903 := by omega
            by_cases hn : 4611686018427387903 < non
            · have H : Hid (chk = 2) := t2 hkk F (Or.inr hn)
              have hn' : (4611686018427387903 : Int) < non := by omega
              clear t3 t2 tr tw F hkk hX
              clear ck1 ck2 hR0 hW0 hn ha
              go_enter Tryz.func89, Tryz.ntmps89
              go_wp2_with fail
              refine (cF _).mono ?_
              rintro e w0 ⟨rfl, hw1⟩
              subst hw1
              go_wp2_with fail
              refine (cT _).mono ?_
              rintro e w1 ⟨rfl, hw1⟩
              subst hw1
              go_wp2
              go_ret
              exact ⟨by rw [H.out]; rfl, hB⟩
            have hn' : (non : Int) ≤ 4611686018427387903 := by omega
            by_cases hz : keysL rs = 0
            · have H : Hid (chk = keysL ws) := tw hkk F (by omega) (by omega) hz
              simp only [hz] at ck1
              generalize keysL ws = n2 at ck2 H
              clear t3 t2 tr tw F hkk hz hn ha
              go_enter Tryz.func89, Tryz.ntmps89
              go_wp2_with fail
              refine (cF _).mono ?_
              rintro e w0 ⟨rfl, hw1⟩
              subst hw1
              go_wp2_with fail
              refine (cT _).mono ?_
              rintro e w1 ⟨rfl, hw1⟩
              subst hw1
              go_wp2_with fail
              refine (ck1 _ hR0).mono ?_
              rintro e w5 ⟨rfl, hb5⟩
              have hB5 := hB.trans (hb5.mono hB.size)
              have x8 := (hX.below hb5 hX.lt).cell (i := 8) rfl
              have hW5 := hW0.below hb5
              clear hb5 hX hW0 hR0 ck1
              go_wp2_with fail
              refine (ck2 _ hW5).mono ?_
              rintro e w6 ⟨rfl, hb6⟩
              have hB6 := hB5.trans (hb6.mono hB5.size)
              clear hb6 hB5 hW5 ck2
              go_wp2
              go_ret
              exact ⟨by rw [H.out]; rfl, hB6⟩
            · have H : Hid (chk = keysL rs) := tr hkk F (by omega) (by omega) hz
              have hz' : ((keysL rs : Int) == 0) = false := beq_eq_false_iff_ne.2 (by omega)
              generalize keysL rs = n2 at ck1 H hz'
              clear t3 t2 tr tw F hkk hz hn ha ck2
              go_enter Tryz.func89, Tryz.ntmps89
              go_wp2_with fail
              refine (cF _).mono ?_
              rintro e w0 ⟨rfl, hw1⟩
              subst hw1
              go_wp2_with fail
              refine (cT _).mono ?_
              rintro e w1 ⟨rfl, hw1⟩
              subst hw1
              go_wp2_with fail
              refine (ck1 _ hR0).mono ?_
              rintro e w5 ⟨rfl, hb5⟩
              have hB5 := hB.trans (hb5.mono hB.size)
              clear hb5 hX hW0 hR0 ck1
              go_wp2
              go_ret
              exact ⟨by rw [H.out]; rfl, hB5⟩
          · have e2 : val.toList.isEmpty = false := by simpa using hval
            rw [e2] at F
            have H : Hid (chk = 3) := t3 hkk F
            clear t3 t2 tr tw F hkk hX
            clear ck1 ck2 hR0 hW0
            go_enter Tryz.func89, Tryz.ntmps89
            go_wp2_with fail
            refine (cF _).mono ?_
            rintro e w0 ⟨rfl, hw1⟩
            subst hw1
            go_wp2_with fail
            refine (cT _).mono ?_
            rintro e w1 ⟨rfl, hw1⟩
            subst hw1
            go_wp2
            go_ret
            exact ⟨by rw [H.out]; rfl, hB⟩
        · have e1 : key.toList.isEmpty = false := by simpa using hkey
          replace F : fld = false := by rw [F, e1]; rfl
          have H : Hid (chk = 3) := t3 hkk F
          clear t3 t2 tr tw F hkk hX
          clear ck1 ck2 hR0 hW0
          go_enter Tryz.func89, Tryz.ntmps89
          go_wp2_with fail
          refine (cF _).mono ?_
          rintro e w0 ⟨rfl, hw1⟩
          subst hw1
          go_wp2_with fail
          refine (cT _).mono ?_
          rintro e w1 ⟨rfl, hw1⟩
          subst hw1
          go_wp2
          go_ret
          exact ⟨by rw [H.out]; rfl, hB⟩
    · have hk2 : kind = 2 := by omega
      subst hk2
      have hkk : (2 : Int) = 1 ∨ (2 : Int) = 2 := Or.inr rfl
      rw [if_neg (by decide)] at F
      clear hk hk1 cT
      cases n2 : isNm key with
      | false =>
        simp only [n2] at cK
        replace F : fld = false := by rw [F, n2]; rfl
        have H : Hid (chk = 3) := t3 hkk F
        clear t3 t2 tr tw F hkk hX
        clear ck1 ck2 hR0 hW0
        go_enter Tryz.func89, Tryz.ntmps89
        go_wp2_with fail
        refine (cF _).mono ?_
        rintro e w0 ⟨rfl, hw1⟩
        subst hw1
        go_wp2_with fail
        refine (cK _).mono ?_
        rintro e w1 ⟨rfl, hw1⟩
        subst hw1
        go_wp2
        go_ret
        exact ⟨by rw [H.out]; rfl, hB⟩
      | true =>
        simp only [n2] at cK
        rw [n2, Bool.true_and] at F
        by_cases hv : val.size ≤ 64
        · have hv' : (val.size : Int) ≤ 64 := by omega
          have dv : decide ((64 : Int) < val.size) = false := decide_eq_false (by omega)
          rw [decide_eq_true hv, Bool.true_and] at F
          by_cases ht : rcp.toList = []
          · have e1 : rcp.toList.isEmpty = true := by rw [ht]; rfl
            rw [e1, Bool.true_and] at F
            by_cases ham : amt = 0
            · subst ham
              replace F : fld = true := by rw [F]; rfl
              have ha : ¬ (4611686018427387903 < 0) := by omega
              by_cases hn : 4611686018427387903 < non
              · have H : Hid (chk = 2) := t2 hkk F (Or.inr hn)
                have hn' : (4611686018427387903 : Int) < non := by omega
                clear t3 t2 tr tw F hkk hX
                clear ck1 ck2 hR0 hW0 hn ha
                go_enter Tryz.func89, Tryz.ntmps89
                go_wp2_with fail
                refine (cF _).mono ?_
                rintro e w0 ⟨rfl, hw1⟩
                subst hw1
                go_wp2_with fail
                refine (cK _).mono ?_
                rintro e w1 ⟨rfl, hw1⟩
                subst hw1
                go_wp2
                go_ret
                exact ⟨by rw [H.out]; rfl, hB⟩
              have hn' : (non : Int) ≤ 4611686018427387903 := by omega
              by_cases hz : keysL rs = 0
              · have H : Hid (chk = keysL ws) := tw hkk F (by omega) (by omega) hz
                simp only [hz] at ck1
                generalize keysL ws = n2 at ck2 H
                clear t3 t2 tr tw F hkk hz hn ha
                go_enter Tryz.func89, Tryz.ntmps89
                go_wp2_with fail
                refine (cF _).mono ?_
                rintro e w0 ⟨rfl, hw1⟩
                subst hw1
                go_wp2_with fail
                refine (cK _).mono ?_
                rintro e w1 ⟨rfl, hw1⟩
                subst hw1
                go_wp2_with fail
                refine (ck1 _ hR0).mono ?_
                rintro e w5 ⟨rfl, hb5⟩
                have hB5 := hB.trans (hb5.mono hB.size)
                have x8 := (hX.below hb5 hX.lt).cell (i := 8) rfl
                have hW5 := hW0.below hb5
                clear hb5 hX hW0 hR0 ck1
                go_wp2_with fail
                refine (ck2 _ hW5).mono ?_
                rintro e w6 ⟨rfl, hb6⟩
                have hB6 := hB5.trans (hb6.mono hB5.size)
                clear hb6 hB5 hW5 ck2
                go_wp2
                go_ret
                exact ⟨by rw [H.out]; rfl, hB6⟩
              · have H : Hid (chk = keysL rs) := tr hkk F (by omega) (by omega) hz
                have hz' : ((keysL rs : Int) == 0) = false := beq_eq_false_iff_ne.2 (by omega)
                generalize keysL rs = n2 at ck1 H hz'
                clear t3 t2 tr tw F hkk hz hn ha ck2
                go_enter Tryz.func89, Tryz.ntmps89
                go_wp2_with fail
                refine (cF _).mono ?_
                rintro e w0 ⟨rfl, hw1⟩
                subst hw1
                go_wp2_with fail
                refine (cK _).mono ?_
                rintro e w1 ⟨rfl, hw1⟩
                subst hw1
                go_wp2_with fail
                refine (ck1 _ hR0).mono ?_
                rintro e w5 ⟨rfl, hb5⟩
                have hB5 := hB.trans (hb5.mono hB.size)
                clear hb5 hX hW0 hR0 ck1
                go_wp2
                go_ret
                exact ⟨by rw [H.out]; rfl, hB5⟩
            · have ha' : ((amt : Int) != 0) = true := by rw [bne_iff_ne]; omega
              rw [decide_eq_false ham] at F
              have H : Hid (chk = 3) := t3 hkk F
              clear t3 t2 tr tw F hkk hX
              clear ck1 ck2 hR0 hW0
              go_enter Tryz.func89, Tryz.ntmps89
              go_wp2_with fail
              refine (cF _).mono ?_
              rintro e w0 ⟨rfl, hw1⟩
              subst hw1
              go_wp2_with fail
              refine (cK _).mono ?_
              rintro e w1 ⟨rfl, hw1⟩
              subst hw1
              go_wp2
              go_ret
              exact ⟨by rw [H.out]; rfl, hB⟩
          · have e1 : rcp.toList.isEmpty = false := by simpa using ht
            replace F : fld = false := by rw [F, e1]; rfl
            have H : Hid (chk = 3) := t3 hkk F
            clear t3 t2 tr tw F hkk hX
            clear ck1 ck2 hR0 hW0
            go_enter Tryz.func89, Tryz.ntmps89
            go_wp2_with fail
            refine (cF _).mono ?_
            rintro e w0 ⟨rfl, hw1⟩
            subst hw1
            go_wp2_with fail
            refine (cK _).mono ?_
            rintro e w1 ⟨rfl, hw1⟩
            subst hw1
            go_wp2
            go_ret
            exact ⟨by rw [H.out]; rfl, hB⟩
        · have hv' : (64 : Int) < val.size := by omega
          replace F : fld = false := by rw [F, decide_eq_false hv]; rfl
          have H : Hid (chk = 3) := t3 hkk F
          clear t3 t2 tr tw F hkk hX
          clear ck1 ck2 hR0 hW0
          go_enter Tryz.func89, Tryz.ntmps89
          go_wp2_with fail
          refine (cF _).mono ?_
          rintro e w0 ⟨rfl, hw1⟩
          subst hw1
          go_wp2_with fail
          refine (cK _).mono ?_
          rintro e w1 ⟨rfl, hw1⟩
          subst hw1
          go_wp2
          go_ret
          exact ⟨by rw [H.out]; rfl, hB⟩
end Go.Proofs.YtajpfkenhchafaaGreatDoor

/- What tuskref01.Int does: the same bytes of a number; nothing old in memory is turned. -/
namespace Go.Proofs.YtajpfkenhchafaaGreatDoor
open Go.RowKit

theorem bcell {W w1 : World} (hb : Below W.heap.size W w1) : ∀ b o, b < W.heap.size → w1.cell? ⟨b, o, none⟩ = W.cell? ⟨b, o, none⟩ :=
  fun b o h => hb.cell (p := ⟨b, o, none⟩) h

theorem conv_byte {w : World} {b : Nat} {x : Nat} (hx : x < 256) (h : w.cell? ⟨b, 0, none⟩ = some (.int .u8 (x : Int))) :
    (convert 65 9 (.slice (some ⟨b, 0, none⟩) 1 1)).run Tryz.prog w = .ok (.string ⟨#[UInt8.ofNat x]⟩) w := by
  have := run_convert_bytes_back w 65 9 5 ⟨b, 0, none⟩ 1 [UInt8.ofNat x] Tryz.underlying65 Tryz.underlying5 Tryz.underlying9 (fun j hj => by
    have : j = 0 := by simp at hj; omega
    subst this
    have e : (UInt8.ofNat x).toNat = x := by simp; omega
    simp only [List.getElem_cons_zero, e]
    simpa [Addr.add] using h)
  exact this

set_option maxRecDepth 100000 in
set_option maxHeartbeats 1000000 in
theorem refInt_no (n : Int) (w : World) (h : n < 0 ∨ 4611686018427387903 < n) :
    Calls Tryz.prog 41 #[.int .i64 n] w fun e w' => e = .returned (.string ⟨#[]⟩) ∧ w' = w := by
  rcases h with h | h
  · go_enter Tryz.func41, Tryz.ntmps41
    go_wp2
    go_ret
    exact ⟨rfl, rfl⟩
  · have h0 : ¬ n < 0 := by omega
    go_enter Tryz.func41, Tryz.ntmps41
    go_wp2
    go_ret
    exact ⟨rfl, rfl⟩

set_option maxRecDepth 100000 in
set_option maxHeartbeats 1000000 in
theorem refInt_small (n : Nat) (w : World) (h : n < 128) :
    Calls Tryz.prog 41 #[.int .i64 n] w fun e w' => e = .returned (.string ⟨(enc n).toArray⟩) ∧ Below w.heap.size w w' := by
  have h0 : ¬ (n : Int) < 0 := by omega
  have h1 : ¬ (4611686018427387903 : Int) < n := by omega
  have h2 : (n : Int) < 128 := by omega
  have hcv : ∀ (w : World) (b : Nat), w.cell? ⟨b, 0, none⟩ = some (.int .u8 (n : Int)) → (convert 65 9 (.slice (some ⟨b, 0, none⟩) 1 1)).run Tryz.prog w = .ok (.string ⟨#[UInt8.ofNat n]⟩) w := fun w b hc => conv_byte (by omega) hc
  have HE : Hid (enc n = [UInt8.ofNat n]) := enc_small n h
  go_enter Tryz.func41, Tryz.ntmps41
  go_wp2
  go_ret
  exact ⟨by rw [HE.out]; rfl, (Below.refl _ _).alloc (Nat.le_refl _) _⟩

set_option maxRecDepth 100000 in
set_option maxHeartbeats 1000000 in
theorem refInt_big (n : Nat) (w : World) (h : 128 ≤ n) (hn : n ≤ 4611686018427387903)
    (ih : ∀ w, Calls Tryz.prog 41 #[.int .i64 ((n / 128 : Nat) : Int)] w fun e w' => e = .returned (.string ⟨(enc (n / 128)).toArray⟩) ∧ Below w.heap.size w w') :
    Calls Tryz.prog 41 #[.int .i64 n] w fun e w' => e = .returned (.string ⟨(enc n).toArray⟩) ∧ Below w.heap.size w w' := by
  have h0 : ¬ (n : Int) < 0 := by omega
  have h1 : ¬ (4611686018427387903 : Int) < n := by omega
  have h2 : ¬ (n : Int) < 128 := by omega
  obtain ⟨r, hr⟩ : ∃ r, r = n % 128 := ⟨_, rfl⟩
  obtain ⟨c, hc⟩ : ∃ c, c = 128 + r := ⟨_, rfl⟩
  obtain ⟨m, hm⟩ : ∃ m, m = n / 128 := ⟨_, rfl⟩
  have e1 : (n : Int).tmod 128 = (r : Int) := by rw [Int.tmod_eq_emod_of_nonneg (by omega)]; omega
  have e2 : IntKind.i64.wrap (128 + (r : Int)) = (c : Int) := by simp [IntKind.wrap, IntKind.bits, IntKind.signed]; omega
  have e3 : IntKind.u8.wrap (c : Int) = (c : Int) := by rw [IntKind.wrap_u8']; omega
  have e4 : IntKind.i64.wrap ((n : Int) / 128) = (m : Int) := by simp [IntKind.wrap, IntKind.bits, IntKind.signed]; omega
  have hcv : ∀ (w : World) (b : Nat), w.cell? ⟨b, 0, none⟩ = some (.int .u8 (c : Int)) → (convert 65 9 (.slice (some ⟨b, 0, none⟩) 1 1)).run Tryz.prog w = .ok (.string ⟨#[UInt8.ofNat c]⟩) w := fun w b hc => conv_byte (by omega) hc
  have HE : Hid (enc n = UInt8.ofNat c :: enc m) := by
    show _ = _
    rw [hc, hr, hm]; exact enc_big n h
  have IH : Hid (∀ w, Calls Tryz.prog 41 #[.int .i64 (m : Int)] w fun e w' => e = .returned (.string ⟨(enc m).toArray⟩) ∧ Below w.heap.size w w') := by
    rw [hm]; exact ih
  have hl := enc_length_nine m (by omega)
  clear ih hr hc hm
  generalize enc m = tl at *
  have e5 : (⟨#[UInt8.ofNat c]⟩ ++ ⟨tl.toArray⟩ : ByteArray) = ⟨(enc n).toArray⟩ := by
    rw [HE.out]; exact ByteArray.mk_append_mk [UInt8.ofNat c] tl
  go_enter Tryz.func41, Tryz.ntmps41
  go_wp2_with fail
  go_region_with (go_at_call 41; refine (IH.out _).mono ?_; rintro e w' ⟨rfl, hb⟩; have hcl := bcell hb)
  · have hbw : Below w.heap.size w w' := (((Below.refl _ w).alloc (Nat.le_refl _) _).drew).trans (hb.mono (by simp))
    clear hb hcl
    go_wp2
    go_ret
    exact ⟨rfl, hbw⟩
  · have hbw : Below w.heap.size w w' := (((Below.refl _ w).alloc (Nat.le_refl _) _).drew).trans (hb.mono (by simp))
    clear hb hcl
    go_wp2
    go_ret
    exact ⟨rfl, hbw⟩
  · have hbw : Below w.heap.size w w' := ((Below.refl _ w).drew).trans hb
    clear hb hcl
    go_wp2
    go_ret
    exact ⟨rfl, hbw.alloc hbw.size _⟩

theorem refInt_yes : ∀ (n : Nat) (w : World), n ≤ 4611686018427387903 →
    Calls Tryz.prog 41 #[.int .i64 n] w fun e w' => e = .returned (.string ⟨(enc n).toArray⟩) ∧ Below w.heap.size w w' := by
  intro n
  induction n using Nat.strongRecOn with
  | _ n ih =>
    intro w hn
    by_cases h : n < 128
    · exact refInt_small n w h
    · exact refInt_big n w (by omega) hn (fun w => ih (n / 128) (by omega) w (by omega))

theorem refInt_any (n : Int) (w : World) :
    Calls Tryz.prog 41 #[.int .i64 n] w fun e w' => e = .returned (.string ⟨(goInt n).toArray⟩) ∧ Below w.heap.size w w' := by
  by_cases h : 0 ≤ n ∧ n ≤ 4611686018427387903
  · obtain ⟨m, rfl⟩ := Int.eq_ofNat_of_zero_le h.1
    have e : goInt (m : Int) = enc m := by rw [goInt, if_pos h]; simp
    rw [e]
    exact refInt_yes m w (by omega)
  · have e : goInt n = [] := by rw [goInt, if_neg h]
    rw [e]
    refine (refInt_no n w (by omega)).mono ?_
    rintro e w' ⟨rfl, rfl⟩
    exact ⟨rfl, Below.refl _ _⟩
end Go.Proofs.YtajpfkenhchafaaGreatDoor

/- What tuskref01.GetInt does: it answers as the number at the front of bytes is defined; memory stands. -/
namespace Go.Proofs.YtajpfkenhchafaaGreatDoor
open Go.RowKit

def val : List UInt8 → Nat
  | [] => 0
  | c :: r => c.toNat % 128 + 128 * val r
end Go.Proofs.YtajpfkenhchafaaGreatDoor

/- tusklaw01.WireInts answers true at every number and every string; nothing old in memory is turned. -/
namespace Go.Proofs.YtajpfkenhchafaaGreatDoor
open Go.RowKit
end Go.Proofs.YtajpfkenhchafaaGreatDoor

/- What tuskref01.Text and tuskref01.GetText do. -/
namespace Go.Proofs.YtajpfkenhchafaaGreatDoor
open Go.RowKit

set_option maxRecDepth 100000 in
set_option maxHeartbeats 400000 in
theorem refText_any (s : ByteArray) (w : World) (hs : s.size ≤ 140737488351232000) :
    Calls Tryz.prog 40 #[.string s] w fun e w' => e = .returned (.string ⟨(txt s.data.toList).toArray⟩) ∧ Below w.heap.size w w' := by
  have hg := goInt_length s.size
  have e1 : ∀ l : List UInt8, l = goInt s.size → Value.string (⟨l.toArray⟩ ++ s) = Value.string ⟨(txt s.data.toList).toArray⟩ := by
    rintro l rfl
    rw [append_list, txt]
    simp
  go_enter Tryz.func40, Tryz.ntmps40
  go_wp2_with fail
  refine (refInt_any _ _).mono ?_
  rintro e w' ⟨rfl, hb⟩
  obtain ⟨l, hl⟩ : ∃ l, l = goInt s.size := ⟨_, rfl⟩
  rw [← hl] at hg ⊢
  have E := e1 l hl
  clear e1 hl
  go_wp2
  go_ret
  exact ⟨rfl, hb⟩
end Go.Proofs.YtajpfkenhchafaaGreatDoor

/- What tuskref01.List and tuskref01.GetList do. -/
namespace Go.Proofs.YtajpfkenhchafaaGreatDoor
open Go.RowKit
end Go.Proofs.YtajpfkenhchafaaGreatDoor
