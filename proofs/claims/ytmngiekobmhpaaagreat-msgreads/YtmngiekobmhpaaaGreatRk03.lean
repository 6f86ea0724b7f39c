/- Texts as one: TxName, TxCheck, TxArr, TxRight, Bld, TxEncode. -/
import Derived.Test.YtmngiekobmhpaaaGreatRk02
import Derived.Below
import Derived.Laws.Rows
import Derived.Laws.Tables
import Derived.WalkSmall
/- What isName, strings.CutPrefix and isKey do; memory stands. -/
namespace Go.Proofs.YtmngiekobmhpaaaGreat
open Go.RowKit
set_option linter.unusedVariables false

theorem all_take_succ (s : ByteArray) (k : Nat) (h : k < s.size) (p : UInt8 → Bool) : (s.data.toList.take (k + 1)).all p = ((s.data.toList.take k).all p && p s[k]) := by
  rw [List.take_succ_eq_append_getElem (by simpa using h), List.all_append]
  simp
  rfl

theorem all_of_take (s : ByteArray) (k : Nat) (h : k < s.size) (p : UInt8 → Bool) (hp : p s[k] = false) : s.data.toList.all p = false := by
  have e : s.data.toList = s.data.toList.take (k + 1) ++ s.data.toList.drop (k + 1) := by rw [List.take_append_drop]
  rw [e, List.all_append, all_take_succ s k h, hp]
  simp

set_option maxRecDepth 100000 in
set_option maxHeartbeats 1000000 in
theorem isName_any (s : ByteArray) (w : World) :
    Calls Tryz.prog 136 #[.string s] w fun e w' => e = .returned (.bool (isNm s)) ∧ w' = w := by
  by_cases h1 : s.size < 1
  · have H : Hid (isNm s = false) := by show _ = _; simp [isNm]; intro h; omega
    have h1' : (s.size : Int) < 1 := by omega
    go_enter Tryz.func136, Tryz.ntmps136
    go_wp2
    go_ret
    exact ⟨by rw [H.out]; rfl, rfl⟩
  by_cases h2 : 32 < s.size
  · have H : Hid (isNm s = false) := by show _ = _; simp [isNm]; intro _ h; omega
    have h1' : ¬ (s.size : Int) < 1 := by omega
    have h2' : (32 : Int) < s.size := by omega
    go_enter Tryz.func136, Tryz.ntmps136
    go_wp2
    go_ret
    exact ⟨by rw [H.out]; rfl, rfl⟩
  have HN : Hid (isNm s = s.data.toList.all nameByte) := by
    show _ = _
    unfold isNm
    rw [decide_eq_true (by omega), decide_eq_true (by omega)]
    rfl
  have h1' : ¬ (s.size : Int) < 1 := by omega
  have h2' : ¬ (32 : Int) < s.size := by omega
  go_enter Tryz.func136, Tryz.ntmps136
  go_wp2
  go_loop [16] (fun v => ∃ k : Nat, k ≤ s.size ∧ v = .int .i64 k ∧ Hid ((s.data.toList.take k).all nameByte = true)) (fun v => s.size - (intOf v).toNat)
  case atStart => exact ⟨0, by omega, rfl, by show _ = _; simp⟩
  case round =>
    obtain ⟨k, hk, rfl, hall⟩ := hrel
    by_cases hlt : k < s.size
    · obtain ⟨c, hc⟩ : ∃ c, s[k].toNat = c := ⟨_, rfl⟩
      have hY : (97 ≤ c ∧ c ≤ 122 ∨ 48 ≤ c ∧ c ≤ 57) → Hid ((s.data.toList.take (k + 1)).all nameByte = true) := by
        intro h
        show _ = _
        rw [all_take_succ s k hlt, hall.out]
        unfold nameByte
        rw [hc]
        simp only [Bool.true_and, Bool.or_eq_true, Bool.and_eq_true, decide_eq_true_eq]
        exact h
      have hN : ¬ (97 ≤ c ∧ c ≤ 122 ∨ 48 ≤ c ∧ c ≤ 57) → Hid (isNm s = false) := by
        intro h
        show _ = _
        rw [HN.out]
        refine all_of_take s k hlt _ ?_
        unfold nameByte
        rw [hc]
        simp only [Bool.or_eq_false_iff, Bool.and_eq_false_iff, decide_eq_false_iff_not]
        omega
      clear hall
      have hI : ((c : Int) < 48 ∧ (c : Int) ≤ 57 ∧ (c : Int) < 97 ∧ (c : Int) ≤ 122) ∨ ((48 : Int) ≤ c ∧ (57 : Int) < c ∧ (c : Int) < 97 ∧ (c : Int) ≤ 122) ∨ ((48 : Int) ≤ c ∧ (57 : Int) < c ∧ (97 : Int) ≤ c ∧ (122 : Int) < c) ∨
          ((48 : Int) ≤ c ∧ (c : Int) ≤ 57 ∧ (c : Int) < 97 ∧ (c : Int) ≤ 122) ∨ ((48 : Int) ≤ c ∧ (57 : Int) < c ∧ (97 : Int) ≤ c ∧ (c : Int) ≤ 122) := by omega
      rcases hI with ⟨i1, i2, i3, i4⟩ | ⟨i1, i2, i3, i4⟩ | ⟨i1, i2, i3, i4⟩ | ⟨i1, i2, i3, i4⟩ | ⟨i1, i2, i3, i4⟩
      · have H := hN (by omega)
        clear hY hN
        go_wp2
        go_ret
        exact ⟨by rw [H.out]; rfl, rfl⟩
      · have H := hN (by omega)
        clear hY hN
        have d57 : decide ((c : Int) ≤ 57) = false := decide_eq_false (by omega)
        go_wp2
        go_ret
        exact ⟨by rw [H.out]; rfl, rfl⟩
      · have H := hN (by omega)
        clear hY hN
        have d122 : decide ((c : Int) ≤ 122) = false := decide_eq_false (by omega)
        have d57 : decide ((c : Int) ≤ 57) = false := decide_eq_false (by omega)
        go_wp2
        go_ret
        exact ⟨by rw [H.out]; rfl, rfl⟩
      · have H := hY (by omega)
        clear hY hN
        go_wp2
        go_round
        case rel => exact ⟨k + 1, by omega, by go_num, H⟩
        case measure => simp [intOf]; omega
      · have H := hY (by omega)
        clear hY hN
        go_wp2
        go_round
        case rel => exact ⟨k + 1, by omega, by go_num, H⟩
        case measure => simp [intOf]; omega
    · have H : Hid (isNm s = true) := by
        show _ = _
        rw [HN.out, ← hall.out, List.take_of_length_le (by simp; omega)]
      go_wp2
      go_ret
      exact ⟨by rw [H.out]; rfl, rfl⟩

set_option maxRecDepth 100000 in
set_option maxHeartbeats 400000 in
theorem hasPrefix_any (s p : ByteArray) (w : World) :
    Calls Tryz.prog 144 #[.string s, .string p] w fun e w' => e = .returned (.bool (cutOk s p)) ∧ w' = w := by
  unfold cutOk
  by_cases h : p.size ≤ s.size
  · have h' : (p.size : Int) ≤ s.size := by omega
    go_enter Tryz.func144, Tryz.ntmps144
    go_wp2
    go_ret
    exact ⟨by simp; intro _; exact h, rfl⟩
  · have h' : ¬ (p.size : Int) ≤ s.size := by omega
    go_enter Tryz.func144, Tryz.ntmps144
    go_wp2
    go_ret
    exact ⟨by simp, rfl⟩

theorem cutOk_size {s p : ByteArray} (h : cutOk s p = true) : p.size ≤ s.size := by
  unfold cutOk at h
  simp at h
  exact h.1

set_option maxRecDepth 100000 in
set_option maxHeartbeats 400000 in
theorem cut_in (s p : ByteArray) (w : World) :
    Calls Tryz.prog 143 #[.string s, .string p] w fun e w' => e = .returned (.tuple #[.string (if cutOk s p then s.extract p.size s.size else s), .bool (cutOk s p)]) ∧ w' = w := by
  cases hc : cutOk s p with
  | true =>
    have h := cutOk_size hc
    have h' : (p.size : Int) ≤ s.size := by omega
    have cs := hasPrefix_any s p
    rw [hc] at cs
    go_enter Tryz.func143, Tryz.ntmps143
    go_wp2_with fail
    refine (cs _).mono ?_
    rintro e w' ⟨rfl, rfl⟩
    go_wp2
    go_ret2
    exact ⟨by simp, rfl⟩
  | false =>
    have cs := hasPrefix_any s p
    rw [hc] at cs
    go_enter Tryz.func143, Tryz.ntmps143
    go_wp2_with fail
    refine (cs _).mono ?_
    rintro e w' ⟨rfl, rfl⟩
    go_wp2
    go_ret2
    exact ⟨by simp, rfl⟩

set_option maxRecDepth 100000 in
set_option maxHeartbeats 400000 in
theorem cut_any (s p : ByteArray) (w : World) :
    Calls Tryz.prog 142 #[.string s, .string p] w fun e w' => e = .returned (.tuple #[.string (if cutOk s p then s.extract p.size s.size else s), .bool (cutOk s p)]) ∧ w' = w := by
  have cs := cut_in s p
  generalize (if cutOk s p then s.extract p.size s.size else s) = u at cs ⊢
  generalize cutOk s p = b at cs ⊢
  go_enter Tryz.func142, Tryz.ntmps142
  go_wp2_with fail
  refine (cs _).mono ?_
  rintro e w' ⟨rfl, rfl⟩
  go_wp2
  go_ret2
  exact ⟨rfl, rfl⟩

set_option maxRecDepth 100000 in
set_option maxHeartbeats 400000 in
theorem isKey_any (s : ByteArray) (w : World) :
    Calls Tryz.prog 137 #[.string s] w fun e w' => e = .returned (.bool (isKy s)) ∧ w' = w := by
  cases ha : cutOk s aP with
  | true =>
    have ca : ∀ w, Calls Tryz.prog 142 #[.string s, .string ⟨#[97, 58]⟩] w fun e w' => e = .returned (.tuple #[.string (s.extract 2 s.size), .bool true]) ∧ w' = w := fun w => by
      have h := cut_any s aP w
      rw [ha, if_pos rfl] at h
      exact h
    have cn := isName_any (s.extract 2 s.size)
    have H : Hid (isKy s = isNm (s.extract 2 s.size)) := by show _ = _; unfold isKy; rw [ha]; rfl
    generalize isNm (s.extract 2 s.size) = b at cn H
    generalize s.extract 2 s.size = u at cn ca
    go_enter Tryz.func137, Tryz.ntmps137
    go_wp2_with fail
    refine (ca _).mono ?_
    rintro e w' ⟨rfl, rfl⟩
    go_wp2_with fail
    refine (cn _).mono ?_
    rintro e w' ⟨rfl, rfl⟩
    go_wp2
    go_ret
    exact ⟨by rw [H.out]; rfl, rfl⟩
  | false =>
    have ca : ∀ w, Calls Tryz.prog 142 #[.string s, .string ⟨#[97, 58]⟩] w fun e w' => e = .returned (.tuple #[.string s, .bool false]) ∧ w' = w := fun w => by
      have h := cut_any s aP w
      rw [ha, if_neg (by simp)] at h
      exact h
    cases hk : cutOk s kP with
    | true =>
      have ck : ∀ w, Calls Tryz.prog 142 #[.string s, .string ⟨#[107, 58]⟩] w fun e w' => e = .returned (.tuple #[.string (s.extract 2 s.size), .bool true]) ∧ w' = w := fun w => by
        have h := cut_any s kP w
        rw [hk, if_pos rfl] at h
        exact h
      have cn := isName_any (s.extract 2 s.size)
      have H : Hid (isKy s = isNm (s.extract 2 s.size)) := by show _ = _; unfold isKy; rw [ha, hk]; rfl
      generalize isNm (s.extract 2 s.size) = b at cn H
      generalize s.extract 2 s.size = u at cn ck
      go_enter Tryz.func137, Tryz.ntmps137
      go_wp2_with fail
      refine (ca _).mono ?_
      rintro e w' ⟨rfl, rfl⟩
      go_wp2_with fail
      refine (ck _).mono ?_
      rintro e w' ⟨rfl, rfl⟩
      go_wp2_with fail
      refine (cn _).mono ?_
      rintro e w' ⟨rfl, rfl⟩
      go_wp2
      go_ret
      exact ⟨by rw [H.out]; rfl, rfl⟩
    | false =>
      have ck : ∀ w, Calls Tryz.prog 142 #[.string s, .string ⟨#[107, 58]⟩] w fun e w' => e = .returned (.tuple #[.string s, .bool false]) ∧ w' = w := fun w => by
        have h := cut_any s kP w
        rw [hk, if_neg (by simp)] at h
        exact h
      have H : Hid (isKy s = false) := by show _ = _; unfold isKy; rw [ha, hk]; rfl
      go_enter Tryz.func137, Tryz.ntmps137
      go_wp2_with fail
      refine (ca _).mono ?_
      rintro e w' ⟨rfl, rfl⟩
      go_wp2_with fail
      refine (ck _).mono ?_
      rintro e w' ⟨rfl, rfl⟩
      go_wp2
      go_ret
      exact ⟨by rw [H.out]; rfl, rfl⟩
end Go.Proofs.YtmngiekobmhpaaaGreat

/- What checkKeys, fieldsRight and Check do; nothing old in memory is turned. -/
namespace Go.Proofs.YtmngiekobmhpaaaGreat
open Go.RowKit
set_option linter.unusedVariables false

set_option maxRecDepth 100000 in
set_option maxHeartbeats 1000000 in
theorem checkKeys_any (ao : Option Addr) (cap : Nat) (ss : List ByteArray) (w : World) (hc : StrsAt w ao ss) :
    Calls Tryz.prog 128 #[.slice ao ss.length cap] w fun e w' => e = .returned (.int .i64 (keysL ss : Int)) ∧ w' = w := by
  by_cases h8 : 8 < ss.length
  · have H : Hid (keysL ss = 8) := by show _ = _; unfold keysL; rw [if_pos h8]
    have h8' : (8 : Int) < ss.length := by omega
    go_enter Tryz.func128, Tryz.ntmps128
    go_wp2
    go_ret
    exact ⟨by rw [H.out]; rfl, rfl⟩
  have h8' : ¬ (8 : Int) < ss.length := by omega
  have HK : Hid (keysL ss = keysGo ⟨#[]⟩ ss) := by show _ = _; unfold keysL; rw [if_neg h8]
  go_enter Tryz.func128, Tryz.ntmps128
  go_wp2
  go_loop [3, 11] (fun v3 v11 => ∃ (k : Nat) (a : ByteArray), k ≤ ss.length ∧ v11 = .int .i64 k ∧ v3 = .string a ∧ Hid (keysL ss = keysGo a (ss.drop k))) (fun _ v => ss.length - (intOf v).toNat)
  case atStart => exact ⟨0, ⟨#[]⟩, by omega, rfl, rfl, HK⟩
  case round =>
    obtain ⟨k, a, hk, rfl, rfl, hK⟩ := hrel
    by_cases hlt : k < ss.length
    · obtain ⟨b, off, rfl, hbl, hcell⟩ := hc k hlt
      have hd : ss.drop k = ss[k] :: ss.drop (k + 1) := List.drop_eq_getElem_cons hlt
      have hK2 := hK.out
      rw [hd, keysGo] at hK2
      have cn := isKey_any ss[k]
      obtain ⟨x, hx⟩ : ∃ x, x = ss[k] := ⟨_, rfl⟩
      rw [← hx] at hK2 cn hcell
      clear hK hd hx HK
      cases hky : isKy x with
      | false =>
        have H : Hid (keysL ss = 3) := by show _ = _; rw [hK2, if_pos hky]
        rw [hky] at cn
        clear hK2 hky
        go_wp2_with fail
        refine (cn _).mono ?_
        rintro e w' ⟨rfl, rfl⟩
        go_wp2
        go_ret
        exact ⟨by rw [H.out]; rfl, rfl⟩
      | true =>
        rw [hky] at cn
        rw [if_neg (by rw [hky]; simp)] at hK2
        cases hle : (Op.bytesLess x.toList a.toList || x.toList == a.toList) with
        | true =>
          have H : Hid (keysL ss = 9) := by show _ = _; rw [hK2, if_pos hle]
          clear hK2 hky
          go_wp2_with fail
          refine (cn _).mono ?_
          rintro e w' ⟨rfl, rfl⟩
          go_wp2
          go_ret
          exact ⟨by rw [H.out]; rfl, rfl⟩
        | false =>
          have H : Hid (keysL ss = keysGo x (ss.drop (k + 1))) := by show _ = _; rw [hK2, if_neg (by rw [hle]; simp)]
          clear hK2 hky
          go_wp2_with fail
          refine (cn _).mono ?_
          rintro e w' ⟨rfl, rfl⟩
          go_wp2
          go_round
          case rel => exact ⟨k + 1, x, by omega, by go_num, rfl, H⟩
          case measure => simp [intOf]; omega
    · have H : Hid (keysL ss = 0) := by
        show _ = _
        rw [hK.out, List.drop_of_length_le (by omega), keysGo]
      clear hK
      go_wp2
      go_ret
      exact ⟨by rw [H.out]; rfl, rfl⟩

theorem bemp (s : ByteArray) : (s.toList == []) = s.toList.isEmpty := by cases s.toList <;> rfl

set_option maxRecDepth 100000 in
set_option maxHeartbeats 1000000 in
theorem fieldsRight_any (d : TxD) (ra : Option Addr) (rc : Nat) (wa : Option Addr) (wc : Nat) (w : World) :
    Calls Tryz.prog 127 #[txV d ra rc wa wc] w fun e w' => e = .returned (.bool (fieldsR d)) ∧ Below w.heap.size w w' := by
  obtain ⟨kind, frm, to, amt, non, key, val, rs, ws⟩ := d
  have hB : ∀ c, Below w.heap.size w (w.alloc c) := fun c => (Below.refl w.heap.size w).alloc (Nat.le_refl _) c
  unfold txV
  have c1 := isName_any frm
  cases h1 : isNm frm with
  | false =>
    have H : Hid (fieldsR ⟨kind, frm, to, amt, non, key, val, rs, ws⟩ = false) := by show _ = _; simp [fieldsR, h1]
    rw [h1] at c1
    go_enter Tryz.func127, Tryz.ntmps127
    go_wp2_with fail
    refine (c1 _).mono ?_
    rintro e w' ⟨rfl, rfl⟩
    go_wp2
    go_ret
    exact ⟨by rw [H.out]; rfl, hB _⟩
  | true =>
    rw [h1] at c1
    by_cases hk : kind = 1
    · subst hk
      have c2 := isName_any to
      have H : Hid (fieldsR ⟨1, frm, to, amt, non, key, val, rs, ws⟩ = (isNm to && key.toList.isEmpty && val.toList.isEmpty)) := by show _ = _; simp only [fieldsR, h1, bemp]; simp
      generalize isNm to = b2 at c2 H
      cases b2 with
      | false =>
        go_enter Tryz.func127, Tryz.ntmps127
        go_wp2_with fail
        refine (c1 _).mono ?_
        rintro e w' ⟨rfl, rfl⟩
        go_wp2_with fail
        refine (c2 _).mono ?_
        rintro e w' ⟨rfl, rfl⟩
        go_wp2
        go_ret
        exact ⟨by rw [H.out]; rfl, hB _⟩
      | true =>
        by_cases hkey : key.toList = []
        · have hke : key.toList.isEmpty = true := by rw [hkey]; rfl
          rw [hke] at H
          replace H : Hid (fieldsR ⟨1, frm, to, amt, non, key, val, rs, ws⟩ = val.toList.isEmpty) := H
          go_enter Tryz.func127, Tryz.ntmps127
          go_wp2_with fail
          refine (c1 _).mono ?_
          rintro e w' ⟨rfl, rfl⟩
          go_wp2_with fail
          refine (c2 _).mono ?_
          rintro e w' ⟨rfl, rfl⟩
          go_wp2
          go_ret
          exact ⟨by rw [H.out]; rfl, hB _⟩
        · have hke : key.toList.isEmpty = false := by simpa using hkey
          rw [hke] at H
          replace H : Hid (fieldsR ⟨1, frm, to, amt, non, key, val, rs, ws⟩ = false) := H
          go_enter Tryz.func127, Tryz.ntmps127
          go_wp2_with fail
          refine (c1 _).mono ?_
          rintro e w' ⟨rfl, rfl⟩
          go_wp2_with fail
          refine (c2 _).mono ?_
          rintro e w' ⟨rfl, rfl⟩
          go_wp2
          go_ret
          exact ⟨by rw [H.out]; rfl, hB _⟩
    · have c2 := isName_any key
      have hk1 : (kind == 1) = false := beq_eq_false_iff_ne.2 hk
      have H : Hid (fieldsR ⟨kind, frm, to, amt, non, key, val, rs, ws⟩ = (isNm key && decide (val.size ≤ 64) && to.toList.isEmpty && decide (amt = 0))) := by show _ = _; simp only [fieldsR, h1, bemp, if_neg hk]; simp
      generalize isNm key = b2 at c2 H
      cases b2 with
      | false =>
        go_enter Tryz.func127, Tryz.ntmps127
        go_wp2_with fail
        refine (c1 _).mono ?_
        rintro e w' ⟨rfl, rfl⟩
        go_wp2_with fail
        refine (c2 _).mono ?_
        rintro e w' ⟨rfl, rfl⟩
        go_wp2
        go_ret
        exact ⟨by rw [H.out]; rfl, hB _⟩
      | true =>
        by_cases hv : val.size ≤ 64
        · have hv' : (val.size : Int) ≤ 64 := by omega
          by_cases ht : to.toList = []
          · have hte : to.toList.isEmpty = true := by rw [ht]; rfl
            rw [hte, decide_eq_true hv] at H
            by_cases ha : amt = 0
            · subst ha
              replace H : Hid (fieldsR ⟨kind, frm, to, 0, non, key, val, rs, ws⟩ = true) := H
              go_enter Tryz.func127, Tryz.ntmps127
              go_wp2_with fail
              refine (c1 _).mono ?_
              rintro e w' ⟨rfl, rfl⟩
              go_wp2_with fail
              refine (c2 _).mono ?_
              rintro e w' ⟨rfl, rfl⟩
              go_wp2
              go_ret
              exact ⟨by rw [H.out]; rfl, hB _⟩
            · have ha' : ((amt : Int) == 0) = false := beq_eq_false_iff_ne.2 (by omega)
              rw [decide_eq_false ha] at H
              replace H : Hid (fieldsR ⟨kind, frm, to, amt, non, key, val, rs, ws⟩ = false) := H
              go_enter Tryz.func127, Tryz.ntmps127
              go_wp2_with fail
              refine (c1 _).mono ?_
              rintro e w' ⟨rfl, rfl⟩
              go_wp2_with fail
              refine (c2 _).mono ?_
              rintro e w' ⟨rfl, rfl⟩
              go_wp2
              go_ret
              exact ⟨by rw [H.out]; rfl, hB _⟩
          · have hte : to.toList.isEmpty = false := by simpa using ht
            rw [hte, decide_eq_true hv] at H
            replace H : Hid (fieldsR ⟨kind, frm, to, amt, non, key, val, rs, ws⟩ = false) := H
            go_enter Tryz.func127, Tryz.ntmps127
            go_wp2_with fail
            refine (c1 _).mono ?_
            rintro e w' ⟨rfl, rfl⟩
            go_wp2_with fail
            refine (c2 _).mono ?_
            rintro e w' ⟨rfl, rfl⟩
            go_wp2
            go_ret
            exact ⟨by rw [H.out]; rfl, hB _⟩
        · have hv' : (64 : Int) < val.size := by omega
          rw [decide_eq_false hv] at H
          replace H : Hid (fieldsR ⟨kind, frm, to, amt, non, key, val, rs, ws⟩ = false) := H
          have dv : decide ((val.size : Int) ≤ 64) = false := decide_eq_false (by omega)
          go_enter Tryz.func127, Tryz.ntmps127
          go_wp2_with fail
          refine (c1 _).mono ?_
          rintro e w' ⟨rfl, rfl⟩
          go_wp2_with fail
          refine (c2 _).mono ?_
          rintro e w' ⟨rfl, rfl⟩
          go_wp2
          go_ret
          exact ⟨by rw [H.out]; rfl, hB _⟩
end Go.Proofs.YtmngiekobmhpaaaGreat

/- A block that holds a known row of cells, none of them frozen; what becomes of it by a store, by new blocks, by a draw. -/
namespace Go.Proofs.YtmngiekobmhpaaaGreat
open Go.RowKit

/-- Block g is a row of the cells cs. -/
def Arr (w : World) (g : Nat) (t : TypeId) (cs : List Value) : Prop := w.heap[g]? = some (.cells cs.toArray t (0, 0))

theorem Arr.lt {w : World} {g : Nat} {t : TypeId} {cs : List Value} (h : Arr w g t cs) : g < w.heap.size := by
  unfold Arr at h
  by_cases hl : g < w.heap.size
  · exact hl
  · simp [Nat.not_lt.1 hl] at h

theorem Arr.cell {w : World} {g : Nat} {t : TypeId} {cs : List Value} (h : Arr w g t cs) {i : Nat} {v : Value} (hv : cs[i]? = some v) : w.cell? ⟨g, i, none⟩ = some v := by
  unfold Arr at h
  simp [World.cell?, h, hv]

theorem Arr.frozen {w : World} {g : Nat} {t : TypeId} {cs : List Value} (h : Arr w g t cs) (i : Nat) : w.frozen? ⟨g, i, none⟩ = false := by
  unfold Arr at h
  simp [World.frozen?, h]

theorem Arr.drew {w : World} {g : Nat} {t : TypeId} {cs : List Value} (h : Arr w g t cs) : Arr w.drew g t cs := h
theorem Arr.drewN {w : World} {g : Nat} {t : TypeId} {cs : List Value} (h : Arr w g t cs) (n : Nat) : Arr (w.drewN n) g t cs := h

theorem Arr.alloc {w : World} {g : Nat} {t : TypeId} {cs : List Value} (h : Arr w g t cs) (o : Obj) : Arr (w.alloc o) g t cs := by
  have := h.lt
  unfold Arr at h ⊢
  rw [Below.heap_alloc w o g this, h]

theorem Arr.new (w : World) (t : TypeId) (cs : List Value) : Arr (w.alloc (.cells cs.toArray t)) w.heap.size t cs := heap_alloc_new w _

theorem Arr.other {w : World} {g : Nat} {t : TypeId} {cs : List Value} (h : Arr w g t cs) {p : Addr} (hp : g ≠ p.block) (u : Value) : Arr (w.setCell p u) g t cs := by
  unfold Arr at h ⊢
  rw [Below.heap_setCell w p u g hp, h]

theorem Arr.set {w : World} {g : Nat} {t : TypeId} {cs : List Value} (h : Arr w g t cs) (i : Nat) (u : Value) : Arr (w.setCell ⟨g, i, none⟩ u) g t (cs.set i u) := by
  unfold Arr at h ⊢
  show (w.heap.modify g _)[g]? = _
  rw [Array.getElem?_modify, if_pos rfl, h]
  simp

theorem Arr.row {w : World} {g : Nat} {t : TypeId} {cs : List Value} (h : Arr w g t cs) (c' : List Value) : Arr (w.setRow g c'.toArray) g t c' := by
  unfold Arr at h ⊢
  show (w.heap.modify g _)[g]? = _
  rw [Array.getElem?_modify, if_pos rfl, h]
  simp

theorem below_setRow {B : Nat} {a w : World} (h : Below B a w) {g : Nat} (hg : B ≤ g) (c' : Array Value) : Below B a (w.setRow g c') := by
  refine h.trans ⟨rfl, rfl, rfl, by show _ ≤ (w.heap.modify g _).size; simp, fun k hk => ?_⟩
  show (w.heap.modify g _)[k]? = _
  rw [Array.getElem?_modify, if_neg (by omega)]

theorem Arr.below {w w' : World} {g B : Nat} {t : TypeId} {cs : List Value} (h : Arr w g t cs) (hb : Below B w w') (hg : g < B) : Arr w' g t cs := by
  unfold Arr at h ⊢
  rw [hb.block g hg, h]

theorem alloc_size (w : World) (o : Obj) : (w.alloc o).heap.size = w.heap.size + 1 := by
  show (w.heap.push o).size = _
  simp

theorem two_new (w : World) (t1 t2 : TypeId) (l1 l2 : List Value) :
    Arr ((w.alloc (.cells l1.toArray t1)).alloc (.cells l2.toArray t2)) w.heap.size t1 l1 ∧ Arr ((w.alloc (.cells l1.toArray t1)).alloc (.cells l2.toArray t2)) (w.heap.size + 1) t2 l2
      ∧ Below w.heap.size w ((w.alloc (.cells l1.toArray t1)).alloc (.cells l2.toArray t2)) := by
  refine ⟨(Arr.new _ _ _).alloc _, ?_, ((Below.refl _ w).alloc (Nat.le_refl _) _).alloc (by rw [alloc_size]; omega) _⟩
  have := Arr.new (w.alloc (.cells l1.toArray t1)) t2 l2
  rwa [alloc_size] at this

theorem belowNew (w : World) (c : Obj) : Below w.heap.size w (w.alloc c) := (Below.refl w.heap.size w).alloc (Nat.le_refl _) c

theorem setCell_size (w : World) (p : Addr) (v : Value) : (w.setCell p v).heap.size = w.heap.size := by
  show (w.heap.modify p.block _).size = _
  simp
end Go.Proofs.YtmngiekobmhpaaaGreat

/- What Check does; nothing old in memory is turned. -/
namespace Go.Proofs.YtmngiekobmhpaaaGreat
open Go.RowKit
set_option linter.unusedVariables false

/-- A transaction's nine cells. -/
def txC (d : TxD) (ra : Option Addr) (rc : Nat) (wa : Option Addr) (wc : Nat) : List Value :=
  [.int .i64 d.kind, .string d.frm, .string d.to, .int .u64 (d.amt : Int), .int .u64 (d.non : Int), .string d.key, .string d.val, .slice ra d.rs.length rc, .slice wa d.ws.length wc]

/-- A transaction lies in a block. -/
def TxBox (w : World) (b : Nat) (d : TxD) (ra : Option Addr) (rc : Nat) (wa : Option Addr) (wc : Nat) : Prop := Arr w b 123 (txC d ra rc wa wc)

theorem TxBox.new (w : World) (d : TxD) (ra : Option Addr) (rc : Nat) (wa : Option Addr) (wc : Nat) : TxBox (w.alloc (.cells (txC d ra rc wa wc).toArray 123)) w.heap.size d ra rc wa wc := Arr.new w 123 _

set_option maxRecDepth 100000 in
set_option maxHeartbeats 1000000 in
theorem check_any (d : TxD) (ra : Option Addr) (rc : Nat) (wa : Option Addr) (wc : Nat) (w : World) (hA : TxAt w d ra wa) :
    Calls Tryz.prog 111 #[txV d ra rc wa wc] w fun e w' => e = .returned (.int .i64 (checkL d : Int)) ∧ Below w.heap.size w w' := by
  have hX := TxBox.new w d ra rc wa wc
  have hB := belowNew w (.cells (txC d ra rc wa wc).toArray 123)
  have hA0 := hA.below hB
  have cf := fieldsRight_any d ra rc wa wc (w.alloc (.cells (txC d ra rc wa wc).toArray 123))
  obtain ⟨kind, frm, to, amt, non, key, val, rs, ws⟩ := d
  have HC : Hid (checkL ⟨kind, frm, to, amt, non, key, val, rs, ws⟩ = _) := (rfl : checkL _ = if kind ≠ 1 ∧ kind ≠ 2 then 5 else if fieldsR ⟨kind, frm, to, amt, non, key, val, rs, ws⟩ = false then 3 else if 4611686018427387903 < amt ∨ 4611686018427387903 < non then 2 else if keysL rs ≠ 0 then keysL rs else keysL ws)
  unfold txV at cf ⊢
  by_cases hk : kind ≠ 1 ∧ kind ≠ 2
  · have hk1 : (kind != 1) = true := by simpa using hk.1
    have hk2 : (kind != 2) = true := by simpa using hk.2
    have H : Hid (checkL ⟨kind, frm, to, amt, non, key, val, rs, ws⟩ = 5) := by show _ = _; rw [HC.out, if_pos hk]
    clear HC hA hA0 cf hX
    go_enter Tryz.func111, Tryz.ntmps111
    go_wp2
    go_ret
    exact ⟨by rw [H.out]; rfl, hB⟩
  have hkk : kind = 1 ∨ kind = 2 := by omega
  replace HC : Hid (checkL ⟨kind, frm, to, amt, non, key, val, rs, ws⟩ = _) := (HC.out.trans (if_neg hk) : _ = _)
  have key1 : ∀ kind', kind' = kind → (kind' = 1 ∨ kind' = 2) := by rintro _ rfl; exact hkk
  clear hk
  cases hf : fieldsR ⟨kind, frm, to, amt, non, key, val, rs, ws⟩ with
  | false =>
    have H : Hid (checkL ⟨kind, frm, to, amt, non, key, val, rs, ws⟩ = 3) := by show _ = _; rw [HC.out, if_pos hf]
    rw [hf] at cf
    clear HC hA hA0 hX hf
    rcases hkk with rfl | rfl
    all_goals
      go_enter Tryz.func111, Tryz.ntmps111
      go_wp2_with fail
      refine cf.mono ?_
      rintro e w1 ⟨rfl, hb1⟩
      have hB1 := hB.trans (hb1.mono hB.size)
      clear hb1 cf
      go_wp2
      go_ret
      exact ⟨by rw [H.out]; rfl, hB1⟩
  | true =>
    replace HC : Hid (checkL ⟨kind, frm, to, amt, non, key, val, rs, ws⟩ = _) := (HC.out.trans (if_neg (by rw [hf]; simp)) : _ = _)
    rw [hf] at cf
    clear hf
    by_cases hr : 4611686018427387903 < amt ∨ 4611686018427387903 < non
    · have H : Hid (checkL ⟨kind, frm, to, amt, non, key, val, rs, ws⟩ = 2) := by show _ = _; rw [HC.out, if_pos hr]
      have hr' : ((4611686018427387903 : Int) < amt) ∨ ((amt : Int) ≤ 4611686018427387903 ∧ (4611686018427387903 : Int) < non) := by omega
      clear HC hr
      rcases hkk with rfl | rfl
      all_goals
        rcases hr' with h1 | ⟨h1, h2⟩
        all_goals
          go_enter Tryz.func111, Tryz.ntmps111
          go_wp2_with fail
          refine cf.mono ?_
          rintro e w1 ⟨rfl, hb1⟩
          have hX1 := hX.below hb1 hX.lt
          have hB1 := hB.trans (hb1.mono hB.size)
          have c3 := hX1.cell (i := 3) rfl
          have c4 := hX1.cell (i := 4) rfl
          clear hb1 cf hX1
          go_wp2
          go_ret
          exact ⟨by rw [H.out]; rfl, hB1⟩
    · replace HC : Hid (checkL ⟨kind, frm, to, amt, non, key, val, rs, ws⟩ = _) := (HC.out.trans (if_neg hr) : _ = _)
      have h1 : (amt : Int) ≤ 4611686018427387903 := by omega
      have h2 : (non : Int) ≤ 4611686018427387903 := by omega
      clear hr
      have ck1 : ∀ w1, StrsAt w1 ra rs → Calls Tryz.prog 128 #[.slice ra rs.length rc] w1 fun e w' => e = .returned (.int .i64 (keysL rs : Int)) ∧ w' = w1 := fun w1 h => checkKeys_any ra rc rs w1 h
      have ck2 : ∀ w1, StrsAt w1 wa ws → Calls Tryz.prog 128 #[.slice wa ws.length wc] w1 fun e w' => e = .returned (.int .i64 (keysL ws : Int)) ∧ w' = w1 := fun w1 h => checkKeys_any wa wc ws w1 h
      by_cases hz : keysL rs = 0
      · have H : Hid (checkL ⟨kind, frm, to, amt, non, key, val, rs, ws⟩ = keysL ws) := by show _ = _; rw [HC.out, if_neg (by rw [hz]; simp)]
        rw [hz] at ck1
        clear HC hz
        generalize keysL ws = n2 at ck2 H
        rcases hkk with rfl | rfl
        all_goals
          go_enter Tryz.func111, Tryz.ntmps111
          go_wp2_with fail
          refine cf.mono ?_
          rintro e w1 ⟨rfl, hb1⟩
          have hX1 := hX.below hb1 hX.lt
          have hB1 := hB.trans (hb1.mono hB.size)
          have hA1 := hA0.below hb1
          have hA2 : StrsAt w1 wa ws := hA1.wr
          replace hA1 : StrsAt w1 ra rs := hA1.rd
          have c3 := hX1.cell (i := 3) rfl
          have c4 := hX1.cell (i := 4) rfl
          have c7 := hX1.cell (i := 7) rfl
          have c8 := hX1.cell (i := 8) rfl
          clear hb1 cf hX1 hX hA0 hA
          go_wp2_with fail
          refine (ck1 _ hA1).mono ?_
          rintro e w2 ⟨rfl, rfl⟩
          go_wp2_with fail
          refine (ck2 _ hA2).mono ?_
          rintro e w3 ⟨rfl, rfl⟩
          go_wp2
          go_ret
          exact ⟨by rw [H.out]; rfl, hB1⟩
      · have H : Hid (checkL ⟨kind, frm, to, amt, non, key, val, rs, ws⟩ = keysL rs) := by show _ = _; rw [HC.out, if_pos hz]
        have hz' : ((keysL rs : Int) != 0) = true := by rw [bne_iff_ne]; omega
        clear HC hz
        generalize keysL rs = n2 at ck1 H hz'
        rcases hkk with rfl | rfl
        all_goals
          go_enter Tryz.func111, Tryz.ntmps111
          go_wp2_with fail
          refine cf.mono ?_
          rintro e w1 ⟨rfl, hb1⟩
          have hX1 := hX.below hb1 hX.lt
          have hB1 := hB.trans (hb1.mono hB.size)
          have hA1 := hA0.below hb1
          replace hA1 : StrsAt w1 ra rs := hA1.rd
          have c3 := hX1.cell (i := 3) rfl
          have c4 := hX1.cell (i := 4) rfl
          have c7 := hX1.cell (i := 7) rfl
          clear hb1 cf hX1 hX hA0 hA
          go_wp2_with fail
          refine (ck1 _ hA1).mono ?_
          rintro e w2 ⟨rfl, rfl⟩
          go_wp2
          go_ret
          exact ⟨by rw [H.out]; rfl, hB1⟩
end Go.Proofs.YtmngiekobmhpaaaGreat

/- A strings.Builder of the call's own at work. -/
namespace Go.Proofs.YtmngiekobmhpaaaGreat
open Go.RowKit
set_option linter.unusedVariables false

/-- Block bb is a Builder of the call's own that holds l, block xb ahead of it still a row of the cells cs. -/
structure BldSt (W : World) (xb bb : Nat) (T : TypeId) (cs : List Value) (w : World) (l : List UInt8) : Prop where
  box : Arr w xb T cs
  ord : xb < bb
  bld : Lib.IsBuilder 76 5 bb bb (Lib.byteCells l) w
  bel : Below W.heap.size W w
  low : W.heap.size ≤ bb
  has : bb ≤ w.heap.size

theorem BldSt.new {W w : World} {xb : Nat} {T : TypeId} {cs : List Value} (hx : Arr w xb T cs) (hb : Below W.heap.size W w) :
    BldSt W xb w.heap.size T cs (w.alloc (.cells #[.pointer none, .slice none 0 0] 76)) [] :=
  ⟨hx.alloc _, hx.lt, Lib.fresh_isBuilder 76 5 w, hb.alloc hb.size _, hb.size, by rw [alloc_size]; omega⟩

theorem BldSt.call {W w w1 : World} {xb bb : Nat} {T : TypeId} {cs : List Value} {l : List UInt8} (h : BldSt W xb bb T cs w l) (hb : Below w.heap.size w w1) : BldSt W xb bb T cs w1 l :=
  ⟨h.box.below hb h.box.lt, h.ord, builder_keep h.bld hb, h.bel.trans (hb.mono h.bel.size), h.low, Nat.le_trans h.has hb.size⟩
end Go.Proofs.YtmngiekobmhpaaaGreat

/- What Encode does; nothing old in memory is turned. -/
namespace Go.Proofs.YtmngiekobmhpaaaGreat
open Go.RowKit
set_option linter.unusedVariables false

theorem isNm_size {s : ByteArray} (h : isNm s = true) : s.size ≤ 32 := by
  unfold isNm at h
  simp only [Bool.and_eq_true, decide_eq_true_eq] at h
  exact h.1.2

theorem isKy_size {s : ByteArray} (h : isKy s = true) : s.size ≤ 34 := by
  unfold isKy at h
  rw [Bool.and_eq_true] at h
  have := isNm_size h.2
  rw [ByteArray.size_extract] at this
  omega

theorem empty_size {s : ByteArray} (h : (s.toList == []) = true) : s.size = 0 := by
  rw [beq_iff_eq, ByteArray.toList_eq] at h
  have : s.data.toList.length = s.size := by simp
  rw [h] at this
  exact this.symm

theorem check_zero {d : TxD} (h : checkL d = 0) : (d.kind = 1 ∨ d.kind = 2) ∧ fieldsR d = true ∧ d.amt ≤ 4611686018427387903 ∧ d.non ≤ 4611686018427387903 ∧ keysL d.rs = 0 ∧ keysL d.ws = 0 := by
  unfold checkL at h
  by_cases h1 : d.kind ≠ 1 ∧ d.kind ≠ 2
  · rw [if_pos h1] at h; omega
  rw [if_neg h1] at h
  by_cases h2 : fieldsR d = false
  · rw [if_pos h2] at h; omega
  rw [if_neg h2] at h
  by_cases h3 : 4611686018427387903 < d.amt ∨ 4611686018427387903 < d.non
  · rw [if_pos h3] at h; omega
  rw [if_neg h3] at h
  by_cases h4 : keysL d.rs ≠ 0
  · rw [if_pos h4] at h; omega
  rw [if_neg h4] at h
  exact ⟨by omega, by simpa using h2, by omega, by omega, by omega, h⟩

theorem fields_sizes {d : TxD} (h : fieldsR d = true) : d.frm.size ≤ 32 ∧ d.to.size ≤ 32 ∧ d.key.size ≤ 32 ∧ d.val.size ≤ 64 := by
  unfold fieldsR at h
  rw [Bool.and_eq_true] at h
  have h1 := isNm_size h.1
  have h2 := h.2
  by_cases hk : d.kind = 1
  · rw [if_pos hk] at h2
    simp only [Bool.and_eq_true] at h2
    have a := isNm_size h2.1.1
    have b := empty_size h2.1.2
    have c := empty_size h2.2
    omega
  · rw [if_neg hk] at h2
    simp only [Bool.and_eq_true, decide_eq_true_eq] at h2
    have a := isNm_size h2.1.1.1
    have b := empty_size h2.1.2
    have c := h2.1.1.2
    omega

theorem keysGo_all : ∀ (l : List ByteArray) (a : ByteArray), keysGo a l = 0 → ∀ k ∈ l, isKy k = true
  | [], _, _ => by simp
  | k :: r, a, h => by
    rw [keysGo] at h
    by_cases h1 : isKy k = false
    · rw [if_pos h1] at h; omega
    rw [if_neg h1] at h
    by_cases h2 : (Op.bytesLess k.toList a.toList || k.toList == a.toList) = true
    · rw [if_pos h2] at h; omega
    rw [if_neg h2] at h
    intro x hx
    rw [List.mem_cons] at hx
    rcases hx with rfl | hx
    · simpa using h1
    · exact keysGo_all r k h x hx

theorem keys_sizes {l : List ByteArray} (h : keysL l = 0) : l.length ≤ 8 ∧ ∀ k ∈ l, isKy k = true := by
  have h8 := keysL_le l h
  unfold keysL at h
  rw [if_neg (by omega)] at h
  exact ⟨h8, keysGo_all l _ h⟩

theorem txt_le (l : List UInt8) : (txt l).length ≤ 9 + l.length := by
  have := goInt_length l.length
  rw [txt, List.length_append]
  omega

theorem flat_le : ∀ (l : List ByteArray), (∀ k ∈ l, k.size ≤ 34) → ((bl l).flatMap txt).length ≤ 43 * l.length
  | [], _ => by simp [bl]
  | k :: r, h => by
    have h1 := flat_le r (fun x hx => h x (by simp [hx]))
    have h2 := txt_le k.data.toList
    have h3 := h k (by simp)
    have h4 : k.data.toList.length = k.size := by simp
    simp only [bl, List.map_cons, List.flatMap_cons, List.length_append, List.length_cons]
    simp only [bl] at h1
    omega

theorem lst_le {l : List ByteArray} (h : keysL l = 0) : (lst (bl l)).length ≤ 353 := by
  obtain ⟨h8, hk⟩ := keys_sizes h
  have h1 := flat_le l (fun k hk' => isKy_size (hk k hk'))
  have h2 := goInt_length (bl l).length
  rw [lst, List.length_append]
  omega
end Go.Proofs.YtmngiekobmhpaaaGreat
