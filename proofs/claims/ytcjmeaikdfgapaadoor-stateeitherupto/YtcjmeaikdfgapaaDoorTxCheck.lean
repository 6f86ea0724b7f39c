/- What checkKeys, fieldsRight and Check do; nothing old in memory is turned. -/
import Derived.Test.YtcjmeaikdfgapaaDoorTxName
namespace Go.Proofs.YtcjmeaikdfgapaaDoor
open Go.RowKit
set_option linter.unusedVariables false

set_option maxRecDepth 100000 in
set_option maxHeartbeats 1000000 in
theorem checkKeys_any (ao : Option Addr) (cap : Nat) (ss : List ByteArray) (w : World) (hc : StrsAt w ao ss) :
    Calls Tryd.prog 57 #[.slice ao ss.length cap] w fun e w' => e = .returned (.int .i64 (keysL ss : Int)) ∧ w' = w := by
  by_cases h8 : 8 < ss.length
  · have H : Hid (keysL ss = 8) := by show _ = _; unfold keysL; rw [if_pos h8]
    have h8' : (8 : Int) < ss.length := by omega
    go_enter Tryd.func57, Tryd.ntmps57
    go_wp2
    go_ret
    exact ⟨by rw [H.out]; rfl, rfl⟩
  have h8' : ¬ (8 : Int) < ss.length := by omega
  have HK : Hid (keysL ss = keysGo ⟨#[]⟩ ss) := by show _ = _; unfold keysL; rw [if_neg h8]
  go_enter Tryd.func57, Tryd.ntmps57
  go_wp2
  go_loop [3, 11] (fun v3 v11 => ∃ (k : Nat) (a : ByteArray), k ≤ ss.length ∧ v11 = .int .i64 k ∧ v3 = .string a ∧ Hid (keysL ss = keysGo a (ss.drop k))) (fun _ v => ss.length - (intOf v).toNat)
  case atStart => exact ⟨0, ⟨#[]⟩, by omega, rfl, rfl, HK⟩
  case round =>
    obtain ⟨k, a, hk, rfl, rfl, hK⟩ := hrel
    by_cases hlt : k < ss.length
    · obtain ⟨b, off, rfl, hbl, hcell⟩ := hc k hlt
      have hd : ss.drop k = ss[k] :: ss.drop (k + 1) := List.drop_eq_getElem_cons hlt
      have hK2 := hK.out
      rw [hd, keysGo] at hK2
      have cn := isKey_any ss[k]
      obtain ⟨x, hx⟩ : ∃ x, x = ss[k] := ⟨_, rfl⟩
      rw [← hx] at hK2 cn hcell
      clear hK hd hx HK
      cases hky : isKy x with
      | false =>
        have H : Hid (keysL ss = 3) := by show _ = _; rw [hK2, if_pos hky]
        rw [hky] at cn
        clear hK2 hky
        go_wp2_with fail
        refine (cn _).mono ?_
        rintro e w' ⟨rfl, rfl⟩
        go_wp2
        go_ret
        exact ⟨by rw [H.out]; rfl, rfl⟩
      | true =>
        rw [hky] at cn
        rw [if_neg (by rw [hky]; simp)] at hK2
        cases hle : (Op.bytesLess x.toList a.toList || x.toList == a.toList) with
        | true =>
          have H : Hid (keysL ss = 9) := by show _ = _; rw [hK2, if_pos hle]
          clear hK2 hky
          go_wp2_with fail
          refine (cn _).mono ?_
          rintro e w' ⟨rfl, rfl⟩
          go_wp2
          go_ret
          exact ⟨by rw [H.out]; rfl, rfl⟩
        | false =>
          have H : Hid (keysL ss = keysGo x (ss.drop (k + 1))) := by show _ = _; rw [hK2, if_neg (by rw [hle]; simp)]
          clear hK2 hky
          go_wp2_with fail
          refine (cn _).mono ?_
          rintro e w' ⟨rfl, rfl⟩
          go_wp2
          go_round
          case rel => exact ⟨k + 1, x, by omega, by go_num, rfl, H⟩
          case measure => simp [intOf]; omega
    · have H : Hid (keysL ss = 0) := by
        show _ = _
        rw [hK.out, List.drop_of_length_le (by omega), keysGo]
      clear hK
      go_wp2
      go_ret
      exact ⟨by rw [H.out]; rfl, rfl⟩

theorem bemp (s : ByteArray) : (s.toList == []) = s.toList.isEmpty := by cases s.toList <;> rfl

set_option maxRecDepth 100000 in
set_option maxHeartbeats 1000000 in
theorem fieldsRight_any (d : TxD) (ra : Option Addr) (rc : Nat) (wa : Option Addr) (wc : Nat) (w : World) :
    Calls Tryd.prog 56 #[txV d ra rc wa wc] w fun e w' => e = .returned (.bool (fieldsR d)) ∧ Below w.heap.size w w' := by
  obtain ⟨kind, frm, to, amt, non, key, val, rs, ws⟩ := d
  have hB : ∀ c, Below w.heap.size w (w.alloc c) := fun c => (Below.refl w.heap.size w).alloc (Nat.le_refl _) c
  unfold txV
  have c1 := isName_any frm
  cases h1 : isNm frm with
  | false =>
    have H : Hid (fieldsR ⟨kind, frm, to, amt, non, key, val, rs, ws⟩ = false) := by show _ = _; simp [fieldsR, h1]
    rw [h1] at c1
    go_enter Tryd.func56, Tryd.ntmps56
    go_wp2_with fail
    refine (c1 _).mono ?_
    rintro e w' ⟨rfl, rfl⟩
    go_wp2
    go_ret
    exact ⟨by rw [H.out]; rfl, hB _⟩
  | true =>
    rw [h1] at c1
    by_cases hk : kind = 1
    · subst hk
      have c2 := isName_any to
      have H : Hid (fieldsR ⟨1, frm, to, amt, non, key, val, rs, ws⟩ = (isNm to && key.toList.isEmpty && val.toList.isEmpty)) := by show _ = _; simp only [fieldsR, h1, bemp]; simp
      generalize isNm to = b2 at c2 H
      cases b2 with
      | false =>
        go_enter Tryd.func56, Tryd.ntmps56
        go_wp2_with fail
        refine (c1 _).mono ?_
        rintro e w' ⟨rfl, rfl⟩
        go_wp2_with fail
        refine (c2 _).mono ?_
        rintro e w' ⟨rfl, rfl⟩
        go_wp2
        go_ret
        exact ⟨by rw [H.out]; rfl, hB _⟩
      | true =>
        by_cases hkey : key.toList = []
        · have hke : key.toList.isEmpty = true := by rw [hkey]; rfl
          rw [hke] at H
          replace H : Hid (fieldsR ⟨1, frm, to, amt, non, key, val, rs, ws⟩ = val.toList.isEmpty) := H
          go_enter Tryd.func56, Tryd.ntmps56
          go_wp2_with fail
          refine (c1 _).mono ?_
          rintro e w' ⟨rfl, rfl⟩
          go_wp2_with fail
          refine (c2 _).mono ?_
          rintro e w' ⟨rfl, rfl⟩
          go_wp2
          go_ret
          exact ⟨by rw [H.out]; rfl, hB _⟩
        · have hke : key.toList.isEmpty = false := by simpa using hkey
          rw [hke] at H
          replace H : Hid (fieldsR ⟨1, frm, to, amt, non, key, val, rs, ws⟩ = false) := H
          go_enter Tryd.func56, Tryd.ntmps56
          go_wp2_with fail
          refine (c1 _).mono ?_
          rintro e w' ⟨rfl, rfl⟩
          go_wp2_with fail
          refine (c2 _).mono ?_
          rintro e w' ⟨rfl, rfl⟩
          go_wp2
          go_ret
          exact ⟨by rw [H.out]; rfl, hB _⟩
    · have c2 := isName_any key
      have hk1 : (kind == 1) = false := beq_eq_false_iff_ne.2 hk
      have H : Hid (fieldsR ⟨kind, frm, to, amt, non, key, val, rs, ws⟩ = (isNm key && decide (val.size ≤ 64) && to.toList.isEmpty && decide (amt = 0))) := by show _ = _; simp only [fieldsR, h1, bemp, if_neg hk]; simp
      generalize isNm key = b2 at c2 H
      cases b2 with
      | false =>
        go_enter Tryd.func56, Tryd.ntmps56
        go_wp2_with fail
        refine (c1 _).mono ?_
        rintro e w' ⟨rfl, rfl⟩
        go_wp2_with fail
        refine (c2 _).mono ?_
        rintro e w' ⟨rfl, rfl⟩
        go_wp2
        go_ret
        exact ⟨by rw [H.out]; rfl, hB _⟩
      | true =>
        by_cases hv : val.size ≤ 64
        · have hv' : (val.size : Int) ≤ 64 := by omega
          by_cases ht : to.toList = []
          · have hte : to.toList.isEmpty = true := by rw [ht]; rfl
            rw [hte, decide_eq_true hv] at H
            by_cases ha : amt = 0
            · subst ha
              replace H : Hid (fieldsR ⟨kind, frm, to, 0, non, key, val, rs, ws⟩ = true) := H
              go_enter Tryd.func56, Tryd.ntmps56
              go_wp2_with fail
              refine (c1 _).mono ?_
              rintro e w' ⟨rfl, rfl⟩
              go_wp2_with fail
              refine (c2 _).mono ?_
              rintro e w' ⟨rfl, rfl⟩
              go_wp2
              go_ret
              exact ⟨by rw [H.out]; rfl, hB _⟩
            · have ha' : ((amt : Int) == 0) = false := beq_eq_false_iff_ne.2 (by omega)
              rw [decide_eq_false ha] at H
              replace H : Hid (fieldsR ⟨kind, frm, to, amt, non, key, val, rs, ws⟩ = false) := H
              go_enter Tryd.func56, Tryd.ntmps56
              go_wp2_with fail
              refine (c1 _).mono ?_
              rintro e w' ⟨rfl, rfl⟩
              go_wp2_with fail
              refine (c2 _).mono ?_
              rintro e w' ⟨rfl, rfl⟩
              go_wp2
              go_ret
              exact ⟨by rw [H.out]; rfl, hB _⟩
          · have hte : to.toList.isEmpty = false := by simpa using ht
            rw [hte, decide_eq_true hv] at H
            replace H : Hid (fieldsR ⟨kind, frm, to, amt, non, key, val, rs, ws⟩ = false) := H
            go_enter Tryd.func56, Tryd.ntmps56
            go_wp2_with fail
            refine (c1 _).mono ?_
            rintro e w' ⟨rfl, rfl⟩
            go_wp2_with fail
            refine (c2 _).mono ?_
            rintro e w' ⟨rfl, rfl⟩
            go_wp2
            go_ret
            exact ⟨by rw [H.out]; rfl, hB _⟩
        · have hv' : (64 : Int) < val.size := by omega
          rw [decide_eq_false hv] at H
          replace H : Hid (fieldsR ⟨kind, frm, to, amt, non, key, val, rs, ws⟩ = false) := H
          have dv : decide ((val.size : Int) ≤ 64) = false := decide_eq_false (by omega)
          go_enter Tryd.func56, Tryd.ntmps56
          go_wp2_with fail
          refine (c1 _).mono ?_
          rintro e w' ⟨rfl, rfl⟩
          go_wp2_with fail
          refine (c2 _).mono ?_
          rintro e w' ⟨rfl, rfl⟩
          go_wp2
          go_ret
          exact ⟨by rw [H.out]; rfl, hB _⟩
end Go.Proofs.YtcjmeaikdfgapaaDoor
