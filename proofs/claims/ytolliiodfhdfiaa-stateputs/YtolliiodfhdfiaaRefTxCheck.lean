/- What tuskref04.Key, keys and Check do; nothing old in memory is turned. -/
import Derived.Test.YtolliiodfhdfiaaRefTxName
import Derived.Test.YtolliiodfhdfiaaTxRight
import Derived.Test.YtolliiodfhdfiaaTxKeyMath
import Derived.Deep.QuietTactic
import Derived.BigQuiet
namespace Go.Proofs.Ytolliiodfhdfiaa
open Go.RowKit
set_option linter.unusedVariables false

theorem cut_two {s : ByteArray} (h : 2 < s.size) (a b : UInt8) : cutOk s ⟨#[a, b]⟩ = ((s.extract 0 2).toList == [a, b]) := by
  unfold cutOk
  have h1 : (⟨#[a, b]⟩ : ByteArray).size = 2 := rfl
  rw [h1, decide_eq_true (by omega), ByteArray.toList_eq ⟨#[a, b]⟩]
  rfl

theorem small_key {s : ByteArray} (h : s.size ≤ 2) : isKy s = false := by
  unfold isKy
  have h1 : isNm (s.extract 2 s.size) = false := by
    cases hn : isNm (s.extract 2 s.size) with
    | false => rfl
    | true =>
      unfold isNm at hn
      simp only [Bool.and_eq_true, decide_eq_true_eq, ByteArray.size_extract] at hn
      omega
  rw [h1]
  simp

set_option maxRecDepth 100000 in
set_option maxHeartbeats 400000 in
theorem refKey_any (s : ByteArray) (w : World) (hs : s.size ≤ maxLen) :
    Calls Try.prog 50 #[.string s] w fun e w' => e = .returned (.bool (isKy s)) ∧ w' = w := by
  by_cases h2 : 2 < s.size
  · have h2' : (2 : Int) < s.size := by omega
    have hsz : (2 : Int) ≤ s.size := by omega
    have cn := refName_any (s.extract 2 s.size) w (by rw [ByteArray.size_extract]; omega)
    have H : Hid (isKy s = ((((s.extract 0 2).toList == [97, 58]) || ((s.extract 0 2).toList == [107, 58])) && isNm (s.extract 2 s.size))) := by
      show _ = _
      unfold isKy aP kP
      rw [cut_two h2, cut_two h2]
    generalize isNm (s.extract 2 s.size) = b at cn H
    clear hs
    by_cases ha : (s.extract 0 2).toList = [97, 58]
    · replace H : Hid (isKy s = b) := by show _ = _; rw [H.out, ha]; simp
      go_enter Try.func50, Try.ntmps50
      go_wp2_with fail
      refine cn.mono ?_
      rintro e w' ⟨rfl, rfl⟩
      go_wp2
      go_ret
      exact ⟨by rw [H.out]; rfl, rfl⟩
    · have ha' : ((s.extract 0 2).toList == [97, 58]) = false := beq_eq_false_iff_ne.2 ha
      by_cases hk : (s.extract 0 2).toList = [107, 58]
      · replace H : Hid (isKy s = b) := by show _ = _; rw [H.out, ha', hk]; simp
        go_enter Try.func50, Try.ntmps50
        go_wp2_with fail
        refine cn.mono ?_
        rintro e w' ⟨rfl, rfl⟩
        go_wp2
        go_ret
        exact ⟨by rw [H.out]; rfl, rfl⟩
      · have hk' : ((s.extract 0 2).toList == [107, 58]) = false := beq_eq_false_iff_ne.2 hk
        replace H : Hid (isKy s = false) := by show _ = _; rw [H.out, ha', hk']; simp
        go_enter Try.func50, Try.ntmps50
        go_wp2
        go_ret
        exact ⟨by rw [H.out]; rfl, rfl⟩
  · have h2' : ¬ (2 : Int) < s.size := by omega
    have H : Hid (isKy s = false) := small_key (by omega)
    go_enter Try.func50, Try.ntmps50
    go_wp2
    go_ret
    exact ⟨by rw [H.out]; rfl, rfl⟩

/-- The one ahead. -/
def prevK (ss : List ByteArray) (k : Nat) : ByteArray := if k = 0 then ⟨#[]⟩ else ss.getD (k - 1) ⟨#[]⟩

set_option maxRecDepth 100000 in
set_option maxHeartbeats 1000000 in
theorem refKeys_any (ao : Option Addr) (cap : Nat) (ss : List ByteArray) (w : World) (hc : StrsAt w ao ss) (hz : ∀ s ∈ ss, s.size ≤ maxLen) :
    Calls Try.prog 42 #[.slice ao ss.length cap] w fun e w' => e = .returned (.int .i64 (keysL ss : Int)) ∧ Below w.heap.size w w' := by
  by_cases h8 : 8 < ss.length
  · have H : Hid (keysL ss = 8) := by show _ = _; unfold keysL; rw [if_pos h8]
    have h8' : (8 : Int) < ss.length := by omega
    go_enter Try.func42, Try.ntmps42
    go_wp2
    go_ret
    exact ⟨by rw [H.out]; rfl, Below.refl _ _⟩
  have h8' : ¬ (8 : Int) < ss.length := by omega
  have HK : Hid (keysL ss = keysGo ⟨#[]⟩ ss) := by show _ = _; unfold keysL; rw [if_neg h8]
  go_enter Try.func42, Try.ntmps42
  go_wp2
  go_loopw [3] (fun v wr => ∃ k : Nat, k ≤ ss.length ∧ v = .int .i64 k ∧ Hid (keysL ss = keysGo (prevK ss k) (ss.drop k)) ∧ Below w.heap.size w wr) (fun v _ => ss.length - (intOf v).toNat)
  case atStart => exact ⟨0, by omega, rfl, HK, Below.refl _ _⟩
  case round =>
    obtain ⟨k, hk, rfl, hK, hb⟩ := hrel
    by_cases hlt : k < ss.length
    · obtain ⟨b, off, rfl, hbl, hcell⟩ := (hc.below hb) k hlt
      have hd : ss.drop k = ss[k] :: ss.drop (k + 1) := List.drop_eq_getElem_cons hlt
      have hK2 := hK.out
      rw [hd, keysGo] at hK2
      have cn := fun w1 => refKey_any ss[k] w1 (hz _ (List.getElem_mem hlt))
      obtain ⟨x, hx⟩ : ∃ x, x = ss[k] := ⟨_, rfl⟩
      have hpr : prevK ss (k + 1) = x := by rw [hx]; unfold prevK; rw [if_neg (by omega)]; simp [List.getD, hlt]
      rw [← hx] at hK2 cn hcell
      clear hK hd HK
      cases hky : isKy x with
      | false =>
        have H : Hid (keysL ss = 3) := by show _ = _; rw [hK2, if_pos hky]
        simp only [hky] at cn
        clear hK2 hky hx hpr hc
        go_wp2_with fail
        refine (cn _).mono ?_
        rintro e w' ⟨rfl, rfl⟩
        go_wp2
        go_ret
        exact ⟨by rw [H.out]; rfl, hb⟩
      | true =>
        have hab := ky_above hky
        simp only [hky] at cn
        rw [if_neg (by rw [hky]; simp)] at hK2
        by_cases hk0 : k = 0
        · subst hk0
          have H : Hid (keysL ss = keysGo (prevK ss (0 + 1)) (ss.drop (0 + 1))) := by
            show _ = _
            rw [hpr, hK2]
            have : prevK ss 0 = ⟨#[]⟩ := rfl
            rw [this, hab, if_neg (by simp)]
          replace hcell : wr.cell? ⟨b, off, none⟩ = some (.string x) := hcell
          clear hK2 hky hx hpr hc hab
          go_wp2_with fail
          refine (cn _).mono ?_
          rintro e w' ⟨rfl, rfl⟩
          go_wp2_with fail
          go_quiet (fail)
          have hb2 := below_drewN hb nq
          clear hb hcell
          go_wp2
          go_roundw
          case rel => exact ⟨0 + 1, by omega, by go_num, H, hb2⟩
          case measure => simp [intOf]; omega
        · obtain ⟨j, rfl⟩ : ∃ j, k = j + 1 := ⟨k - 1, by omega⟩
          obtain ⟨b', off', e', _, hcell'⟩ := (hc.below hb) j (by omega)
          simp at e'
          obtain ⟨rfl, rfl⟩ := e'
          obtain ⟨y, hy⟩ : ∃ y, y = ss[j] := ⟨_, rfl⟩
          have hpy : prevK ss (j + 1) = y := by rw [hy]; unfold prevK; rw [if_neg (by omega)]; simp [List.getD, show j < ss.length by omega]
          rw [← hy] at hcell'
          rw [hpy] at hK2
          have hj1 : (((j + 1 : Nat) : Int)) - 1 = (j : Int) := by omega
          have hdk : decide ((0 : Int) < ((j + 1 : Nat) : Int)) = true := decide_eq_true (by omega)
          cases hle : (Op.bytesLess x.toList y.toList || x.toList == y.toList) with
          | true =>
            have H : Hid (keysL ss = 9) := by show _ = _; rw [hK2, if_pos hle]
            clear hK2 hky hx hpr hc hab hy hpy
            go_wp2_with fail
            refine (cn _).mono ?_
            rintro e w' ⟨rfl, rfl⟩
            go_wp2_with fail
            go_quiet (fail)
            have hb2 := below_drewN hb nq
            clear hb hcell hcell'
            go_wp2
            go_ret
            exact ⟨by rw [H.out]; rfl, hb2⟩
          | false =>
            have H : Hid (keysL ss = keysGo (prevK ss (j + 1 + 1)) (ss.drop (j + 1 + 1))) := by show _ = _; rw [hpr, hK2, if_neg (by rw [hle]; simp)]
            clear hK2 hky hx hpr hc hab hy hpy
            go_wp2_with fail
            refine (cn _).mono ?_
            rintro e w' ⟨rfl, rfl⟩
            go_wp2_with fail
            go_quiet (fail)
            have hb2 := below_drewN hb nq
            clear hb hcell hcell'
            go_wp2
            go_roundw
            case rel => exact ⟨j + 1 + 1, by omega, by go_num, H, hb2⟩
            case measure => simp [intOf]; omega
    · have H : Hid (keysL ss = 0) := by
        show _ = _
        rw [hK.out, List.drop_of_length_le (by omega), keysGo]
      clear hK
      go_wp2
      go_ret
      exact ⟨by rw [H.out]; rfl, hb⟩
end Go.Proofs.Ytolliiodfhdfiaa
