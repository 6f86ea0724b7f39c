/- Texts as one: RefGetInt, WireIntsWalk, RefText, RefList, RefTxReader, RefTxDecode. -/
import Derived.Test.YtmngiekobmhpaaaGreatRk13
import Derived.Test.YtmngiekobmhpaaaGreatRk04
import Derived.Test.YtmngiekobmhpaaaGreatRk08
import Derived.Test.YtmngiekobmhpaaaGreatRk09
import Derived.Laws.ResultCell
/- What tuskref01.GetInt does: it answers as the number at the front of bytes is defined; memory stands. -/
namespace Go.Proofs.YtmngiekobmhpaaaGreat
open Go.RowKit

def val : List UInt8 → Nat
  | [] => 0
  | c :: r => c.toNat % 128 + 128 * val r

theorem val_drop_le : ∀ (l : List UInt8) (j : Nat), val (l.drop j) ≤ val l
  | [], j => by simp
  | c :: r, 0 => by simp
  | c :: r, j + 1 => by
    have := val_drop_le r j
    simp only [List.drop_succ_cons, val]
    omega

theorem giGo_val : ∀ (k : Nat) (l : List UInt8) (acc i : Nat) (hk : k < l.length), (∀ j (hj : j < l.length), j < k → 128 ≤ l[j].toNat) → l[k].toNat < 128 → i + k ≤ 8 →
    giGo l acc i = if 4611686018427387903 < acc + val (l.take (k + 1)) * 128 ^ i then (0, 0, 2) else if l[k].toNat = 0 ∧ 1 < i + k + 1 then (0, 0, 3) else (acc + val (l.take (k + 1)) * 128 ^ i, i + k + 1, 0)
  | 0, c :: r, acc, i, hk, _, h2, _ => by
    simp only [List.getElem_cons_zero] at h2
    rw [giGo, if_neg (by omega)]
    simp [val]
  | k + 1, c :: r, acc, i, hk, h1, h2, h3 => by
    have hc : 128 ≤ c.toNat := h1 0 (by simp) (by omega)
    simp only [List.length_cons] at hk
    rw [giGo, if_pos hc, if_neg (by omega)]
    rw [giGo_val k r _ (i + 1) (by omega) (fun j hj hjk => h1 (j + 1) (by simp; omega) (by omega)) (by simpa using h2) (by omega)]
    have e : acc + c.toNat % 128 * 128 ^ i + val (r.take (k + 1)) * 128 ^ (i + 1) = acc + val ((c :: r).take (k + 1 + 1)) * 128 ^ i := by
      rw [List.take_succ_cons, val, Nat.pow_succ, Nat.add_mul, Nat.mul_comm (128 ^ i) 128, ← Nat.mul_assoc, Nat.mul_comm (val _) 128]
      omega
    rw [e]
    simp only [List.getElem_cons_succ]
    have e2 : i + 1 + k + 1 = i + (k + 1) + 1 := by omega
    rw [e2]
  | 0, [], _, _, hk, _, _, _ => by simp at hk
  | k + 1, [], _, _, hk, _, _, _ => by simp at hk

theorem giGo_high : ∀ (l : List UInt8) (acc i : Nat), (∀ c ∈ l, 128 ≤ c.toNat) → i + l.length ≤ 8 → giGo l acc i = (0, 0, 1)
  | [], _, _, _, _ => by simp [giGo]
  | c :: r, acc, i, h, h2 => by
    simp only [List.length_cons] at h2
    rw [giGo, if_pos (h c (by simp)), if_neg (by omega)]
    exact giGo_high r _ _ (fun x hx => h x (by simp [hx])) (by omega)

theorem giGo_nine : ∀ (k : Nat) (l : List UInt8) (acc i : Nat), i + k = 9 → 0 < k → k ≤ l.length → (∀ j (hj : j < l.length), j < k → 128 ≤ l[j].toNat) → giGo l acc i = (0, 0, 2)
  | 0, _, _, _, _, h, _, _ => by omega
  | k + 1, [], _, _, _, _, h, _ => by simp at h
  | k + 1, c :: r, acc, i, h1, _, h3, h4 => by
    have hc : 128 ≤ c.toNat := h4 0 (by simp) (by omega)
    rw [giGo, if_pos hc]
    by_cases h : i + 1 = 9
    · rw [if_pos h]
    · rw [if_neg h]
      exact giGo_nine k r _ _ (by omega) (by omega) (by simp at h3; omega) (fun j hj hjk => h4 (j + 1) (by simp; omega) (by omega))

theorem val_step (s : ByteArray) (k j : Nat) (hk : k < s.size) (hj : j ≤ k) : val ((s.data.toList.take (k + 1)).drop j) = s[j].toNat % 128 + 128 * val ((s.data.toList.take (k + 1)).drop (j + 1)) := by
  have h1 : j < (s.data.toList.take (k + 1)).length := by simp; omega
  rw [List.drop_eq_getElem_cons h1, val]
  simp
  rfl

theorem getElem_list (s : ByteArray) (j : Nat) (h : j < s.data.toList.length) : s.data.toList[j] = s[j]'(by simpa using h) := by
  simp
  rfl

set_option maxRecDepth 100000 in
set_option maxHeartbeats 1000000 in
theorem refGetInt_any (s : ByteArray) (w : World) (hs : s.size ≤ maxLen) :
    Calls Tryz.prog 13 #[.string s] w fun e w' => e = .returned (giVal (getInt s.data.toList)) ∧ w' = w := by
  unfold maxLen at hs
  go_enter Tryz.func13, Tryz.ntmps13
  go_wp2
  go_loop [5] (fun v => ∃ k : Nat, k ≤ 9 ∧ k ≤ s.size ∧ v = .int .i64 k ∧ Hid (∀ j (hj : j < s.size), j < k → 128 ≤ s[j].toNat)) (fun v => 9 - (intOf v).toNat)
  case atStart => exact ⟨0, by omega, by omega, rfl, fun j _ hj => absurd hj (by omega)⟩
  case round =>
    obtain ⟨k, hk9, hks, rfl, hhi⟩ := hrel
    by_cases h9 : k = 9
    · subst h9
      have H : Hid (getInt s.data.toList = (0, 0, 2)) := giGo_nine 9 s.data.toList 0 0 rfl (by omega) (by simpa using hks) (fun j hj hjk => by rw [getElem_list]; exact hhi.out j (by simpa using hj) hjk)
      clear hhi
      by_cases hlt : 9 < s.size
      · go_wp2
        go_ret3
        exact ⟨giEnd H.out, rfl⟩
      · go_wp2
        go_ret3
        exact ⟨giEnd H.out, rfl⟩
    · have h9b : ((k : Int) == 9) = false := beq_eq_false_iff_ne.2 (by omega)
      by_cases hlt : k < s.size
      · have hkb : ((k : Int) == s.size) = false := beq_eq_false_iff_ne.2 (by omega)
        obtain ⟨c, hc⟩ : ∃ c, s[k].toNat = c := ⟨_, rfl⟩
        have hc256 : c < 256 := by rw [← hc]; exact UInt8.toNat_lt _
        by_cases hge : 128 ≤ c
        · have hhi' : Hid (∀ j (hj : j < s.size), j < k + 1 → 128 ≤ s[j].toNat) := by
            intro j hj hjk
            by_cases e : j = k
            · subst e; omega
            · exact hhi.out j hj (by omega)
          clear hhi
          go_wp2
          go_round
          case rel => exact ⟨k + 1, by omega, by omega, by go_num, hhi'⟩
          case measure => simp [intOf]; omega
        · have H : Hid (getInt s.data.toList = if 4611686018427387903 < val (s.data.toList.take (k + 1)) then (0, 0, 2) else if c = 0 ∧ 0 < k then (0, 0, 3) else (val (s.data.toList.take (k + 1)), k + 1, 0)) := by
            have hkl : k < s.data.toList.length := by simpa using hlt
            have h := giGo_val k s.data.toList 0 0 hkl (fun j hj hjk => by rw [getElem_list]; exact hhi.out j (by simpa using hj) hjk) (by rw [getElem_list]; omega) (by omega)
            rw [getElem_list _ _ hkl, hc] at h
            show _ = _
            rw [getInt, h]
            simp
          clear hhi
          go_wp2
          go_loop [6, 7] (fun v6 v7 => ∃ (j n : Nat), j ≤ k + 1 ∧ n ≤ 4611686018427387903 ∧ n < 128 ^ (k + 1 - j) ∧ v6 = .int .i64 n ∧ v7 = .int .i64 ((j : Int) - 1) ∧ Hid (n = val ((s.data.toList.take (k + 1)).drop j))) (fun _ v7 => ((intOf v7) + 1).toNat)
          case atStart => exact ⟨k + 1, 0, by omega, by omega, by simp, rfl, by simp, by show _ = _; rw [List.drop_of_length_le (by simp; omega)]; rfl⟩
          case round =>
            obtain ⟨j, n, hj, hn, hnp, rfl, rfl, hv⟩ := hrel
            by_cases hj0 : j = 0
            · subst hj0
              go_wp2
              · have h1 : 0 < k := by assumption
                have h2 : ((c : Int) == 0) = true := by assumption
                rw [beq_iff_eq] at h2
                go_ret3
                refine ⟨giEnd (a := 0) (b := 0) (c := 3) ?_, rfl⟩
                rw [H.out, if_neg (by have := hv.out; rw [List.drop_zero] at this; omega), if_pos (by omega)]
              · have h1 : 0 < k := by assumption
                have h2 : ((c : Int) == 0) = false := by assumption
                rw [beq_eq_false_iff_ne] at h2
                go_ret3
                refine ⟨giEnd (a := n) (b := k + 1) (c := 0) ?_, rfl⟩
                have hv0 := hv.out
                rw [List.drop_zero] at hv0
                rw [H.out, if_neg (by omega), if_neg (by omega), ← hv0]
              · have h1 : ¬ 0 < k := by assumption
                go_ret3
                refine ⟨giEnd (a := n) (b := k + 1) (c := 0) ?_, rfl⟩
                have hv0 := hv.out
                rw [List.drop_zero] at hv0
                rw [H.out, if_neg (by omega), if_neg (by omega), ← hv0]
            · obtain ⟨i, rfl⟩ : ∃ i, j = i + 1 := ⟨j - 1, by omega⟩
              have hi1 : ((i + 1 : Nat) : Int) - 1 = (i : Int) := by omega
              rw [hi1]
              have hilt : i < s.size := by omega
              obtain ⟨d, hd⟩ : ∃ d, s[i].toNat = d := ⟨_, rfl⟩
              have hd256 : d < 256 := by rw [← hd]; exact UInt8.toNat_lt _
              have hst := val_step s k i hlt (by omega)
              rw [hd, ← hv.out] at hst
              have hn8 : n < 72057594037927936 := by
                have h1 : 128 ^ (k + 1 - (i + 1)) ≤ 128 ^ 8 := Nat.pow_le_pow_right (by omega) (by omega)
                omega
              have hnp' : 128 * n + d % 128 < 128 ^ (k + 1 - i) := by
                have e : k + 1 - i = (k + 1 - (i + 1)) + 1 := by omega
                rw [e, Nat.pow_succ]
                omega
              have Hst : Hid (128 * n + d % 128 = val ((s.data.toList.take (k + 1)).drop i)) := by
                show _ = _
                rw [hst]; omega
              clear hst hv hi1
              go_wp2
              · have h1 : (4611686018427387903 : Int) < 128 * (n : Int) + (d : Int) % 128 := by assumption
                go_ret3
                refine ⟨giEnd (a := 0) (b := 0) (c := 2) ?_, rfl⟩
                have hv0 := Hst.out
                have hle := val_drop_le (s.data.toList.take (k + 1)) i
                rw [H.out, if_pos (by omega)]
              · have h1 : 128 * (n : Int) + (d : Int) % 128 ≤ 4611686018427387903 := by assumption
                go_round
                case rel => exact ⟨i, 128 * n + d % 128, by omega, by omega, hnp', by go_num, rfl, Hst⟩
                case measure => simp [intOf]
      · have hkb : ((k : Int) == s.size) = true := beq_iff_eq.2 (by omega)
        have H : Hid (getInt s.data.toList = (0, 0, 1)) := giGo_high s.data.toList 0 0 (fun c hc => by
          obtain ⟨j, hj, rfl⟩ := List.getElem_of_mem hc
          rw [getElem_list]
          exact hhi.out j (by simpa using hj) (by simp at hj; omega)) (by simp; omega)
        clear hhi
        go_wp2
        go_ret3
        exact ⟨giEnd H.out, rfl⟩
end Go.Proofs.YtmngiekobmhpaaaGreat

/- tusklaw01.WireInts answers true at every number and every string; nothing old in memory is turned. -/
namespace Go.Proofs.YtmngiekobmhpaaaGreat
open Go.RowKit

theorem refGetInt_at (s : ByteArray) (w : World) (n k er : Nat) (hs : s.size ≤ maxLen) (hr : getInt s.data.toList = (n, k, er)) :
    Calls Tryz.prog 13 #[.string s] w fun e w' => e = .returned (.tuple #[.int .i64 n, .int .i64 k, .int .i64 er]) ∧ w' = w := by
  have h := refGetInt_any s w hs
  rw [hr] at h
  exact h
end Go.Proofs.YtmngiekobmhpaaaGreat

/- What tuskref01.Text and tuskref01.GetText do. -/
namespace Go.Proofs.YtmngiekobmhpaaaGreat
open Go.RowKit

set_option maxRecDepth 100000 in
set_option maxHeartbeats 1000000 in
theorem refGetText_any (s : ByteArray) (w : World) (hs : s.size ≤ maxLen) :
    Calls Tryz.prog 99 #[.string s] w fun e w' => e = .returned (gtVal (getText s.data.toList)) ∧ w' = w := by
  have hs0 : Hid (s.size ≤ maxLen) := hs
  unfold maxLen at hs
  rcases hr : getInt s.data.toList with ⟨n, k, er⟩
  have HR : Hid (getInt s.data.toList = (n, k, er)) := hr
  by_cases h1 : er = 0
  · subst h1
    have hb := getInt_bounds _ n k hr
    have hsz : s.data.toList.length = s.size := by simp
    rw [hsz] at hb
    have hb1 := hb.1
    have hb2 := hb.2.1
    have hb3 := hb.2.2
    by_cases h2 : 65536 < n
    · have H : Hid (getText s.data.toList = ([], 0, 8)) := by
        show _ = _
        simp [getText, hr, h2]
      clear hr hb hsz
      go_enter Tryz.func99, Tryz.ntmps99
      go_wp2_with fail
      refine (refGetInt_at s _ n k _ hs0.out HR.out).mono ?_
      rintro e w' ⟨rfl, rfl⟩
      go_wp2
      go_ret3
      exact ⟨by rw [H.out]; rfl, rfl⟩
    · by_cases h3 : s.size - k < n
      · have H : Hid (getText s.data.toList = ([], 0, 1)) := by
          show _ = _
          simp [getText, hr, h2, hsz, h3]
        clear hr hb hsz
        go_enter Tryz.func99, Tryz.ntmps99
        go_wp2_with fail
        refine (refGetInt_at s _ n k _ hs0.out HR.out).mono ?_
        rintro e w' ⟨rfl, rfl⟩
        go_wp2
        go_ret3
        exact ⟨by rw [H.out]; rfl, rfl⟩
      · have H : Hid (gtVal (getText s.data.toList) = .tuple #[.string (s.extract k (k + n)), .int .i64 ((k : Int) + n), .int .i64 0]) := by
          show _ = _
          simp [getText, hr, h2, hsz, h3, gtVal, extract_list]
        clear hr hb hsz
        go_enter Tryz.func99, Tryz.ntmps99
        go_wp2_with fail
        refine (refGetInt_at s _ n k _ hs0.out HR.out).mono ?_
        rintro e w' ⟨rfl, rfl⟩
        go_wp2
        go_ret3
        exact ⟨by rw [H.out]; rfl, rfl⟩
  · have hne : ((er : Int) != 0) = true := by rw [bne_iff_ne]; omega
    have H : Hid (getText s.data.toList = ([], 0, er)) := by
      show _ = _
      simp [getText, hr, h1]
    clear hr
    go_enter Tryz.func99, Tryz.ntmps99
    go_wp2_with fail
    refine (refGetInt_at s _ n k _ hs0.out HR.out).mono ?_
    rintro e w' ⟨rfl, rfl⟩
    go_wp2
    go_ret3
    exact ⟨by rw [H.out]; rfl, rfl⟩

theorem refGetText_at (s : ByteArray) (w : World) (t : List UInt8) (k er : Nat) (hs : s.size ≤ maxLen) (hr : getText s.data.toList = (t, k, er)) :
    Calls Tryz.prog 99 #[.string s] w fun e w' => e = .returned (.tuple #[.string ⟨t.toArray⟩, .int .i64 k, .int .i64 er]) ∧ w' = w := by
  have h := refGetText_any s w hs
  rw [hr] at h
  exact h
end Go.Proofs.YtmngiekobmhpaaaGreat

/- What tuskref01.List and tuskref01.GetList do. -/
namespace Go.Proofs.YtmngiekobmhpaaaGreat
open Go.RowKit

set_option maxRecDepth 100000 in
set_option maxHeartbeats 1000000 in
theorem refGetList_any (s : ByteArray) (most : Int) (w : World) (R : Nat) (hs : s.size ≤ maxLen) (hR : s.size ≤ R ∨ most ≤ R) (hroom : R * 16 ≤ 140737488355328) :
    Calls Tryz.prog 125 #[.string s, .int .i64 most] w fun e w' => ∃ v, e = .returned v ∧ GotList w w' (getList s.data.toList most) v ∧ Below w.heap.size w w' := by
  obtain ⟨i0, hi, hz0, hz1, hz2⟩ := info_parts infoString
  have hs0 : Hid (s.size ≤ maxLen) := hs
  unfold maxLen at hs
  rcases hr : getInt s.data.toList with ⟨n, k, er⟩
  have HR : Hid (getInt s.data.toList = (n, k, er)) := hr
  by_cases h1 : er = 0
  · subst h1
    have hb := getInt_bounds _ n k hr
    have hsz : s.data.toList.length = s.size := by simp
    rw [hsz] at hb
    have hb1 := hb.1
    have hb2 := hb.2.1
    have hb3 := hb.2.2
    by_cases h2 : most < (n : Int)
    · have H : Hid (getList s.data.toList most = ([], 0, 8)) := by
        show _ = _
        simp [getList, hr, h2]
      clear hr hb hsz
      go_enter Tryz.func125, Tryz.ntmps125
      go_wp2_with fail
      refine (refGetInt_at s _ n k _ hs0.out HR.out).mono ?_
      rintro e w' ⟨rfl, rfl⟩
      go_wp2
      go_ret3
      refine ⟨_, rfl, ?_, Below.refl _ _⟩
      rw [H.out]
      exact ⟨none, 0, rfl, World.ownsRow_nil _ _ _ _⟩
    · have H : Hid (getList s.data.toList most = glGo s.data.toList n k []) := by
        show _ = _
        simp [getList, hr, h2]
      clear hr hb hsz
      go_enter Tryz.func125, Tryz.ntmps125
      go_wp2_with fail
      refine (refGetInt_at s _ n k _ hs0.out HR.out).mono ?_
      rintro e w' ⟨rfl, rfl⟩
      go_wp2
      go_loopw [8, 10, 11] (fun v8 v10 v11 wr => ∃ (ts : List (List UInt8)) (p : Nat) (ao : Option Addr) (cap : Nat), v11 = .int .i64 ts.length ∧ v8 = .int .i64 p ∧ v10 = .slice ao ts.length cap ∧ wr.ownsRow w'.heap.size 9 1 (.slice ao ts.length cap) ts.length (ts.map strVal) ∧ Below w'.heap.size w' wr ∧ p ≤ s.size ∧ ts.length + 1 ≤ p ∧ ts.length ≤ n ∧ Hid (getList s.data.toList most = glGo s.data.toList (n - ts.length) p ts)) (fun _ v10 _ _ => n - slLen v10)
      case atStart => exact ⟨[], k, none, 0, rfl, rfl, rfl, World.ownsRow_nil _ _ _ _, Below.refl _ _, hb3, by simpa using hb2, Nat.zero_le _, H⟩
      case round =>
        clear H
        obtain ⟨ts, p, ao, cap, rfl, rfl, rfl, hown, hbel, hp, htp, htn, HG⟩ := hrel
        by_cases hlt : ts.length < n
        · rcases ht : getText (s.data.toList.drop p) with ⟨t, j, et⟩
          obtain ⟨m, hm⟩ : ∃ m, n - ts.length = m + 1 := ⟨n - ts.length - 1, by omega⟩
          have HT : Hid (getText (s.extract p s.size).data.toList = (t, j, et)) := by
            show _ = _
            rw [extract_drop]; exact ht
          have hsl : Hid ((s.extract p s.size).size ≤ maxLen) := by
            show _ ≤ _
            rw [ByteArray.size_extract]
            unfold maxLen
            omega
          by_cases h3 : et = 0
          · subst h3
            have hj := getText_bounds _ t j ht
            have hjl : (s.data.toList.drop p).length = s.size - p := by simp
            rw [hjl] at hj
            have HG' : Hid (getList s.data.toList most = glGo s.data.toList (n - (ts ++ [t]).length) (p + j) (ts ++ [t])) := by
              have h := HG.out
              rw [hm, glGo, ht] at h
              have e1 : n - (ts ++ [t]).length = m := by simp; omega
              rw [e1]
              show _ = _
              simpa using h
            have hj1 := hj.1
            have hj2 := hj.2.1
            have hRt : (ts.length + 1) * 16 ≤ 140737488355328 := by
              have : ts.length + 1 ≤ R := by rcases hR with h | h <;> omega
              omega
            have hszw := hbel.size
            clear hj hjl ht HG hm
            go_wp2_with fail
            refine (refGetText_at _ _ t j 0 hsl.out HT.out).mono ?_
            rintro e w1 ⟨rfl, rfl⟩
            go_wp2_with (at_builtin; refine wpList_append_own _ rfl _ _ 28 rfl w'.heap.size 9 i0 (.string ⟨#[]⟩) 1 16 Tryz.underlying28 hi hz0 hz1 hz2 rfl (by decide) _ _ _ rfl (hown.alloc _) ⟨w1.heap.size, 0, none⟩ 1 1 [strVal t] rfl rfl ?c1 ?c2 ?c3 ?c4 ?c5 ?_)
            case c1 =>
              intro i u hj
              match i, hj with
              | 0, hj => simp at hj; subst hj; simp [Addr.add, strVal]
            case c2 => intro u hu; simp at hu; subst hu; rfl
            case c3 => unfold maxLen; omega
            case c4 => exact hRt
            case c5 => simp; omega
            · intro v' w2 hown' hgrow _
              have hb2 : Below w'.heap.size w' w2 := (hbel.alloc hszw _).grown hgrow (by simp; omega) (fun q hq => (hown.lt q hq).1)
              obtain ⟨ao', cap', rfl⟩ := own_slice hown'
              have hlt1 : (ts ++ [t]).length = ts.length + 1 := by simp
              have hown2 : w2.ownsRow w'.heap.size 9 1 (.slice ao' (ts ++ [t]).length cap') (ts ++ [t]).length ((ts ++ [t]).map strVal) := by
                rw [hlt1]
                simpa using hown'
              clear hown' hgrow hown hbel
              go_wp2
              go_roundw
              case rel => exact ⟨ts ++ [t], p + j, ao', cap', by rw [hlt1]; go_num, by go_num, by rw [hlt1], hown2, hb2, by omega, by omega, by omega, HG'⟩
              case measure => simp [slLen]; omega
          · have hne : ((et : Int) != 0) = true := by rw [bne_iff_ne]; omega
            have HE : Hid (getList s.data.toList most = ([], 0, et)) := by
              have h := HG.out
              rw [hm, glGo, ht] at h
              show _ = _
              simpa [h3] using h
            clear HG ht hm hown
            go_wp2_with fail
            refine (refGetText_at _ _ t j et hsl.out HT.out).mono ?_
            rintro e w1 ⟨rfl, rfl⟩
            go_wp2
            go_ret3
            refine ⟨_, rfl, ?_, hbel⟩
            rw [HE.out]
            exact ⟨none, 0, rfl, World.ownsRow_nil _ _ _ _⟩
        · have HE : Hid (getList s.data.toList most = (ts, p, 0)) := by
            have h := HG.out
            have e1 : n - ts.length = 0 := by omega
            rw [e1, glGo] at h
            exact h
          clear HG
          go_wp2
          go_ret3
          refine ⟨_, rfl, ?_, hbel⟩
          rw [HE.out]
          exact ⟨ao, cap, rfl, hown⟩
  · have hne : ((er : Int) != 0) = true := by rw [bne_iff_ne]; omega
    have H : Hid (getList s.data.toList most = ([], 0, er)) := by
      show _ = _
      simp [getList, hr, h1]
    clear hr
    go_enter Tryz.func125, Tryz.ntmps125
    go_wp2_with fail
    refine (refGetInt_at s _ n k _ hs0.out HR.out).mono ?_
    rintro e w' ⟨rfl, rfl⟩
    go_wp2
    go_ret3
    refine ⟨_, rfl, ?_, Below.refl _ _⟩
    rw [H.out]
    exact ⟨none, 0, rfl, World.ownsRow_nil _ _ _ _⟩
end Go.Proofs.YtmngiekobmhpaaaGreat

/- What the reference's reader does: it goes on behind an error, and reads nothing more. -/
namespace Go.Proofs.YtmngiekobmhpaaaGreat
open Go.RowKit
set_option linter.unusedVariables false

/-- Behind an error nothing more is read. -/
def runE (E : Nat) (r : TxD × Nat) : TxD × Nat := if E ≠ 0 then (.none, E) else r

set_option maxRecDepth 100000 in
set_option maxHeartbeats 400000 in
theorem inInt_any {W : World} {base rb zb tb top : Nat} {R : List (Option Addr × List ByteArray)} {w : World} {rest : ByteArray} {E : Nat} {cs : List Value} (st : RdSt W base rb zb tb top 62 R w [.string rest, .int .i64 (E : Int)] cs) (hs : rest.size ≤ maxLen) :
    Calls Tryz.prog 19 #[.pointer (some ⟨rb, 0, none⟩)] w fun e w' => ∃ (n E' : Nat) (rest' : ByteArray), e = .returned (.int .i64 (n : Int)) ∧ n ≤ 4611686018427387903 ∧ rest'.size ≤ maxLen ∧
      (∀ f, runE E (bindI rest.data.toList f) = runE E' (f n rest'.data.toList)) ∧ RdSt W base rb zb tb top 62 R w' [.string rest', .int .i64 (E' : Int)] cs := by
  have c0 := st.rd.cell (i := 0) rfl
  have c1 := st.rd.cell (i := 1) rfl
  have f0 := st.rd.frozen 0
  have f1 := st.rd.frozen 1
  by_cases hE : E = 0
  · subst hE
    rcases hr : getInt rest.data.toList with ⟨n, k, er⟩
    have fin := (st.setR 1 (.int .i64 (er : Int))).setR 0 (.string (rest.extract k rest.size))
    have hl : rest.data.toList.length = rest.size := by simp
    have hkn : k ≤ rest.size ∧ n ≤ 4611686018427387903 := by
      by_cases he : er = 0
      · subst he
        have hb := getInt_bounds _ n k hr
        omega
      · have := getInt_zero hr he
        omega
    have hk : (k : Int) ≤ rest.size := by omega
    have hstep : Hid (∀ f, runE 0 (bindI rest.data.toList f) = runE er (f n (rest.extract k rest.size).data.toList)) := by
      intro f
      by_cases he : er = 0
      · subst he
        rw [bindI_ok hr, extract_drop]
      · rw [bindI_err hr he]
        unfold runE
        rw [if_pos he, if_neg (by simp)]
    have cG := fun w1 => refGetInt_at rest w1 n k er hs hr
    have hsz := rest_le rest k hs
    clear st hr hl hs
    go_enter Tryz.func19, Tryz.ntmps19
    go_wp2_with fail
    refine (cG _).mono ?_
    rintro e w1 ⟨rfl, rfl⟩
    go_wp2
    go_ret
    exact ⟨n, er, rest.extract k rest.size, rfl, hkn.2, hsz, hstep.out, fin⟩
  · have hE' : ((E : Int) != 0) = true := by rw [bne_iff_ne]; omega
    go_enter Tryz.func19, Tryz.ntmps19
    go_wp2
    go_ret
    exact ⟨0, E, rest, rfl, by omega, hs, fun f => by unfold runE; rw [if_pos hE, if_pos hE], st⟩

set_option maxRecDepth 100000 in
set_option maxHeartbeats 400000 in
theorem inText_any {W : World} {base rb zb tb top : Nat} {R : List (Option Addr × List ByteArray)} {w : World} {rest : ByteArray} {E : Nat} {cs : List Value} (st : RdSt W base rb zb tb top 62 R w [.string rest, .int .i64 (E : Int)] cs) (hs : rest.size ≤ maxLen) :
    Calls Tryz.prog 65 #[.pointer (some ⟨rb, 0, none⟩)] w fun e w' => ∃ (t : List UInt8) (E' : Nat) (rest' : ByteArray), e = .returned (.string ⟨t.toArray⟩) ∧ t.length ≤ 65536 ∧ rest'.size ≤ maxLen ∧
      (∀ f, runE E (bindT rest.data.toList f) = runE E' (f t rest'.data.toList)) ∧ RdSt W base rb zb tb top 62 R w' [.string rest', .int .i64 (E' : Int)] cs := by
  have c0 := st.rd.cell (i := 0) rfl
  have c1 := st.rd.cell (i := 1) rfl
  have f0 := st.rd.frozen 0
  have f1 := st.rd.frozen 1
  by_cases hE : E = 0
  · subst hE
    rcases hr : getText rest.data.toList with ⟨t, k, er⟩
    have fin := (st.setR 1 (.int .i64 (er : Int))).setR 0 (.string (rest.extract k rest.size))
    have hl : rest.data.toList.length = rest.size := by simp
    have hkn : k ≤ rest.size ∧ t.length ≤ 65536 := by
      by_cases he : er = 0
      · subst he
        have hb := getText_bounds _ t k hr
        omega
      · have := getText_zero hr he
        rw [this.1, this.2]
        simp
    have hk : (k : Int) ≤ rest.size := by omega
    have hstep : Hid (∀ f, runE 0 (bindT rest.data.toList f) = runE er (f t (rest.extract k rest.size).data.toList)) := by
      intro f
      by_cases he : er = 0
      · subst he
        rw [bindT_ok hr, extract_drop]
      · rw [bindT_err hr he]
        unfold runE
        rw [if_pos he, if_neg (by simp)]
    have cG := fun w1 => refGetText_at rest w1 t k er hs hr
    have hsz := rest_le rest k hs
    clear st hr hl hs
    obtain ⟨tt, htt⟩ : ∃ q, q = (⟨t.toArray⟩ : ByteArray) := ⟨_, rfl⟩
    simp only [← htt] at cG
    have Htt : Hid (tt = (⟨t.toArray⟩ : ByteArray)) := htt
    clear htt
    go_enter Tryz.func65, Tryz.ntmps65
    go_wp2_with fail
    refine (cG _).mono ?_
    rintro e w1 ⟨rfl, rfl⟩
    go_wp2
    go_ret
    exact ⟨t, er, rest.extract k rest.size, by rw [← Htt.out]; rfl, hkn.2, hsz, hstep.out, fin⟩
  · have hE' : ((E : Int) != 0) = true := by rw [bne_iff_ne]; omega
    go_enter Tryz.func65, Tryz.ntmps65
    go_wp2
    go_ret
    exact ⟨[], E, rest, rfl, by simp, hs, fun f => by unfold runE; rw [if_pos hE, if_pos hE], st⟩

theorem refGetList8 (s : ByteArray) (w : World) (hs : s.size ≤ maxLen) (ts : List (List UInt8)) (k er : Nat) (hr : getList s.data.toList 8 = (ts, k, er)) :
    Calls Tryz.prog 125 #[.string s, .int .i64 8] w fun e w' => ∃ ao cap, e = .returned (.tuple #[.slice ao (mks ts).length cap, .int .i64 (k : Int), .int .i64 (er : Int)]) ∧ OwnStrs w.heap.size w' ao (mks ts) ∧ (ao = none → cap = 0) ∧ Below w.heap.size w w' := by
  refine (refGetList_any s 8 w 8 hs (Or.inr (by omega)) (by omega)).mono ?_
  rintro e w' ⟨v, rfl, hg, hb⟩
  rw [hr] at hg
  obtain ⟨ao, cap, rfl, hown⟩ := hg
  have hml : (mks ts).length = ts.length := by simp [mks]
  refine ⟨ao, cap, by rw [hml], ?_, ?_, hb⟩
  · refine own_far (cap := cap) (n := ts.length) ?_ hml.symm
    rw [bl_mks]
    exact hown
  · intro he
    rcases hown.2 with ⟨hv, _⟩ | ⟨g, c, cur, hv, _⟩
    · simp at hv; exact hv.2.2
    · simp at hv; rw [hv.1] at he; cases he

set_option maxRecDepth 100000 in
set_option maxHeartbeats 400000 in
theorem inList_any {W : World} {base rb zb tb top : Nat} {R : List (Option Addr × List ByteArray)} {w : World} {rest : ByteArray} {E : Nat} {cs : List Value} (st : RdSt W base rb zb tb top 62 R w [.string rest, .int .i64 (E : Int)] cs) (hs : rest.size ≤ maxLen) :
    Calls Tryz.prog 100 #[.pointer (some ⟨rb, 0, none⟩), .int .i64 8] w fun e w' => ∃ (ts : List (List UInt8)) (E' : Nat) (rest' : ByteArray) (ao : Option Addr) (cap : Nat), e = .returned (.slice ao (mks ts).length cap) ∧ (ao = none → cap = 0) ∧ (∀ t ∈ ts, t.length ≤ 65536) ∧ rest'.size ≤ maxLen ∧
      (∀ f, runE E (bindL rest.data.toList f) = runE E' (f ts rest'.data.toList)) ∧ RdSt W base rb zb tb top 62 ((ao, mks ts) :: R) w' [.string rest', .int .i64 (E' : Int)] cs := by
  have c0 := st.rd.cell (i := 0) rfl
  have c1 := st.rd.cell (i := 1) rfl
  by_cases hE : E = 0
  · subst hE
    rcases hr : getList rest.data.toList 8 with ⟨ts, k, er⟩
    have hl : rest.data.toList.length = rest.size := by simp
    have hkn : k ≤ rest.size ∧ ∀ t ∈ ts, t.length ≤ 65536 := by
      by_cases he : er = 0
      · subst he
        obtain ⟨_, _, b3, _, b5⟩ := getList_back hr
        exact ⟨by omega, b5⟩
      · have := getList_zero hr he
        rw [this.1, this.2]
        simp
    have hk : (k : Int) ≤ rest.size := by omega
    have hstep : Hid (∀ f, runE 0 (bindL rest.data.toList f) = runE er (f ts (rest.extract k rest.size).data.toList)) := by
      intro f
      by_cases he : er = 0
      · subst he
        rw [bindL_ok hr, extract_drop]
      · rw [bindL_err hr he]
        unfold runE
        rw [if_pos he, if_neg (by simp)]
    have cG := fun w1 => refGetList8 rest w1 hs ts k er hr
    have hsz := rest_le rest k hs
    clear hr hl hs
    obtain ⟨ms, hms⟩ : ∃ q, q = mks ts := ⟨_, rfl⟩
    simp only [← hms] at cG
    have Hms : Hid (ms = mks ts) := hms
    clear hms
    go_enter Tryz.func100, Tryz.ntmps100
    go_wp2_with fail
    refine (cG _).mono ?_
    rintro e w1 ⟨ao, cap, rfl, hO, hn, hb⟩
    have st1 := (st.below hb).row (hO.mono st.tw)
    have fin := (st1.setR 1 (.int .i64 (er : Int))).setR 0 (.string (rest.extract k rest.size))
    have d0 := st1.rd.cell (i := 0) rfl
    have d1 := st1.rd.cell (i := 1) rfl
    have f0 := st1.rd.frozen 0
    have f1 := st1.rd.frozen 1
    clear st st1 c0 c1 hO hb cG
    go_wp2
    go_ret
    refine ⟨ts, er, rest.extract k rest.size, ao, cap, by rw [← Hms.out]; rfl, hn, hkn.2, hsz, hstep.out, ?_⟩
    rw [← Hms.out]
    exact fin
  · have hE' : ((E : Int) != 0) = true := by rw [bne_iff_ne]; omega
    go_enter Tryz.func100, Tryz.ntmps100
    go_wp2
    go_ret
    exact ⟨[], E, rest, none, 0, rfl, fun _ => rfl, by simp, hs, fun f => by unfold runE; rw [if_pos hE, if_pos hE], st.row (fun j hj => absurd hj (by simp [mks]))⟩

set_option maxRecDepth 100000 in
set_option maxHeartbeats 400000 in
theorem inEnd_any {W : World} {base rb zb tb top : Nat} {R : List (Option Addr × List ByteArray)} {w : World} {rest : ByteArray} {E : Nat} {cs : List Value} (st : RdSt W base rb zb tb top 62 R w [.string rest, .int .i64 (E : Int)] cs) :
    Calls Tryz.prog 22 #[.pointer (some ⟨rb, 0, none⟩)] w fun e w' => e = .returned (.tuple #[]) ∧ RdSt W base rb zb tb top 62 R w' [.string rest, .int .i64 ((if E = 0 ∧ rest.data.toList ≠ [] then 6 else E : Nat) : Int)] cs := by
  have c0 := st.rd.cell (i := 0) rfl
  have c1 := st.rd.cell (i := 1) rfl
  have f1 := st.rd.frozen 1
  by_cases hE : E = 0
  · subst hE
    by_cases hr : rest.data.toList ≠ []
    · have hr1 : rest.toList.isEmpty = false := by rw [ByteArray.toList_eq]; simpa using hr
      rw [if_pos ⟨rfl, hr⟩]
      have fin := st.setR 1 (.int .i64 6)
      clear hr
      go_enter Tryz.func22, Tryz.ntmps22
      go_wp2
      go_end0
      exact ⟨rfl, fin⟩
    · have hr1 : rest.toList.isEmpty = true := by rw [ByteArray.toList_eq]; simpa using hr
      rw [if_neg (fun h => hr h.2)]
      clear hr
      go_enter Tryz.func22, Tryz.ntmps22
      go_wp2
      go_end0
      exact ⟨rfl, st⟩
  · have hE' : ((E : Int) == 0) = false := beq_eq_false_iff_ne.2 (by omega)
    rw [if_neg (fun h => hE h.1)]
    go_enter Tryz.func22, Tryz.ntmps22
    go_wp2
    go_end0
    exact ⟨rfl, st⟩
end Go.Proofs.YtmngiekobmhpaaaGreat

/- What tuskref04.Decode does: the transaction of bytes, or the first error; nothing old in memory is turned. -/
namespace Go.Proofs.YtmngiekobmhpaaaGreat
open Go.RowKit
set_option linter.unusedVariables false

theorem results_tx_tmp {fn : Func} {p u : Tmp} (h : fn.results = #[.cell p 123, .tmp u]) (tmps : Array Value) (w : World) (g : Nat) (d : TxD) (ra : Option Addr) (rc : Nat) (wa : Option Addr) (wc : Nat)
    (hp : tmps.getD p undef = .pointer (some ⟨g, 0, none⟩)) (hg : Arr w g 123 (txC d ra rc wa wc)) (v : Value) (hv : tmps.getD u undef = v) :
    (results fn tmps).run Tryz.prog w = .ok (.tuple #[txV d ra rc wa wc, v]) w := by
  rw [results_cell_tmp h, hp, hv]
  have hl := run_loadVar_row w g 123 123 (txC d ra rc wa wc).toArray (0, 0) _ hg Tryz.underlying123 rfl infoTx
  simp [asAddr, hl, txV, txC, Result.andThen]

theorem runE_zero (r : TxD × Nat) : runE 0 r = r := by
  unfold runE
  rw [if_neg (by simp)]

theorem mk_size (t : List UInt8) (h : t.length ≤ 65536) : (⟨t.toArray⟩ : ByteArray).size ≤ maxLen := by
  rw [size_mk]
  unfold maxLen
  omega

theorem mks_size (ts : List (List UInt8)) (h : ∀ t ∈ ts, t.length ≤ 65536) : ∀ s ∈ mks ts, s.size ≤ maxLen := by
  intro s hs
  obtain ⟨t, ht, rfl⟩ := List.mem_map.1 hs
  exact mk_size t (h t ht)

set_option maxRecDepth 100000 in
set_option maxHeartbeats 4000000 in
theorem refDecode_own (s : ByteArray) (W : World) (hs : s.size ≤ maxLen) :
    Calls Tryz.prog 101 #[.string s] W fun e w' => GotDecO W (decL s.data.toList) e w' := by
  obtain ⟨hz1, hz2, hzB⟩ := two_new W 123 62 zeroC [.string s, .int .i64 0]
  have hz3 := Arr.new ((W.alloc (.cells zeroC.toArray 123)).alloc (.cells #[.string s, .int .i64 0] 62)) 123 zeroC
  rw [alloc_size, alloc_size] at hz3
  have st : RdSt W W.heap.size (W.heap.size + 1) W.heap.size (W.heap.size + 1 + 1) (W.heap.size + 1 + 1 + 1) 62 [] (((W.alloc (.cells zeroC.toArray 123)).alloc (.cells #[.string s, .int .i64 0] 62)).alloc (.cells zeroC.toArray 123)) [.string s, .int .i64 ((0 : Nat) : Int)] zeroC :=
    ⟨hz2.alloc _, hz1.alloc _, hz3, by omega, by omega, by omega, by omega, by omega, by omega, by omega, by omega, by omega, by rw [alloc_size, alloc_size, alloc_size]; omega, (fun p hp => by cases hp), hzB.alloc hzB.size _⟩
  clear hz1 hz2 hz3 hzB
  obtain ⟨out, hout⟩ : ∃ out, out = decL s.data.toList := ⟨_, rfl⟩
  rw [← hout]
  unfold decL at hout
  have hx := hout.trans (runE_zero _).symm
  have H : Hid (out = _) := hx
  clear hout hx
  have r0s : Hid (s.size ≤ maxLen) := hs
  clear hs
  go_enter Tryz.func101, Tryz.ntmps101
  have cE := inInt_any st r0s.out
  clear st
  go_wp2_with fail
  refine cE.mono ?_
  rintro e w1 ⟨v0, E1, r1, rfl, vb, rs, hf, st⟩
  have hx := H.out.trans (hf _)
  have r1s : Hid (r1.size ≤ maxLen) := rs
  clear cE rs hf
  have n0 : (v0 : Int) ≤ 4611686018427387903 := by omega
  clear vb
  replace H : Hid (out = _) := hx
  clear hx
  have cE := inText_any st r1s.out
  clear st
  go_wp2_with fail
  refine cE.mono ?_
  rintro e w2 ⟨v1, E2, r2, rfl, vb, rs, hf, st⟩
  have hx := H.out.trans (hf _)
  have r2s : Hid (r2.size ≤ maxLen) := rs
  clear cE rs hf
  have q1 : Hid ((⟨v1.toArray⟩ : ByteArray).size ≤ maxLen) := mk_size v1 vb
  generalize (⟨v1.toArray⟩ : ByteArray) = b1 at hx q1 ⊢
  clear vb
  replace H : Hid (out = _) := hx
  clear hx
  have y := st.tx.cell (i := 1) rfl
  have f := st.tx.frozen 1
  have st' := st.setT 1 (.string b1)
  obtain ⟨w3, hw⟩ : ∃ q, w2.setCell ⟨W.heap.size + 1 + 1, 1, none⟩ (.string b1) = q := ⟨_, rfl⟩
  rw [hw] at st'
  replace st' : RdSt W W.heap.size (W.heap.size + 1) W.heap.size (W.heap.size + 1 + 1) (W.heap.size + 1 + 1 + 1) 62 [] w3 [.string r2, .int .i64 (E2 : Int)] [.int .i64 0, .string b1, .string ⟨#[]⟩, .int .u64 0, .int .u64 0, .string ⟨#[]⟩, .string ⟨#[]⟩, .slice none 0 0, .slice none 0 0] := st'
  clear st
  have st := st'
  clear st'
  have cE := inText_any st r2s.out
  clear st
  go_wp2_with fail
  refine cE.mono ?_
  rintro e w4 ⟨v2, E3, r3, rfl, vb, rs, hf, st⟩
  have hx := H.out.trans (hf _)
  have r3s : Hid (r3.size ≤ maxLen) := rs
  clear cE rs hf
  have q2 : Hid ((⟨v2.toArray⟩ : ByteArray).size ≤ maxLen) := mk_size v2 vb
  generalize (⟨v2.toArray⟩ : ByteArray) = b2 at hx q2 ⊢
  clear vb
  replace H : Hid (out = _) := hx
  clear hx
  have y := st.tx.cell (i := 2) rfl
  have f := st.tx.frozen 2
  have st' := st.setT 2 (.string b2)
  obtain ⟨w5, hw⟩ : ∃ q, w4.setCell ⟨W.heap.size + 1 + 1, 2, none⟩ (.string b2) = q := ⟨_, rfl⟩
  rw [hw] at st'
  replace st' : RdSt W W.heap.size (W.heap.size + 1) W.heap.size (W.heap.size + 1 + 1) (W.heap.size + 1 + 1 + 1) 62 [] w5 [.string r3, .int .i64 (E3 : Int)] [.int .i64 0, .string b1, .string b2, .int .u64 0, .int .u64 0, .string ⟨#[]⟩, .string ⟨#[]⟩, .slice none 0 0, .slice none 0 0] := st'
  clear st
  have st := st'
  clear st'
  have cE := inInt_any st r3s.out
  clear st
  go_wp2_with fail
  refine cE.mono ?_
  rintro e w6 ⟨v3, E4, r4, rfl, vb, rs, hf, st⟩
  have hx := H.out.trans (hf _)
  have r4s : Hid (r4.size ≤ maxLen) := rs
  clear cE rs hf
  have n3 : (v3 : Int) ≤ 4611686018427387903 := by omega
  clear vb
  replace H : Hid (out = _) := hx
  clear hx
  have y := st.tx.cell (i := 3) rfl
  have f := st.tx.frozen 3
  have st' := st.setT 3 (.int .u64 (v3 : Int))
  obtain ⟨w7, hw⟩ : ∃ q, w6.setCell ⟨W.heap.size + 1 + 1, 3, none⟩ (.int .u64 (v3 : Int)) = q := ⟨_, rfl⟩
  rw [hw] at st'
  replace st' : RdSt W W.heap.size (W.heap.size + 1) W.heap.size (W.heap.size + 1 + 1) (W.heap.size + 1 + 1 + 1) 62 [] w7 [.string r4, .int .i64 (E4 : Int)] [.int .i64 0, .string b1, .string b2, .int .u64 (v3 : Int), .int .u64 0, .string ⟨#[]⟩, .string ⟨#[]⟩, .slice none 0 0, .slice none 0 0] := st'
  clear st
  have st := st'
  clear st'
  have cE := inInt_any st r4s.out
  clear st
  go_wp2_with fail
  refine cE.mono ?_
  rintro e w8 ⟨v4, E5, r5, rfl, vb, rs, hf, st⟩
  have hx := H.out.trans (hf _)
  have r5s : Hid (r5.size ≤ maxLen) := rs
  clear cE rs hf
  have n4 : (v4 : Int) ≤ 4611686018427387903 := by omega
  clear vb
  replace H : Hid (out = _) := hx
  clear hx
  have y := st.tx.cell (i := 4) rfl
  have f := st.tx.frozen 4
  have st' := st.setT 4 (.int .u64 (v4 : Int))
  obtain ⟨w9, hw⟩ : ∃ q, w8.setCell ⟨W.heap.size + 1 + 1, 4, none⟩ (.int .u64 (v4 : Int)) = q := ⟨_, rfl⟩
  rw [hw] at st'
  replace st' : RdSt W W.heap.size (W.heap.size + 1) W.heap.size (W.heap.size + 1 + 1) (W.heap.size + 1 + 1 + 1) 62 [] w9 [.string r5, .int .i64 (E5 : Int)] [.int .i64 0, .string b1, .string b2, .int .u64 (v3 : Int), .int .u64 (v4 : Int), .string ⟨#[]⟩, .string ⟨#[]⟩, .slice none 0 0, .slice none 0 0] := st'
  clear st
  have st := st'
  clear st'
  have cE := inText_any st r5s.out
  clear st
  go_wp2_with fail
  refine cE.mono ?_
  rintro e w10 ⟨v5, E6, r6, rfl, vb, rs, hf, st⟩
  have hx := H.out.trans (hf _)
  have r6s : Hid (r6.size ≤ maxLen) := rs
  clear cE rs hf
  have q5 : Hid ((⟨v5.toArray⟩ : ByteArray).size ≤ maxLen) := mk_size v5 vb
  generalize (⟨v5.toArray⟩ : ByteArray) = b5 at hx q5 ⊢
  clear vb
  replace H : Hid (out = _) := hx
  clear hx
  have y := st.tx.cell (i := 5) rfl
  have f := st.tx.frozen 5
  have st' := st.setT 5 (.string b5)
  obtain ⟨w11, hw⟩ : ∃ q, w10.setCell ⟨W.heap.size + 1 + 1, 5, none⟩ (.string b5) = q := ⟨_, rfl⟩
  rw [hw] at st'
  replace st' : RdSt W W.heap.size (W.heap.size + 1) W.heap.size (W.heap.size + 1 + 1) (W.heap.size + 1 + 1 + 1) 62 [] w11 [.string r6, .int .i64 (E6 : Int)] [.int .i64 0, .string b1, .string b2, .int .u64 (v3 : Int), .int .u64 (v4 : Int), .string b5, .string ⟨#[]⟩, .slice none 0 0, .slice none 0 0] := st'
  clear st
  have st := st'
  clear st'
  have cE := inText_any st r6s.out
  clear st
  go_wp2_with fail
  refine cE.mono ?_
  rintro e w12 ⟨v6, E7, r7, rfl, vb, rs, hf, st⟩
  have hx := H.out.trans (hf _)
  have r7s : Hid (r7.size ≤ maxLen) := rs
  clear cE rs hf
  have q6 : Hid ((⟨v6.toArray⟩ : ByteArray).size ≤ maxLen) := mk_size v6 vb
  generalize (⟨v6.toArray⟩ : ByteArray) = b6 at hx q6 ⊢
  clear vb
  replace H : Hid (out = _) := hx
  clear hx
  have y := st.tx.cell (i := 6) rfl
  have f := st.tx.frozen 6
  have st' := st.setT 6 (.string b6)
  obtain ⟨w13, hw⟩ : ∃ q, w12.setCell ⟨W.heap.size + 1 + 1, 6, none⟩ (.string b6) = q := ⟨_, rfl⟩
  rw [hw] at st'
  replace st' : RdSt W W.heap.size (W.heap.size + 1) W.heap.size (W.heap.size + 1 + 1) (W.heap.size + 1 + 1 + 1) 62 [] w13 [.string r7, .int .i64 (E7 : Int)] [.int .i64 0, .string b1, .string b2, .int .u64 (v3 : Int), .int .u64 (v4 : Int), .string b5, .string b6, .slice none 0 0, .slice none 0 0] := st'
  clear st
  have st := st'
  clear st'
  have cE := inList_any st r7s.out
  clear st
  go_wp2_with fail
  refine cE.mono ?_
  rintro e w14 ⟨v7, E8, r8, a7, c7, rfl, nn7, vb, rs, hf, st⟩
  have hx := H.out.trans (hf _)
  have r8s : Hid (r8.size ≤ maxLen) := rs
  clear cE rs hf
  have q7 : Hid (∀ s ∈ mks v7, s.size ≤ maxLen) := mks_size v7 vb
  generalize mks v7 = m7 at hx q7 st ⊢
  clear vb
  replace H : Hid (out = _) := hx
  clear hx
  have y := st.tx.cell (i := 7) rfl
  have f := st.tx.frozen 7
  have st' := st.setT 7 (.slice a7 m7.length c7)
  obtain ⟨w15, hw⟩ : ∃ q, w14.setCell ⟨W.heap.size + 1 + 1, 7, none⟩ (.slice a7 m7.length c7) = q := ⟨_, rfl⟩
  rw [hw] at st'
  replace st' : RdSt W W.heap.size (W.heap.size + 1) W.heap.size (W.heap.size + 1 + 1) (W.heap.size + 1 + 1 + 1) 62 ((a7, m7) :: []) w15 [.string r8, .int .i64 (E8 : Int)] [.int .i64 0, .string b1, .string b2, .int .u64 (v3 : Int), .int .u64 (v4 : Int), .string b5, .string b6, .slice a7 m7.length c7, .slice none 0 0] := st'
  clear st
  have st := st'
  clear st'
  have cE := inList_any st r8s.out
  clear st
  go_wp2_with fail
  refine cE.mono ?_
  rintro e w16 ⟨v8, E9, r9, a8, c8, rfl, nn8, vb, rs, hf, st⟩
  have hx := H.out.trans (hf _)
  have r9s : Hid (r9.size ≤ maxLen) := rs
  clear cE rs hf
  have q8 : Hid (∀ s ∈ mks v8, s.size ≤ maxLen) := mks_size v8 vb
  generalize mks v8 = m8 at hx q8 st ⊢
  clear vb
  replace H : Hid (out = _) := hx
  clear hx
  have y := st.tx.cell (i := 8) rfl
  have f := st.tx.frozen 8
  have st' := st.setT 8 (.slice a8 m8.length c8)
  obtain ⟨w17, hw⟩ : ∃ q, w16.setCell ⟨W.heap.size + 1 + 1, 8, none⟩ (.slice a8 m8.length c8) = q := ⟨_, rfl⟩
  rw [hw] at st'
  replace st' : RdSt W W.heap.size (W.heap.size + 1) W.heap.size (W.heap.size + 1 + 1) (W.heap.size + 1 + 1 + 1) 62 ((a8, m8) :: ((a7, m7) :: [])) w17 [.string r9, .int .i64 (E9 : Int)] [.int .i64 0, .string b1, .string b2, .int .u64 (v3 : Int), .int .u64 (v4 : Int), .string b5, .string b6, .slice a7 m7.length c7, .slice a8 m8.length c8] := st'
  clear st
  have st := st'
  clear st'
  replace H : Hid (out = runE E9 (finTx ⟨(v0 : Int), b1, b2, v3, v4, b5, b6, m7, m8⟩ r9.data.toList)) := H
  have xe := st.rd.cell (i := 1) rfl
  have fe := st.rd.frozen 1
  by_cases hE : E9 ≠ 0
  · have H1 : Hid (out = (.none, E9)) := (H.out.trans (if_pos hE) : _ = _)
    have hE1 : ((E9 : Int) == 0) = false := beq_eq_false_iff_ne.2 (by omega)
    have hE2 : ((E9 : Int) != 0) = true := by rw [bne_iff_ne]; omega
    have cN := inEnd_any st
    rw [if_neg (fun h => hE h.1)] at cN
    clear H st
    go_wp2_with fail
    refine cN.mono ?_
    rintro e we ⟨rfl, st⟩
    clear cN xe fe
    have y0 := st.tx.cell (i := 0) rfl
    have f0 := st.tx.frozen 0
    have st' := st.setT 0 (.int .i64 (v0 : Int))
    obtain ⟨wk, hwk⟩ : ∃ q, we.setCell ⟨W.heap.size + 1 + 1, 0, none⟩ (.int .i64 (v0 : Int)) = q := ⟨_, rfl⟩
    rw [hwk] at st'
    replace st' : RdSt W W.heap.size (W.heap.size + 1) W.heap.size (W.heap.size + 1 + 1) (W.heap.size + 1 + 1 + 1) 62 ((a8, m8) :: ((a7, m7) :: [])) wk [.string r9, .int .i64 (E9 : Int)] [.int .i64 (v0 : Int), .string b1, .string b2, .int .u64 (v3 : Int), .int .u64 (v4 : Int), .string b5, .string b6, .slice a7 m7.length c7, .slice a8 m8.length c8] := st'
    clear st
    have st := st'
    clear st'
    have x1 := st.rd.cell (i := 1) rfl
    obtain ⟨q0, q1, q2, q3, q4, q5', q6', q7', q8'⟩ := st.res.cells9
    have g0 := st.res.frozen 0
    have g1 := st.res.frozen 1
    have g2 := st.res.frozen 2
    have g3 := st.res.frozen 3
    have g4 := st.res.frozen 4
    have g5 := st.res.frozen 5
    have g6 := st.res.frozen 6
    have g7 := st.res.frozen 7
    have g8 := st.res.frozen 8
    have a1 : Arr (set9 wk W.heap.size (.int .i64 0) (.string ⟨#[]⟩) (.string ⟨#[]⟩) (.int .u64 0) (.int .u64 0) (.string ⟨#[]⟩) (.string ⟨#[]⟩) (.slice none 0 0) (.slice none 0 0)).drew W.heap.size 123 zeroC := (st.res.set9 (.int .i64 0) (.string ⟨#[]⟩) (.string ⟨#[]⟩) (.int .u64 0) (.int .u64 0) (.string ⟨#[]⟩) (.string ⟨#[]⟩) (.slice none 0 0) (.slice none 0 0)).drew
    have a3 : Below W.heap.size W (set9 wk W.heap.size (.int .i64 0) (.string ⟨#[]⟩) (.string ⟨#[]⟩) (.int .u64 0) (.int .u64 0) (.string ⟨#[]⟩) (.string ⟨#[]⟩) (.slice none 0 0) (.slice none 0 0)).drew := Below.drew (below_set9 st.bel (Nat.le_refl _) (.int .i64 0) (.string ⟨#[]⟩) (.string ⟨#[]⟩) (.int .u64 0) (.int .u64 0) (.string ⟨#[]⟩) (.string ⟨#[]⟩) (.slice none 0 0) (.slice none 0 0))
    unfold set9 at a1 a3
    have fin := And.intro a1 a3
    clear a1 a3 st
    go_wp2_with fail
    go_region
    revert fin
    generalize (World.setCell _ ⟨W.heap.size, 8, none⟩ (.slice none 0 0)).drew = wf
    intro fin
    try go_wp2
    refine bodyPost_ret (v := .tuple #[txV .none none 0 none 0, .int .i64 (E9 : Int)]) (results_tx_tmp rfl _ _ W.heap.size .none none 0 none 0 rfl fin.1 _ rfl) rfl ?_
    rw [H1.out]
    exact ⟨none, 0, none, 0, rfl, nil_own _ _ _, nil_own _ _ _, fun _ => rfl, fun _ => rfl, fin.2⟩
  replace hE : E9 = 0 := by omega
  subst hE
  replace H : Hid (out = finTx ⟨(v0 : Int), b1, b2, v3, v4, b5, b6, m7, m8⟩ r9.data.toList) := H
  unfold finTx at H
  by_cases hk : (2 : Int) < (v0 : Int)
  · have H1 : Hid (out = (.none, 2)) := (H.out.trans (if_pos hk) : _ = _)
    have st2 := st.setR 1 (.int .i64 ((2 : Nat) : Int))
    obtain ⟨wq, hwq⟩ : ∃ q, w17.setCell ⟨W.heap.size + 1, 1, none⟩ (.int .i64 2) = q := ⟨_, rfl⟩
    replace st2 : RdSt W W.heap.size (W.heap.size + 1) W.heap.size (W.heap.size + 1 + 1) (W.heap.size + 1 + 1 + 1) 62 ((a8, m8) :: ((a7, m7) :: [])) (w17.setCell ⟨W.heap.size + 1, 1, none⟩ (.int .i64 2)) [.string r9, .int .i64 ((2 : Nat) : Int)] [.int .i64 0, .string b1, .string b2, .int .u64 (v3 : Int), .int .u64 (v4 : Int), .string b5, .string b6, .slice a7 m7.length c7, .slice a8 m8.length c8] := st2
    rw [hwq] at st2
    have cN := inEnd_any st2
    rw [if_neg (fun h => by cases h.1)] at cN
    clear H st st2
    go_wp2_with fail
    refine cN.mono ?_
    rintro e we ⟨rfl, st⟩
    clear cN xe fe
    have y0 := st.tx.cell (i := 0) rfl
    have f0 := st.tx.frozen 0
    have st' := st.setT 0 (.int .i64 (v0 : Int))
    obtain ⟨wk, hwk⟩ : ∃ q, we.setCell ⟨W.heap.size + 1 + 1, 0, none⟩ (.int .i64 (v0 : Int)) = q := ⟨_, rfl⟩
    rw [hwk] at st'
    replace st' : RdSt W W.heap.size (W.heap.size + 1) W.heap.size (W.heap.size + 1 + 1) (W.heap.size + 1 + 1 + 1) 62 ((a8, m8) :: ((a7, m7) :: [])) wk [.string r9, .int .i64 ((2 : Nat) : Int)] [.int .i64 (v0 : Int), .string b1, .string b2, .int .u64 (v3 : Int), .int .u64 (v4 : Int), .string b5, .string b6, .slice a7 m7.length c7, .slice a8 m8.length c8] := st'
    clear st
    have st := st'
    clear st'
    have x1 := st.rd.cell (i := 1) rfl
    obtain ⟨q0, q1, q2, q3, q4, q5', q6', q7', q8'⟩ := st.res.cells9
    have g0 := st.res.frozen 0
    have g1 := st.res.frozen 1
    have g2 := st.res.frozen 2
    have g3 := st.res.frozen 3
    have g4 := st.res.frozen 4
    have g5 := st.res.frozen 5
    have g6 := st.res.frozen 6
    have g7 := st.res.frozen 7
    have g8 := st.res.frozen 8
    have a1 : Arr (set9 wk W.heap.size (.int .i64 0) (.string ⟨#[]⟩) (.string ⟨#[]⟩) (.int .u64 0) (.int .u64 0) (.string ⟨#[]⟩) (.string ⟨#[]⟩) (.slice none 0 0) (.slice none 0 0)).drew W.heap.size 123 zeroC := (st.res.set9 (.int .i64 0) (.string ⟨#[]⟩) (.string ⟨#[]⟩) (.int .u64 0) (.int .u64 0) (.string ⟨#[]⟩) (.string ⟨#[]⟩) (.slice none 0 0) (.slice none 0 0)).drew
    have a3 : Below W.heap.size W (set9 wk W.heap.size (.int .i64 0) (.string ⟨#[]⟩) (.string ⟨#[]⟩) (.int .u64 0) (.int .u64 0) (.string ⟨#[]⟩) (.string ⟨#[]⟩) (.slice none 0 0) (.slice none 0 0)).drew := Below.drew (below_set9 st.bel (Nat.le_refl _) (.int .i64 0) (.string ⟨#[]⟩) (.string ⟨#[]⟩) (.int .u64 0) (.int .u64 0) (.string ⟨#[]⟩) (.string ⟨#[]⟩) (.slice none 0 0) (.slice none 0 0))
    unfold set9 at a1 a3
    have fin := And.intro a1 a3
    clear a1 a3 st
    go_wp2_with fail
    go_region
    revert fin
    generalize (World.setCell _ ⟨W.heap.size, 8, none⟩ (.slice none 0 0)).drew = wf
    intro fin
    try go_wp2
    refine bodyPost_ret (v := .tuple #[txV .none none 0 none 0, .int .i64 (2 : Int)]) (results_tx_tmp rfl _ _ W.heap.size .none none 0 none 0 rfl fin.1 _ rfl) rfl ?_
    rw [H1.out]
    exact ⟨none, 0, none, 0, rfl, nil_own _ _ _, nil_own _ _ _, fun _ => rfl, fun _ => rfl, fin.2⟩
  replace H : Hid (out = _) := (H.out.trans (if_neg hk) : _ = _)
  have hk' : (v0 : Int) ≤ 2 := by omega
  clear hk
  have cN := inEnd_any st
  by_cases hr : r9.data.toList ≠ []
  · have H1 : Hid (out = (.none, 6)) := (H.out.trans (if_pos hr) : _ = _)
    rw [if_pos ⟨rfl, hr⟩] at cN
    clear H st hr
    go_wp2_with fail
    refine cN.mono ?_
    rintro e we ⟨rfl, st⟩
    clear cN xe fe
    have y0 := st.tx.cell (i := 0) rfl
    have f0 := st.tx.frozen 0
    have st' := st.setT 0 (.int .i64 (v0 : Int))
    obtain ⟨wk, hwk⟩ : ∃ q, we.setCell ⟨W.heap.size + 1 + 1, 0, none⟩ (.int .i64 (v0 : Int)) = q := ⟨_, rfl⟩
    rw [hwk] at st'
    replace st' : RdSt W W.heap.size (W.heap.size + 1) W.heap.size (W.heap.size + 1 + 1) (W.heap.size + 1 + 1 + 1) 62 ((a8, m8) :: ((a7, m7) :: [])) wk [.string r9, .int .i64 ((6 : Nat) : Int)] [.int .i64 (v0 : Int), .string b1, .string b2, .int .u64 (v3 : Int), .int .u64 (v4 : Int), .string b5, .string b6, .slice a7 m7.length c7, .slice a8 m8.length c8] := st'
    clear st
    have st := st'
    clear st'
    have x1 := st.rd.cell (i := 1) rfl
    obtain ⟨q0, q1, q2, q3, q4, q5', q6', q7', q8'⟩ := st.res.cells9
    have g0 := st.res.frozen 0
    have g1 := st.res.frozen 1
    have g2 := st.res.frozen 2
    have g3 := st.res.frozen 3
    have g4 := st.res.frozen 4
    have g5 := st.res.frozen 5
    have g6 := st.res.frozen 6
    have g7 := st.res.frozen 7
    have g8 := st.res.frozen 8
    have a1 : Arr (set9 wk W.heap.size (.int .i64 0) (.string ⟨#[]⟩) (.string ⟨#[]⟩) (.int .u64 0) (.int .u64 0) (.string ⟨#[]⟩) (.string ⟨#[]⟩) (.slice none 0 0) (.slice none 0 0)).drew W.heap.size 123 zeroC := (st.res.set9 (.int .i64 0) (.string ⟨#[]⟩) (.string ⟨#[]⟩) (.int .u64 0) (.int .u64 0) (.string ⟨#[]⟩) (.string ⟨#[]⟩) (.slice none 0 0) (.slice none 0 0)).drew
    have a3 : Below W.heap.size W (set9 wk W.heap.size (.int .i64 0) (.string ⟨#[]⟩) (.string ⟨#[]⟩) (.int .u64 0) (.int .u64 0) (.string ⟨#[]⟩) (.string ⟨#[]⟩) (.slice none 0 0) (.slice none 0 0)).drew := Below.drew (below_set9 st.bel (Nat.le_refl _) (.int .i64 0) (.string ⟨#[]⟩) (.string ⟨#[]⟩) (.int .u64 0) (.int .u64 0) (.string ⟨#[]⟩) (.string ⟨#[]⟩) (.slice none 0 0) (.slice none 0 0))
    unfold set9 at a1 a3
    have fin := And.intro a1 a3
    clear a1 a3 st
    go_wp2_with fail
    go_region
    revert fin
    generalize (World.setCell _ ⟨W.heap.size, 8, none⟩ (.slice none 0 0)).drew = wf
    intro fin
    try go_wp2
    refine bodyPost_ret (v := .tuple #[txV .none none 0 none 0, .int .i64 (6 : Int)]) (results_tx_tmp rfl _ _ W.heap.size .none none 0 none 0 rfl fin.1 _ rfl) rfl ?_
    rw [H1.out]
    exact ⟨none, 0, none, 0, rfl, nil_own _ _ _, nil_own _ _ _, fun _ => rfl, fun _ => rfl, fin.2⟩
  replace H : Hid (out = _) := (H.out.trans (if_neg hr) : _ = _)
  rw [if_neg (fun h => hr h.2)] at cN
  clear hr st
  go_wp2_with fail
  refine cN.mono ?_
  rintro e we ⟨rfl, st⟩
  clear cN xe fe
  have y0 := st.tx.cell (i := 0) rfl
  have f0 := st.tx.frozen 0
  have st' := st.setT 0 (.int .i64 (v0 : Int))
  obtain ⟨wk, hwk⟩ : ∃ q, we.setCell ⟨W.heap.size + 1 + 1, 0, none⟩ (.int .i64 (v0 : Int)) = q := ⟨_, rfl⟩
  rw [hwk] at st'
  replace st' : RdSt W W.heap.size (W.heap.size + 1) W.heap.size (W.heap.size + 1 + 1) (W.heap.size + 1 + 1 + 1) 62 ((a8, m8) :: ((a7, m7) :: [])) wk [.string r9, .int .i64 ((0 : Nat) : Int)] [.int .i64 (v0 : Int), .string b1, .string b2, .int .u64 (v3 : Int), .int .u64 (v4 : Int), .string b5, .string b6, .slice a7 m7.length c7, .slice a8 m8.length c8] := st'
  clear st
  have st := st'
  clear st'
  have x1 := st.rd.cell (i := 1) rfl
  have hA : TxAt wk ⟨(v0 : Int), b1, b2, v3, v4, b5, b6, m7, m8⟩ a7 a8 := ⟨(st.rows (a7, m7) (by simp)).at, (st.rows (a8, m8) (by simp)).at⟩
  have hS : TxSizes ⟨(v0 : Int), b1, b2, v3, v4, b5, b6, m7, m8⟩ := ⟨q1.out, q2.out, q5.out, q6.out, q7.out, q8.out⟩
  have cC := refCheck_any ⟨(v0 : Int), b1, b2, v3, v4, b5, b6, m7, m8⟩ a7 c7 a8 c8 wk hA hS
  obtain ⟨u0, u1, u2, u3, u4, u5, u6, u7, u8⟩ := st.tx.cells9
  clear hA hS
  by_cases hc : checkL ⟨(v0 : Int), b1, b2, v3, v4, b5, b6, m7, m8⟩ ≠ 0
  · have H1 : Hid (out = (.none, checkL ⟨(v0 : Int), b1, b2, v3, v4, b5, b6, m7, m8⟩)) := (H.out.trans (if_pos hc) : _ = _)
    generalize checkL ⟨(v0 : Int), b1, b2, v3, v4, b5, b6, m7, m8⟩ = er at cC H1 hc
    have hc2 : ((er : Int) != 0) = true := by rw [bne_iff_ne]; omega
    clear H
    go_wp2_with fail
    refine cC.mono ?_
    rintro e wy ⟨rfl, hbb⟩
    replace st := st.below hbb
    clear cC hbb u0 u1 u2 u3 u4 u5 u6 u7 u8 x1
    have z1 := st.rd.cell (i := 1) rfl
    have zf := st.rd.frozen 1
    have st' := st.setR 1 (.int .i64 (er : Int))
    obtain ⟨wv, hwv⟩ : ∃ q, wy.setCell ⟨W.heap.size + 1, 1, none⟩ (.int .i64 (er : Int)) = q := ⟨_, rfl⟩
    rw [hwv] at st'
    clear st
    have st := st'
    clear st'
    have x1 := st.rd.cell (i := 1) rfl
    obtain ⟨q0, q1, q2, q3, q4, q5', q6', q7', q8'⟩ := st.res.cells9
    have g0 := st.res.frozen 0
    have g1 := st.res.frozen 1
    have g2 := st.res.frozen 2
    have g3 := st.res.frozen 3
    have g4 := st.res.frozen 4
    have g5 := st.res.frozen 5
    have g6 := st.res.frozen 6
    have g7 := st.res.frozen 7
    have g8 := st.res.frozen 8
    have a1 : Arr (set9 wv W.heap.size (.int .i64 0) (.string ⟨#[]⟩) (.string ⟨#[]⟩) (.int .u64 0) (.int .u64 0) (.string ⟨#[]⟩) (.string ⟨#[]⟩) (.slice none 0 0) (.slice none 0 0)).drew W.heap.size 123 zeroC := (st.res.set9 (.int .i64 0) (.string ⟨#[]⟩) (.string ⟨#[]⟩) (.int .u64 0) (.int .u64 0) (.string ⟨#[]⟩) (.string ⟨#[]⟩) (.slice none 0 0) (.slice none 0 0)).drew
    have a3 : Below W.heap.size W (set9 wv W.heap.size (.int .i64 0) (.string ⟨#[]⟩) (.string ⟨#[]⟩) (.int .u64 0) (.int .u64 0) (.string ⟨#[]⟩) (.string ⟨#[]⟩) (.slice none 0 0) (.slice none 0 0)).drew := Below.drew (below_set9 st.bel (Nat.le_refl _) (.int .i64 0) (.string ⟨#[]⟩) (.string ⟨#[]⟩) (.int .u64 0) (.int .u64 0) (.string ⟨#[]⟩) (.string ⟨#[]⟩) (.slice none 0 0) (.slice none 0 0))
    unfold set9 at a1 a3
    have fin := And.intro a1 a3
    clear a1 a3 st
    go_wp2_with fail
    go_region
    revert fin
    generalize (World.setCell _ ⟨W.heap.size, 8, none⟩ (.slice none 0 0)).drew = wf
    intro fin
    try go_wp2
    refine bodyPost_ret (v := .tuple #[txV .none none 0 none 0, .int .i64 (er : Int)]) (results_tx_tmp rfl _ _ W.heap.size .none none 0 none 0 rfl fin.1 _ rfl) rfl ?_
    rw [H1.out]
    exact ⟨none, 0, none, 0, rfl, nil_own _ _ _, nil_own _ _ _, fun _ => rfl, fun _ => rfl, fin.2⟩
  replace H : Hid (out = (⟨(v0 : Int), b1, b2, v3, v4, b5, b6, m7, m8⟩, 0)) := (H.out.trans (if_neg hc) : _ = _)
  replace hc : checkL ⟨(v0 : Int), b1, b2, v3, v4, b5, b6, m7, m8⟩ = 0 := by omega
  rw [hc] at cC
  clear hc
  go_wp2_with fail
  refine cC.mono ?_
  rintro e wy ⟨rfl, hbb⟩
  replace st := st.below hbb
  clear cC hbb u0 u1 u2 u3 u4 u5 u6 u7 u8 x1
  have z1 := st.rd.cell (i := 1) rfl
  have zf := st.rd.frozen 1
  have st' := st.setR 1 (.int .i64 0)
  obtain ⟨wv, hwv⟩ : ∃ q, wy.setCell ⟨W.heap.size + 1, 1, none⟩ (.int .i64 0) = q := ⟨_, rfl⟩
  rw [hwv] at st'
  clear st
  have st := st'
  clear st'
  have x1 := st.rd.cell (i := 1) rfl
  obtain ⟨u0, u1, u2, u3, u4, u5, u6, u7, u8⟩ := st.tx.cells9
  obtain ⟨q0, q1, q2, q3, q4, q5', q6', q7', q8'⟩ := st.res.cells9
  have g0 := st.res.frozen 0
  have g1 := st.res.frozen 1
  have g2 := st.res.frozen 2
  have g3 := st.res.frozen 3
  have g4 := st.res.frozen 4
  have g5 := st.res.frozen 5
  have g6 := st.res.frozen 6
  have g7 := st.res.frozen 7
  have g8 := st.res.frozen 8
  go_wp2
  have hF := st.res.set9 (.int .i64 (v0 : Int)) (.string b1) (.string b2) (.int .u64 (v3 : Int)) (.int .u64 (v4 : Int)) (.string b5) (.string b6) (.slice a7 m7.length c7) (.slice a8 m8.length c8)
  have hBF := below_set9 st.bel (g := W.heap.size) (Nat.le_refl _) (.int .i64 (v0 : Int)) (.string b1) (.string b2) (.int .u64 (v3 : Int)) (.int .u64 (v4 : Int)) (.string b5) (.string b6) (.slice a7 m7.length c7) (.slice a8 m8.length c8)
  have hSF := (st.rows (a7, m7) (by simp)).set9 (g := W.heap.size) (by omega) (.int .i64 (v0 : Int)) (.string b1) (.string b2) (.int .u64 (v3 : Int)) (.int .u64 (v4 : Int)) (.string b5) (.string b6) (.slice a7 m7.length c7) (.slice a8 m8.length c8)
  have hTF := (st.rows (a8, m8) (by simp)).set9 (g := W.heap.size) (by omega) (.int .i64 (v0 : Int)) (.string b1) (.string b2) (.int .u64 (v3 : Int)) (.int .u64 (v4 : Int)) (.string b5) (.string b6) (.slice a7 m7.length c7) (.slice a8 m8.length c8)
  unfold set9 at hF hBF hSF hTF
  refine bodyPost_ret (v := .tuple #[txV ⟨(v0 : Int), b1, b2, v3, v4, b5, b6, m7, m8⟩ a7 c7 a8 c8, .int .i64 0]) (results_tx_tmp rfl _ _ W.heap.size ⟨(v0 : Int), b1, b2, v3, v4, b5, b6, m7, m8⟩ _ _ _ _ rfl hF _ rfl) rfl ?_
  rw [H.out]
  exact ⟨a7, c7, a8, c8, rfl, hSF.mono (by omega), hTF.mono (by omega), nn7, nn8, hBF⟩
end Go.Proofs.YtmngiekobmhpaaaGreat
