/- What tuskref01.List and tuskref01.GetList do. -/
import Derived.Test.YtepgdbpofppdcaaRefSame
import Derived.Test.YtepgdbpofppdcaaRefText
namespace Go.Proofs.Ytepgdbpofppdcaa
open Go.RowKit

set_option maxRecDepth 100000 in
set_option maxHeartbeats 1000000 in
theorem refList_any (ao : Option Addr) (cap : Nat) (ss : List ByteArray) (w : World) (hc : StrsAt w ao ss) (hlen : (lst (bl ss)).length ≤ 140737488355328) (hn : ss.length ≤ 4611686018427387903) :
    Calls Try.prog 44 #[.slice ao ss.length cap] w fun e w' => e = .returned (.string ⟨(lst (bl ss)).toArray⟩) ∧ Below w.heap.size w w' := by
  have hbl : (bl ss).length = ss.length := by simp [bl]
  have HL : Hid (∀ k, k ≤ ss.length → (goInt ss.length ++ ((bl ss).take k).flatMap txt).length ≤ 140737488355328) := by
    intro k _
    have h1 := take_flat_le (bl ss) k
    have h2 : (lst (bl ss)).length = (goInt ss.length).length + ((bl ss).flatMap txt).length := by rw [lst, List.length_append, hbl]
    rw [List.length_append]
    omega
  have Hbl : Hid ((bl ss).length = ss.length) := hbl
  clear hlen hbl
  go_enter Try.func44, Try.ntmps44
  go_wp2_with fail
  refine (refInt_any _ _).mono ?_
  rintro e w1 ⟨rfl, hb1⟩
  go_wp2
  go_loopw [3, 4] (fun v i wr => ∃ k : Nat, k ≤ ss.length ∧ i = .int .i64 k ∧ v = .string ⟨(goInt ss.length ++ ((bl ss).take k).flatMap txt).toArray⟩ ∧ Below w.heap.size w wr) (fun _ i _ => ss.length - (intOf i).toNat)
  case atStart => exact ⟨0, Nat.zero_le _, rfl, by simp, hb1⟩
  case round =>
    clear hb1
    obtain ⟨k, hk, rfl, rfl, hb⟩ := hrel
    by_cases hlt : k < ss.length
    · obtain ⟨b, off, rfl, hbl, hcell⟩ := (hc.below hb) k hlt
      have hkb : k < (bl ss).length := by rw [Hbl.out]; exact hlt
      have hek : (bl ss)[k] = ss[k].data.toList := by simp [bl]
      have hlen1 := HL.out (k + 1) hlt
      have hlen0 := HL.out k hk
      rw [take_flat _ _ hkb, hek, ← List.append_assoc, List.length_append] at hlen1
      have htl : ss[k].size ≤ (txt ss[k].data.toList).length := by simp [txt]
      have hE : (⟨(goInt ss.length ++ ((bl ss).take k).flatMap txt).toArray⟩ ++ ⟨(txt ss[k].data.toList).toArray⟩ : ByteArray) = ⟨(goInt ss.length ++ ((bl ss).take (k + 1)).flatMap txt).toArray⟩ := by
        rw [ByteArray.mk_append_mk, take_flat _ _ hkb, hek, ← List.append_assoc]
      clear hek hkb
      have hl1 : (⟨(goInt ss.length ++ ((bl ss).take k).flatMap txt).toArray⟩ : ByteArray).size + (⟨(txt ss[k].data.toList).toArray⟩ : ByteArray).size ≤ 140737488355328 := by
        rw [size_mk, size_mk]; exact hlen1
      have hss : ss[k].size ≤ 140737488351232000 := by omega
      clear hlen1 hlen0 htl
      generalize (⟨(goInt ss.length ++ ((bl ss).take k).flatMap txt).toArray⟩ : ByteArray) = s0 at *
      obtain ⟨s1, hs1⟩ : ∃ s1, s1 = (⟨(goInt ss.length ++ ((bl ss).take (k + 1)).flatMap txt).toArray⟩ : ByteArray) := ⟨_, rfl⟩
      rw [← hs1] at hE
      have Hs1 : Hid (s1 = (⟨(goInt ss.length ++ ((bl ss).take (k + 1)).flatMap txt).toArray⟩ : ByteArray)) := hs1
      clear hs1
      go_wp2_with fail
      refine (refText_any _ _ hss).mono ?_
      rintro e w3 ⟨rfl, hb3⟩
      have b3 : Below w.heap.size w w3 := hb.trans (hb3.mono hb.size)
      clear hb hb3
      generalize (⟨(txt ss[k].data.toList).toArray⟩ : ByteArray) = s2 at *
      go_wp2
      go_roundw
      case rel => exact ⟨k + 1, by omega, by go_num, by rw [Hs1.out], b3⟩
      case measure => simp [intOf]; omega
    · go_wp2
      go_ret
      refine ⟨ret_str ?_, hb⟩
      have e1 : k = (bl ss).length := by rw [Hbl.out]; omega
      rw [e1, List.take_length, lst, Hbl.out]

set_option maxRecDepth 100000 in
set_option maxHeartbeats 1000000 in
theorem refGetList_any (s : ByteArray) (most : Int) (w : World) (R : Nat) (hs : s.size ≤ maxLen) (hR : s.size ≤ R ∨ most ≤ R) (hroom : R * 16 ≤ 140737488355328) :
    Calls Try.prog 38 #[.string s, .int .i64 most] w fun e w' => ∃ v, e = .returned v ∧ GotList w w' (getList s.data.toList most) v ∧ Below w.heap.size w w' := by
  obtain ⟨i0, hi, hz0, hz1, hz2⟩ := info_parts infoString
  have hs0 : Hid (s.size ≤ maxLen) := hs
  unfold maxLen at hs
  rcases hr : getInt s.data.toList with ⟨n, k, er⟩
  have HR : Hid (getInt s.data.toList = (n, k, er)) := hr
  by_cases h1 : er = 0
  · subst h1
    have hb := getInt_bounds _ n k hr
    have hsz : s.data.toList.length = s.size := by simp
    rw [hsz] at hb
    have hb1 := hb.1
    have hb2 := hb.2.1
    have hb3 := hb.2.2
    by_cases h2 : most < (n : Int)
    · have H : Hid (getList s.data.toList most = ([], 0, 8)) := by
        show _ = _
        simp [getList, hr, h2]
      clear hr hb hsz
      go_enter Try.func38, Try.ntmps38
      go_wp2_with fail
      refine (refGetInt_at s _ n k _ hs0.out HR.out).mono ?_
      rintro e w' ⟨rfl, rfl⟩
      go_wp2
      go_ret3
      refine ⟨_, rfl, ?_, Below.refl _ _⟩
      rw [H.out]
      exact ⟨none, 0, rfl, World.ownsRow_nil _ _ _ _⟩
    · have H : Hid (getList s.data.toList most = glGo s.data.toList n k []) := by
        show _ = _
        simp [getList, hr, h2]
      clear hr hb hsz
      go_enter Try.func38, Try.ntmps38
      go_wp2_with fail
      refine (refGetInt_at s _ n k _ hs0.out HR.out).mono ?_
      rintro e w' ⟨rfl, rfl⟩
      go_wp2
      go_loopw [8, 10, 11] (fun v8 v10 v11 wr => ∃ (ts : List (List UInt8)) (p : Nat) (ao : Option Addr) (cap : Nat), v11 = .int .i64 ts.length ∧ v8 = .int .i64 p ∧ v10 = .slice ao ts.length cap ∧ wr.ownsRow w'.heap.size 9 1 (.slice ao ts.length cap) ts.length (ts.map strVal) ∧ Below w'.heap.size w' wr ∧ p ≤ s.size ∧ ts.length + 1 ≤ p ∧ ts.length ≤ n ∧ Hid (getList s.data.toList most = glGo s.data.toList (n - ts.length) p ts)) (fun _ v10 _ _ => n - slLen v10)
      case atStart => exact ⟨[], k, none, 0, rfl, rfl, rfl, World.ownsRow_nil _ _ _ _, Below.refl _ _, hb3, by simpa using hb2, Nat.zero_le _, H⟩
      case round =>
        clear H
        obtain ⟨ts, p, ao, cap, rfl, rfl, rfl, hown, hbel, hp, htp, htn, HG⟩ := hrel
        by_cases hlt : ts.length < n
        · rcases ht : getText (s.data.toList.drop p) with ⟨t, j, et⟩
          obtain ⟨m, hm⟩ : ∃ m, n - ts.length = m + 1 := ⟨n - ts.length - 1, by omega⟩
          have HT : Hid (getText (s.extract p s.size).data.toList = (t, j, et)) := by
            show _ = _
            rw [extract_drop]; exact ht
          have hsl : Hid ((s.extract p s.size).size ≤ maxLen) := by
            show _ ≤ _
            rw [ByteArray.size_extract]
            unfold maxLen
            omega
          by_cases h3 : et = 0
          · subst h3
            have hj := getText_bounds _ t j ht
            have hjl : (s.data.toList.drop p).length = s.size - p := by simp
            rw [hjl] at hj
            have HG' : Hid (getList s.data.toList most = glGo s.data.toList (n - (ts ++ [t]).length) (p + j) (ts ++ [t])) := by
              have h := HG.out
              rw [hm, glGo, ht] at h
              have e1 : n - (ts ++ [t]).length = m := by simp; omega
              rw [e1]
              show _ = _
              simpa using h
            have hj1 := hj.1
            have hj2 := hj.2.1
            have hRt : (ts.length + 1) * 16 ≤ 140737488355328 := by
              have : ts.length + 1 ≤ R := by rcases hR with h | h <;> omega
              omega
            have hszw := hbel.size
            clear hj hjl ht HG hm
            go_wp2_with fail
            refine (refGetText_at _ _ t j 0 hsl.out HT.out).mono ?_
            rintro e w1 ⟨rfl, rfl⟩
            go_wp2_with (at_builtin; refine wpList_append_own _ rfl _ _ 24 rfl w'.heap.size 9 i0 (.string ⟨#[]⟩) 1 16 Try.underlying24 hi hz0 hz1 hz2 rfl (by decide) _ _ _ rfl (hown.alloc _) ⟨w1.heap.size, 0, none⟩ 1 1 [strVal t] rfl rfl ?c1 ?c2 ?c3 ?c4 ?c5 ?_)
            case c1 =>
              intro i u hj
              match i, hj with
              | 0, hj => simp at hj; subst hj; simp [Addr.add, strVal]
            case c2 => intro u hu; simp at hu; subst hu; rfl
            case c3 => unfold maxLen; omega
            case c4 => exact hRt
            case c5 => simp; omega
            · intro v' w2 hown' hgrow _
              have hb2 : Below w'.heap.size w' w2 := (hbel.alloc hszw _).grown hgrow (by simp; omega) (fun q hq => (hown.lt q hq).1)
              obtain ⟨ao', cap', rfl⟩ := own_slice hown'
              have hlt1 : (ts ++ [t]).length = ts.length + 1 := by simp
              have hown2 : w2.ownsRow w'.heap.size 9 1 (.slice ao' (ts ++ [t]).length cap') (ts ++ [t]).length ((ts ++ [t]).map strVal) := by
                rw [hlt1]
                simpa using hown'
              clear hown' hgrow hown hbel
              go_wp2
              go_roundw
              case rel => exact ⟨ts ++ [t], p + j, ao', cap', by rw [hlt1]; go_num, by go_num, by rw [hlt1], hown2, hb2, by omega, by omega, by omega, HG'⟩
              case measure => simp [slLen]; omega
          · have hne : ((et : Int) != 0) = true := by rw [bne_iff_ne]; omega
            have HE : Hid (getList s.data.toList most = ([], 0, et)) := by
              have h := HG.out
              rw [hm, glGo, ht] at h
              show _ = _
              simpa [h3] using h
            clear HG ht hm hown
            go_wp2_with fail
            refine (refGetText_at _ _ t j et hsl.out HT.out).mono ?_
            rintro e w1 ⟨rfl, rfl⟩
            go_wp2
            go_ret3
            refine ⟨_, rfl, ?_, hbel⟩
            rw [HE.out]
            exact ⟨none, 0, rfl, World.ownsRow_nil _ _ _ _⟩
        · have HE : Hid (getList s.data.toList most = (ts, p, 0)) := by
            have h := HG.out
            have e1 : n - ts.length = 0 := by omega
            rw [e1, glGo] at h
            exact h
          clear HG
          go_wp2
          go_ret3
          refine ⟨_, rfl, ?_, hbel⟩
          rw [HE.out]
          exact ⟨ao, cap, rfl, hown⟩
  · have hne : ((er : Int) != 0) = true := by rw [bne_iff_ne]; omega
    have H : Hid (getList s.data.toList most = ([], 0, er)) := by
      show _ = _
      simp [getList, hr, h1]
    clear hr
    go_enter Try.func38, Try.ntmps38
    go_wp2_with fail
    refine (refGetInt_at s _ n k _ hs0.out HR.out).mono ?_
    rintro e w' ⟨rfl, rfl⟩
    go_wp2
    go_ret3
    refine ⟨_, rfl, ?_, Below.refl _ _⟩
    rw [H.out]
    exact ⟨none, 0, rfl, World.ownsRow_nil _ _ _ _⟩
end Go.Proofs.Ytepgdbpofppdcaa
