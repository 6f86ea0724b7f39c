/- What the reference's Enough does; nothing old in memory is turned. -/
import Derived.Test.YtlbibhngfnllbaaDoorAuthEnough
import Derived.Test.YtlbibhngfnllbaaDoorRefAuthCheck
namespace Go.Proofs.YtlbibhngfnllbaaDoor
open Go.RowKit Go.Sort
set_option linter.unusedVariables false

/-- The Who of the one ahead. -/
def aheadAt (l : List (Int × ByteArray)) (i : Nat) : Int := if i = 0 then -1 else (l.getD (i - 1) (0, ⟨#[]⟩)).1

theorem aheadAt_succ {l : List (Int × ByteArray)} {i : Nat} {x : Int × ByteArray} (h : l[i]? = some x) : aheadAt l (i + 1) = x.1 := by
  unfold aheadAt
  rw [if_neg (by omega)]
  simp [List.getD, h]

set_option maxRecDepth 100000 in
set_option maxHeartbeats 400000 in
theorem refEnough_any (b f : Nat) (ks : List ByteArray) (ao : Option Addr) (cap : Nat) (l : List (Int × ByteArray)) (kind word : ByteArray) (w : World) (h : TabAt w b f ks) (hf : f ≤ 2) (hkl : ks.length = 3 * f + 1) (hks : ∀ k ∈ ks, k.size ≤ 32) (hl : TagsAt w ao l) (hlm : l.length ≤ maxLen) (hkd : kind.size ≤ 1000) (hwd : word.size ≤ 2000) (hG : Glob w) :
    Calls Tryd.prog 20 #[.pointer (some ⟨b, 0, none⟩), .slice ao l.length cap, .string kind, .string word] w fun e w' => e = .returned (.int .i64 (enoughL ks f kind word l : Int)) ∧ Below w.heap.size w w' := by
  obtain ⟨res, hres⟩ : ∃ z, Hid (z = enoughL ks f kind word l) := ⟨_, rfl⟩
  rw [← hres.out]
  unfold maxLen at hlm
  go_enter Tryd.func20, Tryd.ntmps20
  go_wp2
  go_loopw [9] (fun v9 wr => ∃ (i : Nat), i ≤ l.length ∧ v9 = .int .i64 (i : Int) ∧ Below w.heap.size w wr ∧ Hid (enoughGo ks kind word (-1) l = enoughGo ks kind word (aheadAt l i) (l.drop i))) (fun v9 _ => l.length - (intOf v9).toNat)
  case atStart => exact ⟨0, Nat.zero_le _, rfl, Below.refl _ _, rfl⟩
  case round =>
    obtain ⟨i, hil, rfl, hB, he⟩ := hrel
    by_cases hlt : i < l.length
    · have h1 : (i : Int) < (l.length : Int) := by omega
      have h0 : (0 : Int) ≤ (i : Int) := by omega
      obtain ⟨⟨who, mac⟩, hx⟩ : ∃ x, l[i]? = some x := ⟨_, List.getElem?_eq_getElem hlt⟩
      have hlr := hl.below hB
      obtain ⟨bl, off, rfl, hbl, c0, c1⟩ := hlr i _ hx
      have hT := h.below hB
      have hGr := hG.below hB
      by_cases hw0 : who < 0
      · have hr2 : res = 2 := hres.out.trans (enough_stop he.out hx 2 (by unfold tagErr; rw [if_pos (Or.inl hw0)]) (by decide))
        go_wp2_with fail
        go_big_quiet (fail)
        have hBq := below_drewN hB nq
        generalize wr.drewN nq = w1 at hBq ⊢
        go_wp2
        go_ret
        exact ⟨by rw [hr2]; rfl, hBq⟩
      · obtain ⟨j, rfl⟩ := Int.eq_ofNat_of_zero_le (a := who) (by omega)
        have hw1 : ¬ (j : Int) < 0 := by omega
        have dj : decide ((j : Int) < 0) = false := decide_eq_false hw1
        obtain ⟨nn, hnn⟩ : ∃ z, Hid (z = 3 * f + 1) := ⟨_, rfl⟩
        have cN : ∀ m, Calls Tryd.prog 12 #[.pointer (some ⟨b, 0, none⟩)] (wr.drewN m) fun e w' => e = .returned (.int .i64 (nn : Int)) ∧ w' = wr.drewN m := fun m => by
          rw [hnn.out]
          exact refN_any b f ks _ (hT.below (below_drewN (Below.refl _ wr) m)) hf
        by_cases hwn : nn ≤ j
        · have hr2 : res = 2 := hres.out.trans (enough_stop he.out hx 2 (by unfold tagErr; rw [if_pos (Or.inr (by show (ks.length : Int) ≤ (j : Int); have := hnn.out; omega))]) (by decide))
          have dn : decide (nn ≤ j) = true := decide_eq_true hwn
          go_wp2_with fail
          go_big_quiet (exact Calls.quiet_of_same (cN _))
          have hBq := below_drewN hB nq
          generalize wr.drewN nq = w1 at hBq ⊢
          go_wp2
          go_ret
          exact ⟨by rw [hr2]; rfl, hBq⟩
        · have dn : decide (nn ≤ j) = false := decide_eq_false hwn
          have hr : ¬ ((j : Int) < 0 ∨ (ks.length : Int) ≤ (j : Int)) := by have := hnn.out; omega
          go_wp2_with fail
          go_big_quiet (exact Calls.quiet_of_same (cN _))
          have hbq := below_drewN (Below.refl wr.heap.size wr) nq
          have hBq := hB.trans (hbq.mono hB.size)
          have hT1 := hT.below hbq
          have hG1 := hGr.below hbq
          have hl1 := hlr.below hbq
          generalize wr.drewN nq = w1 at hbq hBq hT1 hG1 hl1 ⊢
          clear hB hT hGr hlr cN c0 c1 hbq
          obtain ⟨b2, o2, hbb, _, c0, c1⟩ := hl1 i _ hx
          obtain ⟨rfl, rfl⟩ : bl = b2 ∧ off = o2 := by simpa using hbb
          obtain ⟨kj, hkj⟩ : ∃ k, ks[j]? = some k := ⟨_, List.getElem?_eq_getElem (by omega)⟩
          have hkd' : ks.getD (j : Int).toNat ⟨#[]⟩ = kj := by simp [List.getD, hkj]
          by_cases hi0 : i = 0
          · subst hi0
            have hnah : Hid (aheadAt l 0 < (j : Int)) := by show _ < _; unfold aheadAt; rw [if_pos rfl]; omega
            go_wp2_with fail
            go_big_quiet (fail)
            have hbq2 := below_drewN (Below.refl w1.heap.size w1) nq
            have hB2 := hBq.trans (hbq2.mono hBq.size)
            have hT2 := hT1.below hbq2
            have hG2 := hG1.below hbq2
            have hl2 := hl1.below hbq2
            generalize w1.drewN nq = w2 at hbq2 hB2 hT2 hG2 hl2 ⊢
            clear hBq hT1 hG1 hl1 c0 c1 hbq2
            obtain ⟨b4, o4, hbb4, _, c0, c1⟩ := hl2 0 _ hx
            obtain ⟨rfl, rfl⟩ : bl = b4 ∧ off = o4 := by simpa using hbb4
            simp only [Nat.zero_mul, Nat.add_zero] at c0 c1
            clear hl2 hbb4
            go_wp2_with fail
            by_cases hm : mac = macOf kj kind word
            · refine (refCheck_ok b f ks j kind word _ hT2 kj hkj hks hf hkl hkd hwd hG2 mac hm).mono ?_
              rintro e w3 ⟨rfl, hb3⟩
              have hB3 := hB2.trans (hb3.mono hB2.size)
              have hnx : Hid (enoughGo ks kind word (-1) l = enoughGo ks kind word (aheadAt l (0 + 1)) (l.drop (0 + 1))) := by
                show _ = _
                rw [aheadAt_succ hx]
                exact enough_next he.out hx (by unfold tagErr; rw [if_neg hr, if_neg (Int.not_le.2 hnah.out), if_pos (by rw [hkd']; exact hm)])
              clear hT2 hG2 hb3 c0 c1 hB2
              go_wp2
              go_roundw
              case rel => exact ⟨0 + 1, by omega, by go_num, hB3, hnx⟩
              case measure => simp [intOf]; omega
            · refine (refCheck_bad b f ks j kind word _ hT2 kj hkj hks hf hkl hkd hwd hG2 mac hm).mono ?_
              rintro e w3 ⟨rfl, hb3⟩
              have hB3 := hB2.trans (hb3.mono hB2.size)
              have hr2 : res = 10 := hres.out.trans (enough_stop he.out hx 10 (by unfold tagErr; rw [if_neg hr, if_neg (Int.not_le.2 hnah.out), if_neg (by rw [hkd']; exact hm)]) (by decide))
              clear hT2 hG2 hb3 c0 c1 hB2
              go_wp2
              go_ret
              exact ⟨by rw [hr2]; rfl, hB3⟩
          · obtain ⟨k, rfl⟩ : ∃ k, i = k + 1 := ⟨i - 1, by omega⟩
            obtain ⟨⟨pw, pm⟩, hy⟩ : ∃ x, l[k]? = some x := ⟨_, List.getElem?_eq_getElem (by omega)⟩
            obtain ⟨b3, o3, hbb3, _, e0, e1⟩ := hl1 k _ hy
            obtain ⟨rfl, rfl⟩ : bl = b3 ∧ off = o3 := by simpa using hbb3
            have hah : aheadAt l (k + 1) = pw := aheadAt_succ hy
            by_cases ha : (j : Int) ≤ pw
            · have da : decide ((j : Int) ≤ pw) = true := decide_eq_true ha
              have hr2 : res = 9 := hres.out.trans (enough_stop he.out hx 9 (by unfold tagErr; rw [hah, if_neg hr, if_pos ha]) (by decide))
              go_wp2_with fail
              go_big_quiet (fail)
              have hB2 := below_drewN hBq nq
              generalize w1.drewN nq = w2 at hB2 ⊢
              go_wp2
              go_ret
              exact ⟨by rw [hr2]; rfl, hB2⟩
            · have da : decide ((j : Int) ≤ pw) = false := decide_eq_false ha
              have hnah : Hid (aheadAt l (k + 1) < (j : Int)) := by show _ < _; rw [hah]; exact Int.not_le.1 ha
              go_wp2_with fail
              go_big_quiet (fail)
              have hbq2 := below_drewN (Below.refl w1.heap.size w1) nq
              have hB2 := hBq.trans (hbq2.mono hBq.size)
              have hT2 := hT1.below hbq2
              have hG2 := hG1.below hbq2
              have hl2 := hl1.below hbq2
              generalize w1.drewN nq = w2 at hbq2 hB2 hT2 hG2 hl2 ⊢
              clear hBq hT1 hG1 hl1 c0 c1 e0 e1 hbq2
              obtain ⟨b4, o4, hbb4, _, c0, c1⟩ := hl2 (k + 1) _ hx
              obtain ⟨rfl, rfl⟩ : bl = b4 ∧ off = o4 := by simpa using hbb4
              clear hl2 hbb4
              go_wp2_with fail
              by_cases hm : mac = macOf kj kind word
              · refine (refCheck_ok b f ks j kind word _ hT2 kj hkj hks hf hkl hkd hwd hG2 mac hm).mono ?_
                rintro e w3 ⟨rfl, hb3⟩
                have hB3 := hB2.trans (hb3.mono hB2.size)
                have hnx : Hid (enoughGo ks kind word (-1) l = enoughGo ks kind word (aheadAt l (k + 1 + 1)) (l.drop (k + 1 + 1))) := by
                  show _ = _
                  rw [aheadAt_succ hx]
                  exact enough_next he.out hx (by unfold tagErr; rw [if_neg hr, if_neg (Int.not_le.2 hnah.out), if_pos (by rw [hkd']; exact hm)])
                clear hT2 hG2 hb3 c0 c1 hB2
                go_wp2
                go_roundw
                case rel => exact ⟨k + 1 + 1, by omega, by go_num, hB3, hnx⟩
                case measure => simp [intOf]; omega
              · refine (refCheck_bad b f ks j kind word _ hT2 kj hkj hks hf hkl hkd hwd hG2 mac hm).mono ?_
                rintro e w3 ⟨rfl, hb3⟩
                have hB3 := hB2.trans (hb3.mono hB2.size)
                have hr2 : res = 10 := hres.out.trans (enough_stop he.out hx 10 (by unfold tagErr; rw [if_neg hr, if_neg (Int.not_le.2 hnah.out), if_neg (by rw [hkd']; exact hm)]) (by decide))
                clear hT2 hG2 hb3 c0 c1 hB2
                go_wp2
                go_ret
                exact ⟨by rw [hr2]; rfl, hB3⟩
    · have h1 : ¬ (i : Int) < (l.length : Int) := by omega
      have hend := hres.out.trans (enough_end he.out (by omega))
      have hT := h.below hB
      have hB1 := hB
      clear he hB
      go_wp2_with fail
      refine (refNeed_any b f ks _ hT hf).mono ?_
      rintro e w1 ⟨rfl, rfl⟩
      by_cases hfew : l.length < 2 * f + 1
      · rw [if_pos hfew] at hend
        have h2 : (l.length : Int) < ((2 * f + 1 : Nat) : Int) := by omega
        clear hfew
        go_wp2
        go_ret
        exact ⟨by rw [hend]; rfl, hB1⟩
      · rw [if_neg hfew] at hend
        have h2 : ¬ (l.length : Int) < ((2 * f + 1 : Nat) : Int) := by omega
        clear hfew
        go_wp2
        go_ret
        exact ⟨by rw [hend]; rfl, hB1⟩
end Go.Proofs.YtlbibhngfnllbaaDoor
