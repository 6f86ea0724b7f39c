/- StateNumbers: the walk. -/
import Derived.Test.YtolliiodfhdfiaaStaWorks
import Derived.Test.YtolliiodfhdfiaaIntsOpen
namespace Go.Proofs.Ytolliiodfhdfiaa
open Go Go.RowKit
set_option linter.unusedVariables false

/-- What the two accounts have behind k transactions. -/
structure NumI (s : StF) (k : Nat) : Prop where
  a : s.acc nA = (1000 - k, k)
  b : s.acc nB = (k, 0)

theorem NumI.yes {s : StF} {k : Nat} (h : NumI s k) (hk : k < 8) : applyE s (sendD 1 k) = 0 ∧ NumI (applyF s (sendD 1 k)) (k + 1) := by
  have e : applyE s (sendD 1 k) = 0 := by
    rw [send_E (by decide) (by omega) h.a h.b, if_neg (by omega), if_neg (by omega), if_neg (by omega)]
  obtain ⟨h1, h2⟩ := send_F e h.a h.b
  exact ⟨e, ⟨by rw [h1]; congr 1, h2⟩⟩

theorem NumI.no {s : StF} {k n : Nat} (h : NumI s k) (hn : n < 8) (hne : n ≠ k) : applyE s (sendD 1 n) = 2 ∧ NumI (applyF s (sendD 1 n)) k := by
  have e : applyE s (sendD 1 n) = 2 := by
    rw [send_E (by decide) (by omega) h.a h.b, if_pos hne]
  exact ⟨e, by rw [applyF_no (by rw [e]; decide)]; exact h⟩

theorem rem8 (z : Int) : ∃ n : Nat, n < 8 ∧ (IntKind.u64.wrap z).tmod 8 = (n : Int) := by
  have h : IntKind.u64.wrap z = z % 18446744073709551616 := by simp [IntKind.wrap, IntKind.bits, IntKind.signed]
  rw [h, Int.tmod_eq_emod_of_nonneg (by omega)]
  exact ⟨(z % 18446744073709551616 % 8).toNat, by omega, by omega⟩

set_option maxRecDepth 100000 in
set_option maxHeartbeats 4000000 in
theorem stateNumbers_walk (ao : Option Addr) (cp : Nat) (l : List Int) (W : World) (hL : RowAt intK W ao l) (hll : l.length ≤ maxLen) :
    Calls Try.prog 4 #[.slice ao l.length cp] W fun e w' => e = .returned (.bool true) ∧ Below W.heap.size W w' := by
  have hll' : l.length ≤ 9223372036854775807 := by unfold maxLen at hll; omega
  clear hll
  have cW := works22_any W
  obtain ⟨a0, b0⟩ := newA 1000 (by decide)
  have h00 : NumI (newF [nA] 1000) 0 := ⟨a0, b0⟩
  go_enter Try.func4, Try.ntmps4
  go_wp2_with fail
  refine cW.mono ?_
  rintro e w0 ⟨rfl, hbW⟩
  have cN := new22_any [nA] (some ⟨w0.heap.size, 0, none⟩) 1 1000 _ (row_one w0 nA) (fun s hs => by rw [List.mem_singleton.1 hs]; unfold maxLen; decide) (by decide)
  have hb0 := belowNew w0 (.cells #[.string nA] 9)
  generalize newF [nA] 1000 = s0 at *
  clear cW a0 b0
  go_wp2_with fail
  refine cN.mono ?_
  rintro e w1 ⟨p, S, rfl, h0, hS, hb1⟩
  have hbA := hbW.trans ((hb0.trans (hb1.mono hb0.size)).mono hbW.size)
  have hge : ∀ k, S k → W.heap.size ≤ k := fun k hk => Nat.le_trans (Nat.le_trans hbW.size hb0.size) (hS k hk)
  clear cN hb0 hb1 hS hbW
  go_wp2_with fail
  go_loopw [4, 5, 6, 7, 8, 9, 10, 11] (fun v4 v5 _ _ _ _ _ _ wr => ∃ (i k : Nat) (s : StF), i ≤ l.length ∧ i ≤ 60 ∧ k ≤ 8 ∧ v4 = .int .u64 (k : Int) ∧ v5 = .int .i64 (i : Int) ∧ PS wr p S s (1 + 2 * i) ∧ NumI s k ∧ Below W.heap.size W wr) (fun _ v _ _ _ _ _ _ _ => l.length - (intOf v).toNat)
  case atStart => exact ⟨0, 0, s0, Nat.zero_le _, by omega, by omega, rfl, rfl, h0, h00, hbA⟩
  case round =>
    obtain ⟨i, k, s, hi, hi2, hk8, rfl, rfl, hP, hI, hb⟩ := hrel
    clear h0 h00 hbA
    by_cases hlt : i < l.length ∧ i < 60
    · obtain ⟨hil, hi60⟩ := hlt
      have g1 : (i : Int) < (l.length : Int) := by omega
      have g2 : (i : Int) < 60 := by omega
      obtain ⟨z, hz⟩ : ∃ z, l[i]? = some z := ⟨_, List.getElem?_eq_getElem hil⟩
      obtain ⟨b, off, rfl, hbl, hcell⟩ := (hL.below hb).int hz
      obtain ⟨n, hn8, hn⟩ := rem8 z
      have hM := Arr.new wr 9 [.string wA, .string wB]
      have hnb := belowNew wr (.cells #[.string wA, .string wB] 9)
      have hT : (TxM.mk (sendD 1 n) none 0 (some ⟨wr.heap.size, 0, none⟩) 2).At (wr.alloc (.cells #[.string wA, .string wB] 9)) := ⟨⟨nil_strs _ _, strs_two hM⟩, fun _ => rfl, fun e => by cases e⟩
      have hv : Hid (∃ v : Int, ((applyE s (sendD 1 n) : Nat) : Int) = v ∧ ((v = 0 ∧ n = k ∧ NumI (applyF s (sendD 1 n)) (k + 1)) ∨ (v = 2 ∧ n ≠ k ∧ NumI (applyF s (sendD 1 n)) k))) := by
        by_cases hnk : n = k
        · subst hnk
          obtain ⟨e1, e2⟩ := hI.yes hn8
          exact ⟨0, by rw [e1]; rfl, Or.inl ⟨rfl, rfl, e2⟩⟩
        · obtain ⟨e1, e2⟩ := hI.no hn8 hnk
          exact ⟨2, by rw [e1]; rfl, Or.inr ⟨rfl, hnk, e2⟩⟩
      obtain ⟨v, hv1, hv2⟩ := hv.out
      have cA := applyD_any (TxM.mk (sendD 1 n) none 0 (some ⟨wr.heap.size, 0, none⟩) 2) rfl _ hT (send_sizes 1 n) (by show 2 ≤ 500; decide) p S (1 + 2 * i) s (hP.below hnb) (by omega) v hv1
      obtain ⟨s', hs'⟩ : ∃ q, Hid (applyF s (sendD 1 n) = q) := ⟨_, rfl⟩
      rw [hs'.out] at hv2
      have hbn := hb.trans (hnb.mono hb.size)
      replace hv2 : Hid _ := hv2
      clear hv hv1 hM hT hP hI hnb hz
      go_wp2_with fail
      refine cA.mono ?_
      rintro e w2 ⟨rfl, h2, hk2⟩
      rw [hs'.out] at h2
      have hb2 := hbn.trans (hk2.below hbn.size hge)
      clear cA hk2 hbn hs' hcell hbl
      have hD : ∃ k' : Nat, k' ≤ 8 ∧ NumI s' k' ∧ ((v = 0 ∧ n = k ∧ k' = k + 1) ∨ (v = 2 ∧ n ≠ k ∧ k' = k)) := by
        rcases hv2.out with ⟨e1, e2, e3⟩ | ⟨e1, e2, e3⟩
        · exact ⟨k + 1, by omega, e3, Or.inl ⟨e1, e2, rfl⟩⟩
        · exact ⟨k, hk8, e3, Or.inr ⟨e1, e2, rfl⟩⟩
      obtain ⟨k', hk', hI', hD⟩ := hD
      have c1 := accountS_any nA (by unfold maxLen; decide) w2 p S _ _ h2
      rw [hI'.a] at c1
      have c2 := fun w3 (hb : Below w2.heap.size w2 w3) => accountS_any nB (by unfold maxLen; decide) w3 p S _ _ (h2.below hb)
      rw [hI'.b] at c2
      have hP' : Hid (∀ w4, Below w2.heap.size w2 w4 → PS w4 p S s' (1 + 2 * (i + 1))) := fun w4 hb4 => (h2.below hb4).mono (by omega)
      have hI2 : Hid (NumI s' k') := hI'
      clear h2 hI' hv2 hn
      rcases hD with ⟨rfl, rfl, rfl⟩ | ⟨rfl, hne, rfl⟩
      · have m1 : IntKind.u64.wrap ((n : Int) + 1) = ((n + 1 : Nat) : Int) := by rw [wrap64u _ (by omega) (by omega)]; rfl
        have m2 : IntKind.u64.wrap (((1000 - (n + 1) : Nat) : Int) + ((n + 1 : Nat) : Int)) = 1000 := by rw [wrap64u _ (by omega) (by omega)]; omega
        go_wp2_with fail
        refine c1.mono ?_
        rintro e w3 ⟨rfl, hb3⟩
        have c2' := c2 w3 hb3
        clear c1 c2
        go_wp2_with fail
        refine c2'.mono ?_
        rintro e w4 ⟨rfl, hb4⟩
        have hb34 := hb3.trans (hb4.mono hb3.size)
        have hbF := hb2.trans (hb34.mono hb2.size)
        have hPF := hP'.out w4 hb34
        clear c2' hb3 hb4 hb2 hP' hb34
        go_wp2
        go_roundw
        case rel => exact ⟨i + 1, n + 1, s', by omega, by omega, hk', rfl, by go_num, hPF, hI2.out, hbF⟩
        case measure => simp [intOf]; omega
      · have g5 : ((n : Int) == (k' : Int)) = false := by rw [beq_eq_false_iff_ne]; omega
        have m2 : IntKind.u64.wrap (((1000 - k' : Nat) : Int) + ((k' : Nat) : Int)) = 1000 := by rw [wrap64u _ (by omega) (by omega)]; omega
        go_wp2_with fail
        refine c1.mono ?_
        rintro e w3 ⟨rfl, hb3⟩
        have c2' := c2 w3 hb3
        clear c1 c2
        go_wp2_with fail
        refine c2'.mono ?_
        rintro e w4 ⟨rfl, hb4⟩
        have hb34 := hb3.trans (hb4.mono hb3.size)
        have hbF := hb2.trans (hb34.mono hb2.size)
        have hPF := hP'.out w4 hb34
        clear c2' hb3 hb4 hb2 hP' hb34
        go_wp2
        go_roundw
        case rel => exact ⟨i + 1, k', s', by omega, by omega, hk', rfl, by go_num, hPF, hI2.out, hbF⟩
        case measure => simp [intOf]; omega
    · have hg : ¬ (i : Int) < (l.length : Int) ∨ ((i : Int) < (l.length : Int) ∧ ¬ (i : Int) < 60) := by omega
      rcases hg with g1 | ⟨g1, g2⟩
      all_goals
        go_wp2
        go_ret
        exact ⟨rfl, hb⟩
end Go.Proofs.Ytolliiodfhdfiaa
