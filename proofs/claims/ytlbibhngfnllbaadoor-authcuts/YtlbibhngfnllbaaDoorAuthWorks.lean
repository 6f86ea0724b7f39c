/- tusklaw03.works answers true; nothing old in memory is turned. -/
import Derived.Test.YtlbibhngfnllbaaDoorAuthMath
namespace Go.Proofs.YtlbibhngfnllbaaDoor
open Go.RowKit Go.Sort
set_option linter.unusedVariables false

def seedB : ByteArray := ⟨#[115, 101, 101, 100]⟩

theorem new_tag (w : World) (x : Int × ByteArray) : ∀ j u, (flatT [x])[j]? = some u → (w.alloc (.cells #[.int .i64 x.1, .string x.2] 32)).cell? ((⟨w.heap.size, 0, none⟩ : Addr).add j) = some u := by
  intro j u hj
  rw [Addr.add_mid, Nat.zero_add]
  exact (Arr.new w 32 [.int .i64 x.1, .string x.2]).cell (by simpa [flatT] using hj)

theorem own_form {w : World} {B : Nat} {e : TypeId} {s : Nat} {v : Value} {n : Nat} {xs : List Value} (h : w.ownsRow B e s v n xs) : ∃ ao cap, v = .slice ao n cap := by
  rcases h.2 with ⟨rfl, rfl⟩ | ⟨g, cap, cur, rfl, _⟩
  · exact ⟨_, _, rfl⟩
  · exact ⟨_, _, rfl⟩

theorem own_tags_at {w : World} {B : Nat} {ao : Option Addr} {n cap : Nat} {l : List (Int × ByteArray)} (hl : l.length = n) (h : w.ownsRow B 32 2 (.slice ao n cap) n (flatT l)) : TagsAt w ao l := by
  subst hl
  obtain ⟨a, c, he, ht⟩ := own_tags h
  obtain ⟨rfl, _⟩ : ao = a ∧ cap = c := by simpa using he
  exact ht

theorem own_cap {w : World} {B : Nat} {e : TypeId} {s : Nat} {ao : Option Addr} {n cap : Nat} {xs : List Value} (h : w.ownsRow B e s (.slice ao n cap) n xs) : n ≤ cap := by
  rcases h.2 with ⟨hv, rfl⟩ | ⟨g, c, cur, hv, _, _, hc, _⟩
  · exact Nat.zero_le _
  · obtain ⟨_, rfl⟩ : ao = some ⟨g, 0, none⟩ ∧ cap = c := by simpa using hv
    exact hc

theorem TagsAt.take {w : World} {ao : Option Addr} {l : List (Int × ByteArray)} (h : TagsAt w ao l) (n : Nat) : TagsAt w ao (l.take n) := by
  intro j x hj
  rw [List.getElem?_take] at hj
  split at hj
  · exact h j x hj
  · cases hj

theorem getD_some {ks : List ByteArray} {i : Nat} (h : i < ks.length) : ks[i]? = some (ks.getD i ⟨#[]⟩) := by simp [List.getD, h]

theorem wrap64_small (n : Int) (h0 : 0 ≤ n) (h1 : n < 9223372036854775808) : wrap64 n = n := by unfold wrap64; omega

theorem wrap_u64 (f : Int) : IntKind.u64.wrap f = f % 18446744073709551616 := by simp [IntKind.wrap, IntKind.bits, IntKind.signed]

theorem u64_range (f : Int) : 0 ≤ IntKind.u64.wrap f ∧ IntKind.u64.wrap f < 18446744073709551616 := by
  rw [wrap_u64]; omega

/-- One or two. -/
theorem pick_f (f : Int) : ∃ n : Nat, 1 ≤ n ∧ n ≤ 2 ∧ wrap64 (1 + wrap64 ((IntKind.u64.wrap f).tmod 2)) = (n : Int) := by
  obtain ⟨h0, h1⟩ := u64_range f
  rw [Int.tmod_eq_emod_of_nonneg h0]
  generalize IntKind.u64.wrap f = m at h0 h1
  refine ⟨1 + (m % 2).toNat, by omega, by omega, ?_⟩
  rw [wrap64_small (m % 2) (by omega) (by omega), wrap64_small _ (by omega) (by omega)]
  omega

/-- A place below k. -/
theorem pick_j (f : Int) (k : Nat) (hk : 0 < k) (hk2 : k < 1000) : ∃ j : Nat, j < k ∧ wrap64 ((IntKind.u64.wrap f).tmod (k : Int)) = (j : Int) := by
  obtain ⟨h0, h1⟩ := u64_range f
  rw [Int.tmod_eq_emod_of_nonneg h0]
  generalize IntKind.u64.wrap f = m at h0 h1
  have hlt := Int.emod_lt_of_pos m (show (0 : Int) < (k : Int) by omega)
  have hge := Int.emod_nonneg m (show (k : Int) ≠ 0 by omega)
  refine ⟨(m % (k : Int)).toNat, by omega, ?_⟩
  rw [wrap64_small _ hge (by omega)]
  omega

set_option maxRecDepth 100000 in
set_option maxHeartbeats 400000 in
theorem works_any (w : World) (hG : Glob w) : Calls Tryd.prog 21 #[] w fun e w' => e = .returned (.bool true) ∧ Below w.heap.size w w' := by
  obtain ⟨i0, hi, hz0, hz1, hz2⟩ := info_parts infoTagAll
  go_enter Tryd.func21, Tryd.ntmps21
  go_wp2_with fail
  refine (new_yes 1 _ w (by decide) (by decide) (by decide) hG).mono ?_
  rintro e w1 ⟨b, rfl, hb1, hT, hB⟩
  obtain ⟨ks, hks⟩ : ∃ z, Hid (z = keysL ⟨#[115, 101, 101, 100]⟩ (3 * 1 + 1)) := ⟨_, rfl⟩
  rw [← hks.out] at hT
  have hk32 : ∀ k ∈ ks, k.size ≤ 32 := by rw [hks.out]; exact keysL_size _ _
  have hkl : ks.length = 4 := by rw [hks.out, keysL_len]
  go_wp2
  go_loopw [3, 4, 5, 6] (fun v3 v4 v5 v6 wr => ∃ (i : Nat) (ao : Option Addr) (cap : Nat), i ≤ 3 ∧ v4 = .int .i64 (i : Int) ∧ v3 = .slice ao i cap ∧ wr.ownsRow w1.heap.size 32 2 (.slice ao i cap) i (flatT ((List.range i).map (tagOf ks ⟨#[107]⟩ ⟨#[119]⟩))) ∧ Below w1.heap.size w1 wr) (fun _ v4 _ _ _ => 3 - (intOf v4).toNat)
  case atStart => exact ⟨0, none, 0, by decide, rfl, rfl, World.ownsRow_nil _ _ _ _, Below.refl _ _⟩
  case round =>
    obtain ⟨i, ao, cap, hi3, rfl, rfl, hown, hBr⟩ := hrel
    by_cases hlt : i < 3
    · have h1 : (i : Int) < 3 := by omega
      have hkj := getD_some (ks := ks) (i := i) (by omega)
      have sg := sign_yes b 1 ks i ⟨#[107]⟩ ⟨#[119]⟩ wr (hT.below hBr) _ hkj hk32 (by decide) (by decide) ((hG.below hB).below hBr)
      obtain ⟨x, hx⟩ : ∃ z, Hid (z = macOf (ks.getD i ⟨#[]⟩) ⟨#[107]⟩ ⟨#[119]⟩) := ⟨_, rfl⟩
      rw [← hx.out] at sg
      unfold tagV at sg
      go_wp2_with fail
      refine sg.mono ?_
      rintro e w2 ⟨rfl, hB2⟩
      clear sg
      have hB3 := hB2.alloc hB2.size (.cells #[.int .i64 (i : Int), .string x] 32)
      have hB4 := hBr.trans (hB3.mono hBr.size)
      have hown3 := own_below hown hB3
      have hA3 := Arr.new w2 32 [.int .i64 (i : Int), .string x]
      have hownA := hown3.alloc (.cells #[.int .i64 (i : Int), .string x] 32)
      have hN1 := new_tag (w2.alloc (.cells #[.int .i64 (i : Int), .string x] 32)) ((i : Int), x)
      rw [alloc_size] at hN1
      have hB5 := hB4.alloc hB4.size (.cells #[.int .i64 (i : Int), .string x] 32)
      have hszA := hB5.size
      go_wp2_with (at_builtin; refine wpList_append_own _ rfl _ _ 37 rfl w1.heap.size 32 i0 (.agg #[.int .i64 0, .string ⟨#[]⟩]) 2 24 Tryd.underlying37 hi hz0 hz1 hz2 rfl (by decide) _ i (flatT ((List.range i).map (tagOf ks ⟨#[107]⟩ ⟨#[119]⟩))) rfl hownA ⟨w2.heap.size + 1, 0, none⟩ 1 1 (flatT [((i : Int), x)]) rfl rfl hN1 (flatT_one _) ?c3 ?c4 ?c5 ?_)
      case c3 => unfold maxLen; omega
      case c4 => omega
      case c5 => exact hszA
      intro v' w3 hown' hgrow _
      have hB6 : Below w1.heap.size w1 w3 := hB5.grown hgrow hszA (fun k hk => (hownA.lt k hk).1)
      rw [← flatT_append, hx.out, show [((i : Int), macOf (ks.getD i ⟨#[]⟩) ⟨#[107]⟩ ⟨#[119]⟩)] = [i].map (tagOf ks ⟨#[107]⟩ ⟨#[119]⟩) from rfl, ← List.map_append, ← List.range_succ] at hown'
      obtain ⟨ao', cap', rfl⟩ := own_form hown'
      clear hown hownA hown3 hN1 hgrow hB2 hB3 hB4 hB5 hszA hBr hA3
      go_wp2
      go_roundw
      case rel => exact ⟨i + 1, ao', cap', by omega, by go_num, rfl, hown', hB6⟩
      case measure => simp [intOf]; omega
    · obtain rfl : i = 3 := by omega
      have h1 : ¬ (3 : Int) < 3 := by omega
      have hl3 : ((List.range 3).map (tagOf ks ⟨#[107]⟩ ⟨#[119]⟩)).length = 3 := by simp
      have ht := own_tags_at hl3 hown
      have hcap := own_cap hown
      obtain ⟨l, hld⟩ : ∃ z, Hid (z = (List.range 3).map (tagOf ks ⟨#[107]⟩ ⟨#[119]⟩)) := ⟨_, rfl⟩
      rw [← hld.out] at ht hl3
      have hG1 := hG.below hB
      have hTr := hT.below hBr
      have hGr := hG1.below hBr
      have hBw := hB.trans (hBr.mono hB.size)
      have q0 : enoughL ks 1 ⟨#[107]⟩ ⟨#[119]⟩ l = 0 := by
        rw [hld.out, enough_rising 1 (List.range 3) (fun i hi => by rw [hkl]; have := List.mem_range.1 hi; omega) (range_rising 3)]
        rfl
      have q1 : enoughL ks 1 ⟨#[107]⟩ ⟨#[119]⟩ (l.take 2) = 12 := by
        rw [hld.out, ← List.map_take, show (List.range 3).take 2 = List.range 2 from rfl, enough_rising 1 (List.range 2) (fun i hi => by rw [hkl]; have := List.mem_range.1 hi; omega) (range_rising 2)]
        rfl
      have q2 : enoughL ks 1 ⟨#[107]⟩ ⟨#[120]⟩ l = 10 := by
        rw [hld.out, show (List.range 3).map (tagOf ks ⟨#[107]⟩ ⟨#[119]⟩) = (((0 : Nat) : Int), macOf (ks.getD 0 ⟨#[]⟩) ⟨#[107]⟩ ⟨#[119]⟩) :: ([1, 2].map (tagOf ks ⟨#[107]⟩ ⟨#[119]⟩)) from rfl]
        refine enough_wrong 1 0 _ _ (by omega) ?_
        rw [hks.out, keysL_getD _ _ _ (by decide)]
        exact other_word
      have hl2 : (l.take 2).length = 2 := by rw [List.length_take, hl3]; rfl
      clear hown hT hB hBr hld
      go_wp2_with fail
      refine (n_any b 1 ks wr hTr (by decide)).mono ?_
      rintro e w' ⟨rfl, rfl⟩
      go_wp2_with fail
      refine (need_any b 1 ks _ hTr (by decide)).mono ?_
      rintro e w2 ⟨rfl, rfl⟩
      have k0 := enough_any b 1 ks ao cap l ⟨#[107]⟩ ⟨#[119]⟩ w2 hTr (by decide) hk32 ht (by rw [hl3]; decide) (by decide) (by decide) hGr
      rw [q0, hl3] at k0
      go_wp2_with fail
      refine k0.mono ?_
      rintro e w3 ⟨rfl, hB3⟩
      have k1 := enough_any b 1 ks ao cap (l.take 2) ⟨#[107]⟩ ⟨#[119]⟩ w3 (hTr.below hB3) (by decide) hk32 ((ht.below hB3).take 2) (by rw [hl2]; decide) (by decide) (by decide) (hGr.below hB3)
      rw [q1, hl2] at k1
      have hB4 := hBw.trans (hB3.mono hBw.size)
      have hT3 := hTr.below hB3
      have hG3 := hGr.below hB3
      have ht3 := ht.below hB3
      clear k0 hB3 hTr hGr ht hBw
      go_wp2_with fail
      refine k1.mono ?_
      rintro e w4 ⟨rfl, hB5⟩
      have k2 := enough_any b 1 ks ao cap l ⟨#[107]⟩ ⟨#[120]⟩ w4 (hT3.below hB5) (by decide) hk32 (ht3.below hB5) (by rw [hl3]; decide) (by decide) (by decide) (hG3.below hB5)
      rw [q2, hl3] at k2
      have hB6 := hB4.trans (hB5.mono hB4.size)
      clear k1 hB5 hT3 hG3 ht3 hB4
      go_wp2_with fail
      refine k2.mono ?_
      rintro e w5 ⟨rfl, hB7⟩
      have hB8 := hB6.trans (hB7.mono hB6.size)
      clear k2 hB7 hB6
      go_wp2
      go_ret
      exact ⟨rfl, hB8⟩
end Go.Proofs.YtlbibhngfnllbaaDoor
