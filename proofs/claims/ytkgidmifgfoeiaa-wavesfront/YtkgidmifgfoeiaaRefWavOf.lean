/- What tuskref21.Of does. -/
import Derived.Test.YtkgidmifgfoeiaaWavMath
import Derived.Test.YtkgidmifgfoeiaaWavRows
import Derived.Test.YtkgidmifgfoeiaaRefAccEdges
namespace Go.Proofs.Ytkgidmifgfoeiaa
open Go Go.RowKit
set_option linter.unusedVariables false

def GotOfR (W : World) (l : List RwD) (e : Ending) (w : World) : Prop :=
  ∃ ao cap, e = .returned (.slice ao l.length cap) ∧ KQ natK 3 w W.heap.size (.slice ao l.length cap) (wvN l l.length) ∧ Below W.heap.size W w

theorem new_natR (w : World) (x : Nat) : ∀ j u, (natK.c x)[j]? = some u → (w.alloc (.cells #[.int .i64 ((x : Nat) : Int)] 3)).cell? ((⟨w.heap.size, 0, none⟩ : Addr).add j) = some u := by
  intro j u hu
  rw [Go.WideShapes.add_plain, Nat.zero_add]
  exact (Arr.new w 3 [.int .i64 ((x : Nat) : Int)]).cell hu

theorem maxR (m v : Nat) : Value.int .i64 (if (m : Int) < (v : Int) + 1 then (v : Int) + 1 else (m : Int)) = Value.int .i64 ((max m (v + 1) : Nat) : Int) := by
  split <;> congr 1 <;> omega

theorem nxK_true {l : List RwD} {ws : List Nat} {i k : Nat} (h : adjB l k i = true) : nxK l ws i (k + 1) = max (nxK l ws i k) (ws.getD k 0 + 1) := by
  show (if adjB l k i = true then _ else _) = _
  rw [if_pos h]

theorem nxK_false {l : List RwD} {ws : List Nat} {i k : Nat} (h : adjB l k i = false) : nxK l ws i (k + 1) = nxK l ws i k := by
  show (if adjB l k i = true then _ else _) = _
  rw [if_neg (by rw [h]; simp)]

theorem nxK_wv_le (l : List RwD) (i k : Nat) (h : k ≤ i) : nxK l (wvN l i) i k ≤ k := by
  induction k with
  | zero => exact Nat.le_refl _
  | succ k ih =>
    have h1 := ih (by omega)
    have h2 := wv_le l k
    cases ha : adjB l k i with
    | true => rw [nxK_true ha, wvN_getD l (by omega)]; omega
    | false => rw [nxK_false ha]; omega

set_option maxRecDepth 100000 in
set_option maxHeartbeats 2000000 in
theorem refOf_any (l : List TxA) (ao : Option Addr) (cp : Nat) (w : World) (hl : RowAt txA w ao l) (hf : Few l) :
    Calls Try.prog 11 #[.slice ao l.length cp] w fun e w' => GotOfR w (rwL l) e w' := by
  have hl1 := hf.1
  have hlen : Hid _ := rwL_length l
  obtain ⟨i0, z0, hi0, hz0, hs0, hb0, hzs0⟩ := intInfoA
  have hQ0 : KQ natK 3 w w.heap.size (.slice none 0 0) (wvN (rwL l) 0) := KQ.empty natK 3 w w.heap.size
  go_enter Try.func11, Try.ntmps11
  go_wp2_with fail
  go_loopw [3, 4] (fun v3 v4 wr => ∃ (i : Nat) (pa : Option Addr) (pc : Nat), i ≤ l.length ∧ v3 = .slice pa i pc ∧ v4 = .int .i64 (i : Int) ∧ KQ natK 3 wr w.heap.size (.slice pa i pc) (wvN (rwL l) i) ∧ Below w.heap.size w wr) (fun _ v _ => l.length - (intOf v).toNat)
  case atStart => exact ⟨0, none, 0, Nat.zero_le _, rfl, rfl, hQ0, Below.refl _ _⟩
  case round =>
    obtain ⟨i, pa, pc, hi, rfl, rfl, hq, hb⟩ := hrel
    clear hQ0
    by_cases hil : i < l.length
    · have g1 : (i : Int) < (l.length : Int) := by omega
      obtain ⟨x, hx⟩ : ∃ p, l[i]? = some p := ⟨_, List.getElem?_eq_getElem hil⟩
      have hx' : Hid _ := hx
      go_wp2_with fail
      go_loopw [6, 5] (fun v6 v5 W2 => ∃ (k n : Nat), k ≤ i ∧ v6 = .int .i64 (k : Int) ∧ v5 = .int .i64 (n : Int) ∧ Hid (n = nxK (rwL l) (wvN (rwL l) i) i k) ∧ n ≤ k ∧ KQ natK 3 W2 w.heap.size (.slice pa i pc) (wvN (rwL l) i) ∧ Below w.heap.size w W2) (fun v _ _ => i - (intOf v).toNat)
      case atStart => exact ⟨0, 0, Nat.zero_le _, rfl, rfl, rfl, Nat.le_refl _, hq, hb⟩
      case round =>
        obtain ⟨k, n, hk, rfl, rfl, hn, hnk, hq2, hb2⟩ := hrel
        by_cases hki : k < i
        · have g2 : (k : Int) < (i : Int) := by omega
          have hkl : k < l.length := by omega
          have g3 : (k : Int) < (l.length : Int) := by omega
          obtain ⟨y, hy⟩ : ∃ p, l[k]? = some p := ⟨_, List.getElem?_eq_getElem hkl⟩
          obtain ⟨hxr, hxw⟩ := hf.2 x (List.mem_of_getElem? hx'.out)
          obtain ⟨hyr, hyw⟩ := hf.2 y (List.mem_of_getElem? hy)
          have hbd : Below wr.heap.size wr wr.drew := below_drewN (Below.refl _ _) 1
          have hbw := hb2.trans (hbd.mono hb2.size)
          obtain ⟨b, off, rfl, hbl, x0, x1, x2, x3, x4, x5, x6, x7, x8, hA⟩ := (hl.below hbw).tx hx'.out
          obtain ⟨b', off', e', hbl', y0, y1, y2, y3, y4, y5, y6, y7, y8, hB⟩ := (hl.below hbw).tx hy
          simp only [Option.some.injEq, Addr.mk.injEq, and_true] at e'
          obtain ⟨rfl, rfl⟩ := e'
          have cC := refClash_any y x wr.drew hB hA (by omega) (by omega) (by omega) (by omega)
          rw [← adjB_some (rwL_get hy) (rwL_get hx'.out)] at cC
          have hqd := hq2.below hbd
          have hgk : (wvN (rwL l) i)[k]? = some (wv (rwL l) k) := wvN_get _ hki
          have hgd := wvN_getD (rwL l) hki
          have hvk := wv_le (rwL l) k
          obtain ⟨g, og, rfl, hgB, hgw, -, -⟩ := hqd.spot (by rw [wvN_length]; omega)
          clear hA hB hy hbl hbl' hx hq hb
          obtain ⟨kind', frm', dst', amt', non', key', val', rs', ws', ra', rc', wa', wc'⟩ := y
          have hk8 : Hid _ := hx'
          clear hx'
          obtain ⟨kind, frm, dst, amt, non, key, val, rs, ws, ra, rc, wa, wc⟩ := x
          unfold TxA.v at cC
          cases hadj : adjB (rwL l) k i with
          | true =>
            rw [hadj] at cC
            have hnx : Hid (max n (wv (rwL l) k + 1) = nxK (rwL l) (wvN (rwL l) i) i (k + 1)) := by unfold Hid; rw [nxK_true hadj, ← hn.out, hgd]
            have hgk' : Hid _ := hgk
            generalize wv (rwL l) k = v at *
            clear hadj hn hgd hgk
            go_wp2_with fail
            rename_i K hK
            replace hK : Hid _ := hK
            go_region_law (go_simp; go_at_call 21; refine cC.mono ?_; rintro _ w5 ⟨rfl, hb5⟩)
            all_goals
              refine hK.out _ _ ?_
              have hq5 := hqd.below hb5
              have hb6 := hbw.trans (hb5.mono hbw.size)
              have cv := (hq5.natSet hgk'.out).1
              clear cC hqd x0 x1 x2 x3 x4 x5 x6 x7 x8 y0 y1 y2 y3 y4 y5 y6 y7 y8 hb5
              go_wp2
              go_roundw
              case rel => exact ⟨k + 1, max n (v + 1), by omega, by go_num, maxR _ _, hnx, by omega, hq5, hb6⟩
              case measure => simp [intOf]; omega
          | false =>
            rw [hadj] at cC
            have hnx : Hid (n = nxK (rwL l) (wvN (rwL l) i) i (k + 1)) := by unfold Hid; rw [nxK_false hadj, ← hn.out]
            clear hadj hn hgd hgk
            go_wp2_with fail
            rename_i K hK
            replace hK : Hid _ := hK
            go_region_law (go_simp; go_at_call 21; refine cC.mono ?_; rintro _ w5 ⟨rfl, hb5⟩)
            all_goals
              refine hK.out _ _ ?_
              have hq5 := hqd.below hb5
              have hb6 := hbw.trans (hb5.mono hbw.size)
              clear cC hqd x0 x1 x2 x3 x4 x5 x6 x7 x8 y0 y1 y2 y3 y4 y5 y6 y7 y8 hb5
              go_wp2
              go_roundw
              case rel => exact ⟨k + 1, n, by omega, by go_num, rfl, hnx, by omega, hq5, hb6⟩
              case measure => simp [intOf]; omega
        · have g2 : ¬ (k : Int) < (i : Int) := by omega
          have hki2 : k = i := by omega
          have hnv : Hid (wvN (rwL l) (i + 1) = wvN (rwL l) i ++ [n]) := by
            unfold Hid
            rw [hn.out, hki2]
            rfl
          have hnew := belowNew wr (.cells #[.int .i64 ((n : Nat) : Int)] 3)
          have hNW := new_natR wr n
          have hq6 := hq2.below hnew
          have hb7 := hb2.trans (hnew.mono hb2.size)
          have hbs := hb7.size
          have hwl : Hid ((wvN (rwL l) i).length = i) := wvN_length _ _
          obtain ⟨PL, hPL⟩ : ∃ z, z = wvN (rwL l) i := ⟨_, rfl⟩
          rw [← hPL] at hq6 hnv hwl
          replace hPL : Hid _ := hPL
          have m1 : PL.length + 1 ≤ maxLen := by rw [hwl.out]; unfold maxLen; omega
          have m2 : (PL.length + 1) * 8 ≤ 140737488355328 := by rw [hwl.out]; omega
          have hq7 : KQ natK 3 (wr.alloc (.cells #[.int .i64 ((n : Nat) : Int)] 3)) w.heap.size (.slice pa PL.length pc) PL := by rw [hwl.out]; exact hq6
          clear hki2 hn hq hq2 hq6 hx
          go_wp2_with (at_builtin; refine wpList_pushN (K := natK) rfl _ _ 24 rfl w.heap.size 3 i0 _ 8 Try.underlying24 hi0 hz0 hs0 hb0 hzs0 _ PL (by rw [hwl.out]; rfl) hq7 n trivial (fun _ h => h.elim) ⟨wr.heap.size, 0, none⟩ 1 rfl hNW m1 m2 hbs ?_; intro ao3 cap3 w6 hQ6 hk6 hf6)
          have hb8 := hb7.trans (hk6.below hb7.size (fun b e => (hq7.lt b e).1))
          have e1 : Hid ((PL ++ [n]).length = i + 1) := by unfold Hid; rw [List.length_append, hwl.out]; rfl
          have hQ7 : KQ natK 3 w6 w.heap.size (.slice ao3 (i + 1) cap3) (wvN (rwL l) (i + 1)) := by
            rw [hnv.out, ← e1.out]
            exact hQ6
          clear hq7 hb7 hk6 hf6 hQ6 hNW hnv
          go_roundw
          case rel => exact ⟨i + 1, ao3, cap3, by omega, by first | rfl | (rw [← e1.out]; simp), by go_num, hQ7, hb8⟩
          case measure => simp [intOf]; omega
    · have g1 : ¬ (i : Int) < (l.length : Int) := by omega
      have hir : i = l.length := by omega
      have hfin : GotOfR w (rwL l) (.returned (.slice pa i pc)) wr := by
        refine ⟨pa, pc, by rw [hlen.out, hir], ?_, hb⟩
        rw [hlen.out, ← hir]
        exact hq
      clear hir hq
      go_wp2
      go_ret
      exact hfin
end Go.Proofs.Ytkgidmifgfoeiaa
