/- What tuskref20.Edges does. -/
import Derived.Test.YtkgidmifgfoeiaaRefAcc
import Derived.Test.YtkgidmifgfoeiaaAccLast
namespace Go.Proofs.Ytkgidmifgfoeiaa
open Go Go.RowKit
set_option linter.unusedVariables false

theorem pairInfoR : ∃ i z, Try.prog.info? 52 = some i ∧ i.zero = some z ∧ i.size = 2 ∧ i.bytes = 16 ∧ z.cells.size = 2 := infoParts (by kernel_rfl)

theorem new_pairR (w : World) (x y : Nat) : ∀ j u, (pairK.c (x, y))[j]? = some u → (w.alloc (.cells #[.int .i64 ((x : Nat) : Int), .int .i64 ((y : Nat) : Int)] 52)).cell? ((⟨w.heap.size, 0, none⟩ : Addr).add j) = some u := by
  intro j u hu
  rw [Go.WideShapes.add_plain, Nat.zero_add]
  exact (Arr.new w 52 [.int .i64 ((x : Nat) : Int), .int .i64 ((y : Nat) : Int)]).cell hu

def GotEdgesR (W : World) (l : List RwD) (e : Ending) (w : World) : Prop :=
  ∃ ao cap, e = .returned (.slice ao (edgesL l).length cap) ∧ KQ pairK 52 w W.heap.size (.slice ao (edgesL l).length cap) (edgesL l) ∧ Below W.heap.size W w

/-- The pairs of the first i members, and those of member i below k. -/
def pairsTo (l : List RwD) (i k : Nat) : List (Nat × Nat) := edgesN l i ++ (wayL l i k).map (fun k => (i, k))

theorem pairsTo_start (l : List RwD) (i : Nat) : pairsTo l i (i + 1) = edgesN l i := by
  unfold pairsTo
  rw [wayL_le l i (i + 1) (Nat.le_refl _)]
  simp

theorem pairsTo_next {l : List RwD} {i k : Nat} (h : i < k) : pairsTo l i (k + 1) = pairsTo l i k ++ (if adjB l i k = true then [(i, k)] else []) := by
  unfold pairsTo
  rw [wayL_succ, decide_eq_true h, Bool.true_and, List.map_append, ← List.append_assoc]
  congr 1
  split <;> rfl

theorem pairsTo_end (l : List RwD) (i : Nat) : pairsTo l i l.length = edgesN l (i + 1) := by
  unfold pairsTo
  rw [edgesN_succ]

theorem pairsTo_len (l : List RwD) (i k : Nat) : (pairsTo l i k).length ≤ i * l.length + k := by
  unfold pairsTo
  rw [List.length_append, List.length_map]
  have := edgesN_length l i
  have := wayL_length l i k
  omega

set_option maxRecDepth 100000 in
set_option maxHeartbeats 4000000 in
theorem refEdges_any (l : List TxA) (ao : Option Addr) (cp : Nat) (w : World) (hl : RowAt txA w ao l) (hf : Few l) :
    Calls Try.prog 24 #[.slice ao l.length cp] w fun e w' => GotEdgesR w (rwL l) e w' := by
  have hl1 := hf.1
  have hlen : Hid _ := rwL_length l
  obtain ⟨i0, z0, hi0, hz0, hs0, hb0, hzs0⟩ := pairInfoR
  have hQ0 := KQ.empty pairK 52 w w.heap.size
  go_enter Try.func24, Try.ntmps24
  go_wp2_with fail
  go_loopw [3, 4] (fun v3 v4 wr => ∃ (i : Nat) (pa : Option Addr) (pc : Nat), i ≤ l.length ∧ v3 = .slice pa (edgesN (rwL l) i).length pc ∧ v4 = .int .i64 (i : Int) ∧ KQ pairK 52 wr w.heap.size (.slice pa (edgesN (rwL l) i).length pc) (edgesN (rwL l) i) ∧ Below w.heap.size w wr) (fun _ v _ => l.length - (intOf v).toNat)
  case atStart => exact ⟨0, none, 0, Nat.zero_le _, rfl, rfl, hQ0, Below.refl _ _⟩
  case round =>
    obtain ⟨i, pa, pc, hi, rfl, rfl, hq, hb⟩ := hrel
    clear hQ0
    by_cases hil : i < l.length
    · have g1 : (i : Int) < (l.length : Int) := by omega
      obtain ⟨x, hx⟩ : ∃ p, l[i]? = some p := ⟨_, List.getElem?_eq_getElem hil⟩
      have hst := pairsTo_start (rwL l) i
      have hq0 : KQ pairK 52 wr w.heap.size (.slice pa (pairsTo (rwL l) i (i + 1)).length pc) (pairsTo (rwL l) i (i + 1)) := by rw [hst]; exact hq
      have hend : Hid (pairsTo (rwL l) i l.length = edgesN (rwL l) (i + 1)) := by
        have := pairsTo_end (rwL l) i
        rw [hlen.out] at this
        exact this
      have hpl : Hid (∀ k, k ≤ l.length → (pairsTo (rwL l) i k).length ≤ 1001000) := fun k hk => by
        have h1 := pairsTo_len (rwL l) i k
        rw [hlen.out] at h1
        have h2 : i * l.length ≤ 1000 * 1000 := Nat.mul_le_mul (by omega) hl1
        omega
      have hst' : Hid _ := hst
      rw [← hst]
      clear hq hst
      go_wp2_with fail
      go_loopw [3, 5] (fun v3 v5 W2 => ∃ (k : Nat) (pa : Option Addr) (pc : Nat), i < k ∧ k ≤ l.length ∧ v3 = .slice pa (pairsTo (rwL l) i k).length pc ∧ v5 = .int .i64 (k : Int) ∧ KQ pairK 52 W2 w.heap.size (.slice pa (pairsTo (rwL l) i k).length pc) (pairsTo (rwL l) i k) ∧ Below w.heap.size w W2) (fun _ v _ => l.length - (intOf v).toNat)
      case atStart => exact ⟨i + 1, pa, pc, by omega, by omega, rfl, by go_num, hq0, hb⟩
      case round =>
        obtain ⟨k, pa, pc, hik, hk, rfl, rfl, hq, hb⟩ := hrel
        clear hq0
        by_cases hkl : k < l.length
        · have g2 : (k : Int) < (l.length : Int) := by omega
          obtain ⟨y, hy⟩ : ∃ p, l[k]? = some p := ⟨_, List.getElem?_eq_getElem hkl⟩
          obtain ⟨hxr, hxw⟩ := hf.2 x (List.mem_of_getElem? hx)
          obtain ⟨hyr, hyw⟩ := hf.2 y (List.mem_of_getElem? hy)
          have hbd : Below wr.heap.size wr wr.drew := below_drewN (Below.refl _ _) 1
          have hbw := hb.trans (hbd.mono hb.size)
          obtain ⟨b, off, rfl, hbl, x0, x1, x2, x3, x4, x5, x6, x7, x8, hA⟩ := (hl.below hbw).tx hx
          obtain ⟨b', off', e', hbl', y0, y1, y2, y3, y4, y5, y6, y7, y8, hB⟩ := (hl.below hbw).tx hy
          simp only [Option.some.injEq, Addr.mk.injEq, and_true] at e'
          obtain ⟨rfl, rfl⟩ := e'
          have cC := refClash_any x y wr.drew hA hB (by omega) (by omega) (by omega) (by omega)
          rw [← adjB_some (rwL_get hx) (rwL_get hy)] at cC
          have hnx := pairsTo_next (l := rwL l) hik
          have hqd := hq.below hbd
          have hx' : Hid _ := hx
          have hy' : Hid _ := hy
          clear hA hB hx hy hq hbl hbl'
          obtain ⟨kind, frm, dst, amt, non, key, val, rs, ws, ra, rc, wa, wc⟩ := x
          obtain ⟨kind', frm', dst', amt', non', key', val', rs', ws', ra', rc', wa', wc'⟩ := y
          unfold TxA.v at cC
          cases hadj : adjB (rwL l) i k with
          | true =>
            rw [hadj] at cC
            rw [hadj, if_pos rfl] at hnx
            have hnx' : Hid _ := hnx
            clear hnx hadj
            obtain ⟨PL, hPL⟩ : ∃ z, z = pairsTo (rwL l) i k := ⟨_, rfl⟩
            have hpl2 := hpl.out k hk
            rw [← hPL] at hqd hpl2 hnx' ⊢
            replace hPL : Hid _ := hPL
            have m1 : PL.length + 1 ≤ maxLen := by unfold maxLen; omega
            have m2 : (PL.length + 1) * 16 ≤ 140737488355328 := by omega
            have hl5 : Hid ((pairsTo (rwL l) i (k + 1)).length = PL.length + 1) := by unfold Hid; rw [hnx'.out]; simp
            go_wp2_with fail
            rename_i K hK
            replace hK : Hid _ := hK
            go_region_law (go_simp; go_at_call 21; refine cC.mono ?_; rintro _ w5 ⟨rfl, hb5⟩)
            all_goals
              refine hK.out _ _ ?_
              have hq5 := hqd.below hb5
              have hb6 := hbw.trans (hb5.mono hbw.size)
              have hnew := belowNew w5 (.cells #[.int .i64 ((i : Nat) : Int), .int .i64 ((k : Nat) : Int)] 52)
              have hNW := new_pairR w5 i k
              have hq6 := hq5.below hnew
              have hb7 := hb6.trans (hnew.mono hb6.size)
              have hbs := hb7.size
              clear hq5 hb6 hnew cC hqd x0 x1 x2 x3 x4 x5 x6 x7 x8 y0 y1 y2 y3 y4 y5 y6 y7 y8 hb5
              go_wp2_with (at_builtin; refine wpList_pushN (K := pairK) rfl _ _ 49 rfl w.heap.size 52 i0 _ 16 Try.underlying49 hi0 hz0 hs0 hb0 hzs0 _ PL rfl hq6 (i, k) trivial (fun _ h => h.elim) ⟨w5.heap.size, 0, none⟩ 1 rfl hNW m1 m2 hbs ?_; intro ao3 cap3 w6 hQ6 hk6 hf6)
              have hb8 := hb7.trans (hk6.below hb7.size (fun b e => (hq6.lt b e).1))
              have hQ7 : KQ pairK 52 w6 w.heap.size (.slice ao3 (pairsTo (rwL l) i (k + 1)).length cap3) (pairsTo (rwL l) i (k + 1)) := by
                rw [hnx'.out]
                first | exact hQ6 | (rw [List.length_append, List.length_singleton]; exact hQ6)
              clear hq6 hb7 hk6 hf6 hQ6
              go_roundw
              case rel => exact ⟨k + 1, ao3, cap3, by omega, by omega, by rw [hl5.out], by go_num, hQ7, hb8⟩
              case measure => simp [intOf]; omega
          | false =>
            rw [hadj] at cC
            rw [hadj, if_neg (by decide), List.append_nil] at hnx
            have hnx' : Hid _ := hnx
            have hqn : Hid (KQ pairK 52 wr.drew w.heap.size (.slice pa (pairsTo (rwL l) i (k + 1)).length pc) (pairsTo (rwL l) i (k + 1))) := by unfold Hid; rw [hnx]; exact hqd
            have hl5 : Hid ((pairsTo (rwL l) i (k + 1)).length = (pairsTo (rwL l) i k).length) := by unfold Hid; rw [hnx]
            clear hnx hadj hqd
            go_wp2_with fail
            rename_i K hK
            replace hK : Hid _ := hK
            go_region_law (go_simp; go_at_call 21; refine cC.mono ?_; rintro _ w5 ⟨rfl, hb5⟩)
            all_goals
              refine hK.out _ _ ?_
              have hq5 := hqn.out.below hb5
              have hb6 := hbw.trans (hb5.mono hbw.size)
              clear cC x0 x1 x2 x3 x4 x5 x6 x7 x8 y0 y1 y2 y3 y4 y5 y6 y7 y8 hb5 hqn
              go_wp2
              go_roundw
              case rel => exact ⟨k + 1, pa, pc, by omega, by omega, by rw [hl5.out], by go_num, hq5, hb6⟩
              case measure => simp [intOf]; omega
        · have g2 : ¬ (k : Int) < (l.length : Int) := by omega
          have hkr : k = l.length := by omega
          rw [hkr, hend.out] at hq
          have hle : Hid ((pairsTo (rwL l) i k).length = (edgesN (rwL l) (i + 1)).length) := by unfold Hid; rw [hkr, hend.out]
          clear hkr hend hpl
          go_wp2
          go_roundw
          case rel => exact ⟨i + 1, pa, pc, by omega, by rw [hle.out], by go_num, hq, hb⟩
          case measure => simp [intOf]; omega
    · have g1 : ¬ (i : Int) < (l.length : Int) := by omega
      have hir : i = (rwL l).length := by rw [hlen.out]; omega
      have hq2 : KQ pairK 52 wr w.heap.size (.slice pa (edgesL (rwL l)).length pc) (edgesL (rwL l)) := by
        unfold edgesL
        rw [← hir]
        exact hq
      have hle : Hid ((edgesN (rwL l) i).length = (edgesL (rwL l)).length) := by unfold Hid edgesL; rw [← hir]
      have hfin : GotEdgesR w (rwL l) (.returned (.slice pa (edgesN (rwL l) i).length pc)) wr := ⟨pa, pc, by rw [hle.out], hq2, hb⟩
      clear hir hq hq2
      go_wp2
      go_ret
      exact hfin
end Go.Proofs.Ytkgidmifgfoeiaa
