/- What access.Edges does. -/
import Derived.Test.YthegadhkhbokkaaAccWay
namespace Go.Proofs.Ythegadhkhbokkaa
open Go Go.RowKit
set_option linter.unusedVariables false

theorem pairInfoA : ∃ i z, Try.prog.info? 37 = some i ∧ i.zero = some z ∧ i.size = 2 ∧ i.bytes = 16 ∧ z.cells.size = 2 := infoParts (by kernel_rfl)

theorem new_pair (w : World) (x y : Nat) : ∀ j u, (pairK.c (x, y))[j]? = some u → (w.alloc (.cells #[.int .i64 ((x : Nat) : Int), .int .i64 ((y : Nat) : Int)] 37)).cell? ((⟨w.heap.size, 0, none⟩ : Addr).add j) = some u := by
  intro j u hu
  rw [Go.WideShapes.add_plain, Nat.zero_add]
  exact (Arr.new w 37 [.int .i64 ((x : Nat) : Int), .int .i64 ((y : Nat) : Int)]).cell hu

def GotEdges (W : World) (l : List RwD) (e : Ending) (w : World) : Prop :=
  ∃ ao cap, e = .returned (.slice ao (edgesL l).length cap) ∧ KQ pairK 37 w W.heap.size (.slice ao (edgesL l).length cap) (edgesL l) ∧ Below W.heap.size W w

/-- The pairs of the first i members, and the first j of member i. -/
def pairsAt (l : List RwD) (i j : Nat) : List (Nat × Nat) := edgesN l i ++ ((wayL l i l.length).take j).map (fun k => (i, k))

theorem pairsAt_next {l : List RwD} {i j k : Nat} (hk : (wayL l i l.length)[j]? = some k) : pairsAt l i (j + 1) = pairsAt l i j ++ [(i, k)] := by
  unfold pairsAt
  rw [List.take_add_one, hk, List.map_append, ← List.append_assoc]
  rfl

theorem pairsAt_all (l : List RwD) (i : Nat) : pairsAt l i (wayL l i l.length).length = edgesN l (i + 1) := by
  unfold pairsAt
  rw [List.take_length, edgesN_succ]

theorem pairsAt_len (l : List RwD) (i j : Nat) : (pairsAt l i j).length ≤ i * l.length + j := by
  unfold pairsAt
  rw [List.length_append, List.length_map, List.length_take]
  have := edgesN_length l i
  omega

theorem pairsAt_zero (l : List RwD) (i : Nat) : pairsAt l i 0 = edgesN l i := by
  unfold pairsAt
  simp

set_option maxRecDepth 100000 in
set_option maxHeartbeats 4000000 in
theorem edges_any (l : List TxA) (ao : Option Addr) (cp : Nat) (w : World) (hl : RowAt txA w ao l) (hf : Few l) :
    Calls Try.prog 8 #[.slice ao l.length cp] w fun e w' => GotEdges w (rwL l) e w' := by
  have hl1 := hf.1
  have hlen := rwL_length l
  obtain ⟨i0, z0, hi0, hz0, hs0, hb0, hzs0⟩ := pairInfoA
  have cN := newSearch_any l ao cp w hl hf
  go_enter Try.func8, Try.ntmps8
  go_wp2_with (go_at_call 17; refine cN.mono ?_; rintro _ w1 ⟨sb, rfl, hSA, hb1⟩)
  obtain ⟨rb, wb, fg, SR, SW, hS⟩ := hSA
  rw [hlen] at hS
  have hQ0 := KQ.empty pairK 37 w1 w1.heap.size
  have hF0 : Fnd (List.replicate l.length 0) 0 l.length [] := Fnd.start l.length
  have hlen' : Hid _ := hlen
  clear cN hlen
  go_loopw [4, 13] (fun v4 v13 wr => ∃ (i : Nat) (ao : Option Addr) (cap : Nat) (fd : List Nat), i ≤ l.length ∧ v4 = .slice ao (edgesN (rwL l) i).length cap ∧ v13 = .int .i64 (i : Int) ∧ KQ pairK 37 wr w1.heap.size (.slice ao (edgesN (rwL l) i).length cap) (edgesN (rwL l) i) ∧ Srch wr w.heap.size sb rb wb fg l.length SR SW (l.length * 2000) (fun k => memL (rwL l) RwD.rs k l.length) (fun k => memL (rwL l) RwD.ws k l.length) fd ∧ Hid (Fnd fd i l.length []) ∧ Below w.heap.size w wr ∧ w1.heap.size ≤ wr.heap.size) (fun _ v _ => l.length - (intOf v).toNat)
  case atStart => exact ⟨0, none, 0, _, Nat.zero_le _, rfl, rfl, hQ0, hS, hF0, hb1, Nat.le_refl _⟩
  case round =>
    obtain ⟨i, pa, pc, fd, hi, rfl, rfl, hq, hs, hF, hb, hws0⟩ := hrel
    clear hQ0 hF0
    by_cases hil : i < l.length
    · have g1 : (i : Int) < (l.length : Int) := by omega
      obtain ⟨x, hx⟩ : ∃ p, l[i]? = some p := ⟨_, List.getElem?_eq_getElem hil⟩
      obtain ⟨b, off, rfl, hbl, x0, x1, x2, x3, x4, x5, x6, x7, x8, hA⟩ := (hl.below hb).tx hx
      have hbn := belowNew wr (.cells x.c.toArray 26)
      have hX := Arr.new wr 26 x.c
      have hA2 := hA.below hbn
      have hq2 := hq.below hbn
      have hs2 := hs.below hbn
      have hb2 := hb.trans (hbn.mono hb.size)
      have hws1 := Nat.le_trans hws0 hbn.size
      obtain ⟨hfr, hfw⟩ := hf.2 x (List.mem_of_getElem? hx)
      have hfo := fun b (hb : txA.foot x b) => txA.lt (hl.at_ x (List.mem_of_getElem? hx)) hb
      obtain ⟨w3, hw3⟩ : ∃ q, wr.alloc (.cells x.c.toArray 26) = q := ⟨_, rfl⟩
      rw [hw3] at hX hA2 hq2 hs2 hb2 hws1
      have hxg := rwL_get hx
      have cW := way_any (rwL l) w.heap.size sb rb wb fg SR SW (l.length * 2000) fd i x w3 (by rw [hlen'.out]; exact hs2) (by rw [hlen'.out]; exact hF.out) (by rw [hlen'.out]; exact hl1) hxg hA2 hfr hfw hfo
      rw [hlen'.out] at cW
      have hx' : Hid _ := hx
      have hxg' : Hid _ := hxg
      clear hA hx hbn hA2 hs hq hb hfr hfw hfo hxg
      obtain ⟨kind, frm, dst, amt, non, key, val, rs, ws, ra, rc, wa, wc⟩ := x
      replace hw3 : wr.alloc (.cells #[.int .i64 kind, .string frm, .string dst, .int .u64 amt, .int .u64 non, .string key, .string val, .slice ra rs.length rc, .slice wa ws.length wc] 26) = w3 := hw3
      replace hX : Arr w3 wr.heap.size 26 [.int .i64 kind, .string frm, .string dst, .int .u64 amt, .int .u64 non, .string key, .string val, .slice ra rs.length rc, .slice wa ws.length wc] := hX
      have y0 := hX.cell (i := 0) rfl
      have y1 := hX.cell (i := 1) rfl
      have y2 := hX.cell (i := 2) rfl
      have y3 := hX.cell (i := 3) rfl
      have y4 := hX.cell (i := 4) rfl
      have y5 := hX.cell (i := 5) rfl
      have y6 := hX.cell (i := 6) rfl
      have y7 := hX.cell (i := 7) rfl
      have y8 := hX.cell (i := 8) rfl
      unfold TxA.v at cW
      go_wp2_with (go_at_call 18; refine cW.mono ?_; rintro _ w4 ⟨ma, mc, fd4, rfl, hm4, hs4, hF4, hk4⟩)
      obtain ⟨M, hM⟩ : ∃ M, M = wayL (rwL l) i l.length := ⟨_, rfl⟩
      rw [← hM] at hm4 ⊢
      have hMl : M.length ≤ 1000 := by rw [hM]; have := wayL_length (rwL l) i l.length; omega
      have hnx : Hid (∀ j k, M[j]? = some k → pairsAt (rwL l) i (j + 1) = pairsAt (rwL l) i j ++ [(i, k)]) := fun j k h => by
        rw [hM, ← hlen'.out] at h
        exact pairsAt_next h
      have hend : Hid (pairsAt (rwL l) i M.length = edgesN (rwL l) (i + 1)) := by
        have := pairsAt_all (rwL l) i
        rw [hlen'.out, ← hM] at this
        exact this
      have hpl : Hid (∀ j, j ≤ M.length → (pairsAt (rwL l) i j).length ≤ 1001000) := fun j hj => by
        have h1 := pairsAt_len (rwL l) i j
        rw [hlen'.out] at h1
        have h2 : i * l.length ≤ 1000 * 1000 := Nat.mul_le_mul (by omega) hl1
        omega
      have hge : Hid (∀ q' : Value, q'.ownBlock ≠ none → True) := fun _ _ => trivial
      have hqlo : ∀ b, (Value.slice pa (edgesN (rwL l) i).length pc).ownBlock = some b → w1.heap.size ≤ b ∧ b < w3.heap.size := fun b e => hq2.lt b e
      have hfgl := hS.fge.2
      have hq4 := hq2.kept hk4 (fun k e e2 => by have h1 := (hqlo k e).1; have h2 : k = fg := e2; omega) (fun _ _ _ h => h.elim)
      have hmr := hm4.rowOf.1
      have hms : Hid (∀ b, rowFoot natK ma M b → (Value.slice pa (edgesN (rwL l) i).length pc).ownBlock ≠ some b) := fun b hb e => by
        have h1 := hm4.foot_ge (Nat.le_refl _) (fun _ _ _ h => h.elim) b hb
        have h2 := (hqlo b e).2
        omega
      have hfgw : w.heap.size ≤ fg := hs4.fge.1
      have hb4 := hb2.trans (hk4.below hb2.size (fun k e => by have e' : k = fg := e; omega))
      rw [← pairsAt_zero] at hq4 hms
      have hw1s : w1.heap.size ≤ w4.heap.size := Nat.le_trans hws1 hk4.size
      clear hM hge hqlo hq2 hs2 hk4 hm4 cW hX y0 y1 y2 y3 y4 y5 y6 y7 y8 hw3 hb2
      have hQJ : Hid (KQ pairK 37 w4 w1.heap.size (.slice pa (pairsAt (rwL l) i 0).length pc) (pairsAt (rwL l) i 0)) := hq4
      rw [show (edgesN (rwL l) i).length = (pairsAt (rwL l) i 0).length by rw [pairsAt_zero]]
      clear hq4
      go_loopw [4, 23] (fun v4 v23 W2 => ∃ (j : Nat) (pa : Option Addr) (pc : Nat), j ≤ M.length ∧ v4 = .slice pa (pairsAt (rwL l) i j).length pc ∧ v23 = .int .i64 (j : Int) ∧ KQ pairK 37 W2 w1.heap.size (.slice pa (pairsAt (rwL l) i j).length pc) (pairsAt (rwL l) i j) ∧ RowAt natK W2 ma M ∧ Srch W2 w.heap.size sb rb wb fg l.length SR SW (l.length * 2000) (fun k => memL (rwL l) RwD.rs k l.length) (fun k => memL (rwL l) RwD.ws k l.length) fd4 ∧ Hid (∀ b, rowFoot natK ma M b → (Value.slice pa (pairsAt (rwL l) i j).length pc).ownBlock ≠ some b) ∧ Below w.heap.size w W2 ∧ w1.heap.size ≤ W2.heap.size) (fun _ v _ => M.length - (intOf v).toNat)
      case atStart => exact ⟨0, pa, pc, Nat.zero_le _, rfl, rfl, hQJ, hmr, hs4, hms, hb4, hw1s⟩
      case round =>
        obtain ⟨j, pa, pc, hj, rfl, rfl, hq, hr, hs, hms, hb, hws⟩ := hrel
        clear hQJ hmr hs4 hb4 hw1s
        by_cases hjl : j < M.length
        · have g1 : (j : Int) < (M.length : Int) := by omega
          obtain ⟨k, hk⟩ : ∃ p, M[j]? = some p := ⟨_, List.getElem?_eq_getElem hjl⟩
          obtain ⟨b2, o2, rfl, hbl2, hcell⟩ := hr.nat hk
          have hnk : Hid (pairsAt (rwL l) i (j + 1) = pairsAt (rwL l) i j ++ [(i, k)]) := hnx.out j k hk
          have hpl2 := hpl.out j hj
          have hnew := belowNew wr (.cells #[.int .i64 ((i : Nat) : Int), .int .i64 ((k : Nat) : Int)] 37)
          have hNW := new_pair wr i k
          have hq3 := hq.below hnew
          have hs3 := hs.below hnew
          have hr3 := hr.below hnew
          have hb3 := hb.trans (hnew.mono hb.size)
          have hbs : w1.heap.size ≤ (wr.alloc (.cells #[.int .i64 ((i : Nat) : Int), .int .i64 ((k : Nat) : Int)] 37)).heap.size := Nat.le_trans hws hnew.size
          have m1 : (pairsAt (rwL l) i j).length + 1 ≤ maxLen := by unfold maxLen; omega
          have m2 : ((pairsAt (rwL l) i j).length + 1) * 16 ≤ 140737488355328 := by omega
          obtain ⟨PL, hPL⟩ : ∃ z, z = pairsAt (rwL l) i j := ⟨_, rfl⟩
          rw [← hPL] at hq3 m1 m2 hnk hms ⊢
          replace hPL : Hid _ := hPL
          clear hk hq hs hr hnew
          go_wp2_with (at_builtin; refine wpList_pushN (K := pairK) rfl _ _ 28 rfl w1.heap.size 37 i0 _ 16 Try.underlying28 hi0 hz0 hs0 hb0 hzs0 _ PL rfl hq3 (i, k) trivial (fun _ h => h.elim) ⟨wr.heap.size, 0, none⟩ 1 rfl hNW m1 m2 hbs ?_; intro ao3 cap3 w5 hQ5 hk5 hf5)
          have hql : Hid (∀ b, (Value.slice pa PL.length pc).ownBlock = some b → w1.heap.size ≤ b) := fun b e => (hq3.lt b e).1
          have hr5 := hr3.kept hk5 (fun b hb e => hms.out b hb e)
          have hs5 := hS.keptNew hs3 hk5 hql.out
          have hb5 := hb3.trans (hk5.below hb3.size (fun b e => by have := hql.out b e; omega))
          have hms5 : Hid (∀ b, rowFoot natK (some ⟨b2, o2, none⟩) M b → (Value.slice ao3 (pairsAt (rwL l) i (j + 1)).length cap3).ownBlock ≠ some b) := fun b hb e => by
            have e' : (Value.slice ao3 (PL ++ [(i, k)]).length cap3).ownBlock = some b := by cases ao3 <;> exact e
            rcases hf5 b e' with h | h
            · exact hms.out b hb h
            · have := hr3.lt hb; omega
          have hQ6 : KQ pairK 37 w5 w1.heap.size (.slice ao3 (pairsAt (rwL l) i (j + 1)).length cap3) (pairsAt (rwL l) i (j + 1)) := by
            rw [hnk.out]
            first | exact hQ5 | (rw [List.length_append, List.length_singleton]; exact hQ5)
          have hw5 : w1.heap.size ≤ w5.heap.size := Nat.le_trans hbs hk5.size
          have hl5 : Hid ((pairsAt (rwL l) i (j + 1)).length = PL.length + 1) := by unfold Hid; rw [hnk.out]; simp
          clear hq3 hs3 hr3 hk5 hf5 hQ5 hms hql hb3
          go_roundw
          case rel => exact ⟨j + 1, ao3, cap3, by omega, by rw [hl5.out], by go_num, hQ6, hr5, hs5, hms5, hb5, hw5⟩
          case measure => simp [intOf]; omega
        · have g1 : ¬ (j : Int) < (M.length : Int) := by omega
          have hjr : j = M.length := by omega
          rw [hjr, hend.out] at hq
          have hF5 : Hid (Fnd fd4 (i + 1) l.length []) := by
            obtain ⟨acc, h⟩ := hF4
            exact h.next
          have hle : Hid ((pairsAt (rwL l) i j).length = (edgesN (rwL l) (i + 1)).length) := by unfold Hid; rw [hjr, hend.out]
          clear hms hr hjr hend hpl hnx
          go_wp2
          go_roundw
          case rel => exact ⟨i + 1, pa, pc, fd4, by omega, by rw [hle.out], by go_num, hq, hs, hF5, hb, hws⟩
          case measure => simp [intOf]; omega
    · have g1 : ¬ (i : Int) < (l.length : Int) := by omega
      have hir : i = (rwL l).length := by rw [hlen'.out]; omega
      have hq2 : KQ pairK 37 wr w1.heap.size (.slice pa (edgesL (rwL l)).length pc) (edgesL (rwL l)) := by
        unfold edgesL
        rw [← hir]
        exact hq
      have hle : Hid ((edgesN (rwL l) i).length = (edgesL (rwL l)).length) := by unfold Hid edgesL; rw [← hir]
      have hfin : GotEdges w (rwL l) (.returned (.slice pa (edgesN (rwL l) i).length pc)) wr := ⟨pa, pc, by rw [hle.out], hq2.rebase hb1.size, hb⟩
      clear hir hq hq2
      go_wp2
      go_ret
      exact hfin
end Go.Proofs.Ythegadhkhbokkaa
