/- ExecSame: for every input the statement answers true, and each argument reads afterwards as it read before. Condition: the two tables of package mix read as the program's text lays them; and what the arguments hold is together of bulk at most 1048576. -/
import Derived.Test.YtajpfkenhchafaaGreatDoorEz19
import Derived.Test.YtajpfkenhchafaaGreatDoorEz27
import Derived.Test.YtajpfkenhchafaaGreatDoorEz29
import Derived.Test.YtajpfkenhchafaaGreatDoorEz17
import Derived.Test.YtajpfkenhchafaaGreatDoorEz18
import Derived.Test.YtajpfkenhchafaaGreatDoorCards
import Derived.Test.YtajpfkenhchafaaGreatDoorTie
import Derived.SevenTiedAt
import Derived.Deep.DeepHandedRow
/- ExecSame: an executor and a state, side by side. -/
namespace Go.Proofs.YtajpfkenhchafaaGreatDoor
open Go Go.RowKit
set_option linter.unusedVariables false

/-- One more is done. -/
theorem exec_next {D : List TxD} {k : Nat} {d : TxD} (h : D[k]? = some d) (s : StF) : execR s (D.take (k + 1)) = execR s (D.take k) ++ [applyE (execS s (D.take k)) d] ∧ execS s (D.take (k + 1)) = applyF (execS s (D.take k)) d := by
  rw [List.take_add_one, h, Option.toList_some, execR_append, execS_append]
  exact ⟨rfl, rfl⟩

/-- While a batch is done one by one: an executor that has done it, a state, the row of answers, and the executor's. -/
structure Same23 (W U w : World) (x y : Nat) (A B : Nat → Prop) (s : StF) (N : Nat) (r : List Nat) (n : Nat) (s' : StF) (N' : Nat) (g : Value) (G : List Nat) (q : Value) (Q : List Nat) : Prop where
  duo : Duo23 PX RSX W w x y A B s N r n s' N' [] 0
  got : KQ natK 3 w 0 g G
  want : KQ natK 3 w U.heap.size q Q
  gl : ∀ k, g.ownBlock = some k → k < U.heap.size ∧ ¬ B k
  al : ∀ k, A k → k < U.heap.size
  qb : ∀ k, q.ownBlock = some k → ¬ B k
  wl : W.heap.size ≤ U.heap.size
  ul : U.heap.size ≤ w.heap.size

section
variable {W U w w' w2 : World} {x y N N' N2 n : Nat} {A B B' : Nat → Prop} {s s' s2 : StF} {r G Q Q' : List Nat} {g q q' : Value}

theorem Same23.below (h : Same23 W U w x y A B s N r n s' N' g G q Q) (hb : Below w.heap.size w w') : Same23 W U w' x y A B s N r n s' N' g G q Q :=
  ⟨h.duo.below lies_PX lies_RSX hb, h.got.below hb, h.want.below hb, h.gl, h.al, h.qb, h.wl, Nat.le_trans h.ul hb.size⟩

theorem Same23.apply (h : Same23 W U w x y A B s N r n s' N' g G q Q) (hr : RS w' y B' s2 N2) (hf : FreshS w B B') (hk : Kept B w w') : Same23 W U w' x y A B' s N r n s2 N2 g G q Q := by
  have hu := h.want.lt
  refine ⟨(h.duo.swap.step lies_RSX lies_PX (r2 := []) (n2 := 0) hr hf hk).swap, h.got.kept hk (fun k e => (h.gl k e).2) (fun _ _ _ h => h.elim), h.want.kept hk h.qb (fun _ _ _ h => h.elim), fun k e => ⟨(h.gl k e).1, fun e2 => ?_⟩, h.al, fun k e e2 => ?_, h.wl, Nat.le_trans h.ul hk.size⟩
  · rcases hf k e2 with e3 | e3
    · exact (h.gl k e).2 e3
    · have := (h.got.lt k e).2; omega
  · rcases hf k e2 with e3 | e3
    · exact h.qb k e e3
    · have := (h.want.lt k e).2; omega

theorem Same23.push (h : Same23 W U w x y A B s N r n s' N' g G q Q) (hq : KQ natK 3 w' U.heap.size q' Q') (hk : Kept (fun k => q.ownBlock = some k) w w') (hf : Fresh w q q') : Same23 W U w' x y A B s N r n s' N' g G q' Q' := by
  have hn : ∀ k, A k ∨ B k → q.ownBlock ≠ some k := fun k e e2 => by
    rcases e with e | e
    · have := h.al k e; have := (h.want.lt k e2).1; omega
    · exact h.qb k e2 e
  refine ⟨⟨lies_PX.kept h.duo.a hk (fun k e e2 => hn k (Or.inl e) e2), lies_RSX.kept h.duo.b hk (fun k e e2 => hn k (Or.inr e) e2), h.duo.ap, h.duo.na, h.duo.nb, h.duo.bl.trans (hk.below h.duo.bl.size (fun k e => by have := (h.want.lt k e).1; have := h.wl; omega))⟩, h.got.kept hk (fun k e e2 => by have := (h.gl k e).1; have := (h.want.lt k e2).1; omega) (fun _ _ _ h => h.elim), hq, h.gl, h.al, fun k e e2 => ?_, h.wl, Nat.le_trans h.ul hk.size⟩
  rcases hf k e with e3 | e3
  · exact h.qb k e3 e2
  · have := lies_RSX.lt h.duo.b k e2; omega
end
end Go.Proofs.YtajpfkenhchafaaGreatDoor

/- ExecSame: the walk. -/
namespace Go.Proofs.YtajpfkenhchafaaGreatDoor
open Go Go.RowKit
set_option linter.unusedVariables false

set_option maxRecDepth 100000 in
set_option maxHeartbeats 8000000 in
theorem execSame_walk (ro : Option Addr) (rc : Nat) (rich : List ByteArray) (funds : Nat) (lo : Option Addr) (lc : Nat) (l : List TRow) (W : World)
    (hR : RowAt strK W ro rich) (hrc : ro = none → rc = 0) (hrn : rich.length ≤ 1048576) (hrz : ∀ s ∈ rich, s.size ≤ 1048576) (hL : RowAt trowK W lo l) (hlw : Wide23 l) (hG : Mx.Glob W) :
    Calls Tryz.prog 5 #[.slice ro rich.length rc, .int .u64 (funds : Int), .slice lo l.length lc] W fun e w' => e = .returned (.bool true) ∧ Below W.heap.size W w' := by
  have cW := works23_any W
  go_enter Tryz.func5, Tryz.ntmps5
  go_wp2_with fail
  refine cW.mono ?_
  rintro e w0 ⟨rfl, hb0⟩
  have cR := rich_any rich ro rc w0 (hR.below hb0) hrn hrz
  clear cW
  go_wp2_with fail
  refine cR.mono ?_
  rintro e w1 ⟨rfl, hb01⟩
  have hb1 := hb0.trans (hb01.mono hb0.size)
  clear hb01 hb0
  have cL := great23_any l lo lc w1 (hL.below hb1) hlw
  clear cR
  by_cases hri : richB rich = true
  · rw [hri]
    clear cL
    go_wp2
    go_ret
    exact ⟨rfl, hb1⟩
  obtain hri := Bool.eq_false_iff.2 hri
  have hrl := few_rich hri
  rw [hri]
  go_wp2_with fail
  refine cL.mono ?_
  rintro e w2 ⟨rfl, hb2⟩
  have hbB := hb1.trans (hb2.mono hb1.size)
  clear cL hb2 hb1
  by_cases hgl : greatR l = true
  · rw [hgl]
    go_wp2
    go_ret
    exact ⟨rfl, hbB⟩
  obtain hgl := Bool.eq_false_iff.2 hgl
  rw [hgl]
  have hsum := (fewR hgl).2
  have hLm : ∀ (w : World) (i : Nat) (y : TRow), Below W.heap.size W w → l[i]? = some y → RowsM w y.ao y.l := fun w i y hb hy => by
    obtain ⟨_, _, _, _, _, hrow, _⟩ := (hL.below hb).trow hy
    have hym := List.mem_of_getElem? hy
    exact RowsM.of hrow (hlw.2 y hym) ((fewR hgl).1 y hym)
  clear hri hgl hlw
  have hown := own_made w2 w2.heap.size rfl
  have hbE := belowNew w2 (.cells #[] 9)
  have hS := ((hR.below hbB).below hbE).strs
  have hs3 : w2.heap.size ≤ (w2.alloc (.cells #[] 9)).heap.size := by rw [alloc_size]; omega
  go_wp2_with (at_builtin; refine wpList_append_strs rfl _ _ rfl w2.heap.size _ rfl hown ro rc rich rfl hS hrc (by omega) hs3 ?_)
  intro a1 c1 w4 h4 hn4 hb4
  have hbD := hbB.trans ((hbE.trans hb4).mono hbB.size)
  have hz4 : ∀ s ∈ rich, s.size ≤ maxLen := fun s hs => by have := hrz s hs; unfold maxLen; omega
  have cN := exNew_any rich a1 c1 funds w4 h4.at.row hz4 (by omega)
  have hRD := hR.below hbD
  clear hown hbE hS hs3 h4 hn4 hb4 hrz hbB
  go_wp2_with fail
  refine cN.mono ?_
  rintro e w5 ⟨x, A, rfl, h5, hA5, hb5⟩
  have cM := refNew22_any rich ro rc funds w5 (hRD.below hb5) hz4 (by omega)
  clear cN hz4 hrc hRD
  go_wp2_with fail
  refine cM.mono ?_
  rintro e w6 ⟨y, B, rfl, h6, hB6, hb6⟩
  have hD6 : Duo23 PX RSX W w6 x y A B (newF rich funds) rich.length [] 0 (newF rich funds) rich.length [] 0 := Duo23.made (Y := RSX) lies_PX (hbD.trans (hb5.mono hbD.size)) h5 (fun k e => Nat.le_trans hbD.size (hA5 k e)) hb6 h6 hB6
  generalize newF rich funds = s0 at *
  clear cM h5 hA5 hb5 h6 hB6 hb6 hbD
  go_wp2_with fail
  go_loopw [9] (fun v9 wr => ∃ (i : Nat) (A B : Nat → Prop) (s : StF) (r : List Nat), i ≤ l.length ∧ i ≤ 20 ∧ v9 = .int .i64 (i : Int) ∧ r.length = sumR (l.take i) ∧ Duo23 PX RSX W wr x y A B s (rich.length + 2 * sumR (l.take i)) r i s (rich.length + 2 * sumR (l.take i)) [] 0) (fun v _ => l.length - (intOf v).toNat)
  case atStart => exact ⟨0, A, B, s0, [], Nat.zero_le _, by omega, rfl, rfl, hD6⟩
  case round =>
    clear hD6
    obtain ⟨i, A, B, s, r, hi, hi2, rfl, hrl2, hD⟩ := hrel
    by_cases hlt : i < l.length ∧ i < 20
    · obtain ⟨hil, hi20⟩ := hlt
      have g1 : (i : Int) < (l.length : Int) := by omega
      have g2 : (i : Int) < 20 := by omega
      obtain ⟨t, ht⟩ : ∃ t, l[i]? = some t := ⟨_, List.getElem?_eq_getElem hil⟩
      obtain ⟨tl, tao, tcap⟩ := t
      have hst : sumR (l.take (i + 1)) = sumR (l.take i) + tl.length := sumR_step ht
      have hs1 := sumR_le (l := l) (i + 1)
      obtain ⟨b, off, rfl, hbl, -, -, -⟩ := (hL.below hD.bl).trow ht
      have hkp : ∀ w', Below W.heap.size W w' → w'.cell? ⟨b, off + i, none⟩ = some (.slice tao tl.length tcap) := fun w' hb => by
        obtain ⟨b', off', e, _, c, _⟩ := (hL.below hb).trow ht
        simp only [Option.some.injEq, Addr.mk.injEq, and_true] at e
        obtain ⟨rfl, rfl⟩ := e
        exact c
      have hBd : Below W.heap.size W wr.drew := hD.bl.trans (below_drewN (Below.refl _ _) 1)
      have hLt : ∀ w', Below W.heap.size W w' → RowsM w' tao tl := fun w' hb => hLm w' i ⟨tl, tao, tcap⟩ hb ht
      have hft : ∀ b, rowFoot txK tao tl b → b < W.heap.size := fun b hb => (hLt W (Below.refl _ _)).row.lt hb
      have cO := ownM_any tl tao tcap wr.drew (hLt _ hBd)
      have hN0 : rich.length + 2 * sumR (l.take i) + 2 * tl.length = rich.length + 2 * sumR (l.take (i + 1)) := by omega
      have hN1 : rich.length + 2 * sumR (l.take (i + 1)) ≤ 1000 := by omega
      have hr1 : r.length + tl.length = sumR (l.take (i + 1)) := by omega
      have hr2 : sumR (l.take (i + 1)) ≤ 200 := by omega
      generalize rich.length + 2 * sumR (l.take i) = N at *
      obtain ⟨N1, hNe⟩ : ∃ q, Hid (rich.length + 2 * sumR (l.take (i + 1)) = q) := ⟨_, rfl⟩
      obtain ⟨M1, hMe⟩ : ∃ q, Hid (sumR (l.take (i + 1)) = q) := ⟨_, rfl⟩
      rw [hNe.out] at hN0 hN1
      rw [hMe.out] at hr1 hr2
      generalize sumR (l.take i) = M at *
      obtain ⟨D, hDD⟩ : ∃ D, Hid (tl.map TxM.d = D) := ⟨_, rfl⟩
      have hDl : Hid (D.length = tl.length) := by unfold Hid; rw [← hDD.out, List.length_map]
      have hD5 : D.length ≤ 1000 := by rw [hDl.out]; omega
      have hNr : N + 2 * tl.length ≤ 100000 := by omega
      replace hN0 : Hid (N + 2 * D.length = N1) := by unfold Hid; rw [hDl.out]; exact hN0
      have hrr : r.length ≤ 100000 := by omega
      have hii : i ≤ 100000 := by omega
      have hER : Hid (r.length + (execR s D).length = M1) := by unfold Hid; rw [execR_length, hDl.out]; exact hr1
      clear hr1
      have hOw := ownM_any tl tao tcap wr (hLt _ hD.bl)
      have hc0 := hkp _ hD.bl
      clear hst hs1 hbl cO hBd
      go_wp2_with fail
      refine hOw.mono ?_
      rintro e wa ⟨ao, cap, m, rfl, hm, hmf, hmd, hba⟩
      obtain ⟨hrm, hml, hmg⟩ := own_rows (hLt _ hD.bl) hm hmf hmd
      have hDa := hD.below lies_PX lies_RSX hba
      have cX := exRun_any m ao cap wa hrm x A s N r i hDa.a (fun b h1 h2 => by have := hmg b h1; have := lies_PX.lt hD.a b h2; omega) (by rw [hml]; exact hNr) hrr hii
      rw [hmd, hDD.out, hml] at cX
      replace hml : Hid _ := hml
      rw [hml.out]
      clear hOw hm hmf hmd hba hrm hD hmg hc0
      go_wp2_with fail
      refine cX.mono ?_
      rintro e wb ⟨ga, gc, A2, rfl, hQ1, hX1, hf1, hap1, hk1⟩
      have hBa : ∀ k, B k → k < wa.heap.size := lies_RSX.lt hDa.b
      have hDb := hDa.step lies_PX lies_RSX hX1 hf1 hk1
      have hI0 : Same23 W wb wb x y A2 B (execS s D) (N + 2 * D.length) (r ++ execR s D) (i + 1) (execS s (D.take 0)) (N + 2 * 0) (.slice ga D.length gc) (execR s D) (.slice none 0 0) (execR s (D.take 0)) :=
        ⟨hDb, hQ1.rebase (Nat.zero_le _), KQ.empty _ _ _ _, fun k e => ⟨(hQ1.lt k e).2, fun e2 => by have := (hQ1.lt k e).1; have := hBa k e2; omega⟩, lies_PX.lt hDb.a, fun k e => by simp [Value.ownBlock] at e, hDb.bl.size, Nat.le_refl _⟩
      rw [hN0.out] at hI0
      obtain ⟨sD, hsD⟩ : ∃ q, Hid (execS s D = q) := ⟨_, rfl⟩
      obtain ⟨rD, hrD⟩ : ∃ q, Hid (execR s D = q) := ⟨_, rfl⟩
      obtain ⟨r2, hrr2⟩ : ∃ q, Hid (r ++ execR s D = q) := ⟨_, rfl⟩
      have hr2l : Hid (r2.length = M1) := by unfold Hid; rw [← hrr2.out, List.length_append]; exact hER.out
      have hrDl : Hid (rD.length = D.length) := by unfold Hid; rw [← hrD.out, execR_length]
      rw [hrr2.out, hsD.out, hrD.out] at hI0
      obtain ⟨i0, z0, hi0, hz0, hs0, hbb0, hzs0⟩ := intInfoA
      clear cX hQ1 hX1 hf1 hap1 hk1 hDa hDb hBa hER hrr2
      go_wp2_with fail
      go_loopw [11, 12] (fun v11 v12 wq => ∃ (k n : Nat) (qa : Option Addr) (qc : Nat) (B' : Nat → Prop), k ≤ tl.length ∧ v11 = .slice qa n qc ∧ v12 = .int .i64 (k : Int) ∧ Same23 W wb wq x y A2 B' sD N1 r2 (i + 1) (execS s (D.take k)) (N + 2 * k) (.slice ga D.length gc) rD (.slice qa n qc) (execR s (D.take k))) (fun _ v _ => tl.length - (intOf v).toNat)
      case atStart => exact ⟨0, 0, none, 0, B, Nat.zero_le _, rfl, rfl, hI0⟩
      case round =>
        clear hI0
        obtain ⟨k, n, qa, qc, B', hk, rfl, rfl, hI⟩ := hrel
        have hc1 := hkp _ hI.duo.bl
        by_cases hkl : k < tl.length
        · have g3 : (k : Int) < (tl.length : Int) := by omega
          obtain ⟨tx, htx⟩ : ∃ u, tl[k]? = some u := ⟨_, List.getElem?_eq_getElem hkl⟩
          have hd : D[k]? = some tx.d := by rw [← hDD.out, List.getElem?_map, htx]; rfl
          obtain ⟨e1, e2⟩ := exec_next hd s
          have hRt := hLt _ hI.duo.bl
          obtain ⟨hxs, hxr⟩ := hRt.fit tx (List.mem_of_getElem? htx)
          obtain ⟨bl, ol, rfl, hbl2, t0, t1, t2, t3, t4, t5, t6, t7, t8, hA⟩ := hRt.row.tx22 htx
          have cA := rsApply_any tx hA hxs hxr.2 hI.duo.b (by omega)
          have hRl : (execR s (D.take k)).length ≤ 1000 := by rw [execR_length, List.length_take]; omega
          have hnx : Hid (execR s (D.take (k + 1)) = execR s (D.take k) ++ [applyE (execS s (D.take k)) tx.d] ∧ execS s (D.take (k + 1)) = applyF (execS s (D.take k)) tx.d) := ⟨e1, e2⟩
          clear e1 e2 hd
          generalize execR s (D.take k) = Rk at *
          generalize execS s (D.take k) = Sk at *
          unfold TxM.v txV at cA
          have hpl1 : Rk.length + [applyE Sk tx.d].length ≤ maxLen := by unfold maxLen; simp; omega
          have hpl2 : (Rk.length + [applyE Sk tx.d].length) * 8 ≤ 140737488355328 := by simp; omega
          clear hA
          go_wp2_with fail
          refine cA.mono ?_
          rintro e w7 ⟨rfl, B2, hr7, hf7, hk7⟩
          have hI7 := hI.apply hr7 hf7 hk7
          have hI8 := hI7.below (belowNew w7 (.cells #[.int .i64 ((applyE Sk tx.d : Nat) : Int)] 3))
          have hrow : RowAt natK (w7.alloc (.cells #[.int .i64 ((applyE Sk tx.d : Nat) : Int)] 3)) (some ⟨w7.heap.size, 0, none⟩) [applyE Sk tx.d] := (natLit w7 [applyE Sk tx.d] 1 rfl (by decide)).rowOf.1
          clear cA hI hr7 hf7 hk7 hI7 t0 t1 t2 t3 t4 t5 t6 t7 t8 hc1
          generalize applyE Sk tx.d = v at *
          go_wp2_with (at_builtin; refine wpList_joins (K := natK) rfl _ _ 32 rfl wb.heap.size 3 i0 _ 8 Tryz.underlying32 hi0 hz0 hs0 hbb0 hzs0 _ Rk [v] rfl hI8.want (fun _ _ h => h.elim) (some ⟨w7.heap.size, 0, none⟩) 1 rfl hrow hpl1 hpl2 hI8.ul ?_)
          intro ao3 cap3 w8 hQ8 hk8 hf8
          have hI9 := hI8.push hQ8 hk8 hf8
          clear hI8 hrow hQ8 hk8 hf8
          go_wp2
          go_roundw
          case rel => exact ⟨k + 1, _, ao3, cap3, B2, by omega, rfl, by go_num, by
            have e9 : N + 2 * (k + 1) = N + 2 * k + 2 := by omega
            rw [hnx.out.1, hnx.out.2, e9]
            exact hI9⟩
          case measure => simp [intOf]; omega
        · have g3 : ¬ (k : Int) < (tl.length : Int) := by omega
          have hkr : k = D.length := by rw [hDl.out]; omega
          rw [hkr, List.take_length, hsD.out, hrD.out, hN0.out] at hI
          clear hkr hkl hk
          have cS := exState_any wr x A2 sD N1 r2 (i + 1) hI.duo.a
          have hnr : n ≤ 1000 := by
            have h1 := hI.want.rowOf.2
            have h2 := hrDl.out
            omega
          have hNN : N1 ≤ 100000 := by omega
          clear hsD hrD hrDl hDD hDl hN0 hNr hrr hii hkp hLt hft hi0 hz0 hs0 hbb0 hzs0
          go_wp2_with fail
          refine cS.mono ?_
          rintro e wf ⟨p0, T, rfl, h7, hT7, hbf⟩
          have hIg := hI.below hbf
          have cI := ints23_any wf _ _ ga qa gc qc _ _ _ _ hIg.got hIg.want hD5 hnr
          rw [decide_eq_true rfl] at cI
          have hGf : Mx.Glob wf := hG.below hIg.duo.bl
          clear cS hI hbf hT7
          go_wp2_with (first
            | (go_at_call 10; refine cI.mono ?_; rintro e wg ⟨rfl, hbg⟩; have cD := digest22_any wg p0 T sD N1 (h7.below hbg) hNN (hGf.below hbg))
            | (go_at_call 16; refine cD.mono ?_; rintro e wh ⟨t1, hd1, rfl, hbh⟩; have hB2 : Below wf.heap.size wf wh := hbg.trans (hbh.mono hbg.size); have hIh := hIg.below hB2; have cE := rsDigest_any hIh.duo.b hNN)
            | (go_at_call 17; refine cE.mono ?_; rintro e wi ⟨t2, hd2, rfl, hbi⟩; obtain rfl := hd1.uniq hd2; have hIi := hIh.below hbi))
          have hDZ := hIi.duo
          clear cI cD cE hbg hbh hB2 hIh hbi hIi hIg hd1 hd2 h7
          go_roundw
          case rel => exact ⟨i + 1, A2, B', sD, r2, by omega, by omega, by go_num, by rw [hMe.out]; exact hr2l.out, by rw [hNe.out]; exact hDZ⟩
          case measure => simp [intOf]; omega
    · have hg : ¬ (i : Int) < (l.length : Int) ∨ ((i : Int) < (l.length : Int) ∧ ¬ (i : Int) < 20) := by omega
      have hbZ := hD.bl
      clear hlt hi hi2 hrl2 hLm hD
      rcases hg with g1 | ⟨g1, g2⟩
      all_goals
        go_wp2
        go_ret
        exact ⟨rfl, hbZ⟩
end Go.Proofs.YtajpfkenhchafaaGreatDoor

/- ExecSame: for every input the statement answers true, and each argument reads afterwards as it read before. Condition: the two tables of package mix read as the program's text lays them; and what the arguments hold is together of bulk at most 1048576. -/
namespace Go.Proofs.YtajpfkenhchafaaGreatDoor
open Go.ChangeShapes Go.WideShapes Go.ChangeAt Go.RowKit
open Go.ChangeMaps (open_string shut_string)
set_option linter.unusedVariables false

set_option maxRecDepth 100000 in
theorem execSame_reads (os : Os) {H : Type} (enc : TypeId × Value → H) : ∃ places, DataW.whole enc Tryz.prog ((World.doorLaid Tryz.prog 400 os).forCall (fun _ _ => 0) ⟨#[], #[.slice none 0 0, .int .u64 0, .slice none 0 0], []⟩).memory Tryz.f5.params.toList Rows.execSameSpec.vars false (#[.slice none 0 0, .int .u64 0, .slice none 0 0] : Array Value).toList 8 = some ([.nil, .lit (.int .u64 0), .nil], [], places) :=
  ⟨[], by kernel_rfl⟩

set_option maxRecDepth 100000 in
theorem execSame_lifted (os : Os) (started : os.Started) (H : Type) (enc : TypeId × Value → H) (F : Stop.Interp) :
    ReturnsInHanded {} Tryz.checked os 5 .any ((Rows.OpenSpec.upto Rows.execSameSpec).preRow enc Tryz.prog Tryz.f5 Rows.execSameUptoRow.domain false Rows.execSameUptoRow.laid) (((Rows.OpenSpec.upto Rows.execSameSpec).at F).post enc Tryz.prog Tryz.f5 false true false false) := by
  obtain ⟨places, hx⟩ := execSame_reads os enc
  refine returnsInHanded_of_row (C := Tryz.checked) (s := Rows.OpenSpec.upto Rows.execSameSpec) ownKnob_none started (by kernel_rfl) Tryz.func5
    ⟨World.doorLaid Tryz.prog 400 os, fun _ _ => 0, ⟨#[], #[.slice none 0 0, .int .u64 0, .slice none 0 0], []⟩, rfl, World.shaped_of_RefB (by kernel_rfl) (by kernel_rfl), rfl, (Input.okWide_of_okWideB (by kernel_rfl)).2,
      OpenSpec.preRow_of_cond 8 hx (by kernel_rfl) (fun k hk => by cases hk; kernel_rfl) (by kernel_rfl) (Mx.door_met os _), by
      simp only [Assume.holds]
      exact ⟨by simp, by simp, fun _ => Modest.zero, by simp, by simp⟩⟩ ?_
  intro W base args ds gs before hval0 hW hcnd hcond hsz0 hL _ _
  have hk : Rows.uptoSmall H (ds ++ gs) = true := hcond _ rfl
  have hval : ∀ (j : Nat) t v, Tryz.f5.params[j]? = some t → args[j]? = some v → Value.okWide Tryz.prog W .any base t v := hval0
  have hsz : (DataW.weightsEach Tryz.prog (Tryz.f5.params.toList ++ Rows.execSameSpec.plain.varTypes Tryz.prog) (ds ++ gs)).all (· ≤ reachBytes) = true := hsz0
  have hW' := hW
  obtain ⟨p, q, hA0, hV, rfl, hfz, hnd⟩ := hW
  have hA : DataW.TrodAll enc Tryz.prog W 0 (fun _ => true) true Tryz.f5.params.toList args.toList ds p := hA0
  rw [Tryz.params5] at hA hval hsz
  obtain ⟨v0, vs0, d0, ds0, p0, q0, hargs, rfl, rfl, h0, r0⟩ := trodAll_cons hA
  obtain ⟨v1, vs1, d1, ds1, p1, q1, rfl, rfl, rfl, h1, r1⟩ := trodAll_cons r0
  obtain ⟨v2, vs2, d2, ds2, p2, q2, rfl, rfl, rfl, h2, r2⟩ := trodAll_cons r1
  obtain ⟨rfl, rfl, rfl⟩ := trodAll_nil r2
  obtain rfl : args = #[v0, v1, v2] := by cases args; simp_all
  obtain ⟨rfl, rfl⟩ := trodVars_none hV
  have k0 := h0
  have lt0 : ∀ x ∈ p0, x.block < W.heap.size := by obtain ⟨m, hm⟩ := k0; exact DataW.trod_lt m _ _ _ hm
  obtain ⟨a0, len0, cap0, rfl⟩ := okWide_slice Tryz.underlying22 (hval 0 22 v0 rfl rfl)
  obtain ⟨ss0, sl0, st0, sm0, sd0⟩ := strs_open h0
  subst sl0
  have bk0 := strs_few (upto_strs sd0 hk (by simp))
  have k1 := h1
  have lt1 : ∀ x ∈ p1, x.block < W.heap.size := by obtain ⟨m, hm⟩ := k1; exact DataW.trod_lt m _ _ _ hm
  obtain ⟨b1, rfl, hd1, hp1, w1⟩ := open_int Tryz.underlying23 (hval 1 23 v1 rfl rfl) h1
  obtain ⟨a1, rfl⟩ := nat_of_u64 w1
  have k2 := h2
  have lt2 : ∀ x ∈ p2, x.block < W.heap.size := by obtain ⟨m, hm⟩ := k2; exact DataW.trod_lt m _ _ _ hm
  obtain ⟨a2, len2, cap2, rfl⟩ := okWide_slice Tryz.underlying24 (hval 2 24 v2 rfl rfl)
  obtain ⟨l2, rfl, st2, sm2, sd2⟩ := open_batches23 h2
  have sz2 := batches23_sized hsz (j := 2) rfl rfl sd2
  clear hA0 hval0 hsz0
  refine (execSame_walk a0 cap0 ss0 a1 a2 cap2 l2 W st0.row (strs_cap k0) bk0.1 bk0.2 st2 sz2 (Mx.of_laid hL)).mono fun e W' ⟨he, bel⟩ => ?_
  subst he
  exact ⟨_, rfl, _, _, _, [], _, [], hW', trodAll_mk1 (shut_bool Tryz.underlying4 _), (trodAll_cons_mk (Below.trod laidOut_true (by kernel_rfl) (of_decide_eq_true (by kernel_rfl)) k0 bel lt0) (trodAll_cons_mk (Below.trod laidOut_true (by kernel_rfl) (of_decide_eq_true (by kernel_rfl)) k1 bel lt1) (trodAll_cons_mk (Below.trod laidOut_true (by kernel_rfl) (of_decide_eq_true (by kernel_rfl)) k2 bel lt2) trodAll_mk0))), rfl, bel.frame _, fun h => by cases h⟩

theorem execSameUpto_holds : Rows.ExecSameUptoSaid :=
  OpenClaim.holds_of_cond 5 Tryz.f5 rfl rfl rfl rfl rfl rfl rfl ⟨rfl, rfl, rfl, rfl, rfl⟩ rfl rfl rfl rfl rfl (by kernel_rfl) Tryz.func5 (by kernel_rfl)
    (of_decide_eq_true (by kernel_rfl)) (by unfold Func.isWrapper; rw [if_neg (of_decide_eq_false (by kernel_rfl))]; exact ⟨rfl, rfl⟩)
    (fun os started H enc _ F => by rw [OpenClaim.pre_eq_preRow]; exact execSame_lifted os started H enc F)

theorem execSameUpto_card : Rows.ExecSameUptoCardSaid :=
  Claim7.holds_tied_plain_at .later [] [.data, .data] true (true, "183b17922d51dcf39495ff3feb06d9605b7bfc4995c33174130b2f78865611d7") true
    execSameUpto_holds (fun _ h => by cases h) (by kernel_rfl) (fun _ h => by cases h) execSameUpto_row_tie rfl ⟨rfl, rfl⟩ (by kernel_rfl) rfl
    (fun f fn hf hfn => by
      obtain rfl : f = 5 := Option.some.inj ((show Tryz.prog.funcNamed "tusk/tusklaw23.ExecSame" = some 5 by kernel_rfl).symm.trans hf) |>.symm
      obtain rfl : fn = Tryz.f5 := (Option.some.inj (Tryz.func5.symm.trans hfn)).symm
      exact ⟨by kernel_rfl, fun j t ht => by
        rw [Tryz.params5] at ht
        have hall : ∀ t ∈ (#[22, 23, 24] : Array TypeId).toList, Tryz.prog.wantsStandIn t = false := by
          show ∀ t ∈ ([22, 23, 24] : List TypeId), Tryz.prog.wantsStandIn t = false
          refine List.forall_mem_cons.2 ⟨by kernel_rfl, ?_⟩
          refine List.forall_mem_cons.2 ⟨by kernel_rfl, ?_⟩
          refine List.forall_mem_cons.2 ⟨by kernel_rfl, ?_⟩
          exact fun _ h => by cases h
        exact hall t (Array.mem_toList_iff.2 (Array.mem_of_getElem? ht))⟩)
    (by kernel_rfl)
end Go.Proofs.YtajpfkenhchafaaGreatDoor
