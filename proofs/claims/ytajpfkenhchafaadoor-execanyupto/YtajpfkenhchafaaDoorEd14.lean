/- Texts as one: RefWavPlan, WavWords, WavClash, WavChkMath, WavCheck. -/
import Derived.Test.YtajpfkenhchafaaDoorEd13
import Derived.Deep.RegionHeld3
import Derived.Test.YtajpfkenhchafaaDoorEd09
import Derived.Test.YtajpfkenhchafaaDoorEd08
import Derived.Test.YtajpfkenhchafaaDoorEd02
/- What tuskref21.Plan does. -/
namespace Go.Proofs.YtajpfkenhchafaaDoor
open Go Go.RowKit
set_option linter.unusedVariables false

theorem roomN_len (l : List RwD) (i : Nat) : wv l i < (roomN l i).length := (List.getElem?_eq_some_iff.1 (roomN_get l i)).1

theorem roomN_of (l : List RwD) (i : Nat) (h : wv l i < (planN l i).length) : roomN l i = planN l i := by
  unfold roomN
  rw [planN_length] at h
  exact if_neg (by omega)

theorem roomN_grow (l : List RwD) (i : Nat) (h : (planN l i).length ≤ wv l i) : roomN l i = planN l i ++ [[]] := by
  unfold roomN
  rw [planN_length] at h
  have := wv_le_nw l i
  exact if_pos (by omega)

theorem PlanQ.putsN {w w' : World} {B k g off : Nat} {n cap m : Nat} {p : List IRow} {L : List Int} {xa ya : Option Addr} {xc yc : Nat} {M : List Int} (h : PlanQ w B (.slice (some ⟨g, off, none⟩) n cap) p) (hx : p[k]? = some ⟨L, xa, xc⟩) (hm : m = M.length)
    (hy : KQ intK 3 w' B (.slice ya m yc) M) (hk : Kept (fun k => (Value.slice xa L.length xc).ownBlock = some k) w w') (hf : Fresh w (.slice xa L.length xc) (.slice ya m yc)) :
    w'.cell? ⟨g, off + k, none⟩ = some (.slice xa L.length xc) ∧ w'.frozen? ⟨g, off + k, none⟩ = false ∧ PlanQ (w'.setCell ⟨g, off + k, none⟩ (.slice ya m yc)) B (.slice (some ⟨g, off, none⟩) n cap) (p.set k ⟨M, ya, yc⟩) ∧ ∀ A, A ≤ B → B ≤ w.heap.size → Below A w (w'.setCell ⟨g, off + k, none⟩ (.slice ya m yc)) := by
  subst hm
  exact h.puts hx hy hk hf

def lenP : Value → Nat
  | .slice _ n _ => n
  | _ => 0

theorem new_intD (w : World) (v : Int) : ∀ j u, (intK.c v)[j]? = some u → (w.alloc (.cells #[.int .i64 v] 3)).drew.cell? ((⟨w.heap.size, 0, none⟩ : Addr).add j) = some u := by
  intro j u hu
  rw [Go.WideShapes.add_plain, Nat.zero_add]
  exact (Arr.new w 3 [.int .i64 v]).drew.cell hu

set_option maxRecDepth 100000 in
set_option maxHeartbeats 2000000 in
theorem refPlan_any (l : List TxA) (ao : Option Addr) (cp : Nat) (w : World) (hl : RowAt txA w ao l) (hf : Few l) :
    Calls Tryd.prog 9 #[.slice ao l.length cp] w fun e w' => GotPlan w (rwL l) e w' := by
  have hl1 := hf.1
  have hlen := rwL_length l
  have cO := refOf_any l ao cp w hl hf
  obtain ⟨i0, z0, hi0, hz0, hs0, hbb0, hzs0⟩ := intsInfo
  obtain ⟨i1, z1, hi1, hz1, hs1, hbb1, hzs1⟩ := intInfoA
  go_enter Tryd.func9, Tryd.ntmps9
  go_wp2_with (go_at_call 22; refine cO.mono ?_; rintro _ w1 ⟨ra, rc, rfl, hq, hb1⟩; rw [hlen] at hq ⊢)
  have hP0 := PlanQ.empty w1 w1.heap.size
  go_loopw [5, 4] (fun v5 v4 wr => ∃ (i : Nat) (qa : Option Addr) (qc : Nat) (p : List IRow), i ≤ l.length ∧ v5 = .int .i64 (i : Int) ∧ v4 = .slice qa p.length qc ∧ PlanQ wr w1.heap.size (.slice qa p.length qc) p ∧ Hid (lsP p = planI (planN (rwL l) i)) ∧ Below w1.heap.size w1 wr) (fun v _ _ => l.length - (intOf v).toNat)
  case atStart => exact ⟨0, none, 0, [], Nat.zero_le _, rfl, rfl, hP0, rfl, Below.refl _ _⟩
  case round =>
    obtain ⟨i, qa, qc, p, hi, rfl, rfl, hP, hls, hb⟩ := hrel
    clear hP0 cO
    by_cases hil : i < l.length
    · have g1 : (i : Int) < (l.length : Int) := by omega
      have hgi : (wvN (rwL l) l.length)[i]? = some (wv (rwL l) i) := wvN_get _ hil
      obtain ⟨g, og, rfl, hgB, hgw, -, -⟩ := hq.spot (by rw [wvN_length]; omega)
      have hcg : Hid (∀ w2, Below w1.heap.size w1 w2 → w2.cell? ⟨g, og + i, none⟩ = some (.int .i64 (wv (rwL l) i : Nat))) := fun w2 h => ((hq.below h).natSet hgi).1
      have hnw := nwN_le (rwL l) i
      have hle := wv_le_nw (rwL l) i
      have hlp : Hid (lsP p = planI (planN (rwL l) i) → p.length = nwN (rwL l) i) := fun h => by rw [lsP_len h, planN_length]
      have hgrow : Hid (∀ p1 : List IRow, lsP p1 = planI (planN (rwL l) i) ∨ lsP p1 = planI (roomN (rwL l) i) → p1.length ≤ wv (rwL l) i → lsP (p1 ++ [⟨[], none, 0⟩]) = planI (roomN (rwL l) i)) := by
        intro p1 h1 h2
        rcases h1 with h1 | h1
        · rw [roomN_grow (rwL l) i (by rw [← lsP_len h1]; exact h2)]
          exact lsP_grow h1
        · have := roomN_len (rwL l) i
          rw [← lsP_len h1] at this
          omega
      have hdone : Hid (∀ p1 : List IRow, lsP p1 = planI (planN (rwL l) i) ∨ lsP p1 = planI (roomN (rwL l) i) → ¬ p1.length ≤ wv (rwL l) i → lsP p1 = planI (roomN (rwL l) i)) := by
        intro p1 h1 h2
        rcases h1 with h1 | h1
        · rw [roomN_of (rwL l) i (by rw [← lsP_len h1]; omega)]
          exact h1
        · exact h1
      have hroom : Hid (∀ p1 : List IRow, lsP p1 = planI (roomN (rwL l) i) → ∃ x, p1[wv (rwL l) i]? = some x ∧ x.l = rowI (waveL (rwL l) i (wv (rwL l) i)) ∧ ∀ y : IRow, y.l = x.l ++ [(i : Int)] → lsP (p1.set (wv (rwL l) i) y) = planI (planN (rwL l) (i + 1))) := by
        intro p1 h1
        obtain ⟨x, q1, q2⟩ := lsP_row h1 (roomN_get (rwL l) i)
        refine ⟨x, q1, q2, fun y hy => ?_⟩
        rw [← roomN_set]
        exact lsP_set h1 (by rw [hy, q2, rowI_snoc])
      have hrl : Hid ((rowI (waveL (rwL l) i (wv (rwL l) i))).length ≤ i) := by unfold rowI Hid; rw [List.length_map]; exact waveL_length _ _ _
      have hwi : wv (rwL l) i ≤ i := wv_le _ _
      generalize rowI (waveL (rwL l) i (wv (rwL l) i)) = R at *
      generalize hv : wv (rwL l) i = v at *
      replace hv : Hid _ := hv
      have hls2 : Hid (lsP p = planI (planN (rwL l) i) ∨ lsP p = planI (roomN (rwL l) i)) := Or.inl hls.out
      clear hgi hls hlp hnw hle
      go_wp2_with fail
      go_loopw [4] (fun v4 wr => ∃ (qa : Option Addr) (qc : Nat) (p : List IRow), v4 = .slice qa p.length qc ∧ PlanQ wr w1.heap.size (.slice qa p.length qc) p ∧ Hid (lsP p = planI (planN (rwL l) i) ∨ lsP p = planI (roomN (rwL l) i)) ∧ Below w1.heap.size w1 wr) (fun v4 _ => v + 1 - lenP v4)
      case atStart => exact ⟨qa, qc, p, rfl, hP, hls2, hb⟩
      case round =>
        obtain ⟨qa, qc, p, rfl, hP, hls, hb⟩ := hrel
        clear hls2
        have cg := hcg.out wr hb
        have e1 : (p ++ [(⟨[], none, 0⟩ : IRow)]).length = p.length + 1 := by rw [List.length_append]; rfl
        have hBw : w1.heap.size ≤ wr.heap.size := hb.size
        by_cases hpv : p.length ≤ v
        · have g2 : (p.length : Int) ≤ (v : Int) := by omega
          have hls3 : Hid (lsP (p ++ [⟨[], none, 0⟩]) = planI (planN (rwL l) i) ∨ lsP (p ++ [⟨[], none, 0⟩]) = planI (roomN (rwL l) i)) := Or.inr (hgrow.out p hls.out hpv)
          have hb4 := belowNew wr (.cells #[.slice none 0 0] 25)
          have hP4 := hP.below hb4
          have hNW := new_slot wr ⟨[], none, 0⟩
          have hB4 : w1.heap.size ≤ (wr.alloc (.cells #[.slice none 0 0] 25)).heap.size := Nat.le_trans hBw hb4.size
          have hb44 : Below w1.heap.size w1 (wr.alloc (.cells #[.slice none 0 0] 25)) := hb.trans (hb4.mono hBw)
          have m1 : p.length + 1 ≤ maxLen := by unfold maxLen; omega
          have m2 : (p.length + 1) * 24 ≤ 140737488355328 := by omega
          clear hls hgrow hdone hroom hb4
          go_wp2_with (at_builtin; refine wpList_pushN (K := slotK) rfl _ _ 29 rfl w1.heap.size 25 i0 _ 24 Tryd.underlying29 hi0 hz0 hs0 hbb0 hzs0 _ p rfl hP4.out ⟨[], none, 0⟩ trivial (fun _ h => h.elim) ⟨wr.heap.size, 0, none⟩ 1 rfl hNW m1 m2 hB4 ?_; intro ao3 cap3 w5 hQ5 hk5 hf5)
          have hP5 := hP4.grow hQ5 hk5 hf5
          have hb5 : Below w1.heap.size w1 w5 := hb44.trans (hk5.below hB4 (fun k e => (hP4.out.lt k e).1))
          clear hP4 hQ5 hk5 hf5 hNW hb44
          go_roundw
          case rel => exact ⟨ao3, cap3, _, by rw [e1], hP5, hls3, hb5⟩
          case measure => simp [lenP]; omega
        · have g2 : ¬ (p.length : Int) ≤ (v : Int) := by omega
          have g3 : (v : Int) < (p.length : Int) := by omega
          obtain ⟨⟨L, xa, xc⟩, hx1, hxl, hy1⟩ := hroom.out _ (hdone.out p hls.out hpv)
          replace hxl : L = R := hxl
          subst hxl
          have hLi := hrl.out
          have hx1' : Hid _ := hx1
          have hy1' : Hid (∀ (a : Option Addr) (c : Nat), lsP (p.set v ⟨L ++ [(i : Int)], a, c⟩) = planI (planN (rwL l) (i + 1))) := fun a c => hy1 ⟨L ++ [(i : Int)], a, c⟩ rfl
          have hb6 : Below wr.heap.size wr (wr.alloc (.cells #[.int .i64 (i : Int)] 3)).drew := (belowNew wr (.cells #[.int .i64 (i : Int)] 3)).trans ((below_drewN (Below.refl (wr.alloc (.cells #[.int .i64 (i : Int)] 3)).heap.size (wr.alloc (.cells #[.int .i64 (i : Int)] 3))) 1).mono (belowNew wr (.cells #[.int .i64 (i : Int)] 3)).size)
          have hP6 := hP.below hb6
          obtain ⟨gq, oq, rfl, hgqB, hgqw, cx, hK6⟩ := hP6.at hx1
          have hNI := new_intD wr (i : Int)
          have hb66 := hb.trans (hb6.mono hBw)
          have hB6 := hb66.size
          have m3 : L.length + 1 ≤ maxLen := by unfold maxLen; omega
          have m4 : (L.length + 1) * 8 ≤ 140737488355328 := by omega
          have hcr : wr.cell? ⟨gq, oq + v, none⟩ = some (.slice xa L.length xc) := by
            obtain ⟨g2, o2, e2, _, _, c2, _⟩ := hP.at hx1
            simp only [Option.some.injEq, Addr.mk.injEq, and_true] at e2
            obtain ⟨rfl, rfl⟩ := e2
            exact c2
          have hgr : gq < wr.heap.size := by
            obtain ⟨g2, o2, e2, _, h2, _, _⟩ := hP.at hx1
            simp only [Option.some.injEq, Addr.mk.injEq, and_true] at e2
            obtain ⟨rfl, rfl⟩ := e2
            exact h2
          have hggr : g < wr.heap.size := by have := (hq.lt g rfl).2; omega
          have hkp : ∀ U, Below wr.heap.size wr U → (U.cell? ⟨g, og + i, none⟩ = some (.int .i64 (v : Int)) ∧ U.cell? ⟨gq, oq + v, none⟩ = some (.slice xa L.length xc)) := fun U hU =>
            ⟨(hU.cell (p := ⟨g, og + i, none⟩) hggr).trans cg, (hU.cell (p := ⟨gq, oq + v, none⟩) hgr).trans hcr⟩
          have uD : Below wr.heap.size wr wr.drew := below_drewN (Below.refl _ _) 1
          have hS0 := hkp _ uD
          have hS6 := hkp _ hb6
          clear hls hgrow hdone hroom hx1 hy1 hrl
          go_wp2_with fail
          have e2 : Hid (L.length + 1 = (L ++ [(i : Int)]).length) := by unfold Hid; rw [List.length_append]; rfl
          have hS8 : ∀ w8, Kept (fun k => (Value.slice xa L.length xc).ownBlock = some k) (wr.alloc (.cells #[.int .i64 (i : Int)] 3)).drew w8 → w8.cell? ⟨g, og + i, none⟩ = some (.int .i64 (v : Int)) := fun w8 hk8 => by
            have hgB2 : g < w1.heap.size := (hq.lt g rfl).2
            have hinl := hK6
            refine (hk8.cell (p := ⟨g, og + i, none⟩) (Nat.lt_of_lt_of_le hggr hb6.size) (fun e => ?_)).trans hS6.1
            have := (hinl.lt g e).1
            omega
          go_region_law (first
            | (refine step_pushF (K := intK) _ (by rfl) _ _ 25 (by rfl) w1.heap.size 3 i1 _ 8 Tryd.underlying25 hi1 hz1 hs1 hbb1 hzs1 _ L (by rfl) hK6 (i : Int) trivial (fun _ h => h.elim) ⟨wr.heap.size, 0, none⟩ 1 (by rfl) hNI m3 m4 hB6 ?_
               intro ao8 cap8 w8 hQ8 hk8 hf8
               obtain ⟨c8, f8, hP8, hb8⟩ := hP6.putsN hx1'.out e2.out hQ8 hk8 hf8
               have hg8 := hS8 w8 hk8))
          all_goals
            have e3 : (p.set v ⟨L ++ [(i : Int)], ao8, cap8⟩).length = p.length := by rw [List.length_set]
            have h4 := hy1'.out ao8 cap8
            have hb9 := hb66.trans (hb8 _ (Nat.le_refl _) hB6)
            clear hx1' hy1' hNI hK6 c8 f8 hg8 hQ8 hk8 hf8 hP6 cx hcr hb8 hS8 hkp hS0 hS6 cg
            go_wp2
            go_roundw
            case rel => exact ⟨i + 1, _, qc, _, by omega, by go_num, by rw [e3], by rw [e3]; exact hP8, h4, hb9⟩
            case measure => simp [intOf]; omega
    · have g1 : ¬ (i : Int) < (l.length : Int) := by omega
      have hil2 : i = l.length := by omega
      have hfin : GotPlan w (rwL l) (.returned (.slice qa p.length qc)) wr := by
        have h4 := hls.out
        rw [hil2] at h4
        exact ⟨_, p, rfl, hP.rebase hb1.size, by rw [hlen]; exact h4, hb1.trans (hb.mono hb1.size)⟩
      clear hP hil2 hls hlen
      go_wp2
      go_ret
      exact hfin
end Go.Proofs.YtajpfkenhchafaaDoor

/- Words for the walks of layer 21's statements: rows of one row; lengths of plans. -/
namespace Go.Proofs.YtajpfkenhchafaaDoor
open Go Go.RowKit
set_option linter.unusedVariables false

theorem Arr.rowW {α : Type} {K : Kind α} {w : World} {g : Nat} {t : TypeId} {l : List α} {cs : List Value} (h : Arr w g t cs) (hc : cs = flatK K l) (hA : ∀ x ∈ l, K.At w x) : RowAt K w (some ⟨g, 0, none⟩) l := by
  subst hc
  refine ⟨fun i x hx => ⟨g, 0, rfl, h.lt, fun j v hv => ?_⟩, hA⟩
  have hj : j < K.n := by
    rw [← K.len x]
    exact (List.getElem?_eq_some_iff.1 hv).1
  rw [Nat.zero_add]
  exact h.cell (by rw [flatK_get K l i x hx j hj]; exact hv)

/-- A new row of one row. -/
theorem one_row (w : World) (x : IRow) {n : Nat} (hn : n = x.l.length) (hx : irowK.At w x) : RowAt irowK (w.alloc (.cells #[.slice x.ao n x.cap] 25)) (some ⟨w.heap.size, 0, none⟩) [x] := by
  subst hn
  have h : Arr (w.alloc (.cells #[.slice x.ao x.l.length x.cap] 25)) w.heap.size 25 [.slice x.ao x.l.length x.cap] := Arr.new w 25 [.slice x.ao x.l.length x.cap]
  exact Arr.rowW h (by simp [flatK, irowK]) (fun z hz => by
    simp only [List.mem_cons, List.not_mem_nil, or_false] at hz
    subst hz
    exact irowK.below hx (belowNew w _))

theorem rowI_len (q : List Nat) : (rowI q).length = q.length := by unfold rowI; rw [List.length_map]

/-- Of's row as one of a row. -/
theorem KQ.irow {w : World} {B : Nat} {ao : Option Addr} {n cap : Nat} {q : List Nat} (h : KQ natK 3 w B (.slice ao n cap) q) : irowK.At w ⟨rowI q, ao, cap⟩ ∧ n = (rowI q).length := by
  obtain ⟨h1, h2⟩ := h.natInt.rowOf
  exact ⟨⟨h1, fun e => h.natInt.nil n cap (by have e' : ao = none := e; rw [e'])⟩, h2⟩

theorem planI_row {l : List RwD} {p : List IRow} (h : lsP p = planI (planN l l.length)) {x : IRow} (hx : x ∈ p) : x.l.length ≤ l.length := by
  obtain ⟨i, hi⟩ := List.mem_iff_getElem?.1 hx
  have hlt : i < (planN l l.length).length := by rw [← lsP_len h]; exact (List.getElem?_eq_some_iff.1 hi).1
  obtain ⟨y, q1, q2⟩ := lsP_row h (List.getElem?_eq_getElem hlt)
  rw [hi] at q1
  obtain rfl : x = y := by simpa using q1
  rw [q2, rowI_len]
  rw [planN_length] at hlt
  have := planN_get hlt
  rw [List.getElem?_eq_getElem (by rw [planN_length]; exact hlt)] at this
  rw [Option.some.inj this]
  exact waveL_length _ _ _

theorem plan_fit {l : List RwD} {p : List IRow} (h : lsP p = planI (planN l l.length)) (hl : l.length ≤ 1000) : RowsFit p ∧ RowsLen p := by
  have h1 : p.length ≤ 1000 := by
    rw [lsP_len h, planN_length]
    have := nwN_le l l.length
    omega
  have h2 : ∀ x ∈ p, x.l.length ≤ 1000 := fun x hx => by have := planI_row h hx; omega
  exact ⟨⟨h1, fun x hx => by have := h2 x hx; omega⟩, by omega, fun x hx => by have := h2 x hx; omega⟩

theorem one_len {x : IRow} (h : x.l.length ≤ 1000) : RowsLen [x] := ⟨by simp, fun y hy => by
  simp only [List.mem_cons, List.not_mem_nil, or_false] at hy
  subst hy
  omega⟩

/-- Same of two rows of numbers, each as the one of a row. -/
theorem same_rows (w : World) (B B' : Nat) (a1 a2 : Option Addr) (c1 c2 n1 n2 : Nat) (q1 q2 : List Nat) (h1 : KQ natK 3 w B (.slice a1 n1 c1) q1) (h2 : KQ natK 3 w B' (.slice a2 n2 c2) q2) (hn1 : n1 ≤ 1000) (hn2 : n2 ≤ 1000) :
    Calls Tryd.prog 29 #[.slice (some ⟨w.heap.size, 0, none⟩) 1 1, .slice (some ⟨w.heap.size + 1, 0, none⟩) 1 1] ((w.alloc (.cells #[.slice a1 n1 c1] 25)).alloc (.cells #[.slice a2 n2 c2] 25)) fun e w' => e = .returned (.bool (decide (q1 = q2))) ∧ Below w.heap.size w w' := by
  obtain ⟨hA1, e1⟩ := h1.irow
  obtain ⟨hA2, e2⟩ := h2.irow
  have hR1 := one_row w _ e1 hA1
  have hbn1 := belowNew w (.cells #[.slice a1 n1 c1] 25)
  have hR2 := one_row (w.alloc (.cells #[.slice a1 n1 c1] 25)) _ e2 (irowK.below hA2 hbn1)
  have hbn2 := belowNew (w.alloc (.cells #[.slice a1 n1 c1] 25)) (.cells #[.slice a2 n2 c2] 25)
  have hb := hbn1.trans (hbn2.mono hbn1.size)
  have cS := refSame21_any _ _ _ _ 1 1 _ (hR1.below hbn2) hR2 (one_len (by rw [← e1]; exact hn1)) (one_len (by rw [← e2]; exact hn2))
  rw [alloc_size] at cS
  refine cS.mono ?_
  rintro e w' ⟨rfl, h⟩
  refine ⟨?_, hb.trans (h.mono hb.size)⟩
  have key : (lsP [(⟨rowI q1, a1, c1⟩ : IRow)] = lsP [(⟨rowI q2, a2, c2⟩ : IRow)]) ↔ q1 = q2 := by
    unfold lsP rowI
    simp only [List.map_cons, List.map_nil, List.cons.injEq, and_true]
    constructor
    · intro h
      exact (List.map_inj_right (fun a b h => Int.ofNat.inj h)).1 h
    · exact fun h => by rw [h]
  rw [decide_eq_decide.2 key]
end Go.Proofs.YtajpfkenhchafaaDoor

/- What waves.clash does. -/
namespace Go.Proofs.YtajpfkenhchafaaDoor
open Go Go.RowKit
set_option linter.unusedVariables false

/-- Is the b-th number of a row in the way of one ahead of it? -/
def hitQ (l : List RwD) (q : List Nat) (b : Nat) : Bool := (List.range b).any (fun a => adjB l (q.getD a 0) (q.getD b 0))

def clashR (l : List RwD) (q : List Nat) : Bool := (List.range q.length).any (hitQ l q)

/-- The first k numbers of a row, each in the wave 0. -/
def putQ (l : List RwD) (q : List Nat) : Nat → InW
  | 0 => []
  | k + 1 => ((l[q.getD k 0]?).getD ⟨[], []⟩, 0) :: putQ l q k

theorem putQ_mem {l : List RwD} {q : List Nat} : ∀ {m : Nat} {p : RwD × Nat}, p ∈ putQ l q m ↔ ∃ k, k < m ∧ p = ((l[q.getD k 0]?).getD ⟨[], []⟩, 0)
  | 0, p => by simp [putQ]
  | m + 1, p => by
    unfold putQ
    rw [List.mem_cons, putQ_mem]
    constructor
    · rintro (rfl | ⟨k, h1, h2⟩)
      · exact ⟨m, by omega, rfl⟩
      · exact ⟨k, by omega, h2⟩
    · rintro ⟨k, h1, h2⟩
      by_cases e : k = m
      · subst e; exact Or.inl h2
      · exact Or.inr ⟨k, by omega, h2⟩

theorem hitQ_iff {l : List RwD} {q : List Nat} {k : Nat} {t : RwD} (hq : ∀ a, a ≤ k → q.getD a 0 < l.length) (ht : l[q.getD k 0]? = some t) : 0 < firstN (turnF (putQ l q k)) t ↔ hitQ l q k = true := by
  have key : ∀ a, a ≤ k → adjB l (q.getD a 0) (q.getD k 0) = clashB ((l[q.getD a 0]?).getD ⟨[], []⟩) t := fun a ha => by
    have := hq a ha
    rw [adjB_some (List.getElem?_eq_getElem this) ht, List.getElem?_eq_getElem this]
    rfl
  have h0 : firstN (turnF (putQ l q k)) t ≤ 0 ↔ hitQ l q k = false := by
    rw [first_eq, fsF_le]
    unfold hitQ
    rw [List.any_eq_false]
    constructor
    · intro h a ha hc
      rw [List.mem_range] at ha
      rw [key a (by omega)] at hc
      have := h _ (putQ_mem.2 ⟨a, ha, rfl⟩) hc
      omega
    · rintro h p hp hc
      obtain ⟨a, ha, rfl⟩ := putQ_mem.1 hp
      exact absurd (by rw [key a (by omega)]; exact hc) (h a (List.mem_range.2 ha))
  cases h : hitQ l q k with
  | false => rw [h] at h0; have := h0.2 rfl; simp; omega
  | true =>
    rw [h] at h0
    have : ¬ firstN (turnF (putQ l q k)) t ≤ 0 := fun e => by cases h0.1 e
    simp
    omega

theorem putQ_next {l : List RwD} {q : List Nat} {i : Nat} {t : RwD} (ht : l[q.getD i 0]? = some t) (h : ¬ 0 < firstN (turnF (putQ l q i)) t) (k : ByteArray) : turnF (putQ l q (i + 1)) k = putG (turnF (putQ l q i)) t 0 k := by
  rw [first_eq] at h
  have := put_eq (L := putQ l q i) (t := t) (v := 0) (by omega) k
  show turnF (((l[q.getD i 0]?).getD ⟨[], []⟩, 0) :: putQ l q i) k = _
  rw [ht]
  exact this

theorem clashR_true {l : List RwD} {q : List Nat} {k : Nat} (hk : k < q.length) (h : hitQ l q k = true) : clashR l q = true := List.any_eq_true.2 ⟨k, List.mem_range.2 hk, h⟩

theorem clashR_false {l : List RwD} {q : List Nat} (h : ∀ k, k < q.length → hitQ l q k = false) : clashR l q = false := by
  unfold clashR
  rw [List.any_eq_false]
  intro k hk
  rw [h k (List.mem_range.1 hk)]
  simp

set_option maxRecDepth 100000 in
set_option maxHeartbeats 2000000 in
theorem clash_any (l : List TxA) (ao : Option Addr) (cp : Nat) (q : List Nat) (ra : Option Addr) (rc : Nat) (w : World) (hl : RowAt txA w ao l) (hf : Few l) (hr : RowAt intK w ra (rowI q)) (hq : ∀ x ∈ q, x < l.length) (hql : q.length ≤ 1000) :
    Calls Tryd.prog 43 #[.slice ao l.length cp, .slice ra q.length rc] w fun e w' => e = .returned (.bool (clashR (rwL l) q)) ∧ Below w.heap.size w w' := by
  have hl1 := hf.1
  have hlen := rwL_length l
  have mk : (Instr.makeMap 90 none).run Tryd.prog w = .ok (.map (some w.heap.size)) (w.alloc (.map #[] 0)) := rfl
  have hT0 := (TurnAt.new w).congr (g' := turnF (putQ (rwL l) q 0)) (fun _ => rfl)
  have hb0 := belowNew w (.map #[] 0)
  have hqd : ∀ a, a < q.length → q.getD a 0 < l.length := fun a ha => by
    rw [List.getD_eq_getElem?_getD, List.getElem?_eq_getElem ha]
    exact hq _ (List.getElem_mem ha)
  generalize hw1 : w.alloc (.map #[] 0) = w1 at *
  obtain ⟨mb, hmb⟩ : ∃ mb, w.heap.size = mb := ⟨_, rfl⟩
  rw [hmb] at hT0 mk
  go_enter Tryd.func43, Tryd.ntmps43
  go_wp2_with fail
  go_loopw [11] (fun v11 wr => ∃ (k : Nat), k ≤ q.length ∧ v11 = .int .i64 (k : Int) ∧ TurnAt wr mb (turnF (putQ (rwL l) q k)) (k * 2000) ∧ Hid (∀ b, b < k → hitQ (rwL l) q b = false) ∧ Below w.heap.size w wr) (fun v _ => q.length - (intOf v).toNat)
  case atStart => exact ⟨0, Nat.zero_le _, rfl, hT0, fun b h => by omega, hb0⟩
  case round =>
    obtain ⟨k, hk, rfl, hT, hno, hb⟩ := hrel
    clear hT0 hb0 mk
    by_cases hkl : k < q.length
    · have g1 : (k : Int) < (q.length : Int) := by omega
      have hzl := hqd k hkl
      have hzq : (rowI q)[k]? = some ((q.getD k 0 : Nat) : Int) := by
        unfold rowI
        rw [List.getElem?_map, List.getD_eq_getElem?_getD, List.getElem?_eq_getElem hkl]
        rfl
      obtain ⟨br, orr, rfl, hbr, cy⟩ := (hr.below hb).int hzq
      obtain ⟨x, hx⟩ : ∃ p, l[q.getD k 0]? = some p := ⟨_, List.getElem?_eq_getElem hzl⟩
      have hfx : ∀ b, txA.foot x b → b < w.heap.size := fun b h => txA.lt (hl.at_ x (List.mem_of_getElem? hx)) h
      have hlx : ∀ b, rowFoot txA ao l b → b < w.heap.size := fun b h => hl.lt h
      obtain ⟨b, off, rfl, hbl, x0, x1, x2, x3, x4, x5, x6, x7, x8, hA⟩ := (hl.below hb).tx hx
      obtain ⟨lr, lw⟩ := hf.2 x (List.mem_of_getElem? hx)
      have cF := first_any x _ hA mb _ _ hT (by omega) (by omega)
      have hhit : Hid (0 < firstN (turnF (putQ (rwL l) q k)) x.rw ↔ hitQ (rwL l) q k = true) := hitQ_iff (fun a ha => by rw [hlen]; exact hqd a (by omega)) (rwL_get hx)
      have hnx : Hid (¬ 0 < firstN (turnF (putQ (rwL l) q k)) x.rw → ∀ key, turnF (putQ (rwL l) q (k + 1)) key = putG (turnF (putQ (rwL l) q k)) x.rw 0 key) := putQ_next (rwL_get hx)
      generalize hz : q.getD k 0 = z at *
      replace hz : Hid _ := hz
      have hmbf : ¬ txA.foot x mb := fun h => by have := hfx mb h; omega
      have hA' := fun (w6 : World) (hb6 : Below wr.heap.size wr w6) => (hl.below hb).below hb6
      have hx' : Hid _ := hx
      generalize firstN (turnF (putQ (rwL l) q k)) x.rw = fs at *
      have gz : (z : Int) < (l.length : Int) := by omega
      clear hx hzq
      by_cases h0 : 0 < fs
      · have g2 : (0 : Int) < (fs : Int) := by omega
        have hR := clashR_true hkl (hhit.out.1 h0)
        clear hnx hhit
        go_wp2_with (go_at_call 44; refine cF.mono ?_; rintro _ w6 ⟨rfl, hb6⟩)
        go_ret
        exact ⟨by rw [hR]; rfl, hb.trans (hb6.mono hb.size)⟩
      · have g2 : ¬ (0 : Int) < (fs : Int) := by omega
        have hnh : Hid (∀ b, b < k + 1 → hitQ (rwL l) q b = false) := fun b hb => by
          by_cases e : b = k
          · subst e
            cases h : hitQ (rwL l) q b with
            | false => rfl
            | true => exact absurd (hhit.out.2 h) h0
          · exact hno.out b (by omega)
        have hnx2 := hnx.out h0
        replace hnx2 : Hid _ := hnx2
        clear hnx hhit hno
        go_wp2_with (first
          | (go_at_call 44; refine cF.mono ?_; rintro _ w6 ⟨rfl, hb6⟩
             obtain ⟨b', off', e', hbl', y0, y1, y2, y3, y4, y5, y6, y7, y8, hA6⟩ := (hA' w6 hb6).tx hx'.out
             simp only [Option.some.injEq, Addr.mk.injEq, and_true] at e'
             obtain ⟨rfl, rfl⟩ := e'
             have hT6 := TurnAt.below hT hb6
             have hbb6 := hb.trans (hb6.mono hb.size)
             have cP := put_any x _ hA6 (fun b h => Nat.lt_of_lt_of_le (hfx b h) hbb6.size) mb hmbf _ _ hT6 (by omega) 0 (by omega) (by omega) (by omega))
          | (go_at_call 45; refine cP.mono ?_; rintro e w9 ⟨rfl, hT9, hk9⟩))
        have hT10 := (TurnAt.congr hT9 hnx2.out).mono (M := (k + 1) * 2000) (by omega)
        have hb9 := hbb6.trans (hk9.below hbb6.size (fun j e => by have e' : j = mb := e; omega))
        clear cP hT9 hk9 hnx2 hT6 cF hT
        go_roundw
        case rel => exact ⟨k + 1, by omega, by go_num, hT10, hnh, hb9⟩
        case measure => simp [intOf]; omega
    · have g1 : ¬ (k : Int) < (q.length : Int) := by omega
      have hR : clashR (rwL l) q = false := clashR_false (fun b hb => hno.out b (by omega))
      clear hno hT
      go_wp2
      go_ret
      exact ⟨by first | rfl | (rw [hR]; rfl), by first | exact hb | (rw [← hmb]; exact hb)⟩
end Go.Proofs.YtajpfkenhchafaaDoor

/- Layer 21's mathematics: that the program's way of checking a plan tells what the chapter says. -/
namespace Go.Proofs.YtajpfkenhchafaaDoor
open Go.RowKit
set_option linter.unusedVariables false

theorem rows_nat {n : Nat} {r : List Int} (h : ∀ x ∈ r, 0 ≤ x ∧ x < n) : r = rowI (r.map Int.toNat) := by
  unfold rowI
  rw [List.map_map]
  conv => lhs; rw [← List.map_id r]
  refine List.map_congr_left (fun x hx => ?_)
  have := (h x hx).1
  show x = ((x.toNat : Nat) : Int)
  omega

theorem lookN_inv {n : Nat} {P : List (List Int)} {m : List Nat} (h : lookN n P = .ok m) : markP n 0 (List.replicate n 0) P = .ok m ∧ m.any (fun x => decide (x = 0)) = false := by
  unfold lookN at h
  cases h2 : markP n 0 (List.replicate n 0) P with
  | error e => rw [h2] at h; cases h
  | ok m' =>
    rw [h2] at h
    by_cases h3 : m'.any (fun x => decide (x = 0)) = true
    · have : (if m'.any (fun x => decide (x = 0)) = true then Except.error 12 else Except.ok m' : Except Nat (List Nat)) = .ok m := h
      rw [if_pos h3] at this; cases this
    · have : (if m'.any (fun x => decide (x = 0)) = true then Except.error 12 else Except.ok m' : Except Nat (List Nat)) = .ok m := h
      rw [if_neg h3] at this
      injection this with this
      subst this
      exact ⟨rfl, by cases e : m'.any (fun x => decide (x = 0)) with | false => rfl | true => exact absurd e h3⟩

theorem Marked.of {n : Nat} {P : List (List Int)} {m : List Nat} (h : lookN n P = .ok m) : Marked n P m := by
  obtain ⟨h1, h2⟩ := lookN_inv h
  have hl : m.length = n := by rw [markP_length h1, List.length_replicate]
  obtain ⟨q1, q2⟩ := markP_inv (by rw [List.length_replicate]) h1
  refine ⟨hl, fun k r hk => ?_, fun y hy => ?_⟩
  · obtain ⟨c1, c2⟩ := q1 k r hk
    exact ⟨fun x hx => by obtain ⟨b1, b2, b3⟩ := c1 x hx; exact ⟨b1, b2, by rw [b3]; omega⟩, c2⟩
  · rcases q2 y with e | ⟨_, k, r, e1, e2, e3⟩
    · rw [getD_zeros] at e
      rw [List.any_eq_false] at h2
      have hy2 : y < m.length := by omega
      have := h2 m[y] (List.getElem_mem hy2)
      rw [List.getD_eq_getElem?_getD, List.getElem?_eq_getElem hy2] at e
      exact absurd (decide_eq_true e) this
    · exact ⟨k, r, e1, e2, by rw [e3]; omega⟩

theorem getD_of {l : List Nat} {a : Nat} (h : a < l.length) : l.getD a 0 = l[a] := by
  rw [List.getD_eq_getElem?_getD, List.getElem?_eq_getElem h]
  rfl

theorem nodup_map_toNat {n : Nat} {r : List Int} (h : ∀ x ∈ r, 0 ≤ x ∧ x < n) (hn : r.Nodup) : (r.map Int.toNat).Nodup := by
  unfold List.Nodup at *
  rw [List.pairwise_map]
  refine hn.imp_of_mem (fun {a b} ha hb hab e => hab ?_)
  have := (h a ha).1
  have := (h b hb).1
  omega

/-- Two of one wave are in each other's way just if some row has such. -/
theorem Marked.clash {l : List RwD} {P : List (List Int)} {m : List Nat} (h : Marked l.length P m) :
    (edgesL l).any (fun e => decide (m.getD e.1 0 = m.getD e.2 0)) = true ↔ ∃ (k : Nat) (r : List Int), P[k]? = some r ∧ clashR l (r.map Int.toNat) = true := by
  rw [List.any_eq_true]
  constructor
  · rintro ⟨⟨i, k⟩, he, hd⟩
    obtain ⟨hik, ha⟩ := edgesL_mem.1 he
    have hd : m.getD i 0 = m.getD k 0 := of_decide_eq_true hd
    obtain ⟨hi, hk⟩ := adjB_lt ha
    obtain ⟨j, r, h1, h2, h3⟩ := h.mem i hi
    obtain ⟨j', r', h1', h2', h3'⟩ := h.mem k hk
    obtain rfl : j = j' := by omega
    obtain rfl : r = r' := by rw [h1] at h1'; simpa using h1'
    have m1 : i ∈ r.map Int.toNat := List.mem_map.2 ⟨_, h2, Int.toNat_natCast i⟩
    have m2 : k ∈ r.map Int.toNat := List.mem_map.2 ⟨_, h2', Int.toNat_natCast k⟩
    obtain ⟨a, ha1, ha2⟩ := List.mem_iff_getElem.1 m1
    obtain ⟨b, hb1, hb2⟩ := List.mem_iff_getElem.1 m2
    refine ⟨j, r, h1, ?_⟩
    have hne : a ≠ b := fun e => by subst e; omega
    rcases Nat.lt_or_gt_of_ne hne with hlt | hlt
    · refine clashR_true hb1 (List.any_eq_true.2 ⟨a, List.mem_range.2 hlt, ?_⟩)
      rw [getD_of ha1, getD_of hb1, ha2, hb2]
      exact ha
    · refine clashR_true ha1 (List.any_eq_true.2 ⟨b, List.mem_range.2 hlt, ?_⟩)
      rw [getD_of ha1, getD_of hb1, ha2, hb2, adjB_comm]
      exact ha
  · rintro ⟨k, r, hk, hc⟩
    obtain ⟨c1, c2⟩ := h.row k r hk
    have hnd := nodup_map_toNat (fun x hx => ⟨(c1 x hx).1, (c1 x hx).2.1⟩) c2
    obtain ⟨b, hb, hh⟩ := List.any_eq_true.1 hc
    rw [List.mem_range] at hb
    obtain ⟨a, ha, hadj⟩ := List.any_eq_true.1 hh
    rw [List.mem_range] at ha
    have ha' : a < (r.map Int.toNat).length := by omega
    rw [getD_of ha', getD_of hb] at hadj
    have hmk : ∀ z ∈ r.map Int.toNat, m.getD z 0 = k + 1 := fun z hz => by
      obtain ⟨x, hx, rfl⟩ := List.mem_map.1 hz
      exact (c1 x hx).2.2
    have e1 := hmk _ (List.getElem_mem ha')
    have e2 := hmk _ (List.getElem_mem hb)
    have hne : (r.map Int.toNat)[a] ≠ (r.map Int.toNat)[b] := fun e => by
      have := (List.getElem_inj hnd).1 e
      omega
    rcases Nat.lt_or_gt_of_ne hne with hlt | hlt
    · exact ⟨(_, _), edgesL_mem.2 ⟨hlt, hadj⟩, decide_eq_true (by show m.getD _ 0 = m.getD _ 0; rw [e1, e2])⟩
    · exact ⟨(_, _), edgesL_mem.2 ⟨hlt, by rw [adjB_comm]; exact hadj⟩, decide_eq_true (by show m.getD _ 0 = m.getD _ 0; rw [e1, e2])⟩

/-- The wave of a member by its mark. -/
def atN (m : List Nat) (i : Nat) : Nat := m.getD i 0 - 1

/-- A member that stands ahead of its first wave. -/
theorem late_iff {l : List RwD} {P : List (List Int)} {m : List Nat} (h : Marked l.length P m) (hc : ∀ i k, i < k → adjB l i k = true → m.getD i 0 ≠ m.getD k 0) {i : Nat} {t : RwD} (ht : l[i]? = some t) :
    atN m i < firstN (turnF (putL l (atN m) i)) t ↔ ∃ k, k < i ∧ adjB l k i = true ∧ m.getD i 0 < m.getD k 0 := by
  have hi : i < l.length := (List.getElem?_eq_some_iff.1 ht).1
  have key := fsF_putL (vs := atN m) (n := atN m i) ht (show i ≤ l.length by omega)
  have hpos : ∀ y, y < l.length → 1 ≤ m.getD y 0 := fun y hy => by
    obtain ⟨k, r, _, _, e⟩ := h.mem y hy
    omega
  rw [first_eq]
  constructor
  · intro hlt
    have hn : ¬ ∀ k, k < i → adjB l k i = true → atN m k + 1 ≤ atN m i := fun e => by
      have := key.2 e
      omega
    apply Classical.byContradiction
    intro hno
    refine hn (fun k hk ha => ?_)
    have h1 := hc k i hk ha
    have h2 : ¬ m.getD i 0 < m.getD k 0 := fun e => hno ⟨k, hk, ha, e⟩
    have h3 := hpos k (by omega)
    unfold atN
    omega
  · rintro ⟨k, hk, ha, hlt⟩
    apply Classical.byContradiction
    intro hno
    have := key.1 (by omega) k hk ha
    have h3 := hpos i hi
    unfold atN at this
    omega

theorem chkN_err {l : List RwD} {P : List (List Int)} {e : Nat} (h : lookN l.length P = .error e) : chkN l P = e := by
  unfold lookN at h
  unfold chkN
  cases h2 : markP l.length 0 (List.replicate l.length 0) P with
  | error e' =>
    rw [h2] at h
    injection h
  | ok m' =>
    rw [h2] at h
    have h : (if m'.any (fun x => decide (x = 0)) = true then Except.error 12 else Except.ok m' : Except Nat (List Nat)) = .error e := h
    show chkM l m' = e
    unfold chkM
    by_cases h3 : m'.any (fun x => decide (x = 0)) = true
    · rw [if_pos h3] at h ⊢
      injection h
    · rw [if_neg h3] at h
      cases h

theorem chkN_ok {l : List RwD} {P : List (List Int)} {m : List Nat} (h : lookN l.length P = .ok m) : chkN l P = if (edgesL l).any (fun e => decide (m.getD e.1 0 = m.getD e.2 0)) = true then 15 else if (edgesL l).any (fun e => decide (m.getD e.2 0 < m.getD e.1 0)) = true then 9 else 0 := by
  obtain ⟨h1, h2⟩ := lookN_inv h
  unfold chkN
  rw [h1]
  show chkM l m = _
  unfold chkM
  rw [h2, if_neg (by simp)]

theorem chkN_clash {l : List RwD} {P : List (List Int)} {m : List Nat} (h : lookN l.length P = .ok m) {k : Nat} {r : List Int} (hk : P[k]? = some r) (hc : clashR l (r.map Int.toNat) = true) : chkN l P = 15 := by
  rw [chkN_ok h, if_pos ((Marked.of h).clash.2 ⟨k, r, hk, hc⟩)]

theorem no_clash {l : List RwD} {P : List (List Int)} {m : List Nat} (h : lookN l.length P = .ok m) (hc : ∀ (k : Nat) (r : List Int), P[k]? = some r → clashR l (r.map Int.toNat) = false) : (edgesL l).any (fun e => decide (m.getD e.1 0 = m.getD e.2 0)) = false := by
  cases h2 : (edgesL l).any (fun e => decide (m.getD e.1 0 = m.getD e.2 0)) with
  | false => rfl
  | true =>
    obtain ⟨k, r, h3, h4⟩ := (Marked.of h).clash.1 h2
    rw [hc k r h3] at h4
    cases h4

theorem no_clash2 {l : List RwD} {m : List Nat} (h : (edgesL l).any (fun e => decide (m.getD e.1 0 = m.getD e.2 0)) = false) : ∀ i k, i < k → adjB l i k = true → m.getD i 0 ≠ m.getD k 0 := by
  intro i k hik ha e
  rw [List.any_eq_false] at h
  exact h (i, k) (edgesL_mem.2 ⟨hik, ha⟩) (decide_eq_true e)

theorem chkN_late {l : List RwD} {P : List (List Int)} {m : List Nat} (h : lookN l.length P = .ok m) (hc : (edgesL l).any (fun e => decide (m.getD e.1 0 = m.getD e.2 0)) = false) {i k : Nat} (hk : k < i) (ha : adjB l k i = true) (hlt : m.getD i 0 < m.getD k 0) : chkN l P = 9 := by
  rw [chkN_ok h, if_neg (by rw [hc]; simp), if_pos]
  exact List.any_eq_true.2 ⟨(k, i), edgesL_mem.2 ⟨hk, ha⟩, decide_eq_true hlt⟩

theorem chkN_right {l : List RwD} {P : List (List Int)} {m : List Nat} (h : lookN l.length P = .ok m) (hc : (edgesL l).any (fun e => decide (m.getD e.1 0 = m.getD e.2 0)) = false) (ho : ∀ i, i < l.length → ¬ ∃ k, k < i ∧ adjB l k i = true ∧ m.getD i 0 < m.getD k 0) : chkN l P = 0 := by
  rw [chkN_ok h, if_neg (by rw [hc]; simp), if_neg]
  intro h2
  obtain ⟨⟨i, k⟩, he, hd⟩ := List.any_eq_true.1 h2
  obtain ⟨hik, ha⟩ := edgesL_mem.1 he
  exact ho k (adjB_lt ha).2 ⟨i, hik, ha, of_decide_eq_true hd⟩
end Go.Proofs.YtajpfkenhchafaaDoor

/- What waves.Check does. -/
namespace Go.Proofs.YtajpfkenhchafaaDoor
open Go Go.RowKit
set_option linter.unusedVariables false

theorem nodup_few : ∀ {n : Nat} {q : List Nat}, q.Nodup → (∀ x ∈ q, x < n) → q.length ≤ n
  | 0, q, _, h => by
    cases q with
    | nil => exact Nat.le_refl _
    | cons x q => have := h x (List.mem_cons_self ..); omega
  | n + 1, q, hn, h => by
    have h1 := nodup_few (n := n) (q := q.erase n) (hn.erase n) (fun x hx => by
      have h2 := h x (List.mem_of_mem_erase hx)
      have h3 : x ≠ n := fun e => by
        subst e
        exact absurd hx (List.Nodup.not_mem_erase hn)
      omega)
    have h4 := List.length_erase (a := n) (l := q)
    split at h4 <;> omega

theorem mark1_code {n w : Nat} {m : List Nat} {x : Int} {e : Nat} (h : mark1 n w m x = .error e) : e = 2 ∨ e = 13 := by
  unfold mark1 at h
  split at h
  · injection h with h; exact Or.inl h.symm
  · split at h
    · injection h with h; exact Or.inr h.symm
    · cases h

theorem markR_code {n w : Nat} : ∀ {r : List Int} {m : List Nat} {e : Nat}, markR n w m r = .error e → e = 2 ∨ e = 13
  | [], m, e, h => by cases h
  | x :: r, m, e, h => by
    rw [markR_cons] at h
    cases h2 : mark1 n w m x with
    | error e' =>
      rw [h2] at h
      injection h with h
      subst h
      exact mark1_code h2
    | ok m' =>
      rw [h2] at h
      exact markR_code h

theorem markP_code {n : Nat} : ∀ {p : List (List Int)} {w : Nat} {m : List Nat} {e : Nat}, markP n w m p = .error e → e = 2 ∨ e = 13
  | [], w, m, e, h => by cases h
  | r :: p, w, m, e, h => by
    rw [markP_cons] at h
    cases h2 : markR n w m r with
    | error e' =>
      rw [h2] at h
      injection h with h
      subst h
      exact markR_code h2
    | ok m' =>
      rw [h2] at h
      exact markP_code h

theorem lookN_code {n : Nat} {P : List (List Int)} {e : Nat} (h : lookN n P = .error e) : e = 2 ∨ e = 13 ∨ e = 12 := by
  unfold lookN at h
  cases h2 : markP n 0 (List.replicate n 0) P with
  | error e' =>
    rw [h2] at h
    injection h with h
    subst h
    rcases markP_code h2 with h | h
    · exact Or.inl h
    · exact Or.inr (Or.inl h)
  | ok m' =>
    rw [h2] at h
    have h : (if m'.any (fun x => decide (x = 0)) = true then Except.error 12 else Except.ok m' : Except Nat (List Nat)) = .error e := h
    split at h
    · injection h with h; exact Or.inr (Or.inr h.symm)
    · cases h

theorem Marked.wave {n : Nat} {P : List (List Int)} {m : List Nat} (h : Marked n P m) {i : Nat} (hi : i < n) : (markI m)[i]? = some ((atN m i : Nat) : Int) ∧ atN m i < P.length := by
  obtain ⟨k, r, h1, h2, h3⟩ := h.mem i hi
  have hil : i < m.length := by rw [h.len]; exact hi
  rw [getD_of hil] at h3
  have hk := (List.getElem?_eq_some_iff.1 h1).1
  unfold atN
  rw [getD_of hil]
  refine ⟨?_, by omega⟩
  rw [markI_get (List.getElem?_eq_getElem hil)]
  congr 1
  omega

/-- The rows of a plan that look let by. -/
theorem Marked.rowQ {n : Nat} {P : List (List Int)} {m : List Nat} (h : Marked n P m) {k : Nat} {r : List Int} (hk : P[k]? = some r) : r = rowI (r.map Int.toNat) ∧ (∀ x ∈ r.map Int.toNat, x < n) ∧ (r.map Int.toNat).length ≤ n := by
  obtain ⟨c1, c2⟩ := h.row k r hk
  have h1 : ∀ x ∈ r, 0 ≤ x ∧ x < n := fun x hx => ⟨(c1 x hx).1, (c1 x hx).2.1⟩
  have h2 : ∀ x ∈ r.map Int.toNat, x < n := fun x hx => by
    obtain ⟨y, hy, rfl⟩ := List.mem_map.1 hx
    have := h1 y hy
    omega
  exact ⟨rows_nat h1, h2, nodup_few (nodup_map_toNat h1 c2) h2⟩

set_option maxRecDepth 100000 in
set_option maxHeartbeats 4000000 in
theorem checkP_any (l : List TxA) (ao : Option Addr) (cp : Nat) (p : List IRow) (pa : Option Addr) (pc : Nat) (w : World) (hl : RowAt txA w ao l) (hf : Few l) (hp : RowAt irowK w pa p) (hpf : RowsFit p) :
    Calls Tryd.prog 24 #[.slice ao l.length cp, .slice pa p.length pc] w fun e w' => e = .returned (.int .i64 (chkN (rwL l) (lsP p) : Nat)) ∧ Below w.heap.size w w' := by
  have hl1 := hf.1
  have hlen := rwL_length l
  have hp1 := hpf.1
  have cL := look_any p pa pc l.length w hp hpf (by omega)
  generalize hGOT : (fun e w' => e = Ending.returned (.int .i64 (chkN (rwL l) (lsP p) : Nat)) ∧ Below w.heap.size w w') = GOT
  have hG : Hid (∀ w' k, Below w.heap.size w w' → chkN (rwL l) (lsP p) = k → GOT (.returned (.int .i64 (k : Int))) w') := by
    intro w' k h1 h2
    rw [← hGOT, h2]
    exact ⟨rfl, h1⟩
  clear hGOT
  cases hlk : lookN l.length (lsP p) with
  | error k =>
    have hcode := lookN_code hlk
    have hE := chkN_err (l := rwL l) (by rw [hlen]; exact hlk)
    have g0 : ((k : Int) == 0) = false := by simp; omega
    unfold GotLook at cL
    rw [hlk] at cL
    go_enter Tryd.func24, Tryd.ntmps24
    go_wp2_with (go_at_call 42; refine cL.mono ?_; rintro _ w1 ⟨hb1, rfl⟩)
    exact hG.out w1 k hb1 hE
  | ok m =>
    have hM : Marked (rwL l).length (lsP p) m := Marked.of (by rw [hlen]; exact hlk)
    unfold GotLook at cL
    rw [hlk] at cL
    go_enter Tryd.func24, Tryd.ntmps24
    go_wp2_with (go_at_call 42; refine cL.mono ?_; rintro _ w1 ⟨hb1, hml, g, rfl, hq⟩)
    have hlk' : Hid (lookN (rwL l).length (lsP p) = .ok m) := by unfold Hid; rw [hlen]; exact hlk
    have hM' : Hid _ := hM
    have hml' : Hid _ := hml
    clear cL hlk hM hml
    go_loopw [24] (fun v24 wr => ∃ (j : Nat), j ≤ p.length ∧ v24 = .int .i64 (j : Int) ∧ Hid (∀ (k : Nat) (r : List Int), k < j → (lsP p)[k]? = some r → clashR (rwL l) (r.map Int.toNat) = false) ∧ Below w1.heap.size w1 wr) (fun v _ => p.length - (intOf v).toNat)
    case atStart => exact ⟨0, Nat.zero_le _, rfl, fun k r h => by omega, Below.refl _ _⟩
    case round =>
      obtain ⟨j, hj, rfl, hno, hb⟩ := hrel
      have hbb := hb1.trans (hb.mono hb1.size)
      by_cases hjl : j < p.length
      · have g1 : (j : Int) < (p.length : Int) := by omega
        obtain ⟨x, hx⟩ : ∃ q, p[j]? = some q := ⟨_, List.getElem?_eq_getElem hjl⟩
        have hxP := lsP_take hx
        obtain ⟨r1, r2, r3⟩ := hM'.out.rowQ hxP
        obtain ⟨bp, op, rfl, hbp, cr, hri, _⟩ := (hp.below hbb).irow hx
        have hql : (x.l.map Int.toNat).length = x.l.length := by rw [List.length_map]
        rw [r1] at hri
        rw [hlen] at r2 r3
        have cC := clash_any l ao cp (x.l.map Int.toNat) x.ao x.cap wr (hl.below hbb) hf hri r2 (by omega)
        rw [hql] at cC
        have hx' : Hid _ := hx
        cases hc : clashR (rwL l) (x.l.map Int.toNat) with
        | true =>
          have hE : Hid (∀ w', Below w.heap.size w w' → GOT (.returned (.int .i64 ((15 : Nat) : Int))) w') := fun w' hb' => hG.out w' 15 hb' (chkN_clash hlk'.out hxP hc)
          rw [hc] at cC
          clear hx hri r1 r2 r3 hxP hno hql
          go_wp2_with (go_at_call 43; refine cC.mono ?_; rintro _ w2 ⟨rfl, hb2⟩)
          exact hE.out _ (hbb.trans (hb2.mono hbb.size))
        | false =>
          rw [hc] at cC
          have hno2 : Hid (∀ (k : Nat) (r : List Int), k < j + 1 → (lsP p)[k]? = some r → clashR (rwL l) (r.map Int.toNat) = false) := fun k r hk hr => by
            by_cases e : k = j
            · subst e
              rw [hxP] at hr
              obtain rfl : x.l = r := by simpa using hr
              exact hc
            · exact hno.out k r (by omega) hr
          clear hx hri r1 r2 r3 hxP hno hql
          go_wp2_with (go_at_call 43; refine cC.mono ?_; rintro _ w2 ⟨rfl, hb2⟩)
          go_roundw
          case rel => exact ⟨j + 1, by omega, by go_num, hno2, hb.trans (hb2.mono hb.size)⟩
          case measure => simp [intOf]; omega
      · have g1 : ¬ (j : Int) < (p.length : Int) := by omega
        have hnc := no_clash hlk'.out (fun k r hr => hno.out k r (by have := (List.getElem?_eq_some_iff.1 hr).1; unfold lsP at this; rw [List.length_map] at this; omega) hr)
        have hnc' : Hid _ := hnc
        have hnc2 : Hid _ := no_clash2 hnc
        have mk : (Instr.makeMap 90 none).run Tryd.prog wr = .ok (.map (some wr.heap.size)) (wr.alloc (.map #[] 0)) := rfl
        have hT0 := (TurnAt.new wr).congr (g' := turnF (putL (rwL l) (atN m) 0)) (fun _ => rfl)
        have hb0 := belowNew wr (.map #[] 0)
        have hb2 := hb.trans (hb0.mono hb.size)
        have hbb2 := hbb.trans (hb0.mono hbb.size)
        have hwr : w1.heap.size ≤ wr.heap.size := hb.size
        generalize wr.alloc (.map #[] 0) = w2 at *
        obtain ⟨mb, hmb⟩ : ∃ mb, wr.heap.size = mb := ⟨_, rfl⟩
        rw [hmb] at hT0 mk
        have hq2 := hq.below hb2
        have hgw := (hq.lt g rfl).2
        have hgm : g ≠ mb := by omega
        have hmw : w.heap.size ≤ mb := by have := hb1.size; omega
        clear hno hnc hb hbb hb0
        go_wp2_with fail
        go_loopw [35] (fun v35 wr => ∃ (i : Nat), i ≤ l.length ∧ v35 = .int .i64 (i : Int) ∧ TurnAt wr mb (turnF (putL (rwL l) (atN m) i)) (i * 2000) ∧ KQ intK 3 wr w.heap.size (.slice (some ⟨g, 0, none⟩) l.length l.length) (markI m) ∧ Hid (∀ i', i' < i → ¬ ∃ k, k < i' ∧ adjB (rwL l) k i' = true ∧ m.getD i' 0 < m.getD k 0) ∧ Below w.heap.size w wr) (fun v _ => l.length - (intOf v).toNat)
        case atStart => exact ⟨0, Nat.zero_le _, rfl, hT0, hq2, fun i' h => by omega, hbb2⟩
        case round =>
          obtain ⟨i, hi, rfl, hT, hq, hno, hb⟩ := hrel
          clear hT0 hq2 hbb2 mk
          by_cases hil : i < l.length
          · have g1 : (i : Int) < (l.length : Int) := by omega
            obtain ⟨x, hx⟩ : ∃ p, l[i]? = some p := ⟨_, List.getElem?_eq_getElem hil⟩
            have hfx : ∀ b, txA.foot x b → b < w.heap.size := fun b h => txA.lt (hl.at_ x (List.mem_of_getElem? hx)) h
            obtain ⟨b, off, rfl, hbl, x0, x1, x2, x3, x4, x5, x6, x7, x8, hA⟩ := (hl.below hb).tx hx
            obtain ⟨lr, lw⟩ := hf.2 x (List.mem_of_getElem? hx)
            obtain ⟨hwv, hwlt⟩ := hM'.out.wave (show i < (rwL l).length by rw [hlen]; exact hil)
            have hlate := late_iff hM'.out hnc2.out (rwL_get hx)
            have hpl : (lsP p).length = p.length := by unfold lsP; rw [List.length_map]
            have hbn := belowNew wr (.cells x.c.toArray 50)
            have hX := Arr.new wr 50 x.c
            have hT5 := TurnAt.below hT hbn
            have hq5 := hq.below hbn
            have hA5 := hA.below hbn
            have hb5 := hb.trans (hbn.mono hb.size)
            have hz5 : wr.heap.size < (wr.alloc (.cells x.c.toArray 50)).heap.size := by rw [alloc_size]; omega
            have hmbf : ¬ txA.foot x mb := fun h => by have := hfx mb h; omega
            have hnx : firstN (turnF (putL (rwL l) (atN m) i)) x.rw ≤ atN m i → ∀ k, turnF (putL (rwL l) (atN m) (i + 1)) k = putG (turnF (putL (rwL l) (atN m) i)) x.rw (atN m i) k := put_next (rwL_get hx)
            have hx' : Hid _ := hx
            generalize hfs : firstN (turnF (putL (rwL l) (atN m) i)) x.rw = fs at *
            replace hfs : Hid _ := hfs
            generalize hv : atN m i = v at *
            replace hv : Hid _ := hv
            obtain ⟨cw, _⟩ := hq5.intSet hwv
            simp only [Nat.zero_add] at cw
            have hm1 : Hid (l.length = m.length) := by unfold Hid; rw [hml'.out]
            obtain ⟨w5, hw5⟩ : ∃ q, wr.alloc (.cells x.c.toArray 50) = q := ⟨_, rfl⟩
            rw [hw5] at hX hT5 hq5 hA5 hb5 hz5 cw
            replace hw5 : wr.alloc (.cells #[.int .i64 x.kind, .string x.frm, .string x.dst, .int .u64 x.amt, .int .u64 x.non, .string x.key, .string x.val, .slice x.ra x.rs.length x.rc, .slice x.wa x.ws.length x.wc] 50) = w5 := hw5
            have hbd : Below w5.heap.size w5 w5.drew := below_drewN (Below.refl _ _) 1
            have hT6 := TurnAt.below hT5 hbd
            have hX6 := hX.drew
            have hA6 := TxA.At.below hA5 hbd
            have hq6 := hq5.below hbd
            have hb6 := hb5.trans (hbd.mono hb5.size)
            have hz6 : wr.heap.size < w5.drew.heap.size := Nat.lt_of_lt_of_le hz5 hbd.size
            have cF := first_any x _ hA6 mb _ _ hT6 (by omega) (by omega)
            rw [hfs.out] at cF
            have c6 := (hq6.intSet hwv).1
            simp only [Nat.zero_add] at c6
            have n0 := hX6.cell (i := 0) rfl
            have n1 := hX6.cell (i := 1) rfl
            have n2 := hX6.cell (i := 2) rfl
            have n3 := hX6.cell (i := 3) rfl
            have n4 := hX6.cell (i := 4) rfl
            have n5 := hX6.cell (i := 5) rfl
            have n6 := hX6.cell (i := 6) rfl
            have n7 := hX6.cell (i := 7) rfl
            have n8 := hX6.cell (i := 8) rfl
            have hwv' : Hid _ := hwv
            have hno' : Hid _ := hno
            by_cases hvf : v < fs
            · have g2 : (v : Int) < (fs : Int) := by omega
              obtain ⟨k, hk1, hk2, hk3⟩ := hlate.1 hvf
              have hE : Hid (∀ w', Below w.heap.size w w' → GOT (.returned (.int .i64 ((9 : Nat) : Int))) w') := fun w' hb' => hG.out w' 9 hb' (chkN_late hlk'.out hnc'.out hk1 hk2 hk3)
              clear hT5 hX hA5 hq5 cw hbd hwv hno hlate hnx hx hT hq hA
              go_wp2_with fail
              rename_i K hK
              replace hK : Hid _ := hK
              go_region_law (go_simp; go_at_call 44; refine cF.mono ?_; rintro e w7 ⟨rfl, hb7⟩; have c7 := ((hq6.below hb7).intSet hwv'.out).1; simp only [Nat.zero_add] at c7)
              all_goals
                refine hK.out _ _ ?_
                go_wp2_with fail
                exact hE.out _ (hb6.trans (hb7.mono hb6.size))
            · have g2 : ¬ (v : Int) < (fs : Int) := by omega
              have hnx2 : Hid (∀ k, turnF (putL (rwL l) (atN m) (i + 1)) k = putG (turnF (putL (rwL l) (atN m) i)) x.rw v k) := hnx (by omega)
              have hno2 : Hid (∀ i', i' < i + 1 → ¬ ∃ k, k < i' ∧ adjB (rwL l) k i' = true ∧ m.getD i' 0 < m.getD k 0) := fun i' h => by
                by_cases e : i' = i
                · subst e
                  exact fun h2 => hvf (hlate.2 h2)
                · exact hno.out i' (by omega)
              clear hT5 hX hA5 hq5 cw hbd hwv hno hlate hnx hx hT hq hA
              go_wp2_with fail
              rename_i K3 hK3 K2 hK2 K hK
              replace hK3 : Hid _ := hK3
              replace hK : Hid _ := hK
              replace hK2 : Hid _ := hK2
              go_region_law (go_simp; go_at_call 44; refine cF.mono ?_; rintro e w7 ⟨rfl, hb7⟩; have c7 := ((hq6.below hb7).intSet hwv'.out).1; simp only [Nat.zero_add] at c7)
              all_goals
                refine hK.out _ _ ?_
                have hb77 := hb6.trans (hb7.mono hb6.size)
                have hT7 := TurnAt.below hT6 hb7
                have hX7 := hX6.below hb7 hz6
                have hA7 := TxA.At.below hA6 hb7
                have hq7 := hq6.below hb7
                have hbd : Below w7.heap.size w7 w7.drew := below_drewN (Below.refl _ _) 1
                have hT8 := TurnAt.below hT7 hbd
                have hX8 := hX7.drew
                have hA8 := TxA.At.below hA7 hbd
                have hq8 := hq7.below hbd
                have hb8 := hb77.trans (hbd.mono hb77.size)
                have c8 := (hq8.intSet hwv'.out).1
                simp only [Nat.zero_add] at c8
                have n0 := hX8.cell (i := 0) rfl
                have n1 := hX8.cell (i := 1) rfl
                have n2 := hX8.cell (i := 2) rfl
                have n3 := hX8.cell (i := 3) rfl
                have n4 := hX8.cell (i := 4) rfl
                have n5 := hX8.cell (i := 5) rfl
                have n6 := hX8.cell (i := 6) rfl
                have n7 := hX8.cell (i := 7) rfl
                have n8 := hX8.cell (i := 8) rfl
                have cP := put_any x _ hA8 (fun b h => Nat.lt_of_lt_of_le (hfx b h) hb8.size) mb hmbf _ _ hT8 (by omega) v (by omega) (by omega) (by omega)
                clear hT7 hX7 hA7 hq7 hbd hT6 hX6 hA6 hq6 cF hb6 c6 hb7 hK
                go_wp2_with fail
                refine hK2.out _ _ ?_
                go_wp2_with fail
                go_region_law (go_simp; go_at_call 45; refine cP.mono ?_; rintro e w9 ⟨rfl, hT9, hk9⟩)
                all_goals
                  refine hK3.out _ _ ?_
                  have hq9 := hq8.kept hk9 (fun k e => by simp only [Value.ownBlock, Option.some.injEq] at e; show ¬ k = mb; omega) (fun _ _ _ h => h.elim)
                  have hT10 := (TurnAt.congr hT9 hnx2.out).mono (M := (i + 1) * 2000) (by omega)
                  have hb9 := hb8.trans (hk9.below hb8.size (fun k e => by have e' : k = mb := e; omega))
                  clear cP hT9 hk9 hnx2 hq8 hT8 hX8
                  go_wp2
                  go_roundw
                  case rel => exact ⟨i + 1, by omega, by go_num, hT10, hq9, hno2, hb9⟩
                  case measure => simp [intOf]; omega
          · have g1 : ¬ (i : Int) < (l.length : Int) := by omega
            have hil2 : i = l.length := by omega
            have hE := hG.out wr 0 hb (chkN_right hlk'.out hnc'.out (fun i' h => hno.out i' (by rw [hlen] at h; omega)))
            clear hil2 hno hT hq
            go_wp2_with fail
            exact hE
end Go.Proofs.YtajpfkenhchafaaDoor
