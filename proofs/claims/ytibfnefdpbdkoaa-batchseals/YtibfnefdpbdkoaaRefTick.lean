/- What the reference's Tick does. -/
import Derived.Test.YtibfnefdpbdkoaaBatTick
import Derived.Test.YtibfnefdpbdkoaaRefSealer
import Derived.Deep.RegionHeld3
namespace Go.Proofs.Ytibfnefdpbdkoaa
open Go.RowKit
set_option linter.unusedVariables false

theorem flatX_take (l : List TxM) (n : Nat) : flatX (l.take n) = (flatX l).take (n * 9) := by
  have h1 : flatX l = flatX (l.take n) ++ flatX (l.drop n) := by rw [← flatX_append, List.take_append_drop]
  by_cases hn : n ≤ l.length
  · have h2 : (flatX (l.take n)).length = n * 9 := by rw [flatX_length, List.length_take, Nat.min_eq_left hn]
    rw [h1, ← h2, List.take_left]
  · rw [List.take_of_length_le (by omega), List.take_of_length_le (by rw [flatX_length]; omega)]

theorem ne_box {k0 zb sz b : Nat} (h : (Value.slice (some ⟨k0, 0, none⟩) 0 0).ownBlock = some b ∨ sz ≤ b) (h1 : k0 ≠ zb) (h2 : zb < sz) : b ≠ zb := by
  rcases h with h | h
  · have e : k0 = b := by simpa [Value.ownBlock] using h
    omega
  · omega

/-- Behind the three stores. -/
theorem refTick_fin {T : TypeId} {w W7 : World} {base p g off qc N : Nat} {au : Int} {s : Seal TxM} (hse : s.seals = true) (hN : N = min s.size s.l.length) (hn0 : 0 < s.l.length) (hs1 : 1 ≤ s.size)
    (h : SlAt T w base p (.slice (some ⟨g, off, none⟩) s.l.length qc) au s) (h7 : SlAt T W7 base p (.slice (some ⟨g, off, none⟩) s.l.length qc) au { s with ticks := s.ticks + 1, number := s.number + 1 }) (k7 : Kept (fun k => k = p) w W7)
    {qa2 : Option Addr} {qc2 : Nat} (hT7 : TxsAt W7 qa2 (s.l.take s.size)) (hq2 : ∀ b o, qa2 = some ⟨b, o, none⟩ → w.heap.size < b)
    (ao' : Option Addr) (hao : ¬ qc = N → ao' = some ⟨g, off + N * 9, none⟩) (hob : ∀ k a b, (Value.slice ao' a b).ownBlock = some k → k = g)
    (htk : s.tick = { s with l := s.l.drop s.size, ticks := 0, number := s.number + 1 }) (e : Ending) (he : e = .returned (.tuple #[batV au ((s.number : Int) + 1) qa2 N qc2, .bool true])) :
    Ticked T w base p (.slice (some ⟨g, off, none⟩) s.l.length qc) au s e (set3 ((W7.setCell ⟨p, 3, none⟩ (.slice ao' (s.l.length - N) (qc - N))).setCell ⟨p, 4, none⟩ (.int .i64 0)) w.heap.size (.int .i64 au) (.int .i64 ((s.number : Int) + 1)) (.slice qa2 N qc2)) := by
  obtain ⟨_, hS8, k8⟩ := cut_fin (w := w) (s := { s with ticks := s.ticks + 1, number := s.number + 1 }) h7 hn0 N hN ao' hao hob k7 _ rfl
  have hpl := h.own.2
  have hgl := h.lt g rfl
  have hoffp : ∀ x ∈ s.l.take s.size, x.Off (fun k => k = p) := fun x hx => (h7.off x (List.mem_of_mem_take hx)).mono (fun k hk => Or.inl hk)
  have hbp : ∀ b o, qa2 = some ⟨b, o, none⟩ → ¬ b = p := fun b o e k => by have := hq2 b o e; omega
  have hT8 := hT7.kept (Kept.setCell W7 ⟨p, 3, none⟩ (.slice ao' (s.l.length - N) (qc - N))) hbp hoffp
  have hT9 := hT8.kept (Kept.setCell _ ⟨p, 4, none⟩ (.int .i64 0)) hbp hoffp
  have hS9 := hS8.setTicks 0
  have k9 := k8.trans (Kept.setCell _ ⟨p, 4, none⟩ (.int .i64 0))
  have hT := hT9.set3 (g := w.heap.size) (fun b o e => by have := hq2 b o e; omega) (fun x hx => (h.at_ x (List.mem_of_mem_take hx)).off_new (Nat.le_refl _)) (.int .i64 au) (.int .i64 ((s.number : Int) + 1)) (.slice qa2 N qc2)
  have hS := hS9.set3 (g := w.heap.size) (fun k hk => by
    rcases hk with rfl | hk
    · omega
    · rw [hob k _ _ hk]; omega) (fun x hx => (h.at_ x (List.mem_of_mem_drop hx)).off_new (Nat.le_refl _)) (.int .i64 au) (.int .i64 ((s.number : Int) + 1)) (.slice qa2 N qc2)
  have k10 := k9.set3 (g := w.heap.size) (Nat.le_refl _) (.int .i64 au) (.int .i64 ((s.number : Int) + 1)) (.slice qa2 N qc2)
  have h0 : qa2 = none → qc2 = 0 := fun e => by
    exfalso
    have hlt : 0 < (s.l.take s.size).length := by rw [List.length_take]; omega
    obtain ⟨⟨b, o, e2, _⟩, _⟩ := hT7 0 _ (List.getElem?_eq_getElem hlt)
    rw [e] at e2
    cases e2
  refine ticked_yes (q' := .slice ao' (s.l.length - N) (qc - N)) hse h0 hT ?_ k10 (fun k hk => Or.inl (by rw [hob k _ _ hk]; rfl)) e (by rw [he, hN])
  rw [htk]
  exact hS

set_option maxRecDepth 100000 in
set_option maxHeartbeats 4000000 in
theorem refTick_any {base p : Nat} {q : Value} {au : Int} {s : Seal TxM} (w : World) (h : SlAt 46 w base p q au s) (ok : s.Ok) (hnum : s.number ≤ 4611686018427387903) :
    Calls Try.prog 11 #[.pointer (some ⟨p, 0, none⟩)] w fun e w' => Ticked 46 w base p q au s e w' := by
  obtain ⟨qa, qc, rfl, hf1, hf2⟩ := h.row.form
  have hZ := Arr.new w 40 [.int .i64 0, .int .i64 0, .slice none 0 0]
  have hB := belowNew w (.cells #[.int .i64 0, .int .i64 0, .slice none 0 0] 40)
  have h0 := h.below hB
  have c3 := h0.box.cell (i := 3) rfl
  have hroom := ok.room
  have hsz := ok.size16
  by_cases hl : s.l.length = 0
  · have hnil : s.l = [] := List.eq_nil_of_length_eq_zero hl
    have hse : s.seals = false := by unfold Seal.seals; rw [hnil]; rfl
    have hti : s.tick = s := by unfold Seal.tick; rw [if_pos hnil]
    have hou : s.out = [] := by unfold Seal.out; rw [hse]; rfl
    have e0 : ((s.l.length : Int) == 0) = true := by rw [beq_iff_eq]; omega
    have z0 := hZ.cell (i := 0) rfl
    have z1 := hZ.cell (i := 1) rfl
    have z2 := hZ.cell (i := 2) rfl
    have g0 := hZ.frozen 0
    have g1 := hZ.frozen 1
    have g2 := hZ.frozen 2
    have hfin := fun e he => ticked_no (e := e) hse (by rw [hti]; exact h0) (Kept.of_below hB) he
    clear h0 h
    go_enter Try.func11, Try.ntmps11
    go_wp2
    refine bodyPost_ret (v := .tuple #[batV 0 0 none 0 0, .bool false]) (results_bat_tmp rfl _ _ w.heap.size 0 0 none 0 0 rfl hZ _ rfl) rfl ?_
    exact hfin _ rfl
  have hne : ¬ s.l = [] := fun e => hl (by rw [e]; rfl)
  have e0 : ((s.l.length : Int) == 0) = false := beq_eq_false_iff_ne.2 (by omega)
  have hlw := ok.less
  have hw1 := ok.wait1000
  have c4 := h0.box.cell (i := 4) rfl
  have f4 := h0.box.frozen 4
  have h1 := h0.setTicks (s.ticks + 1)
  have k1 : Kept (fun k => k = p) w _ := (Kept.of_below hB).trans (Kept.setCell _ ⟨p, 4, none⟩ (.int .i64 ((s.ticks + 1 : Nat) : Int)))
  have hpz : w.heap.size ≠ p := by have := h.own.2; omega
  have hZ1 := hZ.other (p := ⟨p, 4, none⟩) hpz (.int .i64 ((s.ticks + 1 : Nat) : Int))
  have hti : Hid ((s.ticks : Int) + 1 = ((s.ticks + 1 : Nat) : Int)) := by show _ = _; omega
  have htb : s.ticks < 1000 := by omega
  clear hZ hB
  obtain ⟨w2, hw2⟩ : ∃ q, (w.alloc (.cells #[.int .i64 0, .int .i64 0, .slice none 0 0] 40)).setCell ⟨p, 4, none⟩ (.int .i64 ((s.ticks : Int) + 1)) = q := ⟨_, rfl⟩
  rw [← hti.out, hw2] at h1 k1 hZ1
  by_cases hse : s.seals = true
  · have hcond := ((Seal.seals_iff s).1 hse).2
    have htk : s.tick = { s with l := s.l.drop s.size, ticks := 0, number := s.number + 1 } := by unfold Seal.tick; rw [if_neg hne, if_pos hse]
    have b3 := h1.box.cell (i := 3) rfl
    have b1 := h1.box.cell (i := 1) rfl
    have b2 := h1.box.cell (i := 2) rfl
    have b4 := h1.box.cell (i := 4) rfl
    replace b4 : w2.cell? ⟨p, 4, none⟩ = some (.int .i64 ((s.ticks : Int) + 1)) := by rw [hti.out]; exact b4
    obtain ⟨g, off, qc', hv, hbg, hgl, hgc⟩ := h.row.cells (by omega)
    simp only [Value.slice.injEq, true_and] at hv
    obtain ⟨rfl, rfl⟩ := hv
    by_cases hd1 : s.l.length < s.size
    · have d1 : (s.l.length : Int) < (s.size : Int) := by omega
      have d2 : ¬ (s.ticks : Int) + 1 < (s.wait : Int) := by omega
      have d2' : decide ((s.ticks : Int) + 1 < (s.wait : Int)) = false := decide_eq_false d2
      have hm : min s.size s.l.length = s.l.length := by omega
      have hnc : (s.l.length : Int) ≤ (qc : Int) := by omega
      go_enter Try.func11, Try.ntmps11
      go_wp2_with fail
      go_quiet (fail)
      replace h1 : SlAt 46 (w2.drewN nq) base p (.slice (some ⟨g, off, none⟩) s.l.length qc) au { s with ticks := s.ticks + 1 } := h1.below (below_drewN (Below.refl _ _) nq)
      replace k1 : Kept (fun k => k = p) w (w2.drewN nq) := k1.trans (Kept.of_below (below_drewN (Below.refl _ _) nq))
      replace hZ1 : Arr (w2.drewN nq) w.heap.size 40 zeroB := hZ1
      have hap := h.apart (Nat.le_refl _)
      have hofz : ∀ x ∈ s.l, x.Off (fun k => k = w.heap.size) := fun x hx => (h.at_ x hx).off_new (Nat.le_refl _)
      clear hw2 b1 b2 b3 b4 c3 c4 f4 h0
      generalize w2.drewN nq = w3 at h1 k1 hZ1 ⊢
      have r1 := h1.box.cell (i := 1) rfl
      have r3 := h1.box.cell (i := 3) rfl
      go_wp2_with fail
      go_region
      replace h1 : SlAt 46 w3.drew base p (.slice (some ⟨g, off, none⟩) s.l.length qc) au { s with ticks := s.ticks + 1 } := h1.below (below_drewN (Below.refl _ _) 1)
      replace k1 : Kept (fun k => k = p) w w3.drew := k1.trans (Kept.of_below (below_drewN (Below.refl _ _) 1))
      replace hZ1 : Arr w3.drew w.heap.size 40 zeroB := hZ1
      clear r1 r3
      generalize w3.drew = w4 at h1 k1 hZ1 ⊢
      have e5 := h1.box.cell (i := 5) rfl
      have g5 := h1.box.frozen 5
      have h5 := h1.setNumber (s.number + 1)
      have k5 : Kept (fun k => k = p) w _ := k1.trans (Kept.setCell w4 ⟨p, 5, none⟩ (.int .i64 ((s.number + 1 : Nat) : Int)))
      have hZ5 := hZ1.other (p := ⟨p, 5, none⟩) hpz (.int .i64 ((s.number + 1 : Nat) : Int))
      obtain ⟨w5, hw5⟩ : ∃ q, w4.setCell ⟨p, 5, none⟩ (.int .i64 ((s.number : Int) + 1)) = q := ⟨_, rfl⟩
      have hnn : Hid ((s.number : Int) + 1 = ((s.number + 1 : Nat) : Int)) := by show _ = _; omega
      rw [← hnn.out, hw5] at h5 k5 hZ5
      clear h1 k1 hZ1
      have r0 := h5.box.cell (i := 0) rfl
      have r3 := h5.box.cell (i := 3) rfl
      have r5 := h5.box.cell (i := 5) rfl
      replace r5 : w5.cell? ⟨p, 5, none⟩ = some (.int .i64 ((s.number : Int) + 1)) := by rw [hnn.out]; exact r5
      have a0 : (w5.alloc (.cells #[] 33)).cell? ⟨p, 0, none⟩ = some (.int .i64 au) := (h5.box.alloc _).cell (i := 0) rfl
      have a3 : (w5.alloc (.cells #[] 33)).cell? ⟨p, 3, none⟩ = some (.slice (some ⟨g, off, none⟩) s.l.length qc) := (h5.box.alloc _).cell (i := 3) rfl
      have a5 : (w5.alloc (.cells #[] 33)).cell? ⟨p, 5, none⟩ = some (.int .i64 ((s.number : Int) + 1)) := by rw [hnn.out]; exact (h5.box.alloc _).cell (i := 5) rfl
      have b0 : (w5.alloc (.cells #[.int .i64 0, .int .i64 0, .slice none 0 0] 40)).cell? ⟨p, 0, none⟩ = some (.int .i64 au) := (h5.box.alloc _).cell (i := 0) rfl
      have b3 : (w5.alloc (.cells #[.int .i64 0, .int .i64 0, .slice none 0 0] 40)).cell? ⟨p, 3, none⟩ = some (.slice (some ⟨g, off, none⟩) s.l.length qc) := (h5.box.alloc _).cell (i := 3) rfl
      have b5 : (w5.alloc (.cells #[.int .i64 0, .int .i64 0, .slice none 0 0] 40)).cell? ⟨p, 5, none⟩ = some (.int .i64 ((s.number : Int) + 1)) := by rw [hnn.out]; exact (h5.box.alloc _).cell (i := 5) rfl
      have c0 : ((w5.alloc (.cells #[] 33)).alloc (.cells #[.int .i64 0, .int .i64 0, .slice none 0 0] 40)).cell? ⟨p, 0, none⟩ = some (.int .i64 au) := ((h5.box.alloc _).alloc _).cell (i := 0) rfl
      have c3 : ((w5.alloc (.cells #[] 33)).alloc (.cells #[.int .i64 0, .int .i64 0, .slice none 0 0] 40)).cell? ⟨p, 3, none⟩ = some (.slice (some ⟨g, off, none⟩) s.l.length qc) := ((h5.box.alloc _).alloc _).cell (i := 3) rfl
      have c5 : ((w5.alloc (.cells #[] 33)).alloc (.cells #[.int .i64 0, .int .i64 0, .slice none 0 0] 40)).cell? ⟨p, 5, none⟩ = some (.int .i64 ((s.number : Int) + 1)) := by rw [hnn.out]; exact ((h5.box.alloc _).alloc _).cell (i := 5) rfl
      have d0 : ((w5.alloc (.cells #[.int .i64 0, .int .i64 0, .slice none 0 0] 40)).alloc (.cells #[] 33)).cell? ⟨p, 0, none⟩ = some (.int .i64 au) := ((h5.box.alloc _).alloc _).cell (i := 0) rfl
      have d3 : ((w5.alloc (.cells #[.int .i64 0, .int .i64 0, .slice none 0 0] 40)).alloc (.cells #[] 33)).cell? ⟨p, 3, none⟩ = some (.slice (some ⟨g, off, none⟩) s.l.length qc) := ((h5.box.alloc _).alloc _).cell (i := 3) rfl
      have d5 : ((w5.alloc (.cells #[.int .i64 0, .int .i64 0, .slice none 0 0] 40)).alloc (.cells #[] 33)).cell? ⟨p, 5, none⟩ = some (.int .i64 ((s.number : Int) + 1)) := by rw [hnn.out]; exact ((h5.box.alloc _).alloc _).cell (i := 5) rfl
      obtain ⟨i0, hi, hz0, hz1, hz2⟩ := info_parts infoTx3'
      have hN0 : 0 < s.l.length := by have := ok.size1; omega
      have hsz5 : w.heap.size < w5.heap.size := hZ5.lt
      have hlN : (flatX (s.l.take s.l.length)).length = s.l.length * 9 := by rw [flatX_length, List.length_take]; omega
      have hrow5 : ∀ j u, (flatX s.l)[j]? = some u → w5.cell? ⟨g, off + j, none⟩ = some u := by
        intro j u hu
        obtain ⟨g', off', qc', hv, _, _, hc⟩ := h5.row.cells (by show 0 < s.l.length; omega)
        simp at hv
        obtain ⟨⟨rfl, rfl⟩, _⟩ := hv
        exact hc j u hu
      have hg5 : g < w5.heap.size := h5.lt g rfl
      have hnews : ∀ U, Below w5.heap.size w5 U → ∀ j u, (flatX (s.l.take s.l.length))[j]? = some u → U.cell? ((⟨g, off, none⟩ : Addr).add j) = some u := by
        intro U hU j u hu
        rw [Go.WideShapes.add_plain]
        refine (hU.cell (p := ⟨g, off + j, none⟩) hg5).trans (hrow5 j u ?_)
        rw [flatX_take, List.getElem?_take] at hu
        split at hu
        · exact hu
        · cases hu
      have h63 : 0 + s.l.length ≤ maxLen := by unfold maxLen; omega
      have hby : (0 + s.l.length) * 136 ≤ 140737488355328 := by omega
      have hkeep : ∀ U E w6, Below w5.heap.size w5 U → w5.heap.size ≤ E → U.grownBy w6 (some E) → Below w5.heap.size w5 w6 := fun U E w6 hb hE hgr =>
        ⟨hgr.os.trans hb.os, hgr.tape.trans hb.tape, hgr.output.trans hb.output, Nat.le_trans hb.size hgr.size, fun k hk => (hgr.block k (Nat.lt_of_lt_of_le hk hb.size) (by simp; omega)).trans (hb.block k hk)⟩
      have uE : Below w5.heap.size w5 (w5.drew.alloc (.cells #[] 33)) := (below_drewN (Below.refl _ w5) 1).alloc (Nat.le_refl _) _
      have uZ : Below w5.heap.size w5 (w5.drew.alloc (.cells #[.int .i64 0, .int .i64 0, .slice none 0 0] 40)) := (below_drewN (Below.refl _ w5) 1).alloc (Nat.le_refl _) _
      have uB : Below w5.heap.size w5 ((w5.drew.alloc (.cells #[] 33)).alloc (.cells #[.int .i64 0, .int .i64 0, .slice none 0 0] 40)) := uE.alloc uE.size _
      have uC : Below w5.heap.size w5 ((w5.drew.alloc (.cells #[.int .i64 0, .int .i64 0, .slice none 0 0] 40)).alloc (.cells #[] 33)) := uZ.alloc uZ.size _
      have zB : Arr ((w5.drew.alloc (.cells #[] 33)).alloc (.cells #[.int .i64 0, .int .i64 0, .slice none 0 0] 40)) (w5.heap.size + 1) 40 zeroB := by
        have := Arr.new (w5.drew.alloc (.cells #[] 33)) 40 zeroB
        rw [alloc_size] at this
        exact this
      have zC : Arr ((w5.drew.alloc (.cells #[.int .i64 0, .int .i64 0, .slice none 0 0] 40)).alloc (.cells #[] 33)) w5.heap.size 40 zeroB := (Arr.new w5.drew 40 zeroB).alloc _
      have hkp : ∀ U, Below w5.heap.size w5 U → (U.cell? ⟨p, 0, none⟩ = some (.int .i64 au) ∧ U.cell? ⟨p, 3, none⟩ = some (.slice (some ⟨g, off, none⟩) s.l.length qc) ∧ U.cell? ⟨p, 5, none⟩ = some (.int .i64 ((s.number : Int) + 1))) := fun U hU => ⟨(hU.cell (p := ⟨p, 0, none⟩) h5.box.lt).trans r0, (hU.cell (p := ⟨p, 3, none⟩) h5.box.lt).trans r3, (hU.cell (p := ⟨p, 5, none⟩) h5.box.lt).trans r5⟩
      have uD : Below w5.heap.size w5 w5.drew := below_drewN (Below.refl _ w5) 1
      have hS0 := hkp _ uD
      go_wp2_with fail
      go_region_held3 (fun w' => w'.cell? ⟨p, 0, none⟩ = some (.int .i64 au) ∧ w'.cell? ⟨p, 3, none⟩ = some (.slice (some ⟨g, off, none⟩) s.l.length qc) ∧ w'.cell? ⟨p, 5, none⟩ = some (.int .i64 ((s.number : Int) + 1))) (exact hkp _ (by assumption))
        (first
        | ((with_reducible show if Region.wanted { dst := some 74, op := _, type := _, pos := _, after := _, guard := _ } _ = true then Oper.wp _ _ _ ((w5.alloc (.cells #[] 33)).drew) _ _ else _); refine step_append_q _ (by rfl) _ _ 38 (by rfl) 33 i0 _ 9 136 Try.underlying38 hi hz0 hz1 hz2 rfl (by decide) w5.heap.size (.slice (some ⟨w5.heap.size, 0, none⟩) 0 0) 0 [] (by rfl) (QRow.nil _ _ _ _ _) ⟨g, off, none⟩ s.l.length qc (flatX (s.l.take s.l.length)) (by rfl) hN0 hlN (hnews _ uE) (flatX_one _) h63 hby uE.size ?_; intro q' w6 hrow hgr hfr; obtain ⟨qa2, qc2, rfl, hq1, hq2⟩ := QRow.form hrow; have hb6 := hkeep _ w5.heap.size w6 uE (Nat.le_refl _) hgr; have hfr2 : ∀ k, (Value.slice qa2 (0 + s.l.length) qc2).ownBlock = some k → w5.heap.size ≤ k := (fun k hk => (hfr k hk).elim (fun e => by injection e with e1; rw [← e1]; first | exact Nat.le_refl _ | exact Nat.le_succ _) (fun h => Nat.le_trans (Below.size uE) h)); have m0 := (hb6.cell (p := ⟨p, 0, none⟩) h5.box.lt).trans r0; have m5 := (hb6.cell (p := ⟨p, 5, none⟩) h5.box.lt).trans r5; have n0 := ((hb6.alloc hb6.size (.cells #[.int .i64 0, .int .i64 0, .slice none 0 0] 40)).cell (p := ⟨p, 0, none⟩) h5.box.lt).trans r0; have n5 := ((hb6.alloc hb6.size (.cells #[.int .i64 0, .int .i64 0, .slice none 0 0] 40)).cell (p := ⟨p, 5, none⟩) h5.box.lt).trans r5; have hb7 := hb6.alloc hb6.size (.cells #[.int .i64 0, .int .i64 0, .slice none 0 0] 40); have hb7f := hb6.alloc hb6.size (.cells #[.int .i64 au, .int .i64 ((s.number : Int) + 1), .slice qa2 s.l.length qc2] 40))
        | ((with_reducible show if Region.wanted { dst := some 74, op := _, type := _, pos := _, after := _, guard := _ } _ = true then Oper.wp _ _ _ (((w5.alloc (.cells #[.int .i64 0, .int .i64 0, .slice none 0 0] 40)).alloc (.cells #[] 33)).drew) _ _ else _); refine step_append_q _ (by rfl) _ _ 38 (by rfl) 33 i0 _ 9 136 Try.underlying38 hi hz0 hz1 hz2 rfl (by decide) w5.heap.size (.slice (some ⟨w5.heap.size + 1, 0, none⟩) 0 0) 0 [] (by rfl) (QRow.nil _ _ _ _ _) ⟨g, off, none⟩ s.l.length qc (flatX (s.l.take s.l.length)) (by rfl) hN0 hlN (hnews _ uC) (flatX_one _) h63 hby uC.size ?_; intro q' w6 hrow hgr hfr; obtain ⟨qa2, qc2, rfl, hq1, hq2⟩ := QRow.form hrow; have hb6 := hkeep _ (w5.heap.size + 1) w6 uC (Nat.le_succ _) hgr; have hfr2 : ∀ k, (Value.slice qa2 (0 + s.l.length) qc2).ownBlock = some k → w5.heap.size ≤ k := (fun k hk => (hfr k hk).elim (fun e => by injection e with e1; rw [← e1]; first | exact Nat.le_refl _ | exact Nat.le_succ _) (fun h => Nat.le_trans (Below.size uC) h)); have m0 := (hb6.cell (p := ⟨p, 0, none⟩) h5.box.lt).trans r0; have m5 := (hb6.cell (p := ⟨p, 5, none⟩) h5.box.lt).trans r5; have z6 := Arr.kept zC (Kept.of_grown hgr) (by simp [Value.ownBlock]); have y0 := z6.cell (i := 0) rfl; have y1 := z6.cell (i := 1) rfl; have y2 := z6.cell (i := 2) rfl; have l0 := z6.frozen 0; have l1 := z6.frozen 1; have l2 := z6.frozen 2; have hb7 := ((hb6.setCell (p := ⟨w5.heap.size, 0, none⟩) (Nat.le_refl _) (.int .i64 au)).setCell (p := ⟨w5.heap.size, 1, none⟩) (Nat.le_refl _) (.int .i64 ((s.number : Int) + 1))).setCell (p := ⟨w5.heap.size, 2, none⟩) (Nat.le_refl _) (.slice qa2 s.l.length qc2))
        | ((with_reducible show if Region.wanted { dst := some 74, op := _, type := _, pos := _, after := _, guard := _ } _ = true then Oper.wp _ _ _ (((w5.alloc (.cells #[] 33)).alloc (.cells #[.int .i64 0, .int .i64 0, .slice none 0 0] 40)).drew) _ _ else _); refine step_append_q _ (by rfl) _ _ 38 (by rfl) 33 i0 _ 9 136 Try.underlying38 hi hz0 hz1 hz2 rfl (by decide) w5.heap.size (.slice (some ⟨w5.heap.size, 0, none⟩) 0 0) 0 [] (by rfl) (QRow.nil _ _ _ _ _) ⟨g, off, none⟩ s.l.length qc (flatX (s.l.take s.l.length)) (by rfl) hN0 hlN (hnews _ uB) (flatX_one _) h63 hby uB.size ?_; intro q' w6 hrow hgr hfr; obtain ⟨qa2, qc2, rfl, hq1, hq2⟩ := QRow.form hrow; have hb6 := hkeep _ w5.heap.size w6 uB (Nat.le_refl _) hgr; have hfr2 : ∀ k, (Value.slice qa2 (0 + s.l.length) qc2).ownBlock = some k → w5.heap.size ≤ k := (fun k hk => (hfr k hk).elim (fun e => by injection e with e1; rw [← e1]; first | exact Nat.le_refl _ | exact Nat.le_succ _) (fun h => Nat.le_trans (Below.size uB) h)); have m0 := (hb6.cell (p := ⟨p, 0, none⟩) h5.box.lt).trans r0; have m5 := (hb6.cell (p := ⟨p, 5, none⟩) h5.box.lt).trans r5; have z6 := Arr.kept zB (Kept.of_grown hgr) (by simp [Value.ownBlock]); have y0 := z6.cell (i := 0) rfl; have y1 := z6.cell (i := 1) rfl; have y2 := z6.cell (i := 2) rfl; have l0 := z6.frozen 0; have l1 := z6.frozen 1; have l2 := z6.frozen 2; have hb7 := ((hb6.setCell (p := ⟨w5.heap.size + 1, 0, none⟩) (Nat.le_succ _) (.int .i64 au)).setCell (p := ⟨w5.heap.size + 1, 1, none⟩) (Nat.le_succ _) (.int .i64 ((s.number : Int) + 1))).setCell (p := ⟨w5.heap.size + 1, 2, none⟩) (Nat.le_succ _) (.slice qa2 s.l.length qc2)))
      all_goals
        rw [Nat.zero_add, List.nil_append] at hrow
        have hTl : s.l.length = (s.l.take s.l.length).length := by rw [List.length_take]; omega
        have hT6 := QRow.txs hrow hTl (fun x hx => (h5.at_ x (List.mem_of_mem_take hx)).below hb6)
        have hrb : ∀ b o, qa2 = some ⟨b, o, none⟩ → w.heap.size < b := fun b o e => Nat.lt_of_lt_of_le hsz5 (hfr2 b (by rw [e]; rfl))
        have hp5 : p < w5.heap.size := h5.box.lt
        first
          | (have hb8 := hb7f; have hZ7 := Arr.new w6 40 [.int .i64 au, .int .i64 ((s.number : Int) + 1), .slice qa2 s.l.length qc2]; have hT7 := hT6.below (belowNew w6 (.cells #[.int .i64 au, .int .i64 ((s.number : Int) + 1), .slice qa2 s.l.length qc2] 40)); have hle := hb6.size; have hzp : w6.heap.size ≠ p := (by omega); have hzw : w6.heap.size ≠ w.heap.size := (by omega); generalize w6.alloc (.cells #[.int .i64 au, .int .i64 ((s.number : Int) + 1), .slice qa2 s.l.length qc2] 40) = w7 at hZ7 hT7 hb8 ⊢)
          | (have hle : w5.heap.size ≤ (w5.heap.size + 1) := Nat.le_succ _; have hne : ∀ b o, qa2 = some ⟨b, o, none⟩ → b ≠ (w5.heap.size + 1) := (fun b o e => ne_box (hfr b (by rw [e]; rfl)) (by omega) (by show _ < ((w5.alloc _).alloc _).heap.size; rw [alloc_size, alloc_size]; omega)); have hZ7 := z6.set3 (.int .i64 au) (.int .i64 ((s.number : Int) + 1)) (.slice qa2 s.l.length qc2); have hT7 := hT6.set3 hne (fun x hx => (h5.at_ x (List.mem_of_mem_take hx)).off_new hle) (.int .i64 au) (.int .i64 ((s.number : Int) + 1)) (.slice qa2 s.l.length qc2); unfold set3 at hZ7 hT7; have hb8 := hb7; have hzp : (w5.heap.size + 1) ≠ p := (by omega); have hzw : (w5.heap.size + 1) ≠ w.heap.size := (by omega); generalize ((w6.setCell ⟨(w5.heap.size + 1), 0, none⟩ (.int .i64 au)).setCell ⟨(w5.heap.size + 1), 1, none⟩ (.int .i64 ((s.number : Int) + 1))).setCell ⟨(w5.heap.size + 1), 2, none⟩ (.slice qa2 s.l.length qc2) = w7 at hZ7 hT7 hb8 ⊢)
          | (have hle : w5.heap.size ≤ w5.heap.size := Nat.le_refl _; have hne : ∀ b o, qa2 = some ⟨b, o, none⟩ → b ≠ w5.heap.size := (fun b o e => ne_box (hfr b (by rw [e]; rfl)) (by omega) (by show _ < ((w5.alloc _).alloc _).heap.size; rw [alloc_size, alloc_size]; omega)); have hZ7 := z6.set3 (.int .i64 au) (.int .i64 ((s.number : Int) + 1)) (.slice qa2 s.l.length qc2); have hT7 := hT6.set3 hne (fun x hx => (h5.at_ x (List.mem_of_mem_take hx)).off_new hle) (.int .i64 au) (.int .i64 ((s.number : Int) + 1)) (.slice qa2 s.l.length qc2); unfold set3 at hZ7 hT7; have hb8 := hb7; have hzp : w5.heap.size ≠ p := (by omega); have hzw : w5.heap.size ≠ w.heap.size := (by omega); generalize ((w6.setCell ⟨w5.heap.size, 0, none⟩ (.int .i64 au)).setCell ⟨w5.heap.size, 1, none⟩ (.int .i64 ((s.number : Int) + 1))).setCell ⟨w5.heap.size, 2, none⟩ (.slice qa2 s.l.length qc2) = w7 at hZ7 hT7 hb8 ⊢)
        have hTk : s.l.take s.l.length = s.l.take s.size := by
          first
            | rfl
            | rw [List.take_of_length_le (by omega), List.take_of_length_le (by omega)]
        rw [hTk] at hT7
        have h7 := h5.below hb8
        have k7 := k5.trans (Kept.of_below hb8)
        have hZw := hZ5.below hb8 hZ5.lt
        have e3 := h7.box.cell (i := 3) rfl
        have e4 := h7.box.cell (i := 4) rfl
        have f3 := h7.box.frozen 3
        have f4 := h7.box.frozen 4
        have y0 := hZ7.cell (i := 0) rfl
        have y1 := hZ7.cell (i := 1) rfl
        have y2 := hZ7.cell (i := 2) rfl
        have z0 := hZw.cell (i := 0) rfl
        have z1 := hZw.cell (i := 1) rfl
        have z2 := hZw.cell (i := 2) rfl
        have l0 := hZw.frozen 0
        have l1 := hZw.frozen 1
        have l2 := hZw.frozen 2
        have q0 : (0 : Int) ≤ (s.l.length : Int) := by omega
        have hln : 0 < s.l.length := by omega
        have hs1 := ok.size1
        rcases (by by_cases hcp : qc = s.l.length; exact Or.inl hcp; exact Or.inr hcp : qc = s.l.length ∨ ¬ qc = s.l.length) with hcp | hcp
        · have hfin := fun e he => refTick_fin hse hm.symm hln hs1 h h7 k7 (qc2 := qc2) hT7 hrb (some ⟨g, off, none⟩) (fun hn => absurd hcp hn) (fun k a b hk => by simpa [Value.ownBlock] using hk.symm) htk e he
          have hZF := ((hZw.other (p := ⟨p, 3, none⟩) hpz (.slice (some ⟨g, off, none⟩) (s.l.length - s.l.length) (qc - s.l.length))).other (p := ⟨p, 4, none⟩) hpz (.int .i64 0)).set3 (.int .i64 au) (.int .i64 ((s.number : Int) + 1)) (.slice qa2 s.l.length qc2)
          unfold set3 at hfin hZF
          try simp only [Nat.sub_self] at hfin hZF
          have hci := eq_true hcp
          clear hcp
          clear h7 k7 hT7 hZw hZ7 h5 k5 hZ5 hb8 hTl hTk hlN hm htk
          go_wp2
          refine bodyPost_ret (v := .tuple #[batV au ((s.number : Int) + 1) qa2 s.l.length qc2, .bool true]) (results_bat_tmp rfl _ _ w.heap.size au ((s.number : Int) + 1) qa2 s.l.length qc2 rfl hZF _ rfl) rfl ?_
          exact hfin _ rfl
        · have hfin := fun e he => refTick_fin hse hm.symm hln hs1 h h7 k7 (qc2 := qc2) hT7 hrb (some ⟨g, off + s.l.length * 9, none⟩) (fun _ => rfl) (fun k a b hk => by simpa [Value.ownBlock] using hk.symm) htk e he
          have hZF := ((hZw.other (p := ⟨p, 3, none⟩) hpz (.slice (some ⟨g, off + s.l.length * 9, none⟩) (s.l.length - s.l.length) (qc - s.l.length))).other (p := ⟨p, 4, none⟩) hpz (.int .i64 0)).set3 (.int .i64 au) (.int .i64 ((s.number : Int) + 1)) (.slice qa2 s.l.length qc2)
          unfold set3 at hfin hZF
          try simp only [Nat.sub_self] at hfin hZF
          have hci := eq_false hcp
          clear hcp
          clear h7 k7 hT7 hZw hZ7 h5 k5 hZ5 hb8 hTl hTk hlN hm htk
          go_wp2
          refine bodyPost_ret (v := .tuple #[batV au ((s.number : Int) + 1) qa2 s.l.length qc2, .bool true]) (results_bat_tmp rfl _ _ w.heap.size au ((s.number : Int) + 1) qa2 s.l.length qc2 rfl hZF _ rfl) rfl ?_
          exact hfin _ rfl
    · have d1 : ¬ (s.l.length : Int) < (s.size : Int) := by omega
      have d1' : decide ((s.l.length : Int) < (s.size : Int)) = false := decide_eq_false d1
      have hm : min s.size s.l.length = s.size := by omega
      have hnc : (s.size : Int) ≤ (qc : Int) := by omega
      have hnl : (s.size : Int) ≤ (s.l.length : Int) := by omega
      go_enter Try.func11, Try.ntmps11
      go_wp2_with fail
      go_quiet (fail)
      replace h1 : SlAt 46 (w2.drewN nq) base p (.slice (some ⟨g, off, none⟩) s.l.length qc) au { s with ticks := s.ticks + 1 } := h1.below (below_drewN (Below.refl _ _) nq)
      replace k1 : Kept (fun k => k = p) w (w2.drewN nq) := k1.trans (Kept.of_below (below_drewN (Below.refl _ _) nq))
      replace hZ1 : Arr (w2.drewN nq) w.heap.size 40 zeroB := hZ1
      have hap := h.apart (Nat.le_refl _)
      have hofz : ∀ x ∈ s.l, x.Off (fun k => k = w.heap.size) := fun x hx => (h.at_ x hx).off_new (Nat.le_refl _)
      clear hw2 b1 b2 b3 b4 c3 c4 f4 h0
      generalize w2.drewN nq = w3 at h1 k1 hZ1 ⊢
      have r1 := h1.box.cell (i := 1) rfl
      have r3 := h1.box.cell (i := 3) rfl
      go_wp2_with fail
      go_region
      replace h1 : SlAt 46 w3.drew base p (.slice (some ⟨g, off, none⟩) s.l.length qc) au { s with ticks := s.ticks + 1 } := h1.below (below_drewN (Below.refl _ _) 1)
      replace k1 : Kept (fun k => k = p) w w3.drew := k1.trans (Kept.of_below (below_drewN (Below.refl _ _) 1))
      replace hZ1 : Arr w3.drew w.heap.size 40 zeroB := hZ1
      clear r1 r3
      generalize w3.drew = w4 at h1 k1 hZ1 ⊢
      have e5 := h1.box.cell (i := 5) rfl
      have g5 := h1.box.frozen 5
      have h5 := h1.setNumber (s.number + 1)
      have k5 : Kept (fun k => k = p) w _ := k1.trans (Kept.setCell w4 ⟨p, 5, none⟩ (.int .i64 ((s.number + 1 : Nat) : Int)))
      have hZ5 := hZ1.other (p := ⟨p, 5, none⟩) hpz (.int .i64 ((s.number + 1 : Nat) : Int))
      obtain ⟨w5, hw5⟩ : ∃ q, w4.setCell ⟨p, 5, none⟩ (.int .i64 ((s.number : Int) + 1)) = q := ⟨_, rfl⟩
      have hnn : Hid ((s.number : Int) + 1 = ((s.number + 1 : Nat) : Int)) := by show _ = _; omega
      rw [← hnn.out, hw5] at h5 k5 hZ5
      clear h1 k1 hZ1
      have r0 := h5.box.cell (i := 0) rfl
      have r3 := h5.box.cell (i := 3) rfl
      have r5 := h5.box.cell (i := 5) rfl
      replace r5 : w5.cell? ⟨p, 5, none⟩ = some (.int .i64 ((s.number : Int) + 1)) := by rw [hnn.out]; exact r5
      have a0 : (w5.alloc (.cells #[] 33)).cell? ⟨p, 0, none⟩ = some (.int .i64 au) := (h5.box.alloc _).cell (i := 0) rfl
      have a3 : (w5.alloc (.cells #[] 33)).cell? ⟨p, 3, none⟩ = some (.slice (some ⟨g, off, none⟩) s.l.length qc) := (h5.box.alloc _).cell (i := 3) rfl
      have a5 : (w5.alloc (.cells #[] 33)).cell? ⟨p, 5, none⟩ = some (.int .i64 ((s.number : Int) + 1)) := by rw [hnn.out]; exact (h5.box.alloc _).cell (i := 5) rfl
      have b0 : (w5.alloc (.cells #[.int .i64 0, .int .i64 0, .slice none 0 0] 40)).cell? ⟨p, 0, none⟩ = some (.int .i64 au) := (h5.box.alloc _).cell (i := 0) rfl
      have b3 : (w5.alloc (.cells #[.int .i64 0, .int .i64 0, .slice none 0 0] 40)).cell? ⟨p, 3, none⟩ = some (.slice (some ⟨g, off, none⟩) s.l.length qc) := (h5.box.alloc _).cell (i := 3) rfl
      have b5 : (w5.alloc (.cells #[.int .i64 0, .int .i64 0, .slice none 0 0] 40)).cell? ⟨p, 5, none⟩ = some (.int .i64 ((s.number : Int) + 1)) := by rw [hnn.out]; exact (h5.box.alloc _).cell (i := 5) rfl
      have c0 : ((w5.alloc (.cells #[] 33)).alloc (.cells #[.int .i64 0, .int .i64 0, .slice none 0 0] 40)).cell? ⟨p, 0, none⟩ = some (.int .i64 au) := ((h5.box.alloc _).alloc _).cell (i := 0) rfl
      have c3 : ((w5.alloc (.cells #[] 33)).alloc (.cells #[.int .i64 0, .int .i64 0, .slice none 0 0] 40)).cell? ⟨p, 3, none⟩ = some (.slice (some ⟨g, off, none⟩) s.l.length qc) := ((h5.box.alloc _).alloc _).cell (i := 3) rfl
      have c5 : ((w5.alloc (.cells #[] 33)).alloc (.cells #[.int .i64 0, .int .i64 0, .slice none 0 0] 40)).cell? ⟨p, 5, none⟩ = some (.int .i64 ((s.number : Int) + 1)) := by rw [hnn.out]; exact ((h5.box.alloc _).alloc _).cell (i := 5) rfl
      have d0 : ((w5.alloc (.cells #[.int .i64 0, .int .i64 0, .slice none 0 0] 40)).alloc (.cells #[] 33)).cell? ⟨p, 0, none⟩ = some (.int .i64 au) := ((h5.box.alloc _).alloc _).cell (i := 0) rfl
      have d3 : ((w5.alloc (.cells #[.int .i64 0, .int .i64 0, .slice none 0 0] 40)).alloc (.cells #[] 33)).cell? ⟨p, 3, none⟩ = some (.slice (some ⟨g, off, none⟩) s.l.length qc) := ((h5.box.alloc _).alloc _).cell (i := 3) rfl
      have d5 : ((w5.alloc (.cells #[.int .i64 0, .int .i64 0, .slice none 0 0] 40)).alloc (.cells #[] 33)).cell? ⟨p, 5, none⟩ = some (.int .i64 ((s.number : Int) + 1)) := by rw [hnn.out]; exact ((h5.box.alloc _).alloc _).cell (i := 5) rfl
      obtain ⟨i0, hi, hz0, hz1, hz2⟩ := info_parts infoTx3'
      have hN0 : 0 < s.size := by have := ok.size1; omega
      have hsz5 : w.heap.size < w5.heap.size := hZ5.lt
      have hlN : (flatX (s.l.take s.size)).length = s.size * 9 := by rw [flatX_length, List.length_take]; omega
      have hrow5 : ∀ j u, (flatX s.l)[j]? = some u → w5.cell? ⟨g, off + j, none⟩ = some u := by
        intro j u hu
        obtain ⟨g', off', qc', hv, _, _, hc⟩ := h5.row.cells (by show 0 < s.l.length; omega)
        simp at hv
        obtain ⟨⟨rfl, rfl⟩, _⟩ := hv
        exact hc j u hu
      have hg5 : g < w5.heap.size := h5.lt g rfl
      have hnews : ∀ U, Below w5.heap.size w5 U → ∀ j u, (flatX (s.l.take s.size))[j]? = some u → U.cell? ((⟨g, off, none⟩ : Addr).add j) = some u := by
        intro U hU j u hu
        rw [Go.WideShapes.add_plain]
        refine (hU.cell (p := ⟨g, off + j, none⟩) hg5).trans (hrow5 j u ?_)
        rw [flatX_take, List.getElem?_take] at hu
        split at hu
        · exact hu
        · cases hu
      have h63 : 0 + s.size ≤ maxLen := by unfold maxLen; omega
      have hby : (0 + s.size) * 136 ≤ 140737488355328 := by omega
      have hkeep : ∀ U E w6, Below w5.heap.size w5 U → w5.heap.size ≤ E → U.grownBy w6 (some E) → Below w5.heap.size w5 w6 := fun U E w6 hb hE hgr =>
        ⟨hgr.os.trans hb.os, hgr.tape.trans hb.tape, hgr.output.trans hb.output, Nat.le_trans hb.size hgr.size, fun k hk => (hgr.block k (Nat.lt_of_lt_of_le hk hb.size) (by simp; omega)).trans (hb.block k hk)⟩
      have uE : Below w5.heap.size w5 (w5.drew.alloc (.cells #[] 33)) := (below_drewN (Below.refl _ w5) 1).alloc (Nat.le_refl _) _
      have uZ : Below w5.heap.size w5 (w5.drew.alloc (.cells #[.int .i64 0, .int .i64 0, .slice none 0 0] 40)) := (below_drewN (Below.refl _ w5) 1).alloc (Nat.le_refl _) _
      have uB : Below w5.heap.size w5 ((w5.drew.alloc (.cells #[] 33)).alloc (.cells #[.int .i64 0, .int .i64 0, .slice none 0 0] 40)) := uE.alloc uE.size _
      have uC : Below w5.heap.size w5 ((w5.drew.alloc (.cells #[.int .i64 0, .int .i64 0, .slice none 0 0] 40)).alloc (.cells #[] 33)) := uZ.alloc uZ.size _
      have zB : Arr ((w5.drew.alloc (.cells #[] 33)).alloc (.cells #[.int .i64 0, .int .i64 0, .slice none 0 0] 40)) (w5.heap.size + 1) 40 zeroB := by
        have := Arr.new (w5.drew.alloc (.cells #[] 33)) 40 zeroB
        rw [alloc_size] at this
        exact this
      have zC : Arr ((w5.drew.alloc (.cells #[.int .i64 0, .int .i64 0, .slice none 0 0] 40)).alloc (.cells #[] 33)) w5.heap.size 40 zeroB := (Arr.new w5.drew 40 zeroB).alloc _
      have hkp : ∀ U, Below w5.heap.size w5 U → (U.cell? ⟨p, 0, none⟩ = some (.int .i64 au) ∧ U.cell? ⟨p, 3, none⟩ = some (.slice (some ⟨g, off, none⟩) s.l.length qc) ∧ U.cell? ⟨p, 5, none⟩ = some (.int .i64 ((s.number : Int) + 1))) := fun U hU => ⟨(hU.cell (p := ⟨p, 0, none⟩) h5.box.lt).trans r0, (hU.cell (p := ⟨p, 3, none⟩) h5.box.lt).trans r3, (hU.cell (p := ⟨p, 5, none⟩) h5.box.lt).trans r5⟩
      have uD : Below w5.heap.size w5 w5.drew := below_drewN (Below.refl _ w5) 1
      have hS0 := hkp _ uD
      go_wp2_with fail
      go_region_held3 (fun w' => w'.cell? ⟨p, 0, none⟩ = some (.int .i64 au) ∧ w'.cell? ⟨p, 3, none⟩ = some (.slice (some ⟨g, off, none⟩) s.l.length qc) ∧ w'.cell? ⟨p, 5, none⟩ = some (.int .i64 ((s.number : Int) + 1))) (exact hkp _ (by assumption))
        (first
        | ((with_reducible show if Region.wanted { dst := some 74, op := _, type := _, pos := _, after := _, guard := _ } _ = true then Oper.wp _ _ _ ((w5.alloc (.cells #[] 33)).drew) _ _ else _); refine step_append_q _ (by rfl) _ _ 38 (by rfl) 33 i0 _ 9 136 Try.underlying38 hi hz0 hz1 hz2 rfl (by decide) w5.heap.size (.slice (some ⟨w5.heap.size, 0, none⟩) 0 0) 0 [] (by rfl) (QRow.nil _ _ _ _ _) ⟨g, off, none⟩ s.size qc (flatX (s.l.take s.size)) (by rfl) hN0 hlN (hnews _ uE) (flatX_one _) h63 hby uE.size ?_; intro q' w6 hrow hgr hfr; obtain ⟨qa2, qc2, rfl, hq1, hq2⟩ := QRow.form hrow; have hb6 := hkeep _ w5.heap.size w6 uE (Nat.le_refl _) hgr; have hfr2 : ∀ k, (Value.slice qa2 (0 + s.size) qc2).ownBlock = some k → w5.heap.size ≤ k := (fun k hk => (hfr k hk).elim (fun e => by injection e with e1; rw [← e1]; first | exact Nat.le_refl _ | exact Nat.le_succ _) (fun h => Nat.le_trans (Below.size uE) h)); have m0 := (hb6.cell (p := ⟨p, 0, none⟩) h5.box.lt).trans r0; have m5 := (hb6.cell (p := ⟨p, 5, none⟩) h5.box.lt).trans r5; have n0 := ((hb6.alloc hb6.size (.cells #[.int .i64 0, .int .i64 0, .slice none 0 0] 40)).cell (p := ⟨p, 0, none⟩) h5.box.lt).trans r0; have n5 := ((hb6.alloc hb6.size (.cells #[.int .i64 0, .int .i64 0, .slice none 0 0] 40)).cell (p := ⟨p, 5, none⟩) h5.box.lt).trans r5; have hb7 := hb6.alloc hb6.size (.cells #[.int .i64 0, .int .i64 0, .slice none 0 0] 40); have hb7f := hb6.alloc hb6.size (.cells #[.int .i64 au, .int .i64 ((s.number : Int) + 1), .slice qa2 s.size qc2] 40))
        | ((with_reducible show if Region.wanted { dst := some 74, op := _, type := _, pos := _, after := _, guard := _ } _ = true then Oper.wp _ _ _ (((w5.alloc (.cells #[.int .i64 0, .int .i64 0, .slice none 0 0] 40)).alloc (.cells #[] 33)).drew) _ _ else _); refine step_append_q _ (by rfl) _ _ 38 (by rfl) 33 i0 _ 9 136 Try.underlying38 hi hz0 hz1 hz2 rfl (by decide) w5.heap.size (.slice (some ⟨w5.heap.size + 1, 0, none⟩) 0 0) 0 [] (by rfl) (QRow.nil _ _ _ _ _) ⟨g, off, none⟩ s.size qc (flatX (s.l.take s.size)) (by rfl) hN0 hlN (hnews _ uC) (flatX_one _) h63 hby uC.size ?_; intro q' w6 hrow hgr hfr; obtain ⟨qa2, qc2, rfl, hq1, hq2⟩ := QRow.form hrow; have hb6 := hkeep _ (w5.heap.size + 1) w6 uC (Nat.le_succ _) hgr; have hfr2 : ∀ k, (Value.slice qa2 (0 + s.size) qc2).ownBlock = some k → w5.heap.size ≤ k := (fun k hk => (hfr k hk).elim (fun e => by injection e with e1; rw [← e1]; first | exact Nat.le_refl _ | exact Nat.le_succ _) (fun h => Nat.le_trans (Below.size uC) h)); have m0 := (hb6.cell (p := ⟨p, 0, none⟩) h5.box.lt).trans r0; have m5 := (hb6.cell (p := ⟨p, 5, none⟩) h5.box.lt).trans r5; have z6 := Arr.kept zC (Kept.of_grown hgr) (by simp [Value.ownBlock]); have y0 := z6.cell (i := 0) rfl; have y1 := z6.cell (i := 1) rfl; have y2 := z6.cell (i := 2) rfl; have l0 := z6.frozen 0; have l1 := z6.frozen 1; have l2 := z6.frozen 2; have hb7 := ((hb6.setCell (p := ⟨w5.heap.size, 0, none⟩) (Nat.le_refl _) (.int .i64 au)).setCell (p := ⟨w5.heap.size, 1, none⟩) (Nat.le_refl _) (.int .i64 ((s.number : Int) + 1))).setCell (p := ⟨w5.heap.size, 2, none⟩) (Nat.le_refl _) (.slice qa2 s.size qc2))
        | ((with_reducible show if Region.wanted { dst := some 74, op := _, type := _, pos := _, after := _, guard := _ } _ = true then Oper.wp _ _ _ (((w5.alloc (.cells #[] 33)).alloc (.cells #[.int .i64 0, .int .i64 0, .slice none 0 0] 40)).drew) _ _ else _); refine step_append_q _ (by rfl) _ _ 38 (by rfl) 33 i0 _ 9 136 Try.underlying38 hi hz0 hz1 hz2 rfl (by decide) w5.heap.size (.slice (some ⟨w5.heap.size, 0, none⟩) 0 0) 0 [] (by rfl) (QRow.nil _ _ _ _ _) ⟨g, off, none⟩ s.size qc (flatX (s.l.take s.size)) (by rfl) hN0 hlN (hnews _ uB) (flatX_one _) h63 hby uB.size ?_; intro q' w6 hrow hgr hfr; obtain ⟨qa2, qc2, rfl, hq1, hq2⟩ := QRow.form hrow; have hb6 := hkeep _ w5.heap.size w6 uB (Nat.le_refl _) hgr; have hfr2 : ∀ k, (Value.slice qa2 (0 + s.size) qc2).ownBlock = some k → w5.heap.size ≤ k := (fun k hk => (hfr k hk).elim (fun e => by injection e with e1; rw [← e1]; first | exact Nat.le_refl _ | exact Nat.le_succ _) (fun h => Nat.le_trans (Below.size uB) h)); have m0 := (hb6.cell (p := ⟨p, 0, none⟩) h5.box.lt).trans r0; have m5 := (hb6.cell (p := ⟨p, 5, none⟩) h5.box.lt).trans r5; have z6 := Arr.kept zB (Kept.of_grown hgr) (by simp [Value.ownBlock]); have y0 := z6.cell (i := 0) rfl; have y1 := z6.cell (i := 1) rfl; have y2 := z6.cell (i := 2) rfl; have l0 := z6.frozen 0; have l1 := z6.frozen 1; have l2 := z6.frozen 2; have hb7 := ((hb6.setCell (p := ⟨w5.heap.size + 1, 0, none⟩) (Nat.le_succ _) (.int .i64 au)).setCell (p := ⟨w5.heap.size + 1, 1, none⟩) (Nat.le_succ _) (.int .i64 ((s.number : Int) + 1))).setCell (p := ⟨w5.heap.size + 1, 2, none⟩) (Nat.le_succ _) (.slice qa2 s.size qc2)))
      all_goals
        rw [Nat.zero_add, List.nil_append] at hrow
        have hTl : s.size = (s.l.take s.size).length := by rw [List.length_take]; omega
        have hT6 := QRow.txs hrow hTl (fun x hx => (h5.at_ x (List.mem_of_mem_take hx)).below hb6)
        have hrb : ∀ b o, qa2 = some ⟨b, o, none⟩ → w.heap.size < b := fun b o e => Nat.lt_of_lt_of_le hsz5 (hfr2 b (by rw [e]; rfl))
        have hp5 : p < w5.heap.size := h5.box.lt
        first
          | (have hb8 := hb7f; have hZ7 := Arr.new w6 40 [.int .i64 au, .int .i64 ((s.number : Int) + 1), .slice qa2 s.size qc2]; have hT7 := hT6.below (belowNew w6 (.cells #[.int .i64 au, .int .i64 ((s.number : Int) + 1), .slice qa2 s.size qc2] 40)); have hle := hb6.size; have hzp : w6.heap.size ≠ p := (by omega); have hzw : w6.heap.size ≠ w.heap.size := (by omega); generalize w6.alloc (.cells #[.int .i64 au, .int .i64 ((s.number : Int) + 1), .slice qa2 s.size qc2] 40) = w7 at hZ7 hT7 hb8 ⊢)
          | (have hle : w5.heap.size ≤ (w5.heap.size + 1) := Nat.le_succ _; have hne : ∀ b o, qa2 = some ⟨b, o, none⟩ → b ≠ (w5.heap.size + 1) := (fun b o e => ne_box (hfr b (by rw [e]; rfl)) (by omega) (by show _ < ((w5.alloc _).alloc _).heap.size; rw [alloc_size, alloc_size]; omega)); have hZ7 := z6.set3 (.int .i64 au) (.int .i64 ((s.number : Int) + 1)) (.slice qa2 s.size qc2); have hT7 := hT6.set3 hne (fun x hx => (h5.at_ x (List.mem_of_mem_take hx)).off_new hle) (.int .i64 au) (.int .i64 ((s.number : Int) + 1)) (.slice qa2 s.size qc2); unfold set3 at hZ7 hT7; have hb8 := hb7; have hzp : (w5.heap.size + 1) ≠ p := (by omega); have hzw : (w5.heap.size + 1) ≠ w.heap.size := (by omega); generalize ((w6.setCell ⟨(w5.heap.size + 1), 0, none⟩ (.int .i64 au)).setCell ⟨(w5.heap.size + 1), 1, none⟩ (.int .i64 ((s.number : Int) + 1))).setCell ⟨(w5.heap.size + 1), 2, none⟩ (.slice qa2 s.size qc2) = w7 at hZ7 hT7 hb8 ⊢)
          | (have hle : w5.heap.size ≤ w5.heap.size := Nat.le_refl _; have hne : ∀ b o, qa2 = some ⟨b, o, none⟩ → b ≠ w5.heap.size := (fun b o e => ne_box (hfr b (by rw [e]; rfl)) (by omega) (by show _ < ((w5.alloc _).alloc _).heap.size; rw [alloc_size, alloc_size]; omega)); have hZ7 := z6.set3 (.int .i64 au) (.int .i64 ((s.number : Int) + 1)) (.slice qa2 s.size qc2); have hT7 := hT6.set3 hne (fun x hx => (h5.at_ x (List.mem_of_mem_take hx)).off_new hle) (.int .i64 au) (.int .i64 ((s.number : Int) + 1)) (.slice qa2 s.size qc2); unfold set3 at hZ7 hT7; have hb8 := hb7; have hzp : w5.heap.size ≠ p := (by omega); have hzw : w5.heap.size ≠ w.heap.size := (by omega); generalize ((w6.setCell ⟨w5.heap.size, 0, none⟩ (.int .i64 au)).setCell ⟨w5.heap.size, 1, none⟩ (.int .i64 ((s.number : Int) + 1))).setCell ⟨w5.heap.size, 2, none⟩ (.slice qa2 s.size qc2) = w7 at hZ7 hT7 hb8 ⊢)
        have hTk : s.l.take s.size = s.l.take s.size := by
          first
            | rfl
            | rw [List.take_of_length_le (by omega), List.take_of_length_le (by omega)]
        rw [hTk] at hT7
        have h7 := h5.below hb8
        have k7 := k5.trans (Kept.of_below hb8)
        have hZw := hZ5.below hb8 hZ5.lt
        have e3 := h7.box.cell (i := 3) rfl
        have e4 := h7.box.cell (i := 4) rfl
        have f3 := h7.box.frozen 3
        have f4 := h7.box.frozen 4
        have y0 := hZ7.cell (i := 0) rfl
        have y1 := hZ7.cell (i := 1) rfl
        have y2 := hZ7.cell (i := 2) rfl
        have z0 := hZw.cell (i := 0) rfl
        have z1 := hZw.cell (i := 1) rfl
        have z2 := hZw.cell (i := 2) rfl
        have l0 := hZw.frozen 0
        have l1 := hZw.frozen 1
        have l2 := hZw.frozen 2
        have q0 : (0 : Int) ≤ (s.size : Int) := by omega
        have hln : 0 < s.l.length := by omega
        have hs1 := ok.size1
        rcases (by by_cases hcp : qc = s.size; exact Or.inl hcp; exact Or.inr hcp : qc = s.size ∨ ¬ qc = s.size) with hcp | hcp
        · have hfin := fun e he => refTick_fin hse hm.symm hln hs1 h h7 k7 (qc2 := qc2) hT7 hrb (some ⟨g, off, none⟩) (fun hn => absurd hcp hn) (fun k a b hk => by simpa [Value.ownBlock] using hk.symm) htk e he
          have hZF := ((hZw.other (p := ⟨p, 3, none⟩) hpz (.slice (some ⟨g, off, none⟩) (s.l.length - s.size) (qc - s.size))).other (p := ⟨p, 4, none⟩) hpz (.int .i64 0)).set3 (.int .i64 au) (.int .i64 ((s.number : Int) + 1)) (.slice qa2 s.size qc2)
          unfold set3 at hfin hZF
          try simp only [Nat.sub_self] at hfin hZF
          have hci := eq_true hcp
          clear hcp
          clear h7 k7 hT7 hZw hZ7 h5 k5 hZ5 hb8 hTl hTk hlN hm htk
          go_wp2
          refine bodyPost_ret (v := .tuple #[batV au ((s.number : Int) + 1) qa2 s.size qc2, .bool true]) (results_bat_tmp rfl _ _ w.heap.size au ((s.number : Int) + 1) qa2 s.size qc2 rfl hZF _ rfl) rfl ?_
          exact hfin _ rfl
        · have hfin := fun e he => refTick_fin hse hm.symm hln hs1 h h7 k7 (qc2 := qc2) hT7 hrb (some ⟨g, off + s.size * 9, none⟩) (fun _ => rfl) (fun k a b hk => by simpa [Value.ownBlock] using hk.symm) htk e he
          have hZF := ((hZw.other (p := ⟨p, 3, none⟩) hpz (.slice (some ⟨g, off + s.size * 9, none⟩) (s.l.length - s.size) (qc - s.size))).other (p := ⟨p, 4, none⟩) hpz (.int .i64 0)).set3 (.int .i64 au) (.int .i64 ((s.number : Int) + 1)) (.slice qa2 s.size qc2)
          unfold set3 at hfin hZF
          try simp only [Nat.sub_self] at hfin hZF
          have hci := eq_false hcp
          clear hcp
          clear h7 k7 hT7 hZw hZ7 h5 k5 hZ5 hb8 hTl hTk hlN hm htk
          go_wp2
          refine bodyPost_ret (v := .tuple #[batV au ((s.number : Int) + 1) qa2 s.size qc2, .bool true]) (results_bat_tmp rfl _ _ w.heap.size au ((s.number : Int) + 1) qa2 s.size qc2 rfl hZF _ rfl) rfl ?_
          exact hfin _ rfl
  · have hse' : s.seals = false := by simpa using hse
    have hcond : s.l.length < s.size ∧ s.ticks + 1 < s.wait := by
      have := (not_congr (Seal.seals_iff s)).1 hse
      rw [not_and, not_or] at this
      have := this hne
      omega
    have htk : s.tick = { s with ticks := s.ticks + 1 } := by unfold Seal.tick; rw [if_neg hne, if_neg hse]
    rw [← htk] at h1
    have b3 := h1.box.cell (i := 3) rfl
    have b1 := h1.box.cell (i := 1) rfl
    have b2 := h1.box.cell (i := 2) rfl
    have b4 := h1.box.cell (i := 4) rfl
    rw [htk] at b1 b2 b4
    replace b4 : w2.cell? ⟨p, 4, none⟩ = some (.int .i64 ((s.ticks : Int) + 1)) := by rw [hti.out]; exact b4
    have d1 : (s.l.length : Int) < (s.size : Int) := by omega
    have d2 : (s.ticks : Int) + 1 < (s.wait : Int) := by omega
    have z0 := hZ1.cell (i := 0) rfl
    have z1 := hZ1.cell (i := 1) rfl
    have z2 := hZ1.cell (i := 2) rfl
    have g0 := hZ1.frozen 0
    have g1 := hZ1.frozen 1
    have g2 := hZ1.frozen 2
    go_enter Try.func11, Try.ntmps11
    go_wp2_with fail
    go_quiet (fail)
    replace h1 : SlAt 46 (w2.drewN nq) base p (.slice qa s.l.length qc) au s.tick := h1.below (below_drewN (Below.refl _ _) nq)
    replace k1 : Kept (fun k => k = p) w (w2.drewN nq) := k1.trans (Kept.of_below (below_drewN (Below.refl _ _) nq))
    replace hZ1 : Arr (w2.drewN nq) w.heap.size 40 zeroB := hZ1
    have hlt : s.tick.l = s.l := by rw [htk]
    have hap := h.apart (Nat.le_refl _)
    have hofz : ∀ x ∈ s.tick.l, x.Off (fun k => k = w.heap.size) := fun x hx => (h.at_ x (by rw [← hlt]; exact hx)).off_new (Nat.le_refl _)
    clear hw2 b1 b2 b3 b4 c3 c4 f4 h0
    generalize w2.drewN nq = w3 at h1 k1 hZ1 ⊢
    have z0 := hZ1.cell (i := 0) rfl
    have z1 := hZ1.cell (i := 1) rfl
    have z2 := hZ1.cell (i := 2) rfl
    have g0 := hZ1.frozen 0
    have g1 := hZ1.frozen 1
    have g2 := hZ1.frozen 2
    have hfin := fun e he => ticked_no (e := e) hse' (h1.set3 hap hofz (.int .i64 0) (.int .i64 0) (.slice none 0 0)) (k1.set3 (Nat.le_refl _) (.int .i64 0) (.int .i64 0) (.slice none 0 0)) he
    have hZF := hZ1.set3 (.int .i64 0) (.int .i64 0) (.slice none 0 0)
    unfold set3 at hfin hZF
    clear h1 k1 hZ1 hofz hap
    go_wp2
    refine bodyPost_ret (v := .tuple #[batV 0 0 none 0 0, .bool false]) (results_bat_tmp rfl _ _ w.heap.size 0 0 none 0 0 rfl hZF _ rfl) rfl ?_
    exact hfin _ rfl
end Go.Proofs.Ytibfnefdpbdkoaa
