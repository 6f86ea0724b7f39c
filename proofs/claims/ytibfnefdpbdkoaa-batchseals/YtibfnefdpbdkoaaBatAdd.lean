/- What Add does. -/
import Derived.Test.YtibfnefdpbdkoaaBatSealer
import Derived.Test.YtibfnefdpbdkoaaTxReader
namespace Go.Proofs.Ytibfnefdpbdkoaa
open Go.RowKit
set_option linter.unusedVariables false

def zeroTx : Value := .agg #[.int .i64 0, .string ⟨#[]⟩, .string ⟨#[]⟩, .int .u64 0, .int .u64 0, .string ⟨#[]⟩, .string ⟨#[]⟩, .slice none 0 0, .slice none 0 0]

theorem infoTx3 : (Try.prog.info? 33).map (fun i => (i.zero, i.size, i.bytes)) = some (some zeroTx, 9, 136) := by kernel_rfl

set_option maxRecDepth 100000 in
set_option maxHeartbeats 4000000 in
theorem add_any {base p : Nat} {q : Value} {au : Int} {s : Seal TxM} (x : TxM) (w : World) (h : SlAt 55 w base p q au s) (ok : s.Ok) (hx : x.At w) (hl1 : x.d.rs.length * 16 ≤ 140737488351232) (hl2 : x.d.ws.length * 16 ≤ 140737488351232) :
    Calls Try.prog 7 #[.pointer (some ⟨p, 0, none⟩), x.v] w fun e w' => Added 55 w base p q au s x.d true e w' := by
  have hX := Arr.new w 33 x.c
  have hB := belowNew w (.cells x.c.toArray 33)
  have cC := fun w1 (h : TxAt w1 x.d x.ra x.wa) => check_any x.d x.ra x.rc x.wa x.wc w1 h
  obtain ⟨hc0, hc⟩ : ∃ c, Hid (c = checkL x.d) := ⟨_, rfl⟩
  rw [← hc.out] at cC
  have hx0 := hx.below hB
  by_cases h1 : hc0 ≠ 0
  · have hE : addE s x.d = hc0 := by unfold addE; rw [← hc.out, if_pos h1]
    have hfin := fun w' hb e he => added_no (w' := w') h x (by rw [hE]; exact h1) hb e he
    rw [hE] at hfin
    have h1' : ((hc0 : Int) != 0) = true := by rw [bne_iff_ne]; omega
    unfold TxM.v txV
    go_enter Try.func7, Try.ntmps7
    go_wp2_with fail
    refine (cC _ hx0.at_).mono ?_
    rintro e w1 ⟨rfl, hb1⟩
    go_wp2
    go_ret
    exact hfin _ (hB.trans (hb1.mono hB.size)) _ rfl
  have h1' : hc0 = 0 := by omega
  subst h1'
  have hrm := ok.room
  have hsz16 := ok.size16
  obtain ⟨qa, qc, rfl, hf1, hf2⟩ := h.row.form
  by_cases h2 : 4 * s.size ≤ s.l.length
  · have hE : addE s x.d = 4 := by unfold addE; rw [← hc.out, if_neg (by simp), if_pos h2]
    have hfin := fun w' hb e he => added_no (w' := w') h x (by rw [hE]; simp) hb e he
    rw [hE] at hfin
    have he2 : ((s.l.length : Int) == 4 * (s.size : Int)) = true := by rw [beq_iff_eq]; omega
    unfold TxM.v txV
    go_enter Try.func7, Try.ntmps7
    go_wp2_with fail
    refine (cC _ hx0.at_).mono ?_
    rintro e w1 ⟨rfl, hb1⟩
    have hB1 := hB.trans (hb1.mono hB.size)
    have h1 := h.below hB1
    have c3 := h1.box.cell (i := 3) rfl
    have c1 := h1.box.cell (i := 1) rfl
    clear hb1 cC hx0 hX
    go_wp2_with fail
    go_quiet (fail)
    have hBf := below_drewN hB1 nq
    generalize w1.drewN nq = w2 at hBf ⊢
    go_wp2
    go_ret
    exact hfin _ hBf _ rfl
  have hE : addE s x.d = 0 := by unfold addE; rw [← hc.out, if_neg (by simp), if_neg h2]
  have he2 : ((s.l.length : Int) == 4 * (s.size : Int)) = false := beq_eq_false_iff_ne.2 (by omega)
  unfold TxM.v txV
  go_enter Try.func7, Try.ntmps7
  go_wp2_with fail
  refine (cC _ hx0.at_).mono ?_
  rintro e w1 ⟨rfl, hb1⟩
  have hB1 := hB.trans (hb1.mono hB.size)
  have hX1 := hX.below hb1 hX.lt
  have h1 := h.below hB1
  have c3 := h1.box.cell (i := 3) rfl
  have c1 := h1.box.cell (i := 1) rfl
  clear hb1 cC hx0 hX h1
  go_wp2_with fail
  go_quiet (fail)
  have hBf := below_drewN hB1 nq
  replace hX1 : Arr (w1.drewN nq) w.heap.size 33 x.c := hX1
  clear c3 c1 hB1 hB
  generalize w1.drewN nq = w2 at hBf hX1 ⊢
  have x7 := hX1.cell (i := 7) rfl
  have x8 := hX1.cell (i := 8) rfl
  have f7 := hX1.frozen 7
  have f8 := hX1.frozen 8
  have hx2 := hx.below hBf
  have cR := fun w1 (h : StrsAt w1 x.ra x.d.rs) => copied_any x.ra x.rc x.d.rs w1 h hx.nr hl1
  have cW := fun w1 (h : StrsAt w1 x.wa x.d.ws) => copied_any x.wa x.wc x.d.ws w1 h hx.nw hl2
  go_wp2_with fail
  have hbd : Below w2.heap.size w2 w2.drew := below_drewN (Below.refl _ _) 1
  have hX2 : Arr w2.drew w.heap.size 33 x.c := hX1
  go_region_law (first
    | (go_simp; go_at_call 20; refine (cR _ (hx2.at_.rd.below hbd)).mono ?_; rintro e wA ⟨aA, nA, rfl, hoA, hnA, hbA⟩; have hXA := hX2.below hbA hX2.lt; have x7a := hXA.cell (i := 7) rfl; have x8a := hXA.cell (i := 8) rfl; have f7a := hXA.frozen 7; have f8a := hXA.frozen 8; have hbA2 := hbd.trans (Below.mono hbA hbd.size))
    | (go_simp; go_at_call 20; refine (cW _ (hx2.at_.wr.below hbA2)).mono ?_; rintro e wB ⟨aB, nB, rfl, hoB, hnB, hbB⟩; have hXB := hXA.below hbB hXA.lt; have x7b := hXB.cell (i := 7) rfl; have x8b := hXB.cell (i := 8) rfl; have f7b := hXB.frozen 7; have f8b := hXB.frozen 8; have hbB2 := hbA2.trans (Below.mono hbB hbA2.size)))
  all_goals
    have hXF : Arr _ w.heap.size 33 (TxM.c ⟨x.d, aA, nA, aB, nB⟩) := (hXB.set 7 (.slice aA x.d.rs.length nA)).set 8 (.slice aB x.d.ws.length nB)
    have hSA : OwnStrs (w.heap.size + 1) wB aA x.d.rs := (hoA.mono (by show _ ≤ w2.heap.size; exact hX1.lt)).below hbB
    have hSB : OwnStrs (w.heap.size + 1) wB aB x.d.ws := hoB.mono (hXA.lt)
    have hSA2 := (hSA.put (p := ⟨w.heap.size, 7, none⟩) (Nat.lt_succ_self _) (.slice aA x.d.rs.length nA)).put (p := ⟨w.heap.size, 8, none⟩) (Nat.lt_succ_self _) (.slice aB x.d.ws.length nB)
    have hSB2 := (hSB.put (p := ⟨w.heap.size, 7, none⟩) (Nat.lt_succ_self _) (.slice aA x.d.rs.length nA)).put (p := ⟨w.heap.size, 8, none⟩) (Nat.lt_succ_self _) (.slice aB x.d.ws.length nB)
    have hBF : Below w.heap.size w _ := ((hBf.trans (hbB2.mono hBf.size)).setCell (p := ⟨w.heap.size, 7, none⟩) (Nat.le_refl _) (.slice aA x.d.rs.length nA)).setCell (p := ⟨w.heap.size, 8, none⟩) (Nat.le_refl _) (.slice aB x.d.ws.length nB)
    clear hbA hbB hXA hXB x7a x8a f7a f8a x7b x8b f7b f8b hbA2 hbB2 hoA hoB hSA hSB
    generalize (World.setCell _ ⟨w.heap.size, 8, none⟩ _) = wF at hXF hSA2 hSB2 hBF ⊢
    have hF := h.below hBF
    have hy : TxM.At ⟨x.d, aA, nA, aB, nB⟩ wF := ⟨⟨hSA2.at, hSB2.at⟩, hnA, hnB⟩
    have hyo : TxM.Off ⟨x.d, aA, nA, aB, nB⟩ (fun k => k ≤ w.heap.size) := by
      refine ⟨fun b off e hl hk => ?_, fun b off e hl hk => ?_⟩
      · obtain ⟨b', off', e', h2, _⟩ := hSA2 0 hl
        rw [show aA = some ⟨b, off, none⟩ from e] at e'
        have hk' : b ≤ w.heap.size := hk
        simp at e'
        try omega
      · obtain ⟨b', off', e', h2, _⟩ := hSB2 0 hl
        rw [show aB = some ⟨b, off, none⟩ from e] at e'
        have hk' : b ≤ w.heap.size := hk
        simp at e'
        try omega
    have hpl := h.own.2
    have hyq : TxM.Off ⟨x.d, aA, nA, aB, nB⟩ (SlB p (.slice qa s.l.length qc)) := hyo.mono (fun k hk => by
      rcases hk with rfl | hk
      · exact Nat.le_of_lt hpl
      · exact Nat.le_of_lt (h.lt k hk))
    have c3 := hF.box.cell (i := 3) rfl
    have g3 := hF.box.frozen 3
    obtain ⟨t0, t1, t2, t3, t4, t5, t6, t7, t8⟩ := hXF.cells9
    have hW5 := belowNew wF.drew (.cells (TxM.c ⟨x.d, aA, nA, aB, nB⟩).toArray 33)
    have hF5 := (hF.below (below_drewN (Below.refl _ _) 1)).below hW5
    have hN5 := Arr.new wF.drew 33 (TxM.c ⟨x.d, aA, nA, aB, nB⟩)
    have c35 : (wF.alloc (.cells #[.int .i64 x.d.kind, .string x.d.frm, .string x.d.to, .int .u64 (x.d.amt : Int), .int .u64 (x.d.non : Int), .string x.d.key, .string x.d.val, .slice aA x.d.rs.length nA, .slice aB x.d.ws.length nB] 33)).cell? ⟨p, 3, none⟩ = some (.slice qa s.l.length qc) := (hF.box.alloc _).cell (i := 3) rfl
    obtain ⟨i0, hi, hz0, hz1, hz2⟩ := info_parts infoTx3
    have hbs : base ≤ (wF.drew.alloc (.cells (TxM.c ⟨x.d, aA, nA, aB, nB⟩).toArray 33)).heap.size := by
      have k1 := h.bp
      have k2 := hBF.size
      rw [alloc_size]
      show base ≤ wF.heap.size + 1
      omega
    have h63 : s.l.length + 1 ≤ maxLen := by unfold maxLen; omega
    have hby : (s.l.length + 1) * 136 ≤ 140737488355328 := by omega
    have hone : ∀ u ∈ (TxM.c ⟨x.d, aA, nA, aB, nB⟩), u.oneCell' = true := by
      have := flatX_one [⟨x.d, aA, nA, aB, nB⟩]
      simpa [flatX] using this
    have hnews : ∀ j u, (TxM.c ⟨x.d, aA, nA, aB, nB⟩)[j]? = some u → (wF.drew.alloc (.cells (TxM.c ⟨x.d, aA, nA, aB, nB⟩).toArray 33)).cell? ((⟨wF.heap.size, 0, none⟩ : Addr).add j) = some u := by
      intro j u hu
      rw [Go.WideShapes.add_plain, Nat.zero_add]
      exact hN5.cell hu
    go_wp2_with fail
    go_region_law (first
      | (refine step_append_q _ (by rfl) _ _ 38 (by rfl) 33 i0 zeroTx 9 136 Try.underlying38 hi hz0 hz1 hz2 rfl (by decide) base _ s.l.length (flatX s.l) (by rfl) hF5.row ⟨wF.heap.size, 0, none⟩ 1 1 (TxM.c ⟨x.d, aA, nA, aB, nB⟩) (by rfl) (by decide) rfl hnews hone h63 hby hbs ?_; intro q' w6 hrow hgr hfr; obtain ⟨qa2, qc2, rfl, hq1, hq2⟩ := QRow.form hrow; have hbox6 := hF5.box.kept (Kept.of_grown hgr) hF5.ne; have c36 := hbox6.cell (i := 3) rfl; have g36 := hbox6.frozen 3))
    all_goals
      have hfin := (addedX_yes h ⟨x.d, aA, nA, aB, nB⟩ hE hBF hy hyq ((below_drewN (Below.refl _ wF) 1).trans hW5) hrow hgr hfr _ rfl).added
      clear hgr hrow hbox6 c36 g36 hfr
      generalize w6.setCell _ _ = w7 at hfin ⊢
      go_wp2
      go_ret
      exact hfin
end Go.Proofs.Ytibfnefdpbdkoaa
