/- What tuskref05.NewSealer and Add do. -/
import Derived.Test.YtibfnefdpbdkoaaBatSealer
import Derived.Test.YtibfnefdpbdkoaaRefTxRight
import Derived.Test.YtibfnefdpbdkoaaTxReader
namespace Go.Proofs.Ytibfnefdpbdkoaa
open Go.RowKit
set_option linter.unusedVariables false

theorem infoTx3' : (Try.prog.info? 33).map (fun i => (i.zero, i.size, i.bytes)) = some (some (.agg #[.int .i64 0, .string ⟨#[]⟩, .string ⟨#[]⟩, .int .u64 0, .int .u64 0, .string ⟨#[]⟩, .string ⟨#[]⟩, .slice none 0 0, .slice none 0 0]), 9, 136) := by kernel_rfl

set_option maxRecDepth 100000 in
theorem refNewSealer_no (au size wait : Int) (w : World) (h : au < 0 ∨ 6 < au ∨ size < 1 ∨ 16 < size ∨ wait < 1 ∨ 1000 < wait) :
    Calls Try.prog 6 #[.int .i64 au, .int .i64 size, .int .i64 wait] w fun e w' => e = .returned (.tuple #[.pointer none, .int .i64 2]) ∧ w' = w := by
  by_cases h0 : au < 0
  · go_enter Try.func6, Try.ntmps6
    go_wp2
    go_ret2
    exact ⟨rfl, rfl⟩
  have d0 : decide (au < 0) = false := decide_eq_false h0
  by_cases h1 : 6 < au
  · go_enter Try.func6, Try.ntmps6
    go_wp2
    go_ret2
    exact ⟨rfl, rfl⟩
  have d1 : decide (6 < au) = false := decide_eq_false h1
  by_cases h2 : size < 1
  · go_enter Try.func6, Try.ntmps6
    go_wp2
    go_ret2
    exact ⟨rfl, rfl⟩
  have d2 : decide (size < 1) = false := decide_eq_false h2
  by_cases h3 : 16 < size
  · go_enter Try.func6, Try.ntmps6
    go_wp2
    go_ret2
    exact ⟨rfl, rfl⟩
  have d3 : decide (16 < size) = false := decide_eq_false h3
  by_cases h4 : wait < 1
  · go_enter Try.func6, Try.ntmps6
    go_wp2
    go_ret2
    exact ⟨rfl, rfl⟩
  have d4 : decide (wait < 1) = false := decide_eq_false h4
  have h5 : 1000 < wait := by omega
  go_enter Try.func6, Try.ntmps6
  go_wp2
  go_ret2
  exact ⟨rfl, rfl⟩

set_option maxRecDepth 100000 in
theorem refNewSealer_yes (au : Int) (size wait : Nat) (w : World) (h0 : 0 ≤ au) (h1 : au ≤ 6) (h2 : 1 ≤ size) (h3 : size ≤ 16) (h4 : 1 ≤ wait) (h5 : wait ≤ 1000) :
    Calls Try.prog 6 #[.int .i64 au, .int .i64 (size : Int), .int .i64 (wait : Int)] w fun e w' => e = .returned (.tuple #[.pointer (some ⟨w.heap.size, 0, none⟩), .int .i64 0]) ∧ SlAt 46 w' w.heap.size w.heap.size (.slice none 0 0) au (Seal.new size wait) ∧ Below w.heap.size w w' := by
  have d0 : decide (au < 0) = false := decide_eq_false (by omega)
  have d00 : decide (6 < au) = false := decide_eq_false (by omega)
  have d1 : decide ((size : Int) < 1) = false := decide_eq_false (by omega)
  have d2 : decide (16 < (size : Int)) = false := decide_eq_false (by omega)
  have d3 : decide ((wait : Int) < 1) = false := decide_eq_false (by omega)
  have d4 : decide (1000 < (wait : Int)) = false := decide_eq_false (by omega)
  have hS := SlAt.new 46 w au size wait
  have hB := belowNew w (.cells #[.int .i64 au, .int .i64 (size : Int), .int .i64 (wait : Int), .slice none 0 0, .int .i64 0, .int .i64 0] 46)
  go_enter Try.func6, Try.ntmps6
  go_wp2
  go_ret2
  exact ⟨rfl, hS, hB⟩

set_option maxRecDepth 100000 in
set_option maxHeartbeats 4000000 in
theorem refAdd_any {base p : Nat} {q : Value} {au : Int} {s : Seal TxM} (x : TxM) (w : World) (h : SlAt 46 w base p q au s) (ok : s.Ok) (hx : x.At w) (hxo : x.Off (SlB p q)) (hsz : TxSizes x.d) :
    Calls Try.prog 9 #[.pointer (some ⟨p, 0, none⟩), x.v] w fun e w' => AddedX 46 w base p q au s x e w' := by
  have hX := Arr.new w 33 x.c
  have hB := belowNew w (.cells x.c.toArray 33)
  have cC := fun w1 (h : TxAt w1 x.d x.ra x.wa) => refCheck_any x.d x.ra x.rc x.wa x.wc w1 h hsz
  obtain ⟨hc0, hc⟩ : ∃ c, Hid (c = checkL x.d) := ⟨_, rfl⟩
  rw [← hc.out] at cC
  have hx0 := hx.below hB
  by_cases h1 : hc0 ≠ 0
  · have hE : addE s x.d = hc0 := by unfold addE; rw [← hc.out, if_pos h1]
    have hfin := fun w' hb e he => addedX_no (w' := w') h x (by rw [hE]; exact h1) hb e he
    rw [hE] at hfin
    have h1' : ((hc0 : Int) != 0) = true := by rw [bne_iff_ne]; omega
    unfold TxM.v txV
    go_enter Try.func9, Try.ntmps9
    go_wp2_with fail
    refine (cC _ hx0.at_).mono ?_
    rintro e w1 ⟨rfl, hb1⟩
    go_wp2
    go_ret
    exact hfin _ (hB.trans (hb1.mono hB.size)) _ rfl
  have h1' : hc0 = 0 := by omega
  subst h1'
  have hrm := ok.room
  have hsz16 := ok.size16
  obtain ⟨qa, qc, rfl, hf1, hf2⟩ := h.row.form
  by_cases h2 : 4 * s.size ≤ s.l.length
  · have hE : addE s x.d = 4 := by unfold addE; rw [← hc.out, if_neg (by simp), if_pos h2]
    have hfin := fun w' hb e he => addedX_no (w' := w') h x (by rw [hE]; simp) hb e he
    rw [hE] at hfin
    have he2 : (4 * (s.size : Int)) ≤ (s.l.length : Int) := by omega
    unfold TxM.v txV
    go_enter Try.func9, Try.ntmps9
    go_wp2_with fail
    refine (cC _ hx0.at_).mono ?_
    rintro e w1 ⟨rfl, hb1⟩
    have hB1 := hB.trans (hb1.mono hB.size)
    have h1 := h.below hB1
    have c3 := h1.box.cell (i := 3) rfl
    have c1 := h1.box.cell (i := 1) rfl
    clear hb1 cC hx0 hX
    go_wp2_with fail
    go_quiet (fail)
    have hBf := below_drewN hB1 nq
    generalize w1.drewN nq = w2 at hBf ⊢
    go_wp2
    go_ret
    exact hfin _ hBf _ rfl
  have hE : addE s x.d = 0 := by unfold addE; rw [← hc.out, if_neg (by simp), if_neg h2]
  have he2 : decide (4 * (s.size : Int) ≤ (s.l.length : Int)) = false := decide_eq_false (by omega)
  unfold TxM.v txV
  go_enter Try.func9, Try.ntmps9
  go_wp2_with fail
  refine (cC _ hx0.at_).mono ?_
  rintro e w1 ⟨rfl, hb1⟩
  have hB1 := hB.trans (hb1.mono hB.size)
  have hX1 := hX.below hb1 hX.lt
  have h1 := h.below hB1
  have c3 := h1.box.cell (i := 3) rfl
  have c1 := h1.box.cell (i := 1) rfl
  clear hb1 cC hx0 hX h1
  go_wp2_with fail
  go_quiet (fail)
  have hBF := below_drewN hB1 nq
  replace hX1 : Arr (w1.drewN nq) w.heap.size 33 x.c := hX1
  clear c3 c1 hB1 hB
  generalize w1.drewN nq = wF at hBF hX1 ⊢
  have hF := h.below hBF
  have hy := hx.below hBF
  have c3 := hF.box.cell (i := 3) rfl
  have g3 := hF.box.frozen 3
  obtain ⟨t0, t1, t2, t3, t4, t5, t6, t7, t8⟩ := hX1.cells9
  have hW5 := belowNew wF.drew (.cells x.c.toArray 33)
  have hF5 := (hF.below (below_drewN (Below.refl _ _) 1)).below hW5
  have hN5 := Arr.new wF.drew 33 x.c
  have c35 : (wF.alloc (.cells #[.int .i64 x.d.kind, .string x.d.frm, .string x.d.to, .int .u64 (x.d.amt : Int), .int .u64 (x.d.non : Int), .string x.d.key, .string x.d.val, .slice x.ra x.d.rs.length x.rc, .slice x.wa x.d.ws.length x.wc] 33)).cell? ⟨p, 3, none⟩ = some (.slice qa s.l.length qc) := (hF.box.alloc _).cell (i := 3) rfl
  obtain ⟨i0, hi, hz0, hz1, hz2⟩ := info_parts infoTx3'
  have hbs : base ≤ (wF.drew.alloc (.cells x.c.toArray 33)).heap.size := by
    have k1 := h.bp
    have k2 := hBF.size
    have k3 := h.own.2
    rw [alloc_size]
    show base ≤ wF.heap.size + 1
    omega
  have h63 : s.l.length + 1 ≤ maxLen := by unfold maxLen; omega
  have hby : (s.l.length + 1) * 136 ≤ 140737488355328 := by omega
  have hone : ∀ u ∈ x.c, u.oneCell' = true := by
    have := flatX_one [x]
    simpa [flatX] using this
  have hnews : ∀ j u, x.c[j]? = some u → (wF.drew.alloc (.cells x.c.toArray 33)).cell? ((⟨wF.heap.size, 0, none⟩ : Addr).add j) = some u := by
    intro j u hu
    rw [Go.WideShapes.add_plain, Nat.zero_add]
    exact hN5.cell hu
  go_wp2_with fail
  go_region_law (first
    | (refine step_append_q _ (by rfl) _ _ 38 (by rfl) 33 i0 _ 9 136 Try.underlying38 hi hz0 hz1 hz2 rfl (by decide) base _ s.l.length (flatX s.l) (by rfl) hF5.row ⟨wF.heap.size, 0, none⟩ 1 1 x.c (by rfl) (by decide) rfl hnews hone h63 hby hbs ?_; intro q' w6 hrow hgr hfr; obtain ⟨qa2, qc2, rfl, hq1, hq2⟩ := QRow.form hrow; have hbox6 := hF5.box.kept (Kept.of_grown hgr) hF5.ne; have c36 := hbox6.cell (i := 3) rfl; have g36 := hbox6.frozen 3))
  all_goals
    have hfin := addedX_yes h x hE hBF hy hxo ((below_drewN (Below.refl _ wF) 1).trans hW5) hrow hgr hfr _ rfl
    clear hgr hrow hbox6 c36 g36 hfr
    generalize w6.setCell _ _ = w7 at hfin ⊢
    go_wp2
    go_ret
    exact hfin
end Go.Proofs.Ytibfnefdpbdkoaa
