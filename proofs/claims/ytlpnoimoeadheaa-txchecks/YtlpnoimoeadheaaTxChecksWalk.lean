/- tusklaw04.TxChecks answers true at every transaction; nothing old in memory is turned. -/
import Derived.Test.YtlpnoimoeadheaaRefTxNeeds
import Derived.Test.YtlpnoimoeadheaaRefTxSame
import Derived.Deep.RegionHeld3
namespace Go.Proofs.Ytlpnoimoeadheaa
open Go.RowKit
set_option linter.unusedVariables false

/-- Two transactions that read the same, each in a block. -/
structure Two (W : World) (b1 b3 : Nat) (d : TxD) (ra : Option Addr) (rc : Nat) (wa : Option Addr) (wc : Nat) (r1 : Option Addr) (r2 : Nat) (r3 : Option Addr) (r4 : Nat) (w : World) : Prop where
  x1 : Arr w b1 25 (txC d ra rc wa wc)
  x3 : Arr w b3 25 (txC d r1 r2 r3 r4)
  a1 : TxAt w d ra wa
  a3 : TxAt w d r1 r3
  bel : Below W.heap.size W w

theorem Two.below {W : World} {b1 b3 : Nat} {d : TxD} {ra : Option Addr} {rc : Nat} {wa : Option Addr} {wc : Nat} {r1 : Option Addr} {r2 : Nat} {r3 : Option Addr} {r4 : Nat} {w w' : World} (h : Two W b1 b3 d ra rc wa wc r1 r2 r3 r4 w) (hb : Below w.heap.size w w') : Two W b1 b3 d ra rc wa wc r1 r2 r3 r4 w' :=
  ⟨h.x1.below hb h.x1.lt, h.x3.below hb h.x3.lt, h.a1.below hb, h.a3.below hb, h.bel.trans (hb.mono h.bel.size)⟩

theorem Two.cells {W : World} {b1 b3 : Nat} {d : TxD} {ra : Option Addr} {rc : Nat} {wa : Option Addr} {wc : Nat} {r1 : Option Addr} {r2 : Nat} {r3 : Option Addr} {r4 : Nat} {w : World} (h : Two W b1 b3 d ra rc wa wc r1 r2 r3 r4 w) :
    (w.cell? ⟨b1, 0, none⟩ = some (.int .i64 d.kind) ∧ w.cell? ⟨b1, 1, none⟩ = some (.string d.frm) ∧ w.cell? ⟨b1, 2, none⟩ = some (.string d.to) ∧ w.cell? ⟨b1, 3, none⟩ = some (.int .u64 (d.amt : Int)) ∧ w.cell? ⟨b1, 4, none⟩ = some (.int .u64 (d.non : Int)) ∧ w.cell? ⟨b1, 5, none⟩ = some (.string d.key) ∧ w.cell? ⟨b1, 6, none⟩ = some (.string d.val) ∧ w.cell? ⟨b1, 7, none⟩ = some (.slice ra d.rs.length rc) ∧ w.cell? ⟨b1, 8, none⟩ = some (.slice wa d.ws.length wc)) ∧
    (w.cell? ⟨b3, 0, none⟩ = some (.int .i64 d.kind) ∧ w.cell? ⟨b3, 1, none⟩ = some (.string d.frm) ∧ w.cell? ⟨b3, 2, none⟩ = some (.string d.to) ∧ w.cell? ⟨b3, 3, none⟩ = some (.int .u64 (d.amt : Int)) ∧ w.cell? ⟨b3, 4, none⟩ = some (.int .u64 (d.non : Int)) ∧ w.cell? ⟨b3, 5, none⟩ = some (.string d.key) ∧ w.cell? ⟨b3, 6, none⟩ = some (.string d.val) ∧ w.cell? ⟨b3, 7, none⟩ = some (.slice r1 d.rs.length r2) ∧ w.cell? ⟨b3, 8, none⟩ = some (.slice r3 d.ws.length r4)) :=
  ⟨h.x1.cells9, h.x3.cells9⟩

set_option maxRecDepth 100000 in
set_option maxHeartbeats 20000000 in
theorem checks_walk (d : TxD) (ra : Option Addr) (rc : Nat) (wa : Option Addr) (wc : Nat) (w : World) (hA : TxAt w d ra wa) (hr : ra = none → rc = 0) (hw : wa = none → wc = 0) (hs : TxSizes d) (hl : d.rs.length * 16 ≤ 140737488351232 ∧ d.ws.length * 16 ≤ 140737488351232) :
    Calls Try.prog 3 #[txV d ra rc wa wc] w fun e w' => e = .returned (.bool true) ∧ Below w.heap.size w w' := by
  have hX : Arr _ _ _ (txC d ra rc wa wc) := TxBox.new w d ra rc wa wc
  have hB := belowNew w (.cells (txC d ra rc wa wc).toArray 25)
  have cO := fun w1 (h : TxAt w1 d ra wa) => own_any d ra rc wa wc w1 h hr hw hl.1 hl.2
  have hn1 : d.rs.length ≤ 9223372036854775807 := by omega
  have hn2 : d.ws.length ≤ 9223372036854775807 := by omega
  have hAw : ∀ w1, Below w.heap.size w w1 → TxAt w1 d ra wa := fun w1 h => hA.below h
  have cE1 := fun q1 q2 q3 q4 w1 (h : TxAt w1 d q1 q3) => encode_any d q1 q2 q3 q4 w1 h
  have cE2 := fun q1 q2 q3 q4 w1 (h : TxAt w1 d q1 q3) => refEncode_any d q1 q2 q3 q4 w1 h hs
  have cC1 := fun q1 q2 q3 q4 w1 (h : TxAt w1 d q1 q3) => check_any d q1 q2 q3 q4 w1 h
  have cC2 := fun q1 q2 q3 q4 w1 (h : TxAt w1 d q1 q3) => refCheck_any d q1 q2 q3 q4 w1 h hs
  have cN1 := fun q1 q2 q3 q4 w1 (h : TxAt w1 d q1 q3) => needs_any d q1 q2 q3 q4 w1 h
  have cN2 := fun q1 q2 q3 q4 w1 (h : TxAt w1 d q1 q3) => refNeeds_any d q1 q2 q3 q4 w1 h hs
  have cF1 := fun q1 q2 q3 q4 w1 (h : TxAt w1 d q1 q3) => fits_any d q1 q2 q3 q4 w1 h hn2
  have cF2 := fun q1 q2 q3 q4 w1 (h : TxAt w1 d q1 q3) => refFits_any d q1 q2 q3 q4 w1 h hs hn2
  have hl2 : (needsL d).length ≤ 9223372036854775807 := by
    have h2 : (needsL d).length ≤ 2 := by
      unfold needsL
      split
      · split
        · simp
        · split
          · simp
          · split <;> simp
      · simp
    omega
  generalize encB d = eb at cE1 cE2
  generalize checkL d = n at cE1 cE2 cC1 cC2
  generalize needsL d = nl at cN1 cN2 hl2
  generalize fitsL d = fl at cF1 cF2
  have cS := fun q1 q2 q3 q4 p1 p2 p3 p4 w1 (h1 : TxAt w1 d q1 q3) (h2 : TxAt w1 d p1 p3) => sameTx_any d q1 q2 q3 q4 p1 p2 p3 p4 w1 h1 h2 hn1 hn2
  clear hr hw hl hA hs
  unfold txV at cO ⊢
  go_enter Try.func3, Try.ntmps3
  go_wp2_with fail
  refine (cO _ (hAw _ hB)).mono ?_
  rintro e w1 ⟨r1, r2, r3, r4, rfl, hA1, _, _, hb1⟩
  have hX1 := hX.below hb1 hX.lt
  have hB1 := hB.trans (hb1.mono hB.size)
  clear hb1 hX hB cO
  have hT : Two w w.heap.size w1.heap.size d ra rc wa wc r1 r2 r3 r4 (w1.alloc (.cells (txC d r1 r2 r3 r4).toArray 25)) :=
    ⟨hX1.alloc _, Arr.new w1 25 _, hAw _ (hB1.alloc hB1.size _), hA1.below (belowNew w1 _), hB1.alloc hB1.size _⟩
  clear hX1 hA1 hB1
  unfold txV
  go_wp2_with fail
  refine (cE1 r1 r2 r3 r4 _ hT.a3).mono ?_
  rintro e w2 ⟨rfl, hb2⟩
  replace hT := hT.below hb2
  clear hb2 cE1
  obtain ⟨x0, x1, x2, x3, x4, x5, x6, x7, x8⟩ := hT.cells.1
  go_wp2_with fail
  refine (cE2 ra rc wa wc _ hT.a1).mono ?_
  rintro e w3 ⟨rfl, hb3⟩
  replace hT := hT.below hb3
  clear hb3 cE2 x0 x1 x2 x3 x4 x5 x6 x7 x8
  have hT0 : Two w w.heap.size w1.heap.size d ra rc wa wc r1 r2 r3 r4 w3.drew := hT.below (below_drewN (Below.refl _ _) 1)
  clear hT
  have hTc := hT0.cells
  go_wp2_with fail
  go_region_held3 (fun w' => (w'.cell? ⟨w.heap.size, 0, none⟩ = some (.int .i64 d.kind) ∧ w'.cell? ⟨w.heap.size, 1, none⟩ = some (.string d.frm) ∧ w'.cell? ⟨w.heap.size, 2, none⟩ = some (.string d.to) ∧ w'.cell? ⟨w.heap.size, 3, none⟩ = some (.int .u64 (d.amt : Int)) ∧ w'.cell? ⟨w.heap.size, 4, none⟩ = some (.int .u64 (d.non : Int)) ∧ w'.cell? ⟨w.heap.size, 5, none⟩ = some (.string d.key) ∧ w'.cell? ⟨w.heap.size, 6, none⟩ = some (.string d.val) ∧ w'.cell? ⟨w.heap.size, 7, none⟩ = some (.slice ra d.rs.length rc) ∧ w'.cell? ⟨w.heap.size, 8, none⟩ = some (.slice wa d.ws.length wc)) ∧ (w'.cell? ⟨w1.heap.size, 0, none⟩ = some (.int .i64 d.kind) ∧ w'.cell? ⟨w1.heap.size, 1, none⟩ = some (.string d.frm) ∧ w'.cell? ⟨w1.heap.size, 2, none⟩ = some (.string d.to) ∧ w'.cell? ⟨w1.heap.size, 3, none⟩ = some (.int .u64 (d.amt : Int)) ∧ w'.cell? ⟨w1.heap.size, 4, none⟩ = some (.int .u64 (d.non : Int)) ∧ w'.cell? ⟨w1.heap.size, 5, none⟩ = some (.string d.key) ∧ w'.cell? ⟨w1.heap.size, 6, none⟩ = some (.string d.val) ∧ w'.cell? ⟨w1.heap.size, 7, none⟩ = some (.slice r1 d.rs.length r2) ∧ w'.cell? ⟨w1.heap.size, 8, none⟩ = some (.slice r3 d.ws.length r4))) (exact Two.cells (by assumption))
    (first
    | (go_at_call 12; refine (cC1 r1 r2 r3 r4 _ (Two.a3 (by assumption))).mono ?_; rintro e wA ⟨rfl, hbA⟩; have hTA := Two.below hT0 hbA)
    | (go_at_call 13; refine (cC2 ra rc wa wc _ (Two.a1 hTA)).mono ?_; rintro e wB ⟨rfl, hbB⟩; have hTB := Two.below hTA hbB)
    | (go_at_call 15; refine (cN1 r1 r2 r3 r4 _ (Two.a3 hTB)).mono ?_; rintro e wC ⟨aC, rfl, hSC, hbC⟩; have hTC := Two.below hTB hbC)
    | (go_at_call 16; refine (cN2 ra rc wa wc _ (Two.a1 hTC)).mono ?_; rintro e wD ⟨aD, rfl, hSD, hbD⟩; have hTD := Two.below hTC hbD; have hSC' := StrsAt.below hSC hbD)
    | (go_at_call 14; refine (same_any aC aD _ _ nl _ hSC' hSD hl2).mono ?_; rintro e wE ⟨rfl, hbE⟩; have hTE := Two.below hTD hbE)
    | (go_at_call 17; refine (cF1 r1 r2 r3 r4 _ (Two.a3 hTE)).mono ?_; rintro e wF ⟨rfl, hbF⟩; have hTF := Two.below hTE hbF)
    | (go_at_call 18; refine (cF2 ra rc wa wc _ (Two.a1 hTF)).mono ?_; rintro e wG ⟨rfl, hbG⟩; have hTG := Two.below hTF hbG)
    | (go_at_call 19; refine (cS r1 r2 r3 r4 ra rc wa wc _ (Two.a3 hTG) (Two.a1 hTG)).mono ?_; rintro e wH ⟨rfl, hbH⟩; have hTH := Two.below hTG hbH))
  have hfin := hTH.bel
  clear hTA hTB hTC hTD hTE hTF hTG hTH hT0 hTc hbA hbB hbC hbD hbE hbF hbG hbH hSC hSD hSC'
  go_wp2
  go_ret
  exact ⟨rfl, hfin⟩
end Go.Proofs.Ytlpnoimoeadheaa
