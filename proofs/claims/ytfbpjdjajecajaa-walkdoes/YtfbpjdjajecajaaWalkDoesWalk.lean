/- WalkDoes: the walk. -/
import Derived.Test.YtfbpjdjajecajaaRefGrAdd
import Derived.Test.YtfbpjdjajecajaaRefEmit
import Derived.Test.YtfbpjdjajecajaaRefGrLow
import Derived.Test.YtfbpjdjajecajaaWalkEmit
import Derived.Test.YtfbpjdjajecajaaWalkLow
import Derived.Test.YtfbpjdjajecajaaWalkSameFn
import Derived.Test.YtfbpjdjajecajaaWalkOpen
import Derived.Deep.DeepCutAuto
import Derived.Deep.CutBlock
import Derived.Deep.RegionHeld3
import Derived.BigQuiet
namespace Go.Proofs.Ytfbpjdjajecajaa
open Go Go.RowKit
set_option linter.unusedVariables false

theorem step_joinsZ {α : Type} {K : Kind α} {P : Program} (w : World) {ops : Array Oper} {o : Oper} {a : Act} {C : Act → World → Prop} {Q : Exit → Act → World → Prop} {E : Prop} (hgd : o.guard = none) (s x : Operand) (t : TypeId)
    (ho : o.op = .call { callee := .builtin .append, args := #[s, x], argTypes := #[t, t] })
    (base : Nat) (e : TypeId) (i : TypeInfo) (z : Value) (bytes : Nat) (ht : P.underlying t = some (.slice e)) (hi : P.info? e = some i) (hz : i.zero = some z)
    (hsize : i.size = K.n) (hby : i.bytes = bytes) (hzs : z.cells.size = K.n)
    (q : Value) (m : List α) (hs : a.eval s = q) (hq : KQ K e w base q []) (hf : ∀ x b, ¬ K.foot x b)
    (ao : Option Addr) (c : Nat) (hx : a.eval x = .slice ao m.length c) (hS : RowAt K w ao m)
    (h63 : m.length ≤ maxLen) (hbytes : m.length * bytes ≤ 140737488355328) (hbase : base ≤ w.heap.size)
    (h : ∀ ao' cap' w', KQ K e w' base (.slice ao' m.length cap') m → Kept (fun k => q.ownBlock = some k) w w' → C (a.put o.dst (.slice ao' m.length cap')) w') : if Region.wanted o (yielded ops a.tmps) = true then Oper.wp P o a w C Q else E := by
  rw [if_pos (by simp [Region.wanted, hgd])]
  cases hm : m with
  | nil =>
    subst hm
    obtain ⟨aq, cq, rfl, _, _⟩ := hq.form
    obtain ⟨_, _, eq, hlc, _⟩ := hq.row.form
    simp only [Value.slice.injEq] at eq
    obtain ⟨rfl, _, rfl⟩ := eq
    have hrun := run_append_zero (P := P) w t o.type e i ht hi aq ao 0 cq c hlc
    unfold Oper.wp
    simp [execOp, ho, resolve, invoke, builtin, hs, hx, hrun, Result.andThen]
    exact h aq cq w hq (Kept.refl _ _)
  | cons y r =>
    have hpos : 0 < m.length := by rw [hm]; simp
    obtain ⟨g, off, rfl, _, _⟩ := hS.cell 0 y (by rw [hm]; rfl)
    obtain ⟨v', w', hrun, hrow, hgr, hfr⟩ := run_append_q (P := P) w t o.type e i z K.n bytes ht hi hz hsize hby hzs K.pos base q 0 (flatK K []) hq.row ⟨g, off, none⟩ m.length c (flatK K m) hpos (flatK_length K m) hS.news (flatK_one K m) (by omega) (by rw [Nat.zero_add]; exact hbytes) hbase
    obtain ⟨ao', cap', rfl, _, _⟩ := hrow.form
    rw [Nat.zero_add] at hrow hfr hrun
    have hp := hq.push (m := m) (fun x hx => hS.at_ x hx) (fun x _ b hb => absurd hb (hf x b)) hpos (by rw [List.length_nil, Nat.zero_add]; exact hrow) hgr hfr
    unfold Oper.wp
    simp [execOp, ho, resolve, invoke, builtin, hs, hx, hrun, Result.andThen]
    exact h ao' cap' w' hp (Kept.of_grown hgr)

/-- The program's graph and the document's, side by side. -/
structure Duo16 (W w : World) (a b : Nat) (SA SB : Nat → Prop) (g : GrD) : Prop where
  pa : PG w a SA g
  pb : RG16 w b SB g
  ap : ∀ k, SA k → ¬ SB k
  ga : ∀ k, SA k → W.heap.size ≤ k
  gb : ∀ k, SB k → W.heap.size ≤ k
  bel : Below W.heap.size W w

section
variable {W w w' : World} {a b : Nat} {SA SB SA' SB' : Nat → Prop} {g g' : GrD}

theorem RG16.belowR (h : RG16 w b SB g) (hb : Below w.heap.size w w') : RG16 w' b SB g := h.kept (Kept.of_below (S := fun _ => False) hb) (fun _ _ e => e)

theorem Duo16.below (h : Duo16 W w a b SA SB g) (hb : Below w.heap.size w w') : Duo16 W w' a b SA SB g :=
  ⟨h.pa.below hb, h.pb.belowR hb, h.ap, h.ga, h.gb, h.bel.trans (hb.mono h.bel.size)⟩

/-- An act on each of them. -/
theorem Duo16.both {w1 w2 : World} (h : Duo16 W w a b SA SB g) (hp : PG w1 a SA' g') (hf : FreshS w SA SA') (hk : Kept SA w w1) (hq : RG16 w2 b SB' g') (hg : FreshS w1 SB SB') (hl : Kept SB w1 w2) : Duo16 W w2 a b SA' SB' g' := by
  have hs := h.bel.size
  have d1 : ∀ k, SA' k → ¬ SB k := fun k e e' => by
    rcases hf k e with q | q
    · exact h.ap k q e'
    · have := h.pb.lt k e'; omega
  refine ⟨hp.kept hl d1, hq, fun k e e' => ?_, fun k e => ?_, fun k e => ?_, (h.bel.trans (hk.below hs (fun k e => h.ga k e))).trans (hl.below (Nat.le_trans hs hk.size) (fun k e => h.gb k e))⟩
  · rcases hg k e' with q | q
    · exact d1 k e q
    · have := hp.lt e; omega
  · rcases hf k e with q | q
    · exact h.ga k q
    · omega
  · rcases hg k e with q | q
    · exact h.gb k q
    · have := hk.size; omega

theorem Duo16.refAt (h : Duo16 W w a b SA SB g) {w1 : World} (hk : Kept SA w w1) : RG16 w1 b SB g := h.pb.kept hk (fun k e e' => h.ap k e' e)
end

set_option maxRecDepth 100000 in
set_option maxHeartbeats 4000000 in
theorem walkDoes_walk (lo : Option Addr) (lc : Nat) (l : List OpW) (W : World) (hL : RowAt opW W lo l) (hll : l.length ≤ maxLen) :
    Calls Try.prog 3 #[.slice lo l.length lc] W fun e w' => e = .returned (.bool true) ∧ Below W.heap.size W w' := by
  have hll' : l.length ≤ 9223372036854775807 := by unfold maxLen at hll; omega
  clear hll
  have cN := pgNew_any W
  go_enter Try.func3, Try.ntmps3
  go_wp2_with fail
  refine cN.mono ?_
  rintro e w1 ⟨a, SA0, rfl, h1, hs1, hb1⟩
  clear cN
  have h2 := RG16.new w1
  have hb2 := belowNew w1 (.cells #[.slice none 0 0, .int .i64 0] 28)
  have hT : Duo16 W (w1.alloc (.cells #[.slice none 0 0, .int .i64 0] 28)) a w1.heap.size SA0 (fun k => k = w1.heap.size) gr0 :=
    ⟨h1.below hb2, h2, fun k e e' => by
      have := h1.lt e
      have e1 : k = w1.heap.size := e'
      omega, hs1, fun k e => by have e1 : k = w1.heap.size := e; have := hb1.size; omega, hb1.trans (hb2.mono hb1.size)⟩
  clear h1 h2 hs1
  go_wp2_with fail
  generalize w1.alloc (.cells #[.slice none 0 0, .int .i64 0] 28) = w2 at hT hb2 ⊢
  clear hb1 hb2
  generalize w1.heap.size = b at hT ⊢
  go_loopw [5, 6, 7, 8, 9, 10] (fun v5 _ _ _ _ _ wr => ∃ (i : Nat) (SA SB : Nat → Prop) (g : GrD), i ≤ l.length ∧ i ≤ 100 ∧ v5 = .int .i64 (i : Int) ∧ Duo16 W wr a b SA SB g) (fun v _ _ _ _ _ _ => l.length - (intOf v).toNat)
  case atStart => exact ⟨0, _, _, _, Nat.zero_le _, by omega, rfl, hT⟩
  case round =>
    clear hT
    obtain ⟨i, SA, SB, g, hi, hi2, rfl, hT⟩ := hrel
    by_cases hlt : i < l.length ∧ i < 100
    · obtain ⟨hil, hi100⟩ := hlt
      have g1 : (i : Int) < (l.length : Int) := by omega
      have g2 : (i : Int) < 100 := by omega
      obtain ⟨o, ho⟩ : ∃ o, l[i]? = some o := ⟨_, List.getElem?_eq_getElem hil⟩
      obtain ⟨gl, off, rfl, _, y0, y1, y2, y3, y4, hoA⟩ := (hL.below hT.bel).op16 ho
      have hoW : o.At W := hL.at_ o (List.mem_of_getElem? ho)
      have hbN := belowNew wr (.cells #[.int .i64 o.kind, .string o.id, .int .i64 o.round, .int .i64 o.author, .slice o.pa o.ps.length o.pc] 31)
      have hO := Arr.new wr 31 [.int .i64 o.kind, .string o.id, .int .i64 o.round, .int .i64 o.author, .slice o.pa o.ps.length o.pc]
      have hT0 := hT.below hbN
      have hnS : ¬ SA wr.heap.size ∧ ¬ SB wr.heap.size := ⟨fun e => by have := hT.pa.lt e; omega, fun e => by have := hT.pb.lt _ e; omega⟩
      have hsep0 : Hid (∀ k, rowFoot textK o.pa o.ps k → ¬ SA k) := fun k hk e => by
        have h1 := hoW.row.lt hk
        have h2 := hT.ga k e
        omega
      have hoR0 := hoA.row.below hbN
      have hid := hoW.id
      have heach := hoW.each
      go_upto_region 8 with fail
      obtain ⟨ob, hob⟩ : ∃ z, Hid (wr.heap.size = z) := ⟨_, rfl⟩
      rw [hob.out] at hO hnS ⊢
      replace hO : Arr (wr.alloc (.cells #[.int .i64 o.kind, .string o.id, .int .i64 o.round, .int .i64 o.author, .slice o.pa o.ps.length o.pc] 31)) ob 31 [.int .i64 o.kind, .string o.id, .int .i64 o.round, .int .i64 o.author, .slice o.pa o.ps.length o.pc] := hO
      clear hT hbN hob hoA y0 y1 y2 y3 y4
      generalize wr.alloc (.cells #[.int .i64 o.kind, .string o.id, .int .i64 o.round, .int .i64 o.author, .slice o.pa o.ps.length o.pc] 31) = w0 at *
      obtain ⟨kd, hkd⟩ : ∃ z, Hid (o.kind = z) := ⟨_, rfl⟩
      obtain ⟨oi, hoi⟩ : ∃ z, Hid (o.id = z) := ⟨_, rfl⟩
      obtain ⟨rd, hrd⟩ : ∃ z, Hid (o.round = z) := ⟨_, rfl⟩
      obtain ⟨au, hau⟩ : ∃ z, Hid (o.author = z) := ⟨_, rfl⟩
      obtain ⟨ps, hps⟩ : ∃ z, Hid (o.ps = z) := ⟨_, rfl⟩
      obtain ⟨pa, hpa⟩ : ∃ z, Hid (o.pa = z) := ⟨_, rfl⟩
      obtain ⟨pc, hpc⟩ : ∃ z, Hid (o.pc = z) := ⟨_, rfl⟩
      rw [hkd.out, hoi.out, hrd.out, hau.out, hps.out, hpa.out, hpc.out] at hO
      rw [hps.out, hpa.out] at hsep0 hoR0
      rw [hps.out] at heach
      rw [hoi.out] at hid
      clear hkd hoi hrd hau hps hpa hpc
      have z0 := hO.cell (i := 0) rfl
      have z1 := hO.cell (i := 1) rfl
      have z2 := hO.cell (i := 2) rfl
      have z3 := hO.cell (i := 3) rfl
      have z4 := hO.cell (i := 4) rfl
      have hol := hO.lt
      by_cases h50 : 50 < ps.length
      · have g5 : (50 : Int) < (ps.length : Int) := by omega
        have hbF := hT0.bel
        go_wp2
        go_ret
        exact ⟨rfl, hbF⟩
      · have g5 : ¬ (50 : Int) < (ps.length : Int) := by omega
        have hkp : ∀ U, Below w0.heap.size w0 U → (U.cell? ⟨ob, 1, none⟩ = some (.string oi) ∧ U.cell? ⟨ob, 2, none⟩ = some (.int .i64 rd) ∧ U.cell? ⟨ob, 3, none⟩ = some (.int .i64 au) ∧ U.cell? ⟨ob, 4, none⟩ = some (.slice pa ps.length pc)) := fun U hU => ⟨(hU.cell (p := ⟨ob, 1, none⟩) hol).trans z1, (hU.cell (p := ⟨ob, 2, none⟩) hol).trans z2, (hU.cell (p := ⟨ob, 3, none⟩) hol).trans z3, (hU.cell (p := ⟨ob, 4, none⟩) hol).trans z4⟩
        have hkt : ∀ {S : Nat → Prop} {U V : World}, w0.heap.size ≤ U.heap.size → Kept S U V → ¬ S ob → (U.cell? ⟨ob, 1, none⟩ = some (.string oi) ∧ U.cell? ⟨ob, 2, none⟩ = some (.int .i64 rd) ∧ U.cell? ⟨ob, 3, none⟩ = some (.int .i64 au) ∧ U.cell? ⟨ob, 4, none⟩ = some (.slice pa ps.length pc)) → (V.cell? ⟨ob, 1, none⟩ = some (.string oi) ∧ V.cell? ⟨ob, 2, none⟩ = some (.int .i64 rd) ∧ V.cell? ⟨ob, 3, none⟩ = some (.int .i64 au) ∧ V.cell? ⟨ob, 4, none⟩ = some (.slice pa ps.length pc)) := fun hs hk hn ⟨q1, q2, q3, q4⟩ =>
          ⟨(hk.cell (p := ⟨ob, 1, none⟩) (Nat.lt_of_lt_of_le hol hs) hn).trans q1, (hk.cell (p := ⟨ob, 2, none⟩) (Nat.lt_of_lt_of_le hol hs) hn).trans q2, (hk.cell (p := ⟨ob, 3, none⟩) (Nat.lt_of_lt_of_le hol hs) hn).trans q3, (hk.cell (p := ⟨ob, 4, none⟩) (Nat.lt_of_lt_of_le hol hs) hn).trans q4⟩
        have uD : Below w0.heap.size w0 w0.drew := below_drewN (Below.refl _ _) 1
        have hS0 := hkp _ uD
        have hSw := hkp _ (Below.refl _ _)
        go_upto_block 2 with fail
        go_cut [] (fun wx => ∃ (SA' SB' : Nat → Prop) (g' : GrD), Duo16 W wx a b SA' SB' g' ∧ wx.cell? ⟨ob, 1, none⟩ = some (.string oi))
        case first =>
          by_cases k0 : kd = 0
          · subst k0
            obtain ⟨i0, y0, hi0, hy0, hy1, hy2, hy3⟩ := strInfoT
            have mz : ps.length * 16 ≤ 140737488355328 := by omega
            have uE : Below w0.heap.size w0 (w0.alloc (.cells #[] 9)).drew := (belowNew w0 (.cells #[] 9)).trans (below_drewN (Below.refl _ _) 1)
            have hSE := hkp _ uE
            have hQ0 : KQ textK 9 (w0.alloc (.cells #[] 9)) w0.heap.size (.slice (some ⟨w0.heap.size, 0, none⟩) 0 0) [] := KQ.of_own (K := textK) (l := []) (fun _ _ h => h) (fun _ _ => trivial) rfl (World.ownsRow_made w0 #[] 0 (Nat.le_refl _) (by decide) rfl)
            have hQ := hQ0.below (below_drewN (Below.refl _ _) 1)
            clear hQ0
            replace hQ : KQ textK 9 (w0.alloc (.cells #[] 9)).drew w0.heap.size (.slice (some ⟨w0.heap.size, 0, none⟩) 0 0) [] := hQ
            have hbs := uE.size
            have hRo := hoR0.below uE
            have hol2 : ps.length ≤ maxLen := by unfold maxLen; omega
            have hsep := hsep0.out
            obtain ⟨E, hE⟩ : ∃ E, Hid (addEV g oi rd au ps.length = E) := ⟨_, rfl⟩
            go_wp2_with fail
            go_region_held3 (fun w' => w'.cell? ⟨ob, 1, none⟩ = some (.string oi) ∧ w'.cell? ⟨ob, 2, none⟩ = some (.int .i64 rd) ∧ w'.cell? ⟨ob, 3, none⟩ = some (.int .i64 au) ∧ w'.cell? ⟨ob, 4, none⟩ = some (.slice pa ps.length pc)) (first | assumption | exact hkp _ (by assumption))
              (first
              | (refine step_joinsZ (K := textK) _ (by rfl) _ _ 29 (by rfl) w0.heap.size 9 i0 _ 16 Try.underlying29 hi0 hy0 hy1 hy2 hy3 _ ps (by rfl) hQ (fun _ _ h => h.elim) pa pc (by rfl) hRo hol2 mz hbs ?_; intro ao8 cap8 w8 hI8 hk8; have hB8 := uE.trans (hk8.below hbs (fun k e => (hQ.lt k e).1)); have hS8 := hkp _ hB8; have hT8 := hT0.below hB8; have cK := pgAdd_any oi rd au ao8 cap8 ps a SA g w8 hT8.pa hid heach (hI8.rowOf).1 (fun k hk e => by have h1 := hT0.pa.lt e; have h2 := KQ.foot_ge hI8 (Nat.le_refl _) (fun _ _ _ h => h.elim) k hk; omega) (by omega); rw [hE.out] at cK; have hRo8 := hoR0.below hB8)
              | (go_at_call 5; refine cK.mono ?_; rintro e w9 ⟨SA9, rfl, h9, hf9, hk9⟩; have hSz : w0.heap.size ≤ w8.heap.size := hB8.size; have hS9 := hkt hSz hk9 hnS.1 hS8; have hP9 := hT8.refAt hk9; have hRo9 := hRo8.kept hk9 (fun k hk e => hsep k hk e); have cR := rgAdd_any oi rd au pa pc ps hP9 hRo9 (by omega); rw [hE.out] at cR)
              | (go_at_call 6; refine cR.mono ?_; rintro e wa ⟨SBa, rfl, ha, hfa, hka⟩; have hTa := hT8.both h9 hf9 hk9 ha hfa hka; have hSa := hkt (Nat.le_trans hSz hk9.size) hka hnS.2 hS9))
            clear cK cR
            go_wp2_with fail
            go_meet
            exact ⟨_, _, _, hTa, hSa.1⟩
          · by_cases k1 : kd = 1
            · subst k1
              have cA := pgEmit_any oi a SA g w0 hT0.pa hid
              have hlowB : ∀ k, SB k → k < w0.heap.size := hT0.pb.lt
              clear hkp uD hS0 z2 z3 z4
              go_wp2_with fail
              refine cA.mono ?_
              rintro e w1 ⟨L, M, al, cl, am, cm, rfl, hm, hQl, hQm, hk1, hc1⟩
              have hP1 := hT0.refAt hk1
              have cB := rgEmit_any oi hP1
              have hS1 := hkt (Nat.le_refl _) hk1 hnS.1 hSw
              have u1 := hS1.1
              have hz1 := hk1.size
              clear cA z0 z1
              go_wp2_with fail
              refine cB.mono ?_
              rintro e w2 ⟨L2, M2, bl, dl, bm, dm, rfl, hm2, hRl, hRm, hk2, hc2⟩
              obtain rfl : M2 = M := hm2.same hm
              have hS2 := hkt hz1 hk2 hnS.2 hS1
              have hQl2 := hQl.rowOf.1.kept hk2 (fun k hk e => by have h2 := KQ.foot_ge hQl (Nat.le_refl _) (fun _ _ _ h => h.elim) k hk; have := hlowB k e; omega)
              have hQm2 := hQm.rowOf.1.kept hk2 (fun k hk e => by have h2 := KQ.foot_ge hQm (Nat.le_refl _) (fun _ _ _ h => h.elim) k hk; have := hlowB k e; omega)
              obtain ⟨rfl, g', hg'⟩ : L2 = L ∧ ∃ g', Duo16 W w2 a b SA SB g' := by
                rcases hc1 with ⟨e1, e2, h1⟩ | ⟨e1, e2, h1⟩
                · rcases hc2 with ⟨f1, f2, h2⟩ | ⟨f1, f2, h2⟩
                  · exact ⟨by rw [e2, f2], _, hT0.both h1 (fun k e => Or.inl e) hk1 h2 (fun k e => Or.inl e) hk2⟩
                  · exact (f1 e1).elim
                · rcases hc2 with ⟨f1, f2, h2⟩ | ⟨f1, f2, h2⟩
                  · exact (e1 f1).elim
                  · exact ⟨by rw [e2, f2], _, hT0.both h1 (fun k e => Or.inl e) hk1 h2 (fun k e => Or.inl e) hk2⟩
              have hz2 := hk2.size
              have n1 := hRl.capOf
              have n2 := hRm.capOf
              have n1' : L2.length ≤ 9223372036854775807 := by have := n1.1; have := n1.2; unfold maxLen at this; omega
              have n2' : M2.length ≤ 9223372036854775807 := by have := n2.1; have := n2.2; unfold maxLen at this; omega
              have cS := sameRows_any al bl cl dl L2 w2 hQl2 hRl.rowOf.1 n1'
              have hRm2 := hRm.rowOf.1
              clear cB hm hm2 hc1 hc2 hQl hQm hRl hRm hk1 hk2 hP1 hS1 u1 hQl2 n1 n2
              have u2 := hS2.1
              go_wp2_with fail
              refine cS.mono ?_
              rintro e w3 ⟨rfl, hb3⟩
              have hg3 := hg'.below hb3
              have cS2 := sameRows_any am bm cm dm M2 w3 (hQm2.below hb3) (hRm2.below hb3) n2'
              have hol2 : ob < w2.heap.size := Nat.lt_of_lt_of_le hol (Nat.le_trans hz1 hz2)
              have u3 := (hb3.cell (p := ⟨ob, 1, none⟩) hol2).trans u2
              clear cS u2
              go_wp2_with fail
              refine cS2.mono ?_
              rintro e w4 ⟨rfl, hb4⟩
              have hg4 := hg3.below hb4
              have u4 := (hb4.cell (p := ⟨ob, 1, none⟩) (Nat.lt_of_lt_of_le hol2 hb3.size)).trans u3
              clear cS2 u3
              go_wp2_with fail
              go_meet
              exact ⟨_, _, _, hg4, u4⟩
            · by_cases k2 : kd = 2
              · subst k2
                have hTd := hT0.below uD
                have cG := pgLow_any rd a SA g _ hTd.pa
                obtain ⟨E, hE⟩ : ∃ E, Hid (lowNV g rd = E) := ⟨_, rfl⟩
                rw [hE.out] at cG
                go_wp2_with fail
                go_region_held3 (fun w' => w'.cell? ⟨ob, 1, none⟩ = some (.string oi) ∧ w'.cell? ⟨ob, 2, none⟩ = some (.int .i64 rd) ∧ w'.cell? ⟨ob, 3, none⟩ = some (.int .i64 au) ∧ w'.cell? ⟨ob, 4, none⟩ = some (.slice pa ps.length pc)) (first | assumption | exact hkp _ (by assumption))
                  (first
                  | (go_at_call 10; refine cG.mono ?_; rintro e w9 ⟨rfl, h9, hk9⟩; have hS9 := hkt uD.size hk9 hnS.1 hS0; have hP9 := hTd.refAt hk9; have cR := rgLet_any rd hP9; rw [hE.out] at cR)
                  | (go_at_call 11; refine cR.mono ?_; rintro e wa ⟨SBa, rfl, ha, hfa, hka⟩; have hTa := hTd.both h9 (fun k e => Or.inl e) hk9 ha hfa hka; have hSa := hkt (Nat.le_trans uD.size hk9.size) hka hnS.2 hS9))
                clear cG cR
                go_wp2_with fail
                go_meet
                exact ⟨_, _, _, hTa, hSa.1⟩
              · go_wp2_with fail
                go_meet
                exact ⟨_, _, _, hT0, z1⟩
        case rest =>
          obtain ⟨SA', SB', g', hT, u1⟩ := hcut
          clear hT0 hkp hkt uD hS0 hSw z0 z1 z2 z3 z4 hO hoR0 hol hsep0 hnS
          obtain ⟨q, xs, hG, hxs, -⟩ := hT.pb.ex
          obtain ⟨qa, qc, rfl, -, -⟩ := hG.row.row.form
          rw [List.length_map] at hG
          have d0 := hG.box.cell (i := 0) rfl
          have hn : Hid (g'.L.length = xs.length) := by show _ = _; rw [← hxs, List.length_map]
          obtain ⟨B, hB⟩ : ∃ B, Hid (emittedV g' oi = B) := ⟨_, rfl⟩
          have cE1 := fun m => pgEmitted_any oi a SA' g' (wc.drewN m) (hT.pa.below (below_drewN (Below.refl _ wc) m)) hid
          have cE2 := fun m => rgEmitted_any (w := wc.drewN m) oi (hT.pb.belowR (below_drewN (Below.refl _ wc) m))
          have cLn := fun m => pgLen_any a SA' g' (wc.drewN m) (hT.pa.below (below_drewN (Below.refl _ wc) m))
          simp only [hB.out] at cE1 cE2
          simp only [hn.out] at cLn
          clear hG hxs hn hB
          go_wp2_with fail
          go_quiet (first | (with_reducible exact Calls.quiet_of_same (cE1 _)) | (with_reducible exact Calls.quiet_of_same (cE2 _)) | (with_reducible exact Calls.quiet_of_same (cLn _)))
          have hTF := hT.below (below_drewN (Below.refl _ wc) nq)
          generalize wc.drewN nq = wf at hTF ⊢
          clear cE1 cE2 cLn d0 u1 hT
          go_wp2
          go_roundw
          case rel => exact ⟨i + 1, SA', SB', g', by omega, by omega, by go_num, hTF⟩
          case measure => simp [intOf]; omega
    · have hg : ¬ (i : Int) < (l.length : Int) ∨ ((i : Int) < (l.length : Int) ∧ ¬ (i : Int) < 100) := by omega
      have hbF := hT.bel
      rcases hg with g1 | ⟨g1, g2⟩
      all_goals
        go_wp2
        go_ret
        exact ⟨rfl, hbF⟩
end Go.Proofs.Ytfbpjdjajecajaa
