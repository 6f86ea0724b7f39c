/- PaceDoes: the walk. -/
import Derived.Test.YtpppklflokfniaaPaceWorks
import Derived.Test.YtpppklflokfniaaRefPace
import Derived.Test.YtpppklflokfniaaPaceOpen
import Derived.Test.YtpppklflokfniaaInts
import Derived.Deep.RegionHeld3
namespace Go.Proofs.Ytpppklflokfniaa
open Go.RowKit
set_option linter.unusedVariables false

/-- The program's pace and the document's, side by side, new since W. -/
structure Two18 (W w : World) (b r : Nat) (d e : PaD) : Prop where
  a : PaAt w b d
  c : RPAt w r e
  ne : b ≠ r
  gb : W.heap.size ≤ b
  gr : W.heap.size ≤ r
  bel : Below W.heap.size W w

theorem Two18.stepA {W w w' : World} {b r : Nat} {d e d' : PaD} (h : Two18 W w b r d e) (ha : PaAt w' b d') (hk : Kept (fun k => k = b) w w') : Two18 W w' b r d' e :=
  ⟨ha, h.c.kept hk (fun e => h.ne (show r = b from e).symm), h.ne, h.gb, h.gr, h.bel.trans (hk.below h.bel.size (fun k e => by have := h.gb; have e' : k = b := e; omega))⟩

theorem Two18.stepB {W w w' : World} {b r : Nat} {d e e' : PaD} (h : Two18 W w b r d e) (hc : RPAt w' r e') (hk : Kept (fun k => k = r) w w') : Two18 W w' b r d e' :=
  ⟨h.a.kept hk (fun e => h.ne e), hc, h.ne, h.gb, h.gr, h.bel.trans (hk.below h.bel.size (fun k e => by have := h.gr; have e' : k = r := e; omega))⟩

theorem Two18.drewN {W w : World} {b r : Nat} {d e : PaD} (h : Two18 W w b r d e) (n : Nat) : Two18 W (w.drewN n) b r d e := ⟨h.a.drewN n, h.c.drewN n, h.ne, h.gb, h.gr, h.bel.trans ((below_drewN (Below.refl _ _) n).mono h.bel.size)⟩

set_option maxRecDepth 100000 in
set_option maxHeartbeats 4000000 in
theorem paceDoes_walk (n most : Int) (ao : Option Addr) (cap : Nat) (l : List OpP) (asked : Int) (W : World) (_ : (Lit.int .i64 n).wf = true) (_ : (Lit.int .i64 most).wf = true) (hL : RowAt opP W ao l) (hl : l.length ≤ maxLen) (_ : (Lit.int .i64 asked).wf = true) :
    Calls Try.prog 3 #[.int .i64 n, .int .i64 most, .slice ao l.length cap, .int .i64 asked] W fun e w' => e = .returned (.bool true) ∧ Below W.heap.size W w' := by
  have hl' : l.length ≤ 9223372036854775807 := by unfold maxLen at hl; omega
  clear hl
  by_cases hin : 1 ≤ n ∧ n ≤ 7 ∧ 1 ≤ most ∧ most ≤ 1000
  · obtain ⟨n1, n2, n3, n4⟩ := hin
    obtain ⟨N, rfl⟩ : ∃ N : Nat, n = (N : Int) := ⟨n.toNat, by omega⟩
    obtain ⟨M, rfl⟩ : ∃ M : Nat, most = (M : Int) := ⟨most.toNat, by omega⟩
    have cN := paNew_yes N M W (by omega) (by omega) (by omega) (by omega)
    have cR := fun w => rpNew_yes N M w (by omega) (by omega) (by omega) (by omega)
    have hoN : PaOk ⟨N, M, 1, 0, 0⟩ := PaOk.new (by omega) (by omega) (by omega) (by omega)
    clear n1 n2 n3 n4
    go_enter Try.func3, Try.ntmps3
    go_wp2_with fail
    refine cN.mono ?_
    rintro e w0 ⟨rfl, h0, hb0⟩
    go_wp2_with fail
    refine (cR w0).mono ?_
    rintro e w1 ⟨rfl, h1, hb1⟩
    have hO : Two18 W w1 W.heap.size w0.heap.size ⟨N, M, 1, 0, 0⟩ ⟨N, M, 1, 0, 0⟩ := ⟨h0.below hb1, h1, by have := h0.box.lt; omega, Nat.le_refl _, hb0.size, hb0.trans (hb1.mono hb0.size)⟩
    clear cN cR h0 hb0 h1 hb1
    obtain ⟨b, hb⟩ : ∃ b, Hid (W.heap.size = b) := ⟨_, rfl⟩
    obtain ⟨r, hr⟩ : ∃ r, Hid (w0.heap.size = r) := ⟨_, rfl⟩
    rw [hr.out] at hO ⊢
    have hO' : Two18 W w1 b r ⟨N, M, 1, 0, 0⟩ ⟨N, M, 1, 0, 0⟩ := by have h := hb.out; rw [h] at hO; exact ⟨hO.a, hO.c, hO.ne, by omega, by have := hO.gr; omega, hO.bel⟩
    rw [hb.out]
    clear hb hr hO
    go_wp2_with fail
    go_loopw [13, 14, 15, 16] (fun v13 _ _ _ wr => ∃ (i : Nat) (d : PaD), i ≤ l.length ∧ i ≤ 60 ∧ v13 = .int .i64 (i : Int) ∧ d.fails ≤ 100 * i ∧ PaOk d ∧ Two18 W wr b r d d) (fun v _ _ _ _ => 60 - (intOf v).toNat)
    case atStart => exact ⟨0, _, by omega, by omega, rfl, Nat.le_refl _, hoN, hO'⟩
    case round =>
      obtain ⟨i, d, hil, hi4, rfl, hdf, hok, hR⟩ := hrel
      clear hO' hoN
      by_cases hlt : i < l.length ∧ i < 60
      · obtain ⟨hl1, hl4⟩ := hlt
        have g1 : (i : Int) < (l.length : Int) := by omega
        have g2 : (i : Int) < 60 := by omega
        obtain ⟨x, hx⟩ : ∃ x, l[i]? = some x := ⟨_, List.getElem?_eq_getElem hl1⟩
        obtain ⟨g, off, rfl, hg, z0, z1⟩ := hL.op18 hx
        generalize hxk : x.kind = xk at z0
        generalize hxn : x.n = xn at z1
        have hkp : ∀ w', Below W.heap.size W w' → w'.cell? ⟨g, off + i * 2 + 1, none⟩ = some (.int .i64 xn) := fun w' hb => (hb.cell (p := ⟨g, off + i * 2 + 1, none⟩) hg).trans z1
        have y0 : wr.cell? ⟨g, off + i * 2, none⟩ = some (.int .i64 xk) := (hR.bel.cell (p := ⟨g, off + i * 2, none⟩) hg).trans z0
        have y1 := hkp _ hR.bel
        clear hx hxk hxn z0 z1
        rcases (by omega : xk = 0 ∨ xk = 1 ∨ xk = 2 ∨ (xk ≠ 0 ∧ xk ≠ 1 ∧ xk ≠ 2)) with rfl | rfl | rfl | ⟨k0, k1, k2⟩
        · obtain ⟨K, hK, hKe⟩ := pick_atC xn 100 (by omega) (by omega)
          have hKe' : Hid (wrap64 ((IntKind.u64.wrap xn).tmod 100) = (K : Int)) := hKe
          clear hKe
          go_wp2_with fail
          go_loopw [14] (fun v14 wq => ∃ (k : Nat) (d' : PaD), k ≤ K ∧ v14 = .int .i64 (k : Int) ∧ d'.fails ≤ 100 * i + k ∧ PaOk d' ∧ Two18 W wq b r d' d') (fun v _ => K - (intOf v).toNat)
          case atStart => exact ⟨0, d, by omega, rfl, by omega, hok, hR⟩
          case round =>
            obtain ⟨k, d2, hkK, rfl, hf2, hok2, hQ⟩ := hrel
            clear hR y0 y1 hok hdf
            have y1 := hkp _ hQ.bel
            by_cases hk : k < K
            · have gk : (k : Int) < wrap64 ((IntKind.u64.wrap xn).tmod 100) := by rw [hKe'.out]; omega
              have cA := paTick_any b _ _ hQ.a hok2 (by omega)
              have cB := fun w h => rpTick_any r d2 w h hok2 (by omega)
              have hf3 := tick_fails d2
              have hok3 := hok2.tick
              generalize tickP d2 = d3 at cA cB hf3 hok3
              generalize tickB d2 = bb at cA cB
              have gb : (bb != bb) = false := by cases bb <;> rfl
              go_wp2_with fail
              refine cA.mono ?_
              rintro e w3 ⟨rfl, h3, hk3⟩
              have hQ3 := hQ.stepA h3 hk3
              go_wp2_with fail
              refine (cB w3 hQ3.c).mono ?_
              rintro e w4 ⟨rfl, h4, hk4⟩
              have hQ4 := hQ3.stepB h4 hk4
              clear cA cB hQ hQ3 h3 hk3 h4 hk4 y1
              go_wp2
              go_roundw
              case rel => exact ⟨k + 1, d3, by omega, by go_num, by omega, hok3, hQ4⟩
              case measure => simp [intOf]; omega
            · have gk : ¬ (k : Int) < wrap64 ((IntKind.u64.wrap xn).tmod 100) := by rw [hKe'.out]; omega
              have hf3 : d2.fails ≤ 100 * (i + 1) := by omega
              have cW := fun w h => paWait_any b d2 w h (by omega)
              go_wp2_with fail
              refine (cW _ hQ.a).mono ?_
              rintro e w5 ⟨rfl, m5, rfl⟩
              have hZ := hQ.drewN m5
              clear cW hQ
              generalize World.drewN _ m5 = w5 at hZ ⊢
              have x2 : w5.cell? ⟨r, 2, none⟩ = some (.int .i64 d2.view) := hZ.c.box.cell (i := 2) rfl
              have x4 : w5.cell? ⟨r, 4, none⟩ = some (.int .i64 (d2.ticks : Int)) := hZ.c.box.cell (i := 4) rfl
              have cV := fun m => paView_any b d2 (w5.drewN m) (hZ.a.drewN m)
              have cWr := fun m => rpWait_any r d2 (w5.drewN m) (hZ.c.drewN m) (by omega) hok2.mL
              have cL1 := fun m => paLeader_any asked b d2 (w5.drewN m) (hZ.a.drewN m) hok2
              have cL2 := fun m => rpLeader_any asked r d2 (w5.drewN m) (hZ.c.drewN m) hok2
              have cL3 := fun m => paLeader_any d2.view b d2 (w5.drewN m) (hZ.a.drewN m) hok2
              have cL4 := fun m => rpLeader_any d2.view r d2 (w5.drewN m) (hZ.c.drewN m) hok2
              generalize leadN d2.n asked = K1 at cL1 cL2
              generalize leadN d2.n d2.view = K2 at cL3 cL4
              go_wp2_with fail
              go_quiet (first | (with_reducible exact Calls.quiet_of_same (cV _)) | (with_reducible exact Calls.quiet_of_same (cWr _)) | (with_reducible exact Calls.quiet_of_same (cL1 _)) | (with_reducible exact Calls.quiet_of_same (cL2 _)) | (with_reducible exact Calls.quiet_of_same (cL3 _)) | (with_reducible exact Calls.quiet_of_same (cL4 _)))
              have hZ2 := hZ.drewN nq
              clear cV cWr cL1 cL2 cL3 cL4 x2 x4 hZ
              generalize w5.drewN nq = w6 at hZ2 ⊢
              go_wp2
              go_roundw
              case rel => exact ⟨i + 1, d2, by omega, by omega, by go_num, hf3, hok2, hZ2⟩
              case measure => simp [intOf]; omega
        · have cA := fun w h => paEnter_any xn b d w h
          have cB := fun w h => rpEnter_any xn r d w h
          have hf3 : (enterP d xn).fails ≤ 100 * (i + 1) := by have := enter_fails d xn; omega
          have hok3 := hok.enter xn
          generalize enterP d xn = d3 at cA cB hf3 hok3
          generalize upB d xn = bb at cA cB
          have gb : (bb != bb) = false := by cases bb <;> rfl
          have hd : Two18 W wr.drew b r d d := hR.drewN 1
          go_wp2_with fail
          go_region_held3 (fun w' => w'.cell? ⟨g, off + i * 2 + 1, none⟩ = some (.int .i64 xn)) (exact hkp _ (Two18.bel (by assumption)))
            (first
            | (go_at_call 11; refine (cA _ hd.a).mono ?_; rintro e wA ⟨rfl, hA1, hA2⟩; have hTA := hd.stepA hA1 hA2)
            | (go_at_call 12; refine (cB _ hTA.c).mono ?_; rintro e wB ⟨rfl, hB1, hB2⟩; have hTB := hTA.stepB hB1 hB2))
          clear hd hA1 hA2 hTA hB1 hB2 cA cB hR y0 y1 hdf hok
          have cW := fun w h => paWait_any b d3 w h (by omega)
          go_wp2_with fail
          refine (cW _ hTB.a).mono ?_
          rintro e w5 ⟨rfl, m5, rfl⟩
          have hZ := hTB.drewN m5
          clear cW hTB
          generalize World.drewN _ m5 = w5 at hZ ⊢
          have x2 : w5.cell? ⟨r, 2, none⟩ = some (.int .i64 d3.view) := hZ.c.box.cell (i := 2) rfl
          have x4 : w5.cell? ⟨r, 4, none⟩ = some (.int .i64 (d3.ticks : Int)) := hZ.c.box.cell (i := 4) rfl
          have cV := fun m => paView_any b d3 (w5.drewN m) (hZ.a.drewN m)
          have cWr := fun m => rpWait_any r d3 (w5.drewN m) (hZ.c.drewN m) (by omega) hok3.mL
          have cL1 := fun m => paLeader_any asked b d3 (w5.drewN m) (hZ.a.drewN m) hok3
          have cL2 := fun m => rpLeader_any asked r d3 (w5.drewN m) (hZ.c.drewN m) hok3
          have cL3 := fun m => paLeader_any d3.view b d3 (w5.drewN m) (hZ.a.drewN m) hok3
          have cL4 := fun m => rpLeader_any d3.view r d3 (w5.drewN m) (hZ.c.drewN m) hok3
          generalize leadN d3.n asked = K1 at cL1 cL2
          generalize leadN d3.n d3.view = K2 at cL3 cL4
          go_wp2_with fail
          go_quiet (first | (with_reducible exact Calls.quiet_of_same (cV _)) | (with_reducible exact Calls.quiet_of_same (cWr _)) | (with_reducible exact Calls.quiet_of_same (cL1 _)) | (with_reducible exact Calls.quiet_of_same (cL2 _)) | (with_reducible exact Calls.quiet_of_same (cL3 _)) | (with_reducible exact Calls.quiet_of_same (cL4 _)))
          have hZ2 := hZ.drewN nq
          clear cV cWr cL1 cL2 cL3 cL4 x2 x4 hZ
          generalize w5.drewN nq = w6 at hZ2 ⊢
          go_wp2
          go_roundw
          case rel => exact ⟨i + 1, d3, by omega, by omega, by go_num, hf3, hok3, hZ2⟩
          case measure => simp [intOf]; omega
        · have cA := fun w h => paFollow_any xn b d w h
          have cB := fun w h => rpFollow_any xn r d w h
          have hf3 : (followP d xn).fails ≤ 100 * (i + 1) := by have := Nat.le_of_eq (follow_fails d xn); omega
          have hok3 := hok.follow xn
          generalize followP d xn = d3 at cA cB hf3 hok3
          generalize upB d xn = bb at cA cB
          have gb : (bb != bb) = false := by cases bb <;> rfl
          have hd : Two18 W wr.drew b r d d := hR.drewN 1
          go_wp2_with fail
          go_region_held3 (fun w' => w'.cell? ⟨g, off + i * 2 + 1, none⟩ = some (.int .i64 xn)) (exact hkp _ (Two18.bel (by assumption)))
            (first
            | (go_at_call 13; refine (cA _ hd.a).mono ?_; rintro e wA ⟨rfl, hA1, hA2⟩; have hTA := hd.stepA hA1 hA2)
            | (go_at_call 14; refine (cB _ hTA.c).mono ?_; rintro e wB ⟨rfl, hB1, hB2⟩; have hTB := hTA.stepB hB1 hB2))
          clear hd hA1 hA2 hTA hB1 hB2 cA cB hR y0 y1 hdf hok
          have cW := fun w h => paWait_any b d3 w h (by omega)
          go_wp2_with fail
          refine (cW _ hTB.a).mono ?_
          rintro e w5 ⟨rfl, m5, rfl⟩
          have hZ := hTB.drewN m5
          clear cW hTB
          generalize World.drewN _ m5 = w5 at hZ ⊢
          have x2 : w5.cell? ⟨r, 2, none⟩ = some (.int .i64 d3.view) := hZ.c.box.cell (i := 2) rfl
          have x4 : w5.cell? ⟨r, 4, none⟩ = some (.int .i64 (d3.ticks : Int)) := hZ.c.box.cell (i := 4) rfl
          have cV := fun m => paView_any b d3 (w5.drewN m) (hZ.a.drewN m)
          have cWr := fun m => rpWait_any r d3 (w5.drewN m) (hZ.c.drewN m) (by omega) hok3.mL
          have cL1 := fun m => paLeader_any asked b d3 (w5.drewN m) (hZ.a.drewN m) hok3
          have cL2 := fun m => rpLeader_any asked r d3 (w5.drewN m) (hZ.c.drewN m) hok3
          have cL3 := fun m => paLeader_any d3.view b d3 (w5.drewN m) (hZ.a.drewN m) hok3
          have cL4 := fun m => rpLeader_any d3.view r d3 (w5.drewN m) (hZ.c.drewN m) hok3
          generalize leadN d3.n asked = K1 at cL1 cL2
          generalize leadN d3.n d3.view = K2 at cL3 cL4
          go_wp2_with fail
          go_quiet (first | (with_reducible exact Calls.quiet_of_same (cV _)) | (with_reducible exact Calls.quiet_of_same (cWr _)) | (with_reducible exact Calls.quiet_of_same (cL1 _)) | (with_reducible exact Calls.quiet_of_same (cL2 _)) | (with_reducible exact Calls.quiet_of_same (cL3 _)) | (with_reducible exact Calls.quiet_of_same (cL4 _)))
          have hZ2 := hZ.drewN nq
          clear cV cWr cL1 cL2 cL3 cL4 x2 x4 hZ
          generalize w5.drewN nq = w6 at hZ2 ⊢
          go_wp2
          go_roundw
          case rel => exact ⟨i + 1, d3, by omega, by omega, by go_num, hf3, hok3, hZ2⟩
          case measure => simp [intOf]; omega
        · have q0 : (xk == 0) = false := beq_eq_false_iff_ne.2 k0
          have q1 : (xk == 1) = false := beq_eq_false_iff_ne.2 k1
          have q2 : (xk == 2) = false := beq_eq_false_iff_ne.2 k2
          have hf3 : d.fails ≤ 100 * (i + 1) := by omega
          clear k0 k1 k2
          have cW := fun w h => paWait_any b d w h (by omega)
          go_wp2_with fail
          refine (cW _ hR.a).mono ?_
          rintro e w5 ⟨rfl, m5, rfl⟩
          have hZ := hR.drewN m5
          clear cW hR
          generalize World.drewN _ m5 = w5 at hZ ⊢
          have x2 : w5.cell? ⟨r, 2, none⟩ = some (.int .i64 d.view) := hZ.c.box.cell (i := 2) rfl
          have x4 : w5.cell? ⟨r, 4, none⟩ = some (.int .i64 (d.ticks : Int)) := hZ.c.box.cell (i := 4) rfl
          have cV := fun m => paView_any b d (w5.drewN m) (hZ.a.drewN m)
          have cWr := fun m => rpWait_any r d (w5.drewN m) (hZ.c.drewN m) (by omega) hok.mL
          have cL1 := fun m => paLeader_any asked b d (w5.drewN m) (hZ.a.drewN m) hok
          have cL2 := fun m => rpLeader_any asked r d (w5.drewN m) (hZ.c.drewN m) hok
          have cL3 := fun m => paLeader_any d.view b d (w5.drewN m) (hZ.a.drewN m) hok
          have cL4 := fun m => rpLeader_any d.view r d (w5.drewN m) (hZ.c.drewN m) hok
          generalize leadN d.n asked = K1 at cL1 cL2
          generalize leadN d.n d.view = K2 at cL3 cL4
          go_wp2_with fail
          go_quiet (first | (with_reducible exact Calls.quiet_of_same (cV _)) | (with_reducible exact Calls.quiet_of_same (cWr _)) | (with_reducible exact Calls.quiet_of_same (cL1 _)) | (with_reducible exact Calls.quiet_of_same (cL2 _)) | (with_reducible exact Calls.quiet_of_same (cL3 _)) | (with_reducible exact Calls.quiet_of_same (cL4 _)))
          have hZ2 := hZ.drewN nq
          clear cV cWr cL1 cL2 cL3 cL4 x2 x4 hZ
          generalize w5.drewN nq = w6 at hZ2 ⊢
          go_wp2
          go_roundw
          case rel => exact ⟨i + 1, d, by omega, by omega, by go_num, hf3, hok, hZ2⟩
          case measure => simp [intOf]; omega
      · rcases (by omega : ¬ (i : Int) < (l.length : Int) ∨ ((i : Int) < (l.length : Int) ∧ ¬ (i : Int) < 60)) with hd | ⟨hd0, hd⟩
        all_goals
          go_wp2
          go_ret
          exact ⟨rfl, hR.bel⟩
  · have cN := paNew_no n most W hin
    have cR := fun w => rpNew_no n most w hin
    go_enter Try.func3, Try.ntmps3
    go_wp2_with fail
    refine cN.mono ?_
    rintro e w0 ⟨rfl, rfl⟩
    go_wp2_with fail
    refine (cR w0).mono ?_
    rintro e w1 ⟨rfl, rfl⟩
    go_wp2
    go_ret
    exact ⟨rfl, Below.refl _ _⟩
end Go.Proofs.Ytpppklflokfniaa
