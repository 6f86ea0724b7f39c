/- WalkLine: the walk. -/
import Derived.Test.YtbeaffeibcjjfaaWalkWorks
import Derived.Test.YtbeaffeibcjjfaaWalkLow
import Derived.Test.YtbeaffeibcjjfaaWalkLineMath
import Derived.Test.YtbeaffeibcjjfaaInts
namespace Go.Proofs.Ytbeaffeibcjjfaa
open Go Go.RowKit Go.Maps
set_option linter.unusedVariables false

theorem conv_byte16 {w : World} {b : Nat} {x : Nat} (hx : x < 256) (h : w.cell? ⟨b, 0, none⟩ = some (.int .u8 (x : Int))) :
    (convert 77 9 (.slice (some ⟨b, 0, none⟩) 1 1)).run Try.prog w = .ok (.string ⟨#[UInt8.ofNat x]⟩) w := by
  have := run_convert_bytes_back w 77 9 5 ⟨b, 0, none⟩ 1 [UInt8.ofNat x] Try.underlying77 Try.underlying5 Try.underlying9 (fun j hj => by
    have : j = 0 := by simp at hj; omega
    subst this
    have e : (UInt8.ofNat x).toNat = x := by simp; omega
    simp only [List.getElem_cons_zero, e]
    simpa [Addr.add] using h)
  exact this

set_option maxRecDepth 100000 in
theorem name_any (r : Nat) (hr : r ≤ 255) (w : World) : Calls Try.prog 19 #[.int .i64 (r : Int)] w fun e w' => e = .returned (.string (nm r)) ∧ Below w.heap.size w w' := by
  have hb := belowNew w (.cells #[.int .u8 (r : Int)] 5)
  have hA := Arr.new w 5 [.int .u8 (r : Int)]
  have hw : IntKind.u8.wrap (r : Int) = (r : Int) := by simp [IntKind.wrap, IntKind.bits, IntKind.signed]; omega
  have hcv := conv_byte16 (x := r) (by omega) (hA.cell (i := 0) rfl)
  go_enter Try.func19, Try.ntmps19
  go_wp2
  go_ret
  exact ⟨rfl, hb⟩

/-- A graph that is new since W. -/
structure One16 (W w : World) (gb : Nat) (g : GrD) : Prop where
  ex : ∃ S, PG w gb S g ∧ ∀ k, S k → W.heap.size ≤ k
  bel : Below W.heap.size W w

theorem One16.below {W w w' : World} {gb : Nat} {g : GrD} (h : One16 W w gb g) (hb : Below w.heap.size w w') : One16 W w' gb g := by
  obtain ⟨S, h1, h2⟩ := h.ex
  exact ⟨⟨S, h1.below hb, h2⟩, h.bel.trans (hb.mono h.bel.size)⟩

theorem One16.step {W w w' : World} {gb : Nat} {g' : GrD} {S S' : Nat → Prop} (hb : Below W.heap.size W w) (hS : ∀ k, S k → W.heap.size ≤ k) (hg : PG w' gb S' g') (hf : FreshS w S S') (hk : Kept S w w') : One16 W w' gb g' :=
  ⟨⟨S', hg, fun k e => by rcases hf k e with q | q; exact hS k q; have := hb.size; omega⟩, below_of_kept hb hS hk⟩

theorem One16.emit {W w : World} {gb : Nat} {g : GrD} (h : One16 W w gb g) (id : ByteArray) (hid : id.size ≤ maxLen) (m : List ByteArray) (hm : MissOf g id m) (hne : m ≠ []) :
    Calls Try.prog 10 #[.pointer (some ⟨gb, 0, none⟩), .string id] w fun e w' => ∃ al cl am cm, e = .returned (.tuple #[.slice al 0 cl, .slice am m.length cm]) ∧ One16 W w' gb g := by
  obtain ⟨S, h1, h2⟩ := h.ex
  refine (pgEmit_any id gb S g w h1 hid).mono ?_
  rintro e w' ⟨l, m', al, cl, am, cm, rfl, hm', hl, hmm, hk, hc⟩
  obtain rfl : m' = m := hm'.same hm
  rcases hc with ⟨e, _⟩ | ⟨_, rfl, hg⟩
  · exact (hne e).elim
  · exact ⟨al, cl, am, cm, rfl, One16.step h.bel h2 hg (fun k q => Or.inl q) hk⟩

theorem One16.emits {W w : World} {gb : Nat} {g : GrD} (h : One16 W w gb g) (id : ByteArray) (hid : id.size ≤ maxLen) (hm : MissOf g id []) :
    Calls Try.prog 10 #[.pointer (some ⟨gb, 0, none⟩), .string id] w fun e w' => ∃ al cl am cm, e = .returned (.tuple #[.slice al (emitV g id).length cl, .slice am 0 cm]) ∧ One16 W w' gb (doneV g id) := by
  obtain ⟨S, h1, h2⟩ := h.ex
  refine (pgEmit_any id gb S g w h1 hid).mono ?_
  rintro e w' ⟨l, m', al, cl, am, cm, rfl, hm', hl, hmm, hk, hc⟩
  obtain rfl : m' = [] := hm'.same hm
  rcases hc with ⟨_, rfl, hg⟩ | ⟨e, _⟩
  · exact ⟨al, cl, am, cm, rfl, One16.step h.bel h2 hg (fun k q => Or.inl q) hk⟩
  · exact (e rfl).elim

theorem nm_size (r : Nat) : (nm r).size ≤ maxLen := by show (1 : Nat) ≤ maxLen; unfold maxLen; omega

set_option maxRecDepth 100000 in
set_option maxHeartbeats 4000000 in
theorem walkLine_walk (n low first : Int) (W : World) (_ : (Lit.int .i64 n).wf = true) (_ : (Lit.int .i64 low).wf = true) (_ : (Lit.int .i64 first).wf = true) :
    Calls Try.prog 6 #[.int .i64 n, .int .i64 low, .int .i64 first] W fun e w' => e = .returned (.bool true) ∧ Below W.heap.size W w' := by
  obtain ⟨m, hm, hme⟩ := pick_atC n 40 (by omega) (by omega)
  obtain ⟨N, hN⟩ : ∃ N : Nat, N = 1 + m := ⟨_, rfl⟩
  obtain ⟨lo, hlo, hloe⟩ := pick_atC low (N + 1) (by omega) (by omega)
  obtain ⟨q, hq, hqe⟩ := pick_atC first N (by omega) (by omega)
  have hme2 : wrap64 (1 + wrap64 ((IntKind.u64.wrap n).tmod 40)) = (N : Int) := by
    rw [show wrap64 ((IntKind.u64.wrap n).tmod 40) = (m : Int) from hme, Mx.wrap64_small _ (by omega) (by omega)]
    omega
  have hu1 : IntKind.u64.wrap ((N : Int) + 1) = (N : Int) + 1 := by rw [Mx.wrap_u64]; omega
  have hu2 : IntKind.u64.wrap (N : Int) = (N : Int) := by rw [Mx.wrap_u64]; omega
  have hloe' : wrap64 ((IntKind.u64.wrap low).tmod ((N : Int) + 1)) = (lo : Int) := hloe
  have hqe' : wrap64 (1 + wrap64 ((IntKind.u64.wrap first).tmod (N : Int))) = ((q + 1 : Nat) : Int) := by
    rw [hqe, Mx.wrap64_small _ (by omega) (by omega)]
    omega
  clear hme hloe hqe
  have hN40 : N ≤ 40 := by omega
  have hN1 : 1 ≤ N := by omega
  obtain ⟨F, hF⟩ : ∃ F, F = q + 1 := ⟨_, rfl⟩
  rw [← hF] at hqe'
  have hF1 : 1 ≤ F := by omega
  have hFN : F ≤ N := by omega
  have hloN : lo ≤ N := by omega
  clear hN hF hm hq hlo
  have hd1 : ((N : Int) + 1 = 0) = False := by simp only [eq_iff_iff, iff_false]; omega
  have hd2 : ((N : Int) = 0) = False := by simp only [eq_iff_iff, iff_false]; omega
  have cWk := works16_any W
  go_enter Try.func6, Try.ntmps6
  go_wp2_with fail
  refine cWk.mono ?_
  rintro e w0 ⟨rfl, hb0⟩
  clear cWk
  go_wp2_with fail
  rw [hme2, hloe', hqe']
  refine (pgNew_any w0).mono ?_
  rintro e w1 ⟨gb, S1, rfl, hg1, hs1, hb1⟩
  have hO : One16 W w1 gb (lineG 1 0 0 0) := ⟨⟨S1, hg1, fun k hk => by have := hs1 k hk; have := hb0.size; omega⟩, hb0.trans (hb1.mono hb0.size)⟩
  clear hg1 hs1 hb1 hb0 hme2 hloe' hqe' hu1 hu2 hd1 hd2
  go_wp2_with fail
  go_loopw [8, 9] (fun v8 _ wr => ∃ r : Nat, r ≤ N ∧ v8 = .int .i64 ((r + 1 : Nat) : Int) ∧ One16 W wr gb (lineG 1 r 0 0)) (fun v _ _ => N + 1 - (intOf v).toNat)
  case atStart => exact ⟨0, by omega, rfl, hO⟩
  case round =>
    obtain ⟨r, hr, rfl, hR⟩ := hrel
    clear hO
    by_cases hlt : r < N
    · have g1 : ((r + 1 : Nat) : Int) ≤ (N : Int) := by omega
      have g1' : (r : Int) + 1 ≤ (N : Int) := by omega
      have hadd := line_add (n := r) (by omega)
      have hmod : Hid ((((r + 1) % 7 : Nat) : Int) = ((r : Int) + 1) % 7) := by show _ = _; omega
      have hcast : Hid (((r + 1 : Nat) : Int) = (r : Int) + 1) := by show _ = _; omega
      have hnn : (0 : Int) ≤ (r : Int) + 1 := by omega
      obtain ⟨S, hG, hS⟩ := hR.ex
      have hbr := hR.bel
      by_cases h1 : 1 < r + 1
      · rw [if_pos h1] at hadd
        have g2 : (1 : Int) < (r : Int) + 1 := by omega
        have g3 : 0 < r := by omega
        have cA := fun (w' : World) (a : Nat) (hg : PG w' gb S (lineG 1 r 0 0)) (hrow : RowAt textK w' (some ⟨a, 0, none⟩) [nm r]) (ho : ¬ S a) => pgAdd_any (nm (r + 1)) ((r + 1 : Nat) : Int) (((r + 1) % 7 : Nat) : Int) (some ⟨a, 0, none⟩) 1 [nm r] gb S _ w' hg (nm_size _) (fun p hp => by rw [List.mem_singleton.1 hp]; exact nm_size _) hrow (fun b hb => by rw [foot_at noFootT hb]; exact ho) (by show (1 : Nat) ≤ _; omega)
        rw [hadd.2] at cA
        have hE : Hid (addEV (lineG 1 r 0 0) (nm (r + 1)) ((r + 1 : Nat) : Int) (((r + 1) % 7 : Nat) : Int) [nm r].length = 0) := hadd.1
        clear hadd hR
        go_wp2_with fail
        refine (name_any r (by omega) wr).mono ?_
        rintro e w2 ⟨rfl, hb2⟩
        have hG2 := hG.below hb2
        have hb02 := hbr.trans (hb2.mono hbr.size)
        have hb3 := belowNew w2 (.cells #[.string (nm r)] 9)
        have hrow3 := new1 w2 (nm r)
        have hG3 := hG2.below hb3
        have hb03 := hb02.trans (hb3.mono hb02.size)
        have hoff : ¬ S w2.heap.size := fun q => by have := hG2.lt q; omega
        have cN := name_any (r + 1) (by omega) (w2.alloc (.cells #[.string (nm r)] 9))
        go_wp2_with fail
        refine (show Calls Try.prog 19 #[.int .i64 ((r + 1 : Nat) : Int)] _ _ from cN).mono ?_
        rintro e w4 ⟨rfl, hb4⟩
        have hG4 := hG3.below hb4
        have hb04 := hb03.trans (hb4.mono hb03.size)
        have cA4 := cA w4 w2.heap.size hG4 (hrow3.below hb4) hoff
        rw [hE.out, hmod.out, hcast.out] at cA4
        clear cN cA hG hG2 hG3 hb2 hb3 hb4 hb02 hb03 hrow3 hoff hbr
        go_wp2_with fail
        refine (show Calls Try.prog 8 #[.pointer (some ⟨gb, 0, none⟩), .string (nm (r + 1)), .int .i64 ((r : Int) + 1), .int .i64 (((r : Int) + 1) % 7), .slice (some ⟨w2.heap.size, 0, none⟩) 1 1] w4 _ from cA4).mono ?_
        rintro e w5 ⟨S5, rfl, hG5, hf5, hk5⟩
        have hR5 := One16.step hb04 hS hG5 hf5 hk5
        clear cA4 hG4 hb04 hG5 hf5 hk5 hE
        go_wp2
        go_roundw
        case rel => exact ⟨r + 1, by omega, by go_num, hR5⟩
        case measure => simp [intOf]; omega
      · obtain rfl : r = 0 := by omega
        rw [if_neg (by omega)] at hadd
        have hadd' : addEV (lineG 1 0 0 0) (nm 1) 1 1 0 = 0 ∧ addGV (lineG 1 0 0 0) (nm 1) 1 1 [] = lineG 1 1 0 0 := hadd
        have cA := fun (w' : World) (hg : PG w' gb S (lineG 1 0 0 0)) => pgAdd_any (nm 1) 1 1 none 0 [] gb S _ w' hg (nm_size _) (fun p hp => by cases hp) (nil_row w' none) (fun b hb => (nil_foot hb).elim) (by decide)
        rw [hadd'.2, show addEV (lineG 1 0 0 0) (nm 1) 1 1 ([] : List ByteArray).length = 0 from hadd'.1] at cA
        have cN := name_any 1 (by omega) wr
        clear hadd hadd' hR hmod hcast hnn
        go_wp2_with fail
        refine (show Calls Try.prog 19 #[.int .i64 1] wr _ from cN).mono ?_
        rintro e w4 ⟨rfl, hb4⟩
        have cA4 := cA w4 (hG.below hb4)
        have hb04 := hbr.trans (hb4.mono hbr.size)
        clear cA cN
        go_wp2_with fail
        refine (show Calls Try.prog 8 #[.pointer (some ⟨gb, 0, none⟩), .string (nm 1), .int .i64 1, .int .i64 1, .slice none 0 0] w4 _ from cA4).mono ?_
        rintro e w5 ⟨S5, rfl, hG5, hf5, hk5⟩
        have hR5 := One16.step hb04 hS hG5 hf5 hk5
        clear cA4 hG hb04 hG5 hf5 hk5
        go_wp2
        go_roundw
        case rel => exact ⟨1, by omega, by go_num, hR5⟩
        case measure => simp [intOf]; omega
    · obtain rfl : r = N := by omega
      have g1 : ¬ ((r + 1 : Nat) : Int) ≤ (r : Int) := by omega
      have g1' : ¬ (r : Int) + 1 ≤ (r : Int) := by omega
      obtain ⟨S, hG, hS⟩ := hR.ex
      have cL := pgLow_any (lo : Int) gb S _ wr hG
      rw [line_low hN40] at cL
      have hbr := hR.bel
      clear hR
      go_wp2_with fail
      refine cL.mono ?_
      rintro e w2 ⟨rfl, hG2, hk2⟩
      have hR2 : One16 W w2 gb (lineG (max 1 lo) r lo 0) := One16.step hbr hS hG2 (fun k q => Or.inl q) hk2
      clear cL hG hG2 hk2 hbr hS
      have cN1 := name_any F (by omega) w2
      go_wp2_with fail
      refine cN1.mono ?_
      rintro e w3 ⟨rfl, hb3⟩
      have hR3 := hR2.below hb3
      clear cN1 hR2 hb3
      by_cases hfl : F < lo
      · have gfl : (F : Int) < (lo : Int) := by omega
        have hlo1 : max 1 lo = lo := by omega
        have cE1 := hR3.emit (nm F) (nm_size _) [nm F] (line_gone hN40 hfl hFN) (by simp)
        go_wp2_with fail
        refine (show Calls Try.prog 10 _ w3 (fun e w' => ∃ al cl am cm, e = .returned (.tuple #[.slice al 0 cl, .slice am 1 cm]) ∧ One16 W w' gb (lineG (max 1 lo) r lo 0)) from cE1).mono ?_
        rintro e w4 ⟨al, cl, am, cm, rfl, hR4⟩
        have cN2 := name_any r (by omega) w4
        clear cE1 hR3
        go_wp2_with fail
        refine cN2.mono ?_
        rintro e w5 ⟨rfl, hb5⟩
        have hR5 := hR4.below hb5
        have cE2 := hR5.emits (nm r) (nm_size _) (line_miss hN40 (by omega) (Nat.le_refl _) (Nat.zero_le _))
        rw [line_emit hN40 (by omega) (Nat.le_refl _) (Nat.zero_le _)] at cE2
        have elen : r + 1 - max (max 1 lo) (0 + 1) = r + 1 - lo := by omega
        rw [elen] at cE2
        clear cN2 hR4 hb5 elen
        go_wp2_with fail
        refine cE2.mono ?_
        rintro e w6 ⟨al6, cl6, am6, cm6, rfl, hR6⟩
        have hbW := hR6.bel
        have gmx : (1 : Int) ≤ (lo : Int) := by omega
        have glen : ((r + 1 - lo : Nat) : Int) = (r : Int) - (lo : Int) + 1 := by omega
        have hmx : max (1 : Int) (lo : Int) = (lo : Int) := by omega
        clear cE2 hR6 hR5
        go_wp2
        go_ret
        exact ⟨rfl, hbW⟩
      · have gfl : ¬ (F : Int) < (lo : Int) := by omega
        obtain ⟨L, hL⟩ : ∃ L, Hid (max 1 lo = L) := ⟨_, rfl⟩
        have hLF : L ≤ F := by have := hL.out; omega
        have hL1 : 1 ≤ L := by have := hL.out; omega
        have cE1 := hR3.emits (nm F) (nm_size _) (line_miss hN40 (by omega) hFN (Nat.zero_le _))
        rw [line_emit hN40 (by omega) hFN (Nat.zero_le _), line_done hN40 (by omega) hFN (Nat.zero_le _)] at cE1
        have elen : F + 1 - max (max 1 lo) (0 + 1) = F + 1 - L := by have := hL.out; omega
        rw [elen] at cE1
        clear elen
        go_wp2_with fail
        refine cE1.mono ?_
        rintro e w4 ⟨al, cl, am, cm, rfl, hR4⟩
        have cN2 := name_any r (by omega) w4
        clear cE1 hR3
        go_wp2_with fail
        refine cN2.mono ?_
        rintro e w5 ⟨rfl, hb5⟩
        have hR5 := hR4.below hb5
        have cE2 := hR5.emits (nm r) (nm_size _) (line_miss hN40 (by omega) (Nat.le_refl _) hFN)
        rw [line_emit hN40 (by omega) (Nat.le_refl _) hFN, line_done hN40 (by omega) (Nat.le_refl _) hFN] at cE2
        have elen : r + 1 - max (max 1 lo) (F + 1) = r - F := by have := hL.out; omega
        rw [elen] at cE2
        clear cN2 hR4 hb5 elen
        go_wp2_with fail
        refine cE2.mono ?_
        rintro e w6 ⟨al6, cl6, am6, cm6, rfl, hR6⟩
        have cN3 := name_any r (by omega) w6
        have glen : ((F + 1 - L : Nat) : Int) = (F : Int) - (L : Int) + 1 := by omega
        have glen2 : ((r - F : Nat) : Int) = (r : Int) - (F : Int) := by omega
        have hmx : max (1 : Int) (lo : Int) = (L : Int) := by have := hL.out; omega
        clear cE2 hR5
        go_wp2_with fail
        refine cN3.mono ?_
        rintro e w7 ⟨rfl, hb7⟩
        have hR7 := hR6.below hb7
        obtain ⟨S7, hG7, hS7⟩ := hR7.ex
        have cM := pgEmitted_any (nm r) gb S7 _ w7 hG7 (nm_size _)
        rw [line_emitted hN40 (by have := hL.out; omega) (Nat.le_refl _)] at cM
        have hbW := hR7.bel
        clear cN3 hR6 hR7 hb7
        go_wp2_with fail
        refine cM.mono ?_
        rintro e w8 ⟨rfl, rfl⟩
        go_wp2
        go_ret
        exact ⟨rfl, hbW⟩
end Go.Proofs.Ytbeaffeibcjjfaa
