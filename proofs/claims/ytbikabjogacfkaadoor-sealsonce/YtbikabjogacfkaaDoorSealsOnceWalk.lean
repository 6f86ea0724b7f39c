/- SealsOnce: the walk. -/
import Derived.Test.YtbikabjogacfkaaDoorBoardPair
import Derived.Test.YtbikabjogacfkaaDoorMapInt
import Derived.Test.YtbikabjogacfkaaDoorInts
import Derived.Deep.RegionHeld3
import Derived.Lib.QuietBelow
import Derived.BigQuiet
import Derived.Deep.DeepCutAuto
namespace Go.Proofs.YtbikabjogacfkaaDoor
open Go.RowKit Go.Maps
set_option linter.unusedVariables false

/-- Whose tags have come. -/
def seenF (P : List (Option TagD)) (k : Int) : Option Value := if 0 ≤ k ∧ (P.getD k.toNat none).isSome = true then some (.bool true) else none

theorem zeroBool12 (w : World) : (zeroValue 4).run Tryd.prog w = .ok (.bool false) w := by kernel_rfl

theorem seenF_put {P : List (Option TagD)} {j : Nat} (hj : j < P.length) (t : TagD) (k : Int) : seenF (P.set j (some t)) k = putFI (seenF P) (j : Int) (.bool true) k := by
  unfold seenF putFI
  by_cases e : k = (j : Int)
  · subst e
    rw [if_pos rfl, if_pos]
    refine ⟨by omega, ?_⟩
    rw [Int.toNat_natCast, List.getD_eq_getElem?_getD, List.getElem?_set, if_pos rfl, if_pos hj]
    rfl
  · rw [if_neg e]
    show _ = (if 0 ≤ k ∧ (P.getD k.toNat none).isSome = true then some (Value.bool true) else none)
    by_cases h0 : 0 ≤ k
    · have : ¬ j = k.toNat := by omega
      rw [List.getD_eq_getElem?_getD, List.getD_eq_getElem?_getD, List.getElem?_set, if_neg this]
    · rw [if_neg (fun h => h0 h.1), if_neg (fun h => h0 h.1)]

theorem seenF_same {P : List (Option TagD)} {j : Nat} {t : TagD} (hP : P[j]? = some (some t)) (k : Int) : seenF P k = putFI (seenF P) (j : Int) (.bool true) k := by
  unfold putFI
  by_cases e : k = (j : Int)
  · subst e
    rw [if_pos rfl]
    unfold seenF
    rw [if_pos]
    refine ⟨by omega, ?_⟩
    rw [Int.toNat_natCast, List.getD_eq_getElem?_getD, hP]
    rfl
  · rw [if_neg e]

theorem seenF_at {P : List (Option TagD)} {j : Nat} {o : Option TagD} (hP : P[j]? = some o) : (seenF P (j : Int)).isSome = o.isSome ∧ (seenF P (j : Int)).getD (.bool false) = .bool o.isSome := by
  unfold seenF
  rw [Int.toNat_natCast, List.getD_eq_getElem?_getD, hP]
  cases o with
  | none => rw [if_neg (by simp)]; exact ⟨rfl, rfl⟩
  | some t => rw [if_pos ⟨by omega, rfl⟩]; exact ⟨rfl, rfl⟩

/-- The board, and the law's own map, apart; the word is open with the places P, or closed. -/
structure Onc (W : World) (tb f : Nat) (ks : List ByteArray) (pb mb : Nat) (S : Nat → Prop) (bs : List WordB) (P : Option (List (Option TagD))) (w : World) : Prop where
  o : One12 W tb f ks ⟨#[107]⟩ pb S 50 bs w
  off : ¬ S mb
  gm : W.heap.size ≤ mb
  lt : mb < w.heap.size
  got : getB ⟨#[119]⟩ bs = P.map (fun p => ⟨⟨#[119]⟩, p⟩)
  m : ∀ p, P = some p → IMap w mb (seenF p) (inL p).length ∧ (inL p).length < 2 * f + 1

section
variable {W : World} {tb f : Nat} {ks : List ByteArray} {pb mb : Nat} {S S' : Nat → Prop} {bs bs' : List WordB} {P : Option (List (Option TagD))} {w w' : World}

theorem Onc.below (h : Onc W tb f ks pb mb S bs P w) (hb : Below w.heap.size w w') : Onc W tb f ks pb mb S bs P w' :=
  ⟨h.o.below hb, h.off, h.gm, Nat.lt_of_lt_of_le h.lt hb.size, h.got, fun p e => ⟨(h.m p e).1.below hb, (h.m p e).2⟩⟩

/-- Behind an act of the board that leaves what the word has. -/
theorem Onc.step (h : Onc W tb f ks pb mb S bs P w) (hA : One12 W tb f ks ⟨#[107]⟩ pb S' 50 bs' w') (hf : FreshS w S S') (hk : Kept S w w') (hg : getB ⟨#[119]⟩ bs' = getB ⟨#[119]⟩ bs) : Onc W tb f ks pb mb S' bs' P w' := by
  refine ⟨hA, fun e => ?_, h.gm, Nat.lt_of_lt_of_le h.lt hk.size, by rw [hg]; exact h.got, fun p e => ⟨(h.m p e).1.kept hk h.off, (h.m p e).2⟩⟩
  rcases hf mb e with e | e
  · exact h.off e
  · have := h.lt; omega

/-- Behind a writing of the map. -/
theorem Onc.put {p : List (Option TagD)} (ho : One12 W tb f ks ⟨#[107]⟩ pb S 50 bs w) (off : ¬ S mb) (gm : W.heap.size ≤ mb) (got : getB ⟨#[119]⟩ bs = some ⟨⟨#[119]⟩, p⟩) (hM : IMap w' mb (seenF p) (inL p).length) (hl : (inL p).length < 2 * f + 1) (hk : Kept (fun k => k = mb) w w') : Onc W tb f ks pb mb S bs (some p) w' := by
  refine ⟨ho.kept hk (fun k e => by have e' : k = mb := e; omega) (fun k e e' => off (by rw [← show k = mb from e']; exact e)), off, gm, hM.lt, got, fun q e => ?_⟩
  obtain rfl : p = q := by simpa using e
  exact ⟨hM, hl⟩
end

set_option maxRecDepth 100000 in
set_option maxHeartbeats 4000000 in
theorem sealsOnce_walk (f : Int) (aw : Option Addr) (cw : Nat) (who : List Int) (ao : Option Addr) (cap : Nat) (ls : List ActD) (W : World) (hvf : (Lit.int .i64 f).wf = true) (hH : RowAt intK W aw who) (hhm : who.length ≤ maxLen) (hR : RowAt actK W ao ls) (hm : ls.length ≤ maxLen) (hG : Mx.Glob W) :
    Calls Tryd.prog 4 #[.int .i64 f, .slice aw who.length cw, .slice ao ls.length cap] W fun e w' => e = .returned (.bool true) ∧ Below W.heap.size W w' := by
  have hm' : ls.length ≤ 9223372036854775807 := by unfold maxLen at hm; omega
  have hhm' : who.length ≤ 9223372036854775807 := by unfold maxLen at hhm; omega
  clear hm hhm
  have hmm := @run_makeMap Tryd.prog
  go_enter Tryd.func4, Tryd.ntmps4
  go_wp2_with fail
  refine (works12_any W hG).mono ?_
  rintro e w1 ⟨rfl, hB1⟩
  have cB := both_any f w1 (hG.below hB1)
  go_wp2_with fail
  refine cB.mono ?_
  rintro e w2 ⟨n, tb, rt, n2, n1, rfl, hT2, _, hB2'⟩
  have hB2 := hB1.trans (hB2'.mono hB1.size)
  have hk32 : ∀ k ∈ Mx.keysL seedW (3 * n + 1), k.size ≤ 32 := Mx.keysL_size _ _
  have hkl : Hid ((Mx.keysL seedW (3 * n + 1)).length = 3 * n + 1) := Mx.keysL_len _ _
  generalize Mx.keysL seedW (3 * n + 1) = ks at *
  have env : BEnv w2 tb n ks ⟨#[107]⟩ := ⟨hT2, n2, hkl.out, hk32, by decide, hG.below hB2⟩
  clear cB hT2 hB1 hB2'
  have cN := One12.new (most := 50) env (Below.refl _ w2)
  rw [show max (0 : Int) 50 = 50 by decide] at cN
  go_wp2_with fail
  refine cN.mono ?_
  rintro e w3 ⟨pb, rfl, A0, ha3, hs3, hb3⟩
  clear cN hs3
  have hoE : openE 50 [] ⟨#[119]⟩ = 0 := by unfold openE; rw [if_neg (by simp [atW]), if_neg (by simp)]
  have hoB : openB 50 [] ⟨#[119]⟩ = [⟨⟨#[119]⟩, noP⟩] := by unfold openB; rw [if_pos hoE]; rfl
  have cO := ha3.open_ ⟨#[119]⟩ (by decide) (by simp)
  rw [hoE, hoB] at cO
  go_wp2_with fail
  refine cO.mono ?_
  rintro e w5 ⟨rfl, S5, ha5, hf5, hk5⟩
  have hbm := belowNew w5 (.map #[] 0)
  have hO0 : Onc w2 tb n ks pb w5.heap.size S5 [⟨⟨#[119]⟩, noP⟩] (some noP) (w5.alloc (.map #[] 0)) := by
    refine ⟨ha5.below hbm, fun e => by have := ha5.lt e; omega, ha5.bel.size, by rw [alloc_size]; omega, by rw [getB_cons, if_pos rfl]; rfl, fun p e => ?_⟩
    obtain rfl : noP = p := by simpa using e
    refine ⟨(IMap.new w5).congr (fun k => ?_), by rw [inL_none]; simp⟩
    unfold seenF
    rw [if_neg]
    rintro ⟨_, h2⟩
    have : noP.getD k.toNat none = none := by
      unfold noP
      rw [List.getD_eq_getElem?_getD, List.getElem?_replicate]
      split <;> rfl
    rw [this] at h2
    cases h2
  obtain ⟨mb, hmb⟩ : ∃ z, Hid (w5.heap.size = z) := ⟨_, rfl⟩
  rw [hmb.out] at hO0
  clear ha3 hb3 ha5 hf5 hk5 hbm cO hoE hoB env
  have hHW := hH.below hB2
  have hRW := hR.below hB2
  have hk32' : Hid _ := hk32
  have hGW := hG.below hB2
  clear hH hR hk32 hG
  go_wp2_with fail
  rw [hmb.out]
  generalize World.alloc _ _ = w6 at hO0 ⊢
  clear hmm
  go_loopw [12, 13] (fun v12 v13 wr => ∃ (i : Nat) (S : Nat → Prop) (bs : List WordB) (P : Option (List (Option TagD))), i ≤ who.length ∧ i ≤ 40 ∧ v13 = .int .i64 (i : Int) ∧ v12 = .int .i64 (if P.isSome = true then 0 else 1) ∧ bs.length ≤ i + 1 ∧ Onc w2 tb n ks pb mb S bs P wr) (fun _ v _ => 40 - (intOf v).toNat)
  case atStart => exact ⟨0, _, _, _, Nat.zero_le _, Nat.zero_le _, rfl, rfl, by simp, hO0⟩
  case round =>
    obtain ⟨i, S, bs, P, hil, hi1, rfl, rfl, hn, hO⟩ := hrel
    clear hO0
    obtain ⟨an, han⟩ : ∃ z : Int, Hid ((if P.isSome = true then 0 else 1 : Int) = z) := ⟨_, rfl⟩
    rw [han.out]
    by_cases hgo : i < who.length ∧ i < 40
    · have g1 : (i : Int) < (who.length : Int) := by omega
      have g2 : (i : Int) < 40 := by omega
      obtain ⟨h, hh⟩ : ∃ o, who[i]? = some o := ⟨_, List.getElem?_eq_getElem hgo.1⟩
      obtain ⟨bq, hbq⟩ : ∃ z : Bool, Hid ((match ls[i]? with | some o => !(o.word.toList == [119]) && decide (o.word.size < 300) | none => false) = z) := ⟨_, rfl⟩
      go_upto_region 14 with fail
      go_cut [65] (fun s65 wx => s65 = .bool bq ∧ wx = wr)
      case first =>
        by_cases hlt : i < ls.length
        · have g3 : (i : Int) < (ls.length : Int) := by omega
          obtain ⟨⟨kd, word, tw, mac⟩, ho⟩ : ∃ o, ls[i]? = some o := ⟨_, List.getElem?_eq_getElem hlt⟩
          obtain ⟨g, off, rfl, hg, y0, y1, y2, y3⟩ := (hRW.below hO.o.bel).act ho
          have hbq2 := hbq.out
          rw [ho] at hbq2
          simp only at hbq2
          clear ho hbq
          cases hw : (word.toList == [119]) with
          | true =>
            obtain rfl : bq = false := by rw [← hbq2, hw]; rfl
            clear hbq2
            go_wp2_with fail
            go_meet
            case rel => exact ⟨rfl, rfl⟩
          | false =>
            by_cases hz : word.size < 300
            · have hz' : (word.size : Int) < 300 := by omega
              obtain rfl : bq = true := by rw [← hbq2, hw, decide_eq_true hz]; rfl
              clear hbq2
              go_wp2_with fail
              go_meet
              case rel => exact ⟨rfl, rfl⟩
            · have hz' : ¬ (word.size : Int) < 300 := by omega
              obtain rfl : bq = false := by rw [← hbq2, hw, decide_eq_false hz]; rfl
              clear hbq2
              go_wp2_with fail
              go_meet
              case rel => exact ⟨rfl, rfl⟩
        · have g3 : ¬ (i : Int) < (ls.length : Int) := by omega
          have hbq2 := hbq.out
          rw [List.getElem?_eq_none (by omega)] at hbq2
          obtain rfl : bq = false := hbq2.symm
          clear hbq2 hbq
          go_wp2_with fail
          go_meet
          case rel => exact ⟨rfl, rfl⟩
      case rest =>
        obtain ⟨rfl, rfl⟩ := hcut
        go_upto_if 65 with fail
        go_cut [] (fun wx => ∃ (S' : Nat → Prop) (bs' : List WordB), bs'.length ≤ i + 2 ∧ Onc w2 tb n ks pb mb S' bs' P wx)
        case first =>
          cases bq with
          | false =>
            go_wp2_with fail
            go_meet
            case rel => exact ⟨S, bs, by omega, hO⟩
          | true =>
            have hlt : i < ls.length := by
              rcases Nat.lt_or_ge i ls.length with e | e
              · exact e
              · have h9 := hbq.out
                rw [List.getElem?_eq_none e] at h9
                cases h9
            have g3 : (i : Int) < (ls.length : Int) := by omega
            obtain ⟨⟨kd, word, tw, mac⟩, ho⟩ : ∃ o, ls[i]? = some o := ⟨_, List.getElem?_eq_getElem hlt⟩
            have hbq2 := hbq.out
            rw [ho] at hbq2
            change (!(word.toList == [119]) && decide (word.size < 300)) = true at hbq2
            rw [Bool.and_eq_true, decide_eq_true_eq, Bool.not_eq_true'] at hbq2
            obtain ⟨hb1, hz⟩ := hbq2
            have hwn : ¬ word = ⟨#[119]⟩ := by
              intro e
              rw [e, ByteArray.toList_eq] at hb1
              exact absurd hb1 (by decide)
            obtain ⟨g, off, rfl, hg, y0, y1, y2, y3⟩ := (hRW.below hO.o.bel).act ho
            have hkp : ∀ w', Below w2.heap.size w2 w' → w'.cell? ⟨g, off + i * 4 + 1, none⟩ = some (.string word) ∧ w'.cell? ⟨g, off + i * 4 + 2, none⟩ = some (.int .i64 tw) ∧ w'.cell? ⟨g, off + i * 4 + 3, none⟩ = some (.string mac) := fun w' hb => by
              obtain ⟨g', off', e', _, z0, z1, z2, z3⟩ := (hRW.below hb).act ho
              obtain ⟨rfl, rfl⟩ : g = g' ∧ off = off' := by simpa using e'
              exact ⟨z1, z2, z3⟩
            clear hbq hb1 ho
            have cO := hO.o.open_ word (by omega) (by omega)
            have hg2 := getB_openO hwn 50 bs
            have hle := openB_len 50 bs word
            obtain ⟨bz, hbz⟩ : ∃ z, Hid (openB 50 bs word = z) := ⟨_, rfl⟩
            obtain ⟨ez, hez⟩ : ∃ z, Hid (openE 50 bs word = z) := ⟨_, rfl⟩
            rw [hbz.out] at cO hg2 hle
            rw [hez.out] at cO
            have hg2' : Hid _ := hg2
            clear hg2
            go_wp2_with fail
            refine cO.mono ?_
            rintro e wA ⟨rfl, S1, hb', hf', hk'⟩
            have hO1 := hO.step hb' hf' hk' hg2'.out
            clear cO hb' hf' hk' hO y0 y1 y2 y3 hg2'
            have hb9 : Below w2.heap.size w2 wA.drew := hO1.o.bel.trans ((below_drewN (Below.refl _ wA) 1).mono hO1.o.bel.size)
            have hOd : Onc w2 tb n ks pb mb S1 bz P wA.drew := hO1.below (below_drewN (Below.refl _ wA) 1)
            have cO := hOd.o.add word (by omega) ⟨tw, mac⟩
            have hg2 := getB_sealO hwn n ks ⟨#[107]⟩ bz ⟨tw, mac⟩
            have hle2 := sealB_len n ks ⟨#[107]⟩ bz word ⟨tw, mac⟩
            obtain ⟨cz, hcz⟩ : ∃ z, Hid (sealB n ks ⟨#[107]⟩ bz word ⟨tw, mac⟩ = z) := ⟨_, rfl⟩
            obtain ⟨ez, hez⟩ : ∃ z, Hid (sealE ks ⟨#[107]⟩ bz word ⟨tw, mac⟩ = z) := ⟨_, rfl⟩
            obtain ⟨lz, hlz⟩ : ∃ z, Hid (sealL n ks ⟨#[107]⟩ bz word ⟨tw, mac⟩ = z) := ⟨_, rfl⟩
            rw [hcz.out] at cO hg2 hle2
            rw [hez.out, hlz.out] at cO
            have hg2' : Hid _ := hg2
            have hS9 := hkp _ hb9
            clear hg2 hO1
            go_wp2_with fail
            go_region_held3 (fun w' => w'.cell? ⟨g, off + i * 4 + 1, none⟩ = some (.string word) ∧ w'.cell? ⟨g, off + i * 4 + 2, none⟩ = some (.int .i64 tw) ∧ w'.cell? ⟨g, off + i * 4 + 3, none⟩ = some (.string mac)) (exact hkp _ (by assumption))
              (first
              | (go_at_call 11; refine cO.mono ?_; rintro e wB ⟨aoA, cpA, rfl, _, _, S2, hb', hf', hk'⟩; have hO2 := hOd.step hb' hf' hk' hg2'.out; have hbA := hO2.o.bel))
            clear cO hb' hf' hk' hOd
            go_wp2_with fail
            go_meet
            case rel => exact ⟨S2, cz, by omega, hO2⟩
        case rest =>
          obtain ⟨S', bs', hn', hO'⟩ := hcut
          clear hO hn hbq
          obtain ⟨gw, ow, rfl, hgw, hwc⟩ := (hHW.below hO'.o.bel).int hh
          obtain ⟨N, hN⟩ : ∃ z, Hid (z = 3 * n + 1) := ⟨_, rfl⟩
          have hN7 : 0 < N ∧ N ≤ 7 := by have := hN.out; omega
          obtain ⟨j, hj, hje⟩ := Mx.pick_j h N (by omega) (by omega)
          have hje' : Hid (wrap64 ((IntKind.u64.wrap h).tmod (N : Int)) = (j : Int)) := hje
          have hjk : j < ks.length := by have := hkl.out; have := hN.out; omega
          have hj7 : j < 7 := by omega
          have hjw : (Lit.int .i64 (j : Int)).wf = true := by simp [Lit.wf, IntKind.bits, IntKind.signed, IntKind.min, IntKind.max]; omega
          have cN := fun m => Mx.n_any tb n ks (wc.drewN m) ((hO'.o.env.tab.below hO'.o.bel).below (below_drewN (Below.refl _ _) m)) n2
          simp only [← hN.out] at cN
          have hNu : IntKind.u64.wrap (N : Int) = (N : Int) := by simp [IntKind.wrap, IntKind.bits, IntKind.signed]; omega
          have hNz : ¬ N = 0 := by omega
          clear hje hHW
          go_wp2_with fail
          go_quiet (exact Calls.quiet_of_same (cN _))
          have hOq := hO'.below (below_drewN (Below.refl wc.heap.size wc) nq)
          generalize wc.drewN nq = w7 at hOq ⊢
          clear hO' cN hwc
          rw [hje'.out]
          have cS := Mx.sign_yes tb n ks j ⟨#[107]⟩ ⟨#[119]⟩ w7 (hOq.o.env.tab.below hOq.o.bel) (ks.getD j ⟨#[]⟩) (Mx.getD_some hjk) hk32'.out (by decide) (by decide) (hGW.below hOq.o.bel)
          unfold Mx.tagV at cS
          obtain ⟨mac9, hmac⟩ : ∃ z, Hid (z = Mx.macOf (ks.getD j ⟨#[]⟩) ⟨#[107]⟩ ⟨#[119]⟩) := ⟨_, rfl⟩
          have hsg : Hid (sgT ks ⟨#[107]⟩ ⟨#[119]⟩ j = ⟨(j : Int), mac9⟩) := by rw [hmac.out]; rfl
          simp only [← hmac.out] at cS
          go_wp2_with fail
          refine cS.mono ?_
          rintro e w8 ⟨rfl, hb8⟩
          have hbx := belowNew w8 (.cells #[.int .i64 (j : Int), .string mac9] 32)
          have hX := Arr.new w8 32 [.int .i64 (j : Int), .string mac9]
          have hO9 := (hOq.below hb8).below hbx
          obtain ⟨w9, hw9⟩ : ∃ z, w8.alloc (.cells #[.int .i64 (j : Int), .string mac9] 32) = z := ⟨_, rfl⟩
          rw [hw9] at hX hO9
          have x0 := hX.cell (i := 0) rfl
          have x1 := hX.cell (i := 1) rfl
          clear cS hOq hb8 hbx hmac
          have cA := hO9.o.add ⟨#[119]⟩ (by decide) ⟨(j : Int), mac9⟩
          rw [← hsg.out] at cA
          cases P with
          | none =>
            obtain rfl : (1 : Int) = an := han.out
            obtain ⟨q1, q2, q3⟩ := seal_gone (f := n) (ks := ks) (kind := ⟨#[107]⟩) (show getB ⟨#[119]⟩ bs' = none from hO9.got) (sgT ks ⟨#[107]⟩ ⟨#[119]⟩ j)
            rw [q1, q2, q3, hsg.out] at cA
            clear q1 q2 q3
            go_wp2_with fail
            refine cA.mono ?_
            rintro e wA ⟨aoA, cpA, rfl, _, _, SA, hbA, hfA, hkA⟩
            have hOA := hO9.step hbA hfA hkA rfl
            clear cA hbA hfA hkA hO9 hX x0 x1 hw9
            go_wp2
            go_roundw
            case rel => exact ⟨i + 1, SA, bs', none, by omega, by omega, by go_num, rfl, by omega, hOA⟩
            case measure => simp [intOf]; omega
          | some p =>
            obtain rfl : (0 : Int) = an := han.out
            have hgot : getB ⟨#[119]⟩ bs' = some ⟨⟨#[119]⟩, p⟩ := hO9.got
            have hpl : Places (chkT ks ⟨#[107]⟩ ⟨#[119]⟩) (3 * n + 1) p := hO9.o.ok.got hgot
            obtain ⟨o, ho⟩ : ∃ o, p[j]? = some o := ⟨_, List.getElem?_eq_getElem (by rw [hpl.len]; exact hj7)⟩
            obtain ⟨sa1, sa2⟩ := seenF_at ho
            have hsl := (hO9.m p rfl).2
            have hfw := hpl.few
            obtain ⟨nd, hnd⟩ : ∃ z, Hid (z = 2 * n + 1) := ⟨_, rfl⟩
            have cD := fun w hb => Mx.need_any tb n ks w (hO9.o.env.tab.below (w' := w) hb) n2
            simp only [← hnd.out] at cD
            rw [← hnd.out] at hsl
            have hoff := hO9.off
            have hgm := hO9.gm
            obtain ⟨nl, hnl⟩ : ∃ z, Hid ((inL p).length = z) := ⟨_, rfl⟩
            have hmx : nl < maxLen := by have := hnl.out; unfold maxLen; omega
            rw [hnl.out] at hsl hfw
            obtain ⟨f0, hf0⟩ : ∃ z, Hid (seenF p = z) := ⟨_, rfl⟩
            rw [hf0.out] at sa1 sa2
            cases o with
            | some t =>
              obtain ⟨q1, q2, q3⟩ := seal_twice (f := n) (ks := ks) (kind := ⟨#[107]⟩) hgot hjk (show (WordB.mk ⟨#[119]⟩ p).P[j]? = some (some t) from ho)
              rw [q1, q2, q3, hsg.out] at cA
              have hsame : Hid (∀ k, seenF p k = putFI f0 (j : Int) (.bool true) k) := fun k => by rw [← hf0.out]; exact seenF_same ho k
              have hpn : putNI f0 (j : Int) nl = nl := by unfold putNI; rw [sa1]; rfl
              have hpn' : Hid _ := hpn
              have g5 : ¬ (nd : Int) ≤ (nl : Int) := by omega
              have hgot' : Hid _ := hgot
              clear q1 q2 q3 hpn hgot
              go_wp2_with fail
              refine cA.mono ?_
              rintro e wA ⟨aoA, cpA, rfl, _, _, SA, hbA, hfA, hkA⟩
              have hOA := hO9.step hbA hfA hkA rfl
              have hM := (hOA.m p rfl).1
              rw [hf0.out, hnl.out] at hM
              have hz := zeroBool12 wA
              clear cA hbA hfA hkA hO9 hX x0 x1 hw9
              go_wp2_with (first
                | (at_lookup; refine imap_look (by rfl) _ _ 48 rfl 4 Tryd.underlying48 _ hz mb f0 _ rfl hM (j : Int) hjw rfl ?_; rw [sa2])
                | (at_mapUpdate; refine imap_put rfl _ _ _ 48 rfl 4 Tryd.underlying48 mb f0 _ rfl hM hmx (j : Int) hjw rfl _ rfl ?_; intro wM hM2 hkM; rw [hpn'.out] at hM2; have hM3 := hM2.congr hsame.out; have hbM := hOA.o.bel.trans (hkM.below hOA.o.bel.size (fun k e => by have e' : k = mb := e; omega)))
                | (at_len; refine imap_len (by rfl) _ 48 rfl 4 Tryd.underlying48 mb _ _ rfl hM3 ?_))
              refine (cD _ hbM).mono ?_
              rintro e wN ⟨rfl, hwN⟩
              have hOM : Onc w2 tb n ks pb mb SA bs' (some p) wN := by
                rw [hwN]
                rw [← hnl.out] at hM3
                exact Onc.put hOA.o hOA.off hgm hgot'.out hM3 (by rw [hnl.out, ← hnd.out]; exact hsl) hkM
              clear hM hM2 hM3 hkM hbM hOA cD hwN
              go_wp2
              go_roundw
              case rel => exact ⟨i + 1, SA, bs', some p, by omega, by omega, by go_num, rfl, by omega, hOM⟩
              case measure => simp [intOf]; omega
            | none =>
              obtain ⟨q1, q2, q3⟩ := seal_new (f := n) (ks := ks) (kind := ⟨#[107]⟩) hgot hjk (show (WordB.mk ⟨#[119]⟩ p).P[j]? = some none from ho)
              change _ = (if fullP n (p.set j (some (sgT ks ⟨#[107]⟩ ⟨#[119]⟩ j))) = true then inL (p.set j (some (sgT ks ⟨#[107]⟩ ⟨#[119]⟩ j))) else []) at q2
              change _ = (if fullP n (p.set j (some (sgT ks ⟨#[107]⟩ ⟨#[119]⟩ j))) = true then closeB ⟨#[119]⟩ bs' else setB ⟨#[119]⟩ (p.set j (some (sgT ks ⟨#[107]⟩ ⟨#[119]⟩ j))) bs') at q3
              have hsl2 := set_len ho (sgT ks ⟨#[107]⟩ ⟨#[119]⟩ j)
              have hsee := fun k => seenF_put (P := p) (j := j) (by rw [hpl.len]; exact hj7) (sgT ks ⟨#[107]⟩ ⟨#[119]⟩ j) k
              have hpl2 := hpl.set (t := sgT ks ⟨#[107]⟩ ⟨#[119]⟩ j) (j := j) rfl (by have := hkl.out; omega) (sgT_chk hjk)
              obtain ⟨p2, hp2⟩ : ∃ z, Hid (p.set j (some (sgT ks ⟨#[107]⟩ ⟨#[119]⟩ j)) = z) := ⟨_, rfl⟩
              simp only [hp2.out] at q2 q3 hsl2 hsee hpl2
              rw [hnl.out] at hsl2
              have hpn' : Hid (putNI f0 (j : Int) nl = nl + 1) := by show _ = _; unfold putNI; rw [sa1]; rfl
              have hsame : Hid (∀ k, seenF p2 k = putFI f0 (j : Int) (.bool true) k) := fun k => by rw [← hf0.out]; exact hsee k
              have hsl2' : Hid _ := hsl2
              clear hsee hsl2
              by_cases hfu : nd ≤ nl + 1
              · have hfp : fullP n p2 = true := by unfold fullP; exact decide_eq_true (by rw [hsl2'.out, ← hnd.out]; exact hfu)
                rw [hfp, if_pos rfl] at q2 q3
                rw [q1, q2, q3, hsg.out] at cA
                clear q1 q2 q3
                have hgn := getB_close ⟨#[119]⟩ bs'
                have hle := closeB_len ⟨#[119]⟩ bs'
                obtain ⟨cz, hcz⟩ : ∃ z, Hid (closeB ⟨#[119]⟩ bs' = z) := ⟨_, rfl⟩
                rw [hcz.out] at cA hgn hle
                have hgn' : Hid _ := hgn
                have hen : Mx.enoughL ks n ⟨#[107]⟩ ⟨#[119]⟩ (pairT (inL p2)) = 0 := by rw [enough_places hpl2, if_neg (by rw [hsl2'.out, ← hnd.out]; omega)]
                obtain ⟨lz, hlz⟩ : ∃ z, Hid (inL p2 = z) := ⟨_, rfl⟩
                have hll : lz.length = nl + 1 := by rw [← hlz.out]; exact hsl2'.out
                rw [hlz.out] at cA hen
                obtain ⟨n9, hn9⟩ : ∃ z, Hid (nl + 1 = z) := ⟨_, rfl⟩
                rw [hn9.out] at hpn' hll
                have g5 : (nd : Int) ≤ (n9 : Int) := by have := hn9.out; omega
                have g6 : 0 < n9 := by have := hn9.out; omega
                have g6' : (0 : Int) < (n9 : Int) := by omega
                have hl8 : lz.length ≤ 8 := by have := hn9.out; omega
                rw [hll] at cA
                have cE := fun w a c (hb : Below w2.heap.size w2 w) (hr : RowAt tagK w a lz) => Mx.enough_any tb n ks a c (pairT lz) ⟨#[107]⟩ ⟨#[119]⟩ w (hO9.o.env.tab.below hb) n2 hk32'.out hr.pairs (by rw [pairT_length]; unfold maxLen; omega) (by decide) (by decide) (hGW.below hb)
                simp only [pairT_length, hll, hen] at cE
                have hm9 : mb < w9.heap.size := hO9.lt
                have hll' : Hid _ := hll
                clear hgn hgot hll hen hl8
                go_wp2_with fail
                refine cA.mono ?_
                rintro e wA ⟨aoA, cpA, rfl, hrA, hfrA, SA, hbA, hfA, hkA⟩
                have hM := ((hO9.m p rfl).1).kept hkA hO9.off
                rw [hf0.out, hnl.out] at hM
                have hz := zeroBool12 wA
                have hoA : ¬ SA mb := fun e => by
                  rcases hfA mb e with e | e
                  · exact hO9.off e
                  · have := hO9.lt; omega
                clear cA hfA hkA hO9 hX x0 x1 hw9
                go_wp2_with (first
                  | (at_lookup; refine imap_look (by rfl) _ _ 48 rfl 4 Tryd.underlying48 _ hz mb f0 _ rfl hM (j : Int) hjw rfl ?_; rw [sa2])
                  | (at_mapUpdate; refine imap_put rfl _ _ _ 48 rfl 4 Tryd.underlying48 mb f0 _ rfl hM hmx (j : Int) hjw rfl _ rfl ?_; intro wM hM2 hkM; rw [hpn'.out] at hM2; have hbM := hbA.bel.trans (hkM.below hbA.bel.size (fun k e => by have e' : k = mb := e; omega)))
                  | (at_len; refine imap_len (by rfl) _ 48 rfl 4 Tryd.underlying48 mb _ _ rfl hM2 ?_))
                refine (cD _ hbM).mono ?_
                rintro e wN ⟨rfl, hwN⟩
                have hrM := hrA.kept hkM (fun b hb e => by have e' : b = mb := e; have := hfrA b hb; omega)
                have hoM := hbA.kept hkM (fun k e => by have e' : k = mb := e; omega) (fun k e e' => hoA (by rw [← show k = mb from e']; exact e))
                have hmM := hM2.lt
                rw [← hwN] at hrM hoM hbM hmM
                clear hM hM2 hkM hbA cD hwN hrA hfrA
                go_wp2_with fail
                refine (cE _ _ _ hbM hrM).mono ?_
                rintro e wE ⟨rfl, hbE⟩
                have hOE : Onc w2 tb n ks pb mb SA cz none wE := ⟨hoM.below hbE, hoA, hgm, Nat.lt_of_lt_of_le hmM hbE.size, hgn'.out, fun q e => by cases e⟩
                clear cE hoM hrM hbM hmM hbE
                go_wp2
                go_roundw
                case rel => exact ⟨i + 1, SA, cz, none, by omega, by omega, by go_num, rfl, by omega, hOE⟩
                case measure => simp [intOf]; omega
              · have hfp : fullP n p2 = false := by unfold fullP; exact decide_eq_false (by rw [hsl2'.out, ← hnd.out]; exact hfu)
                rw [hfp, if_neg (by decide)] at q2 q3
                rw [q1, q2, q3, hsg.out] at cA
                have hgn := getB_set p2 hgot
                have hle : (setB ⟨#[119]⟩ p2 bs').length ≤ bs'.length := by unfold setB; rw [List.length_map]; exact Nat.le_refl _
                obtain ⟨cz, hcz⟩ : ∃ z, Hid (setB ⟨#[119]⟩ p2 bs' = z) := ⟨_, rfl⟩
                rw [hcz.out] at cA hgn hle
                have hgn' : Hid _ := hgn
                obtain ⟨n9, hn9⟩ : ∃ z, Hid (nl + 1 = z) := ⟨_, rfl⟩
                rw [hn9.out] at hpn' hsl2'
                have g5 : ¬ (nd : Int) ≤ (n9 : Int) := by have := hn9.out; omega
                have hl9 : Hid (n9 < 2 * n + 1) := by show _ < _; rw [← hnd.out]; have := hn9.out; omega
                have hm9 : mb < w9.heap.size := hO9.lt
                clear hgn hgot q1 q2 q3 hfp
                go_wp2_with fail
                refine cA.mono ?_
                rintro e wA ⟨aoA, cpA, rfl, _, _, SA, hbA, hfA, hkA⟩
                have hM := ((hO9.m p rfl).1).kept hkA hO9.off
                rw [hf0.out, hnl.out] at hM
                have hz := zeroBool12 wA
                have hoA : ¬ SA mb := fun e => by
                  rcases hfA mb e with e | e
                  · exact hO9.off e
                  · have := hO9.lt; omega
                clear cA hfA hkA hO9 hX x0 x1 hw9
                go_wp2_with (first
                  | (at_lookup; refine imap_look (by rfl) _ _ 48 rfl 4 Tryd.underlying48 _ hz mb f0 _ rfl hM (j : Int) hjw rfl ?_; rw [sa2])
                  | (at_mapUpdate; refine imap_put rfl _ _ _ 48 rfl 4 Tryd.underlying48 mb f0 _ rfl hM hmx (j : Int) hjw rfl _ rfl ?_; intro wM hM2 hkM; rw [hpn'.out] at hM2; have hM3 := hM2.congr hsame.out; have hbM := hbA.bel.trans (hkM.below hbA.bel.size (fun k e => by have e' : k = mb := e; omega)))
                  | (at_len; refine imap_len (by rfl) _ 48 rfl 4 Tryd.underlying48 mb _ _ rfl hM3 ?_))
                refine (cD _ hbM).mono ?_
                rintro e wN ⟨rfl, hwN⟩
                have hOM : Onc w2 tb n ks pb mb SA cz (some p2) wN := by
                  rw [hwN]
                  rw [← hsl2'.out] at hM3
                  exact Onc.put hbA hoA hgm hgn'.out hM3 (by rw [hsl2'.out]; exact hl9.out) hkM
                clear hM hM2 hM3 hkM hbM hbA cD hwN
                go_wp2
                go_roundw
                case rel => exact ⟨i + 1, SA, cz, some p2, by omega, by omega, by go_num, rfl, by omega, hOM⟩
                case measure => simp [intOf]; omega
    · have hbe := hB2.trans (hO.o.bel.mono hB2.size)
      rcases (by omega : who.length ≤ i ∨ ¬ who.length ≤ i ∧ 40 ≤ i) with g1 | ⟨g0, g1⟩
      · have g1' : (who.length : Int) ≤ (i : Int) := by omega
        go_wp2
        go_ret
        exact ⟨rfl, hbe⟩
      · have g0' : (i : Int) < (who.length : Int) := by omega
        have g1' : (40 : Int) ≤ (i : Int) := by omega
        go_wp2
        go_ret
        exact ⟨rfl, hbe⟩
end Go.Proofs.YtbikabjogacfkaaDoor
