/- WalkSame: the walk. -/
import Derived.Test.YtbeaffeibcjjfaaWalkSameSt
import Derived.Test.YtbeaffeibcjjfaaInts
import Derived.Test.YtbeaffeibcjjfaaAnyTake
import Derived.Deep.QuietTactic
import Derived.Deep.RegionHeld3
import Derived.Deep.DeepCutAuto
namespace Go.Proofs.Ytbeaffeibcjjfaa
open Go Go.RowKit Go.Maps
set_option linter.unusedVariables false

theorem infoOp16 : (Try.prog.info? 31).any (fun i => i.size == 5 && i.bytes == 64 && i.zero.any (fun z => z.cells.size == 5)) = true := by kernel_rfl
theorem sizeOp16 : (Try.prog.info? 31).map (·.size) = some 5 := by kernel_rfl
theorem opInfo16 : ∃ i z, Try.prog.info? 31 = some i ∧ i.zero = some z ∧ i.size = 5 ∧ i.bytes = 64 ∧ z.cells.size = 5 := by
  have h := infoOp16
  cases hi : Try.prog.info? 31 with
  | none => rw [hi] at h; cases h
  | some i =>
    rw [hi] at h
    simp only [Option.any_some, Bool.and_eq_true, beq_iff_eq] at h
    obtain ⟨⟨h1, h2⟩, h3⟩ := h
    cases hz : i.zero with
    | none => rw [hz] at h3; cases h3
    | some z => rw [hz] at h3; simp only [Option.any_some, beq_iff_eq] at h3; exact ⟨i, z, rfl, hz, h1, h2, h3⟩

theorem emptyOps (w : World) {base : Nat} (hb : base ≤ w.heap.size) : KQ opW 31 (w.alloc (.cells #[] 31)) base (.slice (some ⟨w.heap.size, 0, none⟩) 0 0) [] := by
  have ho : (w.alloc (.cells #[] 31)).ownsRow base 31 5 (.slice (some ⟨w.heap.size, 0, none⟩) 0 0) 0 [] := World.ownsRow_lit w #[] 0 hb (Nat.zero_le _) rfl
  exact ⟨QRow.of_own ho, fun x hx => (List.not_mem_nil hx).elim, fun x hx => (List.not_mem_nil hx).elim, fun k hk => ho.lt k hk, fun a b e => by simp at e⟩

theorem below_new {w w1 w2 : World} {g : Nat} (hb : Below w.heap.size w w1) (hg : w.heap.size ≤ g) (hk : Kept (fun k => some g = some k) w1 w2) : Below w.heap.size w w2 := hb.trans (hk.below hb.size (fun k e => by have e' : g = k := Option.some.inj e; omega))

theorem St.cells {W w : World} {ga gb : Nat} {A B : GrD} {bo oo : Nat} {R : List OpW} {q : Value} {Q : List OpW} (h : St W w ga gb A B (some ⟨bo, oo, none⟩) R q Q) {i : Nat} {x : OpW} (hx : R[i]? = some x) :
    w.cell? ⟨bo, oo + i * 5, none⟩ = some (.int .i64 x.kind) ∧ w.cell? ⟨bo, oo + i * 5 + 1, none⟩ = some (.string x.id) ∧ w.cell? ⟨bo, oo + i * 5 + 2, none⟩ = some (.int .i64 x.round) ∧ w.cell? ⟨bo, oo + i * 5 + 3, none⟩ = some (.int .i64 x.author) ∧ w.cell? ⟨bo, oo + i * 5 + 4, none⟩ = some (.slice x.pa x.ps.length x.pc) := by
  obtain ⟨g, off, e, _, y0, y1, y2, y3, y4, _⟩ := h.row.op16 hx
  simp only [Option.some.injEq, Addr.mk.injEq, and_true] at e
  obtain ⟨rfl, rfl⟩ := e
  exact ⟨y0, y1, y2, y3, y4⟩

theorem new_op16 (w : World) (x : OpW) : ∀ j u, (opW.c x)[j]? = some u → (w.alloc (.cells #[.int .i64 x.kind, .string x.id, .int .i64 x.round, .int .i64 x.author, .slice x.pa x.ps.length x.pc] 31)).cell? ((⟨w.heap.size, 0, none⟩ : Addr).add j) = some u := by
  intro j u hu
  have hA := Arr.new w 31 (opW.c x)
  have := hA.cell hu
  rw [Go.WideShapes.add_plain, Nat.zero_add]
  exact this

set_option maxRecDepth 100000 in
set_option maxHeartbeats 8000000 in
theorem walkSame_walk (a0 : Option Addr) (c0 : Nat) (l : List OpW) (a1 : Option Addr) (c1 : Nat) (ts : List Int) (a2 : Option Addr) (c2 : Nat) (es : List Int) (W : World) (hR : RowAt opW W a0 l) (hm0 : l.length ≤ maxLen) (hsz : l.length * 64 ≤ 140737488351232) (hT : RowAt intK W a1 ts) (hm1 : ts.length ≤ maxLen) (hE : RowAt intK W a2 es) (hm2 : es.length ≤ maxLen) :
    Calls Try.prog 5 #[.slice a0 l.length c0, .slice a1 ts.length c1, .slice a2 es.length c2] W fun e w' => e = .returned (.bool true) ∧ Below W.heap.size W w' := by
  have cWk := works16_any W
  obtain ⟨i0, z0, hi0, hz0, hz1, hz2, hz3⟩ := opInfo16
  have hloW : ∀ x ∈ l, ∀ b, opW.foot x b → b < W.heap.size := fun x hx b hb => (hR.at_ x hx).row.lt hb
  go_enter Try.func5, Try.ntmps5
  go_wp2_with fail
  refine cWk.mono ?_
  rintro e w0 ⟨rfl, hb0⟩
  clear cWk
  go_wp2_with fail
  refine (pgNew_any w0).mono ?_
  rintro e w1 ⟨ga, SA, rfl, hA1, hsA, hb1⟩
  have cN := pgNew_any w1
  go_wp2_with fail
  refine cN.mono ?_
  rintro e w2 ⟨gb, SB, rfl, hB2, hsB, hb2⟩
  have hb02 : Below W.heap.size W w2 := (hb0.trans (hb1.mono hb0.size)).trans (hb2.mono (by have := hb0.size; have := hb1.size; omega))
  have hS2 : St W w2 ga gb gr0 gr0 none [] (.slice none 0 0) [] := St.zero hb02 (hA1.below hb2) hB2 (fun k e => by have := hsA k e; have := hb0.size; omega) (fun k e => by have := hsB k e; have := hb0.size; have := hb1.size; omega) (fun k e e' => by have := hsB k e'; have := hA1.lt e; omega)
  clear cN hA1 hsA hb1 hB2 hsB hb2
  have hb3 := belowNew w2 (.cells #[] 31)
  have hq3 := emptyOps w2 hb02.size
  have hR3 : RowAt opW (w2.alloc (.cells #[] 31)) a0 l := (hR.below hb02).below (hb3.mono (Nat.le_refl _))
  have hoff3 : ∀ x ∈ l, ∀ b, opW.foot x b → (Value.slice (some ⟨w2.heap.size, 0, none⟩) 0 0).ownBlock ≠ some b := fun x hx b hb e => by
    have e' : w2.heap.size = b := by simpa [Value.ownBlock] using e
    have := hloW x hx b hb
    have := hb02.size
    omega
  have hl1 : l.length * 64 ≤ 140737488355328 := by omega
  have hbs3 : W.heap.size ≤ (w2.alloc (.cells #[] 31)).heap.size := Nat.le_trans hb02.size hb3.size
  go_upto_if 32 with (first
    | (at_builtin; refine wpList_joinsF (K := opW) rfl _ _ 22 rfl W.heap.size 31 i0 z0 64 Try.underlying22 hi0 hz0 hz1 hz2 hz3 (.slice (some ⟨w2.heap.size, 0, none⟩) 0 0) l rfl hq3 hoff3 a0 c0 rfl hR3 hm0 hl1 hbs3 ?_; intro am cm w4 hQ4 hk4 hf4))
  have hcap := hQ4.capOf
  have hb4 : Below w2.heap.size w2 w4 := below_new hb3 (Nat.le_refl _) hk4
  have hS4 := hS2.newQ hb4 hQ4 (fun k e => by
    rcases hf4 k e with q | q
    · have q' : w2.heap.size = k := by simpa [Value.ownBlock] using q
      omega
    · have := hb3.size; omega) hloW
  have hS5 := hS4.turnR 60
  have hmm60 : (l.take 60).length ≤ 60 := by rw [List.length_take]; omega
  have hml : (l.length ≤ 60 ∧ (l.take 60).length = l.length) ∨ (60 < l.length ∧ (l.take 60).length = 60) := by rw [List.length_take]; omega
  generalize l.take 60 = mm at *
  clear hS2 hb3 hq3 hR3 hoff3 hbs3 hQ4 hk4 hf4 hb4 hb02 hl1 hb0 hS4 hR hsz
  go_cut [9] (fun s9 wx => s9 = .slice am mm.length cm ∧ wx = w4)
  case first =>
    rcases hml with ⟨hc, hN⟩ | ⟨hc, hN⟩
    · have g60 : ¬ (60 : Int) < (l.length : Int) := by omega
      go_wp2_with fail
      go_meet
      case rel => exact ⟨by rw [hN], rfl⟩
    · have g60 : (60 : Int) < (l.length : Int) := by omega
      have gcap : (60 : Int) ≤ (cm : Int) := by omega
      go_wp2_with fail
      go_meet
      case rel => exact ⟨by rw [hN], rfl⟩
  case rest =>
    obtain ⟨rfl, rfl⟩ := hcut
    clear hml hcap
    go_wp2_with fail
    go_loopw [10, 11] (fun v10 v11 wr => ∃ (i : Nat) (ai : Option Addr) (ci : Nat) (ins : List OpW) (A : GrD), i ≤ mm.length ∧ v11 = .int .i64 (i : Int) ∧ v10 = .slice ai ins.length ci ∧ ins.length ≤ i ∧ St W wr ga gb A gr0 am mm (.slice ai ins.length ci) ins ∧ InV (ins.map vtO) A ∧ ∀ x ∈ ins, x.ps.length < 50) (fun _ v _ => mm.length - (intOf v).toNat)
    case atStart => exact ⟨0, none, 0, [], gr0, Nat.zero_le _, rfl, rfl, Nat.le_refl _, hS5, InV.zero, fun x hx => (List.not_mem_nil hx).elim⟩
    case round =>
      clear hS5
      obtain ⟨i, ai, ci, ins, A, hi, rfl, rfl, hii, hS, hV, h50⟩ := hrel
      by_cases hlt : i < mm.length
      · have g1 : (i : Int) < (mm.length : Int) := by omega
        obtain ⟨x, hx⟩ : ∃ x, mm[i]? = some x := ⟨_, List.getElem?_eq_getElem (by omega)⟩
        obtain ⟨bo, oo, hao, hbl, _⟩ := hS.row.op16 hx
        subst hao
        have hkp : ∀ {w' : World} {A' : GrD}, St W w' ga gb A' gr0 (some ⟨bo, oo, none⟩) mm (.slice ai ins.length ci) ins → w'.cell? ⟨bo, oo + i * 5 + 1, none⟩ = some (.string x.id) ∧ w'.cell? ⟨bo, oo + i * 5 + 2, none⟩ = some (.int .i64 x.round) ∧ w'.cell? ⟨bo, oo + i * 5 + 3, none⟩ = some (.int .i64 x.author) ∧ w'.cell? ⟨bo, oo + i * 5 + 4, none⟩ = some (.slice x.pa x.ps.length x.pc) := fun h => (h.cells hx).2
        by_cases h5 : x.ps.length < 50
        · have g5 : decide ((x.ps.length : Int) < 50) = true := by rw [decide_eq_true_iff]; omega
          have hS1 := hS.below (below_drewN (Below.refl _ wr) 1)
          have hS1' : St W wr.drew ga gb A gr0 (some ⟨bo, oo, none⟩) mm (.slice ai ins.length ci) ins := hS1
          have hS0 := hkp hS1'
          have cA := hS1'.addA (List.mem_of_getElem? hx) (by omega)
          obtain ⟨E, hEq⟩ : ∃ E, Hid (addEV A x.id x.round x.author x.ps.length = E) := ⟨_, rfl⟩
          rw [hEq.out] at cA
          clear hS hS1
          go_upto_region 11 with fail
          go_region_held3 (fun w' => w'.cell? ⟨bo, oo + i * 5 + 1, none⟩ = some (.string x.id) ∧ w'.cell? ⟨bo, oo + i * 5 + 2, none⟩ = some (.int .i64 x.round) ∧ w'.cell? ⟨bo, oo + i * 5 + 3, none⟩ = some (.int .i64 x.author) ∧ w'.cell? ⟨bo, oo + i * 5 + 4, none⟩ = some (.slice x.pa x.ps.length x.pc)) (first | assumption | exact hkp (by assumption))
            (first
            | (go_at_call 8; refine cA.mono ?_; rintro e w4 ⟨rfl, hS4⟩))
          clear cA hS1' hS0 hkp
          by_cases hz : E = 0
          · subst hz
            have hV' := hV.add (v := vtO x) rfl hEq.out
            have hV2 : InV ((ins ++ [x]).map vtO) (addGV A x.id x.round x.author x.ps) := by rw [List.map_append]; exact hV'
            clear hV hV' hEq
            generalize addGV A x.id x.round x.author x.ps = A' at *
            obtain ⟨y0, y1, y2, y3, y4⟩ := hS4.cells hx
            have hb5 := belowNew w4 (.cells #[.int .i64 x.kind, .string x.id, .int .i64 x.round, .int .i64 x.author, .slice x.pa x.ps.length x.pc] 31)
            have hS5 := hS4.below hb5
            have hN5 := new_op16 w4 x
            have hq5 := hS5.kq
            have hat5 := hS5.row.at_ x (List.mem_of_getElem? hx)
            have hof5 : ∀ b, opW.foot x b → (Value.slice ai ins.length ci).ownBlock ≠ some b := fun b hb e => by
              have := hS5.lo x (List.mem_of_getElem? hx) b hb
              have := (hq5.lt b e).1
              omega
            have m1 : ins.length + 1 ≤ maxLen := by unfold maxLen; omega
            have m2 : (ins.length + 1) * 64 ≤ 140737488355328 := by omega
            have m3 : W.heap.size ≤ (w4.alloc (.cells #[.int .i64 x.kind, .string x.id, .int .i64 x.round, .int .i64 x.author, .slice x.pa x.ps.length x.pc] 31)).heap.size := hS5.bel.size
            have hl9 : ∀ y ∈ ins ++ [x], ∀ b, opW.foot y b → b < W.heap.size := fun y hy => by
              rcases List.mem_append.1 hy with hy | hy
              · exact hS5.loQ y hy
              · rw [List.mem_singleton.1 hy]; exact hS5.lo x (List.mem_of_getElem? hx)
            have h59 : ∀ y ∈ ins ++ [x], y.ps.length < 50 := fun y hy => by
              rcases List.mem_append.1 hy with hy | hy
              · exact h50 y hy
              · rw [List.mem_singleton.1 hy]; exact h5
            clear hS4 hb5 h50
            go_wp2_with (first
              | (at_builtin; refine wpList_pushN (K := opW) rfl _ _ 22 rfl W.heap.size 31 i0 z0 64 Try.underlying22 hi0 hz0 hz1 hz2 hz3 (.slice ai ins.length ci) ins rfl hq5 x hat5 hof5 ⟨w4.heap.size, 0, none⟩ 1 rfl hN5 m1 m2 m3 ?_; intro ao9 cap9 w9 hQ9 hk9 hf9))
            have hS9 := hS5.push hQ9 hk9 hf9 hl9
            try go_wp2
            go_roundw
            case rel => exact ⟨i + 1, ao9, cap9, ins ++ [x], A', by omega, by go_num, (by rw [List.length_append]; rfl), (by rw [List.length_append]; show ins.length + 1 ≤ i + 1; omega), hS9, hV2, h59⟩
            case measure => simp [intOf]; omega
          · have hz' : ¬ (E : Int) = 0 := by omega
            have hG : addGV A x.id x.round x.author x.ps = A := by unfold addGV; rw [if_neg (by rw [hEq.out]; exact hz)]
            rw [hG] at hS4
            clear hEq hG
            go_wp2
            go_roundw
            case rel => exact ⟨i + 1, ai, ci, ins, A, by omega, by go_num, rfl, by omega, hS4, hV, h50⟩
            case measure => simp [intOf]; omega
        · have g5 : decide ((x.ps.length : Int) < 50) = false := by rw [decide_eq_false_iff_not]; omega
          obtain ⟨y0, y1, y2, y3, y4⟩ := hS.cells hx
          go_upto_region 11 with fail
          go_quiet (fail)
          have hb1 := below_drewN (Below.refl wr.heap.size wr) nq
          have hS6 := hS.below hb1
          generalize wr.drewN nq = w6 at *
          clear hb1 hS y0 y1 y2 y3 y4 hkp
          go_wp2
          go_roundw
          case rel => exact ⟨i + 1, ai, ci, ins, A, by omega, by go_num, rfl, by omega, hS6, hV, h50⟩
          case measure => simp [intOf]; omega
      · have g1 : ¬ (i : Int) < (mm.length : Int) := by omega
        have hi60 : ins.length ≤ 60 := by omega
        clear hlt
        have hb3 := belowNew wr (.cells #[] 31)
        have hq3 := emptyOps wr hS.bel.size
        have hR3 : RowAt opW (wr.alloc (.cells #[] 31)) ai ins := (hS.kq.rowOf.1).below hb3
        have hoff3 : ∀ x ∈ ins, ∀ b, opW.foot x b → (Value.slice (some ⟨wr.heap.size, 0, none⟩) 0 0).ownBlock ≠ some b := fun x hx b hb e => by
          have e' : wr.heap.size = b := by simpa [Value.ownBlock] using e
          have := hS.loQ x hx b hb
          have := hS.bel.size
          omega
        have n1 : ins.length ≤ maxLen := by unfold maxLen; omega
        have n2 : ins.length * 64 ≤ 140737488355328 := by omega
        have n3 : W.heap.size ≤ (wr.alloc (.cells #[] 31)).heap.size := Nat.le_trans hS.bel.size hb3.size
        go_wp2_with (first
          | (at_builtin; refine wpList_joinsF (K := opW) rfl _ _ 22 rfl W.heap.size 31 i0 z0 64 Try.underlying22 hi0 hz0 hz1 hz2 hz3 (.slice (some ⟨wr.heap.size, 0, none⟩) 0 0) ins rfl hq3 hoff3 ai ci rfl hR3 n1 n2 n3 ?_; intro ap cp w5 hQ5 hk5 hf5))
        have hb5 : Below wr.heap.size wr w5 := below_new hb3 (Nat.le_refl _) hk5
        have hS5 := (hS.turnR ins.length).newQ hb5 hQ5 (fun k e => by
          rcases hf5 k e with q | q
          · have q' : wr.heap.size = k := by simpa [Value.ownBlock] using q
            omega
          · have := hb3.size; omega) hS.loQ
        rw [List.take_length] at hS5
        clear hS hb3 hq3 hR3 hoff3 n1 n2 n3 hQ5 hk5 hf5 hb5 g1
        go_loopw [13, 14, 15] (fun v13 _ _ wr => ∃ (i : Nat) (Q : List OpW), i ≤ 81 ∧ v13 = .int .i64 (i : Int) ∧ Q.Perm ins ∧ St W wr ga gb A gr0 ai ins (.slice ap ins.length cp) Q) (fun v _ _ _ => 82 - (intOf v).toNat)
        case atStart => exact ⟨0, ins, by omega, rfl, List.Perm.refl _, hS5⟩
        case round =>
          clear hS5
          obtain ⟨i, Q, hi81, rfl, hP, hS⟩ := hrel
          have hQl := hP.length_eq
          by_cases hgo : i + 1 < ts.length ∧ i < 80 ∧ 0 < ins.length
          · have g1 : (i : Int) + 1 < (ts.length : Int) := by omega
            have g2 : (i : Int) < 80 := by omega
            have g3 : (0 : Int) < (ins.length : Int) := by omega
            obtain ⟨t, ht⟩ : ∃ t, ts[i]? = some t := ⟨_, List.getElem?_eq_getElem (by omega)⟩
            obtain ⟨u, hu'⟩ : ∃ u, ts[i + 1]? = some u := ⟨_, List.getElem?_eq_getElem hgo.1⟩
            obtain ⟨tbk, toff, hao, htl, t0⟩ := (hT.below hS.bel).int ht
            obtain ⟨tbk', toff', hao', _, t1⟩ := (hT.below hS.bel).int hu'
            rw [hao] at hao'
            simp only [Option.some.injEq, Addr.mk.injEq, and_true] at hao'
            obtain ⟨rfl, rfl⟩ := hao'
            have t1' : wr.cell? ⟨tbk, toff + i + 1, none⟩ = some (.int .i64 u) := by rw [Nat.add_assoc]; exact t1
            obtain ⟨a, hja, hje⟩ := pick_atC t ins.length hgo.2.2 (by omega)
            obtain ⟨b, hjb, hjbe⟩ := pick_atC u ins.length hgo.2.2 (by omega)
            have hu : IntKind.u64.wrap (ins.length : Int) = (ins.length : Int) := by rw [Mx.wrap_u64]; omega
            have hNz : ¬ (ins.length : Int) = 0 := by omega
            subst hao
            go_upto_region 17 with fail
            go_quiet (fail)
            have hb1 := below_drewN (Below.refl wr.heap.size wr) nq
            have hS6 := hS.below hb1
            generalize wr.drewN nq = w6 at *
            clear hb1 hS t0 t1 t1' hu hNz
            obtain ⟨c, hca⟩ : ∃ c, Q[a]? = some c := ⟨_, List.getElem?_eq_getElem (by rw [hQl]; exact hja)⟩
            obtain ⟨e, heb⟩ : ∃ e, Q[b]? = some e := ⟨_, List.getElem?_eq_getElem (by rw [hQl]; exact hjb)⟩
            have ga1 : ¬ (a : Int) < 0 := by omega
            have ga2 : (a : Int) < (ins.length : Int) := by omega
            have gb1 : ¬ (b : Int) < 0 := by omega
            have gb2 : (b : Int) < (ins.length : Int) := by omega
            obtain ⟨g, off, hla, hgl, sf, se, sc, hS8⟩ := (hS6.below (below_drewN (Below.refl w6.heap.size w6) 1)).swap hca heb
            subst hla
            have hth1 : w6.drew.there g (off + a * 5) 5 := fun j hj => by
              obtain ⟨u, hu⟩ : ∃ u, (opW.c c)[j]? = some u := ⟨_, List.getElem?_eq_getElem (by show j < 5; exact hj)⟩
              exact ⟨by rw [show w6.drew = w6.drewN 1 from rfl, sc j u hu]; rfl, sf _⟩
            have hth2 : (w6.drew.setCells g (off + a * 5) [.int .i64 e.kind, .string e.id, .int .i64 e.round, .int .i64 e.author, .slice e.pa e.ps.length e.pc]).there g (off + b * 5) 5 := World.there_setCells (fun j hj => by
              obtain ⟨u, hu⟩ : ∃ u, (opW.c e)[j]? = some u := ⟨_, List.getElem?_eq_getElem (by show j < 5; exact hj)⟩
              exact ⟨by rw [show w6.drew = w6.drewN 1 from rfl, se j u hu]; rfl, sf _⟩) g (off + a * 5) (opW.c e)
            have rc : w6.drew.rangeAt g (off + a * 5) [.int .i64 c.kind, .string c.id, .int .i64 c.round, .int .i64 c.author, .slice c.pa c.ps.length c.pc] := fun j u hu => sc j u hu
            have re : w6.drew.rangeAt g (off + b * 5) [.int .i64 e.kind, .string e.id, .int .i64 e.round, .int .i64 e.author, .slice e.pa e.ps.length e.pc] := fun j u hu => se j u hu
            have hS8 : St W ((w6.drew.setCells g (off + a * 5) [.int .i64 e.kind, .string e.id, .int .i64 e.round, .int .i64 e.author, .slice e.pa e.ps.length e.pc]).setCells g (off + b * 5) [.int .i64 c.kind, .string c.id, .int .i64 c.round, .int .i64 c.author, .slice c.pa c.ps.length c.pc]) ga gb A gr0 ai ins (.slice (some ⟨g, off, none⟩) ins.length cp) ((Q.set a e).set b c) := hS8
            have hP8 := (swap_perm Q a b c e hca heb).trans hP
            have hiC : (Try.prog.info? 31).map (·.size) = some 5 := sizeOp16
            have hoE : (#[.int .i64 e.kind, .string e.id, .int .i64 e.round, .int .i64 e.author, .slice e.pa e.ps.length e.pc] : Array Value).all (·.oneCell') = true := all_oneCell_toArray (opW.one e)
            have hoC : (#[.int .i64 c.kind, .string c.id, .int .i64 c.round, .int .i64 c.author, .slice c.pa c.ps.length c.pc] : Array Value).all (·.oneCell') = true := all_oneCell_toArray (opW.one c)
            clear hS6 se sc sf
            go_upto_region 18 with fail
            refine wp_region_any (by kernel_rfl) ?_
            show wpAny _ _ _ _ 16 (Array.replicate 16 false) _ w6.drew
            refine wpAny_takeD (i := 0) (v := ?_) (some 120) rfl rfl (by kernel_rfl) (by kernel_rfl) (by kernel_rfl) (fun _ _ _ h => h) (Or.inl ⟨by rfl, ?_⟩) ?_
            rotate_left 1
            · intro w'
              go_simp
              first | done | with_reducible rfl
            simp only [Act.put, List.setIfInBounds_toArray, List.set_cons_zero, List.set_cons_succ]
            refine wpAny_takeD (i := 1) (v := ?_) (some 121) rfl rfl (by kernel_rfl) (by kernel_rfl) (by kernel_rfl) (fun _ _ _ h => h) (Or.inl ⟨by rfl, ?_⟩) ?_
            rotate_left 1
            · intro w'
              go_simp
              first | done | with_reducible rfl
            simp only [Act.put, List.setIfInBounds_toArray, List.set_cons_zero, List.set_cons_succ]
            refine wpAny_takeD (i := 2) (v := ?_) (some 122) rfl rfl (by kernel_rfl) (by kernel_rfl) (by kernel_rfl) (fun _ _ _ h => h) (Or.inl ⟨by rfl, ?_⟩) ?_
            rotate_left 1
            · intro w'
              go_simp
              first | done | with_reducible rfl
            simp only [Act.put, List.setIfInBounds_toArray, List.set_cons_zero, List.set_cons_succ]
            refine wpAny_takeD (i := 3) (v := ?_) (some 123) rfl rfl (by kernel_rfl) (by kernel_rfl) (by kernel_rfl) (fun _ _ _ h => h) (Or.inl ⟨by rfl, ?_⟩) ?_
            rotate_left 1
            · intro w'
              go_simp
              first | done | with_reducible rfl
            simp only [Act.put, List.setIfInBounds_toArray, List.set_cons_zero, List.set_cons_succ]
            refine wpAny_takeD (i := 4) (v := ?_) (some 124) rfl rfl (by kernel_rfl) (by kernel_rfl) (by kernel_rfl) (fun _ _ _ h => h) (Or.inl ⟨by rfl, ?_⟩) ?_
            rotate_left 1
            · intro w'
              go_simp
              first | done | with_reducible rfl
            simp only [Act.put, List.setIfInBounds_toArray, List.set_cons_zero, List.set_cons_succ]
            refine wpAny_takeD (i := 5) (v := ?_) (some 125) rfl rfl (by kernel_rfl) (by kernel_rfl) (by kernel_rfl) (fun _ _ _ h => h) (Or.inl ⟨by rfl, ?_⟩) ?_
            rotate_left 1
            · intro w'
              go_simp
              first | done | with_reducible rfl
            simp only [Act.put, List.setIfInBounds_toArray, List.set_cons_zero, List.set_cons_succ]
            refine wpAny_takeD (i := 6) (v := ?_) (some 126) rfl rfl (by kernel_rfl) (by kernel_rfl) (by kernel_rfl) (fun _ _ _ h => h) (Or.inl ⟨by rfl, ?_⟩) ?_
            rotate_left 1
            · intro w'
              go_simp
              first | done | with_reducible rfl
            simp only [Act.put, List.setIfInBounds_toArray, List.set_cons_zero, List.set_cons_succ]
            refine wpAny_takeD (i := 8) (v := ?_) (some 128) rfl rfl (by kernel_rfl) (by kernel_rfl) (by kernel_rfl) (fun _ _ _ h => h) (Or.inl ⟨by rfl, ?_⟩) ?_
            rotate_left 1
            · intro w'
              go_simp
              first | done | with_reducible rfl
            simp only [Act.put, List.setIfInBounds_toArray, List.set_cons_zero, List.set_cons_succ]
            refine wpAny_takeD (i := 9) (v := ?_) (some 129) rfl rfl (by kernel_rfl) (by kernel_rfl) (by kernel_rfl) (fun _ _ _ h => h) (Or.inl ⟨by rfl, ?_⟩) ?_
            rotate_left 1
            · intro w'
              go_simp
              first | done | with_reducible rfl
            simp only [Act.put, List.setIfInBounds_toArray, List.set_cons_zero, List.set_cons_succ]
            refine wpAny_takeD (i := 10) (v := ?_) (some 130) rfl rfl (by kernel_rfl) (by kernel_rfl) (by kernel_rfl) (fun _ _ _ h => h) (Or.inl ⟨by rfl, ?_⟩) ?_
            rotate_left 1
            · intro w'
              go_simp
              first | done | with_reducible rfl
            simp only [Act.put, List.setIfInBounds_toArray, List.set_cons_zero, List.set_cons_succ]
            refine wpAny_ready (rs := [7, 11]) (by kernel_rfl) (by simp) ?_
            refine allReady_wantD (some 127) rfl rfl rfl (fun K' hK => ?_) (allReady_wantD (some 131) rfl rfl rfl (fun K' hK => ?_) (AllReady.nil))
            focus
              refine wp_load_mid 31 (.tmp 126) rfl g (off + b * 5) rfl [.int .i64 e.kind, .string e.id, .int .i64 e.round, .int .i64 e.author, .slice e.pa e.ps.length e.pc] _ re Try.underlying31 rfl hiC (hK _ _ ?_)
              simp only [Act.put, List.setIfInBounds_toArray, List.set_cons_zero, List.set_cons_succ]
              refine wpAny_ready (rs := [11]) (by kernel_rfl) (by simp) ?_
              refine allReady_wantD (some 131) rfl rfl rfl (fun K' hK => ?_) (AllReady.nil)
              refine wp_load_mid 31 (.tmp 130) rfl g (off + a * 5) rfl [.int .i64 c.kind, .string c.id, .int .i64 c.round, .int .i64 c.author, .slice c.pa c.ps.length c.pc] _ rc Try.underlying31 rfl hiC (hK _ _ ?_)
              simp only [Act.put, List.setIfInBounds_toArray, List.set_cons_zero, List.set_cons_succ]
            rotate_left 1
            focus
              refine wp_load_mid 31 (.tmp 130) rfl g (off + a * 5) rfl [.int .i64 c.kind, .string c.id, .int .i64 c.round, .int .i64 c.author, .slice c.pa c.ps.length c.pc] _ rc Try.underlying31 rfl hiC (hK _ _ ?_)
              simp only [Act.put, List.setIfInBounds_toArray, List.set_cons_zero, List.set_cons_succ]
              refine wpAny_ready (rs := [7]) (by kernel_rfl) (by simp) ?_
              refine allReady_wantD (some 127) rfl rfl rfl (fun K' hK => ?_) (AllReady.nil)
              refine wp_load_mid 31 (.tmp 126) rfl g (off + b * 5) rfl [.int .i64 e.kind, .string e.id, .int .i64 e.round, .int .i64 e.author, .slice e.pa e.ps.length e.pc] _ re Try.underlying31 rfl hiC (hK _ _ ?_)
              simp only [Act.put, List.setIfInBounds_toArray, List.set_cons_zero, List.set_cons_succ]
            all_goals
              refine wpAny_takeD (i := 12) (v := ?_) (some 132) rfl rfl (by kernel_rfl) (by kernel_rfl) (by kernel_rfl) (fun _ _ _ h => h) (Or.inl ⟨by rfl, ?_⟩) ?_
              rotate_left 1
              · intro w'
                go_simp
                first | done | with_reducible rfl
              simp only [Act.put, List.setIfInBounds_toArray, List.set_cons_zero, List.set_cons_succ]
              refine wpAny_ready (rs := [13]) (by kernel_rfl) (by simp) ?_
              refine allReady_wantD none rfl rfl rfl (fun K' hK => ?_) (AllReady.nil)
              refine wp_store_mid 31 (.tmp 132) (.tmp 127) rfl g (off + a * 5) #[.int .i64 e.kind, .string e.id, .int .i64 e.round, .int .i64 e.author, .slice e.pa e.ps.length e.pc] rfl rfl hth1 hiC hoE (hK _ _ ?_)
              simp only [Act.put]
              try rw [show (#[.int .i64 e.kind, .string e.id, .int .i64 e.round, .int .i64 e.author, .slice e.pa e.ps.length e.pc] : Array Value).toList = [.int .i64 e.kind, .string e.id, .int .i64 e.round, .int .i64 e.author, .slice e.pa e.ps.length e.pc] from rfl]
              generalize w6.drew.setCells g (off + a * 5) [.int .i64 e.kind, .string e.id, .int .i64 e.round, .int .i64 e.author, .slice e.pa e.ps.length e.pc] = w8 at *
              refine wpAny_takeD (i := 14) (v := ?_) (some 133) rfl rfl (by kernel_rfl) (by kernel_rfl) (by kernel_rfl) (fun _ _ _ h => h) (Or.inl ⟨by rfl, ?_⟩) ?_
              rotate_left 1
              · intro w'
                go_simp
                first | done | with_reducible rfl
              simp only [Act.put, List.setIfInBounds_toArray, List.set_cons_zero, List.set_cons_succ]
              refine wpAny_ready (rs := [15]) (by kernel_rfl) (by simp) ?_
              refine allReady_wantD none rfl rfl rfl (fun K' hK => ?_) (AllReady.nil)
              refine wp_store_mid 31 (.tmp 133) (.tmp 131) rfl g (off + b * 5) #[.int .i64 c.kind, .string c.id, .int .i64 c.round, .int .i64 c.author, .slice c.pa c.ps.length c.pc] rfl rfl hth2 hiC hoC (hK _ _ ?_)
              simp only [Act.put]
              try rw [show (#[.int .i64 c.kind, .string c.id, .int .i64 c.round, .int .i64 c.author, .slice c.pa c.ps.length c.pc] : Array Value).toList = [.int .i64 c.kind, .string c.id, .int .i64 c.round, .int .i64 c.author, .slice c.pa c.ps.length c.pc] from rfl]
              generalize w8.setCells g (off + b * 5) [.int .i64 c.kind, .string c.id, .int .i64 c.round, .int .i64 c.author, .slice c.pa c.ps.length c.pc] = w9 at *
              refine wpAny_done (by kernel_rfl) ?_ _
              go_wp2
              go_roundw
              case rel => exact ⟨i + 2, _, by omega, by go_num, hP8, hS8⟩
              case measure => simp [intOf]; omega
          · go_upto_region 15 with fail
            go_cut [96] (fun s wx => s = .bool false ∧ wx = wr)
            case first =>
              by_cases h1 : i + 1 < ts.length
              · have g1 : (i : Int) + 1 < (ts.length : Int) := by omega
                by_cases h2 : i < 80
                · have g2 : (i : Int) < 80 := by omega
                  have g3 : ¬ (0 : Int) < (ins.length : Int) := by omega
                  have g4 : ¬ 0 < ins.length := by omega
                  go_wp2_with fail
                  go_meet
                  case rel => exact ⟨rfl, rfl⟩
                · have g2 : ¬ (i : Int) < 80 := by omega
                  go_wp2_with fail
                  go_meet
                  case rel => exact ⟨rfl, rfl⟩
              · have g1 : ¬ (i : Int) + 1 < (ts.length : Int) := by omega
                go_wp2_with fail
                go_meet
                case rel => exact ⟨rfl, rfl⟩
            case rest =>
              obtain ⟨rfl, rfl⟩ := hcut
              clear hgo hi81
              go_wp2_with fail
              go_loopw [16] (fun v16 wr => ∃ (i : Nat) (B : GrD), i ≤ ins.length ∧ v16 = .int .i64 (i : Int) ∧ St W wr ga gb A B ai ins (.slice ap ins.length cp) Q ∧ InV ((Q.map vtO).take i) B) (fun v _ => ins.length - (intOf v).toNat)
              case atStart => exact ⟨0, gr0, Nat.zero_le _, rfl, hS, InV.zero⟩
              case round =>
                clear hS
                obtain ⟨i, B, hii3, rfl, hS, hB⟩ := hrel
                by_cases hlt : i < ins.length
                · have g1 : (i : Int) < (ins.length : Int) := by omega
                  obtain ⟨x, hx⟩ : ∃ x, Q[i]? = some x := ⟨_, List.getElem?_eq_getElem (by omega)⟩
                  have hxm := List.mem_of_getElem? hx
                  have hvx : (Q.map vtO)[i]? = some (vtO x) := by rw [List.getElem?_map, hx]; rfl
                  have he : addEV B x.id x.round x.author x.ps.length = 0 := hV.takes (hP.map vtO) hB hvx (by rw [List.length_map]; omega)
                  have hB' := hB.add (v := vtO x) rfl he
                  have hB2 : InV ((Q.map vtO).take (i + 1)) (addGV B x.id x.round x.author x.ps) := by rw [List.take_add_one, hvx]; exact hB'
                  have hx50 := h50 x (hP.subset hxm)
                  obtain ⟨bo, oo, hao, hbl, _⟩ := (hS.kq.rowOf.1).op16 hx
                  subst hao
                  have hkp : ∀ {w' : World} {B' : GrD}, St W w' ga gb A B' ai ins (.slice (some ⟨bo, oo, none⟩) ins.length cp) Q → w'.cell? ⟨bo, oo + i * 5 + 1, none⟩ = some (.string x.id) ∧ w'.cell? ⟨bo, oo + i * 5 + 2, none⟩ = some (.int .i64 x.round) ∧ w'.cell? ⟨bo, oo + i * 5 + 3, none⟩ = some (.int .i64 x.author) ∧ w'.cell? ⟨bo, oo + i * 5 + 4, none⟩ = some (.slice x.pa x.ps.length x.pc) := fun h => by
                    obtain ⟨g, off, e, _, y0, y1, y2, y3, y4, _⟩ := (h.kq.rowOf.1).op16 hx
                    simp only [Option.some.injEq, Addr.mk.injEq, and_true] at e
                    obtain ⟨rfl, rfl⟩ := e
                    exact ⟨y1, y2, y3, y4⟩
                  have hS1 : St W wr.drew ga gb A B ai ins (.slice (some ⟨bo, oo, none⟩) ins.length cp) Q := hS.below (below_drewN (Below.refl _ wr) 1)
                  have hS0 := hkp hS1
                  have cA := hS1.addB hxm (by omega)
                  rw [he] at cA
                  clear hS hB hB' he
                  generalize addGV B x.id x.round x.author x.ps = B' at *
                  go_upto_region 22 with fail
                  go_region_held3 (fun w' => w'.cell? ⟨bo, oo + i * 5 + 1, none⟩ = some (.string x.id) ∧ w'.cell? ⟨bo, oo + i * 5 + 2, none⟩ = some (.int .i64 x.round) ∧ w'.cell? ⟨bo, oo + i * 5 + 3, none⟩ = some (.int .i64 x.author) ∧ w'.cell? ⟨bo, oo + i * 5 + 4, none⟩ = some (.slice x.pa x.ps.length x.pc)) (first | assumption | exact hkp (by assumption))
                    (first
                    | (go_at_call 8; refine (show Calls Try.prog 8 _ wr.drew (fun e w' => e = .returned (.int .i64 0) ∧ St W w' ga gb A B' ai ins (.slice (some ⟨bo, oo, none⟩) ins.length cp) Q) from cA).mono ?_; rintro e w4 ⟨rfl, hS4⟩))
                  all_goals
                    clear cA hS1 hS0 hkp
                    go_wp2
                    go_roundw
                    case rel => exact ⟨i + 1, B', by omega, by go_num, hS4, hB2⟩
                    case measure => simp [intOf]; omega
                · obtain rfl : i = ins.length := by omega
                  have g1 : ¬ (ins.length : Int) < (ins.length : Int) := by omega
                  rw [List.take_of_length_le (by rw [List.length_map]; omega)] at hB
                  obtain rfl : B = A := hV.same hB (hP.map vtO)
                  clear hB hV hP
                  go_wp2_with fail
                  go_loopw [17, 18, 19, 20, 21, 22] (fun v17 _ _ _ _ _ wr => ∃ (i : Nat) (g : GrD), i ≤ 30 ∧ v17 = .int .i64 (i : Int) ∧ St W wr ga gb g g ai ins (.slice ap ins.length cp) Q) (fun v _ _ _ _ _ _ => 31 - (intOf v).toNat)
                  case atStart => exact ⟨0, _, Nat.zero_le _, rfl, hS⟩
                  case round =>
                    clear hS
                    obtain ⟨i, g, hi30, rfl, hS⟩ := hrel
                    by_cases hgo : i < es.length ∧ i < 30 ∧ 0 < ins.length
                    · have g1 : (i : Int) < (es.length : Int) := by omega
                      have g2 : (i : Int) < 30 := by omega
                      have g3 : (0 : Int) < (ins.length : Int) := by omega
                      obtain ⟨t, ht⟩ : ∃ t, es[i]? = some t := ⟨_, List.getElem?_eq_getElem hgo.1⟩
                      obtain ⟨tbk, toff, hao, htl, t0⟩ := (hE.below hS.bel).int ht
                      obtain ⟨a, hja, hje⟩ := pick_atC t ins.length hgo.2.2 (by omega)
                      have hu : IntKind.u64.wrap (ins.length : Int) = (ins.length : Int) := by rw [Mx.wrap_u64]; omega
                      have hNz : ¬ (ins.length : Int) = 0 := by omega
                      have ga2 : (a : Int) < (ins.length : Int) := by omega
                      obtain ⟨x, hx⟩ : ∃ x, ins[a]? = some x := ⟨_, List.getElem?_eq_getElem hja⟩
                      obtain ⟨bo, oo, hai, hbl, y0, y1, y2, y3, y4, hat⟩ := hS.row.op16 hx
                      subst hao
                      subst hai
                      obtain ⟨SA, SB, hPA, hboth⟩ := hS.both x.id
                      have cE1 := pgEmit_any x.id ga SA g wr hPA hat.id
                      clear y0 y2 y3 y4 hS hPA
                      go_wp2_with fail
                      refine cE1.mono ?_
                      intro e1 w1 hE1
                      obtain ⟨rl, rm, al, cl, am', cm', rfl, hPB, hsec⟩ := hboth e1 w1 hE1
                      have cE2 := pgEmit_any x.id gb SB g w1 hPB hat.id
                      clear cE1 hboth hE1 hPB y1 t0
                      go_wp2_with fail
                      refine cE2.mono ?_
                      intro e2 w2 hE2
                      obtain ⟨al2, cl2, am2, cm2, g', rfl, hr1, hr2, hr3, hr4, hl1, hl2, hS2⟩ := hsec e2 w2 hE2
                      have cS1 := sameRows_any al al2 cl cl2 rl w2 hr1 hr3 hl1
                      clear cE2 hsec hE2
                      go_wp2_with fail
                      refine cS1.mono ?_
                      rintro e w3 ⟨rfl, hb3⟩
                      have cS2 := sameRows_any am' am2 cm' cm2 rm w3 (hr2.below hb3) (hr4.below hb3) hl2
                      have hS3 := hS2.below hb3
                      clear cS1 hS2 hr1 hr2 hr3 hr4 hb3
                      go_wp2_with fail
                      refine cS2.mono ?_
                      rintro e w4 ⟨rfl, hb4⟩
                      have hS4 := hS3.below hb4
                      clear cS2 hS3 hb4
                      go_wp2
                      go_roundw
                      case rel => exact ⟨i + 1, g', by omega, by go_num, hS4⟩
                      case measure => simp [intOf]; omega
                    · go_upto_region 25 with fail
                      go_cut [175] (fun s wx => s = .bool false ∧ wx = wr)
                      case first =>
                        by_cases h1 : i < es.length
                        · have g1 : (i : Int) < (es.length : Int) := by omega
                          by_cases h2 : i < 30
                          · have g2 : (i : Int) < 30 := by omega
                            have g3 : ¬ (0 : Int) < (ins.length : Int) := by omega
                            have g4 : ¬ 0 < ins.length := by omega
                            go_wp2_with fail
                            go_meet
                            case rel => exact ⟨rfl, rfl⟩
                          · have g2 : ¬ (i : Int) < 30 := by omega
                            go_wp2_with fail
                            go_meet
                            case rel => exact ⟨rfl, rfl⟩
                        · have g1 : ¬ (i : Int) < (es.length : Int) := by omega
                          go_wp2_with fail
                          go_meet
                          case rel => exact ⟨rfl, rfl⟩
                      case rest =>
                        obtain ⟨rfl, rfl⟩ := hcut
                        have hbW := hS.bel
                        go_wp2
                        go_ret
                        exact ⟨rfl, hbW⟩
end Go.Proofs.Ytbeaffeibcjjfaa
