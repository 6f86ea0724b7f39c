/- WavesFront: the waves of a beginning are those of the whole; readers are all in the first wave, writers of one key each in one of their own. -/
import Derived.Test.YtkgidmifgfoeiaaWavWorks
import Derived.Test.YtkgidmifgfoeiaaAccOwnL
import Derived.Laws.Tables
import Derived.Deep.DeepCutAuto
namespace Go.Proofs.Ytkgidmifgfoeiaa
open Go Go.RowKit
set_option linter.unusedVariables false

theorem wvN_front (l : List RwD) {k : Nat} : ∀ m, m ≤ k → wvN (l.take k) m = wvN l m := by
  intro m
  induction m with
  | zero => intro _; rfl
  | succ m ih =>
    intro h
    have h1 : wvN (l.take k) (m + 1) = wvN (l.take k) m ++ [wv (l.take k) m] := rfl
    have h2 : wvN l (m + 1) = wvN l m ++ [wv l m] := rfl
    rw [h1, h2, ih (by omega), wv_front m (by omega)]

def keyF : ByteArray := ⟨#[97, 58, 97]⟩

def frR (b : Nat) : TxA := ⟨0, ⟨#[]⟩, ⟨#[]⟩, 0, 0, ⟨#[]⟩, ⟨#[]⟩, [keyF], [], some ⟨b, 0, none⟩, 1, none, 0⟩
def frW (b : Nat) : TxA := ⟨0, ⟨#[]⟩, ⟨#[]⟩, 0, 0, ⟨#[]⟩, ⟨#[]⟩, [], [keyF], none, 0, some ⟨b, 0, none⟩, 1⟩

theorem fr_clash : clashB ⟨[keyF], []⟩ ⟨[keyF], []⟩ = false ∧ clashB ⟨[], [keyF]⟩ ⟨[], [keyF]⟩ = true := by decide +kernel

theorem keyF_fits : ∀ s ∈ [keyF], s.size ≤ maxLen := fun s h => by
  rw [List.mem_singleton.1 h]; unfold maxLen; decide

theorem frR_at {w : World} {b : Nat} (h : Arr w b 9 [.string keyF]) : TxA.At w (frR b) :=
  ⟨Arr.rowW (K := textK) (l := [keyF]) h rfl (fun _ _ => trivial), nil_row _ _, (fun e => by cases e), fun _ => rfl, keyF_fits, fun s h => by cases h⟩

theorem frW_at {w : World} {b : Nat} (h : Arr w b 9 [.string keyF]) : TxA.At w (frW b) :=
  ⟨nil_row _ _, Arr.rowW (K := textK) (l := [keyF]) h rfl (fun _ _ => trivial), fun _ => rfl, (fun e => by cases e), (fun s h => by cases h), keyF_fits⟩

theorem frR_foot {a b : Nat} (h : txA.foot (frR a) b) : b = a := by
  rcases h with h | h
  · rcases h with ⟨_, off, e⟩ | ⟨_, _, e⟩
    · have e : (some ⟨a, 0, none⟩ : Option Addr) = some ⟨b, off, none⟩ := e
      simp only [Option.some.injEq, Addr.mk.injEq] at e
      omega
    · exact e.elim
  · exact (nil_foot h).elim

theorem frW_foot {a b : Nat} (h : txA.foot (frW a) b) : b = a := by
  rcases h with h | h
  · exact (nil_foot h).elim
  · rcases h with ⟨_, off, e⟩ | ⟨_, _, e⟩
    · have e : (some ⟨a, 0, none⟩ : Option Addr) = some ⟨b, off, none⟩ := e
      simp only [Option.some.injEq, Addr.mk.injEq] at e
      omega
    · exact e.elim

theorem take_rw (l : List TxA) (k : Nat) : rwL (l.take k) = (rwL l).take k := by unfold rwL; rw [List.map_take]

set_option maxRecDepth 100000 in
set_option maxHeartbeats 4000000 in
theorem wavesFront_walk (ao : Option Addr) (cp : Nat) (l : List TxA) (n : Int) (sm : Bool) (W : World) (hl : RowAt txA W ao l) (hcp : l.length ≤ cp) (hw : Wide l) (hwf : (Lit.int .i64 n).wf = true) :
    Calls Try.prog 7 #[.slice ao l.length cp, .int .i64 n, .bool sm] W fun e w' => e = .returned (.bool true) ∧ Below W.heap.size W w' := by
  have cW := works21_any W
  clear hwf
  cases hg : greatA l with
  | true =>
    go_enter Try.func7, Try.ntmps7
    go_wp2_with (first
      | (go_at_call 17; refine cW.mono ?_; rintro _ w0 ⟨rfl, hb0⟩; have cG := great_any l ao cp w0 (hl.below hb0) hw; rw [hg] at cG)
      | (go_at_call 8; refine cG.mono ?_; rintro _ w1 ⟨rfl, hb1⟩))
    go_ret
    exact ⟨rfl, hb0.trans (hb1.mono hb0.size)⟩
  | false =>
    have hf := few_of hg
    have hl1 := hf.1
    have hlen : Hid ((rwL l).length = l.length) := rwL_length l
    obtain ⟨i0, z0, hi0, hz0, hs0, hbb0, hzs0⟩ := txInfoA
    obtain ⟨k, hk, hke⟩ := pick_atC n (l.length + 1) (by omega) (by omega)
    have gu : IntKind.u64.wrap ((l.length : Int) + 1) = (l.length : Int) + 1 := by rw [Mx.wrap_u64]; omega
    have gp : (((l.length : Int) + 1) == 0) = false := beq_eq_false_iff_ne.2 (by omega)
    have hke2 : wrap64 ((IntKind.u64.wrap n).tmod ((l.length : Int) + 1)) = (k : Int) := hke
    have gk : (k : Int) ≤ (cp : Int) := by omega
    have hkl : k ≤ l.length := by omega
    have htk : Hid ((l.take k).length = k) := by unfold Hid; rw [List.length_take]; omega
    have hftk : Few (l.take k) := ⟨by rw [htk.out]; omega, fun x hx => hf.2 x (List.mem_of_mem_take hx)⟩
    have cO2 : ∀ w, Below W.heap.size W w → Calls Try.prog 10 #[.slice ao k cp] w fun e w' => GotOwnL w (l.take k) e w' := fun w hb => by
      have h := ownL_any (l.take k) ao cp w ((hl.take k).below hb) hftk
      rw [htk.out] at h
      exact h
    clear hke
    go_enter Try.func7, Try.ntmps7
    go_wp2_with (first
      | (go_at_call 17; refine cW.mono ?_; rintro _ w0 ⟨rfl, hb0⟩; have cG := great_any l ao cp w0 (hl.below hb0) hw; rw [hg] at cG; clear cW)
      | (go_at_call 8; refine cG.mono ?_; rintro _ w1 ⟨rfl, hb1'⟩; have hb1 := hb0.trans (hb1'.mono hb0.size); have cO := ownL_any l ao cp w1 (hl.below hb1) hf; clear cG hb1')
      | (go_at_call 10; refine cO.mono ?_; rintro _ w2 ⟨oa, oc, m, rfl, hml, hmr, hmw, hb2⟩
         have hb12 := hb1.trans (hb2.mono hb1.size)
         have cF := of_any m oa oc w2 hmr (few_same hf hmw)
         replace hml : Hid _ := hml
         clear cO)
      | (go_at_call 9; refine cF.mono ?_; rintro _ w3 ⟨g, rfl, hq, hb3⟩
         rw [hmw, hlen.out] at hq ⊢
         have hb13 := hb12.trans (hb3.mono hb12.size)
         have cO3 := cO2 w3 hb13
         clear cF hmr cO2)
      | (go_at_call 10; refine cO3.mono ?_; rintro _ w4 ⟨oa2, oc2, m2, rfl, hml2, hmr2, hmw2, hb4⟩
         have hb14 := hb13.trans (hb4.mono hb13.size)
         have cF2 := of_any m2 oa2 oc2 w4 hmr2 (few_same hftk hmw2)
         replace hml2 : Hid _ := hml2
         clear cO3)
      | (go_at_call 9; refine cF2.mono ?_; rintro _ w5 ⟨g2, rfl, hq2, hb5⟩
         rw [hmw2] at hq2 ⊢
         have hb15 := hb14.trans (hb5.mono hb14.size)
         have hLk : (rwL (l.take k)).length = k := by rw [rwL_length, htk.out]
         rw [hLk] at hq2 ⊢
         have hqk := ((hq.below hb4).below hb5).cutEnd (fun _ _ h => h) k (by rw [wvN_length]; exact hkl)
         have hQ1 : wvN (rwL (l.take k)) k = wvN (rwL l) k := by rw [take_rw]; exact wvN_front (rwL l) k (Nat.le_refl _)
         have hQ2 : (wvN (rwL l) l.length).take k = wvN (rwL l) k := wvN_take (rwL l) hkl
         rw [hQ1] at hq2
         rw [hQ2] at hqk
         have cS := same_rows w5 _ _ _ _ _ _ _ _ _ _ hqk hq2 (by omega) (by omega)
         rw [decide_eq_true (by rfl)] at cS
         have gka : (k : Int) ≤ (l.length : Int) := by omega
         clear cF2 hmr2 hLk hqk hQ1 hQ2 hq2)
      | (go_at_call 12; refine cS.mono ?_; rintro _ w6 ⟨rfl, hb6⟩
         have hb16 := hb15.trans (hb6.mono hb15.size)
         clear cS))
    clear hke2 gu gp hq
    cases sm
    · have hcl : Hid (clashB ⟨[keyF], []⟩ ⟨[keyF], []⟩ = false) := fr_clash.1
      go_loopw [11, 10] (fun v11 v10 wr => ∃ (i : Nat) (pa : Option Addr) (pc : Nat) (m : List TxA), i ≤ k ∧ v11 = .int .i64 (i : Int) ∧ v10 = .slice pa m.length pc ∧ KQ txA 38 wr w6.heap.size (.slice pa m.length pc) m ∧ Hid (rwL m = List.replicate i ⟨[keyF], []⟩) ∧ Hid (m.length = i) ∧ Hid (Few m) ∧ Below w6.heap.size w6 wr) (fun v _ _ => k - (intOf v).toNat)
      case atStart => exact ⟨0, none, 0, [], Nat.zero_le _, rfl, rfl, KQ.empty _ _ _ _, rfl, rfl, ⟨Nat.zero_le _, fun x hx => (by cases hx)⟩, Below.refl _ _⟩
      case round =>
        obtain ⟨i, pa, pc, m, hi, rfl, rfl, hqm, hrm, hmn, hmf, hb⟩ := hrel
        by_cases hik : i < k
        · have g1 : (i : Int) < (k : Int) := by omega
          have hmi : m.length ≤ 1000 := by rw [hmn.out]; omega
          have hmi2 : m.length + 1 ≤ 1000 := by rw [hmn.out]; omega
          have m1 : m.length + 1 ≤ maxLen := by unfold maxLen; omega
          have m2 : (m.length + 1) * 136 ≤ 140737488355328 := by omega
          have hql : Hid (∀ b, (Value.slice pa m.length pc).ownBlock = some b → b < wr.heap.size) := fun b e => (hqm.lt b e).2
          go_upto_region 17 with fail
          obtain ⟨h1, h2, hb7⟩ := two_new wr 9 38 [.string keyF] (frR wr.heap.size).c
          obtain ⟨w7, hw7⟩ : ∃ q, (wr.alloc (.cells [Value.string keyF].toArray 9)).alloc (.cells (frR wr.heap.size).c.toArray 38) = q := ⟨_, rfl⟩
          rw [hw7] at h1 h2 hb7
          replace hw7 : (wr.alloc (.cells #[.string ⟨#[97, 58, 97]⟩] 9)).alloc (.cells #[.int .i64 0, .string ⟨#[]⟩, .string ⟨#[]⟩, .int .u64 0, .int .u64 0, .string ⟨#[]⟩, .string ⟨#[]⟩, .slice (some ⟨wr.heap.size, 0, none⟩) 1 1, .slice none 0 0] 38) = w7 := hw7
          rw [hw7]
          have hA7 := frR_at h1
          have hyo : ∀ b, txA.foot (frR (wr.heap.size)) b → (Value.slice pa m.length pc).ownBlock ≠ some b := fun b hb e => by
            have h3 := frR_foot hb
            have h4 := hql.out b e
            omega
          replace h2 : Arr w7 (wr.heap.size + 1) 38 [.int .i64 0, .string ⟨#[]⟩, .string ⟨#[]⟩, .int .u64 0, .int .u64 0, .string ⟨#[]⟩, .string ⟨#[]⟩, .slice (some ⟨wr.heap.size, 0, none⟩) 1 1, .slice none 0 0] := h2
          have n0 := h2.cell (i := 0) rfl
          have n1 := h2.cell (i := 1) rfl
          have n2 := h2.cell (i := 2) rfl
          have n3 := h2.cell (i := 3) rfl
          have n4 := h2.cell (i := 4) rfl
          have n5 := h2.cell (i := 5) rfl
          have n6 := h2.cell (i := 6) rfl
          have n7 := h2.cell (i := 7) rfl
          have n8 := h2.cell (i := 8) rfl
          obtain ⟨Y, hY⟩ : ∃ Y, Y = frR (wr.heap.size) := ⟨_, rfl⟩
          have hb8 := belowNew w7 (.cells Y.c.toArray 38)
          have hq8 := (hqm.below hb7).below hb8
          have hNW := new_tx w7 Y
          rw [← hY] at hA7 hyo
          have hA8 := hA7.below hb8
          have hbb8 := (hb.trans (hb7.mono hb.size)).trans (hb8.mono (by have := hb.size; have := hb7.size; omega))
          have hB8 := hbb8.size
          have hrn : Hid (rwL (m ++ [Y]) = List.replicate (i + 1) ⟨[keyF], []⟩) := by
            have h := hrm.out
            unfold rwL at h
            unfold Hid rwL
            rw [List.map_append, h, hY, List.replicate_succ']
            rfl
          have hfn : Hid (Few (m ++ [Y])) := ⟨by rw [List.length_append]; exact hmi2, fun x hx => by
            rcases List.mem_append.1 hx with hx | hx
            · exact hmf.out.2 x hx
            · simp only [List.mem_cons, List.not_mem_nil, or_false] at hx
              rw [hx, hY]
              exact ⟨by simp [frR], by simp [frR]⟩⟩
          have hYc : w7.alloc (.cells Y.c.toArray 38) = w7.alloc (.cells (frR (wr.heap.size)).c.toArray 38) := by rw [hY]
          obtain ⟨w8, hw8⟩ : ∃ q, w7.alloc (.cells Y.c.toArray 38) = q := ⟨_, rfl⟩
          rw [hw8] at hq8 hNW hA8 hbb8 hB8 hYc
          replace hYc : w7.alloc (.cells #[.int .i64 0, .string ⟨#[]⟩, .string ⟨#[]⟩, .int .u64 0, .int .u64 0, .string ⟨#[]⟩, .string ⟨#[]⟩, .slice (some ⟨wr.heap.size, 0, none⟩) 1 1, .slice none 0 0] 38) = w8 := hYc.symm
          replace hY : Hid _ := hY
          clear hw8 hb8 hA7 hw7 h2 hqm hrm hmf
          go_wp2_with (at_builtin; refine wpList_pushN (K := txA) rfl _ _ 22 rfl w6.heap.size 38 i0 _ 136 Try.underlying22 hi0 hz0 hs0 hbb0 hzs0 _ m rfl hq8 Y hA8 hyo ⟨w7.heap.size, 0, none⟩ 1 rfl hNW m1 m2 hB8 ?_; intro ao9 cap9 w9 hQ9 hk9 hf9)
          have hbb9 : Below w6.heap.size w6 w9 := hbb8.trans (hk9.below hB8 (fun b e => (hq8.lt b e).1))
          clear hk9 hf9 hq8 hNW
          go_roundw
          case rel => exact ⟨i + 1, ao9, cap9, m ++ [Y], by omega, by go_num, by rw [List.length_append]; rfl, hQ9, hrn, (by unfold Hid; rw [List.length_append, hmn.out]; rfl), hfn, hbb9⟩
          case measure => simp [intOf]; omega
        · have g1 : ¬ (i : Int) < (k : Int) := by omega
          have hik2 : i = k := by omega
          have hrk : Hid (rwL m = List.replicate k ⟨[keyF], []⟩) := by rw [← hik2]; exact hrm
          have hlk : Hid ((rwL m).length = k) := by unfold Hid; rw [hrk.out, List.length_replicate]
          have hb6r := hb16.trans (hb.mono hb16.size)
          have cF3 := of_any m pa pc wr hqm.rowOf.1 hmf.out
          replace hmn : Hid _ := hmn
          clear hqm hik2 hrm hik
          go_wp2_with (go_at_call 9; refine cF3.mono ?_; rintro _ w7 ⟨g3, rfl, hq7, hb7⟩; rw [hlk.out] at hq7 ⊢)
          rw [hrk.out] at hq7
          have hb67 := hb6r.trans (hb7.mono hb6r.size)
          go_loopw [14] (fun v14 w8 => ∃ (j : Nat), j ≤ k ∧ v14 = .int .i64 (j : Int) ∧ w8 = w7) (fun v _ => k - (intOf v).toNat)
          case atStart => exact ⟨0, Nat.zero_le _, rfl, rfl⟩
          case round =>
            obtain ⟨j, hj, rfl, rfl⟩ := hrel
            by_cases hjk : j < k
            · have g2 : (j : Int) < (k : Int) := by omega
              have c1 := (hq7.natSet (wvN_get (List.replicate k ⟨[keyF], []⟩) hjk)).1
              rw [wv_reads hcl.out] at c1
              simp only [Nat.zero_add] at c1
              go_wp2_with fail
              go_roundw
              case rel => exact ⟨j + 1, by omega, by go_num, by first | rfl | trivial⟩
              case measure => simp [intOf]; omega
            · have g2 : ¬ (j : Int) < (k : Int) := by omega
              go_wp2_with fail
              go_ret
              exact ⟨by first | rfl | simp, hb67⟩
    · have hcl : Hid (clashB ⟨[], [keyF]⟩ ⟨[], [keyF]⟩ = true) := fr_clash.2
      go_loopw [11, 10] (fun v11 v10 wr => ∃ (i : Nat) (pa : Option Addr) (pc : Nat) (m : List TxA), i ≤ k ∧ v11 = .int .i64 (i : Int) ∧ v10 = .slice pa m.length pc ∧ KQ txA 38 wr w6.heap.size (.slice pa m.length pc) m ∧ Hid (rwL m = List.replicate i ⟨[], [keyF]⟩) ∧ Hid (m.length = i) ∧ Hid (Few m) ∧ Below w6.heap.size w6 wr) (fun v _ _ => k - (intOf v).toNat)
      case atStart => exact ⟨0, none, 0, [], Nat.zero_le _, rfl, rfl, KQ.empty _ _ _ _, rfl, rfl, ⟨Nat.zero_le _, fun x hx => (by cases hx)⟩, Below.refl _ _⟩
      case round =>
        obtain ⟨i, pa, pc, m, hi, rfl, rfl, hqm, hrm, hmn, hmf, hb⟩ := hrel
        by_cases hik : i < k
        · have g1 : (i : Int) < (k : Int) := by omega
          have hmi : m.length ≤ 1000 := by rw [hmn.out]; omega
          have hmi2 : m.length + 1 ≤ 1000 := by rw [hmn.out]; omega
          have m1 : m.length + 1 ≤ maxLen := by unfold maxLen; omega
          have m2 : (m.length + 1) * 136 ≤ 140737488355328 := by omega
          have hql : Hid (∀ b, (Value.slice pa m.length pc).ownBlock = some b → b < wr.heap.size) := fun b e => (hqm.lt b e).2
          go_upto_region 16 with fail
          obtain ⟨h1, h2, hb6'⟩ := two_new wr 9 38 [.string keyF] (frR wr.heap.size).c
          obtain ⟨w6', hw6'⟩ : ∃ q, (wr.alloc (.cells [Value.string keyF].toArray 9)).alloc (.cells (frR wr.heap.size).c.toArray 38) = q := ⟨_, rfl⟩
          have hs6 : w6'.heap.size = wr.heap.size + 1 + 1 := by rw [← hw6', alloc_size, alloc_size]
          rw [hw6'] at h1 h2 hb6'
          replace hw6' : (wr.alloc (.cells #[.string ⟨#[97, 58, 97]⟩] 9)).alloc (.cells #[.int .i64 0, .string ⟨#[]⟩, .string ⟨#[]⟩, .int .u64 0, .int .u64 0, .string ⟨#[]⟩, .string ⟨#[]⟩, .slice (some ⟨wr.heap.size, 0, none⟩) 1 1, .slice none 0 0] 38) = w6' := hw6'
          rw [hw6']
          have h3 := Arr.new w6' 9 [.string keyF]
          rw [hs6] at h3
          have hbn := belowNew w6' (.cells [Value.string keyF].toArray 9)
          have h2n := h2.below hbn h2.lt
          have h4 := h2n.row (frW (wr.heap.size + 1 + 1)).c
          have h5 := h3.rowOther (g' := wr.heap.size + 1) (by omega) (frW (wr.heap.size + 1 + 1)).c.toArray
          have hb7 : Below wr.heap.size wr ((w6'.alloc (.cells [Value.string keyF].toArray 9)).setRow (wr.heap.size + 1) (frW (wr.heap.size + 1 + 1)).c.toArray) := below_setRow (hb6'.trans (hbn.mono hb6'.size)) (by omega) _
          obtain ⟨w7, hw7⟩ : ∃ q, (w6'.alloc (.cells [Value.string keyF].toArray 9)).setRow (wr.heap.size + 1) (frW (wr.heap.size + 1 + 1)).c.toArray = q := ⟨_, rfl⟩
          rw [hw7] at h4 h5 hb7
          have hA7 := frW_at h5
          obtain ⟨w6n, hw6n⟩ : ∃ q, w6'.alloc (.cells [Value.string keyF].toArray 9) = q := ⟨_, rfl⟩
          rw [hw6n] at h2n hw7
          replace hw6n : w6'.alloc (.cells #[.string ⟨#[97, 58, 97]⟩] 9) = w6n := hw6n
          replace hw7 : w6n.setRow (wr.heap.size + 1) #[.int .i64 0, .string ⟨#[]⟩, .string ⟨#[]⟩, .int .u64 0, .int .u64 0, .string ⟨#[]⟩, .string ⟨#[]⟩, .slice none 0 0, .slice (some ⟨wr.heap.size + 1 + 1, 0, none⟩) 1 1] = w7 := hw7
          have hi9 : (Try.prog.info? 38).map (·.size) = some (#[.int .i64 0, .string ⟨#[]⟩, .string ⟨#[]⟩, .int .u64 0, .int .u64 0, .string ⟨#[]⟩, .string ⟨#[]⟩, .slice none 0 0, .slice (some ⟨wr.heap.size + 1 + 1, 0, none⟩) 1 1] : Array Value).size := by rw [hi0]; show some i0.size = some 9; rw [hs0]
          have hone : (#[.int .i64 0, .string ⟨#[]⟩, .string ⟨#[]⟩, .int .u64 0, .int .u64 0, .string ⟨#[]⟩, .string ⟨#[]⟩, .slice none 0 0, .slice (some ⟨wr.heap.size + 1 + 1, 0, none⟩) 1 1] : Array Value).all (·.oneCell') = true := by simp [Value.oneCell']
          clear hw6' h1 h3 hbn
          go_upto_region 17 with (first
            | (refine wpList_store_row (by rfl) 38 _ _ (by rfl) (wr.heap.size + 1) #[.int .i64 0, .string ⟨#[]⟩, .string ⟨#[]⟩, .int .u64 0, .int .u64 0, .string ⟨#[]⟩, .string ⟨#[]⟩, .slice none 0 0, .slice (some ⟨wr.heap.size + 1 + 1, 0, none⟩) 1 1] (by rfl) (by rfl) 38 _ h2n hi9 (by rfl) hone ?_; rw [hw7]))
          replace h2 := h4
          have hyo : ∀ b, txA.foot (frW (wr.heap.size + 1 + 1)) b → (Value.slice pa m.length pc).ownBlock ≠ some b := fun b hb e => by
            have h3 := frW_foot hb
            have h4 := hql.out b e
            omega
          replace h2 : Arr w7 (wr.heap.size + 1) 38 [.int .i64 0, .string ⟨#[]⟩, .string ⟨#[]⟩, .int .u64 0, .int .u64 0, .string ⟨#[]⟩, .string ⟨#[]⟩, .slice none 0 0, .slice (some ⟨wr.heap.size + 1 + 1, 0, none⟩) 1 1] := h2
          have n0 := h2.cell (i := 0) rfl
          have n1 := h2.cell (i := 1) rfl
          have n2 := h2.cell (i := 2) rfl
          have n3 := h2.cell (i := 3) rfl
          have n4 := h2.cell (i := 4) rfl
          have n5 := h2.cell (i := 5) rfl
          have n6 := h2.cell (i := 6) rfl
          have n7 := h2.cell (i := 7) rfl
          have n8 := h2.cell (i := 8) rfl
          obtain ⟨Y, hY⟩ : ∃ Y, Y = frW (wr.heap.size + 1 + 1) := ⟨_, rfl⟩
          have hb8 := belowNew w7 (.cells Y.c.toArray 38)
          have hq8 := (hqm.below hb7).below hb8
          have hNW := new_tx w7 Y
          rw [← hY] at hA7 hyo
          have hA8 := hA7.below hb8
          have hbb8 := (hb.trans (hb7.mono hb.size)).trans (hb8.mono (by have := hb.size; have := hb7.size; omega))
          have hB8 := hbb8.size
          have hrn : Hid (rwL (m ++ [Y]) = List.replicate (i + 1) ⟨[], [keyF]⟩) := by
            have h := hrm.out
            unfold rwL at h
            unfold Hid rwL
            rw [List.map_append, h, hY, List.replicate_succ']
            rfl
          have hfn : Hid (Few (m ++ [Y])) := ⟨by rw [List.length_append]; exact hmi2, fun x hx => by
            rcases List.mem_append.1 hx with hx | hx
            · exact hmf.out.2 x hx
            · simp only [List.mem_cons, List.not_mem_nil, or_false] at hx
              rw [hx, hY]
              exact ⟨by simp [frW], by simp [frW]⟩⟩
          have hYc : w7.alloc (.cells Y.c.toArray 38) = w7.alloc (.cells (frW (wr.heap.size + 1 + 1)).c.toArray 38) := by rw [hY]
          obtain ⟨w8, hw8⟩ : ∃ q, w7.alloc (.cells Y.c.toArray 38) = q := ⟨_, rfl⟩
          rw [hw8] at hq8 hNW hA8 hbb8 hB8 hYc
          replace hYc : w7.alloc (.cells #[.int .i64 0, .string ⟨#[]⟩, .string ⟨#[]⟩, .int .u64 0, .int .u64 0, .string ⟨#[]⟩, .string ⟨#[]⟩, .slice none 0 0, .slice (some ⟨wr.heap.size + 1 + 1, 0, none⟩) 1 1] 38) = w8 := hYc.symm
          replace hY : Hid _ := hY
          clear hw8 hb8 hA7 hw7 h2 hqm hrm hmf
          go_wp2_with (at_builtin; refine wpList_pushN (K := txA) rfl _ _ 22 rfl w6.heap.size 38 i0 _ 136 Try.underlying22 hi0 hz0 hs0 hbb0 hzs0 _ m rfl hq8 Y hA8 hyo ⟨w7.heap.size, 0, none⟩ 1 rfl hNW m1 m2 hB8 ?_; intro ao9 cap9 w9 hQ9 hk9 hf9)
          have hbb9 : Below w6.heap.size w6 w9 := hbb8.trans (hk9.below hB8 (fun b e => (hq8.lt b e).1))
          clear hk9 hf9 hq8 hNW
          go_roundw
          case rel => exact ⟨i + 1, ao9, cap9, m ++ [Y], by omega, by go_num, by rw [List.length_append]; rfl, hQ9, hrn, (by unfold Hid; rw [List.length_append, hmn.out]; rfl), hfn, hbb9⟩
          case measure => simp [intOf]; omega
        · have g1 : ¬ (i : Int) < (k : Int) := by omega
          have hik2 : i = k := by omega
          have hrk : Hid (rwL m = List.replicate k ⟨[], [keyF]⟩) := by rw [← hik2]; exact hrm
          have hlk : Hid ((rwL m).length = k) := by unfold Hid; rw [hrk.out, List.length_replicate]
          have hb6r := hb16.trans (hb.mono hb16.size)
          have cF3 := of_any m pa pc wr hqm.rowOf.1 hmf.out
          replace hmn : Hid _ := hmn
          clear hqm hik2 hrm hik
          go_wp2_with (go_at_call 9; refine cF3.mono ?_; rintro _ w7 ⟨g3, rfl, hq7, hb7⟩; rw [hlk.out] at hq7 ⊢)
          rw [hrk.out] at hq7
          have hb67 := hb6r.trans (hb7.mono hb6r.size)
          go_loopw [14] (fun v14 w8 => ∃ (j : Nat), j ≤ k ∧ v14 = .int .i64 (j : Int) ∧ w8 = w7) (fun v _ => k - (intOf v).toNat)
          case atStart => exact ⟨0, Nat.zero_le _, rfl, rfl⟩
          case round =>
            obtain ⟨j, hj, rfl, rfl⟩ := hrel
            by_cases hjk : j < k
            · have g2 : (j : Int) < (k : Int) := by omega
              have c1 := (hq7.natSet (wvN_get (List.replicate k ⟨[], [keyF]⟩) hjk)).1
              rw [wv_writes hcl.out hjk] at c1
              simp only [Nat.zero_add] at c1
              go_wp2_with fail
              go_roundw
              case rel => exact ⟨j + 1, by omega, by go_num, by first | rfl | trivial⟩
              case measure => simp [intOf]; omega
            · have g2 : ¬ (j : Int) < (k : Int) := by omega
              go_wp2_with fail
              go_ret
              exact ⟨by first | rfl | simp, hb67⟩
end Go.Proofs.Ytkgidmifgfoeiaa
