/- NetTakes: the walk. -/
import Derived.Test.YtmbfidegcebbdaaNetWorks
import Derived.Test.YtmbfidegcebbdaaBoolMap
import Derived.Test.YtmbfidegcebbdaaInts
namespace Go.Proofs.Ytmbfidegcebbdaa
open Go.RowKit Go.Maps
set_option linter.unusedVariables false

theorem zeroBool (w : World) : (zeroValue 4).run Try.prog w = .ok (.bool false) w := by kernel_rfl
theorem lawInt : Keyed Try.prog 3 := int_keyed Try.underlying3

/-- 'm[k]' at elements that are bools, at an operation that is wanted. -/
theorem wpList_lookup_own_boolW {H : Type} {P : Program} (w : World) {ops : Array Oper} {rest : List Oper} {o : Oper} {a : Act} {Q : Exit → Act → World → Prop}
    (hw : Region.wanted o (yielded ops a.tmps) = true) (m x : Operand) (t : TypeId) (hop : o.op = Op.lookup t m x false)
    (k e : TypeId) (K : Keyed P k) (ht : P.underlying t = some (.map k e)) (he : P.underlying e = some .bool) (hz : (zeroValue e).run P w = .ok (.bool false) w) (b n : Nat) (D : DataW H)
    (hm : a.eval m = .map (some b)) (hown : w.ownsMap P k (plainElem P e) b n D) (key : Value) (kl : Lit) (hx : a.eval x = key) (hkey : keyOf P k key = some kl)
    (c : Bool) (hat : D.atKey kl (.lit (.bool false)) = .lit (.bool c)) (hK : wpList P ops Q rest (a.put o.dst (.bool c)) w) :
    wpList P ops Q (o :: rest) a w := by
  refine wpList_step fun K' hK' => ?_
  rw [if_pos hw]
  obtain ⟨v, ps, hrun, hv⟩ := hown.lookup K ht hz (plainElem_bool he false) hkey
  obtain ⟨c', rfl, hc'⟩ := plainElem_bool_inv he hv
  simp only [Prod.mk.injEq] at hc'
  have : c' = c := by
    have h1 := hc'.1
    rw [hat] at h1
    simp at h1
    exact h1.symm
  subst this
  unfold Oper.wp
  simp [execOp, hop, hm, hx, hrun, Result.andThen]
  exact hK' _ _ hK

/-- A map whose block is not turned. -/
theorem ownsMap_kept {H : Type} {P : Program} {k : TypeId} {R : Value → Option (DataW H × List MemPlace)} {b n : Nat} {D : DataW H} {S : Nat → Prop} {w w' : World} (h : w.ownsMap P k R b n D) (hk : Kept S w w') (hS : ¬ S b) : w'.ownsMap P k R b n D := by
  have hlt := h.lt
  obtain ⟨es, clock, hb, F, hs, hD⟩ := h
  exact ⟨es, clock, (hk.block b hlt hS).trans hb, F, hs, hD⟩

/-- Which of the first numbers were taken out. -/
def outB (m : List Nat) (j : Nat) : Bool := decide (j ∉ m)

theorem nodup_split {m : List Nat} {k x : Nat} (hx : m[k]? = some x) (hn : m.Nodup) : (m.eraseIdx k).Nodup ∧ (∀ j, j ∈ m.eraseIdx k ↔ j ∈ m ∧ j ≠ x) ∧ (m.eraseIdx k).length + 1 = m.length := by
  obtain ⟨hk, he⟩ := List.getElem?_eq_some_iff.1 hx
  have e : m = m.take k ++ x :: m.drop (k + 1) := by
    rw [← he, ← List.drop_eq_getElem_cons hk, List.take_append_drop]
  have e2 : m.eraseIdx k = m.take k ++ m.drop (k + 1) := List.eraseIdx_eq_take_drop_succ m k
  rw [e2]
  generalize m.take k = a at *
  generalize m.drop (k + 1) = b at *
  subst e
  rw [List.nodup_append] at hn
  obtain ⟨h1, h2, h3⟩ := hn
  rw [List.nodup_cons] at h2
  refine ⟨?_, fun j => ?_, by simp; omega⟩
  · rw [List.nodup_append]
    exact ⟨h1, h2.2, fun u hu v hv => h3 u hu v (by simp [hv])⟩
  · simp only [List.mem_append, List.mem_cons]
    constructor
    · rintro (h | h)
      · exact ⟨Or.inl h, fun e => h3 j h x (by simp) e⟩
      · exact ⟨Or.inr (Or.inr h), fun e => h2.1 (by rw [← e]; exact h)⟩
    · rintro ⟨h | h | h, hne⟩
      · exact Or.inl h
      · exact absurd h hne
      · exact Or.inr h

theorem take_envs {m : List Nat} {k x : Nat} (hx : m[k]? = some x) : atE (m.map envI) (k : Int) = envI x ∧ atB (m.map envI) (k : Int) = true ∧ takeL (m.map envI) (k : Int) = (m.eraseIdx k).map envI := by
  obtain ⟨hk, he⟩ := List.getElem?_eq_some_iff.1 hx
  have hb : atB (m.map envI) (k : Int) = true := by
    unfold atB
    simp
    omega
  refine ⟨?_, hb, ?_⟩
  · unfold atE
    rw [hb]
    simp [List.getD, hx]
  · unfold takeL
    rw [hb]
    show (m.map envI).eraseIdx k = _
    rw [List.eraseIdx_eq_take_drop_succ, List.eraseIdx_eq_take_drop_succ, List.map_append, List.map_take, List.map_drop]

set_option maxRecDepth 100000 in
set_option maxHeartbeats 2000000 in
theorem netTakes_walk (v : Int) (ao : Option Addr) (cap : Nat) (l : List Int) (W : World) (hv : (Lit.int .i64 v).wf = true) (hR : RowAt intK W ao l) (hm : l.length ≤ maxLen) :
    Calls Try.prog 5 #[.int .i64 v, .slice ao l.length cap] W fun e w' => e = .returned (.bool true) ∧ Below W.heap.size W w' := by
  have hm' : l.length ≤ 9223372036854775807 := by unfold maxLen at hm; omega
  clear hm
  obtain ⟨n, hn, hne⟩ := pick_atC v 60 (by omega) (by omega)
  have hne' : Hid (wrap64 ((IntKind.u64.wrap v).tmod 60) = (n : Int)) := hne
  clear hne
  go_enter Try.func5, Try.ntmps5
  go_wp2_with fail
  refine (netWorks_any W).mono ?_
  rintro e w0 ⟨rfl, hb0⟩
  go_wp2_with fail
  refine (netNew_any w0).mono ?_
  rintro e w1 ⟨rfl, h1, hb1⟩
  have hB1 := hb0.trans (hb1.mono hb0.size)
  obtain ⟨bb, hbb⟩ : ∃ b, Hid (w0.heap.size = b) := ⟨_, rfl⟩
  have hWb : W.heap.size ≤ bb := by have := hb0.size; have := hbb.out; omega
  rw [hbb.out] at h1 ⊢
  clear hb0 hb1 hbb
  rw [hne'.out]
  clear hne'
  go_wp2_with fail
  go_loopw [6] (fun v6 wr => ∃ i : Nat, i ≤ n ∧ v6 = .int .i64 (i : Int) ∧ ∃ q, BagAt 46 wr bb q ((List.range i).map envI) 0 ∧ Below W.heap.size W wr) (fun v _ => n - (intOf v).toNat)
  case atStart => exact ⟨0, by omega, rfl, _, h1, hB1⟩
  case round =>
    obtain ⟨i, hi, rfl, q, hB, hbr⟩ := hrel
    clear h1 hB1
    by_cases hlt : i < n
    · have hlt' : (i : Int) < (n : Int) := by omega
      have cS := send_any (envI i) bb q _ 0 wr hB (by omega)
      have e1 := send_range (i := i) (by omega)
      have e2 : sendN ((List.range i).map envI) 0 = 0 := by unfold sendN; rw [if_pos (by simp; omega)]
      have e3 : decide (((List.range i).map envI).length < 256) = true := decide_eq_true (by simp; omega)
      rw [e1, e2, e3] at cS
      unfold EnvD.v envI at cS
      clear e1 e2 e3
      go_wp2_with fail
      refine cS.mono ?_
      rintro e w2 ⟨q2, rfl, h2, _, hk2⟩
      have hb2 := hB.old hbr hWb hk2 hbr.size
      clear cS hk2 hB hbr
      go_wp2
      go_roundw
      case rel => exact ⟨i + 1, by omega, by go_num, q2, h2, hb2⟩
      case measure => simp [intOf]; omega
    · obtain rfl : i = n := by omega
      have hlt' : ¬ (i : Int) < (i : Int) := by omega
      have hmm := @run_makeMap Try.prog
      have hM0 := World.ownsMap_made (H := Unit) wr Try.prog 3 (plainElem Try.prog 4)
      have hbM := belowNew wr (.map #[] 0)
      have hB2 := hB.below hbM
      have hbr2 := hbr.trans (hbM.mono hbr.size)
      have hq0 : ∀ k, BagS bb q k → k ≠ wr.heap.size := by
        rintro k (e | e)
        · have := hB.box.lt; omega
        · have := (hB.ge e).2; omega
      have hst0 : SetMap (.map [] : DataW Unit) i (outB (List.range i)) 0 := by
        have : ∀ j, j < i → outB (List.range i) j = false := fun j hj => decide_eq_false (by simpa using hj)
        exact ⟨fun j hj => by rw [this j hj]; rfl, fun j hj => by rw [this j hj]; rfl, rfl⟩
      have hmW : W.heap.size ≤ wr.heap.size := hbr.size
      have hmlt : wr.heap.size < (wr.alloc (.map #[] 0)).heap.size := by rw [alloc_size]; omega
      go_wp2_with fail
      clear hmm
      generalize hmbe : wr.heap.size = mb at *
      clear hmbe hB hbr hbM
      go_loopw [8, 9] (fun v8 _ wq => ∃ (j : Nat) (m : List Nat) (D : DataW Unit) (q : Value), j ≤ i ∧ v8 = .int .i64 (j : Int) ∧ m.Nodup ∧ m.length + j = i ∧ (∀ x ∈ m, x < i) ∧ BagAt 46 wq bb q (m.map envI) 0 ∧ Below W.heap.size W wq ∧ (∀ k, BagS bb q k → k ≠ mb) ∧ mb < wq.heap.size ∧ wq.ownsMap Try.prog 3 (plainElem Try.prog 4) mb j D ∧ SetMap D i (outB m) j) (fun v _ _ => i - (intOf v).toNat)
      case atStart => exact ⟨0, List.range i, .map [], q, by omega, rfl, List.nodup_range, by simp, fun x hx => by simpa using hx, hB2, hbr2, hq0, hmlt, hM0, hst0⟩
      case round =>
        obtain ⟨j, m, D, q1, hj, rfl, hnd, hlen, hall, hB1, hb1, hq1, hm1, hM1, hD1⟩ := hrel
        clear hB2 hbr2 hq0 hst0 hM0 hmlt
        by_cases hji : j < i
        · have g1 : (j : Int) < (i : Int) := by omega
          rcases (by by_cases h : j < l.length; exact Or.inl h; exact Or.inr h : j < l.length ∨ ¬ j < l.length) with hjl | hjl
          · have g2 : (j : Int) < (l.length : Int) := by omega
            obtain ⟨p, hp⟩ : ∃ p, l[j]? = some p := ⟨_, List.getElem?_eq_getElem hjl⟩
            obtain ⟨b, off, rfl, hbl, y0⟩ := (hR.below hb1).int hp
            obtain ⟨k, hk, hke⟩ := pick_atC p (i - j) (by omega) (by omega)
            go_wp2_with fail
            rw [show ((i - j : Nat) : Int) = (i : Int) - (j : Int) by omega] at hke
            rw [hke]
            clear hke y0
            obtain ⟨x, hx⟩ : ∃ x, m[k]? = some x := ⟨_, List.getElem?_eq_getElem (by omega)⟩
            have hxi : x < i := hall x (List.mem_of_getElem? hx)
            have hxm : x ∈ m := List.mem_of_getElem? hx
            obtain ⟨n1, n2, n3⟩ := nodup_split hx hnd
            obtain ⟨t1, t2, t3⟩ := take_envs hx
            have cT := take_any (k : Int) bb q1 _ 0 wr hB1
            rw [t1, t2, t3] at cT
            unfold EnvD.v envI at cT
            refine cT.mono ?_
            rintro e w2 ⟨q2, rfl, h2, hf2, hk2⟩
            replace h2 : BagAt 46 w2 bb q2 ((m.eraseIdx k).map envI) 0 := h2
            have hb2 := hB1.old hb1 hWb hk2 hb1.size
            have hM2 := ownsMap_kept hM1 hk2 (fun e => hq1 mb e rfl)
            have hm2 : mb < w2.heap.size := by have := hk2.size; omega
            have hq2 : ∀ k, BagS bb q2 k → k ≠ mb := by
              rintro k' (e | e)
              · exact hq1 k' (Or.inl e)
              · rcases hf2 k' e with e' | e'
                · exact hq1 k' (Or.inr e')
                · omega
            have hA := belowNew w2 (.cells #[.int .i64 (x : Int), .int .i64 0, .string ⟨#[]⟩] 30)
            have hX := Arr.new w2 30 [.int .i64 (x : Int), .int .i64 0, .string ⟨#[]⟩]
            have h3 := h2.below hA
            have hb3 := hb2.trans (hA.mono hb2.size)
            have hM3 := hM2.alloc (.cells #[.int .i64 (x : Int), .int .i64 0, .string ⟨#[]⟩] 30)
            have hm3 : mb < (w2.alloc (.cells #[.int .i64 (x : Int), .int .i64 0, .string ⟨#[]⟩] 30)).heap.size := by have := hA.size; omega
            have hxw : w2.heap.size ≠ mb := by omega
            clear cT hk2 hB1 hb1 h2 hb2 hM1 hM2 t1 t2 t3 hf2 hq1 hm1
            have hz0 := zeroBool (w2.alloc (.cells #[.int .i64 (x : Int), .int .i64 0, .string ⟨#[]⟩] 30))
            have hjw : (Lit.int .i64 (x : Int)).wf = true := WalkArith.wf_i64 (by omega)
            have hkey := keyOf_int_mk Try.underlying3 hjw
            have hat := hD1.at_ x hxi
            have hof : outB m x = false := decide_eq_false (by simpa using hxm)
            rw [hof] at hat
            have hTd := hM3.tidy lawInt
            have hD3 := hD1.put hTd hxi (p' := outB (m.eraseIdx k)) (fun u => by
              by_cases e : u = x
              · rw [if_pos e]; exact decide_eq_true (by rw [n2]; exact fun h => h.2 e)
              · rw [if_neg e]; unfold outB; congr 1; rw [n2]; simp [e])
            rw [hof] at hD3
            have hD4 : Hid (SetMap _ i _ (j + 1)) := hD3
            clear hD3 hof hTd hD1
            have cL := len_any bb q2 _ 0 _ h3
            rw [List.length_map] at cL
            obtain ⟨c, hc⟩ : ∃ c, Hid ((m.eraseIdx k).length = c) := ⟨_, rfl⟩
            rw [hc.out] at cL
            have hci : ((c : Int) == (i : Int) - (j : Int) - 1) = true := by rw [beq_iff_eq]; have := hc.out; omega
            have hcj : (c : Int) = (i : Int) - (j : Int) - 1 := by have := hc.out; omega
            go_wp2_with (first | (at_lookup; refine wpList_lookup_own_boolW _ (by rfl) _ _ 43 rfl 3 4 lawInt Try.underlying43 Try.underlying4 hz0 mb j D rfl hM3 _ _ rfl hkey false hat ?_))
            refine cL.mono ?_
            rintro e w4 ⟨rfl, rfl⟩
            have x0 := hX.cell (i := 0) rfl
            generalize World.alloc _ _ = w3 at hA hX h3 hb3 hM3 hm3 x0 ⊢
            clear cL hz0 hat hA
            go_wp2_with (first | (at_mapUpdate; refine wpList_mapUpdate_own _ rfl _ _ _ 43 rfl 3 4 lawInt Try.underlying43 _ mb j _ rfl hM3 (by unfold maxLen; omega) _ _ _ rfl rfl hkey _ [] (plainElem_bool Try.underlying4 true) ?_))
            intro w5 hM5 hg5
            have hk5 := Kept.of_grown hg5
            have h5 := h3.kept hk5 (fun e => hq2 bb (Or.inl rfl) (by simpa using e.symm)) (fun u hu e => hq2 u (Or.inr hu) (by simpa using e.symm))
            have hb5 := hb3.trans (hk5.below hb3.size (fun u e => by have e' : mb = u := by simpa using e
                                                                     omega))
            have hm5 : mb < w5.heap.size := by have := hk5.size; omega
            clear hM3 hg5 hk5 h3 hb3 hX x0 hkey hm3
            go_wp2
            go_roundw
            case rel => exact ⟨j + 1, m.eraseIdx k, _, q2, by omega, by go_num, n1, by omega, fun u hu => hall u ((n2 u).1 hu).1, h5, hb5, hq2, hm5, hM5, hD4.out⟩
            case measure => simp [intOf]; omega
          · have g2 : ¬ (j : Int) < (l.length : Int) := by omega
            obtain ⟨k, hk, hke⟩ : ∃ k : Nat, k < i - j ∧ Hid ((0 : Int) = (k : Int)) := ⟨0, by omega, rfl⟩
            go_wp2_with fail
            rw [hke.out]
            clear hke
            obtain ⟨x, hx⟩ : ∃ x, m[k]? = some x := ⟨_, List.getElem?_eq_getElem (by omega)⟩
            have hxi : x < i := hall x (List.mem_of_getElem? hx)
            have hxm : x ∈ m := List.mem_of_getElem? hx
            obtain ⟨n1, n2, n3⟩ := nodup_split hx hnd
            obtain ⟨t1, t2, t3⟩ := take_envs hx
            have cT := take_any (k : Int) bb q1 _ 0 wr hB1
            rw [t1, t2, t3] at cT
            unfold EnvD.v envI at cT
            refine cT.mono ?_
            rintro e w2 ⟨q2, rfl, h2, hf2, hk2⟩
            replace h2 : BagAt 46 w2 bb q2 ((m.eraseIdx k).map envI) 0 := h2
            have hb2 := hB1.old hb1 hWb hk2 hb1.size
            have hM2 := ownsMap_kept hM1 hk2 (fun e => hq1 mb e rfl)
            have hm2 : mb < w2.heap.size := by have := hk2.size; omega
            have hq2 : ∀ k, BagS bb q2 k → k ≠ mb := by
              rintro k' (e | e)
              · exact hq1 k' (Or.inl e)
              · rcases hf2 k' e with e' | e'
                · exact hq1 k' (Or.inr e')
                · omega
            have hA := belowNew w2 (.cells #[.int .i64 (x : Int), .int .i64 0, .string ⟨#[]⟩] 30)
            have hX := Arr.new w2 30 [.int .i64 (x : Int), .int .i64 0, .string ⟨#[]⟩]
            have h3 := h2.below hA
            have hb3 := hb2.trans (hA.mono hb2.size)
            have hM3 := hM2.alloc (.cells #[.int .i64 (x : Int), .int .i64 0, .string ⟨#[]⟩] 30)
            have hm3 : mb < (w2.alloc (.cells #[.int .i64 (x : Int), .int .i64 0, .string ⟨#[]⟩] 30)).heap.size := by have := hA.size; omega
            have hxw : w2.heap.size ≠ mb := by omega
            clear cT hk2 hB1 hb1 h2 hb2 hM1 hM2 t1 t2 t3 hf2 hq1 hm1
            have hz0 := zeroBool (w2.alloc (.cells #[.int .i64 (x : Int), .int .i64 0, .string ⟨#[]⟩] 30))
            have hjw : (Lit.int .i64 (x : Int)).wf = true := WalkArith.wf_i64 (by omega)
            have hkey := keyOf_int_mk Try.underlying3 hjw
            have hat := hD1.at_ x hxi
            have hof : outB m x = false := decide_eq_false (by simpa using hxm)
            rw [hof] at hat
            have hTd := hM3.tidy lawInt
            have hD3 := hD1.put hTd hxi (p' := outB (m.eraseIdx k)) (fun u => by
              by_cases e : u = x
              · rw [if_pos e]; exact decide_eq_true (by rw [n2]; exact fun h => h.2 e)
              · rw [if_neg e]; unfold outB; congr 1; rw [n2]; simp [e])
            rw [hof] at hD3
            have hD4 : Hid (SetMap _ i _ (j + 1)) := hD3
            clear hD3 hof hTd hD1
            have cL := len_any bb q2 _ 0 _ h3
            rw [List.length_map] at cL
            obtain ⟨c, hc⟩ : ∃ c, Hid ((m.eraseIdx k).length = c) := ⟨_, rfl⟩
            rw [hc.out] at cL
            have hci : ((c : Int) == (i : Int) - (j : Int) - 1) = true := by rw [beq_iff_eq]; have := hc.out; omega
            have hcj : (c : Int) = (i : Int) - (j : Int) - 1 := by have := hc.out; omega
            go_wp2_with (first | (at_lookup; refine wpList_lookup_own_boolW _ (by rfl) _ _ 43 rfl 3 4 lawInt Try.underlying43 Try.underlying4 hz0 mb j D rfl hM3 _ _ rfl hkey false hat ?_))
            refine cL.mono ?_
            rintro e w4 ⟨rfl, rfl⟩
            have x0 := hX.cell (i := 0) rfl
            generalize World.alloc _ _ = w3 at hA hX h3 hb3 hM3 hm3 x0 ⊢
            clear cL hz0 hat hA
            go_wp2_with (first | (at_mapUpdate; refine wpList_mapUpdate_own _ rfl _ _ _ 43 rfl 3 4 lawInt Try.underlying43 _ mb j _ rfl hM3 (by unfold maxLen; omega) _ _ _ rfl rfl hkey _ [] (plainElem_bool Try.underlying4 true) ?_))
            intro w5 hM5 hg5
            have hk5 := Kept.of_grown hg5
            have h5 := h3.kept hk5 (fun e => hq2 bb (Or.inl rfl) (by simpa using e.symm)) (fun u hu e => hq2 u (Or.inr hu) (by simpa using e.symm))
            have hb5 := hb3.trans (hk5.below hb3.size (fun u e => by have e' : mb = u := by simpa using e
                                                                     omega))
            have hm5 : mb < w5.heap.size := by have := hk5.size; omega
            clear hM3 hg5 hk5 h3 hb3 hX x0 hkey hm3
            go_wp2
            go_roundw
            case rel => exact ⟨j + 1, m.eraseIdx k, _, q2, by omega, by go_num, n1, by omega, fun u hu => hall u ((n2 u).1 hu).1, h5, hb5, hq2, hm5, hM5, hD4.out⟩
            case measure => simp [intOf]; omega
        · obtain rfl : j = i := by omega
          have g1 : ¬ (j : Int) < (j : Int) := by omega
          have hsz := hD1.size
          have hlen' := hM1.len Try.underlying43 3
          rw [hsz] at hlen'
          clear hD1
          go_wp2
          go_ret
          exact ⟨rfl, hb1⟩
end Go.Proofs.Ytmbfidegcebbdaa
