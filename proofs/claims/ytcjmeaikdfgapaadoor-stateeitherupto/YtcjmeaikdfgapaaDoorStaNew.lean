/- What New and Copy do. -/
import Derived.Test.YtcjmeaikdfgapaaDoorStaApply
import Derived.Lib.QuietBelow
namespace Go.Proofs.YtcjmeaikdfgapaaDoor
open Go Go.RowKit
set_option linter.unusedVariables false

/-- A new state is handed back. -/
def GotState (W : World) (s : StF) (N : Nat) (e : Ending) (w : World) : Prop :=
  ∃ p S, e = .returned (.pointer (some ⟨p, 0, none⟩)) ∧ PS w p S s N ∧ (∀ b, S b → W.heap.size ≤ b) ∧ Below W.heap.size W w

theorem newF_none (funds : Nat) : newF [] funds = ⟨fun _ => (0, 0), fun _ => none⟩ := by
  unfold newF inN
  simp

theorem newF_zero (rich : List ByteArray) : newF rich 0 = ⟨fun _ => (0, 0), fun _ => none⟩ := by
  unfold newF
  congr 1
  refine funext (fun n => ?_)
  split <;> simp

theorem accM_zero (n : ByteArray) : accM (fun _ => (0, 0)) n = none := by unfold accM; rw [if_pos rfl]
theorem valM_zero (n : ByteArray) : valM (fun _ => none) n = none := rfl

theorem minV (x : Nat) : Value.int .u64 (if (4611686018427387903 : Int) < (x : Int) then 4611686018427387903 else (x : Int)) = Value.int .u64 ((min x 4611686018427387903 : Nat) : Int) := by
  split <;> congr 1 <;> omega

set_option maxRecDepth 100000 in
set_option maxHeartbeats 1000000 in
theorem new22_any (rich : List ByteArray) (ao : Option Addr) (cp : Nat) (funds : Nat) (w : World) (hR : RowAt strK w ao rich) (hz : ∀ s ∈ rich, s.size ≤ maxLen) (hl : rich.length ≤ 1000) :
    Calls Tryd.prog 9 #[.slice ao rich.length cp, .int .u64 (funds : Int)] w fun e w' => GotState w (newF rich funds) rich.length e w' := by
  have hw3 : PSt (((w.alloc (.map #[] 0)).alloc (.map #[] 0)).alloc (.cells #[.map (some w.heap.size), .map (some (w.heap.size + 1))] 53)) (w.heap.size + 2) w.heap.size (w.heap.size + 1) ⟨fun _ => (0, 0), fun _ => none⟩ 0 := by
    have e1 : (w.alloc (.map #[] 0)).heap.size = w.heap.size + 1 := alloc_size _ _
    have e2 : ((w.alloc (.map #[] 0)).alloc (.map #[] 0)).heap.size = w.heap.size + 2 := by rw [alloc_size, e1]
    have m1 := ((SMap.new w).below (belowNew _ (.map #[] 0))).below (belowNew _ (.cells #[.map (some w.heap.size), .map (some (w.heap.size + 1))] 53))
    have m2 := (SMap.new (w.alloc (.map #[] 0))).below (belowNew _ (.cells #[.map (some w.heap.size), .map (some (w.heap.size + 1))] 53))
    rw [e1] at m2
    have bx := Arr.new ((w.alloc (.map #[] 0)).alloc (.map #[] 0)) 53 [.map (some w.heap.size), .map (some (w.heap.size + 1))]
    rw [e2] at bx
    exact ⟨bx, ⟨0, Nat.le_refl _, m1.congr accM_zero⟩, ⟨0, Nat.le_refl _, m2.congr valM_zero⟩, by omega, by omega, by omega, by have := StOk.new [] 0; rwa [newF_none] at this⟩
  have hB3 : Below w.heap.size w (((w.alloc (.map #[] 0)).alloc (.map #[] 0)).alloc (.cells #[.map (some w.heap.size), .map (some (w.heap.size + 1))] 53)) :=
    (((Below.refl _ w).alloc (Nat.le_refl _) _).alloc (by rw [alloc_size]; omega) _).alloc (by rw [alloc_size, alloc_size]; omega) _
  have e2 : ((w.alloc (.map #[] 0)).alloc (.map #[] 0)).heap.size = w.heap.size + 2 := by rw [alloc_size, alloc_size]
  have mk1 : ∀ (w : World), (Instr.makeMap 50 none).run Tryd.prog w = .ok (.map (some w.heap.size)) (w.alloc (.map #[] 0)) := fun w => rfl
  have mk2 : ∀ (w : World), (Instr.makeMap 51 none).run Tryd.prog w = .ok (.map (some w.heap.size)) (w.alloc (.map #[] 0)) := fun w => rfl
  by_cases hf : funds = 0
  · have g1 : ((funds : Int) == 0) = true := by rw [hf]; rfl
    have hfz : newF rich funds = ⟨fun _ => (0, 0), fun _ => none⟩ := by rw [hf]; exact newF_zero rich
    rw [hfz]
    have hP := hw3.mono (Nat.zero_le rich.length)
    clear hw3 hf hfz
    go_enter Tryd.func9, Tryd.ntmps9
    go_wp2
    go_ret
    exact ⟨w.heap.size + 2, fun b => b = w.heap.size + 2 ∨ b = w.heap.size ∨ b = w.heap.size + 1, rfl, ⟨_, _, fun b => Iff.rfl, hP⟩, fun b hb => by omega, hB3⟩
  · have g1 : ((funds : Int) == 0) = false := by rw [beq_eq_false_iff_ne]; omega
    have hmin : Hid (1 ≤ min funds 4611686018427387903) := by show 1 ≤ _; omega
    have hst : PSt (((w.alloc (.map #[] 0)).alloc (.map #[] 0)).alloc (.cells #[.map (some w.heap.size), .map (some (w.heap.size + 1))] 53)) (w.heap.size + 2) w.heap.size (w.heap.size + 1) (newF (rich.take 0) funds) 0 := by
      rw [List.take_zero, newF_none]
      exact hw3
    have hfin : Hid (newF rich funds = newF (rich.take rich.length) funds) := by show newF rich funds = _; rw [List.take_length]
    clear hw3 e2
    obtain ⟨wi, hwi⟩ : ∃ q, Hid (((w.alloc (.map #[] 0)).alloc (.map #[] 0)).alloc (.cells #[.map (some w.heap.size), .map (some (w.heap.size + 1))] 53) = q) := ⟨_, rfl⟩
    go_enter Tryd.func9, Tryd.ntmps9
    go_wp2_with fail
    rw [hwi.out] at hst hB3
    go_loopw [17] (fun v17 wr => ∃ i : Nat, i ≤ rich.length ∧ v17 = .int .i64 (i : Int) ∧ PSt wr (w.heap.size + 2) w.heap.size (w.heap.size + 1) (newF (rich.take i) funds) i ∧ Below w.heap.size w wr) (fun v _ => rich.length - (intOf v).toNat)
    case atStart => exact ⟨0, Nat.zero_le _, rfl, by rw [hwi.out]; exact hst, by rw [hwi.out]; exact hB3⟩
    case round =>
      obtain ⟨i, hi, rfl, hP, hb⟩ := hrel
      clear hst hB3 mk1 mk2
      by_cases hil : i < rich.length
      · have g2 : (i : Int) < (rich.length : Int) := by omega
        obtain ⟨x, hx⟩ : ∃ p, rich[i]? = some p := ⟨_, List.getElem?_eq_getElem hil⟩
        obtain ⟨b2, off, rfl, hbl, hcell⟩ := (hR.below hb).strs i (by exact hil)
        have hxi : rich[i] = x := (List.getElem?_eq_some_iff.1 hx).2
        rw [hxi] at hcell
        have hid := hz x (List.mem_of_getElem? hx)
        have hnx := newF_step rich funds hx
        have hvx : (newF (rich.take (i + 1)) funds).val = (newF (rich.take i) funds).val := rfl
        have cN := fun w1 => isName22_any x w1
        obtain ⟨bb, hbb⟩ : ∃ q, Hid (isNm x = q) := ⟨_, rfl⟩
        rw [hbb.out] at cN
        replace hnx : Hid _ := hnx
        replace hvx : Hid _ := hvx
        clear hxi
        go_wp2_with fail
        refine (cN _).mono ?_
        rintro e w1 ⟨rfl, hb1⟩
        have hP1 := hP.below hb1
        have hb2 := hb.trans (hb1.mono hb.size)
        clear hP hb hb1 cN
        cases bb with
        | false =>
          have he : (newF (rich.take (i + 1)) funds) = newF (rich.take i) funds := by
            have h1 : (newF (rich.take (i + 1)) funds).acc = (newF (rich.take i) funds).acc := funext (fun n => by rw [hnx.out n, if_neg (by rw [hbb.out]; decide)])
            have h2 := hvx.out
            generalize newF (rich.take (i + 1)) funds = A at h1 h2 ⊢
            generalize newF (rich.take i) funds = B at h1 h2 ⊢
            cases A; cases B
            simp only at h1 h2
            rw [h1, h2]
          have hP2 : PSt w1 (w.heap.size + 2) w.heap.size (w.heap.size + 1) (newF (rich.take (i + 1)) funds) (i + 1) := by rw [he]; exact hP1.mono (Nat.le_succ _)
          clear he hnx hvx
          go_wp2
          go_roundw
          case rel => exact ⟨i + 1, by omega, by go_num, hP2, hb2⟩
          case measure => simp [intOf]; omega
        | true =>
          obtain ⟨n1, hn1, hM⟩ := hP1.acc
          have c0 := hP1.box.cell (i := 0) rfl
          have hmx : n1 < maxLen := by unfold maxLen; omega
          have hbx := hP1.box
          obtain ⟨n2, hn2, hV⟩ := hP1.val
          have hok := (StOk.new (rich.take (i + 1)) funds).mono (Nat.zero_le (i + 1))
          have hP2 : ∀ w5 n, SMap w5 w.heap.size (putF (accM (newF (rich.take i) funds).acc) x (.agg #[.int .u64 ((min funds 4611686018427387903 : Nat) : Int), .int .u64 0])) n → n ≤ i + 1 → Kept (fun k => k = w.heap.size) w1 w5 → PSt w5 (w.heap.size + 2) w.heap.size (w.heap.size + 1) (newF (rich.take (i + 1)) funds) (i + 1) := by
            intro w5 n hM5 hn hk
            refine ⟨hbx.kept hk (by omega), ⟨n, hn, hM5.congr (fun m => ?_)⟩, ⟨n2, by omega, ?_⟩, by omega, by omega, by omega, hok⟩
            · have hm2 := hmin.out
              have h1 : (newF (rich.take (i + 1)) funds).acc = pnF (newF (rich.take i) funds).acc x (min funds 4611686018427387903, 0) := funext (fun n => by rw [hnx.out n, if_pos hbb.out])
              rw [h1]
              exact accM_put _ _ _ (fun e => by simp only [Prod.mk.injEq] at e; omega) m
            · rw [hvx.out]
              exact hV.kept hk (by omega)
          clear hP1 hnx hvx hV hok hbx
          generalize accM (newF (rich.take i) funds).acc = f at *
          go_wp2_with (at_mapUpdate; refine smap_put rfl _ _ _ 50 rfl 55 Tryd.underlying50 w.heap.size _ _ rfl hM hmx x hid rfl _ rfl ?_; intro w5 hM5 hk5)
          rw [minV] at hM5
          have hP5 := hP2 w5 _ hM5 (Nat.le_trans (putN_bound f x n1) (by omega)) hk5
          have hb5 : Below w.heap.size w w5 := hb2.trans (Kept.below hk5 hb2.size (fun k e => by omega))
          clear hP2 hM5 hk5 hM c0
          go_roundw
          case rel => exact ⟨i + 1, by omega, by go_num, hP5, hb5⟩
          case measure => simp [intOf]; omega
      · have g2 : ¬ (i : Int) < (rich.length : Int) := by omega
        have hir : i = rich.length := by omega
        rw [hir, ← hfin.out] at hP
        clear hir hi hil
        go_wp2
        go_ret
        exact ⟨w.heap.size + 2, fun b => b = w.heap.size + 2 ∨ b = w.heap.size ∨ b = w.heap.size + 1, rfl, ⟨_, _, fun b => Iff.rfl, hP⟩, fun b hb => by omega, hb⟩
end Go.Proofs.YtcjmeaikdfgapaaDoor
