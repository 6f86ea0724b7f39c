/- What Apply does. -/
import Derived.Test.YtcjmeaikdfgapaaDoorStaFns
import Derived.Deep.DeepCutAuto
namespace Go.Proofs.YtcjmeaikdfgapaaDoor
open Go Go.RowKit
set_option linter.unusedVariables false

theorem pnF_same {α : Type} (f : ByteArray → α) (n : ByteArray) (x : α) (h : f n = x) : pnF f n x = f := by
  refine funext (fun m => ?_)
  unfold pnF
  by_cases e : m = n
  · rw [if_pos e, e, h]
  · rw [if_neg e]

/-- The accounts behind it, in the program's steps. -/
theorem accD_steps (f : ByteArray → Nat × Nat) (d : TxD) : accD f d = if d.kind = 1 ∧ 0 < d.amt then pnF (pnF f d.frm ((f d.frm).1 - d.amt, (f d.frm).2 + 1)) d.to ((pnF f d.frm ((f d.frm).1 - d.amt, (f d.frm).2 + 1) d.to).1 + d.amt, (pnF f d.frm ((f d.frm).1 - d.amt, (f d.frm).2 + 1) d.to).2) else pnF f d.frm ((f d.frm).1 - (if d.kind = 1 then d.amt else 0), (f d.frm).2 + 1) := by
  unfold accD
  by_cases hk : d.kind = 1
  · by_cases ha : 0 < d.amt
    · rw [if_pos hk, if_pos ⟨hk, ha⟩]
    · have h0 : d.amt = 0 := by omega
      rw [if_pos hk, if_neg (fun e => ha e.2), if_pos hk, h0]
      exact pnF_same _ _ _ rfl
  · rw [if_neg hk, if_neg (fun e => hk e.1), if_neg hk]
    rfl

theorem wrap64u (n : Int) (h0 : 0 ≤ n) (h1 : n < 18446744073709551616) : IntKind.u64.wrap n = n := by
  rw [show IntKind.u64.wrap n = n % 18446744073709551616 by simp [IntKind.wrap, IntKind.bits, IntKind.signed]]
  omega

set_option maxRecDepth 100000 in
set_option maxHeartbeats 1000000 in
theorem apply_no (x : TxM) (w : World) (hA : x.At w) (hs : TxSizes x.d) (hn : x.d.ws.length ≤ 500) (p a v N : Nat) (s : StF) (h : PSt w p a v s N) (hz : applyE s x.d ≠ 0) :
    Calls Tryd.prog 13 #[.pointer (some ⟨p, 0, none⟩), x.v] w fun e w' => e = .returned (.int .i64 (applyE s x.d : Nat)) ∧ Below w.heap.size w w' := by
  have hB := belowNew w (.cells (txC x.d x.ra x.rc x.wa x.wc).toArray 33)
  have cr := refuse_any x _ (hA.below hB) hs hn p a v N s (h.below hB)
  generalize applyE s x.d = er at *
  have g1 : ((er : Int) != 0) = true := by rw [bne_iff_ne]; omega
  clear h hs hA hz
  unfold TxM.v txV at *
  go_enter Tryd.func13, Tryd.ntmps13
  go_wp2_with fail
  refine cr.mono ?_
  rintro e w2 ⟨rfl, hb2⟩
  have hB2 := hB.trans (hb2.mono hB.size)
  clear cr hB hb2
  go_wp2
  go_ret
  exact ⟨rfl, hB2⟩

set_option maxRecDepth 100000 in
set_option maxHeartbeats 2000000 in
theorem apply_yes (x : TxM) (w : World) (hA : x.At w) (hs : TxSizes x.d) (hn : x.d.ws.length ≤ 500) (p a v N : Nat) (s : StF) (h : PSt w p a v s N) (hN : N ≤ 1000000) (hz : applyE s x.d = 0) :
    Calls Tryd.prog 13 #[.pointer (some ⟨p, 0, none⟩), x.v] w fun e w' => e = .returned (.int .i64 0) ∧ PSt w' p a v (applyF s x.d) (N + 2) ∧ Kept (fun b => b = a ∨ b = v) w w' := by
  have hX : Arr _ _ _ (txC x.d x.ra x.rc x.wa x.wc) := TxBox.new w x.d x.ra x.rc x.wa x.wc
  have hB := belowNew w (.cells (txC x.d x.ra x.rc x.wa x.wc).toArray 33)
  have cr := refuse_any x _ (hA.below hB) hs hn p a v N s (h.below hB)
  rw [hz] at cr
  obtain ⟨z1, -, z3, z4⟩ := applyE_zero hz
  obtain ⟨-, -, -, q4, -, q6⟩ := fits_names z1
  replace q6 : Hid _ := q6
  replace z3 : Hid _ := z3
  replace z4 : Hid _ := z4
  clear z1
  have ho1 := h.ok.amt x.d.frm
  have ho2 := h.ok.amt x.d.to
  have hm1 := h.ok.num x.d.frm
  have hf1 := hs.frm
  have hf2 := hs.to
  have hf3 := hs.key
  have hok := h.ok.apply x.d
  have hF : ∀ w', (∃ n, n ≤ N + 2 ∧ SMap w' a (accM (accD s.acc x.d)) n) → (∃ n, n ≤ N + 2 ∧ SMap w' v (valM (if x.d.kind = 1 then s.val else pnF s.val x.d.key (some x.d.val))) n) → Arr w' p 53 [.map (some a), .map (some v)] → PSt w' p a v (applyF s x.d) (N + 2) := by
    intro w' e1 e2 e3
    have e4 := hok.mono (Nat.le_succ (N + 1))
    unfold applyF at e4 ⊢
    rw [if_pos hz] at e4 ⊢
    exact ⟨e3, e1, e2, h.pa, h.pv, h.av, e4⟩
  have hP0 := h.below hB
  have lw : p < w.heap.size ∧ a < w.heap.size ∧ v < w.heap.size := ⟨h.box.lt, h.la, h.lv⟩
  have hne : p ≠ a ∧ p ≠ v ∧ a ≠ v := ⟨h.pa, h.pv, h.av⟩
  clear h hs hA hok hz
  unfold TxM.v txV at *
  go_enter Tryd.func13, Tryd.ntmps13
  go_wp2_with fail
  refine cr.mono ?_
  rintro e w2 ⟨rfl, hb2⟩
  have hX2 := hX.below hb2 hX.lt
  have hP2 := hP0.below hb2
  have hB2 := hB.trans (hb2.mono hB.size)
  clear hX hB hb2 cr hP0
  obtain ⟨n1, hn1, hM⟩ := hP2.acc
  obtain ⟨n2, hn2, hV⟩ := hP2.val
  have hbox := hP2.box
  have lX := hX2.lt
  have lb : p < w2.heap.size ∧ a < w2.heap.size ∧ v < w2.heap.size := ⟨hbox.lt, hM.lt, hV.lt⟩
  clear hP2
  have hg1 := accM_get s.acc x.d.frm
  obtain ⟨x1, hx1⟩ : ∃ q, Hid ((s.acc x.d.frm).1 = q) := ⟨_, rfl⟩
  obtain ⟨x2, hx2⟩ : ∃ q, Hid ((s.acc x.d.frm).2 = q) := ⟨_, rfl⟩
  rw [hx1.out] at ho1 hg1
  rw [hx2.out] at hm1 hg1
  obtain ⟨f, hf⟩ : ∃ f, Hid (accM s.acc = f) := ⟨_, rfl⟩
  rw [hf.out] at hM hg1
  have c0 := hbox.cell (i := 0) rfl
  have t1 := hX2.cell (i := 1) rfl
  go_upto_region 4 with fail
  go_cut [6] (fun s6 wx => s6 = .pointer (some ⟨w2.heap.size, 0, none⟩) ∧ wx = (w2.alloc (.cells #[.int .u64 (x1 : Int), .int .u64 (x2 : Int)] 55)).drew)
  case first =>
    have hnb := belowNew w2 (.cells #[.int .u64 0, .int .u64 0] 55)
    have hl1 := smap_run1 hM Tryd.underlying50 zeroAcc hf1
    have hl2 := smap_run1 (hM.below hnb) Tryd.underlying50 zeroAcc hf1
    rw [hg1] at hl1 hl2
    have u1 := (hX2.below hnb lX).cell (i := 1) rfl
    have cn : (w2.alloc (.cells #[.int .u64 0, .int .u64 0] 55)).cell? ⟨p, 0, none⟩ = some (.map (some a)) := by rw [cell_same (hnb.block _ lb.1)]; exact c0
    clear hnb
    go_wp2_with fail
    go_region
    all_goals (
      go_wp2_with fail
      go_meet
      case rel => exact ⟨rfl, rfl⟩)
  case rest =>
    obtain ⟨rfl, hwc⟩ := hcut
    have hb3 : Below w2.heap.size w2 wc := by rw [hwc]; exact Below.drew (belowNew w2 _)
    have hA3 : Arr wc w2.heap.size 55 [.int .u64 (x1 : Int), .int .u64 (x2 : Int)] := by rw [hwc]; exact (Arr.new w2 55 [.int .u64 (x1 : Int), .int .u64 (x2 : Int)]).drew
    clear hwc
    generalize wc = w3 at *
    have hle : x.d.amt ≤ x1 := by
      by_cases hk : x.d.kind = 1
      · have := z3.out hk
        rw [hx1.out] at this
        exact this
      · rw [(q6.out hk).2]
        exact Nat.zero_le _
    have hsub : IntKind.u64.wrap ((x1 : Int) - (x.d.amt : Int)) = ((x1 - x.d.amt : Nat) : Int) := by rw [wrap64u _ (by omega) (by omega)]; omega
    have hadd : IntKind.u64.wrap ((x2 : Int) + 1) = (x2 : Int) + 1 := wrap64u _ (by omega) (by omega)
    obtain ⟨F1, hF1⟩ : ∃ F1, Hid (pnF s.acc x.d.frm (x1 - x.d.amt, x2 + 1) = F1) := ⟨_, rfl⟩
    have hP1 : ∀ m, accM F1 m = putF f x.d.frm (.agg #[.int .u64 ((x1 - x.d.amt : Nat) : Int), .int .u64 ((x2 : Int) + 1)]) m := by
      intro m
      rw [← hF1.out, ← hf.out, show ((x2 : Int) + 1) = ((x2 + 1 : Nat) : Int) by omega]
      exact accM_put _ _ _ (fun e => by simp at e) m
    have hacc : Hid (accD s.acc x.d = if x.d.kind = 1 ∧ 0 < x.d.amt then pnF F1 x.d.to ((F1 x.d.to).1 + x.d.amt, (F1 x.d.to).2) else F1) := by
      show accD s.acc x.d = _
      rw [accD_steps, hx1.out, hx2.out, hF1.out]
      by_cases hk : x.d.kind = 1 ∧ 0 < x.d.amt
      · rw [if_pos hk, if_pos hk]
      · rw [if_neg hk, if_neg hk]
        by_cases hk1 : x.d.kind = 1
        · rw [if_pos hk1]; exact hF1.out
        · rw [if_neg hk1, ← hF1.out, (q6.out hk1).2]
    have hle2 : Hid ((F1 x.d.to).1 + x.d.amt ≤ 9223372036854775806) := by
      show (F1 x.d.to).1 + x.d.amt ≤ _
      rw [← hF1.out]
      unfold pnF
      split
      · show x1 - x.d.amt + x.d.amt ≤ _
        omega
      · omega
    have k0 := hA3.cell (i := 0) rfl
    have k1 := hA3.cell (i := 1) rfl
    have r0 := hA3.frozen 0
    have r1 := hA3.frozen 1
    have t3 := (hX2.below hb3 lX).cell (i := 3) rfl
    have lF := hA3.lt
    have hxF : w.heap.size ≠ w2.heap.size := by omega
    clear hle hx1 hx2
    replace hP1 : Hid _ := hP1
    go_upto_region 7 with fail
    have hA5 : Arr ((w3.setCell ⟨w2.heap.size, 0, none⟩ (.int .u64 ((x1 - x.d.amt : Nat) : Int))).setCell ⟨w2.heap.size, 1, none⟩ (.int .u64 ((x2 : Int) + 1))) w2.heap.size 55 [.int .u64 ((x1 - x.d.amt : Nat) : Int), .int .u64 ((x2 : Int) + 1)] := (hA3.set 0 _).set 1 _
    have hb5 : Below w2.heap.size w2 ((w3.setCell ⟨w2.heap.size, 0, none⟩ (.int .u64 ((x1 - x.d.amt : Nat) : Int))).setCell ⟨w2.heap.size, 1, none⟩ (.int .u64 ((x2 : Int) + 1))) := (hb3.setCell (p := ⟨w2.heap.size, 0, none⟩) (Nat.le_refl _) _).setCell (p := ⟨w2.heap.size, 1, none⟩) (Nat.le_refl _) _
    generalize (w3.setCell ⟨w2.heap.size, 0, none⟩ (.int .u64 ((x1 - x.d.amt : Nat) : Int))).setCell ⟨w2.heap.size, 1, none⟩ (.int .u64 ((x2 : Int) + 1)) = w5 at *
    clear k0 k1 r0 r1 t3 c0 t1 hb3 hA3 hsub hadd
    have hbd : Below w2.heap.size w2 w5.drew := Below.drew hb5
    have hM5 := hM.below hbd
    have hmx : n1 < maxLen := by unfold maxLen; omega
    obtain ⟨w6, hrun, hM6, hk6⟩ := smap_updates hM5 hmx Tryd.underlying50 x.d.frm hf1 (.agg #[.int .u64 ((x1 - x.d.amt : Nat) : Int), .int .u64 ((x2 : Int) + 1)])
    have c0 := (hbox.below hb5 hbox.lt).cell (i := 0) rfl
    have t1 := (hX2.below hb5 lX).cell (i := 1) rfl
    have k0 := hA5.cell (i := 0) rfl
    have k1 := hA5.cell (i := 1) rfl
    have hM6' : SMap w6 a (accM F1) (putN f x.d.frm n1) := hM6.congr hP1.out
    have hn6 := putN_bound f x.d.frm n1
    generalize putN f x.d.frm n1 = n6 at *
    have hX6 := (hX2.below hbd lX).kept hk6 (fun e => by omega)
    have hbx6 := (hbox.below hbd hbox.lt).kept hk6 (fun e => hne.1 e)
    have hV6 := (hV.below hbd).kept hk6 (fun e => hne.2.2 e.symm)
    have hK6 : Kept (fun b => b = a ∨ b = v) w w6 := (Kept.of_below (hB2.trans (hbd.mono hB2.size))).trans (hk6.mono (fun b _ e => Or.inl e))
    have l6 : w2.heap.size < w6.heap.size := Nat.lt_of_lt_of_le (Nat.lt_of_lt_of_le hA5.lt (Nat.le_refl _)) hk6.size
    clear hM6 hM5 hP1 hk6 hbox hV hM hX2
    go_region
    rename_i K hK
    refine hK _ _ ?_
    clear hK hrun c0 t1 k0 k1 hA5 hb5 hbd hB2
    have t0 := hX6.cell (i := 0) rfl
    have t2 := hX6.cell (i := 2) rfl
    have t3 := hX6.cell (i := 3) rfl
    have t5 := hX6.cell (i := 5) rfl
    have t6 := hX6.cell (i := 6) rfl
    have c0 := hbx6.cell (i := 0) rfl
    have c1 := hbx6.cell (i := 1) rfl
    have hmx2 : n2 < maxLen := by unfold maxLen; omega
    by_cases hk : x.d.kind = 1
    · have g3 : (x.d.kind == 2) = false := by rw [hk]; rfl
      have hval : (if x.d.kind = 1 then s.val else pnF s.val x.d.key (some x.d.val)) = s.val := if_pos hk
      by_cases h0 : 0 < x.d.amt
      · have g4 : (0 : Int) < (x.d.amt : Int) := by omega
        have hac : accD s.acc x.d = pnF F1 x.d.to ((F1 x.d.to).1 + x.d.amt, (F1 x.d.to).2) := by rw [hacc.out, if_pos ⟨hk, h0⟩]
        rw [hac, hval] at hF
        clear hk hval hac hacc q6 z3 z4
        have hg2 := accM_get F1 x.d.to
        obtain ⟨y1, hy1⟩ : ∃ q, Hid ((F1 x.d.to).1 = q) := ⟨_, rfl⟩
        obtain ⟨y2, hy2⟩ : ∃ q, Hid ((F1 x.d.to).2 = q) := ⟨_, rfl⟩
        rw [hy1.out, hy2.out] at hg2 hF
        rw [hy1.out] at hle2
        have hP2 : Hid (∀ m, accM (pnF F1 x.d.to (y1 + x.d.amt, y2)) m = putF (accM F1) x.d.to (.agg #[.int .u64 ((y1 : Int) + (x.d.amt : Int)), .int .u64 (y2 : Int)]) m) := by
          intro m
          rw [show ((y1 : Int) + (x.d.amt : Int)) = ((y1 + x.d.amt : Nat) : Int) by omega]
          exact accM_put _ _ _ (fun e => by simp at e; omega) m
        have hadd : IntKind.u64.wrap ((y1 : Int) + (x.d.amt : Int)) = (y1 : Int) + (x.d.amt : Int) := by
          have := hle2.out
          exact wrap64u _ (by omega) (by omega)
        obtain ⟨f1, hf1'⟩ : ∃ q, Hid (accM F1 = q) := ⟨_, rfl⟩
        rw [hf1'.out] at hM6' hg2 hP2
        have lb6 : p < w6.heap.size ∧ a < w6.heap.size ∧ v < w6.heap.size := ⟨hbx6.lt, hM6'.lt, hV6.lt⟩
        have lX6 := hX6.lt
        clear hle2 hy1 hy2
        go_upto_region 11 with fail
        go_cut [7] (fun s7 wx => s7 = .pointer (some ⟨w6.heap.size, 0, none⟩) ∧ wx = (w6.alloc (.cells #[.int .u64 (y1 : Int), .int .u64 (y2 : Int)] 55)).drew)
        case first =>
          have hnb := belowNew w6 (.cells #[.int .u64 0, .int .u64 0] 55)
          have hl1 := smap_run1 hM6' Tryd.underlying50 zeroAcc hf2
          have hl2 := smap_run1 (hM6'.below hnb) Tryd.underlying50 zeroAcc hf2
          rw [hg2] at hl1 hl2
          have u1 := (hX6.below hnb lX6).cell (i := 2) rfl
          have cn : (w6.alloc (.cells #[.int .u64 0, .int .u64 0] 55)).cell? ⟨p, 0, none⟩ = some (.map (some a)) := by rw [cell_same (hnb.block _ lb6.1)]; exact c0
          clear hnb
          go_wp2_with fail
          go_region
          all_goals (
            go_wp2_with fail
            go_meet
            case rel => exact ⟨rfl, rfl⟩)
        case rest =>
          obtain ⟨rfl, hwc⟩ := hcut
          have hb7 : Below w6.heap.size w6 wc := by rw [hwc]; exact Below.drew (belowNew w6 _)
          have hA7 : Arr wc w6.heap.size 55 [.int .u64 (y1 : Int), .int .u64 (y2 : Int)] := by rw [hwc]; exact (Arr.new w6 55 [.int .u64 (y1 : Int), .int .u64 (y2 : Int)]).drew
          clear hwc
          generalize wc = w7 at *
          have k0 := hA7.cell (i := 0) rfl
          have r0 := hA7.frozen 0
          have t3 := (hX6.below hb7 lX6).cell (i := 3) rfl
          have lF7 := hA7.lt
          have hxF7 : w.heap.size ≠ w6.heap.size := by omega
          clear t0 t2 t5 t6 c0 c1
          go_upto_region 13 with fail
          have hA8 : Arr (w7.setCell ⟨w6.heap.size, 0, none⟩ (.int .u64 ((y1 : Int) + (x.d.amt : Int)))) w6.heap.size 55 [.int .u64 ((y1 : Int) + (x.d.amt : Int)), .int .u64 (y2 : Int)] := hA7.set 0 _
          have hb8 : Below w6.heap.size w6 (w7.setCell ⟨w6.heap.size, 0, none⟩ (.int .u64 ((y1 : Int) + (x.d.amt : Int)))) := hb7.setCell (p := ⟨w6.heap.size, 0, none⟩) (Nat.le_refl _) _
          generalize w7.setCell ⟨w6.heap.size, 0, none⟩ (.int .u64 ((y1 : Int) + (x.d.amt : Int))) = w8 at *
          clear k0 r0 t3 hb7 hA7 hadd
          have hbd : Below w6.heap.size w6 w8.drew := Below.drew hb8
          have hmx6 : n6 < maxLen := by unfold maxLen; omega
          obtain ⟨w9, hrun, hM9, hk9⟩ := smap_updates (hM6'.below hbd) hmx6 Tryd.underlying50 x.d.to hf2 (.agg #[.int .u64 ((y1 : Int) + (x.d.amt : Int)), .int .u64 (y2 : Int)])
          have hM9' : SMap w9 a (accM (pnF F1 x.d.to (y1 + x.d.amt, y2))) (putN f1 x.d.to n6) := hM9.congr hP2.out
          have hn9 := putN_bound f1 x.d.to n6
          generalize putN f1 x.d.to n6 = n9 at *
          have c0 := (hbx6.below hb8 hbx6.lt).cell (i := 0) rfl
          have t2 := (hX6.below hb8 lX6).cell (i := 2) rfl
          have k0 := hA8.cell (i := 0) rfl
          have k1 := hA8.cell (i := 1) rfl
          have hbx9 := (hbx6.below hbd hbx6.lt).kept hk9 (fun e => hne.1 e)
          have hV9 := (hV6.below hbd).kept hk9 (fun e => hne.2.2 e.symm)
          have hK9 : Kept (fun b => b = a ∨ b = v) w w9 := hK6.trans ((Kept.of_below hbd).trans (hk9.mono (fun b _ e => Or.inl e)))
          have hfin := hF w9 ⟨n9, by omega, hM9'⟩ ⟨n2, by omega, hV9⟩ hbx9
          clear hM9 hP2 hk9 hbx6 hV6 hM6' hX6 hF hM9' hbx9 hV9 hK6 hg2
          go_region
          rename_i K hK
          refine hK _ _ ?_
          clear hK hrun
          go_wp2
          go_ret
          exact ⟨rfl, hfin, hK9⟩
      · have g4 : ¬ (0 : Int) < (x.d.amt : Int) := by omega
        have hac : accD s.acc x.d = F1 := by rw [hacc.out, if_neg (fun e => h0 e.2)]
        rw [hac, hval] at hF
        have hfin := hF w6 ⟨n6, by omega, hM6'⟩ ⟨n2, by omega, hV6⟩ hbx6
        clear hk hval hac hacc q6 z3 z4 hF
        go_wp2
        go_ret
        exact ⟨rfl, hfin, hK6⟩
    · have hk2 := (q6.out hk).1
      have g3 : (x.d.kind == 2) = true := by rw [hk2]; rfl
      have hval : (if x.d.kind = 1 then s.val else pnF s.val x.d.key (some x.d.val)) = pnF s.val x.d.key (some x.d.val) := if_neg hk
      have hac : accD s.acc x.d = F1 := by rw [hacc.out, if_neg (fun e => hk e.1)]
      rw [hac, hval] at hF
      obtain ⟨w7, hrun, hV7, hk7⟩ := smap_updates (hV6.below (below_drewN (Below.refl _ w6) 1)) hmx2 Tryd.underlying51 x.d.key hf3 (.agg #[.string x.d.val])
      have hV7' : SMap w7 v (valM (pnF s.val x.d.key (some x.d.val))) (putN (valM s.val) x.d.key n2) := hV7.congr (valM_put s.val x.d.key x.d.val)
      have hn7 := putN_bound (valM s.val) x.d.key n2
      generalize putN (valM s.val) x.d.key n2 = n7 at *
      have hM7 := (hM6'.below (below_drewN (Below.refl _ w6) 1)).kept hk7 (fun e => hne.2.2 e)
      have hbx7 := (hbx6.below (below_drewN (Below.refl _ w6) 1) hbx6.lt).kept hk7 (fun e => hne.2.1 e)
      have hK7 : Kept (fun b => b = a ∨ b = v) w w7 := hK6.trans ((Kept.of_below (below_drewN (Below.refl w6.heap.size w6) 1)).trans (hk7.mono (fun b _ e => Or.inr e)))
      have hfin := hF w7 ⟨n6, by omega, hM7⟩ ⟨n7, by omega, hV7'⟩ hbx7
      have hrun' : (Instr.mapUpdate 51 (.map (some v)) (.string x.d.key) (.agg #[.string x.d.val])).run Tryd.prog w6.drew = .ok () w7 := hrun
      clear hk hk2 hval hac hacc q6 z3 z4 hF hrun hV7 hk7 hM7 hbx7 hV7' hV6 hM6'
      go_wp2_with fail
      go_region
      rename_i K hK
      refine hK _ _ ?_
      clear hK hrun'
      go_wp2
      go_ret
      exact ⟨rfl, hfin, hK7⟩

/-- What Apply does, of the blocks that a state has. -/
def GotApply (W : World) (p : Nat) (S : Nat → Prop) (s : StF) (N : Nat) (d : TxD) (e : Ending) (w : World) : Prop :=
  e = .returned (.int .i64 (applyE s d : Nat)) ∧ PS w p S (applyF s d) (N + 2) ∧ Kept S W w

theorem apply_any (x : TxM) (w : World) (hA : x.At w) (hs : TxSizes x.d) (hn : x.d.ws.length ≤ 500) (p : Nat) (S : Nat → Prop) (N : Nat) (s : StF) (h : PS w p S s N) (hN : N ≤ 1000000) :
    Calls Tryd.prog 13 #[.pointer (some ⟨p, 0, none⟩), x.v] w fun e w' => GotApply w p S s N x.d e w' := by
  obtain ⟨a, v, hS, h1⟩ := h
  by_cases hz : applyE s x.d = 0
  · refine (apply_yes x w hA hs hn p a v N s h1 hN hz).mono ?_
    rintro e w' ⟨rfl, h2, h3⟩
    exact ⟨by rw [hz]; rfl, ⟨a, v, hS, h2⟩, h3.mono (fun b _ e => (hS b).2 (Or.inr e))⟩
  · refine (apply_no x w hA hs hn p a v N s h1 hz).mono ?_
    rintro e w' ⟨rfl, h2⟩
    exact ⟨rfl, ⟨a, v, hS, by rw [applyF_no hz]; exact (h1.below h2).mono (Nat.le_add_right _ _)⟩, Kept.of_below h2⟩
end Go.Proofs.YtcjmeaikdfgapaaDoor
