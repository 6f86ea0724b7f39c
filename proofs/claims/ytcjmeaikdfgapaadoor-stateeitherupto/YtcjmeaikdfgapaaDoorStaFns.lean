/- Account, Value, isName; what refuse answers. -/
import Derived.Test.YtcjmeaikdfgapaaDoorStaLie
import Derived.Test.YtcjmeaikdfgapaaDoorTxNeeds
import Derived.BigQuiet
import Derived.BigRegion
import Derived.Deep.QuietTactic
namespace Go.Proofs.YtcjmeaikdfgapaaDoor
open Go Go.RowKit
set_option linter.unusedVariables false

set_option maxRecDepth 100000 in
theorem account_any (n : ByteArray) (hn : n.size ≤ maxLen) (w : World) (p a v N : Nat) (s : StF) (h : PSt w p a v s N) :
    Calls Tryd.prog 16 #[.pointer (some ⟨p, 0, none⟩), .string n] w fun e w' => e = .returned (.tuple #[.int .u64 ((s.acc n).1 : Int), .int .u64 ((s.acc n).2 : Int)]) ∧ Below w.heap.size w w' := by
  obtain ⟨k, hk, hM⟩ := h.acc
  have c0 := h.box.cell (i := 0) rfl
  have hg := accM_get s.acc n
  generalize (s.acc n).1 = x1 at *
  generalize (s.acc n).2 = x2 at *
  generalize accM s.acc = f at *
  clear h hk
  go_enter Tryd.func16, Tryd.ntmps16
  go_wp2_with (at_lookup; refine smap_look (by rfl) _ _ 50 rfl 55 Tryd.underlying50 _ (zeroAcc _) a _ _ rfl hM n hn rfl ?_; rw [hg])
  go_region
  go_wp2
  go_ret2
  exact ⟨rfl, Below.drew (belowNew w _)⟩

set_option maxRecDepth 100000 in
theorem value_any (n : ByteArray) (hn : n.size ≤ maxLen) (w : World) (p a v N : Nat) (s : StF) (h : PSt w p a v s N) :
    Calls Tryd.prog 18 #[.pointer (some ⟨p, 0, none⟩), .string n] w fun e w' => e = .returned (.tuple #[.string ((s.val n).getD ⟨#[]⟩), .bool (s.val n).isSome]) ∧ Below w.heap.size w w' := by
  obtain ⟨k, hk, hM⟩ := h.val
  have c0 := h.box.cell (i := 1) rfl
  have hg := valM_get s.val n
  have hi := valM_is s.val n
  generalize (s.val n).getD ⟨#[]⟩ = x1 at *
  generalize (s.val n).isSome = x2 at *
  generalize valM s.val = f at *
  clear h hk
  go_enter Tryd.func18, Tryd.ntmps18
  go_wp2_with (at_lookup; refine smap_look_ok (by rfl) _ _ 51 rfl 79 Tryd.underlying51 _ (zeroVal _) v _ _ rfl hM n hn rfl ?_; rw [hg, hi])
  go_ret2
  exact ⟨rfl, belowNew w _⟩

theorem name_check (n : ByteArray) : checkL ⟨2, n, ⟨#[]⟩, 0, 0, n, ⟨#[]⟩, [], []⟩ = if isNm n = true then 0 else 3 := by
  have hk : keysL [] = 0 := rfl
  unfold checkL fieldsR
  by_cases h : isNm n = true
  · simp [h, hk]
    exact Nat.zero_le _
  · simp [h]

set_option maxRecDepth 100000 in
theorem isName22_any (n : ByteArray) (w : World) :
    Calls Tryd.prog 26 #[.string n] w fun e w' => e = .returned (.bool (isNm n)) ∧ Below w.heap.size w w' := by
  have cc := check_any ⟨2, n, ⟨#[]⟩, 0, 0, n, ⟨#[]⟩, [], []⟩ none 0 none 0 w ⟨nil_strs _ _, nil_strs _ _⟩
  rw [name_check] at cc
  obtain ⟨b, hb⟩ : ∃ b, Hid (isNm n = b) := ⟨_, rfl⟩
  rw [hb.out] at cc ⊢
  unfold txV at cc
  go_enter Tryd.func26, Tryd.ntmps26
  go_wp2_with fail
  refine cc.mono ?_
  rintro e w1 ⟨rfl, hb1⟩
  cases b
  · go_wp2
    go_ret
    exact ⟨rfl, hb1⟩
  · go_wp2
    go_ret
    exact ⟨rfl, hb1⟩

theorem pick_text (a b : ByteArray) : (a.toList == b.toList) = decide (a = b) := by
  by_cases h : a = b
  · subst h; simp
  · rw [decide_eq_false h, beq_eq_false_iff_ne]
    intro e
    rw [ByteArray.toList_eq, ByteArray.toList_eq] at e
    cases a
    cases b
    simp at e
    exact h (by rw [e])

set_option maxRecDepth 100000 in
set_option maxHeartbeats 1000000 in
theorem refuse_any (x : TxM) (w : World) (hA : x.At w) (hs : TxSizes x.d) (hn : x.d.ws.length ≤ 500) (p a v N : Nat) (s : StF) (h : PSt w p a v s N) :
    Calls Tryd.prog 39 #[.pointer (some ⟨p, 0, none⟩), x.v] w fun e w' => e = .returned (.int .i64 (applyE s x.d : Nat)) ∧ Below w.heap.size w w' := by
  have hX : Arr _ _ _ (txC x.d x.ra x.rc x.wa x.wc) := TxBox.new w x.d x.ra x.rc x.wa x.wc
  have hB := belowNew w (.cells (txC x.d x.ra x.rc x.wa x.wc).toArray 33)
  have cf := fits_any x.d x.ra x.rc x.wa x.wc _ (hA.at_.below hB) (by omega)
  have hz : fitsL x.d = true → (x.d.kind = 1 ∨ x.d.kind = 2) ∧ x.d.amt ≤ 4611686018427387903 := fun q => by
    obtain ⟨_, _, _, q4, _, q6⟩ := fits_names q
    by_cases q7 : x.d.kind = 1
    · exact ⟨Or.inl q7, q4⟩
    · exact ⟨Or.inr (q6 q7).1, q4⟩
  obtain ⟨k, hk, hM⟩ := h.acc
  have c0 := h.box.cell (i := 0) rfl
  have lp := h.box.lt
  have hg1 := accM_get s.acc x.d.frm
  have hg2 := accM_get s.acc x.d.to
  have ho1 := h.ok.amt x.d.frm
  have ho2 := h.ok.amt x.d.to
  have hf1 := hs.frm
  have hf2 := hs.to
  clear h hk hs hA
  have hMB := hM.below hB
  have c0B : (w.alloc (.cells (txC x.d x.ra x.rc x.wa x.wc).toArray 33)).cell? ⟨p, 0, none⟩ = some (.map (some a)) := by rw [cell_same (hB.block _ lp)]; exact c0
  clear hM c0
  obtain ⟨f, hf⟩ : ∃ f, Hid (accM s.acc = f) := ⟨_, rfl⟩
  rw [hf.out] at hMB hg1 hg2
  clear hf
  unfold TxM.v
  unfold txV at cf ⊢
  go_enter Tryd.func39, Tryd.ntmps39
  go_wp2_with fail
  refine cf.mono ?_
  rintro e w2 ⟨rfl, hb2⟩
  have hX2 := hX.below hb2 hX.lt
  have hM2 := hMB.below hb2
  have hB2 := hB.trans (hb2.mono hB.size)
  have c02 : w2.cell? ⟨p, 0, none⟩ = some (.map (some a)) := by rw [cell_same (hb2.block _ (Nat.lt_of_lt_of_le lp hB.size))]; exact c0B
  clear hX hMB hB c0B hb2 cf
  by_cases hft : fitsL x.d = true
  · obtain ⟨q1, q2⟩ := hz hft
    rw [hft]
    have t0 := hX2.cell (i := 0) rfl
    have t1 := hX2.cell (i := 1) rfl
    have t2 := hX2.cell (i := 2) rfl
    have t3 := hX2.cell (i := 3) rfl
    have t4 := hX2.cell (i := 4) rfl
    have lX := hX2.lt
    have lp2 : p < w2.heap.size := Nat.lt_of_lt_of_le lp hB2.size
    have hnb := belowNew w2 (.cells #[.int .u64 0, .int .u64 0] 55)
    have hMn := hM2.below hnb
    have hl1 := smap_run1 hM2 Tryd.underlying50 zeroAcc hf1
    have hl2 := smap_run1 hMn Tryd.underlying50 zeroAcc hf1
    rw [hg1] at hl1 hl2
    have u1 := (hX2.below hnb lX).cell (i := 1) rfl
    have cn : (w2.alloc (.cells #[.int .u64 0, .int .u64 0] 55)).cell? ⟨p, 0, none⟩ = some (.map (some a)) := by rw [cell_same (hnb.block _ lp2)]; exact c02
    go_wp2_with fail
    go_region
    all_goals (
      rename_i K hK
      refine hK _ _ ?_
      clear hK hl1 hl2 u1 cn hnb hMn t0 t1 t2 t3 t4
      obtain ⟨x1, hx1⟩ : ∃ q, Hid ((s.acc x.d.frm).1 = q) := ⟨_, rfl⟩
      obtain ⟨x2, hx2⟩ : ∃ q, Hid ((s.acc x.d.frm).2 = q) := ⟨_, rfl⟩
      rw [hx1.out] at ho1 hg1 ⊢
      rw [hx2.out] at hg1 ⊢
      have hnb := belowNew w2 (.cells #[.int .u64 (x1 : Int), .int .u64 (x2 : Int)] 55)
      have hb3 : Below w2.heap.size w2 (w2.alloc (.cells #[.int .u64 (x1 : Int), .int .u64 (x2 : Int)] 55)).drew := Below.drew hnb
      have hA3 : Arr (w2.alloc (.cells #[.int .u64 (x1 : Int), .int .u64 (x2 : Int)] 55)).drew w2.heap.size 55 [.int .u64 (x1 : Int), .int .u64 (x2 : Int)] := (Arr.new w2 55 [.int .u64 (x1 : Int), .int .u64 (x2 : Int)]).drew
      have hX3 := hX2.below hb3 lX
      have hM3 := hM2.below hb3
      have hB3 := hB2.trans (hb3.mono hB2.size)
      have lp3 : p < w2.heap.size := lp2
      have c03 : (w2.alloc (.cells #[.int .u64 (x1 : Int), .int .u64 (x2 : Int)] 55)).drew.cell? ⟨p, 0, none⟩ = some (.map (some a)) := by rw [cell_same (hb3.block _ lp2)]; exact c02
      generalize (w2.alloc (.cells #[.int .u64 (x1 : Int), .int .u64 (x2 : Int)] 55)).drew = w3 at *
      clear hnb hb3 hX2 hM2 hB2 c02
      have t0 := hX3.cell (i := 0) rfl
      have t1 := hX3.cell (i := 1) rfl
      have t2 := hX3.cell (i := 2) rfl
      have t3 := hX3.cell (i := 3) rfl
      have t4 := hX3.cell (i := 4) rfl
      have k0 := hA3.cell (i := 0) rfl
      have k1 := hA3.cell (i := 1) rfl
      have hl := fun m => smap_runs hM3 Tryd.underlying50 zeroAcc hf2 m
      rw [hg2] at hl
      obtain ⟨y1, hy1⟩ : ∃ q, Hid ((s.acc x.d.to).1 = q) := ⟨_, rfl⟩
      rw [hy1.out] at hl ho2
      have hfd : ∀ w (z : Nat), (Instr.field 55 (.agg #[.int .u64 (y1 : Int), .int .u64 (z : Int)]) 0).run Tryd.prog w = .ok (.int .u64 (y1 : Int)) w := fun _ _ => by kernel_rfl
      by_cases h2 : x.d.non = x2
      · have g2 : ((x.d.non : Int) != (x2 : Int)) = false := by rw [h2]; exact bne_self_eq_false _
        rcases q1 with q1 | q1
        · have g3 : (x.d.kind == 2) = false := by rw [q1]; rfl
          by_cases h4 : x1 < x.d.amt
          · have g4 : (x1 : Int) < (x.d.amt : Int) := by omega
            have hE := applyE_is3 (s := s) hft (by rw [hx2.out]; exact h2) q1 (by rw [hx1.out]; exact h4)
            clear hl h2 q1
            go_wp2
            go_ret
            exact ⟨by rw [hE]; rfl, hB3⟩
          · have g4 : ¬ (x1 : Int) < (x.d.amt : Int) := by omega
            by_cases h5 : x.d.to = x.d.frm
            · have g5 : (x.d.to.toList == x.d.frm.toList) = true := by rw [h5]; exact beq_self_eq_true _
              have hE := applyE_is0 (s := s) hft (by rw [hx2.out]; exact h2) (fun _ => by rw [hx1.out]; exact h4) (fun _ e => (e h5).elim)
              clear h2 q1 h5
              go_wp2_with fail
              go_quiet (fail)
              go_wp2
              go_ret
              exact ⟨by rw [hE]; rfl, below_drewN hB3 nq⟩
            · have g5 : (x.d.to.toList == x.d.frm.toList) = false := by rw [pick_text, decide_eq_false h5]
              have hw : IntKind.u64.wrap ((y1 : Int) + (x.d.amt : Int)) = ((y1 + x.d.amt : Nat) : Int) := by
                rw [show IntKind.u64.wrap ((y1 : Int) + (x.d.amt : Int)) = ((y1 : Int) + (x.d.amt : Int)) % 18446744073709551616 by simp [IntKind.wrap, IntKind.bits, IntKind.signed]]
                omega
              by_cases h6 : 4611686018427387903 < y1 + x.d.amt
              · have g6 : (4611686018427387903 : Int) < ((y1 + x.d.amt : Nat) : Int) := by omega
                have hE := applyE_is4 (s := s) hft (by rw [hx2.out]; exact h2) q1 (by rw [hx1.out]; exact h4) h5 (by rw [hy1.out]; exact h6)
                clear h2 q1 h5
                go_wp2_with fail
                go_quiet (fail)
                go_wp2
                go_ret
                exact ⟨by rw [hE]; rfl, below_drewN hB3 nq⟩
              · have g6 : ¬ (4611686018427387903 : Int) < ((y1 + x.d.amt : Nat) : Int) := by omega
                have hE := applyE_is0 (s := s) hft (by rw [hx2.out]; exact h2) (fun _ => by rw [hx1.out]; exact h4) (fun _ _ => by rw [hy1.out]; exact h6)
                clear h2 q1 h5
                go_wp2_with fail
                go_quiet (fail)
                go_wp2
                go_ret
                exact ⟨by rw [hE]; rfl, below_drewN hB3 nq⟩
        · have g3 : (x.d.kind == 2) = true := by rw [q1]; rfl
          have hE := applyE_is0 (s := s) hft (by rw [hx2.out]; exact h2) (fun e => by rw [q1] at e; cases e) (fun e => by rw [q1] at e; cases e)
          clear hl h2 q1
          go_wp2
          go_ret
          exact ⟨by rw [hE]; rfl, hB3⟩
      · have g2 : ((x.d.non : Int) != (x2 : Int)) = true := by rw [bne_iff_ne]; omega
        have hE := applyE_is2 (s := s) hft (by rw [hx2.out]; exact h2)
        clear hl
        go_wp2
        go_ret
        exact ⟨by rw [hE]; rfl, hB3⟩)
  · have hff : fitsL x.d = false := by simpa using hft
    rw [hff]
    have hE := applyE_is1 (s := s) hff
    go_wp2
    go_ret
    exact ⟨by rw [hE]; rfl, hB2⟩
end Go.Proofs.YtcjmeaikdfgapaaDoor
