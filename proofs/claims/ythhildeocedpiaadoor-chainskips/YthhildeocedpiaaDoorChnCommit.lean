/- A block is committed, or was. -/
import Derived.Test.YthhildeocedpiaaDoorChnLet
namespace Go.Proofs.YthhildeocedpiaaDoor
open Go Go.RowKit
set_option linter.unusedVariables false

section
variable {w w' : World} {L : LinP} {c m k lo lk la hi vt : Nat} {ad : Nat → Nat}

set_option maxRecDepth 100000 in
set_option maxHeartbeats 1000000 in
theorem commit0_any {K : Nat} (hL : L.Ok K) (hK : k ≤ K) (h : ChAt w L c m ad k lo lk la hi vt) {j : Nat} (h1 : lo ≤ j) (h2 : j ≤ la) :
    Calls Tryd.prog 66 #[ptrL c, ptrL (ad j)] w fun e w' => e = .returned (.slice none 0 0) ∧ ChAt w' L c m ad k la lk la hi vt ∧ Kept (ChS c m ad lo k) w w' := by
  have hl := h.ln la h.ola (Nat.le_trans h.olk h.okk)
  have c5 : w.cell? ⟨c, 5, none⟩ = some (.pointer (some ⟨ad la, 0, none⟩)) := h.box.cell (i := 5) rfl
  have c1 := hl.cell (i := 1) rfl
  have cP := pend0_any h h1 h2
  have cL := letGo_any hL hK h h.ola (Nat.le_refl la)
  generalize ad la = y at *
  unfold ptrL at *
  go_enter Tryd.func66, Tryd.ntmps66
  go_wp2_with fail
  refine cP.mono ?_
  rintro e w5 ⟨rfl, rfl⟩
  go_wp2_with fail
  go_loopw [20, 6] (fun v20 v6 wr => v20 = .int .i64 0 ∧ v6 = .slice none 0 0 ∧ wr = w5) (fun _ _ _ => 0)
  case atStart => exact ⟨rfl, rfl, rfl⟩
  case round =>
    obtain ⟨rfl, rfl, rfl⟩ := hrel
    go_wp2_with fail
    refine cL.mono ?_
    rintro e w6 ⟨rfl, hC, hk⟩
    go_wp2
    go_ret
    exact ⟨rfl, hC, hk⟩

/-- A block more is committed. -/
theorem ChAt.done (h : ChAt w L c m ad k lo lk la hi vt) (hlk : la + 1 ≤ lk) {w1 w2 : World} (hw1 : w1 = w.setCell ⟨ad (la + 1), 7, none⟩ (.bool true)) (hb : Below w1.heap.size w1 w2) (w3 : World) (hw3 : w3 = w2.setCell ⟨c, 5, none⟩ (ptrL (ad (la + 1)))) :
    ChAt w3 L c m ad k lo lk (la + 1) hi vt ∧ Kept (ChS c m ad lo k) w w3 := by
  have hlo : lo ≤ la + 1 := Nat.le_succ_of_le h.ola
  have hle : la + 1 ≤ k := Nat.le_trans hlk h.okk
  have hk1 := Kept.setCell w ⟨ad (la + 1), 7, none⟩ (.bool true)
  rw [← hw1] at hk1
  have hk3 := Kept.setCell w2 ⟨c, 5, none⟩ (ptrL (ad (la + 1)))
  rw [← hw3] at hk3
  have hac := h.ac (la + 1) hlo hle
  have hbox1 := h.box.kept hk1 (fun e => hac.1 e.symm)
  have hbox2 := hbox1.below hb hbox1.lt
  have hbox3 := hbox2.set 5 (ptrL (ad (la + 1)))
  rw [← hw3] at hbox3
  have hmp1 := h.mp.kept hk1 (fun e => hac.2 e.symm)
  refine ⟨⟨hbox3, ((hmp1.below hb).kept hk3 (fun e => h.cm e.symm)), fun j a b => ?_, h.cm, h.ac, h.ap, hlo, hlk, h.okk, h.ohi⟩, ?_⟩
  · have hX : Arr w1 (ad j) 112 (lnC L ad (la + 1) j) := by
      have h0 := h.ln j a b
      by_cases e : j = la + 1
      · subst e
        have := h0.set 7 (.bool true)
        rw [← hw1] at this
        unfold lnC at this ⊢
        rw [decide_eq_true (Nat.le_refl _)]
        exact this
      · have h0' := h0.kept hk1 (fun e' => e (h.ap j (la + 1) a b hlo hle e'))
        have : lnC L ad (la + 1) j = lnC L ad la j := by
          unfold lnC
          have : (decide (j ≤ la + 1)) = decide (j ≤ la) := by
            by_cases q : j ≤ la
            · rw [decide_eq_true q, decide_eq_true (by omega)]
            · rw [decide_eq_false q, decide_eq_false (by omega)]
          rw [this]
        rw [this]
        exact h0'
    exact (hX.below hb hX.lt).kept hk3 (h.ac j a b).1
  · have q1 : Kept (ChS c m ad lo k) w w1 := hk1.mono (fun b _ e => Or.inr (Or.inr ⟨la + 1, hlo, hle, e⟩))
    have q2 : Kept (ChS c m ad lo k) w1 w2 := Kept.of_below hb
    exact (q1.trans q2).trans (hk3.mono (fun b _ e => Or.inl e))

set_option maxRecDepth 100000 in
set_option maxHeartbeats 2000000 in
theorem commit1_any {K : Nat} (hL : L.Ok K) (hK : k ≤ K) (h : ChAt w L c m ad k lo lk la hi vt) (hlk : la + 1 ≤ lk) :
    Calls Tryd.prog 66 #[ptrL c, ptrL (ad (la + 1))] w fun e w' => ∃ ao cap, e = .returned (.slice ao 1 cap) ∧ KQ textK 9 w' w.heap.size (.slice ao 1 cap) [L.ids (la + 1)] ∧ ChAt w' L c m ad k la lk (la + 1) hi vt ∧ Kept (ChS c m ad lo k) w w' := by
  obtain ⟨i0, z0, hi0, hz0, hz1, hz2, hz3⟩ := strInfoT
  have hlo : lo ≤ la + 1 := Nat.le_succ_of_le h.ola
  have hle : la + 1 ≤ k := Nat.le_trans hlk h.okk
  have hl := h.ln la h.ola (Nat.le_trans h.olk h.okk)
  have c5 : w.cell? ⟨c, 5, none⟩ = some (.pointer (some ⟨ad la, 0, none⟩)) := h.box.cell (i := 5) rfl
  have c1 := hl.cell (i := 1) rfl
  have cP := pend1_any h hle
  have hvv : L.vw la < L.vw (la + 1) := hL.up la (by omega)
  have hnc : ad (la + 1) ≠ c := (h.ac _ hlo hle).1
  have hac := fun j a b => h.ac j a b
  -- what is read and what stands behind it
  have hfacts : Hid (∀ w', Below w.heap.size w w' → w'.cell? ⟨ad (la + 1), 0, none⟩ = some (.string (L.ids (la + 1))) ∧ w'.cell? ⟨ad (la + 1), 1, none⟩ = some (.int .i64 (L.vw (la + 1) : Int)) ∧ w'.cell? ⟨c, 5, none⟩ = some (.pointer (some ⟨ad la, 0, none⟩)) ∧ w'.cell? ⟨ad la, 1, none⟩ = some (.int .i64 (L.vw la : Int)) ∧ w'.frozen? ⟨ad (la + 1), 7, none⟩ = false ∧ w'.frozen? ⟨c, 5, none⟩ = false) := fun w' hb => by
    have h' := h.below hb
    have g1 := h'.ln (la + 1) hlo hle
    have g0 := h'.ln la h.ola (Nat.le_trans h.olk h.okk)
    exact ⟨g1.cell (i := 0) rfl, g1.cell (i := 1) rfl, h'.box.cell (i := 5) rfl, g0.cell (i := 1) rfl, g1.frozen 7, h'.box.frozen 5⟩
  have hbel : ∀ w', Below w.heap.size w w' → ChAt w' L c m ad k lo lk la hi vt := fun w' hb => h.below hb
  have hlt1 : ad (la + 1) < w.heap.size := (h.ln _ hlo hle).lt
  have hltc : c < w.heap.size := h.box.lt
  have hneA : ad (la + 1) ≠ ad la := fun e => by have := h.ap _ _ hlo hle h.ola (Nat.le_trans h.olk h.okk) e; omega
  have m1 : ([] : List ByteArray).length + 1 ≤ maxLen := by unfold maxLen; decide
  have m2 : (([] : List ByteArray).length + 1) * 16 ≤ 140737488355328 := by decide
  have hfin : Hid (∀ w', ChAt w' L c m ad k lo lk (la + 1) hi vt → Calls Tryd.prog 88 #[ptrL c, .int .i64 (L.vw la : Int)] w' fun e w'' => e = .returned (.tuple #[]) ∧ ChAt w'' L c m ad k la lk (la + 1) hi vt ∧ Kept (ChS c m ad lo k) w' w'') := fun w' h' => letGo_any hL hK h' h.ola (Nat.le_succ _)
  have hsz : (L.ids (la + 1)).size ≤ maxLen := sizeOk hL _
  have hchs : ∀ g, w.heap.size ≤ g → ¬ ChS c m ad lo k g := fun g hg hs => by
    rcases hs with e | e | ⟨j, a, b, e⟩
    · omega
    · have := h.mp.lt; omega
    · have := (h.ln j a b).lt; omega
  clear h
  unfold ptrL at c5 cP ⊢
  go_enter Tryd.func66, Tryd.ntmps66
  go_wp2_with fail
  refine cP.mono ?_
  rintro e w5 ⟨ao, cap, rfl, hQ, hb5⟩
  obtain ⟨g, off, rfl, hg, hgc⟩ := hQ.rowOf.1.lnk (i := 0) rfl
  have hgw : w.heap.size ≤ g := (hQ.lt g rfl).1
  rw [Nat.add_zero] at hgc
  have h5 := hbel _ hb5
  obtain ⟨x0, -, -, -, f7, -⟩ := hfacts.out _ hb5
  have c7 := (h5.ln (la + 1) hlo hle).cell (i := 7) rfl
  have hk1 := Kept.setCell w5 ⟨ad (la + 1), 7, none⟩ (.bool true)
  have hA1 : Arr (w5.setCell ⟨ad (la + 1), 7, none⟩ (.bool true)) (ad (la + 1)) 112 ((lnC L ad la (la + 1)).set 7 (.bool true)) := (h5.ln (la + 1) hlo hle).set 7 (.bool true)
  have hA0 := (h5.ln la h5.ola (Nat.le_trans h5.olk h5.okk)).kept hk1 (fun e => hneA e.symm)
  have hAc := h5.box.kept hk1 (fun e => hnc e.symm)
  have hdone := fun w2 hb w3 hw3 => ChAt.done h5 hlk (w1 := w5.setCell ⟨ad (la + 1), 7, none⟩ (.bool true)) rfl (w2 := w2) hb w3 hw3
  have hs1 : (w5.setCell ⟨ad (la + 1), 7, none⟩ (.bool true)).heap.size = w5.heap.size := by simp
  have hkpA : Hid (∀ w', Below (w5.setCell ⟨ad (la + 1), 7, none⟩ (.bool true)).heap.size (w5.setCell ⟨ad (la + 1), 7, none⟩ (.bool true)) w' → w'.cell? ⟨ad (la + 1), 0, none⟩ = some (.string (L.ids (la + 1))) ∧ w'.cell? ⟨ad (la + 1), 1, none⟩ = some (.int .i64 (L.vw (la + 1) : Int)) ∧ w'.cell? ⟨c, 5, none⟩ = some (.pointer (some ⟨ad la, 0, none⟩)) ∧ w'.cell? ⟨ad la, 1, none⟩ = some (.int .i64 (L.vw la : Int)) ∧ w'.frozen? ⟨c, 5, none⟩ = false) := fun w' hb =>
    ⟨(hA1.below hb hA1.lt).cell (i := 0) rfl, (hA1.below hb hA1.lt).cell (i := 1) rfl, (hAc.below hb hAc.lt).cell (i := 5) rfl, (hA0.below hb hA0.lt).cell (i := 1) rfl, (hAc.below hb hAc.lt).frozen 5⟩
  have hb5s := hb5.size
  have hchs5 : ∀ g', w.heap.size ≤ g' → ¬ ChS c m ad lo k g' := hchs
  clear hk1 h5 hA1 hA0 hAc hbel hQ cP c5 c1 hl
  generalize hx : L.ids (la + 1) = id at *
  generalize hy : L.vw (la + 1) = v1 at *
  generalize hz : L.vw la = v0 at *
  generalize hp : ad (la + 1) = x at *
  generalize hq : ad la = y at *
  go_wp2_with fail
  go_loopw [20, 6] (fun v20 v6 wr => (v20 = .int .i64 0 ∧ v6 = .slice none 0 0 ∧ wr = w5) ∨ (v20 = .int .i64 1 ∧ ∃ a2 c2, v6 = .slice a2 1 c2 ∧ KQ textK 9 wr w.heap.size (.slice a2 1 c2) [id] ∧ ChAt wr L c m ad k lo lk (la + 1) hi vt ∧ Kept (ChS c m ad lo k) w wr)) (fun v20 _ _ => 1 - (intOf v20).toNat)
  case atStart => exact Or.inl ⟨rfl, rfl, rfl⟩
  case round =>
    rcases hrel with ⟨rfl, rfl, rfl⟩ | ⟨rfl, a2, c2, rfl, hQ2, hC, hkw⟩
    · have hbA := Below.refl (wr.setCell ⟨x, 7, none⟩ (.bool true)).heap.size (wr.setCell ⟨x, 7, none⟩ (.bool true))
      obtain ⟨p0, -, -, -, -⟩ := hkpA.out _ hbA
      have hN := new_text (wr.setCell ⟨x, 7, none⟩ (.bool true)) id
      have hbn := belowNew (wr.setCell ⟨x, 7, none⟩ (.bool true)) (.cells #[.string id] 9)
      have hbs := hbn.size
      have hs2 : (wr.setCell ⟨x, 7, none⟩ (.bool true)).heap.size = wr.heap.size := by simp
      rw [hs2] at hN hbs
      go_wp2_with (at_builtin; refine wpList_push (K := textK) rfl _ _ 23 rfl wr.heap.size 9 i0 _ 16 Tryd.underlying23 hi0 hz0 hz1 hz2 hz3 _ [] rfl (KQ.empty _ _ _ _) id trivial (fun _ h => h.elim) ⟨wr.heap.size, 0, none⟩ 1 rfl hN m1 m2 hbs ?_)
      intro ao3 cap3 w3 hQ3 hk3
      have hB3 : Below (wr.setCell ⟨x, 7, none⟩ (.bool true)).heap.size (wr.setCell ⟨x, 7, none⟩ (.bool true)) w3 := hbn.trans (hk3.below (by rw [hs2]; exact hbs) (fun k e => by simp [Value.ownBlock] at e))
      have hBd : Below (wr.setCell ⟨x, 7, none⟩ (.bool true)).heap.size (wr.setCell ⟨x, 7, none⟩ (.bool true)) w3.drew := below_drewN hB3 1
      have hQd := hQ3.below (below_drewN (Below.refl _ w3) 1)
      obtain ⟨-, p1, p2, p3, p4⟩ := hkpA.out _ hB3
      obtain ⟨-, d1, d2, d3, d4⟩ := hkpA.out _ hBd
      obtain ⟨g1, g2⟩ := hdone _ hBd _ rfl
      have hQf := (hQd.kept (Kept.setCell w3.drew ⟨c, 5, none⟩ (ptrL x)) (fun g' e e' => by have := (hQd.lt g' e).1; have e2 : g' = c := e'; omega) (fun _ _ _ h => h.elim)).rebase (B' := w.heap.size) (by omega)
      have hkf : Kept (ChS c m ad lo k) w (w3.drew.setCell ⟨c, 5, none⟩ (ptrL x)) := (Kept.of_below hb5).trans g2
      clear hN hbn hbs hk3 hQ3 hQd
      go_wp2_with fail
      go_region_held3 (fun w' => (w'.cell? ⟨x, 1, none⟩ = some (.int .i64 (v1 : Int)) ∧ w'.cell? ⟨c, 5, none⟩ = some (.pointer (some ⟨y, 0, none⟩)) ∧ w'.cell? ⟨y, 1, none⟩ = some (.int .i64 (v0 : Int)))) (first | assumption | exact ⟨p1, p2, p3⟩ | exact ⟨d1, d2, d3⟩) (fail)
      go_wp2_with fail
      go_roundw
      case rel => exact Or.inr ⟨rfl, ao3, cap3, rfl, hQf, g1, hkf⟩
      case measure => simp [intOf]
    · have cL := hfin.out _ hC
      go_wp2_with fail
      refine cL.mono ?_
      rintro e w6 ⟨rfl, hC6, hk6⟩
      have hQ6 := hQ2.kept hk6 (fun g' e => hchs g' (hQ2.lt g' e).1) (fun _ _ _ h => h.elim)
      go_wp2
      go_ret
      exact ⟨a2, c2, rfl, by rw [hx]; exact hQ6, hC6, hkw.trans hk6⟩
end
end Go.Proofs.YthhildeocedpiaaDoor
