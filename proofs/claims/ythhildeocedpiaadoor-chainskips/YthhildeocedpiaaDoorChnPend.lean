/- What a block rests on that is not committed: one at most, or none. -/
import Derived.Test.YthhildeocedpiaaDoorChnCount
namespace Go.Proofs.YthhildeocedpiaaDoor
open Go Go.RowKit
set_option linter.unusedVariables false

/-- Pointers to whole links. -/
def lnkK : Kind Nat where
  n := 1
  c b := [.pointer (some ⟨b, 0, none⟩)]
  foot _ _ := False
  At _ _ := True
  pos := by decide
  len _ := rfl
  one x u hu := by
    simp only [List.mem_cons, List.not_mem_nil, or_false] at hu
    rcases hu with rfl; rfl
  lt _ h := h.elim
  keep _ _ := trivial

theorem infoLnk : (Tryd.prog.info? 110).any (fun i => i.size == 1 && i.bytes == 8 && (match i.zero with | some z => z.cells.size == 1 | none => false)) = true := by kernel_rfl

theorem lnkInfo : ∃ i z, Tryd.prog.info? 110 = some i ∧ i.zero = some z ∧ i.size = 1 ∧ i.bytes = 8 ∧ z.cells.size = 1 := by
  have h := infoLnk
  cases hi : Tryd.prog.info? 110 with
  | none => rw [hi] at h; cases h
  | some i =>
    rw [hi] at h
    simp only [Option.any_some, Bool.and_eq_true, beq_iff_eq] at h
    cases hz : i.zero with
    | none => rw [hz] at h; simp at h
    | some z =>
      rw [hz] at h
      exact ⟨i, z, rfl, hz, h.1.1, h.1.2, by simpa using h.2⟩

theorem new_lnk (w : World) (x : Nat) : ∀ j u, (lnkK.c x)[j]? = some u → (w.alloc (.cells #[.pointer (some ⟨x, 0, none⟩)] 110)).cell? ((⟨w.heap.size, 0, none⟩ : Addr).add j) = some u := by
  intro j u hu
  rw [Go.WideShapes.add_plain, Nat.zero_add]
  exact (Arr.new w 110 [.pointer (some ⟨x, 0, none⟩)]).cell hu

theorem RowAt.lnk {w : World} {ao : Option Addr} {l : List Nat} (h : RowAt lnkK w ao l) {i : Nat} {x : Nat} (hx : l[i]? = some x) : ∃ g off, ao = some ⟨g, off, none⟩ ∧ g < w.heap.size ∧ w.cell? ⟨g, off + i, none⟩ = some (.pointer (some ⟨x, 0, none⟩)) := by
  obtain ⟨g, off, h1, h2, h3⟩ := h.cell i x hx
  have := h3 0 _ rfl
  simp only [show lnkK.n = 1 from rfl, Nat.mul_one, Nat.add_zero] at this
  exact ⟨g, off, h1, h2, this⟩

/-- How many a row has. -/
def lenV : Value → Nat
  | .slice _ n _ => n
  | _ => 0

set_option maxRecDepth 100000 in
set_option maxHeartbeats 1000000 in
theorem reverse_few (a : Option Addr) (n cap : Nat) (hn : n ≤ 1) (w : World) :
    Calls Tryd.prog 106 #[.slice a n cap] w fun e w' => e = .returned (.tuple #[]) ∧ w' = w := by
  have hw : IntKind.i64.wrap ((n : Int) - 1) = (n : Int) - 1 := by simp [IntKind.wrap, IntKind.bits, IntKind.signed]; omega
  have hlt : ¬ ((0 : Int) < (n : Int) - 1) := by omega
  go_enter Tryd.func106, Tryd.ntmps106
  go_wp2_with fail
  go_loopw [2, 3] (fun v2 v3 wr => v2 = .int .i64 0 ∧ v3 = .int .i64 ((n : Int) - 1) ∧ wr = w) (fun _ _ _ => 0)
  case atStart => exact ⟨rfl, rfl, rfl⟩
  case round =>
    obtain ⟨rfl, rfl, rfl⟩ := hrel
    go_wp2
    refine bodyPost_end (results_none rfl _ _ _) rfl ?_
    exact ⟨rfl, rfl⟩

section
variable {w w' : World} {L : LinP} {c m k lo lk la hi vt : Nat} {ad : Nat → Nat}

set_option maxRecDepth 100000 in
set_option maxHeartbeats 1000000 in
theorem pend0_any (h : ChAt w L c m ad k lo lk la hi vt) {j : Nat} (h1 : lo ≤ j) (h2 : j ≤ la) :
    Calls Tryd.prog 87 #[ptrL (ad j)] w fun e w' => e = .returned (.slice none 0 0) ∧ w' = w := by
  have hl := h.ln j h1 (Nat.le_trans h2 (Nat.le_trans h.olk h.okk))
  have c7 : w.cell? ⟨ad j, 7, none⟩ = some (.bool true) := by
    have := hl.cell (i := 7) rfl
    rw [this, decide_eq_true h2]
  have cR := reverse_few none 0 0 (Nat.zero_le _) w
  unfold ptrL
  go_enter Tryd.func87, Tryd.ntmps87
  go_wp2_with fail
  go_loopw [0, 3] (fun v0 v3 wr => v0 = .pointer (some ⟨ad j, 0, none⟩) ∧ v3 = .slice none 0 0 ∧ wr = w) (fun _ _ _ => 0)
  case atStart => exact ⟨rfl, rfl, rfl⟩
  case round =>
    obtain ⟨rfl, rfl, rfl⟩ := hrel
    go_wp2_with fail
    refine cR.mono ?_
    rintro e w5 ⟨rfl, rfl⟩
    go_wp2
    go_ret
    exact ⟨rfl, rfl⟩

set_option maxRecDepth 100000 in
set_option maxHeartbeats 1000000 in
theorem pend1_any (h : ChAt w L c m ad k lo lk la hi vt) (hk : la + 1 ≤ k) :
    Calls Tryd.prog 87 #[ptrL (ad (la + 1))] w fun e w' => ∃ ao cap, e = .returned (.slice ao 1 cap) ∧ KQ lnkK 110 w' w.heap.size (.slice ao 1 cap) [ad (la + 1)] ∧ Below w.heap.size w w' := by
  obtain ⟨i0, z0, hi0, hz0, hz1, hz2, hz3⟩ := lnkInfo
  have hl := h.ln (la + 1) (Nat.le_succ_of_le h.ola) hk
  have hl0 := h.ln la h.ola (Nat.le_trans h.olk h.okk)
  have hkp : ∀ w', Below w.heap.size w w' → (w'.cell? ⟨ad (la + 1), 7, none⟩ = some (.bool false) ∧ w'.cell? ⟨ad (la + 1), 6, none⟩ = some (.pointer (some ⟨ad la, 0, none⟩)) ∧ w'.cell? ⟨ad la, 7, none⟩ = some (.bool true)) := fun w' hb => by
    refine ⟨?_, ?_, ?_⟩
    · have := (hl.below hb hl.lt).cell (i := 7) rfl
      rw [this, decide_eq_false (by omega)]
    · have := (hl.below hb hl.lt).cell (i := 6) rfl
      rw [this, if_neg (by omega)]
      rfl
    · have := (hl0.below hb hl0.lt).cell (i := 7) rfl
      rw [this, decide_eq_true (Nat.le_refl _)]
  have m1 : ([] : List Nat).length + 1 ≤ maxLen := by unfold maxLen; decide
  have m2 : (([] : List Nat).length + 1) * 8 ≤ 140737488355328 := by decide
  generalize hx : ad (la + 1) = x at *
  generalize hy : ad la = y at *
  have q0 := hkp w (Below.refl _ w)
  unfold ptrL
  go_enter Tryd.func87, Tryd.ntmps87
  go_wp2_with fail
  go_loopw [0, 3] (fun v0 v3 wr => (v0 = .pointer (some ⟨x, 0, none⟩) ∧ v3 = .slice none 0 0 ∧ wr = w) ∨ (v0 = .pointer (some ⟨y, 0, none⟩) ∧ ∃ ao cap, v3 = .slice ao 1 cap ∧ KQ lnkK 110 wr w.heap.size (.slice ao 1 cap) [x] ∧ Below w.heap.size w wr)) (fun _ v3 _ => 1 - lenV v3)
  case atStart => exact Or.inl ⟨rfl, rfl, rfl⟩
  case round =>
    rcases hrel with ⟨rfl, rfl, rfl⟩ | ⟨rfl, ao, cap, rfl, hQ, hb⟩
    · obtain ⟨p1, p2, p3⟩ := q0
      have hN := new_lnk wr x
      have hbn := belowNew wr (.cells #[.pointer (some ⟨x, 0, none⟩)] 110)
      have hbs := hbn.size
      go_wp2_with (at_builtin; refine wpList_push (K := lnkK) rfl _ _ 144 rfl wr.heap.size 110 i0 _ 8 Tryd.underlying144 hi0 hz0 hz1 hz2 hz3 _ [] rfl (KQ.empty _ _ _ _) x trivial (fun _ h => h.elim) ⟨wr.heap.size, 0, none⟩ 1 rfl hN m1 m2 hbs ?_)
      intro ao3 cap3 w3 hQ3 hk3
      have hB := hbn.trans (hk3.below hbs (fun k e => by simp [Value.ownBlock] at e))
      obtain ⟨p4, p5, p6⟩ := hkp _ hB
      clear hN hbn hbs hk3
      go_wp2_with fail
      go_roundw
      case rel => exact Or.inr ⟨rfl, ao3, cap3, rfl, hQ3, hB⟩
      case measure => simp [lenV]
    · obtain ⟨p1, p2, p3⟩ := hkp _ hb
      have cR := reverse_few ao 1 cap (Nat.le_refl _) wr
      go_wp2_with fail
      refine cR.mono ?_
      rintro e w5 ⟨rfl, rfl⟩
      go_wp2
      go_ret
      exact ⟨ao, cap, rfl, hQ, hb⟩
end
end Go.Proofs.YthhildeocedpiaaDoor
