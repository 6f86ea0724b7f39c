/- What NewSealer, Waits, copied and Add do. -/
import Derived.Test.YtibfnefdpbdkoaaBatCheck
import Derived.Test.YtibfnefdpbdkoaaQueueStep
import Derived.Test.YtibfnefdpbdkoaaTxOwn
import Derived.BigQuiet
import Derived.BigRegion
namespace Go.Proofs.Ytibfnefdpbdkoaa
open Go.RowKit
set_option linter.unusedVariables false

theorem SlAt.mono {T : TypeId} {w : World} {base base' p : Nat} {q : Value} {au : Int} {s : Seal TxM} (h : SlAt T w base p q au s) (hb : base' ≤ base) : SlAt T w base' p q au s :=
  ⟨h.box, ⟨h.row.1, h.row.2.imp id fun ⟨g, pre, post, cap, q1, q2, q3⟩ => ⟨g, pre, post, cap, q1, Nat.le_trans hb q2, q3⟩⟩, h.at_, h.off, Nat.le_trans hb h.bp, h.ne, h.lt, fun k hk => Nat.le_trans hb (h.lb k hk)⟩

/-- A new sealer. -/
def Seal.new (size wait : Nat) : Seal TxM := ⟨size, wait, [], 0, 0⟩

theorem Seal.new_ok {size wait : Nat} (h1 : 1 ≤ size) (h2 : size ≤ 16) (h3 : 1 ≤ wait) (h4 : wait ≤ 1000) : (Seal.new size wait).Ok :=
  ⟨h1, h2, h3, h4, by simp [Seal.new], by simp [Seal.new]; omega, fun _ => rfl⟩

theorem SlAt.new (T : TypeId) (w : World) (au : Int) (size wait : Nat) : SlAt T (w.alloc (.cells #[.int .i64 au, .int .i64 (size : Int), .int .i64 (wait : Int), .slice none 0 0, .int .i64 0, .int .i64 0] T)) w.heap.size w.heap.size (.slice none 0 0) au (Seal.new size wait) :=
  ⟨Arr.new w T _, QRow.nil _ _ _ _ _, (fun x hx => by cases hx), (fun x hx => by cases hx), Nat.le_refl _, by simp [Value.ownBlock], by simp [Value.ownBlock], by simp [Value.ownBlock]⟩

/-- What adding answers. -/
def addE (s : Seal TxM) (d : TxD) : Nat := if checkL d ≠ 0 then checkL d else if 4 * s.size ≤ s.l.length then 4 else 0

/-- One more, if it is right and there is room. -/
def Seal.put (s : Seal TxM) (x : TxM) : Seal TxM := if addE s x.d = 0 then { s with l := s.l ++ [x] } else s

/-- Behind Add. -/
def Added (T : TypeId) (w : World) (base p : Nat) (q : Value) (au : Int) (s : Seal TxM) (d : TxD) (own : Bool) (e : Ending) (w' : World) : Prop :=
  e = .returned (.int .i64 (addE s d : Int)) ∧ ∃ x q', x.d = d ∧ SlAt T w' base p q' au (s.put x) ∧ Kept (SlB p q) w w' ∧ (∀ k, SlB p q' k → SlB p q k ∨ w.heap.size ≤ k)

/-- Behind Add, where the very one that was given is kept. -/
def AddedX (T : TypeId) (w : World) (base p : Nat) (q : Value) (au : Int) (s : Seal TxM) (x : TxM) (e : Ending) (w' : World) : Prop :=
  e = .returned (.int .i64 (addE s x.d : Int)) ∧ ∃ q', SlAt T w' base p q' au (s.put x) ∧ Kept (SlB p q) w w' ∧ (∀ k, SlB p q' k → SlB p q k ∨ w.heap.size ≤ k)

theorem AddedX.added {T : TypeId} {w : World} {base p : Nat} {q : Value} {au : Int} {s : Seal TxM} {x : TxM} {e : Ending} {w' : World} (h : AddedX T w base p q au s x e w') : Added T w base p q au s x.d true e w' := by
  obtain ⟨h1, q', h2⟩ := h
  exact ⟨h1, x, q', rfl, h2⟩

theorem addedX_no {T : TypeId} {w w' : World} {base p : Nat} {q : Value} {au : Int} {s : Seal TxM} (h : SlAt T w base p q au s) (x : TxM) (hne : addE s x.d ≠ 0) (hb : Below w.heap.size w w') (e : Ending) (he : e = .returned (.int .i64 (addE s x.d : Int))) : AddedX T w base p q au s x e w' :=
  ⟨he, q, by unfold Seal.put; rw [if_neg hne]; exact h.below hb, Kept.of_below hb, fun k hk => Or.inl hk⟩

theorem added_no {T : TypeId} {w w' : World} {base p : Nat} {q : Value} {au : Int} {s : Seal TxM} (h : SlAt T w base p q au s) (x : TxM) (hne : addE s x.d ≠ 0) (hb : Below w.heap.size w w') (e : Ending) (he : e = .returned (.int .i64 (addE s x.d : Int))) : Added T w base p q au s x.d true e w' :=
  ⟨he, x, q, rfl, by unfold Seal.put; rw [if_neg hne]; exact h.below hb, Kept.of_below hb, fun k hk => Or.inl hk⟩

theorem addedX_yes {T : TypeId} {w wF w5 w6 : World} {base p : Nat} {q q' : Value} {au : Int} {s : Seal TxM} (h : SlAt T w base p q au s) (y : TxM) (hE : addE s y.d = 0) (hBF : Below w.heap.size w wF) (hy : y.At wF) (hyo : y.Off (SlB p q)) (hW5 : Below wF.heap.size wF w5)
    (hrow : QRow w6 base 33 9 q' (s.l.length + 1) (flatX s.l ++ y.c)) (hgr : w5.grownBy w6 q.ownBlock) (hfr : ∀ g, q'.ownBlock = some g → q.ownBlock = some g ∨ w5.heap.size ≤ g) (e : Ending) (he : e = .returned (.int .i64 0)) :
    AddedX T w base p q au s y e (w6.setCell ⟨p, 3, none⟩ q') := by
  have hB5 : Below w.heap.size w w5 := hBF.trans (hW5.mono hBF.size)
  have hpw := h.own.2
  have h5s := hB5.size
  have k6 : Kept (SlB p q) w5 w6 := (Kept.of_grown hgr).mono (fun k _ hk => Or.inr hk)
  have k7 : Kept (SlB p q) w5 (w6.setCell ⟨p, 3, none⟩ q') := k6.trans ((Kept.setCell w6 ⟨p, 3, none⟩ q').mono (fun k _ hk => Or.inl hk))
  have hne : q'.ownBlock ≠ some p := by
    intro hq
    rcases hfr p hq with h1 | h1
    · exact h.ne h1
    · omega
  have hy5 : y.At w5 := hy.below hW5
  have ha5 : ∀ x ∈ s.l, x.At w5 := fun x hx => (h.at_ x hx).below hB5
  have hgo : ∀ k, SlB p q' k → SlB p q k ∨ w5.heap.size ≤ k := by
    rintro k (hk | hk)
    · exact Or.inl (Or.inl hk)
    · exact (hfr k hk).imp (fun h => Or.inr h) id
  refine ⟨by rw [hE]; exact he, q', ?_, (Kept.of_below hB5).trans k7, fun k hk => (hgo k hk).imp id (fun h => by omega)⟩
  unfold Seal.put
  rw [if_pos hE]
  refine ⟨?_, ?_, ?_, ?_, h.bp, hne, ?_, ?_⟩
  · exact (((h.below hB5).box.kept (Kept.of_grown hgr) h.ne).set 3 q')
  · show QRow _ base 33 9 q' (s.l ++ [y]).length (flatX (s.l ++ [y]))
    have e1 : (s.l ++ [y]).length = s.l.length + 1 := by simp
    have e2 : flatX (s.l ++ [y]) = flatX s.l ++ y.c := by rw [flatX_append]; simp [flatX]
    rw [e1, e2]
    exact hrow.kept (Kept.setCell w6 ⟨p, 3, none⟩ q') (fun g hg hk => hne (by rw [hg]; exact congrArg some hk))
  · intro x hx
    replace hx : x ∈ s.l ++ [y] := hx
    rw [List.mem_append, List.mem_singleton] at hx
    rcases hx with hx | rfl
    · exact (ha5 x hx).kept k7 (h.off x hx)
    · exact hy5.kept k7 hyo
  · intro x hx
    replace hx : x ∈ s.l ++ [y] := hx
    rw [List.mem_append, List.mem_singleton] at hx
    rcases hx with hx | rfl
    · exact (ha5 x hx).off_grow (h.off x hx) hgo
    · exact hy5.off_grow hyo hgo
  · intro k hk
    rcases hrow.lt with h0 | ⟨g, hg, _, hl⟩
    · omega
    · rw [hk] at hg
      simp at hg
      rw [setCell_size]
      omega
  · intro k hk
    rcases hrow.lt with h0 | ⟨g, hg, hb, _⟩
    · omega
    · rw [hk] at hg
      simp at hg
      omega

set_option maxRecDepth 100000 in
theorem waits_any {base p : Nat} {q : Value} {au : Int} {s : Seal TxM} (w : World) (h : SlAt 55 w base p q au s) :
    Calls Try.prog 13 #[.pointer (some ⟨p, 0, none⟩)] w fun e w' => e = .returned (.int .i64 (s.l.length : Int)) ∧ w' = w := by
  obtain ⟨ao, cap, rfl, h1, h2⟩ := h.row.form
  have c3 := h.box.cell (i := 3) rfl
  go_enter Try.func13, Try.ntmps13
  go_wp2
  go_ret
  exact ⟨rfl, rfl⟩

set_option maxRecDepth 100000 in
theorem copied_any (ao : Option Addr) (cap : Nat) (ss : List ByteArray) (w : World) (hS : StrsAt w ao ss) (hnil : ao = none → cap = 0) (hlen : ss.length * 16 ≤ 140737488351232) :
    Calls Try.prog 20 #[.slice ao ss.length cap] w fun e w' => ∃ a c, e = .returned (.slice a ss.length c) ∧ OwnStrs w.heap.size w' a ss ∧ (a = none → c = 0) ∧ Below w.heap.size w w' := by
  have hown := World.ownsRow_nil w w.heap.size 9 1
  go_enter Try.func20, Try.ntmps20
  go_wp2_with (at_builtin; refine wpList_append_strs rfl _ _ rfl w.heap.size _ rfl hown ao cap ss rfl hS hnil (by omega) (Nat.le_refl _) ?_)
  intro a1 c1 w1 h1 h2 h3
  go_wp2
  go_ret
  exact ⟨a1, c1, rfl, h1, h2, h3⟩

set_option maxRecDepth 100000 in
theorem newSealer_no (au size wait : Int) (w : World) (h : au < 0 ∨ 6 < au ∨ size < 1 ∨ 16 < size ∨ wait < 1 ∨ 1000 < wait) :
    Calls Try.prog 5 #[.int .i64 au, .int .i64 size, .int .i64 wait] w fun e w' => e = .returned (.tuple #[.pointer none, .int .i64 2]) ∧ w' = w := by
  have cA := isAuthor_any au
  by_cases h0 : 0 ≤ au ∧ au ≤ 6
  · have d0 : (decide (0 ≤ au) && decide (au ≤ 6)) = true := by rw [Bool.and_eq_true, decide_eq_true_eq, decide_eq_true_eq]; omega
    rw [d0] at cA
    by_cases h1 : size < 1
    · go_enter Try.func5, Try.ntmps5
      go_wp2_with fail
      refine (cA _).mono ?_
      rintro e w1 ⟨rfl, rfl⟩
      go_wp2
      go_ret2
      exact ⟨rfl, rfl⟩
    have d1 : decide (size < 1) = false := decide_eq_false h1
    by_cases h2 : 16 < size
    · go_enter Try.func5, Try.ntmps5
      go_wp2_with fail
      refine (cA _).mono ?_
      rintro e w1 ⟨rfl, rfl⟩
      go_wp2
      go_ret2
      exact ⟨rfl, rfl⟩
    have d2 : decide (16 < size) = false := decide_eq_false h2
    by_cases h3 : wait < 1
    · go_enter Try.func5, Try.ntmps5
      go_wp2_with fail
      refine (cA _).mono ?_
      rintro e w1 ⟨rfl, rfl⟩
      go_wp2
      go_ret2
      exact ⟨rfl, rfl⟩
    have d3 : decide (wait < 1) = false := decide_eq_false h3
    have h4 : 1000 < wait := by omega
    go_enter Try.func5, Try.ntmps5
    go_wp2_with fail
    refine (cA _).mono ?_
    rintro e w1 ⟨rfl, rfl⟩
    go_wp2
    go_ret2
    exact ⟨rfl, rfl⟩
  · have d0 : (decide (0 ≤ au) && decide (au ≤ 6)) = false := by rw [Bool.and_eq_false_iff, decide_eq_false_iff_not, decide_eq_false_iff_not]; omega
    rw [d0] at cA
    go_enter Try.func5, Try.ntmps5
    go_wp2_with fail
    refine (cA _).mono ?_
    rintro e w1 ⟨rfl, rfl⟩
    go_wp2
    go_ret2
    exact ⟨rfl, rfl⟩

set_option maxRecDepth 100000 in
theorem newSealer_yes (au : Int) (size wait : Nat) (w : World) (h0 : 0 ≤ au) (h1 : au ≤ 6) (h2 : 1 ≤ size) (h3 : size ≤ 16) (h4 : 1 ≤ wait) (h5 : wait ≤ 1000) :
    Calls Try.prog 5 #[.int .i64 au, .int .i64 (size : Int), .int .i64 (wait : Int)] w fun e w' => e = .returned (.tuple #[.pointer (some ⟨w.heap.size, 0, none⟩), .int .i64 0]) ∧ SlAt 55 w' w.heap.size w.heap.size (.slice none 0 0) au (Seal.new size wait) ∧ Below w.heap.size w w' := by
  have cA := isAuthor_any au
  have d0 : (decide (0 ≤ au) && decide (au ≤ 6)) = true := by rw [Bool.and_eq_true, decide_eq_true_eq, decide_eq_true_eq]; omega
  rw [d0] at cA
  have d1 : decide ((size : Int) < 1) = false := decide_eq_false (by omega)
  have d2 : decide (16 < (size : Int)) = false := decide_eq_false (by omega)
  have d3 : decide ((wait : Int) < 1) = false := decide_eq_false (by omega)
  have d4 : decide (1000 < (wait : Int)) = false := decide_eq_false (by omega)
  have hS := SlAt.new 55 w au size wait
  have hB := belowNew w (.cells #[.int .i64 au, .int .i64 (size : Int), .int .i64 (wait : Int), .slice none 0 0, .int .i64 0, .int .i64 0] 55)
  go_enter Try.func5, Try.ntmps5
  go_wp2_with fail
  refine (cA _).mono ?_
  rintro e w1 ⟨rfl, rfl⟩
  go_wp2
  go_ret2
  exact ⟨rfl, hS, hB⟩
end Go.Proofs.Ytibfnefdpbdkoaa
