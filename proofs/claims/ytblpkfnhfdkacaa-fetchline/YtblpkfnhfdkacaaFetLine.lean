/- A line of texts: what its acts do. -/
import Derived.Test.YtblpkfnhfdkacaaWalkRows
import Derived.Test.YtblpkfnhfdkacaaKindsSet
namespace Go.Proofs.Ytblpkfnhfdkacaa
open Go Go.RowKit
set_option linter.unusedVariables false

/-- there == nil: of a function. -/
theorem func_not_nilIn (w : World) (d : Nat) (f : Fn) (a c : Array Value) : (Op.equalIn (d + 1) 34 (.func f a c) .nilFunc).run Try.prog w = .ok false w := by
  simp [Op.equalIn, run_underlying Try.underlying34]

theorem func_not_nil (w : World) (f : Fn) (a c : Array Value) : (binOp .eql 34 (.func f a c) .nilFunc).run Try.prog w = .ok (.bool false) w := by
  simp only [binOp]
  simp [Op.equal, Op.maxDepth, func_not_nilIn w 9999 f a c]

/-- A line that is new since W, where nothing old is turned. -/
structure LnAt (W w : World) (lb : Nat) (l : List ByteArray) : Prop where
  bel : Below W.heap.size W w
  ge : W.heap.size ≤ lb
  ex : ∃ q, Arr w lb 79 [q] ∧ KQ textK 9 w W.heap.size q l ∧ q.ownBlock ≠ some lb

section
variable {W w w' : World} {lb : Nat} {l : List ByteArray}

theorem LnAt.below (h : LnAt W w lb l) (hb : Below w.heap.size w w') : LnAt W w' lb l := by
  obtain ⟨q, h1, h2, h3⟩ := h.ex
  exact ⟨h.bel.trans (hb.mono h.bel.size), h.ge, q, h1.below hb h1.lt, h2.below hb, h3⟩

set_option maxRecDepth 100000 in
theorem lnNew_any (W w : World) (hb : Below W.heap.size W w) : Calls Try.prog 19 #[] w fun e w' => e = .returned (.pointer (some ⟨w.heap.size, 0, none⟩)) ∧ LnAt W w' w.heap.size [] := by
  have hN := Arr.new w 79 [.slice none 0 0]
  have hbn := belowNew w (.cells #[.slice none 0 0] 79)
  go_enter Try.func19, Try.ntmps19
  go_wp2
  go_ret
  exact ⟨rfl, hb.trans (hbn.mono hb.size), hb.size, _, hN, KQ.empty _ _ _ _, fun e => by cases e⟩

set_option maxRecDepth 100000 in
theorem lnLen_any (h : LnAt W w lb l) (hl : l.length ≤ 1000000) : Calls Try.prog 24 #[.pointer (some ⟨lb, 0, none⟩)] w fun e w' => e = .returned (.int .i64 (l.length : Int)) ∧ w' = w := by
  obtain ⟨q, h1, h2, h3⟩ := h.ex
  obtain ⟨ao, cap, rfl, _, _⟩ := h2.form
  have c0 := h1.cell (i := 0) rfl
  go_enter Try.func24, Try.ntmps24
  go_wp2
  go_ret
  exact ⟨rfl, rfl⟩

set_option maxRecDepth 100000 in
set_option maxHeartbeats 1000000 in
theorem lnPush_any (id : ByteArray) (h : LnAt W w lb l) (hl : l.length ≤ 1000000) : Calls Try.prog 20 #[.pointer (some ⟨lb, 0, none⟩), .string id] w fun e w' => e = .returned (.tuple #[]) ∧ LnAt W w' lb (l ++ [id]) := by
  obtain ⟨q, h1, h2, h3⟩ := h.ex
  obtain ⟨i0, z0, hi0, hz0, hz1, hz2, hz3⟩ := strInfoT
  have hbx := belowNew w (.cells #[.string id] 9)
  have hQ2 := h2.below hbx
  have h12 := h1.below hbx h1.lt
  have hb2 := h.bel.trans (hbx.mono h.bel.size)
  have hN := new_text w id
  have hbs := hb2.size
  have m1 : l.length + 1 ≤ maxLen := by unfold maxLen; omega
  have m2 : (l.length + 1) * 16 ≤ 140737488355328 := by omega
  obtain ⟨ao, cap, rfl, _, _⟩ := h2.form
  have c0 := h1.cell (i := 0) rfl
  go_enter Try.func20, Try.ntmps20
  go_wp2_with (at_builtin; refine wpList_pushN (K := textK) rfl _ _ 43 rfl W.heap.size 9 i0 _ 16 Try.underlying43 hi0 hz0 hz1 hz2 hz3 _ l rfl hQ2 id trivial (fun _ h => h.elim) ⟨w.heap.size, 0, none⟩ 1 rfl hN m1 m2 hbs ?_)
  intro ao3 cap3 w3 hQ3 hk3 hf3
  have hbF := hb2.trans (Kept.below hk3 hbs (fun j hj => (hQ2.lt j hj).1))
  have h13 := h12.kept hk3 h3
  have hne : (Value.slice ao3 (l.length + 1) cap3).ownBlock ≠ some lb := fun e => by
    rcases hf3 lb e with e | e
    · exact h3 e
    · have := h12.lt; omega
  have c3 := h13.cell (i := 0) rfl
  have f3 := h13.frozen 0
  have kS := Kept.setCell w3 ⟨lb, 0, none⟩ (.slice ao3 (l.length + 1) cap3)
  have hfin : LnAt W (w3.setCell ⟨lb, 0, none⟩ (.slice ao3 (l.length + 1) cap3)) lb (l ++ [id]) :=
    ⟨hbF.trans (kS.below hbF.size (fun k e => by have := h.ge; have e' : k = lb := e; omega)), h.ge, _, h13.set 0 _, hQ3.kept kS (fun k hk e => hne (by have e' : k = lb := e; rw [← e']; exact hk)) (fun _ _ _ h => h.elim), hne⟩
  clear hk3 hQ2 hb2 hbx hN hbs m1 m2 c0 hQ3 h12 h13 hbF hf3 h2 h1 kS
  go_wp2
  go_end0
  exact ⟨rfl, hfin⟩

theorem LnAt.spot {x : ByteArray} {r : List ByteArray} (h : LnAt W w lb (x :: r)) : ∃ g off cap, W.heap.size ≤ g ∧ g < w.heap.size ∧ g ≠ lb ∧ Arr w lb 79 [.slice (some ⟨g, off, none⟩) (r.length + 1) cap] ∧ w.cell? ⟨g, off, none⟩ = some (.string x) ∧ w.frozen? ⟨g, off, none⟩ = false ∧ r.length + 1 ≤ cap ∧
    ∀ ao', (¬ cap = 1 → ao' = some ⟨g, off + 1, none⟩) → (∀ k a b, (Value.slice ao' a b).ownBlock = some k → k = g) → LnAt W ((w.setCell ⟨g, off, none⟩ (.string ⟨#[]⟩)).setCell ⟨lb, 0, none⟩ (.slice ao' r.length (cap - 1))) lb r := by
  obtain ⟨q, h1, h2, h3⟩ := h.ex
  obtain ⟨ao, cap, rfl, _, _⟩ := h2.form
  obtain ⟨g, off, rfl, q2, q3, q4, q5, q6⟩ := h2.set (i := 0) (x := x) rfl
  have hgl : g ≠ lb := fun e => h3 (by rw [e]; rfl)
  have hcap := h2.row.form
  obtain ⟨_, _, e1, hlc, _⟩ := hcap
  simp only [Value.slice.injEq] at e1
  obtain ⟨_, _, rfl⟩ := e1
  have hlen : (x :: r).length = r.length + 1 := rfl
  rw [hlen] at h1 h2 hlc
  have c0 := q4 0 _ rfl
  simp only [show textK.n = 1 from rfl, Nat.zero_mul, Nat.add_zero] at c0
  refine ⟨g, off, cap, q2, q3, hgl, h1, c0, q5 off, hlc, fun ao' ha ho => ?_⟩
  have hS := q6 ⟨#[]⟩ 0 (.string ⟨#[]⟩) (by decide) rfl trivial (fun _ h => h.elim)
  simp only [show textK.n = 1 from rfl, Nat.zero_mul, Nat.add_zero] at hS
  have k1 := Kept.setCell w ⟨g, off, none⟩ (.string ⟨#[]⟩)
  have k2 := Kept.setCell (w.setCell ⟨g, off, none⟩ (.string ⟨#[]⟩)) ⟨lb, 0, none⟩ (.slice ao' r.length (cap - 1))
  have b1 := h.bel.trans (k1.below h.bel.size (fun k e => by have e' : k = g := e; omega))
  have b2 := b1.trans (k2.below b1.size (fun k e => by have := h.ge; have e' : k = lb := e; omega))
  refine ⟨b2, h.ge, _, (h1.kept k1 (fun e => hgl (show lb = g from e).symm)).set 0 _, ?_, fun e => hgl (ho _ _ _ e).symm⟩
  have hrow := hS.row.cut 1 (by show 1 ≤ r.length + 1; omega) ao' (fun b o e hc => by simp at e; rw [ha hc, ← e.1, ← e.2]; rfl)
  have hrow' : QRow (w.setCell ⟨g, off, none⟩ (.string ⟨#[]⟩)) W.heap.size 9 textK.n (.slice ao' r.length (cap - 1)) r.length (flatK textK r) := hrow
  refine KQ.kept ⟨hrow', fun _ _ => trivial, fun _ _ _ h => h.elim, fun k hk => ?_, fun n c e => ?_⟩ k2 (fun k hk e => hgl (by rw [← ho _ _ _ hk]; exact e)) (fun _ _ _ h => h.elim)
  · rw [ho _ _ _ hk]
    exact ⟨q2, Nat.lt_of_lt_of_le q3 k1.size⟩
  · simp only [Value.slice.injEq] at e
    obtain ⟨e1, _, e3⟩ := e
    by_cases hc : cap = 1
    · omega
    · rw [ha hc] at e1; cases e1

set_option maxRecDepth 100000 in
theorem lnNext_nil (h : LnAt W w lb []) : Calls Try.prog 23 #[.pointer (some ⟨lb, 0, none⟩), .func (.func 22) #[] #[]] w fun e w' => e = .returned (.tuple #[.string ⟨#[]⟩, .bool false]) ∧ w' = w := by
  obtain ⟨q, h1, h2, h3⟩ := h.ex
  obtain ⟨ao, cap, rfl, _, _⟩ := h2.form
  have c0 := h1.cell (i := 0) rfl
  go_enter Try.func23, Try.ntmps23
  go_wp2
  go_ret2
  exact ⟨rfl, rfl⟩

theorem yes_any (id : ByteArray) (w : World) : Calls Try.prog 22 #[.string id] w fun e w' => e = .returned (.bool true) ∧ w' = w := by
  go_enter Try.func22, Try.ntmps22
  go_wp2
  go_ret
  exact ⟨rfl, rfl⟩

theorem no_any (id : ByteArray) (w : World) : Calls Try.prog 21 #[.string id] w fun e w' => e = .returned (.bool false) ∧ w' = w := by
  go_enter Try.func21, Try.ntmps21
  go_wp2
  go_ret
  exact ⟨rfl, rfl⟩

set_option maxRecDepth 100000 in
set_option maxHeartbeats 1000000 in
theorem lnNext_no {x : ByteArray} {r : List ByteArray} (h : LnAt W w lb (x :: r)) (hl : r.length ≤ 1000000) : Calls Try.prog 23 #[.pointer (some ⟨lb, 0, none⟩), .func (.func 21) #[] #[]] w fun e w' => e = .returned (.tuple #[.string ⟨#[]⟩, .bool false]) ∧ w' = w := by
  obtain ⟨g, off, cap, q1, q2, q3, q4, q5, q6, q7, q8⟩ := h.spot
  have c0 := q4.cell (i := 0) rfl
  have cY := no_any x w
  have hfn := func_not_nil
  clear q8
  go_enter Try.func23, Try.ntmps23
  go_wp2_with (go_at_call 21; refine cY.mono ?_; rintro e w1 ⟨rfl, rfl⟩)
  go_ret2
  exact ⟨rfl, rfl⟩

set_option maxRecDepth 100000 in
set_option maxHeartbeats 1000000 in
theorem lnNext_yes {x : ByteArray} {r : List ByteArray} (h : LnAt W w lb (x :: r)) (hl : r.length ≤ 1000000) : Calls Try.prog 23 #[.pointer (some ⟨lb, 0, none⟩), .func (.func 22) #[] #[]] w fun e w' => e = .returned (.tuple #[.string x, .bool true]) ∧ LnAt W w' lb r := by
  obtain ⟨g, off, cap, q1, q2, q3, q4, q5, q6, q7, q8⟩ := h.spot
  have c0 := q4.cell (i := 0) rfl
  have cY := yes_any x w
  have hfn := func_not_nil
  have c1 : (w.setCell ⟨g, off, none⟩ (.string ⟨#[]⟩)).cell? ⟨lb, 0, none⟩ = some (.slice (some ⟨g, off, none⟩) (r.length + 1) cap) := by
    have := (q4.kept (Kept.setCell w ⟨g, off, none⟩ (.string ⟨#[]⟩)) (fun e => q3 (show lb = g from e).symm)).cell (i := 0) rfl
    exact this
  have f1 := (q4.kept (Kept.setCell w ⟨g, off, none⟩ (.string ⟨#[]⟩)) (fun e => q3 (show lb = g from e).symm)).frozen 0
  have g1 : (1 : Int) ≤ ((r.length + 1 : Nat) : Int) := by omega
  have g2 : ((r.length + 1 : Nat) : Int) ≤ (cap : Int) := by omega
  have hq8 : Hid _ := q8
  clear q8 h
  go_enter Try.func23, Try.ntmps23
  go_wp2_with (go_at_call 22; refine cY.mono ?_; rintro e w1 ⟨rfl, rfl⟩)
  · have hcap := h
    go_ret2
    have hf := hq8.out (some ⟨g, off, none⟩) (fun hc => absurd hcap hc) (fun k a b e => by simp [Value.ownBlock] at e; exact e.symm)
    rw [show cap - 1 = 0 by omega] at hf
    exact ⟨rfl, hf⟩
  · have hcap := h
    go_ret2
    exact ⟨rfl, hq8.out (some ⟨g, off + 1, none⟩) (fun hc => rfl) (fun k a b e => by simp [Value.ownBlock] at e; exact e.symm)⟩
end
end Go.Proofs.Ytblpkfnhfdkacaa
