/- The contracts of a table, and two tables side by side, the program's and the reference's. -/
import Derived.Test.YtegahpgokmcjhaaTabFns
import Derived.Test.YtegahpgokmcjhaaTabIds
import Derived.Test.YtegahpgokmcjhaaRefTab
import Derived.Test.YtegahpgokmcjhaaRefTabDrop
import Derived.Test.YtegahpgokmcjhaaRefTabPut
import Derived.Test.YtegahpgokmcjhaaTabOpen
namespace Go.Proofs.Ytegahpgokmcjhaa
open Go Go.RowKit Go.Maps
set_option linter.unusedVariables false

/-- A table at block tb; S: the blocks that it has. -/
structure PT (w : World) (tb : Nat) (S : Nat → Prop) (most low : Int) (l : List ThingD) : Prop where
  at_ : ∃ mb m0, most = max 0 m0 ∧ (∀ k, S k ↔ k = tb ∨ k = mb) ∧ PTab w tb mb m0 low l
  rise : Rise l

theorem PT.tb {w : World} {tb : Nat} {S : Nat → Prop} {most low : Int} {l : List ThingD} (h : PT w tb S most low l) : S tb := by
  obtain ⟨⟨mb, m0, rfl, h1, h2⟩, _⟩ := h
  exact (h1 tb).2 (Or.inl rfl)

theorem PT.lt {w : World} {tb : Nat} {S : Nat → Prop} {most low : Int} {l : List ThingD} (h : PT w tb S most low l) {k : Nat} (hk : S k) : k < w.heap.size := by
  obtain ⟨⟨mb, m0, rfl, h1, h2⟩, _⟩ := h
  rcases (h1 k).1 hk with e | e
  · rw [e]; exact h2.box.lt
  · rw [e]; exact h2.map.lt

theorem PT.kept {S' : Nat → Prop} {w w' : World} {tb : Nat} {S : Nat → Prop} {most low : Int} {l : List ThingD} (h : PT w tb S most low l) (hk : Kept S' w w') (hS : ∀ k, S k → ¬ S' k) : PT w' tb S most low l := by
  obtain ⟨⟨mb, m0, rfl, h1, h2⟩, h3⟩ := h
  exact ⟨⟨mb, m0, rfl, h1, h2.kept hk (hS tb ((h1 tb).2 (Or.inl rfl))) (hS mb ((h1 mb).2 (Or.inr rfl)))⟩, h3⟩

theorem PT.below {w w' : World} {tb : Nat} {S : Nat → Prop} {most low : Int} {l : List ThingD} (h : PT w tb S most low l) (hb : Below w.heap.size w w') : PT w' tb S most low l := by
  obtain ⟨⟨mb, m0, rfl, h1, h2⟩, h3⟩ := h
  exact ⟨⟨mb, m0, rfl, h1, h2.below hb⟩, h3⟩

/-- What a table has behind an act: what it had, or new. -/
def FreshS (w : World) (S S' : Nat → Prop) : Prop := ∀ k, S' k → S k ∨ w.heap.size ≤ k

theorem ptNew_any (most : Int) (w : World) :
    Calls Try.prog 6 #[.int .i64 most] w fun e w' => ∃ tb, e = .returned (.pointer (some ⟨tb, 0, none⟩)) ∧ ∃ S, PT w' tb S (max 0 most) (-9223372036854775808) [] ∧ (∀ k, S k → w.heap.size ≤ k) ∧ Below w.heap.size w w' := by
  refine (tabNew_any most w).mono ?_
  rintro e w' ⟨tb, rfl, mb, h1, h2, h3, h4⟩
  exact ⟨tb, rfl, fun k => k = tb ∨ k = mb, ⟨⟨mb, most, rfl, fun k => Iff.rfl, h1⟩, Rise.nil⟩, fun k hk => by rcases hk with rfl | rfl <;> assumption, h4⟩

theorem ptLen_any (tb : Nat) (S : Nat → Prop) (most low : Int) (l : List ThingD) (w : World) (h : PT w tb S most low l) :
    Calls Try.prog 14 #[.pointer (some ⟨tb, 0, none⟩)] w fun e w' => e = .returned (.int .i64 (l.length : Int)) ∧ Below w.heap.size w w' := by
  obtain ⟨⟨mb, m0, rfl, h1, h2⟩, h3⟩ := h
  refine (tabLen_any tb mb m0 low l w h2).mono ?_
  rintro e w' ⟨rfl, rfl⟩
  exact ⟨rfl, Below.refl _ _⟩

theorem ptGet_any (id : ByteArray) (hid : id.size ≤ maxLen) (tb : Nat) (S : Nat → Prop) (most low : Int) (l : List ThingD) (w : World) (h : PT w tb S most low l) :
    Calls Try.prog 12 #[.pointer (some ⟨tb, 0, none⟩), .string id] w fun e w' => e = .returned (.tuple #[.string (gotS (getR l id)), .int .i64 (gotR (getR l id)), .bool (getR l id).isSome]) ∧ Below w.heap.size w w' := by
  obtain ⟨⟨mb, m0, rfl, h1, h2⟩, h3⟩ := h
  exact tabGet_any id hid tb mb m0 low l w h2

theorem ptIds_any (round : Int) (tb : Nat) (S : Nat → Prop) (most low : Int) (l : List ThingD) (w : World) (h : PT w tb S most low l) :
    Calls Try.prog 16 #[.pointer (some ⟨tb, 0, none⟩), .int .i64 round] w fun e w' => ∃ v, e = .returned v ∧ KQ textK 9 w' w.heap.size v (idsL l round) ∧ Below w.heap.size w w' := by
  obtain ⟨⟨mb, m0, rfl, h1, h2⟩, h3⟩ := h
  exact tabIds_any round tb mb m0 low l w h2 h3

theorem ptDrop_any (round : Int) (tb : Nat) (S : Nat → Prop) (most low : Int) (l : List ThingD) (w : World) (h : PT w tb S most low l) :
    Calls Try.prog 8 #[.pointer (some ⟨tb, 0, none⟩), .int .i64 round] w fun e w' => e = .returned (.int .i64 ((l.length : Int) - ((dropL l round).length : Int))) ∧ ∃ S', PT w' tb S' most (max low round) (dropL l round) ∧ FreshS w S S' ∧ Kept S w w' := by
  obtain ⟨⟨mb, m0, rfl, h1, h2⟩, h3⟩ := h
  refine (tabDrop_any round tb mb m0 low l w h2).mono ?_
  rintro e w' ⟨rfl, h4, h5⟩
  exact ⟨rfl, S, ⟨⟨mb, m0, rfl, h1, h4⟩, h3.drop round⟩, fun k hk => Or.inl hk, h5.mono (fun k _ hk => (h1 k).2 hk)⟩

theorem rise_putTP {most low : Int} {l : List ThingD} {x : ThingD} (h : Rise l) : Rise (putTP most l low x) := by
  unfold putTP
  by_cases he : putEP most l low x.id x.round = 0
  · rw [if_pos he]
    refine h.put (fun hm => ?_)
    have : (getR l x.id).isSome = true := by
      obtain ⟨y, hy, e⟩ := List.mem_map.1 hm
      unfold getR
      rw [List.find?_isSome]
      exact ⟨y, hy, by rw [bytes_eq]; exact decide_eq_true e⟩
    unfold putEP at he
    rw [if_pos this] at he
    cases he
  · rw [if_neg he]
    exact h

theorem putEP_max (m0 : Int) (l : List ThingD) (low : Int) (id : ByteArray) (round : Int) : putEP m0 l low id round = putEP (max 0 m0) l low id round := by
  unfold putEP
  have : (m0 ≤ (l.length : Int)) ↔ (max 0 m0 ≤ (l.length : Int)) := by omega
  simp only [this]

theorem putTP_max (m0 : Int) (l : List ThingD) (low : Int) (x : ThingD) : putTP m0 l low x = putTP (max 0 m0) l low x := by
  unfold putTP
  rw [putEP_max]

theorem ptPut_any (id : ByteArray) (hid : id.size ≤ maxLen) (round : Int) (s : ByteArray) (tb : Nat) (S : Nat → Prop) (most low : Int) (l : List ThingD) (w : World) (h : PT w tb S most low l) (hl6 : l.length < 1000000) :
    Calls Try.prog 10 #[.pointer (some ⟨tb, 0, none⟩), .string id, .int .i64 round, .string s] w fun e w' => e = .returned (.int .i64 (putEP most l low id round : Int)) ∧ ∃ S', PT w' tb S' most low (putTP most l low ⟨id, round, s⟩) ∧ FreshS w S S' ∧ Kept S w w' := by
  obtain ⟨⟨mb, m0, rfl, h1, h2⟩, h3⟩ := h
  refine (tabPut_any id hid round s tb mb m0 low l w h2 hl6).mono ?_
  rintro e w' ⟨rfl, h4, h5⟩
  rw [putTP_max] at h4
  rw [putEP_max]
  exact ⟨rfl, S, ⟨⟨mb, m0, rfl, h1, h4⟩, rise_putTP h3⟩, fun k hk => Or.inl hk, h5.mono (fun k _ hk => (h1 k).2 hk)⟩

/-- What the program keeps for the bound. -/
def lowP (cut : Bool) (low : Int) : Int := if cut = true then low else -9223372036854775808

theorem putEP_eq {most : Int} {l : List ThingD} {cut : Bool} {low : Int} {id : ByteArray} {round : Int} (hr : -9223372036854775808 ≤ round) : putEP most l (lowP cut low) id round = putE most l cut low id round := by
  unfold putEP putE lowP
  cases cut with
  | true => simp
  | false =>
    have : ¬ round < -9223372036854775808 := by omega
    simp [this]

theorem putTP_eq {most : Int} {l : List ThingD} {cut : Bool} {low : Int} {x : ThingD} (hr : -9223372036854775808 ≤ x.round) : putTP most l (lowP cut low) x = putT most l cut low x := by
  unfold putTP putT
  rw [putEP_eq hr]

theorem lowP_drop {cut : Bool} {low round : Int} (hr : -9223372036854775808 ≤ round) : max (lowP cut low) round = lowP true (lowR cut low round) := by
  unfold lowP lowR
  cases cut with
  | true =>
    simp
    split <;> omega
  | false =>
    simp
    omega

theorem putT_le (most : Int) (l : List ThingD) (cut : Bool) (low : Int) (x : ThingD) : (putT most l cut low x).length ≤ l.length + 1 := by
  unfold putT
  split
  · rw [putL_length]; omega
  · omega

/-- Both tables, apart; nothing that was there is turned. -/
structure Two11 (W : World) (tb rb : Nat) (S : Nat → Prop) (q : Value) (most : Int) (l : List ThingD) (cut : Bool) (low : Int) (w : World) : Prop where
  p : PT w tb S most (lowP cut low) l
  r : RTab w rb q most l cut low
  apart : ∀ k, S k → ¬ BoxS rb q k
  gp : ∀ k, S k → W.heap.size ≤ k
  gr : W.heap.size ≤ rb
  bel : Below W.heap.size W w

theorem RTab.lt {w : World} {rb : Nat} {q : Value} {most : Int} {l : List ThingD} {cut : Bool} {low : Int} (h : RTab w rb q most l cut low) {k : Nat} (hk : BoxS rb q k) : rb ≤ k ∧ k < w.heap.size := by
  rcases hk with e | e
  · rw [e]; exact ⟨Nat.le_refl _, h.box.lt⟩
  · have := h.ge e; omega

theorem Two11.below {W : World} {tb rb : Nat} {S : Nat → Prop} {q : Value} {most : Int} {l : List ThingD} {cut : Bool} {low : Int} {w w' : World} (h : Two11 W tb rb S q most l cut low w) (hb : Below w.heap.size w w') : Two11 W tb rb S q most l cut low w' :=
  ⟨h.p.below hb, h.r.below hb, h.apart, h.gp, h.gr, h.bel.trans (hb.mono h.bel.size)⟩

theorem Two11.stepP {W : World} {tb rb : Nat} {S S' : Nat → Prop} {q : Value} {most : Int} {l l' : List ThingD} {cut : Bool} {low low' : Int} {w w' : World} (h : Two11 W tb rb S q most l cut low w) (hA : PT w' tb S' most low' l') (hf : FreshS w S S') (hk : Kept S w w') :
    RTab w' rb q most l cut low ∧ (∀ k, S' k → ¬ BoxS rb q k) ∧ (∀ k, S' k → W.heap.size ≤ k) ∧ Below W.heap.size W w' := by
  refine ⟨h.r.kept hk (fun e => h.apart rb e (Or.inl rfl)) (fun k e e' => h.apart k e' (Or.inr e)), fun k e e' => ?_, fun k e => ?_, h.bel.trans (hk.below h.bel.size (fun k e => h.gp k e))⟩
  · rcases hf k e with e2 | e2
    · exact h.apart k e2 e'
    · have := (h.r.lt e').2; omega
  · rcases hf k e with e2 | e2
    · exact h.gp k e2
    · have := h.bel.size; omega

/-- Behind an act of the program, then of the reference. -/
theorem Two11.both {W : World} {tb rb : Nat} {S S' : Nat → Prop} {q q' : Value} {most : Int} {l l' : List ThingD} {cut cut' : Bool} {low low' low2 : Int} {w w1 w' : World} (h : Two11 W tb rb S q most l cut low w) (hA : PT w1 tb S' most low2 l') (hf : FreshS w S S') (hk : Kept S w w1)
    (e2 : low2 = lowP cut' low') (hB : RTab w' rb q' most l' cut' low') (hf2 : FreshQ w1 q q') (hk2 : Kept (BoxS rb q) w1 w') : Two11 W tb rb S' q' most l' cut' low' w' := by
  obtain ⟨h1, h2, h3, h4⟩ := h.stepP hA hf hk
  subst e2
  refine ⟨hA.kept hk2 h2, hB, fun k e e' => ?_, h3, h.gr, h4.trans (hk2.below h4.size (fun k e => by have := (h1.lt e).1; have := h.gr; omega))⟩
  rcases e' with e' | e'
  · exact h2 k e (Or.inl e')
  · rcases hf2 k e' with e5 | e5
    · exact h2 k e (Or.inr e5)
    · have := hA.lt e; omega

/-- What is done or asked lies in a block which no table has. -/
structure OpAt (w : World) (ob : Nat) (o : OpD) (S : Nat → Prop) (rb : Nat) (q : Value) : Prop where
  row : Arr w ob 28 (opK.c o)
  offP : ¬ S ob
  offR : ¬ BoxS rb q ob

theorem OpAt.below {w w' : World} {ob : Nat} {o : OpD} {S : Nat → Prop} {rb : Nat} {q : Value} (h : OpAt w ob o S rb q) (hb : Below w.heap.size w w') : OpAt w' ob o S rb q := ⟨h.row.below hb h.row.lt, h.offP, h.offR⟩

theorem OpAt.stepA {w w' : World} {ob : Nat} {o : OpD} {S S' : Nat → Prop} {rb : Nat} {q : Value} (h : OpAt w ob o S rb q) (hf : FreshS w S S') (hk : Kept S w w') : OpAt w' ob o S' rb q := by
  refine ⟨h.row.kept hk h.offP, fun e => ?_, h.offR⟩
  rcases hf ob e with e2 | e2
  · exact h.offP e2
  · have := h.row.lt; omega

theorem OpAt.stepB {w w' : World} {ob : Nat} {o : OpD} {S : Nat → Prop} {rb : Nat} {q q' : Value} (h : OpAt w ob o S rb q) (hf : FreshQ w q q') (hk : Kept (BoxS rb q) w w') : OpAt w' ob o S rb q' := by
  refine ⟨h.row.kept hk h.offR, h.offP, fun e => ?_⟩
  rcases e with e | e
  · exact h.offR (Or.inl e)
  · rcases hf ob e with e2 | e2
    · exact h.offR (Or.inr e2)
    · have := h.row.lt; omega

theorem OpAt.cells {w : World} {ob : Nat} {o : OpD} {S : Nat → Prop} {rb : Nat} {q : Value} (h : OpAt w ob o S rb q) : w.cell? ⟨ob, 1, none⟩ = some (.string o.id) ∧ w.cell? ⟨ob, 2, none⟩ = some (.int .i64 o.round) ∧ w.cell? ⟨ob, 3, none⟩ = some (.string o.s) := ⟨h.row.cell (i := 1) rfl, h.row.cell (i := 2) rfl, h.row.cell (i := 3) rfl⟩

/-- What is asked is laid over what was done. -/
def setOp (w : World) (ob : Nat) (o : OpD) : World := (((w.setCell ⟨ob, 0, none⟩ (.bool o.drop)).setCell ⟨ob, 1, none⟩ (.string o.id)).setCell ⟨ob, 2, none⟩ (.int .i64 o.round)).setCell ⟨ob, 3, none⟩ (.string o.s)

theorem setOp_kept (w : World) (ob : Nat) (o : OpD) : Kept (fun k => k = ob) w (setOp w ob o) :=
  ((((Kept.refl (fun k => k = ob) w).set (p := ⟨ob, 0, none⟩) rfl _).set (p := ⟨ob, 1, none⟩) rfl _).set (p := ⟨ob, 2, none⟩) rfl _).set (p := ⟨ob, 3, none⟩) rfl _

theorem OpAt.put {w : World} {ob : Nat} {o : OpD} {S : Nat → Prop} {rb : Nat} {q : Value} (h : OpAt w ob o S rb q) (o2 : OpD) : OpAt (setOp w ob o2) ob o2 S rb q :=
  ⟨(((h.row.set 0 _).set 1 _).set 2 _).set 3 _, h.offP, h.offR⟩

theorem Two11.put {W : World} {tb rb : Nat} {S : Nat → Prop} {q : Value} {most : Int} {l : List ThingD} {cut : Bool} {low : Int} {w : World} (h : Two11 W tb rb S q most l cut low w) {ob : Nat} {o : OpD} (hX : OpAt w ob o S rb q) (hW : W.heap.size ≤ ob) (o2 : OpD) : Two11 W tb rb S q most l cut low (setOp w ob o2) := by
  have hk := setOp_kept w ob o2
  exact ⟨h.p.kept hk (fun k e e' => hX.offP (by rw [← show k = ob from e']; exact e)), h.r.kept hk (fun e => hX.offR (by rw [← show rb = ob from e]; exact Or.inl rfl)) (fun k e e' => hX.offR (by rw [← show k = ob from e']; exact Or.inr e)), h.apart, h.gp, h.gr, h.bel.trans (hk.below h.bel.size (fun k e => by have : k = ob := e; omega))⟩

theorem Two11.held {W : World} {tb rb : Nat} {S : Nat → Prop} {q : Value} {most : Int} {l : List ThingD} {cut : Bool} {low : Int} {w : World} (h : Two11 W tb rb S q most l cut low w) {ob : Nat} {o : OpD} (hX : OpAt w ob o S rb q) : w.cell? ⟨ob, 2, none⟩ = some (.int .i64 o.round) ∧ w.cell? ⟨rb, 1, none⟩ = some q := ⟨hX.row.cell (i := 2) rfl, h.r.box.cell (i := 1) rfl⟩
end Go.Proofs.Ytegahpgokmcjhaa
