/- Two bags side by side, the program's and the reference's. -/
import Derived.Test.YtmbfidegcebbdaaNetWorks
import Derived.Test.YtmbfidegcebbdaaRefNetTake
import Derived.Test.YtmbfidegcebbdaaNetOpen
namespace Go.Proofs.Ytmbfidegcebbdaa
open Go.RowKit
set_option linter.unusedVariables false

/-- Both bags, apart; nothing that was there is turned. -/
structure Two (W : World) (bb rb : Nat) (q r : Value) (l l2 : List EnvD) (n n2 : Nat) (w : World) : Prop where
  b : BagAt 46 w bb q l n
  rr : BagAt 28 w rb r l2 n2
  apart : ∀ k, BagS bb q k → ¬ BagS rb r k
  gb : W.heap.size ≤ bb
  gr : W.heap.size ≤ rb
  bel : Below W.heap.size W w

theorem BagAt.lt {T : TypeId} {w : World} {bb : Nat} {q : Value} {l : List EnvD} {n : Nat} (h : BagAt T w bb q l n) {k : Nat} (hk : BagS bb q k) : k < w.heap.size := by
  rcases hk with e | e
  · rw [e]; exact h.box.lt
  · exact (h.ge e).2

theorem BagAt.from {T : TypeId} {w : World} {bb B : Nat} {q : Value} {l : List EnvD} {n : Nat} (h : BagAt T w bb q l n) (hB : B ≤ bb) {k : Nat} (hk : BagS bb q k) : B ≤ k := by
  rcases hk with e | e
  · omega
  · have := (h.ge e).1; omega

theorem Two.below {W : World} {bb rb : Nat} {q r : Value} {l l2 : List EnvD} {n n2 : Nat} {w w' : World} (h : Two W bb rb q r l l2 n n2 w) (hb : Below w.heap.size w w') : Two W bb rb q r l l2 n n2 w' :=
  ⟨h.b.below hb, h.rr.below hb, h.apart, h.gb, h.gr, h.bel.trans (hb.mono h.bel.size)⟩

theorem Two.stepA {W : World} {bb rb : Nat} {q r q' : Value} {l l2 l' : List EnvD} {n n2 n' : Nat} {w w' : World} (h : Two W bb rb q r l l2 n n2 w) (hA : BagAt 46 w' bb q' l' n') (hf : Fresh w q q') (hk : Kept (BagS bb q) w w') : Two W bb rb q' r l' l2 n' n2 w' := by
  refine ⟨hA, h.rr.kept hk (fun e => h.apart rb e (Or.inl rfl)) (fun k e e' => h.apart k e' (Or.inr e)), fun k e e' => ?_, h.gb, h.gr, h.bel.trans (hk.below h.bel.size (fun k e => h.b.from h.gb e))⟩
  rcases e with e | e
  · exact h.apart k (Or.inl e) e'
  · rcases hf k e with e2 | e2
    · exact h.apart k (Or.inr e2) e'
    · have := h.rr.lt e'; omega

theorem Two.stepB {W : World} {bb rb : Nat} {q r r' : Value} {l l2 l' : List EnvD} {n n2 n' : Nat} {w w' : World} (h : Two W bb rb q r l l2 n n2 w) (hA : BagAt 28 w' rb r' l' n') (hf : Fresh w r r') (hk : Kept (BagS rb r) w w') : Two W bb rb q r' l l' n n' w' := by
  refine ⟨h.b.kept hk (fun e => h.apart bb (Or.inl rfl) e) (fun k e e' => h.apart k (Or.inr e) e'), hA, fun k e e' => ?_, h.gb, h.gr, h.bel.trans (hk.below h.bel.size (fun k e => h.rr.from h.gr e))⟩
  rcases e' with e' | e'
  · exact h.apart k e (Or.inl e')
  · rcases hf k e' with e2 | e2
    · exact h.apart k e (Or.inr e2)
    · have := h.b.lt e; omega

/-- An act that lies in a block which no bag has. -/
structure ActAt (w : World) (ob : Nat) (o : ActD) (bb rb : Nat) (q r : Value) : Prop where
  row : Arr w ob 32 (actK.c o)
  offB : ¬ BagS bb q ob
  offR : ¬ BagS rb r ob

theorem ActAt.below {w w' : World} {ob : Nat} {o : ActD} {bb rb : Nat} {q r : Value} (h : ActAt w ob o bb rb q r) (hb : Below w.heap.size w w') : ActAt w' ob o bb rb q r := ⟨h.row.below hb h.row.lt, h.offB, h.offR⟩

theorem ActAt.stepA {w w' : World} {ob : Nat} {o : ActD} {bb rb : Nat} {q r q' : Value} (h : ActAt w ob o bb rb q r) (hf : Fresh w q q') (hk : Kept (BagS bb q) w w') : ActAt w' ob o bb rb q' r := by
  refine ⟨h.row.kept hk h.offB, fun e => ?_, h.offR⟩
  rcases e with e | e
  · exact h.offB (Or.inl e)
  · rcases hf ob e with e2 | e2
    · exact h.offB (Or.inr e2)
    · have := h.row.lt; omega

theorem ActAt.stepB {w w' : World} {ob : Nat} {o : ActD} {bb rb : Nat} {q r r' : Value} (h : ActAt w ob o bb rb q r) (hf : Fresh w r r') (hk : Kept (BagS rb r) w w') : ActAt w' ob o bb rb q r' := by
  refine ⟨h.row.kept hk h.offR, h.offB, fun e => ?_⟩
  rcases e with e | e
  · exact h.offR (Or.inl e)
  · rcases hf ob e with e2 | e2
    · exact h.offR (Or.inr e2)
    · have := h.row.lt; omega

/-- The cells of an act. -/
def ActS (ob : Nat) (o : ActD) (w : World) : Prop := w.cell? ⟨ob, 1, none⟩ = some (.int .i64 o.e.fr) ∧ w.cell? ⟨ob, 2, none⟩ = some (.int .i64 o.e.to) ∧ w.cell? ⟨ob, 3, none⟩ = some (.string o.e.by_) ∧ w.cell? ⟨ob, 4, none⟩ = some (.int .i64 o.n)

theorem ActAt.cells {w : World} {ob : Nat} {o : ActD} {bb rb : Nat} {q r : Value} (h : ActAt w ob o bb rb q r) : ActS ob o w := ⟨h.row.cell (i := 1) rfl, h.row.cell (i := 2) rfl, h.row.cell (i := 3) rfl, h.row.cell (i := 4) rfl⟩

theorem RowAt.act {w : World} {ao : Option Addr} {l : List ActD} (h : RowAt actK w ao l) {i : Nat} {x : ActD} (hx : l[i]? = some x) :
    ∃ g off, ao = some ⟨g, off, none⟩ ∧ g < w.heap.size ∧ w.cell? ⟨g, off + i * 6, none⟩ = some (.int .i64 x.kind) ∧ w.cell? ⟨g, off + i * 6 + 1, none⟩ = some (.int .i64 x.e.fr) ∧ w.cell? ⟨g, off + i * 6 + 2, none⟩ = some (.int .i64 x.e.to) ∧ w.cell? ⟨g, off + i * 6 + 3, none⟩ = some (.string x.e.by_) ∧ w.cell? ⟨g, off + i * 6 + 4, none⟩ = some (.int .i64 x.n) ∧ w.cell? ⟨g, off + i * 6 + 5, none⟩ = some (.int .i64 x.more) := by
  obtain ⟨g, off, h1, h2, h3⟩ := h.cell i x hx
  exact ⟨g, off, h1, h2, h3 0 _ rfl, h3 1 _ rfl, h3 2 _ rfl, h3 3 _ rfl, h3 4 _ rfl, h3 5 _ rfl⟩

/-- Two empty ones, new. -/
theorem two_none {W w : World} (h : BagAt 46 w W.heap.size (.slice none 0 0) [] 0) (hb : Below W.heap.size W w) :
    Two W W.heap.size w.heap.size (.slice none 0 0) (.slice none 0 0) [] [] 0 0 (w.alloc (.cells #[.slice none 0 0, .int .i64 0] 28)) := by
  have hn := belowNew w (.cells #[.slice none 0 0, .int .i64 0] 28)
  refine ⟨h.below hn, ⟨Arr.new w 28 [.slice none 0 0, .int .i64 0], KQ.empty _ _ _ _, by decide⟩, ?_, Nat.le_refl _, hb.size, hb.trans (hn.mono hb.size)⟩
  rintro k (e | e) (e' | e')
  · have := h.box.lt; omega
  · cases e'
  · cases e
  · cases e
end Go.Proofs.Ytmbfidegcebbdaa
