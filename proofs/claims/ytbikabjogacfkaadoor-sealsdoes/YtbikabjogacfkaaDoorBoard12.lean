/- Two boards side by side, the program's and the reference's. -/
import Derived.Test.YtbikabjogacfkaaDoorBoardProg
import Derived.Test.YtbikabjogacfkaaDoorBoardEnv
import Derived.Test.YtbikabjogacfkaaDoorRefBoardAdd
import Derived.Test.YtbikabjogacfkaaDoorSealsOpen
namespace Go.Proofs.YtbikabjogacfkaaDoor
open Go Go.RowKit
set_option linter.unusedVariables false

structure Two12 (W : World) (tb rt f : Nat) (ks : List ByteArray) (kind : ByteArray) (pb rb : Nat) (S R : Nat → Prop) (most : Int) (bs : List WordB) (w : World) : Prop where
  envP : BEnv W tb f ks kind
  envR : BEnv W rt f ks kind
  ok : BOk f ks kind bs
  p : PB w pb S tb kind most bs
  r : RB w rb R rt kind most bs
  apart : ∀ k, S k → ¬ R k
  gp : ∀ k, S k → W.heap.size ≤ k
  gr : ∀ k, R k → W.heap.size ≤ k
  bel : Below W.heap.size W w

section
variable {W : World} {tb rt f : Nat} {ks : List ByteArray} {kind : ByteArray} {pb rb : Nat} {S R S' R' : Nat → Prop} {most : Int} {bs bs' : List WordB} {w w1 w' : World}

theorem Two12.below (h : Two12 W tb rt f ks kind pb rb S R most bs w) (hb : Below w.heap.size w w') : Two12 W tb rt f ks kind pb rb S R most bs w' :=
  ⟨h.envP, h.envR, h.ok, h.p.below hb, h.r.below hb, h.apart, h.gp, h.gr, h.bel.trans (hb.mono h.bel.size)⟩

/-- Behind an act of the program. -/
theorem Two12.stepP (h : Two12 W tb rt f ks kind pb rb S R most bs w) (hA : PB w1 pb S' tb kind most bs') (hf : FreshS w S S') (hk : Kept S w w1) :
    RB w1 rb R rt kind most bs ∧ (∀ k, S' k → ¬ R k) ∧ (∀ k, S' k → W.heap.size ≤ k) ∧ Below W.heap.size W w1 := by
  refine ⟨h.r.kept hk (fun k e e' => h.apart k e' e), fun k e e' => ?_, fun k e => ?_, h.bel.trans (hk.below h.bel.size h.gp)⟩
  · rcases hf k e with e2 | e2
    · exact h.apart k e2 e'
    · have := (h.r.lt e').2; omega
  · rcases hf k e with e2 | e2
    · exact h.gp k e2
    · have := h.bel.size; omega

/-- Behind an act of the program, then of the reference. -/
theorem Two12.both (h : Two12 W tb rt f ks kind pb rb S R most bs w) (hA : PB w1 pb S' tb kind most bs') (hf : FreshS w S S') (hk : Kept S w w1) (hok : BOk f ks kind bs') (hB : RB w' rb R' rt kind most bs') (hf2 : FreshS w1 R R') (hk2 : Kept R w1 w') : Two12 W tb rt f ks kind pb rb S' R' most bs' w' := by
  obtain ⟨h1, h2, h3, h4⟩ := h.stepP hA hf hk
  refine ⟨h.envP, h.envR, hok, hA.kept hk2 (fun k e e' => h2 k e e'), hB, fun k e e' => ?_, h3, fun k e => ?_, h4.trans (hk2.below h4.size h.gr)⟩
  · rcases hf2 k e' with e2 | e2
    · exact h2 k e e2
    · have := hA.lt k e; omega
  · rcases hf2 k e with e2 | e2
    · exact h.gr k e2
    · have := h4.size; omega
end

/-- What is done lies in a block which no board has. -/
structure ActAt (w : World) (ob : Nat) (o : ActD) (S R : Nat → Prop) : Prop where
  row : Arr w ob 34 (actK.c o)
  offP : ¬ S ob
  offR : ¬ R ob

section
variable {w w' : World} {ob : Nat} {o : ActD} {S R S' R' : Nat → Prop}
theorem ActAt.below (h : ActAt w ob o S R) (hb : Below w.heap.size w w') : ActAt w' ob o S R := ⟨h.row.below hb h.row.lt, h.offP, h.offR⟩

theorem ActAt.stepA (h : ActAt w ob o S R) (hf : FreshS w S S') (hk : Kept S w w') : ActAt w' ob o S' R := by
  refine ⟨h.row.kept hk h.offP, fun e => ?_, h.offR⟩
  rcases hf ob e with e2 | e2
  · exact h.offP e2
  · have := h.row.lt; omega

theorem ActAt.stepB (h : ActAt w ob o S R) (hf : FreshS w R R') (hk : Kept R w w') : ActAt w' ob o S R' := by
  refine ⟨h.row.kept hk h.offR, h.offP, fun e => ?_⟩
  rcases hf ob e with e2 | e2
  · exact h.offR e2
  · have := h.row.lt; omega

theorem ActAt.cells (h : ActAt w ob o S R) : w.cell? ⟨ob, 1, none⟩ = some (.string o.word) ∧ w.cell? ⟨ob, 2, none⟩ = some (.int .i64 o.who) ∧ w.cell? ⟨ob, 3, none⟩ = some (.string o.mac) := ⟨h.row.cell (i := 1) rfl, h.row.cell (i := 2) rfl, h.row.cell (i := 3) rfl⟩
end
end Go.Proofs.YtbikabjogacfkaaDoor
