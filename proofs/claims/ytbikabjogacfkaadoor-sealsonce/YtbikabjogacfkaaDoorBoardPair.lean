/- Two boards of the program side by side. -/
import Derived.Test.YtbikabjogacfkaaDoorBoardWorks
import Derived.Test.YtbikabjogacfkaaDoorSealsOpen
namespace Go.Proofs.YtbikabjogacfkaaDoor
open Go Go.RowKit
set_option linter.unusedVariables false

theorem wrap_i64 (x : Int) : IntKind.i64.wrap x = wrap64 x := by
  simp only [IntKind.wrap, IntKind.bits, IntKind.signed, wrap64]
  simp
  omega

/-- Two cells of a block are written. -/
theorem kept2 (w : World) (b : Nat) (u v : Value) : Kept (fun k => k = b) w ((w.setCell ⟨b, 0, none⟩ u).setCell ⟨b, 1, none⟩ v) :=
  ((Kept.refl (fun k => k = b) w).set (p := ⟨b, 0, none⟩) rfl _).set (p := ⟨b, 1, none⟩) rfl _

/-- One board over a table. -/
structure One12 (W : World) (tb f : Nat) (ks : List ByteArray) (kind : ByteArray) (pb : Nat) (S : Nat → Prop) (most : Int) (bs : List WordB) (w : World) : Prop where
  env : BEnv W tb f ks kind
  ok : BOk f ks kind bs
  p : PB w pb S tb kind most bs
  gp : ∀ k, S k → W.heap.size ≤ k
  bel : Below W.heap.size W w

section
variable {W : World} {tb f : Nat} {ks : List ByteArray} {kind : ByteArray} {pb : Nat} {S S' : Nat → Prop} {most : Int} {bs bs' : List WordB} {w w' : World}

theorem One12.below (h : One12 W tb f ks kind pb S most bs w) (hb : Below w.heap.size w w') : One12 W tb f ks kind pb S most bs w' :=
  ⟨h.env, h.ok, h.p.below hb, h.gp, h.bel.trans (hb.mono h.bel.size)⟩

theorem One12.step (h : One12 W tb f ks kind pb S most bs w) (hA : PB w' pb S' tb kind most bs') (hf : FreshS w S S') (hk : Kept S w w') (hok : BOk f ks kind bs') : One12 W tb f ks kind pb S' most bs' w' := by
  refine ⟨h.env, hok, hA, fun k e => ?_, h.bel.trans (hk.below h.bel.size h.gp)⟩
  rcases hf k e with e | e
  · exact h.gp k e
  · have := h.bel.size; omega

theorem One12.kept {R : Nat → Prop} (h : One12 W tb f ks kind pb S most bs w) (hk : Kept R w w') (hR : ∀ k, R k → W.heap.size ≤ k) (hS : ∀ k, S k → ¬ R k) : One12 W tb f ks kind pb S most bs w' :=
  ⟨h.env, h.ok, h.p.kept hk hS, h.gp, h.bel.trans (hk.below h.bel.size hR)⟩

theorem One12.open_ (h : One12 W tb f ks kind pb S most bs w) (word : ByteArray) (hw : word.size ≤ 2000) (hl : bs.length < 1000000) :
    Calls Tryd.prog 9 #[.pointer (some ⟨pb, 0, none⟩), .string word] w fun e w' => e = .returned (.int .i64 (openE most bs word : Int)) ∧ ∃ S', One12 W tb f ks kind pb S' most (openB most bs word) w' ∧ FreshS w S S' ∧ Kept S w w' := by
  refine (pbOpen_any word (by unfold maxLen; omega) pb S tb kind most bs w h.p hl).mono ?_
  rintro e w' ⟨rfl, S', h1, h2, h3⟩
  exact ⟨rfl, S', h.step h1 h2 h3 (h.ok.open_ most word hw), h2, h3⟩

theorem One12.close (h : One12 W tb f ks kind pb S most bs w) (word : ByteArray) (hw : word.size ≤ 2000) :
    Calls Tryd.prog 14 #[.pointer (some ⟨pb, 0, none⟩), .string word] w fun e w' => e = .returned (.tuple #[]) ∧ ∃ S', One12 W tb f ks kind pb S' most (closeB word bs) w' ∧ FreshS w S S' ∧ Kept S w w' := by
  refine (pbClose_any word (by unfold maxLen; omega) pb S tb kind most bs w h.p h.ok.nod).mono ?_
  rintro e w' ⟨rfl, S', h1, h2, h3⟩
  exact ⟨rfl, S', h.step h1 h2 h3 (h.ok.close word), h2, h3⟩

theorem One12.add (h : One12 W tb f ks kind pb S most bs w) (word : ByteArray) (hw : word.size ≤ 2000) (t : TagD) :
    Calls Tryd.prog 11 #[.pointer (some ⟨pb, 0, none⟩), .string word, .agg #[.int .i64 t.who, .string t.mac]] w fun e w' => ∃ ao cap, e = .returned (.tuple #[.slice ao (sealL f ks kind bs word t).length cap, .int .i64 (sealE ks kind bs word t : Int)]) ∧ RowAt tagK w' ao (sealL f ks kind bs word t) ∧ (∀ b, rowFoot tagK ao (sealL f ks kind bs word t) b → w.heap.size ≤ b) ∧ ∃ S', One12 W tb f ks kind pb S' most (sealB f ks kind bs word t) w' ∧ FreshS w S S' ∧ Kept S w w' := by
  refine (pbAdd_any word (by unfold maxLen; omega) t pb S tb kind most bs w h.p (h.env.v hw) h.ok h.bel h.gp).mono ?_
  rintro e w' ⟨ao, cap, rfl, h0, h01, S', h1, h2, h3⟩
  exact ⟨ao, cap, rfl, h0, h01, S', h.step h1 h2 h3 (h.ok.seal h.env.kl word t), h2, h3⟩

theorem One12.lt (h : One12 W tb f ks kind pb S most bs w) {k : Nat} (hk : S k) : k < w.heap.size := h.p.lt k hk

theorem One12.new {most : Int} (he : BEnv W tb f ks kind) (hb : Below W.heap.size W w) :
    Calls Tryd.prog 7 #[.pointer (some ⟨tb, 0, none⟩), .string kind, .int .i64 most] w fun e w' => ∃ pb, e = .returned (.pointer (some ⟨pb, 0, none⟩)) ∧ ∃ S, One12 W tb f ks kind pb S (max 0 most) [] w' ∧ (∀ k, S k → w.heap.size ≤ k) ∧ Below w.heap.size w w' := by
  refine (pbNew_any tb kind most w).mono ?_
  rintro e w' ⟨pb, rfl, S, h1, h2, h3⟩
  exact ⟨pb, rfl, S, ⟨he, bok_nil _ _ _, h1, fun k hk => Nat.le_trans hb.size (h2 k hk), hb.trans (h3.mono hb.size)⟩, h2, h3⟩
end

/-- Two boards, apart. -/
structure Pr12 (W : World) (tb f : Nat) (ks : List ByteArray) (kind : ByteArray) (pa pb : Nat) (A B : Nat → Prop) (most : Int) (ab bs : List WordB) (w : World) : Prop where
  a : One12 W tb f ks kind pa A most ab w
  b : One12 W tb f ks kind pb B most bs w
  apart : ∀ k, A k → ¬ B k

section
variable {W : World} {tb f : Nat} {ks : List ByteArray} {kind : ByteArray} {pa pb : Nat} {A B A' B' : Nat → Prop} {most : Int} {ab bs ab' bs' : List WordB} {w w' : World}

theorem Pr12.below (h : Pr12 W tb f ks kind pa pb A B most ab bs w) (hb : Below w.heap.size w w') : Pr12 W tb f ks kind pa pb A B most ab bs w' := ⟨h.a.below hb, h.b.below hb, h.apart⟩

theorem Pr12.stepA (h : Pr12 W tb f ks kind pa pb A B most ab bs w) (hA : One12 W tb f ks kind pa A' most ab' w') (hf : FreshS w A A') (hk : Kept A w w') : Pr12 W tb f ks kind pa pb A' B most ab' bs w' := by
  refine ⟨hA, h.b.kept hk h.a.gp (fun k e e' => h.apart k e' e), fun k e e' => ?_⟩
  rcases hf k e with e | e
  · exact h.apart k e e'
  · have := h.b.lt e'; omega

theorem Pr12.stepB (h : Pr12 W tb f ks kind pa pb A B most ab bs w) (hB : One12 W tb f ks kind pb B' most bs' w') (hf : FreshS w B B') (hk : Kept B w w') : Pr12 W tb f ks kind pa pb A B' most ab bs' w' := by
  refine ⟨h.a.kept hk h.b.gp h.apart, hB, fun k e e' => ?_⟩
  rcases hf k e' with e2 | e2
  · exact h.apart k e e2
  · have := h.a.lt e; omega
end
end Go.Proofs.YtbikabjogacfkaaDoor
