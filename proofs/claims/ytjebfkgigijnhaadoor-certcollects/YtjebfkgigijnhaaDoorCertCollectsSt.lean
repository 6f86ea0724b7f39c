/- What both sides have collected, side by side. -/
import Derived.Test.YtjebfkgigijnhaaDoorRefVotes
import Derived.Test.YtjebfkgigijnhaaDoorRefHdrSame
namespace Go.Proofs.YtjebfkgigijnhaaDoor
open Go.RowKit
set_option linter.unusedVariables false

/-- The program has collected Pv, the reference Pr. -/
structure CSt (w0 : World) (tb rt n : Nat) (ks : List ByteArray) (kind word : ByteArray) (vb rb B : Nat) (ao : Option Addr) (cap : Nat) (Pv Pr : List (Option TagD)) (w : World) : Prop where
  env : VEnv w0 tb n ks kind word
  rtab : Mx.TabAt w0 rt n ks
  v : VSt w0 tb n ks kind word vb Pv w
  r : RVAt w rb rt kind word B ao cap (inL Pr)
  pr : Places (chkT ks kind word) (3 * n + 1) Pr
  vB : vb < B
  rn : w0.heap.size ≤ rb
  ne : vb ≠ rb
  bB : B ≤ w.heap.size

section
variable {w0 : World} {tb rt n : Nat} {ks : List ByteArray} {kind word : ByteArray} {vb rb B : Nat} {ao : Option Addr} {cap : Nat} {Pv Pr P : List (Option TagD)} {w : World}

theorem CSt.below (h : CSt w0 tb rt n ks kind word vb rb B ao cap Pv Pr w) {w' : World} (hb : Below w.heap.size w w') : CSt w0 tb rt n ks kind word vb rb B ao cap Pv Pr w' :=
  ⟨h.env, h.rtab, h.v.below hb, h.r.below hb, h.pr, h.vB, h.rn, h.ne, Nat.le_trans h.bB hb.size⟩

theorem CSt.add (h : CSt w0 tb rt n ks kind word vb rb B ao cap P Pr w) (t : TagD) :
    Calls Tryd.prog 18 #[.pointer (some ⟨vb, 0, none⟩), .agg #[.int .i64 t.who, .string t.mac]] w fun e w' => e = .returned (.int .i64 (addE (chkT ks kind word) P t : Int)) ∧ CSt w0 tb rt n ks kind word vb rb B ao cap (addP (chkT ks kind word) P t) Pr w' := by
  refine (h.env.add h.v t).mono ?_
  rintro e w' ⟨rfl, h1, hk⟩
  refine ⟨rfl, h.env, h.rtab, h1, h.r.kept hk (fun e => h.ne e.symm) (fun k hk e => ?_), h.pr, h.vB, h.rn, h.ne, Nat.le_trans h.bB hk.size⟩
  have := h.vB
  have e' : k = vb := e
  omega

theorem CSt.radd (h : CSt w0 tb rt n ks kind word vb rb B ao cap Pv P w) (t : TagD) :
    Calls Tryd.prog 19 #[.pointer (some ⟨rb, 0, none⟩), .agg #[.int .i64 t.who, .string t.mac]] w fun e w' => ∃ ao' cap', e = .returned (.int .i64 (addE (chkT ks kind word) P t : Int)) ∧ CSt w0 tb rt n ks kind word vb rb B ao' cap' Pv (addP (chkT ks kind word) P t) w' := by
  refine (refAdd7_any t w h.r h.bB (h.rtab.below h.v.bel) h.env.f2 h.env.kl h.env.k32 h.pr h.env.kd h.env.wd (h.env.glob.below h.v.bel)).mono ?_
  rintro e w' ⟨ao', cap', rfl, h1, hk⟩
  refine ⟨ao', cap', rfl, h.env, h.rtab, h.v.kept hk h.ne (fun k e => ?_), h1, h.pr.add (fun hc => ?_), h.vB, h.rn, h.ne, Nat.le_trans h.bB hk.size⟩
  · have e' : k = rb := e
    rw [e']
    exact h.rn
  · have hz := chkT_zero hc
    have := h.env.kl
    omega

theorem CSt.full (h : CSt w0 tb rt n ks kind word vb rb B ao cap Pv Pr w) :
    Calls Tryd.prog 20 #[.pointer (some ⟨vb, 0, none⟩)] w fun e w' => e = .returned (.bool (decide (2 * n + 1 ≤ (inL Pv).length))) ∧ CSt w0 tb rt n ks kind word vb rb B ao cap Pv Pr w' := by
  refine (h.env.full h.v).mono ?_
  rintro e w' ⟨rfl, hb⟩
  exact ⟨rfl, h.below hb⟩

theorem CSt.rfull (h : CSt w0 tb rt n ks kind word vb rb B ao cap Pv Pr w) :
    Calls Tryd.prog 21 #[.pointer (some ⟨rb, 0, none⟩)] w fun e w' => e = .returned (.bool (decide (2 * n + 1 ≤ (inL Pr).length))) ∧ CSt w0 tb rt n ks kind word vb rb B ao cap Pv Pr w' := by
  refine (refFull_any w h.r (h.rtab.below h.v.bel) h.env.f2).mono ?_
  rintro e w' ⟨rfl, hb⟩
  exact ⟨rfl, h.below hb⟩

theorem CSt.tags (h : CSt w0 tb rt n ks kind word vb rb B ao cap Pv Pr w) :
    Calls Tryd.prog 23 #[.pointer (some ⟨vb, 0, none⟩)] w fun e w' => ∃ a1 c1, e = .returned (.slice a1 (inL Pv).length c1) ∧ RowAt tagK w' a1 (inL Pv) ∧ CSt w0 tb rt n ks kind word vb rb B ao cap Pv Pr w' := by
  refine (h.env.tags h.v).mono ?_
  rintro e w' ⟨a1, c1, rfl, h1, _, _, hb⟩
  exact ⟨a1, c1, rfl, h1, h.below hb⟩

theorem CSt.cell (h : CSt w0 tb rt n ks kind word vb rb B ao cap Pv Pr w) : w.cell? ⟨rb, 3, none⟩ = some (.slice ao (inL Pr).length cap) := h.r.box.cell (i := 3) rfl

theorem CSt.same (h : CSt w0 tb rt n ks kind word vb rb B ao cap P P w) {a1 : Option Addr} {c1 : Nat} (h1 : RowAt tagK w a1 (inL P)) :
    Calls Tryd.prog 22 #[.slice a1 (inL P).length c1, .slice ao (inL P).length cap] w fun e w' => e = .returned (.bool true) ∧ CSt w0 tb rt n ks kind word vb rb B ao cap P P w' := by
  refine (sameTags_any a1 ao c1 cap (inL P) w h1 h.r.row (by have := h.pr.few; omega)).mono ?_
  rintro e w' ⟨rfl, hb⟩
  exact ⟨rfl, h.below hb⟩
end
end Go.Proofs.YtjebfkgigijnhaaDoor
