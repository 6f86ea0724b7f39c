/- Collected tags over a world in which the table lies: what Add, Tags and Full do, one behind the other. -/
import Derived.Test.YtbikabjogacfkaaDoorVotesFns
namespace Go.Proofs.YtbikabjogacfkaaDoor
open Go.RowKit Go.Sort
set_option linter.unusedVariables false

/-- The table, in the world w0. -/
structure VEnv (w0 : World) (tb f : Nat) (ks : List ByteArray) (kind word : ByteArray) : Prop where
  tab : Mx.TabAt w0 tb f ks
  f2 : f ≤ 2
  kl : ks.length = 3 * f + 1
  k32 : ∀ k ∈ ks, k.size ≤ 32
  kd : kind.size ≤ 1000
  wd : word.size ≤ 2000
  glob : Mx.Glob w0

/-- Tags are collected in block vb, the places P. -/
structure VSt (w0 : World) (tb f : Nat) (ks : List ByteArray) (kind word : ByteArray) (vb : Nat) (P : List (Option TagD)) (w : World) : Prop where
  votes : VotesAt w vb tb kind word P
  new : w0.heap.size ≤ vb
  bel : Below w0.heap.size w0 w
  pl : Places (chkT ks kind word) (3 * f + 1) P

section
variable {w0 : World} {tb f : Nat} {ks : List ByteArray} {kind word : ByteArray} {vb : Nat} {P : List (Option TagD)} {w : World}

theorem VSt.lt (h : VSt w0 tb f ks kind word vb P w) : vb < w.heap.size := Arr.lt h.votes

theorem VSt.below (h : VSt w0 tb f ks kind word vb P w) {w' : World} (hb : Below w.heap.size w w') : VSt w0 tb f ks kind word vb P w' :=
  ⟨h.votes.below hb, h.new, h.bel.trans (hb.mono h.bel.size), h.pl⟩

theorem VSt.kept (h : VSt w0 tb f ks kind word vb P w) {S : Nat → Prop} {w' : World} (hk : Kept S w w') (hn : ¬ S vb) (hS : ∀ k, S k → w0.heap.size ≤ k) : VSt w0 tb f ks kind word vb P w' :=
  ⟨h.votes.kept hk hn, h.new, h.bel.trans (hk.below h.bel.size hS), h.pl⟩

theorem VEnv.collect (e : VEnv w0 tb f ks kind word) (hb : Below w0.heap.size w0 w) :
    Calls Tryd.prog 26 #[.pointer (some ⟨tb, 0, none⟩), .string kind, .string word] w fun e w' => ∃ vb, e = .returned (.pointer (some ⟨vb, 0, none⟩)) ∧ w.heap.size ≤ vb ∧ VSt w0 tb f ks kind word vb noP w' ∧ Below w.heap.size w w' := by
  refine (collect_any tb kind word w).mono ?_
  rintro e w' ⟨vb, rfl, h1, h2, h3⟩
  exact ⟨vb, rfl, h2, ⟨h1, Nat.le_trans hb.size h2, hb.trans (h3.mono hb.size), places_none _ _⟩, h3⟩

theorem VEnv.tags (e : VEnv w0 tb f ks kind word) (h : VSt w0 tb f ks kind word vb P w) :
    Calls Tryd.prog 31 #[.pointer (some ⟨vb, 0, none⟩)] w fun e w' => ∃ ao cap, e = .returned (.slice ao (inL P).length cap) ∧ RowAt tagK w' ao (inL P) ∧ (ao = none → cap = 0) ∧ (∀ b, rowFoot tagK ao (inL P) b → w.heap.size ≤ b) ∧ Below w.heap.size w w' :=
  votesTags_any w h.votes (e.tab.below h.bel) e.f2 h.pl

theorem VEnv.full (e : VEnv w0 tb f ks kind word) (h : VSt w0 tb f ks kind word vb P w) :
    Calls Tryd.prog 30 #[.pointer (some ⟨vb, 0, none⟩)] w fun e w' => e = .returned (.bool (decide (2 * f + 1 ≤ (inL P).length))) ∧ Below w.heap.size w w' :=
  votesFull_any w h.votes (e.tab.below h.bel) e.f2 h.pl

theorem VEnv.add (e : VEnv w0 tb f ks kind word) (h : VSt w0 tb f ks kind word vb P w) (t : TagD) :
    Calls Tryd.prog 29 #[.pointer (some ⟨vb, 0, none⟩), .agg #[.int .i64 t.who, .string t.mac]] w fun e w' => e = .returned (.int .i64 (addE (chkT ks kind word) P t : Int)) ∧ VSt w0 tb f ks kind word vb (addP (chkT ks kind word) P t) w' ∧ Kept (fun k => k = vb) w w' := by
  refine (votesAdd_any t w h.votes (e.tab.below h.bel) e.f2 e.kl e.k32 h.pl (by have := e.kd; omega) (by have := e.wd; omega) (e.glob.below h.bel)).mono ?_
  rintro e' w' ⟨rfl, h1, h2⟩
  refine ⟨rfl, ⟨h1, h.new, h.bel.trans (h2.below h.bel.size (fun k hk => by rw [hk]; exact h.new)), h.pl.add (fun hc => ?_)⟩, h2⟩
  have hz := chkT_zero hc
  have := e.kl
  omega
end
end Go.Proofs.YtbikabjogacfkaaDoor
