/- A table of validators in memory, for words of whatever size that may be. -/
import Derived.Test.YtbikabjogacfkaaDoorVotesSt
namespace Go.Proofs.YtbikabjogacfkaaDoor
open Go Go.RowKit
set_option linter.unusedVariables false

/-- A table of validators, in the world w0. -/
structure BEnv (w0 : World) (tb f : Nat) (ks : List ByteArray) (kind : ByteArray) : Prop where
  tab : Mx.TabAt w0 tb f ks
  f2 : f ≤ 2
  kl : ks.length = 3 * f + 1
  k32 : ∀ k ∈ ks, k.size ≤ 32
  kd : kind.size ≤ 1000
  glob : Mx.Glob w0

theorem BEnv.v {w0 : World} {tb f : Nat} {ks : List ByteArray} {kind : ByteArray} (h : BEnv w0 tb f ks kind) {word : ByteArray} (hw : word.size ≤ 2000) : VEnv w0 tb f ks kind word := ⟨h.tab, h.f2, h.kl, h.k32, h.kd, hw, h.glob⟩
end Go.Proofs.YtbikabjogacfkaaDoor
