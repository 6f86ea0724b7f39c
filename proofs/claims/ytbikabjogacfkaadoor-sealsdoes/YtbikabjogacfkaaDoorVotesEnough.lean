/- Tags that are collected are enough just if there are enough of them. -/
import Derived.Test.YtbikabjogacfkaaDoorHdrCheck
import Derived.Test.YtbikabjogacfkaaDoorVotesMath
namespace Go.Proofs.YtbikabjogacfkaaDoor
open Go.RowKit
set_option linter.unusedVariables false

/-- What is wrong with a tag of a word. -/
def chkT (ks : List ByteArray) (kind word : ByteArray) (t : TagD) : Nat := Mx.checkR ks t.who t.mac kind word

theorem chkT_zero {ks : List ByteArray} {kind word : ByteArray} {t : TagD} (h : chkT ks kind word t = 0) : 0 ≤ t.who ∧ t.who < (ks.length : Int) ∧ t.mac = Mx.macOf (ks.getD t.who.toNat ⟨#[]⟩) kind word := by
  unfold chkT Mx.checkR at h
  split at h
  · omega
  · rename_i h1
    split at h
    · rename_i h2
      exact ⟨by omega, by omega, h2⟩
    · omega

theorem go_sorted {ks : List ByteArray} {kind word : ByteArray} : ∀ (l : List TagD) (ahead : Int), (∀ t ∈ l, chkT ks kind word t = 0) → (∀ t ∈ l, ahead < t.who) → l.Pairwise (fun a b => a.who < b.who) → Mx.enoughGo ks kind word ahead (pairT l) = 0
  | [], _, _, _, _ => rfl
  | t :: l, ahead, h1, h2, h3 => by
    have hz := chkT_zero (h1 t (by simp))
    have ha := h2 t (by simp)
    have ht : Mx.tagErr ks kind word ahead (t.who, t.mac) = 0 := by
      unfold Mx.tagErr
      rw [if_neg (by simp only; omega), if_neg (by simp only; omega), if_pos hz.2.2]
    rw [List.pairwise_cons] at h3
    show Mx.enoughGo ks kind word ahead ((t.who, t.mac) :: pairT l) = 0
    rw [Mx.enoughGo, if_pos ht]
    exact go_sorted l t.who (fun x hx => h1 x (by simp [hx])) (fun x hx => h3.1 x hx) h3.2

theorem enough_sorted {ks : List ByteArray} {kind word : ByteArray} (f : Nat) {l : List TagD} (h1 : ∀ t ∈ l, chkT ks kind word t = 0) (h3 : l.Pairwise (fun a b => a.who < b.who)) : Mx.enoughL ks f kind word (pairT l) = if l.length < 2 * f + 1 then 12 else 0 := by
  unfold Mx.enoughL
  rw [if_pos (go_sorted l (-1) h1 (fun t ht => by have := (chkT_zero (h1 t ht)).1; omega) h3), pairT_length]

theorem enough_places {ks : List ByteArray} {kind word : ByteArray} {n f : Nat} {P : List (Option TagD)} (h : Places (chkT ks kind word) n P) : Mx.enoughL ks f kind word (pairT (inL P)) = if (inL P).length < 2 * f + 1 then 12 else 0 :=
  enough_sorted f (fun t ht => (h.mem t ht).2.2) h.sorted
end Go.Proofs.YtbikabjogacfkaaDoor
