/- What tusklaw06.Both and tusklaw06.works do; nothing old in memory is turned. -/
import Derived.Test.YtbikabjogacfkaaDoorHdrCheck
import Derived.Test.YtbikabjogacfkaaDoorRefAuthAll
namespace Go.Proofs.YtbikabjogacfkaaDoor
open Go.RowKit
set_option linter.unusedVariables false

def seedW : ByteArray := ⟨#[115, 101, 101, 100]⟩

set_option maxRecDepth 100000 in
set_option maxHeartbeats 1000000 in
theorem both_any (f : Int) (w : World) (hG : Mx.Glob w) :
    Calls Tryd.prog 6 #[.int .i64 f] w fun e w' => ∃ n b r : Nat, n ≤ 2 ∧ 1 ≤ n ∧ e = .returned (.tuple #[.pointer (some ⟨b, 0, none⟩), .pointer (some ⟨r, 0, none⟩), .bool true]) ∧ Mx.TabAt w' b n (Mx.keysL seedW (3 * n + 1)) ∧ Mx.TabAt w' r n (Mx.keysL seedW (3 * n + 1)) ∧ Below w.heap.size w w' := by
  obtain ⟨n, n1, n2, hn⟩ := Mx.pick_f f
  have cA := fun w1 hg => Mx.new_yes n seedW w1 n1 n2 (by decide) hg
  have cR := fun w1 hg => Mx.refNew_yes n seedW w1 n1 n2 (by decide) hg
  obtain ⟨ks, hks⟩ : ∃ q, Hid (q = Mx.keysL seedW (3 * n + 1)) := ⟨_, rfl⟩
  simp only [← hks.out] at cA cR
  unfold seedW at cA cR
  go_enter Tryd.func6, Tryd.ntmps6
  go_wp2_with fail
  refine (cA _ hG).mono ?_
  rintro e w1 ⟨b, rfl, hb1, hT1, hB1⟩
  clear cA
  go_wp2_with fail
  refine (cR _ (hG.below hB1)).mono ?_
  rintro e w2 ⟨r, rfl, hr2, hT2, hB2⟩
  have hT3 := hT1.below hB2
  have hB3 := hB1.trans (hB2.mono hB1.size)
  clear cR hT1 hB1 hB2
  go_wp2
  go_ret3
  exact ⟨n, b, r, n2, n1, rfl, by rw [← hks.out]; exact hT3, by rw [← hks.out]; exact hT2, hB3⟩
end Go.Proofs.YtbikabjogacfkaaDoor
