/- What tusklaw07.works does; nothing old in memory is turned. -/
import Derived.Test.YtbikabjogacfkaaDoorVotesSt
import Derived.Test.YtbikabjogacfkaaDoorHdrWorks
import Derived.Deep.RegionHeld3
namespace Go.Proofs.YtbikabjogacfkaaDoor
open Go.RowKit Go.Sort
set_option linter.unusedVariables false

set_option maxRecDepth 100000 in
set_option maxHeartbeats 1000000 in
theorem both_zero (w : World) (hG : Mx.Glob w) :
    Calls Tryd.prog 6 #[.int .i64 0] w fun e w' => ∃ b r : Nat, e = .returned (.tuple #[.pointer (some ⟨b, 0, none⟩), .pointer (some ⟨r, 0, none⟩), .bool true]) ∧ Mx.TabAt w' b 1 (Mx.keysL seedW 4) ∧ Below w.heap.size w w' := by
  have cA := fun w1 hg => Mx.new_yes 1 seedW w1 (by omega) (by omega) (by decide) hg
  have cR := fun w1 hg => Mx.refNew_yes 1 seedW w1 (by omega) (by omega) (by decide) hg
  obtain ⟨ks, hks⟩ : ∃ q, Hid (q = Mx.keysL seedW 4) := ⟨_, rfl⟩
  have e4 : Mx.keysL seedW (3 * 1 + 1) = ks := hks.out.symm
  rw [e4] at cA cR
  rw [← hks.out]
  unfold seedW at cA cR
  clear e4 hks
  go_enter Tryd.func6, Tryd.ntmps6
  go_wp2_with fail
  refine (cA _ hG).mono ?_
  rintro e w1 ⟨b, rfl, hb1, hT1, hB1⟩
  clear cA
  go_wp2_with fail
  refine (cR _ (hG.below hB1)).mono ?_
  rintro e w2 ⟨r, rfl, hr2, hT2, hB2⟩
  have hT3 := hT1.below hB2
  have hB3 := hB1.trans (hB2.mono hB1.size)
  clear cR hT1 hB1 hB2
  go_wp2
  go_ret3
  exact ⟨b, r, rfl, hT3, hB3⟩

def kW : ByteArray := ⟨#[107]⟩
def wW : ByteArray := ⟨#[119]⟩

/-- The tags of the three. -/
def wkT (ks : List ByteArray) (k : Nat) : TagD := ⟨(k : Int), Mx.macOf (ks.getD k ⟨#[]⟩) kW wW⟩

/-- The places behind m rounds. -/
def wkP (ks : List ByteArray) : Nat → List (Option TagD)
  | 0 => noP
  | 1 => [none, none, some (wkT ks 2), none, none, none, none]
  | 2 => [none, some (wkT ks 1), some (wkT ks 2), none, none, none, none]
  | _ => [some (wkT ks 0), some (wkT ks 1), some (wkT ks 2), none, none, none, none]

theorem wkT_chk {ks : List ByteArray} (hk : ks.length = 4) {k : Nat} (h : k < 4) : chkT ks kW wW (wkT ks k) = 0 := by
  unfold chkT Mx.checkR wkT
  simp only
  rw [if_neg (by omega), if_pos (by rw [Int.toNat_natCast])]

theorem wkP_add {ks : List ByteArray} (hk : ks.length = 4) {m : Nat} (hm : m < 3) :
    addE (chkT ks kW wW) (wkP ks m) (wkT ks (2 - m)) = 0 ∧ addP (chkT ks kW wW) (wkP ks m) (wkT ks (2 - m)) = wkP ks (m + 1) ∧ addE (chkT ks kW wW) (wkP ks (m + 1)) (wkT ks (2 - m)) = 13 ∧ addP (chkT ks kW wW) (wkP ks (m + 1)) (wkT ks (2 - m)) = wkP ks (m + 1) := by
  have hc := wkT_chk hk (k := 2 - m) (by omega)
  have ht : (wkT ks (2 - m)).who.toNat = 2 - m := by simp [wkT]
  have h0 : (wkP ks m)[2 - m]? = some none := by
    match m, hm with
    | 0, _ => rfl
    | 1, _ => rfl
    | 2, _ => rfl
  have h1 : ∃ u, (wkP ks (m + 1))[2 - m]? = some (some u) := by
    match m, hm with
    | 0, _ => exact ⟨_, rfl⟩
    | 1, _ => exact ⟨_, rfl⟩
    | 2, _ => exact ⟨_, rfl⟩
  obtain ⟨u, h1⟩ := h1
  obtain ⟨a1, a2⟩ := addE_ok hc ht h0
  obtain ⟨b1, b2⟩ := addE_ok hc ht h1
  refine ⟨a1, ?_, b1, b2⟩
  rw [a2]
  match m, hm with
  | 0, _ => rfl
  | 1, _ => rfl
  | 2, _ => rfl
end Go.Proofs.YtbikabjogacfkaaDoor
