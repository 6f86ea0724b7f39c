/- What tusklaw12.works does; nothing old in memory is turned. -/
import Derived.Test.YtbikabjogacfkaaDoorBoardProg
import Derived.Test.YtbikabjogacfkaaDoorBoardSigned
import Derived.Test.YtbikabjogacfkaaDoorBoardEnv
import Derived.Test.YtbikabjogacfkaaDoorCertWorks
namespace Go.Proofs.YtbikabjogacfkaaDoor
open Go.RowKit
set_option linter.unusedVariables false

/-- The board behind m rounds. -/
def wkB (ks : List ByteArray) : Nat → List WordB
  | 0 => [⟨wW, noP⟩]
  | 1 => [⟨wW, [some (sgT ks kW wW 0), none, none, none, none, none, none]⟩]
  | 2 => [⟨wW, [some (sgT ks kW wW 0), some (sgT ks kW wW 1), none, none, none, none, none]⟩]
  | _ => []

theorem wkB_add {ks : List ByteArray} (hk : ks.length = 4) {m : Nat} (hm : m < 3) :
    sealE ks kW (wkB ks m) wW (sgT ks kW wW m) = 0 ∧ (sealL 1 ks kW (wkB ks m) wW (sgT ks kW wW m)).length = 3 * (m / 2) ∧ sealB 1 ks kW (wkB ks m) wW (sgT ks kW wW m) = wkB ks (m + 1) := by
  match m, hm with
  | 0, _ =>
    have h := seal_new (f := 1) (ks := ks) (kind := kW) (bs := wkB ks 0) (word := wW) (x := ⟨wW, noP⟩) (k := 0) (by show getB wW [⟨wW, noP⟩] = _; rw [getB_cons, if_pos rfl]) (by omega) rfl
    refine ⟨h.1, by rw [h.2.1]; rfl, by rw [h.2.2]; rfl⟩
  | 1, _ =>
    have h := seal_new (f := 1) (ks := ks) (kind := kW) (bs := wkB ks 1) (word := wW) (x := ⟨wW, [some (sgT ks kW wW 0), none, none, none, none, none, none]⟩) (k := 1) (by show getB wW [⟨wW, _⟩] = _; rw [getB_cons, if_pos rfl]) (by omega) rfl
    refine ⟨h.1, by rw [h.2.1]; rfl, by rw [h.2.2]; rfl⟩
  | 2, _ =>
    have h := seal_new (f := 1) (ks := ks) (kind := kW) (bs := wkB ks 2) (word := wW) (x := ⟨wW, [some (sgT ks kW wW 0), some (sgT ks kW wW 1), none, none, none, none, none]⟩) (k := 2) (by show getB wW [⟨wW, _⟩] = _; rw [getB_cons, if_pos rfl]) (by omega) rfl
    refine ⟨h.1, by rw [h.2.1]; rfl, by rw [h.2.2]; rfl⟩

theorem wkB_open : openE 3 [] wW = 0 ∧ ∀ ks, openB 3 [] wW = wkB ks 0 := by
  have h : openE 3 [] wW = 0 := by unfold openE; rw [if_neg (by simp [atW]), if_neg (by simp)]
  refine ⟨h, fun ks => ?_⟩
  unfold openB
  rw [if_pos h]
  rfl

set_option maxRecDepth 100000 in
set_option maxHeartbeats 2000000 in
theorem works12_any (w : World) (hG : Mx.Glob w) :
    Calls Tryd.prog 19 #[] w fun e w' => e = .returned (.bool true) ∧ Below w.heap.size w w' := by
  have cB := both_zero w hG
  go_enter Tryd.func19, Tryd.ntmps19
  go_wp2_with fail
  refine cB.mono ?_
  rintro e w1 ⟨tb, rt, rfl, hT1, hB1⟩
  have hG1 := hG.below hB1
  have hk32 : ∀ k ∈ Mx.keysL seedW 4, k.size ≤ 32 := Mx.keysL_size _ _
  have hkl : (Mx.keysL seedW 4).length = 4 := Mx.keysL_len _ _
  generalize Mx.keysL seedW 4 = ks at *
  have env : BEnv w1 tb 1 ks kW := ⟨hT1, by omega, hkl, hk32, by decide, hG1⟩
  have Hkl : Hid (ks.length = 4) := hkl
  clear cB hkl
  go_wp2_with fail
  refine (pbNew_any tb ⟨#[107]⟩ 3 w1).mono ?_
  rintro e w2 ⟨pb, rfl, S2, hp2, hs2, hb2⟩
  rw [show max (0 : Int) 3 = 3 by decide] at hp2
  have cO := pbOpen_any wW (by decide) pb S2 tb ⟨#[107]⟩ 3 [] w2 hp2 (by simp)
  rw [wkB_open.1, wkB_open.2 ks] at cO
  unfold wW at cO
  go_wp2_with fail
  refine cO.mono ?_
  rintro e w3 ⟨rfl, S3, hp3, hf3, hk3⟩
  have hb13 : Below w1.heap.size w1 w3 := hb2.trans (hk3.below hb2.size hs2)
  have hs3 : ∀ k, S3 k → w1.heap.size ≤ k := fun k hk => by
    rcases hf3 k hk with e | e
    · exact hs2 k e
    · have := hb2.size; omega
  have hok3 : BOk 1 ks kW (wkB ks 0) := by
    have := (bok_nil 1 ks kW).open_ 3 wW (by decide)
    rw [wkB_open.2 ks] at this
    exact this
  clear cO hp2 hs2 hb2 hf3 hk3
  go_wp2_with fail
  go_loopw [5, 6] (fun v5 v6 wr => ∃ (m : Nat) (S : Nat → Prop), m ≤ 3 ∧ v5 = .int .i64 (m : Int) ∧ v6 = .int .i64 (m : Int) ∧ PB wr pb S tb ⟨#[107]⟩ 3 (wkB ks m) ∧ (∀ k, S k → w1.heap.size ≤ k) ∧ Below w1.heap.size w1 wr ∧ BOk 1 ks kW (wkB ks m)) (fun _ v _ => 3 - (intOf v).toNat)
  case atStart => exact ⟨0, S3, by omega, rfl, rfl, hp3, hs3, hb13, hok3⟩
  case round =>
    obtain ⟨m, S, hm, rfl, rfl, hp, hs, hb, hok⟩ := hrel
    clear hp3 hs3 hb13 hok3
    by_cases hlt : m < 3
    · obtain ⟨a1, a2, a3⟩ := wkB_add Hkl.out hlt
      have g1 : (m : Int) < 3 := by omega
      have cS := Mx.sign_yes tb 1 ks m kW wW wr (hT1.below hb) (ks.getD m ⟨#[]⟩) (Mx.getD_some (by have := Hkl.out; omega)) hk32 (by decide) (by decide) (hG1.below hb)
      have hokn := hok.seal Hkl.out wW (sgT ks kW wW m)
      rw [a3] at hokn
      have cA := fun w h hb => pbAdd_any wW (by decide) (sgT ks kW wW m) pb S tb kW 3 (wkB ks m) w h (env.v (by decide)) hok hb hs
      rw [a1, a3] at cA
      unfold Mx.tagV at cS
      unfold sgT at cA
      simp only at cA
      obtain ⟨mac, hmac⟩ : ∃ z, Hid (z = Mx.macOf (ks.getD m ⟨#[]⟩) kW wW) := ⟨_, rfl⟩
      obtain ⟨le, hle⟩ : ∃ z, Hid (z = sealL 1 ks kW (wkB ks m) wW (sgT ks kW wW m)) := ⟨_, rfl⟩
      have hll : Hid (le.length = 3 * (m / 2)) := by rw [hle.out]; exact a2
      have hle2 : sealL 1 ks kW (wkB ks m) wW ⟨(m : Int), Mx.macOf (ks.getD m ⟨#[]⟩) kW wW⟩ = le := hle.out.symm
      rw [hle2] at cA
      rw [← hmac.out] at cS cA
      unfold kW wW at cS cA
      clear a1 a2 a3 hle2 hle hmac
      go_wp2_with fail
      refine cS.mono ?_
      rintro e w4 ⟨rfl, hb4⟩
      have hbx := belowNew w4 (.cells #[.int .i64 (m : Int), .string mac] 32)
      have hX := Arr.new w4 32 [.int .i64 (m : Int), .string mac]
      have hp5 := (hp.below hb4).below hbx
      have hb5 := (hb.trans (hb4.mono hb.size))
      have hb6 := hb5.trans (hbx.mono hb5.size)
      obtain ⟨w5, hw5⟩ : ∃ z, w4.alloc (.cells #[.int .i64 (m : Int), .string mac] 32) = z := ⟨_, rfl⟩
      rw [hw5] at hX hp5 hb6
      have x0 := hX.cell (i := 0) rfl
      have x1 := hX.cell (i := 1) rfl
      clear cS hp hb4 hbx hb5
      go_wp2_with fail
      refine (cA _ hp5 hb6).mono ?_
      rintro e w6 ⟨ao, cap, rfl, _, _, S6, hp6, hf6, hk6⟩
      have hb7 := hb6.trans (hk6.below hb6.size hs)
      have hs6 : ∀ k, S6 k → w1.heap.size ≤ k := fun k hk => by
        rcases hf6 k hk with e | e
        · exact hs k e
        · have := hb6.size; omega
      clear cA hp5 hb6 hk6 hf6 hX x0 x1 hw5
      rcases (by omega : m = 0 ∨ m = 1 ∨ m = 2) with rfl | rfl | rfl
      · have h0 : le.length = 0 := hll.out
        rw [h0]
        go_wp2
        go_roundw
        case rel => exact ⟨1, S6, by omega, rfl, rfl, hp6, hs6, hb7, hokn⟩
        case measure => simp [intOf]
      · have h0 : le.length = 0 := hll.out
        rw [h0]
        go_wp2
        go_roundw
        case rel => exact ⟨2, S6, by omega, rfl, rfl, hp6, hs6, hb7, hokn⟩
        case measure => simp [intOf]
      · have h0 : le.length = 3 := hll.out
        rw [h0]
        go_wp2
        go_roundw
        case rel => exact ⟨3, S6, by omega, rfl, rfl, hp6, hs6, hb7, hokn⟩
        case measure => simp [intOf]
    · obtain rfl : m = 3 := by omega
      have cW := pbWords_any pb S tb ⟨#[107]⟩ 3 (wkB ks 3) wr hp
      have hw0 : (wkB ks 3).map (·.word) = [] := rfl
      rw [hw0] at cW
      go_wp2_with fail
      refine cW.mono ?_
      rintro e w4 ⟨v, rfl, hQ, hb4⟩
      obtain ⟨ao, cap, rfl, _, _⟩ := hQ.form
      have hbF := hB1.trans ((hb.trans (hb4.mono hb.size)).mono hB1.size)
      clear cW hQ hp
      go_wp2
      go_ret
      exact ⟨rfl, hbF⟩
end Go.Proofs.YtbikabjogacfkaaDoor
