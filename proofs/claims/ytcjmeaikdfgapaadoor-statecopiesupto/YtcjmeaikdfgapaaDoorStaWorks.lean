/- tusklaw22.pay; what Account, Value, Apply do, of a state's blocks; what tusklaw22.works does. -/
import Derived.Test.YtcjmeaikdfgapaaDoorStaPayMath
import Derived.Test.YtcjmeaikdfgapaaDoorStaNew
import Derived.Test.YtcjmeaikdfgapaaDoorTxOwn
import Derived.BigQuiet
import Derived.Deep.QuietTactic
import Derived.Deep.RegionHeld3
namespace Go.Proofs.YtcjmeaikdfgapaaDoor
open Go Go.RowKit
set_option linter.unusedVariables false

theorem accountS_any (n : ByteArray) (hn : n.size ≤ maxLen) (w : World) (p : Nat) (S : Nat → Prop) (s : StF) (N : Nat) (h : PS w p S s N) :
    Calls Tryd.prog 16 #[.pointer (some ⟨p, 0, none⟩), .string n] w fun e w' => e = .returned (.tuple #[.int .u64 ((s.acc n).1 : Int), .int .u64 ((s.acc n).2 : Int)]) ∧ Below w.heap.size w w' := by
  obtain ⟨a, v, -, h1⟩ := h
  exact account_any n hn w p a v N s h1

theorem valueS_any (n : ByteArray) (hn : n.size ≤ maxLen) (w : World) (p : Nat) (S : Nat → Prop) (s : StF) (N : Nat) (h : PS w p S s N) :
    Calls Tryd.prog 18 #[.pointer (some ⟨p, 0, none⟩), .string n] w fun e w' => e = .returned (.tuple #[.string ((s.val n).getD ⟨#[]⟩), .bool (s.val n).isSome]) ∧ Below w.heap.size w w' := by
  obtain ⟨a, v, -, h1⟩ := h
  exact value_any n hn w p a v N s h1

/-- A transaction that pays, of the call's own. -/
def GotSend (W : World) (m n : Nat) (e : Ending) (w : World) : Prop := ∃ y : TxM, e = .returned y.v ∧ y.d = sendD m n ∧ y.At w ∧ Below W.heap.size W w

theorem send_sizes (m n : Nat) : TxSizes (sendD m n) := by
  have h1 : nA.size = 1 := rfl
  have h2 : nB.size = 1 := rfl
  have h3 : wA.size = 3 := rfl
  have h4 : wB.size = 3 := rfl
  refine ⟨?_, ?_, Nat.zero_le _, Nat.zero_le _, fun s hs => (by cases hs), fun s hs => ?_⟩
  · show nA.size ≤ maxLen; unfold maxLen; omega
  · show nB.size ≤ maxLen; unfold maxLen; omega
  · have : s = wA ∨ s = wB := by simpa [sendD] using hs
    unfold maxLen
    rcases this with e | e <;> rw [e] <;> omega

theorem row_one (w : World) (x : ByteArray) : RowAt strK (w.alloc (.cells #[.string x] 9)) (some ⟨w.heap.size, 0, none⟩) [x] := by
  refine StrsAt.row (fun j hj => ?_)
  obtain rfl : j = 0 := by simp at hj; omega
  exact ⟨w.heap.size, 0, rfl, by rw [alloc_size]; omega, (Arr.new w 9 [.string x]).cell (i := 0) rfl⟩

theorem strs_two {w : World} {g : Nat} {x y : ByteArray} (h : Arr w g 9 [.string x, .string y]) : StrsAt w (some ⟨g, 0, none⟩) [x, y] := by
  intro j hj
  match j, hj with
  | 0, _ => exact ⟨g, 0, rfl, h.lt, h.cell (i := 0) rfl⟩
  | 1, _ => exact ⟨g, 0, rfl, h.lt, h.cell (i := 1) rfl⟩
  | k + 2, hk => simp at hk; omega

set_option maxRecDepth 100000 in
set_option maxHeartbeats 1000000 in
theorem send_any (m n : Nat) (hm : m ≤ 4611686018427387903) (hn : n ≤ 4611686018427387903) (w : World) :
    Calls Tryd.prog 40 #[.int .i64 (m : Int), .int .i64 (n : Int)] w fun e w' => GotSend w m n e w' := by
  have cm := wrap64u (m : Int) (by omega) (by omega)
  have cn := wrap64u (n : Int) (by omega) (by omega)
  obtain ⟨h1, h2, hb⟩ := two_new w 33 9 (txC (sendD m n) none 0 (some ⟨w.heap.size + 1, 0, none⟩) 2) [.string wA, .string wB]
  go_enter Tryd.func40, Tryd.ntmps40
  go_wp2
  refine bodyPost_ret (v := txV (sendD m n) none 0 (some ⟨w.heap.size + 1, 0, none⟩) 2) ?r1 ?r2 ?r3
  case r1 => exact results_tx rfl _ _ w.heap.size 33 (sendD m n) _ _ _ _ rfl h1
  case r2 => rfl
  exact ⟨⟨sendD m n, none, 0, some ⟨w.heap.size + 1, 0, none⟩, 2⟩, rfl, rfl, ⟨⟨nil_strs _ _, strs_two h2⟩, fun _ => rfl, fun e => by cases e⟩, hb⟩

/-- What Apply does of it. -/
def GotE (W : World) (p : Nat) (S : Nat → Prop) (s : StF) (N : Nat) (d : TxD) (v : Int) (e : Ending) (w : World) : Prop :=
  e = .returned (.int .i64 v) ∧ PS w p S (applyF s d) (N + 2) ∧ Kept S W w

theorem applyD_any (y : TxM) {d : TxD} (hd : y.d = d) (w : World) (hA : y.At w) (hs : TxSizes d) (hn : d.ws.length ≤ 500) (p : Nat) (S : Nat → Prop) (N : Nat) (s : StF) (h : PS w p S s N) (hN : N ≤ 1000000) (v : Int) (hv : ((applyE s d : Nat) : Int) = v) :
    Calls Tryd.prog 13 #[.pointer (some ⟨p, 0, none⟩), y.v] w fun e w' => GotE w p S s N d v e w' := by
  subst hd
  refine (apply_any y w hA hs hn p S N s h hN).mono ?_
  rintro e w' ⟨rfl, h1, h2⟩
  exact ⟨by rw [hv], h1, h2⟩

set_option maxRecDepth 100000 in
set_option maxHeartbeats 4000000 in
theorem works22_any (w : World) : Calls Tryd.prog 20 #[] w fun e w' => e = .returned (.bool true) ∧ Below w.heap.size w w' := by
  have cN := new22_any [nA] (some ⟨w.heap.size, 0, none⟩) 1 10 _ (row_one w nA) (fun s hs => by rw [List.mem_singleton.1 hs]; unfold maxLen; decide) (by decide)
  have hb0 := belowNew w (.cells #[.string nA] 9)
  obtain ⟨a0, b0⟩ := newA 10 (by decide)
  generalize newF [nA] 10 = s0 at *
  go_enter Tryd.func20, Tryd.ntmps20
  go_wp2_with fail
  refine cN.mono ?_
  rintro e w1 ⟨p, S, rfl, h0, hS, hb1⟩
  have hbA := hb0.trans (hb1.mono hb0.size)
  have hge : ∀ k, S k → w.heap.size ≤ k := fun k hk => Nat.le_trans hb0.size (hS k hk)
  have e1 : applyE s0 (sendD 4 0) = 0 := by rw [send_E (by decide) (by decide) a0 b0]; rfl
  obtain ⟨a1, b1⟩ := send_F e1 a0 b0
  have e2 : applyE (applyF s0 (sendD 4 0)) (sendD 4 0) = 2 := by rw [send_E (by decide) (by decide) a1 b1]; rfl
  have n2 : applyF (applyF s0 (sendD 4 0)) (sendD 4 0) = applyF s0 (sendD 4 0) := applyF_no (by rw [e2]; decide)
  have e3 : applyE (applyF s0 (sendD 4 0)) (sendD 9 1) = 3 := by rw [send_E (by decide) (by decide) a1 b1]; rfl
  have n3 : applyF (applyF s0 (sendD 4 0)) (sendD 9 1) = applyF s0 (sendD 4 0) := applyF_no (by rw [e3]; decide)
  have w1' : IntKind.i64.wrap 0 = 0 := by decide
  clear cN hb0 hb1 hS
  go_wp2_with fail
  have z4 : (4 : Nat) ≤ 4611686018427387903 := by decide
  have z9 : (9 : Nat) ≤ 4611686018427387903 := by decide
  have z0 : (0 : Nat) ≤ 4611686018427387903 := by decide
  have z1 : (1 : Nat) ≤ 4611686018427387903 := by decide
  have hw : ∀ m n, (sendD m n).ws.length ≤ 500 := fun m n => by show 2 ≤ 500; decide
  have u1 := send_any 4 0 z4 z0 w1
  refine u1.mono ?_
  rintro e w2 ⟨y1, rfl, q1, t1, hb2⟩
  have cA := applyD_any y1 q1 w2 t1 (send_sizes 4 0) (hw 4 0) p S 1 s0 (h0.below hb2) (by decide) 0 (by rw [e1]; rfl)
  have hbB := hbA.trans (hb2.mono hbA.size)
  clear u1 h0 hb2 hbA t1
  go_wp2_with fail
  refine cA.mono ?_
  rintro e w3 ⟨rfl, h3, hk3⟩
  have hbC := hbB.trans (hk3.below hbB.size hge)
  clear cA hk3 hbB
  go_wp2_with fail
  refine (send_any 4 0 z4 z0 w3).mono ?_
  rintro e w4 ⟨y2, rfl, q2, t2, hb4⟩
  have cA := applyD_any y2 q2 w4 t2 (send_sizes 4 0) (hw 4 0) p S (1 + 2) _ (h3.below hb4) (by decide) 2 (by rw [e2]; rfl)
  have hbD := hbC.trans (hb4.mono hbC.size)
  clear h3 hb4 hbC t2
  go_wp2_with fail
  refine cA.mono ?_
  rintro e w5 ⟨rfl, h5, hk5⟩
  rw [n2] at h5
  have hbE := hbD.trans (hk5.below hbD.size hge)
  clear cA hk5 hbD
  go_wp2_with fail
  refine (send_any 9 1 z9 z1 w5).mono ?_
  rintro e w6 ⟨y3, rfl, q3, t3, hb6⟩
  have cA := applyD_any y3 q3 w6 t3 (send_sizes 9 1) (hw 9 1) p S (1 + 2 + 2) _ (h5.below hb6) (by decide) 3 (by rw [e3]; rfl)
  have hbF := hbE.trans (hb6.mono hbE.size)
  clear h5 hb6 hbE t3
  go_wp2_with fail
  refine cA.mono ?_
  rintro e w7 ⟨rfl, h7, hk7⟩
  rw [n3] at h7
  have hbG := hbF.trans (hk7.below hbF.size hge)
  clear cA hk7 hbF
  have cB := accountS_any nA (by unfold maxLen; decide) w7 p S _ _ h7
  rw [a1] at cB
  go_wp2_with fail
  refine cB.mono ?_
  rintro e w8 ⟨rfl, hb8⟩
  have cC := accountS_any nB (by unfold maxLen; decide) w8 p S _ _ (h7.below hb8)
  rw [b1] at cC
  have hbH := hbG.trans (hb8.mono hbG.size)
  clear cB h7 hb8 hbG
  go_wp2_with fail
  refine cC.mono ?_
  rintro e w9 ⟨rfl, hb9⟩
  have hbI := hbH.trans (hb9.mono hbH.size)
  clear cC hb9 hbH
  go_wp2
  go_ret
  exact ⟨rfl, hbI⟩
end Go.Proofs.YtcjmeaikdfgapaaDoor
