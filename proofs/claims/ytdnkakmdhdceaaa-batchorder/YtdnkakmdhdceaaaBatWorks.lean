/- tusklaw05.pay and works: works answers true; nothing old in memory is turned. -/
import Derived.Test.YtdnkakmdhdceaaaBatAdd
import Derived.Test.YtdnkakmdhdceaaaBatEncode
import Derived.Test.YtdnkakmdhdceaaaBatDecode
import Derived.Test.YtdnkakmdhdceaaaRefBatSame
namespace Go.Proofs.Ytdnkakmdhdceaaa
open Go.RowKit
set_option linter.unusedVariables false

/-- The payment with a number. -/
def payN (n : Nat) : TxD := ⟨1, ⟨#[97, 98]⟩, ⟨#[99]⟩, 5, n, ⟨#[]⟩, ⟨#[]⟩, [], [⟨#[97, 58, 97, 98]⟩, ⟨#[97, 58, 99]⟩]⟩

theorem payN_right (n : Nat) (h : n ≤ 4611686018427387903) : checkL (payN n) = 0 := by
  have h0 : checkL (payN 0) = 0 := by decide +kernel
  unfold checkL at h0 ⊢
  have e1 : fieldsR (payN n) = fieldsR (payN 0) := rfl
  have e2 : keysL (payN n).rs = keysL (payN 0).rs := rfl
  have e3 : keysL (payN n).ws = keysL (payN 0).ws := rfl
  have e4 : (payN n).kind = (payN 0).kind := rfl
  have e5 : (payN n).amt = (payN 0).amt := rfl
  have e6 : ¬ (4611686018427387903 < (payN 0).amt ∨ 4611686018427387903 < (payN n).non) := by
    show ¬ (4611686018427387903 < 5 ∨ 4611686018427387903 < n)
    omega
  have e7 : ¬ (4611686018427387903 < (payN 0).amt ∨ 4611686018427387903 < (payN 0).non) := by
    show ¬ (4611686018427387903 < 5 ∨ 4611686018427387903 < 0)
    omega
  rw [e1, e2, e3, e4, e5, if_neg e6]
  rw [if_neg e7] at h0
  exact h0

set_option maxRecDepth 100000 in
set_option maxHeartbeats 1000000 in
theorem payN_any (n : Nat) (hn : n ≤ 4611686018427387903) (w : World) : Calls Try.prog 22 #[.int .i64 (n : Int)] w fun e w' => GotTx w (payN n) e w' := by
  obtain ⟨h1, h2, hb⟩ := two_new w 40 9 (txC (payN n) none 0 (some ⟨w.heap.size + 1, 0, none⟩) 2) [.string ⟨#[97, 58, 97, 98]⟩, .string ⟨#[97, 58, 99]⟩]
  go_enter Try.func22, Try.ntmps22
  go_wp2
  refine bodyPost_ret (v := txV (payN n) none 0 (some ⟨w.heap.size + 1, 0, none⟩) 2) ?r1 ?r2 ?r3
  case r1 => exact results_tx rfl _ _ w.heap.size 40 (payN n) _ _ _ _ rfl h1
  case r2 => rfl
  refine ⟨_, _, _, _, rfl, ⟨nil_strs _ _, ?_⟩, fun _ => rfl, fun h => (by simp at h), hb⟩
  intro j hj
  match j, hj with
  | 0, _ => exact ⟨w.heap.size + 1, 0, rfl, h2.lt, h2.cell rfl⟩
  | 1, _ => exact ⟨w.heap.size + 1, 0, rfl, h2.lt, h2.cell rfl⟩

/-- A payment is added: as a step for the walks. -/
theorem addPay {base p : Nat} {q : Value} {au : Int} {s : Seal TxM} (n : Nat) (hn : n ≤ 4611686018427387903) (w : World) (h : SlAt 73 w base p q au s) (ok : s.Ok) (ra : Option Addr) (rc : Nat) (wa : Option Addr) (wc : Nat) (hA : TxAt w (payN n) ra wa) (h1 : ra = none → rc = 0) (h2 : wa = none → wc = 0) :
    Calls Try.prog 12 #[.pointer (some ⟨p, 0, none⟩), txV (payN n) ra rc wa wc] w fun e w' => Added 73 w base p q au s (payN n) true e w' :=
  add_any (⟨payN n, ra, rc, wa, wc⟩ : TxM) w h ok ⟨hA, h1, h2⟩ (by show 0 * 16 ≤ _; omega) (by show 2 * 16 ≤ _; omega)

theorem addE_pay {s : Seal TxM} (n : Nat) (hn : n ≤ 4611686018427387903) : addE s (payN n) = if 4 * s.size ≤ s.l.length then 4 else 0 := by
  unfold addE
  rw [if_neg (by rw [payN_right n hn]; simp)]

theorem put_ok {s : Seal TxM} (h : s.Ok) (x : TxM) : (s.put x).Ok := by
  unfold Seal.put
  split
  · rename_i he
    have hl : ¬ 4 * s.size ≤ s.l.length := by
      intro hc
      unfold addE at he
      by_cases hz : checkL x.d ≠ 0
      · rw [if_pos hz] at he; exact hz he
      · rw [if_neg hz, if_pos hc] at he; cases he
    exact ⟨h.size1, h.size16, h.wait1, h.wait1000, by simp only [List.length_append, List.length_cons, List.length_nil]; omega, h.less, fun e => by simp at e⟩
  · exact h

/-- A payment was added. -/
theorem Added.pay {T : TypeId} {w w' : World} {base p : Nat} {q : Value} {au : Int} {s : Seal TxM} {n : Nat} {e : Ending} (h : Added T w base p q au s (payN n) true e w') (hn : n ≤ 4611686018427387903) (hr : s.l.length < 4 * s.size) :
    e = .returned (.int .i64 0) ∧ ∃ x q', x.d = payN n ∧ SlAt T w' base p q' au { s with l := s.l ++ [x] } ∧ Kept (SlB p q) w w' ∧ (∀ k, SlB p q' k → SlB p q k ∨ w.heap.size ≤ k) := by
  obtain ⟨he, x, q', hx, h1, h2, h3⟩ := h
  have hz : addE s (payN n) = 0 := by rw [addE_pay n hn, if_neg (by omega)]
  rw [hz] at he
  refine ⟨he, x, q', hx, ?_, h2, h3⟩
  unfold Seal.put at h1
  rw [hx, if_pos hz] at h1
  exact h1

/-- A row of a sealer's keeps, if nothing that it turns is turned. -/
theorem payN_lens (n : Nat) : (payN n).rs.length ≤ 9223372036854775807 ∧ (payN n).ws.length ≤ 9223372036854775807 := ⟨by show 0 ≤ _; omega, by show 2 ≤ _; omega⟩

def twoB : BatD := ⟨1, 1, [payN 1, payN 2]⟩

theorem twoB_right : checkB twoB = 0 := checkB_of (b := twoB) (by decide) (by decide) (by decide) (by decide) (by decide) (by decide) (by
  intro d hd
  have hd' : d ∈ [payN 1, payN 2] := hd
  simp only [List.mem_cons, List.not_mem_nil, or_false] at hd'
  rcases hd' with rfl | rfl
  · exact payN_right 1 (by omega)
  · exact payN_right 2 (by omega))

set_option maxRecDepth 100000 in
set_option maxHeartbeats 4000000 in
theorem works05_any (w : World) : Calls Try.prog 18 #[] w fun e w' => e = .returned (.bool true) ∧ Below w.heap.size w w' := by
  have cN := newSealer_yes 1 2 3 w (by omega) (by omega) (by omega) (by omega) (by omega) (by omega)
  go_enter Try.func18, Try.ntmps18
  go_wp2_with fail
  refine cN.mono ?_
  rintro e w0 ⟨rfl, h0, hB0⟩
  clear cN
  have k0 : (Seal.new 2 3).Ok := Seal.new_ok (by omega) (by omega) (by omega) (by omega)
  go_wp2_with fail
  refine (payN_any 1 (by omega) _).mono ?_
  rintro e w1 ⟨ra, rc, wa, wc, rfl, hA, hr, hw, hb1⟩
  have h1 := h0.below hb1
  have hB1 := hB0.trans (hb1.mono hB0.size)
  clear h0 hB0 hb1
  go_wp2_with fail
  refine (addPay 1 (by omega) _ h1 k0 ra rc wa wc hA hr hw).mono ?_
  intro e w2 hadd
  obtain ⟨rfl, x1, q1, hx1, h2, hk2, hf2⟩ := hadd.pay (by omega) (by show 0 < 8; omega)
  have hB2 := hB1.trans (h1.keptBelow hk2 (Nat.le_refl _))
  clear hadd hk2 hf2 h1 hB1 hA hr hw
  have k1 : Seal.Ok { Seal.new 2 3 with l := (Seal.new 2 3).l ++ [x1] } := ⟨by show 1 ≤ 2; omega, by show 2 ≤ 16; omega, by show 1 ≤ 3; omega, by show 3 ≤ 1000; omega, by show 1 ≤ 8; omega, by show 0 < 3; omega, fun e => by cases e⟩
  go_wp2_with fail
  refine (payN_any 2 (by omega) _).mono ?_
  rintro e w3 ⟨ra, rc, wa, wc, rfl, hA, hr, hw, hb1⟩
  have h3 := h2.below hb1
  have hB3 := hB2.trans (hb1.mono hB2.size)
  clear h2 hB2 hb1
  go_wp2_with fail
  refine (addPay 2 (by omega) _ h3 k1 ra rc wa wc hA hr hw).mono ?_
  intro e w4 hadd
  obtain ⟨rfl, x2, q2, hx2, h4, hk2, hf2⟩ := hadd.pay (by omega) (by show 1 < 8; omega)
  have hB4 := hB3.trans (h3.keptBelow hk2 (Nat.le_refl _))
  clear hadd hk2 hf2 h3 hB3 hA hr hw
  have k2 : Seal.Ok (⟨2, 3, [x1, x2], 0, 0⟩ : Seal TxM) := ⟨by show 1 ≤ 2; omega, by show 2 ≤ 16; omega, by show 1 ≤ 3; omega, by show 3 ≤ 1000; omega, by show 2 ≤ 8; omega, by show 0 < 3; omega, fun e => by cases e⟩
  replace h4 : SlAt 73 w4 w.heap.size w.heap.size q2 1 ⟨2, 3, [x1, x2], 0, 0⟩ := h4
  go_wp2_with fail
  refine (payN_any 3 (by omega) _).mono ?_
  rintro e w5 ⟨ra, rc, wa, wc, rfl, hA, hr, hw, hb1⟩
  have h5 := h4.below hb1
  have hB5 := hB4.trans (hb1.mono hB4.size)
  clear h4 hB4 hb1
  go_wp2_with fail
  refine (addPay 3 (by omega) _ h5 k2 ra rc wa wc hA hr hw).mono ?_
  intro e w6 hadd
  obtain ⟨rfl, x3, q3, hx3, h6, hk2, hf2⟩ := hadd.pay (by omega) (by show 2 < 8; omega)
  have hB6 := hB5.trans (h5.keptBelow hk2 (Nat.le_refl _))
  clear hadd hk2 hf2 h5 hB5 hA hr hw k0 k1
  have k3 : Seal.Ok (⟨2, 3, [x1, x2, x3], 0, 0⟩ : Seal TxM) := ⟨by show 1 ≤ 2; omega, by show 2 ≤ 16; omega, by show 1 ≤ 3; omega, by show 3 ≤ 1000; omega, by show 3 ≤ 8; omega, by show 0 < 3; omega, fun e => by cases e⟩
  replace h6 : SlAt 73 w6 w.heap.size w.heap.size q3 1 ⟨2, 3, [x1, x2, x3], 0, 0⟩ := h6
  go_wp2_with fail
  refine (tick_any _ h6 k3 (by show 0 ≤ _; omega)).mono ?_
  rintro e w7 ⟨fo, fc, q4, rfl, hfn, hT7, h7, hk7, hq7⟩
  have hB7 := hB6.trans (h6.keptBelow (hk7.mono (fun k _ e => Or.inl e)) (Nat.le_refl _))
  have hse : Seal.seals (⟨2, 3, [x1, x2, x3], 0, 0⟩ : Seal TxM) = true := rfl
  have hou : Seal.out (⟨2, 3, [x1, x2, x3], 0, 0⟩ : Seal TxM) = [x1, x2] := rfl
  have hti : Seal.tick (⟨2, 3, [x1, x2, x3], 0, 0⟩ : Seal TxM) = ⟨2, 3, [x3], 0, 1⟩ := rfl
  rw [hou] at hT7
  rw [hti] at h7
  clear hk7 hq7 h6 hB6 k2 k3
  rw [hse, hou]
  have hdl : dl [x1, x2] = [payN 1, payN 2] := by simp [dl, hx1, hx2]
  have hLs : ∀ x ∈ [x1, x2], x.d.rs.length ≤ 9223372036854775807 ∧ x.d.ws.length ≤ 9223372036854775807 := by
    intro x hx
    simp only [List.mem_cons, List.not_mem_nil, or_false] at hx
    rcases hx with rfl | rfl
    · rw [hx1]; exact payN_lens 1
    · rw [hx2]; exact payN_lens 2
  have HL : Hid _ := hLs
  clear hx1 hx2 hx3 hse hou hti hLs
  have hbn := belowNew w7 (.cells (batC 1 1 fo 2 fc).toArray 24)
  have hT8 := hT7.below hbn
  have h8 := h7.below hbn
  have hB8 := hB7.trans (hbn.mono hB7.size)
  have hX8 := Arr.new w7 24 (batC 1 1 fo 2 fc)
  have cE := fun w1 (h : TxsAt w1 fo [x1, x2]) => batEncode_any 1 1 fo [x1, x2] fc w1 h
  rw [hdl] at cE
  have hc : checkB ⟨1, 1, [payN 1, payN 2]⟩ = 0 := twoB_right
  have hlen := encBat_len hc
  have hdec := decBat_enc hc
  obtain ⟨eb, heb⟩ : ∃ q, Hid (q = encBB ⟨1, 1, [payN 1, payN 2]⟩) := ⟨_, rfl⟩
  have hebl : eb.data.toList = encBat ⟨1, 1, [payN 1, payN 2]⟩ := by rw [heb.out]; unfold encBB; rw [if_pos hc]
  have hebs : eb.size ≤ maxLen := by
    have : eb.data.toList.length = eb.size := by simp
    rw [hebl] at this
    unfold maxLen
    omega
  rw [← heb.out, hc] at cE
  have cD := fun w1 => batDecode_any eb w1 hebs
  rw [hebl, hdec] at cD
  clear hlen hdec hebl hebs hc heb hT7 h7 hB7 hbn
  unfold batV at cE ⊢
  go_wp2_with fail
  refine (cE _ hT8).mono ?_
  rintro e w9 ⟨rfl, hb9⟩
  have hT9 := hT8.below hb9
  have h9 := h8.below hb9
  have hB9 := hB8.trans (hb9.mono hB8.size)
  have hX9 := hX8.below hb9 hX8.lt
  clear hT8 h8 hB8 hX8 hb9 cE
  go_wp2_with fail
  refine (cD _).mono ?_
  rintro e wA ⟨a, n, ao, l, cap, er, rfl, hTl, hln, hres, hbA⟩
  have hTA := hT9.below hbA
  have hA9 := h9.below hbA
  have hBA := hB9.trans (hbA.mono hB9.size)
  have hXA := hX9.below hbA hX9.lt
  clear hT9 h9 hB9 hX9 hbA cD
  obtain ⟨rfl, rfl, rfl, hdd⟩ : er = 0 ∧ a = 1 ∧ n = 1 ∧ [payN 1, payN 2] = dl l := by
    rcases hres with ⟨h1, h2⟩ | ⟨h1, h2, _⟩
    · simp at h2
      exact ⟨h1, h2.1.symm, h2.2.1.symm, h2.2.2⟩
    · cases h2
  clear hres
  have hbn := belowNew wA (.cells (batC 1 1 ao l.length cap).toArray 24)
  have hTB := hTA.below hbn
  have hTl2 := hTl.below hbn
  have hAB := hA9.below hbn
  have hBB := hBA.trans (hbn.mono hBA.size)
  have hXB := hXA.below hbn hXA.lt
  clear hTA hA9 hBA hXA hTl hbn
  have hll : l.length = 2 := by rw [← dl_length l, ← hdd]; rfl
  rw [hll] at hTl2 hTB hAB hBB hXB ⊢
  have cW := fun w1 (h : SlAt 73 w1 w.heap.size w.heap.size q4 1 ⟨2, 3, [x3], 0, 1⟩) => waits_any w1 h
  have cS := sameB_any 1 1 ao l cap fo [x1, x2] fc _ hTl2 hTB (by rw [hdl, hdd]) (by omega) (fun x hx => by
    have h1 : x.d ∈ dl l := List.mem_map.2 ⟨x, hx, rfl⟩
    rw [← hdd] at h1
    simp only [List.mem_cons, List.not_mem_nil, or_false] at h1
    rcases h1 with h1 | h1
    · rw [h1]; exact payN_lens 1
    · rw [h1]; exact payN_lens 2)
  rw [hll] at cS
  have x0 := hXB.cell (i := 0) rfl
  have x1' := hXB.cell (i := 1) rfl
  have x2' := hXB.cell (i := 2) rfl
  unfold batC at x0 x1' x2' hAB cS hBB
  unfold batV at cS ⊢
  clear hTl2 hTB hXB HL hdl hdd
  go_wp2_with fail
  refine (cW _ hAB).mono ?_
  rintro e wC ⟨rfl, rfl⟩
  clear cW hAB
  go_wp2_with fail
  refine cS.mono ?_
  rintro e wD ⟨rfl, hbD⟩
  have hBF := hBB.trans (hbD.mono hBB.size)
  clear hBB hbD cS x0 x1' x2'
  go_wp2
  go_ret
  exact ⟨rfl, hBF⟩

theorem wrap64_small (n : Int) (h0 : 0 ≤ n) (h1 : n < 9223372036854775808) : wrap64 n = n := by unfold wrap64; omega

theorem u64_range (f : Int) : 0 ≤ IntKind.u64.wrap f ∧ IntKind.u64.wrap f < 18446744073709551616 := by
  have : IntKind.u64.wrap f = f % 18446744073709551616 := by simp [IntKind.wrap, IntKind.bits, IntKind.signed]
  rw [this]; omega

/-- A number from c on, below c + k. -/
theorem pick_n (f : Int) (c k : Nat) (hk : 0 < k) (hk2 : k < 1000) (hc : c < 1000) : ∃ j : Nat, c ≤ j ∧ j < c + k ∧ wrap64 ((c : Int) + wrap64 ((IntKind.u64.wrap f).tmod (k : Int))) = (j : Int) := by
  obtain ⟨h0, h1⟩ := u64_range f
  rw [Int.tmod_eq_emod_of_nonneg h0]
  generalize IntKind.u64.wrap f = m at h0 h1
  have hlt := Int.emod_lt_of_pos m (show (0 : Int) < (k : Int) by omega)
  have hge := Int.emod_nonneg m (show (k : Int) ≠ 0 by omega)
  refine ⟨c + (m % (k : Int)).toNat, by omega, by omega, ?_⟩
  rw [wrap64_small (m % (k : Int)) hge (by omega), wrap64_small _ (by omega) (by omega)]
  omega

/-- A sealer of these sizes that holds so many. -/
structure Holds (s : Seal TxM) (size wait len ticks number : Nat) : Prop where
  size : s.size = size
  wait : s.wait = wait
  len : s.l.length = len
  ticks : s.ticks = ticks
  number : s.number = number

theorem Holds.ok {s : Seal TxM} {size wait len ticks number : Nat} (h : Holds s size wait len ticks number) (h1 : 1 ≤ size) (h2 : size ≤ 16) (h3 : 1 ≤ wait) (h4 : wait ≤ 1000) (h5 : len ≤ 4 * size) (h6 : ticks < wait) (h7 : len = 0 → ticks = 0) : s.Ok :=
  ⟨by rw [h.size]; exact h1, by rw [h.size]; exact h2, by rw [h.wait]; exact h3, by rw [h.wait]; exact h4, by rw [h.len, h.size]; exact h5, by rw [h.ticks, h.wait]; exact h6, fun e => by rw [h.ticks]; exact h7 (by rw [← h.len, e]; rfl)⟩

theorem Holds.push {s : Seal TxM} {size wait len ticks number : Nat} (h : Holds s size wait len ticks number) (x : TxM) : Holds { s with l := s.l ++ [x] } size wait (len + 1) ticks number :=
  ⟨h.size, h.wait, by show (s.l ++ [x]).length = _; rw [List.length_append, h.len]; rfl, h.ticks, h.number⟩
end Go.Proofs.Ytdnkakmdhdceaaa
