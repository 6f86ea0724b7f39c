/- tusklaw04.TxBack answers true at every transaction and every string; nothing old in memory is turned. -/
import Derived.Test.YtlpnoimoeadheaaTxWorks
import Derived.Test.YtlpnoimoeadheaaTxFrame
import Derived.Test.YtlpnoimoeadheaaTxDecode
import Derived.Test.YtlpnoimoeadheaaTxBackMath
import Derived.Test.YtlpnoimoeadheaaRefTxSame
namespace Go.Proofs.Ytlpnoimoeadheaa
open Go.RowKit
set_option linter.unusedVariables false

theorem dec_at (s : ByteArray) (w : World) (hs : s.size ≤ maxLen) (d : TxD) (er : Nat) (h : decL s.data.toList = (d, er)) :
    Calls Try.prog 20 #[.string s] w fun e w' => ∃ ra rc wa wc, e = .returned (.tuple #[txV d ra rc wa wc, .int .i64 (er : Int)]) ∧ TxAt w' d ra wa ∧ (ra = none → rc = 0) ∧ (wa = none → wc = 0) ∧ Below w.heap.size w w' := by
  have := decode_any s w hs
  rw [h] at this
  exact this

theorem rs_len {d : TxD} (h : checkL d = 0) : d.rs.length ≤ 9223372036854775807 ∧ d.ws.length ≤ 9223372036854775807 := by
  obtain ⟨_, _, _, _, z5, z6⟩ := check_zero h
  have := (keys_sizes z5).1
  have := (keys_sizes z6).1
  omega

set_option maxRecDepth 100000 in
set_option maxHeartbeats 1000000 in
theorem back_long (d : TxD) (ra : Option Addr) (rc : Nat) (wa : Option Addr) (wc : Nat) (s : ByteArray) (w : World) (h : 5000 < s.size) :
    Calls Try.prog 5 #[txV d ra rc wa wc, .string s] w fun e w' => e = .returned (.bool true) ∧ Below w.heap.size w w' := by
  have h1 : (5000 : Int) < s.size := by omega
  have hB := belowNew w (.cells (txC d ra rc wa wc).toArray 25)
  unfold txV
  go_enter Try.func5, Try.ntmps5
  go_wp2_with fail
  refine (works_any _).mono ?_
  rintro e w1 ⟨rfl, hb1⟩
  have hB1 := hB.trans (hb1.mono hB.size)
  clear hb1
  go_wp2
  go_ret
  exact ⟨rfl, hB1⟩

set_option maxRecDepth 100000 in
set_option maxHeartbeats 2000000 in
theorem back_no_err (d : TxD) (ra : Option Addr) (rc : Nat) (wa : Option Addr) (wc : Nat) (s : ByteArray) (w : World) (hA : TxAt w d ra wa) (hr : ra = none → rc = 0) (hw : wa = none → wc = 0) (hl : d.rs.length * 16 ≤ 140737488351232 ∧ d.ws.length * 16 ≤ 140737488351232) (hs : s.size ≤ 5000)
    (hz : checkL d ≠ 0) (er : Nat) (hd : decL s.data.toList = (.none, er)) (he0 : er ≠ 0) :
    Calls Try.prog 5 #[txV d ra rc wa wc, .string s] w fun e w' => e = .returned (.bool true) ∧ Below w.heap.size w w' := by
  have hX : Arr _ _ _ (txC d ra rc wa wc) := TxBox.new w d ra rc wa wc
  have hB := belowNew w (.cells (txC d ra rc wa wc).toArray 25)
  have cO := fun w1 (h : TxAt w1 d ra wa) => own_any d ra rc wa wc w1 h hr hw hl.1 hl.2
  have cE := fun r1 r2 r3 r4 w1 (h : TxAt w1 d r1 r3) => encode_any d r1 r2 r3 r4 w1 h
  have hAw : ∀ w1, Below w.heap.size w w1 → TxAt w1 d ra wa := fun w1 h => hA.below h
  have h5 : (s.size : Int) ≤ 5000 := by omega
  have hs' : s.size ≤ maxLen := by unfold maxLen; omega
  have hD := fun w1 => dec_at s w1 hs' .none er hd
  have her : ((er : Int) != 0) = true := by rw [bne_iff_ne]; omega
  clear hd
  have hz' : ((checkL d : Int) == 0) = false := beq_eq_false_iff_ne.2 (by omega)
  have he : encB d = ⟨#[]⟩ := by unfold encB; rw [if_neg hz]
  simp only [he] at cE
  generalize checkL d = n at cE hz'
  clear hz he hA hr hw hl
  clear hs hs'
  unfold txV at cO ⊢
  go_enter Try.func5, Try.ntmps5
  go_wp2_with fail
  refine (works_any _).mono ?_
  rintro e w1 ⟨rfl, hb1⟩
  have hX1 := hX.below hb1 hX.lt
  have hB1 := hB.trans (hb1.mono hB.size)
  clear hb1 hX hB
  obtain ⟨x0, x1, x2, x3, x4, x5, x6, x7, x8⟩ := hX1.cells9
  go_wp2_with fail
  refine (cO _ (hAw _ hB1)).mono ?_
  rintro e w2 ⟨r1, r2, r3, r4, rfl, hA2, _, _, hb2⟩
  have hX2 := hX1.below hb2 hX1.lt
  have hB2 := hB1.trans (hb2.mono hB1.size)
  clear x0 x1 x2 x3 x4 x5 x6 x7 x8 hb2 hX1 cO
  go_wp2_with fail
  refine (cE r1 r2 r3 r4 _ hA2).mono ?_
  rintro e w3 ⟨rfl, hb3⟩
  have hX3 := hX2.below hb3 hX2.lt
  have hB3 := hB2.trans (hb3.mono hB2.size)
  clear hb3 hX2 hA2 cE
  unfold txV
  clear hX3
  go_wp2_with fail
  refine (hD _).mono ?_
  rintro e wa1 ⟨t1, t2, t3, t4, rfl, hAt, _, _, hbt⟩
  have hBt := hB3.trans (hbt.mono hB3.size)
  have bN := belowNew wa1 (.cells (txC .none t1 t2 t3 t4).toArray 25)
  have hBu := hBt.trans (bN.mono hBt.size)
  have hAu := hAt.below bN
  have cZ := sameTx_any .none t1 t2 t3 t4 none 0 none 0 _ hAu ⟨nil_strs _ _, nil_strs _ _⟩ (by decide) (by decide)
  clear hbt hBt bN hAt hB3 hD hAu
  unfold txV
  unfold TxD.none
  go_wp2_with fail
  refine cZ.mono ?_
  rintro e wa2 ⟨rfl, hbu⟩
  have hBv := hBu.trans (hbu.mono hBu.size)
  clear hbu cZ hBu
  go_wp2
  go_ret
  exact ⟨rfl, hBv⟩

set_option maxRecDepth 100000 in
set_option maxHeartbeats 2000000 in
theorem back_no_ok (d : TxD) (ra : Option Addr) (rc : Nat) (wa : Option Addr) (wc : Nat) (s : ByteArray) (w : World) (hA : TxAt w d ra wa) (hr : ra = none → rc = 0) (hw : wa = none → wc = 0) (hl : d.rs.length * 16 ≤ 140737488351232 ∧ d.ws.length * 16 ≤ 140737488351232) (hs : s.size ≤ 5000)
    (hz : checkL d ≠ 0) (d2 : TxD) (hd : decL s.data.toList = (d2, 0)) :
    Calls Try.prog 5 #[txV d ra rc wa wc, .string s] w fun e w' => e = .returned (.bool true) ∧ Below w.heap.size w w' := by
  have hX : Arr _ _ _ (txC d ra rc wa wc) := TxBox.new w d ra rc wa wc
  have hB := belowNew w (.cells (txC d ra rc wa wc).toArray 25)
  have cO := fun w1 (h : TxAt w1 d ra wa) => own_any d ra rc wa wc w1 h hr hw hl.1 hl.2
  have cE := fun r1 r2 r3 r4 w1 (h : TxAt w1 d r1 r3) => encode_any d r1 r2 r3 r4 w1 h
  have hAw : ∀ w1, Below w.heap.size w w1 → TxAt w1 d ra wa := fun w1 h => hA.below h
  have h5 : (s.size : Int) ≤ 5000 := by omega
  have hs' : s.size ≤ maxLen := by unfold maxLen; omega
  have hD := fun w1 => dec_at s w1 hs' d2 0 hd
  obtain ⟨hc2, he2⟩ := enc_dec hd
  have cF := fun q1 q2 q3 q4 w1 (h : TxAt w1 d2 q1 q3) => encode_yes d2 q1 q2 q3 q4 w1 h hc2
  simp only [he2, mk_list] at cF
  clear hd hc2 he2
  have hz' : ((checkL d : Int) == 0) = false := beq_eq_false_iff_ne.2 (by omega)
  have he : encB d = ⟨#[]⟩ := by unfold encB; rw [if_neg hz]
  simp only [he] at cE
  generalize checkL d = n at cE hz'
  clear hz he hA hr hw hl
  clear hs hs'
  unfold txV at cO ⊢
  go_enter Try.func5, Try.ntmps5
  go_wp2_with fail
  refine (works_any _).mono ?_
  rintro e w1 ⟨rfl, hb1⟩
  have hX1 := hX.below hb1 hX.lt
  have hB1 := hB.trans (hb1.mono hB.size)
  clear hb1 hX hB
  obtain ⟨x0, x1, x2, x3, x4, x5, x6, x7, x8⟩ := hX1.cells9
  go_wp2_with fail
  refine (cO _ (hAw _ hB1)).mono ?_
  rintro e w2 ⟨r1, r2, r3, r4, rfl, hA2, _, _, hb2⟩
  have hX2 := hX1.below hb2 hX1.lt
  have hB2 := hB1.trans (hb2.mono hB1.size)
  clear x0 x1 x2 x3 x4 x5 x6 x7 x8 hb2 hX1 cO
  go_wp2_with fail
  refine (cE r1 r2 r3 r4 _ hA2).mono ?_
  rintro e w3 ⟨rfl, hb3⟩
  have hX3 := hX2.below hb3 hX2.lt
  have hB3 := hB2.trans (hb3.mono hB2.size)
  clear hb3 hX2 hA2 cE
  unfold txV
  clear hX3
  go_wp2_with fail
  refine (hD _).mono ?_
  rintro e wa1 ⟨t1, t2, t3, t4, rfl, hAt, _, _, hbt⟩
  have hBt := hB3.trans (hbt.mono hB3.size)
  have bN := belowNew wa1 (.cells (txC d2 t1 t2 t3 t4).toArray 25)
  have hBu := hBt.trans (bN.mono hBt.size)
  have hAu := hAt.below bN
  clear hbt hBt bN hAt hB3 hD
  unfold txV
  go_wp2_with fail
  refine (cF t1 t2 t3 t4 _ hAu).mono ?_
  rintro e wa2 ⟨rfl, hbu⟩
  have hBv := hBu.trans (hbu.mono hBu.size)
  clear hbu cF hBu hAu
  go_wp2
  go_ret
  exact ⟨rfl, hBv⟩

set_option maxRecDepth 100000 in
set_option maxHeartbeats 2000000 in
theorem back_yes_err (d : TxD) (ra : Option Addr) (rc : Nat) (wa : Option Addr) (wc : Nat) (s : ByteArray) (w : World) (hA : TxAt w d ra wa) (hr : ra = none → rc = 0) (hw : wa = none → wc = 0) (hl : d.rs.length * 16 ≤ 140737488351232 ∧ d.ws.length * 16 ≤ 140737488351232) (hs : s.size ≤ 5000)
    (hz : checkL d = 0) (er : Nat) (hd : decL s.data.toList = (.none, er)) (he0 : er ≠ 0) :
    Calls Try.prog 5 #[txV d ra rc wa wc, .string s] w fun e w' => e = .returned (.bool true) ∧ Below w.heap.size w w' := by
  have hX : Arr _ _ _ (txC d ra rc wa wc) := TxBox.new w d ra rc wa wc
  have hB := belowNew w (.cells (txC d ra rc wa wc).toArray 25)
  have cO := fun w1 (h : TxAt w1 d ra wa) => own_any d ra rc wa wc w1 h hr hw hl.1 hl.2
  have cE := fun r1 r2 r3 r4 w1 (h : TxAt w1 d r1 r3) => encode_any d r1 r2 r3 r4 w1 h
  have hAw : ∀ w1, Below w.heap.size w w1 → TxAt w1 d ra wa := fun w1 h => hA.below h
  have h5 : (s.size : Int) ≤ 5000 := by omega
  have hs' : s.size ≤ maxLen := by unfold maxLen; omega
  have hD := fun w1 => dec_at s w1 hs' .none er hd
  have her : ((er : Int) != 0) = true := by rw [bne_iff_ne]; omega
  clear hd
  have hrl := rs_len hz
  have cS := fun q1 q2 q3 q4 w1 (h1 : TxAt w1 d q1 q3) (h2 : TxAt w1 d ra wa) => sameTx_any d q1 q2 q3 q4 ra rc wa wc w1 h1 h2 hrl.1 hrl.2
  have he : encB d = ⟨(encL d).toArray⟩ := by unfold encB; rw [if_pos hz]
  simp only [hz, he] at cE
  have hlen := enc_len hz
  have d1 := dec_enc hz []
  have d2 := dec_enc hz [120]
  rw [if_pos rfl, List.append_nil] at d1
  rw [if_neg (by simp)] at d2
  obtain ⟨eb, hb⟩ : ∃ eb, eb = (⟨(encL d).toArray⟩ : ByteArray) := ⟨_, rfl⟩
  have l1 : eb.data.toList = encL d := by rw [hb]
  have l2 : (eb ++ ⟨#[120]⟩ : ByteArray).data.toList = encL d ++ [120] := by
    rw [hb]
    have := ByteArray.mk_append_mk (encL d) [120]
    rw [this]
  rw [← l1] at d1
  rw [← l2] at d2
  have s1 : eb.size ≤ 2000 := by rw [hb, size_mk]; exact hlen
  have s2 : (eb ++ ⟨#[120]⟩ : ByteArray).size ≤ maxLen := by
    rw [ByteArray.size_append]
    have : (⟨#[120]⟩ : ByteArray).size = 1 := rfl
    unfold maxLen
    omega
  have c1 := fun w1 => dec_at eb w1 (by unfold maxLen; omega) d 0 d1
  have c2 := fun w1 => dec_at (eb ++ ⟨#[120]⟩) w1 s2 _ 6 d2
  simp only [← hb] at cE
  have hmx : ¬ (maxLen < eb.size + (⟨#[120]⟩ : ByteArray).size) := by
    rw [ByteArray.size_append] at s2
    omega
  clear hb l1 l2 d1 d2 hlen he hz hA hr hw hl hrl s2
  clear hs hs'
  unfold txV at cO ⊢
  go_enter Try.func5, Try.ntmps5
  go_wp2_with fail
  refine (works_any _).mono ?_
  rintro e w1 ⟨rfl, hb1⟩
  have hX1 := hX.below hb1 hX.lt
  have hB1 := hB.trans (hb1.mono hB.size)
  clear hb1 hX hB
  obtain ⟨x0, x1, x2, x3, x4, x5, x6, x7, x8⟩ := hX1.cells9
  go_wp2_with fail
  refine (cO _ (hAw _ hB1)).mono ?_
  rintro e w2 ⟨r1, r2, r3, r4, rfl, hA2, _, _, hb2⟩
  have hX2 := hX1.below hb2 hX1.lt
  have hB2 := hB1.trans (hb2.mono hB1.size)
  clear x0 x1 x2 x3 x4 x5 x6 x7 x8 hb2 hX1 cO
  go_wp2_with fail
  refine (cE r1 r2 r3 r4 _ hA2).mono ?_
  rintro e w3 ⟨rfl, hb3⟩
  have hX3 := hX2.below hb3 hX2.lt
  have hB3 := hB2.trans (hb3.mono hB2.size)
  clear hb3 hX2 hA2 cE
  unfold txV
  go_wp2_with fail
  refine (c1 _).mono ?_
  rintro e w4 ⟨p1, p2, p3, p4, rfl, hA4, _, _, hb4⟩
  have hX4 := hX3.below hb4 hX3.lt
  have hB4 := hB3.trans (hb4.mono hB3.size)
  clear hb4 hX3
  have bN := belowNew w4 (.cells (txC d p1 p2 p3 p4).toArray 25)
  have hY4 : Arr _ _ _ (txC d p1 p2 p3 p4) := Arr.new w4 25 (txC d p1 p2 p3 p4)
  have hX5 := hX4.below bN hX4.lt
  have hB5 := hB4.trans (bN.mono hB4.size)
  have hA5 := hA4.below bN
  clear bN hX4 hA4 hB4 c1
  unfold txV
  go_wp2_with fail
  refine (c2 _).mono ?_
  rintro e w6 ⟨q1, q2, q3, q4, rfl, _, _, _, hb6⟩
  have hX6 := hX5.below hb6 hX5.lt
  have hY6 := hY4.below hb6 hY4.lt
  have hB6 := hB5.trans (hb6.mono hB5.size)
  have hA6 := hA5.below hb6
  clear hb6 hX5 hY4 hA5 c2 hB5
  have bN := belowNew w6 (.cells #[.int .i64 0, .string ⟨#[]⟩, .string ⟨#[]⟩, .int .u64 0, .int .u64 0, .string ⟨#[]⟩, .string ⟨#[]⟩, .slice q1 0 q2, .slice q3 0 q4] 25)
  have hX7 := hX6.below bN hX6.lt
  have hY7 := hY6.below bN hY6.lt
  have hB7 := hB6.trans (bN.mono hB6.size)
  have hA7 := hA6.below bN
  have hT7 := hAw _ hB7
  clear bN hX6 hY6 hA6 hB6
  obtain ⟨x0, x1, x2, x3, x4, x5, x6, x7, x8⟩ := hX7.cells9
  obtain ⟨y0, y1, y2, y3, y4, y5, y6, y7, y8⟩ := hY7.cells9
  unfold txV
  unfold TxD.none
  go_wp2_with fail
  refine (cS p1 p2 p3 p4 _ hA7 hT7).mono ?_
  rintro e w8 ⟨rfl, hb8⟩
  have hB3 := hB7.trans (hb8.mono hB7.size)
  clear x0 x1 x2 x3 x4 x5 x6 x7 x8 y0 y1 y2 y3 y4 y5 y6 y7 y8 hb8 hX7 hY7 hA7 hT7 cS hB7
  go_wp2_with fail
  refine (hD _).mono ?_
  rintro e wa1 ⟨t1, t2, t3, t4, rfl, hAt, _, _, hbt⟩
  have hBt := hB3.trans (hbt.mono hB3.size)
  have bN := belowNew wa1 (.cells (txC .none t1 t2 t3 t4).toArray 25)
  have hBu := hBt.trans (bN.mono hBt.size)
  have hAu := hAt.below bN
  have cZ := sameTx_any .none t1 t2 t3 t4 none 0 none 0 _ hAu ⟨nil_strs _ _, nil_strs _ _⟩ (by decide) (by decide)
  clear hbt hBt bN hAt hB3 hD hAu
  unfold txV
  unfold TxD.none
  go_wp2_with fail
  refine cZ.mono ?_
  rintro e wa2 ⟨rfl, hbu⟩
  have hBv := hBu.trans (hbu.mono hBu.size)
  clear hbu cZ hBu
  go_wp2
  go_ret
  exact ⟨rfl, hBv⟩

set_option maxRecDepth 100000 in
set_option maxHeartbeats 2000000 in
theorem back_yes_ok (d : TxD) (ra : Option Addr) (rc : Nat) (wa : Option Addr) (wc : Nat) (s : ByteArray) (w : World) (hA : TxAt w d ra wa) (hr : ra = none → rc = 0) (hw : wa = none → wc = 0) (hl : d.rs.length * 16 ≤ 140737488351232 ∧ d.ws.length * 16 ≤ 140737488351232) (hs : s.size ≤ 5000)
    (hz : checkL d = 0) (d2 : TxD) (hd : decL s.data.toList = (d2, 0)) :
    Calls Try.prog 5 #[txV d ra rc wa wc, .string s] w fun e w' => e = .returned (.bool true) ∧ Below w.heap.size w w' := by
  have hX : Arr _ _ _ (txC d ra rc wa wc) := TxBox.new w d ra rc wa wc
  have hB := belowNew w (.cells (txC d ra rc wa wc).toArray 25)
  have cO := fun w1 (h : TxAt w1 d ra wa) => own_any d ra rc wa wc w1 h hr hw hl.1 hl.2
  have cE := fun r1 r2 r3 r4 w1 (h : TxAt w1 d r1 r3) => encode_any d r1 r2 r3 r4 w1 h
  have hAw : ∀ w1, Below w.heap.size w w1 → TxAt w1 d ra wa := fun w1 h => hA.below h
  have h5 : (s.size : Int) ≤ 5000 := by omega
  have hs' : s.size ≤ maxLen := by unfold maxLen; omega
  have hD := fun w1 => dec_at s w1 hs' d2 0 hd
  obtain ⟨hc2, he2⟩ := enc_dec hd
  have cF := fun q1 q2 q3 q4 w1 (h : TxAt w1 d2 q1 q3) => encode_yes d2 q1 q2 q3 q4 w1 h hc2
  simp only [he2, mk_list] at cF
  clear hd hc2 he2
  have hrl := rs_len hz
  have cS := fun q1 q2 q3 q4 w1 (h1 : TxAt w1 d q1 q3) (h2 : TxAt w1 d ra wa) => sameTx_any d q1 q2 q3 q4 ra rc wa wc w1 h1 h2 hrl.1 hrl.2
  have he : encB d = ⟨(encL d).toArray⟩ := by unfold encB; rw [if_pos hz]
  simp only [hz, he] at cE
  have hlen := enc_len hz
  have d1 := dec_enc hz []
  have d2 := dec_enc hz [120]
  rw [if_pos rfl, List.append_nil] at d1
  rw [if_neg (by simp)] at d2
  obtain ⟨eb, hb⟩ : ∃ eb, eb = (⟨(encL d).toArray⟩ : ByteArray) := ⟨_, rfl⟩
  have l1 : eb.data.toList = encL d := by rw [hb]
  have l2 : (eb ++ ⟨#[120]⟩ : ByteArray).data.toList = encL d ++ [120] := by
    rw [hb]
    have := ByteArray.mk_append_mk (encL d) [120]
    rw [this]
  rw [← l1] at d1
  rw [← l2] at d2
  have s1 : eb.size ≤ 2000 := by rw [hb, size_mk]; exact hlen
  have s2 : (eb ++ ⟨#[120]⟩ : ByteArray).size ≤ maxLen := by
    rw [ByteArray.size_append]
    have : (⟨#[120]⟩ : ByteArray).size = 1 := rfl
    unfold maxLen
    omega
  have c1 := fun w1 => dec_at eb w1 (by unfold maxLen; omega) d 0 d1
  have c2 := fun w1 => dec_at (eb ++ ⟨#[120]⟩) w1 s2 _ 6 d2
  simp only [← hb] at cE
  have hmx : ¬ (maxLen < eb.size + (⟨#[120]⟩ : ByteArray).size) := by
    rw [ByteArray.size_append] at s2
    omega
  clear hb l1 l2 d1 d2 hlen he hz hA hr hw hl hrl s2
  clear hs hs'
  unfold txV at cO ⊢
  go_enter Try.func5, Try.ntmps5
  go_wp2_with fail
  refine (works_any _).mono ?_
  rintro e w1 ⟨rfl, hb1⟩
  have hX1 := hX.below hb1 hX.lt
  have hB1 := hB.trans (hb1.mono hB.size)
  clear hb1 hX hB
  obtain ⟨x0, x1, x2, x3, x4, x5, x6, x7, x8⟩ := hX1.cells9
  go_wp2_with fail
  refine (cO _ (hAw _ hB1)).mono ?_
  rintro e w2 ⟨r1, r2, r3, r4, rfl, hA2, _, _, hb2⟩
  have hX2 := hX1.below hb2 hX1.lt
  have hB2 := hB1.trans (hb2.mono hB1.size)
  clear x0 x1 x2 x3 x4 x5 x6 x7 x8 hb2 hX1 cO
  go_wp2_with fail
  refine (cE r1 r2 r3 r4 _ hA2).mono ?_
  rintro e w3 ⟨rfl, hb3⟩
  have hX3 := hX2.below hb3 hX2.lt
  have hB3 := hB2.trans (hb3.mono hB2.size)
  clear hb3 hX2 hA2 cE
  unfold txV
  go_wp2_with fail
  refine (c1 _).mono ?_
  rintro e w4 ⟨p1, p2, p3, p4, rfl, hA4, _, _, hb4⟩
  have hX4 := hX3.below hb4 hX3.lt
  have hB4 := hB3.trans (hb4.mono hB3.size)
  clear hb4 hX3
  have bN := belowNew w4 (.cells (txC d p1 p2 p3 p4).toArray 25)
  have hY4 : Arr _ _ _ (txC d p1 p2 p3 p4) := Arr.new w4 25 (txC d p1 p2 p3 p4)
  have hX5 := hX4.below bN hX4.lt
  have hB5 := hB4.trans (bN.mono hB4.size)
  have hA5 := hA4.below bN
  clear bN hX4 hA4 hB4 c1
  unfold txV
  go_wp2_with fail
  refine (c2 _).mono ?_
  rintro e w6 ⟨q1, q2, q3, q4, rfl, _, _, _, hb6⟩
  have hX6 := hX5.below hb6 hX5.lt
  have hY6 := hY4.below hb6 hY4.lt
  have hB6 := hB5.trans (hb6.mono hB5.size)
  have hA6 := hA5.below hb6
  clear hb6 hX5 hY4 hA5 c2 hB5
  have bN := belowNew w6 (.cells #[.int .i64 0, .string ⟨#[]⟩, .string ⟨#[]⟩, .int .u64 0, .int .u64 0, .string ⟨#[]⟩, .string ⟨#[]⟩, .slice q1 0 q2, .slice q3 0 q4] 25)
  have hX7 := hX6.below bN hX6.lt
  have hY7 := hY6.below bN hY6.lt
  have hB7 := hB6.trans (bN.mono hB6.size)
  have hA7 := hA6.below bN
  have hT7 := hAw _ hB7
  clear bN hX6 hY6 hA6 hB6
  obtain ⟨x0, x1, x2, x3, x4, x5, x6, x7, x8⟩ := hX7.cells9
  obtain ⟨y0, y1, y2, y3, y4, y5, y6, y7, y8⟩ := hY7.cells9
  unfold txV
  unfold TxD.none
  go_wp2_with fail
  refine (cS p1 p2 p3 p4 _ hA7 hT7).mono ?_
  rintro e w8 ⟨rfl, hb8⟩
  have hB3 := hB7.trans (hb8.mono hB7.size)
  clear x0 x1 x2 x3 x4 x5 x6 x7 x8 y0 y1 y2 y3 y4 y5 y6 y7 y8 hb8 hX7 hY7 hA7 hT7 cS hB7
  go_wp2_with fail
  refine (hD _).mono ?_
  rintro e wa1 ⟨t1, t2, t3, t4, rfl, hAt, _, _, hbt⟩
  have hBt := hB3.trans (hbt.mono hB3.size)
  have bN := belowNew wa1 (.cells (txC d2 t1 t2 t3 t4).toArray 25)
  have hBu := hBt.trans (bN.mono hBt.size)
  have hAu := hAt.below bN
  clear hbt hBt bN hAt hB3 hD
  unfold txV
  go_wp2_with fail
  refine (cF t1 t2 t3 t4 _ hAu).mono ?_
  rintro e wa2 ⟨rfl, hbu⟩
  have hBv := hBu.trans (hbu.mono hBu.size)
  clear hbu cF hBu hAu
  go_wp2
  go_ret
  exact ⟨rfl, hBv⟩

theorem back_walk (d : TxD) (ra : Option Addr) (rc : Nat) (wa : Option Addr) (wc : Nat) (s : ByteArray) (w : World) (hA : TxAt w d ra wa) (hr : ra = none → rc = 0) (hw : wa = none → wc = 0) (hs : TxSizes d) (hl : d.rs.length * 16 ≤ 140737488351232 ∧ d.ws.length * 16 ≤ 140737488351232) (_ : s.size ≤ 140737488351232) :
    Calls Try.prog 5 #[txV d ra rc wa wc, .string s] w fun e w' => e = .returned (.bool true) ∧ Below w.heap.size w w' := by
  by_cases h5 : 5000 < s.size
  · exact back_long d ra rc wa wc s w h5
  by_cases he : (decL s.data.toList).2 = 0
  · have hd : decL s.data.toList = ((decL s.data.toList).1, 0) := by rw [← he]
    by_cases hz : checkL d = 0
    · exact back_yes_ok d ra rc wa wc s w hA hr hw hl (by omega) hz _ hd
    · exact back_no_ok d ra rc wa wc s w hA hr hw hl (by omega) hz _ hd
  · have hd : decL s.data.toList = (.none, (decL s.data.toList).2) := by rw [← dec_none _ he]
    by_cases hz : checkL d = 0
    · exact back_yes_err d ra rc wa wc s w hA hr hw hl (by omega) hz _ hd he
    · exact back_no_err d ra rc wa wc s w hA hr hw hl (by omega) hz _ hd he
end Go.Proofs.Ytlpnoimoeadheaa
