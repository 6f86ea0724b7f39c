/- The walk of BlockReads. -/
import Derived.Test.YtepgdbpofppdcaaRefBlkDecode
import Derived.Test.YtepgdbpofppdcaaRefBlkSame
import Derived.Test.YtepgdbpofppdcaaRefBlkWord
namespace Go.Proofs.Ytepgdbpofppdcaa
open Go.RowKit
set_option linter.unusedVariables false

theorem gotQc_same {r : Except Nat QcD} {x y : QcM} {e f : Nat} (h : (e = 0 ∧ r = .ok x.d) ∨ (e ≠ 0 ∧ r = .error e ∧ x = qc0)) (k : (f = 0 ∧ r = .ok y.d) ∨ (f ≠ 0 ∧ r = .error f ∧ y = qc0)) : e = f ∧ x.d = y.d := by
  rcases h with ⟨h1, h2⟩ | ⟨h1, h2, h3⟩ <;> rcases k with ⟨k1, k2⟩ | ⟨k1, k2, k3⟩
  · rw [h2] at k2
    exact ⟨by omega, Except.ok.inj k2⟩
  · rw [h2] at k2
    cases k2
  · rw [h2] at k2
    cases k2
  · rw [h2] at k2
    exact ⟨Except.error.inj k2, by rw [h3, k3]⟩

theorem gotBlk_same {r : Except Nat BlkD} {x y : BlkM} {e f : Nat} (h : (e = 0 ∧ r = .ok x.d) ∨ (e ≠ 0 ∧ r = .error e ∧ x = blk0)) (k : (f = 0 ∧ r = .ok y.d) ∨ (f ≠ 0 ∧ r = .error f ∧ y = blk0)) : e = f ∧ x.d = y.d := by
  rcases h with ⟨h1, h2⟩ | ⟨h1, h2, h3⟩ <;> rcases k with ⟨k1, k2⟩ | ⟨k1, k2, k3⟩
  · rw [h2] at k2
    exact ⟨by omega, Except.ok.inj k2⟩
  · rw [h2] at k2
    cases k2
  · rw [h2] at k2
    cases k2
  · rw [h2] at k2
    exact ⟨Except.error.inj k2, by rw [h3, k3]⟩

theorem decQ_lens {l : List UInt8} {x : QcM} {e : Nat} (h : (e = 0 ∧ decQ l = .ok x.d) ∨ (e ≠ 0 ∧ decQ l = .error e ∧ x = qc0)) : x.votes.length ≤ 7 := by
  rcases h with ⟨_, h⟩ | ⟨_, _, rfl⟩
  · exact (encQ_dec h).2.few
  · decide

theorem decK_lens {l : List UInt8} {x : BlkM} {e : Nat} (h : (e = 0 ∧ decK l = .ok x.d) ∨ (e ≠ 0 ∧ decK l = .error e ∧ x = blk0)) : x.qc.votes.length ≤ 7 ∧ x.certs.length ≤ 8 := by
  rcases h with ⟨_, h⟩ | ⟨_, _, rfl⟩
  · exact ⟨(encK_dec h).2.qc.few, (encK_dec h).2.few⟩
  · decide

set_option maxRecDepth 100000 in
set_option maxHeartbeats 2000000 in
theorem blockReads_walk (s : ByteArray) (v : Int) (id : ByteArray) (w : World) (hs : s.size ≤ 140737488351232) (hwf : (Lit.int .i64 v).wf = true) (hid : id.size ≤ 140737488351232) :
    Calls Try.prog 4 #[.string s, .int .i64 v, .string id] w fun e w' => e = .returned (.bool true) ∧ Below w.heap.size w w' := by
  by_cases hl : 20000 < s.size
  · have hl' : (20000 : Int) < s.size := by omega
    go_enter Try.func4, Try.ntmps4
    go_wp2
    go_ret
    exact ⟨rfl, Below.refl _ _⟩
  have hl' : ¬ (20000 : Int) < s.size := by omega
  by_cases hi : 1000 < id.size
  · have hi' : (1000 : Int) < id.size := by omega
    go_enter Try.func4, Try.ntmps4
    go_wp2
    go_ret
    exact ⟨rfl, Below.refl _ _⟩
  have hi' : ¬ (1000 : Int) < id.size := by omega
  have hmx : s.size ≤ maxLen := by unfold maxLen; omega
  have cA := fun w1 => blkDecode_any s w1 hmx
  have cB := fun w1 => refBlkDecode_any s w1 hmx
  have cC := fun w1 => decodeQc_any s w1 hmx
  have cD := fun w1 => refDecodeQc_any s w1 hmx
  have cW := fun w1 => word_any v id w1 hid
  have cV := fun w1 => refWord_any v id w1 hid
  have cG := fun w1 => genesis_any w1
  have cH := fun w1 => refGenesis_any w1
  have hlens : Hid (∀ (x : BlkM) (er : Nat), ((er = 0 ∧ decK s.data.toList = .ok x.d) ∨ (er ≠ 0 ∧ decK s.data.toList = .error er ∧ x = blk0)) → x.qc.votes.length ≤ 7 ∧ x.certs.length ≤ 8) := fun x er h => decK_lens h
  have hlenq : Hid (∀ (x : QcM) (er : Nat), ((er = 0 ∧ decQ s.data.toList = .ok x.d) ∨ (er ≠ 0 ∧ decQ s.data.toList = .error er ∧ x = qc0)) → x.votes.length ≤ 7) := fun x er h => decQ_lens h
  generalize decK s.data.toList = r at cA cB hlens
  generalize decQ s.data.toList = rq at cC cD hlenq
  generalize wordB v id = wb at cW cV
  generalize gen32 = gb at cG cH
  go_enter Try.func4, Try.ntmps4
  go_wp2_with fail
  refine (cA _).mono ?_
  rintro e w1 ⟨x, er, rfl, hx, hres, hxf, hb1⟩
  have hbx := belowNew w1 (.cells x.c.toArray 39)
  have hX := Arr.new w1 39 x.c
  have hx1 := hx.below hbx
  have hB1 := hb1.trans (hbx.mono hb1.size)
  clear hx hxf hbx hb1 cA
  unfold BlkM.v
  unfold BlkM.c at hX hx1 hB1
  go_wp2_with fail
  refine (cB _).mono ?_
  rintro e w2 ⟨y, er2, rfl, hy, hres2, hyf, hb2⟩
  have hbx := belowNew w2 (.cells y.c.toArray 39)
  have hY := Arr.new w2 39 y.c
  have hb3 := hb2.trans (hbx.mono hb2.size)
  have hX2 := hX.below hb3 hX.lt
  have hx2 := hx1.below hb3
  have hy2 := hy.below hbx
  have hB2 := hB1.trans (hb3.mono hB1.size)
  obtain ⟨hee, hdd⟩ := gotBlk_same hres hres2
  have hLn := hlens.out x er hres
  subst hee
  clear hy hyf hbx hb2 hb3 cB hX hx1 hB1 hres hres2 hlens
  unfold BlkM.v
  unfold BlkM.c at hX2 hY hx2 hy2 hB2
  go_wp2_with fail
  refine (cC _).mono ?_
  rintro e w3 ⟨p, ep, rfl, hp, hresp, hpf, hb3⟩
  have hbx := belowNew w3 (.cells p.c.toArray 37)
  have hP := Arr.new w3 37 p.c
  have hb4 := hb3.trans (hbx.mono hb3.size)
  have hX3 := hX2.below hb4 hX2.lt
  have hY3 := hY.below hb4 hY.lt
  have hx3 := hx2.below hb4
  have hy3 := hy2.below hb4
  have hp3 := hp.below hbx
  have hB3 := hB2.trans (hb4.mono hB2.size)
  clear hp hpf hbx hb3 hb4 cC hX2 hY hx2 hy2 hB2
  unfold QcM.v
  unfold QcM.c at hX3 hY3 hx3 hy3 hp3 hP hB3
  go_wp2_with fail
  refine (cD _).mono ?_
  rintro e w4 ⟨q, eq, rfl, hq, hresq, hqf, hb4⟩
  have hbx := belowNew w4 (.cells q.c.toArray 37)
  have hQ := Arr.new w4 37 q.c
  have hb5 := hb4.trans (hbx.mono hb4.size)
  have hX4 := hX3.below hb5 hX3.lt
  have hY4 := hY3.below hb5 hY3.lt
  have hP4 := hP.below hb5 hP.lt
  have hx4 := hx3.below hb5
  have hy4 := hy3.below hb5
  have hp4 := hp3.below hb5
  have hq4 := hq.below hbx
  have hB4 := hB3.trans (hb5.mono hB3.size)
  obtain ⟨hee, hqq⟩ := gotQc_same hresp hresq
  have hLq := hlenq.out p ep hresp
  subst hee
  clear hq hqf hbx hb4 hb5 cD hX3 hY3 hx3 hy3 hp3 hP hB3 hresp hresq hlenq
  unfold QcM.v
  unfold QcM.c at hX4 hY4 hx4 hy4 hp4 hq4 hP4 hQ hB4
  have cS := sameK_any x y _ hx4 hy4 hdd (by omega) (by omega)
  have cQ := fun w5 h1 h2 => sameQ_any p q w5 h1 h2 hqq (by omega)
  unfold BlkM.v at cS
  unfold QcM.v at cQ
  have x0 := hX4.cell (i := 0) rfl
  have x1 := hX4.cell (i := 1) rfl
  have x2 := hX4.cell (i := 2) rfl
  have x3 := hX4.cell (i := 3) rfl
  have x4 := hX4.cell (i := 4) rfl
  have y0 := hY4.cell (i := 0) rfl
  have y1 := hY4.cell (i := 1) rfl
  have y2 := hY4.cell (i := 2) rfl
  have y3 := hY4.cell (i := 3) rfl
  have y4 := hY4.cell (i := 4) rfl
  clear hx4 hy4 hdd hLn hLq hqq
  go_wp2_with fail
  refine cS.mono ?_
  rintro e w5 ⟨rfl, hb5⟩
  have hP5 := hP4.below hb5 hP4.lt
  have hQ5 := hQ.below hb5 hQ.lt
  have hp5 := hp4.below hb5
  have hq5 := hq4.below hb5
  have hB5 := hB4.trans (hb5.mono hB4.size)
  clear cS hX4 hY4 hP4 hQ hp4 hq4 hB4 hb5 x0 x1 x2 x3 x4 y0 y1 y2 y3 y4
  have x0 := hP5.cell (i := 0) rfl
  have x1 := hP5.cell (i := 1) rfl
  have x2 := hP5.cell (i := 2) rfl
  have y0 := hQ5.cell (i := 0) rfl
  have y1 := hQ5.cell (i := 1) rfl
  have y2 := hQ5.cell (i := 2) rfl
  go_wp2_with fail
  refine (cQ _ hp5 hq5).mono ?_
  rintro e w6 ⟨rfl, hb6⟩
  have hB6 := hB5.trans (hb6.mono hB5.size)
  clear cQ hP5 hQ5 hp5 hq5 hB5 hb6 x0 x1 x2 y0 y1 y2
  go_wp2_with fail
  refine (cW _).mono ?_
  rintro e w7 ⟨rfl, hb7⟩
  have hB7 := hB6.trans (hb7.mono hB6.size)
  clear cW hB6 hb7
  go_wp2_with fail
  refine (cV _).mono ?_
  rintro e w8 ⟨rfl, hb8⟩
  have hB8 := hB7.trans (hb8.mono hB7.size)
  clear cV hB7 hb8
  go_wp2_with fail
  refine (cG _).mono ?_
  rintro e w9 ⟨rfl, hb9⟩
  have hB9 := hB8.trans (hb9.mono hB8.size)
  clear cG hB8 hb9
  go_wp2_with fail
  refine (cH _).mono ?_
  rintro e w10 ⟨rfl, hb10⟩
  have hBF := hB9.trans (hb10.mono hB9.size)
  clear cH hB9 hb10
  go_wp2
  go_ret
  exact ⟨rfl, hBF⟩
end Go.Proofs.Ytepgdbpofppdcaa
