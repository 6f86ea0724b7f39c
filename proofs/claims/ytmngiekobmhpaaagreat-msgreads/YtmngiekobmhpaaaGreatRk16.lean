/- Texts as one: RefHdrDecode, RefCertDecode, RefBlkDecode. -/
import Derived.Test.YtmngiekobmhpaaaGreatRk10
import Derived.Test.YtmngiekobmhpaaaGreatRk15
import Derived.Deep.RegionHeld3
/- What tuskref06.Some, Get and Decode do; nothing old in memory is turned. -/
namespace Go.Proofs.YtmngiekobmhpaaaGreat
open Go.RowKit
set_option linter.unusedVariables false

set_option maxRecDepth 100000 in
set_option maxHeartbeats 1000000 in
theorem some_k (rb : Nat) (w : World) (rest : ByteArray) (E : Nat) (hR : Arr w rb 62 [.string rest, .int .i64 (E : Int)]) (hs : rest.size ≤ maxLen) :
    Calls Tryz.prog 64 #[.pointer (some ⟨rb, 0, none⟩)] w fun e w' => ∃ (ts : List TagD) (E' : Nat) (rest' : ByteArray) (ao : Option Addr) (cap : Nat), e = .returned (.slice ao ts.length cap) ∧ ts.length ≤ 7 ∧ rest'.size ≤ maxLen ∧
      (∀ (α : Type) (f : List TagD → List UInt8 → Except Nat α), runX E (rdG rest.data.toList f) = runX E' (f ts rest'.data.toList)) ∧ RowAt tagK w' ao ts ∧ (ao = none → cap = 0) ∧ (∀ b, rowFoot tagK ao ts b → w.heap.size ≤ b) ∧ Arr w' rb 62 [.string rest', .int .i64 (E' : Int)] ∧ Kept (fun k => k = rb) w w' := by
  have c0 := hR.cell (i := 0) rfl
  have c1 := hR.cell (i := 1) rfl
  by_cases hE : E = 0
  · subst hE
    rcases hr : getTagsL rest.data.toList with ⟨ts, k, er⟩
    have hl : rest.data.toList.length = rest.size := by simp
    have cG := fun w1 => refGetTags_any rest w1 hs
    rw [hr] at cG
    have hkn : k ≤ rest.size ∧ ts.length ≤ 7 := by
      by_cases he : er = 0
      · subst he
        have hgb := getTags_back hr
        have b3 := hgb.2.2.1
        have b4 := hgb.2.2.2.1
        omega
      · have := getTags_zero hr he
        rw [this.1, this.2]
        simp
    have hk : (k : Int) ≤ rest.size := by omega
    have hk0 : k ≤ rest.size := hkn.1
    have hstep : Hid (∀ (α : Type) (f : List TagD → List UInt8 → Except Nat α), runX 0 (rdG rest.data.toList f) = runX er (f ts (rest.extract k rest.size).data.toList)) := by
      intro α f
      by_cases he : er = 0
      · subst he
        rw [rdG_ok hr, extract_drop]
      · rw [rdG_err hr he, runX_err he]
        rfl
    have hsz := rest_le rest k hs
    have hn : Hid (ts.length ≤ 7) := hkn.2
    clear hr hl hs hkn
    go_enter Tryz.func64, Tryz.ntmps64
    go_wp2_with fail
    refine (cG _).mono ?_
    rintro e w1 ⟨ts', k', er', ao, cap, rfl, heq, hO, hn2, hf, hb⟩
    simp only [Prod.mk.injEq] at heq
    obtain ⟨rfl, rfl, rfl⟩ := heq
    have hR1 := hR.below hb hR.lt
    have fin := (hR1.set 1 (.int .i64 (er : Int))).set 0 (.string (rest.extract k rest.size))
    have kin := ((Kept.of_below (S := fun k => k = rb) hb).set (p := ⟨rb, 1, none⟩) rfl (.int .i64 (er : Int))).set (p := ⟨rb, 0, none⟩) rfl (.string (rest.extract k rest.size))
    have hOF := (hO.kept (Kept.setCell w1 ⟨rb, 1, none⟩ (.int .i64 (er : Int))) (fun b hb e => by have := hf b hb; have := hR.lt; have e' : b = rb := e; omega)).kept (Kept.setCell _ ⟨rb, 0, none⟩ (.string (rest.extract k rest.size))) (fun b hb e => by have := hf b hb; have := hR.lt; have e' : b = rb := e; omega)
    have d0 := hR1.cell (i := 0) rfl
    have f0 := hR1.frozen 0
    have d1 := hR1.cell (i := 1) rfl
    have f1 := hR1.frozen 1
    clear hR hR1 c0 c1 hO hb cG
    go_wp2
    go_ret
    exact ⟨ts, er, rest.extract k rest.size, ao, cap, rfl, hn.out, hsz, hstep.out, hOF, hn2, hf, fin, kin⟩
  · have hE' : ((E : Int) != 0) = true := by rw [bne_iff_ne]; omega
    go_enter Tryz.func64, Tryz.ntmps64
    go_wp2
    go_ret
    exact ⟨[], E, rest, none, 0, rfl, by simp, hs, fun α f => by rw [runX_err hE, runX_err hE], nil_row _ _, fun _ => rfl, fun b hb => (nil_foot hb).elim, hR, Kept.refl _ _⟩

theorem results_hdr {fn : Func} {p : Tmp} (h : fn.results = #[.cell p 30]) (tmps : Array Value) (w : World) (g : Nat) (x : HdrM)
    (hp : tmps.getD p undef = .pointer (some ⟨g, 0, none⟩)) (hg : Arr w g 30 x.c) :
    (results fn tmps).run Tryz.prog w = .ok x.v w :=
  results_cell_row h tmps w g 30 x.c.toArray (0, 0) _ hp hg Tryz.underlying30 rfl infoHdr6

/-- The reader, a result, and the header that is being read. -/
structure GS (w : World) (rb zb tb : Nat) (wr : World) (rest : ByteArray) (E : Nat) (q : Value) (l : List RefM) (a n : Int) : Prop where
  rd : Arr wr rb 62 [.string rest, .int .i64 (E : Int)]
  z : Arr wr zb 30 [.int .i64 0, .int .i64 0, .slice none 0 0, .slice none 0 0]
  h : Arr wr tb 30 [.int .i64 a, .int .i64 n, q, .slice none 0 0]
  q : KQ refK 126 wr (tb + 1) q l
  f : ∀ x ∈ l, ∀ b, refK.foot x b → tb + 1 ≤ b
  k : Kept (fun k => k = rb) w wr
  o1 : rb < w.heap.size
  o2 : w.heap.size ≤ zb
  o3 : zb < tb

theorem GS.kept {w : World} {rb zb tb : Nat} {wr w' : World} {rest rest' : ByteArray} {E E' : Nat} {q : Value} {l : List RefM} {a n : Int} (h : GS w rb zb tb wr rest E q l a n) (hk : Kept (fun k => k = rb) wr w') (hR : Arr w' rb 62 [.string rest', .int .i64 (E' : Int)]) : GS w rb zb tb w' rest' E' q l a n :=
  have o1 := h.o1
  have o2 := h.o2
  have o3 := h.o3
  ⟨hR, h.z.kept hk (by omega), h.h.kept hk (by omega), h.q.kept hk (fun k hq e => by have := (h.q.lt k hq).1; have e' : k = rb := e; omega) (fun x hx b hb e => by have := h.f x hx b hb; have e' : b = rb := e; omega), h.f, h.k.trans hk, o1, o2, o3⟩

theorem GS.below {w : World} {rb zb tb : Nat} {wr w' : World} {rest : ByteArray} {E : Nat} {q : Value} {l : List RefM} {a n : Int} (h : GS w rb zb tb wr rest E q l a n) (hb : Below wr.heap.size wr w') : GS w rb zb tb w' rest E q l a n :=
  h.kept (Kept.of_below hb) (h.rd.below hb h.rd.lt)

/-- One more Ref. -/
theorem GS.push {w : World} {rb zb tb : Nat} {w7 w8 : World} {rest : ByteArray} {E : Nat} {q q' : Value} {l : List RefM} {x : RefM} {a n : Int} (h : GS w rb zb tb w7 rest E q l a n) (hk : Kept (fun k => q.ownBlock = some k) w7 w8) (hq8 : KQ refK 126 w8 (tb + 1) q' (l ++ [x])) (hx : ∀ b, refK.foot x b → tb + 1 ≤ b) :
    GS w rb zb tb (w8.setCell ⟨tb, 2, none⟩ q') rest E q' (l ++ [x]) a n := by
  have o1 := h.o1
  have o2 := h.o2
  have o3 := h.o3
  have hqt : ∀ j, q.ownBlock = some j → tb + 1 ≤ j := fun j hj => (h.q.lt j hj).1
  have hol : ∀ y ∈ l ++ [x], ∀ b, refK.foot y b → tb + 1 ≤ b := by
    intro y hy
    rw [List.mem_append, List.mem_singleton] at hy
    rcases hy with hy | rfl
    · exact h.f y hy
    · exact hx
  refine ⟨(h.rd.kept hk (fun e => by have := hqt _ e; omega)).other (p := ⟨tb, 2, none⟩) (by show rb ≠ tb; omega) q', (h.z.kept hk (fun e => by have := hqt _ e; omega)).other (p := ⟨tb, 2, none⟩) (by show zb ≠ tb; omega) q', (h.h.kept hk (fun e => by have := hqt _ e; omega)).set 2 q', ?_, hol, ?_, o1, o2, o3⟩
  · exact hq8.kept (Kept.setCell w8 ⟨tb, 2, none⟩ q') (fun k hq e => by have := (hq8.lt k hq).1; have e' : k = tb := e; omega) (fun y hy b hb e => by have := hol y hy b hb; have e' : b = tb := e; omega)
  · exact (h.k.transNew hk (fun j hj => by have := hqt j hj; omega)).setNew (a := ⟨tb, 2, none⟩) (by show w.heap.size ≤ tb; omega) q'

set_option maxRecDepth 100000 in
set_option maxHeartbeats 4000000 in
theorem get_k (rb : Nat) (w : World) (rest : ByteArray) (E : Nat) (hR : Arr w rb 62 [.string rest, .int .i64 (E : Int)]) (hs : rest.size ≤ maxLen) :
    Calls Tryz.prog 102 #[.pointer (some ⟨rb, 0, none⟩)] w fun e w' => ∃ (x : HdrM) (E' : Nat) (rest' : ByteArray), e = .returned x.v ∧ rest'.size ≤ maxLen ∧ (0 ≤ x.author ∧ x.author ≤ 4611686018427387903) ∧
      (∀ (α : Type) (f : HdrD → List UInt8 → Except Nat α), runX E (rdH rest.data.toList f) = runX E' (f x.d rest'.data.toList)) ∧ x.At w' ∧ (∀ b, x.foot b → w.heap.size ≤ b) ∧ Arr w' rb 62 [.string rest', .int .i64 (E' : Int)] ∧ Kept (fun k => k = rb) w w' := by
  obtain ⟨i0, hi, hz0, hz1, hz2⟩ := info_parts infoRef6
  have hZ := Arr.new w 30 [.int .i64 0, .int .i64 0, .slice none 0 0, .slice none 0 0]
  have hbn := belowNew w (.cells #[.int .i64 0, .int .i64 0, .slice none 0 0, .slice none 0 0] 30)
  have hR0 := hR.below hbn hR.lt
  have hrl := hR.lt
  have c0 := inInt_k rb _ rest E hR0 hs
  have k0 := Kept.of_below (S := fun k => k = rb) hbn
  clear hR hbn hR0
  go_enter Tryz.func102, Tryz.ntmps102
  go_wp2_with fail
  refine c0.mono ?_
  rintro e w1 ⟨v0, E1, r1, rfl, hv0, hr1, hf1, hR1, hk1⟩
  have hZ1 := hZ.kept hk1 (by omega)
  have kin1 := k0.trans hk1
  clear c0 hZ hk1 k0
  have c1 := inInt_k rb _ r1 E1 hR1 hr1
  go_wp2_with fail
  refine c1.mono ?_
  rintro e w2 ⟨v1, E2, r2, rfl, hv1, hr2, hf2, hR2, hk2⟩
  have hZ2 := hZ1.kept hk2 (by omega)
  have kin2 := kin1.trans hk2
  clear c1 hZ1 hk2 kin1 hR1 hr1
  have c2 := inInt_k rb _ r2 E2 hR2 hr2
  go_wp2_with fail
  refine c2.mono ?_
  rintro e w3 ⟨n, E3, r3, rfl, hn, hr3, hf3, hR3, hk3⟩
  have hZ3 := hZ2.kept hk3 (by omega)
  have kin3 := kin2.trans hk3
  clear c2 hZ2 hk3 kin2 hR2 hr2
  have u1 := hR3.cell (i := 1) rfl
  have fu1 := hR3.frozen 1
  have hrt := hR3.lt
  have hzl := hZ3.lt
  have HS : Hid (∀ (α : Type) (f : HdrD → List UInt8 → Except Nat α), runX E (rdH rest.data.toList f) = runX E3 (if 4 < n then .error 8 else rdRefs n r3.data.toList fun rs l => rdL 7 l fun ps l => f ⟨(v0 : Int), (v1 : Int), rs, mks ps⟩ l)) := by
    intro α f
    unfold rdH
    rw [hf1, hf2, hf3]
  clear hf1 hf2 hf3
  by_cases hA : E3 = 0 ∧ 4 < n
  · obtain ⟨rfl, h4⟩ := hA
    have h4' : (4 : Int) < (n : Int) := by omega
    have hRA := hR3.set 1 (.int .i64 8)
    have hZA := hZ3.other (p := ⟨rb, 1, none⟩) (by show w.heap.size ≠ rb; omega) (.int .i64 8)
    have kinA := kin3.set (p := ⟨rb, 1, none⟩) rfl (.int .i64 8)
    have HA : Hid (∀ (α : Type) (f : HdrD → List UInt8 → Except Nat α), runX E (rdH rest.data.toList f) = runX 8 (rdRefs n r3.data.toList fun rs l => rdL 7 l fun ps l => f ⟨(v0 : Int), (v1 : Int), rs, mks ps⟩ l)) := by
      intro α f
      rw [HS.out, if_pos h4]
      rfl
    obtain ⟨EA, hEA⟩ : ∃ q, q = 8 := ⟨_, rfl⟩
    rw [← hEA] at HA
    have hnA : n ≤ 4 ∨ EA ≠ 0 := Or.inr (by omega)
    have hRA' : Arr (w3.setCell ⟨rb, 1, none⟩ (.int .i64 8)) rb 62 [.string r3, .int .i64 (EA : Int)] := by rw [hEA]; exact hRA
    obtain ⟨w4, hw4⟩ : ∃ q, w3.setCell ⟨rb, 1, none⟩ (.int .i64 8) = q := ⟨_, rfl⟩
    rw [hw4] at hRA' hZA kinA
    have hbx := belowNew w4 (.cells #[.int .i64 (v0 : Int), .int .i64 (v1 : Int), .slice none 0 0, .slice none 0 0] 30)
    have hG : GS w rb w.heap.size w4.heap.size (w4.alloc (.cells #[.int .i64 (v0 : Int), .int .i64 (v1 : Int), .slice none 0 0, .slice none 0 0] 30)) r3 EA (.slice none 0 0) [] (v0 : Int) (v1 : Int) :=
      ⟨hRA'.alloc _, hZA.alloc _, Arr.new w4 30 _, KQ.empty _ _ _ _, (fun x hx => by cases hx), kinA.trans (Kept.of_below hbx), hrl, Nat.le_refl _, hZA.lt⟩
    clear hbx hRA hRA' hZA kinA hR3 hZ3 kin3 HS hEA
    go_wp2
    go_loopw [7, 8] (fun v7 v8 wr => ∃ (l : List RefM) (EB : Nat) (rB : ByteArray) (q : Value), v7 = .int .i64 (l.length : Int) ∧ l.length ≤ n ∧ (n ≤ 4 ∨ EB ≠ 0) ∧ rB.size ≤ maxLen ∧ GS w rb w.heap.size w4.heap.size wr rB EB q l (v0 : Int) (v1 : Int) ∧
        Hid (∀ (α : Type) (f : List RefD → List UInt8 → Except Nat α), runX EA (rdRefs n r3.data.toList f) = runX EB (rdRefs (n - l.length) rB.data.toList (fun rs r => f (rd l ++ rs) r)))) (fun v7 _ _ => n - (intOf v7).toNat)
    case atStart => exact ⟨[], EA, r3, _, rfl, Nat.zero_le _, hnA, hr3, hG, fun α f => rfl⟩
    case round =>
      clear hG hnA
      obtain ⟨l, EB, rB, q, rfl, hln, hnB, hrB, hG, HB⟩ := hrel
      have u1 := hG.rd.cell (i := 1) rfl
      obtain ⟨qa, qc, rfl, hqn, hqt⟩ := hG.q.form
      have o1 := hG.o1
      have o2 := hG.o2
      have o3 := hG.o3
      have h4l := hG.h.lt
      by_cases hgo : EB = 0 ∧ l.length < n
      · obtain ⟨rfl, hlt⟩ := hgo
        rcases hnB with h | h
        · omega
        · exact absurd rfl h
      · have HF : Hid (∀ (α : Type) (f : List RefD → List UInt8 → Except Nat α), runX EA (rdRefs n r3.data.toList f) = runX EB (f (rd l) rB.data.toList)) := by
          intro α f
          by_cases h0 : EB = 0
          · have e1 : n - l.length = 0 := by have : ¬ l.length < n := fun h => hgo ⟨h0, h⟩; omega
            rw [HB.out, e1, rdRefs, List.append_nil]
          · rw [HB.out, runX_err h0, runX_err h0]
        have cL := inList_k rb wr rB EB 7 (by omega) hG.rd hrB
        have hzw : wr.heap.size ≤ wr.heap.size := Nat.le_refl _
        clear HB
        have hdd : (l.length : Int) < (n : Int) → ((EB : Int) == 0) = false := fun h => beq_eq_false_iff_ne.2 (fun e => hgo ⟨by omega, by omega⟩)
        clear hgo
        by_cases hlt : (l.length : Int) < (n : Int)
        · have hd2 := hdd hlt
          clear hdd
          go_wp2_with fail
          refine cL.mono ?_
          rintro e w7 ⟨ps, EF, rF, pa, pc, rfl, hpl, hp7, hrF, hfF, hO7, hR7, hk7, hn7⟩
          have hG7 := hG.kept hk7 hR7
          have hRow7 := hqt.kept hk7 (fun b hb e => by have := (hG.q.foot_ge (Nat.le_refl _) hG.f) b hb; have e' : b = rb := e; omega)
          have hP7 := hO7.at.row
          have hffr : ∀ b, rowFoot refK qa l b → w4.heap.size < b := fun b hb => (hG.q.foot_ge (Nat.le_refl _) hG.f) b hb
          have hffp : ∀ b, rowFoot strK pa (mks ps) b → w4.heap.size < b := fun b hb => by have := hO7.foot hb; have := hG.h.lt; omega
          obtain ⟨pss, hpss⟩ : ∃ q, q = mks ps := ⟨_, rfl⟩
          rw [← hpss] at hP7 hffp ⊢
          have HH : Hid (∀ (α : Type) (f : HdrD → List UInt8 → Except Nat α), runX E (rdH rest.data.toList f) = runX EF (f (HdrM.d ⟨(v0 : Int), (v1 : Int), qa, l, qc, pa, pss, pc⟩) rF.data.toList)) := by
            intro α f
            rw [HA.out, HF.out, hpss]
            exact hfF _ _
          clear hpss hfF HF hG hqt hO7 hR7 hk7 cL u1
          have d3 := hG7.h.cell (i := 3) rfl
          have fd3 := hG7.h.frozen 3
          have hT8 := hG7.h.set 3 (.slice pa pss.length pc)
          have kk8 := Kept.setCell w7 ⟨w4.heap.size, 3, none⟩ (.slice pa pss.length pc)
          have hZ8 := hG7.z.other (p := ⟨w4.heap.size, 3, none⟩) (by show w.heap.size ≠ w4.heap.size; omega) (.slice pa pss.length pc)
          have hR8 := hG7.rd.other (p := ⟨w4.heap.size, 3, none⟩) (by show rb ≠ w4.heap.size; omega) (.slice pa pss.length pc)
          have kin8 := hG7.k.setNew (a := ⟨w4.heap.size, 3, none⟩) (by show w.heap.size ≤ w4.heap.size; omega) (.slice pa pss.length pc)
          have hRow8 := hRow7.kept kk8 (fun b hb e => by have := hffr b hb; have e' : b = w4.heap.size := e; omega)
          have hP8 := hP7.kept kk8 (fun b hb e => by have := hffp b hb; have e' : b = w4.heap.size := e; omega)
          obtain ⟨w8, hw8⟩ : ∃ q, w7.setCell ⟨w4.heap.size, 3, none⟩ (.slice pa pss.length pc) = q := ⟨_, rfl⟩
          rw [hw8] at hT8 hZ8 hR8 kin8 hRow8 hP8
          have t0 := hT8.cell (i := 0) rfl
          have t1 := hT8.cell (i := 1) rfl
          have t2 := hT8.cell (i := 2) rfl
          have t3 := hT8.cell (i := 3) rfl
          have y0 := hZ8.cell (i := 0) rfl
          have y1 := hZ8.cell (i := 1) rfl
          have y2 := hZ8.cell (i := 2) rfl
          have y3 := hZ8.cell (i := 3) rfl
          have p0 := hZ8.frozen 0
          have p1 := hZ8.frozen 1
          have p2 := hZ8.frozen 2
          have p3 := hZ8.frozen 3
          have k9 := kept_set4 w8 w.heap.size (.int .i64 (v0 : Int)) (.int .i64 (v1 : Int)) (.slice qa l.length qc) (.slice pa pss.length pc)
          have hZ9 := hZ8.set4 (.int .i64 (v0 : Int)) (.int .i64 (v1 : Int)) (.slice qa l.length qc) (.slice pa pss.length pc)
          have hR9 := hR8.kept k9 (by omega)
          have kin9 := kin8.transNew k9 (fun j hj => by have e' : j = w.heap.size := hj; omega)
          have hRow9 := hRow8.kept k9 (fun b hb e => by have := hffr b hb; have e' : b = w.heap.size := e; omega)
          have hP9 := hP8.kept k9 (fun b hb e => by have := hffp b hb; have e' : b = w.heap.size := e; omega)
          have fin : ∀ e : Ending, e = .returned (HdrM.v ⟨(v0 : Int), (v1 : Int), qa, l, qc, pa, pss, pc⟩) → ∃ (x : HdrM) (E' : Nat) (rest' : ByteArray), e = .returned x.v ∧ rest'.size ≤ maxLen ∧ (0 ≤ x.author ∧ x.author ≤ 4611686018427387903) ∧ (∀ (α : Type) (f : HdrD → List UInt8 → Except Nat α), runX E (rdH rest.data.toList f) = runX E' (f x.d rest'.data.toList)) ∧ x.At _ ∧ (∀ b, x.foot b → w.heap.size ≤ b) ∧ Arr _ rb 62 [.string rest', .int .i64 (E' : Int)] ∧ Kept (fun k => k = rb) w _ :=
            fun e hv => ⟨_, EF, rF, hv, hrF, ⟨by show (0 : Int) ≤ v0; omega, by show (v0 : Int) ≤ _; omega⟩, HH.out, ⟨hRow9, hqn, hP9, hn7⟩, fun b hb => hb.elim (fun h => by have := hffr b h; omega) (fun h => by have := hffp b h; omega), hR9, kin9⟩
          unfold set4 at hZ9 fin
          clear hG7 hRow7 hP7 hT8 kk8 hZ8 hR8 kin8 hRow8 hP8 k9 hR9 kin9 hRow9 hP9 HH
          go_wp2
          refine bodyPost_ret (v := HdrM.v ⟨(v0 : Int), (v1 : Int), qa, l, qc, pa, pss, pc⟩) (results_hdr rfl _ _ w.heap.size ⟨(v0 : Int), (v1 : Int), qa, l, qc, pa, pss, pc⟩ rfl hZ9) rfl ?_
          exact fin _ rfl
        · clear hdd
          go_wp2_with fail
          refine cL.mono ?_
          rintro e w7 ⟨ps, EF, rF, pa, pc, rfl, hpl, hp7, hrF, hfF, hO7, hR7, hk7, hn7⟩
          have hG7 := hG.kept hk7 hR7
          have hRow7 := hqt.kept hk7 (fun b hb e => by have := (hG.q.foot_ge (Nat.le_refl _) hG.f) b hb; have e' : b = rb := e; omega)
          have hP7 := hO7.at.row
          have hffr : ∀ b, rowFoot refK qa l b → w4.heap.size < b := fun b hb => (hG.q.foot_ge (Nat.le_refl _) hG.f) b hb
          have hffp : ∀ b, rowFoot strK pa (mks ps) b → w4.heap.size < b := fun b hb => by have := hO7.foot hb; have := hG.h.lt; omega
          obtain ⟨pss, hpss⟩ : ∃ q, q = mks ps := ⟨_, rfl⟩
          rw [← hpss] at hP7 hffp ⊢
          have HH : Hid (∀ (α : Type) (f : HdrD → List UInt8 → Except Nat α), runX E (rdH rest.data.toList f) = runX EF (f (HdrM.d ⟨(v0 : Int), (v1 : Int), qa, l, qc, pa, pss, pc⟩) rF.data.toList)) := by
            intro α f
            rw [HA.out, HF.out, hpss]
            exact hfF _ _
          clear hpss hfF HF hG hqt hO7 hR7 hk7 cL u1
          have d3 := hG7.h.cell (i := 3) rfl
          have fd3 := hG7.h.frozen 3
          have hT8 := hG7.h.set 3 (.slice pa pss.length pc)
          have kk8 := Kept.setCell w7 ⟨w4.heap.size, 3, none⟩ (.slice pa pss.length pc)
          have hZ8 := hG7.z.other (p := ⟨w4.heap.size, 3, none⟩) (by show w.heap.size ≠ w4.heap.size; omega) (.slice pa pss.length pc)
          have hR8 := hG7.rd.other (p := ⟨w4.heap.size, 3, none⟩) (by show rb ≠ w4.heap.size; omega) (.slice pa pss.length pc)
          have kin8 := hG7.k.setNew (a := ⟨w4.heap.size, 3, none⟩) (by show w.heap.size ≤ w4.heap.size; omega) (.slice pa pss.length pc)
          have hRow8 := hRow7.kept kk8 (fun b hb e => by have := hffr b hb; have e' : b = w4.heap.size := e; omega)
          have hP8 := hP7.kept kk8 (fun b hb e => by have := hffp b hb; have e' : b = w4.heap.size := e; omega)
          obtain ⟨w8, hw8⟩ : ∃ q, w7.setCell ⟨w4.heap.size, 3, none⟩ (.slice pa pss.length pc) = q := ⟨_, rfl⟩
          rw [hw8] at hT8 hZ8 hR8 kin8 hRow8 hP8
          have t0 := hT8.cell (i := 0) rfl
          have t1 := hT8.cell (i := 1) rfl
          have t2 := hT8.cell (i := 2) rfl
          have t3 := hT8.cell (i := 3) rfl
          have y0 := hZ8.cell (i := 0) rfl
          have y1 := hZ8.cell (i := 1) rfl
          have y2 := hZ8.cell (i := 2) rfl
          have y3 := hZ8.cell (i := 3) rfl
          have p0 := hZ8.frozen 0
          have p1 := hZ8.frozen 1
          have p2 := hZ8.frozen 2
          have p3 := hZ8.frozen 3
          have k9 := kept_set4 w8 w.heap.size (.int .i64 (v0 : Int)) (.int .i64 (v1 : Int)) (.slice qa l.length qc) (.slice pa pss.length pc)
          have hZ9 := hZ8.set4 (.int .i64 (v0 : Int)) (.int .i64 (v1 : Int)) (.slice qa l.length qc) (.slice pa pss.length pc)
          have hR9 := hR8.kept k9 (by omega)
          have kin9 := kin8.transNew k9 (fun j hj => by have e' : j = w.heap.size := hj; omega)
          have hRow9 := hRow8.kept k9 (fun b hb e => by have := hffr b hb; have e' : b = w.heap.size := e; omega)
          have hP9 := hP8.kept k9 (fun b hb e => by have := hffp b hb; have e' : b = w.heap.size := e; omega)
          have fin : ∀ e : Ending, e = .returned (HdrM.v ⟨(v0 : Int), (v1 : Int), qa, l, qc, pa, pss, pc⟩) → ∃ (x : HdrM) (E' : Nat) (rest' : ByteArray), e = .returned x.v ∧ rest'.size ≤ maxLen ∧ (0 ≤ x.author ∧ x.author ≤ 4611686018427387903) ∧ (∀ (α : Type) (f : HdrD → List UInt8 → Except Nat α), runX E (rdH rest.data.toList f) = runX E' (f x.d rest'.data.toList)) ∧ x.At _ ∧ (∀ b, x.foot b → w.heap.size ≤ b) ∧ Arr _ rb 62 [.string rest', .int .i64 (E' : Int)] ∧ Kept (fun k => k = rb) w _ :=
            fun e hv => ⟨_, EF, rF, hv, hrF, ⟨by show (0 : Int) ≤ v0; omega, by show (v0 : Int) ≤ _; omega⟩, HH.out, ⟨hRow9, hqn, hP9, hn7⟩, fun b hb => hb.elim (fun h => by have := hffr b h; omega) (fun h => by have := hffp b h; omega), hR9, kin9⟩
          unfold set4 at hZ9 fin
          clear hG7 hRow7 hP7 hT8 kk8 hZ8 hR8 kin8 hRow8 hP8 k9 hR9 kin9 hRow9 hP9 HH
          go_wp2
          refine bodyPost_ret (v := HdrM.v ⟨(v0 : Int), (v1 : Int), qa, l, qc, pa, pss, pc⟩) (results_hdr rfl _ _ w.heap.size ⟨(v0 : Int), (v1 : Int), qa, l, qc, pa, pss, pc⟩ rfl hZ9) rfl ?_
          exact fin _ rfl
  · have hnA : n ≤ 4 ∨ E3 ≠ 0 := by
      by_cases h : E3 = 0
      · exact Or.inl (by have : ¬ 4 < n := fun h4 => hA ⟨h, h4⟩; omega)
      · exact Or.inr h
    have HA : Hid (∀ (α : Type) (f : HdrD → List UInt8 → Except Nat α), runX E (rdH rest.data.toList f) = runX E3 (rdRefs n r3.data.toList fun rs l => rdL 7 l fun ps l => f ⟨(v0 : Int), (v1 : Int), rs, mks ps⟩ l)) := by
      intro α f
      rw [HS.out]
      by_cases h : E3 = 0
      · rw [if_neg (fun h4 => hA ⟨h, h4⟩)]
      · rw [runX_err h, runX_err h]
    have hdd : ((E3 : Int) == 0) = true → ¬ (4 : Int) < (n : Int) := fun h h4 => hA ⟨by have := eq_of_beq h; omega, by omega⟩
    clear hA
    obtain ⟨w4, hw4⟩ : ∃ q, q = w3 := ⟨_, rfl⟩
    rw [← hw4] at hR3 hZ3 kin3 u1 fu1 hrt hzl
    have hbx := belowNew w4 (.cells #[.int .i64 (v0 : Int), .int .i64 (v1 : Int), .slice none 0 0, .slice none 0 0] 30)
    have hG : GS w rb w.heap.size w4.heap.size (w4.alloc (.cells #[.int .i64 (v0 : Int), .int .i64 (v1 : Int), .slice none 0 0, .slice none 0 0] 30)) r3 E3 (.slice none 0 0) [] (v0 : Int) (v1 : Int) :=
      ⟨hR3.alloc _, hZ3.alloc _, Arr.new w4 30 _, KQ.empty _ _ _ _, (fun x hx => by cases hx), kin3.trans (Kept.of_below hbx), hrl, Nat.le_refl _, hZ3.lt⟩
    rw [← hw4]
    clear hbx hR3 hZ3 kin3 HS hw4
    obtain ⟨EA, hEA⟩ : ∃ q, q = E3 := ⟨_, rfl⟩
    rw [← hEA] at HA hnA hG hdd u1
    clear hEA
    by_cases h0 : ((EA : Int) == 0) = true
    · have h4' := hdd h0
      clear hdd
      go_wp2
      go_loopw [7, 8] (fun v7 v8 wr => ∃ (l : List RefM) (EB : Nat) (rB : ByteArray) (q : Value), v7 = .int .i64 (l.length : Int) ∧ l.length ≤ n ∧ (n ≤ 4 ∨ EB ≠ 0) ∧ rB.size ≤ maxLen ∧ GS w rb w.heap.size w4.heap.size wr rB EB q l (v0 : Int) (v1 : Int) ∧
          Hid (∀ (α : Type) (f : List RefD → List UInt8 → Except Nat α), runX EA (rdRefs n r3.data.toList f) = runX EB (rdRefs (n - l.length) rB.data.toList (fun rs r => f (rd l ++ rs) r)))) (fun v7 _ _ => n - (intOf v7).toNat)
      case atStart => exact ⟨[], EA, r3, _, rfl, Nat.zero_le _, hnA, hr3, hG, fun α f => rfl⟩
      case round =>
        clear hG hnA
        obtain ⟨l, EB, rB, q, rfl, hln, hnB, hrB, hG, HB⟩ := hrel
        have u1 := hG.rd.cell (i := 1) rfl
        obtain ⟨qa, qc, rfl, hqn, hqt⟩ := hG.q.form
        have o1 := hG.o1
        have o2 := hG.o2
        have o3 := hG.o3
        have h4l := hG.h.lt
        by_cases hgo : EB = 0 ∧ l.length < n
        · obtain ⟨rfl, hlt⟩ := hgo
          have hlt' : (l.length : Int) < (n : Int) := by omega
          have hn4 : n ≤ 4 := by rcases hnB with h | h; exact h; exact absurd rfl h
          have cT := inText_k rb wr rB 0 hG.rd hrB
          go_wp2_with fail
          refine cT.mono ?_
          rintro e w6 ⟨t, EC, rC, rfl, ht, hrC, hfC, hRC, hkC⟩
          have hG6 := hG.kept hkC hRC
          clear cT hG hRC hkC u1 hqt
          have b2 := hG6.h.cell (i := 2) rfl
          have cS := fun w1 (h : Arr w1 rb 62 [.string rC, .int .i64 (EC : Int)]) => some_k rb w1 rC EC h hrC
          have hbd : Below w6.heap.size w6 w6.drew := below_drewN (Below.refl _ _) 1
          have hG6d := hG6.below hbd
          have hsz6 : w6.drew.heap.size = w6.heap.size := rfl
          go_wp2_with fail
          go_region_law (first
            | (go_simp; go_at_call 64; refine (cS _ hG6d.rd).mono ?_; rintro e wA ⟨ts, ED, rD, ao, cap, rfl, h7, hrD, hfD, hO, hno, hff, hRD, hkD⟩; have hGA := hG6d.kept hkD hRD; have b2a := hGA.h.cell (i := 2) rfl; have hbx := belowNew wA (.cells #[.string ⟨t.toArray⟩, .slice ao ts.length cap] 126); have hGD := hGA.below hbx; have b2d := hGD.h.cell (i := 2) rfl; have hx3 := Kind.below refK (x := ⟨⟨t.toArray⟩, ts, ao, cap⟩) ⟨hO, hno⟩ hbx; have hxf : ∀ b, refK.foot ⟨⟨t.toArray⟩, ts, ao, cap⟩ b → w6.heap.size ≤ b := (fun b hb => hff b hb); have hxo : ∀ b, refK.foot ⟨⟨t.toArray⟩, ts, ao, cap⟩ b → (Value.slice qa l.length qc).ownBlock ≠ some b := (fun b hb e => by have := hxf b hb; have := (hG6.q.lt b e).2; omega); have hN := new_ref wA ⟨⟨t.toArray⟩, ts, ao, cap⟩; have hbs : w4.heap.size + 1 ≤ (wA.alloc (.cells #[.string ⟨t.toArray⟩, .slice ao ts.length cap] 126)).heap.size := hGD.h.lt)
            | (refine step_push (K := refK) _ (by rfl) _ _ 27 (by rfl) (w4.heap.size + 1) 126 i0 _ 40 Tryz.underlying27 hi hz0 hz1 hz2 rfl _ l (by rfl) hGD.q ⟨⟨t.toArray⟩, ts, ao, cap⟩ hx3 hxo ⟨wA.heap.size, 0, none⟩ 1 (by rfl) hN (by unfold maxLen; omega) (by omega) hbs ?_; intro ao3 cap3 w8 hq8 hk8; have hB8 := hGD.h.kept hk8 (fun e => by have := (hGD.q.lt _ e).1; omega); have b2e := hB8.cell (i := 2) rfl; have g2e := hB8.frozen 2))
          all_goals
            have hG9 := hGD.push hk8 hq8 (fun b hb => by have := hxf b hb; have := hG6.h.lt; omega)
            have HB2 : Hid (∀ (α : Type) (f : List RefD → List UInt8 → Except Nat α), runX EA (rdRefs n r3.data.toList f) = runX ED (rdRefs (n - (l ++ [(⟨⟨t.toArray⟩, ts, ao, cap⟩ : RefM)]).length) rD.data.toList (fun rs r => f (rd (l ++ [(⟨⟨t.toArray⟩, ts, ao, cap⟩ : RefM)]) ++ rs) r))) := by
              intro α f
              obtain ⟨m, hm⟩ : ∃ m, n - l.length = m + 1 := ⟨n - l.length - 1, by omega⟩
              have e1 : n - (l ++ [(⟨⟨t.toArray⟩, ts, ao, cap⟩ : RefM)]).length = m := by simp; omega
              rw [HB.out, hm, e1]
              show runX 0 (rdT _ _) = _
              rw [hfC, hfD]
              have e2 : (fun rs r => f (rd (l ++ [(⟨⟨t.toArray⟩, ts, ao, cap⟩ : RefM)]) ++ rs) r) = (fun rs r => f (rd l ++ RefM.d ⟨⟨t.toArray⟩, ts, ao, cap⟩ :: rs) r) := by
                funext rs r
                rw [rd_append]
                simp [rd]
              rw [e2]
              rfl
            clear hG6 hG6d hGA hGD hq8 hk8 hB8 b2a b2d b2 hx3 hxo hN hbx hbs hO HB hfC hfD cS hRD hkD hbd
            generalize World.setCell _ ⟨w4.heap.size, 2, none⟩ _ = w9 at hG9 ⊢
            go_wp2
            go_roundw
            case rel => exact ⟨l ++ [⟨⟨t.toArray⟩, ts, ao, cap⟩], ED, rD, _, by simp, by simp; omega, Or.inl hn4, hrD, hG9, HB2⟩
            case measure => simp [intOf]; omega
        · have HF : Hid (∀ (α : Type) (f : List RefD → List UInt8 → Except Nat α), runX EA (rdRefs n r3.data.toList f) = runX EB (f (rd l) rB.data.toList)) := by
            intro α f
            by_cases h0 : EB = 0
            · have e1 : n - l.length = 0 := by have : ¬ l.length < n := fun h => hgo ⟨h0, h⟩; omega
              rw [HB.out, e1, rdRefs, List.append_nil]
            · rw [HB.out, runX_err h0, runX_err h0]
          have cL := inList_k rb wr rB EB 7 (by omega) hG.rd hrB
          have hzw : wr.heap.size ≤ wr.heap.size := Nat.le_refl _
          clear HB
          have hdd : (l.length : Int) < (n : Int) → ((EB : Int) == 0) = false := fun h => beq_eq_false_iff_ne.2 (fun e => hgo ⟨by omega, by omega⟩)
          clear hgo
          by_cases hlt : (l.length : Int) < (n : Int)
          · have hd2 := hdd hlt
            clear hdd
            go_wp2_with fail
            refine cL.mono ?_
            rintro e w7 ⟨ps, EF, rF, pa, pc, rfl, hpl, hp7, hrF, hfF, hO7, hR7, hk7, hn7⟩
            have hG7 := hG.kept hk7 hR7
            have hRow7 := hqt.kept hk7 (fun b hb e => by have := (hG.q.foot_ge (Nat.le_refl _) hG.f) b hb; have e' : b = rb := e; omega)
            have hP7 := hO7.at.row
            have hffr : ∀ b, rowFoot refK qa l b → w4.heap.size < b := fun b hb => (hG.q.foot_ge (Nat.le_refl _) hG.f) b hb
            have hffp : ∀ b, rowFoot strK pa (mks ps) b → w4.heap.size < b := fun b hb => by have := hO7.foot hb; have := hG.h.lt; omega
            obtain ⟨pss, hpss⟩ : ∃ q, q = mks ps := ⟨_, rfl⟩
            rw [← hpss] at hP7 hffp ⊢
            have HH : Hid (∀ (α : Type) (f : HdrD → List UInt8 → Except Nat α), runX E (rdH rest.data.toList f) = runX EF (f (HdrM.d ⟨(v0 : Int), (v1 : Int), qa, l, qc, pa, pss, pc⟩) rF.data.toList)) := by
              intro α f
              rw [HA.out, HF.out, hpss]
              exact hfF _ _
            clear hpss hfF HF hG hqt hO7 hR7 hk7 cL u1
            have d3 := hG7.h.cell (i := 3) rfl
            have fd3 := hG7.h.frozen 3
            have hT8 := hG7.h.set 3 (.slice pa pss.length pc)
            have kk8 := Kept.setCell w7 ⟨w4.heap.size, 3, none⟩ (.slice pa pss.length pc)
            have hZ8 := hG7.z.other (p := ⟨w4.heap.size, 3, none⟩) (by show w.heap.size ≠ w4.heap.size; omega) (.slice pa pss.length pc)
            have hR8 := hG7.rd.other (p := ⟨w4.heap.size, 3, none⟩) (by show rb ≠ w4.heap.size; omega) (.slice pa pss.length pc)
            have kin8 := hG7.k.setNew (a := ⟨w4.heap.size, 3, none⟩) (by show w.heap.size ≤ w4.heap.size; omega) (.slice pa pss.length pc)
            have hRow8 := hRow7.kept kk8 (fun b hb e => by have := hffr b hb; have e' : b = w4.heap.size := e; omega)
            have hP8 := hP7.kept kk8 (fun b hb e => by have := hffp b hb; have e' : b = w4.heap.size := e; omega)
            obtain ⟨w8, hw8⟩ : ∃ q, w7.setCell ⟨w4.heap.size, 3, none⟩ (.slice pa pss.length pc) = q := ⟨_, rfl⟩
            rw [hw8] at hT8 hZ8 hR8 kin8 hRow8 hP8
            have t0 := hT8.cell (i := 0) rfl
            have t1 := hT8.cell (i := 1) rfl
            have t2 := hT8.cell (i := 2) rfl
            have t3 := hT8.cell (i := 3) rfl
            have y0 := hZ8.cell (i := 0) rfl
            have y1 := hZ8.cell (i := 1) rfl
            have y2 := hZ8.cell (i := 2) rfl
            have y3 := hZ8.cell (i := 3) rfl
            have p0 := hZ8.frozen 0
            have p1 := hZ8.frozen 1
            have p2 := hZ8.frozen 2
            have p3 := hZ8.frozen 3
            have k9 := kept_set4 w8 w.heap.size (.int .i64 (v0 : Int)) (.int .i64 (v1 : Int)) (.slice qa l.length qc) (.slice pa pss.length pc)
            have hZ9 := hZ8.set4 (.int .i64 (v0 : Int)) (.int .i64 (v1 : Int)) (.slice qa l.length qc) (.slice pa pss.length pc)
            have hR9 := hR8.kept k9 (by omega)
            have kin9 := kin8.transNew k9 (fun j hj => by have e' : j = w.heap.size := hj; omega)
            have hRow9 := hRow8.kept k9 (fun b hb e => by have := hffr b hb; have e' : b = w.heap.size := e; omega)
            have hP9 := hP8.kept k9 (fun b hb e => by have := hffp b hb; have e' : b = w.heap.size := e; omega)
            have fin : ∀ e : Ending, e = .returned (HdrM.v ⟨(v0 : Int), (v1 : Int), qa, l, qc, pa, pss, pc⟩) → ∃ (x : HdrM) (E' : Nat) (rest' : ByteArray), e = .returned x.v ∧ rest'.size ≤ maxLen ∧ (0 ≤ x.author ∧ x.author ≤ 4611686018427387903) ∧ (∀ (α : Type) (f : HdrD → List UInt8 → Except Nat α), runX E (rdH rest.data.toList f) = runX E' (f x.d rest'.data.toList)) ∧ x.At _ ∧ (∀ b, x.foot b → w.heap.size ≤ b) ∧ Arr _ rb 62 [.string rest', .int .i64 (E' : Int)] ∧ Kept (fun k => k = rb) w _ :=
              fun e hv => ⟨_, EF, rF, hv, hrF, ⟨by show (0 : Int) ≤ v0; omega, by show (v0 : Int) ≤ _; omega⟩, HH.out, ⟨hRow9, hqn, hP9, hn7⟩, fun b hb => hb.elim (fun h => by have := hffr b h; omega) (fun h => by have := hffp b h; omega), hR9, kin9⟩
            unfold set4 at hZ9 fin
            clear hG7 hRow7 hP7 hT8 kk8 hZ8 hR8 kin8 hRow8 hP8 k9 hR9 kin9 hRow9 hP9 HH
            go_wp2
            refine bodyPost_ret (v := HdrM.v ⟨(v0 : Int), (v1 : Int), qa, l, qc, pa, pss, pc⟩) (results_hdr rfl _ _ w.heap.size ⟨(v0 : Int), (v1 : Int), qa, l, qc, pa, pss, pc⟩ rfl hZ9) rfl ?_
            exact fin _ rfl
          · clear hdd
            go_wp2_with fail
            refine cL.mono ?_
            rintro e w7 ⟨ps, EF, rF, pa, pc, rfl, hpl, hp7, hrF, hfF, hO7, hR7, hk7, hn7⟩
            have hG7 := hG.kept hk7 hR7
            have hRow7 := hqt.kept hk7 (fun b hb e => by have := (hG.q.foot_ge (Nat.le_refl _) hG.f) b hb; have e' : b = rb := e; omega)
            have hP7 := hO7.at.row
            have hffr : ∀ b, rowFoot refK qa l b → w4.heap.size < b := fun b hb => (hG.q.foot_ge (Nat.le_refl _) hG.f) b hb
            have hffp : ∀ b, rowFoot strK pa (mks ps) b → w4.heap.size < b := fun b hb => by have := hO7.foot hb; have := hG.h.lt; omega
            obtain ⟨pss, hpss⟩ : ∃ q, q = mks ps := ⟨_, rfl⟩
            rw [← hpss] at hP7 hffp ⊢
            have HH : Hid (∀ (α : Type) (f : HdrD → List UInt8 → Except Nat α), runX E (rdH rest.data.toList f) = runX EF (f (HdrM.d ⟨(v0 : Int), (v1 : Int), qa, l, qc, pa, pss, pc⟩) rF.data.toList)) := by
              intro α f
              rw [HA.out, HF.out, hpss]
              exact hfF _ _
            clear hpss hfF HF hG hqt hO7 hR7 hk7 cL u1
            have d3 := hG7.h.cell (i := 3) rfl
            have fd3 := hG7.h.frozen 3
            have hT8 := hG7.h.set 3 (.slice pa pss.length pc)
            have kk8 := Kept.setCell w7 ⟨w4.heap.size, 3, none⟩ (.slice pa pss.length pc)
            have hZ8 := hG7.z.other (p := ⟨w4.heap.size, 3, none⟩) (by show w.heap.size ≠ w4.heap.size; omega) (.slice pa pss.length pc)
            have hR8 := hG7.rd.other (p := ⟨w4.heap.size, 3, none⟩) (by show rb ≠ w4.heap.size; omega) (.slice pa pss.length pc)
            have kin8 := hG7.k.setNew (a := ⟨w4.heap.size, 3, none⟩) (by show w.heap.size ≤ w4.heap.size; omega) (.slice pa pss.length pc)
            have hRow8 := hRow7.kept kk8 (fun b hb e => by have := hffr b hb; have e' : b = w4.heap.size := e; omega)
            have hP8 := hP7.kept kk8 (fun b hb e => by have := hffp b hb; have e' : b = w4.heap.size := e; omega)
            obtain ⟨w8, hw8⟩ : ∃ q, w7.setCell ⟨w4.heap.size, 3, none⟩ (.slice pa pss.length pc) = q := ⟨_, rfl⟩
            rw [hw8] at hT8 hZ8 hR8 kin8 hRow8 hP8
            have t0 := hT8.cell (i := 0) rfl
            have t1 := hT8.cell (i := 1) rfl
            have t2 := hT8.cell (i := 2) rfl
            have t3 := hT8.cell (i := 3) rfl
            have y0 := hZ8.cell (i := 0) rfl
            have y1 := hZ8.cell (i := 1) rfl
            have y2 := hZ8.cell (i := 2) rfl
            have y3 := hZ8.cell (i := 3) rfl
            have p0 := hZ8.frozen 0
            have p1 := hZ8.frozen 1
            have p2 := hZ8.frozen 2
            have p3 := hZ8.frozen 3
            have k9 := kept_set4 w8 w.heap.size (.int .i64 (v0 : Int)) (.int .i64 (v1 : Int)) (.slice qa l.length qc) (.slice pa pss.length pc)
            have hZ9 := hZ8.set4 (.int .i64 (v0 : Int)) (.int .i64 (v1 : Int)) (.slice qa l.length qc) (.slice pa pss.length pc)
            have hR9 := hR8.kept k9 (by omega)
            have kin9 := kin8.transNew k9 (fun j hj => by have e' : j = w.heap.size := hj; omega)
            have hRow9 := hRow8.kept k9 (fun b hb e => by have := hffr b hb; have e' : b = w.heap.size := e; omega)
            have hP9 := hP8.kept k9 (fun b hb e => by have := hffp b hb; have e' : b = w.heap.size := e; omega)
            have fin : ∀ e : Ending, e = .returned (HdrM.v ⟨(v0 : Int), (v1 : Int), qa, l, qc, pa, pss, pc⟩) → ∃ (x : HdrM) (E' : Nat) (rest' : ByteArray), e = .returned x.v ∧ rest'.size ≤ maxLen ∧ (0 ≤ x.author ∧ x.author ≤ 4611686018427387903) ∧ (∀ (α : Type) (f : HdrD → List UInt8 → Except Nat α), runX E (rdH rest.data.toList f) = runX E' (f x.d rest'.data.toList)) ∧ x.At _ ∧ (∀ b, x.foot b → w.heap.size ≤ b) ∧ Arr _ rb 62 [.string rest', .int .i64 (E' : Int)] ∧ Kept (fun k => k = rb) w _ :=
              fun e hv => ⟨_, EF, rF, hv, hrF, ⟨by show (0 : Int) ≤ v0; omega, by show (v0 : Int) ≤ _; omega⟩, HH.out, ⟨hRow9, hqn, hP9, hn7⟩, fun b hb => hb.elim (fun h => by have := hffr b h; omega) (fun h => by have := hffp b h; omega), hR9, kin9⟩
            unfold set4 at hZ9 fin
            clear hG7 hRow7 hP7 hT8 kk8 hZ8 hR8 kin8 hRow8 hP8 k9 hR9 kin9 hRow9 hP9 HH
            go_wp2
            refine bodyPost_ret (v := HdrM.v ⟨(v0 : Int), (v1 : Int), qa, l, qc, pa, pss, pc⟩) (results_hdr rfl _ _ w.heap.size ⟨(v0 : Int), (v1 : Int), qa, l, qc, pa, pss, pc⟩ rfl hZ9) rfl ?_
            exact fin _ rfl
    · have h0' : ((EA : Int) == 0) = false := by simpa using h0
      clear hdd h0
      go_wp2
      go_loopw [7, 8] (fun v7 v8 wr => ∃ (l : List RefM) (EB : Nat) (rB : ByteArray) (q : Value), v7 = .int .i64 (l.length : Int) ∧ l.length ≤ n ∧ (n ≤ 4 ∨ EB ≠ 0) ∧ rB.size ≤ maxLen ∧ GS w rb w.heap.size w4.heap.size wr rB EB q l (v0 : Int) (v1 : Int) ∧
          Hid (∀ (α : Type) (f : List RefD → List UInt8 → Except Nat α), runX EA (rdRefs n r3.data.toList f) = runX EB (rdRefs (n - l.length) rB.data.toList (fun rs r => f (rd l ++ rs) r)))) (fun v7 _ _ => n - (intOf v7).toNat)
      case atStart => exact ⟨[], EA, r3, _, rfl, Nat.zero_le _, hnA, hr3, hG, fun α f => rfl⟩
      case round =>
        clear hG hnA
        obtain ⟨l, EB, rB, q, rfl, hln, hnB, hrB, hG, HB⟩ := hrel
        have u1 := hG.rd.cell (i := 1) rfl
        obtain ⟨qa, qc, rfl, hqn, hqt⟩ := hG.q.form
        have o1 := hG.o1
        have o2 := hG.o2
        have o3 := hG.o3
        have h4l := hG.h.lt
        by_cases hgo : EB = 0 ∧ l.length < n
        · obtain ⟨rfl, hlt⟩ := hgo
          have hlt' : (l.length : Int) < (n : Int) := by omega
          have hn4 : n ≤ 4 := by rcases hnB with h | h; exact h; exact absurd rfl h
          have cT := inText_k rb wr rB 0 hG.rd hrB
          go_wp2_with fail
          refine cT.mono ?_
          rintro e w6 ⟨t, EC, rC, rfl, ht, hrC, hfC, hRC, hkC⟩
          have hG6 := hG.kept hkC hRC
          clear cT hG hRC hkC u1 hqt
          have b2 := hG6.h.cell (i := 2) rfl
          have cS := fun w1 (h : Arr w1 rb 62 [.string rC, .int .i64 (EC : Int)]) => some_k rb w1 rC EC h hrC
          have hbd : Below w6.heap.size w6 w6.drew := below_drewN (Below.refl _ _) 1
          have hG6d := hG6.below hbd
          have hsz6 : w6.drew.heap.size = w6.heap.size := rfl
          go_wp2_with fail
          go_region_law (first
            | (go_simp; go_at_call 64; refine (cS _ hG6d.rd).mono ?_; rintro e wA ⟨ts, ED, rD, ao, cap, rfl, h7, hrD, hfD, hO, hno, hff, hRD, hkD⟩; have hGA := hG6d.kept hkD hRD; have b2a := hGA.h.cell (i := 2) rfl; have hbx := belowNew wA (.cells #[.string ⟨t.toArray⟩, .slice ao ts.length cap] 126); have hGD := hGA.below hbx; have b2d := hGD.h.cell (i := 2) rfl; have hx3 := Kind.below refK (x := ⟨⟨t.toArray⟩, ts, ao, cap⟩) ⟨hO, hno⟩ hbx; have hxf : ∀ b, refK.foot ⟨⟨t.toArray⟩, ts, ao, cap⟩ b → w6.heap.size ≤ b := (fun b hb => hff b hb); have hxo : ∀ b, refK.foot ⟨⟨t.toArray⟩, ts, ao, cap⟩ b → (Value.slice qa l.length qc).ownBlock ≠ some b := (fun b hb e => by have := hxf b hb; have := (hG6.q.lt b e).2; omega); have hN := new_ref wA ⟨⟨t.toArray⟩, ts, ao, cap⟩; have hbs : w4.heap.size + 1 ≤ (wA.alloc (.cells #[.string ⟨t.toArray⟩, .slice ao ts.length cap] 126)).heap.size := hGD.h.lt)
            | (refine step_push (K := refK) _ (by rfl) _ _ 27 (by rfl) (w4.heap.size + 1) 126 i0 _ 40 Tryz.underlying27 hi hz0 hz1 hz2 rfl _ l (by rfl) hGD.q ⟨⟨t.toArray⟩, ts, ao, cap⟩ hx3 hxo ⟨wA.heap.size, 0, none⟩ 1 (by rfl) hN (by unfold maxLen; omega) (by omega) hbs ?_; intro ao3 cap3 w8 hq8 hk8; have hB8 := hGD.h.kept hk8 (fun e => by have := (hGD.q.lt _ e).1; omega); have b2e := hB8.cell (i := 2) rfl; have g2e := hB8.frozen 2))
          all_goals
            have hG9 := hGD.push hk8 hq8 (fun b hb => by have := hxf b hb; have := hG6.h.lt; omega)
            have HB2 : Hid (∀ (α : Type) (f : List RefD → List UInt8 → Except Nat α), runX EA (rdRefs n r3.data.toList f) = runX ED (rdRefs (n - (l ++ [(⟨⟨t.toArray⟩, ts, ao, cap⟩ : RefM)]).length) rD.data.toList (fun rs r => f (rd (l ++ [(⟨⟨t.toArray⟩, ts, ao, cap⟩ : RefM)]) ++ rs) r))) := by
              intro α f
              obtain ⟨m, hm⟩ : ∃ m, n - l.length = m + 1 := ⟨n - l.length - 1, by omega⟩
              have e1 : n - (l ++ [(⟨⟨t.toArray⟩, ts, ao, cap⟩ : RefM)]).length = m := by simp; omega
              rw [HB.out, hm, e1]
              show runX 0 (rdT _ _) = _
              rw [hfC, hfD]
              have e2 : (fun rs r => f (rd (l ++ [(⟨⟨t.toArray⟩, ts, ao, cap⟩ : RefM)]) ++ rs) r) = (fun rs r => f (rd l ++ RefM.d ⟨⟨t.toArray⟩, ts, ao, cap⟩ :: rs) r) := by
                funext rs r
                rw [rd_append]
                simp [rd]
              rw [e2]
              rfl
            clear hG6 hG6d hGA hGD hq8 hk8 hB8 b2a b2d b2 hx3 hxo hN hbx hbs hO HB hfC hfD cS hRD hkD hbd
            generalize World.setCell _ ⟨w4.heap.size, 2, none⟩ _ = w9 at hG9 ⊢
            go_wp2
            go_roundw
            case rel => exact ⟨l ++ [⟨⟨t.toArray⟩, ts, ao, cap⟩], ED, rD, _, by simp, by simp; omega, Or.inl hn4, hrD, hG9, HB2⟩
            case measure => simp [intOf]; omega
        · have HF : Hid (∀ (α : Type) (f : List RefD → List UInt8 → Except Nat α), runX EA (rdRefs n r3.data.toList f) = runX EB (f (rd l) rB.data.toList)) := by
            intro α f
            by_cases h0 : EB = 0
            · have e1 : n - l.length = 0 := by have : ¬ l.length < n := fun h => hgo ⟨h0, h⟩; omega
              rw [HB.out, e1, rdRefs, List.append_nil]
            · rw [HB.out, runX_err h0, runX_err h0]
          have cL := inList_k rb wr rB EB 7 (by omega) hG.rd hrB
          have hzw : wr.heap.size ≤ wr.heap.size := Nat.le_refl _
          clear HB
          have hdd : (l.length : Int) < (n : Int) → ((EB : Int) == 0) = false := fun h => beq_eq_false_iff_ne.2 (fun e => hgo ⟨by omega, by omega⟩)
          clear hgo
          by_cases hlt : (l.length : Int) < (n : Int)
          · have hd2 := hdd hlt
            clear hdd
            go_wp2_with fail
            refine cL.mono ?_
            rintro e w7 ⟨ps, EF, rF, pa, pc, rfl, hpl, hp7, hrF, hfF, hO7, hR7, hk7, hn7⟩
            have hG7 := hG.kept hk7 hR7
            have hRow7 := hqt.kept hk7 (fun b hb e => by have := (hG.q.foot_ge (Nat.le_refl _) hG.f) b hb; have e' : b = rb := e; omega)
            have hP7 := hO7.at.row
            have hffr : ∀ b, rowFoot refK qa l b → w4.heap.size < b := fun b hb => (hG.q.foot_ge (Nat.le_refl _) hG.f) b hb
            have hffp : ∀ b, rowFoot strK pa (mks ps) b → w4.heap.size < b := fun b hb => by have := hO7.foot hb; have := hG.h.lt; omega
            obtain ⟨pss, hpss⟩ : ∃ q, q = mks ps := ⟨_, rfl⟩
            rw [← hpss] at hP7 hffp ⊢
            have HH : Hid (∀ (α : Type) (f : HdrD → List UInt8 → Except Nat α), runX E (rdH rest.data.toList f) = runX EF (f (HdrM.d ⟨(v0 : Int), (v1 : Int), qa, l, qc, pa, pss, pc⟩) rF.data.toList)) := by
              intro α f
              rw [HA.out, HF.out, hpss]
              exact hfF _ _
            clear hpss hfF HF hG hqt hO7 hR7 hk7 cL u1
            have d3 := hG7.h.cell (i := 3) rfl
            have fd3 := hG7.h.frozen 3
            have hT8 := hG7.h.set 3 (.slice pa pss.length pc)
            have kk8 := Kept.setCell w7 ⟨w4.heap.size, 3, none⟩ (.slice pa pss.length pc)
            have hZ8 := hG7.z.other (p := ⟨w4.heap.size, 3, none⟩) (by show w.heap.size ≠ w4.heap.size; omega) (.slice pa pss.length pc)
            have hR8 := hG7.rd.other (p := ⟨w4.heap.size, 3, none⟩) (by show rb ≠ w4.heap.size; omega) (.slice pa pss.length pc)
            have kin8 := hG7.k.setNew (a := ⟨w4.heap.size, 3, none⟩) (by show w.heap.size ≤ w4.heap.size; omega) (.slice pa pss.length pc)
            have hRow8 := hRow7.kept kk8 (fun b hb e => by have := hffr b hb; have e' : b = w4.heap.size := e; omega)
            have hP8 := hP7.kept kk8 (fun b hb e => by have := hffp b hb; have e' : b = w4.heap.size := e; omega)
            obtain ⟨w8, hw8⟩ : ∃ q, w7.setCell ⟨w4.heap.size, 3, none⟩ (.slice pa pss.length pc) = q := ⟨_, rfl⟩
            rw [hw8] at hT8 hZ8 hR8 kin8 hRow8 hP8
            have t0 := hT8.cell (i := 0) rfl
            have t1 := hT8.cell (i := 1) rfl
            have t2 := hT8.cell (i := 2) rfl
            have t3 := hT8.cell (i := 3) rfl
            have y0 := hZ8.cell (i := 0) rfl
            have y1 := hZ8.cell (i := 1) rfl
            have y2 := hZ8.cell (i := 2) rfl
            have y3 := hZ8.cell (i := 3) rfl
            have p0 := hZ8.frozen 0
            have p1 := hZ8.frozen 1
            have p2 := hZ8.frozen 2
            have p3 := hZ8.frozen 3
            have k9 := kept_set4 w8 w.heap.size (.int .i64 (v0 : Int)) (.int .i64 (v1 : Int)) (.slice qa l.length qc) (.slice pa pss.length pc)
            have hZ9 := hZ8.set4 (.int .i64 (v0 : Int)) (.int .i64 (v1 : Int)) (.slice qa l.length qc) (.slice pa pss.length pc)
            have hR9 := hR8.kept k9 (by omega)
            have kin9 := kin8.transNew k9 (fun j hj => by have e' : j = w.heap.size := hj; omega)
            have hRow9 := hRow8.kept k9 (fun b hb e => by have := hffr b hb; have e' : b = w.heap.size := e; omega)
            have hP9 := hP8.kept k9 (fun b hb e => by have := hffp b hb; have e' : b = w.heap.size := e; omega)
            have fin : ∀ e : Ending, e = .returned (HdrM.v ⟨(v0 : Int), (v1 : Int), qa, l, qc, pa, pss, pc⟩) → ∃ (x : HdrM) (E' : Nat) (rest' : ByteArray), e = .returned x.v ∧ rest'.size ≤ maxLen ∧ (0 ≤ x.author ∧ x.author ≤ 4611686018427387903) ∧ (∀ (α : Type) (f : HdrD → List UInt8 → Except Nat α), runX E (rdH rest.data.toList f) = runX E' (f x.d rest'.data.toList)) ∧ x.At _ ∧ (∀ b, x.foot b → w.heap.size ≤ b) ∧ Arr _ rb 62 [.string rest', .int .i64 (E' : Int)] ∧ Kept (fun k => k = rb) w _ :=
              fun e hv => ⟨_, EF, rF, hv, hrF, ⟨by show (0 : Int) ≤ v0; omega, by show (v0 : Int) ≤ _; omega⟩, HH.out, ⟨hRow9, hqn, hP9, hn7⟩, fun b hb => hb.elim (fun h => by have := hffr b h; omega) (fun h => by have := hffp b h; omega), hR9, kin9⟩
            unfold set4 at hZ9 fin
            clear hG7 hRow7 hP7 hT8 kk8 hZ8 hR8 kin8 hRow8 hP8 k9 hR9 kin9 hRow9 hP9 HH
            go_wp2
            refine bodyPost_ret (v := HdrM.v ⟨(v0 : Int), (v1 : Int), qa, l, qc, pa, pss, pc⟩) (results_hdr rfl _ _ w.heap.size ⟨(v0 : Int), (v1 : Int), qa, l, qc, pa, pss, pc⟩ rfl hZ9) rfl ?_
            exact fin _ rfl
          · clear hdd
            go_wp2_with fail
            refine cL.mono ?_
            rintro e w7 ⟨ps, EF, rF, pa, pc, rfl, hpl, hp7, hrF, hfF, hO7, hR7, hk7, hn7⟩
            have hG7 := hG.kept hk7 hR7
            have hRow7 := hqt.kept hk7 (fun b hb e => by have := (hG.q.foot_ge (Nat.le_refl _) hG.f) b hb; have e' : b = rb := e; omega)
            have hP7 := hO7.at.row
            have hffr : ∀ b, rowFoot refK qa l b → w4.heap.size < b := fun b hb => (hG.q.foot_ge (Nat.le_refl _) hG.f) b hb
            have hffp : ∀ b, rowFoot strK pa (mks ps) b → w4.heap.size < b := fun b hb => by have := hO7.foot hb; have := hG.h.lt; omega
            obtain ⟨pss, hpss⟩ : ∃ q, q = mks ps := ⟨_, rfl⟩
            rw [← hpss] at hP7 hffp ⊢
            have HH : Hid (∀ (α : Type) (f : HdrD → List UInt8 → Except Nat α), runX E (rdH rest.data.toList f) = runX EF (f (HdrM.d ⟨(v0 : Int), (v1 : Int), qa, l, qc, pa, pss, pc⟩) rF.data.toList)) := by
              intro α f
              rw [HA.out, HF.out, hpss]
              exact hfF _ _
            clear hpss hfF HF hG hqt hO7 hR7 hk7 cL u1
            have d3 := hG7.h.cell (i := 3) rfl
            have fd3 := hG7.h.frozen 3
            have hT8 := hG7.h.set 3 (.slice pa pss.length pc)
            have kk8 := Kept.setCell w7 ⟨w4.heap.size, 3, none⟩ (.slice pa pss.length pc)
            have hZ8 := hG7.z.other (p := ⟨w4.heap.size, 3, none⟩) (by show w.heap.size ≠ w4.heap.size; omega) (.slice pa pss.length pc)
            have hR8 := hG7.rd.other (p := ⟨w4.heap.size, 3, none⟩) (by show rb ≠ w4.heap.size; omega) (.slice pa pss.length pc)
            have kin8 := hG7.k.setNew (a := ⟨w4.heap.size, 3, none⟩) (by show w.heap.size ≤ w4.heap.size; omega) (.slice pa pss.length pc)
            have hRow8 := hRow7.kept kk8 (fun b hb e => by have := hffr b hb; have e' : b = w4.heap.size := e; omega)
            have hP8 := hP7.kept kk8 (fun b hb e => by have := hffp b hb; have e' : b = w4.heap.size := e; omega)
            obtain ⟨w8, hw8⟩ : ∃ q, w7.setCell ⟨w4.heap.size, 3, none⟩ (.slice pa pss.length pc) = q := ⟨_, rfl⟩
            rw [hw8] at hT8 hZ8 hR8 kin8 hRow8 hP8
            have t0 := hT8.cell (i := 0) rfl
            have t1 := hT8.cell (i := 1) rfl
            have t2 := hT8.cell (i := 2) rfl
            have t3 := hT8.cell (i := 3) rfl
            have y0 := hZ8.cell (i := 0) rfl
            have y1 := hZ8.cell (i := 1) rfl
            have y2 := hZ8.cell (i := 2) rfl
            have y3 := hZ8.cell (i := 3) rfl
            have p0 := hZ8.frozen 0
            have p1 := hZ8.frozen 1
            have p2 := hZ8.frozen 2
            have p3 := hZ8.frozen 3
            have k9 := kept_set4 w8 w.heap.size (.int .i64 (v0 : Int)) (.int .i64 (v1 : Int)) (.slice qa l.length qc) (.slice pa pss.length pc)
            have hZ9 := hZ8.set4 (.int .i64 (v0 : Int)) (.int .i64 (v1 : Int)) (.slice qa l.length qc) (.slice pa pss.length pc)
            have hR9 := hR8.kept k9 (by omega)
            have kin9 := kin8.transNew k9 (fun j hj => by have e' : j = w.heap.size := hj; omega)
            have hRow9 := hRow8.kept k9 (fun b hb e => by have := hffr b hb; have e' : b = w.heap.size := e; omega)
            have hP9 := hP8.kept k9 (fun b hb e => by have := hffp b hb; have e' : b = w.heap.size := e; omega)
            have fin : ∀ e : Ending, e = .returned (HdrM.v ⟨(v0 : Int), (v1 : Int), qa, l, qc, pa, pss, pc⟩) → ∃ (x : HdrM) (E' : Nat) (rest' : ByteArray), e = .returned x.v ∧ rest'.size ≤ maxLen ∧ (0 ≤ x.author ∧ x.author ≤ 4611686018427387903) ∧ (∀ (α : Type) (f : HdrD → List UInt8 → Except Nat α), runX E (rdH rest.data.toList f) = runX E' (f x.d rest'.data.toList)) ∧ x.At _ ∧ (∀ b, x.foot b → w.heap.size ≤ b) ∧ Arr _ rb 62 [.string rest', .int .i64 (E' : Int)] ∧ Kept (fun k => k = rb) w _ :=
              fun e hv => ⟨_, EF, rF, hv, hrF, ⟨by show (0 : Int) ≤ v0; omega, by show (v0 : Int) ≤ _; omega⟩, HH.out, ⟨hRow9, hqn, hP9, hn7⟩, fun b hb => hb.elim (fun h => by have := hffr b h; omega) (fun h => by have := hffp b h; omega), hR9, kin9⟩
            unfold set4 at hZ9 fin
            clear hG7 hRow7 hP7 hT8 kk8 hZ8 hR8 kin8 hRow8 hP8 k9 hR9 kin9 hRow9 hP9 HH
            go_wp2
            refine bodyPost_ret (v := HdrM.v ⟨(v0 : Int), (v1 : Int), qa, l, qc, pa, pss, pc⟩) (results_hdr rfl _ _ w.heap.size ⟨(v0 : Int), (v1 : Int), qa, l, qc, pa, pss, pc⟩ rfl hZ9) rfl ?_
            exact fin _ rfl

set_option maxRecDepth 100000 in
set_option maxHeartbeats 2000000 in
theorem refHdrDecode_any (s : ByteArray) (W : World) (hs : s.size ≤ maxLen) :
    Calls Tryz.prog 67 #[.string s] W fun e w' => GotHdr W (decH s.data.toList) e w' := by
  obtain ⟨hZ, hR, hB⟩ := two_new W 30 62 [.int .i64 0, .int .i64 0, .slice none 0 0, .slice none 0 0] [.string s, .int .i64 0]
  obtain ⟨out, hout⟩ : ∃ out, out = decH s.data.toList := ⟨_, rfl⟩
  rw [← hout]
  have H : Hid (out = _) := (hout.trans (runX_zero _).symm : _ = _)
  clear hout
  have c0 := get_k (W.heap.size + 1) _ s 0 hR hs
  have hw0 := hR.lt
  go_enter Tryz.func67, Tryz.ntmps67
  go_wp2_with fail
  refine c0.mono ?_
  rintro e w1 ⟨x, E1, r1, rfl, hr1, hxa, hf, hx1, hxf, hR1, hk1⟩
  have hZ1 := hZ.kept hk1 (by omega)
  have hB1 := hB.trans (hk1.below hB.size (fun k hk => by rw [hk]; omega))
  have hh : out = runX E1 (if r1.data.toList ≠ [] then .error 6 else if 6 < x.author then .error 2 else .ok x.d) := H.out.trans (hf _ _)
  replace H : Hid (out = _) := hh
  clear hh hf c0 hZ hR hB hk1
  have hbx := belowNew w1 (.cells #[.int .i64 x.author, .int .i64 x.round, .slice x.ra x.refs.length x.rc, .slice x.pa x.parents.length x.pc] 30)
  have hX2 := Arr.new w1 30 [.int .i64 x.author, .int .i64 x.round, .slice x.ra x.refs.length x.rc, .slice x.pa x.parents.length x.pc]
  have hZ2 := hZ1.below hbx hZ1.lt
  have hR2 := hR1.below hbx hR1.lt
  have hx2 := hx1.below hbx
  have hB2 := hB1.trans (hbx.mono hB1.size)
  have hw1 := hR1.lt
  have hxl : ∀ b, x.foot b → W.heap.size + 1 < b := fun b hb => by have := hxf b hb; omega
  have hxl2 : ∀ b, x.foot b → b < w1.heap.size := fun b hb => Kind.lt hdrK hx1 hb
  clear hxf
  clear hbx hZ1 hR1 hx1 hB1
  unfold HdrM.v
  obtain ⟨w2, hw2⟩ : ∃ q, w1.alloc (.cells #[.int .i64 x.author, .int .i64 x.round, .slice x.ra x.refs.length x.rc, .slice x.pa x.parents.length x.pc] 30) = q := ⟨_, rfl⟩
  rw [hw2] at hX2 hZ2 hR2 hx2 hB2
  have cE := inEnd_k (W.heap.size + 1) w2 r1 E1 hR2
  obtain ⟨E2, hE2⟩ : ∃ q, Hid (q = (if E1 = 0 ∧ r1.data.toList ≠ [] then 6 else E1)) := ⟨_, rfl⟩
  rw [← hE2.out] at cE
  go_wp2_with fail
  refine cE.mono ?_
  rintro e w3 ⟨rfl, hR3, hk3⟩
  have hZ3 := hZ2.kept hk3 (by omega)
  have hX3 := hX2.kept hk3 (by omega)
  have hB3 := hB2.trans (hk3.below hB2.size (fun k hk => by rw [hk]; omega))
  have hx3 := Kind.kept hdrK hx2 hk3 (fun b hb e => by have := hxl b hb; have e' : b = W.heap.size + 1 := e; omega)
  clear cE hZ2 hX2 hB2 hx2 hk3 hR2 hw2
  have u1 := hR3.cell (i := 1) rfl
  have fu1 := hR3.frozen 1
  have x0 := hX3.cell (i := 0) rfl
  have HF : Hid ((E2 = 0 ∧ ¬ 6 < x.author ∧ out = .ok x.d) ∨ (E2 = 0 ∧ 6 < x.author ∧ out = .error 2) ∨ (E2 ≠ 0 ∧ out = .error E2)) := by
    have e2 := hE2.out
    rcases runX_any H.out with ⟨h1, h2⟩ | ⟨h1, h2⟩
    · by_cases hm : r1.data.toList ≠ []
      · rw [if_pos hm] at h2
        rw [if_pos ⟨h1, hm⟩] at e2
        exact Or.inr (Or.inr ⟨by omega, by rw [h2, e2]⟩)
      · rw [if_neg hm] at h2
        rw [if_neg (fun h => hm h.2)] at e2
        by_cases h6 : 6 < x.author
        · rw [if_pos h6] at h2
          exact Or.inr (Or.inl ⟨by omega, h6, h2⟩)
        · rw [if_neg h6] at h2
          exact Or.inl ⟨by omega, h6, h2⟩
    · rw [if_neg (fun h => h1 h.1)] at e2
      exact Or.inr (Or.inr ⟨by omega, by rw [h2, e2]⟩)
  clear H hE2
  by_cases hA : E2 = 0 ∧ 6 < x.author
  · obtain ⟨rfl, h6⟩ := hA
    have ho : out = .error 2 := by
      rcases HF.out with ⟨_, h, _⟩ | ⟨_, _, h⟩ | ⟨h, _⟩
      · exact absurd h6 h
      · exact h
      · exact absurd rfl h
    have hR4 := hR3.set 1 (.int .i64 2)
    have hZ4 := hZ3.other (p := ⟨W.heap.size + 1, 1, none⟩) (by show W.heap.size ≠ W.heap.size + 1; omega) (.int .i64 2)
    have hB4 := hB3.setCell (p := ⟨W.heap.size + 1, 1, none⟩) (by show W.heap.size ≤ W.heap.size + 1; omega) (.int .i64 2)
    obtain ⟨w4, hw4⟩ : ∃ q, w3.setCell ⟨W.heap.size + 1, 1, none⟩ (.int .i64 2) = q := ⟨_, rfl⟩
    rw [hw4] at hR4 hZ4 hB4
    have u1b := hR4.cell (i := 1) rfl
    have z0 := hZ4.cell (i := 0) rfl
    have z1 := hZ4.cell (i := 1) rfl
    have z2 := hZ4.cell (i := 2) rfl
    have z3 := hZ4.cell (i := 3) rfl
    have g0 := hZ4.frozen 0
    have g1 := hZ4.frozen 1
    have g2 := hZ4.frozen 2
    have g3 := hZ4.frozen 3
    have fin : Arr (set4 w4 W.heap.size (.int .i64 0) (.int .i64 0) (.slice none 0 0) (.slice none 0 0)).drew W.heap.size 30 hdr0.c ∧ Below W.heap.size W (set4 w4 W.heap.size (.int .i64 0) (.int .i64 0) (.slice none 0 0) (.slice none 0 0)).drew :=
      ⟨(hZ4.set4 (.int .i64 0) (.int .i64 0) (.slice none 0 0) (.slice none 0 0)).drew, Below.drew (below_set4 hB4 (Nat.le_refl _) (.int .i64 0) (.int .i64 0) (.slice none 0 0) (.slice none 0 0))⟩
    have hfin := fun w' e hb hv => gotHdr_err (W := W) (w := w') (e := e) ho (by decide) hb hv
    unfold set4 at fin
    clear hR3 hZ3 hB3 hX3 hx3 hZ4 hB4 hR4 HF
    go_wp2_with fail
    go_region
    revert fin
    generalize (World.setCell _ ⟨W.heap.size, 3, none⟩ (.slice none 0 0)).drew = wf
    intro fin
    try go_wp2
    refine bodyPost_ret (v := .tuple #[hdr0.v, .int .i64 (2 : Int)]) (results_hdr_tmp rfl _ _ W.heap.size hdr0 rfl fin.1 _ rfl) rfl ?_
    exact hfin _ _ fin.2 rfl
  have z0 := hZ3.cell (i := 0) rfl
  have z1 := hZ3.cell (i := 1) rfl
  have z2 := hZ3.cell (i := 2) rfl
  have z3 := hZ3.cell (i := 3) rfl
  have g0 := hZ3.frozen 0
  have g1 := hZ3.frozen 1
  have g2 := hZ3.frozen 2
  have g3 := hZ3.frozen 3
  by_cases he : E2 = 0
  · subst he
    have h6 : ¬ 6 < x.author := fun h => hA ⟨rfl, h⟩
    have ho : out = .ok x.d := by
      rcases HF.out with ⟨_, _, h⟩ | ⟨_, h, _⟩ | ⟨h, _⟩
      · exact h
      · exact absurd h h6
      · exact absurd rfl h
    have x1 := hX3.cell (i := 1) rfl
    have x2 := hX3.cell (i := 2) rfl
    have x3 := hX3.cell (i := 3) rfl
    have hZF := hZ3.set4 (.int .i64 x.author) (.int .i64 x.round) (.slice x.ra x.refs.length x.rc) (.slice x.pa x.parents.length x.pc)
    have hBF := below_set4 hB3 (Nat.le_refl _) (.int .i64 x.author) (.int .i64 x.round) (.slice x.ra x.refs.length x.rc) (.slice x.pa x.parents.length x.pc)
    have kF := kept_set4 w3 W.heap.size (.int .i64 x.author) (.int .i64 x.round) (.slice x.ra x.refs.length x.rc) (.slice x.pa x.parents.length x.pc)
    have hxF := Kind.kept hdrK hx3 kF (fun b hb e => by have := hxl b hb; have e' : b = W.heap.size := e; omega)
    have fin : ∀ e, e = .returned (.tuple #[x.v, .int .i64 0]) → GotHdr W out e _ := fun e hv => ⟨x, 0, hv, hxF, Or.inl ⟨rfl, ho⟩, fun b hb => by have := hxl b hb; omega, hBF⟩
    unfold set4 at hZF fin
    clear hR3 hZ3 hB3 hX3 hx3 HF hBF kF hxF ho hA
    go_wp2
    refine bodyPost_ret (v := .tuple #[x.v, .int .i64 0]) (results_hdr_tmp rfl _ _ W.heap.size x rfl hZF _ rfl) rfl ?_
    exact fin _ rfl
  · have ho : out = .error E2 := by
      rcases HF.out with ⟨h, _⟩ | ⟨h, _⟩ | ⟨_, h⟩
      · exact absurd h he
      · exact absurd h he
      · exact h
    have hne : ((E2 : Int) != 0) = true := by rw [bne_iff_ne]; omega
    have hne2 : ((E2 : Int) == 0) = false := beq_eq_false_iff_ne.2 (by omega)
    have fin : Arr (set4 w3 W.heap.size (.int .i64 0) (.int .i64 0) (.slice none 0 0) (.slice none 0 0)).drew W.heap.size 30 hdr0.c ∧ Below W.heap.size W (set4 w3 W.heap.size (.int .i64 0) (.int .i64 0) (.slice none 0 0) (.slice none 0 0)).drew :=
      ⟨(hZ3.set4 (.int .i64 0) (.int .i64 0) (.slice none 0 0) (.slice none 0 0)).drew, Below.drew (below_set4 hB3 (Nat.le_refl _) (.int .i64 0) (.int .i64 0) (.slice none 0 0) (.slice none 0 0))⟩
    have hfin := fun w' e hb hv => gotHdr_err (W := W) (w := w') (e := e) ho he hb hv
    unfold set4 at fin
    clear hR3 hZ3 hB3 hX3 hx3 HF hA
    go_wp2_with fail
    go_region
    revert fin
    generalize (World.setCell _ ⟨W.heap.size, 3, none⟩ (.slice none 0 0)).drew = wf
    intro fin
    try go_wp2
    refine bodyPost_ret (v := .tuple #[hdr0.v, .int .i64 (E2 : Int)]) (results_hdr_tmp rfl _ _ W.heap.size hdr0 rfl fin.1 _ rfl) rfl ?_
    exact hfin _ _ fin.2 rfl
end Go.Proofs.YtmngiekobmhpaaaGreat

/- What tuskref07.Decode does; nothing old in memory is turned. -/
namespace Go.Proofs.YtmngiekobmhpaaaGreat
open Go.RowKit
set_option linter.unusedVariables false

set_option maxRecDepth 100000 in
set_option maxHeartbeats 2000000 in
theorem refCertDecode_any (s : ByteArray) (W : World) (hs : s.size ≤ maxLen) :
    Calls Tryz.prog 68 #[.string s] W fun e w' => GotCert W (decC s.data.toList) e w' := by
  obtain ⟨hZ, hR, hB⟩ := two_new W 33 62 [.int .i64 0, .int .i64 0, .slice none 0 0, .slice none 0 0, .slice none 0 0] [.string s, .int .i64 0]
  obtain ⟨out, hout⟩ : ∃ out, out = decC s.data.toList := ⟨_, rfl⟩
  rw [← hout]
  have H : Hid (out = runX 0 (decC s.data.toList)) := hout
  clear hout
  have c0 := inText_k (W.heap.size + 1) _ s 0 hR hs
  have hw0 := hR.lt
  go_enter Tryz.func68, Tryz.ntmps68
  go_wp2_with fail
  refine c0.mono ?_
  rintro e w1 ⟨t, E1, r1, rfl, htl, hr1, hf, hR1, hk1⟩
  have hZ1 := hZ.kept hk1 (by omega)
  have hB1 := hB.trans (hk1.below hB.size (fun k hk => by rw [hk]; omega))
  have hx := H.out.trans (hf _ _)
  replace H : Hid (out = _) := hx
  clear hx hf c0 hZ hR hB hk1
  have u1 := hR1.cell (i := 1) rfl
  have fu1 := hR1.frozen 1
  have z0 := hZ1.cell (i := 0) rfl
  have z1 := hZ1.cell (i := 1) rfl
  have z2 := hZ1.cell (i := 2) rfl
  have z3 := hZ1.cell (i := 3) rfl
  have z4 := hZ1.cell (i := 4) rfl
  have g0 := hZ1.frozen 0
  have g1 := hZ1.frozen 1
  have g2 := hZ1.frozen 2
  have g3 := hZ1.frozen 3
  have g4 := hZ1.frozen 4
  by_cases he : E1 ≠ 0
  · have hne : ((E1 : Int) != 0) = true := by rw [bne_iff_ne]; omega
    have ho : out = .error E1 := H.out.trans (runX_err he _)
    have fin : Arr (set5 w1 W.heap.size (.int .i64 0) (.int .i64 0) (.slice none 0 0) (.slice none 0 0) (.slice none 0 0)).drew W.heap.size 33 cert0.c ∧ Below W.heap.size W (set5 w1 W.heap.size (.int .i64 0) (.int .i64 0) (.slice none 0 0) (.slice none 0 0) (.slice none 0 0)).drew :=
      ⟨(hZ1.set5 (.int .i64 0) (.int .i64 0) (.slice none 0 0) (.slice none 0 0) (.slice none 0 0)).drew, Below.drew (below_set5 hB1 (Nat.le_refl _) (.int .i64 0) (.int .i64 0) (.slice none 0 0) (.slice none 0 0) (.slice none 0 0))⟩
    have hfin := fun w' e hb hv => gotCert_err (W := W) (w := w') (e := e) ho he hb hv
    unfold set5 at fin
    clear hR1 hZ1 hB1 H
    go_wp2_with fail
    go_region
    revert fin
    generalize (World.setCell _ ⟨W.heap.size, 4, none⟩ (.slice none 0 0)).drew = wf
    intro fin
    try go_wp2
    refine bodyPost_ret (v := .tuple #[cert0.v, .int .i64 (E1 : Int)]) (results_cert_tmp rfl _ _ W.heap.size cert0 rfl fin.1 _ rfl) rfl ?_
    exact hfin _ _ fin.2 rfl
  replace he : E1 = 0 := by omega
  subst he
  have ht6 : (⟨t.toArray⟩ : ByteArray).size ≤ maxLen := by rw [size_mk]; unfold maxLen; omega
  have cH := fun w1 => refHdrDecode_any ⟨t.toArray⟩ w1 ht6
  obtain ⟨tb, htb⟩ : ∃ q, q = (⟨t.toArray⟩ : ByteArray) := ⟨_, rfl⟩
  rw [← htb] at cH ⊢
  have htd : tb.data.toList = t := by rw [htb]
  rw [htd] at cH
  have hdt : Hid (∀ dh, dh = decH t → out = match dh with | .error e => .error e | .ok h => rdG r1.data.toList fun v l => if l ≠ [] then .error 6 else .ok ⟨h, v⟩) := by
    intro dh e
    rw [e]
    have := H.out
    rw [runX_zero] at this
    exact this
  generalize hgd : decH t = dh at cH
  have hst := hdt.out dh hgd.symm
  have Hst : Hid _ := hst
  clear htb htd hdt hgd hst H ht6 htl
  have hw1 := hR1.lt
  go_wp2_with fail
  refine (cH _).mono ?_
  rintro e w2 ⟨x, e1, rfl, hx, hres, hxf, hb2⟩
  unfold HdrM.v
  have hZ2 := hZ1.below hb2 hZ1.lt
  have hR2 := hR1.below hb2 hR1.lt
  have hB2 := hB1.trans (hb2.mono hB1.size)
  have hbx := belowNew w2 (.cells #[.int .i64 x.author, .int .i64 x.round, .slice x.ra x.refs.length x.rc, .slice x.pa x.parents.length x.pc] 30)
  have hX3 := Arr.new w2 30 [.int .i64 x.author, .int .i64 x.round, .slice x.ra x.refs.length x.rc, .slice x.pa x.parents.length x.pc]
  have hZ3 := hZ2.below hbx hZ2.lt
  have hR3 := hR2.below hbx hR2.lt
  have hB3 := hB2.trans (hbx.mono hB2.size)
  have hx3 := hx.below hbx
  have hxl : ∀ b, x.foot b → W.heap.size + 1 < b := fun b hb => by have := hxf b hb; omega
  have hw2 : W.heap.size + 1 < w2.heap.size := hR2.lt
  clear hZ1 hR1 hB1 hb2 hbx hZ2 hR2 hB2 hx hxf cH u1 fu1 z0 z1 z2 z3 z4 g0 g1 g2 g3 g4
  obtain ⟨w3, hw3⟩ : ∃ q, w2.alloc (.cells #[.int .i64 x.author, .int .i64 x.round, .slice x.ra x.refs.length x.rc, .slice x.pa x.parents.length x.pc] 30) = q := ⟨_, rfl⟩
  rw [hw3] at hX3 hZ3 hR3 hB3 hx3
  have u1 := hR3.cell (i := 1) rfl
  have fu1 := hR3.frozen 1
  have hR4 := hR3.set 1 (.int .i64 (e1 : Int))
  have hZ4 := hZ3.other (p := ⟨W.heap.size + 1, 1, none⟩) (by show W.heap.size ≠ W.heap.size + 1; omega) (.int .i64 (e1 : Int))
  have hX4 := hX3.other (p := ⟨W.heap.size + 1, 1, none⟩) (by show w2.heap.size ≠ W.heap.size + 1; omega) (.int .i64 (e1 : Int))
  have hB4 := hB3.setCell (p := ⟨W.heap.size + 1, 1, none⟩) (by show W.heap.size ≤ W.heap.size + 1; omega) (.int .i64 (e1 : Int))
  have hx4 := Kind.kept hdrK hx3 (Kept.setCell w3 ⟨W.heap.size + 1, 1, none⟩ (.int .i64 (e1 : Int))) (fun b hb e => by have := hxl b hb; have e' : b = W.heap.size + 1 := e; omega)
  have hz4 := setCell_size w3 ⟨W.heap.size + 1, 1, none⟩ (.int .i64 (e1 : Int))
  obtain ⟨w4, hw4⟩ : ∃ q, w3.setCell ⟨W.heap.size + 1, 1, none⟩ (.int .i64 (e1 : Int)) = q := ⟨_, rfl⟩
  rw [hw4] at hR4 hZ4 hX4 hB4 hx4 hz4
  replace hR4 : Arr w4 (W.heap.size + 1) 62 [.string r1, .int .i64 (e1 : Int)] := hR4
  have H : Hid (out = runX e1 (rdG r1.data.toList fun v l => if l ≠ [] then .error 6 else .ok ⟨x.d, v⟩)) := by
    have := Hst.out
    rcases hres with ⟨h0, h⟩ | ⟨h0, h, _⟩
    · rw [h] at this
      rw [h0, runX_zero]
      exact this
    · rw [h] at this
      rw [runX_err h0]
      exact this
  clear Hst hres hR3 hZ3 hX3 hB3 hx3 hz4
  have cS := fun w1 h => some_k (W.heap.size + 1) w1 r1 e1 h hr1
  have hRd : Arr w4.drew (W.heap.size + 1) 62 [.string r1, .int .i64 (e1 : Int)] := hR4.drew
  have hRa : Arr (w4.drew.alloc (.cells #[.int .i64 0, .int .i64 0, .slice none 0 0, .slice none 0 0, .slice none 0 0] 33)) (W.heap.size + 1) 62 [.string r1, .int .i64 (e1 : Int)] := hRd.alloc _
  have hkp : ∀ U, Kept (fun k => k = W.heap.size + 1) w4 U → (U.cell? ⟨w2.heap.size, 0, none⟩ = some (.int .i64 x.author) ∧ U.cell? ⟨w2.heap.size, 1, none⟩ = some (.int .i64 x.round) ∧ U.cell? ⟨w2.heap.size, 2, none⟩ = some (.slice x.ra x.refs.length x.rc) ∧ U.cell? ⟨w2.heap.size, 3, none⟩ = some (.slice x.pa x.parents.length x.pc)) := fun U hU => by
    have hn : w2.heap.size ≠ W.heap.size + 1 := by omega
    have h := hX4.kept hU hn
    exact ⟨h.cell (i := 0) rfl, h.cell (i := 1) rfl, h.cell (i := 2) rfl, h.cell (i := 3) rfl⟩
  have kd : Kept (fun k => k = W.heap.size + 1) w4 w4.drew := Kept.of_below (below_drewN (Below.refl _ w4) 1)
  have ka : Kept (fun k => k = W.heap.size + 1) w4 (w4.drew.alloc (.cells #[.int .i64 0, .int .i64 0, .slice none 0 0, .slice none 0 0, .slice none 0 0] 33)) := Kept.of_below ((below_drewN (Below.refl _ w4) 1).alloc (Nat.le_refl _) _)
  have hS0 := hkp _ kd
  go_wp2_with fail
  clear hw3 hw4 u1 fu1
  have zA : Arr (w4.drew.alloc (.cells #[.int .i64 0, .int .i64 0, .slice none 0 0, .slice none 0 0, .slice none 0 0] 33)) w4.heap.size 33 [.int .i64 0, .int .i64 0, .slice none 0 0, .slice none 0 0, .slice none 0 0] := Arr.new w4.drew 33 [.int .i64 0, .int .i64 0, .slice none 0 0, .slice none 0 0, .slice none 0 0]
  have hne4 : w4.heap.size ≠ W.heap.size + 1 := by have := hR4.lt; omega
  go_region_held3 (fun w' => w'.cell? ⟨w2.heap.size, 0, none⟩ = some (.int .i64 x.author) ∧ w'.cell? ⟨w2.heap.size, 1, none⟩ = some (.int .i64 x.round) ∧ w'.cell? ⟨w2.heap.size, 2, none⟩ = some (.slice x.ra x.refs.length x.rc) ∧ w'.cell? ⟨w2.heap.size, 3, none⟩ = some (.slice x.pa x.parents.length x.pc)) (exact hkp _ (by assumption))
    (first
    | (go_at_call 64; refine (cS _ hRd).mono ?_; rintro e w5 ⟨ts, E5, r5, va, vc, rfl, h7, hr5, hf5, hT5, hTn, hTf, hR5, hk5⟩; have k5 := kd.trans hk5; have ka5 := k5.trans (Kept.of_below (belowNew w5 (.cells #[.int .i64 0, .int .i64 0, .slice none 0 0, .slice none 0 0, .slice none 0 0] 33))); have kb5 := k5.trans (Kept.of_below (belowNew w5 (.cells #[.int .i64 x.author, .int .i64 x.round, .slice x.ra x.refs.length x.rc, .slice x.pa x.parents.length x.pc, .slice va ts.length vc] 33))))
    | (go_at_call 64; refine (cS _ hRa).mono ?_; rintro e w5 ⟨ts, E5, r5, va, vc, rfl, h7, hr5, hf5, hT5, hTn, hTf, hR5, hk5⟩; have k5 := ka.trans hk5; have z5 := zA.kept hk5 hne4; have y0 := z5.cell (i := 0) rfl; have y1 := z5.cell (i := 1) rfl; have y2 := z5.cell (i := 2) rfl; have y3 := z5.cell (i := 3) rfl; have y4 := z5.cell (i := 4) rfl; have l0 := z5.frozen 0; have l1 := z5.frozen 1; have l2 := z5.frozen 2; have l3 := z5.frozen 3; have l4 := z5.frozen 4; have kb5 := ((((k5.setNew (a := ⟨w4.heap.size, 0, none⟩) (Nat.le_refl _) (.int .i64 x.author)).setNew (a := ⟨w4.heap.size, 1, none⟩) (Nat.le_refl _) (.int .i64 x.round)).setNew (a := ⟨w4.heap.size, 2, none⟩) (Nat.le_refl _) (.slice x.ra x.refs.length x.rc)).setNew (a := ⟨w4.heap.size, 3, none⟩) (Nat.le_refl _) (.slice x.pa x.parents.length x.pc)).setNew (a := ⟨w4.heap.size, 4, none⟩) (Nat.le_refl _) (.slice va ts.length vc)))
  · have hb6 := belowNew w5 (.cells #[.int .i64 x.author, .int .i64 x.round, .slice x.ra x.refs.length x.rc, .slice x.pa x.parents.length x.pc, .slice va ts.length vc] 33)
    have hC6 := Arr.new w5 33 [.int .i64 x.author, .int .i64 x.round, .slice x.ra x.refs.length x.rc, .slice x.pa x.parents.length x.pc, .slice va ts.length vc]
    have hR6 := hR5.below hb6 hR5.lt
    have hZ5 := hZ4.kept k5 (by omega)
    have hZ6 := hZ5.below hb6 hZ5.lt
    have hx5 := Kind.kept hdrK hx4 k5 (fun b hb e => by have := hxl b hb; have e' : b = W.heap.size + 1 := e; omega)
    have hx6 := Kind.below hdrK hx5 hb6
    have hT6 := hT5.below hb6
    have hB5 := hB4.trans (k5.below hB4.size (fun k hk => by rw [hk]; omega))
    have hB6 := hB5.trans (hb6.mono hB5.size)
    have hTl : ∀ b, rowFoot tagK va ts b → W.heap.size + 1 < b := fun b hb => by have h1 := hTf b hb; have h2 := hR4.lt; have h3 : w4.drew.heap.size = w4.heap.size := rfl; omega
    have hcb : W.heap.size + 1 < w5.heap.size := hR5.lt
    obtain ⟨cb, hcbe⟩ : ∃ q, q = w5.heap.size := ⟨_, rfl⟩
    rw [← hcbe] at hC6 hcb ⊢
    obtain ⟨w6, hw6⟩ : ∃ q, w5.alloc (.cells #[.int .i64 x.author, .int .i64 x.round, .slice x.ra x.refs.length x.rc, .slice x.pa x.parents.length x.pc, .slice va ts.length vc] 33) = q := ⟨_, rfl⟩
    rw [hw6] at hC6 hR6 hZ6 hx6 hT6 hB6 ⊢
    clear hw6 hcbe hb6 hR5 hZ5 hx5 hT5 hB5 hTf k5 ka5 kb5 hk5 hZ4 hX4 hB4 hx4 hR4
    clear cS hRd hRa hkp kd ka hS0 zA hne4
    have hh := H.out.trans (hf5 _ _)
    replace H : Hid (out = _) := hh
    clear hh hf5
    have cE := inEnd_k (W.heap.size + 1) w6 r5 E5 hR6
    obtain ⟨E7, hE7⟩ : ∃ q, Hid (q = (if E5 = 0 ∧ r5.data.toList ≠ [] then 6 else E5)) := ⟨_, rfl⟩
    rw [← hE7.out] at cE
    have HF : Hid ((E7 = 0 ∧ out = .ok (CertM.d ⟨x, va, ts, vc⟩)) ∨ (E7 ≠ 0 ∧ out = .error E7)) := by
      have e7 := hE7.out
      have hh := H.out
      by_cases h1 : E5 = 0
      · rw [h1, runX_zero] at hh
        by_cases hm : r5.data.toList ≠ []
        · rw [if_pos hm] at hh
          rw [if_pos ⟨h1, hm⟩] at e7
          exact Or.inr ⟨by omega, by rw [hh, e7]⟩
        · rw [if_neg hm] at hh
          rw [if_neg (fun h => hm h.2)] at e7
          exact Or.inl ⟨by omega, hh⟩
      · rw [runX_err h1] at hh
        rw [if_neg (fun h => h1 h.1)] at e7
        exact Or.inr ⟨by omega, by rw [hh, e7]⟩
    clear H hE7 h7 hr5
    go_wp2_with fail
    refine cE.mono ?_
    rintro e w7 ⟨rfl, hR7, hk7⟩
    have hZ7 := hZ6.kept hk7 (by omega)
    have hC7 := hC6.kept hk7 (by omega)
    have hx7 := Kind.kept hdrK hx6 hk7 (fun b hb e => by have := hxl b hb; have e' : b = W.heap.size + 1 := e; omega)
    have hT7 := hT6.kept hk7 (fun b hb e => by have := hTl b hb; have e' : b = W.heap.size + 1 := e; omega)
    have hB7 := hB6.trans (hk7.below hB6.size (fun k hk => by rw [hk]; omega))
    clear cE hZ6 hC6 hx6 hT6 hB6 hk7 hR6
    have u1 := hR7.cell (i := 1) rfl
    have z0 := hZ7.cell (i := 0) rfl
    have z1 := hZ7.cell (i := 1) rfl
    have z2 := hZ7.cell (i := 2) rfl
    have z3 := hZ7.cell (i := 3) rfl
    have z4 := hZ7.cell (i := 4) rfl
    have g0 := hZ7.frozen 0
    have g1 := hZ7.frozen 1
    have g2 := hZ7.frozen 2
    have g3 := hZ7.frozen 3
    have g4 := hZ7.frozen 4
    by_cases he : E7 ≠ 0
    · have hne : ((E7 : Int) != 0) = true := by rw [bne_iff_ne]; omega
      have ho : out = .error E7 := by
        rcases HF.out with ⟨h, _⟩ | ⟨_, h⟩
        · exact absurd h he
        · exact h
      have fin : Arr (set5 w7 W.heap.size (.int .i64 0) (.int .i64 0) (.slice none 0 0) (.slice none 0 0) (.slice none 0 0)).drew W.heap.size 33 cert0.c ∧ Below W.heap.size W (set5 w7 W.heap.size (.int .i64 0) (.int .i64 0) (.slice none 0 0) (.slice none 0 0) (.slice none 0 0)).drew :=
        ⟨(hZ7.set5 (.int .i64 0) (.int .i64 0) (.slice none 0 0) (.slice none 0 0) (.slice none 0 0)).drew, Below.drew (below_set5 hB7 (Nat.le_refl _) (.int .i64 0) (.int .i64 0) (.slice none 0 0) (.slice none 0 0) (.slice none 0 0))⟩
      have hfin := fun w' e hb hv => gotCert_err (W := W) (w := w') (e := e) ho he hb hv
      unfold set5 at fin
      clear hR7 hZ7 hB7 hC7 hx7 hT7 HF
      go_wp2_with fail
      go_region
      revert fin
      generalize (World.setCell _ ⟨W.heap.size, 4, none⟩ (.slice none 0 0)).drew = wf
      intro fin
      try go_wp2
      refine bodyPost_ret (v := .tuple #[cert0.v, .int .i64 (E7 : Int)]) (results_cert_tmp rfl _ _ W.heap.size cert0 rfl fin.1 _ rfl) rfl ?_
      exact hfin _ _ fin.2 rfl
    have he0 : E7 = 0 := by omega
    subst he0
    have ho : out = .ok (CertM.d ⟨x, va, ts, vc⟩) := by
      rcases HF.out with ⟨_, h⟩ | ⟨h, _⟩
      · exact h
      · exact absurd rfl h
    have q0 := hC7.cell (i := 0) rfl
    have q1 := hC7.cell (i := 1) rfl
    have q2 := hC7.cell (i := 2) rfl
    have q3 := hC7.cell (i := 3) rfl
    have q4 := hC7.cell (i := 4) rfl
    have hZF := hZ7.set5 (.int .i64 x.author) (.int .i64 x.round) (.slice x.ra x.refs.length x.rc) (.slice x.pa x.parents.length x.pc) (.slice va ts.length vc)
    have hBF := below_set5 hB7 (Nat.le_refl _) (.int .i64 x.author) (.int .i64 x.round) (.slice x.ra x.refs.length x.rc) (.slice x.pa x.parents.length x.pc) (.slice va ts.length vc)
    have kF := kept_set5 w7 W.heap.size (.int .i64 x.author) (.int .i64 x.round) (.slice x.ra x.refs.length x.rc) (.slice x.pa x.parents.length x.pc) (.slice va ts.length vc)
    have hxF := Kind.kept hdrK hx7 kF (fun b hb e => by have := hxl b hb; have e' : b = W.heap.size := e; omega)
    have hTF := hT7.kept kF (fun b hb e => by have := hTl b hb; have e' : b = W.heap.size := e; omega)
    have fin : ∀ e, e = .returned (.tuple #[CertM.v ⟨x, va, ts, vc⟩, .int .i64 0]) → GotCert W out e _ := fun e hv => ⟨_, 0, hv, ⟨hxF, hTF, hTn⟩, Or.inl ⟨rfl, ho⟩, fun b hb => hb.elim (fun h => by have := hxl b h; omega) (fun h => by have := hTl b h; omega), hBF⟩
    unfold set5 at hZF fin
    clear hR7 hZ7 hC7 hx7 hT7 hB7 hBF kF hxF hTF ho HF
    go_wp2
    refine bodyPost_ret (v := .tuple #[CertM.v ⟨x, va, ts, vc⟩, .int .i64 0]) (results_cert_tmp rfl _ _ W.heap.size ⟨x, va, ts, vc⟩ rfl hZF _ rfl) rfl ?_
    exact fin _ rfl
  · have k6 := kept_set5 w5 w4.heap.size (.int .i64 x.author) (.int .i64 x.round) (.slice x.ra x.refs.length x.rc) (.slice x.pa x.parents.length x.pc) (.slice va ts.length vc)
    have hC6 := z5.set5 (.int .i64 x.author) (.int .i64 x.round) (.slice x.ra x.refs.length x.rc) (.slice x.pa x.parents.length x.pc) (.slice va ts.length vc)
    have h4lt := hR4.lt
    have hR6 := hR5.kept k6 (by omega)
    have hZ5 := hZ4.kept k5 (by omega)
    have hZ6 := hZ5.kept k6 (by have := hZ4.lt; omega)
    have hx5 := Kind.kept hdrK hx4 k5 (fun b hb e => by have := hxl b hb; have e' : b = W.heap.size + 1 := e; omega)
    have hx6 := Kind.kept hdrK hx5 k6 (fun b hb e => by have := Kind.lt hdrK hx4 hb; have e' : b = w4.heap.size := e; omega)
    have hTg : ∀ b, rowFoot tagK va ts b → w4.heap.size + 1 ≤ b := fun b hb => by have h1 := hTf b hb; rw [alloc_size] at h1; exact h1
    have hT6 := hT5.kept k6 (fun b hb e => by have := hTg b hb; have e' : b = w4.heap.size := e; omega)
    have hB5 := hB4.trans (k5.below hB4.size (fun k hk => by rw [hk]; omega))
    have hB6 := below_set5 hB5 (g := w4.heap.size) (by omega) (.int .i64 x.author) (.int .i64 x.round) (.slice x.ra x.refs.length x.rc) (.slice x.pa x.parents.length x.pc) (.slice va ts.length vc)
    have hTl : ∀ b, rowFoot tagK va ts b → W.heap.size + 1 < b := fun b hb => by have := hTg b hb; omega
    have hcb : W.heap.size + 1 < w4.heap.size := hR4.lt
    unfold set5 at hC6 hR6 hZ6 hx6 hT6 hB6
    generalize (((((w5.setCell ⟨w4.heap.size, 0, none⟩ (.int .i64 x.author)).setCell ⟨w4.heap.size, 1, none⟩ (.int .i64 x.round)).setCell ⟨w4.heap.size, 2, none⟩ (.slice x.ra x.refs.length x.rc)).setCell ⟨w4.heap.size, 3, none⟩ (.slice x.pa x.parents.length x.pc)).setCell ⟨w4.heap.size, 4, none⟩ (.slice va ts.length vc)) = w6 at hC6 hR6 hZ6 hx6 hT6 hB6 ⊢
    obtain ⟨cb, hcbe⟩ : ∃ q, q = w4.heap.size := ⟨_, rfl⟩
    rw [← hcbe] at hC6 hcb ⊢
    clear hcbe hR5 hZ5 hx5 hT5 hB5 hTf hTg k5 kb5 hk5 z5 y0 y1 y2 y3 y4 l0 l1 l2 l3 l4 hZ4 hX4 hB4 hx4 hR4 h4lt k6
    clear cS hRd hRa hkp kd ka hS0 zA hne4
    have hh := H.out.trans (hf5 _ _)
    replace H : Hid (out = _) := hh
    clear hh hf5
    have cE := inEnd_k (W.heap.size + 1) w6 r5 E5 hR6
    obtain ⟨E7, hE7⟩ : ∃ q, Hid (q = (if E5 = 0 ∧ r5.data.toList ≠ [] then 6 else E5)) := ⟨_, rfl⟩
    rw [← hE7.out] at cE
    have HF : Hid ((E7 = 0 ∧ out = .ok (CertM.d ⟨x, va, ts, vc⟩)) ∨ (E7 ≠ 0 ∧ out = .error E7)) := by
      have e7 := hE7.out
      have hh := H.out
      by_cases h1 : E5 = 0
      · rw [h1, runX_zero] at hh
        by_cases hm : r5.data.toList ≠ []
        · rw [if_pos hm] at hh
          rw [if_pos ⟨h1, hm⟩] at e7
          exact Or.inr ⟨by omega, by rw [hh, e7]⟩
        · rw [if_neg hm] at hh
          rw [if_neg (fun h => hm h.2)] at e7
          exact Or.inl ⟨by omega, hh⟩
      · rw [runX_err h1] at hh
        rw [if_neg (fun h => h1 h.1)] at e7
        exact Or.inr ⟨by omega, by rw [hh, e7]⟩
    clear H hE7 h7 hr5
    go_wp2_with fail
    refine cE.mono ?_
    rintro e w7 ⟨rfl, hR7, hk7⟩
    have hZ7 := hZ6.kept hk7 (by omega)
    have hC7 := hC6.kept hk7 (by omega)
    have hx7 := Kind.kept hdrK hx6 hk7 (fun b hb e => by have := hxl b hb; have e' : b = W.heap.size + 1 := e; omega)
    have hT7 := hT6.kept hk7 (fun b hb e => by have := hTl b hb; have e' : b = W.heap.size + 1 := e; omega)
    have hB7 := hB6.trans (hk7.below hB6.size (fun k hk => by rw [hk]; omega))
    clear cE hZ6 hC6 hx6 hT6 hB6 hk7 hR6
    have u1 := hR7.cell (i := 1) rfl
    have z0 := hZ7.cell (i := 0) rfl
    have z1 := hZ7.cell (i := 1) rfl
    have z2 := hZ7.cell (i := 2) rfl
    have z3 := hZ7.cell (i := 3) rfl
    have z4 := hZ7.cell (i := 4) rfl
    have g0 := hZ7.frozen 0
    have g1 := hZ7.frozen 1
    have g2 := hZ7.frozen 2
    have g3 := hZ7.frozen 3
    have g4 := hZ7.frozen 4
    by_cases he : E7 ≠ 0
    · have hne : ((E7 : Int) != 0) = true := by rw [bne_iff_ne]; omega
      have ho : out = .error E7 := by
        rcases HF.out with ⟨h, _⟩ | ⟨_, h⟩
        · exact absurd h he
        · exact h
      have fin : Arr (set5 w7 W.heap.size (.int .i64 0) (.int .i64 0) (.slice none 0 0) (.slice none 0 0) (.slice none 0 0)).drew W.heap.size 33 cert0.c ∧ Below W.heap.size W (set5 w7 W.heap.size (.int .i64 0) (.int .i64 0) (.slice none 0 0) (.slice none 0 0) (.slice none 0 0)).drew :=
        ⟨(hZ7.set5 (.int .i64 0) (.int .i64 0) (.slice none 0 0) (.slice none 0 0) (.slice none 0 0)).drew, Below.drew (below_set5 hB7 (Nat.le_refl _) (.int .i64 0) (.int .i64 0) (.slice none 0 0) (.slice none 0 0) (.slice none 0 0))⟩
      have hfin := fun w' e hb hv => gotCert_err (W := W) (w := w') (e := e) ho he hb hv
      unfold set5 at fin
      clear hR7 hZ7 hB7 hC7 hx7 hT7 HF
      go_wp2_with fail
      go_region
      revert fin
      generalize (World.setCell _ ⟨W.heap.size, 4, none⟩ (.slice none 0 0)).drew = wf
      intro fin
      try go_wp2
      refine bodyPost_ret (v := .tuple #[cert0.v, .int .i64 (E7 : Int)]) (results_cert_tmp rfl _ _ W.heap.size cert0 rfl fin.1 _ rfl) rfl ?_
      exact hfin _ _ fin.2 rfl
    have he0 : E7 = 0 := by omega
    subst he0
    have ho : out = .ok (CertM.d ⟨x, va, ts, vc⟩) := by
      rcases HF.out with ⟨_, h⟩ | ⟨h, _⟩
      · exact h
      · exact absurd rfl h
    have q0 := hC7.cell (i := 0) rfl
    have q1 := hC7.cell (i := 1) rfl
    have q2 := hC7.cell (i := 2) rfl
    have q3 := hC7.cell (i := 3) rfl
    have q4 := hC7.cell (i := 4) rfl
    have hZF := hZ7.set5 (.int .i64 x.author) (.int .i64 x.round) (.slice x.ra x.refs.length x.rc) (.slice x.pa x.parents.length x.pc) (.slice va ts.length vc)
    have hBF := below_set5 hB7 (Nat.le_refl _) (.int .i64 x.author) (.int .i64 x.round) (.slice x.ra x.refs.length x.rc) (.slice x.pa x.parents.length x.pc) (.slice va ts.length vc)
    have kF := kept_set5 w7 W.heap.size (.int .i64 x.author) (.int .i64 x.round) (.slice x.ra x.refs.length x.rc) (.slice x.pa x.parents.length x.pc) (.slice va ts.length vc)
    have hxF := Kind.kept hdrK hx7 kF (fun b hb e => by have := hxl b hb; have e' : b = W.heap.size := e; omega)
    have hTF := hT7.kept kF (fun b hb e => by have := hTl b hb; have e' : b = W.heap.size := e; omega)
    have fin : ∀ e, e = .returned (.tuple #[CertM.v ⟨x, va, ts, vc⟩, .int .i64 0]) → GotCert W out e _ := fun e hv => ⟨_, 0, hv, ⟨hxF, hTF, hTn⟩, Or.inl ⟨rfl, ho⟩, fun b hb => hb.elim (fun h => by have := hxl b h; omega) (fun h => by have := hTl b h; omega), hBF⟩
    unfold set5 at hZF fin
    clear hR7 hZ7 hC7 hx7 hT7 hB7 hBF kF hxF hTF ho HF
    go_wp2
    refine bodyPost_ret (v := .tuple #[CertM.v ⟨x, va, ts, vc⟩, .int .i64 0]) (results_cert_tmp rfl _ _ W.heap.size ⟨x, va, ts, vc⟩ rfl hZF _ rfl) rfl ?_
    exact fin _ rfl
end Go.Proofs.YtmngiekobmhpaaaGreat

/- What tuskref08.DecodeQc and tuskref08.Decode do; nothing old in memory is turned. -/
namespace Go.Proofs.YtmngiekobmhpaaaGreat
open Go.RowKit
set_option linter.unusedVariables false

set_option maxRecDepth 100000 in
set_option maxHeartbeats 2000000 in
theorem refDecodeQc_any (s : ByteArray) (W : World) (hs : s.size ≤ maxLen) :
    Calls Tryz.prog 70 #[.string s] W fun e w' => GotQc W (decQ s.data.toList) e w' := by
  obtain ⟨hZ, hR, hB⟩ := two_new W 35 62 [.int .i64 0, .string ⟨#[]⟩, .slice none 0 0] [.string s, .int .i64 0]
  obtain ⟨out, hout⟩ : ∃ out, out = decQ s.data.toList := ⟨_, rfl⟩
  rw [← hout]
  have H : Hid (out = runX 0 (decQ s.data.toList)) := hout
  clear hout
  have c0 := inInt_k (W.heap.size + 1) _ s 0 hR hs
  have hw0 := hR.lt
  go_enter Tryz.func70, Tryz.ntmps70
  go_wp2_with fail
  refine c0.mono ?_
  rintro e w1 ⟨v, E1, r1, rfl, hvl, hr1, hf, hR1, hk1⟩
  have hZ1 := hZ.kept hk1 (by omega)
  have hB1 := hB.trans (hk1.below hB.size (fun k hk => by rw [hk]; omega))
  have hx := H.out.trans (hf _ _)
  replace H : Hid (out = _) := hx
  clear hx hf c0 hZ hR hB hk1
  have c1 := inText_k (W.heap.size + 1) w1 r1 E1 hR1 hr1
  go_wp2_with fail
  refine c1.mono ?_
  rintro e w2 ⟨t, E2, r2, rfl, htl, hr2, hf, hR2, hk2⟩
  have hZ2 := hZ1.kept hk2 (by omega)
  have hB2 := hB1.trans (hk2.below hB1.size (fun k hk => by rw [hk]; omega))
  have hx := H.out.trans (hf _ _)
  replace H : Hid (out = _) := hx
  clear hx hf c1 hZ1 hR1 hB1 hk2
  have c2 := some_k (W.heap.size + 1) w2 r2 E2 hR2 hr2
  have hw2 := hR2.lt
  go_wp2_with fail
  refine c2.mono ?_
  rintro e w5 ⟨ts, E5, r5, va, vc, rfl, h7, hr5, hf, hT5, hTn, hTf, hR5, hk5⟩
  have hZ5 := hZ2.kept hk5 (by omega)
  have hB5 := hB2.trans (hk5.below hB2.size (fun k hk => by rw [hk]; omega))
  have hTl : ∀ b, rowFoot tagK va ts b → W.heap.size + 1 < b := fun b hb => by have := hTf b hb; omega
  have hx := H.out.trans (hf _ _)
  replace H : Hid (out = _) := hx
  clear hx hf c2 hZ2 hR2 hB2 hk5 hTf
  have cE := inEnd_k (W.heap.size + 1) w5 r5 E5 hR5
  obtain ⟨E7, hE7⟩ : ∃ q, Hid (q = (if E5 = 0 ∧ r5.data.toList ≠ [] then 6 else E5)) := ⟨_, rfl⟩
  rw [← hE7.out] at cE
  have HF : Hid ((E7 = 0 ∧ out = .ok (QcM.d ⟨(v : Int), ⟨t.toArray⟩, va, ts, vc⟩)) ∨ (E7 ≠ 0 ∧ out = .error E7)) := by
    have e7 := hE7.out
    have hh := H.out
    by_cases h1 : E5 = 0
    · rw [h1, runX_zero] at hh
      by_cases hm : r5.data.toList ≠ []
      · rw [if_pos hm] at hh
        rw [if_pos ⟨h1, hm⟩] at e7
        exact Or.inr ⟨by omega, by rw [hh, e7]⟩
      · rw [if_neg hm] at hh
        rw [if_neg (fun h => hm h.2)] at e7
        exact Or.inl ⟨by omega, hh⟩
    · rw [runX_err h1] at hh
      rw [if_neg (fun h => h1 h.1)] at e7
      exact Or.inr ⟨by omega, by rw [hh, e7]⟩
  clear H hE7 h7 hr5
  go_wp2_with fail
  refine cE.mono ?_
  rintro e w7 ⟨rfl, hR7, hk7⟩
  have hZ7 := hZ5.kept hk7 (by omega)
  have hT7 := hT5.kept hk7 (fun b hb e => by have := hTl b hb; have e' : b = W.heap.size + 1 := e; omega)
  have hB7 := hB5.trans (hk7.below hB5.size (fun k hk => by rw [hk]; omega))
  clear cE hZ5 hT5 hB5 hk7 hR5
  have u1 := hR7.cell (i := 1) rfl
  have z0 := hZ7.cell (i := 0) rfl
  have z1 := hZ7.cell (i := 1) rfl
  have z2 := hZ7.cell (i := 2) rfl
  have g0 := hZ7.frozen 0
  have g1 := hZ7.frozen 1
  have g2 := hZ7.frozen 2
  by_cases he : E7 ≠ 0
  · have hne : ((E7 : Int) != 0) = true := by rw [bne_iff_ne]; omega
    have ho : out = .error E7 := by
      rcases HF.out with ⟨h, _⟩ | ⟨_, h⟩
      · exact absurd h he
      · exact h
    have fin : Arr (set3 w7 W.heap.size (.int .i64 0) (.string ⟨#[]⟩) (.slice none 0 0)).drew W.heap.size 35 qc0.c ∧ Below W.heap.size W (set3 w7 W.heap.size (.int .i64 0) (.string ⟨#[]⟩) (.slice none 0 0)).drew :=
      ⟨(hZ7.set3 (.int .i64 0) (.string ⟨#[]⟩) (.slice none 0 0)).drew, Below.drew (below_set3 hB7 (Nat.le_refl _) (.int .i64 0) (.string ⟨#[]⟩) (.slice none 0 0))⟩
    have hfin := fun w' e hb hv => gotQc_err (W := W) (w := w') (e := e) ho he hb hv
    unfold set3 at fin
    clear hR7 hZ7 hB7 hT7 HF
    go_wp2_with fail
    go_region
    revert fin
    generalize (World.setCell _ ⟨W.heap.size, 2, none⟩ (.slice none 0 0)).drew = wf
    intro fin
    try go_wp2
    refine bodyPost_ret (v := .tuple #[qc0.v, .int .i64 (E7 : Int)]) (results_qc_tmp rfl _ _ W.heap.size qc0 rfl fin.1 _ rfl) rfl ?_
    exact hfin _ _ fin.2 rfl
  have he0 : E7 = 0 := by omega
  subst he0
  obtain ⟨tb, htb⟩ : ∃ q, q = (⟨t.toArray⟩ : ByteArray) := ⟨_, rfl⟩
  rw [← htb] at HF ⊢
  have ho : out = .ok (QcM.d ⟨(v : Int), tb, va, ts, vc⟩) := by
    rcases HF.out with ⟨_, h⟩ | ⟨h, _⟩
    · exact h
    · exact absurd rfl h
  have hZF := hZ7.set3 (.int .i64 (v : Int)) (.string tb) (.slice va ts.length vc)
  have hBF := below_set3 hB7 (Nat.le_refl _) (.int .i64 (v : Int)) (.string tb) (.slice va ts.length vc)
  have kF := kept_set3 w7 W.heap.size (.int .i64 (v : Int)) (.string tb) (.slice va ts.length vc)
  have hTF := hT7.kept kF (fun b hb e => by have := hTl b hb; have e' : b = W.heap.size := e; omega)
  have fin : ∀ e, e = .returned (.tuple #[QcM.v ⟨(v : Int), tb, va, ts, vc⟩, .int .i64 0]) → GotQc W out e _ := fun e hv => ⟨_, 0, hv, ⟨hTF, hTn⟩, Or.inl ⟨rfl, ho⟩, fun b h => by have := hTl b h; omega, hBF⟩
  unfold set3 at hZF fin
  clear hR7 hZ7 hT7 hB7 hBF kF hTF ho HF htb
  go_wp2
  refine bodyPost_ret (v := .tuple #[QcM.v ⟨(v : Int), tb, va, ts, vc⟩, .int .i64 0]) (results_qc_tmp rfl _ _ W.heap.size ⟨(v : Int), tb, va, ts, vc⟩ rfl hZF _ rfl) rfl ?_
  exact fin _ rfl

set_option maxRecDepth 100000 in
set_option maxHeartbeats 2000000 in
theorem refBlkDecode_any (s : ByteArray) (W : World) (hs : s.size ≤ maxLen) :
    Calls Tryz.prog 69 #[.string s] W fun e w' => GotBlk W (decK s.data.toList) e w' := by
  obtain ⟨hZ, hR, hB⟩ := two_new W 37 62 [.int .i64 0, .int .i64 0, .string ⟨#[]⟩, .slice none 0 0, .slice none 0 0] [.string s, .int .i64 0]
  obtain ⟨out, hout⟩ : ∃ out, out = decK s.data.toList := ⟨_, rfl⟩
  rw [← hout]
  have H : Hid (out = runX 0 (decK s.data.toList)) := hout
  clear hout
  have c0 := inInt_k (W.heap.size + 1) _ s 0 hR hs
  have hw0 := hR.lt
  go_enter Tryz.func69, Tryz.ntmps69
  go_wp2_with fail
  refine c0.mono ?_
  rintro e w0 ⟨v, E0, r0, rfl, hvl, hr0, hf, hR0, hk0⟩
  have hZ0 := hZ.kept hk0 (by omega)
  have hB0 := hB.trans (hk0.below hB.size (fun k hk => by rw [hk]; omega))
  have hx := H.out.trans (hf _ _)
  replace H : Hid (out = _) := hx
  clear hx hf c0 hZ hR hB hk0
  have c1 := inText_k (W.heap.size + 1) w0 r0 E0 hR0 hr0
  go_wp2_with fail
  refine c1.mono ?_
  rintro e w1 ⟨t, E1, r1, rfl, htl, hr1, hf, hR1, hk1⟩
  have hZ1 := hZ0.kept hk1 (by omega)
  have hB1 := hB0.trans (hk1.below hB0.size (fun k hk => by rw [hk]; omega))
  have hx := H.out.trans (hf _ _)
  replace H : Hid (out = _) := hx
  clear hx hf c1 hZ0 hR0 hB0 hk1
  have u1 := hR1.cell (i := 1) rfl
  have fu1 := hR1.frozen 1
  have z0 := hZ1.cell (i := 0) rfl
  have z1 := hZ1.cell (i := 1) rfl
  have z2 := hZ1.cell (i := 2) rfl
  have z3 := hZ1.cell (i := 3) rfl
  have z4 := hZ1.cell (i := 4) rfl
  have g0 := hZ1.frozen 0
  have g1 := hZ1.frozen 1
  have g2 := hZ1.frozen 2
  have g3 := hZ1.frozen 3
  have g4 := hZ1.frozen 4
  by_cases he : E1 ≠ 0
  · have hne : ((E1 : Int) != 0) = true := by rw [bne_iff_ne]; omega
    have ho : out = .error E1 := H.out.trans (runX_err he _)
    have fin : Arr (set5 w1 W.heap.size (.int .i64 0) (.int .i64 0) (.string ⟨#[]⟩) (.slice none 0 0) (.slice none 0 0)).drew W.heap.size 37 blk0.c ∧ Below W.heap.size W (set5 w1 W.heap.size (.int .i64 0) (.int .i64 0) (.string ⟨#[]⟩) (.slice none 0 0) (.slice none 0 0)).drew :=
      ⟨(hZ1.set5 (.int .i64 0) (.int .i64 0) (.string ⟨#[]⟩) (.slice none 0 0) (.slice none 0 0)).drew, Below.drew (below_set5 hB1 (Nat.le_refl _) (.int .i64 0) (.int .i64 0) (.string ⟨#[]⟩) (.slice none 0 0) (.slice none 0 0))⟩
    have hfin := fun w' e hb hv => gotBlk_err (W := W) (w := w') (e := e) ho he hb hv
    unfold set5 at fin
    clear hR1 hZ1 hB1 H
    go_wp2_with fail
    go_region
    revert fin
    generalize (World.setCell _ ⟨W.heap.size, 4, none⟩ (.slice none 0 0)).drew = wf
    intro fin
    try go_wp2
    refine bodyPost_ret (v := .tuple #[blk0.v, .int .i64 (E1 : Int)]) (results_blk_tmp rfl _ _ W.heap.size blk0 rfl fin.1 _ rfl) rfl ?_
    exact hfin _ _ fin.2 rfl
  replace he : E1 = 0 := by omega
  subst he
  have ht6 : (⟨t.toArray⟩ : ByteArray).size ≤ maxLen := by rw [size_mk]; unfold maxLen; omega
  have cQ := fun w1 => refDecodeQc_any ⟨t.toArray⟩ w1 ht6
  obtain ⟨tb, htb⟩ : ∃ q, q = (⟨t.toArray⟩ : ByteArray) := ⟨_, rfl⟩
  rw [← htb] at cQ ⊢
  have htd : tb.data.toList = t := by rw [htb]
  rw [htd] at cQ
  have hst := H.out
  rw [runX_zero] at hst
  generalize decQ t = dq at cQ hst
  have Hst : Hid _ := hst
  clear htb htd hst H ht6 htl
  have hw1 := hR1.lt
  go_wp2_with fail
  refine (cQ _).mono ?_
  rintro e w2 ⟨x, e1, rfl, hx, hres, hxf, hb2⟩
  unfold QcM.v
  have hZ2 := hZ1.below hb2 hZ1.lt
  have hR2 := hR1.below hb2 hR1.lt
  have hB2 := hB1.trans (hb2.mono hB1.size)
  have hbx := belowNew w2 (.cells #[.int .i64 x.view, .string x.block, .slice x.va x.votes.length x.vc] 35)
  have hX3 := Arr.new w2 35 [.int .i64 x.view, .string x.block, .slice x.va x.votes.length x.vc]
  have hZ3 := hZ2.below hbx hZ2.lt
  have hR3 := hR2.below hbx hR2.lt
  have hB3 := hB2.trans (hbx.mono hB2.size)
  have hx3 := hx.below hbx
  have hxl : ∀ b, x.foot b → W.heap.size + 1 < b := fun b hb => by have := hxf b hb; omega
  have hw2 : W.heap.size + 1 < w2.heap.size := hR2.lt
  clear hZ1 hR1 hB1 hb2 hbx hZ2 hR2 hB2 hx hxf cQ u1 fu1 z0 z1 z2 z3 z4 g0 g1 g2 g3 g4
  obtain ⟨w3, hw3⟩ : ∃ q, w2.alloc (.cells #[.int .i64 x.view, .string x.block, .slice x.va x.votes.length x.vc] 35) = q := ⟨_, rfl⟩
  rw [hw3] at hX3 hZ3 hR3 hB3 hx3
  have u1 := hR3.cell (i := 1) rfl
  have fu1 := hR3.frozen 1
  have hR4 := hR3.set 1 (.int .i64 (e1 : Int))
  have hZ4 := hZ3.other (p := ⟨W.heap.size + 1, 1, none⟩) (by show W.heap.size ≠ W.heap.size + 1; omega) (.int .i64 (e1 : Int))
  have hX4 := hX3.other (p := ⟨W.heap.size + 1, 1, none⟩) (by show w2.heap.size ≠ W.heap.size + 1; omega) (.int .i64 (e1 : Int))
  have hB4 := hB3.setCell (p := ⟨W.heap.size + 1, 1, none⟩) (by show W.heap.size ≤ W.heap.size + 1; omega) (.int .i64 (e1 : Int))
  have hx4 := Kind.kept qcK hx3 (Kept.setCell w3 ⟨W.heap.size + 1, 1, none⟩ (.int .i64 (e1 : Int))) (fun b hb e => by have := hxl b hb; have e' : b = W.heap.size + 1 := e; omega)
  obtain ⟨w4, hw4⟩ : ∃ q, w3.setCell ⟨W.heap.size + 1, 1, none⟩ (.int .i64 (e1 : Int)) = q := ⟨_, rfl⟩
  rw [hw4] at hR4 hZ4 hX4 hB4 hx4
  replace hR4 : Arr w4 (W.heap.size + 1) 62 [.string r1, .int .i64 (e1 : Int)] := hR4
  have H : Hid (out = runX e1 (rdL 8 r1.data.toList fun cs l => if l ≠ [] then .error 6 else .ok ⟨(v : Int), x.d, mks cs⟩)) := by
    have := Hst.out
    rcases hres with ⟨h0, h⟩ | ⟨h0, h, _⟩
    · rw [h] at this
      rw [h0, runX_zero]
      exact this
    · rw [h] at this
      rw [runX_err h0]
      exact this
  clear Hst hres hR3 hZ3 hX3 hB3 hx3
  have c3 := inList_k (W.heap.size + 1) w4 r1 e1 8 (by decide) hR4 hr1
  have hw4l := hX4.lt
  go_wp2_with fail
  refine c3.mono ?_
  rintro e w5 ⟨cs, E5, r5, ca, cc, rfl, h7, h8, hr5, hf, hO5, hR5, hk5, hCn⟩
  have hZ5 := hZ4.kept hk5 (by omega)
  have hX5 := hX4.kept hk5 (by omega)
  have hx5 := Kind.kept qcK hx4 hk5 (fun b hb e => by have := hxl b hb; have e' : b = W.heap.size + 1 := e; omega)
  have hB5 := hB4.trans (hk5.below hB4.size (fun k hk => by rw [hk]; omega))
  have hT5 := hO5.at.row
  have hTl : ∀ b, rowFoot strK ca (mks cs) b → W.heap.size + 1 < b := fun b hb => by have := hO5.foot hb; omega
  have hx := H.out.trans (hf _ _)
  replace H : Hid (out = _) := hx
  clear hx hf c3 hZ4 hR4 hB4 hX4 hx4 hk5 hO5 hw3 hw4 u1 fu1 h7 h8
  have cE := inEnd_k (W.heap.size + 1) w5 r5 E5 hR5
  obtain ⟨cl, hcl⟩ : ∃ q, q = mks cs := ⟨_, rfl⟩
  rw [← hcl] at H hTl hT5 ⊢
  obtain ⟨E7, hE7⟩ : ∃ q, Hid (q = (if E5 = 0 ∧ r5.data.toList ≠ [] then 6 else E5)) := ⟨_, rfl⟩
  rw [← hE7.out] at cE
  have HF : Hid ((E7 = 0 ∧ out = .ok (BlkM.d ⟨(v : Int), x, ca, cl, cc⟩)) ∨ (E7 ≠ 0 ∧ out = .error E7)) := by
    have e7 := hE7.out
    have hh := H.out
    by_cases h1 : E5 = 0
    · rw [h1, runX_zero] at hh
      by_cases hm : r5.data.toList ≠ []
      · rw [if_pos hm] at hh
        rw [if_pos ⟨h1, hm⟩] at e7
        exact Or.inr ⟨by omega, by rw [hh, e7]⟩
      · rw [if_neg hm] at hh
        rw [if_neg (fun h => hm h.2)] at e7
        exact Or.inl ⟨by omega, hh⟩
    · rw [runX_err h1] at hh
      rw [if_neg (fun h => h1 h.1)] at e7
      exact Or.inr ⟨by omega, by rw [hh, e7]⟩
  clear H hE7 hr5 hcl
  go_wp2_with fail
  refine cE.mono ?_
  rintro e w7 ⟨rfl, hR7, hk7⟩
  have hZ7 := hZ5.kept hk7 (by omega)
  have hX7 := hX5.kept hk7 (by omega)
  have hx7 := Kind.kept qcK hx5 hk7 (fun b hb e => by have := hxl b hb; have e' : b = W.heap.size + 1 := e; omega)
  have hT7 := hT5.kept hk7 (fun b hb e => by have := hTl b hb; have e' : b = W.heap.size + 1 := e; omega)
  have hB7 := hB5.trans (hk7.below hB5.size (fun k hk => by rw [hk]; omega))
  clear cE hZ5 hX5 hx5 hT5 hB5 hk7 hR5
  have u1 := hR7.cell (i := 1) rfl
  have z0 := hZ7.cell (i := 0) rfl
  have z1 := hZ7.cell (i := 1) rfl
  have z2 := hZ7.cell (i := 2) rfl
  have z3 := hZ7.cell (i := 3) rfl
  have z4 := hZ7.cell (i := 4) rfl
  have g0 := hZ7.frozen 0
  have g1 := hZ7.frozen 1
  have g2 := hZ7.frozen 2
  have g3 := hZ7.frozen 3
  have g4 := hZ7.frozen 4
  by_cases he : E7 ≠ 0
  · have hne : ((E7 : Int) != 0) = true := by rw [bne_iff_ne]; omega
    have ho : out = .error E7 := by
      rcases HF.out with ⟨h, _⟩ | ⟨_, h⟩
      · exact absurd h he
      · exact h
    have fin : Arr (set5 w7 W.heap.size (.int .i64 0) (.int .i64 0) (.string ⟨#[]⟩) (.slice none 0 0) (.slice none 0 0)).drew W.heap.size 37 blk0.c ∧ Below W.heap.size W (set5 w7 W.heap.size (.int .i64 0) (.int .i64 0) (.string ⟨#[]⟩) (.slice none 0 0) (.slice none 0 0)).drew :=
      ⟨(hZ7.set5 (.int .i64 0) (.int .i64 0) (.string ⟨#[]⟩) (.slice none 0 0) (.slice none 0 0)).drew, Below.drew (below_set5 hB7 (Nat.le_refl _) (.int .i64 0) (.int .i64 0) (.string ⟨#[]⟩) (.slice none 0 0) (.slice none 0 0))⟩
    have hfin := fun w' e hb hv => gotBlk_err (W := W) (w := w') (e := e) ho he hb hv
    unfold set5 at fin
    clear hR7 hZ7 hB7 hX7 hx7 hT7 HF
    go_wp2_with fail
    go_region
    revert fin
    generalize (World.setCell _ ⟨W.heap.size, 4, none⟩ (.slice none 0 0)).drew = wf
    intro fin
    try go_wp2
    refine bodyPost_ret (v := .tuple #[blk0.v, .int .i64 (E7 : Int)]) (results_blk_tmp rfl _ _ W.heap.size blk0 rfl fin.1 _ rfl) rfl ?_
    exact hfin _ _ fin.2 rfl
  have he0 : E7 = 0 := by omega
  subst he0
  have ho : out = .ok (BlkM.d ⟨(v : Int), x, ca, cl, cc⟩) := by
    rcases HF.out with ⟨_, h⟩ | ⟨h, _⟩
    · exact h
    · exact absurd rfl h
  have q0 := hX7.cell (i := 0) rfl
  have q1 := hX7.cell (i := 1) rfl
  have q2 := hX7.cell (i := 2) rfl
  have hZF := hZ7.set5 (.int .i64 (v : Int)) (.int .i64 x.view) (.string x.block) (.slice x.va x.votes.length x.vc) (.slice ca cl.length cc)
  have hBF := below_set5 hB7 (Nat.le_refl _) (.int .i64 (v : Int)) (.int .i64 x.view) (.string x.block) (.slice x.va x.votes.length x.vc) (.slice ca cl.length cc)
  have kF := kept_set5 w7 W.heap.size (.int .i64 (v : Int)) (.int .i64 x.view) (.string x.block) (.slice x.va x.votes.length x.vc) (.slice ca cl.length cc)
  have hxF := Kind.kept qcK hx7 kF (fun b hb e => by have := hxl b hb; have e' : b = W.heap.size := e; omega)
  have hTF := hT7.kept kF (fun b hb e => by have := hTl b hb; have e' : b = W.heap.size := e; omega)
  have fin : ∀ e, e = .returned (.tuple #[BlkM.v ⟨(v : Int), x, ca, cl, cc⟩, .int .i64 0]) → GotBlk W out e _ := fun e hv => ⟨_, 0, hv, ⟨hxF, hTF, hCn⟩, Or.inl ⟨rfl, ho⟩, fun b hb => hb.elim (fun h => by have := hxl b h; omega) (fun h => by have := hTl b h; omega), hBF⟩
  unfold set5 at hZF fin
  clear hR7 hZ7 hX7 hx7 hT7 hB7 hBF kF hxF hTF ho HF
  go_wp2
  refine bodyPost_ret (v := .tuple #[BlkM.v ⟨(v : Int), x, ca, cl, cc⟩, .int .i64 0]) (results_blk_tmp rfl _ _ W.heap.size ⟨(v : Int), x, ca, cl, cc⟩ rfl hZF _ rfl) rfl ?_
  exact fin _ rfl
end Go.Proofs.YtmngiekobmhpaaaGreat
