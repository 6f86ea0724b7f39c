/- Texts as one: DagFns, DagMiss, DagPar, DagVote, DagHas. -/
import Derived.Test.YtmjkbdgcnoenbaaGreatDoorDz13
import Derived.Test.YtmjkbdgcnoenbaaGreatDoorDz14
import Derived.Test.YtmjkbdgcnoenbaaGreatDoorDz05
import Derived.Test.YtmjkbdgcnoenbaaGreatDoorDz06
import Derived.Lib.QuietBelow
import Derived.Deep.RegionHeld3
import Derived.Deep.DeepCutAuto
/- What the program's dag tells: Ids, Get, and a header's missing parents. -/
namespace Go.Proofs.YtmjkbdgcnoenbaaGreatDoor
open Go Go.RowKit Go.Maps
set_option linter.unusedVariables false

theorem KQ.toStr {w : World} {B : Nat} {q : Value} {l : List ByteArray} (h : KQ textK 9 w B q l) : KQ strK 9 w B q l := ⟨h.row, fun _ _ => trivial, fun _ _ _ h => h.elim, h.lt, h.nil⟩

section
variable {w w' : World} {db cb vb : Nat} {S S' C : Nat → Prop} {tb f : Nat} {ks : List ByteArray} {me : Nat} {d : DagD} {tl : Int}

set_option maxRecDepth 100000 in
theorem needs_dag (x : HdrM) (h : PDg w db cb vb C tb f ks me d tl) :
    Calls Tryz.prog 47 #[.pointer (some ⟨db, 0, none⟩), x.v] w fun e w' => e = .returned (.bool (decide (d.low < x.round))) ∧ Below w.heap.size w w' := by
  obtain ⟨xa, xr, xra, xrs, xrc, xpa, ps, xpc⟩ := x
  have hX := Arr.new w 33 [.int .i64 xa, .int .i64 xr, .slice xra xrs.length xrc, .slice xpa ps.length xpc]
  have hB := belowNew w (.cells #[.int .i64 xa, .int .i64 xr, .slice xra xrs.length xrc, .slice xpa ps.length xpc] 33)
  have hP := h.below hB
  unfold HdrM.v
  have c1 := hX.cell (i := 1) rfl
  have c2 := hP.box.cell (i := 2) rfl
  have ltb := h.box.lt
  clear hX hP
  go_enter Tryz.func47, Tryz.ntmps47
  go_wp2_with fail
  go_region
  go_wp2
  go_ret
  exact ⟨rfl, Below.drew hB⟩

set_option maxRecDepth 100000 in
theorem ids_dag (round : Int) (h : PDg w db cb vb C tb f ks me d tl) :
    Calls Tryz.prog 34 #[.pointer (some ⟨db, 0, none⟩), .int .i64 round] w fun e w' => ∃ v, e = .returned v ∧ KQ textK 9 w' w.heap.size v (idsC d.L round) ∧ Below w.heap.size w w' := by
  have c4 := h.box.cell (i := 4) rfl
  have cI := ptIds_any round cb C _ tl _ w h.tab
  rw [idsL_things] at cI
  generalize idsC d.L round = I at *
  go_enter Tryz.func34, Tryz.ntmps34
  go_wp2_with fail
  refine cI.mono ?_
  rintro e w1 ⟨v, rfl, hQ, hb⟩
  obtain ⟨ao, cap, rfl, _, _⟩ := hQ.form
  go_wp2
  go_ret
  exact ⟨_, rfl, hQ, hb⟩

/-- A certificate that is told, or none. -/
def certOf (L : List RowC) (id : ByteArray) : CertD := match getC L id with | some x => x.c | none => ⟨⟨0, 0, [], []⟩, []⟩

set_option maxRecDepth 100000 in
set_option maxHeartbeats 1000000 in
theorem get_dag (id : ByteArray) (hid : id.size ≤ maxLen) (h : PDg w db cb vb C tb f ks me d tl) (hk : ks.length = 3 * f + 1) (hf2 : f ≤ 2) :
    Calls Tryz.prog 29 #[.pointer (some ⟨db, 0, none⟩), .string id] w fun e w' => ∃ c : CertM, e = .returned (.tuple #[c.v, .bool (getC d.L id).isSome]) ∧ c.d = certOf d.L id ∧ c.At w' ∧ (∀ b, c.foot b → w.heap.size ≤ b) ∧ Below w.heap.size w w' := by
  have hB := belowNew w (.cells #[.int .i64 0, .int .i64 0, .slice none 0 0, .slice none 0 0, .slice none 0 0] 48)
  have hX := Arr.new w 48 [.int .i64 0, .int .i64 0, .slice none 0 0, .slice none 0 0, .slice none 0 0]
  have h1 := h.below hB
  have e8 : (w.alloc (.cells #[.int .i64 0, .int .i64 0, .slice none 0 0, .slice none 0 0, .slice none 0 0] 48)).heap.size = w.heap.size + 1 := by show (w.heap.push _).size = _; exact Array.size_push _
  obtain ⟨w1, hw1⟩ : ∃ q, w.alloc (.cells #[.int .i64 0, .int .i64 0, .slice none 0 0, .slice none 0 0, .slice none 0 0] 48) = q := ⟨_, rfl⟩
  rw [hw1] at hB hX h1 e8
  have hX' : Arr w1 w.heap.size 48 [.int .i64 0, .int .i64 0, .slice none 0 0, .slice none 0 0, .slice none 0 0] := hX
  have c4 := h1.box.cell (i := 4) rfl
  have cG := ptGet_any id hid cb C _ tl _ w1 h1.tab
  rw [getR_things] at cG
  have f0 := hX'.frozen 0
  have f1 := hX'.frozen 1
  have f2 := hX'.frozen 2
  have f3 := hX'.frozen 3
  have f4 := hX'.frozen 4
  cases hg : getC d.L id with
  | none =>
    rw [hg] at cG
    have cG : Calls Tryz.prog 48 #[.pointer (some ⟨cb, 0, none⟩), .string id] w1 fun e w' => e = .returned (.tuple #[.string ⟨#[]⟩, .int .i64 0, .bool false]) ∧ Below w1.heap.size w1 w' := cG
    have hco : certOf d.L id = cert0.d := by unfold certOf; rw [hg]; rfl
    rw [hco]
    clear hco
    go_enter Tryz.func29, Tryz.ntmps29
    go_wp2_with fail
    refine cG.mono ?_
    rintro e w2 ⟨rfl, hb2⟩
    have hZ2 := hX'.below hb2 hX'.lt
    have hbf := hB.trans (hb2.mono hB.size)
    have hZF := hZ2.set5 (.int .i64 0) (.int .i64 0) (.slice none 0 0) (.slice none 0 0) (.slice none 0 0)
    have hBF := below_set5 hbf (Nat.le_refl _) (.int .i64 0) (.int .i64 0) (.slice none 0 0) (.slice none 0 0) (.slice none 0 0)
    have hZ0 : Arr w2 w.heap.size 48 cert0.c := hZ2
    have hZF : Arr _ w.heap.size 48 cert0.c := hZF
    unfold set5 at hZF hBF
    have z0 := hZ2.cell (i := 0) rfl
    have z1 := hZ2.cell (i := 1) rfl
    have z2 := hZ2.cell (i := 2) rfl
    have z3 := hZ2.cell (i := 3) rfl
    have z4 := hZ2.cell (i := 4) rfl
    clear hX hX' hZ2 c4 f0 f1 f2 f3 f4
    have f0 := hZ0.frozen 0
    have f1 := hZ0.frozen 1
    have f2 := hZ0.frozen 2
    have f3 := hZ0.frozen 3
    have f4 := hZ0.frozen 4
    go_wp2
    first
      | (refine bodyPost_ret (results_cert_tmp14 rfl _ _ w.heap.size cert0 rfl hZF _ rfl) rfl ?_; exact ⟨cert0, rfl, rfl, cert0_at _, (fun b hb => (hb.elim (fun h => h.elim (fun h => (nil_foot h).elim) (fun h => (nil_foot h).elim)) (fun h => (nil_foot h).elim))), hBF⟩)
      | (refine bodyPost_ret (results_cert_tmp14 rfl _ _ w.heap.size cert0 rfl hZ0 _ rfl) rfl ?_; exact ⟨cert0, rfl, rfl, cert0_at _, (fun b hb => (hb.elim (fun h => h.elim (fun h => (nil_foot h).elim) (fun h => (nil_foot h).elim)) (fun h => (nil_foot h).elim))), hbf⟩)
  | some y =>
    rw [hg] at cG
    have hco : certOf d.L id = y.c := by unfold certOf; rw [hg]
    rw [hco]
    obtain ⟨hback, hlen⟩ := cert_back hk hf2 (h.ok.chk y (getC_some hg).1)
    have hsz : (encCB y.c).size ≤ maxLen := by
      have e : (encCB y.c).size = (encC y.c).length := by unfold encCB; exact size_mk _
      rw [e]
      unfold maxLen
      omega
    have cD := fun w2 => certDecode_any (encCB y.c) w2 hsz
    have e9 : (encCB y.c).data.toList = encC y.c := rfl
    rw [e9, hback] at cD
    have cG : Calls Tryz.prog 48 #[.pointer (some ⟨cb, 0, none⟩), .string id] w1 fun e w' => e = .returned (.tuple #[.string (encCB y.c), .int .i64 y.c.header.round, .bool true]) ∧ Below w1.heap.size w1 w' := cG
    generalize encCB y.c = s at *
    clear hco hsz e9 hback
    go_enter Tryz.func29, Tryz.ntmps29
    go_wp2_with fail
    refine cG.mono ?_
    rintro e w2 ⟨rfl, hb2⟩
    go_wp2_with fail
    refine (cD w2).mono ?_
    rintro e w3 ⟨c, er, rfl, hcA, hcd, hcf, hb3⟩
    obtain ⟨rfl, hcy⟩ : er = 0 ∧ y.c = c.d := by
      rcases hcd with ⟨e1, e2⟩ | ⟨e1, e2, _⟩
      · exact ⟨e1, by simpa using e2⟩
      · cases e2
    have hb13 := hb2.trans (hb3.mono hb2.size)
    have hb03 := hB.trans (hb13.mono hB.size)
    have hZ3 := hX'.below hb13 hX'.lt
    have hbn := belowNew w3 (.cells c.c.toArray 48)
    have hN := Arr.new w3 48 c.c
    have hZ4 := hZ3.below hbn hZ3.lt
    have hb04 := hb03.trans (hbn.mono hb03.size)
    have hc4 := hcA.below hbn
    have hne : w.heap.size < w3.heap.size := hZ3.lt
    have n0 := hN.cell (i := 0) rfl
    have n1 := hN.cell (i := 1) rfl
    have n2 := hN.cell (i := 2) rfl
    have n3 := hN.cell (i := 3) rfl
    have n4 := hN.cell (i := 4) rfl
    have hZF := hZ4.set5 (.int .i64 c.hdr.author) (.int .i64 c.hdr.round) (.slice c.hdr.ra c.hdr.refs.length c.hdr.rc) (.slice c.hdr.pa c.hdr.parents.length c.hdr.pc) (.slice c.va c.votes.length c.vc)
    have hBF := below_set5 hb04 (Nat.le_refl _) (.int .i64 c.hdr.author) (.int .i64 c.hdr.round) (.slice c.hdr.ra c.hdr.refs.length c.hdr.rc) (.slice c.hdr.pa c.hdr.parents.length c.hdr.pc) (.slice c.va c.votes.length c.vc)
    have hZF : Arr _ w.heap.size 48 c.c := hZF
    have hcF : c.At (set5 (w3.alloc (.cells c.c.toArray 48)) w.heap.size (.int .i64 c.hdr.author) (.int .i64 c.hdr.round) (.slice c.hdr.ra c.hdr.refs.length c.hdr.rc) (.slice c.hdr.pa c.hdr.parents.length c.hdr.pc) (.slice c.va c.votes.length c.vc)) :=
      Kind.kept certK (S := fun k => k = w.heap.size) hc4 (kept_set5 _ _ _ _ _ _ _) (fun b hb e => by have := hcf b hb; have := hb2.size; have e' : b = w.heap.size := e; omega)
    have f5 := hZ4.frozen 0
    have f6 := hZ4.frozen 1
    have f7 := hZ4.frozen 2
    have f8 := hZ4.frozen 3
    have f9 := hZ4.frozen 4
    have y0 := hZ4.cell (i := 0) rfl
    have y1 := hZ4.cell (i := 1) rfl
    have y2 := hZ4.cell (i := 2) rfl
    have y3 := hZ4.cell (i := 3) rfl
    have y4 := hZ4.cell (i := 4) rfl
    unfold set5 at hZF hBF hcF
    unfold CertM.v
    have hcd' : Hid (c.d = y.c) := hcy.symm
    clear hcd hcy e8 hw1
    clear hZ3 hN hbn hX hX' hZ4 hb04 hc4 hb03 hb13 cD c4 f0 f1 f2 f3 f4 hcA
    have hw4 : w3.alloc (.cells c.c.toArray 48) = w3.alloc (.cells #[.int .i64 c.hdr.author, .int .i64 c.hdr.round, .slice c.hdr.ra c.hdr.refs.length c.hdr.rc, .slice c.hdr.pa c.hdr.parents.length c.hdr.pc, .slice c.va c.votes.length c.vc] 48) := rfl
    rw [hw4] at n0 n1 n2 n3 n4 hZF hBF hcF f5 f6 f7 f8 f9 y0 y1 y2 y3 y4
    clear hw4
    have hcf' : ∀ b, c.foot b → w.heap.size ≤ b := fun b hb => by have := hcf b hb; have := hb2.size; have := hB.size; omega
    go_upto_region 5 with fail
    generalize w3.alloc _ = w4 at *
    clear hb3 hcf
    go_wp2
    refine bodyPost_ret (results_cert_tmp14 rfl _ _ w.heap.size c rfl hZF _ rfl) rfl ?_
    exact ⟨c, rfl, hcd'.out, hcF, hcf', hBF⟩
end
end Go.Proofs.YtmjkbdgcnoenbaaGreatDoor

/- A header's missing parents, as the program tells them; what is wrong with its parents. -/
namespace Go.Proofs.YtmjkbdgcnoenbaaGreatDoor
open Go Go.RowKit Go.Maps
set_option linter.unusedVariables false

theorem miss_is (L : List RowC) (ps : List ByteArray) : dedupT (sortT (notIn L ps)) = missL L ps := by
  obtain ⟨h1, h2⟩ := dedup_sort (notIn L ps)
  exact rise_ext h1 (missL_rise L ps) (fun x => by rw [h2, notIn_mem, missL_mem])

section
variable {w w' : World} {db cb vb : Nat} {S S' C : Nat → Prop} {tb f : Nat} {ks : List ByteArray} {me : Nat} {d : DagD} {tl : Int}

set_option maxRecDepth 100000 in
set_option maxHeartbeats 2000000 in
theorem miss_dag (x : HdrM) (h : PDg w db cb vb C tb f ks me d tl) (hA : x.At w) (hpl : x.parents.length ≤ 1000000) (hps : ∀ p ∈ x.parents, p.size ≤ maxLen) :
    Calls Tryz.prog 13 #[.pointer (some ⟨db, 0, none⟩), x.v] w fun e w' => ∃ v, e = .returned v ∧ KQ textK 9 w' w.heap.size v (missD d x.d) ∧ Below w.heap.size w w' := by
  obtain ⟨i0, z0, hi0, hz0, hz1, hz2, hz3⟩ := strInfoT
  obtain ⟨au, ro, ra, rs, rc, pa, ps, pc⟩ := x
  have hps : Hid (∀ p ∈ ps, p.size ≤ maxLen) := hps
  have hpl : ps.length ≤ 1000000 := hpl
  have hRp : RowAt strK w pa ps := hA.ps
  have hX := Arr.new w 33 [.int .i64 au, .int .i64 ro, .slice ra rs.length rc, .slice pa ps.length pc]
  have hB := belowNew w (.cells #[.int .i64 au, .int .i64 ro, .slice ra rs.length rc, .slice pa ps.length pc] 33)
  obtain ⟨M, hM⟩ : ∃ M, Hid (missD d (HdrM.d ⟨au, ro, ra, rs, rc, pa, ps, pc⟩) = M) := ⟨_, rfl⟩
  rw [hM.out]
  have hM2 : Hid (M = if ro ≤ d.low then [] else missL d.L ps) := hM.out.symm
  obtain ⟨w1, hw1⟩ : ∃ q, w.alloc (.cells #[.int .i64 au, .int .i64 ro, .slice ra rs.length rc, .slice pa ps.length pc] 33) = q := ⟨_, rfl⟩
  rw [hw1] at hX hB
  have cN := needs_dag ⟨au, ro, ra, rs, rc, pa, ps, pc⟩ (h.below hB)
  have a0 := hX.cell (i := 0) rfl
  have a1 := hX.cell (i := 1) rfl
  have a2 := hX.cell (i := 2) rfl
  have a3 := hX.cell (i := 3) rfl
  clear hM
  unfold HdrM.v at cN ⊢
  simp only at cN ⊢
  go_enter Tryz.func13, Tryz.ntmps13
  go_wp2_with fail
  refine (show Calls Tryz.prog 47 _ w1 _ from cN).mono ?_
  rintro e w2 ⟨rfl, hb2⟩
  have hbw := hB.trans (hb2.mono hB.size)
  have b3 := (hX.below hb2 hX.lt).cell (i := 3) rfl
  have hP2 := h.below hbw
  have hR2 := hRp.below hbw
  have hws : w.heap.size ≤ w2.heap.size := hbw.size
  clear hX a0 a1 a2 a3 cN hRp hB
  by_cases hr : d.low < ro
  · have hrb : decide (d.low < ro) = true := decide_eq_true hr
    have hM3 : Hid (M = missL d.L ps) := by have := hM2.out; rw [if_neg (by omega)] at this; exact this
    clear hM2
    simp only [hrb]
    go_wp2_with fail
    go_loopw [5, 18] (fun v5 v18 wr => ∃ i : Nat, i ≤ ps.length ∧ v18 = .int .i64 (i : Int) ∧ KQ textK 9 wr w2.heap.size v5 (notIn d.L (ps.take i)) ∧ Below w2.heap.size w2 wr) (fun _ v _ => ps.length - (intOf v).toNat)
    case atStart => exact ⟨0, Nat.zero_le _, rfl, KQ.empty _ _ _ _, Below.refl _ _⟩
    case round =>
      obtain ⟨i, hil, rfl, hQ, hb⟩ := hrel
      clear b3
      by_cases hlt : i < ps.length
      · have g1 : (i : Int) < (ps.length : Int) := by omega
        obtain ⟨p, hp⟩ : ∃ p, ps[i]? = some p := ⟨_, List.getElem?_eq_getElem hlt⟩
        have hpm := List.mem_of_getElem? hp
        obtain ⟨b, off, rfl, hbl, hcell⟩ := (hR2.below hb).cell i p hp
        have y0 : wr.cell? ⟨b, off + i, none⟩ = some (.string p) := by
          have := hcell 0 (.string p) rfl
          have e : off + i * strK.n + 0 = off + i := by show off + i * 1 + 0 = _; omega
          rw [e] at this
          exact this
        have hPr := hP2.below hb
        have c4 := hPr.box.cell (i := 4) rfl
        have cG := ptGet_any p (hps.out p hpm) cb C _ tl _ wr hPr.tab
        rw [getR_things] at cG
        have hst := notIn_succ d.L ps i p hp
        have hcnt := notIn_le d.L (ps.take i)
        rw [List.length_take] at hcnt
        clear hcell hP2 hPr
        go_wp2_with fail
        refine (show Calls Tryz.prog 48 _ wr _ from cG).mono ?_
        rintro e w3 ⟨rfl, hb3⟩
        have hQ3 := hQ.below hb3
        have hb23 := hb.trans (hb3.mono hb.size)
        clear cG hQ hb c4 y0
        cases hg : getC d.L p with
        | some y =>
          rw [hg] at hst
          simp only [Option.isSome_some, if_true, List.append_nil] at hst
          have hst : Hid _ := hst
          simp only [Option.map_some, Option.isSome_some]
          go_wp2
          go_roundw
          case rel => exact ⟨i + 1, by omega, by go_num, by rw [hst.out]; exact hQ3, hb23⟩
          case measure => simp [intOf]; omega
        | none =>
          rw [hg] at hst
          simp only [Option.isSome_none, Bool.false_eq_true, if_false] at hst
          have hst : Hid _ := hst
          simp only [Option.map_none, Option.isSome_none]
          have hbx := belowNew w3 (.cells #[.string p] 9)
          have hQ4 := hQ3.below hbx
          have hb24 := hb23.trans (hbx.mono hb23.size)
          have hN := new_text w3 p
          have hbs : w2.heap.size ≤ (w3.alloc (.cells #[.string p] 9)).heap.size := hb24.size
          obtain ⟨k, hk⟩ : ∃ k, Hid (notIn d.L (ps.take i) = k) := ⟨_, rfl⟩
          rw [hk.out] at hQ4 hcnt
          have m1 : k.length + 1 ≤ maxLen := by unfold maxLen; omega
          have m2 : (k.length + 1) * 16 ≤ 140737488355328 := by omega
          obtain ⟨ao, cap, rfl, _, _⟩ := hQ3.form
          clear hQ3 hb23 hb3
          rw [hk.out] at hQ4 ⊢
          go_wp2_with (at_builtin; refine wpList_push (K := textK) rfl _ _ 31 rfl w2.heap.size 9 i0 _ 16 Tryz.underlying31 hi0 hz0 hz1 hz2 hz3 _ k rfl hQ4 p trivial (fun _ h => h.elim) ⟨w3.heap.size, 0, none⟩ 1 rfl hN m1 m2 hbs ?_)
          intro ao3 cap3 w5 hQ5 hk5
          have hb25 := hb24.trans (Kept.below hk5 hb24.size (fun j hj => by have := (hQ4.lt j hj).1; omega))
          clear hk5 hQ4 hb24 hbx hN hbs m1 m2
          go_wp2
          go_roundw
          case rel => exact ⟨i + 1, by omega, by go_num, by rw [hst.out, hk.out]; exact hQ5, hb25⟩
          case measure => simp [intOf]; omega
      · obtain rfl : i = ps.length := by omega
        have g1 : ¬ ((ps.length : Nat) : Int) < (ps.length : Int) := by omega
        rw [List.take_length] at hQ
        have hcnt := notIn_le d.L ps
        have hmi := miss_is d.L ps
        rw [← hM3.out] at hmi
        generalize notIn d.L ps = k at *
        obtain ⟨ao, cap, rfl, hnil, hRow⟩ := hQ.form
        clear hM3
        go_wp2_with fail
        refine (sortS_any w2.heap.size _ k _ hQ (by omega)).mono ?_
        rintro _ w9 ⟨rfl, hQ9, hk9⟩
        have hb9 := hb.trans (Kept.below hk9 hb.size (fun j hj => by have := (hQ.lt j hj).1; omega))
        have hsl := sortT_length k
        go_wp2_with fail
        refine (compactS_any w2.heap.size _ (sortT k) _ hQ9 (by omega)).mono ?_
        rintro _ w10 ⟨q, rfl, hQ10, hk10⟩
        rw [hmi] at hQ10
        have hb10 := hb9.trans (Kept.below hk10 hb9.size (fun j hj => by have := (hQ9.lt j hj).1; omega))
        obtain ⟨ao9, cap9, rfl, _, _⟩ := hQ10.form
        clear hk9 hQ hk10 hQ9 hRow hb9
        go_wp2_with fail
        go_ret
        exact ⟨_, rfl, hQ10.rebase hws, hbw.trans (hb10.mono hws)⟩
  · have hrb : decide (d.low < ro) = false := decide_eq_false hr
    have hM3 : Hid (M = []) := by have := hM2.out; rw [if_pos (by omega)] at this; exact this
    clear hM2
    simp only [hrb]
    go_wp2
    go_ret
    exact ⟨_, rfl, by rw [hM3.out]; exact KQ.empty _ _ _ _, hbw⟩
end
end Go.Proofs.YtmjkbdgcnoenbaaGreatDoor

/- What is wrong with a header's parents, as the program tells it. -/
namespace Go.Proofs.YtmjkbdgcnoenbaaGreatDoor
open Go Go.RowKit Go.Maps
set_option linter.unusedVariables false

theorem gotR_things (L : List RowC) (p : ByteArray) : gotR ((getC L p).map thingC) = gotRd (getC L p) := by
  cases getC L p <;> rfl

section
variable {w w' : World} {db cb vb : Nat} {S S' C : Nat → Prop} {tb f : Nat} {ks : List ByteArray} {me : Nat} {d : DagD} {tl : Int}

set_option maxRecDepth 100000 in
set_option maxHeartbeats 2000000 in
theorem par_dag (x : HdrM) (h : PDg w db cb vb C tb f ks me d tl) (hA : x.At w) (hpl : x.parents.length ≤ 1000000) (hps : ∀ p ∈ x.parents, p.size ≤ maxLen) (hr1 : 1 ≤ x.round) (hr2 : x.round ≤ 4611686018427387903) :
    Calls Tryz.prog 52 #[.pointer (some ⟨db, 0, none⟩), x.v] w fun e w' => e = .returned (.int .i64 (parE d x.d : Int)) ∧ Below w.heap.size w w' := by
  have hbx := belowNew w (.cells x.c.toArray 33)
  have hX := Arr.new w 33 x.c
  have h1 := h.below hbx
  have hA1 := hA.below hbx
  have cM := miss_dag x h1 hA1 hpl hps
  obtain ⟨ML, hML⟩ : ∃ z, Hid (missD d x.d = z) := ⟨_, rfl⟩
  rw [hML.out] at cM
  obtain ⟨PE, hPE⟩ : ∃ z, Hid (parE d x.d = z) := ⟨_, rfl⟩
  have hPE2 : Hid (PE = if ML ≠ [] then 14 else if d.low < x.round ∧ (x.parents.any (fun p => decide (gotRd (getC d.L p) ≠ x.round - 1))) = true then 9 else 0) := by
    show PE = _
    rw [← hPE.out]
    unfold parE oddP
    rw [hML.out]
    rfl
  rw [hPE.out]
  have cN := fun w2 (h2 : PDg w2 db cb vb C tb f ks me d tl) => needs_dag x h2
  obtain ⟨xa, xr, xra, xrs, xrc, xpa, ps, xpc⟩ := x
  have hpl : ps.length ≤ 1000000 := hpl
  have hps : Hid (∀ p ∈ ps, p.size ≤ maxLen) := hps
  have hr1 : 1 ≤ xr := hr1
  have hr2 : xr ≤ 4611686018427387903 := hr2
  have hPE2 : Hid (PE = if ML ≠ [] then 14 else if d.low < xr ∧ (ps.any (fun p => decide (gotRd (getC d.L p) ≠ xr - 1))) = true then 9 else 0) := hPE2
  have hpr1 := hA1.ps
  unfold HdrM.v at cM cN ⊢
  unfold HdrM.c at hbx hX h1 hA1 hpr1 cM
  simp only at cM cN hbx hX h1 hA1 hpr1 ⊢
  obtain ⟨w1, hw1⟩ : ∃ q, w.alloc (.cells #[.int .i64 xa, .int .i64 xr, .slice xra xrs.length xrc, .slice xpa ps.length xpc] 33) = q := ⟨_, rfl⟩
  have hw1' : w.alloc (.cells [.int .i64 xa, .int .i64 xr, .slice xra xrs.length xrc, .slice xpa ps.length xpc].toArray 33) = w1 := hw1
  rw [hw1'] at cM hbx h1 hA1 hpr1 hX
  have x0 := hX.cell (i := 0) rfl
  have x1 := hX.cell (i := 1) rfl
  have x2 := hX.cell (i := 2) rfl
  have x3 := hX.cell (i := 3) rfl
  go_enter Tryz.func52, Tryz.ntmps52
  go_wp2_with fail
  clear hw1 hw1'
  refine cM.mono ?_
  rintro e w2 ⟨v, rfl, hQ, hb2⟩
  obtain ⟨va, vc, rfl, _, _⟩ := hQ.form
  have hX2 := hX.below hb2 hX.lt
  have h2 := h1.below hb2
  have hpr2 : RowAt strK w2 xpa ps := RowAt.below hpr1 hb2
  have hB2 := hbx.trans (hb2.mono hbx.size)
  have c2 := cN w2 h2
  clear cM x0 x1 x2 x3 hX h1 hA1 hpr1 hb2 hbx hQ hA hPE cN
  have x0 := hX2.cell (i := 0) rfl
  have x1 := hX2.cell (i := 1) rfl
  have x2 := hX2.cell (i := 2) rfl
  have x3 := hX2.cell (i := 3) rfl
  rcases (by cases ML with | nil => exact Or.inl rfl | cons z r => exact Or.inr (by simp) : ML = [] ∨ ML ≠ []) with hm | hm
  · subst hm
    have hPE3 : Hid (PE = if d.low < xr ∧ (ps.any (fun p => decide (gotRd (getC d.L p) ≠ xr - 1))) = true then 9 else 0) := by show PE = _; rw [hPE2.out, if_neg (by simp)]
    clear hPE2 hML
    go_wp2_with fail
    refine (show Calls Tryz.prog 47 _ w2 _ from c2).mono ?_
    rintro e w3 ⟨rfl, hb3⟩
    have hX3 := hX2.below hb3 hX2.lt
    have h3 := h2.below hb3
    have hpr3 := hpr2.below hb3
    have hB3 := hB2.trans (hb3.mono hB2.size)
    clear c2 x0 x1 x2 x3 hX2 h2 hpr2 hB2 hb3
    have x1 := hX3.cell (i := 1) rfl
    have x3 := hX3.cell (i := 3) rfl
    by_cases hlw : d.low < xr
    · have gl : decide (d.low < xr) = true := decide_eq_true hlw
      simp only [gl]
      have hxw : IntKind.i64.wrap (xr - 1) = xr - 1 := wrap_dag (by omega) (by omega)
      go_wp2_with fail
      clear x1 x3
      go_loopw [22] (fun v22 wr => ∃ i : Nat, i ≤ ps.length ∧ v22 = .int .i64 (i : Int) ∧ Hid (∀ p ∈ ps.take i, gotRd (getC d.L p) = xr - 1) ∧ Below w3.heap.size w3 wr) (fun v _ => ps.length - (intOf v).toNat)
      case atStart => exact ⟨0, Nat.zero_le _, rfl, (fun p hp => by simp at hp), Below.refl _ _⟩
      case round =>
        obtain ⟨i, hi, rfl, hok, hb⟩ := hrel
        by_cases hil : i < ps.length
        · have g1 : (i : Int) < (ps.length : Int) := by omega
          obtain ⟨p, hpi⟩ : ∃ p, ps[i]? = some p := ⟨_, List.getElem?_eq_getElem hil⟩
          have hpm := List.mem_of_getElem? hpi
          have hr := h3.below hb
          have c4 := hr.box.cell (i := 4) rfl
          obtain ⟨b, off, rfl, hbl, y0⟩ := (hpr3.below hb).strs i hil
          rw [(List.getElem?_eq_some_iff.1 hpi).2] at y0
          have cG := ptGet_any p (hps.out p hpm) cb C _ tl _ wr hr.tab
          rw [getR_things, gotR_things] at cG
          obtain ⟨rd, hrd⟩ : ∃ z, Hid (gotRd (getC d.L p) = z) := ⟨_, rfl⟩
          rw [hrd.out] at cG
          go_wp2_with fail
          refine (show Calls Tryz.prog 48 _ wr _ from cG).mono ?_
          rintro e w4 ⟨rfl, hb4⟩
          have hb5 := hb.trans (hb4.mono hb.size)
          have hX5 := hX3.below hb5 hX3.lt
          have z1 := hX5.cell (i := 1) rfl
          clear cG y0 hb4 hb hr c4
          by_cases hod : rd = xr - 1
          · have hok' : Hid (∀ p ∈ ps.take (i + 1), gotRd (getC d.L p) = xr - 1) := fun q hq => by
              rw [List.take_add_one, hpi] at hq
              rcases List.mem_append.1 hq with hq | hq
              · exact hok.out q hq
              · simp at hq
                rw [hq, hrd.out]
                exact hod
            have gn : (rd != xr - 1) = false := by simp [hod]
            have hod' : Hid _ := hod
            clear hod hpi hok
            go_wp2
            go_roundw
            case rel => exact ⟨i + 1, by omega, by go_num, hok', hb5⟩
            case measure => simp [intOf]; omega
          · have hPF : Hid (PE = 9) := by
              show PE = 9
              rw [hPE3.out, if_pos ⟨hlw, List.any_eq_true.2 ⟨p, hpm, by rw [hrd.out]; simpa using hod⟩⟩]
            have gn : (rd != xr - 1) = true := by simp [hod]
            have hbF := hB3.trans (hb5.mono hB3.size)
            clear hpi hok
            go_wp2
            go_ret
            exact ⟨by rw [hPF.out]; rfl, hbF⟩
        · have g1 : ¬ (i : Int) < (ps.length : Int) := by omega
          have hPF : Hid (PE = 0) := by
            show PE = 0
            rw [hPE3.out, if_neg]
            rintro ⟨hl, ha⟩
            obtain ⟨p, hp', he⟩ := List.any_eq_true.1 ha
            have := hok.out p (by rw [List.take_of_length_le (by omega)]; exact hp')
            simp [this] at he
          have hbF := hB3.trans (hb.mono hB3.size)
          clear hb
          go_wp2
          go_ret
          exact ⟨by rw [hPF.out]; rfl, hbF⟩
    · have gl : decide (d.low < xr) = false := decide_eq_false hlw
      have hPF : Hid (PE = 0) := by show PE = 0; rw [hPE3.out, if_neg (fun e => hlw e.1)]
      simp only [gl]
      go_wp2
      go_ret
      exact ⟨by rw [hPF.out]; rfl, hB3⟩
  · have hPF : Hid (PE = 14) := by show PE = 14; rw [hPE2.out, if_pos hm]
    have g1 : (0 : Int) < (ML.length : Int) := by have := List.length_pos_iff.2 hm; omega
    have g1' : 0 < ML.length := List.length_pos_iff.2 hm
    clear hPE2 hML c2
    go_wp2
    go_ret
    exact ⟨by rw [hPF.out]; rfl, hB2⟩
end
end Go.Proofs.YtmjkbdgcnoenbaaGreatDoor

/- Vote, as the program does it. -/
namespace Go.Proofs.YtmjkbdgcnoenbaaGreatDoor
open Go Go.RowKit Go.Maps Go.Sort
set_option linter.unusedVariables false

/-- While a vote is looked at. -/
structure PVst (w : World) (x : HdrM) (db cb vb : Nat) (C : Nat → Prop) (tb f : Nat) (ks : List ByteArray) (me : Nat) (d : DagD) (tl : Int) (wx : World) : Prop where
  X : Arr wx w.heap.size 33 x.c
  Z : Arr wx (w.heap.size + 1) 42 [.int .i64 0, .string ⟨#[]⟩]
  g : PDg wx db cb vb C tb f ks me d tl
  b : Below w.heap.size w wx

section
variable {w w' : World} {db cb vb : Nat} {S S' C : Nat → Prop} {tb f : Nat} {ks : List ByteArray} {me : Nat} {d : DagD} {tl : Int}

theorem PVst.below {x : HdrM} {wx wy : World} (h : PVst w x db cb vb C tb f ks me d tl wx) (hb : Below wx.heap.size wx wy) : PVst w x db cb vb C tb f ks me d tl wy :=
  ⟨h.X.below hb h.X.lt, h.Z.below hb h.Z.lt, h.g.below hb, h.b.trans (hb.mono h.b.size)⟩

/-- A tag is laid at the result's place, ahead of any change. -/
theorem PVst.tag {x : HdrM} {wx : World} (h0 : PDg w db cb vb C tb f ks me d tl) (h : PVst w x db cb vb C tb f ks me d tl wx) (a : Int) (m : ByteArray) :
    Arr ((wx.setCell ⟨w.heap.size + 1, 0, none⟩ (.int .i64 a)).setCell ⟨w.heap.size + 1, 1, none⟩ (.string m)) (w.heap.size + 1) 42 [.int .i64 a, .string m] ∧ PDg ((wx.setCell ⟨w.heap.size + 1, 0, none⟩ (.int .i64 a)).setCell ⟨w.heap.size + 1, 1, none⟩ (.string m)) db cb vb C tb f ks me d tl ∧ Below w.heap.size w ((wx.setCell ⟨w.heap.size + 1, 0, none⟩ (.int .i64 a)).setCell ⟨w.heap.size + 1, 1, none⟩ (.string m)) := by
  have k2 : Kept (fun k => k = w.heap.size + 1) wx ((wx.setCell ⟨w.heap.size + 1, 0, none⟩ (.int .i64 a)).setCell ⟨w.heap.size + 1, 1, none⟩ (.string m)) := ((Kept.refl (fun k => k = w.heap.size + 1) wx).set (p := ⟨w.heap.size + 1, 0, none⟩) rfl _).set (p := ⟨w.heap.size + 1, 1, none⟩) rfl _
  refine ⟨(h.Z.set 0 (.int .i64 a)).set 1 (.string m), h.g.kept k2 (fun k hk e => ?_), h.b.trans (Kept.below k2 h.b.size (fun j e => by have e' : j = w.heap.size + 1 := e; omega))⟩
  have e' : k = w.heap.size + 1 := e
  have := h0.lt hk
  omega

/-- A vote is kept. -/
theorem PDg.voted {w9 : World} {h0 : HdrD} {id : ByteArray} (h : PDg w db cb vb C tb f ks me d tl) (hc : clashV d.V h0.author h0.round id = false) (hok : DagOk ks f { d with V := voteV d h0 id }) (hM : PMap w9 111 vb (putFP (votM d.V) ⟨h0.author, h0.round⟩ (.agg #[.string id])) (putNP (votM d.V) ⟨h0.author, h0.round⟩ d.V.length)) (hk : Kept (fun k => k = vb) w w9) : PDg w9 db cb vb C tb f ks me { d with V := voteV d h0 id } tl := by
  rw [voteV_cnt hc] at hM
  exact ⟨h.box.kept hk h.dv, h.tab.kept hk (fun k e e' => h.vc (by rw [← show k = vb from e']; exact e)), hM.congr (fun p => voteV_map hc p), h.dc, h.vc, h.dv, hok, h.link, h.tlow⟩

/-- What Vote leaves. -/
def GotPVote (w : World) (db cb vb : Nat) (C : Nat → Prop) (tb f : Nat) (ks : List ByteArray) (me : Nat) (d : DagD) (tl : Int) (x : HdrM) (e : Ending) (w' : World) : Prop :=
  e = .returned (.tuple #[.agg #[.int .i64 (voteT ks me (voteE (chkA ks f x.d) d x.d (idB x.d)) (idB x.d)).who, .string (voteT ks me (voteE (chkA ks f x.d) d x.d (idB x.d)) (idB x.d)).mac], .int .i64 (voteE (chkA ks f x.d) d x.d (idB x.d) : Int)]) ∧ PDg w' db cb vb C tb f ks me (voteD (chkA ks f x.d) d x.d (idB x.d)) tl ∧ Kept (DagS db vb C) w w'

theorem arr_off {u : World} {b b' o : Nat} {t : TypeId} {l : List Value} (h : Arr u b t l) (hne : b ≠ b') (v : Value) : Arr (u.setCell ⟨b', o, none⟩ v) b t l := h.kept (Kept.setCell u ⟨b', o, none⟩ v) (fun e => hne e)

theorem belowAl {u v : World} (h : Below u.heap.size u v) (o : Obj) : Below u.heap.size u (v.alloc o) := h.alloc h.size o

theorem belowSt {u v : World} (h : Below u.heap.size u v) (b o : Nat) (z : Value) (hb : u.heap.size ≤ b) : Below u.heap.size u (v.setCell ⟨b, o, none⟩ z) :=
  h.trans (Kept.below (Kept.setCell v ⟨b, o, none⟩ z) h.size (fun k e => by have e' : k = b := e; omega))

set_option maxRecDepth 100000 in
set_option maxHeartbeats 4000000 in
theorem vote_dag (x : HdrM) (h : PDg w db cb vb C tb f ks me d tl) (hT : TEnv w tb f ks) (hs : me < 3 * f + 1) (hA : x.At w) (hfit : x.Fit) (hlen : (encH x.d).length ≤ 1073741824) (hx : ∀ b, x.foot b → ¬ DagS db vb C b) (hv : d.V.length < 1000000) :
    Calls Tryz.prog 16 #[.pointer (some ⟨db, 0, none⟩), x.v] w fun e w' => GotPVote w db cb vb C tb f ks me d tl x e w' := by
  obtain ⟨CK, hCK⟩ : ∃ z, Hid (chkA ks f x.d = z) := ⟨_, rfl⟩
  obtain ⟨IV, hIV⟩ : ∃ z, Hid (idB x.d = z) := ⟨_, rfl⟩
  have his : Hid (IV.size = 32) := by show IV.size = 32; rw [← hIV.out]; exact idB_size _
  obtain ⟨PE, hPE⟩ : ∃ z, Hid (parE d x.d = z) := ⟨_, rfl⟩
  have hVE : Hid (voteE CK d x.d IV = if CK ≠ 0 then CK else if x.round < d.low then 11 else if PE ≠ 0 then PE else if clashV d.V x.author x.round IV = true then 15 else 0) := by
    show _ = _
    unfold voteE
    rw [hPE.out]
    rfl
  have hno : Hid (∀ (VE : Nat) (w' : World), VE ≠ 0 → voteE CK d x.d IV = VE → PDg w' db cb vb C tb f ks me d tl → Below w.heap.size w w' → GotPVote w db cb vb C tb f ks me d tl x (.returned (.tuple #[.agg #[.int .i64 0, .string ⟨#[]⟩], .int .i64 (VE : Int)])) w') := fun VE w' h1 h2 h3 h4 => by
    unfold GotPVote voteD
    rw [hCK.out, hIV.out, h2]
    refine ⟨by unfold voteT; rw [if_neg h1], by rw [if_neg h1]; exact h3, Kept.of_below h4⟩
  have hyes : Hid (∀ (w' : World), voteE CK d x.d IV = 0 → PDg w' db cb vb C tb f ks me { d with V := voteV d x.d IV } tl → Kept (DagS db vb C) w w' → GotPVote w db cb vb C tb f ks me d tl x (.returned (.tuple #[.agg #[.int .i64 (me : Int), .string (Mx.macOf (ks.getD me ⟨#[]⟩) voteW IV)], .int .i64 0])) w') := fun w' h2 h3 h4 => by
    unfold GotPVote voteD
    rw [hCK.out, hIV.out, h2]
    exact ⟨rfl, by rw [if_pos rfl]; exact h3, h4⟩
  generalize GotPVote w db cb vb C tb f ks me d tl x = GOT at hno hyes ⊢
  obtain ⟨hX, hZ, hB⟩ := two_new w 33 42 x.c [.int .i64 0, .string ⟨#[]⟩]
  have hV2 : PVst w x db cb vb C tb f ks me d tl _ := ⟨hX, hZ, h.below hB, hB⟩
  clear hX hZ
  unfold HdrM.v
  unfold HdrM.c at hV2 hB
  go_enter Tryz.func16, Tryz.ntmps16
  go_upto_region 1 with fail
  obtain ⟨w2, hw2⟩ : ∃ z, (w.alloc (.cells #[.int .i64 x.author, .int .i64 x.round, .slice x.ra x.refs.length x.rc, .slice x.pa x.parents.length x.pc] 33)).alloc (.cells #[.int .i64 0, .string ⟨#[]⟩] 42) = z := ⟨_, rfl⟩
  have hV2 : PVst w x db cb vb C tb f ks me d tl ((w.alloc (.cells #[.int .i64 x.author, .int .i64 x.round, .slice x.ra x.refs.length x.rc, .slice x.pa x.parents.length x.pc] 33)).alloc (.cells #[.int .i64 0, .string ⟨#[]⟩] 42)) := hV2
  have hB : Below w.heap.size w ((w.alloc (.cells #[.int .i64 x.author, .int .i64 x.round, .slice x.ra x.refs.length x.rc, .slice x.pa x.parents.length x.pc] 33)).alloc (.cells #[.int .i64 0, .string ⟨#[]⟩] 42)) := hB
  rw [hw2] at hV2 hB ⊢
  clear hw2
  have bl := fun d os => below_regrown w2 d os
  have hAx := hA.below hB
  have k1 : ∀ d os, Calls Tryz.prog 51 #[.pointer (some ⟨tb, 0, none⟩), .agg #[.int .i64 x.author, .int .i64 x.round, .slice x.ra x.refs.length x.rc, .slice x.pa x.parents.length x.pc]] (grow (redrawn w2 d) os) fun e w'' => e = .returned (.int .i64 (CK : Int)) ∧ ∃ p : Regrown, w'' = grow (redrawn w2 p.d) p.os := fun d os => Calls.regrown_of (by
    have hR := (hT.below hB).below (bl d os)
    have h1 := hdrCheck_any tb f ks x _ hR.T hR.f2 hR.k32 (hAx.below (bl d os)) (fun r hr => by have := hfit.acks r hr; unfold maxLen; omega) (by have := hfit.p; unfold maxLen; omega) hR.G
    rw [← hCK.out]
    exact h1)
  have p0 := cell_regrown (hV2.g.box.cell (i := 0) rfl)
  have A0 := cell_regrown (hV2.X.cell (i := 0) rfl)
  have A1 := cell_regrown (hV2.X.cell (i := 1) rfl)
  have A2 := cell_regrown (hV2.X.cell (i := 2) rfl)
  have A3 := cell_regrown (hV2.X.cell (i := 3) rfl)
  refine wp_region_quiet_below (by kernel_rfl) (by kernel_rfl) ?_
  iterate 5 (go_big_quiet_step (fail))
  go_big_quiet_step (exact k1 _ _)
  iterate 1 (go_big_quiet_step (fail))
  refine wpQuiet_nil ?_
  rintro w' ⟨p, rfl⟩
  have hV3 := hV2.below (bl p.d p.os)
  generalize grow (redrawn w2 p.d) p.os = w3 at hV3 ⊢
  clear k1 p0 A0 A1 A2 A3 bl hAx hV2 hB
  by_cases hc0 : CK = 0
  · subst hc0
    have x1 := hV3.X.cell (i := 1) rfl
    have c2 := hV3.g.box.cell (i := 2) rfl
    have hrg := chkH_range (show chkH (3 * f + 1) (2 * f + 1) (enT ks f) x.d = 0 from hCK.out)
    have hra : 0 ≤ x.author ∧ x.author < ((3 * f + 1 : Nat) : Int) := ⟨hrg.1, hrg.2.1⟩
    have hrg1 : 1 ≤ x.round := hrg.2.2.1
    have hrg2 : x.round ≤ 4611686018427387903 := hrg.2.2.2
    have hpl : x.parents.length ≤ 3 * f + 1 := (chkH_parts (show chkH (3 * f + 1) (2 * f + 1) (enT ks f) x.d = 0 from hCK.out)).2.2.2.2
    have hpz : ∀ p ∈ x.parents, p.size ≤ maxLen := fun p hp => by have := parent_size (h := x.d) (p := p) hp; unfold maxLen; omega
    have hf2 := hT.f2
    clear hrg
    go_upto_region 4 with fail
    by_cases hlo : x.round < d.low
    · have hE : voteE 0 d x.d IV = 11 := by rw [hVE.out, if_neg (by simp), if_pos hlo]
      go_quiet (fail)
      have hV4 := hV3.below (below_drewN (Below.refl _ w3) nq)
      generalize w3.drewN nq = w4 at hV4 ⊢
      clear x1 c2 hV3
      obtain ⟨hZF, hgF, hkF⟩ := hV4.tag h 0 ⟨#[]⟩
      have fin := hno.out 11 _ (by decide) hE hgF hkF
      have fin0 := hno.out 11 _ (by decide) hE hV4.g hV4.b
      have hZ0 := hV4.Z
      have z0 := hV4.Z.cell (i := 0) rfl
      have z1 := hV4.Z.cell (i := 1) rfl
      have q0 := hV4.Z.frozen 0
      have q1 := hV4.Z.frozen 1
      clear hgF hkF hno hyes
      go_wp2
      first
        | (refine bodyPost_ret (v := .tuple #[.agg #[.int .i64 0, .string ⟨#[]⟩], .int .i64 ((11 : Nat) : Int)]) (results_tag_tmp14 rfl _ _ (w.heap.size + 1) 0 ⟨#[]⟩ rfl hZ0 _ rfl) rfl ?_; exact fin0)
        | (refine bodyPost_ret (v := .tuple #[.agg #[.int .i64 0, .string ⟨#[]⟩], .int .i64 ((11 : Nat) : Int)]) (results_tag_tmp14 rfl _ _ (w.heap.size + 1) 0 ⟨#[]⟩ rfl hZF _ rfl) rfl ?_; exact fin)
    · have hlo' : Hid (¬ x.round < d.low) := hlo
      go_quiet (fail)
      have hV4 := hV3.below (below_drewN (Below.refl _ w3) nq)
      generalize w3.drewN nq = w4 at hV4 ⊢
      clear x1 c2 hV3
      have cP := par_dag x hV4.g (hA.below hV4.b) (by omega) hpz hrg1 hrg2
      rw [hPE.out] at cP
      unfold HdrM.v at cP
      have x0 := hV4.X.cell (i := 0) rfl
      have x1 := hV4.X.cell (i := 1) rfl
      have x2 := hV4.X.cell (i := 2) rfl
      have x3 := hV4.X.cell (i := 3) rfl
      go_wp2_with fail
      refine cP.mono ?_
      rintro e w5 ⟨rfl, hb5⟩
      have hV5 := hV4.below hb5
      clear cP x0 x1 x2 x3 hV4 hb5
      by_cases hp0 : PE = 0
      · subst hp0
        have hVE2 : Hid (voteE 0 d x.d IV = if clashV d.V x.author x.round IV = true then 15 else 0) := by show _ = _; rw [hVE.out, if_neg (by simp), if_neg (by have := hlo'.out; omega), if_neg (by simp)]
        clear hVE
        have hidS : Mx.bytes (Mx.sumL (encH x.d)) = IV := hIV.out
        have cI : ∀ wx, Below w5.heap.size w5 wx → Calls Tryz.prog 53 #[.agg #[.int .i64 x.author, .int .i64 x.round, .slice x.ra x.refs.length x.rc, .slice x.pa x.parents.length x.pc]] wx fun e w' => e = .returned (.string IV) ∧ Below wx.heap.size wx w' := fun wx hb => by
          have hb' := hV5.b.trans (hb.mono hV5.b.size)
          have := hdrId_any x wx (hA.below hb') hfit (by omega) (hT.below hb').G
          rw [hidS] at this
          exact this
        have hkp : ∀ wx, Below w5.heap.size w5 wx → wx.cell? ⟨w.heap.size, 0, none⟩ = some (.int .i64 x.author) ∧ wx.cell? ⟨w.heap.size, 1, none⟩ = some (.int .i64 x.round) ∧ wx.cell? ⟨w.heap.size, 2, none⟩ = some (.slice x.ra x.refs.length x.rc) ∧ wx.cell? ⟨w.heap.size, 3, none⟩ = some (.slice x.pa x.parents.length x.pc) := fun wx hb => by
          have := hV5.X.below hb hV5.X.lt
          exact ⟨this.cell (i := 0) rfl, this.cell (i := 1) rfl, this.cell (i := 2) rfl, this.cell (i := 3) rfl⟩
        clear hidS
        go_upto_region 9 with fail
        go_cut [8, 9] (fun s8 s9 wx => ∃ pb qb : Nat, s8 = .pointer (some ⟨pb, 0, none⟩) ∧ s9 = .pointer (some ⟨qb, 0, none⟩) ∧ Arr wx pb 111 [.int .i64 x.author, .int .i64 x.round] ∧ Arr wx qb 113 [.string IV] ∧ Below w5.heap.size w5 wx)
        case first =>
          have bd : Below w5.heap.size w5 w5.drew := below_drewN (Below.refl _ w5) 1
          have bA : Below w5.heap.size w5 (w5.drew.alloc (.cells #[.int .i64 0, .int .i64 0] 111)) := bd.alloc (Nat.le_refl _) _
          have bB : Below w5.heap.size w5 (w5.drew.alloc (.cells #[.string ⟨#[]⟩] 113)) := bd.alloc (Nat.le_refl _) _
          have bAB : Below w5.heap.size w5 ((w5.drew.alloc (.cells #[.int .i64 0, .int .i64 0] 111)).alloc (.cells #[.string ⟨#[]⟩] 113)) := bA.alloc bA.size _
          have bBA : Below w5.heap.size w5 ((w5.drew.alloc (.cells #[.string ⟨#[]⟩] 113)).alloc (.cells #[.int .i64 0, .int .i64 0] 111)) := bB.alloc bB.size _
          have hS0 := hkp _ bd
          have e5 : w5.drew.heap.size = w5.heap.size := rfl
          have nA : Arr (w5.drew.alloc (.cells #[.int .i64 0, .int .i64 0] 111)) w5.heap.size 111 [.int .i64 0, .int .i64 0] := Arr.new w5.drew 111 [.int .i64 0, .int .i64 0]
          have nB : Arr (w5.drew.alloc (.cells #[.string ⟨#[]⟩] 113)) w5.heap.size 113 [.string ⟨#[]⟩] := Arr.new w5.drew 113 [.string ⟨#[]⟩]
          have nABa := nA.below (belowNew _ (.cells #[.string ⟨#[]⟩] 113)) nA.lt
          have nABb : Arr ((w5.drew.alloc (.cells #[.int .i64 0, .int .i64 0] 111)).alloc (.cells #[.string ⟨#[]⟩] 113)) (w5.heap.size + 1) 113 [.string ⟨#[]⟩] := by
            have := Arr.new (w5.drew.alloc (.cells #[.int .i64 0, .int .i64 0] 111)) 113 [.string ⟨#[]⟩]
            rw [alloc_size] at this
            exact this
          have nBAb := nB.below (belowNew _ (.cells #[.int .i64 0, .int .i64 0] 111)) nB.lt
          have nBAa : Arr ((w5.drew.alloc (.cells #[.string ⟨#[]⟩] 113)).alloc (.cells #[.int .i64 0, .int .i64 0] 111)) (w5.heap.size + 1) 111 [.int .i64 0, .int .i64 0] := by
            have := Arr.new (w5.drew.alloc (.cells #[.string ⟨#[]⟩] 113)) 111 [.int .i64 0, .int .i64 0]
            rw [alloc_size] at this
            exact this
          clear e5
          clear hno hyes hVE2
          go_region_held3 (fun w' => w'.cell? ⟨w.heap.size, 0, none⟩ = some (.int .i64 x.author) ∧ w'.cell? ⟨w.heap.size, 1, none⟩ = some (.int .i64 x.round) ∧ w'.cell? ⟨w.heap.size, 2, none⟩ = some (.slice x.ra x.refs.length x.rc) ∧ w'.cell? ⟨w.heap.size, 3, none⟩ = some (.slice x.pa x.parents.length x.pc)) (exact hkp _ (by repeat' (first | assumption | apply belowAl | (apply belowSt; rotate_left; omega))))
            (first
            | (go_at_call 53; refine (cI _ bd).mono ?_; rintro e w6 ⟨rfl, hb6⟩; have k6 := bd.trans (hb6.mono bd.size); have q6 : w5.heap.size ≤ w6.heap.size := k6.size)
            | (go_at_call 53; refine (cI _ bA).mono ?_; rintro e w6 ⟨rfl, hb6⟩; have k6 := bA.trans (hb6.mono bA.size); have q6 : w5.heap.size ≤ w6.heap.size := k6.size; have rA := nA.below hb6 nA.lt; have q7 : ¬ w5.heap.size = w6.heap.size := (by have := rA.lt; omega); have q8 : ¬ w6.heap.size = w5.heap.size := (by have := rA.lt; omega); have rA2 := rA.below (belowNew w6 (.cells #[.string ⟨#[]⟩] 113)) rA.lt; have a0 := rA2.cell (i := 0) rfl; have a1 := rA2.cell (i := 1) rfl; have b0 := rA2.frozen 0; have b1 := rA2.frozen 1)
            | (go_at_call 53; refine (cI _ bB).mono ?_; rintro e w6 ⟨rfl, hb6⟩; have k6 := bB.trans (hb6.mono bB.size); have q6 : w5.heap.size ≤ w6.heap.size := k6.size; have rB := nB.below hb6 nB.lt; have q7 : ¬ w5.heap.size = w6.heap.size := (by have := rB.lt; omega); have q8 : ¬ w6.heap.size = w5.heap.size := (by have := rB.lt; omega); have rB2 := rB.below (belowNew w6 (.cells #[.int .i64 x.author, .int .i64 x.round] 111)) rB.lt; have a0 := rB2.cell (i := 0) rfl; have b0 := rB2.frozen 0)
            | (go_at_call 53; refine (cI _ bAB).mono ?_; rintro e w6 ⟨rfl, hb6⟩; have k6 := bAB.trans (hb6.mono bAB.size); have q6 : w5.heap.size ≤ w6.heap.size := k6.size; have rA := nABa.below hb6 nABa.lt; have rB := nABb.below hb6 nABb.lt; have a0 := rA.cell (i := 0) rfl; have a1 := rA.cell (i := 1) rfl; have b0 := rA.frozen 0; have b1 := rA.frozen 1; have a2 := rB.cell (i := 0) rfl; have b2 := rB.frozen 0)
            | (go_at_call 53; refine (cI _ bBA).mono ?_; rintro e w6 ⟨rfl, hb6⟩; have k6 := bBA.trans (hb6.mono bBA.size); have q6 : w5.heap.size ≤ w6.heap.size := k6.size; have rA := nBAa.below hb6 nBAa.lt; have rB := nBAb.below hb6 nBAb.lt; have a0 := rA.cell (i := 0) rfl; have a1 := rA.cell (i := 1) rfl; have b0 := rA.frozen 0; have b1 := rA.frozen 1; have a2 := rB.cell (i := 0) rfl; have b2 := rB.frozen 0))
          · have n1 := Arr.new w6 111 [.int .i64 x.author, .int .i64 x.round]
            have n2 := n1.below (belowNew _ (.cells #[.string IV] 113)) n1.lt
            have n3 := Arr.new (w6.alloc (.cells #[.int .i64 x.author, .int .i64 x.round] 111)) 113 [.string IV]
            rw [alloc_size] at n3
            have n4 := belowAl (belowAl k6 (.cells #[.int .i64 x.author, .int .i64 x.round] 111)) (.cells #[.string IV] 113)
            go_wp2_with fail
            go_meet
            case rel => exact ⟨_, _, rfl, rfl, n2, n3, n4⟩
          · have n1 := Arr.new w6 113 [.string IV]
            have n2 := n1.below (belowNew _ (.cells #[.int .i64 x.author, .int .i64 x.round] 111)) n1.lt
            have n3 := Arr.new (w6.alloc (.cells #[.string IV] 113)) 111 [.int .i64 x.author, .int .i64 x.round]
            rw [alloc_size] at n3
            have n4 := belowAl (belowAl k6 (.cells #[.string IV] 113)) (.cells #[.int .i64 x.author, .int .i64 x.round] 111)
            go_wp2_with fail
            go_meet
            case rel => exact ⟨_, _, rfl, rfl, n3, n2, n4⟩
          · have n1 := Arr.new w6 113 [.string ⟨#[]⟩]
            have n4 := belowSt (belowSt (belowSt (belowAl k6 (.cells #[.string ⟨#[]⟩] 113)) w5.heap.size 0 (.int .i64 x.author) (Nat.le_refl _)) w5.heap.size 1 (.int .i64 x.round) (Nat.le_refl _)) w6.heap.size 0 (.string IV) q6
            go_wp2_with fail
            go_meet
            case rel => exact ⟨_, _, rfl, rfl, arr_off ((rA2.set 0 _).set 1 _) q7 _, (arr_off (arr_off n1 q8 _) q8 _).set 0 _, n4⟩
          · have n4 := belowSt (belowSt (belowSt k6 w5.heap.size 0 (.int .i64 x.author) (Nat.le_refl _)) w5.heap.size 1 (.int .i64 x.round) (Nat.le_refl _)) (w5.heap.size + 1) 0 (.string IV) (Nat.le_succ _)
            go_wp2_with fail
            go_meet
            case rel => exact ⟨_, _, rfl, rfl, arr_off ((rA.set 0 _).set 1 _) (by omega) _, (arr_off (arr_off rB (by omega) _) (by omega) _).set 0 _, n4⟩
          · have n1 := Arr.new w6 111 [.int .i64 x.author, .int .i64 x.round]
            have n4 := belowSt (belowAl k6 (.cells #[.int .i64 x.author, .int .i64 x.round] 111)) w5.heap.size 0 (.string IV) (Nat.le_refl _)
            go_wp2_with fail
            go_meet
            case rel => exact ⟨_, _, rfl, rfl, arr_off n1 q8 _, rB2.set 0 _, n4⟩
          · have n4 := belowSt (belowSt (belowSt k6 (w5.heap.size + 1) 0 (.int .i64 x.author) (Nat.le_succ _)) (w5.heap.size + 1) 1 (.int .i64 x.round) (Nat.le_succ _)) w5.heap.size 0 (.string IV) (Nat.le_refl _)
            go_wp2_with fail
            go_meet
            case rel => exact ⟨_, _, rfl, rfl, arr_off ((rA.set 0 _).set 1 _) (by omega) _, (arr_off (arr_off rB (by omega) _) (by omega) _).set 0 _, n4⟩
        case rest =>
          obtain ⟨pb, qb, rfl, rfl, hPb, hQb, hbc⟩ := hcut
          clear cI hkp
          generalize wc = w7 at *
          have hVc := hV5.below hbc
          have hTc := hT.below hVc.b
          clear hV5 hbc
          have wa : (Lit.int .i64 x.author).wf = true := int_wf (by omega) (by omega)
          have wr : (Lit.int .i64 x.round).wf = true := int_wf (by omega) (by omega)
          have hwf : PlaceD.Wf ⟨x.author, x.round⟩ := ⟨wa, wr⟩
          clear wa wr
          have c5 := hVc.g.box.cell (i := 5) rfl
          have s0 := hPb.cell (i := 0) rfl
          have s1 := hPb.cell (i := 1) rfl
          have lb1 := hPb.lt
          have lb2 := hQb.lt
          have lb3 := hVc.g.box.lt
          have hz : ∀ wx, (zeroValue 113).run Tryz.prog wx = .ok (.agg #[.string ⟨#[]⟩]) wx := fun wx => Tryz.zeroValue113 wx
          obtain ⟨o, bo, ho1, ho2, ho3⟩ := votM_told h.ok.vkey x.author x.round IV
          have hmd : PMap w7.drew 111 vb (votM d.V) d.V.length := hVc.g.map.below (below_drewN (Below.refl w7.heap.size w7) 1)
          have hma : PMap (w7.alloc (.cells #[.string ⟨#[]⟩] 113)).drew 111 vb (votM d.V) d.V.length := (hVc.g.map.below (belowNew w7 (.cells #[.string ⟨#[]⟩] 113))).below (below_drewN (Below.refl _ _) 1)
          have l1 := PMap.looks slotKey hmd Tryz.underlying98 (hz _) hwf
          have l2 := PMap.looks slotKey hma Tryz.underlying98 (hz _) hwf
          rw [ho1, ho2] at l1 l2
          unfold PlaceD.v at l1 l2
          simp only at l1 l2
          have ho3 : Hid _ := ho3
          clear ho1 ho2 hmd hma
          go_upto_region 10 with fail
          go_cut [10, 11] (fun s10 s11 wx => ∃ ob : Nat, s10 = .pointer (some ⟨ob, 0, none⟩) ∧ s11 = .bool bo ∧ Arr wx ob 113 [.string o] ∧ Below w7.heap.size w7 wx)
          case first =>
            have n4 : Below w7.heap.size w7 (w7.alloc (.cells #[.string o] 113)).drew := (belowNew w7 (.cells #[.string o] 113)).drew
            have n3 : Arr (w7.alloc (.cells #[.string o] 113)).drew w7.heap.size 113 [.string o] := Arr.new w7 113 [.string o]
            clear hno hyes hVE2
            go_region
            all_goals go_wp2_with fail
            all_goals go_meet
            all_goals exact ⟨_, rfl, rfl, n3, n4⟩
          case rest =>
            obtain ⟨ob, rfl, rfl, hOb, hbo⟩ := hcut
            generalize wc = w8 at *
            have hV8 := hVc.below hbo
            have hT8 := hTc.below hbo
            have hP8 := hPb.below hbo hPb.lt
            have hQ8 := hQb.below hbo hQb.lt
            have o0 := hOb.cell (i := 0) rfl
            have t0 := hQ8.cell (i := 0) rfl
            clear hVc hTc hPb hQb hbo c5 s0 s1 lb1 lb2 lb3 l1 l2 hz
            cases hcl : clashV d.V x.author x.round IV with
            | true =>
              have h3 := ho3.out
              rw [hcl, Bool.and_eq_true] at h3
              obtain ⟨rfl, hne⟩ := h3
              have hE : voteE 0 d x.d IV = 15 := by rw [hVE2.out, if_pos hcl]
              have hne' : (o.toList == IV.toList) = false := by simpa [bne] using hne
              obtain ⟨hZF, hgF, hkF⟩ := hV8.tag h 0 ⟨#[]⟩
              have fin := hno.out 15 _ (by decide) hE hgF hkF
              have fin0 := hno.out 15 _ (by decide) hE hV8.g hV8.b
              have hZ0 := hV8.Z
              have z0 := hV8.Z.cell (i := 0) rfl
              have z1 := hV8.Z.cell (i := 1) rfl
              have q0 := hV8.Z.frozen 0
              have q1 := hV8.Z.frozen 1
              clear hgF hkF hno hyes hVE2 ho3
              go_wp2
              first
                | (refine bodyPost_ret (v := .tuple #[.agg #[.int .i64 0, .string ⟨#[]⟩], .int .i64 ((15 : Nat) : Int)]) (results_tag_tmp14 rfl _ _ (w.heap.size + 1) 0 ⟨#[]⟩ rfl hZF _ rfl) rfl ?_; exact fin)
                | (refine bodyPost_ret (v := .tuple #[.agg #[.int .i64 0, .string ⟨#[]⟩], .int .i64 ((15 : Nat) : Int)]) (results_tag_tmp14 rfl _ _ (w.heap.size + 1) 0 ⟨#[]⟩ rfl hZ0 _ rfl) rfl ?_; exact fin0)
            | false =>
              have h3 := ho3.out
              rw [hcl] at h3
              have hE : voteE 0 d x.d IV = 0 := by rw [hVE2.out, if_neg (by rw [hcl]; decide)]
              have hE' : Hid _ := hE
              have hcl' : Hid _ := hcl
              clear hVE2 ho3 hno hE hcl
              go_upto_region 11 with fail
              go_cut [59] (fun s59 wx => s59 = .bool false ∧ wx = w8)
              case first =>
                clear hyes
                cases bo with
                | false =>
                  go_wp2_with fail
                  go_meet
                  case rel => exact ⟨rfl, rfl⟩
                | true =>
                  have hne' : (o.toList == IV.toList) = true := by simpa [bne] using h3
                  have hne2 : (o.toList != IV.toList) = false := by simpa using h3
                  go_wp2_with fail
                  go_meet
                  case rel => exact ⟨rfl, rfl⟩
              case rest =>
                obtain ⟨rfl, rfl⟩ := hcut
                generalize wc = w8 at *
                have c5 := hV8.g.box.cell (i := 5) rfl
                have s0 := hP8.cell (i := 0) rfl
                have s1 := hP8.cell (i := 1) rfl
                have b8 : Below w8.heap.size w8 w8.drew := below_drewN (Below.refl w8.heap.size w8) 1
                have hV9 := hV8.below b8
                have hT9 := hT8.below b8
                have hQ9 := hQ8.below b8 hQ8.lt
                have hdv : d.V.length < maxLen := by unfold maxLen; omega
                obtain ⟨w9, hrun, hM9, hk9⟩ := PMap.update slotKey hV9.g.map hdv Tryz.underlying98 hwf (.agg #[.string IV])
                unfold PlaceD.v at hrun
                simp only at hrun
                have hok9 : DagOk ks f { d with V := voteV d x.d IV } := by
                  have h9 := h.ok.vote x.d
                  rw [show chkH (3 * f + 1) (2 * f + 1) (enT ks f) x.d = 0 from hCK.out, hIV.out] at h9
                  unfold voteD at h9
                  rw [if_pos hE'.out] at h9
                  exact h9
                have hg9 := PDg.voted (h0 := x.d) hV9.g hcl'.out hok9 hM9 hk9
                have hTk := hT9.keptMap hV9.g.map hk9
                have k9 : Kept (DagS db vb C) w w9 := (Kept.of_below hV9.b).trans (hk9.mono (fun k _ e => Or.inr (Or.inl e)))
                have p0 := hg9.box.cell (i := 0) rfl
                have p1 := hg9.box.cell (i := 1) rfl
                have t9 := hV9.g.map.cells hk9 (hQ9.cell (i := 0) rfl)
                have hz8 := hV8.Z.lt
                have hzne : w.heap.size + 1 ≠ vb := fun e => by have := h.map.lt; omega
                have hZ9 := (hV8.Z.below b8 hV8.Z.lt).kept hk9 (fun e => hzne e)
                obtain ⟨mac, hmac⟩ : ∃ z, Hid (Mx.macOf (ks.getD me ⟨#[]⟩) voteW IV = z) := ⟨_, rfl⟩
                have cS : ∀ wx, Below w9.heap.size w9 wx → Calls Tryz.prog 54 #[.pointer (some ⟨tb, 0, none⟩), .int .i64 (me : Int), .string ⟨#[118, 111, 116, 101]⟩, .string IV] wx fun e w' => e = .returned (.tuple #[.agg #[.int .i64 (me : Int), .string mac], .int .i64 0]) ∧ Below wx.heap.size wx w' := fun wx hb => by
                  have hTx := hTk.below hb
                  have h9 := Mx.sign_any tb f ks (me : Int) voteW IV wx hTx.T hTx.k32 (by decide) (by rw [his.out]; decide) hTx.G
                  have e9 : Mx.signR ks (me : Int) voteW IV = ((me : Int), mac, 0) := by
                    unfold Mx.signR
                    rw [if_neg (by have := hTx.kl; omega), Int.toNat_natCast, hmac.out]
                  rw [e9] at h9
                  exact h9
                have hfin : Hid (∀ w10, Below w9.heap.size w9 w10 → Arr ((w10.setCell ⟨w.heap.size + 1, 0, none⟩ (.int .i64 (me : Int))).setCell ⟨w.heap.size + 1, 1, none⟩ (.string mac)) (w.heap.size + 1) 42 [.int .i64 (me : Int), .string mac] ∧ GOT (.returned (.tuple #[.agg #[.int .i64 (me : Int), .string mac], .int .i64 0])) ((w10.setCell ⟨w.heap.size + 1, 0, none⟩ (.int .i64 (me : Int))).setCell ⟨w.heap.size + 1, 1, none⟩ (.string mac))) := fun w10 hb => by
                  have k2 : Kept (fun k => k = w.heap.size + 1) w10 ((w10.setCell ⟨w.heap.size + 1, 0, none⟩ (.int .i64 (me : Int))).setCell ⟨w.heap.size + 1, 1, none⟩ (.string mac)) := ((Kept.refl (fun k => k = w.heap.size + 1) w10).set (p := ⟨w.heap.size + 1, 0, none⟩) rfl _).set (p := ⟨w.heap.size + 1, 1, none⟩) rfl _
                  have hZ10 := hZ9.below hb hZ9.lt
                  refine ⟨(hZ10.set 0 _).set 1 _, ?_⟩
                  have h9 := hyes.out _ hE'.out ((hg9.below hb).kept k2 (fun k hk e => by have := h.lt hk; have e' : k = w.heap.size + 1 := e; omega)) ((k9.trans (Kept.of_below hb)).transOr k2 (fun j e => Or.inr (by have e' : j = w.heap.size + 1 := e; omega)))
                  rw [hmac.out] at h9
                  exact h9
                clear hyes hok9 hg9 hTk k9 hM9 hk9 hV9 hT9 hQ9 hV8 hT8 hP8 hQ8 hOb
                go_upto_region 13 with fail
                go_region
                clear c5 s0 s1 o0 t0 hrun
                have bd9 : Below w9.heap.size w9 w9.drew := below_drewN (Below.refl w9.heap.size w9) 1
                go_upto_region 14 with fail
                go_region_with (go_at_call 54; refine (cS _ bd9).mono ?_; rintro e w10 ⟨rfl, hb10⟩; have hb11 := bd9.trans (hb10.mono bd9.size); have hZ10 := hZ9.below hb11 hZ9.lt; have z0 := hZ10.cell (i := 0) rfl; have z1 := hZ10.cell (i := 1) rfl; have q0 := hZ10.frozen 0; have q1 := hZ10.frozen 1)
                all_goals
                  obtain ⟨hZF, fin⟩ := hfin.out w10 hb11
                  clear hfin cS
                  try go_wp2
                  refine bodyPost_ret (v := .tuple #[.agg #[.int .i64 (me : Int), .string mac], .int .i64 0]) (results_tag_tmp14 rfl _ _ (w.heap.size + 1) (me : Int) mac rfl hZF _ rfl) rfl ?_
                  exact fin
      · have hne : ((PE : Int) != 0) = true := by rw [bne_iff_ne]; omega
        have hE : voteE 0 d x.d IV = PE := by rw [hVE.out, if_neg (by simp), if_neg (by have := hlo'.out; omega), if_pos hp0]
        obtain ⟨hZF, hgF, hkF⟩ := hV5.tag h 0 ⟨#[]⟩
        have fin := hno.out PE _ hp0 hE hgF hkF
        have fin0 := hno.out PE _ hp0 hE hV5.g hV5.b
        have hZ0 := hV5.Z
        have z0 := hV5.Z.cell (i := 0) rfl
        have z1 := hV5.Z.cell (i := 1) rfl
        have q0 := hV5.Z.frozen 0
        have q1 := hV5.Z.frozen 1
        clear hgF hkF hno hyes hVE
        go_wp2
        first
          | (refine bodyPost_ret (v := .tuple #[.agg #[.int .i64 0, .string ⟨#[]⟩], .int .i64 ((PE : Nat) : Int)]) (results_tag_tmp14 rfl _ _ (w.heap.size + 1) 0 ⟨#[]⟩ rfl hZ0 _ rfl) rfl ?_; exact fin0)
          | (refine bodyPost_ret (v := .tuple #[.agg #[.int .i64 0, .string ⟨#[]⟩], .int .i64 ((PE : Nat) : Int)]) (results_tag_tmp14 rfl _ _ (w.heap.size + 1) 0 ⟨#[]⟩ rfl hZF _ rfl) rfl ?_; exact fin)
  · have hne : ((CK : Int) != 0) = true := by rw [bne_iff_ne]; omega
    have hE : voteE CK d x.d IV = CK := by rw [hVE.out, if_pos hc0]
    obtain ⟨hZF, hgF, hkF⟩ := hV3.tag h 0 ⟨#[]⟩
    have fin := hno.out CK _ hc0 hE hgF hkF
    have fin0 := hno.out CK _ hc0 hE hV3.g hV3.b
    have hZ0 := hV3.Z
    have z0 := hV3.Z.cell (i := 0) rfl
    have z1 := hV3.Z.cell (i := 1) rfl
    have q0 := hV3.Z.frozen 0
    have q1 := hV3.Z.frozen 1
    clear hgF hkF hno hyes hVE
    go_wp2
    first
      | (refine bodyPost_ret (v := .tuple #[.agg #[.int .i64 0, .string ⟨#[]⟩], .int .i64 ((CK : Nat) : Int)]) (results_tag_tmp14 rfl _ _ (w.heap.size + 1) 0 ⟨#[]⟩ rfl hZ0 _ rfl) rfl ?_; exact fin0)
      | (refine bodyPost_ret (v := .tuple #[.agg #[.int .i64 0, .string ⟨#[]⟩], .int .i64 ((CK : Nat) : Int)]) (results_tag_tmp14 rfl _ _ (w.heap.size + 1) 0 ⟨#[]⟩ rfl hZF _ rfl) rfl ?_; exact fin)
end
end Go.Proofs.YtmjkbdgcnoenbaaGreatDoor

/- Is there one of an author in a round? (slices.ContainsFunc over a closure.) -/
namespace Go.Proofs.YtmjkbdgcnoenbaaGreatDoor
open Go Go.RowKit Go.Maps Go.Sort
set_option linter.unusedVariables false

section
variable {w w' : World} {db cb vb : Nat} {S S' C : Nat → Prop} {tb f : Nat} {ks : List ByteArray} {me : Nat} {d : DagD} {tl : Int}

/-- The author of what is told by an id. -/
def authC (L : List RowC) (id : ByteArray) : Int := (certOf L id).header.author

set_option maxRecDepth 100000 in
set_option maxHeartbeats 1000000 in
theorem has1_dag (id : ByteArray) (hid : id.size ≤ maxLen) (pb ab : Nat) (au : Int) (h : PDg w db cb vb C tb f ks me d tl) (hk : ks.length = 3 * f + 1) (hf2 : f ≤ 2) (hp : w.cell? ⟨pb, 0, none⟩ = some (.pointer (some ⟨db, 0, none⟩))) (ha : w.cell? ⟨ab, 0, none⟩ = some (.int .i64 au)) (hl1 : pb < w.heap.size) (hl2 : ab < w.heap.size) :
    Calls Tryz.prog 88 #[.string id, .pointer (some ⟨pb, 0, none⟩), .pointer (some ⟨ab, 0, none⟩)] w fun e w' => e = .returned (.bool (authC d.L id == au)) ∧ Below w.heap.size w w' := by
  have cG := get_dag id hid h hk hf2
  obtain ⟨az, haz⟩ : ∃ z, Hid (authC d.L id = z) := ⟨_, rfl⟩
  rw [haz.out]
  go_enter Tryz.func88, Tryz.ntmps88
  go_wp2_with fail
  refine cG.mono ?_
  rintro e w1 ⟨c, rfl, hcd, hcA, hcf, hb⟩
  have hca : c.hdr.author = az := by
    rw [← haz.out]
    unfold authC
    rw [← hcd]
    rfl
  obtain ⟨⟨ca, cr, cra, crs, crc, cpa, cps, cpc⟩, va, vs, vc⟩ := c
  have hca : ca = az := hca
  subst hca
  have hN := Arr.new w1 48 [.int .i64 ca, .int .i64 cr, .slice cra crs.length crc, .slice cpa cps.length cpc, .slice va vs.length vc]
  have hbn := belowNew w1 (.cells #[.int .i64 ca, .int .i64 cr, .slice cra crs.length crc, .slice cpa cps.length cpc, .slice va vs.length vc] 48)
  have hB := hb.trans (hbn.mono hb.size)
  have n0 := hN.cell (i := 0) rfl
  have h2 : (w1.alloc (.cells #[.int .i64 ca, .int .i64 cr, .slice cra crs.length crc, .slice cpa cps.length cpc, .slice va vs.length vc] 48)).cell? ⟨ab, 0, none⟩ = some (.int .i64 au) := by
    rw [hB.cell (p := ⟨ab, 0, none⟩) hl2]
    exact ha
  unfold CertM.v
  clear hcd hcA hcf hN hbn hb haz cG
  go_wp2
  go_ret
  exact ⟨rfl, hB⟩

set_option maxRecDepth 100000 in
set_option maxHeartbeats 1000000 in
theorem index_dag (ao : Option Addr) (cap : Nat) (l : List ByteArray) (hl : l.length ≤ 1000000) (hz : ∀ id ∈ l, id.size ≤ maxLen) (hR : RowAt textK w ao l) (pb ab : Nat) (au : Int) (h : PDg w db cb vb C tb f ks me d tl) (hk : ks.length = 3 * f + 1) (hf2 : f ≤ 2) (hp : w.cell? ⟨pb, 0, none⟩ = some (.pointer (some ⟨db, 0, none⟩))) (ha : w.cell? ⟨ab, 0, none⟩ = some (.int .i64 au)) (hl1 : pb < w.heap.size) (hl2 : ab < w.heap.size) :
    Calls Tryz.prog 118 #[.slice ao l.length cap, .func (.func 88) #[] #[.pointer (some ⟨pb, 0, none⟩), .pointer (some ⟨ab, 0, none⟩)]] w fun e w' => ∃ i : Int, e = .returned (.int .i64 i) ∧ decide (0 ≤ i) = l.any (fun id => authC d.L id == au) ∧ Below w.heap.size w w' := by
  have hz : Hid (∀ id ∈ l, id.size ≤ maxLen) := hz
  go_enter Tryz.func118, Tryz.ntmps118
  go_wp2_with fail
  go_loopw [8] (fun v8 wr => ∃ i : Nat, i ≤ l.length ∧ v8 = .int .i64 (i : Int) ∧ Hid (∀ id ∈ l.take i, (authC d.L id == au) = false) ∧ Below w.heap.size w wr) (fun v _ => l.length - (intOf v).toNat)
  case atStart => exact ⟨0, Nat.zero_le _, rfl, (fun id hi => by simp at hi), Below.refl _ _⟩
  case round =>
    obtain ⟨i, hi, rfl, hno, hb⟩ := hrel
    by_cases hil : i < l.length
    · have g1 : (i : Int) < (l.length : Int) := by omega
      obtain ⟨id, hx⟩ : ∃ p, l[i]? = some p := ⟨_, List.getElem?_eq_getElem hil⟩
      have hm := List.mem_of_getElem? hx
      obtain ⟨b, off, rfl, hbl, hcell⟩ := (hR.below hb).cell i id hx
      have y0 : wr.cell? ⟨b, off + i, none⟩ = some (.string id) := by
        have := hcell 0 (.string id) rfl
        have e : off + i * textK.n + 0 = off + i := by show off + i * 1 + 0 = _; omega
        rw [e] at this
        exact this
      have c1 := has1_dag id (hz.out id hm) pb ab au (h.below hb) hk hf2 (by rw [hb.cell (p := ⟨pb, 0, none⟩) hl1]; exact hp) (by rw [hb.cell (p := ⟨ab, 0, none⟩) hl2]; exact ha) (Nat.lt_of_lt_of_le hl1 hb.size) (Nat.lt_of_lt_of_le hl2 hb.size)
      clear hcell hp ha hR
      cases he : (authC d.L id == au) with
      | true =>
        rw [he] at c1
        have hany : Hid (l.any (fun id => authC d.L id == au) = true) := List.any_eq_true.2 ⟨id, hm, he⟩
        have he' : Hid _ := he
        clear he hno
        go_wp2_with (go_at_call 88; refine c1.mono ?_; rintro e w2 ⟨rfl, hb2⟩)
        go_ret
        exact ⟨_, rfl, by rw [hany.out]; simp, hb.trans (hb2.mono hb.size)⟩
      | false =>
        rw [he] at c1
        have hno' : Hid (∀ id ∈ l.take (i + 1), (authC d.L id == au) = false) := fun q hq => by
          rw [List.take_add_one, hx] at hq
          rcases List.mem_append.1 hq with hq | hq
          · exact hno.out q hq
          · simp at hq
            rw [hq]
            exact he
        have he' : Hid _ := he
        clear he hno
        go_wp2_with (go_at_call 88; refine c1.mono ?_; rintro e w2 ⟨rfl, hb2⟩; have hb3 := hb.trans (hb2.mono hb.size))
        go_roundw
        case rel => exact ⟨i + 1, by omega, by go_num, hno', hb3⟩
        case measure => simp [intOf]; omega
    · have g1 : ¬ (i : Int) < (l.length : Int) := by omega
      have hany : Hid (l.any (fun id => authC d.L id == au) = false) := by
        show _ = _
        rw [List.any_eq_false]
        intro q hq
        rw [hno.out q (by rw [List.take_of_length_le (by omega)]; exact hq)]
        decide
      clear hno
      go_wp2
      go_ret
      exact ⟨-1, rfl, by rw [hany.out]; rfl, hb⟩

set_option maxRecDepth 100000 in
theorem contains_dag (ao : Option Addr) (cap : Nat) (l : List ByteArray) (hl : l.length ≤ 1000000) (hz : ∀ id ∈ l, id.size ≤ maxLen) (hR : RowAt textK w ao l) (pb ab : Nat) (au : Int) (h : PDg w db cb vb C tb f ks me d tl) (hk : ks.length = 3 * f + 1) (hf2 : f ≤ 2) (hp : w.cell? ⟨pb, 0, none⟩ = some (.pointer (some ⟨db, 0, none⟩))) (ha : w.cell? ⟨ab, 0, none⟩ = some (.int .i64 au)) (hl1 : pb < w.heap.size) (hl2 : ab < w.heap.size) :
    Calls Tryz.prog 87 #[.slice ao l.length cap, .func (.func 88) #[] #[.pointer (some ⟨pb, 0, none⟩), .pointer (some ⟨ab, 0, none⟩)]] w fun e w' => e = .returned (.bool (l.any (fun id => authC d.L id == au))) ∧ Below w.heap.size w w' := by
  have cI := index_dag ao cap l hl hz hR pb ab au h hk hf2 hp ha hl1 hl2
  generalize l.any (fun id => authC d.L id == au) = A at *
  go_enter Tryz.func87, Tryz.ntmps87
  go_wp2_with fail
  refine cI.mono ?_
  rintro e w1 ⟨i, rfl, hA, hb⟩
  have hA' : Hid _ := hA
  clear hA cI
  go_wp2
  go_ret
  exact ⟨by rw [← hA'.out]; rfl, hb⟩

theorem sameP_ids {ks : List ByteArray} {f : Nat} {d : DagD} (h : DagOk ks f d) (a r : Int) (x : HdrD) (hxa : x.author = a) (hxr : x.round = r) : (idsC d.L r).any (fun id => authC d.L id == a) = sameP d.L x := by
  rw [Bool.eq_iff_iff, List.any_eq_true]
  unfold sameP
  rw [List.any_eq_true]
  constructor
  · rintro ⟨id, hid, he⟩
    obtain ⟨y, hy, rfl⟩ := List.mem_map.1 hid
    obtain ⟨h1, h2⟩ := List.mem_filter.1 hy
    refine ⟨y, h1, ?_⟩
    have e1 : authC d.L y.id = y.c.header.author := by
      unfold authC certOf
      rw [h.rise.get h1]
    rw [e1] at he
    rw [Bool.and_eq_true]
    exact ⟨by rw [hxa]; exact he, by rw [hxr]; exact h2⟩
  · rintro ⟨y, hy, he⟩
    rw [Bool.and_eq_true] at he
    refine ⟨y.id, List.mem_map.2 ⟨y, List.mem_filter.2 ⟨hy, by rw [← hxr]; exact he.2⟩, rfl⟩, ?_⟩
    have e1 : authC d.L y.id = y.c.header.author := by
      unfold authC certOf
      rw [h.rise.get hy]
    rw [e1, ← hxa]
    exact he.1

set_option maxRecDepth 100000 in
theorem has_dag (x : HdrD) (au ro : Int) (hxa : x.author = au) (hxr : x.round = ro) (h : PDg w db cb vb C tb f ks me d tl) (hk : ks.length = 3 * f + 1) (hf2 : f ≤ 2) :
    Calls Tryz.prog 58 #[.pointer (some ⟨db, 0, none⟩), .int .i64 au, .int .i64 ro] w fun e w' => e = .returned (.bool (sameP d.L x)) ∧ Below w.heap.size w w' := by
  obtain ⟨hX, hZ, hB⟩ := two_new w 23 3 [.pointer (some ⟨db, 0, none⟩)] [.int .i64 au]
  have hP := h.below hB
  have hsz : ((w.alloc (.cells [Value.pointer (some ⟨db, 0, none⟩)].toArray 23)).alloc (.cells [Value.int .i64 au].toArray 3)).heap.size = w.heap.size + 2 := by rw [alloc_size, alloc_size]
  have x0 := hX.cell (i := 0) rfl
  have z0 := hZ.cell (i := 0) rfl
  have lx := hX.lt
  have lz := hZ.lt
  have c4 := hP.box.cell (i := 4) rfl
  have cI := ptIds_any ro cb C _ tl _ _ hP.tab
  rw [idsL_things] at cI
  have hs := sameP_ids h.ok au ro x hxa hxr
  have hi32 : ∀ id ∈ idsC d.L ro, id.size ≤ maxLen := fun id hi => by
    obtain ⟨y, hy, rfl⟩ := List.mem_map.1 hi
    rw [h.ok.id y (List.mem_filter.1 hy).1, idB_size]
    decide
  have hil : (idsC d.L ro).length ≤ 1000000 := by have := idsC_le d.L ro; have := h.ok.few; omega
  rw [← hs]
  generalize idsC d.L ro = I at *
  clear hs hsz
  have hmf : ∀ (fn : Fn) (first cap : Array Value) (w : World), (Instr.makeFunc fn first cap).run Tryz.prog w = .ok (.func fn first cap) w := fun _ _ _ _ => rfl
  go_enter Tryz.func58, Tryz.ntmps58
  go_wp2_with fail
  refine cI.mono ?_
  rintro e w2 ⟨v, rfl, hQ, hb2⟩
  obtain ⟨ao, cap, rfl, _, hRow⟩ := hQ.form
  have hX2 := hX.below hb2 hX.lt
  have hZ2 := hZ.below hb2 hZ.lt
  have cC := contains_dag ao cap I hil hi32 hRow w.heap.size (w.heap.size + 1) au (hP.below hb2) hk hf2 (hX2.cell (i := 0) rfl) (hZ2.cell (i := 0) rfl) hX2.lt hZ2.lt
  have hBf := hB.trans (hb2.mono hB.size)
  obtain ⟨A, hA⟩ : ∃ z, Hid (I.any (fun id => authC d.L id == au) = z) := ⟨_, rfl⟩
  rw [hA.out] at cC
  clear x0 z0 lx lz c4 cI hX hZ hX2 hZ2 hQ hRow
  go_wp2_with fail
  refine cC.mono ?_
  rintro e w3 ⟨rfl, hb3⟩
  clear cC
  go_wp2
  go_ret
  exact ⟨by rw [hA.out]; rfl, hBf.trans (hb3.mono hBf.size)⟩
end
end Go.Proofs.YtmjkbdgcnoenbaaGreatDoor
