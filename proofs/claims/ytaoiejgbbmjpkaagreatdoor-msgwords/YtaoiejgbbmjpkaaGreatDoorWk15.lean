/- Texts as one: KindsStep, HdrOwn, KindsCopy, CertOwn, BlkOwn, MsgOwn. -/
import Derived.Test.YtaoiejgbbmjpkaaGreatDoorWk03
import Derived.Test.YtaoiejgbbmjpkaaGreatDoorWk14
import Derived.Test.YtaoiejgbbmjpkaaGreatDoorWk06
import Derived.Deep.RegionHeld3
/- append(q, xs...) of a row's elements, at a step of a region that draws its order. -/
namespace Go.Proofs.YtaoiejgbbmjpkaaGreatDoor
open Go.RowKit
set_option linter.unusedVariables false

section
variable {α : Type} {K : Kind α}

/-- The same, as an equation of the run. -/
theorem run_copy {P : Program} (w : World) (t ty : TypeId) (base : Nat) (e : TypeId) (i : TypeInfo) (z : Value) (bytes : Nat) (ht : P.underlying t = some (.slice e)) (hi : P.info? e = some i) (hz : i.zero = some z)
    (hsize : i.size = K.n) (hby : i.bytes = bytes) (hzs : z.cells.size = K.n)
    (v : Value) (hown : w.ownsRow base e K.n v 0 []) (ao : Option Addr) (cap : Nat) (l : List α)
    (hS : RowAt K w ao l) (hf : ∀ x ∈ l, ∀ b, K.foot x b → b < base) (hnil : ao = none → cap = 0) (hm : l.length ≤ maxLen) (hlen : l.length * bytes ≤ 140737488355328) (hbase : base ≤ w.heap.size) :
    ∃ ao' cap' w', (Builtin.append_ #[t, t] ty #[v, .slice ao l.length cap]).run P w = .ok (.slice ao' l.length cap') w' ∧ RowAt K w' ao' l ∧ (ao' = none → cap' = 0) ∧ (l ≠ [] → ∀ b off, ao' = some ⟨b, off, none⟩ → base ≤ b) ∧ Below base w w' := by
  cases ao with
  | none =>
    have hc0 := hnil rfl
    subst hc0
    have hss : l = [] := by
      cases l with
      | nil => rfl
      | cons y r => obtain ⟨_, _, e, _⟩ := hS.cell 0 y rfl; cases e
    subst hss
    have hrun := run_append_owned_none (P := P) (w := w) base t ty e i K.n ht hi v 0 [] hown
    rcases hown.2 with ⟨hv, _⟩ | ⟨g, c, cur, hv, _⟩
    · rw [hv] at hrun ⊢
      exact ⟨none, 0, w, hrun, nil_row _ _, fun _ => rfl, fun hne => absurd rfl hne, Below.refl _ _⟩
    · rw [hv] at hrun ⊢
      exact ⟨_, c, w, hrun, nil_row _ _, (fun e => by cases e), fun hne => absurd rfl hne, Below.refl _ _⟩
  | some ad =>
    obtain ⟨v', w', hrun, hown', hgrow, _⟩ := run_append_own (P := P) w base t ty e i z K.n bytes ht hi hz hsize hby hzs K.pos v 0 [] hown ad l.length cap (flatK K l) (flatK_length K l) hS.news (flatK_one K l) (by omega) (by rw [Nat.zero_add]; exact hlen) hbase
    have hb := (Below.refl base w).grown hgrow hbase (fun q hq => (hown.lt q hq).1)
    rw [Nat.zero_add, List.nil_append] at hown'
    have hA : ∀ x ∈ l, K.At w' x := fun x hx => K.keep (hS.at_ x hx) (fun b hb' => hb.block b (hf x hx b hb'))
    have hq := QRow.of_own hown'
    obtain ⟨ao', cap', rfl, _, _⟩ := hq.form
    refine ⟨ao', cap', w', hrun, hq.rowAt rfl hA, ?_, ?_, hb⟩
    · intro he
      rcases hown'.2 with ⟨hv, _⟩ | ⟨g, c, cur, hv, _⟩
      · simp at hv; exact hv.2.2
      · simp at hv; rw [hv.1] at he; cases he
    · intro hne b off he
      exact (hown'.lt b (by rw [he]; rfl)).1

/-- The same, at a step of a region that draws its order. -/
theorem step_copy {P : Program} (w : World) {ops : Array Oper} {o : Oper} {a : Act} {C : Act → World → Prop} {Q : Exit → Act → World → Prop} {E : Prop} (hgd : o.guard = none) (s x : Operand) (t : TypeId)
    (ho : o.op = .call { callee := .builtin .append, args := #[s, x], argTypes := #[t, t] })
    (base : Nat) (e : TypeId) (i : TypeInfo) (z : Value) (bytes : Nat) (ht : P.underlying t = some (.slice e)) (hi : P.info? e = some i) (hz : i.zero = some z)
    (hsize : i.size = K.n) (hby : i.bytes = bytes) (hzs : z.cells.size = K.n)
    (v : Value) (hs : a.eval s = v) (hown : w.ownsRow base e K.n v 0 []) (ao : Option Addr) (cap : Nat) (l : List α) (hx : a.eval x = .slice ao l.length cap)
    (hS : RowAt K w ao l) (hf : ∀ x ∈ l, ∀ b, K.foot x b → b < base) (hnil : ao = none → cap = 0) (hm : l.length ≤ maxLen) (hlen : l.length * bytes ≤ 140737488355328) (hbase : base ≤ w.heap.size)
    (h : ∀ ao' cap' w', RowAt K w' ao' l → (ao' = none → cap' = 0) → (l ≠ [] → ∀ b off, ao' = some ⟨b, off, none⟩ → base ≤ b) → Below base w w' → C (a.put o.dst (.slice ao' l.length cap')) w') : if Region.wanted o (yielded ops a.tmps) = true then Oper.wp P o a w C Q else E := by
  rw [if_pos (by simp [Region.wanted, hgd])]
  obtain ⟨ao', cap', w', hrun, r1, r2, r3, r4⟩ := run_copy (K := K) (P := P) w t o.type base e i z bytes ht hi hz hsize hby hzs v hown ao cap l hS hf hnil hm hlen hbase
  unfold Oper.wp
  simp [execOp, ho, resolve, invoke, builtin, hs, hx, hrun, Result.andThen]
  exact h ao' cap' w' r1 r2 r3 r4
end
end Go.Proofs.YtaoiejgbbmjpkaaGreatDoor

/- What tusklaw06.Own does; nothing old in memory is turned. -/
namespace Go.Proofs.YtaoiejgbbmjpkaaGreatDoor
open Go.RowKit
set_option linter.unusedVariables false

/-- Its lists are no longer than a machine holds. -/
structure HdrM.Lens (x : HdrM) : Prop where
  n : x.refs.length * 40 ≤ 140737488351232
  p : x.parents.length * 16 ≤ 140737488351232
  acks : ∀ r ∈ x.refs, r.acks.length * 24 ≤ 140737488351232

theorem rd_succ (l : List RefM) (k : Nat) (x : RefM) (h : l[k]? = some x) : rd (l.take (k + 1)) = rd (l.take k) ++ [x.d] := by
  have hk := (List.getElem?_eq_some_iff.1 h).1
  have he := (List.getElem?_eq_some_iff.1 h).2
  rw [List.take_succ_eq_append_getElem hk, he]
  simp [rd]

theorem results_hdrO {fn : Func} {p : Tmp} (h : fn.results = #[.cell p 30]) (tmps : Array Value) (w : World) (g : Nat) (x : HdrM)
    (hp : tmps.getD p undef = .pointer (some ⟨g, 0, none⟩)) (hg : Arr w g 30 x.c) :
    (results fn tmps).run Tryz.prog w = .ok x.v w :=
  results_cell_row h tmps w g 30 x.c.toArray (0, 0) _ hp hg Tryz.underlying30 rfl infoHdr6

/-- A header that shares nothing is handed back. -/
def GotOwnH (W : World) (x : HdrM) (e : Ending) (w : World) : Prop :=
  ∃ y : HdrM, e = .returned y.v ∧ y.d = x.d ∧ y.At w ∧ (∀ b, y.foot b → W.heap.size ≤ b) ∧ Below W.heap.size W w

set_option maxRecDepth 100000 in
set_option maxHeartbeats 4000000 in
theorem own6_any (x : HdrM) (w : World) (hA : x.At w) (hL : x.Lens) :
    Calls Tryz.prog 20 #[x.v] w fun e w' => GotOwnH w x e w' := by
  obtain ⟨au, ro, ra, rs, rc, pa, ps, pc⟩ := x
  have hA1 : RowAt refK w ra rs := hA.refs
  have hA2 : RowAt strK w pa ps := hA.ps
  have hnp : pa = none → pc = 0 := hA.np
  have hL1 : rs.length * 40 ≤ 140737488351232 := hL.n
  have hL2 : ps.length * 16 ≤ 140737488351232 := hL.p
  have hL3 : ∀ r ∈ rs, r.acks.length * 24 ≤ 140737488351232 := hL.acks
  obtain ⟨hX, hZ, hB⟩ := two_new w 30 30 [.int .i64 au, .int .i64 ro, .slice ra rs.length rc, .slice pa ps.length pc] [.int .i64 0, .int .i64 0, .slice none 0 0, .slice none 0 0]
  obtain ⟨i0, hi, hz0, hz1, hz2⟩ := info_parts infoRef6
  obtain ⟨i1, hi', hz0', hz1', hz2'⟩ := info_parts infoTag6
  clear hA hL
  unfold HdrM.v
  simp only
  go_enter Tryz.func20, Tryz.ntmps20
  go_wp2
  go_loopw [3, 4] (fun v3 v4 wr => ∃ (k : Nat) (m : List RefM), k ≤ rs.length ∧ m.length = k ∧ v4 = .int .i64 (k : Int) ∧ Hid (rd m = rd (rs.take k)) ∧ KQ refK 53 wr (w.heap.size + 1 + 1) v3 m ∧ (∀ x ∈ m, ∀ b, refK.foot x b → w.heap.size + 1 + 1 ≤ b) ∧ Arr wr w.heap.size 30 [.int .i64 au, .int .i64 ro, .slice ra rs.length rc, .slice pa ps.length pc] ∧ Arr wr (w.heap.size + 1) 30 [.int .i64 0, .int .i64 0, .slice none 0 0, .slice none 0 0] ∧ Below w.heap.size w wr) (fun _ v _ => rs.length - (intOf v).toNat)
  case atStart => exact ⟨0, [], Nat.zero_le _, rfl, rfl, (rfl : _ = _), KQ.empty _ _ _ _, (fun x hx => by cases hx), hX, hZ, hB⟩
  case round =>
    clear hX hZ hB
    obtain ⟨k, m, hk, hmk, rfl, hD, hq, hof, hX, hZ, hb⟩ := hrel
    have x2 := hX.cell (i := 2) rfl
    by_cases hlt : k < rs.length
    · obtain ⟨r, hr⟩ : ∃ r, rs[k]? = some r := ⟨rs[k], List.getElem?_eq_getElem hlt⟩
      obtain ⟨b, off, rfl, hbl, y0, y1⟩ := (hA1.below hb).ref hr
      obtain ⟨hrt, hrn⟩ := (hA1.below hb).at_ r (List.mem_of_getElem? hr)
      have hLr := hL3 r (List.mem_of_getElem? hr)
      have HD : Hid (rd (rs.take (k + 1)) = rd m ++ [r.d]) := by
        show _ = _
        rw [rd_succ rs k r hr, hD.out]
      obtain ⟨qa, qc, rfl, hqn, _⟩ := hq.form
      rw [hmk] at hq
      clear hr hD
      have hwz := hZ.lt
      obtain ⟨we, hwe⟩ : ∃ q, wr.alloc (.cells #[] 23) = q := ⟨_, rfl⟩
      have hbe0 : Below wr.heap.size wr we := by rw [← hwe]; exact belowNew _ _
      have hbe : Below wr.heap.size wr we.drew := Below.drew hbe0
      have hown : we.drew.ownsRow wr.heap.size 23 tagK.n (.slice (some ⟨wr.heap.size, 0, none⟩) 0 0) 0 [] := by rw [← hwe]; exact World.ownsRow_made wr #[] 0 (Nat.le_refl _) (by unfold maxLen; omega) (by simp)
      have hrt1 := hrt.below hbe
      have hz1e : wr.heap.size ≤ we.drew.heap.size := hbe.size
      have x2a := (hX.below hbe0 hX.lt).cell (i := 2) rfl
      have y0a : we.cell? ⟨b, off + k * 2, none⟩ = some (.string r.digest) := (hbe0.cell (p := ⟨b, off + k * 2, none⟩) hbl).trans y0
      have y1a : we.cell? ⟨b, off + k * 2 + 1, none⟩ = some (.slice r.ao r.acks.length r.cap) := (hbe0.cell (p := ⟨b, off + k * 2 + 1, none⟩) hbl).trans y1
      have n1 : r.acks.length ≤ maxLen := by unfold maxLen; omega
      have n2 : r.acks.length * 24 ≤ 140737488355328 := by omega
      have n3 : m.length + 1 ≤ maxLen := by unfold maxLen; omega
      have n4 : (m.length + 1) * 40 ≤ 140737488355328 := by omega
      go_wp2_with fail
      go_region_law (first
        | (refine step_copy (K := tagK) _ (by rfl) _ _ 31 (by rfl) wr.heap.size 23 i1 _ 24 Tryz.underlying31 hi' hz0' hz1' hz2' rfl _ (by rfl) hown r.ao r.cap r.acks (by rfl) hrt1 (fun _ _ _ h => h.elim) hrn n1 n2 hz1e ?_; intro ao3 cap3 w3 hO3 hOn3 hOf3 hb3; have hbA : Below wr.heap.size wr w3 := hbe.trans hb3; have x2b := (hX.below hbA hX.lt).cell (i := 2) rfl; have y0b : w3.cell? ⟨b, off + k * 2, none⟩ = some (.string r.digest) := (hbA.cell (p := ⟨b, off + k * 2, none⟩) hbl).trans y0; have hbx := belowNew w3 (.cells #[.string r.digest, .slice ao3 r.acks.length cap3] 53); have hbB := hbA.trans (hbx.mono hbA.size); have hq5 := hq.below hbB; have hx5 := Kind.below refK (x := ⟨r.digest, r.acks, ao3, cap3⟩) ⟨hO3, hOn3⟩ hbx; have hxf : ∀ b, refK.foot ⟨r.digest, r.acks, ao3, cap3⟩ b → wr.heap.size ≤ b := (fun g hg => by rcases hg with ⟨h1, o, h2⟩ | ⟨_, _, h⟩; exact hOf3 h1 g o h2; exact h.elim); have hxo : ∀ b, refK.foot ⟨r.digest, r.acks, ao3, cap3⟩ b → (Value.slice qa k qc).ownBlock ≠ some b := (fun g hg e => by have := hxf g hg; have := (hq.lt g e).2; omega); have hN := new_ref w3 ⟨r.digest, r.acks, ao3, cap3⟩; have hbs : w.heap.size + 1 + 1 ≤ (w3.alloc (.cells #[.string r.digest, .slice ao3 r.acks.length cap3] 53)).heap.size := Nat.le_trans hwz hbB.size)
        | (refine step_push (K := refK) _ (by rfl) _ _ 27 (by rfl) (w.heap.size + 1 + 1) 53 i0 _ 40 Tryz.underlying27 hi hz0 hz1 hz2 rfl _ m (by rfl) hq5 ⟨r.digest, r.acks, ao3, cap3⟩ hx5 hxo ⟨w3.heap.size, 0, none⟩ 1 (by rfl) hN n3 n4 hbs ?_; intro ao8 cap8 w8 hq8 hk8))
      all_goals
        have hkB := Kept.below hk8 hbs (fun j hj => (hq5.lt j hj).1)
        have hbF : Below (w.heap.size + 1 + 1) wr w8 := (hbB.mono hwz).trans hkB
        have hXF := hX.below hbF (by omega)
        have hZF := hZ.below hbF (by omega)
        have hbG : Below w.heap.size w w8 := hb.trans (hbF.mono (by omega))
        have hofG : ∀ y ∈ m ++ [(⟨r.digest, r.acks, ao3, cap3⟩ : RefM)], ∀ b, refK.foot y b → w.heap.size + 1 + 1 ≤ b := by
          intro y hy b hb
          rw [List.mem_append, List.mem_singleton] at hy
          rcases hy with hy | rfl
          · exact hof y hy b hb
          · have := hxf b hb; omega
        rw [hmk] at hq8
        have HDF : Hid (rd (m ++ [(⟨r.digest, r.acks, ao3, cap3⟩ : RefM)]) = rd (rs.take (k + 1))) := by
          show _ = _
          rw [HD.out, rd_append]
          rfl
        clear hk8 hkB hq5 hN hbs hbx hbB hbA hx5 hxo hO3 hOf3 hb3 x2b y0b hX hZ hb hq hown hrt hrt1 hbe hbe0 x2 y0 y1 x2a y0a y1a HD hwe hbF
        go_wp2
        go_roundw
        case rel => exact ⟨k + 1, m ++ [⟨r.digest, r.acks, ao3, cap3⟩], by omega, by simp [hmk], by go_num, HDF, hq8, hofG, hXF, hZF, hbG⟩
        case measure => simp [intOf]; omega
    · obtain rfl : k = rs.length := by omega
      clear hmk
      have HD : Hid (rd m = rd rs) := by
        have := hD.out
        rw [List.take_length] at this
        exact this
      obtain ⟨qa, qc, rfl, hqn, hqt⟩ := hq.form
      have hqf := hq.foot_ge (B := w.heap.size + 1 + 1) (Nat.le_refl _) hof
      have f2 := hX.frozen 2
      have hX1 := hX.set 2 (.slice qa m.length qc)
      have hZ1 := hZ.other (p := ⟨w.heap.size, 2, none⟩) (by show w.heap.size + 1 ≠ w.heap.size; omega) (.slice qa m.length qc)
      have hb1 := hb.setCell (p := ⟨w.heap.size, 2, none⟩) (Nat.le_refl _) (.slice qa m.length qc)
      have hqt1 := hqt.kept (Kept.setCell wr ⟨w.heap.size, 2, none⟩ (.slice qa m.length qc)) (fun b hb e => by have := hqf b hb; have e' : b = w.heap.size := e; omega)
      obtain ⟨w1, hw1⟩ : ∃ q, wr.setCell ⟨w.heap.size, 2, none⟩ (.slice qa m.length qc) = q := ⟨_, rfl⟩
      rw [hw1] at hX1 hZ1 hb1 hqt1
      obtain ⟨w2, hw2⟩ : ∃ q, w1.alloc (.cells #[] 9) = q := ⟨_, rfl⟩
      have hbe : Below w1.heap.size w1 w2 := by rw [← hw2]; exact belowNew _ _
      have hown : w2.ownsRow w1.heap.size 9 strK.n (.slice (some ⟨w1.heap.size, 0, none⟩) 0 0) 0 [] := by rw [← hw2]; exact World.ownsRow_made w1 #[] 0 (Nat.le_refl _) (by unfold maxLen; omega) (by simp)
      have hX2 := hX1.below hbe hX1.lt
      have hZ2 := hZ1.below hbe hZ1.lt
      have hb2 := hb1.trans (hbe.mono hb1.size)
      have hP2 := hA2.below hb2
      have hqt2 := hqt1.below hbe
      have hqf2 : ∀ b, rowFoot refK qa m b → b < w1.heap.size := fun b hb => hqt1.lt hb
      have x3 := hX2.cell (i := 3) rfl
      have hwl := hZ1.lt
      obtain ⟨j0, hj, hy0, hy1, hy2⟩ := info_parts infoString
      clear hX hZ hb hq hqt hD
      go_wp2_with (at_builtin; refine wpList_copy (K := strK) rfl _ _ 28 rfl w1.heap.size 9 j0 _ 16 Tryz.underlying28 hj hy0 hy1 hy2 rfl _ rfl hown pa pc ps rfl hP2 (fun _ _ _ h => h.elim) hnp ?c1 ?c2 ?c3 ?_)
      case c1 => unfold maxLen; omega
      case c2 => omega
      case c3 => exact hbe.size
      intro oa oc w3 hO3 hOn hOf hb3
      have hX3 := hX2.below hb3 hX1.lt
      have hZ3 := hZ2.below hb3 hZ1.lt
      have hqt3 := hqt2.keep (fun b hb => hb3.block b (hqf2 b hb))
      have hB3 := hb2.trans (hb3.mono hb1.size)
      have hof3 : ∀ b, rowFoot strK oa ps b → w.heap.size + 1 + 1 ≤ b := fun b hb => by
        obtain ⟨hl, off, e⟩ := strs_foot hb
        have := hOf (fun e => by rw [e] at hl; simp at hl) b off e
        omega
      clear hX1 hZ1 hX2 hZ2 hP2 hqt1 hqt2 hb1 hb2 hown hbe hb3 x3 hw2 hw1
      have x3 := hX3.cell (i := 3) rfl
      have f3 := hX3.frozen 3
      have hX4 := hX3.set 3 (.slice oa ps.length oc)
      have hZ4 := hZ3.other (p := ⟨w.heap.size, 3, none⟩) (by show w.heap.size + 1 ≠ w.heap.size; omega) (.slice oa ps.length oc)
      have hB4 := hB3.setCell (p := ⟨w.heap.size, 3, none⟩) (Nat.le_refl _) (.slice oa ps.length oc)
      have hqt4 := hqt3.kept (Kept.setCell w3 ⟨w.heap.size, 3, none⟩ (.slice oa ps.length oc)) (fun b hb e => by have := hqf b hb; have e' : b = w.heap.size := e; omega)
      have hO4 := hO3.kept (Kept.setCell w3 ⟨w.heap.size, 3, none⟩ (.slice oa ps.length oc)) (fun b hb e => by have := hof3 b hb; have e' : b = w.heap.size := e; omega)
      obtain ⟨w4, hw4⟩ : ∃ q, w3.setCell ⟨w.heap.size, 3, none⟩ (.slice oa ps.length oc) = q := ⟨_, rfl⟩
      rw [hw4] at hX4 hZ4 hB4 hqt4 hO4
      have t0 := hX4.cell (i := 0) rfl
      have t1 := hX4.cell (i := 1) rfl
      have t2 := hX4.cell (i := 2) rfl
      have t3 := hX4.cell (i := 3) rfl
      have z0 := hZ4.cell (i := 0) rfl
      have z1 := hZ4.cell (i := 1) rfl
      have z2 := hZ4.cell (i := 2) rfl
      have z3 := hZ4.cell (i := 3) rfl
      have g0 := hZ4.frozen 0
      have g1 := hZ4.frozen 1
      have g2 := hZ4.frozen 2
      have g3 := hZ4.frozen 3
      have kF := kept_set4 w4 (w.heap.size + 1) (.int .i64 au) (.int .i64 ro) (.slice qa m.length qc) (.slice oa ps.length oc)
      have hZF := hZ4.set4 (.int .i64 au) (.int .i64 ro) (.slice qa m.length qc) (.slice oa ps.length oc)
      have hBF := below_set4 hB4 (show w.heap.size ≤ w.heap.size + 1 by omega) (.int .i64 au) (.int .i64 ro) (.slice qa m.length qc) (.slice oa ps.length oc)
      have hqtF := hqt4.kept kF (fun b hb e => by have := hqf b hb; have e' : b = w.heap.size + 1 := e; omega)
      have hOF := hO4.kept kF (fun b hb e => by have := hof3 b hb; have e' : b = w.heap.size + 1 := e; omega)
      have fin : ∀ e : Ending, e = .returned (HdrM.v ⟨au, ro, qa, m, qc, oa, ps, oc⟩) → GotOwnH w ⟨au, ro, ra, rs, rc, pa, ps, pc⟩ e _ :=
        fun e hv => ⟨⟨au, ro, qa, m, qc, oa, ps, oc⟩, hv, by show HdrD.mk _ _ _ _ = HdrD.mk _ _ _ _; rw [HD.out], ⟨hqtF, hqn, hOF, hOn⟩, fun b hb => hb.elim (fun h => by have := hqf b h; omega) (fun h => by have := hof3 b h; omega), hBF⟩
      unfold set4 at hZF fin
      clear hX3 hZ3 hX4 hZ4 hB4 hqt4 hO4 kF hBF hqtF hOF hB3 hqt3 hO3 HD
      go_wp2
      refine bodyPost_ret (v := HdrM.v ⟨au, ro, qa, m, qc, oa, ps, oc⟩) (results_hdrO rfl _ _ (w.heap.size + 1) ⟨au, ro, qa, m, qc, oa, ps, oc⟩ rfl hZF) rfl ?_
      exact fin _ rfl
end Go.Proofs.YtaoiejgbbmjpkaaGreatDoor

/- append(q, xs...) of a row's elements, q an empty row of the call's own: nothing but q's block and new ones is turned. -/
namespace Go.Proofs.YtaoiejgbbmjpkaaGreatDoor
open Go.RowKit
set_option linter.unusedVariables false

section
variable {α : Type} {K : Kind α}

/-- As an equation of the run. -/
theorem run_copyK {P : Program} (w : World) (t ty : TypeId) (base : Nat) (e : TypeId) (i : TypeInfo) (z : Value) (bytes : Nat) (ht : P.underlying t = some (.slice e)) (hi : P.info? e = some i) (hz : i.zero = some z)
    (hsize : i.size = K.n) (hby : i.bytes = bytes) (hzs : z.cells.size = K.n)
    (v : Value) (hown : w.ownsRow base e K.n v 0 []) (ao : Option Addr) (cap : Nat) (l : List α)
    (hS : RowAt K w ao l) (hf : ∀ x b, ¬ K.foot x b) (hnil : ao = none → cap = 0) (hm : l.length ≤ maxLen) (hlen : l.length * bytes ≤ 140737488355328) (hbase : base ≤ w.heap.size) :
    ∃ ao' cap' w', (Builtin.append_ #[t, t] ty #[v, .slice ao l.length cap]).run P w = .ok (.slice ao' l.length cap') w' ∧ KQ K e w' base (.slice ao' l.length cap') l ∧ Kept (fun k => v.ownBlock = some k) w w' := by
  cases ao with
  | none =>
    have hc0 := hnil rfl
    subst hc0
    have hss : l = [] := by
      cases l with
      | nil => rfl
      | cons y r => obtain ⟨_, _, e, _⟩ := hS.cell 0 y rfl; cases e
    subst hss
    have hrun := run_append_owned_none (P := P) (w := w) base t ty e i K.n ht hi v 0 [] hown
    have hq := QRow.of_own hown
    rcases hown.2 with ⟨hv, _⟩ | ⟨g, c, cur, hv, _⟩
    · rw [hv] at hrun ⊢
      exact ⟨none, 0, w, hrun, KQ.empty K e w base, Kept.refl _ _⟩
    · rw [hv] at hrun hq hown ⊢
      exact ⟨_, c, w, hrun, ⟨hq, (fun x hx => by cases hx), (fun x hx => by cases hx), (fun k hk => ⟨(hown.lt k hk).1, (hown.lt k hk).2⟩), (fun n cap e => by cases e)⟩, Kept.refl _ _⟩
  | some ad =>
    obtain ⟨v', w', hrun, hown', hgrow, _⟩ := run_append_own (P := P) w base t ty e i z K.n bytes ht hi hz hsize hby hzs K.pos v 0 [] hown ad l.length cap (flatK K l) (flatK_length K l) hS.news (flatK_one K l) (by omega) (by rw [Nat.zero_add]; exact hlen) hbase
    rw [Nat.zero_add, List.nil_append] at hown'
    have hk := Kept.of_grown hgrow
    have hA : ∀ x ∈ l, K.At w' x := fun x hx => K.kept (hS.at_ x hx) hk (fun b hb' => absurd hb' (hf x b))
    have hq := QRow.of_own hown'
    obtain ⟨ao', cap', rfl, hlc, _⟩ := hq.form
    refine ⟨ao', cap', w', hrun, ⟨hq, hA, fun x hx b hb => absurd hb (hf x b), fun k hk => ⟨(hown'.lt k hk).1, (hown'.lt k hk).2⟩, ?_⟩, hk⟩
    intro n c he
    rcases hown'.2 with ⟨hv, _⟩ | ⟨g, c', cur, hv, _⟩
    · rw [hv] at he
      simp at he
      omega
    · rw [hv] at he
      cases he

/-- The same, at a step of a region that draws its order. -/
theorem step_copyK {P : Program} (w : World) {ops : Array Oper} {o : Oper} {a : Act} {C : Act → World → Prop} {Q : Exit → Act → World → Prop} {E : Prop} (hgd : o.guard = none) (s x : Operand) (t : TypeId)
    (ho : o.op = .call { callee := .builtin .append, args := #[s, x], argTypes := #[t, t] })
    (base : Nat) (e : TypeId) (i : TypeInfo) (z : Value) (bytes : Nat) (ht : P.underlying t = some (.slice e)) (hi : P.info? e = some i) (hz : i.zero = some z)
    (hsize : i.size = K.n) (hby : i.bytes = bytes) (hzs : z.cells.size = K.n)
    (v : Value) (hs : a.eval s = v) (hown : w.ownsRow base e K.n v 0 []) (ao : Option Addr) (cap : Nat) (l : List α) (hx : a.eval x = .slice ao l.length cap)
    (hS : RowAt K w ao l) (hf : ∀ x b, ¬ K.foot x b) (hnil : ao = none → cap = 0) (hm : l.length ≤ maxLen) (hlen : l.length * bytes ≤ 140737488355328) (hbase : base ≤ w.heap.size)
    (h : ∀ ao' cap' w', KQ K e w' base (.slice ao' l.length cap') l → Kept (fun k => v.ownBlock = some k) w w' → C (a.put o.dst (.slice ao' l.length cap')) w') : if Region.wanted o (yielded ops a.tmps) = true then Oper.wp P o a w C Q else E := by
  rw [if_pos (by simp [Region.wanted, hgd])]
  obtain ⟨ao', cap', w', hrun, r1, r2⟩ := run_copyK (K := K) (P := P) w t o.type base e i z bytes ht hi hz hsize hby hzs v hown ao cap l hS hf hnil hm hlen hbase
  unfold Oper.wp
  simp [execOp, ho, resolve, invoke, builtin, hs, hx, hrun, Result.andThen]
  exact h ao' cap' w' r1 r2
end
end Go.Proofs.YtaoiejgbbmjpkaaGreatDoor

/- What tusklaw07.Own does: a certificate that shares nothing; nothing old in memory is turned. -/
namespace Go.Proofs.YtaoiejgbbmjpkaaGreatDoor
open Go.RowKit
set_option linter.unusedVariables false

theorem results_certO {fn : Func} {p : Tmp} (h : fn.results = #[.cell p 33]) (tmps : Array Value) (w : World) (g : Nat) (x : CertM)
    (hp : tmps.getD p undef = .pointer (some ⟨g, 0, none⟩)) (hg : Arr w g 33 x.c) :
    (results fn tmps).run Tryz.prog w = .ok x.v w :=
  results_cell_row h tmps w g 33 x.c.toArray (0, 0) _ hp hg Tryz.underlying33 rfl infoCert7

/-- A certificate that shares nothing is handed back. -/
def GotOwnC (W : World) (x : CertM) (e : Ending) (w : World) : Prop :=
  ∃ y : CertM, e = .returned y.v ∧ y.d = x.d ∧ y.At w ∧ (∀ b, y.foot b → W.heap.size ≤ b) ∧ Below W.heap.size W w

theorem ownEmpty (w : World) : (w.alloc (.cells #[] 23)).ownsRow w.heap.size 23 tagK.n (.slice (some ⟨w.heap.size, 0, none⟩) 0 0) 0 [] := World.ownsRow_made w #[] 0 (Nat.le_refl _) (by unfold maxLen; omega) (by simp)

theorem own_belowC {B : Nat} {e : TypeId} {k : Nat} {v : Value} {n : Nat} {xs : List Value} {w w' : World} (h : w.ownsRow B e k v n xs) (hb : Below w.heap.size w w') : w'.ownsRow B e k v n xs := by
  refine ⟨h.1, ?_⟩
  rcases h.2 with h0 | ⟨g, cap, cur, hv, hB, hg, r⟩
  · exact Or.inl h0
  · have hl : g < w.heap.size := (Array.getElem?_eq_some_iff.1 hg).1
    exact Or.inr ⟨g, cap, cur, hv, hB, by rw [hb.block g hl]; exact hg, r⟩

set_option maxRecDepth 100000 in
set_option maxHeartbeats 4000000 in
theorem own7_any (x : CertM) (w : World) (hA : x.At w) (hL : x.hdr.Lens) (hv : x.votes.length * 24 ≤ 140737488351232) :
    Calls Tryz.prog 21 #[x.v] w fun e w' => GotOwnC w x e w' := by
  obtain ⟨h, va, vs, vc⟩ := x
  obtain ⟨hX, hZ, hB⟩ := two_new w 33 33 [.int .i64 h.author, .int .i64 h.round, .slice h.ra h.refs.length h.rc, .slice h.pa h.parents.length h.pc, .slice va vs.length vc] [.int .i64 0, .int .i64 0, .slice none 0 0, .slice none 0 0, .slice none 0 0]
  obtain ⟨i1, hi, hz0, hz1, hz2⟩ := info_parts infoTag6
  have hA1 := hA.below hB
  have hh1 : h.At _ := hA1.hdr
  have hv1 : RowAt tagK _ va vs := hA1.votes
  have hnv : va = none → vc = 0 := hA.nv
  obtain ⟨w1, hw1⟩ : ∃ q, (w.alloc (.cells [.int .i64 h.author, .int .i64 h.round, .slice h.ra h.refs.length h.rc, .slice h.pa h.parents.length h.pc, .slice va vs.length vc].toArray 33)).alloc (.cells [.int .i64 0, .int .i64 0, .slice none 0 0, .slice none 0 0, .slice none 0 0].toArray 33) = q := ⟨_, rfl⟩
  rw [hw1] at hX hZ hB hh1 hv1
  clear hA hA1
  unfold CertM.v
  simp only
  go_enter Tryz.func21, Tryz.ntmps21
  have cO := fun w2 h2 => own6_any h w2 h2 hL
  unfold HdrM.v at cO
  have hkp : ∀ U, Kept (fun k => k = w.heap.size + 1) w1 U → (U.cell? ⟨w.heap.size, 0, none⟩ = some (.int .i64 h.author) ∧ U.cell? ⟨w.heap.size, 1, none⟩ = some (.int .i64 h.round) ∧ U.cell? ⟨w.heap.size, 2, none⟩ = some (.slice h.ra h.refs.length h.rc) ∧ U.cell? ⟨w.heap.size, 3, none⟩ = some (.slice h.pa h.parents.length h.pc) ∧ U.cell? ⟨w.heap.size, 4, none⟩ = some (.slice va vs.length vc)) := fun U hU => by
    have hn : w.heap.size ≠ w.heap.size + 1 := by omega
    have h := hX.kept hU hn
    exact ⟨h.cell (i := 0) rfl, h.cell (i := 1) rfl, h.cell (i := 2) rfl, h.cell (i := 3) rfl, h.cell (i := 4) rfl⟩
  have bd : Below w1.heap.size w1 w1.drew := below_drewN (Below.refl _ w1) 1
  have be : Below w1.heap.size w1 (w1.drew.alloc (.cells #[] 23)) := bd.alloc (Nat.le_refl _) _
  have hd : h.At w1.drew := hh1.below bd
  have he : h.At (w1.drew.alloc (.cells #[] 23)) := hh1.below be
  have kd : Kept (fun k => k = w.heap.size + 1) w1 w1.drew := Kept.of_below bd
  have ke : Kept (fun k => k = w.heap.size + 1) w1 (w1.drew.alloc (.cells #[] 23)) := Kept.of_below be
  have hoE := ownEmpty w1.drew
  have hv' : vs.length * 24 ≤ 140737488351232 := hv
  have n1 : vs.length ≤ maxLen := by unfold maxLen; omega
  have n2 : vs.length * 24 ≤ 140737488355328 := by omega
  have hS0 := hkp _ kd
  have h1z := hZ.lt
  go_wp2_with fail
  clear hw1
  go_region_held3 (fun w' => w'.cell? ⟨w.heap.size, 0, none⟩ = some (.int .i64 h.author) ∧ w'.cell? ⟨w.heap.size, 1, none⟩ = some (.int .i64 h.round) ∧ w'.cell? ⟨w.heap.size, 2, none⟩ = some (.slice h.ra h.refs.length h.rc) ∧ w'.cell? ⟨w.heap.size, 3, none⟩ = some (.slice h.pa h.parents.length h.pc) ∧ w'.cell? ⟨w.heap.size, 4, none⟩ = some (.slice va vs.length vc)) (exact hkp _ (by assumption))
    (first
    | (go_at_call 20; refine (cO _ hd).mono ?_; rintro e w2 ⟨y, rfl, hyd, hy, hyf, hb2⟩; unfold HdrM.v; have bA : Below w1.heap.size w1 w2 := bd.trans hb2; have kA : Kept (fun k => k = w.heap.size + 1) w1 w2 := Kept.of_below bA; have bE := bA.alloc bA.size (.cells #[] 23); have kE : Kept (fun k => k = w.heap.size + 1) w1 _ := Kept.of_below bE; have hv2 := hv1.below bE; have ho2 := ownEmpty w2; have hbs2 := (belowNew w2 (.cells #[] 23)).size; have hyE := hy.below (belowNew w2 (.cells #[] 23)))
    | (go_at_call 20; refine (cO _ he).mono ?_; rintro e w2 ⟨y, rfl, hyd, hy, hyf, hb2⟩; unfold HdrM.v; have bA : Below w1.heap.size w1 w2 := be.trans (hb2.mono be.size); have kA : Kept (fun k => k = w.heap.size + 1) w1 w2 := Kept.of_below bA; have hv2 := hv1.below bA; have ho3 := own_belowC hoE hb2; have hbs3 : w1.heap.size ≤ w2.heap.size := bA.size)
    | (refine step_copyK (K := tagK) _ (by rfl) _ _ 31 (by rfl) w2.heap.size 23 i1 _ 24 Tryz.underlying31 hi hz0 hz1 hz2 rfl _ (by rfl) ho2 va vc vs (by rfl) hv2 (fun _ _ h => h.elim) hnv n1 n2 hbs2 ?_; intro ao3 cap3 w3 hq3 hk3; have bF : Below w1.heap.size w1 w3 := bE.trans (Kept.below hk3 bE.size (fun k hk => by have := (ho2.lt k hk).1; have := bA.size; omega)); have kF : Kept (fun k => k = w.heap.size + 1) w1 w3 := Kept.of_below bF; have hy3 := Kind.kept hdrK hyE hk3 (fun b hb e => by have := (ho2.lt b e).1; have := Kind.lt hdrK hy hb; omega); have hZ3 := hZ.below bF hZ.lt; have z0 := hZ3.cell (i := 0) rfl; have z1 := hZ3.cell (i := 1) rfl; have z2 := hZ3.cell (i := 2) rfl; have z3 := hZ3.cell (i := 3) rfl; have z4 := hZ3.cell (i := 4) rfl; have g0 := hZ3.frozen 0; have g1 := hZ3.frozen 1; have g2 := hZ3.frozen 2; have g3 := hZ3.frozen 3; have g4 := hZ3.frozen 4; have kG := kF.trans (kept_set5 w3 (w.heap.size + 1) (.int .i64 y.author) (.int .i64 y.round) (.slice y.ra y.refs.length y.rc) (.slice y.pa y.parents.length y.pc) (.slice ao3 vs.length cap3)))
    | (refine step_copyK (K := tagK) _ (by rfl) _ _ 31 (by rfl) w1.heap.size 23 i1 _ 24 Tryz.underlying31 hi hz0 hz1 hz2 rfl _ (by rfl) ho3 va vc vs (by rfl) hv2 (fun _ _ h => h.elim) hnv n1 n2 hbs3 ?_; intro ao3 cap3 w3 hq3 hk3; have bF : Below w1.heap.size w1 w3 := bA.trans (Kept.below hk3 bA.size (fun k hk => (ho3.lt k hk).1)); have kF : Kept (fun k => k = w.heap.size + 1) w1 w3 := Kept.of_below bF; have hy3 := Kind.kept hdrK hy hk3 (fun b hb e => by have h1 := hyf b hb; rw [alloc_size] at h1; have h2 : w1.heap.size + 1 ≤ b := h1; simp [Value.ownBlock] at e; omega); have hZ3 := hZ.below bF hZ.lt; have z0 := hZ3.cell (i := 0) rfl; have z1 := hZ3.cell (i := 1) rfl; have z2 := hZ3.cell (i := 2) rfl; have z3 := hZ3.cell (i := 3) rfl; have z4 := hZ3.cell (i := 4) rfl; have g0 := hZ3.frozen 0; have g1 := hZ3.frozen 1; have g2 := hZ3.frozen 2; have g3 := hZ3.frozen 3; have g4 := hZ3.frozen 4; have kG := kF.trans (kept_set5 w3 (w.heap.size + 1) (.int .i64 y.author) (.int .i64 y.round) (.slice y.ra y.refs.length y.rc) (.slice y.pa y.parents.length y.pc) (.slice ao3 vs.length cap3))))
  all_goals
    have hyl : ∀ b, y.foot b → w1.heap.size ≤ b := fun b hb => Nat.le_trans (by first | exact Nat.le_refl _ | (rw [alloc_size]; exact Nat.le_succ _)) (hyf b hb)
    obtain ⟨ao4, cap4, e4, hn4, hrow3⟩ := hq3.form
    simp only [Value.slice.injEq, true_and] at e4
    obtain ⟨rfl, rfl⟩ := e4
    have hql : ∀ b, rowFoot tagK ao3 vs b → w1.heap.size ≤ b := fun b hb => Nat.le_trans (by first | exact Nat.le_refl _ | exact bA.size) (hq3.foot_ge (Nat.le_refl _) (fun _ _ _ h => h.elim) b hb)
    have hZF := hZ3.set5 (.int .i64 y.author) (.int .i64 y.round) (.slice y.ra y.refs.length y.rc) (.slice y.pa y.parents.length y.pc) (.slice ao3 vs.length cap3)
    have k5 := kept_set5 w3 (w.heap.size + 1) (.int .i64 y.author) (.int .i64 y.round) (.slice y.ra y.refs.length y.rc) (.slice y.pa y.parents.length y.pc) (.slice ao3 vs.length cap3)
    have hyF := Kind.kept hdrK hy3 k5 (fun b hb e => by have := hyl b hb; have e' : b = w.heap.size + 1 := e; omega)
    have hqF := hrow3.kept k5 (fun b hb e => by have := hql b hb; have e' : b = w.heap.size + 1 := e; omega)
    have bG := below_set5 (hB.trans (bF.mono hB.size)) (g := w.heap.size + 1) (Nat.le_succ _) (.int .i64 y.author) (.int .i64 y.round) (.slice y.ra y.refs.length y.rc) (.slice y.pa y.parents.length y.pc) (.slice ao3 vs.length cap3)
    have fin : ∀ e, e = .returned (CertM.v ⟨y, ao3, vs, cap3⟩) → GotOwnC w ⟨h, va, vs, vc⟩ e _ := fun e hv => ⟨⟨y, ao3, vs, cap3⟩, hv, (by show (⟨y.d, vs⟩ : CertD) = ⟨h.d, vs⟩; rw [hyd]), ⟨hyF, hqF, hn4⟩, (fun b hb => hb.elim (fun h => by have := hyl b h; have := hB.size; omega) (fun h => by have := hql b h; have := hB.size; omega)), bG⟩
    unfold set5 at hZF fin
    clear hkp hS0 hd he kd ke hoE cO hyl hql k5 hyF hqF bG hrow3 hq3 hk3
    try go_wp2
    refine bodyPost_ret (v := CertM.v ⟨y, ao3, vs, cap3⟩) (results_certO rfl _ _ (w.heap.size + 1) ⟨y, ao3, vs, cap3⟩ rfl hZF) rfl ?_
    exact fin _ rfl
end Go.Proofs.YtaoiejgbbmjpkaaGreatDoor

/- What tusklaw08.OwnQc and tusklaw08.Own do: what shares nothing; nothing old in memory is turned. -/
namespace Go.Proofs.YtaoiejgbbmjpkaaGreatDoor
open Go.RowKit
set_option linter.unusedVariables false

theorem own_empty (w : World) (T : TypeId) (n : Nat) : (w.alloc (.cells #[] T)).ownsRow w.heap.size T n (.slice (some ⟨w.heap.size, 0, none⟩) 0 0) 0 [] := World.ownsRow_made w #[] 0 (Nat.le_refl _) (by unfold maxLen; omega) (by simp)

theorem infoStr8 : (Tryz.prog.info? 9).map (fun i => (i.zero, i.size, i.bytes)) = some (some (.string ⟨#[]⟩), 1, 16) := by kernel_rfl

theorem results_qcO {fn : Func} {p : Tmp} (h : fn.results = #[.cell p 35]) (tmps : Array Value) (w : World) (g : Nat) (x : QcM)
    (hp : tmps.getD p undef = .pointer (some ⟨g, 0, none⟩)) (hg : Arr w g 35 x.c) :
    (results fn tmps).run Tryz.prog w = .ok x.v w :=
  results_cell_row h tmps w g 35 x.c.toArray (0, 0) _ hp hg Tryz.underlying35 rfl infoQc8

theorem results_blkO {fn : Func} {p : Tmp} (h : fn.results = #[.cell p 37]) (tmps : Array Value) (w : World) (g : Nat) (x : BlkM)
    (hp : tmps.getD p undef = .pointer (some ⟨g, 0, none⟩)) (hg : Arr w g 37 x.c) :
    (results fn tmps).run Tryz.prog w = .ok x.v w :=
  results_cell_row h tmps w g 37 x.c.toArray (0, 0) _ hp hg Tryz.underlying37 rfl infoBlk8

/-- A Qc that shares nothing is handed back. -/
def GotOwnQ (W : World) (x : QcM) (e : Ending) (w : World) : Prop :=
  ∃ y : QcM, e = .returned y.v ∧ y.d = x.d ∧ y.At w ∧ (∀ b, y.foot b → W.heap.size ≤ b) ∧ Below W.heap.size W w

/-- A block that shares nothing is handed back. -/
def GotOwnB (W : World) (x : BlkM) (e : Ending) (w : World) : Prop :=
  ∃ y : BlkM, e = .returned y.v ∧ y.d = x.d ∧ y.At w ∧ (∀ b, y.foot b → W.heap.size ≤ b) ∧ Below W.heap.size W w

set_option maxRecDepth 100000 in
set_option maxHeartbeats 2000000 in
theorem ownQc_any (x : QcM) (w : World) (hA : x.At w) (hv : x.votes.length * 24 ≤ 140737488351232) :
    Calls Tryz.prog 23 #[x.v] w fun e w' => GotOwnQ w x e w' := by
  obtain ⟨v, b, va, l, vc⟩ := x
  obtain ⟨hX, hZ, hB⟩ := two_new w 35 35 [.int .i64 v, .string b, .slice va l.length vc] [.int .i64 0, .string ⟨#[]⟩, .slice none 0 0]
  obtain ⟨i1, hi, hz0, hz1, hz2⟩ := info_parts infoTag6
  have hA1 : RowAt tagK _ va l := (hA.below hB).votes
  have hnv : va = none → vc = 0 := hA.nv
  have hl : l.length * 24 ≤ 140737488351232 := hv
  obtain ⟨w1, hw1⟩ : ∃ q, (w.alloc (.cells [.int .i64 v, .string b, .slice va l.length vc].toArray 35)).alloc (.cells [.int .i64 0, .string ⟨#[]⟩, .slice none 0 0].toArray 35) = q := ⟨_, rfl⟩
  have hs1 : w.heap.size + 2 ≤ w1.heap.size := by rw [← hw1, alloc_size, alloc_size]; omega
  rw [hw1] at hX hZ hB hA1
  have hbe := belowNew w1 (.cells #[] 23)
  have hoE := own_empty w1 23 tagK.n
  have hX2 := hX.below hbe hX.lt
  have hA2 := hA1.below hbe
  have hbs := hbe.size
  have x2 := hX2.cell (i := 2) rfl
  have n1 : l.length ≤ maxLen := by unfold maxLen; omega
  have n2 : l.length * 24 ≤ 140737488355328 := by omega
  unfold QcM.v
  simp only
  clear hA hv
  go_enter Tryz.func23, Tryz.ntmps23
  go_wp2_with (at_builtin; refine wpList_copy (K := tagK) rfl _ _ 31 rfl w1.heap.size 23 i1 _ 24 Tryz.underlying31 hi hz0 hz1 hz2 rfl _ rfl hoE va vc l rfl hA2 (fun _ _ _ h => h.elim) hnv n1 n2 hbs ?_)
  intro ao3 cap3 w3 hR3 hn3 hf3 hb3
  have hB3 : Below w1.heap.size w1 w3 := hbe.trans hb3
  have hX3 := hX.below hB3 hX.lt
  have hZ3 := hZ.below hB3 hZ.lt
  have hBw3 := hB.trans (hB3.mono hB.size)
  have hfl : ∀ g, rowFoot tagK ao3 l g → w1.heap.size ≤ g := fun g hg => by
    rcases hg with ⟨hne, off, e⟩ | ⟨_, _, h⟩
    · exact hf3 hne g off e
    · exact h.elim
  have x2 := hX3.cell (i := 2) rfl
  have f2 := hX3.frozen 2
  have hX4 := hX3.set 2 (.slice ao3 l.length cap3)
  have hZ4 := hZ3.other (p := ⟨w.heap.size, 2, none⟩) (by show w.heap.size + 1 ≠ w.heap.size; omega) (.slice ao3 l.length cap3)
  have hR4 := hR3.kept (Kept.setCell w3 ⟨w.heap.size, 2, none⟩ (.slice ao3 l.length cap3)) (fun g hg e => by have := hfl g hg; have e' : g = w.heap.size := e; omega)
  have hB4 := hBw3.setCell (p := ⟨w.heap.size, 2, none⟩) (Nat.le_refl _) (.slice ao3 l.length cap3)
  obtain ⟨w4, hw4⟩ : ∃ q, w3.setCell ⟨w.heap.size, 2, none⟩ (.slice ao3 l.length cap3) = q := ⟨_, rfl⟩
  rw [hw4] at hX4 hZ4 hR4 hB4
  replace hX4 : Arr w4 w.heap.size 35 [.int .i64 v, .string b, .slice ao3 l.length cap3] := hX4
  have y0 := hX4.cell (i := 0) rfl
  have y1 := hX4.cell (i := 1) rfl
  have y2 := hX4.cell (i := 2) rfl
  have z0 := hZ4.cell (i := 0) rfl
  have z1 := hZ4.cell (i := 1) rfl
  have z2 := hZ4.cell (i := 2) rfl
  have g0 := hZ4.frozen 0
  have g1 := hZ4.frozen 1
  have g2 := hZ4.frozen 2
  have hZF := hZ4.set3 (.int .i64 v) (.string b) (.slice ao3 l.length cap3)
  have kF := kept_set3 w4 (w.heap.size + 1) (.int .i64 v) (.string b) (.slice ao3 l.length cap3)
  have hRF := hR4.kept kF (fun g hg e => by have := hfl g hg; have e' : g = w.heap.size + 1 := e; omega)
  have hBF := below_set3 hB4 (g := w.heap.size + 1) (Nat.le_succ _) (.int .i64 v) (.string b) (.slice ao3 l.length cap3)
  have fin : ∀ e, e = .returned (QcM.v ⟨v, b, ao3, l, cap3⟩) → GotOwnQ w ⟨v, b, va, l, vc⟩ e _ := fun e he => ⟨⟨v, b, ao3, l, cap3⟩, he, rfl, ⟨hRF, hn3⟩, (fun g hg => by have := hfl g hg; omega), hBF⟩
  unfold set3 at hZF fin
  clear hX hZ hB hA1 hbe hoE hX2 hA2 hR3 hb3 hB3 hX3 hZ3 hBw3 hfl hX4 hZ4 hR4 hB4 kF hRF hBF hf3 hw1
  go_wp2
  refine bodyPost_ret (v := QcM.v ⟨v, b, ao3, l, cap3⟩) (results_qcO rfl _ _ (w.heap.size + 1) ⟨v, b, ao3, l, cap3⟩ rfl hZF) rfl ?_
  exact fin _ rfl

set_option maxRecDepth 100000 in
set_option maxHeartbeats 2000000 in
theorem ownBlk_any (x : BlkM) (w : World) (hA : x.At w) (hv : x.qc.votes.length * 24 ≤ 140737488351232) (hc : x.certs.length * 16 ≤ 140737488351232) :
    Calls Tryz.prog 22 #[x.v] w fun e w' => GotOwnB w x e w' := by
  obtain ⟨v, q, ca, l, cc⟩ := x
  obtain ⟨hX, hZ, hB⟩ := two_new w 37 37 [.int .i64 v, .int .i64 q.view, .string q.block, .slice q.va q.votes.length q.vc, .slice ca l.length cc] [.int .i64 0, .int .i64 0, .string ⟨#[]⟩, .slice none 0 0, .slice none 0 0]
  obtain ⟨i1, hi, hz0, hz1, hz2⟩ := info_parts infoStr8
  have hA1 := hA.below hB
  have hq1 : q.At _ := hA1.qc
  have hc1 : RowAt strK _ ca l := hA1.certs
  have hnc : ca = none → cc = 0 := hA.nc
  have hcl : ∀ g, rowFoot strK ca l g → g < w.heap.size := fun g hg => hA.certs.lt hg
  have hl : l.length * 16 ≤ 140737488351232 := hc
  have cQ := ownQc_any q _ hq1 hv
  unfold QcM.v at cQ
  obtain ⟨w1, hw1⟩ : ∃ q', (w.alloc (.cells [.int .i64 v, .int .i64 q.view, .string q.block, .slice q.va q.votes.length q.vc, .slice ca l.length cc].toArray 37)).alloc (.cells [.int .i64 0, .int .i64 0, .string ⟨#[]⟩, .slice none 0 0, .slice none 0 0].toArray 37) = q' := ⟨_, rfl⟩
  have hs1 : w.heap.size + 2 ≤ w1.heap.size := by rw [← hw1, alloc_size, alloc_size]; omega
  rw [hw1] at hX hZ hB hA1 hq1 hc1 cQ
  have n1 : l.length ≤ maxLen := by unfold maxLen; omega
  have n2 : l.length * 16 ≤ 140737488355328 := by omega
  have x1 := hX.cell (i := 1) rfl
  have x2 := hX.cell (i := 2) rfl
  have x3 := hX.cell (i := 3) rfl
  unfold BlkM.v
  simp only
  clear hA hv hc hA1 hq1
  go_enter Tryz.func22, Tryz.ntmps22
  go_wp2_with fail
  refine cQ.mono ?_
  rintro e w2 ⟨y, rfl, hyd, hy, hyf, hb2⟩
  unfold QcM.v
  have hX2 := hX.below hb2 hX.lt
  have hZ2 := hZ.below hb2 hZ.lt
  have hc2 := hc1.below hb2
  have hB2 := hB.trans (hb2.mono hB.size)
  have hs2 := hb2.size
  have hyl : ∀ g, y.foot g → w.heap.size + 2 ≤ g := fun g hg => by have := hyf g hg; omega
  clear cQ hX hZ hc1 hB hb2 x1 x2 x3 hyf hw1
  have x1 := hX2.cell (i := 1) rfl
  have x2 := hX2.cell (i := 2) rfl
  have x3 := hX2.cell (i := 3) rfl
  have x4 := hX2.cell (i := 4) rfl
  have f1 := hX2.frozen 1
  have f2 := hX2.frozen 2
  have f3 := hX2.frozen 3
  have hX3 := ((hX2.set 1 (.int .i64 y.view)).set 2 (.string y.block)).set 3 (.slice y.va y.votes.length y.vc)
  have k3 := (((Kept.refl (fun k => k = w.heap.size) w2).set (p := ⟨w.heap.size, 1, none⟩) rfl (.int .i64 y.view)).set (p := ⟨w.heap.size, 2, none⟩) rfl (.string y.block)).set (p := ⟨w.heap.size, 3, none⟩) rfl (.slice y.va y.votes.length y.vc)
  have hZ3 := hZ2.kept k3 (by omega)
  have hc3 := hc2.kept k3 (fun g hg e => by have := hcl g hg; have e' : g = w.heap.size := e; omega)
  have hy3 := Kind.kept qcK hy k3 (fun g hg e => by have := hyl g hg; have e' : g = w.heap.size := e; omega)
  have hB3 := ((hB2.setCell (p := ⟨w.heap.size, 1, none⟩) (Nat.le_refl _) (.int .i64 y.view)).setCell (p := ⟨w.heap.size, 2, none⟩) (Nat.le_refl _) (.string y.block)).setCell (p := ⟨w.heap.size, 3, none⟩) (Nat.le_refl _) (.slice y.va y.votes.length y.vc)
  have hs3 := k3.size
  obtain ⟨w3, hw3⟩ : ∃ q', ((w2.setCell ⟨w.heap.size, 1, none⟩ (.int .i64 y.view)).setCell ⟨w.heap.size, 2, none⟩ (.string y.block)).setCell ⟨w.heap.size, 3, none⟩ (.slice y.va y.votes.length y.vc) = q' := ⟨_, rfl⟩
  rw [hw3] at hX3 hZ3 hc3 hy3 hB3 hs3
  replace hX3 : Arr w3 w.heap.size 37 [.int .i64 v, .int .i64 y.view, .string y.block, .slice y.va y.votes.length y.vc, .slice ca l.length cc] := hX3
  have hbe := belowNew w3 (.cells #[] 9)
  have hoE := own_empty w3 9 strK.n
  have hX4 := hX3.below hbe hX3.lt
  have hc4 := hc3.below hbe
  have hbs := hbe.size
  have q4 := hX4.cell (i := 4) rfl
  clear hX2 hZ2 hc2 hB2 k3 hy
  go_wp2_with (at_builtin; refine wpList_copy (K := strK) rfl _ _ 28 rfl w3.heap.size 9 i1 _ 16 Tryz.underlying28 hi hz0 hz1 hz2 rfl _ rfl hoE ca cc l rfl hc4 (fun _ _ _ h => h.elim) hnc n1 n2 hbs ?_)
  intro ao5 cap5 w5 hR5 hn5 hf5 hb5
  clear x1 x2 x3 x4 f1 f2 f3 q4
  have hB5 : Below w3.heap.size w3 w5 := hbe.trans hb5
  have hX5 := hX3.below hB5 hX3.lt
  have hZ5 := hZ3.below hB5 hZ3.lt
  have hy5 := hy3.below hB5
  have hBw5 := hB3.trans (hB5.mono hB3.size)
  have hfl : ∀ g, rowFoot strK ao5 l g → w.heap.size + 2 ≤ g := fun g hg => by
    rcases hg with ⟨hne, off, e⟩ | ⟨_, _, h⟩
    · have := hf5 hne g off e
      omega
    · exact h.elim
  have x4 := hX5.cell (i := 4) rfl
  have f4 := hX5.frozen 4
  have hX6 := hX5.set 4 (.slice ao5 l.length cap5)
  have hZ6 := hZ5.other (p := ⟨w.heap.size, 4, none⟩) (by show w.heap.size + 1 ≠ w.heap.size; omega) (.slice ao5 l.length cap5)
  have k6 := Kept.setCell w5 ⟨w.heap.size, 4, none⟩ (.slice ao5 l.length cap5)
  have hR6 := hR5.kept k6 (fun g hg e => by have := hfl g hg; have e' : g = w.heap.size := e; omega)
  have hy6 := Kind.kept qcK hy5 k6 (fun g hg e => by have := hyl g hg; have e' : g = w.heap.size := e; omega)
  have hB6 := hBw5.setCell (p := ⟨w.heap.size, 4, none⟩) (Nat.le_refl _) (.slice ao5 l.length cap5)
  obtain ⟨w6, hw6⟩ : ∃ q', w5.setCell ⟨w.heap.size, 4, none⟩ (.slice ao5 l.length cap5) = q' := ⟨_, rfl⟩
  rw [hw6] at hX6 hZ6 hR6 hy6 hB6
  replace hX6 : Arr w6 w.heap.size 37 [.int .i64 v, .int .i64 y.view, .string y.block, .slice y.va y.votes.length y.vc, .slice ao5 l.length cap5] := hX6
  have y0 := hX6.cell (i := 0) rfl
  have y1 := hX6.cell (i := 1) rfl
  have y2 := hX6.cell (i := 2) rfl
  have y3 := hX6.cell (i := 3) rfl
  have y4 := hX6.cell (i := 4) rfl
  have z0 := hZ6.cell (i := 0) rfl
  have z1 := hZ6.cell (i := 1) rfl
  have z2 := hZ6.cell (i := 2) rfl
  have z3 := hZ6.cell (i := 3) rfl
  have z4 := hZ6.cell (i := 4) rfl
  have g0 := hZ6.frozen 0
  have g1 := hZ6.frozen 1
  have g2 := hZ6.frozen 2
  have g3 := hZ6.frozen 3
  have g4 := hZ6.frozen 4
  have hZF := hZ6.set5 (.int .i64 v) (.int .i64 y.view) (.string y.block) (.slice y.va y.votes.length y.vc) (.slice ao5 l.length cap5)
  have kF := kept_set5 w6 (w.heap.size + 1) (.int .i64 v) (.int .i64 y.view) (.string y.block) (.slice y.va y.votes.length y.vc) (.slice ao5 l.length cap5)
  have hRF := hR6.kept kF (fun g hg e => by have := hfl g hg; have e' : g = w.heap.size + 1 := e; omega)
  have hyF := Kind.kept qcK hy6 kF (fun g hg e => by have := hyl g hg; have e' : g = w.heap.size + 1 := e; omega)
  have hBF := below_set5 hB6 (g := w.heap.size + 1) (Nat.le_succ _) (.int .i64 v) (.int .i64 y.view) (.string y.block) (.slice y.va y.votes.length y.vc) (.slice ao5 l.length cap5)
  have fin : ∀ e, e = .returned (BlkM.v ⟨v, y, ao5, l, cap5⟩) → GotOwnB w ⟨v, q, ca, l, cc⟩ e _ := fun e he => ⟨⟨v, y, ao5, l, cap5⟩, he, (by show (⟨v, y.d, l⟩ : BlkD) = ⟨v, q.d, l⟩; rw [hyd]), ⟨hyF, hRF, hn5⟩, (fun g hg => hg.elim (fun h => by have := hyl g h; omega) (fun h => by have := hfl g h; omega)), hBF⟩
  unfold set5 at hZF fin
  clear hX3 hZ3 hc3 hy3 hB3 hbe hoE hX4 hc4 hR5 hb5 hB5 hX5 hZ5 hy5 hBw5 hfl hX6 hZ6 hR6 hy6 hB6 kF hRF hyF hBF hf5 k6 hw3
  go_wp2
  refine bodyPost_ret (v := BlkM.v ⟨v, y, ao5, l, cap5⟩) (results_blkO rfl _ _ (w.heap.size + 1) ⟨v, y, ao5, l, cap5⟩ rfl hZF) rfl ?_
  exact fin _ rfl
end Go.Proofs.YtaoiejgbbmjpkaaGreatDoor

/- What tusklaw09.Own does: a message that shares nothing; nothing old in memory is turned. -/
namespace Go.Proofs.YtaoiejgbbmjpkaaGreatDoor
open Go.RowKit
set_option linter.unusedVariables false

theorem kept_row (w : World) (g : Nat) (c : Array Value) : Kept (fun k => k = g) w (w.setRow g c) := by
  exact ⟨rfl, rfl, rfl, by rw [setRow_size]; exact Nat.le_refl _, fun k _ hk => setRow_other w g k c hk⟩

theorem results_msgO {fn : Func} {p : Tmp} (h : fn.results = #[.cell p 39]) (tmps : Array Value) (w : World) (g : Nat) (x : MsgM)
    (hp : tmps.getD p undef = .pointer (some ⟨g, 0, none⟩)) (hg : Arr w g 39 x.c) :
    (results fn tmps).run Tryz.prog w = .ok x.v w :=
  results_cell_row h tmps w g 39 x.c.toArray (0, 0) _ hp hg Tryz.underlying39 rfl infoMsg9

/-- A message that shares nothing is handed back. -/
def GotOwnM (W : World) (x : MsgM) (e : Ending) (w : World) : Prop :=
  ∃ y : MsgM, e = .returned y.v ∧ y.d = x.d ∧ y.At w ∧ (∀ b, y.foot b → W.heap.size ≤ b) ∧ Below W.heap.size W w

/-- A message's lists are no longer than memory holds. -/
structure MsgM.Lens (x : MsgM) : Prop where
  txs : x.bat.txs.length ≤ 100
  tx : ∀ t ∈ x.bat.txs, TxLens t.d
  hdr : x.hdr.Lens
  cert : x.cert.hdr.Lens
  votes : x.cert.votes.length * 24 ≤ 140737488351232
  bvotes : x.blk.qc.votes.length * 24 ≤ 140737488351232
  certs : x.blk.certs.length * 16 ≤ 140737488351232
  qvotes : x.qc.votes.length * 24 ≤ 140737488351232

/-- A message that lies off two blocks. -/
structure Two (W : Nat) (x : MsgM) (w : World) : Prop where
  at_ : x.At w
  off : ∀ b, x.foot b → b ≠ W ∧ b ≠ W + 1

theorem Two.below {W : Nat} {x : MsgM} {w w' : World} (h : Two W x w) (hb : Below w.heap.size w w') : Two W x w' := ⟨h.at_.below hb, h.off⟩

theorem Two.kept {W : Nat} {x : MsgM} {w w' : World} {S : Nat → Prop} (h : Two W x w) (hk : Kept S w w') (hS : ∀ k, S k → k = W ∨ k = W + 1) : Two W x w' :=
  ⟨Kind.kept msgK h.at_ hk (fun b hb e => by have h1 := h.off b hb; have h2 := hS b e; omega), h.off⟩

theorem Two.bat {W n : Nat} {x : MsgM} {w : World} (h : Two W x w) {y : BatM} (hy : y.At w) (hf : ∀ b, rowFoot txK y.ta y.txs b → n ≤ b) (hn : W + 2 ≤ n) : Two W { x with bat := y } w :=
  ⟨⟨hy, h.at_.hdr, h.at_.cert, h.at_.blk, h.at_.qc⟩, fun b hb => by
    rcases hb with hb | hb
    · have := hf b hb
      omega
    · exact h.off b (Or.inr hb)⟩

theorem Two.hdr {W n : Nat} {x : MsgM} {w : World} (h : Two W x w) {y : HdrM} (hy : y.At w) (hf : ∀ b, y.foot b → n ≤ b) (hn : W + 2 ≤ n) : Two W { x with hdr := y } w :=
  ⟨⟨h.at_.bat, hy, h.at_.cert, h.at_.blk, h.at_.qc⟩, fun b hb => by
    rcases hb with hb | hb | hb
    · exact h.off b (Or.inl hb)
    · have := hf b hb
      omega
    · exact h.off b (Or.inr (Or.inr hb))⟩

theorem Two.cert {W n : Nat} {x : MsgM} {w : World} (h : Two W x w) {y : CertM} (hy : y.At w) (hf : ∀ b, y.foot b → n ≤ b) (hn : W + 2 ≤ n) : Two W { x with cert := y } w :=
  ⟨⟨h.at_.bat, h.at_.hdr, hy, h.at_.blk, h.at_.qc⟩, fun b hb => by
    rcases hb with hb | hb | hb | hb
    · exact h.off b (Or.inl hb)
    · exact h.off b (Or.inr (Or.inl hb))
    · have := hf b hb
      omega
    · exact h.off b (Or.inr (Or.inr (Or.inr hb)))⟩

theorem Two.blk {W n : Nat} {x : MsgM} {w : World} (h : Two W x w) {y : BlkM} (hy : y.At w) (hf : ∀ b, y.foot b → n ≤ b) (hn : W + 2 ≤ n) : Two W { x with blk := y } w :=
  ⟨⟨h.at_.bat, h.at_.hdr, h.at_.cert, hy, h.at_.qc⟩, fun b hb => by
    rcases hb with hb | hb | hb | hb | hb
    · exact h.off b (Or.inl hb)
    · exact h.off b (Or.inr (Or.inl hb))
    · exact h.off b (Or.inr (Or.inr (Or.inl hb)))
    · have := hf b hb
      omega
    · exact h.off b (Or.inr (Or.inr (Or.inr (Or.inr hb))))⟩

theorem Two.qc {W n : Nat} {x : MsgM} {w : World} (h : Two W x w) {y : QcM} (hy : y.At w) (hf : ∀ b, y.foot b → n ≤ b) (hn : W + 2 ≤ n) : Two W { x with qc := y } w :=
  ⟨⟨h.at_.bat, h.at_.hdr, h.at_.cert, h.at_.blk, hy⟩, fun b hb => by
    rcases hb with hb | hb | hb | hb | hb
    · exact h.off b (Or.inl hb)
    · exact h.off b (Or.inr (Or.inl hb))
    · exact h.off b (Or.inr (Or.inr (Or.inl hb)))
    · exact h.off b (Or.inr (Or.inr (Or.inr (Or.inl hb))))
    · have := hf b hb
      omega⟩

set_option maxRecDepth 100000 in
set_option maxHeartbeats 8000000 in
theorem own9_any (x : MsgM) (w : World) (hA : x.At w) (hL : x.Lens) :
    Calls Tryz.prog 7 #[x.v] w fun e w' => GotOwnM w x e w' := by
  obtain ⟨ki, dg, vi, tg, ba, he, ce, bl, q⟩ := x
  obtain ⟨hX1, hZ1, hB1⟩ := two_new w 39 39 [.int .i64 ki, .string dg, .int .i64 vi, .int .i64 tg.who, .string tg.mac, .int .i64 ba.author, .int .i64 ba.number, .slice ba.ta ba.txs.length ba.tc, .int .i64 he.author, .int .i64 he.round, .slice he.ra he.refs.length he.rc, .slice he.pa he.parents.length he.pc, .int .i64 ce.hdr.author, .int .i64 ce.hdr.round, .slice ce.hdr.ra ce.hdr.refs.length ce.hdr.rc, .slice ce.hdr.pa ce.hdr.parents.length ce.hdr.pc, .slice ce.va ce.votes.length ce.vc, .int .i64 bl.view, .int .i64 bl.qc.view, .string bl.qc.block, .slice bl.qc.va bl.qc.votes.length bl.qc.vc, .slice bl.ca bl.certs.length bl.cc, .int .i64 q.view, .string q.block, .slice q.va q.votes.length q.vc] [.int .i64 0, .string ⟨#[]⟩, .int .i64 0, .int .i64 0, .string ⟨#[]⟩, .int .i64 0, .int .i64 0, .slice none 0 0, .int .i64 0, .int .i64 0, .slice none 0 0, .slice none 0 0, .int .i64 0, .int .i64 0, .slice none 0 0, .slice none 0 0, .slice none 0 0, .int .i64 0, .int .i64 0, .string ⟨#[]⟩, .slice none 0 0, .slice none 0 0, .int .i64 0, .string ⟨#[]⟩, .slice none 0 0]
  have hl : ∀ b, MsgM.foot ⟨ki, dg, vi, tg, ba, he, ce, bl, q⟩ b → b ≠ w.heap.size ∧ b ≠ w.heap.size + 1 := fun b hb => by have : b < w.heap.size := Kind.lt msgK hA hb; omega
  have hT1 : Two w.heap.size ⟨ki, dg, vi, tg, ba, he, ce, bl, q⟩ _ := ⟨hA.below hB1, hl⟩
  have c1 := fun w1 (h1 : BatM.At w1 ba) => own05n_any ba.author ba.number ba.ta ba.txs ba.tc w1 h1.txs.txs hL.tx hL.txs
  have c2 := fun w1 h1 => own6_any he w1 h1 hL.hdr
  have c3 := fun w1 h1 => own7_any ce w1 h1 hL.cert hL.votes
  have c4 := fun w1 h1 => ownBlk_any bl w1 h1 hL.bvotes hL.certs
  have c5 := fun w1 h1 => ownQc_any q w1 h1 hL.qvotes
  unfold batV at c1
  unfold HdrM.v at c2
  unfold CertM.v at c3
  unfold BlkM.v at c4
  unfold QcM.v at c5
  obtain ⟨w1, hw1⟩ : ∃ q', (w.alloc (.cells [.int .i64 ki, .string dg, .int .i64 vi, .int .i64 tg.who, .string tg.mac, .int .i64 ba.author, .int .i64 ba.number, .slice ba.ta ba.txs.length ba.tc, .int .i64 he.author, .int .i64 he.round, .slice he.ra he.refs.length he.rc, .slice he.pa he.parents.length he.pc, .int .i64 ce.hdr.author, .int .i64 ce.hdr.round, .slice ce.hdr.ra ce.hdr.refs.length ce.hdr.rc, .slice ce.hdr.pa ce.hdr.parents.length ce.hdr.pc, .slice ce.va ce.votes.length ce.vc, .int .i64 bl.view, .int .i64 bl.qc.view, .string bl.qc.block, .slice bl.qc.va bl.qc.votes.length bl.qc.vc, .slice bl.ca bl.certs.length bl.cc, .int .i64 q.view, .string q.block, .slice q.va q.votes.length q.vc].toArray 39)).alloc (.cells [.int .i64 0, .string ⟨#[]⟩, .int .i64 0, .int .i64 0, .string ⟨#[]⟩, .int .i64 0, .int .i64 0, .slice none 0 0, .int .i64 0, .int .i64 0, .slice none 0 0, .slice none 0 0, .int .i64 0, .int .i64 0, .slice none 0 0, .slice none 0 0, .slice none 0 0, .int .i64 0, .int .i64 0, .string ⟨#[]⟩, .slice none 0 0, .slice none 0 0, .int .i64 0, .string ⟨#[]⟩, .slice none 0 0].toArray 39) = q' := ⟨_, rfl⟩
  have hs1 : w.heap.size + 2 ≤ w1.heap.size := by rw [← hw1, alloc_size, alloc_size]; omega
  rw [hw1] at hX1 hZ1 hB1 hT1
  clear hA hL hl
  unfold MsgM.v MsgM.c
  simp only
  have x5 := hX1.cell (i := 5) rfl
  have x6 := hX1.cell (i := 6) rfl
  have x7 := hX1.cell (i := 7) rfl
  go_enter Tryz.func7, Tryz.ntmps7
  go_wp2_with fail
  refine (c1 _ hT1.at_.bat).mono ?_
  rintro e w1b ⟨ybat, rfl, hd1, hy1, hf1, hb1⟩
  unfold BatM.v
  have hX1b := hX1.below hb1 hX1.lt
  have hZ1b := hZ1.below hb1 hZ1.lt
  have hB1b := hB1.trans (hb1.mono hB1.size)
  have hT1b : Two w.heap.size ⟨ki, dg, vi, tg, ybat, he, ce, bl, q⟩ w1b := (hT1.below hb1).bat hy1 hf1 hs1
  have hg1 : ∀ b, rowFoot txK ybat.ta ybat.txs b → w.heap.size ≤ b := fun b hb => by have := hf1 b hb; omega
  have hs1b : w.heap.size + 2 ≤ w1b.heap.size := Nat.le_trans hs1 hb1.size
  clear c1 hX1 hZ1 hB1 hT1 hy1 hf1 hb1 hs1 x5 x6 x7 hw1
  have x5 := hX1b.cell (i := 5) rfl
  have x6 := hX1b.cell (i := 6) rfl
  have x7 := hX1b.cell (i := 7) rfl
  have f5 := hX1b.frozen 5
  have f6 := hX1b.frozen 6
  have f7 := hX1b.frozen 7
  have hX2 := (((hX1b.set 5 (.int .i64 ybat.author)).set 6 (.int .i64 ybat.number)).set 7 (.slice ybat.ta ybat.txs.length ybat.tc))
  have kk := ((((Kept.refl (fun k => k = w.heap.size) w1b).set (p := ⟨w.heap.size, 5, none⟩) rfl (.int .i64 ybat.author)).set (p := ⟨w.heap.size, 6, none⟩) rfl (.int .i64 ybat.number)).set (p := ⟨w.heap.size, 7, none⟩) rfl (.slice ybat.ta ybat.txs.length ybat.tc))
  have hZ2 := hZ1b.kept kk (by omega)
  have hT2 := hT1b.kept kk (fun j e => Or.inl e)
  have hB2 := (((hB1b.setCell (p := ⟨w.heap.size, 5, none⟩) (Nat.le_refl _) (.int .i64 ybat.author)).setCell (p := ⟨w.heap.size, 6, none⟩) (Nat.le_refl _) (.int .i64 ybat.number)).setCell (p := ⟨w.heap.size, 7, none⟩) (Nat.le_refl _) (.slice ybat.ta ybat.txs.length ybat.tc))
  have hs2 : w.heap.size + 2 ≤ _ := Nat.le_trans hs1b kk.size
  obtain ⟨w2, hw2⟩ : ∃ q', (((w1b.setCell ⟨w.heap.size, 5, none⟩ (.int .i64 ybat.author)).setCell ⟨w.heap.size, 6, none⟩ (.int .i64 ybat.number)).setCell ⟨w.heap.size, 7, none⟩ (.slice ybat.ta ybat.txs.length ybat.tc)) = q' := ⟨_, rfl⟩
  rw [hw2] at hX2 hZ2 hT2 hB2 hs2
  replace hX2 : Arr w2 w.heap.size 39 [.int .i64 ki, .string dg, .int .i64 vi, .int .i64 tg.who, .string tg.mac, .int .i64 ybat.author, .int .i64 ybat.number, .slice ybat.ta ybat.txs.length ybat.tc, .int .i64 he.author, .int .i64 he.round, .slice he.ra he.refs.length he.rc, .slice he.pa he.parents.length he.pc, .int .i64 ce.hdr.author, .int .i64 ce.hdr.round, .slice ce.hdr.ra ce.hdr.refs.length ce.hdr.rc, .slice ce.hdr.pa ce.hdr.parents.length ce.hdr.pc, .slice ce.va ce.votes.length ce.vc, .int .i64 bl.view, .int .i64 bl.qc.view, .string bl.qc.block, .slice bl.qc.va bl.qc.votes.length bl.qc.vc, .slice bl.ca bl.certs.length bl.cc, .int .i64 q.view, .string q.block, .slice q.va q.votes.length q.vc] := hX2
  clear hX1b hZ1b hB1b hT1b hs1b kk
  have u8 := hX2.cell (i := 8) rfl
  have u9 := hX2.cell (i := 9) rfl
  have u10 := hX2.cell (i := 10) rfl
  have u11 := hX2.cell (i := 11) rfl
  go_wp2_with fail
  clear x5 x6 x7 f5 f6 f7 u8 u9 u10 u11
  have x8 := hX2.cell (i := 8) rfl
  have x9 := hX2.cell (i := 9) rfl
  have x10 := hX2.cell (i := 10) rfl
  have x11 := hX2.cell (i := 11) rfl
  refine (c2 _ hT2.at_.hdr).mono ?_
  rintro e w2b ⟨yhdr, rfl, hd2, hy2, hf2, hb2⟩
  unfold HdrM.v
  have hX2b := hX2.below hb2 hX2.lt
  have hZ2b := hZ2.below hb2 hZ2.lt
  have hB2b := hB2.trans (hb2.mono hB2.size)
  have hT2b : Two w.heap.size ⟨ki, dg, vi, tg, ybat, yhdr, ce, bl, q⟩ w2b := (hT2.below hb2).hdr hy2 hf2 hs2
  have hg2 : ∀ b, yhdr.foot b → w.heap.size ≤ b := fun b hb => by have := hf2 b hb; omega
  have hs2b : w.heap.size + 2 ≤ w2b.heap.size := Nat.le_trans hs2 hb2.size
  clear c2 hX2 hZ2 hB2 hT2 hy2 hf2 hb2 hs2 x8 x9 x10 x11 hw2
  have x8 := hX2b.cell (i := 8) rfl
  have x9 := hX2b.cell (i := 9) rfl
  have x10 := hX2b.cell (i := 10) rfl
  have x11 := hX2b.cell (i := 11) rfl
  have f8 := hX2b.frozen 8
  have f9 := hX2b.frozen 9
  have f10 := hX2b.frozen 10
  have f11 := hX2b.frozen 11
  have hX3 := ((((hX2b.set 8 (.int .i64 yhdr.author)).set 9 (.int .i64 yhdr.round)).set 10 (.slice yhdr.ra yhdr.refs.length yhdr.rc)).set 11 (.slice yhdr.pa yhdr.parents.length yhdr.pc))
  have kk := (((((Kept.refl (fun k => k = w.heap.size) w2b).set (p := ⟨w.heap.size, 8, none⟩) rfl (.int .i64 yhdr.author)).set (p := ⟨w.heap.size, 9, none⟩) rfl (.int .i64 yhdr.round)).set (p := ⟨w.heap.size, 10, none⟩) rfl (.slice yhdr.ra yhdr.refs.length yhdr.rc)).set (p := ⟨w.heap.size, 11, none⟩) rfl (.slice yhdr.pa yhdr.parents.length yhdr.pc))
  have hZ3 := hZ2b.kept kk (by omega)
  have hT3 := hT2b.kept kk (fun j e => Or.inl e)
  have hB3 := ((((hB2b.setCell (p := ⟨w.heap.size, 8, none⟩) (Nat.le_refl _) (.int .i64 yhdr.author)).setCell (p := ⟨w.heap.size, 9, none⟩) (Nat.le_refl _) (.int .i64 yhdr.round)).setCell (p := ⟨w.heap.size, 10, none⟩) (Nat.le_refl _) (.slice yhdr.ra yhdr.refs.length yhdr.rc)).setCell (p := ⟨w.heap.size, 11, none⟩) (Nat.le_refl _) (.slice yhdr.pa yhdr.parents.length yhdr.pc))
  have hs3 : w.heap.size + 2 ≤ _ := Nat.le_trans hs2b kk.size
  obtain ⟨w3, hw3⟩ : ∃ q', ((((w2b.setCell ⟨w.heap.size, 8, none⟩ (.int .i64 yhdr.author)).setCell ⟨w.heap.size, 9, none⟩ (.int .i64 yhdr.round)).setCell ⟨w.heap.size, 10, none⟩ (.slice yhdr.ra yhdr.refs.length yhdr.rc)).setCell ⟨w.heap.size, 11, none⟩ (.slice yhdr.pa yhdr.parents.length yhdr.pc)) = q' := ⟨_, rfl⟩
  rw [hw3] at hX3 hZ3 hT3 hB3 hs3
  replace hX3 : Arr w3 w.heap.size 39 [.int .i64 ki, .string dg, .int .i64 vi, .int .i64 tg.who, .string tg.mac, .int .i64 ybat.author, .int .i64 ybat.number, .slice ybat.ta ybat.txs.length ybat.tc, .int .i64 yhdr.author, .int .i64 yhdr.round, .slice yhdr.ra yhdr.refs.length yhdr.rc, .slice yhdr.pa yhdr.parents.length yhdr.pc, .int .i64 ce.hdr.author, .int .i64 ce.hdr.round, .slice ce.hdr.ra ce.hdr.refs.length ce.hdr.rc, .slice ce.hdr.pa ce.hdr.parents.length ce.hdr.pc, .slice ce.va ce.votes.length ce.vc, .int .i64 bl.view, .int .i64 bl.qc.view, .string bl.qc.block, .slice bl.qc.va bl.qc.votes.length bl.qc.vc, .slice bl.ca bl.certs.length bl.cc, .int .i64 q.view, .string q.block, .slice q.va q.votes.length q.vc] := hX3
  clear hX2b hZ2b hB2b hT2b hs2b kk
  have u12 := hX3.cell (i := 12) rfl
  have u13 := hX3.cell (i := 13) rfl
  have u14 := hX3.cell (i := 14) rfl
  have u15 := hX3.cell (i := 15) rfl
  have u16 := hX3.cell (i := 16) rfl
  go_wp2_with fail
  clear x8 x9 x10 x11 f8 f9 f10 f11 u12 u13 u14 u15 u16
  have x12 := hX3.cell (i := 12) rfl
  have x13 := hX3.cell (i := 13) rfl
  have x14 := hX3.cell (i := 14) rfl
  have x15 := hX3.cell (i := 15) rfl
  have x16 := hX3.cell (i := 16) rfl
  refine (c3 _ hT3.at_.cert).mono ?_
  rintro e w3b ⟨ycert, rfl, hd3, hy3, hf3, hb3⟩
  unfold CertM.v
  have hX3b := hX3.below hb3 hX3.lt
  have hZ3b := hZ3.below hb3 hZ3.lt
  have hB3b := hB3.trans (hb3.mono hB3.size)
  have hT3b : Two w.heap.size ⟨ki, dg, vi, tg, ybat, yhdr, ycert, bl, q⟩ w3b := (hT3.below hb3).cert hy3 hf3 hs3
  have hg3 : ∀ b, ycert.foot b → w.heap.size ≤ b := fun b hb => by have := hf3 b hb; omega
  have hs3b : w.heap.size + 2 ≤ w3b.heap.size := Nat.le_trans hs3 hb3.size
  clear c3 hX3 hZ3 hB3 hT3 hy3 hf3 hb3 hs3 x12 x13 x14 x15 x16 hw3
  have x12 := hX3b.cell (i := 12) rfl
  have x13 := hX3b.cell (i := 13) rfl
  have x14 := hX3b.cell (i := 14) rfl
  have x15 := hX3b.cell (i := 15) rfl
  have x16 := hX3b.cell (i := 16) rfl
  have f12 := hX3b.frozen 12
  have f13 := hX3b.frozen 13
  have f14 := hX3b.frozen 14
  have f15 := hX3b.frozen 15
  have f16 := hX3b.frozen 16
  have hX4 := (((((hX3b.set 12 (.int .i64 ycert.hdr.author)).set 13 (.int .i64 ycert.hdr.round)).set 14 (.slice ycert.hdr.ra ycert.hdr.refs.length ycert.hdr.rc)).set 15 (.slice ycert.hdr.pa ycert.hdr.parents.length ycert.hdr.pc)).set 16 (.slice ycert.va ycert.votes.length ycert.vc))
  have kk := ((((((Kept.refl (fun k => k = w.heap.size) w3b).set (p := ⟨w.heap.size, 12, none⟩) rfl (.int .i64 ycert.hdr.author)).set (p := ⟨w.heap.size, 13, none⟩) rfl (.int .i64 ycert.hdr.round)).set (p := ⟨w.heap.size, 14, none⟩) rfl (.slice ycert.hdr.ra ycert.hdr.refs.length ycert.hdr.rc)).set (p := ⟨w.heap.size, 15, none⟩) rfl (.slice ycert.hdr.pa ycert.hdr.parents.length ycert.hdr.pc)).set (p := ⟨w.heap.size, 16, none⟩) rfl (.slice ycert.va ycert.votes.length ycert.vc))
  have hZ4 := hZ3b.kept kk (by omega)
  have hT4 := hT3b.kept kk (fun j e => Or.inl e)
  have hB4 := (((((hB3b.setCell (p := ⟨w.heap.size, 12, none⟩) (Nat.le_refl _) (.int .i64 ycert.hdr.author)).setCell (p := ⟨w.heap.size, 13, none⟩) (Nat.le_refl _) (.int .i64 ycert.hdr.round)).setCell (p := ⟨w.heap.size, 14, none⟩) (Nat.le_refl _) (.slice ycert.hdr.ra ycert.hdr.refs.length ycert.hdr.rc)).setCell (p := ⟨w.heap.size, 15, none⟩) (Nat.le_refl _) (.slice ycert.hdr.pa ycert.hdr.parents.length ycert.hdr.pc)).setCell (p := ⟨w.heap.size, 16, none⟩) (Nat.le_refl _) (.slice ycert.va ycert.votes.length ycert.vc))
  have hs4 : w.heap.size + 2 ≤ _ := Nat.le_trans hs3b kk.size
  obtain ⟨w4, hw4⟩ : ∃ q', (((((w3b.setCell ⟨w.heap.size, 12, none⟩ (.int .i64 ycert.hdr.author)).setCell ⟨w.heap.size, 13, none⟩ (.int .i64 ycert.hdr.round)).setCell ⟨w.heap.size, 14, none⟩ (.slice ycert.hdr.ra ycert.hdr.refs.length ycert.hdr.rc)).setCell ⟨w.heap.size, 15, none⟩ (.slice ycert.hdr.pa ycert.hdr.parents.length ycert.hdr.pc)).setCell ⟨w.heap.size, 16, none⟩ (.slice ycert.va ycert.votes.length ycert.vc)) = q' := ⟨_, rfl⟩
  rw [hw4] at hX4 hZ4 hT4 hB4 hs4
  replace hX4 : Arr w4 w.heap.size 39 [.int .i64 ki, .string dg, .int .i64 vi, .int .i64 tg.who, .string tg.mac, .int .i64 ybat.author, .int .i64 ybat.number, .slice ybat.ta ybat.txs.length ybat.tc, .int .i64 yhdr.author, .int .i64 yhdr.round, .slice yhdr.ra yhdr.refs.length yhdr.rc, .slice yhdr.pa yhdr.parents.length yhdr.pc, .int .i64 ycert.hdr.author, .int .i64 ycert.hdr.round, .slice ycert.hdr.ra ycert.hdr.refs.length ycert.hdr.rc, .slice ycert.hdr.pa ycert.hdr.parents.length ycert.hdr.pc, .slice ycert.va ycert.votes.length ycert.vc, .int .i64 bl.view, .int .i64 bl.qc.view, .string bl.qc.block, .slice bl.qc.va bl.qc.votes.length bl.qc.vc, .slice bl.ca bl.certs.length bl.cc, .int .i64 q.view, .string q.block, .slice q.va q.votes.length q.vc] := hX4
  clear hX3b hZ3b hB3b hT3b hs3b kk
  have u17 := hX4.cell (i := 17) rfl
  have u18 := hX4.cell (i := 18) rfl
  have u19 := hX4.cell (i := 19) rfl
  have u20 := hX4.cell (i := 20) rfl
  have u21 := hX4.cell (i := 21) rfl
  go_wp2_with fail
  clear x12 x13 x14 x15 x16 f12 f13 f14 f15 f16 u17 u18 u19 u20 u21
  have x17 := hX4.cell (i := 17) rfl
  have x18 := hX4.cell (i := 18) rfl
  have x19 := hX4.cell (i := 19) rfl
  have x20 := hX4.cell (i := 20) rfl
  have x21 := hX4.cell (i := 21) rfl
  refine (c4 _ hT4.at_.blk).mono ?_
  rintro e w4b ⟨yblk, rfl, hd4, hy4, hf4, hb4⟩
  unfold BlkM.v
  have hX4b := hX4.below hb4 hX4.lt
  have hZ4b := hZ4.below hb4 hZ4.lt
  have hB4b := hB4.trans (hb4.mono hB4.size)
  have hT4b : Two w.heap.size ⟨ki, dg, vi, tg, ybat, yhdr, ycert, yblk, q⟩ w4b := (hT4.below hb4).blk hy4 hf4 hs4
  have hg4 : ∀ b, yblk.foot b → w.heap.size ≤ b := fun b hb => by have := hf4 b hb; omega
  have hs4b : w.heap.size + 2 ≤ w4b.heap.size := Nat.le_trans hs4 hb4.size
  clear c4 hX4 hZ4 hB4 hT4 hy4 hf4 hb4 hs4 x17 x18 x19 x20 x21 hw4
  have x17 := hX4b.cell (i := 17) rfl
  have x18 := hX4b.cell (i := 18) rfl
  have x19 := hX4b.cell (i := 19) rfl
  have x20 := hX4b.cell (i := 20) rfl
  have x21 := hX4b.cell (i := 21) rfl
  have f17 := hX4b.frozen 17
  have f18 := hX4b.frozen 18
  have f19 := hX4b.frozen 19
  have f20 := hX4b.frozen 20
  have f21 := hX4b.frozen 21
  have hX5 := (((((hX4b.set 17 (.int .i64 yblk.view)).set 18 (.int .i64 yblk.qc.view)).set 19 (.string yblk.qc.block)).set 20 (.slice yblk.qc.va yblk.qc.votes.length yblk.qc.vc)).set 21 (.slice yblk.ca yblk.certs.length yblk.cc))
  have kk := ((((((Kept.refl (fun k => k = w.heap.size) w4b).set (p := ⟨w.heap.size, 17, none⟩) rfl (.int .i64 yblk.view)).set (p := ⟨w.heap.size, 18, none⟩) rfl (.int .i64 yblk.qc.view)).set (p := ⟨w.heap.size, 19, none⟩) rfl (.string yblk.qc.block)).set (p := ⟨w.heap.size, 20, none⟩) rfl (.slice yblk.qc.va yblk.qc.votes.length yblk.qc.vc)).set (p := ⟨w.heap.size, 21, none⟩) rfl (.slice yblk.ca yblk.certs.length yblk.cc))
  have hZ5 := hZ4b.kept kk (by omega)
  have hT5 := hT4b.kept kk (fun j e => Or.inl e)
  have hB5 := (((((hB4b.setCell (p := ⟨w.heap.size, 17, none⟩) (Nat.le_refl _) (.int .i64 yblk.view)).setCell (p := ⟨w.heap.size, 18, none⟩) (Nat.le_refl _) (.int .i64 yblk.qc.view)).setCell (p := ⟨w.heap.size, 19, none⟩) (Nat.le_refl _) (.string yblk.qc.block)).setCell (p := ⟨w.heap.size, 20, none⟩) (Nat.le_refl _) (.slice yblk.qc.va yblk.qc.votes.length yblk.qc.vc)).setCell (p := ⟨w.heap.size, 21, none⟩) (Nat.le_refl _) (.slice yblk.ca yblk.certs.length yblk.cc))
  have hs5 : w.heap.size + 2 ≤ _ := Nat.le_trans hs4b kk.size
  obtain ⟨w5, hw5⟩ : ∃ q', (((((w4b.setCell ⟨w.heap.size, 17, none⟩ (.int .i64 yblk.view)).setCell ⟨w.heap.size, 18, none⟩ (.int .i64 yblk.qc.view)).setCell ⟨w.heap.size, 19, none⟩ (.string yblk.qc.block)).setCell ⟨w.heap.size, 20, none⟩ (.slice yblk.qc.va yblk.qc.votes.length yblk.qc.vc)).setCell ⟨w.heap.size, 21, none⟩ (.slice yblk.ca yblk.certs.length yblk.cc)) = q' := ⟨_, rfl⟩
  rw [hw5] at hX5 hZ5 hT5 hB5 hs5
  replace hX5 : Arr w5 w.heap.size 39 [.int .i64 ki, .string dg, .int .i64 vi, .int .i64 tg.who, .string tg.mac, .int .i64 ybat.author, .int .i64 ybat.number, .slice ybat.ta ybat.txs.length ybat.tc, .int .i64 yhdr.author, .int .i64 yhdr.round, .slice yhdr.ra yhdr.refs.length yhdr.rc, .slice yhdr.pa yhdr.parents.length yhdr.pc, .int .i64 ycert.hdr.author, .int .i64 ycert.hdr.round, .slice ycert.hdr.ra ycert.hdr.refs.length ycert.hdr.rc, .slice ycert.hdr.pa ycert.hdr.parents.length ycert.hdr.pc, .slice ycert.va ycert.votes.length ycert.vc, .int .i64 yblk.view, .int .i64 yblk.qc.view, .string yblk.qc.block, .slice yblk.qc.va yblk.qc.votes.length yblk.qc.vc, .slice yblk.ca yblk.certs.length yblk.cc, .int .i64 q.view, .string q.block, .slice q.va q.votes.length q.vc] := hX5
  clear hX4b hZ4b hB4b hT4b hs4b kk
  have u22 := hX5.cell (i := 22) rfl
  have u23 := hX5.cell (i := 23) rfl
  have u24 := hX5.cell (i := 24) rfl
  go_wp2_with fail
  clear x17 x18 x19 x20 x21 f17 f18 f19 f20 f21 u22 u23 u24
  have x22 := hX5.cell (i := 22) rfl
  have x23 := hX5.cell (i := 23) rfl
  have x24 := hX5.cell (i := 24) rfl
  refine (c5 _ hT5.at_.qc).mono ?_
  rintro e w5b ⟨yqc, rfl, hd5, hy5, hf5, hb5⟩
  unfold QcM.v
  have hX5b := hX5.below hb5 hX5.lt
  have hZ5b := hZ5.below hb5 hZ5.lt
  have hB5b := hB5.trans (hb5.mono hB5.size)
  have hT5b : Two w.heap.size ⟨ki, dg, vi, tg, ybat, yhdr, ycert, yblk, yqc⟩ w5b := (hT5.below hb5).qc hy5 hf5 hs5
  have hg5 : ∀ b, yqc.foot b → w.heap.size ≤ b := fun b hb => by have := hf5 b hb; omega
  have hs5b : w.heap.size + 2 ≤ w5b.heap.size := Nat.le_trans hs5 hb5.size
  clear c5 hX5 hZ5 hB5 hT5 hy5 hf5 hb5 hs5 x22 x23 x24 hw5
  have x22 := hX5b.cell (i := 22) rfl
  have x23 := hX5b.cell (i := 23) rfl
  have x24 := hX5b.cell (i := 24) rfl
  have f22 := hX5b.frozen 22
  have f23 := hX5b.frozen 23
  have f24 := hX5b.frozen 24
  have hX6 := (((hX5b.set 22 (.int .i64 yqc.view)).set 23 (.string yqc.block)).set 24 (.slice yqc.va yqc.votes.length yqc.vc))
  have kk := ((((Kept.refl (fun k => k = w.heap.size) w5b).set (p := ⟨w.heap.size, 22, none⟩) rfl (.int .i64 yqc.view)).set (p := ⟨w.heap.size, 23, none⟩) rfl (.string yqc.block)).set (p := ⟨w.heap.size, 24, none⟩) rfl (.slice yqc.va yqc.votes.length yqc.vc))
  have hZ6 := hZ5b.kept kk (by omega)
  have hT6 := hT5b.kept kk (fun j e => Or.inl e)
  have hB6 := (((hB5b.setCell (p := ⟨w.heap.size, 22, none⟩) (Nat.le_refl _) (.int .i64 yqc.view)).setCell (p := ⟨w.heap.size, 23, none⟩) (Nat.le_refl _) (.string yqc.block)).setCell (p := ⟨w.heap.size, 24, none⟩) (Nat.le_refl _) (.slice yqc.va yqc.votes.length yqc.vc))
  have hs6 : w.heap.size + 2 ≤ _ := Nat.le_trans hs5b kk.size
  obtain ⟨w6, hw6⟩ : ∃ q', (((w5b.setCell ⟨w.heap.size, 22, none⟩ (.int .i64 yqc.view)).setCell ⟨w.heap.size, 23, none⟩ (.string yqc.block)).setCell ⟨w.heap.size, 24, none⟩ (.slice yqc.va yqc.votes.length yqc.vc)) = q' := ⟨_, rfl⟩
  rw [hw6] at hX6 hZ6 hT6 hB6 hs6
  replace hX6 : Arr w6 w.heap.size 39 [.int .i64 ki, .string dg, .int .i64 vi, .int .i64 tg.who, .string tg.mac, .int .i64 ybat.author, .int .i64 ybat.number, .slice ybat.ta ybat.txs.length ybat.tc, .int .i64 yhdr.author, .int .i64 yhdr.round, .slice yhdr.ra yhdr.refs.length yhdr.rc, .slice yhdr.pa yhdr.parents.length yhdr.pc, .int .i64 ycert.hdr.author, .int .i64 ycert.hdr.round, .slice ycert.hdr.ra ycert.hdr.refs.length ycert.hdr.rc, .slice ycert.hdr.pa ycert.hdr.parents.length ycert.hdr.pc, .slice ycert.va ycert.votes.length ycert.vc, .int .i64 yblk.view, .int .i64 yblk.qc.view, .string yblk.qc.block, .slice yblk.qc.va yblk.qc.votes.length yblk.qc.vc, .slice yblk.ca yblk.certs.length yblk.cc, .int .i64 yqc.view, .string yqc.block, .slice yqc.va yqc.votes.length yqc.vc] := hX6
  clear hX5b hZ5b hB5b hT5b hs5b kk
  have hZF := hZ6.row [.int .i64 ki, .string dg, .int .i64 vi, .int .i64 tg.who, .string tg.mac, .int .i64 ybat.author, .int .i64 ybat.number, .slice ybat.ta ybat.txs.length ybat.tc, .int .i64 yhdr.author, .int .i64 yhdr.round, .slice yhdr.ra yhdr.refs.length yhdr.rc, .slice yhdr.pa yhdr.parents.length yhdr.pc, .int .i64 ycert.hdr.author, .int .i64 ycert.hdr.round, .slice ycert.hdr.ra ycert.hdr.refs.length ycert.hdr.rc, .slice ycert.hdr.pa ycert.hdr.parents.length ycert.hdr.pc, .slice ycert.va ycert.votes.length ycert.vc, .int .i64 yblk.view, .int .i64 yblk.qc.view, .string yblk.qc.block, .slice yblk.qc.va yblk.qc.votes.length yblk.qc.vc, .slice yblk.ca yblk.certs.length yblk.cc, .int .i64 yqc.view, .string yqc.block, .slice yqc.va yqc.votes.length yqc.vc]
  have kF := kept_row w6 (w.heap.size + 1) [.int .i64 ki, .string dg, .int .i64 vi, .int .i64 tg.who, .string tg.mac, .int .i64 ybat.author, .int .i64 ybat.number, .slice ybat.ta ybat.txs.length ybat.tc, .int .i64 yhdr.author, .int .i64 yhdr.round, .slice yhdr.ra yhdr.refs.length yhdr.rc, .slice yhdr.pa yhdr.parents.length yhdr.pc, .int .i64 ycert.hdr.author, .int .i64 ycert.hdr.round, .slice ycert.hdr.ra ycert.hdr.refs.length ycert.hdr.rc, .slice ycert.hdr.pa ycert.hdr.parents.length ycert.hdr.pc, .slice ycert.va ycert.votes.length ycert.vc, .int .i64 yblk.view, .int .i64 yblk.qc.view, .string yblk.qc.block, .slice yblk.qc.va yblk.qc.votes.length yblk.qc.vc, .slice yblk.ca yblk.certs.length yblk.cc, .int .i64 yqc.view, .string yqc.block, .slice yqc.va yqc.votes.length yqc.vc].toArray
  have hTF := hT6.kept kF (fun j e => Or.inr e)
  have hBF := below_setRow hB6 (g := w.heap.size + 1) (Nat.le_succ _) [.int .i64 ki, .string dg, .int .i64 vi, .int .i64 tg.who, .string tg.mac, .int .i64 ybat.author, .int .i64 ybat.number, .slice ybat.ta ybat.txs.length ybat.tc, .int .i64 yhdr.author, .int .i64 yhdr.round, .slice yhdr.ra yhdr.refs.length yhdr.rc, .slice yhdr.pa yhdr.parents.length yhdr.pc, .int .i64 ycert.hdr.author, .int .i64 ycert.hdr.round, .slice ycert.hdr.ra ycert.hdr.refs.length ycert.hdr.rc, .slice ycert.hdr.pa ycert.hdr.parents.length ycert.hdr.pc, .slice ycert.va ycert.votes.length ycert.vc, .int .i64 yblk.view, .int .i64 yblk.qc.view, .string yblk.qc.block, .slice yblk.qc.va yblk.qc.votes.length yblk.qc.vc, .slice yblk.ca yblk.certs.length yblk.cc, .int .i64 yqc.view, .string yqc.block, .slice yqc.va yqc.votes.length yqc.vc].toArray
  have fin : ∀ e, e = .returned (MsgM.v ⟨ki, dg, vi, tg, ybat, yhdr, ycert, yblk, yqc⟩) → GotOwnM w ⟨ki, dg, vi, tg, ba, he, ce, bl, q⟩ e _ := fun e he => ⟨⟨ki, dg, vi, tg, ybat, yhdr, ycert, yblk, yqc⟩, he, (by show (⟨ki, dg, vi, tg, ybat.d, yhdr.d, ycert.d, yblk.d, yqc.d⟩ : MsgD) = _; rw [hd1, hd2, hd3, hd4, hd5]; rfl), hTF.at_, (fun b hb => by
    rcases hb with hb | hb | hb | hb | hb
    · exact hg1 b hb
    · exact hg2 b hb
    · exact hg3 b hb
    · exact hg4 b hb
    · exact hg5 b hb), hBF⟩
  clear hT6 hB6 kF hTF hBF
  have h1 : (List.toArray (α := Value) [.int .i64 ki, .string dg, .int .i64 vi, .int .i64 tg.who, .string tg.mac, .int .i64 ybat.author, .int .i64 ybat.number, .slice ybat.ta ybat.txs.length ybat.tc, .int .i64 yhdr.author, .int .i64 yhdr.round, .slice yhdr.ra yhdr.refs.length yhdr.rc, .slice yhdr.pa yhdr.parents.length yhdr.pc, .int .i64 ycert.hdr.author, .int .i64 ycert.hdr.round, .slice ycert.hdr.ra ycert.hdr.refs.length ycert.hdr.rc, .slice ycert.hdr.pa ycert.hdr.parents.length ycert.hdr.pc, .slice ycert.va ycert.votes.length ycert.vc, .int .i64 yblk.view, .int .i64 yblk.qc.view, .string yblk.qc.block, .slice yblk.qc.va yblk.qc.votes.length yblk.qc.vc, .slice yblk.ca yblk.certs.length yblk.cc, .int .i64 yqc.view, .string yqc.block, .slice yqc.va yqc.votes.length yqc.vc]).all (·.oneCell') = true := Array.all_eq_true_iff_forall_mem.2 (fun v hv => msgK.one ⟨ki, dg, vi, tg, ybat, yhdr, ycert, yblk, yqc⟩ v (List.mem_toArray.1 hv))
  go_wp2_with (first | refine wpList_load_row (by rfl) 39 _ (by rfl) w.heap.size (by rfl) 39 _ (0, 0) _ hX6 Tryz.underlying39 (by rfl) infoMsg9 ?_ | refine wpList_store_row (by rfl) 39 _ _ (by rfl) (w.heap.size + 1) [.int .i64 ki, .string dg, .int .i64 vi, .int .i64 tg.who, .string tg.mac, .int .i64 ybat.author, .int .i64 ybat.number, .slice ybat.ta ybat.txs.length ybat.tc, .int .i64 yhdr.author, .int .i64 yhdr.round, .slice yhdr.ra yhdr.refs.length yhdr.rc, .slice yhdr.pa yhdr.parents.length yhdr.pc, .int .i64 ycert.hdr.author, .int .i64 ycert.hdr.round, .slice ycert.hdr.ra ycert.hdr.refs.length ycert.hdr.rc, .slice ycert.hdr.pa ycert.hdr.parents.length ycert.hdr.pc, .slice ycert.va ycert.votes.length ycert.vc, .int .i64 yblk.view, .int .i64 yblk.qc.view, .string yblk.qc.block, .slice yblk.qc.va yblk.qc.votes.length yblk.qc.vc, .slice yblk.ca yblk.certs.length yblk.cc, .int .i64 yqc.view, .string yqc.block, .slice yqc.va yqc.votes.length yqc.vc].toArray (by rfl) (by rfl) 39 _ hZ6 infoMsg9 (by rfl) h1 ?_)
  refine bodyPost_ret (v := MsgM.v ⟨ki, dg, vi, tg, ybat, yhdr, ycert, yblk, yqc⟩) ?r1 ?r2 ?r3
  case r1 => exact results_msgO rfl _ _ (w.heap.size + 1) ⟨ki, dg, vi, tg, ybat, yhdr, ycert, yblk, yqc⟩ rfl hZF
  case r2 => rfl
  exact fin _ rfl
end Go.Proofs.YtaoiejgbbmjpkaaGreatDoor
