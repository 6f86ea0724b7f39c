/- CertChecks: for every input the statement answers true, and each argument reads afterwards as it read before. Condition: the two tables of package mix read as the program's text lays them; and what the arguments hold is together of bulk at most 1048576. -/
import Derived.Test.YtjebfkgigijnhaaDoorKinds
import Derived.Test.YtjebfkgigijnhaaDoorHdrDecode
import Derived.Test.YtjebfkgigijnhaaDoorCertRows
import Derived.Deep.RegionHeld3
import Derived.Test.YtjebfkgigijnhaaDoorHdrRows
import Derived.Deep.QuietTactic
import Derived.BigQuiet
import Derived.Test.YtjebfkgigijnhaaDoorHdrWorks
import Derived.Test.YtjebfkgigijnhaaDoorRefHdrSame
import Derived.Test.YtjebfkgigijnhaaDoorRefCert
import Derived.Test.YtjebfkgigijnhaaDoorCertSame
import Derived.Test.YtjebfkgigijnhaaDoorHdrOpen
import Derived.Test.YtjebfkgigijnhaaDoorFrame
import Derived.JoinedCond
import Derived.Test.YtjebfkgigijnhaaDoorHdrEncode
import Derived.Test.YtjebfkgigijnhaaDoorCertEncode
import Derived.Test.YtjebfkgigijnhaaDoorMixAll
import Derived.Test.YtjebfkgigijnhaaDoorCards
import Derived.Test.YtjebfkgigijnhaaDoorTie
import Derived.SevenTiedAt
import Derived.Deep.DeepHandedRow
/- append(q, xs...) of a row's elements, at a step of a region that draws its order. -/
namespace Go.Proofs.YtjebfkgigijnhaaDoor
open Go.RowKit
set_option linter.unusedVariables false

section
variable {α : Type} {K : Kind α}

/-- The same, as an equation of the run. -/
theorem run_copy {P : Program} (w : World) (t ty : TypeId) (base : Nat) (e : TypeId) (i : TypeInfo) (z : Value) (bytes : Nat) (ht : P.underlying t = some (.slice e)) (hi : P.info? e = some i) (hz : i.zero = some z)
    (hsize : i.size = K.n) (hby : i.bytes = bytes) (hzs : z.cells.size = K.n)
    (v : Value) (hown : w.ownsRow base e K.n v 0 []) (ao : Option Addr) (cap : Nat) (l : List α)
    (hS : RowAt K w ao l) (hf : ∀ x ∈ l, ∀ b, K.foot x b → b < base) (hnil : ao = none → cap = 0) (hm : l.length ≤ maxLen) (hlen : l.length * bytes ≤ 140737488355328) (hbase : base ≤ w.heap.size) :
    ∃ ao' cap' w', (Builtin.append_ #[t, t] ty #[v, .slice ao l.length cap]).run P w = .ok (.slice ao' l.length cap') w' ∧ RowAt K w' ao' l ∧ (ao' = none → cap' = 0) ∧ (l ≠ [] → ∀ b off, ao' = some ⟨b, off, none⟩ → base ≤ b) ∧ Below base w w' := by
  cases ao with
  | none =>
    have hc0 := hnil rfl
    subst hc0
    have hss : l = [] := by
      cases l with
      | nil => rfl
      | cons y r => obtain ⟨_, _, e, _⟩ := hS.cell 0 y rfl; cases e
    subst hss
    have hrun := run_append_owned_none (P := P) (w := w) base t ty e i K.n ht hi v 0 [] hown
    rcases hown.2 with ⟨hv, _⟩ | ⟨g, c, cur, hv, _⟩
    · rw [hv] at hrun ⊢
      exact ⟨none, 0, w, hrun, nil_row _ _, fun _ => rfl, fun hne => absurd rfl hne, Below.refl _ _⟩
    · rw [hv] at hrun ⊢
      exact ⟨_, c, w, hrun, nil_row _ _, (fun e => by cases e), fun hne => absurd rfl hne, Below.refl _ _⟩
  | some ad =>
    obtain ⟨v', w', hrun, hown', hgrow, _⟩ := run_append_own (P := P) w base t ty e i z K.n bytes ht hi hz hsize hby hzs K.pos v 0 [] hown ad l.length cap (flatK K l) (flatK_length K l) hS.news (flatK_one K l) (by omega) (by rw [Nat.zero_add]; exact hlen) hbase
    have hb := (Below.refl base w).grown hgrow hbase (fun q hq => (hown.lt q hq).1)
    rw [Nat.zero_add, List.nil_append] at hown'
    have hA : ∀ x ∈ l, K.At w' x := fun x hx => K.keep (hS.at_ x hx) (fun b hb' => hb.block b (hf x hx b hb'))
    have hq := QRow.of_own hown'
    obtain ⟨ao', cap', rfl, _, _⟩ := hq.form
    refine ⟨ao', cap', w', hrun, hq.rowAt rfl hA, ?_, ?_, hb⟩
    · intro he
      rcases hown'.2 with ⟨hv, _⟩ | ⟨g, c, cur, hv, _⟩
      · simp at hv; exact hv.2.2
      · simp at hv; rw [hv.1] at he; cases he
    · intro hne b off he
      exact (hown'.lt b (by rw [he]; rfl)).1

/-- The same, at a step of a region that draws its order. -/
theorem step_copy {P : Program} (w : World) {ops : Array Oper} {o : Oper} {a : Act} {C : Act → World → Prop} {Q : Exit → Act → World → Prop} {E : Prop} (hgd : o.guard = none) (s x : Operand) (t : TypeId)
    (ho : o.op = .call { callee := .builtin .append, args := #[s, x], argTypes := #[t, t] })
    (base : Nat) (e : TypeId) (i : TypeInfo) (z : Value) (bytes : Nat) (ht : P.underlying t = some (.slice e)) (hi : P.info? e = some i) (hz : i.zero = some z)
    (hsize : i.size = K.n) (hby : i.bytes = bytes) (hzs : z.cells.size = K.n)
    (v : Value) (hs : a.eval s = v) (hown : w.ownsRow base e K.n v 0 []) (ao : Option Addr) (cap : Nat) (l : List α) (hx : a.eval x = .slice ao l.length cap)
    (hS : RowAt K w ao l) (hf : ∀ x ∈ l, ∀ b, K.foot x b → b < base) (hnil : ao = none → cap = 0) (hm : l.length ≤ maxLen) (hlen : l.length * bytes ≤ 140737488355328) (hbase : base ≤ w.heap.size)
    (h : ∀ ao' cap' w', RowAt K w' ao' l → (ao' = none → cap' = 0) → (l ≠ [] → ∀ b off, ao' = some ⟨b, off, none⟩ → base ≤ b) → Below base w w' → C (a.put o.dst (.slice ao' l.length cap')) w') : if Region.wanted o (yielded ops a.tmps) = true then Oper.wp P o a w C Q else E := by
  rw [if_pos (by simp [Region.wanted, hgd])]
  obtain ⟨ao', cap', w', hrun, r1, r2, r3, r4⟩ := run_copy (K := K) (P := P) w t o.type base e i z bytes ht hi hz hsize hby hzs v hown ao cap l hS hf hnil hm hlen hbase
  unfold Oper.wp
  simp [execOp, ho, resolve, invoke, builtin, hs, hx, hrun, Result.andThen]
  exact h ao' cap' w' r1 r2 r3 r4
end
end Go.Proofs.YtjebfkgigijnhaaDoor

/- What tusklaw06.Own does; nothing old in memory is turned. -/
namespace Go.Proofs.YtjebfkgigijnhaaDoor
open Go.RowKit
set_option linter.unusedVariables false

/-- Its lists are no longer than a machine holds. -/
structure HdrM.Lens (x : HdrM) : Prop where
  n : x.refs.length * 40 ≤ 140737488351232
  p : x.parents.length * 16 ≤ 140737488351232
  acks : ∀ r ∈ x.refs, r.acks.length * 24 ≤ 140737488351232

theorem rd_succ (l : List RefM) (k : Nat) (x : RefM) (h : l[k]? = some x) : rd (l.take (k + 1)) = rd (l.take k) ++ [x.d] := by
  have hk := (List.getElem?_eq_some_iff.1 h).1
  have he := (List.getElem?_eq_some_iff.1 h).2
  rw [List.take_succ_eq_append_getElem hk, he]
  simp [rd]

theorem results_hdrO {fn : Func} {p : Tmp} (h : fn.results = #[.cell p 25]) (tmps : Array Value) (w : World) (g : Nat) (x : HdrM)
    (hp : tmps.getD p undef = .pointer (some ⟨g, 0, none⟩)) (hg : Arr w g 25 x.c) :
    (results fn tmps).run Tryd.prog w = .ok x.v w :=
  results_cell_row h tmps w g 25 x.c.toArray (0, 0) _ hp hg Tryd.underlying25 rfl infoHdr6

/-- A header that shares nothing is handed back. -/
def GotOwnH (W : World) (x : HdrM) (e : Ending) (w : World) : Prop :=
  ∃ y : HdrM, e = .returned y.v ∧ y.d = x.d ∧ y.At w ∧ (∀ b, y.foot b → W.heap.size ≤ b) ∧ Below W.heap.size W w

set_option maxRecDepth 100000 in
set_option maxHeartbeats 4000000 in
theorem own6_any (x : HdrM) (w : World) (hA : x.At w) (hL : x.Lens) :
    Calls Tryd.prog 26 #[x.v] w fun e w' => GotOwnH w x e w' := by
  obtain ⟨au, ro, ra, rs, rc, pa, ps, pc⟩ := x
  have hA1 : RowAt refK w ra rs := hA.refs
  have hA2 : RowAt strK w pa ps := hA.ps
  have hnp : pa = none → pc = 0 := hA.np
  have hL1 : rs.length * 40 ≤ 140737488351232 := hL.n
  have hL2 : ps.length * 16 ≤ 140737488351232 := hL.p
  have hL3 : ∀ r ∈ rs, r.acks.length * 24 ≤ 140737488351232 := hL.acks
  obtain ⟨hX, hZ, hB⟩ := two_new w 25 25 [.int .i64 au, .int .i64 ro, .slice ra rs.length rc, .slice pa ps.length pc] [.int .i64 0, .int .i64 0, .slice none 0 0, .slice none 0 0]
  obtain ⟨i0, hi, hz0, hz1, hz2⟩ := info_parts infoRef6
  obtain ⟨i1, hi', hz0', hz1', hz2'⟩ := info_parts infoTag6
  clear hA hL
  unfold HdrM.v
  simp only
  go_enter Tryd.func26, Tryd.ntmps26
  go_wp2
  go_loopw [3, 4] (fun v3 v4 wr => ∃ (k : Nat) (m : List RefM), k ≤ rs.length ∧ m.length = k ∧ v4 = .int .i64 (k : Int) ∧ Hid (rd m = rd (rs.take k)) ∧ KQ refK 73 wr (w.heap.size + 1 + 1) v3 m ∧ (∀ x ∈ m, ∀ b, refK.foot x b → w.heap.size + 1 + 1 ≤ b) ∧ Arr wr w.heap.size 25 [.int .i64 au, .int .i64 ro, .slice ra rs.length rc, .slice pa ps.length pc] ∧ Arr wr (w.heap.size + 1) 25 [.int .i64 0, .int .i64 0, .slice none 0 0, .slice none 0 0] ∧ Below w.heap.size w wr) (fun _ v _ => rs.length - (intOf v).toNat)
  case atStart => exact ⟨0, [], Nat.zero_le _, rfl, rfl, (rfl : _ = _), KQ.empty _ _ _ _, (fun x hx => by cases hx), hX, hZ, hB⟩
  case round =>
    clear hX hZ hB
    obtain ⟨k, m, hk, hmk, rfl, hD, hq, hof, hX, hZ, hb⟩ := hrel
    have x2 := hX.cell (i := 2) rfl
    by_cases hlt : k < rs.length
    · obtain ⟨r, hr⟩ : ∃ r, rs[k]? = some r := ⟨rs[k], List.getElem?_eq_getElem hlt⟩
      obtain ⟨b, off, rfl, hbl, y0, y1⟩ := (hA1.below hb).ref hr
      obtain ⟨hrt, hrn⟩ := (hA1.below hb).at_ r (List.mem_of_getElem? hr)
      have hLr := hL3 r (List.mem_of_getElem? hr)
      have HD : Hid (rd (rs.take (k + 1)) = rd m ++ [r.d]) := by
        show _ = _
        rw [rd_succ rs k r hr, hD.out]
      obtain ⟨qa, qc, rfl, hqn, _⟩ := hq.form
      rw [hmk] at hq
      clear hr hD
      have hwz := hZ.lt
      obtain ⟨we, hwe⟩ : ∃ q, wr.alloc (.cells #[] 47) = q := ⟨_, rfl⟩
      have hbe0 : Below wr.heap.size wr we := by rw [← hwe]; exact belowNew _ _
      have hbe : Below wr.heap.size wr we.drew := Below.drew hbe0
      have hown : we.drew.ownsRow wr.heap.size 47 tagK.n (.slice (some ⟨wr.heap.size, 0, none⟩) 0 0) 0 [] := by rw [← hwe]; exact World.ownsRow_made wr #[] 0 (Nat.le_refl _) (by unfold maxLen; omega) (by simp)
      have hrt1 := hrt.below hbe
      have hz1e : wr.heap.size ≤ we.drew.heap.size := hbe.size
      have x2a := (hX.below hbe0 hX.lt).cell (i := 2) rfl
      have y0a : we.cell? ⟨b, off + k * 2, none⟩ = some (.string r.digest) := (hbe0.cell (p := ⟨b, off + k * 2, none⟩) hbl).trans y0
      have y1a : we.cell? ⟨b, off + k * 2 + 1, none⟩ = some (.slice r.ao r.acks.length r.cap) := (hbe0.cell (p := ⟨b, off + k * 2 + 1, none⟩) hbl).trans y1
      have n1 : r.acks.length ≤ maxLen := by unfold maxLen; omega
      have n2 : r.acks.length * 24 ≤ 140737488355328 := by omega
      have n3 : m.length + 1 ≤ maxLen := by unfold maxLen; omega
      have n4 : (m.length + 1) * 40 ≤ 140737488355328 := by omega
      go_wp2_with fail
      go_region_law (first
        | (refine step_copy (K := tagK) _ (by rfl) _ _ 26 (by rfl) wr.heap.size 47 i1 _ 24 Tryd.underlying26 hi' hz0' hz1' hz2' rfl _ (by rfl) hown r.ao r.cap r.acks (by rfl) hrt1 (fun _ _ _ h => h.elim) hrn n1 n2 hz1e ?_; intro ao3 cap3 w3 hO3 hOn3 hOf3 hb3; have hbA : Below wr.heap.size wr w3 := hbe.trans hb3; have x2b := (hX.below hbA hX.lt).cell (i := 2) rfl; have y0b : w3.cell? ⟨b, off + k * 2, none⟩ = some (.string r.digest) := (hbA.cell (p := ⟨b, off + k * 2, none⟩) hbl).trans y0; have hbx := belowNew w3 (.cells #[.string r.digest, .slice ao3 r.acks.length cap3] 73); have hbB := hbA.trans (hbx.mono hbA.size); have hq5 := hq.below hbB; have hx5 := Kind.below refK (x := ⟨r.digest, r.acks, ao3, cap3⟩) ⟨hO3, hOn3⟩ hbx; have hxf : ∀ b, refK.foot ⟨r.digest, r.acks, ao3, cap3⟩ b → wr.heap.size ≤ b := (fun g hg => by rcases hg with ⟨h1, o, h2⟩ | ⟨_, _, h⟩; exact hOf3 h1 g o h2; exact h.elim); have hxo : ∀ b, refK.foot ⟨r.digest, r.acks, ao3, cap3⟩ b → (Value.slice qa k qc).ownBlock ≠ some b := (fun g hg e => by have := hxf g hg; have := (hq.lt g e).2; omega); have hN := new_ref w3 ⟨r.digest, r.acks, ao3, cap3⟩; have hbs : w.heap.size + 1 + 1 ≤ (w3.alloc (.cells #[.string r.digest, .slice ao3 r.acks.length cap3] 73)).heap.size := Nat.le_trans hwz hbB.size)
        | (refine step_push (K := refK) _ (by rfl) _ _ 22 (by rfl) (w.heap.size + 1 + 1) 73 i0 _ 40 Tryd.underlying22 hi hz0 hz1 hz2 rfl _ m (by rfl) hq5 ⟨r.digest, r.acks, ao3, cap3⟩ hx5 hxo ⟨w3.heap.size, 0, none⟩ 1 (by rfl) hN n3 n4 hbs ?_; intro ao8 cap8 w8 hq8 hk8))
      all_goals
        have hkB := Kept.below hk8 hbs (fun j hj => (hq5.lt j hj).1)
        have hbF : Below (w.heap.size + 1 + 1) wr w8 := (hbB.mono hwz).trans hkB
        have hXF := hX.below hbF (by omega)
        have hZF := hZ.below hbF (by omega)
        have hbG : Below w.heap.size w w8 := hb.trans (hbF.mono (by omega))
        have hofG : ∀ y ∈ m ++ [(⟨r.digest, r.acks, ao3, cap3⟩ : RefM)], ∀ b, refK.foot y b → w.heap.size + 1 + 1 ≤ b := by
          intro y hy b hb
          rw [List.mem_append, List.mem_singleton] at hy
          rcases hy with hy | rfl
          · exact hof y hy b hb
          · have := hxf b hb; omega
        rw [hmk] at hq8
        have HDF : Hid (rd (m ++ [(⟨r.digest, r.acks, ao3, cap3⟩ : RefM)]) = rd (rs.take (k + 1))) := by
          show _ = _
          rw [HD.out, rd_append]
          rfl
        clear hk8 hkB hq5 hN hbs hbx hbB hbA hx5 hxo hO3 hOf3 hb3 x2b y0b hX hZ hb hq hown hrt hrt1 hbe hbe0 x2 y0 y1 x2a y0a y1a HD hwe hbF
        go_wp2
        go_roundw
        case rel => exact ⟨k + 1, m ++ [⟨r.digest, r.acks, ao3, cap3⟩], by omega, by simp [hmk], by go_num, HDF, hq8, hofG, hXF, hZF, hbG⟩
        case measure => simp [intOf]; omega
    · obtain rfl : k = rs.length := by omega
      clear hmk
      have HD : Hid (rd m = rd rs) := by
        have := hD.out
        rw [List.take_length] at this
        exact this
      obtain ⟨qa, qc, rfl, hqn, hqt⟩ := hq.form
      have hqf := hq.foot_ge (B := w.heap.size + 1 + 1) (Nat.le_refl _) hof
      have f2 := hX.frozen 2
      have hX1 := hX.set 2 (.slice qa m.length qc)
      have hZ1 := hZ.other (p := ⟨w.heap.size, 2, none⟩) (by show w.heap.size + 1 ≠ w.heap.size; omega) (.slice qa m.length qc)
      have hb1 := hb.setCell (p := ⟨w.heap.size, 2, none⟩) (Nat.le_refl _) (.slice qa m.length qc)
      have hqt1 := hqt.kept (Kept.setCell wr ⟨w.heap.size, 2, none⟩ (.slice qa m.length qc)) (fun b hb e => by have := hqf b hb; have e' : b = w.heap.size := e; omega)
      obtain ⟨w1, hw1⟩ : ∃ q, wr.setCell ⟨w.heap.size, 2, none⟩ (.slice qa m.length qc) = q := ⟨_, rfl⟩
      rw [hw1] at hX1 hZ1 hb1 hqt1
      obtain ⟨w2, hw2⟩ : ∃ q, w1.alloc (.cells #[] 9) = q := ⟨_, rfl⟩
      have hbe : Below w1.heap.size w1 w2 := by rw [← hw2]; exact belowNew _ _
      have hown : w2.ownsRow w1.heap.size 9 strK.n (.slice (some ⟨w1.heap.size, 0, none⟩) 0 0) 0 [] := by rw [← hw2]; exact World.ownsRow_made w1 #[] 0 (Nat.le_refl _) (by unfold maxLen; omega) (by simp)
      have hX2 := hX1.below hbe hX1.lt
      have hZ2 := hZ1.below hbe hZ1.lt
      have hb2 := hb1.trans (hbe.mono hb1.size)
      have hP2 := hA2.below hb2
      have hqt2 := hqt1.below hbe
      have hqf2 : ∀ b, rowFoot refK qa m b → b < w1.heap.size := fun b hb => hqt1.lt hb
      have x3 := hX2.cell (i := 3) rfl
      have hwl := hZ1.lt
      obtain ⟨j0, hj, hy0, hy1, hy2⟩ := info_parts infoString
      clear hX hZ hb hq hqt hD
      go_wp2_with (at_builtin; refine wpList_copy (K := strK) rfl _ _ 23 rfl w1.heap.size 9 j0 _ 16 Tryd.underlying23 hj hy0 hy1 hy2 rfl _ rfl hown pa pc ps rfl hP2 (fun _ _ _ h => h.elim) hnp ?c1 ?c2 ?c3 ?_)
      case c1 => unfold maxLen; omega
      case c2 => omega
      case c3 => exact hbe.size
      intro oa oc w3 hO3 hOn hOf hb3
      have hX3 := hX2.below hb3 hX1.lt
      have hZ3 := hZ2.below hb3 hZ1.lt
      have hqt3 := hqt2.keep (fun b hb => hb3.block b (hqf2 b hb))
      have hB3 := hb2.trans (hb3.mono hb1.size)
      have hof3 : ∀ b, rowFoot strK oa ps b → w.heap.size + 1 + 1 ≤ b := fun b hb => by
        obtain ⟨hl, off, e⟩ := strs_foot hb
        have := hOf (fun e => by rw [e] at hl; simp at hl) b off e
        omega
      clear hX1 hZ1 hX2 hZ2 hP2 hqt1 hqt2 hb1 hb2 hown hbe hb3 x3 hw2 hw1
      have x3 := hX3.cell (i := 3) rfl
      have f3 := hX3.frozen 3
      have hX4 := hX3.set 3 (.slice oa ps.length oc)
      have hZ4 := hZ3.other (p := ⟨w.heap.size, 3, none⟩) (by show w.heap.size + 1 ≠ w.heap.size; omega) (.slice oa ps.length oc)
      have hB4 := hB3.setCell (p := ⟨w.heap.size, 3, none⟩) (Nat.le_refl _) (.slice oa ps.length oc)
      have hqt4 := hqt3.kept (Kept.setCell w3 ⟨w.heap.size, 3, none⟩ (.slice oa ps.length oc)) (fun b hb e => by have := hqf b hb; have e' : b = w.heap.size := e; omega)
      have hO4 := hO3.kept (Kept.setCell w3 ⟨w.heap.size, 3, none⟩ (.slice oa ps.length oc)) (fun b hb e => by have := hof3 b hb; have e' : b = w.heap.size := e; omega)
      obtain ⟨w4, hw4⟩ : ∃ q, w3.setCell ⟨w.heap.size, 3, none⟩ (.slice oa ps.length oc) = q := ⟨_, rfl⟩
      rw [hw4] at hX4 hZ4 hB4 hqt4 hO4
      have t0 := hX4.cell (i := 0) rfl
      have t1 := hX4.cell (i := 1) rfl
      have t2 := hX4.cell (i := 2) rfl
      have t3 := hX4.cell (i := 3) rfl
      have z0 := hZ4.cell (i := 0) rfl
      have z1 := hZ4.cell (i := 1) rfl
      have z2 := hZ4.cell (i := 2) rfl
      have z3 := hZ4.cell (i := 3) rfl
      have g0 := hZ4.frozen 0
      have g1 := hZ4.frozen 1
      have g2 := hZ4.frozen 2
      have g3 := hZ4.frozen 3
      have kF := kept_set4 w4 (w.heap.size + 1) (.int .i64 au) (.int .i64 ro) (.slice qa m.length qc) (.slice oa ps.length oc)
      have hZF := hZ4.set4 (.int .i64 au) (.int .i64 ro) (.slice qa m.length qc) (.slice oa ps.length oc)
      have hBF := below_set4 hB4 (show w.heap.size ≤ w.heap.size + 1 by omega) (.int .i64 au) (.int .i64 ro) (.slice qa m.length qc) (.slice oa ps.length oc)
      have hqtF := hqt4.kept kF (fun b hb e => by have := hqf b hb; have e' : b = w.heap.size + 1 := e; omega)
      have hOF := hO4.kept kF (fun b hb e => by have := hof3 b hb; have e' : b = w.heap.size + 1 := e; omega)
      have fin : ∀ e : Ending, e = .returned (HdrM.v ⟨au, ro, qa, m, qc, oa, ps, oc⟩) → GotOwnH w ⟨au, ro, ra, rs, rc, pa, ps, pc⟩ e _ :=
        fun e hv => ⟨⟨au, ro, qa, m, qc, oa, ps, oc⟩, hv, by show HdrD.mk _ _ _ _ = HdrD.mk _ _ _ _; rw [HD.out], ⟨hqtF, hqn, hOF, hOn⟩, fun b hb => hb.elim (fun h => by have := hqf b h; omega) (fun h => by have := hof3 b h; omega), hBF⟩
      unfold set4 at hZF fin
      clear hX3 hZ3 hX4 hZ4 hB4 hqt4 hO4 kF hBF hqtF hOF hB3 hqt3 hO3 HD
      go_wp2
      refine bodyPost_ret (v := HdrM.v ⟨au, ro, qa, m, qc, oa, ps, oc⟩) (results_hdrO rfl _ _ (w.heap.size + 1) ⟨au, ro, qa, m, qc, oa, ps, oc⟩ rfl hZF) rfl ?_
      exact fin _ rfl
end Go.Proofs.YtjebfkgigijnhaaDoor

/- append(q, xs...) of a row's elements, q an empty row of the call's own: nothing but q's block and new ones is turned. -/
namespace Go.Proofs.YtjebfkgigijnhaaDoor
open Go.RowKit
set_option linter.unusedVariables false

section
variable {α : Type} {K : Kind α}

/-- As an equation of the run. -/
theorem run_copyK {P : Program} (w : World) (t ty : TypeId) (base : Nat) (e : TypeId) (i : TypeInfo) (z : Value) (bytes : Nat) (ht : P.underlying t = some (.slice e)) (hi : P.info? e = some i) (hz : i.zero = some z)
    (hsize : i.size = K.n) (hby : i.bytes = bytes) (hzs : z.cells.size = K.n)
    (v : Value) (hown : w.ownsRow base e K.n v 0 []) (ao : Option Addr) (cap : Nat) (l : List α)
    (hS : RowAt K w ao l) (hf : ∀ x b, ¬ K.foot x b) (hnil : ao = none → cap = 0) (hm : l.length ≤ maxLen) (hlen : l.length * bytes ≤ 140737488355328) (hbase : base ≤ w.heap.size) :
    ∃ ao' cap' w', (Builtin.append_ #[t, t] ty #[v, .slice ao l.length cap]).run P w = .ok (.slice ao' l.length cap') w' ∧ KQ K e w' base (.slice ao' l.length cap') l ∧ Kept (fun k => v.ownBlock = some k) w w' := by
  cases ao with
  | none =>
    have hc0 := hnil rfl
    subst hc0
    have hss : l = [] := by
      cases l with
      | nil => rfl
      | cons y r => obtain ⟨_, _, e, _⟩ := hS.cell 0 y rfl; cases e
    subst hss
    have hrun := run_append_owned_none (P := P) (w := w) base t ty e i K.n ht hi v 0 [] hown
    have hq := QRow.of_own hown
    rcases hown.2 with ⟨hv, _⟩ | ⟨g, c, cur, hv, _⟩
    · rw [hv] at hrun ⊢
      exact ⟨none, 0, w, hrun, KQ.empty K e w base, Kept.refl _ _⟩
    · rw [hv] at hrun hq hown ⊢
      exact ⟨_, c, w, hrun, ⟨hq, (fun x hx => by cases hx), (fun x hx => by cases hx), (fun k hk => ⟨(hown.lt k hk).1, (hown.lt k hk).2⟩), (fun n cap e => by cases e)⟩, Kept.refl _ _⟩
  | some ad =>
    obtain ⟨v', w', hrun, hown', hgrow, _⟩ := run_append_own (P := P) w base t ty e i z K.n bytes ht hi hz hsize hby hzs K.pos v 0 [] hown ad l.length cap (flatK K l) (flatK_length K l) hS.news (flatK_one K l) (by omega) (by rw [Nat.zero_add]; exact hlen) hbase
    rw [Nat.zero_add, List.nil_append] at hown'
    have hk := Kept.of_grown hgrow
    have hA : ∀ x ∈ l, K.At w' x := fun x hx => K.kept (hS.at_ x hx) hk (fun b hb' => absurd hb' (hf x b))
    have hq := QRow.of_own hown'
    obtain ⟨ao', cap', rfl, hlc, _⟩ := hq.form
    refine ⟨ao', cap', w', hrun, ⟨hq, hA, fun x hx b hb => absurd hb (hf x b), fun k hk => ⟨(hown'.lt k hk).1, (hown'.lt k hk).2⟩, ?_⟩, hk⟩
    intro n c he
    rcases hown'.2 with ⟨hv, _⟩ | ⟨g, c', cur, hv, _⟩
    · rw [hv] at he
      simp at he
      omega
    · rw [hv] at he
      cases he

/-- The same, at a step of a region that draws its order. -/
theorem step_copyK {P : Program} (w : World) {ops : Array Oper} {o : Oper} {a : Act} {C : Act → World → Prop} {Q : Exit → Act → World → Prop} {E : Prop} (hgd : o.guard = none) (s x : Operand) (t : TypeId)
    (ho : o.op = .call { callee := .builtin .append, args := #[s, x], argTypes := #[t, t] })
    (base : Nat) (e : TypeId) (i : TypeInfo) (z : Value) (bytes : Nat) (ht : P.underlying t = some (.slice e)) (hi : P.info? e = some i) (hz : i.zero = some z)
    (hsize : i.size = K.n) (hby : i.bytes = bytes) (hzs : z.cells.size = K.n)
    (v : Value) (hs : a.eval s = v) (hown : w.ownsRow base e K.n v 0 []) (ao : Option Addr) (cap : Nat) (l : List α) (hx : a.eval x = .slice ao l.length cap)
    (hS : RowAt K w ao l) (hf : ∀ x b, ¬ K.foot x b) (hnil : ao = none → cap = 0) (hm : l.length ≤ maxLen) (hlen : l.length * bytes ≤ 140737488355328) (hbase : base ≤ w.heap.size)
    (h : ∀ ao' cap' w', KQ K e w' base (.slice ao' l.length cap') l → Kept (fun k => v.ownBlock = some k) w w' → C (a.put o.dst (.slice ao' l.length cap')) w') : if Region.wanted o (yielded ops a.tmps) = true then Oper.wp P o a w C Q else E := by
  rw [if_pos (by simp [Region.wanted, hgd])]
  obtain ⟨ao', cap', w', hrun, r1, r2⟩ := run_copyK (K := K) (P := P) w t o.type base e i z bytes ht hi hz hsize hby hzs v hown ao cap l hS hf hnil hm hlen hbase
  unfold Oper.wp
  simp [execOp, ho, resolve, invoke, builtin, hs, hx, hrun, Result.andThen]
  exact h ao' cap' w' r1 r2
end
end Go.Proofs.YtjebfkgigijnhaaDoor

/- What tusklaw07.Own does: a certificate that shares nothing; nothing old in memory is turned. -/
namespace Go.Proofs.YtjebfkgigijnhaaDoor
open Go.RowKit
set_option linter.unusedVariables false

theorem results_certO {fn : Func} {p : Tmp} (h : fn.results = #[.cell p 28]) (tmps : Array Value) (w : World) (g : Nat) (x : CertM)
    (hp : tmps.getD p undef = .pointer (some ⟨g, 0, none⟩)) (hg : Arr w g 28 x.c) :
    (results fn tmps).run Tryd.prog w = .ok x.v w :=
  results_cell_row h tmps w g 28 x.c.toArray (0, 0) _ hp hg Tryd.underlying28 rfl infoCert7

/-- A certificate that shares nothing is handed back. -/
def GotOwnC (W : World) (x : CertM) (e : Ending) (w : World) : Prop :=
  ∃ y : CertM, e = .returned y.v ∧ y.d = x.d ∧ y.At w ∧ (∀ b, y.foot b → W.heap.size ≤ b) ∧ Below W.heap.size W w

theorem ownEmpty (w : World) : (w.alloc (.cells #[] 47)).ownsRow w.heap.size 47 tagK.n (.slice (some ⟨w.heap.size, 0, none⟩) 0 0) 0 [] := World.ownsRow_made w #[] 0 (Nat.le_refl _) (by unfold maxLen; omega) (by simp)

theorem own_belowC {B : Nat} {e : TypeId} {k : Nat} {v : Value} {n : Nat} {xs : List Value} {w w' : World} (h : w.ownsRow B e k v n xs) (hb : Below w.heap.size w w') : w'.ownsRow B e k v n xs := by
  refine ⟨h.1, ?_⟩
  rcases h.2 with h0 | ⟨g, cap, cur, hv, hB, hg, r⟩
  · exact Or.inl h0
  · have hl : g < w.heap.size := (Array.getElem?_eq_some_iff.1 hg).1
    exact Or.inr ⟨g, cap, cur, hv, hB, by rw [hb.block g hl]; exact hg, r⟩

set_option maxRecDepth 100000 in
set_option maxHeartbeats 4000000 in
theorem own7_any (x : CertM) (w : World) (hA : x.At w) (hL : x.hdr.Lens) (hv : x.votes.length * 24 ≤ 140737488351232) :
    Calls Tryd.prog 10 #[x.v] w fun e w' => GotOwnC w x e w' := by
  obtain ⟨h, va, vs, vc⟩ := x
  obtain ⟨hX, hZ, hB⟩ := two_new w 28 28 [.int .i64 h.author, .int .i64 h.round, .slice h.ra h.refs.length h.rc, .slice h.pa h.parents.length h.pc, .slice va vs.length vc] [.int .i64 0, .int .i64 0, .slice none 0 0, .slice none 0 0, .slice none 0 0]
  obtain ⟨i1, hi, hz0, hz1, hz2⟩ := info_parts infoTag6
  have hA1 := hA.below hB
  have hh1 : h.At _ := hA1.hdr
  have hv1 : RowAt tagK _ va vs := hA1.votes
  have hnv : va = none → vc = 0 := hA.nv
  obtain ⟨w1, hw1⟩ : ∃ q, (w.alloc (.cells [.int .i64 h.author, .int .i64 h.round, .slice h.ra h.refs.length h.rc, .slice h.pa h.parents.length h.pc, .slice va vs.length vc].toArray 28)).alloc (.cells [.int .i64 0, .int .i64 0, .slice none 0 0, .slice none 0 0, .slice none 0 0].toArray 28) = q := ⟨_, rfl⟩
  rw [hw1] at hX hZ hB hh1 hv1
  clear hA hA1
  unfold CertM.v
  simp only
  go_enter Tryd.func10, Tryd.ntmps10
  have cO := fun w2 h2 => own6_any h w2 h2 hL
  unfold HdrM.v at cO
  have hkp : ∀ U, Kept (fun k => k = w.heap.size + 1) w1 U → (U.cell? ⟨w.heap.size, 0, none⟩ = some (.int .i64 h.author) ∧ U.cell? ⟨w.heap.size, 1, none⟩ = some (.int .i64 h.round) ∧ U.cell? ⟨w.heap.size, 2, none⟩ = some (.slice h.ra h.refs.length h.rc) ∧ U.cell? ⟨w.heap.size, 3, none⟩ = some (.slice h.pa h.parents.length h.pc) ∧ U.cell? ⟨w.heap.size, 4, none⟩ = some (.slice va vs.length vc)) := fun U hU => by
    have hn : w.heap.size ≠ w.heap.size + 1 := by omega
    have h := hX.kept hU hn
    exact ⟨h.cell (i := 0) rfl, h.cell (i := 1) rfl, h.cell (i := 2) rfl, h.cell (i := 3) rfl, h.cell (i := 4) rfl⟩
  have bd : Below w1.heap.size w1 w1.drew := below_drewN (Below.refl _ w1) 1
  have be : Below w1.heap.size w1 (w1.drew.alloc (.cells #[] 47)) := bd.alloc (Nat.le_refl _) _
  have hd : h.At w1.drew := hh1.below bd
  have he : h.At (w1.drew.alloc (.cells #[] 47)) := hh1.below be
  have kd : Kept (fun k => k = w.heap.size + 1) w1 w1.drew := Kept.of_below bd
  have ke : Kept (fun k => k = w.heap.size + 1) w1 (w1.drew.alloc (.cells #[] 47)) := Kept.of_below be
  have hoE := ownEmpty w1.drew
  have hv' : vs.length * 24 ≤ 140737488351232 := hv
  have n1 : vs.length ≤ maxLen := by unfold maxLen; omega
  have n2 : vs.length * 24 ≤ 140737488355328 := by omega
  have hS0 := hkp _ kd
  have h1z := hZ.lt
  go_wp2_with fail
  clear hw1
  go_region_held3 (fun w' => w'.cell? ⟨w.heap.size, 0, none⟩ = some (.int .i64 h.author) ∧ w'.cell? ⟨w.heap.size, 1, none⟩ = some (.int .i64 h.round) ∧ w'.cell? ⟨w.heap.size, 2, none⟩ = some (.slice h.ra h.refs.length h.rc) ∧ w'.cell? ⟨w.heap.size, 3, none⟩ = some (.slice h.pa h.parents.length h.pc) ∧ w'.cell? ⟨w.heap.size, 4, none⟩ = some (.slice va vs.length vc)) (exact hkp _ (by assumption))
    (first
    | (go_at_call 26; refine (cO _ hd).mono ?_; rintro e w2 ⟨y, rfl, hyd, hy, hyf, hb2⟩; unfold HdrM.v; have bA : Below w1.heap.size w1 w2 := bd.trans hb2; have kA : Kept (fun k => k = w.heap.size + 1) w1 w2 := Kept.of_below bA; have bE := bA.alloc bA.size (.cells #[] 47); have kE : Kept (fun k => k = w.heap.size + 1) w1 _ := Kept.of_below bE; have hv2 := hv1.below bE; have ho2 := ownEmpty w2; have hbs2 := (belowNew w2 (.cells #[] 47)).size; have hyE := hy.below (belowNew w2 (.cells #[] 47)))
    | (go_at_call 26; refine (cO _ he).mono ?_; rintro e w2 ⟨y, rfl, hyd, hy, hyf, hb2⟩; unfold HdrM.v; have bA : Below w1.heap.size w1 w2 := be.trans (hb2.mono be.size); have kA : Kept (fun k => k = w.heap.size + 1) w1 w2 := Kept.of_below bA; have hv2 := hv1.below bA; have ho3 := own_belowC hoE hb2; have hbs3 : w1.heap.size ≤ w2.heap.size := bA.size)
    | (refine step_copyK (K := tagK) _ (by rfl) _ _ 26 (by rfl) w2.heap.size 47 i1 _ 24 Tryd.underlying26 hi hz0 hz1 hz2 rfl _ (by rfl) ho2 va vc vs (by rfl) hv2 (fun _ _ h => h.elim) hnv n1 n2 hbs2 ?_; intro ao3 cap3 w3 hq3 hk3; have bF : Below w1.heap.size w1 w3 := bE.trans (Kept.below hk3 bE.size (fun k hk => by have := (ho2.lt k hk).1; have := bA.size; omega)); have kF : Kept (fun k => k = w.heap.size + 1) w1 w3 := Kept.of_below bF; have hy3 := Kind.kept hdrK hyE hk3 (fun b hb e => by have := (ho2.lt b e).1; have := Kind.lt hdrK hy hb; omega); have hZ3 := hZ.below bF hZ.lt; have z0 := hZ3.cell (i := 0) rfl; have z1 := hZ3.cell (i := 1) rfl; have z2 := hZ3.cell (i := 2) rfl; have z3 := hZ3.cell (i := 3) rfl; have z4 := hZ3.cell (i := 4) rfl; have g0 := hZ3.frozen 0; have g1 := hZ3.frozen 1; have g2 := hZ3.frozen 2; have g3 := hZ3.frozen 3; have g4 := hZ3.frozen 4; have kG := kF.trans (kept_set5 w3 (w.heap.size + 1) (.int .i64 y.author) (.int .i64 y.round) (.slice y.ra y.refs.length y.rc) (.slice y.pa y.parents.length y.pc) (.slice ao3 vs.length cap3)))
    | (refine step_copyK (K := tagK) _ (by rfl) _ _ 26 (by rfl) w1.heap.size 47 i1 _ 24 Tryd.underlying26 hi hz0 hz1 hz2 rfl _ (by rfl) ho3 va vc vs (by rfl) hv2 (fun _ _ h => h.elim) hnv n1 n2 hbs3 ?_; intro ao3 cap3 w3 hq3 hk3; have bF : Below w1.heap.size w1 w3 := bA.trans (Kept.below hk3 bA.size (fun k hk => (ho3.lt k hk).1)); have kF : Kept (fun k => k = w.heap.size + 1) w1 w3 := Kept.of_below bF; have hy3 := Kind.kept hdrK hy hk3 (fun b hb e => by have h1 := hyf b hb; rw [alloc_size] at h1; have h2 : w1.heap.size + 1 ≤ b := h1; simp [Value.ownBlock] at e; omega); have hZ3 := hZ.below bF hZ.lt; have z0 := hZ3.cell (i := 0) rfl; have z1 := hZ3.cell (i := 1) rfl; have z2 := hZ3.cell (i := 2) rfl; have z3 := hZ3.cell (i := 3) rfl; have z4 := hZ3.cell (i := 4) rfl; have g0 := hZ3.frozen 0; have g1 := hZ3.frozen 1; have g2 := hZ3.frozen 2; have g3 := hZ3.frozen 3; have g4 := hZ3.frozen 4; have kG := kF.trans (kept_set5 w3 (w.heap.size + 1) (.int .i64 y.author) (.int .i64 y.round) (.slice y.ra y.refs.length y.rc) (.slice y.pa y.parents.length y.pc) (.slice ao3 vs.length cap3))))
  all_goals
    have hyl : ∀ b, y.foot b → w1.heap.size ≤ b := fun b hb => Nat.le_trans (by first | exact Nat.le_refl _ | (rw [alloc_size]; exact Nat.le_succ _)) (hyf b hb)
    obtain ⟨ao4, cap4, e4, hn4, hrow3⟩ := hq3.form
    simp only [Value.slice.injEq, true_and] at e4
    obtain ⟨rfl, rfl⟩ := e4
    have hql : ∀ b, rowFoot tagK ao3 vs b → w1.heap.size ≤ b := fun b hb => Nat.le_trans (by first | exact Nat.le_refl _ | exact bA.size) (hq3.foot_ge (Nat.le_refl _) (fun _ _ _ h => h.elim) b hb)
    have hZF := hZ3.set5 (.int .i64 y.author) (.int .i64 y.round) (.slice y.ra y.refs.length y.rc) (.slice y.pa y.parents.length y.pc) (.slice ao3 vs.length cap3)
    have k5 := kept_set5 w3 (w.heap.size + 1) (.int .i64 y.author) (.int .i64 y.round) (.slice y.ra y.refs.length y.rc) (.slice y.pa y.parents.length y.pc) (.slice ao3 vs.length cap3)
    have hyF := Kind.kept hdrK hy3 k5 (fun b hb e => by have := hyl b hb; have e' : b = w.heap.size + 1 := e; omega)
    have hqF := hrow3.kept k5 (fun b hb e => by have := hql b hb; have e' : b = w.heap.size + 1 := e; omega)
    have bG := below_set5 (hB.trans (bF.mono hB.size)) (g := w.heap.size + 1) (Nat.le_succ _) (.int .i64 y.author) (.int .i64 y.round) (.slice y.ra y.refs.length y.rc) (.slice y.pa y.parents.length y.pc) (.slice ao3 vs.length cap3)
    have fin : ∀ e, e = .returned (CertM.v ⟨y, ao3, vs, cap3⟩) → GotOwnC w ⟨h, va, vs, vc⟩ e _ := fun e hv => ⟨⟨y, ao3, vs, cap3⟩, hv, (by show (⟨y.d, vs⟩ : CertD) = ⟨h.d, vs⟩; rw [hyd]), ⟨hyF, hqF, hn4⟩, (fun b hb => hb.elim (fun h => by have := hyl b h; have := hB.size; omega) (fun h => by have := hql b h; have := hB.size; omega)), bG⟩
    unfold set5 at hZF fin
    clear hkp hS0 hd he kd ke hoE cO hyl hql k5 hyF hqF bG hrow3 hq3 hk3
    try go_wp2
    refine bodyPost_ret (v := CertM.v ⟨y, ao3, vs, cap3⟩) (results_certO rfl _ _ (w.heap.size + 1) ⟨y, ao3, vs, cap3⟩ rfl hZF) rfl ?_
    exact fin _ rfl
end Go.Proofs.YtjebfkgigijnhaaDoor

/- What tusklaw06.Great, PlainTags and Plain do; nothing in memory is turned. -/
namespace Go.Proofs.YtjebfkgigijnhaaDoor
open Go.RowKit
set_option linter.unusedVariables false

/-- A bool is handed back that says whether P. -/
def GotBool (P : Prop) (e : Ending) : Prop := ∃ p : Bool, e = .returned (.bool p) ∧ (p = true ↔ P)

theorem gotB_no {P : Prop} (h : ¬ P) {e : Ending} (he : e = .returned (.bool false)) : GotBool P e := ⟨false, he, (fun h => by cases h), fun h' => absurd h' h⟩
theorem gotB_yes {P : Prop} (h : P) {e : Ending} (he : e = .returned (.bool true)) : GotBool P e := ⟨true, he, fun _ => h, fun _ => rfl⟩

set_option maxRecDepth 100000 in
set_option maxHeartbeats 1000000 in
theorem great_any (x : HdrM) (w : World) (hA : x.At w) (hn : x.refs.length ≤ maxLen) (hp : x.parents.length ≤ maxLen) :
    Calls Tryd.prog 9 #[x.v] w fun e w' => (∃ g, e = .returned (.bool g)) ∧ Below w.heap.size w w' := by
  obtain ⟨au, ro, ra, rs, rc, pa, ps, pc⟩ := x
  have hA1 : RowAt refK w ra rs := hA.refs
  have hA2 : RowAt strK w pa ps := hA.ps
  have hn' : rs.length ≤ maxLen := hn
  have hp' : ps.length ≤ maxLen := hp
  have hX := Arr.new w 25 [.int .i64 au, .int .i64 ro, .slice ra rs.length rc, .slice pa ps.length pc]
  have hB := belowNew w (.cells #[.int .i64 au, .int .i64 ro, .slice ra rs.length rc, .slice pa ps.length pc] 25)
  clear hA hn hp
  unfold maxLen at hn' hp'
  unfold HdrM.v
  simp only
  have x3 := hX.cell (i := 3) rfl
  go_enter Tryd.func9, Tryd.ntmps9
  go_wp2
  go_loopw [3, 4] (fun v3 v4 wr => ∃ (k : Nat) (n : Int), k ≤ rs.length ∧ v4 = .int .i64 (k : Int) ∧ v3 = .int .i64 n ∧ Arr wr w.heap.size 25 [.int .i64 au, .int .i64 ro, .slice ra rs.length rc, .slice pa ps.length pc] ∧ Below w.heap.size w wr) (fun _ v _ => rs.length - (intOf v).toNat)
  case atStart => exact ⟨0, _, Nat.zero_le _, rfl, rfl, hX, hB⟩
  case round =>
    clear hX hB x3
    obtain ⟨k, n, hk, rfl, rfl, hX, hb⟩ := hrel
    have x2 := hX.cell (i := 2) rfl
    by_cases hlt : k < rs.length
    · obtain ⟨r, hr⟩ : ∃ r, rs[k]? = some r := ⟨rs[k], List.getElem?_eq_getElem hlt⟩
      obtain ⟨b, off, rfl, hbl, y0, y1⟩ := (hA1.below hb).ref hr
      clear hr
      go_wp2_with fail
      go_big_quiet (fail)
      have hb2 := below_drewN hb nq
      have hX2 := hX.drewN nq
      clear hX hb x2 y0 y1
      generalize wr.drewN nq = w1 at *
      go_wp2
      go_roundw
      case rel => exact ⟨k + 1, _, by omega, by go_num, rfl, hX2, hb2⟩
      case measure => simp [intOf]; omega
    · go_wp2
      go_loopw [3, 5] (fun v3 v5 wr => ∃ (k : Nat) (n : Int), k ≤ ps.length ∧ v5 = .int .i64 (k : Int) ∧ v3 = .int .i64 n ∧ Arr wr w.heap.size 25 [.int .i64 au, .int .i64 ro, .slice ra rs.length rc, .slice pa ps.length pc] ∧ Below w.heap.size w wr) (fun _ v _ => ps.length - (intOf v).toNat)
      case atStart => exact ⟨0, _, Nat.zero_le _, rfl, rfl, hX, hb⟩
      case round =>
        clear hX hb x2
        obtain ⟨j, n, hj, rfl, rfl, hX, hb⟩ := hrel
        have x3 := hX.cell (i := 3) rfl
        by_cases hlt2 : j < ps.length
        · obtain ⟨b, off, rfl, hbl, hc⟩ := (hA2.below hb).strs j hlt2
          go_wp2
          go_roundw
          case rel => exact ⟨j + 1, _, by omega, by go_num, rfl, hX, hb⟩
          case measure => simp [intOf]; omega
        · go_wp2
          go_ret
          exact ⟨⟨_, rfl⟩, hb⟩
end Go.Proofs.YtjebfkgigijnhaaDoor

/- What the walks of HeaderBack, HeaderRight and HeaderCuts share. -/
namespace Go.Proofs.YtjebfkgigijnhaaDoor
open Go.RowKit
set_option linter.unusedVariables false

theorem HdrM.Lens.n' {x : HdrM} (h : x.Lens) : x.refs.length ≤ maxLen := by have := h.n; unfold maxLen; omega
theorem HdrM.Lens.p' {x : HdrM} (h : x.Lens) : x.parents.length ≤ maxLen := by have := h.p; unfold maxLen; omega
theorem HdrM.Lens.acks' {x : HdrM} (h : x.Lens) : ∀ r ∈ x.refs, r.acks.length ≤ maxLen := fun r hr => by have := h.acks r hr; unfold maxLen; omega

theorem flat_tags_fit : ∀ (l : List TagD), (∀ t ∈ l, t.Fit) → ((l.map tagB).flatMap txt).length ≤ 34 * l.length
  | [], _ => by simp
  | t :: l, h => by
    have ih := flat_tags_fit l (fun x hx => h x (by simp [hx]))
    have h1 := txt_len_le (tagB t)
    have h2 := tagB_len (h t (by simp))
    simp only [List.map_cons, List.flatMap_cons, List.length_append, List.length_cons] at ih ⊢
    omega

theorem refB_fit {r : RefD} (h : r.Fit) : (refB r).length ≤ 65800 := by
  have h1 := txt_len_le r.digest.data.toList
  have h2 := flat_tags_fit r.acks h.all
  have h3 := goInt_length ((r.acks.map tagB).length : Int)
  have h4 := h.few
  have h5 := h.dig
  have h6 : r.digest.data.toList.length = r.digest.size := by simp
  rw [refB, List.length_append, tagsB, lst, List.length_append]
  omega

theorem flat_refs_fit : ∀ (l : List RefD), (∀ r ∈ l, r.Fit) → (l.flatMap refB).length ≤ 65800 * l.length
  | [], _ => by simp
  | r :: l, h => by
    have ih := flat_refs_fit l (fun x hx => h x (by simp [hx]))
    have h1 := refB_fit (h r (by simp))
    simp only [List.flatMap_cons, List.length_append, List.length_cons] at ih ⊢
    omega

theorem flat_strs_fit : ∀ (l : List ByteArray), (∀ p ∈ l, p.size ≤ 65536) → ((bl l).flatMap txt).length ≤ 65545 * l.length
  | [], _ => by simp [bl]
  | p :: l, h => by
    have ih := flat_strs_fit l (fun x hx => h x (by simp [hx]))
    have h1 := txt_len_le p.data.toList
    have h2 := h p (by simp)
    have h6 : p.data.toList.length = p.size := by simp
    have e : (bl (p :: l)).flatMap txt = txt p.data.toList ++ (bl l).flatMap txt := by simp [bl]
    rw [e, List.length_append, List.length_cons]
    omega

theorem encH_fit {h : HdrD} (hf : h.Fit) : (encH h).length ≤ 1000000 := by
  have h1 := flat_refs_fit h.refs hf.refs
  have h2 := flat_strs_fit h.parents hf.pz
  have h3 := hf.few
  have h4 := hf.ps
  have g0 := goInt_length h.author
  have g1 := goInt_length h.round
  have g2 := goInt_length (h.refs.length : Int)
  have g3 := goInt_length ((bl h.parents).length : Int)
  unfold encH lst
  simp only [List.length_append]
  omega

theorem hdrFit_of {x : HdrM} (h : x.d.Fit) : x.Fit := by
  have h1 : x.refs.length ≤ 4 := by have := h.few; simpa [HdrM.d, rd] using this
  have h2 : x.parents.length ≤ 7 := h.ps
  have h3 : ∀ r ∈ x.refs, r.d.Fit := fun r hr => h.refs r.d (List.mem_map.2 ⟨r, hr, rfl⟩)
  refine ⟨by omega, by omega, fun r hr => ?_, fun r hr t ht => ?_, by have := encH_fit h; omega⟩
  · have : r.acks.length ≤ 7 := (h3 r hr).few
    omega
  · have : t.mac.size = 16 := ((h3 r hr).all t ht).mac
    omega

theorem fit_lens {x : HdrM} (h : x.d.Fit) : x.refs.length ≤ 4 ∧ x.parents.length ≤ 7 ∧ ∀ r ∈ x.refs, r.acks.length ≤ 7 :=
  ⟨by have := h.few; simpa [HdrM.d, rd] using this, h.ps, fun r hr => (h.refs r.d (List.mem_map.2 ⟨r, hr, rfl⟩)).few⟩
end Go.Proofs.YtjebfkgigijnhaaDoor

/- tusklaw07.CertChecks answers true; nothing old in memory is turned. -/
namespace Go.Proofs.YtjebfkgigijnhaaDoor
open Go.RowKit Go.Sort
set_option linter.unusedVariables false

theorem fit_sameC {x y : HdrM} (h : y.d = x.d) (hf : x.Fit) : y.Fit := by
  have hr : rd y.refs = rd x.refs := congrArg HdrD.refs h
  have hp : y.parents = x.parents := congrArg HdrD.parents h
  have hl : y.refs.length = x.refs.length := by have := congrArg List.length hr; simpa [rd] using this
  have hm : ∀ r ∈ y.refs, ∃ q ∈ x.refs, q.acks = r.acks := by
    intro r hm
    have h1 : r.d ∈ rd x.refs := by rw [← hr]; exact List.mem_map.2 ⟨r, hm, rfl⟩
    obtain ⟨q, hq, hqr⟩ := List.mem_map.1 h1
    exact ⟨q, hq, congrArg RefD.acks hqr⟩
  refine ⟨by rw [hl]; exact hf.n, by rw [hp]; exact hf.p, fun r hr' => ?_, fun r hr' => ?_, by rw [h]; exact hf.len⟩
  · obtain ⟨q, hq, e⟩ := hm r hr'
    rw [← e]
    exact hf.acks q hq
  · obtain ⟨q, hq, e⟩ := hm r hr'
    rw [← e]
    exact hf.mac q hq

theorem HdrM.Fit.lmC {x : HdrM} (h : x.Fit) : ∀ r ∈ x.refs, r.acks.length ≤ maxLen := fun r hr => by have := h.acks r hr; unfold maxLen; omega
theorem HdrM.Fit.pmC {x : HdrM} (h : x.Fit) : x.parents.length ≤ maxLen := by have := h.p; unfold maxLen; omega

set_option maxRecDepth 100000 in
set_option maxHeartbeats 4000000 in
theorem certChecks_walk (f : Int) (x : CertM) (w : World) (hwf : (Lit.int .i64 f).wf = true) (hA : x.At w) (hL : x.hdr.Lens) (hf : x.Fit) (hl : (encH x.hdr.d).length ≤ 1073741824) (hvl : x.votes.length * 24 ≤ 140737488351232) (hG : Mx.Glob w) :
    Calls Tryd.prog 3 #[.int .i64 f, x.v] w fun e w' => e = .returned (.bool true) ∧ Below w.heap.size w w' := by
  have hX : Arr _ w.heap.size 28 [.int .i64 x.hdr.author, .int .i64 x.hdr.round, .slice x.hdr.ra x.hdr.refs.length x.hdr.rc, .slice x.hdr.pa x.hdr.parents.length x.hdr.pc, .slice x.va x.votes.length x.vc] := Arr.new w 28 x.c
  have hB := belowNew w (.cells x.c.toArray 28)
  have cB := both_any f _ (hG.below hB)
  have cG := fun w1 h => great_any x.hdr w1 h hL.n' hL.p'
  have cO := fun w1 h => own7_any x w1 h hL hvl
  unfold HdrM.v at cG
  unfold CertM.v at cO ⊢
  unfold CertM.c at hX hB cB
  go_enter Tryd.func3, Tryd.ntmps3
  go_wp2_with fail
  refine cB.mono ?_
  rintro e w2 ⟨n, tb, rb, n2, n1, rfl, hT2, hR2, hb2⟩
  have hX2 := hX.below hb2 hX.lt
  have hB2 := hB.trans (hb2.mono hB.size)
  have hk32 : ∀ k ∈ Mx.keysL seedW (3 * n + 1), k.size ≤ 32 := Mx.keysL_size _ _
  have hkl : Hid ((Mx.keysL seedW (3 * n + 1)).length = 3 * n + 1) := Mx.keysL_len _ _
  generalize Mx.keysL seedW (3 * n + 1) = ks at *
  clear hX hB hb2 cB
  have x0 := hX2.cell (i := 0) rfl
  have x1 := hX2.cell (i := 1) rfl
  have x2 := hX2.cell (i := 2) rfl
  have x3 := hX2.cell (i := 3) rfl
  go_wp2_with fail
  refine (cG _ (hA.below hB2).hdr).mono ?_
  rintro e w3 ⟨⟨g, rfl⟩, hb3⟩
  have hX3 := hX2.below hb3 hX2.lt
  have hT3 := hT2.below hb3
  have hR3 := hR2.below hb3
  have hB3 := hB2.trans (hb3.mono hB2.size)
  clear hX2 hB2 hb3 cG x0 x1 x2 x3 hT2 hR2
  have x4 := hX3.cell (i := 4) rfl
  cases g with
  | true =>
    go_wp2
    go_ret
    exact ⟨rfl, hB3⟩
  | false =>
  by_cases h50 : (50 : Int) < (x.votes.length : Int)
  · go_wp2
    go_ret
    exact ⟨rfl, hB3⟩
  have d50 : decide ((50 : Int) < (x.votes.length : Int)) = false := decide_eq_false h50
  have x0 := hX3.cell (i := 0) rfl
  have x1 := hX3.cell (i := 1) rfl
  have x2 := hX3.cell (i := 2) rfl
  have x3 := hX3.cell (i := 3) rfl
  go_wp2_with fail
  refine (cO _ (hA.below hB3)).mono ?_
  rintro e w4 ⟨y, rfl, hyd, hy, hyf, hb4⟩
  unfold CertM.v
  have hX4 := hX3.below hb4 hX3.lt
  have hT4 := hT3.below hb4
  have hR4 := hR3.below hb4
  have hB4 := hB3.trans (hb4.mono hB3.size)
  have hbx := belowNew w4 (.cells y.c.toArray 28)
  have hY5 : Arr _ w4.heap.size 28 [.int .i64 y.hdr.author, .int .i64 y.hdr.round, .slice y.hdr.ra y.hdr.refs.length y.hdr.rc, .slice y.hdr.pa y.hdr.parents.length y.hdr.pc, .slice y.va y.votes.length y.vc] := Arr.new w4 28 y.c
  have hX5 := hX4.below hbx hX4.lt
  have hT5 := hT4.below hbx
  have hR5 := hR4.below hbx
  have hB5 := hB4.trans (hbx.mono hB4.size)
  have hy5 := hy.below hbx
  have hx5 := hA.below hB5
  have hG5 := hG.below hB5
  unfold CertM.c at hY5 hX5 hT5 hR5 hB5 hy5 hx5 hG5
  clear hX3 hT3 hR3 hB3 hb4 cO x0 x1 x2 x3 x4 hyf hX4 hT4 hR4 hB4 hbx hy hA hG
  obtain ⟨w5, hw5⟩ : ∃ q, w4.alloc (.cells [.int .i64 y.hdr.author, .int .i64 y.hdr.round, .slice y.hdr.ra y.hdr.refs.length y.hdr.rc, .slice y.hdr.pa y.hdr.parents.length y.hdr.pc, .slice y.va y.votes.length y.vc].toArray 28) = q := ⟨_, rfl⟩
  rw [hw5] at hY5 hX5 hT5 hR5 hB5 hy5 hx5 hG5
  have hyh : y.hdr.d = x.hdr.d := congrArg CertD.header hyd
  have hyv : y.votes = x.votes := congrArg CertD.votes hyd
  have hfy : y.Fit := ⟨fit_sameC hyh hf.hdr, by rw [hyv]; exact hf.few, by rw [hyv]; exact hf.mac, by rw [hyv]; exact hf.len⟩
  have hl2 : (encH x.hdr.d).length ≤ 140737488351232 := by omega
  have hv50 : x.votes.length ≤ maxLen := by unfold maxLen; omega
  have hyn : y.hdr.refs.length ≤ 4611686018427387903 := by have := hfy.hdr.n; omega
  have hyp : y.hdr.parents.length ≤ 4611686018427387903 := by have := hfy.hdr.p; omega
  have hya : ∀ r ∈ y.hdr.refs, r.acks.length ≤ 4611686018427387903 := fun r hr => by have := hfy.hdr.acks r hr; omega
  have hyq : y.votes.length ≤ 4611686018427387903 := by have := hfy.few; omega
  have bl := fun d os => below_regrown w5 d os
  obtain ⟨er, her⟩ : ∃ q, Hid (q = chkC ks n x.d) := ⟨_, rfl⟩
  obtain ⟨eb, heb⟩ : ∃ q, Hid (q = (⟨(encC x.d).toArray⟩ : ByteArray)) := ⟨_, rfl⟩
  have k1 : ∀ d os, Calls Tryd.prog 11 #[.pointer (some ⟨tb, 0, none⟩), y.v] (grow (redrawn w5 d) os) fun e w'' => e = .returned (.int .i64 (er : Int)) ∧ ∃ p : Regrown, w'' = grow (redrawn w5 p.d) p.os := fun d os => Calls.regrown_of (by
    rw [her.out, ← hyd]
    exact certCheck_any tb n ks y _ (hT5.below (bl d os)) n2 hk32 (hy5.below (bl d os)) hfy.hdr.lmC hfy.hdr.pmC (by rw [hyv]; exact hv50) hfy.hdr (by rw [hyh]; exact hl2) (hG5.below (bl d os)))
  have k2 : ∀ d os, Calls Tryd.prog 12 #[.pointer (some ⟨rb, 0, none⟩), x.v] (grow (redrawn w5 d) os) fun e w'' => e = .returned (.int .i64 (er : Int)) ∧ ∃ p : Regrown, w'' = grow (redrawn w5 p.d) p.os := fun d os => Calls.regrown_of (by
    rw [her.out]
    exact refCertCheck_any rb n ks x _ (hR5.below (bl d os)) n2 hkl.out hk32 (hx5.below (bl d os)) hf.hdr.lmC hf.hdr.pmC hv50 hf.hdr hl (hG5.below (bl d os)))
  have k3 : ∀ d os, Calls Tryd.prog 13 #[y.v] (grow (redrawn w5 d) os) fun e w'' => e = .returned (.string eb) ∧ ∃ p : Regrown, w'' = grow (redrawn w5 p.d) p.os := fun d os => Calls.regrown_of (by
    rw [heb.out, ← hyd]
    exact certEncode_any y _ (hy5.below (bl d os)) hfy)
  have k4 : ∀ d os, Calls Tryd.prog 14 #[x.v] (grow (redrawn w5 d) os) fun e w'' => e = .returned (.string eb) ∧ ∃ p : Regrown, w'' = grow (redrawn w5 p.d) p.os := fun d os => Calls.regrown_of (by
    rw [heb.out]
    exact refCertEncode_any x _ (hx5.below (bl d os)) hf)
  have k7 : ∀ d os, Calls Tryd.prog 15 #[y.v, x.v] (grow (redrawn w5 d) os) fun e w'' => e = .returned (.bool true) ∧ ∃ p : Regrown, w'' = grow (redrawn w5 p.d) p.os := fun d os => Calls.regrown_of (by
    exact sameC_any y x _ (hy5.below (bl d os)) (hx5.below (bl d os)) hyd hyn hyp hya hyq)
  unfold CertM.v at k1 k2 k3 k4 k7
  have A0 := cell_regrown (hX5.cell (i := 0) rfl)
  have A1 := cell_regrown (hX5.cell (i := 1) rfl)
  have A2 := cell_regrown (hX5.cell (i := 2) rfl)
  have A3 := cell_regrown (hX5.cell (i := 3) rfl)
  have A4 := cell_regrown (hX5.cell (i := 4) rfl)
  have B0 := cell_regrown (hY5.cell (i := 0) rfl)
  have B1 := cell_regrown (hY5.cell (i := 1) rfl)
  have B2 := cell_regrown (hY5.cell (i := 2) rfl)
  have B3 := cell_regrown (hY5.cell (i := 3) rfl)
  have B4 := cell_regrown (hY5.cell (i := 4) rfl)
  have HBF : Hid (∀ d os, Below w.heap.size w (grow (redrawn w5 d) os)) := fun d os => hB5.trans ((bl d os).mono hB5.size)
  clear hY5 hX5 hT5 hR5 hB5 hy5 hx5 hG5 hyd hfy hl2 hyn hyp hya hyq hyh hyv bl hf hl hL hk32 hvl hv50
  go_wp2_with fail
  refine wp_region_quiet_below (by kernel_rfl) (by kernel_rfl) ?_
  iterate 2 (go_big_quiet_step (fail))
  go_big_quiet_step (exact k1 _ _)
  iterate 2 (go_big_quiet_step (fail))
  go_big_quiet_step (exact k2 _ _)
  iterate 3 (go_big_quiet_step (fail))
  go_big_quiet_step (exact k3 _ _)
  iterate 1 (go_big_quiet_step (fail))
  go_big_quiet_step (exact k4 _ _)
  iterate 5 (go_big_quiet_step (fail))
  go_big_quiet_step (exact k7 _ _)
  iterate 2 (go_big_quiet_step (fail))
  refine wpQuiet_nil ?_
  rintro w' ⟨p, rfl⟩
  have hBF := HBF.out p.d p.os
  generalize grow (redrawn w5 p.d) p.os = w6 at hBF ⊢
  clear k1 k2 k3 k4 k7 A0 A1 A2 A3 A4 B0 B1 B2 B3 B4 HBF
  go_wp2
  go_ret
  exact ⟨rfl, hBF⟩
end Go.Proofs.YtjebfkgigijnhaaDoor

/- How a header that came in is opened; its sizes. -/
namespace Go.Proofs.YtjebfkgigijnhaaDoor
open Go.ChangeShapes Go.WideShapes Go.ChangeAt Go.RowKit Go.Joins Go.Deep
set_option linter.unusedVariables false

instance : Inhabited ByteArray := ⟨⟨#[]⟩⟩

/-- How a Ref reads. -/
def RefQ {H : Type} (d : DataW H) (r : RefM) : Prop := ∃ y0 y1, d = .agg [y0, y1] ∧ StrQ y0 r.digest ∧ RowD TagQ y1 r.acks

theorem cellsRef6 : Tryd.prog.cellsOf 73 = 2 := by kernel_rfl
theorem cellsHdr6 : Tryd.prog.cellsOf 25 = 4 := by kernel_rfl
theorem cellsTags6 : Tryd.prog.cellsOf 26 = 1 := by kernel_rfl
theorem cellsRefs6 : Tryd.prog.cellsOf 22 = 1 := by kernel_rfl
theorem cellsStrs6 : Tryd.prog.cellsOf 23 = 1 := by kernel_rfl
theorem bytesRef6 : Tryd.prog.bytesOf 73 = 40 := by kernel_rfl
theorem bytesTag6 : Tryd.prog.bytesOf 47 = 24 := by kernel_rfl
theorem bytesStr6 : Tryd.prog.bytesOf 9 = 16 := by kernel_rfl

set_option maxRecDepth 100000 in
theorem open_ref_cells {H : Type} {enc : TypeId × Value → H} {W : World} {fuel : Nat} {cs : List Value} {y : DataW H × List MemPlace}
    (hf : DataW.trod enc Tryd.prog W 0 (fun _ => true) true fuel 73 cs = some y) : ∃ r : RefM, cs = refK.c r ∧ refK.At W r ∧ RefQ y.1 r := by
  obtain ⟨xs, n, _, hx, hcl, hl, hg⟩ := DataW.trod_struct Tryd.underlying73 hf
  obtain ⟨c0, c1, rfl⟩ := list2x (hcl.trans cellsRef6)
  obtain ⟨y0, y1, rfl⟩ := list2x hl
  have g0 := hg 0 _ rfl
  have g1 := hg 1 _ rfl
  simp [cellsTags6, cellsStr6] at g0 g1
  obtain ⟨a0, e0, hy0, s0⟩ := DataW.trod_string Tryd.underlying9 g0
  obtain ⟨ao, len, cap, e1⟩ := slice_form Tryd.underlying26 g1
  simp at e0 e1
  subst e0 e1
  obtain ⟨l, rfl, l1, l2, l3, l4⟩ := open_tagsK g1
  refine ⟨⟨a0, l, ao, cap⟩, rfl, ⟨l1, l2⟩, y0.1, y1.1, ?_, ⟨by rw [hy0], s0⟩, l4⟩
  have := congrArg Prod.fst hx
  simpa using this

set_option maxRecDepth 100000 in
theorem open_str_cells {H : Type} {enc : TypeId × Value → H} {W : World} {fuel : Nat} {cs : List Value} {y : DataW H × List MemPlace}
    (hf : DataW.trod enc Tryd.prog W 0 (fun _ => true) true fuel 9 cs = some y) : ∃ s : ByteArray, cs = strK.c s ∧ strK.At W s ∧ StrQ y.1 s := by
  obtain ⟨a0, e0, hy0, s0⟩ := DataW.trod_string Tryd.underlying9 hf
  exact ⟨a0, e0, trivial, by rw [hy0], s0⟩

/-- How a header reads. -/
def HdrQ {H : Type} (d : DataW H) (x : HdrM) : Prop := ∃ y0 y1 y2 y3, d = .agg [y0, y1, y2, y3] ∧ RowD RefQ y2 x.refs ∧ RowD StrQ y3 x.parents

set_option maxRecDepth 100000 in
theorem open_hdr_cells {H : Type} {enc : TypeId × Value → H} {W : World} {fuel : Nat} {cs : List Value} {y : DataW H × List MemPlace}
    (hf : DataW.trod enc Tryd.prog W 0 (fun _ => true) true fuel 25 cs = some y) : ∃ x : HdrM, cs = hdrK.c x ∧ hdrK.At W x ∧ HdrQ y.1 x := by
  obtain ⟨xs, n, _, hx, hcl, hl, hg⟩ := DataW.trod_struct Tryd.underlying25 hf
  obtain ⟨c0, c1, c2, c3, rfl⟩ := list4x (hcl.trans cellsHdr6)
  obtain ⟨y0, y1, y2, y3, rfl⟩ := list4x hl
  have g0 := hg 0 _ rfl
  have g1 := hg 1 _ rfl
  have g2 := hg 2 _ rfl
  have g3 := hg 3 _ rfl
  simp [cellsInt6, cellsRefs6, cellsStrs6] at g0 g1 g2 g3
  obtain ⟨a0, e0, _, _⟩ := DataW.trod_int Tryd.underlying3 g0
  obtain ⟨a1, e1, _, _⟩ := DataW.trod_int Tryd.underlying3 g1
  obtain ⟨ra, rlen, rc, e2⟩ := slice_form Tryd.underlying22 g2
  obtain ⟨pa, plen, pc, e3⟩ := slice_form Tryd.underlying23 g3
  simp at e0 e1 e2 e3
  subst e0 e1 e2 e3
  obtain ⟨rs, rfl, r1, r2, r3, r4⟩ := open_row refK RefQ Tryd.underlying22 cellsRef6 open_ref_cells g2
  obtain ⟨ps, rfl, p1, p2, p3, p4⟩ := open_row strK StrQ Tryd.underlying23 cellsStr6 open_str_cells g3
  refine ⟨⟨a0, a1, ra, rs, rc, pa, ps, pc⟩, rfl, ⟨r1, r2, p1, p2⟩, y0.1, y1.1, y2.1, y3.1, ?_, r4, p4⟩
  have := congrArg Prod.fst hx
  simpa using this

set_option maxRecDepth 100000 in
theorem open_hdr {H : Type} {enc : TypeId × Value → H} {W : World} {r : Reach} {b0 : Nat} {v : Value} {d : DataW H} {p : List MemPlace} (hv : Value.okWide Tryd.prog W r b0 25 v)
    (h : DataW.Trod enc Tryd.prog W 0 (fun _ => true) true 25 v d p) : ∃ x : HdrM, v = x.v ∧ x.At W ∧ HdrQ d x := by
  obtain ⟨cs, rfl, hsz⟩ := okWide_struct Tryd.underlying25 hv
  obtain ⟨fuel, hf⟩ := h
  have hc : (Value.agg cs).cells.toList = cs.toList := by simp [Value.cells]
  obtain ⟨x, e, hx, hq⟩ := open_hdr_cells hf
  refine ⟨x, ?_, hx, hq⟩
  have e' : cs.toList = x.c := by rw [← hc]; exact e
  have : cs = x.c.toArray := by rw [← e']
  rw [this]
  rfl

set_option maxRecDepth 100000 in
theorem ref_acks_fit {H : Type} {y : DataW H} {r : RefM} (h : RefQ y r) (hw : ∀ n ∈ y.weights Tryd.prog 73, n ≤ reachBytes) : r.acks.length * 24 ≤ 140737488351232 := by
  obtain ⟨y0, y1, rfl, _, h1⟩ := h
  have := (h1.fit Tryd.underlying26 (fun n hn => hw n (by
    rw [DataW.weights, Tryd.underlying73]
    exact DataW.weights_mem_each (ts := [9, 26]) (j := 1) rfl rfl n hn))).1
  rw [bytesTag6] at this
  simpa [reachBytes] using this

set_option maxRecDepth 100000 in
theorem hdr_fit {H : Type} {d : DataW H} {x : HdrM} (h : HdrQ d x) (hw : ∀ n ∈ d.weights Tryd.prog 25, n ≤ reachBytes) : x.Lens := by
  obtain ⟨y0, y1, y2, y3, rfl, h2, h3⟩ := h
  obtain ⟨f1, f2⟩ := h2.fit Tryd.underlying22 (fun n hn => hw n (by
    rw [DataW.weights, Tryd.underlying25]
    exact DataW.weights_mem_each (ts := [3, 3, 22, 23]) (j := 2) rfl rfl n hn))
  obtain ⟨g1, _⟩ := h3.fit Tryd.underlying23 (fun n hn => hw n (by
    rw [DataW.weights, Tryd.underlying25]
    exact DataW.weights_mem_each (ts := [3, 3, 22, 23]) (j := 3) rfl rfl n hn))
  rw [bytesRef6] at f1
  rw [bytesStr6] at g1
  refine ⟨by simpa [reachBytes] using f1, by simpa [reachBytes] using g1, fun r hr => ?_⟩
  obtain ⟨y, hy, hyw⟩ := f2 r hr
  exact ref_acks_fit hy hyw

/-- A header that came in: in sizes that a machine holds. -/
theorem hdr_sized {H : Type} {ts : List TypeId} {ds : List (DataW H)} (h : (DataW.weightsEach Tryd.prog ts ds).all (· ≤ reachBytes) = true) {j : Nat} {d : DataW H} {x : HdrM} (ht : ts[j]? = some 25) (hd : ds[j]? = some d) (hs : HdrQ d x) : x.Lens := hdr_fit hs (weights_of h ht hd)
end Go.Proofs.YtjebfkgigijnhaaDoor

/- What the bound of the second form gives: the sizes of strings, and of slices of strings with all that they hold. -/
namespace Go.Proofs.YtjebfkgigijnhaaDoor
open Go.ChangeShapes Go.WideShapes Go.ChangeAt Go.RowKit

theorem upto_part {H : Type} {d : DataW H} : ∀ {l : List (DataW H)}, d ∈ l → Rows.uptoBulk d ≤ Rows.uptoBulkAll l
  | [], h => by cases h
  | x :: r, h => by
    simp only [Rows.uptoBulkAll]
    rcases List.mem_cons.1 h with e | e
    · subst e; omega
    · have := upto_part e; omega

theorem upto_bound {H : Type} {l : List (DataW H)} (hk : Rows.uptoSmall H l = true) : Rows.uptoBulkAll l ≤ 1048576 := of_decide_eq_true hk

theorem upto_string {H : Type} {s : ByteArray} {d : DataW H} (hd : d = .lit (.string s.data.toList)) {l : List (DataW H)} (hk : Rows.uptoSmall H l = true) (hm : d ∈ l) : s.size ≤ 1048576 := by
  have h1 := upto_bound hk
  have h2 := upto_part hm
  subst hd
  simp only [Rows.uptoBulk] at h2
  have : s.data.toList.length = s.size := by simp
  omega

/-- How many values and letters a row of strings holds. -/
def strsBulk (ss : List ByteArray) : Nat := (ss.map (fun s => s.size + 1)).sum

theorem bulk_strs {H : Type} : ∀ (ss : List ByteArray), Rows.uptoBulkAll (strs (H := H) ss) = strsBulk ss
  | [] => by simp [strs, strsBulk, Rows.uptoBulkAll]
  | s :: ss => by
    have ih := bulk_strs (H := H) ss
    simp only [strs, strsBulk, List.map_cons, List.sum_cons, Rows.uptoBulkAll, Rows.uptoBulk] at ih ⊢
    rw [ih]
    simp

theorem upto_strs {H : Type} {ss : List ByteArray} {d : DataW H} (hd : StrsDatum d ss) {l : List (DataW H)} (hk : Rows.uptoSmall H l = true) (hm : d ∈ l) : strsBulk ss ≤ 1048576 := by
  have h1 := upto_bound hk
  have h2 := upto_part hm
  rcases hd with ⟨rfl, rfl⟩ | ⟨rest, rfl⟩
  · simp [strsBulk]
  · simp only [Rows.uptoBulk] at h2
    rw [bulk_strs] at h2
    omega

theorem strsBulk_length : ∀ (ss : List ByteArray), ss.length ≤ strsBulk ss
  | [] => by simp
  | s :: ss => by
    have := strsBulk_length ss
    simp only [strsBulk, List.map_cons, List.sum_cons, List.length_cons] at this ⊢
    omega

theorem flat_bulk : ∀ (ss : List ByteArray), ((bl ss).flatMap txt).length ≤ 10 * strsBulk ss
  | [] => by simp [bl]
  | s :: ss => by
    have ih := flat_bulk ss
    have hg := goInt_length s.size
    have e : (bl (s :: ss)).flatMap txt = txt s.data.toList ++ (bl ss).flatMap txt := by simp [bl]
    rw [e, List.length_append]
    have e2 : (txt s.data.toList).length = (goInt s.size).length + s.size := by simp [txt]
    simp only [strsBulk, List.map_cons, List.sum_cons] at ih ⊢
    omega

theorem lst_bulk (ss : List ByteArray) : (lst (bl ss)).length ≤ 9 + 10 * strsBulk ss := by
  have := flat_bulk ss
  have := goInt_length (bl ss).length
  rw [lst, List.length_append]
  omega
end Go.Proofs.YtjebfkgigijnhaaDoor

/- What the bound of the second form gives of a header that came in. -/
namespace Go.Proofs.YtjebfkgigijnhaaDoor
open Go.ChangeShapes Go.WideShapes Go.ChangeAt Go.RowKit
set_option linter.unusedVariables false

/-- What a Ref holds. -/
def refBulk (r : RefM) : Nat := r.digest.size + 1 + tagsBulk r.acks

theorem refQ_bulk {H : Type} (y : DataW H) (r : RefM) (h : RefQ y r) : refBulk r ≤ Rows.uptoBulk y := by
  obtain ⟨y0, y1, rfl, h0, h1⟩ := h
  have q0 := h0.bulk
  have q1 := h1.bulk tagQ_bulk
  simp only [Rows.uptoBulk, Rows.uptoBulkAll, refBulk, tagsBulk]
  omega

def refsBulk (l : List RefM) : Nat := (l.map refBulk).sum

theorem refsBulk_len : ∀ (l : List RefM), l.length ≤ refsBulk l
  | [] => by simp
  | r :: l => by
    have := refsBulk_len l
    simp only [refsBulk, refBulk, List.map_cons, List.sum_cons, List.length_cons] at this ⊢
    omega

theorem refsBulk_mem : ∀ {l : List RefM} {r : RefM}, r ∈ l → refBulk r ≤ refsBulk l
  | [], r, h => by cases h
  | x :: l, r, h => by
    simp only [refsBulk, List.map_cons, List.sum_cons]
    rcases List.mem_cons.1 h with rfl | h
    · omega
    · have := refsBulk_mem h
      simp only [refsBulk] at this
      omega

theorem refs_flat_le : ∀ (l : List RefM), ((rd l).flatMap refB).length ≤ 36 * refsBulk l
  | [] => by simp [rd]
  | r :: l => by
    have ih := refs_flat_le l
    have h1 := txt_len_le r.digest.data.toList
    have h2 := tagsB_len_le r.acks
    have h3 : r.digest.data.toList.length = r.digest.size := by simp
    have e : (rd (r :: l)).flatMap refB = refB r.d ++ (rd l).flatMap refB := by simp [rd]
    have e2 : refB r.d = txt r.digest.data.toList ++ tagsB r.acks := rfl
    rw [e, List.length_append, e2, List.length_append]
    simp only [refsBulk, refBulk, List.map_cons, List.sum_cons] at ih ⊢
    omega

theorem hdr_bulk {H : Type} {d : DataW H} {x : HdrM} (h : HdrQ d x) (hk : Rows.uptoBulk d ≤ 1048576) : x.Lens ∧ x.Fit ∧ (encH x.d).length ≤ 1073741824 := by
  obtain ⟨y0, y1, y2, y3, rfl, h2, h3⟩ := h
  have q2 := h2.bulk refQ_bulk
  have q3 := h3.bulk StrQ.bulk
  simp only [Rows.uptoBulk, Rows.uptoBulkAll] at hk
  have b2 : refsBulk x.refs ≤ 1048576 := by unfold refsBulk; omega
  have b3 : strsBulk x.parents ≤ 1048576 := by unfold strsBulk; omega
  have l2 := refsBulk_len x.refs
  have l3 := strsBulk_length x.parents
  have la : ∀ r ∈ x.refs, tagsBulk r.acks ≤ 1048576 := fun r hr => by
    have := refsBulk_mem hr
    unfold refBulk at this
    omega
  have f2 := refs_flat_le x.refs
  have f3 := lst_bulk x.parents
  have g0 := goInt_length x.author
  have g1 := goInt_length x.round
  have g2 := goInt_length ((rd x.refs).length : Int)
  have hl : (encH x.d).length ≤ 1073741824 := by
    show (goInt x.author ++ goInt x.round ++ goInt ((rd x.refs).length : Int) ++ (rd x.refs).flatMap refB ++ lst (bl x.parents)).length ≤ _
    simp only [List.length_append]
    omega
  refine ⟨⟨by omega, by omega, fun r hr => ?_⟩, ⟨by omega, by omega, fun r hr => ?_, fun r hr t ht => ?_, by omega⟩, hl⟩
  · have := la r hr; have := tagsBulk_len r.acks; omega
  · have := la r hr; have := tagsBulk_len r.acks; omega
  · have := la r hr; have := tagsBulk_mem ht; omega
end Go.Proofs.YtjebfkgigijnhaaDoor

/- How a certificate that came in is opened; its bulk. -/
namespace Go.Proofs.YtjebfkgigijnhaaDoor
open Go.ChangeShapes Go.WideShapes Go.ChangeAt Go.RowKit Go.Joins Go.Deep
set_option linter.unusedVariables false

theorem list5x {α : Type} {l : List α} (h : l.length = 5) : ∃ c0 c1 c2 c3 c4, l = [c0, c1, c2, c3, c4] := by
  match l, h with
  | [c0, c1, c2, c3, c4], _ => exact ⟨c0, c1, c2, c3, c4, rfl⟩

theorem cellsCert7 : Tryd.prog.cellsOf 28 = 5 := by kernel_rfl

/-- How a certificate reads. -/
def CertQ {H : Type} (d : DataW H) (x : CertM) : Prop := ∃ y0 y1, d = .agg [y0, y1] ∧ HdrQ y0 x.hdr ∧ RowD TagQ y1 x.votes

set_option maxRecDepth 100000 in
theorem open_cert_cells {H : Type} {enc : TypeId × Value → H} {W : World} {fuel : Nat} {cs : List Value} {y : DataW H × List MemPlace}
    (hf : DataW.trod enc Tryd.prog W 0 (fun _ => true) true fuel 28 cs = some y) : ∃ x : CertM, cs = certK.c x ∧ certK.At W x ∧ CertQ y.1 x := by
  obtain ⟨xs, n, _, hx, hcl, hl, hg⟩ := DataW.trod_struct Tryd.underlying28 hf
  obtain ⟨c0, c1, c2, c3, c4, rfl⟩ := list5x (hcl.trans cellsCert7)
  obtain ⟨y0, y1, rfl⟩ := list2x hl
  have g0 := hg 0 _ rfl
  have g1 := hg 1 _ rfl
  simp [cellsHdr6, cellsTags6] at g0 g1
  obtain ⟨h, e0, hat, hq⟩ := open_hdr_cells g0
  obtain ⟨va, vlen, vc, e1⟩ := slice_form Tryd.underlying26 g1
  have e0' : [c0, c1, c2, c3] = [.int .i64 h.author, .int .i64 h.round, .slice h.ra h.refs.length h.rc, .slice h.pa h.parents.length h.pc] := e0
  simp at e0' e1
  obtain ⟨rfl, rfl, rfl, rfl⟩ := e0'
  subst e1
  obtain ⟨l, rfl, l1, l2, l3, l4⟩ := open_tagsK g1
  refine ⟨⟨h, va, l, vc⟩, rfl, ⟨hat, l1, l2⟩, y0.1, y1.1, ?_, hq, l4⟩
  have := congrArg Prod.fst hx
  simpa using this

set_option maxRecDepth 100000 in
theorem open_cert {H : Type} {enc : TypeId × Value → H} {W : World} {r : Reach} {b0 : Nat} {v : Value} {d : DataW H} {p : List MemPlace} (hv : Value.okWide Tryd.prog W r b0 28 v)
    (h : DataW.Trod enc Tryd.prog W 0 (fun _ => true) true 28 v d p) : ∃ x : CertM, v = x.v ∧ x.At W ∧ CertQ d x := by
  obtain ⟨cs, rfl, hsz⟩ := okWide_struct Tryd.underlying28 hv
  obtain ⟨fuel, hf⟩ := h
  have hc : (Value.agg cs).cells.toList = cs.toList := by simp [Value.cells]
  obtain ⟨x, e, hx, hq⟩ := open_cert_cells hf
  refine ⟨x, ?_, hx, hq⟩
  have e' : cs.toList = x.c := by rw [← hc]; exact e
  have : cs = x.c.toArray := by rw [← e']
  rw [this]
  rfl

/-- What the bound of the second form gives of a certificate. -/
theorem cert_bulk {H : Type} {d : DataW H} {x : CertM} (h : CertQ d x) (hk : Rows.uptoBulk d ≤ 1048576) : x.hdr.Lens ∧ x.Fit ∧ (encH x.hdr.d).length ≤ 1073741824 ∧ x.votes.length * 24 ≤ 140737488351232 := by
  obtain ⟨y0, y1, rfl, h0, h1⟩ := h
  have q1 := h1.bulk tagQ_bulk
  simp only [Rows.uptoBulk, Rows.uptoBulkAll] at hk
  have b1 : tagsBulk x.votes ≤ 1048576 := by unfold tagsBulk; omega
  obtain ⟨a, b, c⟩ := hdr_bulk h0 (by omega)
  have l1 := tagsBulk_len x.votes
  have l2 := tagsB_len_le x.votes
  exact ⟨a, ⟨b, by omega, fun t ht => by have := tagsBulk_mem ht; omega, by omega⟩, c, by omega⟩
end Go.Proofs.YtjebfkgigijnhaaDoor

/- CertChecks: for every input the statement answers true, and each argument reads afterwards as it read before. Condition: the two tables of package mix read as the program's text lays them; and what the arguments hold is together of bulk at most 1048576. -/
namespace Go.Proofs.YtjebfkgigijnhaaDoor
open Go.ChangeShapes Go.WideShapes Go.ChangeAt Go.RowKit
open Go.ChangeMaps (open_string shut_string)
set_option linter.unusedVariables false

set_option maxRecDepth 100000 in
theorem certChecks_reads (os : Os) {H : Type} (enc : TypeId × Value → H) : ∃ places, DataW.whole enc Tryd.prog ((World.doorLaid Tryd.prog 400 os).forCall (fun _ _ => 0) ⟨#[], #[.int .i64 0, .agg #[.int .i64 0, .int .i64 0, .slice none 0 0, .slice none 0 0, .slice none 0 0]], []⟩).memory Tryd.f3.params.toList Rows.certChecksSpec.vars false (#[.int .i64 0, .agg #[.int .i64 0, .int .i64 0, .slice none 0 0, .slice none 0 0, .slice none 0 0]] : Array Value).toList 8 = some ([.lit (.int .i64 0), .agg [.agg [.lit (.int .i64 0), .lit (.int .i64 0), .nil, .nil], .nil]], [], places) :=
  ⟨[], by kernel_rfl⟩

set_option maxRecDepth 100000 in
theorem certChecks_lifted (os : Os) (started : os.Started) (H : Type) (enc : TypeId × Value → H) (F : Stop.Interp) :
    ReturnsInHanded {} Tryd.checked os 3 .any ((Rows.OpenSpec.upto Rows.certChecksSpec).preRow enc Tryd.prog Tryd.f3 Rows.certChecksUptoRow.domain false Rows.certChecksUptoRow.laid) (((Rows.OpenSpec.upto Rows.certChecksSpec).at F).post enc Tryd.prog Tryd.f3 false true false false) := by
  obtain ⟨places, hx⟩ := certChecks_reads os enc
  refine returnsInHanded_of_row (C := Tryd.checked) (s := Rows.OpenSpec.upto Rows.certChecksSpec) ownKnob_none started (by kernel_rfl) Tryd.func3
    ⟨World.doorLaid Tryd.prog 400 os, fun _ _ => 0, ⟨#[], #[.int .i64 0, .agg #[.int .i64 0, .int .i64 0, .slice none 0 0, .slice none 0 0, .slice none 0 0]], []⟩, rfl, World.shaped_of_RefB (by kernel_rfl) (by kernel_rfl), rfl, (Input.okWide_of_okWideB (by kernel_rfl)).2,
      OpenSpec.preRow_of_cond 8 hx (by kernel_rfl) (fun k hk => by cases hk; kernel_rfl) (by kernel_rfl) (Mx.door_met os _), by
      simp only [Assume.holds]
      exact ⟨by simp, by simp, fun _ => Modest.zero, by simp, by simp⟩⟩ ?_
  intro W base args ds gs before hval0 hW hcnd hcond hsz0 hL _ _
  have hk : Rows.uptoSmall H (ds ++ gs) = true := hcond _ rfl
  have hval : ∀ (j : Nat) t v, Tryd.f3.params[j]? = some t → args[j]? = some v → Value.okWide Tryd.prog W .any base t v := hval0
  have hsz : (DataW.weightsEach Tryd.prog (Tryd.f3.params.toList ++ Rows.certChecksSpec.plain.varTypes Tryd.prog) (ds ++ gs)).all (· ≤ reachBytes) = true := hsz0
  have hW' := hW
  obtain ⟨p, q, hA0, hV, rfl, hfz, hnd⟩ := hW
  have hA : DataW.TrodAll enc Tryd.prog W 0 (fun _ => true) true Tryd.f3.params.toList args.toList ds p := hA0
  rw [Tryd.params3] at hA hval hsz
  obtain ⟨v0, vs0, d0, ds0, p0, q0, hargs, rfl, rfl, h0, r0⟩ := trodAll_cons hA
  obtain ⟨v1, vs1, d1, ds1, p1, q1, rfl, rfl, rfl, h1, r1⟩ := trodAll_cons r0
  obtain ⟨rfl, rfl, rfl⟩ := trodAll_nil r1
  obtain rfl : args = #[v0, v1] := by cases args; simp_all
  obtain ⟨rfl, rfl⟩ := trodVars_none hV
  have k0 := h0
  have lt0 : ∀ x ∈ p0, x.block < W.heap.size := by obtain ⟨m, hm⟩ := k0; exact DataW.trod_lt m _ _ _ hm
  obtain ⟨a0, rfl, hd0, hp0, w0⟩ := open_int Tryd.underlying3 (hval 0 3 v0 rfl rfl) h0
  have k1 := h1
  have lt1 : ∀ x ∈ p1, x.block < W.heap.size := by obtain ⟨m, hm⟩ := k1; exact DataW.trod_lt m _ _ _ hm
  obtain ⟨x1, rfl, at1, qd1⟩ := open_cert (hval 1 28 v1 rfl rfl) h1
  obtain ⟨sl1, ft1, eb1, vl1⟩ := cert_bulk qd1 (Nat.le_trans (upto_part (d := d1) (by simp)) (upto_bound hk))
  clear hA0 hval0 hsz0
  refine (certChecks_walk a0 x1 W w0 at1 sl1 ft1 eb1 vl1 (Mx.of_laid hL)).mono fun e W' ⟨he, bel⟩ => ?_
  subst he
  exact ⟨_, rfl, _, _, _, [], _, [], hW', trodAll_mk1 (shut_bool Tryd.underlying4 _), (trodAll_cons_mk (Below.trod laidOut_true (by kernel_rfl) (of_decide_eq_true (by kernel_rfl)) k0 bel lt0) (trodAll_cons_mk (Below.trod laidOut_true (by kernel_rfl) (of_decide_eq_true (by kernel_rfl)) k1 bel lt1) trodAll_mk0)), rfl, bel.frame _, fun h => by cases h⟩

theorem certChecksUpto_holds : Rows.CertChecksUptoSaid :=
  OpenClaim.holds_of_cond 3 Tryd.f3 rfl rfl rfl rfl rfl rfl rfl ⟨rfl, rfl, rfl, rfl, rfl⟩ rfl rfl rfl rfl rfl (by kernel_rfl) Tryd.func3 (by kernel_rfl)
    (of_decide_eq_true (by kernel_rfl)) (by unfold Func.isWrapper; rw [if_neg (of_decide_eq_false (by kernel_rfl))]; exact ⟨rfl, rfl⟩)
    (fun os started H enc _ F => by rw [OpenClaim.pre_eq_preRow]; exact certChecks_lifted os started H enc F)

theorem certChecksUpto_card : Rows.CertChecksUptoCardSaid :=
  Claim7.holds_tied_plain_at .later [] [.data, .data] true (true, "9bc01858be54a6f7b88abffa2cc2f115ecc2b533579eb6ab191bef2d768c1a51") false
    certChecksUpto_holds (fun _ h => by cases h) (by kernel_rfl) (fun _ h => by cases h) certChecksUpto_row_tie rfl ⟨rfl, rfl⟩ (by kernel_rfl) rfl
    (fun f fn hf hfn => by
      obtain rfl : f = 3 := Option.some.inj ((show Tryd.prog.funcNamed "tusk/tusklaw07.CertChecks" = some 3 by kernel_rfl).symm.trans hf) |>.symm
      obtain rfl : fn = Tryd.f3 := (Option.some.inj (Tryd.func3.symm.trans hfn)).symm
      exact ⟨by kernel_rfl, fun j t ht => by
        rw [Tryd.params3] at ht
        have hall : ∀ t ∈ (#[3, 28] : Array TypeId).toList, Tryd.prog.wantsStandIn t = false := by
          show ∀ t ∈ ([3, 28] : List TypeId), Tryd.prog.wantsStandIn t = false
          refine List.forall_mem_cons.2 ⟨by kernel_rfl, ?_⟩
          refine List.forall_mem_cons.2 ⟨by kernel_rfl, ?_⟩
          exact fun _ h => by cases h
        exact hall t (Array.mem_toList_iff.2 (Array.mem_of_getElem? ht))⟩)
    (by kernel_rfl)
end Go.Proofs.YtjebfkgigijnhaaDoor
