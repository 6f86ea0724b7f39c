/- What tusklaw06.Own does; nothing old in memory is turned. -/
import Derived.Test.YtoodapbmpbaogaaDoorHdrSets
import Derived.Test.YtoodapbmpbaogaaDoorHdrTagsEnc
import Derived.Test.YtoodapbmpbaogaaDoorKindsStep
namespace Go.Proofs.YtoodapbmpbaogaaDoor
open Go.RowKit
set_option linter.unusedVariables false

/-- Its lists are no longer than a machine holds. -/
structure HdrM.Lens (x : HdrM) : Prop where
  n : x.refs.length * 40 ≤ 140737488351232
  p : x.parents.length * 16 ≤ 140737488351232
  acks : ∀ r ∈ x.refs, r.acks.length * 24 ≤ 140737488351232

theorem rd_succ (l : List RefM) (k : Nat) (x : RefM) (h : l[k]? = some x) : rd (l.take (k + 1)) = rd (l.take k) ++ [x.d] := by
  have hk := (List.getElem?_eq_some_iff.1 h).1
  have he := (List.getElem?_eq_some_iff.1 h).2
  rw [List.take_succ_eq_append_getElem hk, he]
  simp [rd]

theorem results_hdrO {fn : Func} {p : Tmp} (h : fn.results = #[.cell p 66]) (tmps : Array Value) (w : World) (g : Nat) (x : HdrM)
    (hp : tmps.getD p undef = .pointer (some ⟨g, 0, none⟩)) (hg : Arr w g 66 x.c) :
    (results fn tmps).run Tryd.prog w = .ok x.v w :=
  results_cell_row h tmps w g 66 x.c.toArray (0, 0) _ hp hg Tryd.underlying66 rfl infoHdr6

/-- A header that shares nothing is handed back. -/
def GotOwnH (W : World) (x : HdrM) (e : Ending) (w : World) : Prop :=
  ∃ y : HdrM, e = .returned y.v ∧ y.d = x.d ∧ y.At w ∧ (∀ b, y.foot b → W.heap.size ≤ b) ∧ Below W.heap.size W w

set_option maxRecDepth 100000 in
set_option maxHeartbeats 4000000 in
theorem own6_any (x : HdrM) (w : World) (hA : x.At w) (hL : x.Lens) :
    Calls Tryd.prog 34 #[x.v] w fun e w' => GotOwnH w x e w' := by
  obtain ⟨au, ro, ra, rs, rc, pa, ps, pc⟩ := x
  have hA1 : RowAt refK w ra rs := hA.refs
  have hA2 : RowAt strK w pa ps := hA.ps
  have hnp : pa = none → pc = 0 := hA.np
  have hL1 : rs.length * 40 ≤ 140737488351232 := hL.n
  have hL2 : ps.length * 16 ≤ 140737488351232 := hL.p
  have hL3 : ∀ r ∈ rs, r.acks.length * 24 ≤ 140737488351232 := hL.acks
  obtain ⟨hX, hZ, hB⟩ := two_new w 66 66 [.int .i64 au, .int .i64 ro, .slice ra rs.length rc, .slice pa ps.length pc] [.int .i64 0, .int .i64 0, .slice none 0 0, .slice none 0 0]
  obtain ⟨i0, hi, hz0, hz1, hz2⟩ := info_parts infoRef6
  obtain ⟨i1, hi', hz0', hz1', hz2'⟩ := info_parts infoTag6
  clear hA hL
  unfold HdrM.v
  simp only
  go_enter Tryd.func34, Tryd.ntmps34
  go_wp2
  go_loopw [3, 4] (fun v3 v4 wr => ∃ (k : Nat) (m : List RefM), k ≤ rs.length ∧ m.length = k ∧ v4 = .int .i64 (k : Int) ∧ Hid (rd m = rd (rs.take k)) ∧ KQ refK 106 wr (w.heap.size + 1 + 1) v3 m ∧ (∀ x ∈ m, ∀ b, refK.foot x b → w.heap.size + 1 + 1 ≤ b) ∧ Arr wr w.heap.size 66 [.int .i64 au, .int .i64 ro, .slice ra rs.length rc, .slice pa ps.length pc] ∧ Arr wr (w.heap.size + 1) 66 [.int .i64 0, .int .i64 0, .slice none 0 0, .slice none 0 0] ∧ Below w.heap.size w wr) (fun _ v _ => rs.length - (intOf v).toNat)
  case atStart => exact ⟨0, [], Nat.zero_le _, rfl, rfl, (rfl : _ = _), KQ.empty _ _ _ _, (fun x hx => by cases hx), hX, hZ, hB⟩
  case round =>
    clear hX hZ hB
    obtain ⟨k, m, hk, hmk, rfl, hD, hq, hof, hX, hZ, hb⟩ := hrel
    have x2 := hX.cell (i := 2) rfl
    by_cases hlt : k < rs.length
    · obtain ⟨r, hr⟩ : ∃ r, rs[k]? = some r := ⟨rs[k], List.getElem?_eq_getElem hlt⟩
      obtain ⟨b, off, rfl, hbl, y0, y1⟩ := (hA1.below hb).ref hr
      obtain ⟨hrt, hrn⟩ := (hA1.below hb).at_ r (List.mem_of_getElem? hr)
      have hLr := hL3 r (List.mem_of_getElem? hr)
      have HD : Hid (rd (rs.take (k + 1)) = rd m ++ [r.d]) := by
        show _ = _
        rw [rd_succ rs k r hr, hD.out]
      obtain ⟨qa, qc, rfl, hqn, _⟩ := hq.form
      rw [hmk] at hq
      clear hr hD
      have hwz := hZ.lt
      obtain ⟨we, hwe⟩ : ∃ q, wr.alloc (.cells #[] 54) = q := ⟨_, rfl⟩
      have hbe0 : Below wr.heap.size wr we := by rw [← hwe]; exact belowNew _ _
      have hbe : Below wr.heap.size wr we.drew := Below.drew hbe0
      have hown : we.drew.ownsRow wr.heap.size 54 tagK.n (.slice (some ⟨wr.heap.size, 0, none⟩) 0 0) 0 [] := by rw [← hwe]; exact World.ownsRow_made wr #[] 0 (Nat.le_refl _) (by unfold maxLen; omega) (by simp)
      have hrt1 := hrt.below hbe
      have hz1e : wr.heap.size ≤ we.drew.heap.size := hbe.size
      have x2a := (hX.below hbe0 hX.lt).cell (i := 2) rfl
      have y0a : we.cell? ⟨b, off + k * 2, none⟩ = some (.string r.digest) := (hbe0.cell (p := ⟨b, off + k * 2, none⟩) hbl).trans y0
      have y1a : we.cell? ⟨b, off + k * 2 + 1, none⟩ = some (.slice r.ao r.acks.length r.cap) := (hbe0.cell (p := ⟨b, off + k * 2 + 1, none⟩) hbl).trans y1
      have n1 : r.acks.length ≤ maxLen := by unfold maxLen; omega
      have n2 : r.acks.length * 24 ≤ 140737488355328 := by omega
      have n3 : m.length + 1 ≤ maxLen := by unfold maxLen; omega
      have n4 : (m.length + 1) * 40 ≤ 140737488355328 := by omega
      go_wp2_with fail
      go_region_law (first
        | (refine step_copy (K := tagK) _ (by rfl) _ _ 22 (by rfl) wr.heap.size 54 i1 _ 24 Tryd.underlying22 hi' hz0' hz1' hz2' rfl _ (by rfl) hown r.ao r.cap r.acks (by rfl) hrt1 (fun _ _ _ h => h.elim) hrn n1 n2 hz1e ?_; intro ao3 cap3 w3 hO3 hOn3 hOf3 hb3; have hbA : Below wr.heap.size wr w3 := hbe.trans hb3; have x2b := (hX.below hbA hX.lt).cell (i := 2) rfl; have y0b : w3.cell? ⟨b, off + k * 2, none⟩ = some (.string r.digest) := (hbA.cell (p := ⟨b, off + k * 2, none⟩) hbl).trans y0; have hbx := belowNew w3 (.cells #[.string r.digest, .slice ao3 r.acks.length cap3] 106); have hbB := hbA.trans (hbx.mono hbA.size); have hq5 := hq.below hbB; have hx5 := Kind.below refK (x := ⟨r.digest, r.acks, ao3, cap3⟩) ⟨hO3, hOn3⟩ hbx; have hxf : ∀ b, refK.foot ⟨r.digest, r.acks, ao3, cap3⟩ b → wr.heap.size ≤ b := (fun g hg => by rcases hg with ⟨h1, o, h2⟩ | ⟨_, _, h⟩; exact hOf3 h1 g o h2; exact h.elim); have hxo : ∀ b, refK.foot ⟨r.digest, r.acks, ao3, cap3⟩ b → (Value.slice qa k qc).ownBlock ≠ some b := (fun g hg e => by have := hxf g hg; have := (hq.lt g e).2; omega); have hN := new_ref w3 ⟨r.digest, r.acks, ao3, cap3⟩; have hbs : w.heap.size + 1 + 1 ≤ (w3.alloc (.cells #[.string r.digest, .slice ao3 r.acks.length cap3] 106)).heap.size := Nat.le_trans hwz hbB.size)
        | (refine step_push (K := refK) _ (by rfl) _ _ 64 (by rfl) (w.heap.size + 1 + 1) 106 i0 _ 40 Tryd.underlying64 hi hz0 hz1 hz2 rfl _ m (by rfl) hq5 ⟨r.digest, r.acks, ao3, cap3⟩ hx5 hxo ⟨w3.heap.size, 0, none⟩ 1 (by rfl) hN n3 n4 hbs ?_; intro ao8 cap8 w8 hq8 hk8))
      all_goals
        have hkB := Kept.below hk8 hbs (fun j hj => (hq5.lt j hj).1)
        have hbF : Below (w.heap.size + 1 + 1) wr w8 := (hbB.mono hwz).trans hkB
        have hXF := hX.below hbF (by omega)
        have hZF := hZ.below hbF (by omega)
        have hbG : Below w.heap.size w w8 := hb.trans (hbF.mono (by omega))
        have hofG : ∀ y ∈ m ++ [(⟨r.digest, r.acks, ao3, cap3⟩ : RefM)], ∀ b, refK.foot y b → w.heap.size + 1 + 1 ≤ b := by
          intro y hy b hb
          rw [List.mem_append, List.mem_singleton] at hy
          rcases hy with hy | rfl
          · exact hof y hy b hb
          · have := hxf b hb; omega
        rw [hmk] at hq8
        have HDF : Hid (rd (m ++ [(⟨r.digest, r.acks, ao3, cap3⟩ : RefM)]) = rd (rs.take (k + 1))) := by
          show _ = _
          rw [HD.out, rd_append]
          rfl
        clear hk8 hkB hq5 hN hbs hbx hbB hbA hx5 hxo hO3 hOf3 hb3 x2b y0b hX hZ hb hq hown hrt hrt1 hbe hbe0 x2 y0 y1 x2a y0a y1a HD hwe hbF
        go_wp2
        go_roundw
        case rel => exact ⟨k + 1, m ++ [⟨r.digest, r.acks, ao3, cap3⟩], by omega, by simp [hmk], by go_num, HDF, hq8, hofG, hXF, hZF, hbG⟩
        case measure => simp [intOf]; omega
    · obtain rfl : k = rs.length := by omega
      clear hmk
      have HD : Hid (rd m = rd rs) := by
        have := hD.out
        rw [List.take_length] at this
        exact this
      obtain ⟨qa, qc, rfl, hqn, hqt⟩ := hq.form
      have hqf := hq.foot_ge (B := w.heap.size + 1 + 1) (Nat.le_refl _) hof
      have f2 := hX.frozen 2
      have hX1 := hX.set 2 (.slice qa m.length qc)
      have hZ1 := hZ.other (p := ⟨w.heap.size, 2, none⟩) (by show w.heap.size + 1 ≠ w.heap.size; omega) (.slice qa m.length qc)
      have hb1 := hb.setCell (p := ⟨w.heap.size, 2, none⟩) (Nat.le_refl _) (.slice qa m.length qc)
      have hqt1 := hqt.kept (Kept.setCell wr ⟨w.heap.size, 2, none⟩ (.slice qa m.length qc)) (fun b hb e => by have := hqf b hb; have e' : b = w.heap.size := e; omega)
      obtain ⟨w1, hw1⟩ : ∃ q, wr.setCell ⟨w.heap.size, 2, none⟩ (.slice qa m.length qc) = q := ⟨_, rfl⟩
      rw [hw1] at hX1 hZ1 hb1 hqt1
      obtain ⟨w2, hw2⟩ : ∃ q, w1.alloc (.cells #[] 9) = q := ⟨_, rfl⟩
      have hbe : Below w1.heap.size w1 w2 := by rw [← hw2]; exact belowNew _ _
      have hown : w2.ownsRow w1.heap.size 9 strK.n (.slice (some ⟨w1.heap.size, 0, none⟩) 0 0) 0 [] := by rw [← hw2]; exact World.ownsRow_made w1 #[] 0 (Nat.le_refl _) (by unfold maxLen; omega) (by simp)
      have hX2 := hX1.below hbe hX1.lt
      have hZ2 := hZ1.below hbe hZ1.lt
      have hb2 := hb1.trans (hbe.mono hb1.size)
      have hP2 := hA2.below hb2
      have hqt2 := hqt1.below hbe
      have hqf2 : ∀ b, rowFoot refK qa m b → b < w1.heap.size := fun b hb => hqt1.lt hb
      have x3 := hX2.cell (i := 3) rfl
      have hwl := hZ1.lt
      obtain ⟨j0, hj, hy0, hy1, hy2⟩ := info_parts infoString
      clear hX hZ hb hq hqt hD
      go_wp2_with (at_builtin; refine wpList_copy (K := strK) rfl _ _ 25 rfl w1.heap.size 9 j0 _ 16 Tryd.underlying25 hj hy0 hy1 hy2 rfl _ rfl hown pa pc ps rfl hP2 (fun _ _ _ h => h.elim) hnp ?c1 ?c2 ?c3 ?_)
      case c1 => unfold maxLen; omega
      case c2 => omega
      case c3 => exact hbe.size
      intro oa oc w3 hO3 hOn hOf hb3
      have hX3 := hX2.below hb3 hX1.lt
      have hZ3 := hZ2.below hb3 hZ1.lt
      have hqt3 := hqt2.keep (fun b hb => hb3.block b (hqf2 b hb))
      have hB3 := hb2.trans (hb3.mono hb1.size)
      have hof3 : ∀ b, rowFoot strK oa ps b → w.heap.size + 1 + 1 ≤ b := fun b hb => by
        obtain ⟨hl, off, e⟩ := strs_foot hb
        have := hOf (fun e => by rw [e] at hl; simp at hl) b off e
        omega
      clear hX1 hZ1 hX2 hZ2 hP2 hqt1 hqt2 hb1 hb2 hown hbe hb3 x3 hw2 hw1
      have x3 := hX3.cell (i := 3) rfl
      have f3 := hX3.frozen 3
      have hX4 := hX3.set 3 (.slice oa ps.length oc)
      have hZ4 := hZ3.other (p := ⟨w.heap.size, 3, none⟩) (by show w.heap.size + 1 ≠ w.heap.size; omega) (.slice oa ps.length oc)
      have hB4 := hB3.setCell (p := ⟨w.heap.size, 3, none⟩) (Nat.le_refl _) (.slice oa ps.length oc)
      have hqt4 := hqt3.kept (Kept.setCell w3 ⟨w.heap.size, 3, none⟩ (.slice oa ps.length oc)) (fun b hb e => by have := hqf b hb; have e' : b = w.heap.size := e; omega)
      have hO4 := hO3.kept (Kept.setCell w3 ⟨w.heap.size, 3, none⟩ (.slice oa ps.length oc)) (fun b hb e => by have := hof3 b hb; have e' : b = w.heap.size := e; omega)
      obtain ⟨w4, hw4⟩ : ∃ q, w3.setCell ⟨w.heap.size, 3, none⟩ (.slice oa ps.length oc) = q := ⟨_, rfl⟩
      rw [hw4] at hX4 hZ4 hB4 hqt4 hO4
      have t0 := hX4.cell (i := 0) rfl
      have t1 := hX4.cell (i := 1) rfl
      have t2 := hX4.cell (i := 2) rfl
      have t3 := hX4.cell (i := 3) rfl
      have z0 := hZ4.cell (i := 0) rfl
      have z1 := hZ4.cell (i := 1) rfl
      have z2 := hZ4.cell (i := 2) rfl
      have z3 := hZ4.cell (i := 3) rfl
      have g0 := hZ4.frozen 0
      have g1 := hZ4.frozen 1
      have g2 := hZ4.frozen 2
      have g3 := hZ4.frozen 3
      have kF := kept_set4 w4 (w.heap.size + 1) (.int .i64 au) (.int .i64 ro) (.slice qa m.length qc) (.slice oa ps.length oc)
      have hZF := hZ4.set4 (.int .i64 au) (.int .i64 ro) (.slice qa m.length qc) (.slice oa ps.length oc)
      have hBF := below_set4 hB4 (show w.heap.size ≤ w.heap.size + 1 by omega) (.int .i64 au) (.int .i64 ro) (.slice qa m.length qc) (.slice oa ps.length oc)
      have hqtF := hqt4.kept kF (fun b hb e => by have := hqf b hb; have e' : b = w.heap.size + 1 := e; omega)
      have hOF := hO4.kept kF (fun b hb e => by have := hof3 b hb; have e' : b = w.heap.size + 1 := e; omega)
      have fin : ∀ e : Ending, e = .returned (HdrM.v ⟨au, ro, qa, m, qc, oa, ps, oc⟩) → GotOwnH w ⟨au, ro, ra, rs, rc, pa, ps, pc⟩ e _ :=
        fun e hv => ⟨⟨au, ro, qa, m, qc, oa, ps, oc⟩, hv, by show HdrD.mk _ _ _ _ = HdrD.mk _ _ _ _; rw [HD.out], ⟨hqtF, hqn, hOF, hOn⟩, fun b hb => hb.elim (fun h => by have := hqf b h; omega) (fun h => by have := hof3 b h; omega), hBF⟩
      unfold set4 at hZF fin
      clear hX3 hZ3 hX4 hZ4 hB4 hqt4 hO4 kF hBF hqtF hOF hB3 hqt3 hO3 HD
      go_wp2
      refine bodyPost_ret (v := HdrM.v ⟨au, ro, qa, m, qc, oa, ps, oc⟩) (results_hdrO rfl _ _ (w.heap.size + 1) ⟨au, ro, qa, m, qc, oa, ps, oc⟩ rfl hZF) rfl ?_
      exact fin _ rfl
end Go.Proofs.YtoodapbmpbaogaaDoor
