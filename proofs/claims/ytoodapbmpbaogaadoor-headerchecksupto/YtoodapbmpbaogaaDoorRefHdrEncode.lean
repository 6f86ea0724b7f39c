/- What tuskref06.Encode does; nothing old in memory is turned. -/
import Derived.Test.YtoodapbmpbaogaaDoorHdrEncode
import Derived.Test.YtoodapbmpbaogaaDoorRefHdrTagsEnc
import Derived.Lib.QuietBelow
import Derived.BigQuiet
namespace Go.Proofs.YtoodapbmpbaogaaDoor
open Go.RowKit Go.Sort
set_option linter.unusedVariables false

set_option maxRecDepth 100000 in
set_option maxHeartbeats 4000000 in
theorem refHdrEncode_any (x : HdrM) (w : World) (hA : x.At w) (hf : x.Fit) :
    Calls Tryd.prog 38 #[x.v] w fun e w' => e = .returned (.string ⟨(encH x.d).toArray⟩) ∧ Below w.heap.size w w' := by
  have hX := Arr.new w 66 x.c
  have hB := belowNew w (.cells x.c.toArray 66)
  obtain ⟨out, hout⟩ : ∃ out, Hid (out = (⟨(encH x.d).toArray⟩ : ByteArray)) := ⟨_, rfl⟩
  rw [← hout.out]
  have hn := hf.n
  have hpn := hf.p
  have HL : Hid (∀ k, (preH x k).length ≤ 140737488355328) := fun k => Nat.le_trans (preH_le x k) hf.len
  have HP : Hid ((preH x x.refs.length).length + (lst (bl x.parents)).length ≤ 140737488355328) := by
    have := hf.len
    rw [encH_eq, List.length_append] at this
    exact this
  have HE : Hid (encH x.d = _) := encH_eq x
  have HK := hf.acks
  have HM := hf.mac
  have HS : Hid (∀ k r, x.refs[k]? = some r → preH x (k + 1) = preH x k ++ txt r.digest.data.toList ++ tagsB r.acks) := fun k r h => preH_succ x k r h
  have H0 : Hid (preH x 0 = goInt x.author ++ goInt x.round ++ goInt (x.refs.length : Int)) := by show _ = _; simp [preH]
  obtain ⟨au, ro, ra, rs, rc, pa, ps, pc⟩ := x
  have hA1 : RowAt refK w ra rs := hA.refs
  have hA2 : RowAt strK w pa ps := hA.ps
  obtain ⟨pre, hpre⟩ : ∃ q, q = preH ⟨au, ro, ra, rs, rc, pa, ps, pc⟩ := ⟨_, rfl⟩
  rw [← hpre] at HL HP HE HS H0
  clear hf hA hpre
  unfold HdrM.v
  unfold HdrM.c at hX hB
  simp only at hX hB hn hpn HL HP HE HK HM HS H0 ⊢
  obtain ⟨w0, hw0⟩ : ∃ q, w.alloc (.cells #[.int .i64 au, .int .i64 ro, .slice ra rs.length rc, .slice pa ps.length pc] 66) = q := ⟨_, rfl⟩
  rw [hw0] at hX hB
  obtain ⟨ba, hba⟩ : ∃ q, Hid (q = (⟨(goInt au).toArray⟩ : ByteArray)) := ⟨_, rfl⟩
  obtain ⟨bn, hbn⟩ : ∃ q, Hid (q = (⟨(goInt ro).toArray⟩ : ByteArray)) := ⟨_, rfl⟩
  obtain ⟨bm, hbm⟩ : ∃ q, Hid (q = (⟨(goInt (rs.length : Int)).toArray⟩ : ByteArray)) := ⟨_, rfl⟩
  have k1 : ∀ d os, Calls Tryd.prog 55 #[.int .i64 au] (grow (redrawn w0 d) os) fun e w'' => e = .returned (.string ba) ∧ ∃ p : Regrown, w'' = grow (redrawn w0 p.d) p.os := fun d os => Calls.regrown_of (by rw [hba.out]; exact refInt_any au _)
  have k2 : ∀ d os, Calls Tryd.prog 55 #[.int .i64 ro] (grow (redrawn w0 d) os) fun e w'' => e = .returned (.string bn) ∧ ∃ p : Regrown, w'' = grow (redrawn w0 p.d) p.os := fun d os => Calls.regrown_of (by rw [hbn.out]; exact refInt_any ro _)
  have k3 : ∀ d os, Calls Tryd.prog 55 #[.int .i64 (rs.length : Int)] (grow (redrawn w0 d) os) fun e w'' => e = .returned (.string bm) ∧ ∃ p : Regrown, w'' = grow (redrawn w0 p.d) p.os := fun d os => Calls.regrown_of (by rw [hbm.out]; exact refInt_any (rs.length : Int) _)
  have sa : ba.size ≤ 9 := by rw [hba.out, size_mk]; exact goInt_length _
  have sn : bn.size ≤ 9 := by rw [hbn.out, size_mk]; exact goInt_length _
  have sm : bm.size ≤ 9 := by rw [hbm.out, size_mk]; exact goInt_length _
  have C0 := cell_regrown (hX.cell (i := 0) rfl)
  have C1 := cell_regrown (hX.cell (i := 1) rfl)
  have C2 := cell_regrown (hX.cell (i := 2) rfl)
  have hp0 : Hid (ba ++ bn ++ bm = (⟨(pre 0).toArray⟩ : ByteArray)) := by
    show _ = _
    rw [H0.out, hba.out, hbn.out, hbm.out]
    apply ByteArray.ext
    simp
  clear H0
  go_enter Tryd.func38, Tryd.ntmps38
  go_wp2_with fail
  refine wp_region_quiet_below (by kernel_rfl) (by kernel_rfl) ?_
  iterate 2 (go_big_quiet_step (fail))
  go_big_quiet_step (exact k1 _ _)
  iterate 2 (go_big_quiet_step (fail))
  go_big_quiet_step (exact k2 _ _)
  iterate 4 (go_big_quiet_step (fail))
  go_big_quiet_step (exact k3 _ _)
  iterate 2 (go_big_quiet_step (fail))
  refine wpQuiet_nil ?_
  rintro w' ⟨p, rfl⟩
  have hb' := below_regrown w0 p.d p.os
  have hX1 := hX.below hb' hX.lt
  have hB1 := hB.trans (hb'.mono hB.size)
  generalize grow (redrawn w0 p.d) p.os = w1 at hX1 hB1 ⊢
  clear k1 k2 k3 C0 C1 C2 hX hB hb'
  rw [hp0.out]
  go_wp2
  go_loopw [3, 4] (fun v3 v4 wr => ∃ k : Nat, k ≤ rs.length ∧ v4 = .int .i64 (k : Int) ∧ v3 = .string ⟨(pre k).toArray⟩ ∧ Arr wr w.heap.size 66 [.int .i64 au, .int .i64 ro, .slice ra rs.length rc, .slice pa ps.length pc] ∧ Below w.heap.size w wr) (fun _ v _ => rs.length - (intOf v).toNat)
  case atStart => exact ⟨0, Nat.zero_le _, rfl, rfl, hX1, hB1⟩
  case round =>
    clear hX1 hB1 hp0 sa sn sm
    obtain ⟨k, hk, rfl, rfl, hX, hb⟩ := hrel
    have x2 := hX.cell (i := 2) rfl
    by_cases hlt : k < rs.length
    · obtain ⟨r, hr⟩ : ∃ r, rs[k]? = some r := ⟨rs[k], List.getElem?_eq_getElem hlt⟩
      obtain ⟨b, off, rfl, hbl, y0, y1⟩ := (hA1.below hb).ref hr
      have hrt := ((hA1.below hb).at_ r (List.mem_of_getElem? hr)).1
      have hs1 := HS.out k r hr
      have hlk := HL.out (k + 1)
      rw [hs1] at hlk
      simp only [List.length_append] at hlk
      have hdl : r.digest.size ≤ (txt r.digest.data.toList).length := by rw [txt, List.length_append]; simp
      have hra := HK r (List.mem_of_getElem? hr)
      have hrm := HM r (List.mem_of_getElem? hr)
      obtain ⟨b0, hb0⟩ : ∃ q, q = (⟨(pre k).toArray⟩ : ByteArray) := ⟨_, rfl⟩
      obtain ⟨b1, hb1⟩ : ∃ q, Hid (q = (⟨(txt r.digest.data.toList).toArray⟩ : ByteArray)) := ⟨_, rfl⟩
      obtain ⟨b2, hb2⟩ : ∃ q, Hid (q = (⟨(tagsB r.acks).toArray⟩ : ByteArray)) := ⟨_, rfl⟩
      have k1 : ∀ d os, Calls Tryd.prog 56 #[.string r.digest] (grow (redrawn wr d) os) fun e w'' => e = .returned (.string b1) ∧ ∃ p : Regrown, w'' = grow (redrawn wr p.d) p.os := fun d os => Calls.regrown_of (by rw [hb1.out]; exact refText_any r.digest _ (by omega))
      have k2 : ∀ d os, Calls Tryd.prog 59 #[.slice r.ao r.acks.length r.cap] (grow (redrawn wr d) os) fun e w'' => e = .returned (.string b2) ∧ ∃ p : Regrown, w'' = grow (redrawn wr p.d) p.os := fun d os => Calls.regrown_of (by
        rw [hb2.out]
        exact refTags_any r.ao r.cap r.acks _ (hrt.below (below_regrown wr d os)) hra hrm (by omega))
      have s0 : b0.size = (pre k).length := by rw [hb0, size_mk]
      have s1 : b1.size = (txt r.digest.data.toList).length := by rw [hb1.out, size_mk]
      have s2 : b2.size = (tagsB r.acks).length := by rw [hb2.out, size_mk]
      have n1 : ¬ (9223372036854775807 < b0.size + b1.size) := by omega
      have n2 : ¬ (9223372036854775807 < b0.size + b1.size + b2.size) := by omega
      have hjoin : Hid (b0 ++ b1 ++ b2 = (⟨(pre (k + 1)).toArray⟩ : ByteArray)) := by
        show _ = _
        rw [hs1, hb0, hb1.out, hb2.out]
        apply ByteArray.ext
        simp
      have C2 := cell_regrown x2
      have D0 := cell_regrown y0
      have D1 := cell_regrown y1
      rw [← hb0]
      clear hb0 s0 s1 s2 hlk hdl hs1 hr hrt hra hrm y0 y1
      go_wp2_with fail
      refine wp_region_quiet_below (by kernel_rfl) (by kernel_rfl) ?_
      iterate 7 (go_big_quiet_step (fail))
      go_big_quiet_step (exact k1 _ _)
      iterate 7 (go_big_quiet_step (fail))
      go_big_quiet_step (exact k2 _ _)
      iterate 2 (go_big_quiet_step (fail))
      refine wpQuiet_nil ?_
      rintro w' ⟨p, rfl⟩
      have hb' := below_regrown wr p.d p.os
      have hX1 := hX.below hb' hX.lt
      have hB1 := hb.trans (hb'.mono hb.size)
      generalize grow (redrawn wr p.d) p.os = w2 at hX1 hB1 ⊢
      clear k1 k2 C2 D0 D1 hX hb hb' x2
      rw [hjoin.out]
      go_wp2
      go_roundw
      case rel => exact ⟨k + 1, by omega, by go_num, rfl, hX1, hB1⟩
      case measure => simp [intOf]; omega
    · obtain rfl : k = rs.length := by omega
      have x3 := hX.cell (i := 3) rfl
      have hPz := HP.out
      have cL := refList_any pa pc ps wr (hA2.below hb).strs (by omega) (by omega)
      obtain ⟨b0, hb0⟩ : ∃ q, q = (⟨(pre rs.length).toArray⟩ : ByteArray) := ⟨_, rfl⟩
      obtain ⟨b1, hb1⟩ : ∃ q, q = (⟨(lst (bl ps)).toArray⟩ : ByteArray) := ⟨_, rfl⟩
      have n1 : ¬ (9223372036854775807 < b0.size + b1.size) := by rw [hb0, hb1, size_mk, size_mk]; omega
      have hjoin : Hid (b0 ++ b1 = out) := by
        show _ = _
        rw [hout.out, HE.out, hb0, hb1]
        apply ByteArray.ext
        simp
      rw [← hb0]
      rw [← hb1] at cL
      clear hb0 hb1 hPz
      go_wp2_with fail
      refine cL.mono ?_
      rintro e w2 ⟨rfl, hb2⟩
      have hBF := hb.trans (hb2.mono hb.size)
      clear hb2 cL hX hb x2 x3
      go_wp2
      go_ret
      exact ⟨by rw [← hjoin.out]; rfl, hBF⟩
end Go.Proofs.YtoodapbmpbaogaaDoor
