/- Texts as one: RefText, RefList, RefHdrTagsEnc, RefHdrEncode, RefHdrId, Ints, PlayHdr, PlayInMem, DagEnv, TabProg. -/
import Derived.Test.YtmjkbdgcnoenbaaGreatDoorDz10
import Derived.Test.YtmjkbdgcnoenbaaGreatDoorDz02
import Derived.Test.YtmjkbdgcnoenbaaGreatDoorDz06
import Derived.Lib.QuietBelow
import Derived.BigQuiet
import Derived.Test.YtmjkbdgcnoenbaaGreatDoorDz07
import Derived.Test.YtmjkbdgcnoenbaaGreatDoorDz05
import Derived.Deep.DeepCutAuto
import Derived.BigRegion
import Derived.Test.YtmjkbdgcnoenbaaGreatDoorDz08
import Derived.Test.YtmjkbdgcnoenbaaGreatDoorDz09
/- What tuskref01.Text and tuskref01.GetText do. -/
namespace Go.Proofs.YtmjkbdgcnoenbaaGreatDoor
open Go.RowKit

set_option maxRecDepth 100000 in
set_option maxHeartbeats 400000 in
theorem refText_any (s : ByteArray) (w : World) (hs : s.size ≤ 140737488351232000) :
    Calls Tryz.prog 85 #[.string s] w fun e w' => e = .returned (.string ⟨(txt s.data.toList).toArray⟩) ∧ Below w.heap.size w w' := by
  have hg := goInt_length s.size
  have e1 : ∀ l : List UInt8, l = goInt s.size → Value.string (⟨l.toArray⟩ ++ s) = Value.string ⟨(txt s.data.toList).toArray⟩ := by
    rintro l rfl
    rw [append_list, txt]
    simp
  go_enter Tryz.func85, Tryz.ntmps85
  go_wp2_with fail
  refine (refInt_any _ _).mono ?_
  rintro e w' ⟨rfl, hb⟩
  obtain ⟨l, hl⟩ : ∃ l, l = goInt s.size := ⟨_, rfl⟩
  rw [← hl] at hg ⊢
  have E := e1 l hl
  clear e1 hl
  go_wp2
  go_ret
  exact ⟨rfl, hb⟩
end Go.Proofs.YtmjkbdgcnoenbaaGreatDoor

/- What tuskref01.List and tuskref01.GetList do. -/
namespace Go.Proofs.YtmjkbdgcnoenbaaGreatDoor
open Go.RowKit

set_option maxRecDepth 100000 in
set_option maxHeartbeats 1000000 in
theorem refList_any (ao : Option Addr) (cap : Nat) (ss : List ByteArray) (w : World) (hc : StrsAt w ao ss) (hlen : (lst (bl ss)).length ≤ 140737488355328) (hn : ss.length ≤ 4611686018427387903) :
    Calls Tryz.prog 94 #[.slice ao ss.length cap] w fun e w' => e = .returned (.string ⟨(lst (bl ss)).toArray⟩) ∧ Below w.heap.size w w' := by
  have hbl : (bl ss).length = ss.length := by simp [bl]
  have HL : Hid (∀ k, k ≤ ss.length → (goInt ss.length ++ ((bl ss).take k).flatMap txt).length ≤ 140737488355328) := by
    intro k _
    have h1 := take_flat_le (bl ss) k
    have h2 : (lst (bl ss)).length = (goInt ss.length).length + ((bl ss).flatMap txt).length := by rw [lst, List.length_append, hbl]
    rw [List.length_append]
    omega
  have Hbl : Hid ((bl ss).length = ss.length) := hbl
  clear hlen hbl
  go_enter Tryz.func94, Tryz.ntmps94
  go_wp2_with fail
  refine (refInt_any _ _).mono ?_
  rintro e w1 ⟨rfl, hb1⟩
  go_wp2
  go_loopw [3, 4] (fun v i wr => ∃ k : Nat, k ≤ ss.length ∧ i = .int .i64 k ∧ v = .string ⟨(goInt ss.length ++ ((bl ss).take k).flatMap txt).toArray⟩ ∧ Below w.heap.size w wr) (fun _ i _ => ss.length - (intOf i).toNat)
  case atStart => exact ⟨0, Nat.zero_le _, rfl, by simp, hb1⟩
  case round =>
    clear hb1
    obtain ⟨k, hk, rfl, rfl, hb⟩ := hrel
    by_cases hlt : k < ss.length
    · obtain ⟨b, off, rfl, hbl, hcell⟩ := (hc.below hb) k hlt
      have hkb : k < (bl ss).length := by rw [Hbl.out]; exact hlt
      have hek : (bl ss)[k] = ss[k].data.toList := by simp [bl]
      have hlen1 := HL.out (k + 1) hlt
      have hlen0 := HL.out k hk
      rw [take_flat _ _ hkb, hek, ← List.append_assoc, List.length_append] at hlen1
      have htl : ss[k].size ≤ (txt ss[k].data.toList).length := by simp [txt]
      have hE : (⟨(goInt ss.length ++ ((bl ss).take k).flatMap txt).toArray⟩ ++ ⟨(txt ss[k].data.toList).toArray⟩ : ByteArray) = ⟨(goInt ss.length ++ ((bl ss).take (k + 1)).flatMap txt).toArray⟩ := by
        rw [ByteArray.mk_append_mk, take_flat _ _ hkb, hek, ← List.append_assoc]
      clear hek hkb
      have hl1 : (⟨(goInt ss.length ++ ((bl ss).take k).flatMap txt).toArray⟩ : ByteArray).size + (⟨(txt ss[k].data.toList).toArray⟩ : ByteArray).size ≤ 140737488355328 := by
        rw [size_mk, size_mk]; exact hlen1
      have hss : ss[k].size ≤ 140737488351232000 := by omega
      clear hlen1 hlen0 htl
      generalize (⟨(goInt ss.length ++ ((bl ss).take k).flatMap txt).toArray⟩ : ByteArray) = s0 at *
      obtain ⟨s1, hs1⟩ : ∃ s1, s1 = (⟨(goInt ss.length ++ ((bl ss).take (k + 1)).flatMap txt).toArray⟩ : ByteArray) := ⟨_, rfl⟩
      rw [← hs1] at hE
      have Hs1 : Hid (s1 = (⟨(goInt ss.length ++ ((bl ss).take (k + 1)).flatMap txt).toArray⟩ : ByteArray)) := hs1
      clear hs1
      go_wp2_with fail
      refine (refText_any _ _ hss).mono ?_
      rintro e w3 ⟨rfl, hb3⟩
      have b3 : Below w.heap.size w w3 := hb.trans (hb3.mono hb.size)
      clear hb hb3
      generalize (⟨(txt ss[k].data.toList).toArray⟩ : ByteArray) = s2 at *
      go_wp2
      go_roundw
      case rel => exact ⟨k + 1, by omega, by go_num, by rw [Hs1.out], b3⟩
      case measure => simp [intOf]; omega
    · go_wp2
      go_ret
      refine ⟨ret_str ?_, hb⟩
      have e1 : k = (bl ss).length := by rw [Hbl.out]; omega
      rw [e1, List.take_length, lst, Hbl.out]
end Go.Proofs.YtmjkbdgcnoenbaaGreatDoor

/- What tuskref06.Tags does; nothing old in memory is turned. -/
namespace Go.Proofs.YtmjkbdgcnoenbaaGreatDoor
open Go.RowKit
set_option linter.unusedVariables false

set_option maxRecDepth 100000 in
set_option maxHeartbeats 1000000 in
theorem refTags_any (ao : Option Addr) (cap : Nat) (l : List TagD) (w : World) (hA : RowAt tagK w ao l) (hn : l.length ≤ 1000000000) (hsz : ∀ t ∈ l, t.mac.size ≤ 140737488351232) (hlen : (tagsB l).length ≤ 140737488355328) :
    Calls Tryz.prog 93 #[.slice ao l.length cap] w fun e w' => e = .returned (.string ⟨(tagsB l).toArray⟩) ∧ Below w.heap.size w w' := by
  obtain ⟨i0, hi, hz0, hz1, hz2⟩ := info_parts infoString
  have Hlen : Hid ((tagsB l).length ≤ 140737488355328) := hlen
  clear hlen
  go_enter Tryz.func93, Tryz.ntmps93
  go_wp2
  go_loopw [3, 4] (fun v3 v8 wr => ∃ i : Nat, i ≤ l.length ∧ v8 = .int .i64 (i : Int) ∧ KQ strK 9 wr w.heap.size v3 (memT (l.take i)) ∧ Below w.heap.size w wr) (fun _ v _ => l.length - (intOf v).toNat)
  case atStart => exact ⟨0, Nat.zero_le _, rfl, KQ.empty _ _ _ _, Below.refl _ _⟩
  case round =>
    obtain ⟨i, hil, rfl, hq, hb⟩ := hrel
    by_cases hlt : i < l.length
    · obtain ⟨t, ht⟩ : ∃ t, l[i]? = some t := ⟨l[i], List.getElem?_eq_getElem hlt⟩
      obtain ⟨b, off, rfl, hbl, y0, y1⟩ := (hA.below hb).tag ht
      have hms := memT_succ l i t ht
      have hmz := hsz t (List.mem_of_getElem? ht)
      have hml : (memT (l.take i)).length = i := by rw [memT_length, List.length_take]; omega
      have hjo := tag_join t
      obtain ⟨nb, hnb⟩ : ∃ z, z = (⟨(goInt t.who).toArray⟩ : ByteArray) := ⟨_, rfl⟩
      obtain ⟨tb, htb⟩ : ∃ z, z = (⟨(tagB t).toArray⟩ : ByteArray) := ⟨_, rfl⟩
      have cI : Hid (∀ w1, Calls Tryz.prog 92 #[.int .i64 t.who] w1 fun e w2 => e = .returned (.string nb) ∧ Below w1.heap.size w1 w2) := by
        intro w1
        rw [hnb]
        exact refInt_any _ _
      have hnl : nb.size ≤ 9 := by rw [hnb, size_mk]; exact goInt_length _
      have hsum : ¬ (9223372036854775807 < nb.size + t.mac.size) := by omega
      rw [← hnb, ← htb] at hjo
      rw [← htb] at hms
      have Hms : Hid (memT (l.take (i + 1)) = memT (l.take i) ++ [tb]) := hms
      obtain ⟨ms, hmse⟩ : ∃ q, q = memT (l.take i) := ⟨_, rfl⟩
      rw [← hmse] at hq hml Hms
      clear hnb htb ht hms hmse
      obtain ⟨qa, qc, rfl, hqn, _⟩ := hq.form
      rw [hml] at hq ⊢
      go_wp2_with fail
      go_region_law (first
        | (go_simp; go_at_call 92; refine (cI.out _).mono ?_; rintro e w2 ⟨rfl, hb3⟩; have hb4 : Below wr.heap.size wr w2 := ((Below.refl _ wr).drew).trans hb3; have y1a : w2.cell? ⟨b, off + i * 2 + 1, none⟩ = some (.string t.mac) := (hb4.cell (p := ⟨b, off + i * 2 + 1, none⟩) hbl).trans y1; have hbn := hb4.alloc hb4.size (.cells #[.string tb] 9); have hq4 := hq.below hbn; have hN := new_str w2 tb; have hbs := (hb.trans (hbn.mono hb.size)).size)
        | (refine step_push (K := strK) _ (by rfl) _ _ 31 (by rfl) w.heap.size 9 i0 (.string ⟨#[]⟩) 16 Tryz.underlying31 hi hz0 hz1 hz2 rfl _ ms (by rfl) hq4 tb trivial (fun _ h => h.elim) ⟨w2.heap.size, 0, none⟩ 1 (by rfl) hN (by rw [hml]; unfold maxLen; omega) (by rw [hml]; omega) hbs ?_; intro ao3 cap3 w3 hq3 hk3))
      all_goals
        have hkB := Kept.below hk3 hbs (fun j hj => (hq4.lt j hj).1)
        have hbF := (hb.trans (hbn.mono hb.size)).trans hkB
        have hq5 : KQ strK 9 w3 w.heap.size (.slice ao3 (i + 1) cap3) (memT (l.take (i + 1))) := by rw [Hms.out, ← hml]; exact hq3
        clear hq3 hk3 hkB hq4 hN hbs hbn y1a hb3 hb4 hq hb y0 y1
        go_wp2
        go_roundw
        case rel => exact ⟨i + 1, by omega, by go_num, hq5, hbF⟩
        case measure => simp [intOf]; omega
    · obtain rfl : i = l.length := by omega
      rw [List.take_length] at hq
      obtain ⟨qa, qc, rfl, hqn, hqt⟩ := hq.form
      have hlst : (lst (bl (memT l))).length ≤ 140737488355328 := by rw [bl_memT]; exact Hlen.out
      have cL := refList_any qa qc (memT l) wr hqt.strs hlst (by rw [memT_length]; omega)
      have hml := memT_length l
      rw [hml] at cL ⊢
      have E : Hid ((⟨(lst (bl (memT l))).toArray⟩ : ByteArray) = ⟨(tagsB l).toArray⟩) := by show _ = _; rw [bl_memT]; rfl
      generalize (⟨(lst (bl (memT l))).toArray⟩ : ByteArray) = r at cL E
      clear hq hqt hlst hml
      go_wp2_with fail
      refine cL.mono ?_
      rintro e w1 ⟨rfl, hb1⟩
      have hbF := hb.trans (hb1.mono hb.size)
      clear cL
      go_wp2
      go_ret
      exact ⟨by rw [E.out]; rfl, hbF⟩
end Go.Proofs.YtmjkbdgcnoenbaaGreatDoor

/- What tuskref06.Encode does; nothing old in memory is turned. -/
namespace Go.Proofs.YtmjkbdgcnoenbaaGreatDoor
open Go.RowKit Go.Sort
set_option linter.unusedVariables false

set_option maxRecDepth 100000 in
set_option maxHeartbeats 4000000 in
theorem refHdrEncode_any (x : HdrM) (w : World) (hA : x.At w) (hf : x.Fit) :
    Calls Tryz.prog 66 #[x.v] w fun e w' => e = .returned (.string ⟨(encH x.d).toArray⟩) ∧ Below w.heap.size w w' := by
  have hX := Arr.new w 33 x.c
  have hB := belowNew w (.cells x.c.toArray 33)
  obtain ⟨out, hout⟩ : ∃ out, Hid (out = (⟨(encH x.d).toArray⟩ : ByteArray)) := ⟨_, rfl⟩
  rw [← hout.out]
  have hn := hf.n
  have hpn := hf.p
  have HL : Hid (∀ k, (preH x k).length ≤ 140737488355328) := fun k => Nat.le_trans (preH_le x k) hf.len
  have HP : Hid ((preH x x.refs.length).length + (lst (bl x.parents)).length ≤ 140737488355328) := by
    have := hf.len
    rw [encH_eq, List.length_append] at this
    exact this
  have HE : Hid (encH x.d = _) := encH_eq x
  have HK := hf.acks
  have HM := hf.mac
  have HS : Hid (∀ k r, x.refs[k]? = some r → preH x (k + 1) = preH x k ++ txt r.digest.data.toList ++ tagsB r.acks) := fun k r h => preH_succ x k r h
  have H0 : Hid (preH x 0 = goInt x.author ++ goInt x.round ++ goInt (x.refs.length : Int)) := by show _ = _; simp [preH]
  obtain ⟨au, ro, ra, rs, rc, pa, ps, pc⟩ := x
  have hA1 : RowAt refK w ra rs := hA.refs
  have hA2 : RowAt strK w pa ps := hA.ps
  obtain ⟨pre, hpre⟩ : ∃ q, q = preH ⟨au, ro, ra, rs, rc, pa, ps, pc⟩ := ⟨_, rfl⟩
  rw [← hpre] at HL HP HE HS H0
  clear hf hA hpre
  unfold HdrM.v
  unfold HdrM.c at hX hB
  simp only at hX hB hn hpn HL HP HE HK HM HS H0 ⊢
  obtain ⟨w0, hw0⟩ : ∃ q, w.alloc (.cells #[.int .i64 au, .int .i64 ro, .slice ra rs.length rc, .slice pa ps.length pc] 33) = q := ⟨_, rfl⟩
  rw [hw0] at hX hB
  obtain ⟨ba, hba⟩ : ∃ q, Hid (q = (⟨(goInt au).toArray⟩ : ByteArray)) := ⟨_, rfl⟩
  obtain ⟨bn, hbn⟩ : ∃ q, Hid (q = (⟨(goInt ro).toArray⟩ : ByteArray)) := ⟨_, rfl⟩
  obtain ⟨bm, hbm⟩ : ∃ q, Hid (q = (⟨(goInt (rs.length : Int)).toArray⟩ : ByteArray)) := ⟨_, rfl⟩
  have k1 : ∀ d os, Calls Tryz.prog 92 #[.int .i64 au] (grow (redrawn w0 d) os) fun e w'' => e = .returned (.string ba) ∧ ∃ p : Regrown, w'' = grow (redrawn w0 p.d) p.os := fun d os => Calls.regrown_of (by rw [hba.out]; exact refInt_any au _)
  have k2 : ∀ d os, Calls Tryz.prog 92 #[.int .i64 ro] (grow (redrawn w0 d) os) fun e w'' => e = .returned (.string bn) ∧ ∃ p : Regrown, w'' = grow (redrawn w0 p.d) p.os := fun d os => Calls.regrown_of (by rw [hbn.out]; exact refInt_any ro _)
  have k3 : ∀ d os, Calls Tryz.prog 92 #[.int .i64 (rs.length : Int)] (grow (redrawn w0 d) os) fun e w'' => e = .returned (.string bm) ∧ ∃ p : Regrown, w'' = grow (redrawn w0 p.d) p.os := fun d os => Calls.regrown_of (by rw [hbm.out]; exact refInt_any (rs.length : Int) _)
  have sa : ba.size ≤ 9 := by rw [hba.out, size_mk]; exact goInt_length _
  have sn : bn.size ≤ 9 := by rw [hbn.out, size_mk]; exact goInt_length _
  have sm : bm.size ≤ 9 := by rw [hbm.out, size_mk]; exact goInt_length _
  have C0 := cell_regrown (hX.cell (i := 0) rfl)
  have C1 := cell_regrown (hX.cell (i := 1) rfl)
  have C2 := cell_regrown (hX.cell (i := 2) rfl)
  have hp0 : Hid (ba ++ bn ++ bm = (⟨(pre 0).toArray⟩ : ByteArray)) := by
    show _ = _
    rw [H0.out, hba.out, hbn.out, hbm.out]
    apply ByteArray.ext
    simp
  clear H0
  go_enter Tryz.func66, Tryz.ntmps66
  go_wp2_with fail
  refine wp_region_quiet_below (by kernel_rfl) (by kernel_rfl) ?_
  iterate 2 (go_big_quiet_step (fail))
  go_big_quiet_step (exact k1 _ _)
  iterate 2 (go_big_quiet_step (fail))
  go_big_quiet_step (exact k2 _ _)
  iterate 4 (go_big_quiet_step (fail))
  go_big_quiet_step (exact k3 _ _)
  iterate 2 (go_big_quiet_step (fail))
  refine wpQuiet_nil ?_
  rintro w' ⟨p, rfl⟩
  have hb' := below_regrown w0 p.d p.os
  have hX1 := hX.below hb' hX.lt
  have hB1 := hB.trans (hb'.mono hB.size)
  generalize grow (redrawn w0 p.d) p.os = w1 at hX1 hB1 ⊢
  clear k1 k2 k3 C0 C1 C2 hX hB hb'
  rw [hp0.out]
  go_wp2
  go_loopw [3, 4] (fun v3 v4 wr => ∃ k : Nat, k ≤ rs.length ∧ v4 = .int .i64 (k : Int) ∧ v3 = .string ⟨(pre k).toArray⟩ ∧ Arr wr w.heap.size 33 [.int .i64 au, .int .i64 ro, .slice ra rs.length rc, .slice pa ps.length pc] ∧ Below w.heap.size w wr) (fun _ v _ => rs.length - (intOf v).toNat)
  case atStart => exact ⟨0, Nat.zero_le _, rfl, rfl, hX1, hB1⟩
  case round =>
    clear hX1 hB1 hp0 sa sn sm
    obtain ⟨k, hk, rfl, rfl, hX, hb⟩ := hrel
    have x2 := hX.cell (i := 2) rfl
    by_cases hlt : k < rs.length
    · obtain ⟨r, hr⟩ : ∃ r, rs[k]? = some r := ⟨rs[k], List.getElem?_eq_getElem hlt⟩
      obtain ⟨b, off, rfl, hbl, y0, y1⟩ := (hA1.below hb).ref hr
      have hrt := ((hA1.below hb).at_ r (List.mem_of_getElem? hr)).1
      have hs1 := HS.out k r hr
      have hlk := HL.out (k + 1)
      rw [hs1] at hlk
      simp only [List.length_append] at hlk
      have hdl : r.digest.size ≤ (txt r.digest.data.toList).length := by rw [txt, List.length_append]; simp
      have hra := HK r (List.mem_of_getElem? hr)
      have hrm := HM r (List.mem_of_getElem? hr)
      obtain ⟨b0, hb0⟩ : ∃ q, q = (⟨(pre k).toArray⟩ : ByteArray) := ⟨_, rfl⟩
      obtain ⟨b1, hb1⟩ : ∃ q, Hid (q = (⟨(txt r.digest.data.toList).toArray⟩ : ByteArray)) := ⟨_, rfl⟩
      obtain ⟨b2, hb2⟩ : ∃ q, Hid (q = (⟨(tagsB r.acks).toArray⟩ : ByteArray)) := ⟨_, rfl⟩
      have k1 : ∀ d os, Calls Tryz.prog 85 #[.string r.digest] (grow (redrawn wr d) os) fun e w'' => e = .returned (.string b1) ∧ ∃ p : Regrown, w'' = grow (redrawn wr p.d) p.os := fun d os => Calls.regrown_of (by rw [hb1.out]; exact refText_any r.digest _ (by omega))
      have k2 : ∀ d os, Calls Tryz.prog 93 #[.slice r.ao r.acks.length r.cap] (grow (redrawn wr d) os) fun e w'' => e = .returned (.string b2) ∧ ∃ p : Regrown, w'' = grow (redrawn wr p.d) p.os := fun d os => Calls.regrown_of (by
        rw [hb2.out]
        exact refTags_any r.ao r.cap r.acks _ (hrt.below (below_regrown wr d os)) hra hrm (by omega))
      have s0 : b0.size = (pre k).length := by rw [hb0, size_mk]
      have s1 : b1.size = (txt r.digest.data.toList).length := by rw [hb1.out, size_mk]
      have s2 : b2.size = (tagsB r.acks).length := by rw [hb2.out, size_mk]
      have n1 : ¬ (9223372036854775807 < b0.size + b1.size) := by omega
      have n2 : ¬ (9223372036854775807 < b0.size + b1.size + b2.size) := by omega
      have hjoin : Hid (b0 ++ b1 ++ b2 = (⟨(pre (k + 1)).toArray⟩ : ByteArray)) := by
        show _ = _
        rw [hs1, hb0, hb1.out, hb2.out]
        apply ByteArray.ext
        simp
      have C2 := cell_regrown x2
      have D0 := cell_regrown y0
      have D1 := cell_regrown y1
      rw [← hb0]
      clear hb0 s0 s1 s2 hlk hdl hs1 hr hrt hra hrm y0 y1
      go_wp2_with fail
      refine wp_region_quiet_below (by kernel_rfl) (by kernel_rfl) ?_
      iterate 7 (go_big_quiet_step (fail))
      go_big_quiet_step (exact k1 _ _)
      iterate 7 (go_big_quiet_step (fail))
      go_big_quiet_step (exact k2 _ _)
      iterate 2 (go_big_quiet_step (fail))
      refine wpQuiet_nil ?_
      rintro w' ⟨p, rfl⟩
      have hb' := below_regrown wr p.d p.os
      have hX1 := hX.below hb' hX.lt
      have hB1 := hb.trans (hb'.mono hb.size)
      generalize grow (redrawn wr p.d) p.os = w2 at hX1 hB1 ⊢
      clear k1 k2 C2 D0 D1 hX hb hb' x2
      rw [hjoin.out]
      go_wp2
      go_roundw
      case rel => exact ⟨k + 1, by omega, by go_num, rfl, hX1, hB1⟩
      case measure => simp [intOf]; omega
    · obtain rfl : k = rs.length := by omega
      have x3 := hX.cell (i := 3) rfl
      have hPz := HP.out
      have cL := refList_any pa pc ps wr (hA2.below hb).strs (by omega) (by omega)
      obtain ⟨b0, hb0⟩ : ∃ q, q = (⟨(pre rs.length).toArray⟩ : ByteArray) := ⟨_, rfl⟩
      obtain ⟨b1, hb1⟩ : ∃ q, q = (⟨(lst (bl ps)).toArray⟩ : ByteArray) := ⟨_, rfl⟩
      have n1 : ¬ (9223372036854775807 < b0.size + b1.size) := by rw [hb0, hb1, size_mk, size_mk]; omega
      have hjoin : Hid (b0 ++ b1 = out) := by
        show _ = _
        rw [hout.out, HE.out, hb0, hb1]
        apply ByteArray.ext
        simp
      rw [← hb0]
      rw [← hb1] at cL
      clear hb0 hb1 hPz
      go_wp2_with fail
      refine cL.mono ?_
      rintro e w2 ⟨rfl, hb2⟩
      have hBF := hb.trans (hb2.mono hb.size)
      clear hb2 cL hX hb x2 x3
      go_wp2
      go_ret
      exact ⟨by rw [← hjoin.out]; rfl, hBF⟩
end Go.Proofs.YtmjkbdgcnoenbaaGreatDoor

/- What tuskref06.Id does; nothing old in memory is turned. -/
namespace Go.Proofs.YtmjkbdgcnoenbaaGreatDoor
open Go.RowKit
set_option linter.unusedVariables false

set_option maxRecDepth 100000 in
set_option maxHeartbeats 1000000 in
theorem refHdrId_any (x : HdrM) (w : World) (hA : x.At w) (hf : x.Fit) (hl : (encH x.d).length ≤ 1073741824) :
    Calls Tryz.prog 28 #[x.v] w fun e w' => e = .returned (.string (Mx.bytes (Mx.sumL (encH x.d)))) ∧ Below w.heap.size w w' := by
  have hX := Arr.new w 33 x.c
  have hB := belowNew w (.cells x.c.toArray 33)
  have cE := refHdrEncode_any x _ (hA.below hB) hf
  obtain ⟨eb, heb⟩ : ∃ q, q = (⟨(encH x.d).toArray⟩ : ByteArray) := ⟨_, rfl⟩
  have hes : eb.size ≤ 1073741824 := by rw [heb, size_mk]; exact hl
  have cS := fun w1 => Mx.refSum_any eb w1 hes
  have HE : Hid (Mx.bytes (Mx.sumL (encH x.d)) = Mx.bytes (Mx.sumL eb.data.toList)) := by show _ = _; rw [heb]
  rw [← heb] at cE
  obtain ⟨out, hout⟩ : ∃ q, Hid (q = Mx.bytes (Mx.sumL (encH x.d))) := ⟨_, rfl⟩
  rw [← hout.out]
  clear heb hes hA hf hl
  unfold HdrM.v at cE ⊢
  unfold HdrM.c at hX hB cE
  have x0 := hX.cell (i := 0) rfl
  have x1 := hX.cell (i := 1) rfl
  have x2 := hX.cell (i := 2) rfl
  have x3 := hX.cell (i := 3) rfl
  go_enter Tryz.func28, Tryz.ntmps28
  go_wp2_with fail
  refine cE.mono ?_
  rintro e w1 ⟨rfl, hb1⟩
  have hB1 := hB.trans (hb1.mono hB.size)
  clear cE hX hB x0 x1 x2 x3 hb1
  go_wp2_with fail
  refine (cS _).mono ?_
  rintro e w2 ⟨rfl, hb2⟩
  have hB2 := hB1.trans (hb2.mono hB1.size)
  clear cS hB1 hb2
  go_wp2
  go_ret
  exact ⟨by rw [hout.out, HE.out]; rfl, hB2⟩
end Go.Proofs.YtmjkbdgcnoenbaaGreatDoor

/- Rows of numbers; a number that is picked out of so many. -/
namespace Go.Proofs.YtmjkbdgcnoenbaaGreatDoor
open Go.RowKit
set_option linter.unusedVariables false

/-- Numbers. -/
def intK : Kind Int where
  n := 1
  c v := [.int .i64 v]
  foot _ _ := False
  At _ _ := True
  pos := by decide
  len _ := rfl
  one x u hu := by
    simp only [List.mem_cons, List.not_mem_nil, or_false] at hu
    rcases hu with rfl; rfl
  lt _ h := h.elim
  keep _ _ := trivial

theorem RowAt.int {w : World} {ao : Option Addr} {l : List Int} (h : RowAt intK w ao l) {i : Nat} {v : Int} (hv : l[i]? = some v) :
    ∃ b off, ao = some ⟨b, off, none⟩ ∧ b < w.heap.size ∧ w.cell? ⟨b, off + i, none⟩ = some (.int .i64 v) := by
  obtain ⟨b, off, h1, h2, h3⟩ := h.cell i v hv
  refine ⟨b, off, h1, h2, ?_⟩
  have := h3 0 _ rfl
  have e : off + i * intK.n + 0 = off + i := by show off + i * 1 + 0 = _; omega
  rw [e] at this
  exact this

theorem pick_atC (f : Int) (k : Nat) (hk : 0 < k) (hk2 : k < 9223372036854775808) : ∃ j : Nat, j < k ∧ wrap64 ((IntKind.u64.wrap f).tmod (k : Int)) = (j : Int) := by
  obtain ⟨h0, h1⟩ := Mx.u64_range f
  rw [Int.tmod_eq_emod_of_nonneg h0]
  generalize IntKind.u64.wrap f = m at h0 h1
  have hlt := Int.emod_lt_of_pos m (show (0 : Int) < (k : Int) by omega)
  have hge := Int.emod_nonneg m (show (k : Int) ≠ 0 by omega)
  refine ⟨(m % (k : Int)).toNat, by omega, ?_⟩
  rw [Mx.wrap64_small _ hge (by omega)]
  omega
end Go.Proofs.YtmjkbdgcnoenbaaGreatDoor

/- What (*Plays).Header does: the header of an act. -/
namespace Go.Proofs.YtmjkbdgcnoenbaaGreatDoor
open Go Go.RowKit
set_option linter.unusedVariables false

/-- An act as it lies. -/
structure OpM where
  kind : Int
  author : Int
  back : Int
  odd : Int
  va : Option Addr
  votes : List Bool
  vc : Nat
  round : Int
  wild : HdrM

def OpM.c (o : OpM) : List Value := [.int .i64 o.kind, .int .i64 o.author, .int .i64 o.back, .int .i64 o.odd, .slice o.va o.votes.length o.vc, .int .i64 o.round, .int .i64 o.wild.author, .int .i64 o.wild.round, .slice o.wild.ra o.wild.refs.length o.wild.rc, .slice o.wild.pa o.wild.parents.length o.wild.pc]
def OpM.v (o : OpM) : Value := .agg #[.int .i64 o.kind, .int .i64 o.author, .int .i64 o.back, .int .i64 o.odd, .slice o.va o.votes.length o.vc, .int .i64 o.round, .int .i64 o.wild.author, .int .i64 o.wild.round, .slice o.wild.ra o.wild.refs.length o.wild.rc, .slice o.wild.pa o.wild.parents.length o.wild.pc]

/-- uint64(x) % k. -/
def pickN (x : Int) (k : Nat) : Nat := ((IntKind.u64.wrap x).tmod (k : Int)).toNat

theorem pickN_spec (x : Int) (k : Nat) (hk : 0 < k) (hk2 : k < 9223372036854775808) : pickN x k < k ∧ (IntKind.u64.wrap x).tmod (k : Int) = (pickN x k : Int) ∧ wrap64 ((IntKind.u64.wrap x).tmod (k : Int)) = (pickN x k : Int) := by
  obtain ⟨j, hj, e⟩ := pick_atC x k hk hk2
  obtain ⟨h0, h1⟩ := Mx.u64_range x
  have e0 : (IntKind.u64.wrap x).tmod (k : Int) = (IntKind.u64.wrap x) % (k : Int) := Int.tmod_eq_emod_of_nonneg h0
  have hlt := Int.emod_lt_of_pos (IntKind.u64.wrap x) (show (0 : Int) < (k : Int) by omega)
  have hge := Int.emod_nonneg (IntKind.u64.wrap x) (show (k : Int) ≠ 0 by omega)
  have hp : ((pickN x k : Nat) : Int) = (IntKind.u64.wrap x).tmod (k : Int) := by unfold pickN; rw [e0]; omega
  refine ⟨by rw [e0] at hp; omega, hp.symm, ?_⟩
  rw [← hp, Mx.wrap64_small _ (by omega) (by rw [e0] at hp; omega)]

/-- The header of an act that is not wild. -/
def hdrA (ks : List ByteArray) (f : Nat) (ids : List (List ByteArray)) (author back odd : Int) : HdrD :=
  hdrP ks (2 * f + 1) ids (pickN author (3 * f + 1)) (ids.length - pickN back 4) odd (decide (pickN odd 3 = 1))

/-- The header of an act. -/
def hdrO (ks : List ByteArray) (f : Nat) (ids : List (List ByteArray)) (o : OpM) : HdrD :=
  if o.wild.round = 0 then hdrA ks f ids o.author o.back o.odd else o.wild.d

/-- A header is handed back: the act's own, or a new one. -/
def GotHdrO (W : World) (ks : List ByteArray) (f : Nat) (ids : List (List ByteArray)) (o : OpM) (e : Ending) (w : World) : Prop :=
  ∃ x : HdrM, e = .returned x.v ∧ x.d = hdrO ks f ids o ∧ x.At w ∧ ((o.wild.round ≠ 0 ∧ x = o.wild) ∨ (o.wild.round = 0 ∧ ∀ b, x.foot b → W.heap.size ≤ b)) ∧ Below W.heap.size W w

/-- While it is at work: its two boxes, and that nothing old is turned. -/
structure PHst (w : World) (o : OpM) (wx : World) : Prop where
  x : Arr wx w.heap.size 35 o.c
  z : Arr wx (w.heap.size + 1) 33 [.int .i64 0, .int .i64 0, .slice none 0 0, .slice none 0 0]
  bel : Below w.heap.size w wx

theorem PHst.below {w : World} {o : OpM} {wx wy : World} (h : PHst w o wx) (hb : Below wx.heap.size wx wy) : PHst w o wy :=
  ⟨h.x.below hb h.x.lt, h.z.below hb h.z.lt, h.bel.trans (hb.mono h.bel.size)⟩

theorem PHst.belowB {w : World} {o : OpM} {wx wy : World} {B : Nat} (h : PHst w o wx) (hb : Below B wx wy) (hB : w.heap.size + 1 < B) : PHst w o wy :=
  ⟨h.x.below hb (by omega), h.z.below hb hB, h.bel.trans (hb.mono (by omega))⟩

theorem PHst.kept {w : World} {o : OpM} {wx wy : World} {S : Nat → Prop} (h : PHst w o wx) (hk : Kept S wx wy) (hS : ∀ k, S k → w.heap.size + 1 < k) : PHst w o wy :=
  ⟨h.x.kept hk (fun e => by have := hS _ e; omega), h.z.kept hk (fun e => by have := hS _ e; omega), h.bel.trans (Kept.below hk h.bel.size (fun k e => by have := hS _ e; omega))⟩

theorem wrap_i64P (x : Int) : IntKind.i64.wrap x = wrap64 x := by simp [IntKind.wrap, IntKind.bits, IntKind.signed, wrap64]; omega

set_option maxRecDepth 100000 in
set_option maxHeartbeats 4000000 in
theorem playHdr_any (pb : Nat) (q : Value) (rt f : Nat) (ks : List ByteArray) (xs : List IdsM) (o : OpM) (w : World) (h : PlAt w pb q rt xs) (hT : Mx.TabAt w rt f ks) (hf : f ≤ 2) (hf1 : 1 ≤ f) (hkl : ks.length = 3 * f + 1) (hks : ∀ k ∈ ks, k.size ≤ 32)
    (h32 : ∀ x ∈ xs, ∀ i ∈ x.l, i.size ≤ 1000) (hA : o.wild.At w) (hG : Mx.Glob w) :
    Calls Tryz.prog 11 #[.pointer (some ⟨pb, 0, none⟩), o.v] w fun e w' => GotHdrO w ks f (xs.map IdsM.l) o e w' := by
  obtain ⟨kd, au, bk, od, va, vs, vc, rn, ⟨wa, wr0, wra, wrs, wrc, wpa, wps, wpc⟩⟩ := o
  unfold OpM.v
  simp only
  by_cases hw0 : wr0 = 0
  · subst hw0
    obtain ⟨hX, hZ, hB⟩ := two_new w 35 33 [.int .i64 kd, .int .i64 au, .int .i64 bk, .int .i64 od, .slice va vs.length vc, .int .i64 rn, .int .i64 wa, .int .i64 0, .slice wra wrs.length wrc, .slice wpa wps.length wpc] [.int .i64 0, .int .i64 0, .slice none 0 0, .slice none 0 0]
    obtain ⟨H, hH⟩ : ∃ z, Hid (hdrA ks f (xs.map IdsM.l) au bk od = z) := ⟨_, rfl⟩
    have hfin : Hid (∀ (e : Ending) (w' : World) (x : HdrM), e = .returned x.v → x.d = H → x.At w' → (∀ b, x.foot b → w.heap.size ≤ b) → Below w.heap.size w w' → GotHdrO w ks f (xs.map IdsM.l) ⟨kd, au, bk, od, va, vs, vc, rn, ⟨wa, 0, wra, wrs, wrc, wpa, wps, wpc⟩⟩ e w') := fun e w' x h1 h2 h3 h4 h5 =>
      ⟨x, h1, by rw [h2, ← hH.out]; rfl, h3, Or.inr ⟨rfl, h4⟩, h5⟩
    generalize GotHdrO w ks f (xs.map IdsM.l) ⟨kd, au, bk, od, va, vs, vc, rn, ⟨wa, 0, wra, wrs, wrc, wpa, wps, wpc⟩⟩ = GOT at hfin ⊢
    have hP : PHst w ⟨kd, au, bk, od, va, vs, vc, rn, ⟨wa, 0, wra, wrs, wrc, wpa, wps, wpc⟩⟩ _ := ⟨hX, hZ, hB⟩
    clear hX hZ hB
    obtain ⟨kb, hkb⟩ : ∃ z, Hid (pickN bk 4 = z) := ⟨_, rfl⟩
    obtain ⟨kb4, hkb0, hkb1⟩ := pickN_spec bk 4 (by decide) (by decide)
    clear hkb0
    obtain ⟨N, hN⟩ : ∃ z, Hid (3 * f + 1 = z) := ⟨_, rfl⟩
    obtain ⟨ka, hka⟩ : ∃ z, Hid (pickN au N = z) := ⟨_, rfl⟩
    have hN7 : 0 < N ∧ N ≤ 7 := by have := hN.out; omega
    obtain ⟨ka4, hka1, _⟩ := pickN_spec au N hN7.1 (by omega)
    rw [hkb.out] at hkb1 kb4
    rw [hka.out] at hka1 ka4
    have hka1 : Hid _ := hka1
    have hkb1 : Hid _ := hkb1
    have cN := fun w1 h1 => Mx.refN_any rt f ks w1 h1 hf
    have cD := fun w1 h1 => Mx.refNeed_any rt f ks w1 h1 hf
    rw [hN.out] at cN
    obtain ⟨ND, hND⟩ : ∃ z, Hid (2 * f + 1 = z) := ⟨_, rfl⟩
    rw [hND.out] at cD
    obtain ⟨ao, cap, rfl, hnil, hRow⟩ := h.row.form
    have hfew := h.few
    obtain ⟨r, hr⟩ : ∃ z, Hid (xs.length - kb = z) := ⟨_, rfl⟩
    have hrl : r ≤ 1000 := by have := hr.out; omega
    go_enter Tryz.func11, Tryz.ntmps11
    go_upto_region 3 with fail
    obtain ⟨w2, hw2⟩ : ∃ z, (w.alloc (.cells #[.int .i64 kd, .int .i64 au, .int .i64 bk, .int .i64 od, .slice va vs.length vc, .int .i64 rn, .int .i64 wa, .int .i64 0, .slice wra wrs.length wrc, .slice wpa wps.length wpc] 35)).alloc (.cells #[.int .i64 0, .int .i64 0, .slice none 0 0, .slice none 0 0] 33) = z := ⟨_, rfl⟩
    rw [hw2] at hP ⊢
    clear hw2
    go_cut [5] (fun s5 wx => s5 = .int .i64 (r : Int) ∧ PHst w ⟨kd, au, bk, od, va, vs, vc, rn, ⟨wa, 0, wra, wrs, wrc, wpa, wps, wpc⟩⟩ wx)
    case first =>
      have p1 := (h.below hP.bel).box.cell (i := 1) rfl
      have x2 : w2.cell? ⟨w.heap.size, 2, none⟩ = some (.int .i64 bk) := hP.x.cell (i := 2) rfl
      have hrv : Hid ((if 0 < wrap64 ((xs.length : Int) - wrap64 ((IntKind.u64.wrap bk).tmod 4)) then wrap64 ((xs.length : Int) - wrap64 ((IntKind.u64.wrap bk).tmod 4)) else 0) = (r : Int)) := by
        show _ = _
        have e : (IntKind.u64.wrap bk).tmod 4 = (IntKind.u64.wrap bk).tmod ((4 : Nat) : Int) := rfl
        rw [e, hkb1.out, ← hr.out]
        by_cases hlt : kb < xs.length
        · rw [Mx.wrap64_small _ (by omega) (by omega), if_pos (by omega)]; omega
        · by_cases he : kb = xs.length
          · rw [he, Int.sub_self]; simp [wrap64]
          · have e2 : wrap64 ((xs.length : Int) - (kb : Int)) = (xs.length : Int) - (kb : Int) := by unfold wrap64; omega
            rw [e2, if_neg (by omega)]; omega
      have hPd := hP.below (below_drewN (Below.refl _ w2) 1)
      clear hP
      go_region
      rw [hrv.out]
      go_wp2_with fail
      go_meet
      case rel => exact ⟨rfl, hPd⟩
    case rest =>
      obtain ⟨rfl, hP3⟩ := hcut
      clear hP
      go_upto_region 4 with fail
      go_cut [6] (fun s6 wx => ∃ hb, s6 = .pointer (some ⟨hb, 0, none⟩) ∧ Arr wx hb 33 [.int .i64 (ka : Int), .int .i64 ((r : Int) + 1), .slice none 0 0, .slice none 0 0] ∧ w.heap.size + 1 < hb ∧ PHst w ⟨kd, au, bk, od, va, vs, vc, rn, ⟨wa, 0, wra, wrs, wrc, wpa, wps, wpc⟩⟩ wx)
      case first =>
        have hnw : IntKind.u64.wrap (N : Int) = (N : Int) := by rw [Mx.wrap_u64]; omega
        have hnz : ¬ N = 0 := by omega
        have hr1 : IntKind.i64.wrap ((r : Int) + 1) = (r : Int) + 1 := by rw [wrap_i64P]; exact Mx.wrap64_small _ (by omega) (by omega)
        have hka2 : IntKind.i64.wrap (ka : Int) = (ka : Int) := by rw [wrap_i64P]; exact Mx.wrap64_small _ (by omega) (by omega)
        have hka3 := hka1.out
        have p0 := (h.below hP3.bel).box.cell (i := 0) rfl
        have x1 : wc.cell? ⟨w.heap.size, 1, none⟩ = some (.int .i64 au) := hP3.x.cell (i := 1) rfl
        have hT3 := hT.below hP3.bel
        have e1 := below_drewN (Below.refl wc.heap.size wc) 1
        have hT4 : Mx.TabAt wc.drew rt f ks := hT3.below e1
        have hnew := belowNew wc (.cells #[.int .i64 0, .int .i64 0, .slice none 0 0, .slice none 0 0] 33)
        have hT5 : Mx.TabAt (wc.alloc (.cells #[.int .i64 0, .int .i64 0, .slice none 0 0, .slice none 0 0] 33)).drew rt f ks := hT3.below hnew.drew
        have p0' := (h.below (hP3.below hnew).bel).box.cell (i := 0) rfl
        have x1' : (wc.alloc (.cells #[.int .i64 0, .int .i64 0, .slice none 0 0, .slice none 0 0] 33)).cell? ⟨w.heap.size, 1, none⟩ = some (.int .i64 au) := (hP3.below hnew).x.cell (i := 1) rfl
        have hXH := Arr.new wc 33 [.int .i64 (ka : Int), .int .i64 ((r : Int) + 1), .slice none 0 0, .slice none 0 0]
        have hbH := hP3.below (belowNew wc (.cells #[.int .i64 (ka : Int), .int .i64 ((r : Int) + 1), .slice none 0 0, .slice none 0 0] 33)).drew
        have hzl := hP3.z.lt
        clear hnew e1 hT3
        go_region_law (first
          | (go_simp; go_at_call 43; first | (refine (cN _ hT4).mono ?_; rintro e wy ⟨rfl, rfl⟩) | (refine (cN _ hT5).mono ?_; rintro e wy ⟨rfl, rfl⟩)))
        all_goals
          clear hr1 hka2 hka3 hT4 hT5 p0' x1'
          go_wp2_with fail
          go_meet
          exact ⟨_, rfl, hXH, hzl, hbH⟩
      case rest =>
        obtain ⟨hb, rfl, hH4, hbs, hP4⟩ := hcut
        clear hP3
        go_upto_if 41 with fail
        go_cut [] (fun wx => ∃ (pa : Option Addr) (ps : List ByteArray) (pc : Nat), Hid (ps = parP ND (xs.map IdsM.l) r od) ∧ Arr wx hb 33 [.int .i64 (ka : Int), .int .i64 ((r : Int) + 1), .slice none 0 0, .slice pa ps.length pc] ∧ RowAt strK wx pa ps ∧ (pa = none → pc = 0) ∧ (∀ b, rowFoot strK pa ps b → hb < b) ∧ PHst w ⟨kd, au, bk, od, va, vs, vc, rn, ⟨wa, 0, wra, wrs, wrc, wpa, wps, wpc⟩⟩ wx)
        case first =>
          by_cases h0 : r = 0
          · subst h0
            have hP4' := hP4
            go_wp2_with fail
            go_meet
            case rel => exact ⟨none, [], 0, (rfl : _ = _), hH4, nil_row _ _, fun _ => rfl, fun b hb' => (nil_foot hb').elim, hP4'⟩
          · obtain ⟨k, rfl⟩ : ∃ k, r = k + 1 := ⟨r - 1, by omega⟩
            obtain ⟨i0, z0, hi0, hz0, hz1, hz2, hz3⟩ := strInfoT
            have hkx : k < xs.length := by have := hr.out; omega
            obtain ⟨x, hx⟩ : ∃ x, xs[k]? = some x := ⟨_, List.getElem?_eq_getElem hkx⟩
            have hxm := List.mem_of_getElem? hx
            have hpl := h.below hP4.bel
            obtain ⟨g, off, rfl, hg, cx⟩ := (hRow.below hP4.bel).ids hx
            have p1 := hpl.box.cell (i := 1) rfl
            obtain ⟨hxr, hxn⟩ := hpl.row.at_ x hxm
            have hx1000 := h.few' x hxm
            have hgd : (xs.map IdsM.l).getD k [] = x.l := by rw [List.getD_eq_getElem?_getD, List.getElem?_map, hx]; rfl
            have hpar : Hid (parP ND (xs.map IdsM.l) (k + 1) od = if ND < x.l.length ∧ ¬ od.tmod 2 = 0 then x.l.drop 1 else x.l) := by
              show _ = _
              unfold parP
              rw [if_neg (by omega), Nat.add_sub_cancel, hgd]
            obtain ⟨xa, xc, xl⟩ := x
            have hxr : RowAt strK wc xa xl := hxr
            have hxn : xa = none → xc = 0 := hxn
            have hx1000 : xl.length ≤ 1000 := hx1000
            have cx : wc.cell? ⟨g, off + k, none⟩ = some (.slice xa xl.length xc) := cx
            have hpar : Hid (parP ND (xs.map IdsM.l) (k + 1) od = if ND < xl.length ∧ ¬ od.tmod 2 = 0 then xl.drop 1 else xl) := hpar
            clear hx hxm hgd
            have hbe := belowNew wc (.cells #[] 9)
            have hOwn : (wc.alloc (.cells #[] 9)).ownsRow wc.heap.size 9 strK.n (.slice (some ⟨wc.heap.size, 0, none⟩) 0 0) 0 [] := World.ownsRow_made wc #[] 0 (Nat.le_refl _) (by unfold maxLen; omega) (by simp)
            have hxe := hxr.below hbe
            have p1e := (hpl.below hbe).box.cell (i := 1) rfl
            have cxe : (wc.alloc (.cells #[] 9)).cell? ⟨g, off + k, none⟩ = some (.slice xa xl.length xc) := (cell_same (hbe.block g hg) _).trans cx
            have hHe := hH4.below hbe hH4.lt
            have hPe := hP4.below hbe
            have hbs' : wc.heap.size ≤ (wc.alloc (.cells #[] 9)).heap.size := hbe.size
            have j1 : ¬ ((k : Int) < 0) := by omega
            have j2 : (k : Int) < (xs.length : Int) := by omega
            have hhl := hH4.lt
            have hzl := hP4.z.lt
            have m1 : xl.length ≤ maxLen := by unfold maxLen; omega
            have m2 : xl.length * 16 ≤ 140737488355328 := by omega
            clear hxr p1 cx hP4 hH4 hbe hpl
            go_upto_region 6 with fail
            obtain ⟨we, hwe⟩ : ∃ z, wc.alloc (.cells #[] 9) = z := ⟨_, rfl⟩
            rw [hwe] at hOwn hxe p1e cxe hHe hPe hbs'
            go_wp2_with (at_builtin; refine wpList_copyQ (K := strK) rfl _ _ 31 rfl wc.heap.size 9 i0 _ 16 Tryz.underlying31 hi0 hz0 hz1 hz2 hz3 _ rfl hOwn xa xc xl rfl hxe (fun _ _ _ h => h.elim) hxn m1 m2 hbs' ?_)
            intro pa pc w6 hQ6 hb6
            have hH6 := hHe.below hb6 hhl
            have hP6 := hPe.belowB hb6 hzl
            have c3 := hH6.cell (i := 3) rfl
            have f3 := hH6.frozen 3
            have kS := Kept.setCell w6 ⟨hb, 3, none⟩ (.slice pa xl.length pc)
            have hH7 := hH6.set 3 (.slice pa xl.length pc)
            have hP7 := hP6.kept kS (fun k e => by have e' : k = hb := e; omega)
            have hQ7 := hQ6.kept kS (fun j hj e => by have := (hQ6.lt j hj).1; have e' : j = hb := e; omega) (fun _ _ _ h => h.elim)
            clear hQ6 hb6 hH6 hP6 kS hHe hPe hOwn hxe p1e cxe hbs' m1 m2 hwe
            go_upto_region 7 with fail
            obtain ⟨w7, hw7⟩ : ∃ z, w6.setCell ⟨hb, 3, none⟩ (.slice pa xl.length pc) = z := ⟨_, rfl⟩
            have hH7 : Arr (w6.setCell ⟨hb, 3, none⟩ (.slice pa xl.length pc)) hb 33 [.int .i64 (ka : Int), .int .i64 ((k + 1 : Nat) + 1 : Int), .slice none 0 0, .slice pa xl.length pc] := hH7
            rw [hw7] at hH7 hP7 hQ7 ⊢
            clear hw7 c3 f3
            have c3 := hH7.cell (i := 3) rfl
            have p0 := (h.below hP7.bel).box.cell (i := 0) rfl
            have x3 : w7.cell? ⟨w.heap.size, 3, none⟩ = some (.int .i64 od) := hP7.x.cell (i := 3) rfl
            have cD' := fun m => cD (w7.drewN m) (hT.below (hP7.below (below_drewN (Below.refl _ w7) m)).bel)
            by_cases hcut : ND < xl.length ∧ ¬ od.tmod 2 = 0
            · have hd1 : decide (ND < xl.length) = true := decide_eq_true hcut.1
              have hd2 : (od.tmod 2 != 0) = true := by simpa using hcut.2
              have hcl : Hid (3 ≤ xl.length) := by show 3 ≤ xl.length; have := hcut.1; have := hND.out; omega
              have hp2 : Hid (parP ND (xs.map IdsM.l) (k + 1) od = xl.drop 1) := by show _ = _; rw [hpar.out, if_pos hcut]
              clear hcut hpar
              go_quiet (exact Calls.quiet_of_same (cD' _))
              have hbq := below_drewN (Below.refl w7.heap.size w7) nq
              have hH8 := hH7.below hbq hH7.lt
              have hP8 := hP7.below hbq
              have hQ8 := hQ7.below hbq
              generalize w7.drewN nq = w8 at hH8 hP8 hQ8 ⊢
              obtain ⟨g2, o2, rfl, hg2, hg2l, _, hlc⟩ := hQ8.spot (by have := hcl.out; omega)
              clear hbq hH7 hP7 hQ7 c3 p0 x3 cD' hd1
              have c3 := hH8.cell (i := 3) rfl
              have f3 := hH8.frozen 3
              have hpc : (pc = 1) = False := eq_false (by have := hcl.out; omega)
              have j3 : (1 : Int) ≤ (xl.length : Int) := by have := hcl.out; omega
              have j4 : (xl.length : Int) ≤ (pc : Int) := by omega
              have hRw := (hQ8.row.rowAt rfl hQ8.at_).dropG 1
              have kS := Kept.setCell w8 ⟨hb, 3, none⟩ (.slice (some ⟨g2, o2 + 1, none⟩) (xl.length - 1) (pc - 1))
              have hH9 := hH8.set 3 (.slice (some ⟨g2, o2 + 1, none⟩) (xl.length - 1) (pc - 1))
              have hP9 := hP8.kept kS (fun k e => by have e' : k = hb := e; omega)
              have hR9 := hRw.kept kS (fun b hf e => by
                have e' : b = hb := e
                obtain ⟨_, o3, e3⟩ := strs_foot hf
                simp only [Option.some.injEq, Addr.mk.injEq] at e3
                omega)
              clear kS hRw hH8 hP8 hQ8
              go_wp2_with fail
              go_meet
              case rel =>
                refine ⟨some ⟨g2, o2 + 1, none⟩, xl.drop 1, pc - 1, hp2.out.symm, ?_, hR9, (fun e => by cases e), fun b hf => ?_, hP9⟩
                · rw [List.length_drop]; exact hH9
                · obtain ⟨_, o3, e3⟩ := strs_foot hf
                  simp only [Option.some.injEq, Addr.mk.injEq] at e3
                  omega
            · have hp2 : Hid (parP ND (xs.map IdsM.l) (k + 1) od = xl) := by show _ = _; rw [hpar.out, if_neg hcut]
              have hfin2 : ∀ w8, Below w7.heap.size w7 w8 → ∃ (pa : Option Addr) (ps : List ByteArray) (pc : Nat), Hid (ps = parP ND (xs.map IdsM.l) (k + 1) od) ∧ Arr w8 hb 33 [.int .i64 (ka : Int), .int .i64 ((k + 1 : Nat) + 1 : Int), .slice none 0 0, .slice pa ps.length pc] ∧ RowAt strK w8 pa ps ∧ (pa = none → pc = 0) ∧ (∀ b, rowFoot strK pa ps b → hb < b) ∧ PHst w ⟨kd, au, bk, od, va, vs, vc, rn, ⟨wa, 0, wra, wrs, wrc, wpa, wps, wpc⟩⟩ w8 := fun w8 hb8 =>
                ⟨pa, xl, pc, hp2.out.symm, hH7.below hb8 hH7.lt, (hQ7.row.rowAt rfl hQ7.at_).below hb8, fun e => hQ7.nil _ _ (by rw [e]), fun b hf => by
                  obtain ⟨_, o3, e3⟩ := strs_foot hf
                  have := (hQ7.lt b (by rw [e3]; rfl)).1
                  omega, hP7.below hb8⟩
              have hfin2 : Hid _ := hfin2
              by_cases hc1 : ND < xl.length
              · have hd1 : decide (ND < xl.length) = true := decide_eq_true hc1
                have hd2 : (od.tmod 2 != 0) = false := by
                  by_cases e : od.tmod 2 = 0
                  · simp [e]
                  · exact (hcut ⟨hc1, e⟩).elim
                clear hcut hpar hH7 hP7 hQ7 hp2
                go_quiet (exact Calls.quiet_of_same (cD' _))
                have hF := hfin2.out _ (below_drewN (Below.refl w7.heap.size w7) nq)
                clear hfin2 c3 p0 x3 cD' hd1
                go_wp2_with fail
                go_meet
                case rel => exact hF
              · have hd1 : decide (ND < xl.length) = false := decide_eq_false hc1
                clear hcut hpar hH7 hP7 hQ7 hp2
                go_quiet (exact Calls.quiet_of_same (cD' _))
                have hF := hfin2.out _ (below_drewN (Below.refl w7.heap.size w7) nq)
                clear hfin2 c3 p0 x3 cD' hd1
                go_wp2_with fail
                go_meet
                case rel => exact hF
        case rest =>
          obtain ⟨pa, ps, pc, hps, hH5, hps5, hpn, hpf, hP5⟩ := hcut
          clear hP4 hH4
          obtain ⟨ko, hko⟩ : ∃ z, Hid (pickN od 3 = z) := ⟨_, rfl⟩
          obtain ⟨_, hko0, _⟩ := pickN_spec od 3 (by decide) (by decide)
          have hko1 : (IntKind.u64.wrap od).tmod 3 = (ko : Int) := by rw [← hko.out]; exact hko0
          clear hko0
          have hps1 : ps.length ≤ 1000 := by
            rw [hps.out]
            refine parP_len (fun l hl => ?_)
            obtain ⟨x, hx, rfl⟩ := List.mem_map.1 hl
            exact h.few' x hx
          have hps2 : ∀ p ∈ ps, p.size ≤ 1000 := fun p hp => by
            rw [hps.out] at hp
            obtain ⟨l, hl, hpl⟩ := parP_mem hp
            obtain ⟨x, hx, rfl⟩ := List.mem_map.1 hl
            exact h32 x hx p hpl
          have hbare : Hid (hdrP0 ND (xs.map IdsM.l) ka r od = ⟨(ka : Int), (r : Int) + 1, [], ps⟩) := by
            show HdrD.mk _ _ _ _ = _
            rw [← hps.out]
          have hHk : Hid (H = hdrP ks ND (xs.map IdsM.l) ka r od (decide (ko = 1))) := by
            show H = _
            rw [← hH.out]
            unfold hdrA
            rw [hN.out, hND.out, hka.out, hkb.out, hko.out, List.length_map, hr.out]
          have x3 : wc.cell? ⟨w.heap.size, 3, none⟩ = some (.int .i64 od) := hP5.x.cell (i := 3) rfl
          have e0 := hH5.cell (i := 0) rfl
          have e1 := hH5.cell (i := 1) rfl
          have e2 := hH5.cell (i := 2) rfl
          have e3 := hH5.cell (i := 3) rfl
          have hhl := hH5.lt
          have hzl := hP5.z.lt
          by_cases ho : ko = 1
          · subst ho
            obtain ⟨idv, hidv⟩ : ∃ z, Hid (idB ⟨(ka : Int), (r : Int) + 1, [], ps⟩ = z) := ⟨_, rfl⟩
            have his : idv.size ≤ 2000 := by rw [← hidv.out, idB_size]; decide
            have cI := fun w1 h1 => refHdrId_any ⟨(ka : Int), (r : Int) + 1, none, [], 0, pa, ps, pc⟩ w1 h1 (bare_fit _ _ _ _ _ hps2 hps1) (by have := encH_bare (ka : Int) ((r : Int) + 1) ps hps2 hps1; show (encH ⟨(ka : Int), (r : Int) + 1, [], ps⟩).length ≤ _; omega)
            have hidv' : Mx.bytes (Mx.sumL (encH (HdrM.d ⟨(ka : Int), (r : Int) + 1, none, [], 0, pa, ps, pc⟩))) = idv := hidv.out
            rw [hidv'] at cI
            unfold HdrM.v at cI
            simp only [List.length_nil] at cI
            clear hidv'
            obtain ⟨tl, htl⟩ : ∃ z, Hid (tagsP ks ackW idv [] (3 * f + 1) = z) := ⟨_, rfl⟩
            have cT := fun w1 h1 h2 h3 h4 => playTags_any pb (.slice ao xs.length cap) rt f ks xs ackW idv none 0 [] w1 h1 h2 hf hkl hks h3 (by unfold maxLen; simp) (by decide) his h4
            rw [htl.out] at cT
            unfold ackW at cT
            simp only [List.length_nil] at cT
            have hAt5 : HdrM.At wc ⟨(ka : Int), (r : Int) + 1, none, [], 0, pa, ps, pc⟩ := ⟨nil_row _ _, fun _ => rfl, hps5, hpn⟩
            go_wp2_with fail
            refine (cI _ hAt5).mono ?_
            rintro e wI ⟨rfl, hbI⟩
            have hPI := hP5.below hbI
            have hHI := hH5.below hbI hhl
            have hpsI := hps5.below hbI
            clear cI hAt5 e0 e1 e2 e3 x3 hP5 hH5 hps5 hbI
            go_wp2_with fail
            refine (cT _ (h.below hPI.bel) (hT.below hPI.bel) (nil_row _ _) (hG.below hPI.bel)).mono ?_
            rintro e wT ⟨v, rfl, hQT, hbT⟩
            have hIs := hPI.z.lt
            have hhI := hHI.lt
            have hPT := hPI.below hbT
            have hHT := hHI.below hbT hHI.lt
            have hpsT := hpsI.below hbT
            clear cT hPI hHI hpsI hbT
            obtain ⟨ta, tc, rfl, tn, tR⟩ := hQT.form
            have hbR := belowNew wT (.cells #[.string idv, .slice ta tl.length tc] 94)
            have hRR : RowAt refK (wT.alloc (.cells #[.string idv, .slice ta tl.length tc] 94)) (some ⟨wT.heap.size, 0, none⟩) [⟨idv, tl, ta, tc⟩] :=
              rowOne (K := refK) (x := ⟨idv, tl, ta, tc⟩) (by rw [alloc_size]; omega) (fun j u hu => (Arr.new wT 94 [.string idv, .slice ta tl.length tc]).cell hu) ⟨tR.below hbR, tn⟩
            have hPR := hPT.below hbR
            have hHR := hHT.below hbR hHT.lt
            have hpsR := hpsT.below hbR
            have hTs := hPT.bel.size
            have hhT := hHT.lt
            have hfo : ∀ b, rowFoot refK (some ⟨wT.heap.size, 0, none⟩) [(⟨idv, tl, ta, tc⟩ : RefM)] b → w.heap.size + 2 ≤ b ∧ b ≠ hb := fun b hf => by
              rcases hf with ⟨_, off, e⟩ | ⟨x, hx, hf⟩
              · simp only [Option.some.injEq, Addr.mk.injEq] at e
                omega
              · rw [List.mem_singleton.1 hx] at hf
                rcases hf with ⟨_, off, e⟩ | ⟨_, _, hf⟩
                · have e' : ta = some ⟨b, off, none⟩ := e
                  have := (hQT.lt b (by rw [e']; rfl)).1
                  omega
                · exact hf.elim
            clear hPT hHT hpsT hbR tR
            obtain ⟨wR, hwR⟩ : ∃ z, wT.alloc (.cells #[.string idv, .slice ta tl.length tc] 94) = z := ⟨_, rfl⟩
            rw [hwR] at hRR hPR hHR hpsR
            have c2 := hHR.cell (i := 2) rfl
            have f2 := hHR.frozen 2
            have kS := Kept.setCell wR ⟨hb, 2, none⟩ (.slice (some ⟨wT.heap.size, 0, none⟩) 1 1)
            have hHS := hHR.set 2 (.slice (some ⟨wT.heap.size, 0, none⟩) 1 1)
            have hPS := hPR.kept kS (fun k e => by have e' : k = hb := e; omega)
            have hRS := hRR.kept kS (fun b hf e => (hfo b hf).2 e)
            have hpsS := hpsR.kept kS (fun b hf e => by have := hpf b hf; have e' : b = hb := e; omega)
            have hHS' : Arr (wR.setCell ⟨hb, 2, none⟩ (.slice (some ⟨wT.heap.size, 0, none⟩) 1 1)) hb 33 [.int .i64 (ka : Int), .int .i64 ((r : Int) + 1), .slice (some ⟨wT.heap.size, 0, none⟩) 1 1, .slice pa ps.length pc] := hHS
            clear kS hHR hPR hRR hpsR hHS
            go_upto_region 12 with fail
            obtain ⟨wS, hwS⟩ : ∃ z, wR.setCell ⟨hb, 2, none⟩ (.slice (some ⟨wT.heap.size, 0, none⟩) 1 1) = z := ⟨_, rfl⟩
            rw [hwS] at hPS hRS hpsS hHS' ⊢
            clear hwS hwR c2 f2
            have e0 := hHS'.cell (i := 0) rfl
            have e1 := hHS'.cell (i := 1) rfl
            have e2 := hHS'.cell (i := 2) rfl
            have e3 := hHS'.cell (i := 3) rfl
            have z0 := hPS.z.cell (i := 0) rfl
            have z1 := hPS.z.cell (i := 1) rfl
            have z2 := hPS.z.cell (i := 2) rfl
            have z3 := hPS.z.cell (i := 3) rfl
            have y0 := hPS.z.frozen 0
            have y1 := hPS.z.frozen 1
            have y2 := hPS.z.frozen 2
            have y3 := hPS.z.frozen 3
            have kF := kept_set4 wS (w.heap.size + 1) (.int .i64 (ka : Int)) (.int .i64 ((r : Int) + 1)) (.slice (some ⟨wT.heap.size, 0, none⟩) 1 1) (.slice pa ps.length pc)
            have hZF := hPS.z.set4 (.int .i64 (ka : Int)) (.int .i64 ((r : Int) + 1)) (.slice (some ⟨wT.heap.size, 0, none⟩) 1 1) (.slice pa ps.length pc)
            have hBF := below_set4 hPS.bel (show w.heap.size ≤ w.heap.size + 1 by omega) (.int .i64 (ka : Int)) (.int .i64 ((r : Int) + 1)) (.slice (some ⟨wT.heap.size, 0, none⟩) 1 1) (.slice pa ps.length pc)
            have hRF := hRS.kept kF (fun b hf e => by have := (hfo b hf).1; have e' : b = w.heap.size + 1 := e; omega)
            have hSF := hpsS.kept kF (fun b hf e => by have := hpf b hf; have e' : b = w.heap.size + 1 := e; omega)
            have fin := hfin.out (.returned (HdrM.v ⟨(ka : Int), (r : Int) + 1, (some ⟨wT.heap.size, 0, none⟩), [⟨idv, tl, ta, tc⟩], 1, pa, ps, pc⟩)) _ ⟨(ka : Int), (r : Int) + 1, (some ⟨wT.heap.size, 0, none⟩), [⟨idv, tl, ta, tc⟩], 1, pa, ps, pc⟩ rfl (by
              rw [hHk.out]
              unfold hdrP; rw [if_pos (by decide), hbare.out, hidv.out, hkl, htl.out]; rfl) ⟨hRF, (fun e => by cases e), hSF, hpn⟩ (fun b hf => hf.elim (fun hf => by have := (hfo b hf).1; omega) (fun hf => by have := hpf b hf; omega)) hBF
            have hZF : Arr _ (w.heap.size + 1) 33 (HdrM.c ⟨(ka : Int), (r : Int) + 1, (some ⟨wT.heap.size, 0, none⟩), [⟨idv, tl, ta, tc⟩], 1, pa, ps, pc⟩) := hZF
            unfold set4 at hZF fin
            clear kF hBF hRF hSF
            go_wp2
            refine bodyPost_ret (v := HdrM.v ⟨(ka : Int), (r : Int) + 1, (some ⟨wT.heap.size, 0, none⟩), [⟨idv, tl, ta, tc⟩], 1, pa, ps, pc⟩) (results_hdrO rfl _ _ (w.heap.size + 1) ⟨(ka : Int), (r : Int) + 1, (some ⟨wT.heap.size, 0, none⟩), [⟨idv, tl, ta, tc⟩], 1, pa, ps, pc⟩ rfl hZF) rfl ?_
            exact fin
          · have ho1 : ¬ (ko : Int) = 1 := by omega
            go_upto_region 12 with fail
            have e0 := hH5.cell (i := 0) rfl
            have e1 := hH5.cell (i := 1) rfl
            have e2 := hH5.cell (i := 2) rfl
            have e3 := hH5.cell (i := 3) rfl
            have z0 := hP5.z.cell (i := 0) rfl
            have z1 := hP5.z.cell (i := 1) rfl
            have z2 := hP5.z.cell (i := 2) rfl
            have z3 := hP5.z.cell (i := 3) rfl
            have y0 := hP5.z.frozen 0
            have y1 := hP5.z.frozen 1
            have y2 := hP5.z.frozen 2
            have y3 := hP5.z.frozen 3
            have kF := kept_set4 wc (w.heap.size + 1) (.int .i64 (ka : Int)) (.int .i64 ((r : Int) + 1)) (.slice none 0 0) (.slice pa ps.length pc)
            have hZF := hP5.z.set4 (.int .i64 (ka : Int)) (.int .i64 ((r : Int) + 1)) (.slice none 0 0) (.slice pa ps.length pc)
            have hBF := below_set4 hP5.bel (show w.heap.size ≤ w.heap.size + 1 by omega) (.int .i64 (ka : Int)) (.int .i64 ((r : Int) + 1)) (.slice none 0 0) (.slice pa ps.length pc)
            have hRF := (nil_row (K := refK) wc none).kept kF (fun b hf e => by have := (show w.heap.size + 2 ≤ b from (nil_foot hf).elim); have e' : b = w.heap.size + 1 := e; omega)
            have hSF := hps5.kept kF (fun b hf e => by have := hpf b hf; have e' : b = w.heap.size + 1 := e; omega)
            have fin := hfin.out (.returned (HdrM.v ⟨(ka : Int), (r : Int) + 1, none, [], 0, pa, ps, pc⟩)) _ ⟨(ka : Int), (r : Int) + 1, none, [], 0, pa, ps, pc⟩ rfl (by
              rw [hHk.out]
              unfold hdrP; rw [if_neg (by simpa using ho), hbare.out]; rfl) ⟨hRF, (fun _ => rfl), hSF, hpn⟩ (fun b hf => hf.elim (fun hf => by have := (show w.heap.size + 2 ≤ b from (nil_foot hf).elim); omega) (fun hf => by have := hpf b hf; omega)) hBF
            have hZF : Arr _ (w.heap.size + 1) 33 (HdrM.c ⟨(ka : Int), (r : Int) + 1, none, [], 0, pa, ps, pc⟩) := hZF
            unfold set4 at hZF fin
            clear kF hBF hRF hSF
            go_wp2
            refine bodyPost_ret (v := HdrM.v ⟨(ka : Int), (r : Int) + 1, none, [], 0, pa, ps, pc⟩) (results_hdrO rfl _ _ (w.heap.size + 1) ⟨(ka : Int), (r : Int) + 1, none, [], 0, pa, ps, pc⟩ rfl hZF) rfl ?_
            exact fin
  · obtain ⟨hX, hZ, hB⟩ := two_new w 35 33 [.int .i64 kd, .int .i64 au, .int .i64 bk, .int .i64 od, .slice va vs.length vc, .int .i64 rn, .int .i64 wa, .int .i64 wr0, .slice wra wrs.length wrc, .slice wpa wps.length wpc] [.int .i64 wa, .int .i64 wr0, .slice wra wrs.length wrc, .slice wpa wps.length wpc]
    have fin : GotHdrO w ks f (xs.map IdsM.l) ⟨kd, au, bk, od, va, vs, vc, rn, ⟨wa, wr0, wra, wrs, wrc, wpa, wps, wpc⟩⟩ (.returned (HdrM.v ⟨wa, wr0, wra, wrs, wrc, wpa, wps, wpc⟩)) _ := ⟨⟨wa, wr0, wra, wrs, wrc, wpa, wps, wpc⟩, rfl, by unfold hdrO; rw [if_neg hw0], hA.below hB, Or.inl ⟨hw0, rfl⟩, hB⟩
    have hZF : Arr _ (w.heap.size + 1) 33 (HdrM.c ⟨wa, wr0, wra, wrs, wrc, wpa, wps, wpc⟩) := hZ
    have hX0 : Hid _ := hX
    clear hX hZ hB
    go_enter Tryz.func11, Tryz.ntmps11
    go_wp2
    refine bodyPost_ret (v := HdrM.v ⟨wa, wr0, wra, wrs, wrc, wpa, wps, wpc⟩) (results_hdrO rfl _ _ (w.heap.size + 1) ⟨wa, wr0, wra, wrs, wrc, wpa, wps, wpc⟩ rfl hZF) rfl ?_
    exact fin
end Go.Proofs.YtmjkbdgcnoenbaaGreatDoor

/- The maker's memory when a certificate is in. -/
namespace Go.Proofs.YtmjkbdgcnoenbaaGreatDoor
open Go Go.RowKit
set_option linter.unusedVariables false

theorem Kept.transOr {S T : Nat → Prop} {a b c : World} (h : Kept S a b) (k : Kept T b c) (hT : ∀ j, T j → S j ∨ a.heap.size ≤ j) : Kept S a c :=
  ⟨k.os.trans h.os, k.tape.trans h.tape, k.output.trans h.output, Nat.le_trans h.size k.size, fun j hj hn => (k.block j (Nat.lt_of_lt_of_le hj h.size) (fun e => (hT j e).elim hn (fun e => by omega))).trans (h.block j hj hn)⟩

theorem strOne (w : World) (x : ByteArray) : RowAt strK (w.alloc (.cells #[.string x] 9)) (some ⟨w.heap.size, 0, none⟩) [x] :=
  rowOne (K := strK) (by rw [alloc_size]; omega) (fun j u hu => (Arr.new w 9 [.string x]).cell hu) trivial

/-- Where a row of rows has one of its elements, and what becomes of it when that is another one. -/
theorem KQ.setIds {T : TypeId} {w : World} {base : Nat} {ao : Option Addr} {n cap : Nat} {l : List IdsM} (h : KQ idsK T w base (.slice ao n cap) l) {i : Nat} {x : IdsM} (hx : l[i]? = some x) :
    ∃ g off, ao = some ⟨g, off, none⟩ ∧ base ≤ g ∧ g < w.heap.size ∧ w.cell? ⟨g, off + i, none⟩ = some (.slice x.ao x.l.length x.cap) ∧ (∀ o, w.frozen? ⟨g, o, none⟩ = false) ∧
      ∀ y : IdsM, idsK.At w y → (∀ b, idsK.foot y b → b ≠ g) → KQ idsK T (w.setCell ⟨g, off + i, none⟩ (.slice y.ao y.l.length y.cap)) base (.slice ao n cap) (l.set i y) := by
  have hi := (List.getElem?_eq_some_iff.1 hx).1
  rcases h.row.2 with ⟨ao', hv, hn⟩ | ⟨g, pre, post, cap', hv, hb, hg, hnc, hcm, hpl⟩
  · simp at hv
    omega
  · simp only [Value.slice.injEq] at hv
    obtain ⟨rfl, rfl, rfl⟩ := hv
    have hlen := h.row.1
    have hin : i < (flatK idsK l).length := by rw [flatK_length]; show i < l.length * 1; omega
    refine ⟨g, pre.length, rfl, hb, hg.lt, ?_, fun o => hg.frozen o, fun y hy hf => ?_⟩
    · refine hg.cell ?_
      rw [List.getElem?_append_left (by rw [List.length_append]; omega), List.getElem?_append_right (by omega)]
      have e : pre.length + i - pre.length = i * idsK.n + 0 := by show _ = i * 1 + 0; omega
      rw [e, flatK_get idsK l i x hx 0 (by decide)]
      rfl
    · have hA := hg.set (pre.length + i) (.slice y.ao y.l.length y.cap)
      have e1 : (pre ++ flatK idsK l ++ post).set (pre.length + i) (.slice y.ao y.l.length y.cap) = pre ++ flatK idsK (l.set i y) ++ post := by
        have e2 := flatK_set (K := idsK) l i x y 0 (.slice y.ao y.l.length y.cap) hx (by decide) rfl
        have e3 : i * idsK.n + 0 = i := by show i * 1 + 0 = i; omega
        rw [e3] at e2
        rw [e2, List.set_append_left _ _ (by rw [List.length_append]; omega), List.set_append_right _ _ (by omega), Nat.add_sub_cancel_left]
      rw [e1] at hA
      have kk := Kept.setCell w ⟨g, pre.length + i, none⟩ (.slice y.ao y.l.length y.cap)
      have hown : (Value.slice (some ⟨g, pre.length, none⟩) l.length cap).ownBlock = some g := rfl
      refine ⟨⟨by rw [flatK_length, List.length_set], Or.inr ⟨g, pre, post, cap, by rw [List.length_set], hb, hA, by rw [List.length_set]; exact hnc, hcm, by rw [List.length_set]; exact hpl⟩⟩, ?_, ?_, ?_, ?_⟩
      · intro z hz
        rcases List.mem_or_eq_of_mem_set hz with hz | rfl
        · exact idsK.kept (h.at_ z hz) kk (fun b hb' e => h.off z hz b hb' (by rw [hown]; have e' : b = g := e; rw [e']))
        · exact idsK.kept hy kk (fun b hb' e => hf b hb' e)
      · intro z hz b hb'
        rcases List.mem_or_eq_of_mem_set hz with hz | rfl
        · exact h.off z hz b hb'
        · intro e
          have e' : g = b := by simpa [Value.ownBlock] using e
          exact hf b hb' e'.symm
      · intro q hq
        have := h.lt q hq
        exact ⟨this.1, Nat.lt_of_lt_of_le this.2 kk.size⟩
      · exact h.nil

/-- A round is begun. -/
theorem PlAt.pushed {w wX w8 : World} {pb : Nat} {q q' : Value} {rt : Nat} {xs : List IdsM} (h : PlAt w pb q rt xs) (hb : Below w.heap.size w wX)
    (hQ8 : KQ idsK 31 w8 (pb + 1) q' (xs ++ [⟨none, 0, []⟩])) (hk8 : Kept (fun k => q.ownBlock = some k) wX w8) (hf8 : Fresh wX q q') (hl : xs.length < 1000) :
    PlAt (w8.setCell ⟨pb, 1, none⟩ q') pb q' rt (xs ++ [⟨none, 0, []⟩]) ∧ (∀ k, PlFoot pb q' (xs ++ [⟨none, 0, []⟩]) k → PlFoot pb q xs k ∨ w.heap.size ≤ k) ∧ Kept (PlFoot pb q xs) w (w8.setCell ⟨pb, 1, none⟩ q') := by
  have hX := h.below hb
  have hst := Kept.setCell w8 ⟨pb, 1, none⟩ q'
  have hnf : ∀ k, ¬ rowFoot strK none ([] : List ByteArray) k := fun k hk => nil_foot hk
  have hgt : ∀ x ∈ xs ++ [(⟨none, 0, []⟩ : IdsM)], ∀ b, rowFoot strK x.ao x.l b → pb < b := fun x hx b hf => by
    rcases List.mem_append.1 hx with hx | hx
    · exact h.gt x hx b hf
    · rw [List.mem_singleton.1 hx] at hf
      exact (hnf b hf).elim
  refine ⟨⟨?_, ?_, hgt, by rw [List.length_append]; simp; omega, fun x hx => ?_, fun x hx hx0 => ?_, fun x hx => ?_⟩, ?_, ?_⟩
  · exact (hX.box.kept hk8 (fun e => by have := h.row.lt pb e; omega)).set 1 q'
  · exact hQ8.kept hst (fun k hk e => by have := (hQ8.lt k hk).1; have e' : k = pb := e; omega) (fun x hx b hf e => by have := hgt x hx b hf; have e' : b = pb := e; omega)
  · rcases List.mem_append.1 hx with hx | hx
    · exact h.few' x hx
    · rw [List.mem_singleton.1 hx]; simp
  · rcases List.mem_append.1 hx with hx | hx
    · exact h.emp x hx hx0
    · rw [List.mem_singleton.1 hx]
  · rcases List.mem_append.1 hx with hx | hx
    · exact h.room x hx
    · rw [List.mem_singleton.1 hx]; simp
  · rintro k (e | e | ⟨x, hx, e⟩)
    · exact Or.inl (Or.inl e)
    · rcases hf8 k e with e1 | e1
      · exact Or.inl (Or.inr (Or.inl e1))
      · exact Or.inr (by have := hb.size; omega)
    · rcases List.mem_append.1 hx with hx | hx
      · exact Or.inl (Or.inr (Or.inr ⟨x, hx, e⟩))
      · rw [List.mem_singleton.1 hx] at e
        exact (hnf _ e).elim
  · have h5 : Kept (PlFoot pb q xs) w w8 := (Kept.of_below hb).trans (hk8.mono (fun k _ e => Or.inr (Or.inl e)))
    exact h5.set (p := ⟨pb, 1, none⟩) (Or.inl rfl) _

/-- A row has one more. -/
theorem PlAt.inserted {w wX : World} {pb : Nat} {ao : Option Addr} {n cap : Nat} {rt : Nat} {xs : List IdsM} (h : PlAt w pb (.slice ao n cap) rt xs) {k : Nat} {x : IdsM} (hx : xs[k]? = some x) (hb : Below w.heap.size w wX)
    {a' : Option Addr} {N c' : Nat} {lo : List ByteArray} (hQ : KQ strK 9 wX w.heap.size (.slice a' N c') lo) (hN : N = lo.length) (hl0 : lo ≠ []) (hl : lo.length ≤ 1000) {g off : Nat} (hao : ao = some ⟨g, off, none⟩) :
    PlAt (wX.setCell ⟨g, off + k, none⟩ (.slice a' N c')) pb (.slice ao n cap) rt (xs.set k ⟨a', c', lo⟩) ∧ (∀ j, PlFoot pb (.slice ao n cap) (xs.set k ⟨a', c', lo⟩) j → PlFoot pb (.slice ao n cap) xs j ∨ w.heap.size ≤ j) ∧ Kept (PlFoot pb (.slice ao n cap) xs) w (wX.setCell ⟨g, off + k, none⟩ (.slice a' N c')) := by
  subst hN
  have hX := h.below hb
  obtain ⟨g', off', e', hg1, hg2, _, _, hset⟩ := hX.row.setIds hx
  obtain ⟨rfl, rfl⟩ : g = g' ∧ off = off' := by rw [hao] at e'; simpa using e'
  have hgl := h.row.lt g (by rw [hao]; rfl)
  have hro := hQ.row.rowAt rfl hQ.at_
  have hfo : ∀ b, rowFoot strK a' lo b → w.heap.size ≤ b := fun b hf => by
    obtain ⟨_, o3, e3⟩ := strs_foot hf
    exact (hQ.lt b (by rw [e3]; rfl)).1
  have hst := Kept.setCell wX ⟨g, off + k, none⟩ (.slice a' lo.length c')
  refine ⟨⟨hX.box.kept hst (fun e => by have e' : pb = g := e; omega), hset ⟨a', c', lo⟩ ⟨hro, fun e => hQ.nil _ _ (by rw [show a' = none from e])⟩ (fun b hb => by have := hfo b hb; omega), fun z hz b hf => ?_, by rw [List.length_set]; exact h.few, fun z hz => ?_, fun z hz hz0 => ?_, fun z hz => ?_⟩, ?_, ?_⟩
  · rcases List.mem_or_eq_of_mem_set hz with hz | rfl
    · exact h.gt z hz b hf
    · have := hfo b hf
      have := h.box.lt
      omega
  · rcases List.mem_or_eq_of_mem_set hz with hz | rfl
    · exact h.few' z hz
    · exact hl
  · rcases List.mem_or_eq_of_mem_set hz with hz | rfl
    · exact h.emp z hz hz0
    · exact (hl0 hz0).elim
  · rcases List.mem_or_eq_of_mem_set hz with hz | rfl
    · exact h.room z hz
    · obtain ⟨_, _, _, _, _, _, hlc⟩ := hQ.spot (List.length_pos_iff.2 hl0)
      exact hlc
  · rintro j (e | e | ⟨z, hz, e⟩)
    · exact Or.inl (Or.inl e)
    · exact Or.inl (Or.inr (Or.inl e))
    · rcases List.mem_or_eq_of_mem_set hz with hz | rfl
      · exact Or.inl (Or.inr (Or.inr ⟨z, hz, e⟩))
      · exact Or.inr (hfo j e)
  · exact (Kept.of_below hb).set (p := ⟨g, off + k, none⟩) (Or.inr (Or.inl (by rw [hao]; rfl))) _
end Go.Proofs.YtmjkbdgcnoenbaaGreatDoor

/- The tables of validators, once for all. -/
namespace Go.Proofs.YtmjkbdgcnoenbaaGreatDoor
open Go Go.RowKit
set_option linter.unusedVariables false

/-- A table at tb, of f and the keys ks. -/
structure TEnv (w : World) (tb f : Nat) (ks : List ByteArray) : Prop where
  T : Mx.TabAt w tb f ks
  f2 : f ≤ 2
  f1 : 1 ≤ f
  kl : ks.length = 3 * f + 1
  k32 : ∀ k ∈ ks, k.size ≤ 32
  G : Mx.Glob w

theorem TEnv.below {w w' : World} {tb f : Nat} {ks : List ByteArray} (h : TEnv w tb f ks) (hb : Below w.heap.size w w') : TEnv w' tb f ks := ⟨h.T.below hb, h.f2, h.f1, h.kl, h.k32, h.G.below hb⟩

/-- A validator's tag, or none. -/
def voteT (ks : List ByteArray) (me e : Nat) (id : ByteArray) : TagD := if e = 0 then ⟨(me : Int), Mx.macOf (ks.getD me ⟨#[]⟩) voteW id⟩ else ⟨0, ⟨#[]⟩⟩

/-- What header.Check says. -/
def chkA (ks : List ByteArray) (f : Nat) (h : HdrD) : Nat := chkH (3 * f + 1) (2 * f + 1) (enT ks f) h
end Go.Proofs.YtmjkbdgcnoenbaaGreatDoor

/- A table as a map of structs, as it lies in memory; what Drop does to it. -/
namespace Go.Proofs.YtmjkbdgcnoenbaaGreatDoor
open Go Go.RowKit Go.Maps
set_option linter.unusedVariables false

/-- What is kept of a thing. -/
def thingV (x : ThingD) : Value := .agg #[.int .i64 x.round, .string x.s]
def tabF (l : List ThingD) (id : ByteArray) : Option Value := (getR l id).map thingV

theorem tabF_some {l : List ThingD} {id : ByteArray} : (tabF l id).isSome = true ↔ id ∈ l.map (·.id) := by
  unfold tabF
  rw [Option.isSome_map]
  constructor
  · intro h
    obtain ⟨x, hx⟩ := Option.isSome_iff_exists.1 h
    obtain ⟨h1, h2⟩ := getR_some hx
    exact List.mem_map.2 ⟨x, h1, h2⟩
  · intro h
    obtain ⟨x, hx, e⟩ := List.mem_map.1 h
    unfold getR
    rw [List.find?_isSome]
    exact ⟨x, hx, by rw [bytes_eq]; exact decide_eq_true e⟩

/-- A table lies in block tb, its map in block mb. -/
structure PTab (w : World) (tb mb : Nat) (most low : Int) (l : List ThingD) : Prop where
  box : Arr w tb 146 [.map (some mb), .int .i64 most, .int .i64 low]
  map : SMap w mb (tabF l) l.length
  ne : tb ≠ mb
  nod : (l.map (·.id)).Nodup
  few : l.length ≤ 1000000

set_option maxRecDepth 100000 in
set_option maxHeartbeats 2000000 in
theorem tabDrop_any (round : Int) (tb mb : Nat) (most low : Int) (l : List ThingD) (w : World) (h : PTab w tb mb most low l) :
    Calls Tryz.prog 64 #[.pointer (some ⟨tb, 0, none⟩), .int .i64 round] w fun e w' => e = .returned (.int .i64 ((l.length : Int) - ((dropL l round).length : Int))) ∧ PTab w' tb mb most (max low round) (dropL l round) ∧ Kept (fun k => k = tb ∨ k = mb) w w' := by
  have hM := h.map
  have hfew := h.few
  have c2 := h.box.cell (i := 0) rfl
  have hne := h.ne
  obtain ⟨f0, hf0⟩ : ∃ f, Hid (tabF l = f) := ⟨_, rfl⟩
  obtain ⟨g0, hg0⟩ : ∃ f, Hid (tabF (dropL l round) = f) := ⟨_, rfl⟩
  rw [hf0.out] at hM
  have hsub : ∀ i, f0 i = none → g0 i = none := by
    intro i hi
    rw [← hf0.out] at hi
    rw [← hg0.out]
    unfold tabF at hi ⊢
    rw [getR_drop round i h.nod]
    cases hx : getR l i with
    | none => rfl
    | some x => rw [hx] at hi; cases hi
  have hstep : Hid (∀ id v, f0 id = some v → ∃ r s, v = .agg #[.int .i64 r, .string s] ∧ (r < round → g0 id = none) ∧ (¬ r < round → f0 id = g0 id)) := by
    intro id v hv
    have hv' := hv
    rw [← hf0.out] at hv'
    unfold tabF at hv'
    cases hx : getR l id with
    | none => rw [hx] at hv'; cases hv'
    | some x =>
      rw [hx] at hv'
      simp only [Option.map_some, Option.some.injEq] at hv'
      have hgr := getR_drop round id h.nod
      rw [hx] at hgr
      simp only at hgr
      refine ⟨x.round, x.s, hv'.symm, fun hr => ?_, fun hr => ?_⟩
      · rw [← hg0.out]
        unfold tabF
        rw [hgr, if_neg (by omega)]
        rfl
      · rw [← hg0.out, ← hf0.out]
        unfold tabF
        rw [hgr, hx, if_pos (by omega)]
  go_enter Tryz.func64, Tryz.ntmps64
  go_wp2_with (first
    | (at_len; refine smap_len (by rfl) _ 144 rfl 142 Tryz.underlying144 mb f0 _ rfl hM ?_)
    | (at_range; refine smap_range rfl _ 144 rfl 142 Tryz.underlying144 mb f0 _ rfl hM ?_; intro w1 hR1 hb1 hs1))
  obtain ⟨r, hr⟩ : ∃ r, Hid (w.heap.size = r) := ⟨_, rfl⟩
  rw [hr.out] at hR1 ⊢
  have hrb : r ≠ tb ∧ r ≠ mb := by have := hr.out; have := h.box.lt; have := hM.lt; omega
  have hX1 := h.box.below hb1 h.box.lt
  have hK1 : Kept (fun k => k = tb ∨ k = mb) w w1 := Kept.of_below hb1
  have hR0 := hR1.congr (fun i => (mixF_start f0 g0 hsub i).symm)
  clear hR1 c2
  go_loopw [6] (fun _ wr => ∃ (left : ByteArray → Bool) (cnt n : Nat), SRange wr mb r (mixF f0 g0 left) n left cnt ∧ Arr wr tb 146 [.map (some mb), .int .i64 most, .int .i64 low] ∧ Kept (fun k => k = tb ∨ k = mb) w wr) (fun _ wr => wr.rangeLeft mb r)
  case atStart => exact ⟨_, _, _, hR0, hX1, hK1⟩
  case round =>
    obtain ⟨left, cnt, n, hR, hX, hK⟩ := hrel
    clear hR0 hX1 hK1 hb1 hs1
    have c2 := hX.cell (i := 0) rfl
    go_wp2_with (at_next; refine smap_next rfl _ rfl mb r _ _ _ _ rfl hR ?_ ?_)
    · intro hl
      have hMF : SMap wr mb g0 n := hR.map.congr (fun i => by
        unfold mixF
        rw [hl i]
        rfl)
      have hn := hMF.count (dropL_nod h.nod round) (fun i => by rw [← hg0.out]; exact tabF_some)
      rw [List.length_map] at hn
      have c1 := hX.cell (i := 2) rfl
      have f1 := hX.frozen 2
      have hle := dropL_le l round
      subst hn
      have hfin : ∀ (lw : Int) (w5 : World), lw = max low round → Arr w5 tb 146 [.map (some mb), .int .i64 most, .int .i64 lw] → SMap w5 mb g0 (dropL l round).length → PTab w5 tb mb most (max low round) (dropL l round) := fun lw w5 e h1 h2 =>
        ⟨by rw [← e]; exact h1, by rw [hg0.out]; exact h2, hne, dropL_nod h.nod round, by omega⟩
      obtain ⟨dn, hdn⟩ : ∃ z, Hid ((dropL l round).length = z) := ⟨_, rfl⟩
      rw [hdn.out] at hMF hle hfin
      have hset : ∀ lw : Int, Arr (wr.setCell ⟨tb, 2, none⟩ (.int .i64 lw)) tb 146 [.map (some mb), .int .i64 most, .int .i64 lw] ∧ SMap (wr.setCell ⟨tb, 2, none⟩ (.int .i64 lw)) mb g0 dn ∧ Kept (fun k => k = tb ∨ k = mb) w (wr.setCell ⟨tb, 2, none⟩ (.int .i64 lw)) := fun lw =>
        ⟨hX.set 2 _, hMF.kept (Kept.setCell wr ⟨tb, 2, none⟩ (.int .i64 lw)) (fun e => hne e.symm), hK.set (p := ⟨tb, 2, none⟩) (Or.inl rfl) _⟩
      clear hR hX hK hMF
      rcases (by omega : round ≤ low ∨ ¬ round ≤ low) with hm | hm
      · have e5 : low = max low round := by omega
        obtain ⟨s1, s2, s3⟩ := hset low
        have hP := hfin low _ e5 s1 s2
        clear hset hfin e5
        go_wp2_with (at_len; refine smap_len (by rfl) _ 144 rfl 142 Tryz.underlying144 mb g0 _ rfl s2 ?_)
        go_wp2
        go_ret
        exact ⟨by rw [hdn.out]; rfl, hP, s3⟩
      · have e5 : round = max low round := by omega
        obtain ⟨s1, s2, s3⟩ := hset round
        have hP := hfin round _ e5 s1 s2
        clear hset hfin e5
        go_wp2_with (at_len; refine smap_len (by rfl) _ 144 rfl 142 Tryz.underlying144 mb g0 _ rfl s2 ?_)
        go_wp2
        go_ret
        exact ⟨by rw [hdn.out]; rfl, hP, s3⟩
    · intro id v w2 cnt2 hid hlx hfx hR2 hlt hk2 hs2 hen
      have hfx0 : f0 id = some v := by
        unfold mixF at hfx
        rw [if_pos hlx] at hfx
        exact hfx
      obtain ⟨rd, s, rfl, hgo, hst⟩ := hstep.out id v hfx0
      have hX2 := hX.kept hk2 (fun e => hrb.1 e.symm)
      have hK2 : Kept (fun k => k = tb ∨ k = mb) w w2 := hK.transNew hk2 (fun k e => by have e' : k = r := e; have := hr.out; omega)
      have hA := belowNew w2 (.cells #[.int .i64 rd, .string s] 142)
      have hX3 := hX2.below hA hX2.lt
      have hR3 := hR2.kept (Kept.of_below (S := fun _ => False) hA) (fun e => e) (fun e => e)
      have hK3 := hK2.trans (Kept.of_below hA)
      have c23 := hX2.cell (i := 0) rfl
      have ltb := hX2.lt
      have hLq := hR.left_eq
      clear hfx hfx0 hX hR hK hk2 c2 hs2
      by_cases hlr : rd < round
      · go_wp2_with (at_delete; refine smap_del_range rfl _ _ 144 rfl 142 Tryz.underlying144 mb r _ _ _ _ rfl hR3 id hid rfl ?_)
        intro w4 cnt4 hR4 hle hk4
        have hX4 := hX3.kept hk4 (fun e => hne e)
        have hK4 := hK3.trans (hk4.mono (fun k _ e => Or.inr e))
        rw [strikeF_twice] at hR4
        have hR5 := hR4.congr (mixF_goes (left := left) (f := f0) (hgo hlr))
        clear hR4 hR3 hX3 hK3 hk4 hen
        go_wp2
        go_roundw
        case rel => exact ⟨_, _, _, hR5, hX4, hK4⟩
        case measure => rw [hR5.left_eq, hLq]; omega
      · have hR5 := hR3.congr (mixF_stays (left := left) (hst (by omega)))
        go_wp2
        go_roundw
        case rel => exact ⟨_, _, _, hR5, hX3, hK3⟩
        case measure => rw [hR5.left_eq, hLq]; omega
end Go.Proofs.YtmjkbdgcnoenbaaGreatDoor
