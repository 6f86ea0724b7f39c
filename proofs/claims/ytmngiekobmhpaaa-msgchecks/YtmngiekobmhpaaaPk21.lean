/- Texts as one: RefBatEncode, RefHdrTagsEnc, RefHdrEncode, RefCertEncode, RefBlkEncode, MsgRefEncode. -/
import Derived.Test.YtmngiekobmhpaaaPk12
import Derived.Test.YtmngiekobmhpaaaPk18
import Derived.Test.YtmngiekobmhpaaaPk20
import Derived.Test.YtmngiekobmhpaaaPk11
import Derived.Lib.QuietBelow
import Derived.BigQuiet
import Derived.Test.YtmngiekobmhpaaaPk19
/- What tuskref05.Encode does; nothing old in memory is turned. -/
namespace Go.Proofs.Ytmngiekobmhpaaa
open Go.RowKit Go.Sort
set_option linter.unusedVariables false

set_option maxRecDepth 100000 in
set_option maxHeartbeats 4000000 in
theorem refBatEncode_any (a n : Int) (ao : Option Addr) (l : List TxM) (cap : Nat) (w : World) (hA : TxsAt w ao l) (hS : ∀ x ∈ l, TxSizes x.d) :
    Calls Try.prog 27 #[batV a n ao l.length cap] w fun e w' => e = .returned (.tuple #[.string (encBB ⟨a, n, dl l⟩), .int .i64 (checkB ⟨a, n, dl l⟩ : Int)]) ∧ Below w.heap.size w w' := by
  have hX : Arr _ _ _ (batC a n ao l.length cap) := Arr.new w 26 (batC a n ao l.length cap)
  have hB := belowNew w (.cells (batC a n ao l.length cap).toArray 26)
  have cC := fun w1 (h : TxsAt w1 ao l) => refBatCheck_any a n ao l cap w1 h hS
  have hA0 := hA.below hB
  unfold batV at cC ⊢
  by_cases hz : checkB ⟨a, n, dl l⟩ ≠ 0
  · have H : Hid (encBB ⟨a, n, dl l⟩ = ⟨#[]⟩) := (if_neg hz : _ = _)
    generalize checkB ⟨a, n, dl l⟩ = er at cC hz ⊢
    have hz2 : ((er : Int) != 0) = true := by rw [bne_iff_ne]; omega
    go_enter Try.func27, Try.ntmps27
    go_wp2_with fail
    refine (cC _ hA0).mono ?_
    rintro e w1 ⟨rfl, hb1⟩
    have hB1 := hB.trans (hb1.mono hB.size)
    clear hb1 hX hB hA0 cC
    go_wp2
    go_ret2
    exact ⟨by rw [H.out]; rfl, hB1⟩
  · have hz' : checkB ⟨a, n, dl l⟩ = 0 := by omega
    obtain ⟨z1, z2, z3, z4, z5, z6, z7⟩ := checkB_zero hz'
    have hlen := encBat_len hz'
    simp only [dl_length] at z5 z6
    have H : Hid (encBB ⟨a, n, dl l⟩ = ⟨(encBat ⟨a, n, dl l⟩).toArray⟩) := (if_pos hz' : _ = _)
    rw [hz'] at cC ⊢
    have hright : ∀ x ∈ l, checkL x.d = 0 := fun x hx => z7 x.d (List.mem_map.2 ⟨x, hx, rfl⟩)
    obtain ⟨i0, hi, hz0, hz1, hz2⟩ := info_parts infoString
    clear z7
    go_enter Try.func27, Try.ntmps27
    go_wp2_with fail
    refine (cC _ hA0).mono ?_
    rintro e w1 ⟨rfl, hb1⟩
    have hB1 := hB.trans (hb1.mono hB.size)
    have hX1 := hX.below hb1 hX.lt
    clear hb1 hX hB hA0 cC
    have x2 := hX1.cell (i := 2) rfl
    go_wp2
    go_loopw [5, 6, 7, 8] (fun v5 v6 v7 v8 wr => ∃ k : Nat, k ≤ l.length ∧ v6 = .int .i64 (k : Int) ∧ wr.ownsRow (w.heap.size + 1) 9 1 v5 k ((bl (memB (l.take k))).map strVal) ∧ Arr wr w.heap.size 26 (batC a n ao l.length cap) ∧ Below w.heap.size w wr) (fun _ v _ _ _ => l.length - (intOf v).toNat)
    case atStart => exact ⟨0, Nat.zero_le _, rfl, World.ownsRow_nil _ _ _ _, hX1, hB1⟩
    case round =>
      obtain ⟨k, hk, rfl, hown, hX2, hb⟩ := hrel
      clear hX1 hB1 x2
      by_cases hlt : k < l.length
      · obtain ⟨x, hx⟩ : ∃ x, l[k]? = some x := ⟨l[k], List.getElem?_eq_getElem hlt⟩
        obtain ⟨b, off, rfl, hbl, y0, y1, y2, y3, y4, y5, y6, y7, y8⟩ := (hA.below hb).cells hx
        have hAt := (hA k x hx).2.below hb
        have cE := fun w1 (h : TxAt w1 x.d x.ra x.wa) => refEncode_yes x.d x.ra x.rc x.wa x.wc w1 h (hS x (List.mem_of_getElem? hx)) (hright x (List.mem_of_getElem? hx))
        have hms := memB_succ l k x hx
        clear hx
        have x2 := hX2.cell (i := 2) rfl
        obtain ⟨bb, hbb⟩ : ∃ q, q = (⟨(encL x.d).toArray⟩ : ByteArray) := ⟨_, rfl⟩
        rw [← hbb] at cE hms
        clear hbb
        go_wp2_with fail
        refine (cE _ hAt.at_).mono ?_
        rintro e w2 ⟨rfl, hb3⟩
        have hb4 := hb.trans (hb3.mono hb.size)
        have hX4 := hX2.below hb3 hX2.lt
        have hown4 := own_below' hown hb3
        clear hb3 hAt cE y0 y1 y2 y3 y4 y5 y6 y7 y8 hX2 hb hown x2
        obtain ⟨ao5, c5, rfl, hn5⟩ := own_form' hown4
        have hsz4 : w.heap.size + 1 ≤ w2.heap.size := hX4.lt
        go_wp2_with (at_builtin; refine wpList_append_own _ rfl _ _ 28 rfl (w.heap.size + 1) 9 i0 (.string ⟨#[]⟩) 1 16 Try.underlying28 hi hz0 hz1 hz2 rfl (by decide) _ _ _ rfl (hown4.alloc _) ⟨w2.heap.size, 0, none⟩ 1 1 [.string bb] rfl rfl ?c1 ?c2 ?c3 ?c4 ?c5 ?_)
        case c1 =>
          intro i u hj
          match i, hj with
          | 0, hj => simp at hj; subst hj; simp [Addr.add]
        case c2 => intro u hu; simp at hu; subst hu; rfl
        case c3 => unfold maxLen; omega
        case c4 => omega
        case c5 => simp; omega
        · intro v' w3 hown' hgrow _
          have hb5 : Below w.heap.size w w3 := (hb4.alloc hb4.size _).grown hgrow (by simp; omega) (fun q hq => Nat.le_trans (Nat.le_succ _) (hown4.lt q hq).1)
          have hX5 : Arr w3 w.heap.size 26 (batC a n (some ⟨b, off, none⟩) l.length cap) := (hX4.alloc _).kept (Kept.of_grown hgrow) (fun e => by have := (hown4.lt _ e).1; omega)
          have hown2 : w3.ownsRow (w.heap.size + 1) 9 1 v' (k + 1) ((bl (memB (l.take (k + 1)))).map strVal) := by
            rw [hms]
            simpa [bl, strVal] using hown'
          clear hown' hgrow hown4 hb4 hX4
          go_wp2
          go_roundw
          case rel => exact ⟨k + 1, by omega, by go_num, hown2, hX5, hb5⟩
          case measure => simp [intOf]; omega
      · obtain rfl : k = l.length := by omega
        rw [List.take_length] at hown
        obtain ⟨ao5, c5, rfl, hn5⟩ := own_form' hown
        have hstr : StrsAt wr ao5 (memB l) := (own_far hown (memB_length l).symm).at
        have hlst : Hid ((lst (bl (memB l))).length ≤ 33000) := by
          show _ ≤ _
          rw [bl_memB]
          have := hlen
          unfold encBat at this
          simp only [List.length_append] at this
          omega
        have E : Hid (encBat ⟨a, n, dl l⟩ = goInt a ++ goInt n ++ lst (bl (memB l))) := by show _ = _; rw [bl_memB]; rfl
        have x0 := hX2.cell (i := 0) rfl
        have x1 := hX2.cell (i := 1) rfl
        have x2 := hX2.cell (i := 2) rfl
        obtain ⟨ba, hba⟩ : ∃ q, Hid (q = (⟨(goInt a).toArray⟩ : ByteArray)) := ⟨_, rfl⟩
        obtain ⟨bn, hbn⟩ : ∃ q, Hid (q = (⟨(goInt n).toArray⟩ : ByteArray)) := ⟨_, rfl⟩
        obtain ⟨bm, hbm⟩ : ∃ q, Hid (q = (⟨(lst (bl (memB l))).toArray⟩ : ByteArray)) := ⟨_, rfl⟩
        have k1 : ∀ d os, Calls Try.prog 26 #[.int .i64 a] (grow (redrawn wr d) os) fun e w'' => e = .returned (.string ba) ∧ ∃ p : Regrown, w'' = grow (redrawn wr p.d) p.os := fun d os => Calls.regrown_of (by rw [hba.out]; exact refInt_any a _)
        have k2 : ∀ d os, Calls Try.prog 26 #[.int .i64 n] (grow (redrawn wr d) os) fun e w'' => e = .returned (.string bn) ∧ ∃ p : Regrown, w'' = grow (redrawn wr p.d) p.os := fun d os => Calls.regrown_of (by rw [hbn.out]; exact refInt_any n _)
        have k3 : ∀ d os, Calls Try.prog 62 #[.slice ao5 l.length c5] (grow (redrawn wr d) os) fun e w'' => e = .returned (.string bm) ∧ ∃ p : Regrown, w'' = grow (redrawn wr p.d) p.os := fun d os => Calls.regrown_of (by
          have h := refList_any ao5 c5 (memB l) (grow (redrawn wr d) os) (hstr.below (below_regrown wr d os)) (by have := hlst.out; omega) (by rw [memB_length]; omega)
          rw [memB_length, ← hbm.out] at h
          exact h)
        have sa : ba.size ≤ 9 := by rw [hba.out, size_mk]; exact goInt_length a
        have sn : bn.size ≤ 9 := by rw [hbn.out, size_mk]; exact goInt_length n
        have sm : bm.size ≤ 33000 := by rw [hbm.out, size_mk]; exact hlst.out
        have C0 := cell_regrown x0
        have C1 := cell_regrown x1
        have hbs : Hid (ba ++ bn ++ bm = encBB ⟨a, n, dl l⟩) := by
          show _ = _
          rw [H.out, E.out, hba.out, hbn.out, hbm.out]
          apply ByteArray.ext
          simp
        clear x0 x1 E hlst hstr hown
        go_wp2_with fail
        refine wp_region_quiet_below (by kernel_rfl) (by kernel_rfl) ?_
        iterate 2 (go_big_quiet_step (fail))
        go_big_quiet_step (exact k1 _ _)
        iterate 2 (go_big_quiet_step (fail))
        go_big_quiet_step (exact k2 _ _)
        iterate 2 (go_big_quiet_step (fail))
        go_big_quiet_step (exact k3 _ _)
        iterate 3 (go_big_quiet_step (fail))
        refine wpQuiet_nil ?_
        rintro w' ⟨p, rfl⟩
        have hb' := below_regrown wr p.d p.os
        have hBz := hb.trans (hb'.mono hb.size)
        generalize grow (redrawn wr p.d) p.os = w7 at hBz ⊢
        clear k1 k2 k3 C0 C1
        go_wp2
        go_ret2
        exact ⟨by rw [← hbs.out]; rfl, hBz⟩
end Go.Proofs.Ytmngiekobmhpaaa

/- What tuskref06.Tags does; nothing old in memory is turned. -/
namespace Go.Proofs.Ytmngiekobmhpaaa
open Go.RowKit
set_option linter.unusedVariables false

set_option maxRecDepth 100000 in
set_option maxHeartbeats 1000000 in
theorem refTags_any (ao : Option Addr) (cap : Nat) (l : List TagD) (w : World) (hA : RowAt tagK w ao l) (hn : l.length ≤ 1000000000) (hsz : ∀ t ∈ l, t.mac.size ≤ 140737488351232) (hlen : (tagsB l).length ≤ 140737488355328) :
    Calls Try.prog 29 #[.slice ao l.length cap] w fun e w' => e = .returned (.string ⟨(tagsB l).toArray⟩) ∧ Below w.heap.size w w' := by
  obtain ⟨i0, hi, hz0, hz1, hz2⟩ := info_parts infoString
  have Hlen : Hid ((tagsB l).length ≤ 140737488355328) := hlen
  clear hlen
  go_enter Try.func29, Try.ntmps29
  go_wp2
  go_loopw [3, 4] (fun v3 v8 wr => ∃ i : Nat, i ≤ l.length ∧ v8 = .int .i64 (i : Int) ∧ KQ strK 9 wr w.heap.size v3 (memT (l.take i)) ∧ Below w.heap.size w wr) (fun _ v _ => l.length - (intOf v).toNat)
  case atStart => exact ⟨0, Nat.zero_le _, rfl, KQ.empty _ _ _ _, Below.refl _ _⟩
  case round =>
    obtain ⟨i, hil, rfl, hq, hb⟩ := hrel
    by_cases hlt : i < l.length
    · obtain ⟨t, ht⟩ : ∃ t, l[i]? = some t := ⟨l[i], List.getElem?_eq_getElem hlt⟩
      obtain ⟨b, off, rfl, hbl, y0, y1⟩ := (hA.below hb).tag ht
      have hms := memT_succ l i t ht
      have hmz := hsz t (List.mem_of_getElem? ht)
      have hml : (memT (l.take i)).length = i := by rw [memT_length, List.length_take]; omega
      have hjo := tag_join t
      obtain ⟨nb, hnb⟩ : ∃ z, z = (⟨(goInt t.who).toArray⟩ : ByteArray) := ⟨_, rfl⟩
      obtain ⟨tb, htb⟩ : ∃ z, z = (⟨(tagB t).toArray⟩ : ByteArray) := ⟨_, rfl⟩
      have cI : Hid (∀ w1, Calls Try.prog 26 #[.int .i64 t.who] w1 fun e w2 => e = .returned (.string nb) ∧ Below w1.heap.size w1 w2) := by
        intro w1
        rw [hnb]
        exact refInt_any _ _
      have hnl : nb.size ≤ 9 := by rw [hnb, size_mk]; exact goInt_length _
      have hsum : ¬ (9223372036854775807 < nb.size + t.mac.size) := by omega
      rw [← hnb, ← htb] at hjo
      rw [← htb] at hms
      have Hms : Hid (memT (l.take (i + 1)) = memT (l.take i) ++ [tb]) := hms
      obtain ⟨ms, hmse⟩ : ∃ q, q = memT (l.take i) := ⟨_, rfl⟩
      rw [← hmse] at hq hml Hms
      clear hnb htb ht hms hmse
      obtain ⟨qa, qc, rfl, hqn, _⟩ := hq.form
      rw [hml] at hq ⊢
      go_wp2_with fail
      go_region_law (first
        | (go_simp; go_at_call 26; refine (cI.out _).mono ?_; rintro e w2 ⟨rfl, hb3⟩; have hb4 : Below wr.heap.size wr w2 := ((Below.refl _ wr).drew).trans hb3; have y1a : w2.cell? ⟨b, off + i * 2 + 1, none⟩ = some (.string t.mac) := (hb4.cell (p := ⟨b, off + i * 2 + 1, none⟩) hbl).trans y1; have hbn := hb4.alloc hb4.size (.cells #[.string tb] 9); have hq4 := hq.below hbn; have hN := new_str w2 tb; have hbs := (hb.trans (hbn.mono hb.size)).size)
        | (refine step_push (K := strK) _ (by rfl) _ _ 28 (by rfl) w.heap.size 9 i0 (.string ⟨#[]⟩) 16 Try.underlying28 hi hz0 hz1 hz2 rfl _ ms (by rfl) hq4 tb trivial (fun _ h => h.elim) ⟨w2.heap.size, 0, none⟩ 1 (by rfl) hN (by rw [hml]; unfold maxLen; omega) (by rw [hml]; omega) hbs ?_; intro ao3 cap3 w3 hq3 hk3))
      all_goals
        have hkB := Kept.below hk3 hbs (fun j hj => (hq4.lt j hj).1)
        have hbF := (hb.trans (hbn.mono hb.size)).trans hkB
        have hq5 : KQ strK 9 w3 w.heap.size (.slice ao3 (i + 1) cap3) (memT (l.take (i + 1))) := by rw [Hms.out, ← hml]; exact hq3
        clear hq3 hk3 hkB hq4 hN hbs hbn y1a hb3 hb4 hq hb y0 y1
        go_wp2
        go_roundw
        case rel => exact ⟨i + 1, by omega, by go_num, hq5, hbF⟩
        case measure => simp [intOf]; omega
    · obtain rfl : i = l.length := by omega
      rw [List.take_length] at hq
      obtain ⟨qa, qc, rfl, hqn, hqt⟩ := hq.form
      have hlst : (lst (bl (memT l))).length ≤ 140737488355328 := by rw [bl_memT]; exact Hlen.out
      have cL := refList_any qa qc (memT l) wr hqt.strs hlst (by rw [memT_length]; omega)
      have hml := memT_length l
      rw [hml] at cL ⊢
      have E : Hid ((⟨(lst (bl (memT l))).toArray⟩ : ByteArray) = ⟨(tagsB l).toArray⟩) := by show _ = _; rw [bl_memT]; rfl
      generalize (⟨(lst (bl (memT l))).toArray⟩ : ByteArray) = r at cL E
      clear hq hqt hlst hml
      go_wp2_with fail
      refine cL.mono ?_
      rintro e w1 ⟨rfl, hb1⟩
      have hbF := hb.trans (hb1.mono hb.size)
      clear cL
      go_wp2
      go_ret
      exact ⟨by rw [E.out]; rfl, hbF⟩

end Go.Proofs.Ytmngiekobmhpaaa

/- What tuskref06.Encode does; nothing old in memory is turned. -/
namespace Go.Proofs.Ytmngiekobmhpaaa
open Go.RowKit Go.Sort
set_option linter.unusedVariables false

set_option maxRecDepth 100000 in
set_option maxHeartbeats 4000000 in
theorem refHdrEncode_any (x : HdrM) (w : World) (hA : x.At w) (hf : x.Fit) :
    Calls Try.prog 30 #[x.v] w fun e w' => e = .returned (.string ⟨(encH x.d).toArray⟩) ∧ Below w.heap.size w w' := by
  have hX := Arr.new w 30 x.c
  have hB := belowNew w (.cells x.c.toArray 30)
  obtain ⟨out, hout⟩ : ∃ out, Hid (out = (⟨(encH x.d).toArray⟩ : ByteArray)) := ⟨_, rfl⟩
  rw [← hout.out]
  have hn := hf.n
  have hpn := hf.p
  have HL : Hid (∀ k, (preH x k).length ≤ 140737488355328) := fun k => Nat.le_trans (preH_le x k) hf.len
  have HP : Hid ((preH x x.refs.length).length + (lst (bl x.parents)).length ≤ 140737488355328) := by
    have := hf.len
    rw [encH_eq, List.length_append] at this
    exact this
  have HE : Hid (encH x.d = _) := encH_eq x
  have HK := hf.acks
  have HM := hf.mac
  have HS : Hid (∀ k r, x.refs[k]? = some r → preH x (k + 1) = preH x k ++ txt r.digest.data.toList ++ tagsB r.acks) := fun k r h => preH_succ x k r h
  have H0 : Hid (preH x 0 = goInt x.author ++ goInt x.round ++ goInt (x.refs.length : Int)) := by show _ = _; simp [preH]
  obtain ⟨au, ro, ra, rs, rc, pa, ps, pc⟩ := x
  have hA1 : RowAt refK w ra rs := hA.refs
  have hA2 : RowAt strK w pa ps := hA.ps
  obtain ⟨pre, hpre⟩ : ∃ q, q = preH ⟨au, ro, ra, rs, rc, pa, ps, pc⟩ := ⟨_, rfl⟩
  rw [← hpre] at HL HP HE HS H0
  clear hf hA hpre
  unfold HdrM.v
  unfold HdrM.c at hX hB
  simp only at hX hB hn hpn HL HP HE HK HM HS H0 ⊢
  obtain ⟨w0, hw0⟩ : ∃ q, w.alloc (.cells #[.int .i64 au, .int .i64 ro, .slice ra rs.length rc, .slice pa ps.length pc] 30) = q := ⟨_, rfl⟩
  rw [hw0] at hX hB
  obtain ⟨ba, hba⟩ : ∃ q, Hid (q = (⟨(goInt au).toArray⟩ : ByteArray)) := ⟨_, rfl⟩
  obtain ⟨bn, hbn⟩ : ∃ q, Hid (q = (⟨(goInt ro).toArray⟩ : ByteArray)) := ⟨_, rfl⟩
  obtain ⟨bm, hbm⟩ : ∃ q, Hid (q = (⟨(goInt (rs.length : Int)).toArray⟩ : ByteArray)) := ⟨_, rfl⟩
  have k1 : ∀ d os, Calls Try.prog 26 #[.int .i64 au] (grow (redrawn w0 d) os) fun e w'' => e = .returned (.string ba) ∧ ∃ p : Regrown, w'' = grow (redrawn w0 p.d) p.os := fun d os => Calls.regrown_of (by rw [hba.out]; exact refInt_any au _)
  have k2 : ∀ d os, Calls Try.prog 26 #[.int .i64 ro] (grow (redrawn w0 d) os) fun e w'' => e = .returned (.string bn) ∧ ∃ p : Regrown, w'' = grow (redrawn w0 p.d) p.os := fun d os => Calls.regrown_of (by rw [hbn.out]; exact refInt_any ro _)
  have k3 : ∀ d os, Calls Try.prog 26 #[.int .i64 (rs.length : Int)] (grow (redrawn w0 d) os) fun e w'' => e = .returned (.string bm) ∧ ∃ p : Regrown, w'' = grow (redrawn w0 p.d) p.os := fun d os => Calls.regrown_of (by rw [hbm.out]; exact refInt_any (rs.length : Int) _)
  have sa : ba.size ≤ 9 := by rw [hba.out, size_mk]; exact goInt_length _
  have sn : bn.size ≤ 9 := by rw [hbn.out, size_mk]; exact goInt_length _
  have sm : bm.size ≤ 9 := by rw [hbm.out, size_mk]; exact goInt_length _
  have C0 := cell_regrown (hX.cell (i := 0) rfl)
  have C1 := cell_regrown (hX.cell (i := 1) rfl)
  have C2 := cell_regrown (hX.cell (i := 2) rfl)
  have hp0 : Hid (ba ++ bn ++ bm = (⟨(pre 0).toArray⟩ : ByteArray)) := by
    show _ = _
    rw [H0.out, hba.out, hbn.out, hbm.out]
    apply ByteArray.ext
    simp
  clear H0
  go_enter Try.func30, Try.ntmps30
  go_wp2_with fail
  refine wp_region_quiet_below (by kernel_rfl) (by kernel_rfl) ?_
  iterate 2 (go_big_quiet_step (fail))
  go_big_quiet_step (exact k1 _ _)
  iterate 2 (go_big_quiet_step (fail))
  go_big_quiet_step (exact k2 _ _)
  iterate 4 (go_big_quiet_step (fail))
  go_big_quiet_step (exact k3 _ _)
  iterate 2 (go_big_quiet_step (fail))
  refine wpQuiet_nil ?_
  rintro w' ⟨p, rfl⟩
  have hb' := below_regrown w0 p.d p.os
  have hX1 := hX.below hb' hX.lt
  have hB1 := hB.trans (hb'.mono hB.size)
  generalize grow (redrawn w0 p.d) p.os = w1 at hX1 hB1 ⊢
  clear k1 k2 k3 C0 C1 C2 hX hB hb'
  rw [hp0.out]
  go_wp2
  go_loopw [3, 4] (fun v3 v4 wr => ∃ k : Nat, k ≤ rs.length ∧ v4 = .int .i64 (k : Int) ∧ v3 = .string ⟨(pre k).toArray⟩ ∧ Arr wr w.heap.size 30 [.int .i64 au, .int .i64 ro, .slice ra rs.length rc, .slice pa ps.length pc] ∧ Below w.heap.size w wr) (fun _ v _ => rs.length - (intOf v).toNat)
  case atStart => exact ⟨0, Nat.zero_le _, rfl, rfl, hX1, hB1⟩
  case round =>
    clear hX1 hB1 hp0 sa sn sm
    obtain ⟨k, hk, rfl, rfl, hX, hb⟩ := hrel
    have x2 := hX.cell (i := 2) rfl
    by_cases hlt : k < rs.length
    · obtain ⟨r, hr⟩ : ∃ r, rs[k]? = some r := ⟨rs[k], List.getElem?_eq_getElem hlt⟩
      obtain ⟨b, off, rfl, hbl, y0, y1⟩ := (hA1.below hb).ref hr
      have hrt := ((hA1.below hb).at_ r (List.mem_of_getElem? hr)).1
      have hs1 := HS.out k r hr
      have hlk := HL.out (k + 1)
      rw [hs1] at hlk
      simp only [List.length_append] at hlk
      have hdl : r.digest.size ≤ (txt r.digest.data.toList).length := by rw [txt, List.length_append]; simp
      have hra := HK r (List.mem_of_getElem? hr)
      have hrm := HM r (List.mem_of_getElem? hr)
      obtain ⟨b0, hb0⟩ : ∃ q, q = (⟨(pre k).toArray⟩ : ByteArray) := ⟨_, rfl⟩
      obtain ⟨b1, hb1⟩ : ∃ q, Hid (q = (⟨(txt r.digest.data.toList).toArray⟩ : ByteArray)) := ⟨_, rfl⟩
      obtain ⟨b2, hb2⟩ : ∃ q, Hid (q = (⟨(tagsB r.acks).toArray⟩ : ByteArray)) := ⟨_, rfl⟩
      have k1 : ∀ d os, Calls Try.prog 28 #[.string r.digest] (grow (redrawn wr d) os) fun e w'' => e = .returned (.string b1) ∧ ∃ p : Regrown, w'' = grow (redrawn wr p.d) p.os := fun d os => Calls.regrown_of (by rw [hb1.out]; exact refText_any r.digest _ (by omega))
      have k2 : ∀ d os, Calls Try.prog 29 #[.slice r.ao r.acks.length r.cap] (grow (redrawn wr d) os) fun e w'' => e = .returned (.string b2) ∧ ∃ p : Regrown, w'' = grow (redrawn wr p.d) p.os := fun d os => Calls.regrown_of (by
        rw [hb2.out]
        exact refTags_any r.ao r.cap r.acks _ (hrt.below (below_regrown wr d os)) hra hrm (by omega))
      have s0 : b0.size = (pre k).length := by rw [hb0, size_mk]
      have s1 : b1.size = (txt r.digest.data.toList).length := by rw [hb1.out, size_mk]
      have s2 : b2.size = (tagsB r.acks).length := by rw [hb2.out, size_mk]
      have n1 : ¬ (9223372036854775807 < b0.size + b1.size) := by omega
      have n2 : ¬ (9223372036854775807 < b0.size + b1.size + b2.size) := by omega
      have hjoin : Hid (b0 ++ b1 ++ b2 = (⟨(pre (k + 1)).toArray⟩ : ByteArray)) := by
        show _ = _
        rw [hs1, hb0, hb1.out, hb2.out]
        apply ByteArray.ext
        simp
      have C2 := cell_regrown x2
      have D0 := cell_regrown y0
      have D1 := cell_regrown y1
      rw [← hb0]
      clear hb0 s0 s1 s2 hlk hdl hs1 hr hrt hra hrm y0 y1
      go_wp2_with fail
      refine wp_region_quiet_below (by kernel_rfl) (by kernel_rfl) ?_
      iterate 7 (go_big_quiet_step (fail))
      go_big_quiet_step (exact k1 _ _)
      iterate 7 (go_big_quiet_step (fail))
      go_big_quiet_step (exact k2 _ _)
      iterate 2 (go_big_quiet_step (fail))
      refine wpQuiet_nil ?_
      rintro w' ⟨p, rfl⟩
      have hb' := below_regrown wr p.d p.os
      have hX1 := hX.below hb' hX.lt
      have hB1 := hb.trans (hb'.mono hb.size)
      generalize grow (redrawn wr p.d) p.os = w2 at hX1 hB1 ⊢
      clear k1 k2 C2 D0 D1 hX hb hb' x2
      rw [hjoin.out]
      go_wp2
      go_roundw
      case rel => exact ⟨k + 1, by omega, by go_num, rfl, hX1, hB1⟩
      case measure => simp [intOf]; omega
    · obtain rfl : k = rs.length := by omega
      have x3 := hX.cell (i := 3) rfl
      have hPz := HP.out
      have cL := refList_any pa pc ps wr (hA2.below hb).strs (by omega) (by omega)
      obtain ⟨b0, hb0⟩ : ∃ q, q = (⟨(pre rs.length).toArray⟩ : ByteArray) := ⟨_, rfl⟩
      obtain ⟨b1, hb1⟩ : ∃ q, q = (⟨(lst (bl ps)).toArray⟩ : ByteArray) := ⟨_, rfl⟩
      have n1 : ¬ (9223372036854775807 < b0.size + b1.size) := by rw [hb0, hb1, size_mk, size_mk]; omega
      have hjoin : Hid (b0 ++ b1 = out) := by
        show _ = _
        rw [hout.out, HE.out, hb0, hb1]
        apply ByteArray.ext
        simp
      rw [← hb0]
      rw [← hb1] at cL
      clear hb0 hb1 hPz
      go_wp2_with fail
      refine cL.mono ?_
      rintro e w2 ⟨rfl, hb2⟩
      have hBF := hb.trans (hb2.mono hb.size)
      clear hb2 cL hX hb x2 x3
      go_wp2
      go_ret
      exact ⟨by rw [← hjoin.out]; rfl, hBF⟩
end Go.Proofs.Ytmngiekobmhpaaa

/- What tuskref07.Encode does; nothing old in memory is turned. -/
namespace Go.Proofs.Ytmngiekobmhpaaa
open Go.RowKit Go.Sort
set_option linter.unusedVariables false

set_option maxRecDepth 100000 in
set_option maxHeartbeats 2000000 in
theorem refCertEncode_any (x : CertM) (w : World) (hA : x.At w) (hf : x.Fit) :
    Calls Try.prog 31 #[x.v] w fun e w' => e = .returned (.string ⟨(encC x.d).toArray⟩) ∧ Below w.heap.size w w' := by
  have hX := Arr.new w 33 x.c
  have hB := belowNew w (.cells x.c.toArray 33)
  have hA1 := hA.below hB
  obtain ⟨w1, hw1⟩ : ∃ q, w.alloc (.cells x.c.toArray 33) = q := ⟨_, rfl⟩
  rw [hw1] at hX hB hA1
  have bl := fun d os => below_regrown w1 d os
  have hjo := encC_join x
  have hel := hf.hdr.len
  have hvl := hf.len
  obtain ⟨eb, heb⟩ : ∃ q, q = (⟨(encH x.hdr.d).toArray⟩ : ByteArray) := ⟨_, rfl⟩
  obtain ⟨tb, htb⟩ : ∃ q, q = (⟨(txt (encH x.hdr.d)).toArray⟩ : ByteArray) := ⟨_, rfl⟩
  obtain ⟨vb, hvb⟩ : ∃ q, q = (⟨(tagsB x.votes).toArray⟩ : ByteArray) := ⟨_, rfl⟩
  obtain ⟨out, hout⟩ : ∃ q, q = (⟨(encC x.d).toArray⟩ : ByteArray) := ⟨_, rfl⟩
  have hes : eb.size ≤ 140737488355328 := by rw [heb, size_mk]; exact hel
  have htl := txt_len_le (encH x.hdr.d)
  have hts : tb.size ≤ 140737488355337 := by rw [htb, size_mk]; omega
  have hvs : vb.size ≤ 140737488355328 := by rw [hvb, size_mk]; exact hvl
  have hsum : ¬ (9223372036854775807 < tb.size + vb.size) := by omega
  have k1 : ∀ d os, Calls Try.prog 30 #[x.hdr.v] (grow (redrawn w1 d) os) fun e w'' => e = .returned (.string eb) ∧ ∃ p : Regrown, w'' = grow (redrawn w1 p.d) p.os := fun d os => Calls.regrown_of (by
    rw [heb]
    exact refHdrEncode_any x.hdr _ (hA1.below (bl d os)).hdr hf.hdr)
  have k2 : ∀ d os, Calls Try.prog 28 #[.string eb] (grow (redrawn w1 d) os) fun e w'' => e = .returned (.string tb) ∧ ∃ p : Regrown, w'' = grow (redrawn w1 p.d) p.os := fun d os => Calls.regrown_of (by
    have := refText_any eb (grow (redrawn w1 d) os) (by omega)
    have hed : eb.data.toList = encH x.hdr.d := by rw [heb]
    rw [hed, ← htb] at this
    exact this)
  have k3 : ∀ d os, Calls Try.prog 29 #[.slice x.va x.votes.length x.vc] (grow (redrawn w1 d) os) fun e w'' => e = .returned (.string vb) ∧ ∃ p : Regrown, w'' = grow (redrawn w1 p.d) p.os := fun d os => Calls.regrown_of (by
    rw [hvb]
    exact refTags_any x.va x.vc x.votes _ (hA1.below (bl d os)).votes hf.few hf.mac hf.len)
  rw [← hout, ← htb, ← hvb] at hjo
  rw [← hout]
  have Hjo : Hid (tb ++ vb = out) := hjo
  have hX0 : Arr w1 w.heap.size 33 [.int .i64 x.hdr.author, .int .i64 x.hdr.round, .slice x.hdr.ra x.hdr.refs.length x.hdr.rc, .slice x.hdr.pa x.hdr.parents.length x.hdr.pc, .slice x.va x.votes.length x.vc] := hX
  have A0 := cell_regrown (hX0.cell (i := 0) rfl)
  have A1 := cell_regrown (hX0.cell (i := 1) rfl)
  have A2 := cell_regrown (hX0.cell (i := 2) rfl)
  have A3 := cell_regrown (hX0.cell (i := 3) rfl)
  have A4 := cell_regrown (hX0.cell (i := 4) rfl)
  have HBF : Hid (∀ d os, Below w.heap.size w (grow (redrawn w1 d) os)) := fun d os => hB.trans ((bl d os).mono hB.size)
  unfold CertM.c at hw1
  unfold HdrM.v at k1
  unfold CertM.v
  clear heb htb hvb hout hjo hel hvl htl hf hA hA1 hX hX0 hB bl hes hts hvs
  go_enter Try.func31, Try.ntmps31
  go_wp2_with fail
  refine wp_region_quiet_below (by kernel_rfl) (by kernel_rfl) ?_
  iterate 2 (go_big_quiet_step (fail))
  go_big_quiet_step (exact k1 _ _)
  go_big_quiet_step (exact k2 _ _)
  iterate 2 (go_big_quiet_step (fail))
  go_big_quiet_step (exact k3 _ _)
  iterate 2 (go_big_quiet_step (fail))
  refine wpQuiet_nil ?_
  rintro w' ⟨p, rfl⟩
  have hBF := HBF.out p.d p.os
  generalize grow (redrawn w1 p.d) p.os = w6 at hBF ⊢
  clear k1 k2 k3 A0 A1 A2 A3 A4 HBF
  go_wp2
  go_ret
  exact ⟨by rw [← Hjo.out]; rfl, hBF⟩
end Go.Proofs.Ytmngiekobmhpaaa

/- What tuskref08.EncodeQc and tuskref08.Encode do; nothing old in memory is turned. -/
namespace Go.Proofs.Ytmngiekobmhpaaa
open Go.RowKit Go.Sort
set_option linter.unusedVariables false

set_option maxRecDepth 100000 in
set_option maxHeartbeats 2000000 in
theorem refEncodeQc_any (x : QcM) (w : World) (hA : x.At w) (hf : x.Enc) :
    Calls Try.prog 33 #[x.v] w fun e w' => e = .returned (.string ⟨(encQ x.d).toArray⟩) ∧ Below w.heap.size w w' := by
  have hX := Arr.new w 35 x.c
  have hB := belowNew w (.cells x.c.toArray 35)
  have hA1 := hA.below hB
  obtain ⟨w1, hw1⟩ : ∃ q, w.alloc (.cells x.c.toArray 35) = q := ⟨_, rfl⟩
  rw [hw1] at hX hB hA1
  have bl := fun d os => below_regrown w1 d os
  have hjo := encQ_join x
  have hbl := hf.blk
  have hvl := hf.len
  have hil := goInt_length x.view
  have htl := txt_len_le x.block.data.toList
  have hbz : x.block.data.toList.length = x.block.size := by simp
  obtain ⟨ib, hib⟩ : ∃ q, q = (⟨(goInt x.view).toArray⟩ : ByteArray) := ⟨_, rfl⟩
  obtain ⟨tb, htb⟩ : ∃ q, q = (⟨(txt x.block.data.toList).toArray⟩ : ByteArray) := ⟨_, rfl⟩
  obtain ⟨vb, hvb⟩ : ∃ q, q = (⟨(tagsB x.votes).toArray⟩ : ByteArray) := ⟨_, rfl⟩
  obtain ⟨out, hout⟩ : ∃ q, q = (⟨(encQ x.d).toArray⟩ : ByteArray) := ⟨_, rfl⟩
  have his : ib.size ≤ 9 := by rw [hib, size_mk]; exact hil
  have hts : tb.size ≤ 140737488351241 := by rw [htb, size_mk]; omega
  have hvs : vb.size ≤ 140737488355328 := by rw [hvb, size_mk]; exact hvl
  have hsum0 : ¬ (9223372036854775807 < ib.size + tb.size) := by omega
  have hsum : ¬ (9223372036854775807 < ib.size + tb.size + vb.size) := by omega
  have k1 : ∀ d os, Calls Try.prog 26 #[.int .i64 x.view] (grow (redrawn w1 d) os) fun e w'' => e = .returned (.string ib) ∧ ∃ p : Regrown, w'' = grow (redrawn w1 p.d) p.os := fun d os => Calls.regrown_of (by
    rw [hib]
    exact refInt_any x.view _)
  have k2 : ∀ d os, Calls Try.prog 28 #[.string x.block] (grow (redrawn w1 d) os) fun e w'' => e = .returned (.string tb) ∧ ∃ p : Regrown, w'' = grow (redrawn w1 p.d) p.os := fun d os => Calls.regrown_of (by
    rw [htb]
    exact refText_any x.block _ (by omega))
  have k3 : ∀ d os, Calls Try.prog 29 #[.slice x.va x.votes.length x.vc] (grow (redrawn w1 d) os) fun e w'' => e = .returned (.string vb) ∧ ∃ p : Regrown, w'' = grow (redrawn w1 p.d) p.os := fun d os => Calls.regrown_of (by
    rw [hvb]
    exact refTags_any x.va x.vc x.votes _ (hA1.below (bl d os)).votes hf.few hf.mac hf.len)
  rw [← hout, ← htb, ← hvb, ← hib] at hjo
  rw [← hout]
  have Hjo : Hid (ib ++ tb ++ vb = out) := hjo
  have hX0 : Arr w1 w.heap.size 35 [.int .i64 x.view, .string x.block, .slice x.va x.votes.length x.vc] := hX
  have A0 := cell_regrown (hX0.cell (i := 0) rfl)
  have A1 := cell_regrown (hX0.cell (i := 1) rfl)
  have A2 := cell_regrown (hX0.cell (i := 2) rfl)
  have HBF : Hid (∀ d os, Below w.heap.size w (grow (redrawn w1 d) os)) := fun d os => hB.trans ((bl d os).mono hB.size)
  unfold QcM.c at hw1
  unfold QcM.v
  clear hib htb hvb hout hjo hbl hvl htl hil hbz hf hA hA1 hX hX0 hB bl his hts hvs
  go_enter Try.func33, Try.ntmps33
  go_wp2_with fail
  refine wp_region_quiet_below (by kernel_rfl) (by kernel_rfl) ?_
  iterate 2 (go_big_quiet_step (fail))
  go_big_quiet_step (exact k1 _ _)
  iterate 2 (go_big_quiet_step (fail))
  go_big_quiet_step (exact k2 _ _)
  iterate 3 (go_big_quiet_step (fail))
  go_big_quiet_step (exact k3 _ _)
  iterate 2 (go_big_quiet_step (fail))
  refine wpQuiet_nil ?_
  rintro w' ⟨p, rfl⟩
  have hBF := HBF.out p.d p.os
  generalize grow (redrawn w1 p.d) p.os = w6 at hBF ⊢
  clear k1 k2 k3 A0 A1 A2 HBF
  go_wp2
  go_ret
  exact ⟨by rw [← Hjo.out]; rfl, hBF⟩

set_option maxRecDepth 100000 in
set_option maxHeartbeats 2000000 in
theorem refBlkEncode_any (x : BlkM) (w : World) (hA : x.At w) (hf : x.Enc) :
    Calls Try.prog 32 #[x.v] w fun e w' => e = .returned (.string ⟨(encK x.d).toArray⟩) ∧ Below w.heap.size w w' := by
  have hX := Arr.new w 37 x.c
  have hB := belowNew w (.cells x.c.toArray 37)
  have hA1 := hA.below hB
  obtain ⟨w1, hw1⟩ : ∃ q, w.alloc (.cells x.c.toArray 37) = q := ⟨_, rfl⟩
  rw [hw1] at hX hB hA1
  have bl' := fun d os => below_regrown w1 d os
  have hjo := encK_join x
  have hql := encQ_len x.qc hf.qc
  have hcl := hf.len
  have hil := goInt_length x.view
  have htl := txt_len_le (encQ x.qc.d)
  obtain ⟨ib, hib⟩ : ∃ q, q = (⟨(goInt x.view).toArray⟩ : ByteArray) := ⟨_, rfl⟩
  obtain ⟨qb, hqb⟩ : ∃ q, q = (⟨(encQ x.qc.d).toArray⟩ : ByteArray) := ⟨_, rfl⟩
  obtain ⟨tb, htb⟩ : ∃ q, q = (⟨(txt (encQ x.qc.d)).toArray⟩ : ByteArray) := ⟨_, rfl⟩
  obtain ⟨vb, hvb⟩ : ∃ q, q = (⟨(lst (bl x.certs)).toArray⟩ : ByteArray) := ⟨_, rfl⟩
  obtain ⟨out, hout⟩ : ∃ q, q = (⟨(encK x.d).toArray⟩ : ByteArray) := ⟨_, rfl⟩
  have his : ib.size ≤ 9 := by rw [hib, size_mk]; exact hil
  have hqs : qb.size ≤ 281474976706580 := by rw [hqb, size_mk]; exact hql
  have hts : tb.size ≤ 281474976706589 := by rw [htb, size_mk]; omega
  have hvs : vb.size ≤ 140737488355328 := by rw [hvb, size_mk]; exact hcl
  have hsum0 : ¬ (9223372036854775807 < ib.size + tb.size) := by omega
  have hsum : ¬ (9223372036854775807 < ib.size + tb.size + vb.size) := by omega
  have k1 : ∀ d os, Calls Try.prog 26 #[.int .i64 x.view] (grow (redrawn w1 d) os) fun e w'' => e = .returned (.string ib) ∧ ∃ p : Regrown, w'' = grow (redrawn w1 p.d) p.os := fun d os => Calls.regrown_of (by
    rw [hib]
    exact refInt_any x.view _)
  have k2 : ∀ d os, Calls Try.prog 33 #[x.qc.v] (grow (redrawn w1 d) os) fun e w'' => e = .returned (.string qb) ∧ ∃ p : Regrown, w'' = grow (redrawn w1 p.d) p.os := fun d os => Calls.regrown_of (by
    rw [hqb]
    exact refEncodeQc_any x.qc _ (hA1.below (bl' d os)).qc hf.qc)
  have k3 : ∀ d os, Calls Try.prog 28 #[.string qb] (grow (redrawn w1 d) os) fun e w'' => e = .returned (.string tb) ∧ ∃ p : Regrown, w'' = grow (redrawn w1 p.d) p.os := fun d os => Calls.regrown_of (by
    have := refText_any qb (grow (redrawn w1 d) os) (by omega)
    have hed : qb.data.toList = encQ x.qc.d := by rw [hqb]
    rw [hed, ← htb] at this
    exact this)
  have k4 : ∀ d os, Calls Try.prog 62 #[.slice x.ca x.certs.length x.cc] (grow (redrawn w1 d) os) fun e w'' => e = .returned (.string vb) ∧ ∃ p : Regrown, w'' = grow (redrawn w1 p.d) p.os := fun d os => Calls.regrown_of (by
    rw [hvb]
    exact refList_any x.ca x.cc x.certs _ (hA1.below (bl' d os)).certs.strs hf.len (by have := hf.few; omega))
  rw [← hout, ← htb, ← hvb, ← hib] at hjo
  rw [← hout]
  have Hjo : Hid (ib ++ tb ++ vb = out) := hjo
  have hX0 : Arr w1 w.heap.size 37 [.int .i64 x.view, .int .i64 x.qc.view, .string x.qc.block, .slice x.qc.va x.qc.votes.length x.qc.vc, .slice x.ca x.certs.length x.cc] := hX
  have A0 := cell_regrown (hX0.cell (i := 0) rfl)
  have A1 := cell_regrown (hX0.cell (i := 1) rfl)
  have A2 := cell_regrown (hX0.cell (i := 2) rfl)
  have A3 := cell_regrown (hX0.cell (i := 3) rfl)
  have A4 := cell_regrown (hX0.cell (i := 4) rfl)
  have HBF : Hid (∀ d os, Below w.heap.size w (grow (redrawn w1 d) os)) := fun d os => hB.trans ((bl' d os).mono hB.size)
  unfold BlkM.c at hw1
  unfold QcM.v at k2
  unfold BlkM.v
  clear hib hqb htb hvb hout hjo hql hcl htl hil hf hA hA1 hX hX0 hB bl' his hqs hts hvs
  go_enter Try.func32, Try.ntmps32
  go_wp2_with fail
  refine wp_region_quiet_below (by kernel_rfl) (by kernel_rfl) ?_
  iterate 2 (go_big_quiet_step (fail))
  go_big_quiet_step (exact k1 _ _)
  iterate 2 (go_big_quiet_step (fail))
  go_big_quiet_step (exact k2 _ _)
  go_big_quiet_step (exact k3 _ _)
  iterate 3 (go_big_quiet_step (fail))
  go_big_quiet_step (exact k4 _ _)
  iterate 2 (go_big_quiet_step (fail))
  refine wpQuiet_nil ?_
  rintro w' ⟨p, rfl⟩
  have hBF := HBF.out p.d p.os
  generalize grow (redrawn w1 p.d) p.os = w6 at hBF ⊢
  clear k1 k2 k3 k4 A0 A1 A2 A3 A4 HBF
  go_wp2
  go_ret
  exact ⟨by rw [← Hjo.out]; rfl, hBF⟩
end Go.Proofs.Ytmngiekobmhpaaa

/- What the reference's Encode (tuskref09) does; nothing old in memory is turned. -/
namespace Go.Proofs.Ytmngiekobmhpaaa
open Go.RowKit
set_option linter.unusedVariables false

set_option maxRecDepth 100000 in
set_option maxHeartbeats 16000000 in
theorem refMsgEncode_any (x : MsgM) (w : World) (hA : x.At w) (hn : x.Num) (hS : ∀ t ∈ x.bat.txs, TxSizes t.d) :
    Calls Try.prog 8 #[x.v] w fun e w' => e = .returned (.tuple #[.string (encMB x.d), .int .i64 (chkM x.d : Int)]) ∧ Below w.heap.size w w' := by
  obtain ⟨k, dg, vi, tg, ba, he, ce, bl, q⟩ := x
  have hX := Arr.new w 39 [.int .i64 k, .string dg, .int .i64 vi, .int .i64 tg.who, .string tg.mac, .int .i64 ba.author, .int .i64 ba.number, .slice ba.ta ba.txs.length ba.tc, .int .i64 he.author, .int .i64 he.round, .slice he.ra he.refs.length he.rc, .slice he.pa he.parents.length he.pc, .int .i64 ce.hdr.author, .int .i64 ce.hdr.round, .slice ce.hdr.ra ce.hdr.refs.length ce.hdr.rc, .slice ce.hdr.pa ce.hdr.parents.length ce.hdr.pc, .slice ce.va ce.votes.length ce.vc, .int .i64 bl.view, .int .i64 bl.qc.view, .string bl.qc.block, .slice bl.qc.va bl.qc.votes.length bl.qc.vc, .slice bl.ca bl.certs.length bl.cc, .int .i64 q.view, .string q.block, .slice q.va q.votes.length q.vc]
  have hB := belowNew w (.cells [.int .i64 k, .string dg, .int .i64 vi, .int .i64 tg.who, .string tg.mac, .int .i64 ba.author, .int .i64 ba.number, .slice ba.ta ba.txs.length ba.tc, .int .i64 he.author, .int .i64 he.round, .slice he.ra he.refs.length he.rc, .slice he.pa he.parents.length he.pc, .int .i64 ce.hdr.author, .int .i64 ce.hdr.round, .slice ce.hdr.ra ce.hdr.refs.length ce.hdr.rc, .slice ce.hdr.pa ce.hdr.parents.length ce.hdr.pc, .slice ce.va ce.votes.length ce.vc, .int .i64 bl.view, .int .i64 bl.qc.view, .string bl.qc.block, .slice bl.qc.va bl.qc.votes.length bl.qc.vc, .slice bl.ca bl.certs.length bl.cc, .int .i64 q.view, .string q.block, .slice q.va q.votes.length q.vc].toArray 39)
  have cC := fun w1 h1 => refMsgCheck_any ⟨k, dg, vi, tg, ba, he, ce, bl, q⟩ w1 h1 hn hS
  have HF : Hid (chkM (MsgM.d ⟨k, dg, vi, tg, ba, he, ce, bl, q⟩) = 0 → ∀ c ∈ fieldsK k, FieldM ⟨k, dg, vi, tg, ba, he, ce, bl, q⟩ c) := fun h => right_field (x := ⟨k, dg, vi, tg, ba, he, ce, bl, q⟩) h
  have HL : Hid (chkM (MsgM.d ⟨k, dg, vi, tg, ba, he, ce, bl, q⟩) = 0 → ∀ c ∈ fieldsK k, (fieldB (MsgM.d ⟨k, dg, vi, tg, ba, he, ce, bl, q⟩) c).length ≤ 1100000) := fun h => right_len h
  obtain ⟨er, her⟩ : ∃ n : Nat, n = chkM (MsgM.d ⟨k, dg, vi, tg, ba, he, ce, bl, q⟩) := ⟨_, rfl⟩
  obtain ⟨out, hout⟩ : ∃ o, o = encMB (MsgM.d ⟨k, dg, vi, tg, ba, he, ce, bl, q⟩) := ⟨_, rfl⟩
  have HE : Hid (out = if er = 0 then ⟨(encM (MsgM.d ⟨k, dg, vi, tg, ba, he, ce, bl, q⟩)).toArray⟩ else ⟨#[]⟩) := by
    show _ = _
    rw [hout, her]
    rfl
  rw [← her] at HF HL cC ⊢
  rw [← hout]
  have HA : Hid (MsgM.At w ⟨k, dg, vi, tg, ba, he, ce, bl, q⟩) := hA
  have HM : Hid (encM (MsgM.d ⟨k, dg, vi, tg, ba, he, ce, bl, q⟩) = goInt k ++ (fieldsK k).flatMap (fieldB (MsgM.d ⟨k, dg, vi, tg, ba, he, ce, bl, q⟩))) := rfl
  unfold MsgM.v MsgM.c at cC ⊢
  simp only at cC ⊢
  obtain ⟨w1, hw1⟩ : ∃ q', w.alloc (.cells [.int .i64 k, .string dg, .int .i64 vi, .int .i64 tg.who, .string tg.mac, .int .i64 ba.author, .int .i64 ba.number, .slice ba.ta ba.txs.length ba.tc, .int .i64 he.author, .int .i64 he.round, .slice he.ra he.refs.length he.rc, .slice he.pa he.parents.length he.pc, .int .i64 ce.hdr.author, .int .i64 ce.hdr.round, .slice ce.hdr.ra ce.hdr.refs.length ce.hdr.rc, .slice ce.hdr.pa ce.hdr.parents.length ce.hdr.pc, .slice ce.va ce.votes.length ce.vc, .int .i64 bl.view, .int .i64 bl.qc.view, .string bl.qc.block, .slice bl.qc.va bl.qc.votes.length bl.qc.vc, .slice bl.ca bl.certs.length bl.cc, .int .i64 q.view, .string q.block, .slice q.va q.votes.length q.vc].toArray 39) = q' := ⟨_, rfl⟩
  rw [hw1] at hX hB
  have cC1 := cC w1 (hA.below hB)
  clear her hout hA cC hn
  go_enter Try.func8, Try.ntmps8
  go_wp2_with (refine wpList_load_row (by rfl) 39 _ (by rfl) w.heap.size (by rfl) 39 _ (0, 0) _ hX Try.underlying39 (by rfl) infoMsg9 ?_)
  refine cC1.mono ?_
  rintro e w2 ⟨rfl, hb2⟩
  have hX2 := hX.below hb2 hX.lt
  have hB2 := hB.trans (hb2.mono hB.size)
  clear hX hB hb2 cC1 hw1
  by_cases hz : er = 0
  case neg =>
    have ho : Hid (out = ⟨#[]⟩) := by
      show _ = _
      rw [HE.out, if_neg hz]
    have hz' : ((er : Int) != 0) = true := by rw [bne_iff_ne]; omega
    clear HE HF HL hz hX2
    go_wp2
    go_ret2
    exact ⟨by rw [ho.out]; rfl, hB2⟩
  subst hz
  have ho : Hid (out = ⟨(goInt k ++ (fieldsK k).flatMap (fieldB (MsgM.d ⟨k, dg, vi, tg, ba, he, ce, bl, q⟩))).toArray⟩) := by
    show _ = _
    rw [HE.out, if_pos rfl, HM.out]
  have hfm : Hid (∀ c ∈ fieldsK k, FieldM ⟨k, dg, vi, tg, ba, he, ce, bl, q⟩ c) := HF.out rfl
  have hfl : Hid (∀ c ∈ fieldsK k, (fieldB (MsgM.d ⟨k, dg, vi, tg, ba, he, ce, bl, q⟩) c).length ≤ 1100000) := HL.out rfl
  clear HE HF HL HM
  have cF := refFields_any k
  have hkl : (fieldsS k).data.toList = fieldsK k := rfl
  obtain ⟨own, hown⟩ : ∃ o, o = fieldsS k := ⟨_, rfl⟩
  rw [← hown] at cF hkl
  have HO : Hid (own = fieldsS k) := hown
  clear hown
  have hos : own.size = (fieldsK k).length := by rw [← hkl]; rfl
  have hos3 := fieldsK_len k
  obtain ⟨ib, hib⟩ : ∃ b : ByteArray, b = ⟨(goInt k).toArray⟩ := ⟨_, rfl⟩
  have cI : ∀ w1, Calls Try.prog 26 #[.int .i64 k] w1 fun e w' => e = .returned (.string ib) ∧ Below w1.heap.size w1 w' := fun w1 => by
    rw [hib]
    exact refInt_any k w1
  have Hib : Hid (ib = ⟨(goInt k).toArray⟩) := hib
  clear hib
  have x0 := hX2.cell (i := 0) rfl
  go_wp2_with fail
  refine (cF _).mono ?_
  rintro e w3 ⟨rfl, hb3⟩
  have hX3 := hX2.below hb3 hX2.lt
  have hB3 := hB2.trans (hb3.mono hB2.size)
  clear hX2 hB2 hb3 cF x0
  have x0 := hX3.cell (i := 0) rfl
  go_wp2_with fail
  refine (cI _).mono ?_
  rintro e w4 ⟨rfl, hb4⟩
  have hX4 := hX3.below hb4 hX3.lt
  have hB4 := hB3.trans (hb4.mono hB3.size)
  clear hX3 hB3 hb4 cI x0
  go_wp2
  go_loopw [6, 7, 8, 9] (fun v6 v7 v8 v9 wr => ∃ j : Nat, j ≤ own.size ∧ v7 = .int .i64 (j : Int) ∧ v6 = .string ⟨(goInt k ++ ((fieldsK k).take j).flatMap (fieldB (MsgM.d ⟨k, dg, vi, tg, ba, he, ce, bl, q⟩))).toArray⟩ ∧ Arr wr w.heap.size 39 [.int .i64 k, .string dg, .int .i64 vi, .int .i64 tg.who, .string tg.mac, .int .i64 ba.author, .int .i64 ba.number, .slice ba.ta ba.txs.length ba.tc, .int .i64 he.author, .int .i64 he.round, .slice he.ra he.refs.length he.rc, .slice he.pa he.parents.length he.pc, .int .i64 ce.hdr.author, .int .i64 ce.hdr.round, .slice ce.hdr.ra ce.hdr.refs.length ce.hdr.rc, .slice ce.hdr.pa ce.hdr.parents.length ce.hdr.pc, .slice ce.va ce.votes.length ce.vc, .int .i64 bl.view, .int .i64 bl.qc.view, .string bl.qc.block, .slice bl.qc.va bl.qc.votes.length bl.qc.vc, .slice bl.ca bl.certs.length bl.cc, .int .i64 q.view, .string q.block, .slice q.va q.votes.length q.vc] ∧ Below w.heap.size w wr) (fun _ v _ _ _ => own.size - (intOf v).toNat)
  case atStart => exact ⟨0, Nat.zero_le _, rfl, by rw [Hib.out, List.take_zero, List.flatMap_nil, List.append_nil], hX4, hB4⟩
  case round =>
    clear hX4 hB4 Hib
    obtain ⟨j, hj8, rfl, hv6, hX, hb⟩ := hrel
    by_cases hj : j < own.size
    · have hjl : j < (fieldsK k).length := by omega
      have hel : own[j] = (fieldsK k)[j] := by
        have hown := HO.out
        subst hown
        rfl
      have hin : own[j] ∈ fieldsK k := by rw [hel]; exact List.getElem_mem hjl
      have hmem : own[j] ∈ letters := (fieldsK_letters k).2 _ hin
      have hlen : ((fieldsK k).take j).length ≤ 3 := by
        rw [List.length_take]
        omega
      have hfl1 := flat_le9 ((fieldsK k).take j) (fun c hc => hfl.out c (List.mem_of_mem_take hc))
      have hfl2 : 1100000 * ((fieldsK k).take j).length ≤ 1100000 * 3 := Nat.mul_le_mul_left _ hlen
      have hfl3 := hfl.out own[j] hin
      have hg := goInt_length k
      obtain ⟨sb, hsb⟩ : ∃ o, o = (⟨(goInt k ++ ((fieldsK k).take j).flatMap (fieldB (MsgM.d ⟨k, dg, vi, tg, ba, he, ce, bl, q⟩))).toArray⟩ : ByteArray) := ⟨_, rfl⟩
      obtain ⟨fb, hfb0⟩ : ∃ o, o = (⟨(fieldB (MsgM.d ⟨k, dg, vi, tg, ba, he, ce, bl, q⟩) own[j]).toArray⟩ : ByteArray) := ⟨_, rfl⟩
      have hfb : Hid (fb = (⟨(fieldB (MsgM.d ⟨k, dg, vi, tg, ba, he, ce, bl, q⟩) own[j]).toArray⟩ : ByteArray)) := hfb0
      clear hfb0
      have hs1 : sb.size ≤ 3300009 := by rw [hsb, size_mk, List.length_append]; omega
      have hs2 : fb.size ≤ 1100000 := by rw [hfb.out, size_mk]; exact hfl3
      have hsum : ¬ (9223372036854775807 < sb.size + fb.size) := by omega
      have hNx : Hid (sb ++ fb = (⟨(goInt k ++ ((fieldsK k).take (j + 1)).flatMap (fieldB (MsgM.d ⟨k, dg, vi, tg, ba, he, ce, bl, q⟩))).toArray⟩ : ByteArray)) := by
        show _ = _
        rw [hsb, hfb.out, append_list, List.take_succ_eq_append_getElem hjl, List.flatMap_append, ← List.append_assoc, hel]
        simp
      have hff0 := hfm.out own[j] hin
      have hM : MsgM.At wr ⟨k, dg, vi, tg, ba, he, ce, bl, q⟩ := HA.out.below hb
      rw [← hsb] at hv6
      subst hv6
      clear hfl1 hfl2 hfl3 hlen hin hg hsb hs1 hs2
      simp only [letters, List.mem_cons, List.not_mem_nil, or_false] at hmem
      rcases hmem with hc | hc | hc | hc | hc | hc | hc | hc
      · have hcn : ((own[j]).toNat : Int) = 118 := by rw [hc]; rfl
        have hff : FieldM ⟨k, dg, vi, tg, ba, he, ce, bl, q⟩ 118 := by
          have := hff0
          rw [hc] at this
          exact this
        rw [hc] at hfb
        have c1 : Calls Try.prog 26 #[.int .i64 vi] wr fun e w' => e = .returned (.string fb) ∧ Below wr.heap.size wr w' := by
          rw [hfb.out]
          exact refInt_any vi wr
        have x2 := hX.cell (i := 2) rfl
        clear hff hff0 hM hfb hel hc
        go_wp2_with fail
        refine (c1).mono ?_
        rintro e w2 ⟨rfl, hb2⟩
        have hX2 := hX.below hb2 hX.lt
        have hB2 := hb.trans (hb2.mono hb.size)
        clear hX hb hb2 x2 c1
        go_wp2
        go_roundw
        case rel => exact ⟨j + 1, by omega, by go_num, by rw [← hNx.out], hX2, hB2⟩
        case measure => simp [intOf]; omega
      · have hcn : ((own[j]).toNat : Int) = 116 := by rw [hc]; rfl
        have hff : FieldM ⟨k, dg, vi, tg, ba, he, ce, bl, q⟩ 116 := by
          have := hff0
          rw [hc] at this
          exact this
        rw [hc] at hfb
        have hft : tagOk tg := hff
        have hO := tagOne9 wr tg
        have hbn := belowNew wr (.cells #[.int .i64 tg.who, .string tg.mac] 23)
        have c1 : Calls Try.prog 29 #[.slice (some ⟨wr.heap.size, 0, none⟩) 1 1] (wr.alloc (.cells #[.int .i64 tg.who, .string tg.mac] 23)) fun e w' => e = .returned (.string fb) ∧ Below (wr.alloc (.cells #[.int .i64 tg.who, .string tg.mac] 23)).heap.size (wr.alloc (.cells #[.int .i64 tg.who, .string tg.mac] 23)) w' := by
          rw [hfb.out]
          exact refTags_any (some ⟨wr.heap.size, 0, none⟩) 1 [tg] _ hO (by simp) (fun t ht => by rw [List.mem_singleton.1 ht, hft.2.2]; decide) (by have := tagsB_fit8 (l := [tg]) (fun t ht => by rw [List.mem_singleton.1 ht]; exact hft.fit) (by simp); omega)
        have hX1 := hX.below hbn hX.lt
        have hb1 := hb.trans (hbn.mono hb.size)
        clear hO hbn hft
        have x3 := hX.cell (i := 3) rfl
        have x4 := hX.cell (i := 4) rfl
        clear hff hff0 hM hfb hel hc
        go_wp2_with fail
        refine (c1).mono ?_
        rintro e w2 ⟨rfl, hb2⟩
        have hX2 := hX1.below hb2 hX1.lt
        have hB2 := hb1.trans (hb2.mono hb1.size)
        clear hX hX1 hb hb1 hb2 x3 x4 c1
        go_wp2
        go_roundw
        case rel => exact ⟨j + 1, by omega, by go_num, by rw [← hNx.out], hX2, hB2⟩
        case measure => simp [intOf]; omega
      · have hcn : ((own[j]).toNat : Int) = 100 := by rw [hc]; rfl
        have hff : FieldM ⟨k, dg, vi, tg, ba, he, ce, bl, q⟩ 100 := by
          have := hff0
          rw [hc] at this
          exact this
        rw [hc] at hfb
        have hft : dg.size ≤ 65536 := hff
        have c1 : Calls Try.prog 28 #[.string dg] wr fun e w' => e = .returned (.string fb) ∧ Below wr.heap.size wr w' := by
          rw [hfb.out]
          exact refText_any dg wr (by omega)
        clear hft
        have x1 := hX.cell (i := 1) rfl
        clear hff hff0 hM hfb hel hc
        go_wp2_with fail
        refine (c1).mono ?_
        rintro e w2 ⟨rfl, hb2⟩
        have hX2 := hX.below hb2 hX.lt
        have hB2 := hb.trans (hb2.mono hb.size)
        clear hX hb hb2 x1 c1
        go_wp2
        go_roundw
        case rel => exact ⟨j + 1, by omega, by go_num, by rw [← hNx.out], hX2, hB2⟩
        case measure => simp [intOf]; omega
      · have hcn : ((own[j]).toNat : Int) = 98 := by rw [hc]; rfl
        have hff : FieldM ⟨k, dg, vi, tg, ba, he, ce, bl, q⟩ 98 := by
          have := hff0
          rw [hc] at this
          exact this
        rw [hc] at hfb
        have hft : checkB ba.d = 0 := hff
        have hlen := encBat_len hft
        obtain ⟨eb, heb⟩ : ∃ o, Hid (o = (⟨(encBat ba.d).toArray⟩ : ByteArray)) := ⟨_, rfl⟩
        have c1 : Calls Try.prog 27 #[.agg #[.int .i64 ba.author, .int .i64 ba.number, .slice ba.ta ba.txs.length ba.tc]] wr fun e w' => e = .returned (.tuple #[.string eb, .int .i64 0]) ∧ Below wr.heap.size wr w' := by
          have := refBatEncode_any ba.author ba.number ba.ta ba.txs ba.tc wr hM.bat.txs.txs hS
          have e1 : encBB ba.d = ⟨(encBat ba.d).toArray⟩ := if_pos hft
          have e2 : checkB ⟨ba.author, ba.number, dl ba.txs⟩ = 0 := hft
          rw [e2] at this
          rw [heb.out, ← e1]
          exact this
        have c2 : ∀ w1, Calls Try.prog 28 #[.string eb] w1 fun e w' => e = .returned (.string fb) ∧ Below w1.heap.size w1 w' := fun w1 => by
          have := refText_any eb w1 (by rw [heb.out, size_mk]; omega)
          rw [show eb.data.toList = encBat ba.d by rw [heb.out]] at this
          rw [hfb.out]
          exact this
        clear heb hlen hft
        have x5 := hX.cell (i := 5) rfl
        have x6 := hX.cell (i := 6) rfl
        have x7 := hX.cell (i := 7) rfl
        clear hff hff0 hM hfb hel hc
        go_wp2_with fail
        refine (c1).mono ?_
        rintro e w2 ⟨rfl, hb2⟩
        have hX2 := hX.below hb2 hX.lt
        have hB2 := hb.trans (hb2.mono hb.size)
        clear hX hb hb2 x5 x6 x7 c1
        go_wp2_with fail
        refine (c2 _).mono ?_
        rintro e w3 ⟨rfl, hb3⟩
        have hX3 := hX2.below hb3 hX2.lt
        have hB3 := hB2.trans (hb3.mono hB2.size)
        clear hX2 hB2 hb3  c2
        go_wp2
        go_roundw
        case rel => exact ⟨j + 1, by omega, by go_num, by rw [← hNx.out], hX3, hB3⟩
        case measure => simp [intOf]; omega
      · have hcn : ((own[j]).toNat : Int) = 104 := by rw [hc]; rfl
        have hff : FieldM ⟨k, dg, vi, tg, ba, he, ce, bl, q⟩ 104 := by
          have := hff0
          rw [hc] at this
          exact this
        rw [hc] at hfb
        have hft : he.Fit := hff
        obtain ⟨eb, heb⟩ : ∃ o, Hid (o = (⟨(encH he.d).toArray⟩ : ByteArray)) := ⟨_, rfl⟩
        have c1 : Calls Try.prog 30 #[.agg #[.int .i64 he.author, .int .i64 he.round, .slice he.ra he.refs.length he.rc, .slice he.pa he.parents.length he.pc]] wr fun e w' => e = .returned (.string eb) ∧ Below wr.heap.size wr w' := by
          rw [heb.out]
          exact refHdrEncode_any he wr hM.hdr hft
        have c2 : ∀ w1, Calls Try.prog 28 #[.string eb] w1 fun e w' => e = .returned (.string fb) ∧ Below w1.heap.size w1 w' := fun w1 => by
          have := refText_any eb w1 (by rw [heb.out, size_mk]; have := hft.len; omega)
          rw [show eb.data.toList = encH he.d by rw [heb.out]] at this
          rw [hfb.out]
          exact this
        clear heb hft
        have x8 := hX.cell (i := 8) rfl
        have x9 := hX.cell (i := 9) rfl
        have x10 := hX.cell (i := 10) rfl
        have x11 := hX.cell (i := 11) rfl
        clear hff hff0 hM hfb hel hc
        go_wp2_with fail
        refine (c1).mono ?_
        rintro e w2 ⟨rfl, hb2⟩
        have hX2 := hX.below hb2 hX.lt
        have hB2 := hb.trans (hb2.mono hb.size)
        clear hX hb hb2 x8 x9 x10 x11 c1
        go_wp2_with fail
        refine (c2 _).mono ?_
        rintro e w3 ⟨rfl, hb3⟩
        have hX3 := hX2.below hb3 hX2.lt
        have hB3 := hB2.trans (hb3.mono hB2.size)
        clear hX2 hB2 hb3  c2
        go_wp2
        go_roundw
        case rel => exact ⟨j + 1, by omega, by go_num, by rw [← hNx.out], hX3, hB3⟩
        case measure => simp [intOf]; omega
      · have hcn : ((own[j]).toNat : Int) = 99 := by rw [hc]; rfl
        have hff : FieldM ⟨k, dg, vi, tg, ba, he, ce, bl, q⟩ 99 := by
          have := hff0
          rw [hc] at this
          exact this
        rw [hc] at hfb
        have hft : ce.Fit := hff
        obtain ⟨eb, heb⟩ : ∃ o, Hid (o = (⟨(encC ce.d).toArray⟩ : ByteArray)) := ⟨_, rfl⟩
        have c1 : Calls Try.prog 31 #[.agg #[.int .i64 ce.hdr.author, .int .i64 ce.hdr.round, .slice ce.hdr.ra ce.hdr.refs.length ce.hdr.rc, .slice ce.hdr.pa ce.hdr.parents.length ce.hdr.pc, .slice ce.va ce.votes.length ce.vc]] wr fun e w' => e = .returned (.string eb) ∧ Below wr.heap.size wr w' := by
          rw [heb.out]
          exact refCertEncode_any ce wr hM.cert hft
        have c2 : ∀ w1, Calls Try.prog 28 #[.string eb] w1 fun e w' => e = .returned (.string fb) ∧ Below w1.heap.size w1 w' := fun w1 => by
          have := refText_any eb w1 (by rw [heb.out, size_mk]; have h1 := hft.hdr.len; have h2 := hft.len; have h3 := txt_len_le (encH ce.hdr.d); have e : (encC ce.d).length = (txt (encH ce.hdr.d)).length + (tagsB ce.votes).length := List.length_append; omega)
          rw [show eb.data.toList = encC ce.d by rw [heb.out]] at this
          rw [hfb.out]
          exact this
        clear heb hft
        have x12 := hX.cell (i := 12) rfl
        have x13 := hX.cell (i := 13) rfl
        have x14 := hX.cell (i := 14) rfl
        have x15 := hX.cell (i := 15) rfl
        have x16 := hX.cell (i := 16) rfl
        clear hff hff0 hM hfb hel hc
        go_wp2_with fail
        refine (c1).mono ?_
        rintro e w2 ⟨rfl, hb2⟩
        have hX2 := hX.below hb2 hX.lt
        have hB2 := hb.trans (hb2.mono hb.size)
        clear hX hb hb2 x12 x13 x14 x15 x16 c1
        go_wp2_with fail
        refine (c2 _).mono ?_
        rintro e w3 ⟨rfl, hb3⟩
        have hX3 := hX2.below hb3 hX2.lt
        have hB3 := hB2.trans (hb3.mono hB2.size)
        clear hX2 hB2 hb3  c2
        go_wp2
        go_roundw
        case rel => exact ⟨j + 1, by omega, by go_num, by rw [← hNx.out], hX3, hB3⟩
        case measure => simp [intOf]; omega
      · have hcn : ((own[j]).toNat : Int) = 107 := by rw [hc]; rfl
        have hff : FieldM ⟨k, dg, vi, tg, ba, he, ce, bl, q⟩ 107 := by
          have := hff0
          rw [hc] at this
          exact this
        rw [hc] at hfb
        have hft : bl.Enc := hff
        obtain ⟨eb, heb⟩ : ∃ o, Hid (o = (⟨(encK bl.d).toArray⟩ : ByteArray)) := ⟨_, rfl⟩
        have c1 : Calls Try.prog 32 #[.agg #[.int .i64 bl.view, .int .i64 bl.qc.view, .string bl.qc.block, .slice bl.qc.va bl.qc.votes.length bl.qc.vc, .slice bl.ca bl.certs.length bl.cc]] wr fun e w' => e = .returned (.string eb) ∧ Below wr.heap.size wr w' := by
          rw [heb.out]
          exact refBlkEncode_any bl wr hM.blk hft
        have c2 : ∀ w1, Calls Try.prog 28 #[.string eb] w1 fun e w' => e = .returned (.string fb) ∧ Below w1.heap.size w1 w' := fun w1 => by
          have := refText_any eb w1 (by rw [heb.out, size_mk]; have h1 := encQ_len bl.qc hft.qc; have h2 := hft.len; have h3 := txt_len_le (encQ bl.qc.d); have h4 := goInt_length bl.view; have e : (encK bl.d).length = (goInt bl.view ++ txt (encQ bl.qc.d)).length + (lst (Go.Proofs.Ytmngiekobmhpaaa.bl bl.certs)).length := List.length_append; rw [List.length_append] at e; omega)
          rw [show eb.data.toList = encK bl.d by rw [heb.out]] at this
          rw [hfb.out]
          exact this
        clear heb hft
        have x17 := hX.cell (i := 17) rfl
        have x18 := hX.cell (i := 18) rfl
        have x19 := hX.cell (i := 19) rfl
        have x20 := hX.cell (i := 20) rfl
        have x21 := hX.cell (i := 21) rfl
        clear hff hff0 hM hfb hel hc
        go_wp2_with fail
        refine (c1).mono ?_
        rintro e w2 ⟨rfl, hb2⟩
        have hX2 := hX.below hb2 hX.lt
        have hB2 := hb.trans (hb2.mono hb.size)
        clear hX hb hb2 x17 x18 x19 x20 x21 c1
        go_wp2_with fail
        refine (c2 _).mono ?_
        rintro e w3 ⟨rfl, hb3⟩
        have hX3 := hX2.below hb3 hX2.lt
        have hB3 := hB2.trans (hb3.mono hB2.size)
        clear hX2 hB2 hb3  c2
        go_wp2
        go_roundw
        case rel => exact ⟨j + 1, by omega, by go_num, by rw [← hNx.out], hX3, hB3⟩
        case measure => simp [intOf]; omega
      · have hcn : ((own[j]).toNat : Int) = 113 := by rw [hc]; rfl
        have hff : FieldM ⟨k, dg, vi, tg, ba, he, ce, bl, q⟩ 113 := by
          have := hff0
          rw [hc] at this
          exact this
        rw [hc] at hfb
        have hft : q.Enc := hff
        obtain ⟨eb, heb⟩ : ∃ o, Hid (o = (⟨(encQ q.d).toArray⟩ : ByteArray)) := ⟨_, rfl⟩
        have c1 : Calls Try.prog 33 #[.agg #[.int .i64 q.view, .string q.block, .slice q.va q.votes.length q.vc]] wr fun e w' => e = .returned (.string eb) ∧ Below wr.heap.size wr w' := by
          rw [heb.out]
          exact refEncodeQc_any q wr hM.qc hft
        have c2 : ∀ w1, Calls Try.prog 28 #[.string eb] w1 fun e w' => e = .returned (.string fb) ∧ Below w1.heap.size w1 w' := fun w1 => by
          have := refText_any eb w1 (by rw [heb.out, size_mk]; have h1 := encQ_len q hft; omega)
          rw [show eb.data.toList = encQ q.d by rw [heb.out]] at this
          rw [hfb.out]
          exact this
        clear heb hft
        have x22 := hX.cell (i := 22) rfl
        have x23 := hX.cell (i := 23) rfl
        have x24 := hX.cell (i := 24) rfl
        clear hff hff0 hM hfb hel hc
        go_wp2_with fail
        refine (c1).mono ?_
        rintro e w2 ⟨rfl, hb2⟩
        have hX2 := hX.below hb2 hX.lt
        have hB2 := hb.trans (hb2.mono hb.size)
        clear hX hb hb2 x22 x23 x24 c1
        go_wp2_with fail
        refine (c2 _).mono ?_
        rintro e w3 ⟨rfl, hb3⟩
        have hX3 := hX2.below hb3 hX2.lt
        have hB3 := hB2.trans (hb3.mono hB2.size)
        clear hX2 hB2 hb3  c2
        go_wp2
        go_roundw
        case rel => exact ⟨j + 1, by omega, by go_num, by rw [← hNx.out], hX3, hB3⟩
        case measure => simp [intOf]; omega
    · rw [List.take_of_length_le (by omega)] at hv6
      rw [← ho.out] at hv6
      subst hv6
      go_wp2
      go_ret2
      exact ⟨rfl, hb⟩
end Go.Proofs.Ytmngiekobmhpaaa
