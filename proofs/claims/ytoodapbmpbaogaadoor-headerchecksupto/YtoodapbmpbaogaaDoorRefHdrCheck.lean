/- What tuskref06.Rising and tuskref06.Check do; nothing old in memory is turned. -/
import Derived.Test.YtoodapbmpbaogaaDoorHdrRightMath
import Derived.Test.YtoodapbmpbaogaaDoorHdrTagsEnc
import Derived.Test.YtoodapbmpbaogaaDoorRefAuthAll
import Derived.Lib.QuietBelow
import Derived.Deep.QuietTactic
import Derived.BigQuiet
namespace Go.Proofs.YtoodapbmpbaogaaDoor
open Go.RowKit Go.Sort
set_option linter.unusedVariables false

/-- The one ahead. -/
def lastD (a : ByteArray) : List ByteArray → ByteArray
  | [] => a
  | x :: l => lastD x l

theorem lastD_snoc : ∀ (l : List ByteArray) (a k : ByteArray), lastD a (l ++ [k]) = k
  | [], _, _ => rfl
  | x :: l, a, k => lastD_snoc l x k

theorem risP_snoc : ∀ (l : List ByteArray) (a k : ByteArray), risP a l = 0 → risP a (l ++ [k]) = digE k (lastD a l)
  | [], a, k, _ => by
    rw [List.nil_append, risP, lastD]
    by_cases h : digE k a ≠ 0
    · rw [if_pos h]
    · rw [if_neg h, risP]; omega
  | x :: l, a, k, h => by
    rw [risP] at h
    by_cases hd : digE x a ≠ 0
    · rw [if_pos hd] at h; omega
    · rw [if_neg hd] at h
      rw [List.cons_append, risP, if_neg hd, lastD]
      exact risP_snoc l x k h

/-- The one ahead of the i-th. -/
def aheadOf (l : List ByteArray) (i : Nat) : ByteArray := if i = 0 then ⟨#[]⟩ else l.getD (i - 1) ⟨#[]⟩

set_option maxRecDepth 100000 in
set_option maxHeartbeats 1000000 in
theorem refRising_any (ao : Option Addr) (cap : Nat) (l : List ByteArray) (w : World) (hA : RowAt strK w ao l) (hn : l.length ≤ maxLen) :
    Calls Tryd.prog 75 #[.slice ao l.length cap] w fun e w' => e = .returned (.int .i64 (risP ⟨#[]⟩ l : Int)) ∧ Below w.heap.size w w' := by
  obtain ⟨res, hres⟩ : ∃ z, Hid (z = risP ⟨#[]⟩ l) := ⟨_, rfl⟩
  rw [← hres.out]
  unfold maxLen at hn
  go_enter Tryd.func75, Tryd.ntmps75
  go_wp2
  go_loopw [3] (fun v3 wr => ∃ i : Nat, i ≤ l.length ∧ v3 = .int .i64 (i : Int) ∧ Below w.heap.size w wr ∧ Hid (res = risP (aheadOf l i) (l.drop i))) (fun v _ => l.length - (intOf v).toNat)
  case atStart => exact ⟨0, Nat.zero_le _, rfl, Below.refl _ _, hres⟩
  case round =>
    obtain ⟨i, hil, rfl, hb, HR⟩ := hrel
    by_cases hlt : i < l.length
    · obtain ⟨b, off, rfl, hbl, hc⟩ := (hA.below hb).strs i hlt
      have hnx := risP_next (a := aheadOf l i) (List.getElem?_eq_getElem hlt)
      have HR2 := HR.out.trans hnx
      have hnext : aheadOf l (i + 1) = l[i] := by
        unfold aheadOf
        rw [if_neg (by omega), Nat.add_sub_cancel]
        simp [List.getD, hlt]
      rw [← hnext] at HR2
      clear hnx HR
      have hcp : 0 < i → (wr.cell? ⟨b, off + (i - 1), none⟩ = some (.string (aheadOf l i)) ∧ ((i : Int) - 1 = ((i - 1 : Nat) : Int))) := by
        intro h0
        obtain ⟨b', off', e, hbl', hc'⟩ := (hA.below hb).strs (i - 1) (by omega)
        simp at e
        obtain ⟨rfl, rfl⟩ := e
        refine ⟨?_, by omega⟩
        rw [hc']
        unfold aheadOf
        rw [if_neg (by omega)]
        simp [List.getD, (show i - 1 < l.length by omega)]
      have ha0 : i = 0 → aheadOf l i = ⟨#[]⟩ := fun h => if_pos h
      obtain ⟨k, hk⟩ : ∃ k, k = l[i] := ⟨_, rfl⟩
      rw [hnext, ← hk] at HR2
      rw [← hk] at hc hnext
      obtain ⟨pa, hpa⟩ : ∃ q, q = aheadOf l i := ⟨_, rfl⟩
      rw [← hpa] at HR2 hcp ha0
      clear hk hpa
      have Hnext : Hid (aheadOf l (i + 1) = k) := hnext
      clear hnext
      by_cases hs : k.size ≠ 32
      · have hd : digE k pa = 3 := if_pos hs
        rw [hd, if_pos (by decide)] at HR2
        have HF : Hid (res = 3) := HR2
        have hne : ((k.size : Int) != 32) = true := by rw [bne_iff_ne]; omega
        clear HR2 hd hcp ha0
        go_wp2
        go_ret
        exact ⟨by rw [HF.out]; rfl, hb⟩
      have hse : ((k.size : Int) != 32) = false := by rw [bne_eq_false_iff_eq]; omega
      by_cases h0 : i = 0
      · have hpe := ha0 h0
        subst h0
        have hd : digE k pa = 0 := by unfold digE; rw [if_neg hs, if_neg (by rw [hpe, leB_nil (by omega)]; simp)]
        rw [hd, if_neg (by simp)] at HR2
        have HF : Hid (res = risP (aheadOf l (0 + 1)) (l.drop (0 + 1))) := by rw [Hnext.out]; exact HR2
        rw [Nat.add_zero] at hc
        clear HR2 hd hcp ha0 hpe hs
        go_wp2_with fail
        go_big_quiet (fail)
        have hb2 := below_drewN hb nq
        clear hb hc
        generalize wr.drewN nq = w1 at *
        go_wp2
        go_roundw
        case rel => exact ⟨0 + 1, by omega, by go_num, hb2, HF⟩
        case measure => simp [intOf]; omega
      · obtain ⟨hc1, hi1⟩ := hcp (by omega)
        have hi0 : (0 : Int) < (i : Int) := by omega
        have hi2 : i - 1 < l.length := by omega
        have dn : decide (0 < i) = true := decide_eq_true (by omega)
        clear hcp ha0
        obtain ⟨i1, hi1e⟩ : ∃ q, q = i - 1 := ⟨_, rfl⟩
        rw [← hi1e] at hc1 hi1 hi2
        cases hl : leB k pa with
        | true =>
          have hd : digE k pa = 9 := by unfold digE; rw [if_neg hs, if_pos hl]
          rw [hd, if_pos (by decide)] at HR2
          have HF : Hid (res = 9) := HR2
          have hl' : (Op.bytesLess k.toList pa.toList || k.toList == pa.toList) = true := hl
          clear HR2 hd hl hi1e hs
          go_wp2_with fail
          go_big_quiet (fail)
          have hb2 := below_drewN hb nq
          clear hb hc hc1
          generalize wr.drewN nq = w1 at *
          go_wp2
          go_ret
          exact ⟨by rw [HF.out]; rfl, hb2⟩
        | false =>
          have hd : digE k pa = 0 := by unfold digE; rw [if_neg hs, if_neg (by rw [hl]; simp)]
          rw [hd, if_neg (by simp)] at HR2
          have HF : Hid (res = risP (aheadOf l (i + 1)) (l.drop (i + 1))) := by rw [Hnext.out]; exact HR2
          have hl' : (Op.bytesLess k.toList pa.toList || k.toList == pa.toList) = false := hl
          clear HR2 hd hl hi1e hs
          go_wp2_with fail
          go_big_quiet (fail)
          have hb2 := below_drewN hb nq
          clear hb hc hc1
          generalize wr.drewN nq = w1 at *
          go_wp2
          go_roundw
          case rel => exact ⟨i + 1, by omega, by go_num, hb2, HF⟩
          case measure => simp [intOf]; omega
    · have HF : Hid (res = 0) := by
        have := HR.out
        rw [List.drop_eq_nil_of_le (by omega), risP] at this
        exact this
      clear HR
      go_wp2
      go_ret
      exact ⟨by rw [HF.out]; rfl, hb⟩

/-- The digests of Refs. -/
def digs (l : List RefM) : List ByteArray := l.map RefM.digest

theorem digs_take_succ (l : List RefM) (k : Nat) (x : RefM) (h : l[k]? = some x) : digs (l.take (k + 1)) = digs (l.take k) ++ [x.digest] := by
  have hk := (List.getElem?_eq_some_iff.1 h).1
  have he := (List.getElem?_eq_some_iff.1 h).2
  rw [List.take_succ_eq_append_getElem hk, he]
  simp [digs]

set_option maxRecDepth 100000 in
set_option maxHeartbeats 4000000 in
theorem refHdrCheck_any (tb f : Nat) (ks : List ByteArray) (x : HdrM) (w : World) (hT : Mx.TabAt w tb f ks) (hf : f ≤ 2) (hkl : ks.length = 3 * f + 1) (hks : ∀ k ∈ ks, k.size ≤ 32) (hA : x.At w) (hlm : ∀ r ∈ x.refs, r.acks.length ≤ maxLen) (hpm : x.parents.length ≤ maxLen) (hG : Mx.Glob w) :
    Calls Tryd.prog 36 #[.pointer (some ⟨tb, 0, none⟩), x.v] w fun e w' => e = .returned (.int .i64 (chkH (3 * f + 1) (2 * f + 1) (enT ks f) x.d : Int)) ∧ Below w.heap.size w w' := by
  obtain ⟨au, ro, ra, rs, rc, pa, ps, pc⟩ := x
  have hA1 : RowAt refK w ra rs := hA.refs
  have hA2 : RowAt strK w pa ps := hA.ps
  obtain ⟨i0, hi, hz0, hz1, hz2⟩ := info_parts infoString
  have hX := Arr.new w 66 [.int .i64 au, .int .i64 ro, .slice ra rs.length rc, .slice pa ps.length pc]
  have hB := belowNew w (.cells #[.int .i64 au, .int .i64 ro, .slice ra rs.length rc, .slice pa ps.length pc] 66)
  obtain ⟨res, hres⟩ : ∃ z, Hid (z = chkH (3 * f + 1) (2 * f + 1) (enT ks f) (HdrM.d ⟨au, ro, ra, rs, rc, pa, ps, pc⟩)) := ⟨_, rfl⟩
  rw [← hres.out]
  have HR : Hid (res = if au < 0 ∨ ((3 * f + 1 : Nat) : Int) ≤ au ∨ ro < 1 ∨ 4611686018427387903 < ro then 2 else if 4 < rs.length then 8 else if refP (enT ks f) ⟨#[]⟩ (rd rs) ≠ 0 then refP (enT ks f) ⟨#[]⟩ (rd rs) else if risP ⟨#[]⟩ ps ≠ 0 then risP ⟨#[]⟩ ps else countE (3 * f + 1) (2 * f + 1) ro ps.length) := by
    have := hres.out
    simp only [chkH, HdrM.d, rd_length] at this
    exact this
  have hlm' : ∀ r ∈ rs, r.acks.length ≤ maxLen := hlm
  have hpm' : ps.length ≤ maxLen := hpm
  have hT1 := hT.below hB
  have hG1 := hG.below hB
  unfold HdrM.v
  simp only
  obtain ⟨w0, hw0⟩ : ∃ q, w.alloc (.cells #[.int .i64 au, .int .i64 ro, .slice ra rs.length rc, .slice pa ps.length pc] 66) = q := ⟨_, rfl⟩
  rw [hw0] at hX hB hT1 hG1
  have x0 := hX.cell (i := 0) rfl
  have x1 := hX.cell (i := 1) rfl
  obtain ⟨nn, hnn⟩ : ∃ z, Hid (z = 3 * f + 1) := ⟨_, rfl⟩
  obtain ⟨nd, hnd⟩ : ∃ z, Hid (z = 2 * f + 1) := ⟨_, rfl⟩
  have cN : ∀ (v : World) (hv : Mx.TabAt v tb f ks), ∀ m, Calls Tryd.prog 74 #[.pointer (some ⟨tb, 0, none⟩)] (v.drewN m) fun e w' => e = .returned (.int .i64 (nn : Int)) ∧ w' = v.drewN m := fun v hv m => by
    rw [hnn.out]
    exact Mx.refN_any tb f ks _ (hv.below (below_drewN (Below.refl _ _) m)) hf
  have cD : ∀ (v : World) (hv : Mx.TabAt v tb f ks), ∀ m, Calls Tryd.prog 76 #[.pointer (some ⟨tb, 0, none⟩)] (v.drewN m) fun e w' => e = .returned (.int .i64 (nd : Int)) ∧ w' = v.drewN m := fun v hv m => by
    rw [hnd.out]
    exact Mx.refNeed_any tb f ks _ (hv.below (below_drewN (Below.refl _ _) m)) hf
  have cN1 := cN w0 hT1
  have hTw : Hid (Mx.TabAt w tb f ks) := hT
  have hGw : Hid (Mx.Glob w) := hG
  have hkl' : Hid (ks.length = 3 * f + 1) := hkl
  clear hA hlm hpm hT hG hres hkl
  go_enter Tryd.func36, Tryd.ntmps36
  go_wp2_with fail
  by_cases h1 : au < 0
  · have HF : Hid (res = 2) := HR.out.trans (if_pos (Or.inl h1))
    clear HR
    go_big_quiet (fail)
    have hBF := below_drewN hB nq
    clear hX hB hT1 hG1 x0 x1
    go_wp2
    go_ret
    exact ⟨by rw [HF.out]; rfl, hBF⟩
  have d1 : decide (au < 0) = false := decide_eq_false h1
  by_cases h2 : (nn : Int) ≤ au
  · have HF : Hid (res = 2) := HR.out.trans (if_pos (Or.inr (Or.inl (by rw [← hnn.out]; exact h2))))
    clear HR
    go_big_quiet (exact Calls.quiet_of_same (cN1 _))
    have hBF := below_drewN hB nq
    clear hX hB hT1 hG1 x0 x1
    go_wp2
    go_ret
    exact ⟨by rw [HF.out]; rfl, hBF⟩
  have d2 : decide ((nn : Int) ≤ au) = false := decide_eq_false h2
  by_cases h3 : ro < 1
  · have HF : Hid (res = 2) := HR.out.trans (if_pos (Or.inr (Or.inr (Or.inl h3))))
    clear HR
    go_big_quiet (exact Calls.quiet_of_same (cN1 _))
    have hBF := below_drewN hB nq
    clear hX hB hT1 hG1 x0 x1
    go_wp2
    go_ret
    exact ⟨by rw [HF.out]; rfl, hBF⟩
  have d3 : decide (ro < 1) = false := decide_eq_false h3
  by_cases h4 : 4611686018427387903 < ro
  · have HF : Hid (res = 2) := HR.out.trans (if_pos (Or.inr (Or.inr (Or.inr h4))))
    clear HR
    go_big_quiet (exact Calls.quiet_of_same (cN1 _))
    have hBF := below_drewN hB nq
    clear hX hB hT1 hG1 x0 x1
    go_wp2
    go_ret
    exact ⟨by rw [HF.out]; rfl, hBF⟩
  have d4 : decide (4611686018427387903 < ro) = false := decide_eq_false h4
  have HR2 := HR.out.trans (if_neg (fun h => h.elim h1 (fun h => h.elim (fun h => h2 (by rw [hnn.out]; exact h)) (fun h => h.elim h3 h4))))
  replace HR : Hid (res = _) := HR2
  clear HR2
  go_big_quiet (exact Calls.quiet_of_same (cN1 _))
  have hbq := below_drewN (Below.refl w0.heap.size w0) nq
  have hX2 := hX.below hbq hX.lt
  have hB2 := hB.trans (hbq.mono hB.size)
  generalize w0.drewN nq = w1 at *
  clear hX hB hT1 hG1 x0 x1 hbq cN1
  have x2 := hX2.cell (i := 2) rfl
  by_cases h5 : 4 < rs.length
  · have h5' : (4 : Int) < (rs.length : Int) := by omega
    have HF : Hid (res = 8) := HR.out.trans (if_pos h5)
    clear HR
    go_wp2
    go_ret
    exact ⟨by rw [HF.out]; rfl, hB2⟩
  have h5' : ¬ (4 : Int) < (rs.length : Int) := by omega
  have HR2 := HR.out.trans (if_neg h5)
  replace HR : Hid (res = _) := HR2
  clear HR2
  have hbz := hB2.size
  have hxl := hX2.lt
  go_wp2
  go_loopw [5, 6, 7] (fun v5 v6 v7 wr => ∃ (i : Nat), i ≤ rs.length ∧ v6 = .int .i64 (i : Int) ∧ KQ strK 9 wr (w.heap.size + 1) v5 (digs (rs.take i)) ∧ Arr wr w.heap.size 66 [.int .i64 au, .int .i64 ro, .slice ra rs.length rc, .slice pa ps.length pc] ∧ Below w.heap.size w wr ∧ Hid (risP ⟨#[]⟩ (digs (rs.take i)) = 0 ∧ refP (enT ks f) ⟨#[]⟩ (rd rs) = refP (enT ks f) (lastD ⟨#[]⟩ (digs (rs.take i))) (rd (rs.drop i)))) (fun _ v _ _ => rs.length - (intOf v).toNat)
  case atStart => exact ⟨0, Nat.zero_le _, rfl, KQ.empty _ _ _ _, hX2, hB2, ⟨rfl, rfl⟩⟩
  case round =>
    clear hX2 hB2 x2 hbz hxl
    obtain ⟨i, hil, rfl, hq, hX, hb, HI⟩ := hrel
    have x2 := hX.cell (i := 2) rfl
    by_cases hlt : i < rs.length
    · obtain ⟨r, hr⟩ : ∃ r, rs[i]? = some r := ⟨rs[i], List.getElem?_eq_getElem hlt⟩
      obtain ⟨b, off, rfl, hbl, y0, y1⟩ := (hA1.below hb).ref hr
      have hml := hlm' r (List.mem_of_getElem? hr)
      have HMem : Hid (r ∈ rs) := List.mem_of_getElem? hr
      have hds := digs_take_succ rs i r hr
      have hnx := HI.out.2.trans (refP_next hr)
      have hrs := risP_snoc _ _ r.digest HI.out.1
      rw [← hds] at hrs
      have Hnx : Hid (refP (enT ks f) ⟨#[]⟩ (rd rs) = _) := hnx
      have Hrs : Hid (risP ⟨#[]⟩ (digs (rs.take (i + 1))) = _) := hrs
      have hdl : (digs (rs.take i)).length = i := by simp [digs]; omega
      have hdl1 : (digs (rs.take (i + 1))).length = i + 1 := by simp [digs]; omega
      have Hlast : Hid (lastD ⟨#[]⟩ (digs (rs.take (i + 1))) = r.digest) := by show _ = _; rw [hds, lastD_snoc]
      obtain ⟨qa, qc, rfl, hqn, _⟩ := hq.form
      rw [hdl] at hq ⊢
      have Hds : Hid (digs (rs.take (i + 1)) = digs (rs.take i) ++ [r.digest]) := hds
      obtain ⟨dl, hdle⟩ : ∃ q, q = digs (rs.take i) := ⟨_, rfl⟩
      rw [← hdle] at hq hdl Hds Hrs Hnx
      obtain ⟨dl1, hdle1⟩ : ∃ q, q = digs (rs.take (i + 1)) := ⟨_, rfl⟩
      rw [← hdle1] at hdl1 Hds Hrs Hlast
      have Hdle1 : Hid (dl1 = digs (rs.take (i + 1))) := hdle1
      have Hr : Hid (rs[i]? = some r) := hr
      clear hdle hdle1
      have hbx := belowNew wr (.cells #[.string r.digest] 9)
      have hq2 := hq.below hbx
      have hN := new_str wr r.digest
      have hX2 := hX.below hbx hX.lt
      have hb2 := hb.trans (hbx.mono hb.size)
      have hbs : w.heap.size + 1 ≤ (wr.alloc (.cells #[.string r.digest] 9)).heap.size := hX2.lt
      clear hr hds hnx hrs HI hq hX hbx hb
      go_wp2_with (at_builtin; refine wpList_push (K := strK) rfl _ _ 25 rfl (w.heap.size + 1) 9 i0 (.string ⟨#[]⟩) 16 Tryd.underlying25 hi hz0 hz1 hz2 rfl _ dl rfl hq2 r.digest trivial (fun _ h => h.elim) ⟨wr.heap.size, 0, none⟩ 1 rfl hN ?c3 ?c4 hbs ?_)
      case c3 => rw [hdl]; unfold maxLen; omega
      case c4 => rw [hdl]; omega
      intro ao' cap' w2 hq3 hk3
      have hX3 := hX2.kept hk3 (fun e => by have := (hq2.lt _ e).1; omega)
      have hb3 : Below w.heap.size w w2 := hb2.trans (hk3.below hb2.size (fun j hj => by have := (hq2.lt j hj).1; omega))
      rw [← Hds.out] at hq3
      obtain ⟨qa3, qc3, he3, _, hqt3⟩ := hq3.form
      simp only [Value.slice.injEq] at he3
      obtain ⟨rfl, hqq, rfl⟩ := he3
      clear hqq
      have cR := refRising_any ao' cap' dl1 w2 hqt3 (by rw [hdl1]; unfold maxLen; omega)
      rw [hdl1] at cR
      clear hq2 hX2 hb2 hN hbs hk3 hqt3 y0 y1 x2
      have x2 := hX3.cell (i := 2) rfl
      obtain ⟨b', off', e', hbl', y0, y1⟩ := (hA1.below hb3).ref Hr.out
      simp at e'
      obtain ⟨rfl, rfl⟩ := e'
      clear hdl hdl1
      have hxt := ((hA1.below hb3).at_ r HMem.out).1
      by_cases hd : digE r.digest (lastD ⟨#[]⟩ dl) ≠ 0
      · have hrv : risP ⟨#[]⟩ dl1 = digE r.digest (lastD ⟨#[]⟩ dl) := Hrs.out
        have hrf := Hnx.out.trans (if_pos hd)
        have HF : Hid (res = digE r.digest (lastD ⟨#[]⟩ dl)) := by
          have := HR.out
          rw [hrf, if_pos hd] at this
          exact this
        rw [hrv] at cR
        generalize digE r.digest (lastD ⟨#[]⟩ dl) = de at *
        have hne : ((de : Int) != 0) = true := by rw [bne_iff_ne]; omega
        have hne2 : ((de : Int) == 0) = false := beq_eq_false_iff_ne.2 (by omega)
        clear hrv hrf HR Hrs Hnx
        go_wp2_with fail
        refine cR.mono ?_
        rintro e w3 ⟨rfl, hb4⟩
        have hb5 := hb3.trans (hb4.mono hb3.size)
        clear hb4 cR hX3 hb3 hq3 y0 y1 x2
        go_wp2
        go_ret
        exact ⟨by rw [HF.out]; rfl, hb5⟩
      have hd0 : digE r.digest (lastD ⟨#[]⟩ dl) = 0 := by omega
      have hds2 : r.digest.size = 32 := (digE_zero hd0).1
      have hrv : risP ⟨#[]⟩ dl1 = 0 := Hrs.out.trans hd0
      rw [hrv] at cR
      have hnx2 := Hnx.out.trans (if_neg hd)
      have Hnx2 : Hid (refP (enT ks f) ⟨#[]⟩ (rd rs) = _) := hnx2
      have Hrv : Hid (risP ⟨#[]⟩ dl1 = 0) := hrv
      clear hd hd0 hrv hnx2 Hnx Hrs
      go_wp2_with fail
      refine cR.mono ?_
      rintro e w3 ⟨rfl, hb4⟩
      have hb5 := hb3.trans (hb4.mono hb3.size)
      have hX4 := hX3.below hb4 hX3.lt
      have hq4 := hq3.below hb4
      have hxt4 := hxt.below hb4
      have z0 : w3.cell? ⟨b, off + i * 2, none⟩ = some (.string r.digest) := (hb4.cell (p := ⟨b, off + i * 2, none⟩) hbl').trans y0
      have z1 : w3.cell? ⟨b, off + i * 2 + 1, none⟩ = some (.slice r.ao r.acks.length r.cap) := (hb4.cell (p := ⟨b, off + i * 2 + 1, none⟩) hbl').trans y1
      have hT4 := hTw.out.below hb5
      have hG4 := hGw.out.below hb5
      clear hb4 cR hX3 hb3 hq3 y0 y1 x2 hxt
      have x2 := hX4.cell (i := 2) rfl
      obtain ⟨en, hen⟩ : ∃ q, Hid (q = enT ks f r.acks r.digest) := ⟨_, rfl⟩
      have k1 : ∀ d os, Calls Tryd.prog 50 #[.pointer (some ⟨tb, 0, none⟩), .slice r.ao r.acks.length r.cap, .string ⟨#[97, 99, 107]⟩, .string r.digest] (grow (redrawn w3 d) os) fun e w'' => e = .returned (.int .i64 (en : Int)) ∧ ∃ p : Regrown, w'' = grow (redrawn w3 p.d) p.os := fun d os => Calls.regrown_of (by
        have h := Mx.refEnough_any tb f ks r.ao r.cap (pairT r.acks) ackW r.digest (grow (redrawn w3 d) os) (hT4.below (below_regrown w3 d os)) hf hkl'.out hks (hxt4.below (below_regrown w3 d os)).pairs (by rw [pairT_length]; exact hml) (by decide) (by omega) (hG4.below (below_regrown w3 d os))
        rw [pairT_length] at h
        rw [hen.out]
        exact h)
      have C2 := cell_regrown x2
      have D0 := cell_regrown z0
      have D1 := cell_regrown z1
      clear hT4 hG4 hxt4 z0 z1 hml
      go_wp2_with fail
      refine wp_region_quiet_below (by kernel_rfl) (by kernel_rfl) ?_
      iterate 13 (go_big_quiet_step (fail))
      go_big_quiet_step (exact k1 _ _)
      iterate 1 (go_big_quiet_step (fail))
      refine wpQuiet_nil ?_
      rintro w' ⟨p, rfl⟩
      have hb' := below_regrown w3 p.d p.os
      have hX5 := hX4.below hb' hX4.lt
      have hq5 := hq4.below hb'
      have hB5 := hb5.trans (hb'.mono hb5.size)
      generalize grow (redrawn w3 p.d) p.os = w4 at hX5 hB5 hq5 ⊢
      clear k1 C2 D0 D1 hX4 hb5 hb' x2 hq4
      by_cases he : en ≠ 0
      · have hne : ((en : Int) != 0) = true := by rw [bne_iff_ne]; omega
        have hee : enT ks f r.acks r.digest ≠ 0 := by rw [← hen.out]; exact he
        have HF : Hid (res = en) := by
          have hrf := Hnx2.out.trans (if_pos hee)
          have := HR.out
          rw [hrf, if_pos hee] at this
          rw [hen.out]
          exact this
        clear HR Hnx2 hee
        go_wp2
        go_ret
        exact ⟨by rw [HF.out]; rfl, hB5⟩
      · have hen0 : en = 0 := by omega
        subst hen0
        have hee : ¬ enT ks f r.acks r.digest ≠ 0 := by rw [← hen.out]; simp
        have HI2 : Hid (risP ⟨#[]⟩ (digs (rs.take (i + 1))) = 0 ∧ refP (enT ks f) ⟨#[]⟩ (rd rs) = refP (enT ks f) (lastD ⟨#[]⟩ (digs (rs.take (i + 1)))) (rd (rs.drop (i + 1)))) := by
          rw [← Hdle1.out]
          refine ⟨Hrv.out, ?_⟩
          rw [Hlast.out]
          exact Hnx2.out.trans (if_neg hee)
        rw [Hdle1.out] at hq5
        clear Hnx2 hee hen
        go_wp2
        go_roundw
        case rel => exact ⟨i + 1, by omega, by go_num, hq5, hX5, hB5, HI2⟩
        case measure => simp [intOf]; omega
    · have hrz : refP (enT ks f) ⟨#[]⟩ (rd rs) = 0 := by
        have := HI.out.2
        rw [List.drop_eq_nil_of_le (by omega)] at this
        exact this
      have HR2 := HR.out
      rw [hrz, if_neg (by simp)] at HR2
      have H2 : Hid (res = _) := HR2
      have x3 := hX.cell (i := 3) rfl
      have x1 := hX.cell (i := 1) rfl
      have cP := refRising_any pa pc ps wr (hA2.below hb) hpm'
      clear HR HR2 hrz HI hq
      by_cases h7 : risP ⟨#[]⟩ ps ≠ 0
      · have HF : Hid (res = risP ⟨#[]⟩ ps) := H2.out.trans (if_pos h7)
        have hne : ((risP ⟨#[]⟩ ps : Int) != 0) = true := by rw [bne_iff_ne]; omega
        clear H2
        generalize risP ⟨#[]⟩ ps = de at *
        go_wp2_with fail
        refine cP.mono ?_
        rintro e w3 ⟨rfl, hb3⟩
        have hb4 := hb.trans (hb3.mono hb.size)
        clear cP hb3 hX x1 x2 x3 hb
        go_wp2
        go_ret
        exact ⟨by rw [HF.out]; rfl, hb4⟩
      have H3 : Hid (res = countE (3 * f + 1) (2 * f + 1) ro ps.length) := H2.out.trans (if_neg h7)
      have h70 : risP ⟨#[]⟩ ps = 0 := by omega
      rw [h70] at cP
      clear H2 h7 h70
      go_wp2_with fail
      refine cP.mono ?_
      rintro e w3 ⟨rfl, hb3⟩
      have hb4 := hb.trans (hb3.mono hb.size)
      have hX4 := hX.below hb3 hX.lt
      have hT4 := hTw.out.below hb4
      have cN4 := cN w3 hT4
      have cD4 := cD w3 hT4
      clear cP hb3 hX x1 x2 x3 hb
      have x1 := hX4.cell (i := 1) rfl
      have x3 := hX4.cell (i := 3) rfl
      unfold countE at H3
      rw [← hnn.out, ← hnd.out] at H3
      unfold maxLen at hpm'
      by_cases k1 : ro = 1
      · subst k1
        by_cases k2 : 0 < ps.length
        · have k2' : (0 : Int) < (ps.length : Int) := by omega
          have HF : Hid (res = 3) := H3.out.trans (if_pos ⟨rfl, k2⟩)
          clear H3
          go_wp2
          go_ret
          exact ⟨by rw [HF.out]; rfl, hb4⟩
        · have k3 : ps.length = 0 := by omega
          have HF : Hid (res = 0) := by
            have := H3.out
            rw [if_neg (fun h => k2 h.2), if_neg (fun h => by omega), if_neg (by omega)] at this
            exact this
          have k2' : ¬ (0 : Int) < (ps.length : Int) := by omega
          have k4 : ¬ ((nn : Int) < (ps.length : Int)) := by omega
          have k4' : ¬ (nn < ps.length) := by omega
          clear H3 k2 k3
          go_wp2_with fail
          go_big_quiet (fail)
          have hbq := below_drewN (Below.refl w3.heap.size w3) nq
          have hX5 := hX4.below hbq hX4.lt
          have hB5 := hb4.trans (hbq.mono hb4.size)
          have hT5 := hT4.below hbq
          generalize w3.drewN nq = w4 at *
          have cN5 := cN w4 hT5
          clear hX4 hb4 hT4 cN4 cD4 x1 x3 cN cD hbq
          have x3 := hX5.cell (i := 3) rfl
          go_wp2_with fail
          go_big_quiet (exact Calls.quiet_of_same (cN5 _))
          have hBF := below_drewN hB5 nq
          clear hX5 hB5 hT5 cN5 x3
          go_wp2
          go_ret
          exact ⟨by rw [HF.out]; rfl, hBF⟩
      · have k1' : (ro == 1) = false := beq_eq_false_iff_ne.2 k1
        have k5 : 1 < ro := by omega
        have dk5 : decide (1 < ro) = true := decide_eq_true k5
        by_cases k6 : ps.length < nd
        · have k6' : (ps.length : Int) < (nd : Int) := by omega
          have HF : Hid (res = 12) := by
            have := H3.out
            rw [if_neg (fun h => k1 h.1), if_pos ⟨k5, k6⟩] at this
            exact this
          clear H3 k1
          go_wp2_with fail
          go_big_quiet (exact Calls.quiet_of_same (cD4 _))
          have hBF := below_drewN hb4 nq
          clear hX4 hb4 hT4 cN4 cD4 x1 x3 cN cD
          go_wp2
          go_ret
          exact ⟨by rw [HF.out]; rfl, hBF⟩
        · have k6' : ¬ (ps.length : Int) < (nd : Int) := by omega
          by_cases k7 : nn < ps.length
          · have k7' : (nn : Int) < (ps.length : Int) := by omega
            have HF : Hid (res = 8) := by
              have := H3.out
              rw [if_neg (fun h => k1 h.1), if_neg (fun h => k6 h.2), if_pos k7] at this
              exact this
            clear H3 k1
            go_wp2_with fail
            go_big_quiet (exact Calls.quiet_of_same (cD4 _))
            have hbq := below_drewN (Below.refl w3.heap.size w3) nq
            have hX5 := hX4.below hbq hX4.lt
            have hB5 := hb4.trans (hbq.mono hb4.size)
            have hT5 := hT4.below hbq
            generalize w3.drewN nq = w4 at *
            have cN5 := cN w4 hT5
            clear hX4 hb4 hT4 cN4 cD4 x1 x3 cN cD hbq
            have x3 := hX5.cell (i := 3) rfl
            go_wp2_with fail
            go_big_quiet (exact Calls.quiet_of_same (cN5 _))
            have hBF := below_drewN hB5 nq
            clear hX5 hB5 hT5 cN5 x3
            go_wp2
            go_ret
            exact ⟨by rw [HF.out]; rfl, hBF⟩
          · have k7' : ¬ (nn : Int) < (ps.length : Int) := by omega
            have HF : Hid (res = 0) := by
              have := H3.out
              rw [if_neg (fun h => k1 h.1), if_neg (fun h => k6 h.2), if_neg k7] at this
              exact this
            clear H3 k1
            go_wp2_with fail
            go_big_quiet (exact Calls.quiet_of_same (cD4 _))
            have hbq := below_drewN (Below.refl w3.heap.size w3) nq
            have hX5 := hX4.below hbq hX4.lt
            have hB5 := hb4.trans (hbq.mono hb4.size)
            have hT5 := hT4.below hbq
            generalize w3.drewN nq = w4 at *
            have cN5 := cN w4 hT5
            clear hX4 hb4 hT4 cN4 cD4 x1 x3 cN cD hbq
            have x3 := hX5.cell (i := 3) rfl
            go_wp2_with fail
            go_big_quiet (exact Calls.quiet_of_same (cN5 _))
            have hBF := below_drewN hB5 nq
            clear hX5 hB5 hT5 cN5 x3
            go_wp2
            go_ret
            exact ⟨by rw [HF.out]; rfl, hBF⟩
end Go.Proofs.YtoodapbmpbaogaaDoor
