/- What package header's Encode does; nothing old in memory is turned. -/
import Derived.Test.YtoodapbmpbaogaaDoorHdrOpen
import Derived.Test.YtoodapbmpbaogaaDoorHdrTagsEnc
import Derived.Test.YtoodapbmpbaogaaDoorBldFree
namespace Go.Proofs.YtoodapbmpbaogaaDoor
open Go.RowKit
set_option linter.unusedVariables false

/-- The bytes up to the k-th Ref. -/
def preH (x : HdrM) (k : Nat) : List UInt8 := goInt x.author ++ goInt x.round ++ goInt (x.refs.length : Int) ++ ((rd x.refs).take k).flatMap refB

theorem encH_eq (x : HdrM) : encH x.d = preH x x.refs.length ++ lst (bl x.parents) := by
  have e : (rd x.refs).take x.refs.length = rd x.refs := List.take_of_length_le (by rw [rd_length]; omega)
  unfold preH
  rw [e]
  simp [encH, HdrM.d, rd_length]

theorem preH_succ (x : HdrM) (k : Nat) (r : RefM) (h : x.refs[k]? = some r) : preH x (k + 1) = preH x k ++ txt r.digest.data.toList ++ tagsB r.acks := by
  have hk := (List.getElem?_eq_some_iff.1 h).1
  have hr : (rd x.refs)[k]? = some r.d := by simp [rd, h]
  obtain ⟨hk2, he⟩ := List.getElem?_eq_some_iff.1 hr
  unfold preH
  rw [List.take_succ_eq_append_getElem hk2, he, List.flatMap_append]
  simp [refB, RefM.d]

theorem preH_le (x : HdrM) (k : Nat) : (preH x k).length ≤ (encH x.d).length := by
  have h : (rd x.refs).flatMap refB = ((rd x.refs).take k).flatMap refB ++ ((rd x.refs).drop k).flatMap refB := by rw [← List.flatMap_append, List.take_append_drop]
  have e : encH x.d = goInt x.author ++ goInt x.round ++ goInt (x.refs.length : Int) ++ (rd x.refs).flatMap refB ++ lst (bl x.parents) := by simp [encH, HdrM.d, rd_length]
  rw [e, h, preH]
  simp only [List.length_append]
  omega

theorem preH_ne (x : HdrM) (k : Nat) (h : x.refs.length ≤ 4611686018427387903) : preH x k ≠ [] := by
  have := goInt_ne x.refs.length h
  unfold preH
  intro e
  simp at e
  exact this e.2.2.1

/-- What a header holds is no more than a machine takes. -/
structure HdrM.Fit (x : HdrM) : Prop where
  n : x.refs.length ≤ 1000000000
  p : x.parents.length ≤ 1000000000
  acks : ∀ r ∈ x.refs, r.acks.length ≤ 1000000000
  mac : ∀ r ∈ x.refs, ∀ t ∈ r.acks, t.mac.size ≤ 140737488351232
  len : (encH x.d).length ≤ 140737488355328

set_option maxRecDepth 100000 in
set_option maxHeartbeats 2000000 in
theorem hdrEncode_any (x : HdrM) (w : World) (hA : x.At w) (hf : x.Fit) :
    Calls Tryd.prog 37 #[x.v] w fun e w' => e = .returned (.string ⟨(encH x.d).toArray⟩) ∧ Below w.heap.size w w' := by
  have hX := Arr.new w 66 x.c
  have hB := belowNew w (.cells x.c.toArray 66)
  have st := BldSt.new hX hB
  rw [alloc_size] at st
  obtain ⟨out, hout⟩ : ∃ out, Hid (out = (⟨(encH x.d).toArray⟩ : ByteArray)) := ⟨_, rfl⟩
  rw [← hout.out]
  have hn := hf.n
  have hpn := hf.p
  have HL : Hid (∀ k, (preH x k).length ≤ 140737488355328) := fun k => Nat.le_trans (preH_le x k) hf.len
  have HP : Hid ((preH x x.refs.length).length + (lst (bl x.parents)).length ≤ 140737488355328) := by
    have := hf.len
    rw [encH_eq, List.length_append] at this
    exact this
  have HE : Hid (encH x.d = _) := encH_eq x
  have HK := hf.acks
  have HM := hf.mac
  have HS : Hid (∀ k r, x.refs[k]? = some r → preH x (k + 1) = preH x k ++ txt r.digest.data.toList ++ tagsB r.acks) := fun k r h => preH_succ x k r h
  have HN : Hid (∀ k, preH x k ≠ []) := fun k => preH_ne x k (by omega)
  have H0 : Hid (preH x 0 = goInt x.author ++ goInt x.round ++ goInt (x.refs.length : Int)) := by show _ = _; simp [preH]
  have g0 := goInt_length x.author
  have g1 := goInt_length x.round
  have g2 := goInt_length (x.refs.length : Int)
  have C0 := fun w1 => int_any x.author w1
  have C1 := fun w1 => int_any x.round w1
  have C2 := fun w1 => int_any (x.refs.length : Int) w1
  obtain ⟨au, ro, ra, rs, rc, pa, ps, pc⟩ := x
  have hA1 : RowAt refK w ra rs := hA.refs
  have hA2 : RowAt strK w pa ps := hA.ps
  obtain ⟨pre, hpre⟩ : ∃ q, q = preH ⟨au, ro, ra, rs, rc, pa, ps, pc⟩ := ⟨_, rfl⟩
  rw [← hpre] at HL HP HE HS HN H0
  clear hX hB hf hA hpre
  unfold HdrM.v
  unfold HdrM.c at st
  simp only at st hn hpn HL HP HE HK HM HS HN H0 g0 g1 g2 C0 C1 C2 ⊢
  generalize goInt au = l0 at *
  generalize goInt ro = l1 at *
  generalize goInt (rs.length : Int) = l2 at *
  have hlen : Hid (l0.length ≤ 9 ∧ l1.length ≤ 9 ∧ l2.length ≤ 9) := ⟨g0, g1, g2⟩
  clear g0 g1 g2
  go_enter Tryd.func37, Tryd.ntmps37
  have c0 := st.box.cell (i := 0) rfl
  go_wp2_with fail
  refine (C0 _).mono ?_
  rintro e w2 ⟨rfl, hb⟩
  replace st := st.call hb
  clear hb c0 C0
  go_wp2_with fail
  refine (st.write l0 (by have := hlen.out; simp; omega)).mono ?_
  rintro e w3 ⟨rfl, st2⟩
  clear st
  have c1 := st2.box.cell (i := 1) rfl
  go_wp2_with fail
  refine (C1 _).mono ?_
  rintro e w2 ⟨rfl, hb⟩
  replace st2 := st2.call hb
  clear hb c1 C1
  go_wp2_with fail
  refine (st2.write l1 (by have := hlen.out; simp; omega)).mono ?_
  rintro e w3 ⟨rfl, st3⟩
  clear st2
  have c2 := st3.box.cell (i := 2) rfl
  go_wp2_with fail
  refine (C2 _).mono ?_
  rintro e w2 ⟨rfl, hb⟩
  replace st3 := st3.call hb
  clear hb c2 C2
  go_wp2_with fail
  refine (st3.write l2 (by have := hlen.out; simp; omega)).mono ?_
  rintro e w3 ⟨rfl, st4⟩
  clear st3
  rw [List.nil_append, ← H0.out] at st4
  have c2 := st4.box.cell (i := 2) rfl
  go_wp2
  go_loopw [5, 22] (fun v5 v22 wr => ∃ k : Nat, k ≤ rs.length ∧ v22 = .int .i64 (k : Int) ∧ BldSt w w.heap.size (w.heap.size + 1) 66 [.int .i64 au, .int .i64 ro, .slice ra rs.length rc, .slice pa ps.length pc] wr (pre k)) (fun _ v _ => rs.length - (intOf v).toNat)
  case atStart => exact ⟨0, Nat.zero_le _, rfl, st4⟩
  case round =>
    clear st4 c2 H0
    obtain ⟨k, hk, rfl, st⟩ := hrel
    by_cases hlt : k < rs.length
    · obtain ⟨r, hr⟩ : ∃ r, rs[k]? = some r := ⟨rs[k], List.getElem?_eq_getElem hlt⟩
      obtain ⟨b, off, rfl, hbl, y0, y1⟩ := (hA1.below st.bel).ref hr
      have hrt := ((hA1.below st.bel).at_ r (List.mem_of_getElem? hr)).1
      have HMem : Hid (r ∈ rs) := List.mem_of_getElem? hr
      have hs1 := HS.out k r hr
      have hlk := HL.out (k + 1)
      rw [hs1] at hlk
      simp only [List.length_append] at hlk
      have hdl : r.digest.size ≤ (txt r.digest.data.toList).length := by rw [txt, List.length_append]; simp
      have cT := fun w1 => text_any r.digest w1 (by omega)
      have cG := fun w1 h => tags_any r.ao r.cap r.acks w1 h (HK r (List.mem_of_getElem? hr)) (HM r (List.mem_of_getElem? hr)) (by omega)
      have Hs1 : Hid (pre (k + 1) = _) := hs1
      generalize txt r.digest.data.toList = m0 at *
      generalize tagsB r.acks = m1 at *
      have hlk' : Hid ((pre k).length + m0.length + m1.length ≤ 140737488355328) := hlk
      clear hlk hdl hs1 hr
      have hbx := belowNew wr (.cells #[.string r.digest, .slice r.ao r.acks.length r.cap] 106)
      have hX := Arr.new wr 106 [.string r.digest, .slice r.ao r.acks.length r.cap]
      have st1 := st.call hbx
      have hrt1 := hrt.below hbx
      have hoff0 : BldOff _ (w.heap.size + 1) wr.heap.size := (BldOff.new st.bld (Nat.le_refl _)).below hbx (bld_lt st.bld)
      clear st hrt
      have x0 := hX.cell (i := 0) rfl
      have x1 := hX.cell (i := 1) rfl
      have hwl := st1.bel.size
      go_wp2_with fail
      refine (cT _).mono ?_
      rintro e w2 ⟨rfl, hb⟩
      have hoff1 := hoff0.below hb (bld_lt st1.bld)
      have st2 := st1.call hb
      have hX2 := hX.below hb hX.lt
      clear st1 hX hrt1 hb cT x0 x1 y0 y1 hoff0
      go_wp2_with fail
      have hxl := hX2.lt
      refine (st2.writeF m0 (by have := hlk'.out; omega)).mono ?_
      rintro e w3 ⟨rfl, st3, hz3, hg3⟩
      have hX3 : Arr w3 wr.heap.size 106 [.string r.digest, .slice r.ao r.acks.length r.cap] := by
        have := hg3 wr.heap.size hxl hoff1
        unfold Arr at hX2 ⊢
        rw [this]
        exact hX2
      have hrt3 := ((hA1.below st3.bel).at_ r (HMem.out)).1
      clear st2 hX2 hoff1 hg3
      have x1 := hX3.cell (i := 1) rfl
      go_wp2_with fail
      refine (cG _ hrt3).mono ?_
      rintro e w4 ⟨rfl, hb⟩
      have st4 := st3.call hb
      clear st3 hb cG x1 hX3 hrt3
      go_wp2_with fail
      refine (st4.write m1 (by have := hlk'.out; simp; omega)).mono ?_
      rintro e w5 ⟨rfl, st5⟩
      clear st4
      rw [← Hs1.out] at st5
      go_wp2
      go_roundw
      case rel => exact ⟨k + 1, by omega, by go_num, st5⟩
      case measure => simp [intOf]; omega
    · obtain rfl : k = rs.length := by omega
      have c3 := st.box.cell (i := 3) rfl
      have hPz := HP.out
      have cL := list_any pa pc ps wr (hA2.below st.bel).strs (by omega) (by omega)
      generalize lst (bl ps) = m2 at *
      clear hPz
      go_wp2_with fail
      refine cL.mono ?_
      rintro e w2 ⟨rfl, hb⟩
      have st2 := st.call hb
      clear st hb cL c3
      go_wp2_with fail
      refine (st2.write m2 (HP.out)).mono ?_
      rintro e w3 ⟨rfl, st3⟩
      clear st2
      go_wp2_with fail
      refine (st3.read (by have := HN.out rs.length; intro e; simp at e; exact this e.1)).mono ?_
      rintro e w4 ⟨rfl, hb4⟩
      go_wp2
      go_ret
      exact ⟨by rw [hout.out, HE.out]; rfl, hb4⟩
end Go.Proofs.YtoodapbmpbaogaaDoor
