/- Texts as one: StaDigest, Upto, StaUpto. -/
import Derived.Test.YtajpfkenhchafaaDoorEd11
import Derived.Test.YtajpfkenhchafaaDoorEd16
import Derived.Test.YtajpfkenhchafaaDoorEd17
import Derived.Test.YtajpfkenhchafaaDoorEd04
import Derived.JoinedCond
import Derived.Test.YtajpfkenhchafaaDoorEd07
/- What Digest does. -/
namespace Go.Proofs.YtajpfkenhchafaaDoor
open Go Go.RowKit
set_option linter.unusedVariables false

/-- A state's digest is handed back. -/
def GotDig (W : World) (s : StF) (e : Ending) (w : World) : Prop := ∃ t, IsDig s t ∧ e = .returned (.string (Mx.bytes (Mx.sumL t))) ∧ Below W.heap.size W w

theorem accM_is (f : ByteArray → Nat × Nat) (n : ByteArray) : (accM f n).isSome = true ↔ f n ≠ (0, 0) := by
  unfold accM
  by_cases h : f n = (0, 0)
  · rw [if_pos h]; simp [h]
  · rw [if_neg h]; simp [h]

theorem wrap64i (n : Nat) (h : n ≤ 4611686018427387903) : IntKind.i64.wrap (n : Int) = (n : Int) := by
  simp [IntKind.wrap, IntKind.bits, IntKind.signed]
  omega

set_option maxRecDepth 100000 in
set_option maxHeartbeats 4000000 in
theorem digest22_any (w : World) (p : Nat) (S : Nat → Prop) (s : StF) (N : Nat) (h : PS w p S s N) (hN : N ≤ 100000) (hG : Mx.Glob w) :
    Calls Tryd.prog 16 #[.pointer (some ⟨p, 0, none⟩)] w fun e w' => GotDig w s e w' := by
  obtain ⟨a, v, -, hP⟩ := h
  obtain ⟨n1, hn1, hM⟩ := hP.acc
  obtain ⟨n2, hn2, hV⟩ := hP.val
  have hok := hP.ok
  have lp := hP.box.lt
  have hbx := hP.box
  clear hP
  have c0 := hbx.cell (i := 0) rfl
  have D1 := DgS.new w
  have hM1 := hM.below D1.bel
  have hV1 := hV.below D1.bel
  have cK := keysA_any (some a) (w.alloc (.cells #[.pointer none, .slice none 0 0] 64))
  have cS := sortedA_any a n1 _ _ hM1 (by omega)
  have hk2 := belowNew (w.alloc (.cells #[.pointer none, .slice none 0 0] 64)) (.cells #[.map (some a)] 69)
  obtain ⟨w1, hw1⟩ : ∃ q, w.alloc (.cells #[.pointer none, .slice none 0 0] 64) = q := ⟨_, rfl⟩
  rw [hw1] at D1 hM1 hV1 cK cS hk2
  obtain ⟨w2, hw2⟩ : ∃ q, w1.alloc (.cells #[.map (some a)] 69) = q := ⟨_, rfl⟩
  rw [hw2] at cK cS hk2
  have c01 : w1.cell? ⟨p, 0, none⟩ = some (.map (some a)) := by rw [cell_same (D1.bel.block _ lp)]; exact c0
  generalize hGG : GotDig w s = GG
  go_enter Tryd.func16, Tryd.ntmps16
  go_wp2_with fail
  refine cK.mono ?_
  rintro e w' ⟨rfl, rfl⟩
  clear cK
  go_wp2_with fail
  refine cS.mono ?_
  rintro e w3 ⟨L, ao, cap, rfl, hNm, hLn, hLr, hLm, hb3⟩
  have D3 := (D1.call hk2).call hb3
  clear cS hw1 hw2 hk2 hM1 D1 c01 hb3
  have hLs : ∀ x ∈ L, s.acc x ≠ (0, 0) := fun x hx => (accM_is _ _).1 ((hLm x).1 hx)
  have hLen : Hid (∀ i, ((L.take i).flatMap (accT s.acc)).length ≤ 10000000) := by
    intro i
    have h1 := flat_len (accT s.acc) 100 (L.take i) (fun x hx => accT_len hok (hLs x (List.mem_of_mem_take hx)))
    have h2 : (L.take i).length ≤ L.length := by rw [List.length_take]; omega
    omega
  have lL : L.length ≤ 100000 := by omega
  replace hLn : Hid _ := hLn
  go_wp2_with fail
  go_loopw [16] (fun v16 wr => ∃ i : Nat, i ≤ L.length ∧ v16 = .int .i64 (i : Int) ∧ DgS w w.heap.size wr ((L.take i).flatMap (accT s.acc)) ∧ NamesAt wr ao cap L) (fun v _ => L.length - (intOf v).toNat)
  case atStart => exact ⟨0, Nat.zero_le _, rfl, by rw [List.take_zero]; exact D3, hNm⟩
  case round =>
    obtain ⟨i, hi, rfl, D, hNr⟩ := hrel
    clear D3 hNm
    by_cases hil : i < L.length
    · have g1 : (i : Int) < (L.length : Int) := by omega
      obtain ⟨x, hx⟩ : ∃ q, L[i]? = some q := ⟨_, List.getElem?_eq_getElem hil⟩
      have hxm := List.mem_of_getElem? hx
      obtain ⟨b2, off, hao, hbl, hcell⟩ := hNr.row.cell i x hx
      subst hao
      have hc2 := hcell 0 _ rfl
      have eo : off + i * strK.n + 0 = off + i := by show off + i * 1 + 0 = _; omega
      rw [eo] at hc2
      clear hcell eo
      have hxn := hok.nm x (hLs x hxm)
      have hxz := isNm_size hxn
      have hid : x.size ≤ maxLen := by unfold maxLen; omega
      have hMr := hM.below D.bel
      have hg := accM_get s.acc x
      have ha1 := hok.amt x
      have ha2 := hok.num x
      have hnx : Hid ((L.take i).flatMap (accT s.acc) ++ txt (aP ++ x).data.toList ++ goInt ((s.acc x).1 : Nat) ++ goInt ((s.acc x).2 : Nat) = (L.take (i + 1)).flatMap (accT s.acc)) := by
        show _ = _
        rw [List.take_add_one, hx, List.flatMap_append]
        simp [accT]
      have c0r : wr.cell? ⟨p, 0, none⟩ = some (.map (some a)) := by rw [cell_same (D.bel.block _ lp)]; exact c0
      obtain ⟨x1, hx1⟩ : ∃ q, Hid ((s.acc x).1 = q) := ⟨_, rfl⟩
      obtain ⟨x2, hx2⟩ : ∃ q, Hid ((s.acc x).2 = q) := ⟨_, rfl⟩
      rw [hx1.out] at hg ha1 hnx
      rw [hx2.out] at hg ha2 hnx
      have hnb := belowNew wr (.cells #[.int .u64 (x1 : Int), .int .u64 (x2 : Int)] 71)
      have hA4 : Arr (wr.alloc (.cells #[.int .u64 (x1 : Int), .int .u64 (x2 : Int)] 71)) wr.heap.size 71 [.int .u64 (x1 : Int), .int .u64 (x2 : Int)] := Arr.new wr 71 _
      have D4 := D.call hnb
      have hN4 := hNr.below hnb
      have hsz1 : (⟨#[97, 58]⟩ : ByteArray).size + x.size ≤ 9223372036854775807 := by
        have : (⟨#[97, 58]⟩ : ByteArray).size = 2 := rfl
        omega
      have cT := fun wx => text_any (⟨#[97, 58]⟩ ++ x) wx (by have := apP_size x; unfold aP at this; omega)
      have cI1 := fun wx => int_any (x1 : Int) wx
      have cI2 := fun wx => int_any (x2 : Int) wx
      have hw1 := wrap64i x1 ha1
      have hw2 := wrap64i x2 (by omega)
      have e1 := txt_le (aP ++ x).data.toList
      have e2 := goInt_length (x1 : Int)
      have e3 := goInt_length (x2 : Int)
      have e4 := dlen (aP ++ x)
      have e5 := apP_size x
      have n1' := goInt_ne x1 (by omega)
      have n2' := goInt_ne x2 (by omega)
      have n0' : txt (aP ++ x).data.toList ≠ [] := by
        unfold txt
        intro e
        exact goInt_ne _ (by omega) (List.append_eq_nil_iff.1 e).1
      change ∀ wx, Calls _ _ _ _ (fun e w' => e = .returned (.string ⟨(txt (aP ++ x).data.toList).toArray⟩) ∧ _) at cT
      generalize txt (aP ++ x).data.toList = T0 at *
      generalize goInt (x1 : Int) = T1 at *
      generalize goInt (x2 : Int) = T2 at *
      have hl0 := hLen.out i
      generalize (L.take i).flatMap (accT s.acc) = l0 at *
      have hsz : Hid (l0.length ≤ 10000000 ∧ T0.length ≤ 100 ∧ T1.length ≤ 10 ∧ T2.length ≤ 10) := ⟨hl0, by omega, by omega, by omega⟩
      clear e1 e2 e3 e4 e5 hl0 hNr hnb
      go_wp2_with (first
        | (at_lookup; refine smap_look (by rfl) _ _ 69 rfl 71 Tryd.underlying69 _ (zeroAcc _) a _ _ rfl hMr x hid rfl ?_; rw [hg]))
      refine (cT _).mono ?_
      rintro e w5 ⟨rfl, hb5⟩
      have D5 := D4.call hb5
      have hA5 := hA4.below hb5 hA4.lt
      have hN5 := hN4.below hb5
      clear cT D4 hA4 hN4 hb5 c0r hMr hc2 hbl hsz1
      go_wp2_with fail
      refine (D5.write T0 (by have := hsz.out; omega) n0').mono ?_
      rintro e w6 ⟨rfl, D6, hk6⟩
      have hA6 := D5.arr hk6 hA5 (by decide) (by decide)
      have hN6 := hN5.kept hk6 (D5.other (by decide) (by decide))
      have k0 := hA6.cell (i := 0) rfl
      clear D5 hA5 hN5 hk6
      go_wp2_with fail
      refine (cI1 _).mono ?_
      rintro e w7 ⟨rfl, hb7⟩
      have D7 := D6.call hb7
      have hA7 := hA6.below hb7 hA6.lt
      have hN7 := hN6.below hb7
      clear cI1 D6 hA6 hN6 hb7 k0 hw1
      go_wp2_with fail
      refine (D7.write T1 (by have := hsz.out; rw [List.length_append]; omega) n1').mono ?_
      rintro e w8 ⟨rfl, D8, hk8⟩
      have hA8 := D7.arr hk8 hA7 (by decide) (by decide)
      have hN8 := hN7.kept hk8 (D7.other (by decide) (by decide))
      have k1 := hA8.cell (i := 1) rfl
      clear D7 hA7 hN7 hk8
      go_wp2_with fail
      refine (cI2 _).mono ?_
      rintro e w9 ⟨rfl, hb9⟩
      have D9 := D8.call hb9
      have hN9 := hN8.below hb9
      clear cI2 D8 hA8 hN8 hb9 k1 hw2
      go_wp2_with fail
      refine (D9.write T2 (by have := hsz.out; rw [List.length_append, List.length_append]; omega) n2').mono ?_
      rintro e w10 ⟨rfl, D10, hk10⟩
      have hN10 := hN9.kept hk10 (D9.other (by decide) (by decide))
      rw [hnx.out] at D10
      clear D9 hN9 hk10 hnx hsz
      go_wp2
      go_roundw
      case rel => exact ⟨i + 1, by omega, by go_num, D10, hN10⟩
      case measure => simp [intOf]; omega
    · have g1 : ¬ (i : Int) < (L.length : Int) := by omega
      have hir : i = L.length := by omega
      rw [hir, List.take_length] at D
      clear hir hi hil hNr
      have hV2 := hV.below D.bel
      have c1r : wr.cell? ⟨p, 1, none⟩ = some (.map (some v)) := by rw [cell_same (D.bel.block _ lp)]; exact hbx.cell (i := 1) rfl
      have cK := keysV_any (some v) wr
      have cS := sortedV_any v n2 _ _ hV2 (by omega)
      have hk2 := belowNew wr (.cells #[.map (some v)] 72)
      obtain ⟨w2, hw2⟩ : ∃ q, wr.alloc (.cells #[.map (some v)] 72) = q := ⟨_, rfl⟩
      rw [hw2] at cK cS hk2
      have hl1 := flat_len (accT s.acc) 100 L (fun x hx => accT_len hok (hLs x hx))
      obtain ⟨l1, hl1'⟩ : ∃ q, Hid (L.flatMap (accT s.acc) = q) := ⟨_, rfl⟩
      rw [hl1'.out] at D hl1
      clear hV1 hLen
      go_wp2_with fail
      refine cK.mono ?_
      rintro e w3 ⟨rfl, rfl⟩
      clear cK
      go_wp2_with fail
      refine cS.mono ?_
      rintro e w4 ⟨M, bo, bcap, rfl, hNm, hMn, hMr, hMm, hb3⟩
      have D4 := (D.call hk2).call hb3
      clear cS hw2 hk2 hV2 D c1r hb3
      have hMs : ∀ x ∈ M, s.val x ≠ none := fun x hx => by
        have := (hMm x).1 hx
        rw [valM_is] at this
        intro e
        rw [e] at this
        cases this
      have hMen : Hid (∀ i, ((M.take i).flatMap (valT s.val)).length ≤ 20000000) := by
        intro i
        have h1 := flat_len (valT s.val) 200 (M.take i) (fun x hx => valT_len hok (hMs x (List.mem_of_mem_take hx)))
        have h2 : (M.take i).length ≤ M.length := by rw [List.length_take]; omega
        omega
      have lM : M.length ≤ 100000 := by omega
      have ll1 : Hid (l1.length ≤ 10000000) := by show l1.length ≤ _; omega
      have hdig : Hid (IsDig s (l1 ++ M.flatMap (valT s.val))) := by
        refine ⟨L, M, hLr, hMr, fun n => (hLm n).trans (accM_is _ _), fun n => (hMm n).trans ?_, by rw [hl1'.out]⟩
        rw [valM_is]
        cases s.val n <;> simp
      clear hl1 hLm hLr hMm hMr hLs hl1'
      replace hMn : Hid _ := hMn
      go_wp2_with fail
      go_loopw [48] (fun v48 wr => ∃ i : Nat, i ≤ M.length ∧ v48 = .int .i64 (i : Int) ∧ DgS w w.heap.size wr (l1 ++ (M.take i).flatMap (valT s.val)) ∧ NamesAt wr bo bcap M) (fun v _ => M.length - (intOf v).toNat)
      case atStart => exact ⟨0, Nat.zero_le _, rfl, by rw [List.take_zero, List.flatMap_nil, List.append_nil]; exact D4, hNm⟩
      case round =>
        obtain ⟨i, hi, rfl, D, hNr⟩ := hrel
        clear D4 hNm
        by_cases hil : i < M.length
        · have g2 : (i : Int) < (M.length : Int) := by omega
          obtain ⟨x, hx⟩ : ∃ q, M[i]? = some q := ⟨_, List.getElem?_eq_getElem hil⟩
          have hxm := List.mem_of_getElem? hx
          obtain ⟨b3, off3, hao, hbl, hcell⟩ := hNr.row.cell i x hx
          subst hao
          have hc2 := hcell 0 _ rfl
          have eo : off3 + i * strK.n + 0 = off3 + i := by show off3 + i * 1 + 0 = _; omega
          rw [eo] at hc2
          clear hcell eo
          obtain ⟨y, hy⟩ := Option.ne_none_iff_exists'.1 (hMs x hxm)
          obtain ⟨hxn, hys⟩ := hok.vnm x y hy
          have hxz := isNm_size hxn
          have hid : x.size ≤ maxLen := by unfold maxLen; omega
          have hVr := hV.below D.bel
          have hg := valM_get s.val x
          have hnx : Hid (l1 ++ (M.take i).flatMap (valT s.val) ++ txt (kP ++ x).data.toList ++ txt ((s.val x).getD ⟨#[]⟩).data.toList = l1 ++ (M.take (i + 1)).flatMap (valT s.val)) := by
            show _ = _
            rw [List.take_add_one, hx, List.flatMap_append]
            simp [valT]
          rw [hy] at hg hnx
          simp only [Option.getD_some] at hg hnx
          have hsz1 : (⟨#[107, 58]⟩ : ByteArray).size + x.size ≤ 9223372036854775807 := by
            have : (⟨#[107, 58]⟩ : ByteArray).size = 2 := rfl
            omega
          have cT := fun wx => text_any (⟨#[107, 58]⟩ ++ x) wx (by have := kpP_size x; unfold kP at this; omega)
          have cY := fun wx => text_any y wx (by omega)
          have e1 := txt_le (kP ++ x).data.toList
          have e2 := txt_le y.data.toList
          have e4 := dlen (kP ++ x)
          have e5 := kpP_size x
          have e6 := dlen y
          have n0' : txt (kP ++ x).data.toList ≠ [] := by
            unfold txt
            intro e
            exact goInt_ne _ (by omega) (List.append_eq_nil_iff.1 e).1
          have n1' : txt y.data.toList ≠ [] := by
            unfold txt
            intro e
            exact goInt_ne _ (by omega) (List.append_eq_nil_iff.1 e).1
          change ∀ wx, Calls _ _ _ _ (fun e w' => e = .returned (.string ⟨(txt (kP ++ x).data.toList).toArray⟩) ∧ _) at cT
          generalize txt (kP ++ x).data.toList = T0 at *
          generalize txt y.data.toList = T1 at *
          have hl0 := hMen.out i
          generalize (M.take i).flatMap (valT s.val) = l0 at *
          have hsz : Hid (l0.length ≤ 20000000 ∧ T0.length ≤ 100 ∧ T1.length ≤ 100) := ⟨hl0, by omega, by omega⟩
          have hlq : Hid ((l1 ++ l0).length = l1.length + l0.length) := List.length_append
          obtain ⟨l2, hl2⟩ : ∃ q, Hid (l1 ++ l0 = q) := ⟨_, rfl⟩
          rw [hl2.out] at D hnx hlq
          clear e1 e2 e4 e5 e6 hl0 hy
          go_wp2_with fail
          refine (cT _).mono ?_
          rintro e w5 ⟨rfl, hb5⟩
          have D5 := D.call hb5
          have hN5 := hNr.below hb5
          clear cT D hNr hb5 hVr hc2 hbl hsz1
          go_wp2_with fail
          refine (D5.write T0 (by have h1 := hsz.out; have h2 := hlq.out; have h3 := ll1.out; omega) n0').mono ?_
          rintro e w6 ⟨rfl, D6, hk6⟩
          have hN6 := hN5.kept hk6 (D5.other (by decide) (by decide))
          have hV6 := hV.below D6.bel
          have c16 : w6.cell? ⟨p, 1, none⟩ = some (.map (some v)) := by rw [cell_same (D6.bel.block _ lp)]; exact hbx.cell (i := 1) rfl
          clear D5 hN5 hk6
          go_wp2_with (at_lookup; refine smap_look (by rfl) _ _ 72 rfl 83 Tryd.underlying72 _ (zeroVal _) v _ _ rfl hV6 x hid rfl ?_; rw [hg])
          rename_i K hK
          refine hK _ _ ?_
          clear hK
          go_wp2_with fail
          refine (cY _).mono ?_
          rintro e w7 ⟨rfl, hb7⟩
          have D7 := D6.call hb7
          have hN7 := hN6.below hb7
          clear cY D6 hN6 hb7 hV6 c16
          go_wp2_with fail
          refine (D7.write T1 (by have h1 := hsz.out; have h2 := hlq.out; have h3 := ll1.out; rw [List.length_append]; omega) n1').mono ?_
          rintro e w8 ⟨rfl, D8, hk8⟩
          have hN8 := hN7.kept hk8 (D7.other (by decide) (by decide))
          rw [hnx.out] at D8
          clear D7 hN7 hk8 hnx hsz hlq hl2
          go_wp2
          go_roundw
          case rel => exact ⟨i + 1, by omega, by go_num, D8, hN8⟩
          case measure => simp [intOf]; omega
        · have g2 : ¬ (i : Int) < (M.length : Int) := by omega
          have hir : i = M.length := by omega
          have hm2 := hMen.out M.length
          rw [List.take_length] at hm2
          rw [hir, List.take_length] at D
          clear hir hi hil hNr hMen hMs
          obtain ⟨t, ht⟩ : ∃ q, Hid (l1 ++ M.flatMap (valT s.val) = q) := ⟨_, rfl⟩
          have hts : Hid (t.length ≤ 30000000) := by
            show t.length ≤ _
            rw [← ht.out, List.length_append]
            have := ll1.out
            omega
          rw [ht.out] at D hdig
          clear ht hm2 ll1
          go_wp2_with fail
          refine D.read.mono ?_
          rintro e w5 ⟨rfl, hb5⟩
          have cM := Mx.sum_any ⟨t.toArray⟩ w5 (by rw [size_mk]; have := hts.out; omega) (hG.below hb5)
          go_wp2_with fail
          refine cM.mono ?_
          rintro e w6 ⟨rfl, hb6⟩
          have hfin : GG (.returned (.string (Mx.bytes (Mx.sumL t)))) w6 := by
            rw [← hGG]
            exact ⟨t, hdig.out, rfl, hb5.trans (hb6.mono hb5.size)⟩
          clear cM D hdig hGG
          go_wp2
          exact hfin
end Go.Proofs.YtajpfkenhchafaaDoor

/- What the bound of the second form gives: the sizes of strings, and of slices of strings with all that they hold. -/
namespace Go.Proofs.YtajpfkenhchafaaDoor
open Go.ChangeShapes Go.WideShapes Go.ChangeAt Go.RowKit

theorem upto_part {H : Type} {d : DataW H} : ∀ {l : List (DataW H)}, d ∈ l → Rows.uptoBulk d ≤ Rows.uptoBulkAll l
  | [], h => by cases h
  | x :: r, h => by
    simp only [Rows.uptoBulkAll]
    rcases List.mem_cons.1 h with e | e
    · subst e; omega
    · have := upto_part e; omega

theorem upto_bound {H : Type} {l : List (DataW H)} (hk : Rows.uptoSmall H l = true) : Rows.uptoBulkAll l ≤ 1048576 := of_decide_eq_true hk

theorem upto_string {H : Type} {s : ByteArray} {d : DataW H} (hd : d = .lit (.string s.data.toList)) {l : List (DataW H)} (hk : Rows.uptoSmall H l = true) (hm : d ∈ l) : s.size ≤ 1048576 := by
  have h1 := upto_bound hk
  have h2 := upto_part hm
  subst hd
  simp only [Rows.uptoBulk] at h2
  have : s.data.toList.length = s.size := by simp
  omega

/-- How many values and letters a row of strings holds. -/
def strsBulk (ss : List ByteArray) : Nat := (ss.map (fun s => s.size + 1)).sum

theorem bulk_strs {H : Type} : ∀ (ss : List ByteArray), Rows.uptoBulkAll (strs (H := H) ss) = strsBulk ss
  | [] => by simp [strs, strsBulk, Rows.uptoBulkAll]
  | s :: ss => by
    have ih := bulk_strs (H := H) ss
    simp only [strs, strsBulk, List.map_cons, List.sum_cons, Rows.uptoBulkAll, Rows.uptoBulk] at ih ⊢
    rw [ih]
    simp

theorem upto_strs {H : Type} {ss : List ByteArray} {d : DataW H} (hd : StrsDatum d ss) {l : List (DataW H)} (hk : Rows.uptoSmall H l = true) (hm : d ∈ l) : strsBulk ss ≤ 1048576 := by
  have h1 := upto_bound hk
  have h2 := upto_part hm
  rcases hd with ⟨rfl, rfl⟩ | ⟨rest, rfl⟩
  · simp [strsBulk]
  · simp only [Rows.uptoBulk] at h2
    rw [bulk_strs] at h2
    omega

theorem strsBulk_length : ∀ (ss : List ByteArray), ss.length ≤ strsBulk ss
  | [] => by simp
  | s :: ss => by
    have := strsBulk_length ss
    simp only [strsBulk, List.map_cons, List.sum_cons, List.length_cons] at this ⊢
    omega

theorem flat_bulk : ∀ (ss : List ByteArray), ((bl ss).flatMap txt).length ≤ 10 * strsBulk ss
  | [] => by simp [bl]
  | s :: ss => by
    have ih := flat_bulk ss
    have hg := goInt_length s.size
    have e : (bl (s :: ss)).flatMap txt = txt s.data.toList ++ (bl ss).flatMap txt := by simp [bl]
    rw [e, List.length_append]
    have e2 : (txt s.data.toList).length = (goInt s.size).length + s.size := by simp [txt]
    simp only [strsBulk, List.map_cons, List.sum_cons] at ih ⊢
    omega

theorem lst_bulk (ss : List ByteArray) : (lst (bl ss)).length ≤ 9 + 10 * strsBulk ss := by
  have := flat_bulk ss
  have := goInt_length (bl ss).length
  rw [lst, List.length_append]
  omega
end Go.Proofs.YtajpfkenhchafaaDoor

/- What comes in, with the bound of the second form. -/
namespace Go.Proofs.YtajpfkenhchafaaDoor
open Go.ChangeShapes Go.WideShapes Go.ChangeAt Go.RowKit Go.Joins Go.Deep
set_option linter.unusedVariables false

theorem strs_one : ∀ {ss : List ByteArray} {s : ByteArray}, s ∈ ss → s.size ≤ strsBulk ss
  | [], _, h => by cases h
  | x :: r, s, h => by
    have e : strsBulk (x :: r) = x.size + 1 + strsBulk r := by simp [strsBulk]
    rcases List.mem_cons.1 h with q | q
    · rw [q]; omega
    · have := strs_one q; omega

theorem strs_few {ss : List ByteArray} (h : strsBulk ss ≤ 1048576) : ss.length ≤ 1048576 ∧ ∀ s ∈ ss, s.size ≤ 1048576 :=
  ⟨Nat.le_trans (strsBulk_length ss) h, fun _ hs => Nat.le_trans (strs_one hs) h⟩

theorem nat_of_u64 {n : Int} (h : (Lit.int .u64 n).wf = true) : ∃ k : Nat, n = (k : Int) := ⟨n.toNat, by have := (wf_u64 h).1; omega⟩

set_option maxRecDepth 100000 in
theorem open_tx22 {H : Type} {enc : TypeId × Value → H} {W : World} {r : Reach} {b0 : Nat} {v : Value} {d : DataW H} {p : List MemPlace} (hv : Value.okWide Tryd.prog W r b0 50 v)
    (h : DataW.Trod enc Tryd.prog W 0 (fun _ => true) true 50 v d p) : ∃ x : TxM, v = x.v ∧ x.At W ∧ TxSizes x.d ∧ TxDatum d x.d := by
  obtain ⟨D, ra, rc, wa, wc, h1, h2, h3, h4, h5, h6⟩ := open_tx hv h
  exact ⟨⟨D, ra, rc, wa, wc⟩, h1, ⟨h2, h3, h4⟩, h5, h6⟩
end Go.Proofs.YtajpfkenhchafaaDoor
