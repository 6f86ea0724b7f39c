/- Texts as one: PlayIn, CertOwn, PlayCert, Own14. -/
import Derived.Test.YtmjkbdgcnoenbaaGreatDoorDz11
import Derived.BigQuiet
import Derived.Test.YtmjkbdgcnoenbaaGreatDoorDz03
import Derived.Test.YtmjkbdgcnoenbaaGreatDoorDz10
import Derived.Test.YtmjkbdgcnoenbaaGreatDoorDz08
import Derived.Deep.RegionHeld3
import Derived.Test.YtmjkbdgcnoenbaaGreatDoorDz14
/- What (*Plays).In does: a certificate is in. -/
namespace Go.Proofs.YtmjkbdgcnoenbaaGreatDoor
open Go Go.RowKit
set_option linter.unusedVariables false

/-- While it is at work: the certificate's box, the maker, and that nothing else is turned. -/
structure PIst (w : World) (c : CertM) (pb : Nat) (q : Value) (rt : Nat) (xs : List IdsM) (wx : World) : Prop where
  x : Arr wx w.heap.size 48 c.c
  p : PlAt wx pb q rt xs
  b : Below w.heap.size w wx

theorem PIst.below {w : World} {c : CertM} {pb : Nat} {q : Value} {rt : Nat} {xs : List IdsM} {wx wy : World} (h : PIst w c pb q rt xs wx) (hb : Below wx.heap.size wx wy) : PIst w c pb q rt xs wy :=
  ⟨h.x.below hb h.x.lt, h.p.below hb, h.b.trans (hb.mono h.b.size)⟩

/-- Behind the first step. -/
structure PIst2 (w : World) (c : CertM) (pb : Nat) (q : Value) (rt : Nat) (xs : List IdsM) (q' : Value) (ys : List IdsM) (wx : World) : Prop where
  x : Arr wx w.heap.size 48 c.c
  p : PlAt wx pb q' rt ys
  fr : ∀ k, PlFoot pb q' ys k → PlFoot pb q xs k ∨ w.heap.size < k
  k : Kept (PlFoot pb q xs) w wx

theorem PIst2.below {w : World} {c : CertM} {pb : Nat} {q : Value} {rt : Nat} {xs : List IdsM} {q' : Value} {ys : List IdsM} {wx wy : World} (h : PIst2 w c pb q rt xs q' ys wx) (hb : Below wx.heap.size wx wy) : PIst2 w c pb q rt xs q' ys wy :=
  ⟨h.x.below hb h.x.lt, h.p.below hb, h.fr, h.k.trans (Kept.of_below hb)⟩

/-- append(q, y): where the new row lies. -/
theorem wpList_pushF {α : Type} {K : Kind α} {P : Program} {w : World} {ops : Array Oper} {rest : List Oper} {o : Oper} {a : Act} {Q : Exit → Act → World → Prop} (hgd : o.guard = none) (s x : Operand) (t : TypeId)
    (ho : o.op = .call { callee := .builtin .append, args := #[s, x], argTypes := #[t, t] })
    (base : Nat) (e : TypeId) (i : TypeInfo) (z : Value) (bytes : Nat) (ht : P.underlying t = some (.slice e)) (hi : P.info? e = some i) (hz : i.zero = some z)
    (hsize : i.size = K.n) (hby : i.bytes = bytes) (hzs : z.cells.size = K.n)
    (q : Value) (l : List α) (hs : a.eval s = q) (hq : KQ K e w base q l) (y : α) (hy : K.At w y) (hyo : ∀ b, K.foot y b → q.ownBlock ≠ some b)
    (ad : Addr) (c : Nat) (hx : a.eval x = .slice (some ad) 1 c) (hnews : ∀ j u, (K.c y)[j]? = some u → w.cell? (ad.add j) = some u)
    (h63 : l.length + 1 ≤ maxLen) (hbytes : (l.length + 1) * bytes ≤ 140737488355328) (hbase : base ≤ w.heap.size)
    (h : ∀ ao' cap' w', KQ K e w' base (.slice ao' (l.length + 1) cap') (l ++ [y]) → Kept (fun k => q.ownBlock = some k) w w' → Fresh w q (.slice ao' (l.length + 1) cap') → wpList P ops Q rest (a.put o.dst (.slice ao' (l.length + 1) cap')) w') : wpList P ops Q (o :: rest) a w := by
  refine wpList_append_q hgd s x t ho base e i z K.n bytes ht hi hz hsize hby hzs K.pos q l.length (flatK K l) hs hq.row ad 1 c (K.c y) hx (by decide) (by rw [K.len]; omega) hnews (K.one y) h63 hbytes hbase ?_
  intro v' w' hrow hgr hfr
  obtain ⟨ao', cap', rfl, _, _⟩ := hrow.form
  refine h ao' cap' w' (hq.push (m := [y]) ?_ ?_ (by simp) (by rw [flatK_single]; exact hrow) hgr hfr) (Kept.of_grown hgr) hfr
  · intro x hx; simp at hx; rw [hx]; exact hy
  · intro x hx; simp at hx; rw [hx]; exact hyo

theorem new_ids0 (w : World) : ∀ j u, (idsK.c ⟨none, 0, []⟩)[j]? = some u → (w.alloc (.cells #[.slice none 0 0] 31)).cell? ((⟨w.heap.size, 0, none⟩ : Addr).add j) = some u := by
  intro j u hu
  rw [Go.WideShapes.add_plain, Nat.zero_add]
  exact (Arr.new w 31 [.slice none 0 0]).cell hu

set_option maxRecDepth 100000 in
set_option maxHeartbeats 4000000 in
theorem playIn_any (pb : Nat) (S : Nat → Prop) (rt f : Nat) (ks : List ByteArray) (ids : List (List ByteArray)) (c : CertM) (w : World) (h : Pl w pb S rt ids) (hT : Mx.TabAt w rt f ks) (hf : f ≤ 2) (hA : c.At w) (hr1 : 1 ≤ c.hdr.round) (hr2 : c.hdr.round ≤ 4611686018427387903) (hfit : c.hdr.Fit) (hlen : (encH c.hdr.d).length ≤ 1073741824)
    (hl1 : ids.length < 1000) (hl2 : ∀ l ∈ ids, l.length < 1000) (hcS : ∀ b, c.hdr.foot b → ¬ S b) :
    Calls Tryz.prog 22 #[.pointer (some ⟨pb, 0, none⟩), c.v] w fun e w' => e = .returned (.tuple #[]) ∧ ∃ S', Pl w' pb S' rt (inI (2 * f + 1) ids c.hdr.round.toNat (idB c.hdr.d)) ∧ FreshS w S S' ∧ Kept S w w' := by
  obtain ⟨q, xs, rfl, hS, hP⟩ := h
  obtain ⟨⟨ha, hr, hra, hrs, hrc, hpa, hps, hpc⟩, va, vs, vc⟩ := c
  obtain ⟨rn, rfl⟩ : ∃ n : Nat, hr = (n : Int) := ⟨hr.toNat, by have : (1 : Int) ≤ hr := hr1; omega⟩
  have hr1 : 1 ≤ rn := by have : (1 : Int) ≤ (rn : Int) := hr1; omega
  have hr2 : rn ≤ 4611686018427387903 := by have : (rn : Int) ≤ 4611686018427387903 := hr2; omega
  rw [List.length_map] at hl1
  have hl2 : ∀ x ∈ xs, x.l.length < 1000 := fun x hx => hl2 x.l (List.mem_map_of_mem hx)
  have cI := fun w1 h1 => refHdrId_any ⟨ha, (rn : Int), hra, hrs, hrc, hpa, hps, hpc⟩ w1 h1 hfit hlen
  obtain ⟨IV, hIV⟩ : ∃ z, Hid (idB (HdrM.d ⟨ha, (rn : Int), hra, hrs, hrc, hpa, hps, hpc⟩) = z) := ⟨_, rfl⟩
  have hid' : Mx.bytes (Mx.sumL (encH (HdrM.d ⟨ha, (rn : Int), hra, hrs, hrc, hpa, hps, hpc⟩))) = IV := hIV.out
  rw [hid'] at cI
  obtain ⟨ND, hND⟩ : ∃ z, Hid (2 * f + 1 = z) := ⟨_, rfl⟩
  obtain ⟨RES, hRES⟩ : ∃ z, Hid (inI ND (xs.map IdsM.l) rn IV = z) := ⟨_, rfl⟩
  have hres : inI (2 * f + 1) (xs.map IdsM.l) (CertM.hdr ⟨⟨ha, (rn : Int), hra, hrs, hrc, hpa, hps, hpc⟩, va, vs, vc⟩).round.toNat (idB (CertM.hdr ⟨⟨ha, (rn : Int), hra, hrs, hrc, hpa, hps, hpc⟩, va, vs, vc⟩).d) = RES := by
    rw [hND.out]
    show inI ND (xs.map IdsM.l) (Int.toNat (rn : Int)) (idB (HdrM.d ⟨ha, (rn : Int), hra, hrs, hrc, hpa, hps, hpc⟩)) = RES
    rw [Int.toNat_natCast, hIV.out, hRES.out]
  rw [hres]
  have cD := fun w1 h1 => Mx.refNeed_any rt f ks w1 h1 hf
  rw [hND.out] at cD
  have hX := Arr.new w 48 (CertM.c ⟨⟨ha, (rn : Int), hra, hrs, hrc, hpa, hps, hpc⟩, va, vs, vc⟩)
  have hB := belowNew w (.cells (CertM.c ⟨⟨ha, (rn : Int), hra, hrs, hrc, hpa, hps, hpc⟩, va, vs, vc⟩).toArray 48)
  have hI2 : PIst w ⟨⟨ha, (rn : Int), hra, hrs, hrc, hpa, hps, hpc⟩, va, vs, vc⟩ pb q rt xs _ := ⟨hX, hP.below hB, hB⟩
  clear hid' hres hX hB
  unfold CertM.c at hI2
  unfold CertM.v
  unfold HdrM.v at cI
  simp only at cI hI2 ⊢
  obtain ⟨bq, hbq⟩ : ∃ z : Bool, Hid (decide (rn = xs.length + 1 ∧ (rn = 1 ∨ ND ≤ ((xs.map IdsM.l).getD (rn - 2) []).length)) = z) := ⟨_, rfl⟩
  obtain ⟨ao, cap, rfl, hnil, _⟩ := hP.row.form
  have hfew := hP.few
  go_enter Tryz.func22, Tryz.ntmps22
  have x1 := hI2.x.cell (i := 1) rfl
  simp only at x1
  go_upto_region 2 with fail
  obtain ⟨w2, hw2⟩ : ∃ z, w.alloc (.cells #[.int .i64 ha, .int .i64 (rn : Int), .slice hra hrs.length hrc, .slice hpa hps.length hpc, .slice va vs.length vc] 48) = z := ⟨_, rfl⟩
  have hI2 : PIst w ⟨⟨ha, (rn : Int), hra, hrs, hrc, hpa, hps, hpc⟩, va, vs, vc⟩ pb (.slice ao xs.length cap) rt xs (w.alloc (.cells #[.int .i64 ha, .int .i64 (rn : Int), .slice hra hrs.length hrc, .slice hpa hps.length hpc, .slice va vs.length vc] 48)) := hI2
  rw [hw2] at hI2 ⊢
  clear hw2 x1
  go_cut [39] (fun s39 wx => s39 = .bool bq ∧ PIst w ⟨⟨ha, (rn : Int), hra, hrs, hrc, hpa, hps, hpc⟩, va, vs, vc⟩ pb (.slice ao xs.length cap) rt xs wx)
  case first =>
    have p0 := hI2.p.box.cell (i := 0) rfl
    have p1 := hI2.p.box.cell (i := 1) rfl
    have cD' := fun m => cD (w2.drewN m) (hT.below (hI2.below (below_drewN (Below.refl _ w2) m)).b)
    have hfd := fun m => hI2.below (below_drewN (Below.refl _ w2) m)
    have hfd : Hid _ := hfd
    by_cases hA1 : rn = xs.length + 1
    · subst hA1
      by_cases h0 : xs.length = 0
      · have hx0 : xs = [] := List.length_eq_zero_iff.1 h0
        subst hx0
        obtain rfl : bq = true := by rw [← hbq.out]; exact decide_eq_true ⟨rfl, Or.inl rfl⟩
        go_quiet (exact Calls.quiet_of_same (cD' _))
        have hF := hfd.out nq
        clear hfd cD' p0 p1
        go_wp2_with fail
        go_meet
        case rel => exact ⟨rfl, hF⟩
      · obtain ⟨m, hm⟩ : ∃ m, Hid (xs.length = m + 1) := ⟨xs.length - 1, by show _ = _; omega⟩
        have hml : m < xs.length := by have := hm.out; omega
        obtain ⟨y, hy⟩ : ∃ y, xs[m]? = some y := ⟨_, List.getElem?_eq_getElem hml⟩
        have hgd : (xs.map IdsM.l).getD (xs.length + 1 - 2) [] = y.l := by
          have e : xs.length + 1 - 2 = m := by have := hm.out; omega
          rw [e, List.getD_eq_getElem?_getD, List.getElem?_map, hy]; rfl
        have hbq2 : Hid (decide (ND ≤ y.l.length) = bq) := by
          show _ = _
          rw [← hbq.out, hgd]
          congr 1
          simp only [eq_iff_iff, true_and]
          constructor
          · exact Or.inr
          · rintro (e | e)
            · omega
            · exact e
        have hRow := hI2.p.row.row.rowAt rfl hI2.p.row.at_
        obtain ⟨g, off, hao, hg, cx⟩ := hRow.ids hy
        subst hao
        have hb0 : ((xs.length : Int) + 1 == 1) = false := by rw [beq_eq_false_iff_ne]; omega
        have hix : IntKind.i64.wrap ((xs.length : Int) + 1 - 2) = (m : Int) := by
          have e : (xs.length : Int) + 1 - 2 = (m : Int) := by have := hm.out; omega
          rw [wrap_i64P, e, Mx.wrap64_small _ (by omega) (by omega)]
        have hw1 : IntKind.i64.wrap ((xs.length : Int) + 1) = (xs.length : Int) + 1 := by rw [wrap_i64P]; exact Mx.wrap64_small _ (by omega) (by omega)
        have j1 : ¬ ((m : Int) < 0) := by omega
        have j2 : (m : Int) < (xs.length : Int) := by omega
        clear hgd hy hRow h0
        by_cases hc : ND ≤ y.l.length
        · have hd1 : decide (ND ≤ y.l.length) = true := decide_eq_true hc
          obtain rfl : bq = true := by rw [← hbq2.out, hd1]
          go_quiet (exact Calls.quiet_of_same (cD' _))
          have hF := hfd.out nq
          clear hfd cD' p0 p1
          go_wp2_with fail
          go_meet
          case rel => exact ⟨rfl, hF⟩
        · have hd1 : decide (ND ≤ y.l.length) = false := decide_eq_false hc
          obtain rfl : bq = false := by rw [← hbq2.out, hd1]
          go_quiet (exact Calls.quiet_of_same (cD' _))
          have hF := hfd.out nq
          clear hfd cD' p0 p1
          go_wp2_with fail
          go_meet
          case rel => exact ⟨rfl, hF⟩
    · have hb1 : ((rn : Int) == (xs.length : Int) + 1) = false := by
        rw [beq_eq_false_iff_ne]
        omega
      obtain rfl : bq = false := by rw [← hbq.out]; exact decide_eq_false (fun h => hA1 h.1)
      go_quiet (exact Calls.quiet_of_same (cD' _))
      have hF := hfd.out nq
      clear hfd cD' p0 p1
      go_wp2_with fail
      go_meet
      case rel => exact ⟨rfl, hF⟩
  case rest =>
    obtain ⟨rfl, hI3⟩ := hcut
    clear hI2
    go_upto_if 39 with fail
    go_cut [] (fun wx => ∃ (ao' : Option Addr) (cap' : Nat) (ys : List IdsM), Hid (ys.map IdsM.l = inP ND (xs.map IdsM.l) rn) ∧ ys.length ≤ 1000 ∧ PIst2 w ⟨⟨ha, (rn : Int), hra, hrs, hrc, hpa, hps, hpc⟩, va, vs, vc⟩ pb (.slice ao xs.length cap) rt xs (.slice ao' ys.length cap') ys wx)
    case first =>
      have hIP : Hid (inP ND (xs.map IdsM.l) rn = if bq = true then xs.map IdsM.l ++ [[]] else xs.map IdsM.l) := by
        show _ = _
        unfold inP
        rw [← hbq.out, List.length_map]
        simp only [decide_eq_true_eq]
      have hwl := hI3.x.lt
      cases bq with
      | false =>
        have hF : PIst2 w ⟨⟨ha, (rn : Int), hra, hrs, hrc, hpa, hps, hpc⟩, va, vs, vc⟩ pb (.slice ao xs.length cap) rt xs (.slice ao xs.length cap) xs wc := ⟨hI3.x, hI3.p, fun k hk => Or.inl hk, Kept.of_below hI3.b⟩
        clear hI3
        go_wp2_with fail
        go_meet
        case rel => exact ⟨ao, cap, xs, by show _ = _; rw [hIP.out, if_neg (by decide)], by omega, hF⟩
      | true =>
        obtain ⟨i0, z0, hi0, hz0, hz1, hz2, hz3⟩ := idsInfo
        have hbn := belowNew wc (.cells #[.slice none 0 0] 31)
        have hpn := hI3.p.below hbn
        have p1n := hpn.box.cell (i := 1) rfl
        have p1 := hI3.p.box.cell (i := 1) rfl
        have hN1 := new_ids0 wc
        have hN3 : pb + 1 ≤ (wc.alloc (.cells #[.slice none 0 0] 31)).heap.size := hpn.box.lt
        have m1 : xs.length + 1 ≤ maxLen := by unfold maxLen; omega
        have m2 : (xs.length + 1) * 24 ≤ 140737488355328 := by omega
        have hQn := hpn.row
        go_wp2_with (at_builtin; refine wpList_pushF (K := idsK) rfl _ _ 81 rfl (pb + 1) 31 i0 _ 24 Tryz.underlying81 hi0 hz0 hz1 hz2 hz3 _ xs rfl hQn ⟨none, 0, []⟩ ⟨nil_row _ _, fun _ => rfl⟩ (fun b hb => (nil_foot hb).elim) ⟨wc.heap.size, 0, none⟩ 1 rfl hN1 m1 m2 hN3 ?_)
        intro ao8 cap8 w8 hQ8 hk8 hf8
        obtain ⟨hp9, hfr9, hk9⟩ := hI3.p.pushed hbn hQ8 hk8 hf8 hl1
        have hb8 := (hpn.box.kept hk8 (fun e => by have := (hpn.row.lt pb e).1; omega))
        have c1 := hb8.cell (i := 1) rfl
        have f1 := hb8.frozen 1
        have hx9 := hI3.x.kept hk9 (fun e => by have := hP.lt e; omega)
        have hk9' : Kept (PlFoot pb (.slice ao xs.length cap) xs) w _ := (Kept.of_below hI3.b).trans hk9
        have hF : PIst2 w ⟨⟨ha, (rn : Int), hra, hrs, hrc, hpa, hps, hpc⟩, va, vs, vc⟩ pb (.slice ao xs.length cap) rt xs (.slice ao8 (xs.length + 1) cap8) (xs ++ [⟨none, 0, []⟩]) _ := ⟨hx9, hp9, fun k hk => (hfr9 k hk).imp id (fun e => by omega), hk9'⟩
        clear hQ8 hk8 hf8 hp9 hfr9 hk9 hb8 hx9 hk9' hQn p1 p1n hpn hbn hI3 hN1 hN3
        go_wp2_with fail
        go_meet
        case rel => exact ⟨ao8, cap8, xs ++ [⟨none, 0, []⟩], by show _ = _; rw [hIP.out]; simp, by rw [List.length_append]; simp; omega, by rw [List.length_append]; exact hF⟩
    case rest =>
      obtain ⟨ao', cap', ys, hys, hyl, hI4⟩ := hcut
      clear hI3 hbq
      have p1 := hI4.p.box.cell (i := 1) rfl
      by_cases hgt : ys.length < rn
      · have g1 : (ys.length : Int) < (rn : Int) := by omega
        have hR : Hid (RES = ys.map IdsM.l) := by
          show _ = _
          rw [← hRES.out]
          unfold inI
          rw [← hys.out, List.length_map, if_pos hgt]
        have hF : ∃ S', Pl wc pb S' rt RES ∧ FreshS w S S' ∧ Kept S w wc := by
          refine ⟨PlFoot pb (.slice ao' ys.length cap') ys, ⟨_, ys, hR.out, fun k => Iff.rfl, hI4.p⟩, fun k hk => ?_, hI4.k.mono (fun k _ e => (hS k).2 e)⟩
          exact (hI4.fr k hk).imp (fun e => (hS k).2 e) (fun e => by omega)
        clear hI4 hR hS
        go_wp2
        refine bodyPost_ret (results_none rfl _ _ _) rfl ?_
        exact ⟨rfl, hF⟩
      · obtain ⟨k, rfl⟩ : ∃ k, rn = k + 1 := ⟨rn - 1, by omega⟩
        have g1 : ¬ (ys.length : Int) < (k : Int) + 1 := by omega
        have hky : k < ys.length := by omega
        obtain ⟨y, hy⟩ : ∃ y, ys[k]? = some y := ⟨_, List.getElem?_eq_getElem hky⟩
        have hym := List.mem_of_getElem? hy
        obtain ⟨g, off, hao, hg1, hg2, cx, fx, _⟩ := hI4.p.row.setIds hy
        subst hao
        have hAt := hI4.p.row.at_ y hym
        have hlc := hI4.p.room y hym
        have hemp := hI4.p.emp y hym
        have hR : Hid (RES = (ys.map IdsM.l).set k (insT y.l IV)) := by
          show _ = _
          rw [← hRES.out]
          unfold inI
          rw [← hys.out, List.length_map, if_neg hgt, Nat.add_sub_cancel, List.getD_eq_getElem?_getD, List.getElem?_map, hy]
          rfl
        have hy1000 : y.l.length < 1000 := by
          have : y.l ∈ inP ND (xs.map IdsM.l) (k + 1) := by rw [← hys.out]; exact List.mem_map_of_mem hym
          unfold inP at this
          split at this
          · rcases List.mem_append.1 this with h | h
            · obtain ⟨z, hz, e⟩ := List.mem_map.1 h
              rw [← e]
              exact hl2 z hz
            · rw [List.mem_singleton.1 h]; decide
          · obtain ⟨z, hz, e⟩ := List.mem_map.1 this
            rw [← e]
            exact hl2 z hz
        obtain ⟨ya, yc, yl⟩ := y
        have hRow : RowAt strK wc ya yl := hAt.1
        have hnil' : ya = none → yc = 0 := hAt.2
        have cx : wc.cell? ⟨g, off + k, none⟩ = some (.slice ya yl.length yc) := cx
        have hlc : yl.length ≤ yc := hlc
        have hemp : yl = [] → ya = none := hemp
        have hR : Hid (RES = (ys.map IdsM.l).set k (insT yl IV)) := hR
        have hy1000 : yl.length < 1000 := hy1000
        have j1 : ¬ ((k : Int) < 0) := by omega
        have j2 : (k : Int) < (ys.length : Int) := by omega
        have x0 := hI4.x.cell (i := 0) rfl
        have x1 := hI4.x.cell (i := 1) rfl
        have x2 := hI4.x.cell (i := 2) rfl
        have x3 := hI4.x.cell (i := 3) rfl
        simp only at x0 x1 x2 x3
        have hAc : HdrM.At wc ⟨ha, ((k + 1 : Nat) : Int), hra, hrs, hrc, hpa, hps, hpc⟩ := Kind.kept hdrK hA.hdr hI4.k (fun b hb e => hcS b hb ((hS b).2 e))
        clear hAt hym
        go_wp2_with fail
        refine (cI _ hAc).mono ?_
        rintro e w6 ⟨rfl, hb6⟩
        have hI6 := hI4.below hb6
        have hRow6 := hRow.below hb6
        clear hI4 hRow cx x0 x1 x2 x3 hAc p1 fx cI
        obtain ⟨i0, z0, hi0, hz0, hz1, hz2, hz3⟩ := strInfoT
        obtain ⟨lo, hlo⟩ : ∃ z, Hid (insT yl IV = z) := ⟨_, rfl⟩
        rw [hlo.out] at hR
        have hfz : ∀ w', Below w6.heap.size w6 w' → w'.cell? ⟨g, off + k, none⟩ = some (.slice ya yl.length yc) ∧ ∀ o, w'.frozen? ⟨g, o, none⟩ = false := fun w' hb => by
          obtain ⟨g', off', e', _, _, c', f', _⟩ := (hI6.p.below hb).row.setIds hy
          obtain ⟨rfl, rfl⟩ : g = g' ∧ off = off' := by simpa using e'
          exact ⟨c', f'⟩
        go_wp2_with fail
        go_loopw [7] (fun v7 wr => ∃ i : Nat, i ≤ insAt yl IV ∧ v7 = .int .i64 (i : Int) ∧ wr = w6) (fun v _ => insAt yl IV - (intOf v).toNat)
        case atStart => exact ⟨0, Nat.zero_le _, rfl, rfl⟩
        case round =>
          obtain ⟨i, hia, rfl, hwr⟩ := hrel
          have hpl := insAt_le yl IV
          have hnT : Hid (ya = none → yc = 0) := hnil'
          clear hnil'
          rcases (by by_cases h : i < yl.length; exact Or.inl h; exact Or.inr h : i < yl.length ∨ ¬ i < yl.length) with hlt | hlt
          focus
            have g1 : (i : Int) < (yl.length : Int) := by omega
            obtain ⟨x, hx⟩ : ∃ x, yl[i]? = some x := ⟨_, List.getElem?_eq_getElem hlt⟩
            have hst := insAt_step hx hia
            obtain ⟨b, o3, hya, hbl, y0⟩ := hRow6.strs i hlt
            rw [(List.getElem?_eq_some_iff.1 hx).2] at y0
            subst hwr
            clear hx
            rcases Bool.eq_false_or_eq_true (Op.bytesLess x.toList IV.toList) with hls | hls
            · have hlt2 := hst.2 hls
              subst hya
              go_wp2
              go_roundw
              case rel => exact ⟨i + 1, by omega, by go_num, trivial⟩
              case measure => simp [intOf]; omega
            have Hip : Hid (i = insAt yl IV) := by
              have : ¬ i < insAt yl IV := fun h => by rw [hst.1 h] at hls; cases hls
              show i = _
              omega
            subst hya
            clear hst hia
            have hci : (yc = i) = False := by simp; omega
            have hrD : ∀ U, Below wr.heap.size wr U → RowAt strK U (some ⟨b, o3 + i, none⟩) (yl.drop i) := fun U hb => by have := (hRow6.below hb).dropG i; rw [show i * strK.n = i from Nat.mul_one i] at this; exact this
            have hnD : Hid (some (⟨b, o3 + i, none⟩ : Addr) = none → yc - i = 0) := fun h => by cases h
          rotate_left 1
          focus
            have g1 : ¬ (i : Int) < (yl.length : Int) := by omega
            have Hip : Hid (i = insAt yl IV) := by show i = _; omega
            subst hwr
            clear hia
            have hil2 : i = yl.length := by have := Hip.out; omega
            rcases (by cases yl with | nil => exact Or.inl rfl | cons z r => exact Or.inr ⟨z, rfl⟩ : yl = [] ∨ ∃ z, yl[0]? = some z) with hl0 | ⟨z, hz⟩
            focus
              have hya := hemp hl0
              have hc0 := hnT.out hya
              subst hya
              have hci := eq_true (show yc = i by rw [hc0, hil2, hl0]; rfl)
              have hrD : ∀ U, Below wr.heap.size wr U → RowAt strK U none (yl.drop i) := fun U _ => by rw [hl0, List.drop_nil]; exact nil_row _ _
              have hnD : Hid ((none : Option Addr) = none → yc - i = 0) := fun _ => by omega
              clear hc0 hl0 hil2 hemp
            rotate_left 1
            obtain ⟨b, o3, hya, hbl, y0⟩ := hRow6.strs 0 (List.getElem?_eq_some_iff.1 hz).1
            subst hya
            clear hz y0 z
            rcases (by by_cases hcp : yc = i; exact Or.inl hcp; exact Or.inr hcp : yc = i ∨ ¬ yc = i) with hcp | hcp
            focus
              have hci := eq_true hcp
              have hdn : yl.drop i = [] := List.drop_of_length_le (by omega)
              have hrD : ∀ U, Below wr.heap.size wr U → RowAt strK U (some ⟨b, o3, none⟩) (yl.drop i) := fun U _ => by rw [hdn]; exact nil_row _ _
              have hnD : Hid (some (⟨b, o3, none⟩ : Addr) = none → yc - i = 0) := fun h => by cases h
              clear hdn hcp hil2
            rotate_left 1
            have hci := eq_false hcp
            have hrD : ∀ U, Below wr.heap.size wr U → RowAt strK U (some ⟨b, o3 + i, none⟩) (yl.drop i) := fun U hb => by have := (hRow6.below hb).dropG i; rw [show i * strK.n = i from Nat.mul_one i] at this; exact this
            have hnD : Hid (some (⟨b, o3 + i, none⟩ : Addr) = none → yc - i = 0) := fun h => by cases h
            clear hcp hil2
          all_goals
            have hc := fun w' (hb : Below wr.heap.size wr w') => (hI6.p.box.below hb hI6.p.box.lt).cell (i := 1) rfl
            have hbox := hI6.p.box
            have hwk : IntKind.i64.wrap (k : Int) = (k : Int) := by rw [wrap_i64P]; exact Mx.wrap64_small _ (by omega) (by omega)
            have jk : (0 : Int) ≤ (k : Int) := by omega
            have j3 : (0 : Int) ≤ (i : Int) := by omega
            have j4 : (i : Int) ≤ (yc : Int) := by have := Hip.out; omega
            have j5 : (i : Int) ≤ (yl.length : Int) := by have := Hip.out; omega
            have hTl : (yl.take i).length = i := by rw [List.length_take]; have := Hip.out; omega
            have hDl : (yl.drop i).length = yl.length - i := List.length_drop
            have hN3 : Hid (i + 1 + (yl.length - i) = yl.length + 1) := by show i + 1 + (yl.length - i) = yl.length + 1; have := Hip.out; omega
            have hrT := fun U (hb : Below wr.heap.size wr U) => (hRow6.below hb).take i
            have m1 : i ≤ maxLen := by have := Hip.out; unfold maxLen; omega
            have m2 : i * 16 ≤ 140737488355328 := by have := Hip.out; omega
            have m3 : i + 1 ≤ maxLen := by have := Hip.out; unfold maxLen; omega
            have m4 : (i + 1) * 16 ≤ 140737488355328 := by have := Hip.out; omega
            have m5 : yl.length + 1 ≤ maxLen := by unfold maxLen; omega
            have m6 : (yl.length + 1) * 16 ≤ 140737488355328 := by omega
            have HL : Hid (lo = yl.take i ++ IV :: yl.drop i) := by show lo = _; rw [← hlo.out]; unfold insT; rw [← Hip.out]
            have HN : Hid (yl.length + 1 = lo.length) := by
              show yl.length + 1 = lo.length
              rw [HL.out, List.length_append, List.length_cons, hTl, hDl]
              have := Hip.out
              omega
            have hbd : Below wr.heap.size wr wr.drew := below_drewN (Below.refl _ wr) 1
            go_wp2_with fail
            refine wp_region_K (fun w' => Below wr.heap.size wr w') 19 (by kernel_rfl) ?_
            generalize wr.drew = w5 at hbd ⊢
            refine wpAnyK_takeD (i := 0) (v := ?_) (some 81) rfl rfl (by kernel_rfl) (by kernel_rfl) (by kernel_rfl) (by kernel_rfl) (by decide) (fun _ _ _ h => h) (by assumption) (Or.inl ⟨by rfl, ?_⟩) ?_
            rotate_left 1
            · intro w' hSw
              have cF := hc w' hSw
              go_simp
              first | done | with_reducible rfl
            simp only [Act.put, List.setIfInBounds_toArray, List.set_cons_zero, List.set_cons_succ]
            refine wpAnyK_takeD (i := 1) (v := ?_) (some 82) rfl rfl (by kernel_rfl) (by kernel_rfl) (by kernel_rfl) (by kernel_rfl) (by decide) (fun _ _ _ h => h) (by assumption) (Or.inl ⟨by rfl, ?_⟩) ?_
            rotate_left 1
            · intro w' hSw
              have cF := hc w' hSw
              go_simp
              first | done | with_reducible rfl
            simp only [Act.put, List.setIfInBounds_toArray, List.set_cons_zero, List.set_cons_succ]
            refine wpAnyK_takeD (i := 2) (v := ?_) (some 83) rfl rfl (by kernel_rfl) (by kernel_rfl) (by kernel_rfl) (by kernel_rfl) (by decide) (fun _ _ _ h => h) (by assumption) (Or.inl ⟨by rfl, ?_⟩) ?_
            rotate_left 1
            · intro w' hSw
              have cF := hc w' hSw
              go_simp
              first | done | with_reducible rfl
            simp only [Act.put, List.setIfInBounds_toArray, List.set_cons_zero, List.set_cons_succ]
            refine wpAnyK_takeD (i := 3) (v := ?_) (some 84) rfl rfl (by kernel_rfl) (by kernel_rfl) (by kernel_rfl) (by kernel_rfl) (by decide) (fun _ _ _ h => h) (by assumption) (Or.inl ⟨by rfl, ?_⟩) ?_
            rotate_left 1
            · intro w' hSw
              have cF := hc w' hSw
              go_simp
              first | done | with_reducible rfl
            simp only [Act.put, List.setIfInBounds_toArray, List.set_cons_zero, List.set_cons_succ]
            refine wpAnyK_takeD (i := 4) (v := ?_) (some 85) rfl rfl (by kernel_rfl) (by kernel_rfl) (by kernel_rfl) (by kernel_rfl) (by decide) (fun _ _ _ h => h) (by assumption) (Or.inl ⟨by rfl, ?_⟩) ?_
            rotate_left 1
            · intro w' hSw
              have cF := hc w' hSw
              go_simp
              first | done | with_reducible rfl
            simp only [Act.put, List.setIfInBounds_toArray, List.set_cons_zero, List.set_cons_succ]
            refine wpAnyK_takeD (i := 5) (v := ?_) (some 86) rfl rfl (by kernel_rfl) (by kernel_rfl) (by kernel_rfl) (by kernel_rfl) (by decide) (fun _ _ _ h => h) (by assumption) (Or.inl ⟨by rfl, ?_⟩) ?_
            rotate_left 1
            · intro w' hSw
              have cF := hc w' hSw
              go_simp
              first | done | with_reducible rfl
            simp only [Act.put, List.setIfInBounds_toArray, List.set_cons_zero, List.set_cons_succ]
            refine wpAnyK_takeD (i := 7) (v := ?_) (some 88) rfl rfl (by kernel_rfl) (by kernel_rfl) (by kernel_rfl) (by kernel_rfl) (by decide) (fun _ _ _ h => h) (by assumption) (Or.inl ⟨by rfl, ?_⟩) ?_
            rotate_left 1
            · intro w' hSw
              have cF := hc w' hSw
              go_simp
              first | done | with_reducible rfl
            simp only [Act.put, List.setIfInBounds_toArray, List.set_cons_zero, List.set_cons_succ]
            refine wpAnyK_takeD (i := 8) (v := ?_) (some 89) rfl rfl (by kernel_rfl) (by kernel_rfl) (by kernel_rfl) (by kernel_rfl) (by decide) (fun _ _ _ h => h) (by assumption) (Or.inl ⟨by rfl, ?_⟩) ?_
            rotate_left 1
            · intro w' hSw
              have cF := hc w' hSw
              go_simp
              first | done | with_reducible rfl
            simp only [Act.put, List.setIfInBounds_toArray, List.set_cons_zero, List.set_cons_succ]
            refine wpAnyK_takeD (i := 9) (v := ?_) (some 90) rfl rfl (by kernel_rfl) (by kernel_rfl) (by kernel_rfl) (by kernel_rfl) (by decide) (fun _ _ _ h => h) (by assumption) (Or.inl ⟨by rfl, ?_⟩) ?_
            rotate_left 1
            · intro w' hSw
              have cF := hc w' hSw
              go_simp
              first | done | with_reducible rfl
            simp only [Act.put, List.setIfInBounds_toArray, List.set_cons_zero, List.set_cons_succ]
            refine wpAnyK_takeD (i := 11) (v := ?_) (some 92) rfl rfl (by kernel_rfl) (by kernel_rfl) (by kernel_rfl) (by kernel_rfl) (by decide) (fun _ _ _ h => h) (by assumption) (Or.inl ⟨by rfl, ?_⟩) ?_
            rotate_left 1
            · intro w' hSw
              have cF := hc w' hSw
              go_simp
              first | done | with_reducible rfl
            simp only [Act.put, List.setIfInBounds_toArray, List.set_cons_zero, List.set_cons_succ]
            refine wpAnyK_takeD (i := 14) (v := ?_) (some 95) rfl rfl (by kernel_rfl) (by kernel_rfl) (by kernel_rfl) (by kernel_rfl) (by decide) (fun _ _ _ h => h) (by assumption) (Or.inl ⟨by rfl, ?_⟩) ?_
            rotate_left 1
            · intro w' hSw
              have cF := hc w' hSw
              go_simp
              first | done | with_reducible rfl
            simp only [Act.put, List.setIfInBounds_toArray, List.set_cons_zero, List.set_cons_succ]
            refine wpAnyK_takeD (i := 15) (v := ?_) (some 96) rfl rfl (by kernel_rfl) (by kernel_rfl) (by kernel_rfl) (by kernel_rfl) (by decide) (fun _ _ _ h => h) (by assumption) (Or.inl ⟨by rfl, ?_⟩) ?_
            rotate_left 1
            · intro w' hSw
              have cF := hc w' hSw
              go_simp
              first | done | with_reducible rfl
            simp only [Act.put, List.setIfInBounds_toArray, List.set_cons_zero, List.set_cons_succ]
            refine wpAnyK_takeD (i := 16) (v := ?_) (some 97) rfl rfl (by kernel_rfl) (by kernel_rfl) (by kernel_rfl) (by kernel_rfl) (by decide) (fun _ _ _ h => h) (by assumption) (Or.inl ⟨by rfl, ?_⟩) ?_
            rotate_left 1
            · intro w' hSw
              have cF := hc w' hSw
              go_simp
              first | done | with_reducible rfl
            simp only [Act.put, List.setIfInBounds_toArray, List.set_cons_zero, List.set_cons_succ]
            refine wpAnyK_ready (rs := [6, 12]) (by kernel_rfl) (by simp) ?_
            refine AllReadyK.cons rfl (fun K' hK => ?_) ?_
            · go_simp
              have bw6 := hbd.trans ((belowNew w5 (.cells #[] 9)).mono hbd.size)
              have hOw6 : (w5.alloc (.cells #[] 9)).ownsRow wr.heap.size 9 strK.n (.slice (some ⟨w5.heap.size, 0, none⟩) 0 0) 0 [] := World.ownsRow_made w5 #[] 0 hbd.size (by unfold maxLen; omega) (by simp)
              have hsw6 : w5.heap.size < (w5.alloc (.cells #[] 9)).heap.size := by rw [alloc_size]; omega
              obtain ⟨w6, hww6⟩ : ∃ q, w5.alloc (.cells #[] 9) = q := ⟨_, rfl⟩
              rw [hww6] at bw6 hOw6 hsw6 ⊢
              refine hK.out _ _ (fun _ => bw6) ?_
              clear hK K' hww6
              refine wpAnyK_ready (rs := [10, 12]) (by kernel_rfl) (by simp) ?_
              refine AllReadyK.consD (some 91) rfl rfl (fun K' hK => ?_) ?_
              · refine step_ownR (K := strK) w6 (by rfl) _ _ 31 (by rfl) wr.heap.size 9 i0 _ 16 Tryz.underlying31 hi0 hz0 hz1 hz2 hz3 _ _ _ _ _ (by rfl) hOw6 _ _ _ hTl (Nat.zero_add _) (by rfl) (hrT _ bw6) (fun e => hnT.out (by first | exact e | trivial)) m1 m2 bw6.size ?_
                intro aw7 cw7 w7 hOw7 hkw7
                have bw7 := bw6.trans (Kept.below hkw7 bw6.size (fun k hk => (hOw6.lt k hk).1))
                refine hK.out _ _ (fun _ => bw7) ?_
                clear hK K' hkw7
                simp only [Act.put, List.setIfInBounds_toArray, List.set_cons_zero, List.set_cons_succ]
                refine wpAnyK_ready (rs := [12]) (by kernel_rfl) (by simp) ?_
                refine AllReadyK.cons rfl (fun K' hK => ?_) ?_
                · go_simp
                  have bw8 := bw7.trans ((belowNew w7 (.cells #[.string IV] 9)).mono bw7.size)
                  have hRw8 := strOne w7 IV
                  have hsw8 : w7.heap.size < (w7.alloc (.cells #[.string IV] 9)).heap.size := by rw [alloc_size]; omega
                  have hOw8 := own_belowT hOw7 (belowNew w7 (.cells #[.string IV] 9))
                  obtain ⟨w8, hww8⟩ : ∃ q, w7.alloc (.cells #[.string IV] 9) = q := ⟨_, rfl⟩
                  rw [hww8] at bw8 hRw8 hsw8 hOw8 ⊢
                  refine hK.out _ _ (fun _ => bw8) ?_
                  clear hK K' hww8
                  refine wpAnyK_ready (rs := [13]) (by kernel_rfl) (by simp) ?_
                  refine AllReadyK.consD (some 94) rfl rfl (fun K' hK => ?_) ?_
                  · refine step_ownR (K := strK) w8 (by rfl) _ _ 31 (by rfl) wr.heap.size 9 i0 _ 16 Tryz.underlying31 hi0 hz0 hz1 hz2 hz3 _ _ _ _ _ (by rfl) hOw8 _ _ _ rfl rfl (by rfl) hRw8 (fun h => by cases h) m3 m4 bw8.size ?_
                    intro aw9 cw9 w9 hOw9 hkw9
                    have bw9 := bw8.trans (Kept.below hkw9 bw8.size (fun k hk => (hOw8.lt k hk).1))
                    refine hK.out _ _ (fun _ => bw9) ?_
                    clear hK K' hkw9
                    simp only [Act.put, List.setIfInBounds_toArray, List.set_cons_zero, List.set_cons_succ]
                    refine wpAnyK_ready (rs := [17]) (by kernel_rfl) (by simp) ?_
                    refine AllReadyK.consD (some 98) rfl rfl (fun K' hK => ?_) ?_
                    · refine step_ownR (K := strK) w9 (by rfl) _ _ 31 (by rfl) wr.heap.size 9 i0 _ 16 Tryz.underlying31 hi0 hz0 hz1 hz2 hz3 _ _ _ _ _ (by rfl) hOw9 _ _ _ hDl hN3.out (by rfl) (hrD _ bw9) (fun e => hnD.out (by first | exact e | trivial)) m5 m6 bw9.size ?_
                      intro aw10 cw10 w10 hOw10 hkw10
                      have bw10 := bw9.trans (Kept.below hkw10 bw9.size (fun k hk => (hOw9.lt k hk).1))
                      refine hK.out _ _ (fun _ => bw10) ?_
                      clear hK K' hkw10
                      simp only [Act.put, List.setIfInBounds_toArray, List.set_cons_zero, List.set_cons_succ]
                      refine wpAnyK_ready (rs := [18]) (by kernel_rfl) (by simp) ?_
                      refine AllReadyK.cons rfl (fun K' hK => ?_) AllReadyK.nil
                      go_simp
                      refine hK.out _ _ (fun _ => bw10) ?_
                      clear hK K'
                      refine wpAnyK_ready (rs := [19]) (by kernel_rfl) (by simp) ?_
                      refine AllReadyK.cons rfl (fun K' hK => ?_) AllReadyK.nil
                      have cF := (hfz _ bw10).1
                      have fF := (hfz _ bw10).2 (off + k)
                      go_simp
                      have hq := KQ.joined (K := strK) (T := 9) (lo := lo) (fun _ _ h => h.elim) (fun _ => trivial) hOw10 HL.out HN.out
                      obtain ⟨hF, hfr, hkF⟩ := hI6.p.inserted hy bw10 hq HN.out (fun e => by rw [e] at HN; have := HN.out; simp at this) (by have := HN.out; omega) rfl
                      have hFin : ∃ S', Pl (w10.setCell ⟨g, off + k, none⟩ (.slice aw10 (yl.length + 1) cw10)) pb S' rt RES ∧ FreshS w S S' ∧ Kept S w (w10.setCell ⟨g, off + k, none⟩ (.slice aw10 (yl.length + 1) cw10)) := by
                        refine ⟨PlFoot pb _ (ys.set k ⟨aw10, cw10, lo⟩), ⟨_, ys.set k ⟨aw10, cw10, lo⟩, by first | (rw [hR.out, List.map_set]; done) | rw [hR.out, List.map_set, hlo.out], fun j => Iff.rfl, hF⟩, fun j hj => ?_, ?_⟩
                        · rcases hfr j hj with e | e
                          · exact (hI6.fr j e).imp (fun e => (hS j).2 e) (fun e => by omega)
                          · exact Or.inr (by have := hI6.k.size; omega)
                        · have h1 := hI6.k.transOr hkF (fun j hj => (hI6.fr j hj).imp id (fun e => by omega))
                          exact h1.mono (fun j _ e => (hS j).2 e)
                      refine hK.out _ _ (fun h => absurd rfl h) ?_
                      clear hK K'
                      refine wpAnyK_done (by kernel_rfl) ?_ _
                      go_wp2
                      first | go_end0 | refine bodyPost_ret (results_none rfl _ _ _) rfl ?_
                      exact ⟨rfl, hFin⟩
                    exact AllReadyK.nil
                  exact AllReadyK.nil
                exact AllReadyK.nil
              refine AllReadyK.cons rfl (fun K' hK => ?_) ?_
              · go_simp
                have bw11 := bw6.trans ((belowNew w6 (.cells #[.string IV] 9)).mono bw6.size)
                have hRw11 := strOne w6 IV
                have hsw11 : w6.heap.size < (w6.alloc (.cells #[.string IV] 9)).heap.size := by rw [alloc_size]; omega
                have hOw11 := own_belowT hOw6 (belowNew w6 (.cells #[.string IV] 9))
                obtain ⟨w11, hww11⟩ : ∃ q, w6.alloc (.cells #[.string IV] 9) = q := ⟨_, rfl⟩
                rw [hww11] at bw11 hRw11 hsw11 hOw11 ⊢
                refine hK.out _ _ (fun _ => bw11) ?_
                clear hK K' hww11
                refine wpAnyK_ready (rs := [10]) (by kernel_rfl) (by simp) ?_
                refine AllReadyK.consD (some 91) rfl rfl (fun K' hK => ?_) ?_
                · refine step_ownR (K := strK) w11 (by rfl) _ _ 31 (by rfl) wr.heap.size 9 i0 _ 16 Tryz.underlying31 hi0 hz0 hz1 hz2 hz3 _ _ _ _ _ (by rfl) hOw11 _ _ _ hTl (Nat.zero_add _) (by rfl) (hrT _ bw11) (fun e => hnT.out (by first | exact e | trivial)) m1 m2 bw11.size ?_
                  intro aw12 cw12 w12 hOw12 hkw12
                  have bw12 := bw11.trans (Kept.below hkw12 bw11.size (fun k hk => (hOw11.lt k hk).1))
                  have hRw12 := hRw11.kept hkw12 (fun k hk e => by
                    rcases hk with ⟨_, off', e'⟩ | ⟨_, _, f'⟩
                    · simp at e'
                      simp [Value.ownBlock] at e
                      omega
                    · exact f'.elim)
                  refine hK.out _ _ (fun _ => bw12) ?_
                  clear hK K' hkw12
                  simp only [Act.put, List.setIfInBounds_toArray, List.set_cons_zero, List.set_cons_succ]
                  refine wpAnyK_ready (rs := [13]) (by kernel_rfl) (by simp) ?_
                  refine AllReadyK.consD (some 94) rfl rfl (fun K' hK => ?_) ?_
                  · refine step_ownR (K := strK) w12 (by rfl) _ _ 31 (by rfl) wr.heap.size 9 i0 _ 16 Tryz.underlying31 hi0 hz0 hz1 hz2 hz3 _ _ _ _ _ (by rfl) hOw12 _ _ _ rfl rfl (by rfl) hRw12 (fun h => by cases h) m3 m4 bw12.size ?_
                    intro aw13 cw13 w13 hOw13 hkw13
                    have bw13 := bw12.trans (Kept.below hkw13 bw12.size (fun k hk => (hOw12.lt k hk).1))
                    refine hK.out _ _ (fun _ => bw13) ?_
                    clear hK K' hkw13
                    simp only [Act.put, List.setIfInBounds_toArray, List.set_cons_zero, List.set_cons_succ]
                    refine wpAnyK_ready (rs := [17]) (by kernel_rfl) (by simp) ?_
                    refine AllReadyK.consD (some 98) rfl rfl (fun K' hK => ?_) ?_
                    · refine step_ownR (K := strK) w13 (by rfl) _ _ 31 (by rfl) wr.heap.size 9 i0 _ 16 Tryz.underlying31 hi0 hz0 hz1 hz2 hz3 _ _ _ _ _ (by rfl) hOw13 _ _ _ hDl hN3.out (by rfl) (hrD _ bw13) (fun e => hnD.out (by first | exact e | trivial)) m5 m6 bw13.size ?_
                      intro aw14 cw14 w14 hOw14 hkw14
                      have bw14 := bw13.trans (Kept.below hkw14 bw13.size (fun k hk => (hOw13.lt k hk).1))
                      refine hK.out _ _ (fun _ => bw14) ?_
                      clear hK K' hkw14
                      simp only [Act.put, List.setIfInBounds_toArray, List.set_cons_zero, List.set_cons_succ]
                      refine wpAnyK_ready (rs := [18]) (by kernel_rfl) (by simp) ?_
                      refine AllReadyK.cons rfl (fun K' hK => ?_) AllReadyK.nil
                      go_simp
                      refine hK.out _ _ (fun _ => bw14) ?_
                      clear hK K'
                      refine wpAnyK_ready (rs := [19]) (by kernel_rfl) (by simp) ?_
                      refine AllReadyK.cons rfl (fun K' hK => ?_) AllReadyK.nil
                      have cF := (hfz _ bw14).1
                      have fF := (hfz _ bw14).2 (off + k)
                      go_simp
                      have hq := KQ.joined (K := strK) (T := 9) (lo := lo) (fun _ _ h => h.elim) (fun _ => trivial) hOw14 HL.out HN.out
                      obtain ⟨hF, hfr, hkF⟩ := hI6.p.inserted hy bw14 hq HN.out (fun e => by rw [e] at HN; have := HN.out; simp at this) (by have := HN.out; omega) rfl
                      have hFin : ∃ S', Pl (w14.setCell ⟨g, off + k, none⟩ (.slice aw14 (yl.length + 1) cw14)) pb S' rt RES ∧ FreshS w S S' ∧ Kept S w (w14.setCell ⟨g, off + k, none⟩ (.slice aw14 (yl.length + 1) cw14)) := by
                        refine ⟨PlFoot pb _ (ys.set k ⟨aw14, cw14, lo⟩), ⟨_, ys.set k ⟨aw14, cw14, lo⟩, by first | (rw [hR.out, List.map_set]; done) | rw [hR.out, List.map_set, hlo.out], fun j => Iff.rfl, hF⟩, fun j hj => ?_, ?_⟩
                        · rcases hfr j hj with e | e
                          · exact (hI6.fr j e).imp (fun e => (hS j).2 e) (fun e => by omega)
                          · exact Or.inr (by have := hI6.k.size; omega)
                        · have h1 := hI6.k.transOr hkF (fun j hj => (hI6.fr j hj).imp id (fun e => by omega))
                          exact h1.mono (fun j _ e => (hS j).2 e)
                      refine hK.out _ _ (fun h => absurd rfl h) ?_
                      clear hK K'
                      refine wpAnyK_done (by kernel_rfl) ?_ _
                      go_wp2
                      first | go_end0 | refine bodyPost_ret (results_none rfl _ _ _) rfl ?_
                      exact ⟨rfl, hFin⟩
                    exact AllReadyK.nil
                  exact AllReadyK.nil
                exact AllReadyK.nil
              exact AllReadyK.nil
            refine AllReadyK.cons rfl (fun K' hK => ?_) ?_
            · go_simp
              have bw15 := hbd.trans ((belowNew w5 (.cells #[.string IV] 9)).mono hbd.size)
              have hRw15 := strOne w5 IV
              have hsw15 : w5.heap.size < (w5.alloc (.cells #[.string IV] 9)).heap.size := by rw [alloc_size]; omega
              obtain ⟨w15, hww15⟩ : ∃ q, w5.alloc (.cells #[.string IV] 9) = q := ⟨_, rfl⟩
              rw [hww15] at bw15 hRw15 hsw15 ⊢
              refine hK.out _ _ (fun _ => bw15) ?_
              clear hK K' hww15
              refine wpAnyK_ready (rs := [6]) (by kernel_rfl) (by simp) ?_
              refine AllReadyK.cons rfl (fun K' hK => ?_) ?_
              · go_simp
                have bw16 := bw15.trans ((belowNew w15 (.cells #[] 9)).mono bw15.size)
                have hOw16 : (w15.alloc (.cells #[] 9)).ownsRow wr.heap.size 9 strK.n (.slice (some ⟨w15.heap.size, 0, none⟩) 0 0) 0 [] := World.ownsRow_made w15 #[] 0 bw15.size (by unfold maxLen; omega) (by simp)
                have hsw16 : w15.heap.size < (w15.alloc (.cells #[] 9)).heap.size := by rw [alloc_size]; omega
                have hRw16 := hRw15.below (belowNew w15 (.cells #[] 9))
                obtain ⟨w16, hww16⟩ : ∃ q, w15.alloc (.cells #[] 9) = q := ⟨_, rfl⟩
                rw [hww16] at bw16 hOw16 hsw16 hRw16 ⊢
                refine hK.out _ _ (fun _ => bw16) ?_
                clear hK K' hww16
                refine wpAnyK_ready (rs := [10]) (by kernel_rfl) (by simp) ?_
                refine AllReadyK.consD (some 91) rfl rfl (fun K' hK => ?_) ?_
                · refine step_ownR (K := strK) w16 (by rfl) _ _ 31 (by rfl) wr.heap.size 9 i0 _ 16 Tryz.underlying31 hi0 hz0 hz1 hz2 hz3 _ _ _ _ _ (by rfl) hOw16 _ _ _ hTl (Nat.zero_add _) (by rfl) (hrT _ bw16) (fun e => hnT.out (by first | exact e | trivial)) m1 m2 bw16.size ?_
                  intro aw17 cw17 w17 hOw17 hkw17
                  have bw17 := bw16.trans (Kept.below hkw17 bw16.size (fun k hk => (hOw16.lt k hk).1))
                  have hRw17 := hRw16.kept hkw17 (fun k hk e => by
                    rcases hk with ⟨_, off', e'⟩ | ⟨_, _, f'⟩
                    · simp at e'
                      simp [Value.ownBlock] at e
                      omega
                    · exact f'.elim)
                  refine hK.out _ _ (fun _ => bw17) ?_
                  clear hK K' hkw17
                  simp only [Act.put, List.setIfInBounds_toArray, List.set_cons_zero, List.set_cons_succ]
                  refine wpAnyK_ready (rs := [13]) (by kernel_rfl) (by simp) ?_
                  refine AllReadyK.consD (some 94) rfl rfl (fun K' hK => ?_) ?_
                  · refine step_ownR (K := strK) w17 (by rfl) _ _ 31 (by rfl) wr.heap.size 9 i0 _ 16 Tryz.underlying31 hi0 hz0 hz1 hz2 hz3 _ _ _ _ _ (by rfl) hOw17 _ _ _ rfl rfl (by rfl) hRw17 (fun h => by cases h) m3 m4 bw17.size ?_
                    intro aw18 cw18 w18 hOw18 hkw18
                    have bw18 := bw17.trans (Kept.below hkw18 bw17.size (fun k hk => (hOw17.lt k hk).1))
                    refine hK.out _ _ (fun _ => bw18) ?_
                    clear hK K' hkw18
                    simp only [Act.put, List.setIfInBounds_toArray, List.set_cons_zero, List.set_cons_succ]
                    refine wpAnyK_ready (rs := [17]) (by kernel_rfl) (by simp) ?_
                    refine AllReadyK.consD (some 98) rfl rfl (fun K' hK => ?_) ?_
                    · refine step_ownR (K := strK) w18 (by rfl) _ _ 31 (by rfl) wr.heap.size 9 i0 _ 16 Tryz.underlying31 hi0 hz0 hz1 hz2 hz3 _ _ _ _ _ (by rfl) hOw18 _ _ _ hDl hN3.out (by rfl) (hrD _ bw18) (fun e => hnD.out (by first | exact e | trivial)) m5 m6 bw18.size ?_
                      intro aw19 cw19 w19 hOw19 hkw19
                      have bw19 := bw18.trans (Kept.below hkw19 bw18.size (fun k hk => (hOw18.lt k hk).1))
                      refine hK.out _ _ (fun _ => bw19) ?_
                      clear hK K' hkw19
                      simp only [Act.put, List.setIfInBounds_toArray, List.set_cons_zero, List.set_cons_succ]
                      refine wpAnyK_ready (rs := [18]) (by kernel_rfl) (by simp) ?_
                      refine AllReadyK.cons rfl (fun K' hK => ?_) AllReadyK.nil
                      go_simp
                      refine hK.out _ _ (fun _ => bw19) ?_
                      clear hK K'
                      refine wpAnyK_ready (rs := [19]) (by kernel_rfl) (by simp) ?_
                      refine AllReadyK.cons rfl (fun K' hK => ?_) AllReadyK.nil
                      have cF := (hfz _ bw19).1
                      have fF := (hfz _ bw19).2 (off + k)
                      go_simp
                      have hq := KQ.joined (K := strK) (T := 9) (lo := lo) (fun _ _ h => h.elim) (fun _ => trivial) hOw19 HL.out HN.out
                      obtain ⟨hF, hfr, hkF⟩ := hI6.p.inserted hy bw19 hq HN.out (fun e => by rw [e] at HN; have := HN.out; simp at this) (by have := HN.out; omega) rfl
                      have hFin : ∃ S', Pl (w19.setCell ⟨g, off + k, none⟩ (.slice aw19 (yl.length + 1) cw19)) pb S' rt RES ∧ FreshS w S S' ∧ Kept S w (w19.setCell ⟨g, off + k, none⟩ (.slice aw19 (yl.length + 1) cw19)) := by
                        refine ⟨PlFoot pb _ (ys.set k ⟨aw19, cw19, lo⟩), ⟨_, ys.set k ⟨aw19, cw19, lo⟩, by first | (rw [hR.out, List.map_set]; done) | rw [hR.out, List.map_set, hlo.out], fun j => Iff.rfl, hF⟩, fun j hj => ?_, ?_⟩
                        · rcases hfr j hj with e | e
                          · exact (hI6.fr j e).imp (fun e => (hS j).2 e) (fun e => by omega)
                          · exact Or.inr (by have := hI6.k.size; omega)
                        · have h1 := hI6.k.transOr hkF (fun j hj => (hI6.fr j hj).imp id (fun e => by omega))
                          exact h1.mono (fun j _ e => (hS j).2 e)
                      refine hK.out _ _ (fun h => absurd rfl h) ?_
                      clear hK K'
                      refine wpAnyK_done (by kernel_rfl) ?_ _
                      go_wp2
                      first | go_end0 | refine bodyPost_ret (results_none rfl _ _ _) rfl ?_
                      exact ⟨rfl, hFin⟩
                    exact AllReadyK.nil
                  exact AllReadyK.nil
                exact AllReadyK.nil
              exact AllReadyK.nil
            exact AllReadyK.nil
end Go.Proofs.YtmjkbdgcnoenbaaGreatDoor

/- What tusklaw07.Own does: a certificate that shares nothing; nothing old in memory is turned. -/
namespace Go.Proofs.YtmjkbdgcnoenbaaGreatDoor
open Go.RowKit
set_option linter.unusedVariables false

theorem results_certO {fn : Func} {p : Tmp} (h : fn.results = #[.cell p 48]) (tmps : Array Value) (w : World) (g : Nat) (x : CertM)
    (hp : tmps.getD p undef = .pointer (some ⟨g, 0, none⟩)) (hg : Arr w g 48 x.c) :
    (results fn tmps).run Tryz.prog w = .ok x.v w :=
  results_cell_row h tmps w g 48 x.c.toArray (0, 0) _ hp hg Tryz.underlying48 rfl infoCert7

/-- A certificate that shares nothing is handed back. -/
def GotOwnC (W : World) (x : CertM) (e : Ending) (w : World) : Prop :=
  ∃ y : CertM, e = .returned y.v ∧ y.d = x.d ∧ y.At w ∧ (∀ b, y.foot b → W.heap.size ≤ b) ∧ Below W.heap.size W w

theorem ownEmpty (w : World) : (w.alloc (.cells #[] 42)).ownsRow w.heap.size 42 tagK.n (.slice (some ⟨w.heap.size, 0, none⟩) 0 0) 0 [] := World.ownsRow_made w #[] 0 (Nat.le_refl _) (by unfold maxLen; omega) (by simp)

theorem own_belowC {B : Nat} {e : TypeId} {k : Nat} {v : Value} {n : Nat} {xs : List Value} {w w' : World} (h : w.ownsRow B e k v n xs) (hb : Below w.heap.size w w') : w'.ownsRow B e k v n xs := by
  refine ⟨h.1, ?_⟩
  rcases h.2 with h0 | ⟨g, cap, cur, hv, hB, hg, r⟩
  · exact Or.inl h0
  · have hl : g < w.heap.size := (Array.getElem?_eq_some_iff.1 hg).1
    exact Or.inr ⟨g, cap, cur, hv, hB, by rw [hb.block g hl]; exact hg, r⟩
end Go.Proofs.YtmjkbdgcnoenbaaGreatDoor

/- What (*Plays).Cert does: the certificate of an act. -/
namespace Go.Proofs.YtmjkbdgcnoenbaaGreatDoor
open Go Go.RowKit
set_option linter.unusedVariables false

/-- The certificate of an act. -/
def certO (ks : List ByteArray) (f : Nat) (ids : List (List ByteArray)) (o : OpM) : CertD :=
  ⟨hdrO ks f ids o, tagsP ks voteW (idB (hdrO ks f ids o)) o.votes (3 * f + 1)⟩

/-- A certificate is handed back: its header the act's own or a new one, its votes new. -/
def GotCertO (W : World) (ks : List ByteArray) (f : Nat) (ids : List (List ByteArray)) (o : OpM) (e : Ending) (w : World) : Prop :=
  ∃ x : CertM, e = .returned x.v ∧ x.d = certO ks f ids o ∧ x.At w ∧ ((o.wild.round ≠ 0 ∧ x.hdr = o.wild) ∨ (o.wild.round = 0 ∧ ∀ b, x.hdr.foot b → W.heap.size ≤ b)) ∧ (∀ b, rowFoot tagK x.va x.votes b → W.heap.size ≤ b) ∧ Below W.heap.size W w

set_option maxRecDepth 100000 in
set_option maxHeartbeats 4000000 in
theorem playCert_any (pb : Nat) (q : Value) (rt f : Nat) (ks : List ByteArray) (xs : List IdsM) (o : OpM) (w : World) (h : PlAt w pb q rt xs) (hT : Mx.TabAt w rt f ks) (hf : f ≤ 2) (hf1 : 1 ≤ f) (hkl : ks.length = 3 * f + 1) (hks : ∀ k ∈ ks, k.size ≤ 32)
    (h32 : ∀ x ∈ xs, ∀ i ∈ x.l, i.size ≤ 1000) (hA : o.wild.At w) (hV : RowAt boolK w o.va o.votes) (hvl : o.votes.length ≤ maxLen) (hwf : o.wild.round ≠ 0 → o.wild.Fit ∧ (encH o.wild.d).length ≤ 1073741824) (hG : Mx.Glob w) :
    Calls Tryz.prog 18 #[.pointer (some ⟨pb, 0, none⟩), o.v] w fun e w' => GotCertO w ks f (xs.map IdsM.l) o e w' := by
  have cH := fun w1 h1 h2 h3 h4 => playHdr_any pb q rt f ks xs o w1 h1 h2 hf hf1 hkl hks h32 h3 h4
  have hfit : Hid (∀ x : HdrM, x.d = hdrO ks f (xs.map IdsM.l) o → ((o.wild.round ≠ 0 ∧ x = o.wild) ∨ o.wild.round = 0) → x.Fit ∧ (encH x.d).length ≤ 1073741824) := by
    intro x hx hor
    rcases hor with ⟨h1, rfl⟩ | h1
    · exact hwf h1
    · unfold hdrO at hx
      rw [if_pos h1] at hx
      have := hdrP_small (ks := ks) (ids := xs.map IdsM.l) (by omega) (fun l hl => by
        obtain ⟨y, hy, rfl⟩ := List.mem_map.1 hl
        exact h.few' y hy) (fun l hl p hp => by
        obtain ⟨y, hy, rfl⟩ := List.mem_map.1 hl
        exact h32 y hy p hp) hx
      exact ⟨this.1, by omega⟩
  obtain ⟨HO, hHO⟩ : ∃ z, Hid (hdrO ks f (xs.map IdsM.l) o = z) := ⟨_, rfl⟩
  have hfin : Hid (∀ (e : Ending) (w' : World) (x : CertM), e = .returned x.v → x.hdr.d = HO → x.votes = tagsP ks voteW (idB HO) o.votes (3 * f + 1) → x.At w' → ((o.wild.round ≠ 0 ∧ x.hdr = o.wild) ∨ (o.wild.round = 0 ∧ ∀ b, x.hdr.foot b → w.heap.size ≤ b)) → (∀ b, rowFoot tagK x.va x.votes b → w.heap.size ≤ b) → Below w.heap.size w w' → GotCertO w ks f (xs.map IdsM.l) o e w') := fun e w' x h1 h2 h3 h4 h5 h6 h7 =>
    ⟨x, h1, by show (⟨x.hdr.d, x.votes⟩ : CertD) = _; unfold certO; rw [hHO.out, h2, h3], h4, h5, h6, h7⟩
  have cH' : ∀ w1, PlAt w1 pb q rt xs → Mx.TabAt w1 rt f ks → o.wild.At w1 → Mx.Glob w1 → Calls Tryz.prog 11 #[.pointer (some ⟨pb, 0, none⟩), o.v] w1 fun e w' => ∃ x : HdrM, e = .returned x.v ∧ x.d = HO ∧ x.At w' ∧ ((o.wild.round ≠ 0 ∧ x = o.wild) ∨ (o.wild.round = 0 ∧ ∀ b, x.foot b → w1.heap.size ≤ b)) ∧ Below w1.heap.size w1 w' := fun w1 h1 h2 h3 h4 => by
    rw [← hHO.out]
    exact cH w1 h1 h2 h3 h4
  generalize GotCertO w ks f (xs.map IdsM.l) o = GOT at hfin ⊢
  rw [hHO.out] at hfit
  have hwr : Hid (∀ x : HdrM, ((o.wild.round ≠ 0 ∧ x = o.wild) ∨ (o.wild.round = 0 ∧ ∀ b, x.foot b → w.heap.size + 2 ≤ b)) → ∀ b, x.foot b → b < w.heap.size ∨ w.heap.size + 2 ≤ b) := fun x hx b hb => by
    rcases hx with ⟨_, rfl⟩ | ⟨_, hx⟩
    · exact Or.inl (Kind.lt hdrK hA hb)
    · exact Or.inr (hx b hb)
  obtain ⟨hX, hZ, hB⟩ := two_new w 35 48 o.c [.int .i64 0, .int .i64 0, .slice none 0 0, .slice none 0 0, .slice none 0 0]
  have h2 := h.below hB
  have hT2 := hT.below hB
  have hA2 := hA.below hB
  have hG2 := hG.below hB
  have hs2 : Hid (((w.alloc (.cells o.c.toArray 35)).alloc (.cells [.int .i64 0, .int .i64 0, .slice none 0 0, .slice none 0 0, .slice none 0 0].toArray 48)).heap.size = w.heap.size + 2) := by show _ = _; rw [alloc_size, alloc_size]
  unfold OpM.v at cH' ⊢
  unfold OpM.c at hX hZ hB h2 hT2 hA2 hG2 hs2
  clear cH
  obtain ⟨kd, au, bk, od, va, vs, vc, rn, wl⟩ := o
  have x0 := hX.cell (i := 0) rfl
  have x1 := hX.cell (i := 1) rfl
  have x2 := hX.cell (i := 2) rfl
  have x3 := hX.cell (i := 3) rfl
  have x4 := hX.cell (i := 4) rfl
  have x5 := hX.cell (i := 5) rfl
  have x6 := hX.cell (i := 6) rfl
  have x7 := hX.cell (i := 7) rfl
  have x8 := hX.cell (i := 8) rfl
  have x9 := hX.cell (i := 9) rfl
  simp only at cH' ⊢
  go_enter Tryz.func18, Tryz.ntmps18
  go_wp2_with fail
  refine (cH' _ h2 hT2 hA2 hG2).mono ?_
  rintro e wh ⟨x, rfl, hxd, hxA, hxo, hbh⟩
  rw [hs2.out] at hxo
  have hfx := hfit.out x hxd (hxo.imp id And.left)
  have hfo := hwr.out x hxo
  have hIx := idB_size HO
  have hBh := hB.trans (hbh.mono hB.size)
  have hXh := hX.below hbh hX.lt
  have hZh := hZ.below hbh hZ.lt
  have hs3 : w.heap.size + 2 ≤ wh.heap.size := by have := hbh.size; rw [hs2.out] at this; exact this
  clear cH' h2 hT2 hA2 hG2 hX hZ hB hbh x0 x1 x2 x3 x4 x5 x6 x7 x8 x9 hs2 hfit hwr
  have hxo' : (wl.round ≠ 0 ∧ x = wl) ∨ (wl.round = 0 ∧ ∀ b, x.foot b → w.heap.size ≤ b) := hxo.imp id (fun h => ⟨h.1, fun b hb => by have := h.2 b hb; omega⟩)
  clear hxo
  have hbn := belowNew wh (.cells x.c.toArray 33)
  have hH3 := Arr.new wh 33 x.c
  have hX3 := hXh.below hbn hXh.lt
  have hZ3 := hZh.below hbn hZh.lt
  have hB3 := hBh.trans (hbn.mono hBh.size)
  have hx3 := hxA.below hbn
  unfold HdrM.c at hbn hH3 hX3 hZ3 hB3 hx3
  clear hXh hZh hBh hxA hbn
  obtain ⟨IV, hIV⟩ : ∃ z, Hid (idB HO = z) := ⟨_, rfl⟩
  obtain ⟨tl, htl⟩ : ∃ z, Hid (tagsP ks voteW IV vs (3 * f + 1) = z) := ⟨_, rfl⟩
  have his : IV.size ≤ 2000 := by rw [← hIV.out, hIx]; decide
  have cI := fun w1 h1 => refHdrId_any x w1 h1 hfx.1 hfx.2
  have hid' : Mx.bytes (Mx.sumL (encH x.d)) = IV := by rw [hxd]; exact hIV.out
  rw [hid'] at cI
  have cT := fun w1 h1 h2 h3 h4 => playTags_any pb q rt f ks xs voteW IV va vc vs w1 h1 h2 hf hkl hks h3 hvl (by decide) his h4
  rw [htl.out] at cT
  unfold voteW at cT
  unfold HdrM.v at cI ⊢
  clear hid' his hfx hIx
  go_upto_region 2 with fail
  obtain ⟨w3, hw3⟩ : ∃ z, wh.alloc (.cells #[.int .i64 x.author, .int .i64 x.round, .slice x.ra x.refs.length x.rc, .slice x.pa x.parents.length x.pc] 33) = z := ⟨_, rfl⟩
  have hH3 : Arr (wh.alloc (.cells #[.int .i64 x.author, .int .i64 x.round, .slice x.ra x.refs.length x.rc, .slice x.pa x.parents.length x.pc] 33)) wh.heap.size 33 [.int .i64 x.author, .int .i64 x.round, .slice x.ra x.refs.length x.rc, .slice x.pa x.parents.length x.pc] := hH3
  rw [hw3] at hH3 hX3 hZ3 hB3 hx3 ⊢
  clear hw3
  obtain ⟨hb, hhb⟩ : ∃ z, Hid (wh.heap.size = z) := ⟨_, rfl⟩
  rw [hhb.out] at hH3 hs3 ⊢
  have hkp : ∀ U, Kept (fun k => k = w.heap.size + 1) w3 U → (U.cell? ⟨hb, 0, none⟩ = some (.int .i64 x.author) ∧ U.cell? ⟨hb, 1, none⟩ = some (.int .i64 x.round) ∧ U.cell? ⟨hb, 2, none⟩ = some (.slice x.ra x.refs.length x.rc) ∧ U.cell? ⟨hb, 3, none⟩ = some (.slice x.pa x.parents.length x.pc) ∧ U.cell? ⟨w.heap.size, 4, none⟩ = some (.slice va vs.length vc)) := fun U hU => by
    have h1 := hH3.kept hU (show hb ≠ w.heap.size + 1 by omega)
    have h2 := hX3.kept hU (show w.heap.size ≠ w.heap.size + 1 by omega)
    exact ⟨h1.cell (i := 0) rfl, h1.cell (i := 1) rfl, h1.cell (i := 2) rfl, h1.cell (i := 3) rfl, h2.cell (i := 4) rfl⟩
  have bd : Below w3.heap.size w3 w3.drew := below_drewN (Below.refl _ w3) 1
  have kd' : Kept (fun k => k = w.heap.size + 1) w3 w3.drew := Kept.of_below bd
  have hxd3 := hx3.below bd
  have hS0 := hkp _ kd'
  go_region_held3 (fun w' => w'.cell? ⟨hb, 0, none⟩ = some (.int .i64 x.author) ∧ w'.cell? ⟨hb, 1, none⟩ = some (.int .i64 x.round) ∧ w'.cell? ⟨hb, 2, none⟩ = some (.slice x.ra x.refs.length x.rc) ∧ w'.cell? ⟨hb, 3, none⟩ = some (.slice x.pa x.parents.length x.pc) ∧ w'.cell? ⟨w.heap.size, 4, none⟩ = some (.slice va vs.length vc)) (exact hkp _ (by assumption))
    (first
    | (go_at_call 28; refine (cI _ hxd3).mono ?_; rintro e wI ⟨rfl, hbI⟩; have bI : Below w3.heap.size w3 wI := bd.trans hbI; have kI : Kept (fun k => k = w.heap.size + 1) w3 wI := Kept.of_below bI; have BI := hB3.trans (bI.mono hB3.size))
    | (go_at_call 46; refine (cT _ (h.below BI) (hT.below BI) (hV.below BI) (hG.below BI)).mono ?_; rintro e wT ⟨v, rfl, hQT, hbT⟩; have bT : Below w3.heap.size w3 wT := bI.trans (hbT.mono bI.size); have kT : Kept (fun k => k = w.heap.size + 1) w3 wT := Kept.of_below bT; obtain ⟨ta, tc, rfl, tn, tR⟩ := hQT.form; have hZT := hZ3.below bT hZ3.lt; have z0 := hZT.cell (i := 0) rfl; have z1 := hZT.cell (i := 1) rfl; have z2 := hZT.cell (i := 2) rfl; have z3 := hZT.cell (i := 3) rfl; have z4 := hZT.cell (i := 4) rfl; have g0 := hZT.frozen 0; have g1 := hZT.frozen 1; have g2 := hZT.frozen 2; have g3 := hZT.frozen 3; have g4 := hZT.frozen 4; have kG := kT.trans (kept_set5 wT (w.heap.size + 1) (.int .i64 x.author) (.int .i64 x.round) (.slice x.ra x.refs.length x.rc) (.slice x.pa x.parents.length x.pc) (.slice ta tl.length tc))))
  all_goals
    have hfv : ∀ b, rowFoot tagK ta tl b → w3.heap.size ≤ b := fun b hf => Nat.le_trans bI.size (hQT.foot_ge (Nat.le_refl _) (fun _ _ _ h => h.elim) b hf)
    have hw3 := hB3.size
    have hZF := hZT.set5 (.int .i64 x.author) (.int .i64 x.round) (.slice x.ra x.refs.length x.rc) (.slice x.pa x.parents.length x.pc) (.slice ta tl.length tc)
    have k5 := kept_set5 wT (w.heap.size + 1) (.int .i64 x.author) (.int .i64 x.round) (.slice x.ra x.refs.length x.rc) (.slice x.pa x.parents.length x.pc) (.slice ta tl.length tc)
    have hzl := hZ3.lt
    have hxF := Kind.kept hdrK (hx3.below bT) k5 (fun b hb e => by have e' : b = w.heap.size + 1 := e; rcases hfo b hb with h | h <;> omega)
    have hqF := tR.kept k5 (fun b hb e => by have := hfv b hb; have e' : b = w.heap.size + 1 := e; omega)
    have bG := below_set5 (hB3.trans (bT.mono hB3.size)) (g := w.heap.size + 1) (Nat.le_succ _) (.int .i64 x.author) (.int .i64 x.round) (.slice x.ra x.refs.length x.rc) (.slice x.pa x.parents.length x.pc) (.slice ta tl.length tc)
    have fin := hfin.out (.returned (CertM.v ⟨x, ta, tl, tc⟩)) _ ⟨x, ta, tl, tc⟩ rfl hxd (by show tl = _; rw [hIV.out, htl.out]) ⟨hxF, hqF, tn⟩ hxo' (fun b hb => Nat.le_trans hw3 (hfv b hb)) bG
    have hZF : Arr _ (w.heap.size + 1) 48 (CertM.c ⟨x, ta, tl, tc⟩) := hZF
    unfold set5 at hZF fin
    clear hkp hS0 kd' cI cT k5 hxF hqF bG kG
    try go_wp2
    refine bodyPost_ret (v := CertM.v ⟨x, ta, tl, tc⟩) (results_certO rfl _ _ (w.heap.size + 1) ⟨x, ta, tl, tc⟩ rfl hZF) rfl ?_
    exact fin
end Go.Proofs.YtmjkbdgcnoenbaaGreatDoor

/- What tusklaw14.own does (as tusklaw07.Own); nothing old in memory is turned. -/
namespace Go.Proofs.YtmjkbdgcnoenbaaGreatDoor
open Go.RowKit
set_option linter.unusedVariables false

set_option maxRecDepth 100000 in
set_option maxHeartbeats 4000000 in
theorem own14_any (x : CertM) (w : World) (hA : x.At w) (hL : x.hdr.Lens) (hv : x.votes.length * 24 ≤ 140737488351232) :
    Calls Tryz.prog 20 #[x.v] w fun e w' => GotOwnC w x e w' := by
  obtain ⟨h, va, vs, vc⟩ := x
  obtain ⟨hX, hZ, hB⟩ := two_new w 48 48 [.int .i64 h.author, .int .i64 h.round, .slice h.ra h.refs.length h.rc, .slice h.pa h.parents.length h.pc, .slice va vs.length vc] [.int .i64 0, .int .i64 0, .slice none 0 0, .slice none 0 0, .slice none 0 0]
  obtain ⟨i1, hi, hz0, hz1, hz2⟩ := info_parts infoTag6
  have hA1 := hA.below hB
  have hh1 : h.At _ := hA1.hdr
  have hv1 : RowAt tagK _ va vs := hA1.votes
  have hnv : va = none → vc = 0 := hA.nv
  obtain ⟨w1, hw1⟩ : ∃ q, (w.alloc (.cells [.int .i64 h.author, .int .i64 h.round, .slice h.ra h.refs.length h.rc, .slice h.pa h.parents.length h.pc, .slice va vs.length vc].toArray 48)).alloc (.cells [.int .i64 0, .int .i64 0, .slice none 0 0, .slice none 0 0, .slice none 0 0].toArray 48) = q := ⟨_, rfl⟩
  rw [hw1] at hX hZ hB hh1 hv1
  clear hA hA1
  unfold CertM.v
  simp only
  go_enter Tryz.func20, Tryz.ntmps20
  have cO := fun w2 h2 => own6_any h w2 h2 hL
  unfold HdrM.v at cO
  have hkp : ∀ U, Kept (fun k => k = w.heap.size + 1) w1 U → (U.cell? ⟨w.heap.size, 0, none⟩ = some (.int .i64 h.author) ∧ U.cell? ⟨w.heap.size, 1, none⟩ = some (.int .i64 h.round) ∧ U.cell? ⟨w.heap.size, 2, none⟩ = some (.slice h.ra h.refs.length h.rc) ∧ U.cell? ⟨w.heap.size, 3, none⟩ = some (.slice h.pa h.parents.length h.pc) ∧ U.cell? ⟨w.heap.size, 4, none⟩ = some (.slice va vs.length vc)) := fun U hU => by
    have hn : w.heap.size ≠ w.heap.size + 1 := by omega
    have h := hX.kept hU hn
    exact ⟨h.cell (i := 0) rfl, h.cell (i := 1) rfl, h.cell (i := 2) rfl, h.cell (i := 3) rfl, h.cell (i := 4) rfl⟩
  have bd : Below w1.heap.size w1 w1.drew := below_drewN (Below.refl _ w1) 1
  have be : Below w1.heap.size w1 (w1.drew.alloc (.cells #[] 42)) := bd.alloc (Nat.le_refl _) _
  have hd : h.At w1.drew := hh1.below bd
  have he : h.At (w1.drew.alloc (.cells #[] 42)) := hh1.below be
  have kd : Kept (fun k => k = w.heap.size + 1) w1 w1.drew := Kept.of_below bd
  have ke : Kept (fun k => k = w.heap.size + 1) w1 (w1.drew.alloc (.cells #[] 42)) := Kept.of_below be
  have hoE := ownEmpty w1.drew
  have hv' : vs.length * 24 ≤ 140737488351232 := hv
  have n1 : vs.length ≤ maxLen := by unfold maxLen; omega
  have n2 : vs.length * 24 ≤ 140737488355328 := by omega
  have hS0 := hkp _ kd
  have h1z := hZ.lt
  go_wp2_with fail
  clear hw1
  go_region_held3 (fun w' => w'.cell? ⟨w.heap.size, 0, none⟩ = some (.int .i64 h.author) ∧ w'.cell? ⟨w.heap.size, 1, none⟩ = some (.int .i64 h.round) ∧ w'.cell? ⟨w.heap.size, 2, none⟩ = some (.slice h.ra h.refs.length h.rc) ∧ w'.cell? ⟨w.heap.size, 3, none⟩ = some (.slice h.pa h.parents.length h.pc) ∧ w'.cell? ⟨w.heap.size, 4, none⟩ = some (.slice va vs.length vc)) (exact hkp _ (by assumption))
    (first
    | (go_at_call 14; refine (cO _ hd).mono ?_; rintro e w2 ⟨y, rfl, hyd, hy, hyf, hb2⟩; unfold HdrM.v; have bA : Below w1.heap.size w1 w2 := bd.trans hb2; have kA : Kept (fun k => k = w.heap.size + 1) w1 w2 := Kept.of_below bA; have bE := bA.alloc bA.size (.cells #[] 42); have kE : Kept (fun k => k = w.heap.size + 1) w1 _ := Kept.of_below bE; have hv2 := hv1.below bE; have ho2 := ownEmpty w2; have hbs2 := (belowNew w2 (.cells #[] 42)).size; have hyE := hy.below (belowNew w2 (.cells #[] 42)))
    | (go_at_call 14; refine (cO _ he).mono ?_; rintro e w2 ⟨y, rfl, hyd, hy, hyf, hb2⟩; unfold HdrM.v; have bA : Below w1.heap.size w1 w2 := be.trans (hb2.mono be.size); have kA : Kept (fun k => k = w.heap.size + 1) w1 w2 := Kept.of_below bA; have hv2 := hv1.below bA; have ho3 := own_belowC hoE hb2; have hbs3 : w1.heap.size ≤ w2.heap.size := bA.size)
    | (refine step_copyK (K := tagK) _ (by rfl) _ _ 46 (by rfl) w2.heap.size 42 i1 _ 24 Tryz.underlying46 hi hz0 hz1 hz2 rfl _ (by rfl) ho2 va vc vs (by rfl) hv2 (fun _ _ h => h.elim) hnv n1 n2 hbs2 ?_; intro ao3 cap3 w3 hq3 hk3; have bF : Below w1.heap.size w1 w3 := bE.trans (Kept.below hk3 bE.size (fun k hk => by have := (ho2.lt k hk).1; have := bA.size; omega)); have kF : Kept (fun k => k = w.heap.size + 1) w1 w3 := Kept.of_below bF; have hy3 := Kind.kept hdrK hyE hk3 (fun b hb e => by have := (ho2.lt b e).1; have := Kind.lt hdrK hy hb; omega); have hZ3 := hZ.below bF hZ.lt; have z0 := hZ3.cell (i := 0) rfl; have z1 := hZ3.cell (i := 1) rfl; have z2 := hZ3.cell (i := 2) rfl; have z3 := hZ3.cell (i := 3) rfl; have z4 := hZ3.cell (i := 4) rfl; have g0 := hZ3.frozen 0; have g1 := hZ3.frozen 1; have g2 := hZ3.frozen 2; have g3 := hZ3.frozen 3; have g4 := hZ3.frozen 4; have kG := kF.trans (kept_set5 w3 (w.heap.size + 1) (.int .i64 y.author) (.int .i64 y.round) (.slice y.ra y.refs.length y.rc) (.slice y.pa y.parents.length y.pc) (.slice ao3 vs.length cap3)))
    | (refine step_copyK (K := tagK) _ (by rfl) _ _ 46 (by rfl) w1.heap.size 42 i1 _ 24 Tryz.underlying46 hi hz0 hz1 hz2 rfl _ (by rfl) ho3 va vc vs (by rfl) hv2 (fun _ _ h => h.elim) hnv n1 n2 hbs3 ?_; intro ao3 cap3 w3 hq3 hk3; have bF : Below w1.heap.size w1 w3 := bA.trans (Kept.below hk3 bA.size (fun k hk => (ho3.lt k hk).1)); have kF : Kept (fun k => k = w.heap.size + 1) w1 w3 := Kept.of_below bF; have hy3 := Kind.kept hdrK hy hk3 (fun b hb e => by have h1 := hyf b hb; rw [alloc_size] at h1; have h2 : w1.heap.size + 1 ≤ b := h1; simp [Value.ownBlock] at e; omega); have hZ3 := hZ.below bF hZ.lt; have z0 := hZ3.cell (i := 0) rfl; have z1 := hZ3.cell (i := 1) rfl; have z2 := hZ3.cell (i := 2) rfl; have z3 := hZ3.cell (i := 3) rfl; have z4 := hZ3.cell (i := 4) rfl; have g0 := hZ3.frozen 0; have g1 := hZ3.frozen 1; have g2 := hZ3.frozen 2; have g3 := hZ3.frozen 3; have g4 := hZ3.frozen 4; have kG := kF.trans (kept_set5 w3 (w.heap.size + 1) (.int .i64 y.author) (.int .i64 y.round) (.slice y.ra y.refs.length y.rc) (.slice y.pa y.parents.length y.pc) (.slice ao3 vs.length cap3))))
  all_goals
    have hyl : ∀ b, y.foot b → w1.heap.size ≤ b := fun b hb => Nat.le_trans (by first | exact Nat.le_refl _ | (rw [alloc_size]; exact Nat.le_succ _)) (hyf b hb)
    obtain ⟨ao4, cap4, e4, hn4, hrow3⟩ := hq3.form
    simp only [Value.slice.injEq, true_and] at e4
    obtain ⟨rfl, rfl⟩ := e4
    have hql : ∀ b, rowFoot tagK ao3 vs b → w1.heap.size ≤ b := fun b hb => Nat.le_trans (by first | exact Nat.le_refl _ | exact bA.size) (hq3.foot_ge (Nat.le_refl _) (fun _ _ _ h => h.elim) b hb)
    have hZF := hZ3.set5 (.int .i64 y.author) (.int .i64 y.round) (.slice y.ra y.refs.length y.rc) (.slice y.pa y.parents.length y.pc) (.slice ao3 vs.length cap3)
    have k5 := kept_set5 w3 (w.heap.size + 1) (.int .i64 y.author) (.int .i64 y.round) (.slice y.ra y.refs.length y.rc) (.slice y.pa y.parents.length y.pc) (.slice ao3 vs.length cap3)
    have hyF := Kind.kept hdrK hy3 k5 (fun b hb e => by have := hyl b hb; have e' : b = w.heap.size + 1 := e; omega)
    have hqF := hrow3.kept k5 (fun b hb e => by have := hql b hb; have e' : b = w.heap.size + 1 := e; omega)
    have bG := below_set5 (hB.trans (bF.mono hB.size)) (g := w.heap.size + 1) (Nat.le_succ _) (.int .i64 y.author) (.int .i64 y.round) (.slice y.ra y.refs.length y.rc) (.slice y.pa y.parents.length y.pc) (.slice ao3 vs.length cap3)
    have fin : ∀ e, e = .returned (CertM.v ⟨y, ao3, vs, cap3⟩) → GotOwnC w ⟨h, va, vs, vc⟩ e _ := fun e hv => ⟨⟨y, ao3, vs, cap3⟩, hv, (by show (⟨y.d, vs⟩ : CertD) = ⟨h.d, vs⟩; rw [hyd]), ⟨hyF, hqF, hn4⟩, (fun b hb => hb.elim (fun h => by have := hyl b h; have := hB.size; omega) (fun h => by have := hql b h; have := hB.size; omega)), bG⟩
    unfold set5 at hZF fin
    clear hkp hS0 hd he kd ke hoE cO hyl hql k5 hyF hqF bG hrow3 hq3 hk3
    try go_wp2
    refine bodyPost_ret (v := CertM.v ⟨y, ao3, vs, cap3⟩) (results_certO rfl _ _ (w.heap.size + 1) ⟨y, ao3, vs, cap3⟩ rfl hZF) rfl ?_
    exact fin _ rfl
end Go.Proofs.YtmjkbdgcnoenbaaGreatDoor
