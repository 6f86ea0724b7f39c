/- tusklaw05.BatchOrder answers true at all numbers and operations; nothing old in memory is turned. -/
import Derived.Test.YtdnkakmdhdceaaaBatWorks
import Derived.Test.YtdnkakmdhdceaaaBatOwn
import Derived.Test.YtdnkakmdhdceaaaBatOrd
import Derived.Test.YtdnkakmdhdceaaaOpFrame
import Derived.Deep.RegionHeld3
namespace Go.Proofs.Ytdnkakmdhdceaaa
open Go.RowKit
set_option linter.unusedVariables false

/-- What holds in every round. -/
structure Oi (w1 : World) (sz wt i : Nat) (q qi qo : Value) (s : Seal TxM) (li lo : List TxM) (wr : World) : Prop where
  ord : Ord wr w1.heap.size w1.heap.size q qi qo 3 s li lo
  ok : s.Ok
  size : s.size = sz
  wait : s.wait = wt
  num : s.number ≤ i
  data : dl li = dl lo ++ dl s.l
  right : ∀ x ∈ s.l, checkL x.d = 0
  lens : ∀ x ∈ li, x.d.rs.length ≤ 8 ∧ x.d.ws.length ≤ 8
  len : li.length ≤ i
  rank : 100 ≤ i → s.rank + (i - 100) ≤ 1400 ∨ s.rank = 0
  bel : Below w1.heap.size w1 wr

/-- The cells of a row, one behind the other. -/
theorem TxsAt.flat {w : World} {b off : Nat} {l : List TxM} (h : TxsAt w (some ⟨b, off, none⟩) l) : ∀ j u, (flatX l)[j]? = some u → w.cell? ⟨b, off + j, none⟩ = some u := by
  intro j u hu
  have hj := (List.getElem?_eq_some_iff.1 hu).1
  rw [flatX_length] at hj
  have hi : j / 9 < l.length := by omega
  have hx : l[j / 9]? = some l[j / 9] := List.getElem?_eq_getElem hi
  have hr : j % 9 < 9 := Nat.mod_lt _ (by omega)
  have hg := flatX_get l (j / 9) l[j / 9] hx (j % 9) hr
  have e : j / 9 * 9 + j % 9 = j := by omega
  rw [e, hu] at hg
  obtain ⟨⟨b', off', e1, _, hc⟩, _⟩ := h (j / 9) _ hx
  simp at e1
  obtain ⟨rfl, rfl⟩ := e1
  have := hc (j % 9) u hg.symm
  rw [Nat.add_assoc, e] at this
  exact this

/-- A right transaction's lists are short. -/
theorem lens_r {d : TxD} (h : checkL d = 0) : d.rs.length ≤ 8 ∧ d.ws.length ≤ 8 := by
  unfold checkL at h
  split at h
  · omega
  split at h
  · omega
  split at h
  · omega
  split at h
  · omega
  rename_i h4
  exact ⟨keysL_le _ (by omega), keysL_le _ h⟩

theorem tick_size (s : Seal TxM) : s.tick.size = s.size ∧ s.tick.wait = s.wait := by
  unfold Seal.tick
  by_cases h : s.l = []
  · rw [if_pos h]; exact ⟨rfl, rfl⟩
  · rw [if_neg h]
    by_cases h2 : s.seals = true
    · rw [if_pos h2]; exact ⟨rfl, rfl⟩
    · rw [if_neg h2]; exact ⟨rfl, rfl⟩

theorem rank_step {s : Seal TxM} (h : s.Ok) {i : Nat} (hr : 100 ≤ i → s.rank + (i - 100) ≤ 1400 ∨ s.rank = 0) (hw : s.wait ≤ 20) : 100 ≤ i + 1 → s.tick.rank + (i + 1 - 100) ≤ 1400 ∨ s.tick.rank = 0 := by
  intro h1
  have h2 := Seal.rank_tick h
  by_cases h3 : 100 ≤ i
  · rcases hr h3 with h4 | h4
    · by_cases h5 : s.rank = 0
      · exact Or.inr (by omega)
      · exact Or.inl (by omega)
    · exact Or.inr (by omega)
  · have h4 := Seal.rank_le h hw
    exact Or.inl (by omega)

set_option maxRecDepth 100000 in
set_option maxHeartbeats 8000000 in
theorem batchOrder_walk (a b : Int) (ao : Option Addr) (cap : Nat) (l : List OpM) (w : World) (ha : (Lit.int .i64 a).wf = true) (hb : (Lit.int .i64 b).wf = true) (hA : OpsAt w ao l) (hL : ∀ o ∈ l, TxLens o.x.d) (hS : ∀ o ∈ l, TxSizes o.x.d) (hln : l.length ≤ maxLen) :
    Calls Try.prog 5 #[.int .i64 a, .int .i64 b, .slice ao l.length cap] w fun e w' => e = .returned (.bool true) ∧ Below w.heap.size w w' := by
  obtain ⟨i0, hi0, hz0, hz1, hz2⟩ := info_parts infoTx4
  go_enter Try.func5, Try.ntmps5
  go_wp2_with fail
  refine (works05_any _).mono ?_
  rintro e w1 ⟨rfl, hB1⟩
  obtain ⟨sz, hs1, hs2, hsz⟩ := pick_n a 1 16 (by omega) (by omega) (by omega)
  obtain ⟨wt, ht1, ht2, hwt⟩ := pick_n b 1 20 (by omega) (by omega) (by omega)
  replace hsz : wrap64 (1 + wrap64 ((IntKind.u64.wrap a).tmod 16)) = (sz : Int) := hsz
  replace hwt : wrap64 (1 + wrap64 ((IntKind.u64.wrap b).tmod 20)) = (wt : Int) := hwt
  have cN := newSealer_yes 3 sz wt w1 (by omega) (by omega) (by omega) (by omega) (by omega) (by omega)
  go_wp2_with fail
  refine cN.mono ?_
  rintro e w2 ⟨rfl, h2, hb2⟩
  simp only [hsz, hwt]
  clear cN hsz hwt
  have hs16 : sz ≤ 16 := by omega
  have ht20 : wt ≤ 20 := by omega
  have hI0 : Oi w1 sz wt 0 (.slice none 0 0) (.slice none 0 0) (.slice none 0 0) (Seal.new sz wt) [] [] w2 :=
    ⟨⟨h2, TxQ.empty _ _, TxQ.empty _ _, (fun k _ e => by simp [Value.ownBlock] at e), (fun k _ e => by simp [Value.ownBlock] at e), (fun k e => by simp [Value.ownBlock] at e), (fun x hx => by cases hx), (fun x hx => by cases hx), (fun x hx => by cases hx)⟩,
      Seal.new_ok (by omega) (by omega) (by omega) (by omega), rfl, rfl, Nat.le_refl _, rfl, (fun x hx => by cases hx), (fun x hx => by cases hx), Nat.le_refl _, fun h => by omega, hb2⟩
  clear h2 hb2
  go_wp2
  go_loopw [9, 10, 11, 12, 13, 14] (fun v9 v10 v11 v12 v13 v14 wr => ∃ (i : Nat) (q : Value) (s : Seal TxM) (li lo : List TxM), i ≤ 1500 ∧ v12 = .int .i64 (i : Int) ∧ v11 = .int .i64 (s.number : Int) ∧ Oi w1 sz wt i q v9 v10 s li lo wr) (fun _ _ _ v _ _ _ => 1500 - (intOf v).toNat)
  case atStart => exact ⟨0, _, _, _, _, Nat.zero_le _, rfl, rfl, hI0⟩
  case round =>
    clear hI0
    obtain ⟨i, q, s, li, lo, hi, rfl, rfl, hI⟩ := hrel
    by_cases hlt : i < 1500
    · have hlt' : (i : Int) < 1500 := by omega
      have hBr := hB1.trans (hI.bel.mono hB1.size)
      by_cases hA1 : i < l.length
      · by_cases hA2 : i < 100
        · obtain ⟨o, ho⟩ : ∃ o, l[i]? = some o := ⟨l[i], List.getElem?_eq_getElem hA1⟩
          obtain ⟨bo, oo, rfl, hbo, c0, c1, c2, c3, c4, c5, c6, c7, c8, c9⟩ := (hA.below (B := 0) hBr).cells ho
          have hA1' : (i : Int) < (l.length : Int) := by omega
          have hA2' : (i : Int) < 100 := by omega
          by_cases hot : o.tick = true
          · rw [hot] at c0
            go_wp2_with fail
            refine (tick_any _ hI.ord.sl hI.ok (by have := hI.num; omega)).mono ?_
            rintro e w5 ⟨fo, fc, q5, rfl, hfn, hT5, hS5, hk5, hq5⟩
            have hk5' : Kept (SlB w1.heap.size q) wr w5 := hk5.mono (fun k _ e => Or.inl e)
            have hbl5 := hI.bel.trans (hI.ord.sl.keptBelow hk5' (Nat.le_refl _))
            have hf5 : ∀ k, SlB w1.heap.size q5 k → SlB w1.heap.size q k ∨ wr.heap.size ≤ k := fun k hk => by
              rcases hk with rfl | hk
              · exact Or.inl (Or.inl rfl)
              · exact (hq5 k hk).imp (fun h => Or.inr h) id
            have hsub : ∀ y ∈ s.tick.l, y ∈ s.l := fun y hy => by rw [← Seal.tick_order s]; exact List.mem_append_right _ hy
            have hO5 := hI.ord.seal hS5 hk5' hf5 (fun y hy => Or.inl (hsub y hy))
            have hrk := rank_step hI.ok hI.rank (by rw [hI.wait]; exact ht20)
            have htsz : s.tick.size = sz := by rw [(tick_size s).1]; exact hI.size
            have htwt : s.tick.wait = wt := by rw [(tick_size s).2]; exact hI.wait
            have htok := Seal.tick_ok hI.ok
            have htn := Seal.tick_number s
            have hdat : dl li = dl lo ++ (dl s.out ++ dl s.tick.l) := by
              have : dl s.out ++ dl s.tick.l = dl s.l := by rw [← Seal.tick_order s]; simp [dl]
              rw [this]; exact hI.data
            cases hse : s.seals with
            | false =>
              have hou : s.out = [] := by unfold Seal.out; rw [hse]; rfl
              rw [hse] at htn
              replace htn : s.tick.number = s.number := by rw [htn]; rfl
              rw [hou]
              obtain ⟨au5, hau5⟩ : ∃ q, q = (if false = true then (3 : Int) else 0) := ⟨_, rfl⟩
              obtain ⟨nu5, hnu5⟩ : ∃ q, q = (if false = true then (s.number : Int) + 1 else 0) := ⟨_, rfl⟩
              rw [← hau5, ← hnu5]
              unfold batV
              have hbn := belowNew w5 (.cells #[.int .i64 au5, .int .i64 nu5, .slice fo 0 fc] 24)
              have hI6 : Oi w1 sz wt (i + 1) q5 u9 u10 s.tick li lo _ :=
                ⟨hO5.below hbn, htok, htsz, htwt, (by have := hI.num; omega), (by rw [hdat, hou]; rfl), (fun y hy => hI.right y (hsub y hy)), hI.lens, Nat.le_succ_of_le hI.len, hrk, hbl5.trans (hbn.mono hbl5.size)⟩
              have hnn : Hid (s.number = s.tick.number) := htn.symm
              clear hO5 hbl5 hk5 hk5' hS5 hq5 hf5 hsub hrk hdat hT5 hau5 hnu5 hbn htn
              go_wp2
              go_roundw
              case rel => exact ⟨i + 1, q5, s.tick, li, lo, by omega, by go_num, by rw [hnn.out], hI6⟩
              case measure => simp [intOf]; omega
            | true =>
              rw [hse] at htn
              replace htn : s.tick.number = s.number + 1 := by rw [htn]; rfl
              have hol := Seal.out_length hI.ok hse
              have horight : ∀ y ∈ s.out, checkL y.d = 0 := fun y hy => hI.right y (Seal.out_mem hy)
              have hos : s.out.length ≤ sz := by have := hI.size; omega
              have hcap16 : s.out.length ≤ 16 := by omega
              obtain ⟨nu5, hnu5⟩ : ∃ q : Int, Hid (q = (s.number : Int) + 1) := ⟨_, rfl⟩
              have e1 : (if true = true then (3 : Int) else 0) = 3 := rfl
              have e2 : (if true = true then (s.number : Int) + 1 else 0) = nu5 := by rw [hnu5.out]; rfl
              rw [e1, e2]
              clear e1 e2
              have hck : checkB ⟨3, nu5, dl s.out⟩ = 0 := checkB_of (b := ⟨3, nu5, dl s.out⟩) (by show (0 : Int) ≤ 3; decide) (by show (3 : Int) ≤ 6; decide) (by show 1 ≤ nu5; rw [hnu5.out]; omega) (by show nu5 ≤ _; rw [hnu5.out]; have := hI.num; omega) (by show 1 ≤ (dl s.out).length; rw [dl_length]; exact hol.1) (by show (dl s.out).length ≤ 16; rw [dl_length]; exact hcap16) (by intro d hd; obtain ⟨y, hy, rfl⟩ := List.mem_map.1 hd; exact horight y hy)
              have hnb0 : s.number ≤ 1500 := by have := hI.num; omega
              unfold batV
              have hbn := belowNew w5 (.cells #[.int .i64 3, .int .i64 nu5, .slice fo s.out.length fc] 24)
              have hX6 := Arr.new w5 24 [.int .i64 3, .int .i64 nu5, .slice fo s.out.length fc]
              have hO6 := hO5.below hbn
              have hT6 := hT5.below hbn
              have hbl6 := hbl5.trans (hbn.mono hbl5.size)
              have cO := own05_any 3 nu5 fo s.out fc _ hT6 (fun y hy => by have := lens_r (horight y hy); exact ⟨by omega, by omega⟩) (by omega)
              unfold batV at cO
              clear hO5 hT5 hbl5 hbn hk5 hS5
              obtain ⟨ol, holen⟩ : ∃ q, Hid (q = s.out.length) := ⟨_, rfl⟩
              rw [← holen.out] at cO hX6 hol hos hcap16 hO6 hT6 hbl6 ⊢
              go_wp2_with fail
              refine cO.mono ?_
              rintro e w7 ⟨ao7, cap7, m7, rfl, hdm7, hT7, hn7, hb7⟩
              have hX7 := hX6.below hb7 hX6.lt
              have hO7 := hO6.below hb7
              have hT7o := hT6.below hb7
              have hbl7 := hbl6.trans (hb7.mono hbl6.size)
              have cK := batCheck_any 3 nu5 ao7 m7 cap7 w7 hT7
              rw [hdm7, hck] at cK
              unfold batV at cK ⊢
              clear hX6 hO6 hT6 hbl6 hb7 cO
              go_wp2_with fail
              refine cK.mono ?_
              rintro e w8 ⟨rfl, hb8⟩
              have hX8 := hX7.below hb8 hX7.lt
              have hO8 := hO7.below hb8
              have hT8 := hT7o.below hb8
              have hbl8 := hbl7.trans (hb8.mono hbl7.size)
              clear hX7 hO7 hT7o hbl7 hb8 cK hT7 hdm7 hck
              have x0 := hX8.cell (i := 0) rfl
              have x1 := hX8.cell (i := 1) rfl
              have x2 := hX8.cell (i := 2) rfl
              have hn1 : (nu5 != (s.number : Int) + 1) = false := by rw [hnu5.out]; simp
              have hnb : (s.number : Int) + 1 ≤ 1501 := by have := hI.num; omega
              have hos' : ¬ (sz : Int) < (ol : Int) := by omega
              have hos2 : ¬ sz < ol := by omega
              have hol0 : 0 < s.out.length := by rw [← holen.out]; omega
              obtain ⟨b8, o8, hfo⟩ : ∃ b o, fo = some ⟨b, o, none⟩ := by
                obtain ⟨⟨b8, o8, hfo, _⟩, _⟩ := hT8 0 s.out[0] (List.getElem?_eq_getElem hol0)
                exact ⟨b8, o8, hfo⟩
              clear hol0
              subst hfo
              have hflat := hT8.flat
              have hnews : ∀ j u, (flatX s.out)[j]? = some u → w8.cell? ((⟨b8, o8, none⟩ : Addr).add j) = some u := fun j u hu => by rw [Go.WideShapes.add_plain]; exact hflat j u hu
              obtain ⟨qa9, qc9, hq9, _, _⟩ := hO8.ro.form
              subst hq9
              have hrow8 := hO8.ro.row
              have hW1 : w1.heap.size ≤ w8.heap.size := hbl8.size
              have hlil : lo.length + ol ≤ 3100 := by
                have h1 : (dl li).length = (dl lo).length + ((dl s.out).length + (dl s.tick.l).length) := by rw [hdat, List.length_append, List.length_append]
                simp only [dl_length] at h1
                rw [← holen.out] at h1
                have := hI.len
                omega
              have hfl : (flatX s.out).length = ol * 9 := by rw [flatX_length, holen.out]
              have hol1 : 0 < ol := by omega
              clear hflat
              go_wp2_with (at_builtin; refine wpList_append_q rfl _ _ 22 rfl w1.heap.size 40 i0 _ 9 136 Try.underlying22 hi0 hz0 hz1 hz2 rfl (by decide) _ lo.length (flatX lo) rfl hrow8 ⟨b8, o8, none⟩ ol fc (flatX s.out) rfl hol1 hfl hnews (flatX_one _) ?m3 ?m4 hW1 ?_)
              case m3 => unfold maxLen; omega
              case m4 => omega
              intro q6 w6 hrow hgr hfr
              have hoA : ∀ y ∈ s.out, y.At w8 := fun y hy => by
                obtain ⟨j, hj⟩ := List.getElem?_of_mem hy
                exact (hT8 j y hj).2
              have hq6 := hO8.ro.push (m := s.out) hoA (fun y hy => (hI.ord.os y (Seal.out_mem hy)).mono (fun k e => Or.inr e)) (by rw [← holen.out]; exact hol1) (by rw [← holen.out]; exact hrow) hgr hfr
              have hO9 := hO8.pushOut hq6 hgr hfr (fun y hy => ⟨hoA y hy, (hI.ord.sl.at_ y (Seal.out_mem hy)).off_grow (S := fun k => SlB w1.heap.size q k ∨ u9.ownBlock = some k) (TxM.Off.or (hI.ord.sl.off y (Seal.out_mem hy)) ((hI.ord.os y (Seal.out_mem hy)).mono (fun k e => Or.inl e))) (fun k e => by
                rcases e with e | e
                · exact (hf5 k e).imp (fun h => Or.inl h) id
                · exact Or.inl (Or.inr e))⟩)
              have hbl9 : Below w1.heap.size w1 w6 := hbl8.trans ((Kept.of_grown hgr).below hbl8.size (fun k hk => (hO8.ro.lt k hk).1))
              have hI9 : Oi w1 sz wt (i + 1) q5 u9 q6 s.tick li (lo ++ s.out) w6 :=
                ⟨hO9, htok, htsz, htwt, (by have := hI.num; omega), (by rw [hdat]; simp [dl]), (fun y hy => hI.right y (hsub y hy)), hI.lens, Nat.le_succ_of_le hI.len, hrk, hbl9⟩
              obtain ⟨qa6, qc6, hq6e, _, _⟩ := hO9.ro.form
              subst hq6e
              clear hrow hgr hfr hq6 hO9 hO8 hbl8 hbl9 hnews hrow8 hX8 x0 x1 x2 hT8 hoA hf5 hsub hrk hdat hk5' hq5 hI
              have hnn : Hid ((s.number : Int) + 1 = (s.tick.number : Int)) := by show _ = _; rw [htn]; omega
              go_wp2
              go_roundw
              case rel => exact ⟨i + 1, q5, s.tick, li, lo ++ s.out, by omega, by go_num, by rw [← hnn.out], hI9⟩
              case measure => simp [intOf]; omega
          · have hot' : o.tick = false := by simpa using hot
            rw [hot'] at c0
            have hox := (hA i o ho).2.below hBr
            have hol := hL o (List.mem_of_getElem? ho)
            have hoff : ∀ S : Nat → Prop, (∀ k, S k → w.heap.size ≤ k) → o.x.Off S := fun S hS => (hA i o ho).2.off_ge hS
            go_wp2_with fail
            refine (own_any o.x.d o.x.ra o.x.rc o.x.wa o.x.wc _ hox.at_ hox.nr hox.nw hol.1 hol.2).mono ?_
            rintro e w3 ⟨ra3, rc3, wa3, wc3, rfl, hA3, hr3, hw3, hb3⟩
            have hO3 := hI.ord.below hb3
            have hbl3 := hI.bel.trans (hb3.mono hI.bel.size)
            clear c0 c1 c2 c3 c4 c5 c6 c7 c8 c9
            go_wp2_with fail
            refine (add_new (⟨o.x.d, ra3, rc3, wa3, wc3⟩ : TxM) _ hO3.sl hI.ok ⟨hA3, hr3, hw3⟩ hol.1 hol.2).mono ?_
            rintro e w4 ⟨he, x, q', hx, hxo, hS4, hk4, hf4⟩
            replace hx : x.d = o.x.d := hx
            replace he : e = .returned (.int .i64 (addE s o.x.d : Int)) := he
            replace hxo : addE s o.x.d = 0 → x.Off (fun k => k < w3.heap.size) := hxo
            have hbl4 := hbl3.trans (hO3.sl.keptBelow hk4 (Nat.le_refl _))
            by_cases hz : addE s o.x.d = 0
            · have hput : s.put x = { s with l := s.l ++ [x] } := by unfold Seal.put; rw [hx, if_pos hz]
              rw [hput] at hS4
              rw [hz] at he
              subst he
              have hc0 : checkL o.x.d = 0 := by
                unfold addE at hz
                by_cases hc : checkL o.x.d ≠ 0
                · rw [if_pos hc] at hz; exact absurd hz hc
                · omega
              have hO4 := hO3.seal hS4 hk4 hf4 (by
                intro y hy
                replace hy : y ∈ s.l ++ [x] := hy
                rw [List.mem_append, List.mem_singleton] at hy
                rcases hy with hy | rfl
                · exact Or.inl hy
                · exact Or.inr (hxo hz))
              have hok4 := put_ok hI.ok x
              rw [hput] at hok4
              have hB4 := hB1.trans (hbl4.mono hB1.size)
              obtain ⟨bo', oo', e1, hbo', c0, c1, c2, c3, c4, c5, c6, c7, c8, c9⟩ := (hA.below (B := 0) hB4).cells ho
              simp only [Option.some.injEq, Addr.mk.injEq, and_true] at e1
              obtain ⟨rfl, rfl⟩ := e1
              obtain ⟨qa9, qc9, hq9, _, _⟩ := hO4.ri.form
              subst hq9
              have hbn := belowNew w4 (.cells o.x.c.toArray 40)
              have hO5 := hO4.below hbn
              have hbl5 := hbl4.trans (hbn.mono hbl4.size)
              have hox5 := (hA i o ho).2.below (hB4.trans (hbn.mono hB4.size))
              have hnew := new_c w4 o.x
              have hrow5 := hO5.ri.row
              have hll : li.length ≤ 1500 := by have := hI.len; omega
              have hW1 : w1.heap.size ≤ (w4.alloc (.cells o.x.c.toArray 40)).heap.size := hbl5.size
              clear hS4 hk4 hf4 hO3 hbl3 hb3 hA3 hr3 hw3 hput hz hxo hO4
              go_wp2_with (at_builtin; refine wpList_append_q rfl _ _ 22 rfl w1.heap.size 40 i0 _ 9 136 Try.underlying22 hi0 hz0 hz1 hz2 rfl (by decide) _ li.length (flatX li) rfl hrow5 ⟨w4.heap.size, 0, none⟩ 1 1 o.x.c rfl (by decide) rfl hnew (c_one _) ?m3 ?m4 hW1 ?_)
              case m3 => unfold maxLen; omega
              case m4 => omega
              intro q6 w6 hrow hgr hfr
              have hW1w : w.heap.size ≤ w1.heap.size := hB1.size
              have hlow : ∀ k, (SlB w1.heap.size q' k ∨ (u10 : Value).ownBlock = some k) → w.heap.size ≤ k := by
                rintro k ((rfl | h) | h)
                · exact hW1w
                · exact Nat.le_trans hW1w (hO5.sl.lb k h)
                · exact Nat.le_trans hW1w (hO5.ro.lt k h).1
              have hq6 := hO5.ri.push (m := [o.x]) (by intro y hy; simp at hy; rw [hy]; exact hox5) (by intro y hy; simp at hy; rw [hy]; exact hoff _ (fun k e => Nat.le_trans hW1w (hO5.ri.lt k e).1)) (by simp) (by rw [flatX_single]; exact hrow) hgr (fun g hg => by rw [alloc_size]; exact hfr g hg)
              have hO6 := hO5.pushIn hq6 hgr (fun g hg => by rw [alloc_size]; exact hfr g hg) (by intro y hy; simp at hy; rw [hy]; exact ⟨hox5, hoff _ hlow⟩)
              have hbl6 : Below w1.heap.size w1 w6 := hbl5.trans ((Kept.of_grown hgr).below hbl5.size (fun k hk => (hO5.ri.lt k hk).1))
              have hI6 : Oi w1 sz wt (i + 1) q' q6 u10 { s with l := s.l ++ [x] } (li ++ [o.x]) lo w6 := by
                refine ⟨hO6, hok4, hI.size, hI.wait, Nat.le_succ_of_le hI.num, ?_, ?_, ?_, ?_, ?_, hbl6⟩
                · show dl (li ++ [o.x]) = dl lo ++ dl (s.l ++ [x])
                  have e1 : dl (li ++ [o.x]) = dl li ++ [o.x.d] := by simp [dl]
                  have e2 : dl (s.l ++ [x]) = dl s.l ++ [x.d] := by simp [dl]
                  rw [e1, e2, hI.data, hx, List.append_assoc]
                · intro y hy
                  replace hy : y ∈ s.l ++ [x] := hy
                  rw [List.mem_append, List.mem_singleton] at hy
                  rcases hy with hy | rfl
                  · exact hI.right y hy
                  · rw [hx]; exact hc0
                · intro y hy
                  rw [List.mem_append, List.mem_singleton] at hy
                  rcases hy with hy | rfl
                  · exact hI.lens y hy
                  · exact lens_r hc0
                · rw [List.length_append]
                  have := hI.len
                  show li.length + 1 ≤ i + 1
                  omega
                · intro h100
                  have := Seal.rank_le hok4 (by show s.wait ≤ 20; rw [hI.wait]; exact ht20)
                  exact Or.inl (by omega)
              obtain ⟨qa6, qc6, hq6e, _, _⟩ := hO6.ri.form
              subst hq6e
              clear hrow hgr hfr hq6 hO6 hO5 hbl5 hbl6 hI hox5 hnew hrow5 hlow hoff hox c0 c1 c2 c3 c4 c5 c6 c7 c8 c9 hbn
              go_wp2
              go_roundw
              case rel => exact ⟨i + 1, q', { s with l := s.l ++ [x] }, li ++ [o.x], lo, by omega, by go_num, rfl, hI6⟩
              case measure => simp [intOf]; omega
            · have hput : s.put x = s := by unfold Seal.put; rw [hx, if_neg hz]
              rw [hput] at hS4
              have hO4 := hO3.seal hS4 hk4 hf4 (fun y hy => Or.inl hy)
              obtain ⟨er, her⟩ : ∃ q, q = addE s o.x.d := ⟨_, rfl⟩
              rw [← her] at he hz
              subst he
              have hy : ((er : Int) == 0) = false := beq_eq_false_iff_ne.2 (by omega)
              have hI6 : Oi w1 sz wt (i + 1) q' u9 u10 s li lo w4 :=
                ⟨hO4, hI.ok, hI.size, hI.wait, Nat.le_succ_of_le hI.num, hI.data, hI.right, hI.lens, Nat.le_succ_of_le hI.len, (fun h100 => by
                  have := Seal.rank_le hI.ok (by rw [hI.wait]; exact ht20)
                  exact Or.inl (by omega)), hbl4⟩
              clear hS4 hk4 hf4 hO3 hbl3 hb3 hA3 hr3 hw3 hput hxo hO4 hI hoff hox her
              go_wp2
              go_roundw
              case rel => exact ⟨i + 1, q', s, li, lo, by omega, by go_num, rfl, hI6⟩
              case measure => simp [intOf]; omega
        · have hA1' : (i : Int) < (l.length : Int) := by omega
          have hA2' : ¬ (i : Int) < 100 := by omega
          go_wp2_with fail
          refine (tick_any _ hI.ord.sl hI.ok (by have := hI.num; omega)).mono ?_
          rintro e w5 ⟨fo, fc, q5, rfl, hfn, hT5, hS5, hk5, hq5⟩
          have hk5' : Kept (SlB w1.heap.size q) wr w5 := hk5.mono (fun k _ e => Or.inl e)
          have hbl5 := hI.bel.trans (hI.ord.sl.keptBelow hk5' (Nat.le_refl _))
          have hf5 : ∀ k, SlB w1.heap.size q5 k → SlB w1.heap.size q k ∨ wr.heap.size ≤ k := fun k hk => by
            rcases hk with rfl | hk
            · exact Or.inl (Or.inl rfl)
            · exact (hq5 k hk).imp (fun h => Or.inr h) id
          have hsub : ∀ y ∈ s.tick.l, y ∈ s.l := fun y hy => by rw [← Seal.tick_order s]; exact List.mem_append_right _ hy
          have hO5 := hI.ord.seal hS5 hk5' hf5 (fun y hy => Or.inl (hsub y hy))
          have hrk := rank_step hI.ok hI.rank (by rw [hI.wait]; exact ht20)
          have htsz : s.tick.size = sz := by rw [(tick_size s).1]; exact hI.size
          have htwt : s.tick.wait = wt := by rw [(tick_size s).2]; exact hI.wait
          have htok := Seal.tick_ok hI.ok
          have htn := Seal.tick_number s
          have hdat : dl li = dl lo ++ (dl s.out ++ dl s.tick.l) := by
            have : dl s.out ++ dl s.tick.l = dl s.l := by rw [← Seal.tick_order s]; simp [dl]
            rw [this]; exact hI.data
          cases hse : s.seals with
          | false =>
            have hou : s.out = [] := by unfold Seal.out; rw [hse]; rfl
            rw [hse] at htn
            replace htn : s.tick.number = s.number := by rw [htn]; rfl
            rw [hou]
            obtain ⟨au5, hau5⟩ : ∃ q, q = (if false = true then (3 : Int) else 0) := ⟨_, rfl⟩
            obtain ⟨nu5, hnu5⟩ : ∃ q, q = (if false = true then (s.number : Int) + 1 else 0) := ⟨_, rfl⟩
            rw [← hau5, ← hnu5]
            unfold batV
            have hbn := belowNew w5 (.cells #[.int .i64 au5, .int .i64 nu5, .slice fo 0 fc] 24)
            have hI6 : Oi w1 sz wt (i + 1) q5 u9 u10 s.tick li lo _ :=
              ⟨hO5.below hbn, htok, htsz, htwt, (by have := hI.num; omega), (by rw [hdat, hou]; rfl), (fun y hy => hI.right y (hsub y hy)), hI.lens, Nat.le_succ_of_le hI.len, hrk, hbl5.trans (hbn.mono hbl5.size)⟩
            have hnn : Hid (s.number = s.tick.number) := htn.symm
            clear hO5 hbl5 hk5 hk5' hS5 hq5 hf5 hsub hrk hdat hT5 hau5 hnu5 hbn htn
            go_wp2
            go_roundw
            case rel => exact ⟨i + 1, q5, s.tick, li, lo, by omega, by go_num, by rw [hnn.out], hI6⟩
            case measure => simp [intOf]; omega
          | true =>
            rw [hse] at htn
            replace htn : s.tick.number = s.number + 1 := by rw [htn]; rfl
            have hol := Seal.out_length hI.ok hse
            have horight : ∀ y ∈ s.out, checkL y.d = 0 := fun y hy => hI.right y (Seal.out_mem hy)
            have hos : s.out.length ≤ sz := by have := hI.size; omega
            have hcap16 : s.out.length ≤ 16 := by omega
            obtain ⟨nu5, hnu5⟩ : ∃ q : Int, Hid (q = (s.number : Int) + 1) := ⟨_, rfl⟩
            have e1 : (if true = true then (3 : Int) else 0) = 3 := rfl
            have e2 : (if true = true then (s.number : Int) + 1 else 0) = nu5 := by rw [hnu5.out]; rfl
            rw [e1, e2]
            clear e1 e2
            have hck : checkB ⟨3, nu5, dl s.out⟩ = 0 := checkB_of (b := ⟨3, nu5, dl s.out⟩) (by show (0 : Int) ≤ 3; decide) (by show (3 : Int) ≤ 6; decide) (by show 1 ≤ nu5; rw [hnu5.out]; omega) (by show nu5 ≤ _; rw [hnu5.out]; have := hI.num; omega) (by show 1 ≤ (dl s.out).length; rw [dl_length]; exact hol.1) (by show (dl s.out).length ≤ 16; rw [dl_length]; exact hcap16) (by intro d hd; obtain ⟨y, hy, rfl⟩ := List.mem_map.1 hd; exact horight y hy)
            have hnb0 : s.number ≤ 1500 := by have := hI.num; omega
            unfold batV
            have hbn := belowNew w5 (.cells #[.int .i64 3, .int .i64 nu5, .slice fo s.out.length fc] 24)
            have hX6 := Arr.new w5 24 [.int .i64 3, .int .i64 nu5, .slice fo s.out.length fc]
            have hO6 := hO5.below hbn
            have hT6 := hT5.below hbn
            have hbl6 := hbl5.trans (hbn.mono hbl5.size)
            have cO := own05_any 3 nu5 fo s.out fc _ hT6 (fun y hy => by have := lens_r (horight y hy); exact ⟨by omega, by omega⟩) (by omega)
            unfold batV at cO
            clear hO5 hT5 hbl5 hbn hk5 hS5
            obtain ⟨ol, holen⟩ : ∃ q, Hid (q = s.out.length) := ⟨_, rfl⟩
            rw [← holen.out] at cO hX6 hol hos hcap16 hO6 hT6 hbl6 ⊢
            go_wp2_with fail
            refine cO.mono ?_
            rintro e w7 ⟨ao7, cap7, m7, rfl, hdm7, hT7, hn7, hb7⟩
            have hX7 := hX6.below hb7 hX6.lt
            have hO7 := hO6.below hb7
            have hT7o := hT6.below hb7
            have hbl7 := hbl6.trans (hb7.mono hbl6.size)
            have cK := batCheck_any 3 nu5 ao7 m7 cap7 w7 hT7
            rw [hdm7, hck] at cK
            unfold batV at cK ⊢
            clear hX6 hO6 hT6 hbl6 hb7 cO
            go_wp2_with fail
            refine cK.mono ?_
            rintro e w8 ⟨rfl, hb8⟩
            have hX8 := hX7.below hb8 hX7.lt
            have hO8 := hO7.below hb8
            have hT8 := hT7o.below hb8
            have hbl8 := hbl7.trans (hb8.mono hbl7.size)
            clear hX7 hO7 hT7o hbl7 hb8 cK hT7 hdm7 hck
            have x0 := hX8.cell (i := 0) rfl
            have x1 := hX8.cell (i := 1) rfl
            have x2 := hX8.cell (i := 2) rfl
            have hn1 : (nu5 != (s.number : Int) + 1) = false := by rw [hnu5.out]; simp
            have hnb : (s.number : Int) + 1 ≤ 1501 := by have := hI.num; omega
            have hos' : ¬ (sz : Int) < (ol : Int) := by omega
            have hos2 : ¬ sz < ol := by omega
            have hol0 : 0 < s.out.length := by rw [← holen.out]; omega
            obtain ⟨b8, o8, hfo⟩ : ∃ b o, fo = some ⟨b, o, none⟩ := by
              obtain ⟨⟨b8, o8, hfo, _⟩, _⟩ := hT8 0 s.out[0] (List.getElem?_eq_getElem hol0)
              exact ⟨b8, o8, hfo⟩
            clear hol0
            subst hfo
            have hflat := hT8.flat
            have hnews : ∀ j u, (flatX s.out)[j]? = some u → w8.cell? ((⟨b8, o8, none⟩ : Addr).add j) = some u := fun j u hu => by rw [Go.WideShapes.add_plain]; exact hflat j u hu
            obtain ⟨qa9, qc9, hq9, _, _⟩ := hO8.ro.form
            subst hq9
            have hrow8 := hO8.ro.row
            have hW1 : w1.heap.size ≤ w8.heap.size := hbl8.size
            have hlil : lo.length + ol ≤ 3100 := by
              have h1 : (dl li).length = (dl lo).length + ((dl s.out).length + (dl s.tick.l).length) := by rw [hdat, List.length_append, List.length_append]
              simp only [dl_length] at h1
              rw [← holen.out] at h1
              have := hI.len
              omega
            have hfl : (flatX s.out).length = ol * 9 := by rw [flatX_length, holen.out]
            have hol1 : 0 < ol := by omega
            clear hflat
            go_wp2_with (at_builtin; refine wpList_append_q rfl _ _ 22 rfl w1.heap.size 40 i0 _ 9 136 Try.underlying22 hi0 hz0 hz1 hz2 rfl (by decide) _ lo.length (flatX lo) rfl hrow8 ⟨b8, o8, none⟩ ol fc (flatX s.out) rfl hol1 hfl hnews (flatX_one _) ?m3 ?m4 hW1 ?_)
            case m3 => unfold maxLen; omega
            case m4 => omega
            intro q6 w6 hrow hgr hfr
            have hoA : ∀ y ∈ s.out, y.At w8 := fun y hy => by
              obtain ⟨j, hj⟩ := List.getElem?_of_mem hy
              exact (hT8 j y hj).2
            have hq6 := hO8.ro.push (m := s.out) hoA (fun y hy => (hI.ord.os y (Seal.out_mem hy)).mono (fun k e => Or.inr e)) (by rw [← holen.out]; exact hol1) (by rw [← holen.out]; exact hrow) hgr hfr
            have hO9 := hO8.pushOut hq6 hgr hfr (fun y hy => ⟨hoA y hy, (hI.ord.sl.at_ y (Seal.out_mem hy)).off_grow (S := fun k => SlB w1.heap.size q k ∨ u9.ownBlock = some k) (TxM.Off.or (hI.ord.sl.off y (Seal.out_mem hy)) ((hI.ord.os y (Seal.out_mem hy)).mono (fun k e => Or.inl e))) (fun k e => by
              rcases e with e | e
              · exact (hf5 k e).imp (fun h => Or.inl h) id
              · exact Or.inl (Or.inr e))⟩)
            have hbl9 : Below w1.heap.size w1 w6 := hbl8.trans ((Kept.of_grown hgr).below hbl8.size (fun k hk => (hO8.ro.lt k hk).1))
            have hI9 : Oi w1 sz wt (i + 1) q5 u9 q6 s.tick li (lo ++ s.out) w6 :=
              ⟨hO9, htok, htsz, htwt, (by have := hI.num; omega), (by rw [hdat]; simp [dl]), (fun y hy => hI.right y (hsub y hy)), hI.lens, Nat.le_succ_of_le hI.len, hrk, hbl9⟩
            obtain ⟨qa6, qc6, hq6e, _, _⟩ := hO9.ro.form
            subst hq6e
            clear hrow hgr hfr hq6 hO9 hO8 hbl8 hbl9 hnews hrow8 hX8 x0 x1 x2 hT8 hoA hf5 hsub hrk hdat hk5' hq5 hI
            have hnn : Hid ((s.number : Int) + 1 = (s.tick.number : Int)) := by show _ = _; rw [htn]; omega
            go_wp2
            go_roundw
            case rel => exact ⟨i + 1, q5, s.tick, li, lo ++ s.out, by omega, by go_num, by rw [← hnn.out], hI9⟩
            case measure => simp [intOf]; omega
      · have hA1' : ¬ (i : Int) < (l.length : Int) := by omega
        go_wp2_with fail
        refine (tick_any _ hI.ord.sl hI.ok (by have := hI.num; omega)).mono ?_
        rintro e w5 ⟨fo, fc, q5, rfl, hfn, hT5, hS5, hk5, hq5⟩
        have hk5' : Kept (SlB w1.heap.size q) wr w5 := hk5.mono (fun k _ e => Or.inl e)
        have hbl5 := hI.bel.trans (hI.ord.sl.keptBelow hk5' (Nat.le_refl _))
        have hf5 : ∀ k, SlB w1.heap.size q5 k → SlB w1.heap.size q k ∨ wr.heap.size ≤ k := fun k hk => by
          rcases hk with rfl | hk
          · exact Or.inl (Or.inl rfl)
          · exact (hq5 k hk).imp (fun h => Or.inr h) id
        have hsub : ∀ y ∈ s.tick.l, y ∈ s.l := fun y hy => by rw [← Seal.tick_order s]; exact List.mem_append_right _ hy
        have hO5 := hI.ord.seal hS5 hk5' hf5 (fun y hy => Or.inl (hsub y hy))
        have hrk := rank_step hI.ok hI.rank (by rw [hI.wait]; exact ht20)
        have htsz : s.tick.size = sz := by rw [(tick_size s).1]; exact hI.size
        have htwt : s.tick.wait = wt := by rw [(tick_size s).2]; exact hI.wait
        have htok := Seal.tick_ok hI.ok
        have htn := Seal.tick_number s
        have hdat : dl li = dl lo ++ (dl s.out ++ dl s.tick.l) := by
          have : dl s.out ++ dl s.tick.l = dl s.l := by rw [← Seal.tick_order s]; simp [dl]
          rw [this]; exact hI.data
        cases hse : s.seals with
        | false =>
          have hou : s.out = [] := by unfold Seal.out; rw [hse]; rfl
          rw [hse] at htn
          replace htn : s.tick.number = s.number := by rw [htn]; rfl
          rw [hou]
          obtain ⟨au5, hau5⟩ : ∃ q, q = (if false = true then (3 : Int) else 0) := ⟨_, rfl⟩
          obtain ⟨nu5, hnu5⟩ : ∃ q, q = (if false = true then (s.number : Int) + 1 else 0) := ⟨_, rfl⟩
          rw [← hau5, ← hnu5]
          unfold batV
          have hbn := belowNew w5 (.cells #[.int .i64 au5, .int .i64 nu5, .slice fo 0 fc] 24)
          have hI6 : Oi w1 sz wt (i + 1) q5 u9 u10 s.tick li lo _ :=
            ⟨hO5.below hbn, htok, htsz, htwt, (by have := hI.num; omega), (by rw [hdat, hou]; rfl), (fun y hy => hI.right y (hsub y hy)), hI.lens, Nat.le_succ_of_le hI.len, hrk, hbl5.trans (hbn.mono hbl5.size)⟩
          have hnn : Hid (s.number = s.tick.number) := htn.symm
          clear hO5 hbl5 hk5 hk5' hS5 hq5 hf5 hsub hrk hdat hT5 hau5 hnu5 hbn htn
          go_wp2
          go_roundw
          case rel => exact ⟨i + 1, q5, s.tick, li, lo, by omega, by go_num, by rw [hnn.out], hI6⟩
          case measure => simp [intOf]; omega
        | true =>
          rw [hse] at htn
          replace htn : s.tick.number = s.number + 1 := by rw [htn]; rfl
          have hol := Seal.out_length hI.ok hse
          have horight : ∀ y ∈ s.out, checkL y.d = 0 := fun y hy => hI.right y (Seal.out_mem hy)
          have hos : s.out.length ≤ sz := by have := hI.size; omega
          have hcap16 : s.out.length ≤ 16 := by omega
          obtain ⟨nu5, hnu5⟩ : ∃ q : Int, Hid (q = (s.number : Int) + 1) := ⟨_, rfl⟩
          have e1 : (if true = true then (3 : Int) else 0) = 3 := rfl
          have e2 : (if true = true then (s.number : Int) + 1 else 0) = nu5 := by rw [hnu5.out]; rfl
          rw [e1, e2]
          clear e1 e2
          have hck : checkB ⟨3, nu5, dl s.out⟩ = 0 := checkB_of (b := ⟨3, nu5, dl s.out⟩) (by show (0 : Int) ≤ 3; decide) (by show (3 : Int) ≤ 6; decide) (by show 1 ≤ nu5; rw [hnu5.out]; omega) (by show nu5 ≤ _; rw [hnu5.out]; have := hI.num; omega) (by show 1 ≤ (dl s.out).length; rw [dl_length]; exact hol.1) (by show (dl s.out).length ≤ 16; rw [dl_length]; exact hcap16) (by intro d hd; obtain ⟨y, hy, rfl⟩ := List.mem_map.1 hd; exact horight y hy)
          have hnb0 : s.number ≤ 1500 := by have := hI.num; omega
          unfold batV
          have hbn := belowNew w5 (.cells #[.int .i64 3, .int .i64 nu5, .slice fo s.out.length fc] 24)
          have hX6 := Arr.new w5 24 [.int .i64 3, .int .i64 nu5, .slice fo s.out.length fc]
          have hO6 := hO5.below hbn
          have hT6 := hT5.below hbn
          have hbl6 := hbl5.trans (hbn.mono hbl5.size)
          have cO := own05_any 3 nu5 fo s.out fc _ hT6 (fun y hy => by have := lens_r (horight y hy); exact ⟨by omega, by omega⟩) (by omega)
          unfold batV at cO
          clear hO5 hT5 hbl5 hbn hk5 hS5
          obtain ⟨ol, holen⟩ : ∃ q, Hid (q = s.out.length) := ⟨_, rfl⟩
          rw [← holen.out] at cO hX6 hol hos hcap16 hO6 hT6 hbl6 ⊢
          go_wp2_with fail
          refine cO.mono ?_
          rintro e w7 ⟨ao7, cap7, m7, rfl, hdm7, hT7, hn7, hb7⟩
          have hX7 := hX6.below hb7 hX6.lt
          have hO7 := hO6.below hb7
          have hT7o := hT6.below hb7
          have hbl7 := hbl6.trans (hb7.mono hbl6.size)
          have cK := batCheck_any 3 nu5 ao7 m7 cap7 w7 hT7
          rw [hdm7, hck] at cK
          unfold batV at cK ⊢
          clear hX6 hO6 hT6 hbl6 hb7 cO
          go_wp2_with fail
          refine cK.mono ?_
          rintro e w8 ⟨rfl, hb8⟩
          have hX8 := hX7.below hb8 hX7.lt
          have hO8 := hO7.below hb8
          have hT8 := hT7o.below hb8
          have hbl8 := hbl7.trans (hb8.mono hbl7.size)
          clear hX7 hO7 hT7o hbl7 hb8 cK hT7 hdm7 hck
          have x0 := hX8.cell (i := 0) rfl
          have x1 := hX8.cell (i := 1) rfl
          have x2 := hX8.cell (i := 2) rfl
          have hn1 : (nu5 != (s.number : Int) + 1) = false := by rw [hnu5.out]; simp
          have hnb : (s.number : Int) + 1 ≤ 1501 := by have := hI.num; omega
          have hos' : ¬ (sz : Int) < (ol : Int) := by omega
          have hos2 : ¬ sz < ol := by omega
          have hol0 : 0 < s.out.length := by rw [← holen.out]; omega
          obtain ⟨b8, o8, hfo⟩ : ∃ b o, fo = some ⟨b, o, none⟩ := by
            obtain ⟨⟨b8, o8, hfo, _⟩, _⟩ := hT8 0 s.out[0] (List.getElem?_eq_getElem hol0)
            exact ⟨b8, o8, hfo⟩
          clear hol0
          subst hfo
          have hflat := hT8.flat
          have hnews : ∀ j u, (flatX s.out)[j]? = some u → w8.cell? ((⟨b8, o8, none⟩ : Addr).add j) = some u := fun j u hu => by rw [Go.WideShapes.add_plain]; exact hflat j u hu
          obtain ⟨qa9, qc9, hq9, _, _⟩ := hO8.ro.form
          subst hq9
          have hrow8 := hO8.ro.row
          have hW1 : w1.heap.size ≤ w8.heap.size := hbl8.size
          have hlil : lo.length + ol ≤ 3100 := by
            have h1 : (dl li).length = (dl lo).length + ((dl s.out).length + (dl s.tick.l).length) := by rw [hdat, List.length_append, List.length_append]
            simp only [dl_length] at h1
            rw [← holen.out] at h1
            have := hI.len
            omega
          have hfl : (flatX s.out).length = ol * 9 := by rw [flatX_length, holen.out]
          have hol1 : 0 < ol := by omega
          clear hflat
          go_wp2_with (at_builtin; refine wpList_append_q rfl _ _ 22 rfl w1.heap.size 40 i0 _ 9 136 Try.underlying22 hi0 hz0 hz1 hz2 rfl (by decide) _ lo.length (flatX lo) rfl hrow8 ⟨b8, o8, none⟩ ol fc (flatX s.out) rfl hol1 hfl hnews (flatX_one _) ?m3 ?m4 hW1 ?_)
          case m3 => unfold maxLen; omega
          case m4 => omega
          intro q6 w6 hrow hgr hfr
          have hoA : ∀ y ∈ s.out, y.At w8 := fun y hy => by
            obtain ⟨j, hj⟩ := List.getElem?_of_mem hy
            exact (hT8 j y hj).2
          have hq6 := hO8.ro.push (m := s.out) hoA (fun y hy => (hI.ord.os y (Seal.out_mem hy)).mono (fun k e => Or.inr e)) (by rw [← holen.out]; exact hol1) (by rw [← holen.out]; exact hrow) hgr hfr
          have hO9 := hO8.pushOut hq6 hgr hfr (fun y hy => ⟨hoA y hy, (hI.ord.sl.at_ y (Seal.out_mem hy)).off_grow (S := fun k => SlB w1.heap.size q k ∨ u9.ownBlock = some k) (TxM.Off.or (hI.ord.sl.off y (Seal.out_mem hy)) ((hI.ord.os y (Seal.out_mem hy)).mono (fun k e => Or.inl e))) (fun k e => by
            rcases e with e | e
            · exact (hf5 k e).imp (fun h => Or.inl h) id
            · exact Or.inl (Or.inr e))⟩)
          have hbl9 : Below w1.heap.size w1 w6 := hbl8.trans ((Kept.of_grown hgr).below hbl8.size (fun k hk => (hO8.ro.lt k hk).1))
          have hI9 : Oi w1 sz wt (i + 1) q5 u9 q6 s.tick li (lo ++ s.out) w6 :=
            ⟨hO9, htok, htsz, htwt, (by have := hI.num; omega), (by rw [hdat]; simp [dl]), (fun y hy => hI.right y (hsub y hy)), hI.lens, Nat.le_succ_of_le hI.len, hrk, hbl9⟩
          obtain ⟨qa6, qc6, hq6e, _, _⟩ := hO9.ro.form
          subst hq6e
          clear hrow hgr hfr hq6 hO9 hO8 hbl8 hbl9 hnews hrow8 hX8 x0 x1 x2 hT8 hoA hf5 hsub hrk hdat hk5' hq5 hI
          have hnn : Hid ((s.number : Int) + 1 = (s.tick.number : Int)) := by show _ = _; rw [htn]; omega
          go_wp2
          go_roundw
          case rel => exact ⟨i + 1, q5, s.tick, li, lo ++ s.out, by omega, by go_num, by rw [← hnn.out], hI9⟩
          case measure => simp [intOf]; omega
    · have hie : i = 1500 := by omega
      have hlt' : ¬ (i : Int) < 1500 := by omega
      have hnil : s.l = [] := by
        refine Seal.rank_zero hI.ok ?_
        rcases hI.rank (by omega) with h | h
        · omega
        · exact h
      have hdd : dl li = dl lo := by rw [hI.data, hnil]; simp [dl]
      have hll : lo.length = li.length := by rw [← dl_length lo, ← hdd, dl_length]
      have cW := waits_any wr hI.ord.sl
      rw [hnil] at cW
      obtain ⟨qa1, qc1, hq1, _, hT1⟩ := hI.ord.ri.form
      obtain ⟨qa2, qc2, hq2, _, hT2⟩ := hI.ord.ro.form
      have hLs := hI.lens
      have hbl := hI.bel
      have hlen := hI.len
      rw [hll] at hq2
      clear hI hnil hlt
      subst hq1 hq2
      go_wp2_with fail
      refine cW.mono ?_
      rintro e wq ⟨rfl, rfl⟩
      clear cW
      have hB0 := hB1.trans (hbl.mono hB1.size)
      go_wp2
      go_loopw [15] (fun v wr => ∃ k : Nat, k ≤ li.length ∧ v = .int .i64 (k : Int) ∧ Below wq.heap.size wq wr) (fun v _ => li.length - (intOf v).toNat)
      case atStart => exact ⟨0, Nat.zero_le _, rfl, Below.refl _ _⟩
      case round =>
        obtain ⟨k, hk, rfl, hbk⟩ := hrel
        by_cases hlt : k < li.length
        · obtain ⟨x, hx⟩ : ∃ x, li[k]? = some x := ⟨li[k], List.getElem?_eq_getElem hlt⟩
          obtain ⟨y, hy⟩ : ∃ y, lo[k]? = some y := ⟨lo[k]'(by omega), List.getElem?_eq_getElem (by omega)⟩
          obtain ⟨b1, off1, rfl, hbl1, p0, p1, p2, p3, p4, p5, p6, p7, p8⟩ := (hT1.below hbk).cells hx
          obtain ⟨b2, off2, rfl, hbl2, q0, q1, q2, q3, q4, q5, q6, q7, q8⟩ := (hT2.below hbk).cells hy
          have hAt := (hT1 k x hx).2.below hbk
          have hAt2 := (hT2 k y hy).2.below hbk
          have hxy := dl_get hdd hx hy
          have hl1 := hLs x (List.mem_of_getElem? hx)
          have cC := fun w1 (h : TxAt w1 x.d x.ra x.wa) (h2 : TxAt w1 x.d y.ra y.wa) => sameTx_any x.d x.ra x.rc x.wa x.wc y.ra y.rc y.wa y.wc w1 h h2 (by omega) (by omega)
          have ht2 := hAt2.at_
          rw [hxy] at q0 q1 q2 q3 q4 q5 q6 q7 q8 ht2
          have ht1 := hAt.at_
          have hSc : (wr.cell? ⟨b1, off1 + k * 9, none⟩ = some (.int .i64 x.d.kind) ∧ wr.cell? ⟨b1, off1 + k * 9 + 1, none⟩ = some (.string x.d.frm) ∧ wr.cell? ⟨b1, off1 + k * 9 + 2, none⟩ = some (.string x.d.to) ∧ wr.cell? ⟨b1, off1 + k * 9 + 3, none⟩ = some (.int .u64 (x.d.amt : Int)) ∧ wr.cell? ⟨b1, off1 + k * 9 + 4, none⟩ = some (.int .u64 (x.d.non : Int)) ∧ wr.cell? ⟨b1, off1 + k * 9 + 5, none⟩ = some (.string x.d.key) ∧ wr.cell? ⟨b1, off1 + k * 9 + 6, none⟩ = some (.string x.d.val) ∧ wr.cell? ⟨b1, off1 + k * 9 + 7, none⟩ = some (.slice x.ra x.d.rs.length x.rc) ∧ wr.cell? ⟨b1, off1 + k * 9 + 8, none⟩ = some (.slice x.wa x.d.ws.length x.wc)) ∧ (wr.cell? ⟨b2, off2 + k * 9, none⟩ = some (.int .i64 x.d.kind) ∧ wr.cell? ⟨b2, off2 + k * 9 + 1, none⟩ = some (.string x.d.frm) ∧ wr.cell? ⟨b2, off2 + k * 9 + 2, none⟩ = some (.string x.d.to) ∧ wr.cell? ⟨b2, off2 + k * 9 + 3, none⟩ = some (.int .u64 (x.d.amt : Int)) ∧ wr.cell? ⟨b2, off2 + k * 9 + 4, none⟩ = some (.int .u64 (x.d.non : Int)) ∧ wr.cell? ⟨b2, off2 + k * 9 + 5, none⟩ = some (.string x.d.key) ∧ wr.cell? ⟨b2, off2 + k * 9 + 6, none⟩ = some (.string x.d.val) ∧ wr.cell? ⟨b2, off2 + k * 9 + 7, none⟩ = some (.slice y.ra x.d.rs.length y.rc) ∧ wr.cell? ⟨b2, off2 + k * 9 + 8, none⟩ = some (.slice y.wa x.d.ws.length y.wc)) := ⟨⟨p0, p1, p2, p3, p4, p5, p6, p7, p8⟩, ⟨q0, q1, q2, q3, q4, q5, q6, q7, q8⟩⟩
          have hcs : ∀ w2, Below wr.heap.size wr w2 → ((w2.cell? ⟨b1, off1 + k * 9, none⟩ = some (.int .i64 x.d.kind) ∧ w2.cell? ⟨b1, off1 + k * 9 + 1, none⟩ = some (.string x.d.frm) ∧ w2.cell? ⟨b1, off1 + k * 9 + 2, none⟩ = some (.string x.d.to) ∧ w2.cell? ⟨b1, off1 + k * 9 + 3, none⟩ = some (.int .u64 (x.d.amt : Int)) ∧ w2.cell? ⟨b1, off1 + k * 9 + 4, none⟩ = some (.int .u64 (x.d.non : Int)) ∧ w2.cell? ⟨b1, off1 + k * 9 + 5, none⟩ = some (.string x.d.key) ∧ w2.cell? ⟨b1, off1 + k * 9 + 6, none⟩ = some (.string x.d.val) ∧ w2.cell? ⟨b1, off1 + k * 9 + 7, none⟩ = some (.slice x.ra x.d.rs.length x.rc) ∧ w2.cell? ⟨b1, off1 + k * 9 + 8, none⟩ = some (.slice x.wa x.d.ws.length x.wc)) ∧ (w2.cell? ⟨b2, off2 + k * 9, none⟩ = some (.int .i64 x.d.kind) ∧ w2.cell? ⟨b2, off2 + k * 9 + 1, none⟩ = some (.string x.d.frm) ∧ w2.cell? ⟨b2, off2 + k * 9 + 2, none⟩ = some (.string x.d.to) ∧ w2.cell? ⟨b2, off2 + k * 9 + 3, none⟩ = some (.int .u64 (x.d.amt : Int)) ∧ w2.cell? ⟨b2, off2 + k * 9 + 4, none⟩ = some (.int .u64 (x.d.non : Int)) ∧ w2.cell? ⟨b2, off2 + k * 9 + 5, none⟩ = some (.string x.d.key) ∧ w2.cell? ⟨b2, off2 + k * 9 + 6, none⟩ = some (.string x.d.val) ∧ w2.cell? ⟨b2, off2 + k * 9 + 7, none⟩ = some (.slice y.ra x.d.rs.length y.rc) ∧ w2.cell? ⟨b2, off2 + k * 9 + 8, none⟩ = some (.slice y.wa x.d.ws.length y.wc))) := by
            intro w2 hb2
            have c := fun (g o : Nat) (v : Value) (h : g < wr.heap.size) (hc : wr.cell? ⟨g, o, none⟩ = some v) => (hb2.cell (p := ⟨g, o, none⟩) h).trans hc
            exact ⟨⟨c _ _ _ hbl1 p0, c _ _ _ hbl1 p1, c _ _ _ hbl1 p2, c _ _ _ hbl1 p3, c _ _ _ hbl1 p4, c _ _ _ hbl1 p5, c _ _ _ hbl1 p6, c _ _ _ hbl1 p7, c _ _ _ hbl1 p8⟩, ⟨c _ _ _ hbl2 q0, c _ _ _ hbl2 q1, c _ _ _ hbl2 q2, c _ _ _ hbl2 q3, c _ _ _ hbl2 q4, c _ _ _ hbl2 q5, c _ _ _ hbl2 q6, c _ _ _ hbl2 q7, c _ _ _ hbl2 q8⟩⟩
          have hbd : Below wr.heap.size wr wr.drew := below_drewN (Below.refl _ _) 1
          have hk' : (k : Int) < (li.length : Int) := by omega
          clear p0 p1 p2 p3 p4 p5 p6 p7 p8 q0 q1 q2 q3 q4 q5 q6 q7 q8 hAt hAt2 hx hy hl1
          go_wp2_with fail
          go_region_held3 (fun w' => (w'.cell? ⟨b1, off1 + k * 9, none⟩ = some (.int .i64 x.d.kind) ∧ w'.cell? ⟨b1, off1 + k * 9 + 1, none⟩ = some (.string x.d.frm) ∧ w'.cell? ⟨b1, off1 + k * 9 + 2, none⟩ = some (.string x.d.to) ∧ w'.cell? ⟨b1, off1 + k * 9 + 3, none⟩ = some (.int .u64 (x.d.amt : Int)) ∧ w'.cell? ⟨b1, off1 + k * 9 + 4, none⟩ = some (.int .u64 (x.d.non : Int)) ∧ w'.cell? ⟨b1, off1 + k * 9 + 5, none⟩ = some (.string x.d.key) ∧ w'.cell? ⟨b1, off1 + k * 9 + 6, none⟩ = some (.string x.d.val) ∧ w'.cell? ⟨b1, off1 + k * 9 + 7, none⟩ = some (.slice x.ra x.d.rs.length x.rc) ∧ w'.cell? ⟨b1, off1 + k * 9 + 8, none⟩ = some (.slice x.wa x.d.ws.length x.wc)) ∧ (w'.cell? ⟨b2, off2 + k * 9, none⟩ = some (.int .i64 x.d.kind) ∧ w'.cell? ⟨b2, off2 + k * 9 + 1, none⟩ = some (.string x.d.frm) ∧ w'.cell? ⟨b2, off2 + k * 9 + 2, none⟩ = some (.string x.d.to) ∧ w'.cell? ⟨b2, off2 + k * 9 + 3, none⟩ = some (.int .u64 (x.d.amt : Int)) ∧ w'.cell? ⟨b2, off2 + k * 9 + 4, none⟩ = some (.int .u64 (x.d.non : Int)) ∧ w'.cell? ⟨b2, off2 + k * 9 + 5, none⟩ = some (.string x.d.key) ∧ w'.cell? ⟨b2, off2 + k * 9 + 6, none⟩ = some (.string x.d.val) ∧ w'.cell? ⟨b2, off2 + k * 9 + 7, none⟩ = some (.slice y.ra x.d.rs.length y.rc) ∧ w'.cell? ⟨b2, off2 + k * 9 + 8, none⟩ = some (.slice y.wa x.d.ws.length y.wc))) (exact hcs _ (by assumption))
            (first
            | (go_at_call 21; refine (cC _ (ht1.below hbd) (ht2.below hbd)).mono ?_; rintro e wA ⟨rfl, hbA⟩; have hbA' := hbd.trans (Below.mono hbA hbd.size)))
          have hb4 := hbk.trans (hbA'.mono hbk.size)
          clear hcs hSc hbd hbA hbA' ht1 ht2
          go_wp2
          go_roundw
          case rel => exact ⟨k + 1, by omega, by go_num, hb4⟩
          case measure => simp [intOf]; omega
        · have hk' : ¬ (k : Int) < (li.length : Int) := by omega
          go_wp2
          go_ret
          exact ⟨rfl, hB0.trans (hbk.mono hB0.size)⟩
end Go.Proofs.Ytdnkakmdhdceaaa
