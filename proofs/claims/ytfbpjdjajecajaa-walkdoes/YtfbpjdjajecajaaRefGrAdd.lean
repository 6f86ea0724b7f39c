/- The reference takes a vertex in. -/
import Derived.Test.YtfbpjdjajecajaaRefGr
import Derived.Test.YtfbpjdjajecajaaWalkRows
import Derived.Deep.DeepCutAuto
namespace Go.Proofs.Ytfbpjdjajecajaa
open Go Go.RowKit
set_option linter.unusedVariables false

theorem ptrOne (w : World) (T : TypeId) (x : Nat) : RowAt ptrP (w.alloc (.cells #[.pointer (some ⟨x, 0, none⟩)] T)) (some ⟨w.heap.size, 0, none⟩) [x] := by
  have hX := Arr.new w T [.pointer (some ⟨x, 0, none⟩)]
  refine ⟨fun i y hy => ?_, fun _ _ => trivial⟩
  cases i with
  | succ k => simp at hy
  | zero =>
    simp only [List.getElem?_cons_zero, Option.some.injEq] at hy
    subst hy
    refine ⟨_, _, rfl, hX.lt, fun q v hv => ?_⟩
    have h0 := hX.cell (i := q) (v := v) hv
    have e : 0 + 0 * ptrP.n + q = q := by omega
    rw [e]
    exact h0

/-- A new vertex is put between. -/
theorem RG16.ins {w W : World} {gb : Nat} {S : Nat → Prop} {g g' : GrD} {q q' : Value} {xs : List VtR} (h : RG16 w gb S g) (hG : RGr w gb q g.low xs) (h3 : ∀ k, RGt gb q xs k → S k) (hok : GrOk g') (A : Nat) (x : VtR) (hlow : g'.low = g.low) (hL : g'.L = (xs.take A ++ x :: xs.drop A).map (·.d)) (hb : Below w.heap.size w W)
    (hX : Arr W x.rb 55 (vtR.c x)) (hR : RowAt textK W x.pa x.d.parents) (hge : w.heap.size ≤ x.rb) (hgf : ∀ k, rowFoot textK x.pa x.d.parents k → w.heap.size ≤ k ∧ k < x.rb) {B : Nat} (hxB : x.rb < B) (hBw : w.heap.size ≤ B)
    (hq : KQ ptrP 52 W B q' ((xs.take A ++ x :: xs.drop A).map VtR.rb)) : ∃ S', RG16 (W.setCell ⟨gb, 0, none⟩ q') gb S' g' ∧ FreshS w S S' ∧ Kept S w (W.setCell ⟨gb, 0, none⟩ q') := by
  obtain ⟨zs, hzs⟩ : ∃ z, xs.take A ++ x :: xs.drop A = z := ⟨_, rfl⟩
  have hz : ∀ z ∈ zs, z ∈ xs ∨ z ∈ [x] := fun z hz => by
    rw [← hzs] at hz
    rcases List.mem_append.1 hz with m | m
    · exact Or.inl (List.mem_of_mem_take m)
    · rcases List.mem_cons.1 m with m | m
      · exact Or.inr (by rw [m]; exact List.mem_singleton.2 rfl)
      · exact Or.inl (List.mem_of_mem_drop m)
  have hold : ∀ y ∈ xs, vtR.rb y ≠ vtR.rb x := fun y hy e => by
    have := (hG.row.box y hy).lt
    have e' : y.rb = x.rb := e
    have t : y.rb < w.heap.size := this
    omega
  have hap : zs.Pairwise (fun x y => vtR.rb x ≠ vtR.rb y) := by
    rw [← hzs]
    refine List.pairwise_append.2 ⟨hG.row.apart.sublist (List.take_sublist _ _), List.pairwise_cons.2 ⟨fun u hu => (hold u (List.mem_of_mem_drop hu)).symm, hG.row.apart.sublist (List.drop_sublist _ _)⟩, fun u hu y hy => ?_⟩
    rcases List.mem_cons.1 hy with e | e
    · rw [e]; exact hold u (List.mem_of_mem_take hu)
    · exact (List.pairwise_append.1 (by rw [List.take_append_drop]; exact hG.row.apart : (xs.take A ++ xs.drop A).Pairwise _)).2.2 u hu y e
  rw [hzs] at hq hL
  have hs : ∀ y ∈ [x], y = x := fun y hy => List.mem_singleton.1 hy
  have hlt := hG.box.lt
  have hP : PRow vtR 52 W (gb + 1) q' zs := hG.row.anew hb (hq.rebase hBw) hz hap (fun y hy => by rw [hs y hy]; exact hX) (fun y hy => by rw [hs y hy]; exact ⟨hR⟩) (fun y hy => by rw [hs y hy]; exact hge) (fun y hy k hk => by rw [hs y hy] at hk; exact (hgf k hk).1)
    (fun y hy z hz hk => by rw [hs y hy, hs z hz] at hk; have := (hgf _ hk).2; exact Nat.lt_irrefl _ this) (fun y hy e => by rw [hs y hy] at e; have := (hq.lt _ e).1; have t : vtR.rb x = x.rb := rfl; omega) (fun y hy k hk e => by rw [hs y hy] at hk; have := (hq.lt _ e).1; have := (hgf k hk).2; omega) (by omega)
  have hk := Kept.setCell W ⟨gb, 0, none⟩ q'
  have hP2 := hP.kept hk (fun k e e' => by have := hP.ge e; have e2 : k = gb := e'; omega)
  have hbox := (hG.box.below hb hlt).set 0 q'
  have hSgb : S gb := h3 gb (Or.inl rfl)
  have hsz : (W.setCell ⟨gb, 0, none⟩ q').heap.size = W.heap.size ∨ W.heap.size ≤ (W.setCell ⟨gb, 0, none⟩ q').heap.size := Or.inr hk.size
  have hge' : W.heap.size ≤ (W.setCell ⟨gb, 0, none⟩ q').heap.size := hk.size
  refine ⟨fun k => S k ∨ (w.heap.size ≤ k ∧ k < W.heap.size), ⟨⟨q', zs, ⟨by rw [hlow]; exact hbox, hP2⟩, hL.symm, ?_⟩, hok, ?_, ?_⟩, fun k hk => hk.imp id And.left, (Kept.of_below hb).set (p := ⟨gb, 0, none⟩) hSgb _⟩
  · rintro k (e | e | ⟨y, hy, e⟩)
    · exact Or.inl (by rw [e]; exact hSgb)
    · exact Or.inr ⟨Nat.le_trans hBw (hq.lt k e).1, (hq.lt k e).2⟩
    · rcases hz y hy with m | m
      · exact Or.inl (h3 k (Or.inr (Or.inr ⟨y, m, e⟩)))
      · rw [hs y m] at e
        rcases e with e | e
        · refine Or.inr ⟨by rw [e]; exact hge, by rw [e]; exact hX.lt⟩
        · exact Or.inr ⟨(hgf k e).1, hR.lt e⟩
  · rintro k (e | e)
    · have := h.lt k e
      have := hb.size
      omega
    · omega
  · rintro k (e | e)
    · exact h.ge k e
    · omega

section
variable {w : World} {gb : Nat} {S : Nat → Prop} {g : GrD}

set_option maxRecDepth 100000 in
set_option maxHeartbeats 4000000 in
theorem rgAdd_any (id : ByteArray) (r a : Int) (pa : Option Addr) (pc : Nat) (ps : List ByteArray) (h : RG16 w gb S g) (hR : RowAt textK w pa ps) (hpl : ps.length ≤ 1000000) :
    Calls Try.prog 6 #[.pointer (some ⟨gb, 0, none⟩), .string id, .int .i64 r, .int .i64 a, .slice pa ps.length pc] w fun e w' => ∃ S', e = .returned (.int .i64 (addEV g id r a ps.length : Nat)) ∧ RG16 w' gb S' (addGV g id r a ps) ∧ FreshS w S S' ∧ Kept S w w' := by
  have hrefl : FreshS w S S := fun k hk => Or.inl hk
  have hsame : ∀ n : Nat, n ≠ 0 → addEV g id r a ps.length = n → addGV g id r a ps = g := fun n hn e => by unfold addGV; rw [if_neg (by rw [e]; exact hn)]
  by_cases h1 : r < 0 ∨ 1125899906842624 < r ∨ a < 0 ∨ 6 < a
  · have hE : addEV g id r a ps.length = 2 := by unfold addEV; rw [if_pos h1]
    rw [hsame 2 (by decide) hE, hE]
    go_enter Try.func6, Try.ntmps6
    go_upto_region 1 with fail
    go_cut [15] (fun s wx => s = .bool true ∧ wx = w)
    case first =>
      by_cases c1 : r < 0
      · go_wp2_with fail
        go_meet
        exact ⟨rfl, rfl⟩
      · by_cases c2 : 1125899906842624 < r
        · go_wp2_with fail
          go_meet
          exact ⟨rfl, rfl⟩
        · by_cases c3 : a < 0
          · go_wp2_with fail
            go_meet
            exact ⟨rfl, rfl⟩
          · have c4 : 6 < a := by omega
            go_wp2_with fail
            go_meet
            exact ⟨rfl, rfl⟩
    case rest =>
      obtain ⟨rfl, rfl⟩ := hcut
      go_wp2
      go_ret
      first | exact ⟨rfl, S, h, hrefl, Kept.refl _ _⟩ | exact ⟨S, rfl, h, hrefl, Kept.refl _ _⟩
  · have c1 : ¬ r < 0 := by omega
    have c2 : ¬ 1125899906842624 < r := by omega
    have c3 : ¬ a < 0 := by omega
    have c4 : ¬ 6 < a := by omega
    by_cases h7 : 7 < ps.length
    · have hE : addEV g id r a ps.length = 8 := by unfold addEV; rw [if_neg h1, if_pos h7]
      rw [hsame 8 (by decide) hE, hE]
      have g7 : (7 : Int) < (ps.length : Int) := by omega
      go_enter Try.func6, Try.ntmps6
      go_wp2
      go_ret
      first | exact ⟨rfl, S, h, hrefl, Kept.refl _ _⟩ | exact ⟨S, rfl, h, hrefl, Kept.refl _ _⟩
    · have g7 : ¬ (7 : Int) < (ps.length : Int) := by omega
      obtain ⟨q, xs, hG, h2, h3⟩ := h.ex
      have hl : xs.length ≤ 256 := by have := h.ok.n; rw [← h2, List.length_map] at this; exact this
      have cF := rgFind_any id hG hl
      rw [h2] at cF
      cases hg : getV g.L id with
      | some v0 =>
        have hE : addEV g id r a ps.length = 13 := by unfold addEV; rw [if_neg h1, if_neg h7, hg, if_pos (by rfl)]
        rw [hsame 13 (by decide) hE, hE]
        go_enter Try.func6, Try.ntmps6
        go_wp2_with fail
        refine cF.mono ?_
        rintro e w1 ⟨rfl, ⟨hn, _⟩ | ⟨j, x, hx, _, _, rfl⟩⟩
        · rw [hg] at hn; cases hn
        · clear cF
          go_wp2
          go_ret
          first | exact ⟨rfl, S, h, hrefl, Kept.refl _ _⟩ | exact ⟨S, rfl, h, hrefl, Kept.refl _ _⟩
      | none =>
        have d1 := hG.box.cell (i := 1) rfl
        by_cases hlo : r < g.low
        · have hE : addEV g id r a ps.length = 11 := by unfold addEV; rw [if_neg h1, if_neg h7, hg, if_neg (by decide), if_pos hlo]
          rw [hsame 11 (by decide) hE, hE]
          go_enter Try.func6, Try.ntmps6
          go_wp2_with fail
          refine cF.mono ?_
          rintro e w1 ⟨rfl, ⟨hn, rfl⟩ | ⟨j, x, hx, hg', _, rfl⟩⟩
          · clear cF
            go_wp2
            go_ret
            first | exact ⟨rfl, S, h, hrefl, Kept.refl _ _⟩ | exact ⟨S, rfl, h, hrefl, Kept.refl _ _⟩
          · rw [hg] at hg'; cases hg'
        · obtain ⟨ao, cap, rfl, hnil0, hRow⟩ := hG.row.row.form
          rw [List.length_map] at hG h3
          have hnil := hnil0
          have d0 := hG.box.cell (i := 0) rfl
          have hlen : g.L.length = xs.length := by rw [← h2, List.length_map]
          have hate := atV_le g.L r a
          have hE0 : addEV g id r a ps.length = if g.L.any (placeV r a) then 15 else if 256 ≤ g.L.length then 4 else 0 := by unfold addEV; rw [if_neg h1, if_neg h7, hg, if_neg (by decide), if_neg hlo]
          have hE0' : Hid _ := hE0
          clear hE0
          go_enter Try.func6, Try.ntmps6
          go_wp2_with fail
          refine cF.mono ?_
          rintro e w1 ⟨rfl, ⟨hn, rfl⟩ | ⟨j, x, hx, hg', _, rfl⟩⟩
          rotate_left
          · rw [hg] at hg'; cases hg'
          clear cF hn
          go_wp2_with fail
          go_loopw [11, 12] (fun v11 v12 wr => ∃ i : Nat, i ≤ xs.length ∧ v12 = .int .i64 (i : Int) ∧ v11 = .int .i64 ((min i (atV g.L r a) : Nat) : Int) ∧ Hid (∀ v ∈ g.L.take i, placeV r a v = false) ∧ wr = w1) (fun _ v _ => xs.length - (intOf v).toNat)
          case atStart => exact ⟨0, Nat.zero_le _, rfl, by simp, (fun v hv => by simp at hv), rfl⟩
          case round =>
            obtain ⟨i, hi, rfl, rfl, hno, rfl⟩ := hrel
            by_cases hil : i < xs.length
            · have g8 : (i : Int) < (xs.length : Int) := by omega
              obtain ⟨x, hx⟩ : ∃ p, xs[i]? = some p := ⟨_, List.getElem?_eq_getElem hil⟩
              have hm := List.mem_of_getElem? hx
              have hxd : g.L[i]? = some x.d := by rw [← h2, List.getElem?_map, hx]; rfl
              obtain ⟨b, off, rfl, hbl, y0⟩ := hRow.pointer (i := i) (x := x.rb) (by rw [List.getElem?_map, hx]; rfl)
              have y1 : wr.cell? ⟨x.rb, 1, none⟩ = some (.int .i64 x.d.round) := (hG.row.box x hm).cell (i := 1) rfl
              have y2 : wr.cell? ⟨x.rb, 2, none⟩ = some (.int .i64 x.d.author) := (hG.row.box x hm).cell (i := 2) rfl
              obtain ⟨xr, hxr⟩ : ∃ z, Hid (x.d.round = z) := ⟨_, rfl⟩
              obtain ⟨xa, hxa⟩ : ∃ z, Hid (x.d.author = z) := ⟨_, rfl⟩
              rw [hxr.out] at y1
              rw [hxa.out] at y2
              by_cases hp : xr = r ∧ xa = a
              · obtain ⟨p1, p2⟩ := hp
                subst p1 p2
                have hEv : Hid (addEV g id xr xa ps.length = 15) := by
                  show _ = _
                  rw [hE0'.out, if_pos (List.any_eq_true.2 ⟨x.d, List.mem_of_getElem? hxd, decide_eq_true ⟨hxr.out, hxa.out⟩⟩)]
                have hGv : Hid (addGV g id xr xa ps = g) := hsame 15 (by decide) hEv.out
                clear hno hsame
                go_wp2
                go_ret
                rw [hEv.out, hGv.out]
                first | exact ⟨rfl, S, h, hrefl, Kept.refl _ _⟩ | exact ⟨S, rfl, h, hrefl, Kept.refl _ _⟩
              · have hno' : Hid (∀ v ∈ g.L.take (i + 1), placeV r a v = false) := fun v hv => by
                  rw [List.take_add_one, hxd] at hv
                  rcases List.mem_append.1 hv with hv | hv
                  · exact hno.out v hv
                  · simp at hv
                    rw [hv]
                    exact decide_eq_false (by rw [hxr.out, hxa.out]; exact hp)
                have hah : aheadV r a x.d = decide (xr < r ∨ xr = r ∧ xa < a) := by unfold aheadV; rw [hxr.out, hxa.out]
                by_cases hA : xr < r ∨ xr = r ∧ xa < a
                · have hlt : i < atV g.L r a := Nat.lt_of_not_le (fun hle => by
                    have := atV_behind h.ok.rise hle hxd
                    rw [hah, decide_eq_true hA] at this
                    cases this)
                  have em : min (i + 1) (atV g.L r a) = i + 1 := by omega
                  clear hno hsame hah
                  rcases hA with hA | ⟨hA1, hA2⟩
                  · have q1 : (xr == r) = false := by rw [beq_eq_false_iff_ne]; omega
                    have q2 : decide (xr < r) = true := decide_eq_true hA
                    have q3 : ¬ xr = r := by omega
                    go_wp2
                    go_roundw
                    case rel => exact ⟨i + 1, by omega, by go_num, by rw [em]; go_num, hno', trivial⟩
                    case measure => simp [intOf]; omega
                  · subst hA1
                    have q1 : (xa == a) = false := by rw [beq_eq_false_iff_ne]; omega
                    have q3 : ¬ xa = a := by omega
                    have q4 : ¬ xr < xr := by omega
                    go_wp2
                    go_roundw
                    case rel => exact ⟨i + 1, by omega, by go_num, by rw [em]; go_num, hno', trivial⟩
                    case measure => simp [intOf]; omega
                · have hge : atV g.L r a ≤ i := Nat.le_of_not_lt (fun hlt => by
                    have := atV_below hlt hxd
                    rw [hah, decide_eq_false hA] at this
                    cases this)
                  have em : min (i + 1) (atV g.L r a) = min i (atV g.L r a) := by omega
                  clear hno hsame hah
                  by_cases hB : xr = r
                  · subst hB
                    have q1 : (xa == a) = false := by rw [beq_eq_false_iff_ne]; omega
                    have q3 : ¬ xa = a := by omega
                    have q4 : ¬ xr < xr := by omega
                    have q5 : ¬ xa < a := by omega
                    go_wp2
                    go_roundw
                    case rel => exact ⟨i + 1, by omega, by go_num, by rw [em], hno', trivial⟩
                    case measure => simp [intOf]; omega
                  · have q1 : (xr == r) = false := by rw [beq_eq_false_iff_ne]; omega
                    have q3 : ¬ xr < r := by omega
                    go_wp2
                    go_roundw
                    case rel => exact ⟨i + 1, by omega, by go_num, by rw [em], hno', trivial⟩
                    case measure => simp [intOf]; omega
            · obtain rfl : i = xs.length := by omega
              have g8 : ¬ ((xs.length : Nat) : Int) < (xs.length : Int) := by omega
              have em : min xs.length (atV g.L r a) = atV g.L r a := by omega
              have hnp : g.L.any (placeV r a) = false := by
                rw [List.any_eq_false]
                intro v hv
                rw [hno.out v (by rw [List.take_of_length_le (by omega)]; exact hv)]
                decide
              rw [em]
              by_cases hfull : 256 ≤ xs.length
              · have hEv : Hid (addEV g id r a ps.length = 4) := by show _ = _; rw [hE0'.out, hnp, if_neg (by decide), if_pos (by omega)]
                have hGv : Hid (addGV g id r a ps = g) := hsame 4 (by decide) hEv.out
                have g9 : (256 : Int) ≤ (xs.length : Int) := by omega
                clear hno hsame
                go_wp2
                go_ret
                rw [hEv.out, hGv.out]
                first | exact ⟨rfl, S, h, hrefl, Kept.refl _ _⟩ | exact ⟨S, rfl, h, hrefl, Kept.refl _ _⟩
              · have hEv : Hid (addEV g id r a ps.length = 0) := by show _ = _; rw [hE0'.out, hnp, if_neg (by decide), if_neg (by omega)]
                have g9 : ¬ (256 : Int) ≤ (xs.length : Int) := by omega
                obtain ⟨A, hA⟩ : ∃ A, Hid (atV g.L r a = A) := ⟨_, rfl⟩
                rw [hA.out] at em hate ⊢
                obtain ⟨i0, z0, hi0, hz0, hz1, hz2, hz3⟩ := strInfoT
                have hbx := belowNew wr (.cells #[] 9)
                have hQ : KQ textK 9 (wr.alloc (.cells #[] 9)) wr.heap.size (.slice (some ⟨wr.heap.size, 0, none⟩) 0 0) [] :=
                  ⟨⟨by simp [flatK], Or.inl ⟨_, rfl, rfl⟩⟩, fun x hx => (by cases hx), fun x hx => (by cases hx), fun k hk => by
                    simp only [Value.ownBlock, Option.some.injEq] at hk
                    rw [alloc_size]
                    omega, fun n cap e => by simp at e⟩
                have hR2 := hR.below hbx
                have hbs := hbx.size
                have m1 : ([] : List ByteArray).length + ps.length ≤ maxLen := by unfold maxLen; simp; omega
                have m2 : (([] : List ByteArray).length + ps.length) * 16 ≤ 140737488355328 := by simp; omega
                clear hno hsame hnp
                go_wp2_with (at_builtin; refine wpList_joins (K := textK) rfl _ _ 29 rfl wr.heap.size 9 i0 _ 16 Try.underlying29 hi0 hz0 hz1 hz2 hz3 _ [] ps rfl hQ (fun _ _ h => h.elim) pa pc rfl hR2 m1 m2 hbs ?_)
                intro ao3 cap3 w3 hQ3 hk3 hf3
                have hb3 := hbx.trans (hk3.below hbs (fun k e => (hQ.lt k e).1))
                have hb4 := belowNew w3 (.cells #[.string id, .int .i64 r, .int .i64 a, .slice ao3 ps.length cap3, .bool false] 55)
                have hV4 := Arr.new w3 55 [.string id, .int .i64 r, .int .i64 a, .slice ao3 ps.length cap3, .bool false]
                clear hQ hk3 hf3 hbx hR2 hbs m1 m2
                go_wp2_with fail
                obtain ⟨vb, hvb⟩ : ∃ z, Hid (w3.heap.size = z) := ⟨_, rfl⟩
                rw [hvb.out] at hV4 ⊢
                have hb04 := hb3.trans (hb4.mono hb3.size)
                obtain ⟨ao4, cap4, hao4, hn4, hR4⟩ := hQ3.form
                simp only [Value.slice.injEq, true_and] at hao4
                obtain ⟨rfl, rfl⟩ := hao4
                have hft3 : Hid (∀ k, rowFoot textK ao3 ps k → wr.heap.size ≤ k ∧ k < vb) := fun k hk => ⟨by
                  rcases hk with ⟨_, off, rfl⟩ | ⟨_, _, f⟩
                  · exact (hQ3.lt k rfl).1
                  · exact f.elim, by rw [← hvb.out]; exact hR4.lt hk⟩
                have hvg : Hid (wr.heap.size ≤ vb) := by show _ ≤ _; rw [← hvb.out]; exact hb3.size
                obtain ⟨w4, hw4⟩ : ∃ z, w3.alloc (.cells #[.string id, .int .i64 r, .int .i64 a, .slice ao3 ps.length cap3, .bool false] 55) = z := ⟨_, rfl⟩
                rw [hw4] at hV4 hb04 hb4 ⊢
                have hvl : Hid (vb < w4.heap.size) := hV4.lt
                have hT4 := hR4.below hb4
                clear hw4 hb3 hQ3 hR4 hn4 hi0 hz0 hz1 hz2 hz3 i0 z0
                have hG4 := hG.below hb04
                have hRow4 := hRow.below hb04
                have hcap := (hG.row.row.capOf).1
                rw [List.length_map] at hcap
                obtain ⟨rl, hrl⟩ : ∃ z, Hid (xs.map vtR.rb = z) := ⟨_, rfl⟩
                rw [hrl.out] at hRow4
                have hrn : rl.length = xs.length := by rw [← hrl.out, List.length_map]
                obtain ⟨lo, hlo⟩ : ∃ z, Hid (rl.take A ++ vb :: rl.drop A = z) := ⟨_, rfl⟩
                have hfin : Hid (∀ W q', Below w4.heap.size w4 W → KQ ptrP 52 W w4.heap.size q' lo → ∃ S', (Ending.returned (.int .i64 ((0 : Nat) : Int)) : Ending) = .returned (.int .i64 (addEV g id r a ps.length : Nat)) ∧ RG16 (W.setCell ⟨gb, 0, none⟩ q') gb S' (addGV g id r a ps) ∧ FreshS wr S S' ∧ Kept S wr (W.setCell ⟨gb, 0, none⟩ q')) := fun W q' hbW hq => by
                  have hsz := hb04.size
                  have hll := hvl.out
                  have hgg : addGV g id r a ps = { g with L := insV g.L ⟨id, r, a, ps, false⟩ } := by unfold addGV; rw [if_pos hEv.out]
                  have hLL : (addGV g id r a ps).L = (xs.take A ++ (⟨⟨id, r, a, ps, false⟩, vb, ao3, cap3⟩ : VtR) :: xs.drop A).map (·.d) := by
                    rw [hgg, List.map_append, List.map_cons, List.map_take, List.map_drop, h2]
                    show insV g.L _ = _
                    unfold insV
                    show List.take (atV g.L r a) g.L ++ _ :: List.drop (atV g.L r a) g.L = _
                    rw [hA.out]
                  obtain ⟨S', c1, c2, c3⟩ := RG16.ins h hG h3 (h.ok.add id r a ps) A ⟨⟨id, r, a, ps, false⟩, vb, ao3, cap3⟩ (by rw [hgg]) hLL (hb04.trans (hbW.mono hsz)) (hV4.below hbW hll) (hT4.below hbW) hvg.out hft3.out hll hsz (by
                    rw [List.map_append, List.map_cons, List.map_take, List.map_drop]
                    rw [show xs.map VtR.rb = rl from hrl.out, hlo.out]
                    exact hq)
                  exact ⟨S', by rw [hEv.out], c1, c2, c3⟩
                have hnil' : Hid (ao = none → cap = 0) := hnil
                obtain ⟨i0, z0, hi0, hz0, hz1, hz2, hz3⟩ := ptrInfo16
                have hAl : Hid (A ≤ xs.length) := by show A ≤ _; omega
                have hxl : Hid (xs.length < 256) := by show _ < _; omega
                have hcap' : Hid (xs.length ≤ cap) := hcap
                have hbx4 := hG4.box
                have hspot : Hid (0 < xs.length → ∃ b off, ao = some ⟨b, off, none⟩) := fun hpos => by
                  obtain ⟨g8, off, e, _⟩ := hG.row.row.spot (by rw [List.length_map]; exact hpos)
                  exact ⟨g8, off, e⟩
                have hspot2 : Hid (cap ≠ xs.length → ∀ ad, ao = some ad → ∃ b off, ad = ⟨b, off, none⟩) := fun hne ad e => by
                  rcases hG.row.row.row.2 with ⟨ao', hv, hn⟩ | ⟨g8, pre, post, c8, hv, _⟩
                  · simp only [Value.slice.injEq] at hv
                    exact (hne (by have := hv.2.1; have := hv.2.2; omega)).elim
                  · simp only [Value.slice.injEq] at hv
                    rw [hv.1] at e
                    exact ⟨_, _, (Option.some.inj e).symm⟩
                clear hnil0 h hG hG4 hRow hb04 hb4 hV4 hT4 hEv hE0' hnil hcap hvg hft3 hrl hA hvb hvl d0 d1 h2 h3 hl hg em hate hlen hR
                rcases (by cases ao with | none => exact Or.inl rfl | some ad => exact Or.inr ⟨ad, rfl⟩ : ao = none ∨ ∃ ad, ao = some ad) with hao | ⟨ad, hao⟩
                focus
                  have hc0 : cap = 0 := hnil'.out hao
                  have hx0 : rl.length = 0 := by have := hcap'.out; omega
                  have hl0 : rl = [] := List.length_eq_zero_iff.1 hx0
                  have hA0 : A = 0 := by have := hAl.out; omega
                  subst hao
                  have hci := eq_true (show cap = A by omega)
                  have hrD : ∀ U, Below w4.heap.size w4 U → RowAt ptrP U none (rl.drop A) := fun U _ => by rw [hl0, List.drop_nil]; exact nil_row _ _
                  have hnD : Hid ((none : Option Addr) = none → cap - A = 0) := fun _ => by omega
                  clear hc0 hl0 hA0 hx0
                rotate_left 1
                subst hao
                rcases (by by_cases hcp : cap = A; exact Or.inl hcp; exact Or.inr hcp : cap = A ∨ ¬ cap = A) with hcp | hcp
                focus
                  have hci := eq_true hcp
                  have hdn : rl.drop A = [] := List.drop_of_length_le (by have := hcap'.out; omega)
                  have hrD : ∀ U, Below w4.heap.size w4 U → RowAt ptrP U (some ad) (rl.drop A) := fun U _ => by rw [hdn]; exact nil_row _ _
                  have hnD : Hid (some ad = none → cap - A = 0) := fun h => by cases h
                  clear hdn hcp
                rotate_left 1
                obtain ⟨b, off, had⟩ : ∃ b off, ad = ⟨b, off, none⟩ := by
                  by_cases hz : cap = xs.length
                  · obtain ⟨b, off, e⟩ := hspot.out (by have := hAl.out; omega)
                    exact ⟨b, off, Option.some.inj e⟩
                  · exact hspot2.out hz ad rfl
                subst had
                have hci := eq_false hcp
                have hrD : ∀ U, Below w4.heap.size w4 U → RowAt ptrP U (some ⟨b, off + A, none⟩) (rl.drop A) := fun U hb => by
                  have := (hRow4.below hb).dropG A
                  rw [show ptrP.n = 1 from rfl, Nat.mul_one] at this
                  exact this
                have hnD : Hid (some (⟨b, off + A, none⟩ : Addr) = none → cap - A = 0) := fun h => by cases h
                clear hcp
                all_goals
                  have hc := fun w' (hb : Below w4.heap.size w4 w') => (hbx4.below hb hbx4.lt).cell (i := 0) rfl
                  have hbox := hbx4
                  have j1 : (0 : Int) ≤ (A : Int) := by omega
                  have j2 : (A : Int) ≤ (cap : Int) := by have := hAl.out; have := hcap'.out; omega
                  have j3 : (A : Int) ≤ (xs.length : Int) := by have := hAl.out; omega
                  have j4 : (xs.length : Int) ≤ (cap : Int) := by have := hcap'.out; omega
                  have hTl : (rl.take A).length = A := by rw [List.length_take]; have := hAl.out; omega
                  have hDl : (rl.drop A).length = xs.length - A := by rw [List.length_drop, hrn]
                  have hN3 : Hid (A + 1 + (xs.length - A) = xs.length + 1) := by show A + 1 + (xs.length - A) = xs.length + 1; have := hAl.out; omega
                  have hrT := fun U (hb : Below w4.heap.size w4 U) => (hRow4.below hb).take A
                  have hnT : Hid _ := hnil'.out
                  have m1 : A ≤ maxLen := by have := hAl.out; have := hxl.out; unfold maxLen; omega
                  have m2 : A * 8 ≤ 140737488355328 := by have := hAl.out; have := hxl.out; omega
                  have m3 : A + 1 ≤ maxLen := by have := hAl.out; have := hxl.out; unfold maxLen; omega
                  have m4 : (A + 1) * 8 ≤ 140737488355328 := by have := hAl.out; have := hxl.out; omega
                  have m5 : xs.length + 1 ≤ maxLen := by have := hxl.out; unfold maxLen; omega
                  have m6 : (xs.length + 1) * 8 ≤ 140737488355328 := by have := hxl.out; omega
                  have HL : Hid (lo = rl.take A ++ vb :: rl.drop A) := hlo.out.symm
                  have HN : Hid (xs.length + 1 = lo.length) := by
                    show xs.length + 1 = lo.length
                    rw [HL.out, List.length_append, List.length_cons, hTl, hDl]
                    have := hAl.out
                    omega
                  clear hlo hspot hspot2 hrn
                  have hbd : Below w4.heap.size w4 w4.drew := below_drewN (Below.refl _ w4) 1
                  refine wp_region_K (fun w' => Below w4.heap.size w4 w') 21 (by kernel_rfl) ?_
                  generalize w4.drew = w5 at hbd ⊢
                  refine wpAnyK_takeD (i := 0) (v := ?_) (some 114) rfl rfl (by kernel_rfl) (by kernel_rfl) (by kernel_rfl) (by kernel_rfl) (by decide) (fun _ _ _ h => h) (by assumption) (Or.inl ⟨by rfl, ?_⟩) ?_
                  rotate_left 1
                  · intro w' hSw
                    have cF := hc w' hSw
                    go_simp
                    first | done | with_reducible rfl
                  simp only [Act.put, List.setIfInBounds_toArray, List.set_cons_zero, List.set_cons_succ]
                  refine wpAnyK_takeD (i := 2) (v := ?_) (some 116) rfl rfl (by kernel_rfl) (by kernel_rfl) (by kernel_rfl) (by kernel_rfl) (by decide) (fun _ _ _ h => h) (by assumption) (Or.inl ⟨by rfl, ?_⟩) ?_
                  rotate_left 1
                  · intro w' hSw
                    have cF := hc w' hSw
                    go_simp
                    first | done | with_reducible rfl
                  simp only [Act.put, List.setIfInBounds_toArray, List.set_cons_zero, List.set_cons_succ]
                  refine wpAnyK_takeD (i := 3) (v := ?_) (some 117) rfl rfl (by kernel_rfl) (by kernel_rfl) (by kernel_rfl) (by kernel_rfl) (by decide) (fun _ _ _ h => h) (by assumption) (Or.inl ⟨by rfl, ?_⟩) ?_
                  rotate_left 1
                  · intro w' hSw
                    have cF := hc w' hSw
                    go_simp
                    first | done | with_reducible rfl
                  simp only [Act.put, List.setIfInBounds_toArray, List.set_cons_zero, List.set_cons_succ]
                  refine wpAnyK_takeD (i := 4) (v := ?_) (some 118) rfl rfl (by kernel_rfl) (by kernel_rfl) (by kernel_rfl) (by kernel_rfl) (by decide) (fun _ _ _ h => h) (by assumption) (Or.inl ⟨by rfl, ?_⟩) ?_
                  rotate_left 1
                  · intro w' hSw
                    have cF := hc w' hSw
                    go_simp
                    first | done | with_reducible rfl
                  simp only [Act.put, List.setIfInBounds_toArray, List.set_cons_zero, List.set_cons_succ]
                  refine wpAnyK_takeD (i := 5) (v := ?_) (some 119) rfl rfl (by kernel_rfl) (by kernel_rfl) (by kernel_rfl) (by kernel_rfl) (by decide) (fun _ _ _ h => h) (by assumption) (Or.inl ⟨by rfl, ?_⟩) ?_
                  rotate_left 1
                  · intro w' hSw
                    have cF := hc w' hSw
                    go_simp
                    first | done | with_reducible rfl
                  simp only [Act.put, List.setIfInBounds_toArray, List.set_cons_zero, List.set_cons_succ]
                  refine wpAnyK_takeD (i := 6) (v := ?_) (some 120) rfl rfl (by kernel_rfl) (by kernel_rfl) (by kernel_rfl) (by kernel_rfl) (by decide) (fun _ _ _ h => h) (by assumption) (Or.inl ⟨by rfl, ?_⟩) ?_
                  rotate_left 1
                  · intro w' hSw
                    have cF := hc w' hSw
                    go_simp
                    first | done | with_reducible rfl
                  simp only [Act.put, List.setIfInBounds_toArray, List.set_cons_zero, List.set_cons_succ]
                  refine wpAnyK_takeD (i := 7) (v := ?_) (some 121) rfl rfl (by kernel_rfl) (by kernel_rfl) (by kernel_rfl) (by kernel_rfl) (by decide) (fun _ _ _ h => h) (by assumption) (Or.inl ⟨by rfl, ?_⟩) ?_
                  rotate_left 1
                  · intro w' hSw
                    have cF := hc w' hSw
                    go_simp
                    first | done | with_reducible rfl
                  simp only [Act.put, List.setIfInBounds_toArray, List.set_cons_zero, List.set_cons_succ]
                  refine wpAnyK_takeD (i := 9) (v := ?_) (some 123) rfl rfl (by kernel_rfl) (by kernel_rfl) (by kernel_rfl) (by kernel_rfl) (by decide) (fun _ _ _ h => h) (by assumption) (Or.inl ⟨by rfl, ?_⟩) ?_
                  rotate_left 1
                  · intro w' hSw
                    have cF := hc w' hSw
                    go_simp
                    first | done | with_reducible rfl
                  simp only [Act.put, List.setIfInBounds_toArray, List.set_cons_zero, List.set_cons_succ]
                  refine wpAnyK_takeD (i := 12) (v := ?_) (some 126) rfl rfl (by kernel_rfl) (by kernel_rfl) (by kernel_rfl) (by kernel_rfl) (by decide) (fun _ _ _ h => h) (by assumption) (Or.inl ⟨by rfl, ?_⟩) ?_
                  rotate_left 1
                  · intro w' hSw
                    have cF := hc w' hSw
                    go_simp
                    first | done | with_reducible rfl
                  simp only [Act.put, List.setIfInBounds_toArray, List.set_cons_zero, List.set_cons_succ]
                  refine wpAnyK_takeD (i := 13) (v := ?_) (some 127) rfl rfl (by kernel_rfl) (by kernel_rfl) (by kernel_rfl) (by kernel_rfl) (by decide) (fun _ _ _ h => h) (by assumption) (Or.inl ⟨by rfl, ?_⟩) ?_
                  rotate_left 1
                  · intro w' hSw
                    have cF := hc w' hSw
                    go_simp
                    first | done | with_reducible rfl
                  simp only [Act.put, List.setIfInBounds_toArray, List.set_cons_zero, List.set_cons_succ]
                  refine wpAnyK_takeD (i := 14) (v := ?_) (some 128) rfl rfl (by kernel_rfl) (by kernel_rfl) (by kernel_rfl) (by kernel_rfl) (by decide) (fun _ _ _ h => h) (by assumption) (Or.inl ⟨by rfl, ?_⟩) ?_
                  rotate_left 1
                  · intro w' hSw
                    have cF := hc w' hSw
                    go_simp
                    first | done | with_reducible rfl
                  simp only [Act.put, List.setIfInBounds_toArray, List.set_cons_zero, List.set_cons_succ]
                  refine wpAnyK_takeD (i := 15) (v := ?_) (some 129) rfl rfl (by kernel_rfl) (by kernel_rfl) (by kernel_rfl) (by kernel_rfl) (by decide) (fun _ _ _ h => h) (by assumption) (Or.inl ⟨by rfl, ?_⟩) ?_
                  rotate_left 1
                  · intro w' hSw
                    have cF := hc w' hSw
                    go_simp
                    first | done | with_reducible rfl
                  simp only [Act.put, List.setIfInBounds_toArray, List.set_cons_zero, List.set_cons_succ]
                  refine wpAnyK_takeD (i := 16) (v := ?_) (some 130) rfl rfl (by kernel_rfl) (by kernel_rfl) (by kernel_rfl) (by kernel_rfl) (by decide) (fun _ _ _ h => h) (by assumption) (Or.inl ⟨by rfl, ?_⟩) ?_
                  rotate_left 1
                  · intro w' hSw
                    have cF := hc w' hSw
                    go_simp
                    first | done | with_reducible rfl
                  simp only [Act.put, List.setIfInBounds_toArray, List.set_cons_zero, List.set_cons_succ]
                  refine wpAnyK_takeD (i := 17) (v := ?_) (some 131) rfl rfl (by kernel_rfl) (by kernel_rfl) (by kernel_rfl) (by kernel_rfl) (by decide) (fun _ _ _ h => h) (by assumption) (Or.inl ⟨by rfl, ?_⟩) ?_
                  rotate_left 1
                  · intro w' hSw
                    have cF := hc w' hSw
                    go_simp
                    first | done | with_reducible rfl
                  simp only [Act.put, List.setIfInBounds_toArray, List.set_cons_zero, List.set_cons_succ]
                  refine wpAnyK_ready (rs := [1, 10]) (by kernel_rfl) (by simp) ?_
                  refine AllReadyK.cons rfl (fun K' hK => ?_) ?_
                  · go_simp
                    have bw6 := hbd.trans ((belowNew w5 (.cells #[] 52)).mono hbd.size)
                    have hOw6 : (w5.alloc (.cells #[] 52)).ownsRow w4.heap.size 52 ptrP.n (.slice (some ⟨w5.heap.size, 0, none⟩) 0 0) 0 [] := World.ownsRow_made w5 #[] 0 hbd.size (by unfold maxLen; omega) (by simp)
                    have hsw6 : w5.heap.size < (w5.alloc (.cells #[] 52)).heap.size := by rw [alloc_size]; omega
                    obtain ⟨w6, hww6⟩ : ∃ q, w5.alloc (.cells #[] 52) = q := ⟨_, rfl⟩
                    rw [hww6] at bw6 hOw6 hsw6 ⊢
                    refine hK.out _ _ (fun _ => bw6) ?_
                    clear hK K' hww6
                    refine wpAnyK_ready (rs := [8, 10]) (by kernel_rfl) (by simp) ?_
                    refine AllReadyK.consD (some 122) rfl rfl (fun K' hK => ?_) ?_
                    · refine step_ownR (K := ptrP) w6 (by rfl) _ _ 26 (by rfl) w4.heap.size 52 i0 _ 8 Try.underlying26 hi0 hz0 hz1 hz2 hz3 _ _ _ _ _ (by rfl) hOw6 _ _ _ hTl (Nat.zero_add _) (by rfl) (hrT _ bw6) (fun e => hnT.out (by first | exact e | trivial)) m1 m2 bw6.size ?_
                      intro aw7 cw7 w7 hOw7 hkw7
                      have bw7 := bw6.trans (Kept.below hkw7 bw6.size (fun k hk => (hOw6.lt k hk).1))
                      refine hK.out _ _ (fun _ => bw7) ?_
                      clear hK K' hkw7
                      simp only [Act.put, List.setIfInBounds_toArray, List.set_cons_zero, List.set_cons_succ]
                      refine wpAnyK_ready (rs := [10]) (by kernel_rfl) (by simp) ?_
                      refine AllReadyK.cons rfl (fun K' hK => ?_) ?_
                      · go_simp
                        have bw8 := bw7.trans ((belowNew w7 (.cells #[.pointer (some ⟨vb, 0, none⟩)] 52)).mono bw7.size)
                        have hRw8 := ptrOne w7 52 vb
                        have hsw8 : w7.heap.size < (w7.alloc (.cells #[.pointer (some ⟨vb, 0, none⟩)] 52)).heap.size := by rw [alloc_size]; omega
                        have hOw8 := own_belowT hOw7 (belowNew w7 (.cells #[.pointer (some ⟨vb, 0, none⟩)] 52))
                        obtain ⟨w8, hww8⟩ : ∃ q, w7.alloc (.cells #[.pointer (some ⟨vb, 0, none⟩)] 52) = q := ⟨_, rfl⟩
                        rw [hww8] at bw8 hRw8 hsw8 hOw8 ⊢
                        refine hK.out _ _ (fun _ => bw8) ?_
                        clear hK K' hww8
                        refine wpAnyK_ready (rs := [11]) (by kernel_rfl) (by simp) ?_
                        refine AllReadyK.consD (some 125) rfl rfl (fun K' hK => ?_) ?_
                        · refine step_ownR (K := ptrP) w8 (by rfl) _ _ 26 (by rfl) w4.heap.size 52 i0 _ 8 Try.underlying26 hi0 hz0 hz1 hz2 hz3 _ _ _ _ _ (by rfl) hOw8 _ _ _ rfl rfl (by rfl) hRw8 (fun h => by cases h) m3 m4 bw8.size ?_
                          intro aw9 cw9 w9 hOw9 hkw9
                          have bw9 := bw8.trans (Kept.below hkw9 bw8.size (fun k hk => (hOw8.lt k hk).1))
                          refine hK.out _ _ (fun _ => bw9) ?_
                          clear hK K' hkw9
                          simp only [Act.put, List.setIfInBounds_toArray, List.set_cons_zero, List.set_cons_succ]
                          refine wpAnyK_ready (rs := [18]) (by kernel_rfl) (by simp) ?_
                          refine AllReadyK.consD (some 132) rfl rfl (fun K' hK => ?_) ?_
                          · refine step_ownR (K := ptrP) w9 (by rfl) _ _ 26 (by rfl) w4.heap.size 52 i0 _ 8 Try.underlying26 hi0 hz0 hz1 hz2 hz3 _ _ _ _ _ (by rfl) hOw9 _ _ _ hDl hN3.out (by rfl) (hrD _ bw9) (fun e => hnD.out (by first | exact e | trivial)) m5 m6 bw9.size ?_
                            intro aw10 cw10 w10 hOw10 hkw10
                            have bw10 := bw9.trans (Kept.below hkw10 bw9.size (fun k hk => (hOw9.lt k hk).1))
                            refine hK.out _ _ (fun _ => bw10) ?_
                            clear hK K' hkw10
                            simp only [Act.put, List.setIfInBounds_toArray, List.set_cons_zero, List.set_cons_succ]
                            refine wpAnyK_ready (rs := [19]) (by kernel_rfl) (by simp) ?_
                            refine AllReadyK.cons rfl (fun K' hK => ?_) AllReadyK.nil
                            go_simp
                            refine hK.out _ _ (fun _ => bw10) ?_
                            clear hK K'
                            refine wpAnyK_ready (rs := [20]) (by kernel_rfl) (by simp) ?_
                            refine AllReadyK.cons rfl (fun K' hK => ?_) AllReadyK.nil
                            go_simp
                            refine hK.out _ _ (fun _ => bw10) ?_
                            clear hK K'
                            refine wpAnyK_ready (rs := [21]) (by kernel_rfl) (by simp) ?_
                            refine AllReadyK.cons rfl (fun K' hK => ?_) AllReadyK.nil
                            have cF := hc w10 bw10
                            have fF := (hbox.below bw10 hbox.lt).frozen 0
                            go_simp
                            have hq := KQ.joined (K := ptrP) (T := 52) (lo := lo) (fun _ _ h => h.elim) (fun _ => trivial) hOw10 HL.out HN.out
                            have fin := hfin.out _ _ bw10 hq
                            refine hK.out _ _ (fun h => absurd rfl h) ?_
                            clear hK K'
                            refine wpAnyK_done (by kernel_rfl) ?_ _
                            go_wp2
                            go_ret
                            obtain ⟨S', e1, e2, e3, e4⟩ := fin
                            first | exact ⟨e1, S', e2, e3, e4⟩ | exact ⟨S', e1, e2, e3, e4⟩
                          exact AllReadyK.nil
                        exact AllReadyK.nil
                      exact AllReadyK.nil
                    refine AllReadyK.cons rfl (fun K' hK => ?_) ?_
                    · go_simp
                      have bw11 := bw6.trans ((belowNew w6 (.cells #[.pointer (some ⟨vb, 0, none⟩)] 52)).mono bw6.size)
                      have hRw11 := ptrOne w6 52 vb
                      have hsw11 : w6.heap.size < (w6.alloc (.cells #[.pointer (some ⟨vb, 0, none⟩)] 52)).heap.size := by rw [alloc_size]; omega
                      have hOw11 := own_belowT hOw6 (belowNew w6 (.cells #[.pointer (some ⟨vb, 0, none⟩)] 52))
                      obtain ⟨w11, hww11⟩ : ∃ q, w6.alloc (.cells #[.pointer (some ⟨vb, 0, none⟩)] 52) = q := ⟨_, rfl⟩
                      rw [hww11] at bw11 hRw11 hsw11 hOw11 ⊢
                      refine hK.out _ _ (fun _ => bw11) ?_
                      clear hK K' hww11
                      refine wpAnyK_ready (rs := [8]) (by kernel_rfl) (by simp) ?_
                      refine AllReadyK.consD (some 122) rfl rfl (fun K' hK => ?_) ?_
                      · refine step_ownR (K := ptrP) w11 (by rfl) _ _ 26 (by rfl) w4.heap.size 52 i0 _ 8 Try.underlying26 hi0 hz0 hz1 hz2 hz3 _ _ _ _ _ (by rfl) hOw11 _ _ _ hTl (Nat.zero_add _) (by rfl) (hrT _ bw11) (fun e => hnT.out (by first | exact e | trivial)) m1 m2 bw11.size ?_
                        intro aw12 cw12 w12 hOw12 hkw12
                        have bw12 := bw11.trans (Kept.below hkw12 bw11.size (fun k hk => (hOw11.lt k hk).1))
                        have hRw12 := hRw11.kept hkw12 (fun k hk e => by
                          rcases hk with ⟨_, off', e'⟩ | ⟨_, _, f'⟩
                          · simp at e'
                            simp [Value.ownBlock] at e
                            omega
                          · exact f'.elim)
                        refine hK.out _ _ (fun _ => bw12) ?_
                        clear hK K' hkw12
                        simp only [Act.put, List.setIfInBounds_toArray, List.set_cons_zero, List.set_cons_succ]
                        refine wpAnyK_ready (rs := [11]) (by kernel_rfl) (by simp) ?_
                        refine AllReadyK.consD (some 125) rfl rfl (fun K' hK => ?_) ?_
                        · refine step_ownR (K := ptrP) w12 (by rfl) _ _ 26 (by rfl) w4.heap.size 52 i0 _ 8 Try.underlying26 hi0 hz0 hz1 hz2 hz3 _ _ _ _ _ (by rfl) hOw12 _ _ _ rfl rfl (by rfl) hRw12 (fun h => by cases h) m3 m4 bw12.size ?_
                          intro aw13 cw13 w13 hOw13 hkw13
                          have bw13 := bw12.trans (Kept.below hkw13 bw12.size (fun k hk => (hOw12.lt k hk).1))
                          refine hK.out _ _ (fun _ => bw13) ?_
                          clear hK K' hkw13
                          simp only [Act.put, List.setIfInBounds_toArray, List.set_cons_zero, List.set_cons_succ]
                          refine wpAnyK_ready (rs := [18]) (by kernel_rfl) (by simp) ?_
                          refine AllReadyK.consD (some 132) rfl rfl (fun K' hK => ?_) ?_
                          · refine step_ownR (K := ptrP) w13 (by rfl) _ _ 26 (by rfl) w4.heap.size 52 i0 _ 8 Try.underlying26 hi0 hz0 hz1 hz2 hz3 _ _ _ _ _ (by rfl) hOw13 _ _ _ hDl hN3.out (by rfl) (hrD _ bw13) (fun e => hnD.out (by first | exact e | trivial)) m5 m6 bw13.size ?_
                            intro aw14 cw14 w14 hOw14 hkw14
                            have bw14 := bw13.trans (Kept.below hkw14 bw13.size (fun k hk => (hOw13.lt k hk).1))
                            refine hK.out _ _ (fun _ => bw14) ?_
                            clear hK K' hkw14
                            simp only [Act.put, List.setIfInBounds_toArray, List.set_cons_zero, List.set_cons_succ]
                            refine wpAnyK_ready (rs := [19]) (by kernel_rfl) (by simp) ?_
                            refine AllReadyK.cons rfl (fun K' hK => ?_) AllReadyK.nil
                            go_simp
                            refine hK.out _ _ (fun _ => bw14) ?_
                            clear hK K'
                            refine wpAnyK_ready (rs := [20]) (by kernel_rfl) (by simp) ?_
                            refine AllReadyK.cons rfl (fun K' hK => ?_) AllReadyK.nil
                            go_simp
                            refine hK.out _ _ (fun _ => bw14) ?_
                            clear hK K'
                            refine wpAnyK_ready (rs := [21]) (by kernel_rfl) (by simp) ?_
                            refine AllReadyK.cons rfl (fun K' hK => ?_) AllReadyK.nil
                            have cF := hc w14 bw14
                            have fF := (hbox.below bw14 hbox.lt).frozen 0
                            go_simp
                            have hq := KQ.joined (K := ptrP) (T := 52) (lo := lo) (fun _ _ h => h.elim) (fun _ => trivial) hOw14 HL.out HN.out
                            have fin := hfin.out _ _ bw14 hq
                            refine hK.out _ _ (fun h => absurd rfl h) ?_
                            clear hK K'
                            refine wpAnyK_done (by kernel_rfl) ?_ _
                            go_wp2
                            go_ret
                            obtain ⟨S', e1, e2, e3, e4⟩ := fin
                            first | exact ⟨e1, S', e2, e3, e4⟩ | exact ⟨S', e1, e2, e3, e4⟩
                          exact AllReadyK.nil
                        exact AllReadyK.nil
                      exact AllReadyK.nil
                    exact AllReadyK.nil
                  refine AllReadyK.cons rfl (fun K' hK => ?_) ?_
                  · go_simp
                    have bw15 := hbd.trans ((belowNew w5 (.cells #[.pointer (some ⟨vb, 0, none⟩)] 52)).mono hbd.size)
                    have hRw15 := ptrOne w5 52 vb
                    have hsw15 : w5.heap.size < (w5.alloc (.cells #[.pointer (some ⟨vb, 0, none⟩)] 52)).heap.size := by rw [alloc_size]; omega
                    obtain ⟨w15, hww15⟩ : ∃ q, w5.alloc (.cells #[.pointer (some ⟨vb, 0, none⟩)] 52) = q := ⟨_, rfl⟩
                    rw [hww15] at bw15 hRw15 hsw15 ⊢
                    refine hK.out _ _ (fun _ => bw15) ?_
                    clear hK K' hww15
                    refine wpAnyK_ready (rs := [1]) (by kernel_rfl) (by simp) ?_
                    refine AllReadyK.cons rfl (fun K' hK => ?_) ?_
                    · go_simp
                      have bw16 := bw15.trans ((belowNew w15 (.cells #[] 52)).mono bw15.size)
                      have hOw16 : (w15.alloc (.cells #[] 52)).ownsRow w4.heap.size 52 ptrP.n (.slice (some ⟨w15.heap.size, 0, none⟩) 0 0) 0 [] := World.ownsRow_made w15 #[] 0 bw15.size (by unfold maxLen; omega) (by simp)
                      have hsw16 : w15.heap.size < (w15.alloc (.cells #[] 52)).heap.size := by rw [alloc_size]; omega
                      have hRw16 := hRw15.below (belowNew w15 (.cells #[] 52))
                      obtain ⟨w16, hww16⟩ : ∃ q, w15.alloc (.cells #[] 52) = q := ⟨_, rfl⟩
                      rw [hww16] at bw16 hOw16 hsw16 hRw16 ⊢
                      refine hK.out _ _ (fun _ => bw16) ?_
                      clear hK K' hww16
                      refine wpAnyK_ready (rs := [8]) (by kernel_rfl) (by simp) ?_
                      refine AllReadyK.consD (some 122) rfl rfl (fun K' hK => ?_) ?_
                      · refine step_ownR (K := ptrP) w16 (by rfl) _ _ 26 (by rfl) w4.heap.size 52 i0 _ 8 Try.underlying26 hi0 hz0 hz1 hz2 hz3 _ _ _ _ _ (by rfl) hOw16 _ _ _ hTl (Nat.zero_add _) (by rfl) (hrT _ bw16) (fun e => hnT.out (by first | exact e | trivial)) m1 m2 bw16.size ?_
                        intro aw17 cw17 w17 hOw17 hkw17
                        have bw17 := bw16.trans (Kept.below hkw17 bw16.size (fun k hk => (hOw16.lt k hk).1))
                        have hRw17 := hRw16.kept hkw17 (fun k hk e => by
                          rcases hk with ⟨_, off', e'⟩ | ⟨_, _, f'⟩
                          · simp at e'
                            simp [Value.ownBlock] at e
                            omega
                          · exact f'.elim)
                        refine hK.out _ _ (fun _ => bw17) ?_
                        clear hK K' hkw17
                        simp only [Act.put, List.setIfInBounds_toArray, List.set_cons_zero, List.set_cons_succ]
                        refine wpAnyK_ready (rs := [11]) (by kernel_rfl) (by simp) ?_
                        refine AllReadyK.consD (some 125) rfl rfl (fun K' hK => ?_) ?_
                        · refine step_ownR (K := ptrP) w17 (by rfl) _ _ 26 (by rfl) w4.heap.size 52 i0 _ 8 Try.underlying26 hi0 hz0 hz1 hz2 hz3 _ _ _ _ _ (by rfl) hOw17 _ _ _ rfl rfl (by rfl) hRw17 (fun h => by cases h) m3 m4 bw17.size ?_
                          intro aw18 cw18 w18 hOw18 hkw18
                          have bw18 := bw17.trans (Kept.below hkw18 bw17.size (fun k hk => (hOw17.lt k hk).1))
                          refine hK.out _ _ (fun _ => bw18) ?_
                          clear hK K' hkw18
                          simp only [Act.put, List.setIfInBounds_toArray, List.set_cons_zero, List.set_cons_succ]
                          refine wpAnyK_ready (rs := [18]) (by kernel_rfl) (by simp) ?_
                          refine AllReadyK.consD (some 132) rfl rfl (fun K' hK => ?_) ?_
                          · refine step_ownR (K := ptrP) w18 (by rfl) _ _ 26 (by rfl) w4.heap.size 52 i0 _ 8 Try.underlying26 hi0 hz0 hz1 hz2 hz3 _ _ _ _ _ (by rfl) hOw18 _ _ _ hDl hN3.out (by rfl) (hrD _ bw18) (fun e => hnD.out (by first | exact e | trivial)) m5 m6 bw18.size ?_
                            intro aw19 cw19 w19 hOw19 hkw19
                            have bw19 := bw18.trans (Kept.below hkw19 bw18.size (fun k hk => (hOw18.lt k hk).1))
                            refine hK.out _ _ (fun _ => bw19) ?_
                            clear hK K' hkw19
                            simp only [Act.put, List.setIfInBounds_toArray, List.set_cons_zero, List.set_cons_succ]
                            refine wpAnyK_ready (rs := [19]) (by kernel_rfl) (by simp) ?_
                            refine AllReadyK.cons rfl (fun K' hK => ?_) AllReadyK.nil
                            go_simp
                            refine hK.out _ _ (fun _ => bw19) ?_
                            clear hK K'
                            refine wpAnyK_ready (rs := [20]) (by kernel_rfl) (by simp) ?_
                            refine AllReadyK.cons rfl (fun K' hK => ?_) AllReadyK.nil
                            go_simp
                            refine hK.out _ _ (fun _ => bw19) ?_
                            clear hK K'
                            refine wpAnyK_ready (rs := [21]) (by kernel_rfl) (by simp) ?_
                            refine AllReadyK.cons rfl (fun K' hK => ?_) AllReadyK.nil
                            have cF := hc w19 bw19
                            have fF := (hbox.below bw19 hbox.lt).frozen 0
                            go_simp
                            have hq := KQ.joined (K := ptrP) (T := 52) (lo := lo) (fun _ _ h => h.elim) (fun _ => trivial) hOw19 HL.out HN.out
                            have fin := hfin.out _ _ bw19 hq
                            refine hK.out _ _ (fun h => absurd rfl h) ?_
                            clear hK K'
                            refine wpAnyK_done (by kernel_rfl) ?_ _
                            go_wp2
                            go_ret
                            obtain ⟨S', e1, e2, e3, e4⟩ := fin
                            first | exact ⟨e1, S', e2, e3, e4⟩ | exact ⟨S', e1, e2, e3, e4⟩
                          exact AllReadyK.nil
                        exact AllReadyK.nil
                      exact AllReadyK.nil
                    exact AllReadyK.nil
                  exact AllReadyK.nil
end
end Go.Proofs.Ytfbpjdjajecajaa
