/- The reference lets rounds go. -/
import Derived.Test.YtfbpjdjajecajaaRefGr
import Derived.Test.YtfbpjdjajecajaaWalkRows
namespace Go.Proofs.Ytfbpjdjajecajaa
open Go Go.RowKit
set_option linter.unusedVariables false

def keepR (xs : List VtR) (r : Int) : List VtR := xs.filter (fun x => decide (r ≤ x.d.round))

theorem keepR_d (xs : List VtR) (r : Int) : (keepR xs r).map (·.d) = keepVt (xs.map (·.d)) r := by
  unfold keepR keepVt
  rw [List.filter_map]
  rfl

theorem keepR_yes {xs : List VtR} {r : Int} {i : Nat} {x : VtR} (hx : xs[i]? = some x) (hd : r ≤ x.d.round) : keepR (xs.take (i + 1)) r = keepR (xs.take i) r ++ [x] := by
  unfold keepR
  rw [List.take_add_one, hx]
  simp [hd]

theorem keepR_no {xs : List VtR} {r : Int} {i : Nat} {x : VtR} (hx : xs[i]? = some x) (hd : ¬ r ≤ x.d.round) : keepR (xs.take (i + 1)) r = keepR (xs.take i) r := by
  unfold keepR
  rw [List.take_add_one, hx]
  simp [hd]

theorem keepR_len {xs : List VtR} {r : Int} : (keepR xs r).length ≤ xs.length := List.length_filter_le _ _

section
variable {w : World} {gb : Nat} {S : Nat → Prop} {g : GrD}

set_option maxRecDepth 100000 in
set_option maxHeartbeats 2000000 in
theorem rgLet_any (r : Int) (h : RG16 w gb S g) :
    Calls Try.prog 11 #[.pointer (some ⟨gb, 0, none⟩), .int .i64 r] w fun e w' => ∃ S', e = .returned (.int .i64 (lowNV g r : Nat)) ∧ RG16 w' gb S' (lowGV g r) ∧ FreshS w S S' ∧ Kept S w w' := by
  obtain ⟨q, xs, h1, h2, h3⟩ := h.ex
  have hrefl : FreshS w S S := fun k hk => Or.inl hk
  have c1 := h1.box.cell (i := 1) rfl
  by_cases hr : r ≤ g.low
  · have e1 : lowNV g r = 0 := by unfold lowNV; rw [if_pos hr]
    have e2 : lowGV g r = g := by unfold lowGV; rw [if_pos hr]
    rw [e1, e2]
    go_enter Try.func11, Try.ntmps11
    go_wp2
    go_ret
    first | exact ⟨rfl, S, h, hrefl, Kept.refl _ _⟩ | exact ⟨S, rfl, h, hrefl, Kept.refl _ _⟩
  · have e1 : lowNV g r = xs.length - (keepR xs r).length := by
      unfold lowNV
      rw [if_neg hr, ← h2, List.length_map, ← keepR_d, List.length_map]
    have e2 : lowGV g r = ⟨keepVt g.L r, r⟩ := by unfold lowGV; rw [if_neg hr]
    have hl : xs.length ≤ 256 := by have := h.ok.n; rw [← h2, List.length_map] at this; exact this
    obtain ⟨i0, z0, hi0, hz0, hz1, hz2, hz3⟩ := ptrInfo16
    have hok := h.ok.low r
    rw [e2] at hok
    rw [e1, e2]
    obtain ⟨ao, cap, rfl, _, _⟩ := h1.row.row.form
    rw [List.length_map] at h1 h3
    have f1 := h1.box.frozen 1
    have hgl := h1.box.lt
    have kS := Kept.setCell w ⟨gb, 1, none⟩ (.int .i64 r)
    have hgn : ∀ k, PFt vtR (.slice ao xs.length cap) xs k → k ≠ gb := fun k e e' => by have := h1.row.ge e; omega
    have hR1 := h1.row.kept kS (fun k e e' => hgn k e e')
    have hB1 := h1.box.set 1 (.int .i64 r)
    have hz := kS.size
    go_enter Try.func11, Try.ntmps11
    go_wp2_with fail
    replace hB1 : Arr (w.setCell ⟨gb, 1, none⟩ (.int .i64 r)) gb 28 [.slice ao xs.length cap, .int .i64 r] := hB1
    generalize w.setCell ⟨gb, 1, none⟩ (.int .i64 r) = w1 at *
    go_loopw [5, 6] (fun v5 v6 wr => ∃ (i : Nat) (al : Option Addr) (cl : Nat), i ≤ xs.length ∧ v6 = .int .i64 (i : Int) ∧ v5 = .slice al (keepR (xs.take i) r).length cl ∧ KQ ptrP 52 wr w1.heap.size (.slice al (keepR (xs.take i) r).length cl) ((keepR (xs.take i) r).map vtR.rb) ∧ Below w1.heap.size w1 wr) (fun _ v _ => xs.length - (intOf v).toNat)
    case atStart => exact ⟨0, none, 0, Nat.zero_le _, rfl, rfl, KQ.empty _ _ _ _, Below.refl _ _⟩
    case round =>
      obtain ⟨i, al, cl, hi, rfl, rfl, hQ, hb⟩ := hrel
      have hBr := hB1.below hb hB1.lt
      have hRr := hR1.below hb
      have d0 := hBr.cell (i := 0) rfl
      have d0f := hBr.frozen 0
      by_cases hil : i < xs.length
      · have g1 : (i : Int) < (xs.length : Int) := by omega
        obtain ⟨x, hx⟩ : ∃ p, xs[i]? = some p := ⟨_, List.getElem?_eq_getElem hil⟩
        have hm := List.mem_of_getElem? hx
        obtain ⟨b, off, rfl, hbl, y0⟩ := ((hRr.row.rowOf).1).pointer (i := i) (x := x.rb) (by rw [List.getElem?_map, hx]; rfl)
        have y1 : wr.cell? ⟨x.rb, 1, none⟩ = some (.int .i64 x.d.round) := (hRr.box x hm).cell (i := 1) rfl
        by_cases hd : r ≤ x.d.round
        · have hst := keepR_yes hx hd
          have hlen : (keepR (xs.take i) r).length ≤ 256 := by
            refine Nat.le_trans keepR_len ?_
            rw [List.length_take]
            omega
          have hbx := belowNew wr (.cells #[.pointer (some ⟨x.rb, 0, none⟩)] 52)
          have hQ1 := hQ.below hbx
          have hN := new_ptrP wr 52 x.rb
          have hb2 := hb.trans (hbx.mono hb.size)
          have hbs := hb2.size
          have hml : ((keepR (xs.take i) r).map vtR.rb).length = (keepR (xs.take i) r).length := List.length_map _
          have m1 : ((keepR (xs.take i) r).map vtR.rb).length + 1 ≤ maxLen := by rw [hml]; unfold maxLen; omega
          have m2 : (((keepR (xs.take i) r).map vtR.rb).length + 1) * 8 ≤ 140737488355328 := by rw [hml]; omega
          have hml' : Hid (((keepR (xs.take i) r).map vtR.rb).length = (keepR (xs.take i) r).length) := hml
          clear hml hQ
          go_wp2_with (at_builtin; refine wpList_pushN (K := ptrP) rfl _ _ 26 rfl w1.heap.size 52 i0 _ 8 Try.underlying26 hi0 hz0 hz1 hz2 hz3 _ ((keepR (xs.take i) r).map vtR.rb) rfl hQ1 x.rb trivial (fun _ h => h.elim) ⟨wr.heap.size, 0, none⟩ 1 rfl hN m1 m2 hbs ?_)
          intro ao3 cap3 w3 hQ3 hk3 hf3
          have hbF := hb2.trans (hk3.below hbs (fun k e => (hQ1.lt k e).1))
          have hQ4 : KQ ptrP 52 w3 w1.heap.size (.slice ao3 (keepR (xs.take (i + 1)) r).length cap3) ((keepR (xs.take (i + 1)) r).map vtR.rb) := by
            rw [hst, List.map_append, List.length_append]
            have := hQ3
            simp only [List.length_cons, List.length_nil] at this ⊢
            exact this
          have hln : (keepR (xs.take (i + 1)) r).length = (keepR (xs.take i) r).length + 1 := by rw [hst]; simp
          clear hQ3 hk3 hf3 hQ1 hN hbs hb2 hbx m1 m2 hml' hBr hRr d0 d0f y0 y1
          go_wp2
          go_roundw
          case rel => exact ⟨i + 1, ao3, cap3, by omega, by go_num, by rw [hln], hQ4, hbF⟩
          case measure => simp [intOf]; omega
        · have hst := keepR_no hx hd
          go_wp2
          go_roundw
          case rel => exact ⟨i + 1, al, cl, by omega, by go_num, by rw [hst], by rw [hst]; exact hQ, hb⟩
          case measure => simp [intOf]; omega
      · obtain rfl : i = xs.length := by omega
        have g1 : ¬ ((xs.length : Nat) : Int) < (xs.length : Int) := by omega
        rw [List.take_length] at hQ ⊢
        have hsub : ∀ z ∈ keepR xs r, z ∈ xs := fun z hz => (List.mem_filter.1 hz).1
        have hg1 : gb + 1 ≤ w1.heap.size := by omega
        have hPn := hR1.anew (ys := []) hb hQ (fun z hz => Or.inl (hsub z hz)) (h1.row.apart.sublist List.filter_sublist) (fun y hy => (by cases hy)) (fun y hy => (by cases hy)) (fun y hy => (by cases hy)) (fun y hy => (by cases hy)) (fun y hy => (by cases hy)) (fun y hy => (by cases hy)) (fun y hy => (by cases hy)) hg1
        have kF := Kept.setCell wr ⟨gb, 0, none⟩ (.slice al (keepR xs r).length cl)
        have hPf := hPn.kept kF (fun k e e' => by have := hPn.ge e; have e1 : k = gb := e'; omega)
        have hBf := hBr.set 0 (.slice al (keepR xs r).length cl)
        have hKf : Kept S w (wr.setCell ⟨gb, 0, none⟩ (.slice al (keepR xs r).length cl)) := ((kS.mono (fun k _ e => h3 k (Or.inl e))).trans (Kept.of_below hb)).trans (kF.mono (fun k _ e => h3 k (Or.inl e)))
        have hown : ∀ k, (Value.slice al (keepR xs r).length cl).ownBlock = some k → w1.heap.size ≤ k := fun k e => (hQ.lt k e).1
        have hgrF : RGr (wr.setCell ⟨gb, 0, none⟩ (.slice al (keepR xs r).length cl)) gb (.slice al (keepR xs r).length cl) r (keepR xs r) := ⟨hBf, hPf⟩
        have hfin : Hid (∃ S', RG16 (wr.setCell ⟨gb, 0, none⟩ (.slice al (keepR xs r).length cl)) gb S' ⟨keepVt g.L r, r⟩ ∧ FreshS w S S' ∧ Kept S w (wr.setCell ⟨gb, 0, none⟩ (.slice al (keepR xs r).length cl))) := by
          have hzz := hKf.size
          refine ⟨fun k => S k ∨ RGt gb (.slice al (keepR xs r).length cl) (keepR xs r) k, ⟨⟨_, _, hgrF, by rw [keepR_d, h2], fun k e => Or.inr e⟩, hok, ?_, ?_⟩, ?_, hKf⟩
          · rintro k (e | e)
            · exact Nat.lt_of_lt_of_le (h.lt k e) hzz
            · rcases e with rfl | e
              · exact Nat.lt_of_lt_of_le hgl hzz
              · exact hPf.lt e
          · rintro k (e | e)
            · exact h.ge k e
            · rcases e with rfl | e
              · exact Nat.le_refl _
              · have := hPf.ge e; omega
          · rintro k (e | e)
            · exact Or.inl e
            · rcases e with e | e | ⟨y, hy, e⟩
              · exact Or.inl (h3 k (Or.inl e))
              · have := hown k e
                exact Or.inr (by omega)
              · exact Or.inl (h3 k (Or.inr (Or.inr ⟨y, hsub y hy, e⟩)))
        have hsb : (keepR xs r).length ≤ xs.length := keepR_len
        have hcs : (xs.length : Int) - ((keepR xs r).length : Int) = ((xs.length - (keepR xs r).length : Nat) : Int) := by omega
        have hcs' : Hid _ := hcs
        clear hcs hPn hPf hBf hKf hgrF kF hQ hRr
        go_wp2
        go_ret
        obtain ⟨S', q1, q2, q3⟩ := hfin.out
        exact ⟨by rw [← hcs'.out]; rfl, S', q1, q2, q3⟩
end
end Go.Proofs.Ytfbpjdjajecajaa
