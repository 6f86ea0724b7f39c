/- A table as a map of structs, as it lies in memory; what Drop does to it. -/
import Derived.Test.YtegahpgokmcjhaaMapStrSize
import Derived.Test.YtegahpgokmcjhaaTabMath
namespace Go.Proofs.Ytegahpgokmcjhaa
open Go Go.RowKit Go.Maps
set_option linter.unusedVariables false

/-- What is kept of a thing. -/
def thingV (x : ThingD) : Value := .agg #[.int .i64 x.round, .string x.s]
def tabF (l : List ThingD) (id : ByteArray) : Option Value := (getR l id).map thingV

theorem tabF_some {l : List ThingD} {id : ByteArray} : (tabF l id).isSome = true ↔ id ∈ l.map (·.id) := by
  unfold tabF
  rw [Option.isSome_map]
  constructor
  · intro h
    obtain ⟨x, hx⟩ := Option.isSome_iff_exists.1 h
    obtain ⟨h1, h2⟩ := getR_some hx
    exact List.mem_map.2 ⟨x, h1, h2⟩
  · intro h
    obtain ⟨x, hx, e⟩ := List.mem_map.1 h
    unfold getR
    rw [List.find?_isSome]
    exact ⟨x, hx, by rw [bytes_eq]; exact decide_eq_true e⟩

/-- A table lies in block tb, its map in block mb. -/
structure PTab (w : World) (tb mb : Nat) (most low : Int) (l : List ThingD) : Prop where
  box : Arr w tb 51 [.map (some mb), .int .i64 most, .int .i64 low]
  map : SMap w mb (tabF l) l.length
  ne : tb ≠ mb
  nod : (l.map (·.id)).Nodup
  few : l.length ≤ 1000000

set_option maxRecDepth 100000 in
set_option maxHeartbeats 2000000 in
theorem tabDrop_any (round : Int) (tb mb : Nat) (most low : Int) (l : List ThingD) (w : World) (h : PTab w tb mb most low l) :
    Calls Try.prog 8 #[.pointer (some ⟨tb, 0, none⟩), .int .i64 round] w fun e w' => e = .returned (.int .i64 ((l.length : Int) - ((dropL l round).length : Int))) ∧ PTab w' tb mb most (max low round) (dropL l round) ∧ Kept (fun k => k = tb ∨ k = mb) w w' := by
  have hM := h.map
  have hfew := h.few
  have c2 := h.box.cell (i := 0) rfl
  have hne := h.ne
  obtain ⟨f0, hf0⟩ : ∃ f, Hid (tabF l = f) := ⟨_, rfl⟩
  obtain ⟨g0, hg0⟩ : ∃ f, Hid (tabF (dropL l round) = f) := ⟨_, rfl⟩
  rw [hf0.out] at hM
  have hsub : ∀ i, f0 i = none → g0 i = none := by
    intro i hi
    rw [← hf0.out] at hi
    rw [← hg0.out]
    unfold tabF at hi ⊢
    rw [getR_drop round i h.nod]
    cases hx : getR l i with
    | none => rfl
    | some x => rw [hx] at hi; cases hi
  have hstep : Hid (∀ id v, f0 id = some v → ∃ r s, v = .agg #[.int .i64 r, .string s] ∧ (r < round → g0 id = none) ∧ (¬ r < round → f0 id = g0 id)) := by
    intro id v hv
    have hv' := hv
    rw [← hf0.out] at hv'
    unfold tabF at hv'
    cases hx : getR l id with
    | none => rw [hx] at hv'; cases hv'
    | some x =>
      rw [hx] at hv'
      simp only [Option.map_some, Option.some.injEq] at hv'
      have hgr := getR_drop round id h.nod
      rw [hx] at hgr
      simp only at hgr
      refine ⟨x.round, x.s, hv'.symm, fun hr => ?_, fun hr => ?_⟩
      · rw [← hg0.out]
        unfold tabF
        rw [hgr, if_neg (by omega)]
        rfl
      · rw [← hg0.out, ← hf0.out]
        unfold tabF
        rw [hgr, hx, if_pos (by omega)]
  go_enter Try.func8, Try.ntmps8
  go_wp2_with (first
    | (at_len; refine smap_len (by rfl) _ 49 rfl 53 Try.underlying49 mb f0 _ rfl hM ?_)
    | (at_range; refine smap_range rfl _ 49 rfl 53 Try.underlying49 mb f0 _ rfl hM ?_; intro w1 hR1 hb1 hs1))
  obtain ⟨r, hr⟩ : ∃ r, Hid (w.heap.size = r) := ⟨_, rfl⟩
  rw [hr.out] at hR1 ⊢
  have hrb : r ≠ tb ∧ r ≠ mb := by have := hr.out; have := h.box.lt; have := hM.lt; omega
  have hX1 := h.box.below hb1 h.box.lt
  have hK1 : Kept (fun k => k = tb ∨ k = mb) w w1 := Kept.of_below hb1
  have hR0 := hR1.congr (fun i => (mixF_start f0 g0 hsub i).symm)
  clear hR1 c2
  go_loopw [6] (fun _ wr => ∃ (left : ByteArray → Bool) (cnt n : Nat), SRange wr mb r (mixF f0 g0 left) n left cnt ∧ Arr wr tb 51 [.map (some mb), .int .i64 most, .int .i64 low] ∧ Kept (fun k => k = tb ∨ k = mb) w wr) (fun _ wr => wr.rangeLeft mb r)
  case atStart => exact ⟨_, _, _, hR0, hX1, hK1⟩
  case round =>
    obtain ⟨left, cnt, n, hR, hX, hK⟩ := hrel
    clear hR0 hX1 hK1 hb1 hs1
    have c2 := hX.cell (i := 0) rfl
    go_wp2_with (at_next; refine smap_next rfl _ rfl mb r _ _ _ _ rfl hR ?_ ?_)
    · intro hl
      have hMF : SMap wr mb g0 n := hR.map.congr (fun i => by
        unfold mixF
        rw [hl i]
        rfl)
      have hn := hMF.count (dropL_nod h.nod round) (fun i => by rw [← hg0.out]; exact tabF_some)
      rw [List.length_map] at hn
      have c1 := hX.cell (i := 2) rfl
      have f1 := hX.frozen 2
      have hle := dropL_le l round
      subst hn
      have hfin : ∀ (lw : Int) (w5 : World), lw = max low round → Arr w5 tb 51 [.map (some mb), .int .i64 most, .int .i64 lw] → SMap w5 mb g0 (dropL l round).length → PTab w5 tb mb most (max low round) (dropL l round) := fun lw w5 e h1 h2 =>
        ⟨by rw [← e]; exact h1, by rw [hg0.out]; exact h2, hne, dropL_nod h.nod round, by omega⟩
      obtain ⟨dn, hdn⟩ : ∃ z, Hid ((dropL l round).length = z) := ⟨_, rfl⟩
      rw [hdn.out] at hMF hle hfin
      have hset : ∀ lw : Int, Arr (wr.setCell ⟨tb, 2, none⟩ (.int .i64 lw)) tb 51 [.map (some mb), .int .i64 most, .int .i64 lw] ∧ SMap (wr.setCell ⟨tb, 2, none⟩ (.int .i64 lw)) mb g0 dn ∧ Kept (fun k => k = tb ∨ k = mb) w (wr.setCell ⟨tb, 2, none⟩ (.int .i64 lw)) := fun lw =>
        ⟨hX.set 2 _, hMF.kept (Kept.setCell wr ⟨tb, 2, none⟩ (.int .i64 lw)) (fun e => hne e.symm), hK.set (p := ⟨tb, 2, none⟩) (Or.inl rfl) _⟩
      clear hR hX hK hMF
      rcases (by omega : round ≤ low ∨ ¬ round ≤ low) with hm | hm
      · have e5 : low = max low round := by omega
        obtain ⟨s1, s2, s3⟩ := hset low
        have hP := hfin low _ e5 s1 s2
        clear hset hfin e5
        go_wp2_with (at_len; refine smap_len (by rfl) _ 49 rfl 53 Try.underlying49 mb g0 _ rfl s2 ?_)
        go_wp2
        go_ret
        exact ⟨by rw [hdn.out]; rfl, hP, s3⟩
      · have e5 : round = max low round := by omega
        obtain ⟨s1, s2, s3⟩ := hset round
        have hP := hfin round _ e5 s1 s2
        clear hset hfin e5
        go_wp2_with (at_len; refine smap_len (by rfl) _ 49 rfl 53 Try.underlying49 mb g0 _ rfl s2 ?_)
        go_wp2
        go_ret
        exact ⟨by rw [hdn.out]; rfl, hP, s3⟩
    · intro id v w2 cnt2 hid hlx hfx hR2 hlt hk2 hs2 hen
      have hfx0 : f0 id = some v := by
        unfold mixF at hfx
        rw [if_pos hlx] at hfx
        exact hfx
      obtain ⟨rd, s, rfl, hgo, hst⟩ := hstep.out id v hfx0
      have hX2 := hX.kept hk2 (fun e => hrb.1 e.symm)
      have hK2 : Kept (fun k => k = tb ∨ k = mb) w w2 := hK.transNew hk2 (fun k e => by have e' : k = r := e; have := hr.out; omega)
      have hA := belowNew w2 (.cells #[.int .i64 rd, .string s] 53)
      have hX3 := hX2.below hA hX2.lt
      have hR3 := hR2.kept (Kept.of_below (S := fun _ => False) hA) (fun e => e) (fun e => e)
      have hK3 := hK2.trans (Kept.of_below hA)
      have c23 := hX2.cell (i := 0) rfl
      have ltb := hX2.lt
      have hLq := hR.left_eq
      clear hfx hfx0 hX hR hK hk2 c2 hs2
      by_cases hlr : rd < round
      · go_wp2_with (at_delete; refine smap_del_range rfl _ _ 49 rfl 53 Try.underlying49 mb r _ _ _ _ rfl hR3 id hid rfl ?_)
        intro w4 cnt4 hR4 hle hk4
        have hX4 := hX3.kept hk4 (fun e => hne e)
        have hK4 := hK3.trans (hk4.mono (fun k _ e => Or.inr e))
        rw [strikeF_twice] at hR4
        have hR5 := hR4.congr (mixF_goes (left := left) (f := f0) (hgo hlr))
        clear hR4 hR3 hX3 hK3 hk4 hen
        go_wp2
        go_roundw
        case rel => exact ⟨_, _, _, hR5, hX4, hK4⟩
        case measure => rw [hR5.left_eq, hLq]; omega
      · have hR5 := hR3.congr (mixF_stays (left := left) (hst (by omega)))
        go_wp2
        go_roundw
        case rel => exact ⟨_, _, _, hR5, hX3, hK3⟩
        case measure => rw [hR5.left_eq, hLq]; omega
end Go.Proofs.Ytegahpgokmcjhaa
