/- What waves.Of does. -/
import Derived.Test.YtkgidmifgfoeiaaWavMap
import Derived.Test.YtkgidmifgfoeiaaAccGrp
namespace Go.Proofs.Ytkgidmifgfoeiaa
open Go Go.RowKit
set_option linter.unusedVariables false

/-- The waves of the first i, nothing of the others yet. -/
def ofL (l : List RwD) (n i : Nat) : List Nat := wvN l i ++ List.replicate (n - i) 0

theorem ofL_get {l : List RwD} {n i : Nat} (h : i < n) : (ofL l n i)[i]? = some 0 := by
  unfold ofL
  rw [List.getElem?_append_right (by rw [wvN_length]; exact Nat.le_refl _), wvN_length, Nat.sub_self, List.getElem?_replicate, if_pos (by omega)]

theorem ofL_set {l : List RwD} {n i : Nat} (h : i < n) : (ofL l n i).set i (wv l i) = ofL l n (i + 1) := by
  unfold ofL
  rw [List.set_append_right _ _ (by rw [wvN_length]; exact Nat.le_refl _), wvN_length, Nat.sub_self, show n - i = (n - (i + 1)) + 1 by omega, List.replicate_succ, List.set_cons_zero]
  show _ = (wvN l i ++ [wv l i]) ++ _
  rw [List.append_assoc]
  rfl

theorem ofL_end (l : List RwD) (n : Nat) : ofL l n n = wvN l n := by
  unfold ofL
  rw [Nat.sub_self]
  simp

def GotOf (W : World) (l : List RwD) (e : Ending) (w : World) : Prop :=
  ∃ g, e = .returned (.slice (some ⟨g, 0, none⟩) l.length l.length) ∧ KQ natK 3 w W.heap.size (.slice (some ⟨g, 0, none⟩) l.length l.length) (wvN l l.length) ∧ Below W.heap.size W w

theorem fsF_next {l : List RwD} {t : RwD} {i : Nat} (ht : l[i]? = some t) : firstN (turnF (putL l (wv l) i)) t = wv l i := by
  rw [first_eq, first_wave ht]

theorem put_next {l : List RwD} {t : RwD} {vs : Nat → Nat} {i : Nat} (ht : l[i]? = some t) (h : firstN (turnF (putL l vs i)) t ≤ vs i) (k : ByteArray) : turnF (putL l vs (i + 1)) k = putG (turnF (putL l vs i)) t (vs i) k := by
  rw [first_eq] at h
  have := put_eq h k
  show turnF (((l[i]?).getD ⟨[], []⟩, vs i) :: putL l vs i) k = _
  rw [ht]
  exact this

set_option maxRecDepth 100000 in
set_option maxHeartbeats 2000000 in
theorem of_any (l : List TxA) (ao : Option Addr) (cp : Nat) (w : World) (hl : RowAt txA w ao l) (hf : Few l) :
    Calls Try.prog 9 #[.slice ao l.length cp] w fun e w' => GotOf w (rwL l) e w' := by
  have hl1 := hf.1
  have hlen := rwL_length l
  have mk : (Instr.makeMap 41 none).run Try.prog w = .ok (.map (some w.heap.size)) (w.alloc (.map #[] 0)) := rfl
  have hT0 := TurnAt.new w
  have hb0 := belowNew w (.map #[] 0)
  have hs0 : w.heap.size < (w.alloc (.map #[] 0)).heap.size := by rw [alloc_size]; omega
  generalize hw1 : w.alloc (.map #[] 0) = w1 at *
  obtain ⟨w3, hms, hQ, hb3, hs3⟩ := make_nats 24 Try.underlying24 l.length (by omega) w1
  have hT3 := hT0.below hb3
  have hB3 := hb0.trans (hb3.mono hb0.size)
  have hgb : w1.heap.size ≠ w.heap.size := by omega
  generalize w1.heap.size = g at *
  generalize hmb : w.heap.size = mb at hT3 hT0 hgb
  have hQ3 : KQ natK 3 w3 w.heap.size (.slice (some ⟨g, 0, none⟩) l.length l.length) (ofL (rwL l) l.length 0) := hQ.rebase (by omega)
  clear hQ hT0 hb0 hb3
  go_enter Try.func9, Try.ntmps9
  go_wp2_with fail
  go_loopw [13] (fun v13 wr => ∃ (i : Nat), i ≤ l.length ∧ v13 = .int .i64 (i : Int) ∧ TurnAt wr mb (turnF (putL (rwL l) (wv (rwL l)) i)) (i * 2000) ∧ KQ natK 3 wr w.heap.size (.slice (some ⟨g, 0, none⟩) l.length l.length) (ofL (rwL l) l.length i) ∧ Below w.heap.size w wr) (fun v _ => l.length - (intOf v).toNat)
  case atStart => exact ⟨0, Nat.zero_le _, rfl, hT3.congr (fun k => rfl), hQ3, hB3⟩
  case round =>
    obtain ⟨i, hi, rfl, hT, hq, hb⟩ := hrel
    clear hT3 hB3 hQ3
    by_cases hil : i < l.length
    · have g1 : (i : Int) < (l.length : Int) := by omega
      obtain ⟨x, hx⟩ : ∃ p, l[i]? = some p := ⟨_, List.getElem?_eq_getElem hil⟩
      have hfx : ∀ b, txA.foot x b → b < w.heap.size := fun b h => txA.lt (hl.at_ x (List.mem_of_getElem? hx)) h
      obtain ⟨b, off, rfl, hbl, x0, x1, x2, x3, x4, x5, x6, x7, x8, hA⟩ := (hl.below hb).tx hx
      obtain ⟨lr, lw⟩ := hf.2 x (List.mem_of_getElem? hx)
      have hbn := belowNew wr (.cells x.c.toArray 38)
      have hX := Arr.new wr 38 x.c
      have hT5 := TurnAt.below hT hbn
      have hq5 := hq.below hbn
      have hA5 := hA.below hbn
      have hb5 := hb.trans (hbn.mono hb.size)
      have hz5 : wr.heap.size < (wr.alloc (.cells x.c.toArray 38)).heap.size := by rw [alloc_size]; omega
      have hgw := (hq.lt g rfl)
      have hwi := wv_le (rwL l) i
      have hmbf : ¬ txA.foot x mb := fun h => by have := hfx mb h; omega
      have cF := first_any x _ hA5 mb _ _ hT5 (by omega) (by omega)
      have hnx : Hid (∀ k, turnF (putL (rwL l) (wv (rwL l)) (i + 1)) k = putG (turnF (putL (rwL l) (wv (rwL l)) i)) x.rw (wv (rwL l) i) k) := put_next (rwL_get hx) (by rw [fsF_next (rwL_get hx)]; exact Nat.le_refl _)
      have hst : Hid ((ofL (rwL l) l.length i).set i (wv (rwL l) i) = ofL (rwL l) l.length (i + 1)) := ofL_set hil
      rw [fsF_next (rwL_get hx)] at cF
      obtain ⟨w5, hw5⟩ : ∃ q, wr.alloc (.cells x.c.toArray 38) = q := ⟨_, rfl⟩
      rw [hw5] at hX hT5 hq5 hA5 hb5 hz5 cF
      replace hw5 : wr.alloc (.cells #[.int .i64 x.kind, .string x.frm, .string x.dst, .int .u64 x.amt, .int .u64 x.non, .string x.key, .string x.val, .slice x.ra x.rs.length x.rc, .slice x.wa x.ws.length x.wc] 38) = w5 := hw5
      have n0 := hX.cell (i := 0) rfl
      have n1 := hX.cell (i := 1) rfl
      have n2 := hX.cell (i := 2) rfl
      have n3 := hX.cell (i := 3) rfl
      have n4 := hX.cell (i := 4) rfl
      have n5 := hX.cell (i := 5) rfl
      have n6 := hX.cell (i := 6) rfl
      have n7 := hX.cell (i := 7) rfl
      have n8 := hX.cell (i := 8) rfl
      have hx' : Hid _ := hx
      generalize wv (rwL l) i = v at *
      clear hx hT hA hq hbn
      go_wp2_with (go_at_call 18; refine cF.mono ?_; rintro _ w6 ⟨rfl, hb6⟩; obtain ⟨c1, f1, hBg, hgw6, s1⟩ := (hq5.below hb6).natSet (ofL_get hil); simp only [Nat.zero_add] at c1 f1 s1)
      have hgm : g ≠ mb := hgb
      have hK7 : Kept (fun k => k = g) w6 (w6.setCell ⟨g, i, none⟩ (.int .i64 (v : Int))) := Kept.setCell w6 ⟨g, i, none⟩ (.int .i64 (v : Int))
      have hT7 := (TurnAt.below hT5 hb6).kept hK7 (fun e => hgm (by have e' : mb = g := e; omega))
      have hX7 := (hX.below hb6 hz5).kept hK7 (fun e => by have e' : wr.heap.size = g := e; omega)
      have hA7 := txA.kept (TxA.At.below hA5 hb6) hK7 (fun b h e => by have h1 := hfx b h; have e' : b = g := e; omega)
      have hq7 := s1 v
      rw [hst.out] at hq7
      have hb7 : Below w.heap.size w (w6.setCell ⟨g, i, none⟩ (.int .i64 (v : Int))) := (hb5.trans (hb6.mono hb5.size)).trans (hK7.below (by have := hb5.size; have := hb6.size; omega) (fun k e => by have e' : k = g := e; omega))
      generalize w6.setCell ⟨g, i, none⟩ (.int .i64 (v : Int)) = w7 at *
      have hbd : Below w7.heap.size w7 w7.drew := below_drewN (Below.refl _ _) 1
      have hT8 := TurnAt.below hT7 hbd
      have hX8 := hX7.drew
      have hA8 := TxA.At.below hA7 hbd
      have hq8 := hq7.below hbd
      have hb8 := hb7.trans (hbd.mono hb7.size)
      have hvi : (ofL (rwL l) l.length (i + 1))[i]? = some v := by
        rw [← hst.out, List.getElem?_set_self (by unfold ofL; rw [List.length_append, wvN_length, List.length_replicate]; omega)]
      have c8 := (hq8.natSet hvi).1
      simp only [Nat.zero_add] at c8
      have n0 := hX8.cell (i := 0) rfl
      have n1 := hX8.cell (i := 1) rfl
      have n2 := hX8.cell (i := 2) rfl
      have n3 := hX8.cell (i := 3) rfl
      have n4 := hX8.cell (i := 4) rfl
      have n5 := hX8.cell (i := 5) rfl
      have n6 := hX8.cell (i := 6) rfl
      have n7 := hX8.cell (i := 7) rfl
      have n8 := hX8.cell (i := 8) rfl
      have cP := put_any x _ hA8 (fun b h => Nat.lt_of_lt_of_le (hfx b h) hb8.size) mb hmbf _ _ hT8 (by omega) v (by omega) (by omega) (by omega)
      replace hst : Hid _ := hst
      clear hT7 hX7 hA7 hq7 hT5 hX hA5 hq5 s1 c1 f1 hK7 hb7 hbd hvi hst cF
      go_wp2_with fail
      rename_i K hK
      replace hK : Hid _ := hK
      go_region_law (go_simp; go_at_call 19; refine cP.mono ?_; rintro e w9 ⟨rfl, hT9, hk9⟩)
      all_goals
        refine hK.out _ _ ?_
        have hq9 := hq8.kept hk9 (fun k e => by simp only [Value.ownBlock, Option.some.injEq] at e; show ¬ k = mb; omega) (fun _ _ _ h => h.elim)
        have hT10 := (TurnAt.congr hT9 hnx.out).mono (M := (i + 1) * 2000) (by omega)
        have hb9 := hb8.trans (hk9.below hb8.size (fun k e => by have e' : k = mb := e; omega))
        clear cP hT9 hk9 hnx hq8 hT8 hX8
        go_wp2
        go_roundw
        case rel => exact ⟨i + 1, by omega, by go_num, hT10, hq9, hb9⟩
        case measure => simp [intOf]; omega
    · have g1 : ¬ (i : Int) < (l.length : Int) := by omega
      have hil2 : i = l.length := by omega
      have hfin : GotOf w (rwL l) (.returned (.slice (some ⟨g, 0, none⟩) l.length l.length)) wr := by
        rw [hil2, ofL_end] at hq
        refine ⟨g, by rw [hlen], ?_, hb⟩
        rw [hlen]
        exact hq
      clear hq hil2 hT hlen
      go_wp2
      go_ret
      exact hfin
end Go.Proofs.Ytkgidmifgfoeiaa
