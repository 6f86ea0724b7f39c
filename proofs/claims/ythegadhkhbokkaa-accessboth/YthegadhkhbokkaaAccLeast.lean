/- What (access.groups).least and join do. -/
import Derived.Test.YthegadhkhbokkaaAccTx
import Derived.Test.YthegadhkhbokkaaAccUnion
import Derived.Laws.OwnMore
namespace Go.Proofs.Ythegadhkhbokkaa
open Go Go.RowKit
set_option linter.unusedVariables false

/-- A number of a row of the call's own, and how it is written. -/
theorem KQ.natSet {T : TypeId} {w : World} {B g off n cap : Nat} {l : List Nat} (h : KQ natK T w B (.slice (some ⟨g, off, none⟩) n cap) l) {i x : Nat} (hx : l[i]? = some x) :
    w.cell? ⟨g, off + i, none⟩ = some (.int .i64 (x : Int)) ∧ w.frozen? ⟨g, off + i, none⟩ = false ∧ B ≤ g ∧ g < w.heap.size ∧ ∀ v : Nat, KQ natK T (w.setCell ⟨g, off + i, none⟩ (.int .i64 (v : Int))) B (.slice (some ⟨g, off, none⟩) n cap) (l.set i v) := by
  obtain ⟨g', off', e', q2, q3, q4, q5, q6⟩ := h.set hx
  simp only [Option.some.injEq, Addr.mk.injEq, and_true] at e'
  obtain ⟨rfl, rfl⟩ := e'
  have e : off + i * natK.n + 0 = off + i := by show off + i * 1 + 0 = _; omega
  refine ⟨?_, q5 _, q2, q3, fun v => ?_⟩
  · have := q4 0 _ rfl
    rw [e] at this
    exact this
  · have := q6 v 0 (.int .i64 (v : Int)) (by show 0 < 1; decide) rfl trivial (fun _ h => h)
    rw [e] at this
    exact this

theorem KQ.natAt {T : TypeId} {w : World} {B n cap : Nat} {ao : Option Addr} {l : List Nat} (h : KQ natK T w B (.slice ao n cap) l) (hl : 0 < l.length) : ∃ g off, ao = some ⟨g, off, none⟩ := by
  obtain ⟨g, off, e, _⟩ := h.spot hl
  exact ⟨g, off, e⟩

/-- What points to an end stays as it is. -/
def Stay (g g' : List Nat) : Prop := ∀ x, up g (up g x) = up g x → up g' x = up g x

theorem Stay.refl (g : List Nat) : Stay g g := fun _ _ => rfl

theorem Stay.trans {g g' g'' : List Nat} (h : Stay g g') (k : Stay g' g'') : Stay g g'' := by
  intro x hx
  have h1 := h x hx
  have h2 := h (up g x) (by rw [hx, hx])
  rw [hx] at h2
  have h3 := k x (by rw [h1]; exact h2)
  rw [h3, h1]

theorem stay_halve {g : List Nat} {j : Nat} (hj : j < g.length) : Stay g (g.set j (up g (up g j))) := by
  intro x hx
  rw [up_set hj]
  split
  · rename_i e
    rw [e] at hx ⊢
    exact hx
  · rfl

/-- The least one of a group is told. -/
def GotLeast (l : List RwD) (W : World) (B g : Nat) (q : Value) (gl : List Nat) (i : Nat) (e : Ending) (w : World) : Prop :=
  ∃ r gl', e = .returned (.int .i64 ((r : Nat) : Int)) ∧ Root gl i r ∧ KQ natK 3 w B q gl' ∧ UF l gl' ∧ (∀ x s, Root gl x s → Root gl' x s) ∧ Stay gl gl' ∧ Kept (fun k => k = g) W w

set_option maxRecDepth 100000 in
set_option maxHeartbeats 1000000 in
theorem least_any (l : List RwD) (hl : l.length ≤ 1000000) (B g off cap : Nat) (gl : List Nat) (i : Nat) (w : World) (hq : KQ natK 3 w B (.slice (some ⟨g, off, none⟩) l.length cap) gl) (hu : UF l gl) (hi : i < l.length) :
    Calls Try.prog 21 #[.slice (some ⟨g, off, none⟩) l.length cap, .int .i64 (i : Int)] w fun e w' => GotLeast l w B g (.slice (some ⟨g, off, none⟩) l.length cap) gl i e w' := by
  obtain ⟨r, hr⟩ := Root.ex hu.dn i
  have hr' : Hid (Root gl i r) := hr
  go_enter Try.func21, Try.ntmps21
  go_wp2_with fail
  go_loopw [1] (fun v1 wr => ∃ (j : Nat) (gl' : List Nat), j < l.length ∧ v1 = .int .i64 (j : Int) ∧ KQ natK 3 wr B (.slice (some ⟨g, off, none⟩) l.length cap) gl' ∧ UF l gl' ∧ Hid (∀ x s, Root gl x s → Root gl' x s) ∧ Hid (Stay gl gl') ∧ Hid (Root gl' j r) ∧ Kept (fun k => k = g) w wr) (fun v _ => (intOf v).toNat)
  case atStart => exact ⟨i, gl, hi, rfl, hq, hu, fun _ _ h => h, Stay.refl _, hr, Kept.refl _ _⟩
  case round =>
    obtain ⟨j, gl', hj, rfl, hq1, hu1, hrs, hst, hrj, hk⟩ := hrel
    clear hr hq hu hi
    have hlen : gl'.length = l.length := hu1.snd.1
    obtain ⟨p, hp⟩ : ∃ p, gl'[j]? = some p := ⟨_, List.getElem?_eq_getElem (by rw [hlen]; exact hj)⟩
    have hup := up_get hp
    have hpj := hu1.dn j
    rw [hup] at hpj
    obtain ⟨c1, f1, hBg, hgw, s1⟩ := hq1.natSet hp
    by_cases he : p = j
    · subst he
      have hfin : Hid (Root gl i p) := by
        have := hrj.out.uniq (.top hup)
        have h2 := hr'.out
        rw [this] at h2
        exact h2
      have hup' : Hid _ := hup
      have hlen' : Hid _ := hlen
      clear hup hrj hr' hlen s1
      go_wp2
      go_ret
      exact ⟨p, gl', rfl, hfin.out, hq1, hu1, hrs.out, hst.out, hk⟩
    · have hpl : p < l.length := by omega
      have hplt : p < j := by omega
      obtain ⟨p2, hp2⟩ : ∃ p2, gl'[p]? = some p2 := ⟨_, List.getElem?_eq_getElem (by rw [hlen]; exact hpl)⟩
      obtain ⟨c2, _⟩ := hq1.natSet hp2
      have hup2 := up_get hp2
      have hpp := hu1.dn p
      rw [hup2] at hpp
      have hhv := hu1.halve hj (by rw [hup]; exact he)
      have hst2 := stay_halve (g := gl') (j := j) (by rw [hlen]; exact hj)
      rw [hup, hup2] at hhv hst2
      have hst3 : Hid (Stay gl (gl'.set j p2)) := hst.out.trans hst2
      clear hst2
      have hQ2 := s1 p2
      have g1 : ((p : Int) == (j : Int)) = false := by simp; omega
      have hk2 := hk.set (p := ⟨g, off + j, none⟩) (Eq.refl g) (.int .i64 (p2 : Int))
      have hrj2 : Hid (Root (gl'.set j p2) p2 r) := by
        have h1 := hrj.out.of_up
        rw [hup] at h1
        have h2 := h1.of_up
        rw [hup2] at h2
        exact hhv.2 p2 r h2
      have hrs2 : Hid (∀ x s, Root gl x s → Root (gl'.set j p2) x s) := fun x s h => hhv.2 x s (hrs.out x s h)
      obtain ⟨c3, _⟩ := hQ2.natSet (i := j) (x := p2) (by rw [List.getElem?_set_self (by rw [hlen]; exact hj)])
      have hu2 := hhv.1
      have hx1 : Hid _ := hup
      have hx2 : Hid _ := hup2
      have hx3 : Hid _ := hlen
      clear hhv hrs hrj hup hup2 hlen s1 he hp hp2
      go_wp2
      go_roundw
      case rel => exact ⟨p2, gl'.set j p2, by omega, rfl, hQ2, hu2, hrs2, hst3, hrj2, hk2⟩
      case measure => simp [intOf]; omega

/-- Two groups are joined. -/
def GotJoin (l : List RwD) (W : World) (B g : Nat) (q : Value) (gl : List Nat) (i k : Nat) (e : Ending) (w : World) : Prop :=
  e = .returned (.tuple #[]) ∧ ∃ gl', KQ natK 3 w B q gl' ∧ UF l gl' ∧ (∀ x y, Same2 gl x y → Same2 gl' x y) ∧ Same2 gl' i k ∧ Kept (fun k => k = g) W w

set_option maxRecDepth 100000 in
set_option maxHeartbeats 1000000 in
theorem join_any (l : List RwD) (hl : l.length ≤ 1000000) (B g off cap : Nat) (gl : List Nat) (i k : Nat) (w : World) (hq : KQ natK 3 w B (.slice (some ⟨g, off, none⟩) l.length cap) gl) (hu : UF l gl) (hi : i < l.length) (hk : k < l.length) (hc : Conn l i k) :
    Calls Try.prog 27 #[.slice (some ⟨g, off, none⟩) l.length cap, .int .i64 (i : Int), .int .i64 (k : Int)] w fun e w' => GotJoin l w B g (.slice (some ⟨g, off, none⟩) l.length cap) gl i k e w' := by
  have c1 := least_any l hl B g off cap gl i w hq hu hi
  go_enter Try.func27, Try.ntmps27
  go_wp2_with fail
  refine c1.mono ?_
  rintro _ w1 ⟨r1, gl1, rfl, hr1, hq1, hu1, hs1, _, hk1⟩
  have c2 := least_any l hl B g off cap gl1 k w1 hq1 hu1 hk
  go_wp2_with fail
  refine c2.mono ?_
  rintro _ w2 ⟨r2, gl2, rfl, hr2, hq2, hu2, hs2, _, hk2⟩
  clear c1 c2 hq
  have hR1 := hs2 _ _ (hs1 _ _ hr1)
  have hR2 := hs2 _ _ hr2
  have f1 := hR1.fix
  have f2 := hR2.fix
  have b1 : r1 < l.length := Nat.lt_of_le_of_lt (hR1.le hu2.dn) hi
  have b2 : r2 < l.length := Nat.lt_of_le_of_lt (hR2.le hu2.dn) hk
  have cc : Conn l r1 r2 := (hR1.conn hu2 hi).symm.trans (hc.trans (hR2.conn hu2 hk))
  obtain ⟨j1, j2, j3⟩ := hu2.join b1 b2 cc f1 f2
  have hlen : gl2.length = l.length := hu2.snd.1
  have hmx : max r1 r2 < l.length := by omega
  obtain ⟨p, hp⟩ : ∃ p, gl2[max r1 r2]? = some p := ⟨_, List.getElem?_eq_getElem (by rw [hlen]; exact hmx)⟩
  obtain ⟨cm, fm, hBg, hgw, sm⟩ := hq2.natSet hp
  have hQ3 := sm (min r1 r2)
  have hK := ((hk1.trans hk2).set (p := ⟨g, off + max r1 r2, none⟩) (Eq.refl g) (.int .i64 ((min r1 r2 : Nat) : Int)))
  have hfin : Hid (∃ gl', KQ natK 3 (w2.setCell ⟨g, off + max r1 r2, none⟩ (.int .i64 ((min r1 r2 : Nat) : Int))) B (.slice (some ⟨g, off, none⟩) l.length cap) gl' ∧ UF l gl' ∧ (∀ x y, Same2 gl x y → Same2 gl' x y) ∧ Same2 gl' i k ∧ Kept (fun k => k = g) w (w2.setCell ⟨g, off + max r1 r2, none⟩ (.int .i64 ((min r1 r2 : Nat) : Int)))) := by
    have hS : ∀ x y, Same2 gl x y → Same2 gl2 x y := fun x y ⟨r, h1, h2⟩ => ⟨r, hs2 _ _ (hs1 _ _ h1), hs2 _ _ (hs1 _ _ h2)⟩
    refine ⟨_, hQ3, j1, fun x y h => j2 x y (hS x y h), ?_, hK⟩
    exact (j2 _ _ ⟨r1, hR1, .top f1⟩).trans (j3.trans (j2 _ _ ⟨r2, .top f2, hR2⟩))
  clear hQ3 hK sm j1 j2 j3 hlen f1 f2 hR1 hR2 hp hk1 hk2 hs1 hs2 hr1 hr2 hq1 hq2 hu1 hu2 cc
  rcases Nat.lt_trichotomy r1 r2 with h12 | h12 | h12
  · have h21 : ¬ r2 < r1 := by omega
    rw [Nat.max_eq_right (Nat.le_of_lt h12), Nat.min_eq_left (Nat.le_of_lt h12)] at *
    go_wp2
    go_end0
    exact ⟨rfl, hfin.out⟩
  · subst h12
    rw [Nat.max_self, Nat.min_self] at *
    go_wp2
    go_end0
    exact ⟨rfl, hfin.out⟩
  · have h21 : ¬ r1 < r2 := by omega
    rw [Nat.max_eq_left (Nat.le_of_lt h12), Nat.min_eq_right (Nat.le_of_lt h12)] at *
    go_wp2
    go_end0
    exact ⟨rfl, hfin.out⟩
end Go.Proofs.Ythegadhkhbokkaa
