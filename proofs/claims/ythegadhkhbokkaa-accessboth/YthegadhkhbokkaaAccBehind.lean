/- What (*access.search).behind does. -/
import Derived.Test.YthegadhkhbokkaaAccNew
import Derived.Test.YthegadhkhbokkaaAccBin
import Derived.LoopN
namespace Go.Proofs.Ythegadhkhbokkaa
open Go Go.RowKit
set_option linter.unusedVariables false

/-- Those that were found of member i. -/
structure Fnd (fd : List Nat) (i n : Nat) (acc : List Nat) : Prop where
  len : fd.length = n
  yes : ∀ k v, fd[k]? = some v → k ∈ acc → v = i + 1
  no : ∀ k v, fd[k]? = some v → ¬ k ∈ acc → v ≤ i

theorem Fnd.more {fd : List Nat} {i n k : Nat} {acc : List Nat} (h : Fnd fd i n acc) (hk : k < n) : Fnd (fd.set k (i + 1)) i n (acc ++ [k]) := by
  refine ⟨by rw [List.length_set]; exact h.len, fun j v hj hm => ?_, fun j v hj hm => ?_⟩
  · rw [List.getElem?_set] at hj
    by_cases e : k = j
    · rw [if_pos e, if_pos (by rw [h.len]; omega)] at hj
      cases hj; rfl
    · rw [if_neg e] at hj
      rw [List.mem_append, List.mem_singleton] at hm
      rcases hm with hm | hm
      · exact h.yes j v hj hm
      · exact absurd hm.symm e
  · rw [List.getElem?_set] at hj
    rw [List.mem_append, List.mem_singleton] at hm
    by_cases e : k = j
    · exact absurd (Or.inr e.symm) hm
    · rw [if_neg e] at hj
      exact h.no j v hj (fun e2 => hm (Or.inl e2))

/-- What was found last stays behind for the next member. -/
theorem Fnd.next {fd : List Nat} {i n : Nat} {acc : List Nat} (h : Fnd fd i n acc) : Fnd fd (i + 1) n [] :=
  ⟨h.len, fun _ _ _ hm => absurd hm (List.not_mem_nil), fun k v hv _ => by
    by_cases e : k ∈ acc
    · have := h.yes k v hv e; omega
    · have := h.no k v hv e; omega⟩

theorem Fnd.start (n : Nat) : Fnd (List.replicate n 0) 0 n [] :=
  ⟨List.length_replicate, fun _ _ _ hm => absurd hm (List.not_mem_nil), fun k v hv _ => by
    have := List.mem_of_getElem? hv
    rw [List.mem_replicate] at this
    omega⟩

theorem Srch.setF {w : World} {B sb rb wb fg n : Nat} {SR SW : Nat → Prop} {N : Nat} {lr lw : ByteArray → List Nat} {fd : List Nat} (h : Srch w B sb rb wb fg n SR SW N lr lw fd) {k v : Nat} (hk : fd[k]? = some v) :
    w.cell? ⟨fg, k, none⟩ = some (.int .i64 (v : Int)) ∧ w.frozen? ⟨fg, k, none⟩ = false ∧ ∀ x : Nat, Srch (w.setCell ⟨fg, k, none⟩ (.int .i64 (x : Int))) B sb rb wb fg n SR SW N lr lw (fd.set k x) ∧ Kept (fun k => k = fg) w (w.setCell ⟨fg, k, none⟩ (.int .i64 (x : Int))) := by
  obtain ⟨c, f, _, _, s⟩ := h.fnd.natSet hk
  rw [Nat.zero_add] at c f
  refine ⟨c, f, fun x => ?_⟩
  have s2 := s x
  rw [Nat.zero_add] at s2
  have hk2 : Kept (fun k => k = fg) w (w.setCell ⟨fg, k, none⟩ (.int .i64 (x : Int))) := Kept.setCell w ⟨fg, k, none⟩ _
  exact ⟨⟨h.box.kept hk2 h.sf, h.rd.kept hk2 (fun b hb e => h.fr (by have e' : b = fg := e; rw [← e']; exact hb)), h.wr.kept hk2 (fun b hb e => h.fw (by have e' : b = fg := e; rw [← e']; exact hb)), s2, h.apart, h.fr, h.fw, h.sr, h.sw, h.sf, h.sge⟩, hk2⟩

theorem Srch.kept {T : Nat → Prop} {w w' : World} {B sb rb wb fg n : Nat} {SR SW : Nat → Prop} {N : Nat} {lr lw : ByteArray → List Nat} {fd : List Nat} (h : Srch w B sb rb wb fg n SR SW N lr lw fd) (hk : Kept T w w') (h1 : ∀ b, SR b → ¬ T b) (h2 : ∀ b, SW b → ¬ T b) (h3 : ¬ T sb) (h4 : ¬ T fg) : Srch w' B sb rb wb fg n SR SW N lr lw fd :=
  ⟨h.box.kept hk h3, h.rd.kept hk h1, h.wr.kept hk h2, h.fnd.kept hk (fun k e => by
    simp only [Value.ownBlock, Option.some.injEq] at e
    rw [← e]
    exact h4) (fun _ _ _ h => h.elim), h.apart, h.fr, h.fw, h.sr, h.sw, h.sf, h.sge⟩

/-- What lies behind a world's end is no part of a search that lay in it. -/
theorem Srch.keptNew {T : Nat → Prop} {W w w' : World} {B sb rb wb fg n : Nat} {SR SW : Nat → Prop} {N N0 : Nat} {lr lw lr0 lw0 : ByteArray → List Nat} {fd fd0 : List Nat} (h0 : Srch W B sb rb wb fg n SR SW N0 lr0 lw0 fd0) (h : Srch w B sb rb wb fg n SR SW N lr lw fd) (hk : Kept T w w') (hT : ∀ b, T b → W.heap.size ≤ b) : Srch w' B sb rb wb fg n SR SW N lr lw fd :=
  h.kept hk (fun b hb e => by have := h0.rd.lt b hb; have := hT b e; omega) (fun b hb e => by have := h0.wr.lt b hb; have := hT b e; omega) (fun e => by have := h0.box.lt; have := hT _ e; omega) (fun e => by have := h0.fge.2; have := hT _ e; omega)

def GotBehind (W : World) (B sb rb wb fg n : Nat) (SR SW : Nat → Prop) (N : Nat) (lr lw : ByteArray → List Nat) (i : Nat) (acc L : List Nat) (e : Ending) (w : World) : Prop :=
  ∃ ao cap fl fd, e = .returned (.slice ao fl.length cap) ∧ KQ natK 3 w W.heap.size (.slice ao fl.length cap) fl ∧ Srch w B sb rb wb fg n SR SW N lr lw fd ∧ Fnd fd i n (acc ++ fl) ∧
    (∀ k, k ∈ fl ↔ k ∈ L ∧ i < k ∧ ¬ k ∈ acc) ∧ fl.Nodup ∧ Kept (fun k => k = fg) W w

/-- Those of the first j behind place p that were not found. -/
def freshL (L acc : List Nat) (p j : Nat) : List Nat := ((L.drop p).take j).filter (fun k => decide (¬ k ∈ acc))

theorem freshL_next {L acc : List Nat} {p j k : Nat} (hk : L[p + j]? = some k) : freshL L acc p (j + 1) = freshL L acc p j ++ (if k ∈ acc then [] else [k]) := by
  unfold freshL
  rw [List.take_add_one, List.getElem?_drop, hk, List.filter_append]
  congr 1
  by_cases h : k ∈ acc
  · rw [if_pos h, Option.toList_some, List.filter_cons_of_neg (by simpa using h)]; rfl
  · rw [if_neg h, Option.toList_some, List.filter_cons_of_pos (by simpa using h)]; rfl

theorem freshL_len (L acc : List Nat) (p j : Nat) : (freshL L acc p j).length ≤ j := by
  unfold freshL
  refine Nat.le_trans (List.length_filter_le _ _) ?_
  rw [List.length_take]
  omega

theorem freshL_not {L acc : List Nat} {p j k : Nat} (hr : L.Pairwise (· < ·)) (hk : L[p + j]? = some k) : ¬ k ∈ freshL L acc p j := by
  unfold freshL
  intro h
  have h := (List.mem_filter.1 h).1
  obtain ⟨m, hm⟩ := List.mem_iff_getElem?.1 h
  rw [List.getElem?_take] at hm
  split at hm
  · rw [List.getElem?_drop] at hm
    have := rise_get hr (by omega) hm hk
    omega
  · cases hm

theorem freshL_all {L acc : List Nat} {p i : Nat} (hr : L.Pairwise (· < ·)) (hlo : ∀ k x, k < p → L[k]? = some x → x < i + 1) (hhi : ∀ k x, p ≤ k → L[k]? = some x → i + 1 ≤ x) :
    (∀ k, k ∈ freshL L acc p (L.length - p) ↔ k ∈ L ∧ i < k ∧ ¬ k ∈ acc) ∧ (freshL L acc p (L.length - p)).Nodup := by
  have e : freshL L acc p (L.length - p) = (L.drop p).filter (fun k => decide (¬ k ∈ acc)) := by
    unfold freshL
    rw [List.take_of_length_le (by rw [List.length_drop]; omega)]
  rw [e]
  constructor
  · intro k
    rw [List.mem_filter, decide_eq_true_iff]
    constructor
    · rintro ⟨h1, h2⟩
      obtain ⟨m, hm⟩ := List.mem_iff_getElem?.1 h1
      rw [List.getElem?_drop] at hm
      have := hhi (p + m) k (by omega) hm
      exact ⟨List.mem_of_getElem? hm, by omega, h2⟩
    · rintro ⟨h1, h2, h3⟩
      obtain ⟨m, hm⟩ := List.mem_iff_getElem?.1 h1
      have hpm : p ≤ m := by
        rcases Nat.lt_or_ge m p with h | h
        · have := hlo m k h hm; omega
        · exact h
      refine ⟨List.mem_iff_getElem?.2 ⟨m - p, ?_⟩, h3⟩
      rw [List.getElem?_drop, show p + (m - p) = m by omega]
      exact hm
  · exact ((hr.sublist (List.drop_sublist _ _)).imp (fun h => Nat.ne_of_lt h)).filter _

set_option maxRecDepth 100000 in
set_option maxHeartbeats 2000000 in
theorem behind_any (B sb rb wb fg n : Nat) (SR SW : Nat → Prop) (N : Nat) (lr lw : ByteArray → List Nat) (fd : List Nat) (i : Nat) (acc L : List Nat) (la : Option Addr) (lc : Nat) (w : World) (hS : Srch w B sb rb wb fg n SR SW N lr lw fd) (hF : Fnd fd i n acc)
    (hL : RowAt natK w la L) (hLn : la = none → lc = 0) (hLc : L.length ≤ lc) (hLm : lc ≤ maxLen) (hr : L.Pairwise (· < ·)) (hx : ∀ x ∈ L, x < n) (hn : n ≤ 1000) (hi : i < n) (hLl : L.length ≤ 1000) (hfo : ∀ b, rowFoot natK la L b → b ≠ fg) :
    Calls Try.prog 25 #[.pointer (some ⟨sb, 0, none⟩), .int .i64 (i : Int), .slice la L.length lc] w fun e w' => GotBehind w B sb rb wb fg n SR SW N lr lw i acc L e w' := by
  obtain ⟨i0, hi0, hz0, hs0, hb0⟩ := intZeroA
  have cB := bin_any L la lc (i + 1) w hL (by omega) hr (by omega) (fun x h => by have := hx x h; omega)
  go_enter Try.func25, Try.ntmps25
  go_wp2_with fail
  refine cB.mono ?_
  rintro _ w2 ⟨p, bb, rfl, hp, hlo, hhi, e2⟩
  subst e2
  obtain ⟨hall, hnd⟩ := freshL_all (acc := acc) hr hlo hhi
  clear cB hlo hhi
  by_cases hpl : p = L.length
  · have e0 : freshL L acc p (L.length - p) = [] := by
      rw [hpl, Nat.sub_self]; rfl
    rw [e0] at hall hnd
    have hfin : GotBehind w2 B sb rb wb fg n SR SW N lr lw i acc L (.returned (.slice none 0 0)) w2 := ⟨none, 0, [], fd, rfl, KQ.empty _ _ _ _, hS, by rw [List.append_nil]; exact hF, hall, hnd, Kept.refl _ _⟩
    clear hall hnd e0
    go_wp2_with fail
    all_goals
      refine wp_loop_rounds 1 ?_
      unfold Code.rounds Code.rounds
      go_wp2
      go_ret
      exact hfin
  · have hpl2 : p < L.length := by omega
    obtain ⟨x0, hx0⟩ : ∃ x, L[p]? = some x := ⟨_, List.getElem?_eq_getElem hpl2⟩
    obtain ⟨b, off, rfl, hbl, _⟩ := hL.nat hx0
    have hcp : ¬ lc = p := by omega
    have hcp2 : p ≤ lc := by omega
    clear hx0
    go_wp2_with fail
    have hQ0 := KQ.empty natK 3 w2 w2.heap.size
    have hfg := hS.fge.2
    have hall' : Hid _ := hall
    have hnd' : Hid _ := hnd
    clear hall hnd hpl
    go_loopw [7, 23] (fun v7 v23 wr => ∃ (j : Nat) (ao : Option Addr) (cap : Nat) (fl fd : List Nat), j ≤ L.length - p ∧ v7 = .slice ao fl.length cap ∧ v23 = .int .i64 (j : Int) ∧ Hid (fl = freshL L acc p j) ∧ KQ natK 3 wr w2.heap.size (.slice ao fl.length cap) fl ∧ Srch wr B sb rb wb fg n SR SW N lr lw fd ∧ Hid (Fnd fd i n (acc ++ freshL L acc p j)) ∧ Kept (fun k => k = fg) w2 wr) (fun _ v _ => (L.length - p) - (intOf v).toNat)
    case atStart => exact ⟨0, none, 0, [], fd, Nat.zero_le _, rfl, rfl, rfl, hQ0, hS, by show Fnd fd i n (acc ++ []); rw [List.append_nil]; exact hF, Kept.refl _ _⟩
    case round =>
      obtain ⟨j, ao, cap, fl, fd, hj, rfl, rfl, hfl, hq, hs, hF2, hk⟩ := hrel
      clear hQ0 hF
      by_cases hjl : j < L.length - p
      · have g1 : (j : Int) < ((L.length - p : Nat) : Int) := by omega
        obtain ⟨k, hkL⟩ : ∃ x, L[p + j]? = some x := ⟨_, List.getElem?_eq_getElem (by omega)⟩
        have hLr := hL.kept hk (fun b hb => hfo b hb)
        obtain ⟨b', off', e', hbl', hcell⟩ := hLr.nat hkL
        simp only [Option.some.injEq, Addr.mk.injEq, and_true] at e'
        obtain ⟨rfl, rfl⟩ := e'
        rw [← Nat.add_assoc] at hcell
        have hkn := hx k (List.mem_of_getElem? hkL)
        have hnx := freshL_next (acc := acc) hkL
        have hno := freshL_not (acc := acc) hr hkL
        obtain ⟨v, hv⟩ : ∃ v, fd[k]? = some v := ⟨_, List.getElem?_eq_getElem (by rw [hF2.out.len]; exact hkn)⟩
        obtain ⟨cv, fv, sv⟩ := hs.setF hv
        have c2 := hs.box.cell (i := 2) rfl
        by_cases hka : k ∈ acc
        · have hvi := hF2.out.yes k v hv (List.mem_append_left _ hka)
          have g2 : ¬ (v : Int) ≤ (i : Int) := by omega
          rw [if_pos hka, List.append_nil] at hnx
          have hfl2 : Hid (fl = freshL L acc p (j + 1)) := by rw [hnx]; exact hfl.out
          have hF3 : Hid (Fnd fd i n (acc ++ freshL L acc p (j + 1))) := by rw [hnx]; exact hF2.out
          clear hnx hfl hF2 sv hkL hv hvi
          go_wp2
          go_roundw
          case rel => exact ⟨j + 1, ao, cap, fl, fd, by omega, rfl, by go_num, hfl2, hq, hs, hF3, hk⟩
          case measure => simp [intOf]; omega
        · have hvi := hF2.out.no k v hv (fun h => (List.mem_append.1 h).elim hka hno)
          have g2 : (v : Int) ≤ (i : Int) := by omega
          rw [if_neg hka] at hnx
          have hfl3 : fl.length ≤ 1000 := by rw [hfl.out]; have := freshL_len L acc p j; omega
          have hfl2 : Hid (fl ++ [k] = freshL L acc p (j + 1)) := by rw [hnx, ← hfl.out]; rfl
          have hF3 : Hid (Fnd (fd.set k (i + 1)) i n (acc ++ freshL L acc p (j + 1))) := by rw [hnx, ← List.append_assoc]; exact hF2.out.more hkn
          obtain ⟨hs2, hk2⟩ := sv (i + 1)
          have hk3 := hk.trans hk2
          have hfgl : fg < w2.heap.size := hfg
          have hq2 := hq.kept hk2 (fun q e e2 => by have h1 := (hq.lt q e).1; have h2 : q = fg := e2; omega) (fun _ _ _ h => h.elim)
          have ecast : ((i + 1 : Nat) : Int) = (i : Int) + 1 := by omega
          rw [ecast] at hs2 hk2 hk3 hq2
          have hnew := belowNew (wr.setCell ⟨fg, k, none⟩ (.int .i64 ((i : Int) + 1))) (.cells #[.int .i64 ((k : Nat) : Int)] 3)
          have hNW := new_nat (wr.setCell ⟨fg, k, none⟩ (.int .i64 ((i : Int) + 1))) k
          have hq3 := hq2.below hnew
          have hs3 := hs2.below hnew
          have hk4 := hk3.trans (Kept.of_below hnew)
          have hbs := hk4.size
          have m1 : fl.length + 1 ≤ maxLen := by unfold maxLen; omega
          have m2 : (fl.length + 1) * 8 ≤ 140737488355328 := by omega
          rw [setCell_size] at hNW
          clear hnx hfl hF2 sv hkL hv hvi hno hka hq hs hs2 hq2 hk hk2 hk3 ecast hnew hfgl
          go_wp2_with (at_builtin; refine wpList_pushN (K := natK) rfl _ _ 33 rfl w2.heap.size 3 i0 _ 8 Try.underlying33 hi0 hz0 hs0 hb0 rfl _ fl rfl hq3 k trivial (fun _ h => h.elim) ⟨wr.heap.size, 0, none⟩ 1 rfl hNW m1 m2 hbs ?_; intro ao3 cap3 w3 hQ3 hk5 hf3)
          have hs4 := hS.keptNew hs3 hk5 (fun b e => (hq3.lt b e).1)
          have hk6 := hk4.transNew hk5 (fun b e => (hq3.lt b e).1)
          clear hs3 hk4 hk5 hf3
          go_roundw
          case rel => exact ⟨j + 1, ao3, cap3, fl ++ [k], fd.set k (i + 1), by omega, by rw [List.length_append, List.length_singleton], by go_num, hfl2, (by first | exact hQ3 | (rw [List.length_append, List.length_singleton]; exact hQ3)), hs4, hF3, hk6⟩
          case measure => simp [intOf]; omega
      · have g1 : ¬ (j : Int) < ((L.length - p : Nat) : Int) := by omega
        have hjr : j = L.length - p := by omega
        rw [hjr] at hfl hF2
        rw [← hfl.out] at hF2 hall' hnd'
        have hfin : GotBehind w2 B sb rb wb fg n SR SW N lr lw i acc L (.returned (.slice ao fl.length cap)) wr := ⟨ao, cap, fl, fd, rfl, hq, hs, hF2.out, hall'.out, hnd'.out, hk⟩
        clear hjr hfl hF2 hall' hnd'
        go_wp2
        go_ret
        exact hfin
end Go.Proofs.Ythegadhkhbokkaa
