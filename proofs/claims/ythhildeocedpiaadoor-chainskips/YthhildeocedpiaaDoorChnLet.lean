/- Blocks are let go; a block is committed. -/
import Derived.Test.YthhildeocedpiaaDoorChnPend
import Derived.Test.YthhildeocedpiaaDoorMapStrSize
namespace Go.Proofs.YthhildeocedpiaaDoor
open Go Go.RowKit
set_option linter.unusedVariables false

section
variable {w w' : World} {L : LinP} {c m k lo lk la hi vt : Nat} {ad : Nat → Nat}

/-- A link whose parent may have been let go. -/
def lnP (L : LinP) (ad : Nat → Nat) (la j : Nat) (p : Value) : List Value := [.string (L.ids j), .int .i64 (L.vw j : Int), .int .i64 (L.vw (j - 1) : Int), .string (if j = 0 then ⟨#[]⟩ else L.ids (j - 1)), .slice none 0 0, .slice none 0 0, p, .bool (decide (j ≤ la))]

def parV (ad : Nat → Nat) (j : Nat) : Value := if j = 0 then .pointer none else ptrL (ad (j - 1))

theorem lnP_par (L : LinP) (ad : Nat → Nat) (la j : Nat) : lnP L ad la j (parV ad j) = lnC L ad la j := rfl

theorem lnF_isSome {K : Nat} (hL : L.Ok K) (hK : k ≤ K) (id : ByteArray) : (lnF L ad lo k id).isSome = true ↔ id ∈ (List.range' lo (k + 1 - lo)).map L.ids := by
  constructor
  · intro h
    obtain ⟨v, hv⟩ := Option.isSome_iff_exists.1 h
    obtain ⟨j, h1, h2, h3, _⟩ := lnF_some hv
    exact List.mem_map.2 ⟨j, List.mem_range'_1.2 ⟨h1, by omega⟩, h3⟩
  · intro h
    obtain ⟨j, hj, rfl⟩ := List.mem_map.1 h
    obtain ⟨h1, h2⟩ := List.mem_range'_1.1 hj
    rw [lnF_at hL hK h1 (by omega)]
    rfl

theorem ids_nodup {K : Nat} (hL : L.Ok K) (hK : k ≤ K) : ((List.range' lo (k + 1 - lo)).map L.ids).Nodup := by
  unfold List.Nodup
  rw [List.pairwise_map]
  refine List.Pairwise.imp_of_mem ?_ (List.pairwise_lt_range' (s := lo) (n := k + 1 - lo))
  intro a b ha hb hlt e
  have h1 := List.mem_range'_1.1 ha
  have h2 := List.mem_range'_1.1 hb
  have := hL.inj a b (by omega) (by omega) e
  omega

set_option maxRecDepth 100000 in
set_option maxHeartbeats 2000000 in
theorem letGo_any {K : Nat} (hL : L.Ok K) (hK : k ≤ K) (h : ChAt w L c m ad k lo lk la hi vt) {n : Nat} (h1 : lo ≤ n) (h2 : n ≤ la) :
    Calls Tryd.prog 88 #[ptrL c, .int .i64 (L.vw n : Int)] w fun e w' => e = .returned (.tuple #[]) ∧ ChAt w' L c m ad k n lk la hi vt ∧ Kept (ChS c m ad lo k) w w' := by
  have hlk := Nat.le_trans h.ola h.olk
  have hkk := Nat.le_trans h2 (Nat.le_trans h.olk h.okk)
  have hM := h.mp
  obtain ⟨f0, hf0⟩ : ∃ f, Hid (lnF L ad lo k = f) := ⟨_, rfl⟩
  obtain ⟨g0, hg0⟩ : ∃ g, Hid (lnF L ad n k = g) := ⟨_, rfl⟩
  rw [hf0.out] at hM
  have hsub : ∀ i, f0 i = none → g0 i = none := fun i hi => by
    cases e : g0 i with
    | none => rfl
    | some v =>
      rw [← hg0.out] at e
      obtain ⟨j, a, b, rfl, _⟩ := lnF_some e
      rw [← hf0.out, lnF_at hL hK (by omega) b] at hi
      cases hi
  have hstep : Hid (∀ id v, f0 id = some v → ∃ j, lo ≤ j ∧ j ≤ k ∧ L.ids j = id ∧ v = ptrL (ad j) ∧ (j < n → g0 id = none) ∧ (n ≤ j → f0 id = g0 id)) := fun id v hv => by
    have hv' := hv
    rw [← hf0.out] at hv
    obtain ⟨j, a, b, rfl, rfl⟩ := lnF_some hv
    refine ⟨j, a, b, rfl, rfl, fun hj => ?_, fun hj => ?_⟩
    · rw [← hg0.out]
      refine lnF_none (fun i q1 q2 e => ?_)
      have := hL.inj i j (by omega) (by omega) e
      omega
    · rw [hv', ← hg0.out, lnF_at hL hK hj b]
  have hcount : Hid (∀ w' n', SMap w' m g0 n' → n' = k + 1 - n) := fun w' n' hm => by
    have := hm.count (ids_nodup (lo := n) hL hK) (fun i => by rw [← hg0.out]; exact lnF_isSome hL hK i)
    rw [this, List.length_map, List.length_range']
  have hlnk : ∀ j, lo ≤ j → j ≤ k → Arr w (ad j) 112 (lnP L ad la j (parV ad j)) := h.ln
  have c0 := h.box.cell (i := 0) rfl
  have hbox := h.box
  unfold ptrL
  go_enter Tryd.func88, Tryd.ntmps88
  go_wp2_with (at_range; refine smap_range rfl _ 113 rfl 110 Tryd.underlying113 m f0 _ rfl hM ?_; intro w1 hR1 hb1 hs1)
  obtain ⟨r, hr⟩ : ∃ r, Hid (w.heap.size = r) := ⟨_, rfl⟩
  rw [hr.out] at hR1 ⊢
  have hrb : Hid (r ≠ c ∧ r ≠ m ∧ ∀ j, lo ≤ j → j ≤ k → r ≠ ad j) := by
    have q := hr.out
    refine ⟨?_, ?_, fun j a b => ?_⟩
    · have := h.box.lt; omega
    · have := h.mp.lt; omega
    · have := (h.ln j a b).lt; omega
  have hX1 := hbox.below hb1 hbox.lt
  have hK1 : Kept (ChS c m ad lo k) w w1 := Kept.of_below hb1
  have hL1 : Hid (∀ j, lo ≤ j → j ≤ k → ∃ p, Arr w1 (ad j) 112 (lnP L ad la j p) ∧ (n ≤ j → p = parV ad j)) := fun j a b => ⟨_, (hlnk j a b).below hb1 (hlnk j a b).lt, fun _ => rfl⟩
  have hR0 := hR1.congr (fun i => (mixF_start f0 g0 hsub i).symm)
  have hnr : ∀ b, ChS c m ad lo k b → b ≠ r := fun b hb e => by
    obtain ⟨q1, q2, q3⟩ := hrb.out
    rcases hb with e1 | e1 | ⟨j, a, b', e1⟩
    · exact q1 (by omega)
    · exact q2 (by omega)
    · exact q3 j a b' (by omega)
  have hrn : Hid (∀ wr' wr'', Kept (fun k => k = r) wr' wr'' → Kept (ChS c m ad lo k) w wr' → Kept (ChS c m ad lo k) w wr'') := fun wr' wr'' a b => b.transNew a (fun k e => by have e' : k = r := e; have := hr.out; omega)
  obtain ⟨vn, hvn⟩ : ∃ z, Hid (L.vw n = z) := ⟨_, rfl⟩
  rw [hvn.out]
  clear hR1 c0 hlnk hM
  simp only [Act.put, List.setIfInBounds_toArray, List.set_cons_zero, List.set_cons_succ]
  go_loopw [11] (fun _ wr => ∃ (left : ByteArray → Bool) (cnt n' : Nat), SRange wr m r (mixF f0 g0 left) n' left cnt ∧ Arr wr c 115 [.map (some m), .int .i64 (L.vw hi : Int), .string (L.ids hi), .slice none 0 0, ptrL (ad lk), ptrL (ad la), .int .i64 (vt : Int)] ∧ Hid (∀ j, lo ≤ j → j ≤ k → ∃ p, Arr wr (ad j) 112 (lnP L ad la j p) ∧ (n ≤ j → p = parV ad j)) ∧ Kept (ChS c m ad lo k) w wr) (fun _ wr => wr.rangeLeft m r)
  case atStart => exact ⟨_, _, _, hR0, hX1, hL1, hK1⟩
  case round =>
    obtain ⟨left, cnt, n', hR, hX, hLn, hKw⟩ := hrel
    clear hR0 hX1 hK1 hb1 hs1 hL1
    have c0 := hX.cell (i := 0) rfl
    go_wp2_with (at_next; refine smap_next rfl _ rfl m r _ _ _ _ rfl hR ?_ ?_)
    · intro hl
      have hMF : SMap wr m g0 n' := hR.map.congr (fun i => by
        unfold mixF
        rw [hl i]
        rfl)
      have hn := hcount.out _ _ hMF
      subst hn
      have hfin : ChAt wr L c m ad k n lk la hi vt := ⟨hX, by rw [hg0.out]; exact hMF, fun j a b => by
        obtain ⟨p, q1, q2⟩ := hLn.out j (by omega) b
        rw [q2 a] at q1
        exact q1, h.cm, fun j a b => h.ac j (by omega) b, fun i j a b a' b' e => h.ap i j (by omega) b (by omega) b' e, h2, h.olk, h.okk, h.ohi⟩
      clear hR hX hLn hMF h
      go_wp2
      refine bodyPost_end (results_none rfl _ _ _) rfl ?_
      exact ⟨rfl, hfin, hKw⟩
    · intro id v w2 cnt2 hid hlx hfx hR2 hlt hk2 hs2 hen
      have hfx0 : f0 id = some v := by
        unfold mixF at hfx
        rw [if_pos hlx] at hfx
        exact hfx
      obtain ⟨j, hj1, hj2, rfl, rfl, hgo, hst⟩ := hstep.out id v hfx0
      have hX2 := hX.kept hk2 (fun e => hrb.out.1 e.symm)
      have hK2 := hrn.out _ _ hk2 hKw
      have hL2 : Hid (∀ j, lo ≤ j → j ≤ k → ∃ p, Arr w2 (ad j) 112 (lnP L ad la j p) ∧ (n ≤ j → p = parV ad j)) := fun j a b => by
        obtain ⟨p, q1, q2⟩ := hLn.out j a b
        exact ⟨p, q1.kept hk2 (fun e => hrb.out.2.2 j a b e.symm), q2⟩
      obtain ⟨p, hp, hp2⟩ := hL2.out j hj1 hj2
      have c1 := hp.cell (i := 1) rfl
      have c20 := hX2.cell (i := 0) rfl
      have hLq := hR.left_eq
      have hvv : j < n → L.vw j < vn := fun q => by rw [← hvn.out]; exact hL.lt q (by omega)
      have hvw : n ≤ j → vn ≤ L.vw j := fun q => by rw [← hvn.out]; exact hL.mono q (by omega)
      unfold ptrL at hen
      clear hfx hfx0 hX hR hKw hk2 c0 hs2 hLn
      by_cases hlr : j < n
      · have hv1 := hvv hlr
        have hjl : j ≤ la := by omega
        go_wp2_with (at_delete; refine smap_del_range rfl _ _ 113 rfl 110 Tryd.underlying113 m r _ _ _ _ rfl hR2 (L.ids j) hid rfl ?_)
        intro w4 cnt4 hR4 hle hk4
        have hX4 := hX2.kept hk4 (fun e => h.cm e)
        have hK4 := hK2.trans (hk4.mono (fun k _ e => Or.inr (Or.inl e)))
        rw [strikeF_twice] at hR4
        have hR5 := hR4.congr (mixF_goes (left := left) (f := f0) (hgo hlr))
        have hp4 := hp.kept hk4 (fun e => (h.ac j hj1 hj2).2 e)
        have c7 : w4.cell? ⟨ad j, 7, none⟩ = some (.bool true) := by
          have := hp4.cell (i := 7) rfl
          rw [this, decide_eq_true hjl]
        have f6 := hp4.frozen 6
        have c6 := hp4.cell (i := 6) rfl
        have hkS := Kept.setCell w4 ⟨ad j, 6, none⟩ (.pointer none)
        have hX6 := hX4.kept hkS (fun e => (h.ac j hj1 hj2).1 e.symm)
        have hK6 := hK4.trans (hkS.mono (fun b _ e => Or.inr (Or.inr ⟨j, hj1, hj2, e⟩)))
        have hR6 := hR5.kept hkS (fun e => (h.ac j hj1 hj2).2 e.symm) (fun e => hrb.out.2.2 j hj1 hj2 e)
        have hL6 : Hid (∀ i, lo ≤ i → i ≤ k → ∃ p, Arr (w4.setCell ⟨ad j, 6, none⟩ (.pointer none)) (ad i) 112 (lnP L ad la i p) ∧ (n ≤ i → p = parV ad i)) := fun i a b => by
          by_cases e : i = j
          · subst e
            exact ⟨.pointer none, hp4.set 6 (.pointer none), fun q => by omega⟩
          · obtain ⟨p', q1, q2⟩ := hL2.out i a b
            exact ⟨p', (q1.kept hk4 (fun e' => (h.ac i a b).2 e')).kept hkS (fun e' => e (h.ap i j a b hj1 hj2 e')), q2⟩
        clear hR4 hR2 hX2 hK2 hk4 hen hR5 hX4 hK4 hL2 hp hp2 hkS
        go_wp2
        go_roundw
        case rel => exact ⟨_, _, _, hR6, hX6, hL6, hK6⟩
        case measure => rw [hR6.left_eq, hLq]; omega
      · have hv1 := hvw (by omega)
        have hR5 := hR2.congr (mixF_stays (left := left) (hst (by omega)))
        go_wp2
        go_roundw
        case rel => exact ⟨_, _, _, hR5, hX2, hL2, hK2⟩
        case measure => rw [hR5.left_eq, hLq]; omega
end
end Go.Proofs.YthhildeocedpiaaDoor
