/- What waves.clash does. -/
import Derived.Test.YtkgidmifgfoeiaaWavOf
import Derived.Test.YtkgidmifgfoeiaaWavRows
import Derived.Test.YtkgidmifgfoeiaaWavChk
namespace Go.Proofs.Ytkgidmifgfoeiaa
open Go Go.RowKit
set_option linter.unusedVariables false

/-- Is the b-th number of a row in the way of one ahead of it? -/
def hitQ (l : List RwD) (q : List Nat) (b : Nat) : Bool := (List.range b).any (fun a => adjB l (q.getD a 0) (q.getD b 0))

def clashR (l : List RwD) (q : List Nat) : Bool := (List.range q.length).any (hitQ l q)

/-- The first k numbers of a row, each in the wave 0. -/
def putQ (l : List RwD) (q : List Nat) : Nat → InW
  | 0 => []
  | k + 1 => ((l[q.getD k 0]?).getD ⟨[], []⟩, 0) :: putQ l q k

theorem putQ_mem {l : List RwD} {q : List Nat} : ∀ {m : Nat} {p : RwD × Nat}, p ∈ putQ l q m ↔ ∃ k, k < m ∧ p = ((l[q.getD k 0]?).getD ⟨[], []⟩, 0)
  | 0, p => by simp [putQ]
  | m + 1, p => by
    unfold putQ
    rw [List.mem_cons, putQ_mem]
    constructor
    · rintro (rfl | ⟨k, h1, h2⟩)
      · exact ⟨m, by omega, rfl⟩
      · exact ⟨k, by omega, h2⟩
    · rintro ⟨k, h1, h2⟩
      by_cases e : k = m
      · subst e; exact Or.inl h2
      · exact Or.inr ⟨k, by omega, h2⟩

theorem hitQ_iff {l : List RwD} {q : List Nat} {k : Nat} {t : RwD} (hq : ∀ a, a ≤ k → q.getD a 0 < l.length) (ht : l[q.getD k 0]? = some t) : 0 < firstN (turnF (putQ l q k)) t ↔ hitQ l q k = true := by
  have key : ∀ a, a ≤ k → adjB l (q.getD a 0) (q.getD k 0) = clashB ((l[q.getD a 0]?).getD ⟨[], []⟩) t := fun a ha => by
    have := hq a ha
    rw [adjB_some (List.getElem?_eq_getElem this) ht, List.getElem?_eq_getElem this]
    rfl
  have h0 : firstN (turnF (putQ l q k)) t ≤ 0 ↔ hitQ l q k = false := by
    rw [first_eq, fsF_le]
    unfold hitQ
    rw [List.any_eq_false]
    constructor
    · intro h a ha hc
      rw [List.mem_range] at ha
      rw [key a (by omega)] at hc
      have := h _ (putQ_mem.2 ⟨a, ha, rfl⟩) hc
      omega
    · rintro h p hp hc
      obtain ⟨a, ha, rfl⟩ := putQ_mem.1 hp
      exact absurd (by rw [key a (by omega)]; exact hc) (h a (List.mem_range.2 ha))
  cases h : hitQ l q k with
  | false => rw [h] at h0; have := h0.2 rfl; simp; omega
  | true =>
    rw [h] at h0
    have : ¬ firstN (turnF (putQ l q k)) t ≤ 0 := fun e => by cases h0.1 e
    simp
    omega

theorem putQ_next {l : List RwD} {q : List Nat} {i : Nat} {t : RwD} (ht : l[q.getD i 0]? = some t) (h : ¬ 0 < firstN (turnF (putQ l q i)) t) (k : ByteArray) : turnF (putQ l q (i + 1)) k = putG (turnF (putQ l q i)) t 0 k := by
  rw [first_eq] at h
  have := put_eq (L := putQ l q i) (t := t) (v := 0) (by omega) k
  show turnF (((l[q.getD i 0]?).getD ⟨[], []⟩, 0) :: putQ l q i) k = _
  rw [ht]
  exact this

theorem clashR_true {l : List RwD} {q : List Nat} {k : Nat} (hk : k < q.length) (h : hitQ l q k = true) : clashR l q = true := List.any_eq_true.2 ⟨k, List.mem_range.2 hk, h⟩

theorem clashR_false {l : List RwD} {q : List Nat} (h : ∀ k, k < q.length → hitQ l q k = false) : clashR l q = false := by
  unfold clashR
  rw [List.any_eq_false]
  intro k hk
  rw [h k (List.mem_range.1 hk)]
  simp

set_option maxRecDepth 100000 in
set_option maxHeartbeats 2000000 in
theorem clash_any (l : List TxA) (ao : Option Addr) (cp : Nat) (q : List Nat) (ra : Option Addr) (rc : Nat) (w : World) (hl : RowAt txA w ao l) (hf : Few l) (hr : RowAt intK w ra (rowI q)) (hq : ∀ x ∈ q, x < l.length) (hql : q.length ≤ 1000) :
    Calls Try.prog 23 #[.slice ao l.length cp, .slice ra q.length rc] w fun e w' => e = .returned (.bool (clashR (rwL l) q)) ∧ Below w.heap.size w w' := by
  have hl1 := hf.1
  have hlen := rwL_length l
  have mk : (Instr.makeMap 41 none).run Try.prog w = .ok (.map (some w.heap.size)) (w.alloc (.map #[] 0)) := rfl
  have hT0 := (TurnAt.new w).congr (g' := turnF (putQ (rwL l) q 0)) (fun _ => rfl)
  have hb0 := belowNew w (.map #[] 0)
  have hqd : ∀ a, a < q.length → q.getD a 0 < l.length := fun a ha => by
    rw [List.getD_eq_getElem?_getD, List.getElem?_eq_getElem ha]
    exact hq _ (List.getElem_mem ha)
  generalize hw1 : w.alloc (.map #[] 0) = w1 at *
  obtain ⟨mb, hmb⟩ : ∃ mb, w.heap.size = mb := ⟨_, rfl⟩
  rw [hmb] at hT0 mk
  go_enter Try.func23, Try.ntmps23
  go_wp2_with fail
  go_loopw [11] (fun v11 wr => ∃ (k : Nat), k ≤ q.length ∧ v11 = .int .i64 (k : Int) ∧ TurnAt wr mb (turnF (putQ (rwL l) q k)) (k * 2000) ∧ Hid (∀ b, b < k → hitQ (rwL l) q b = false) ∧ Below w.heap.size w wr) (fun v _ => q.length - (intOf v).toNat)
  case atStart => exact ⟨0, Nat.zero_le _, rfl, hT0, fun b h => by omega, hb0⟩
  case round =>
    obtain ⟨k, hk, rfl, hT, hno, hb⟩ := hrel
    clear hT0 hb0 mk
    by_cases hkl : k < q.length
    · have g1 : (k : Int) < (q.length : Int) := by omega
      have hzl := hqd k hkl
      have hzq : (rowI q)[k]? = some ((q.getD k 0 : Nat) : Int) := by
        unfold rowI
        rw [List.getElem?_map, List.getD_eq_getElem?_getD, List.getElem?_eq_getElem hkl]
        rfl
      obtain ⟨br, orr, rfl, hbr, cy⟩ := (hr.below hb).int hzq
      obtain ⟨x, hx⟩ : ∃ p, l[q.getD k 0]? = some p := ⟨_, List.getElem?_eq_getElem hzl⟩
      have hfx : ∀ b, txA.foot x b → b < w.heap.size := fun b h => txA.lt (hl.at_ x (List.mem_of_getElem? hx)) h
      have hlx : ∀ b, rowFoot txA ao l b → b < w.heap.size := fun b h => hl.lt h
      obtain ⟨b, off, rfl, hbl, x0, x1, x2, x3, x4, x5, x6, x7, x8, hA⟩ := (hl.below hb).tx hx
      obtain ⟨lr, lw⟩ := hf.2 x (List.mem_of_getElem? hx)
      have cF := first_any x _ hA mb _ _ hT (by omega) (by omega)
      have hhit : Hid (0 < firstN (turnF (putQ (rwL l) q k)) x.rw ↔ hitQ (rwL l) q k = true) := hitQ_iff (fun a ha => by rw [hlen]; exact hqd a (by omega)) (rwL_get hx)
      have hnx : Hid (¬ 0 < firstN (turnF (putQ (rwL l) q k)) x.rw → ∀ key, turnF (putQ (rwL l) q (k + 1)) key = putG (turnF (putQ (rwL l) q k)) x.rw 0 key) := putQ_next (rwL_get hx)
      generalize hz : q.getD k 0 = z at *
      replace hz : Hid _ := hz
      have hmbf : ¬ txA.foot x mb := fun h => by have := hfx mb h; omega
      have hA' := fun (w6 : World) (hb6 : Below wr.heap.size wr w6) => (hl.below hb).below hb6
      have hx' : Hid _ := hx
      generalize firstN (turnF (putQ (rwL l) q k)) x.rw = fs at *
      have gz : (z : Int) < (l.length : Int) := by omega
      clear hx hzq
      by_cases h0 : 0 < fs
      · have g2 : (0 : Int) < (fs : Int) := by omega
        have hR := clashR_true hkl (hhit.out.1 h0)
        clear hnx hhit
        go_wp2_with (go_at_call 18; refine cF.mono ?_; rintro _ w6 ⟨rfl, hb6⟩)
        go_ret
        exact ⟨by rw [hR]; rfl, hb.trans (hb6.mono hb.size)⟩
      · have g2 : ¬ (0 : Int) < (fs : Int) := by omega
        have hnh : Hid (∀ b, b < k + 1 → hitQ (rwL l) q b = false) := fun b hb => by
          by_cases e : b = k
          · subst e
            cases h : hitQ (rwL l) q b with
            | false => rfl
            | true => exact absurd (hhit.out.2 h) h0
          · exact hno.out b (by omega)
        have hnx2 := hnx.out h0
        replace hnx2 : Hid _ := hnx2
        clear hnx hhit hno
        go_wp2_with (first
          | (go_at_call 18; refine cF.mono ?_; rintro _ w6 ⟨rfl, hb6⟩
             obtain ⟨b', off', e', hbl', y0, y1, y2, y3, y4, y5, y6, y7, y8, hA6⟩ := (hA' w6 hb6).tx hx'.out
             simp only [Option.some.injEq, Addr.mk.injEq, and_true] at e'
             obtain ⟨rfl, rfl⟩ := e'
             have hT6 := TurnAt.below hT hb6
             have hbb6 := hb.trans (hb6.mono hb.size)
             have cP := put_any x _ hA6 (fun b h => Nat.lt_of_lt_of_le (hfx b h) hbb6.size) mb hmbf _ _ hT6 (by omega) 0 (by omega) (by omega) (by omega))
          | (go_at_call 19; refine cP.mono ?_; rintro e w9 ⟨rfl, hT9, hk9⟩))
        have hT10 := (TurnAt.congr hT9 hnx2.out).mono (M := (k + 1) * 2000) (by omega)
        have hb9 := hbb6.trans (hk9.below hbb6.size (fun j e => by have e' : j = mb := e; omega))
        clear cP hT9 hk9 hnx2 hT6 cF hT
        go_roundw
        case rel => exact ⟨k + 1, by omega, by go_num, hT10, hnh, hb9⟩
        case measure => simp [intOf]; omega
    · have g1 : ¬ (k : Int) < (q.length : Int) := by omega
      have hR : clashR (rwL l) q = false := clashR_false (fun b hb => hno.out b (by omega))
      clear hno hT
      go_wp2
      go_ret
      exact ⟨by first | rfl | (rw [hR]; rfl), by first | exact hb | (rw [← hmb]; exact hb)⟩
end Go.Proofs.Ytkgidmifgfoeiaa
