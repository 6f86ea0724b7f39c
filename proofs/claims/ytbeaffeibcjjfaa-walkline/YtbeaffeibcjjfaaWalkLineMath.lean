/- A line of vertices, each upon the one ahead: what its histories are. -/
import Derived.Test.YtbeaffeibcjjfaaWalkDfs
namespace Go.Proofs.Ytbeaffeibcjjfaa
open Go Go.RowKit
set_option linter.unusedVariables false

def nm (r : Nat) : ByteArray := ⟨#[UInt8.ofNat r]⟩

theorem nm_inj {a b : Nat} (ha : a ≤ 255) (hb : b ≤ 255) (h : nm a = nm b) : a = b := by
  unfold nm at h
  have h1 : UInt8.ofNat a = UInt8.ofNat b := by simpa using h
  have := congrArg UInt8.toNat h1
  simp at this
  omega

/-- A vertex of the line; those up to d are emitted. -/
def vR (d r : Nat) : VtxD := ⟨nm r, (r : Int), ((r % 7 : Nat) : Int), if 1 < r then [nm (r - 1)] else [], decide (r ≤ d)⟩

/-- The line from lo to n. -/
def lineG (lo n low d : Nat) : GrD := ⟨(List.range' lo (n + 1 - lo)).map (vR d), (low : Int)⟩

theorem line_mem {lo n low d : Nat} {v : VtxD} : v ∈ (lineG lo n low d).L ↔ ∃ r, lo ≤ r ∧ r ≤ n ∧ v = vR d r := by
  unfold lineG
  simp only [List.mem_map, List.mem_range'_1]
  constructor
  · rintro ⟨r, h1, rfl⟩; exact ⟨r, by omega, by omega, rfl⟩
  · rintro ⟨r, h1, h2, rfl⟩; exact ⟨r, by omega, rfl⟩

theorem line_rise (lo k d : Nat) : RiseV ((List.range' lo k).map (vR d)) := by
  refine List.pairwise_map.2 ((List.pairwise_lt_range' (s := lo) (n := k) (step := 1)).imp (fun {a b} h => ?_))
  left
  show (a : Int) < (b : Int)
  omega

theorem line_ok {lo n low d : Nat} (hlo : 1 ≤ lo) (hn : n ≤ 40) : GrOk (lineG lo n low d) := by
  refine ⟨line_rise _ _ _, ?_, fun v hv => ?_, ?_, fun v hv => ?_⟩
  · refine List.pairwise_map.2 (List.Pairwise.imp_of_mem (fun {a b} ha hb h e => ?_) (List.pairwise_lt_range' (s := lo) (n := n + 1 - lo) (step := 1)))
    rw [List.mem_range'_1] at ha hb
    have := nm_inj (by omega) (by omega) (show nm a = nm b from e)
    omega
  · obtain ⟨r, _, _, rfl⟩ := line_mem.1 hv
    unfold vR
    simp only
    split <;> simp
  · unfold lineG
    simp only [List.length_map, List.length_range']
    omega
  · obtain ⟨r, _, _, rfl⟩ := line_mem.1 hv
    show 0 ≤ (r : Int) ∧ (r : Int) ≤ _ ∧ 0 ≤ ((r % 7 : Nat) : Int) ∧ ((r % 7 : Nat) : Int) ≤ 6
    omega

theorem line_get {lo n low d r : Nat} (hlo : 1 ≤ lo) (hn : n ≤ 40) (h1 : lo ≤ r) (h2 : r ≤ n) : getV (lineG lo n low d).L (nm r) = some (vR d r) :=
  (line_ok hlo hn).get (v := vR d r) (line_mem.2 ⟨r, h1, h2, rfl⟩)

theorem line_out {lo n low d r : Nat} (hn : n ≤ 40) (hr : r ≤ 40) (h : r < lo) : getV (lineG lo n low d).L (nm r) = none :=
  getV_none.2 (fun v hv e => by
    obtain ⟨q, h1, h2, rfl⟩ := line_mem.1 hv
    have := nm_inj (by omega) (by omega) (show nm q = nm r from e)
    omega)

/-- The line grows. -/
theorem line_add {n : Nat} (hn : n + 1 ≤ 40) : addEV (lineG 1 n 0 0) (nm (n + 1)) ((n + 1 : Nat) : Int) (((n + 1) % 7 : Nat) : Int) (if 1 < n + 1 then [nm n] else []).length = 0 ∧ addGV (lineG 1 n 0 0) (nm (n + 1)) ((n + 1 : Nat) : Int) (((n + 1) % 7 : Nat) : Int) (if 1 < n + 1 then [nm n] else []) = lineG 1 (n + 1) 0 0 := by
  have hpl : (if 1 < n + 1 then [nm n] else ([] : List ByteArray)).length ≤ 7 := by split <;> simp
  have h : addEV (lineG 1 n 0 0) (nm (n + 1)) ((n + 1 : Nat) : Int) (((n + 1) % 7 : Nat) : Int) (if 1 < n + 1 then [nm n] else []).length = 0 := by
    refine addEV_ok.2 ⟨by omega, hpl, fun v hv e => ?_, by show (0 : Int) ≤ _; omega, fun v hv e => ?_, ?_⟩
    · obtain ⟨q, h1, h2, rfl⟩ := line_mem.1 hv
      have := nm_inj (by omega) (by omega) (show nm q = nm (n + 1) from e)
      omega
    · obtain ⟨q, h1, h2, rfl⟩ := line_mem.1 hv
      have : (q : Int) = ((n + 1 : Nat) : Int) := e.1
      omega
    · unfold lineG
      simp only [List.length_map, List.length_range']
      omega
  refine ⟨h, ?_⟩
  have hok := (line_ok (lo := 1) (low := 0) (d := 0) (Nat.le_refl 1) (show n ≤ 40 by omega)).add (nm (n + 1)) ((n + 1 : Nat) : Int) (((n + 1) % 7 : Nat) : Int) (if 1 < n + 1 then [nm n] else [])
  have e : addGV (lineG 1 n 0 0) (nm (n + 1)) ((n + 1 : Nat) : Int) (((n + 1) % 7 : Nat) : Int) (if 1 < n + 1 then [nm n] else []) = { (lineG 1 n 0 0) with L := insV (lineG 1 n 0 0).L ⟨nm (n + 1), ((n + 1 : Nat) : Int), (((n + 1) % 7 : Nat) : Int), (if 1 < n + 1 then [nm n] else []), false⟩ } := by unfold addGV; rw [if_pos h]
  rw [e] at hok ⊢
  have hL : insV (lineG 1 n 0 0).L ⟨nm (n + 1), ((n + 1 : Nat) : Int), (((n + 1) % 7 : Nat) : Int), (if 1 < n + 1 then [nm n] else []), false⟩ = (lineG 1 (n + 1) 0 0).L := by
    refine riseV_ext hok.rise (line_rise _ _ _) (fun v => ?_)
    rw [insV_mem, line_mem, line_mem]
    constructor
    · rintro (rfl | ⟨r, h1, h2, rfl⟩)
      · exact ⟨n + 1, by omega, by omega, by unfold vR; rw [decide_eq_false (by omega)]; rfl⟩
      · exact ⟨r, h1, by omega, rfl⟩
    · rintro ⟨r, h1, h2, rfl⟩
      rcases (by omega : r = n + 1 ∨ r ≤ n) with rfl | h3
      · left; unfold vR; rw [decide_eq_false (by omega)]; rfl
      · exact Or.inr ⟨r, h1, h3, rfl⟩
  rw [hL]
  rfl

/-- It is let go up to the low. -/
theorem line_low {n low : Nat} (hn : n ≤ 40) : lowGV (lineG 1 n 0 0) (low : Int) = lineG (max 1 low) n low 0 := by
  unfold lowGV
  by_cases h : (low : Int) ≤ (lineG 1 n 0 0).low
  · have h0 : low = 0 := by have h' : (low : Int) ≤ ((0 : Nat) : Int) := h; omega
    rw [if_pos h, h0]
    rfl
  · have h0 : 1 ≤ low := by have h' : ¬ (low : Int) ≤ ((0 : Nat) : Int) := h; omega
    rw [if_neg h]
    have hL : keepVt (lineG 1 n 0 0).L (low : Int) = (lineG (max 1 low) n low 0).L := by
      refine riseV_ext ((line_rise _ _ _).sublist List.filter_sublist) (line_rise _ _ _) (fun v => ?_)
      unfold keepVt
      rw [List.mem_filter, line_mem, line_mem]
      constructor
      · rintro ⟨⟨r, h1, h2, rfl⟩, h3⟩
        have h4 : (low : Int) ≤ (r : Int) := by simpa [vR] using h3
        exact ⟨r, by omega, h2, rfl⟩
      · rintro ⟨r, h1, h2, rfl⟩
        exact ⟨⟨r, by omega, h2, rfl⟩, by simp [vR]; omega⟩
    rw [hL]
    rfl

theorem line_ups {lo n low d r : Nat} (hlo : 1 ≤ lo) (hn : n ≤ 40) (h1 : lo ≤ r) (h2 : r ≤ n) : upsV (lineG lo n low d) (nm r) = if low < r ∧ d < r ∧ 1 < r then [nm (r - 1)] else [] := by
  unfold upsV
  rw [line_get hlo hn h1 h2]
  simp only
  by_cases hc : low < r ∧ d < r
  · rw [if_pos (by refine ⟨?_, decide_eq_false (by omega)⟩; show ((low : Nat) : Int) < (r : Int); omega)]
    show (if 1 < r then [nm (r - 1)] else []) = _
    by_cases h3 : 1 < r
    · rw [if_pos h3, if_pos ⟨hc.1, hc.2, h3⟩]
    · rw [if_neg h3, if_neg (fun q => h3 q.2.2)]
  · rw [if_neg, if_neg (fun q => hc ⟨q.1, q.2.1⟩)]
    rintro ⟨q1, q2⟩
    have q1' : ((low : Nat) : Int) < (r : Int) := q1
    have q2' : ¬ r ≤ d := of_decide_eq_false q2
    exact hc ⟨by omega, by omega⟩

/-- A history in the line. -/
theorem line_reach {n low d f : Nat} (hn : n ≤ 40) (hf : max 1 low ≤ f) (hfn : f ≤ n) (hd : d ≤ f) (x : ByteArray) : Reach (lineG (max 1 low) n low d) (nm f) x ↔ ∃ r, max (max 1 low) d ≤ r ∧ r ≤ f ∧ x = nm r := by
  constructor
  · intro h
    induction h with
    | me => exact ⟨f, by omega, Nat.le_refl _, rfl⟩
    | @up v p hr hv hl hdn hp ih =>
      obtain ⟨r, h1, h2, e⟩ := ih
      rw [e, line_get (by omega) hn (by omega) (by omega)] at hv
      simp only [Option.some.injEq] at hv
      subst hv
      have q2 : ¬ r ≤ d := of_decide_eq_false hdn
      have q1 : ((low : Nat) : Int) < (r : Int) := hl
      have hp' : p ∈ (if 1 < r then [nm (r - 1)] else []) := hp
      by_cases h3 : 1 < r
      · rw [if_pos h3, List.mem_singleton] at hp'
        exact ⟨r - 1, by omega, by omega, hp'⟩
      · rw [if_neg h3] at hp'; cases hp'
  · rintro ⟨r, h1, h2, rfl⟩
    have key : ∀ k, k ≤ f - max (max 1 low) d → Reach (lineG (max 1 low) n low d) (nm f) (nm (f - k)) := by
      intro k
      induction k with
      | zero => intro _; exact Reach.me
      | succ k ih =>
        intro hk
        have h3 := ih (by omega)
        refine upsV_reach h3 ?_
        rw [line_ups (by omega) hn (by omega) (by omega), if_pos (by omega), List.mem_singleton]
        congr 1
    have := key (f - r) (by omega)
    rwa [show f - (f - r) = r by omega] at this

theorem line_miss {n low d f : Nat} (hn : n ≤ 40) (hf : max 1 low ≤ f) (hfn : f ≤ n) (hd : d ≤ f) : MissOf (lineG (max 1 low) n low d) (nm f) [] := by
  refine ⟨List.Pairwise.nil, fun x => ⟨(fun h => by cases h), ?_⟩⟩
  rintro ⟨hr, hx⟩
  obtain ⟨r, h1, h2, rfl⟩ := (line_reach hn hf hfn hd x).1 hr
  rw [line_get (by omega) hn (by omega) (by omega)] at hx
  cases hx

theorem line_gone {n low f : Nat} (hn : n ≤ 40) (hf : f < low) (hfn : f ≤ n) : MissOf (lineG (max 1 low) n low 0) (nm f) [nm f] := by
  have hg : getV (lineG (max 1 low) n low 0).L (nm f) = none := line_out hn (by omega) (by omega)
  have hr : ∀ x, Reach (lineG (max 1 low) n low 0) (nm f) x → x = nm f := by
    intro x h
    induction h with
    | me => rfl
    | up hr hv hl hdn hp ih => rw [ih, hg] at hv; cases hv
  refine ⟨List.pairwise_singleton _ _, fun x => ?_⟩
  rw [List.mem_singleton]
  constructor
  · rintro rfl; exact ⟨Reach.me, hg⟩
  · rintro ⟨h, _⟩; exact hr x h

theorem line_emit {n low d f : Nat} (hn : n ≤ 40) (hf : max 1 low ≤ f) (hfn : f ≤ n) (hd : d ≤ f) : (emitV (lineG (max 1 low) n low d) (nm f)).length = f + 1 - max (max 1 low) (d + 1) := by
  have : emitL (lineG (max 1 low) n low d) (nm f) = (List.range' (max (max 1 low) (d + 1)) (f + 1 - max (max 1 low) (d + 1))).map (vR d) := by
    refine riseV_ext ((line_ok (by omega) hn).rise.sublist List.filter_sublist) (line_rise _ _ _) (fun v => ?_)
    rw [emitL_mem, line_mem, line_reach hn hf hfn hd, List.mem_map]
    constructor
    · rintro ⟨⟨r, h1, h2, rfl⟩, ⟨q, h3, h4, e⟩, h5⟩
      have hq := nm_inj (by omega) (by omega) (show nm r = nm q from e)
      have q2 : ¬ r ≤ d := of_decide_eq_false h5
      exact ⟨r, by rw [List.mem_range'_1]; omega, rfl⟩
    · rintro ⟨r, hr, rfl⟩
      rw [List.mem_range'_1] at hr
      exact ⟨⟨r, by omega, by omega, rfl⟩, ⟨r, by omega, by omega, rfl⟩, decide_eq_false (by omega)⟩
  rw [emitV_eq, this, List.length_map, List.length_map, List.length_range']

open Classical in
theorem line_done {n low d f : Nat} (hn : n ≤ 40) (hf : max 1 low ≤ f) (hfn : f ≤ n) (hd : d ≤ f) : doneV (lineG (max 1 low) n low d) (nm f) = lineG (max 1 low) n low f := by
  unfold doneV
  have hL : (lineG (max 1 low) n low d).L.map (fun v => if Reach (lineG (max 1 low) n low d) (nm f) v.id then { v with done := true } else v) = (lineG (max 1 low) n low f).L := by
    conv => lhs; unfold lineG
    conv => rhs; unfold lineG
    simp only [List.map_map]
    refine List.map_congr_left (fun r hr => ?_)
    rw [List.mem_range'_1] at hr
    simp only [Function.comp]
    have hr40 : r ≤ 255 := by omega
    have hrlo : max 1 low ≤ r := hr.1
    have hiff := line_reach hn hf hfn hd (nm r)
    by_cases h : Reach (lineG (max 1 low) n low d) (nm f) (nm r)
    · obtain ⟨q, h1, h2, e⟩ := hiff.1 h
      have hq255 : q ≤ 255 := by clear h hiff; omega
      have hq := nm_inj hr40 hq255 e
      have hrf : r ≤ f := by clear h hiff; omega
      have : (if Reach (lineG (max 1 low) n low d) (nm f) (vR d r).id then { (vR d r) with done := true } else vR d r) = { (vR d r) with done := true } := if_pos h
      refine this.trans ?_
      unfold vR
      rw [decide_eq_true hrf]
    · have hnr : ¬ (max (max 1 low) d ≤ r ∧ r ≤ f) := fun q => h (hiff.2 ⟨r, q.1, q.2, rfl⟩)
      have : (if Reach (lineG (max 1 low) n low d) (nm f) (vR d r).id then { (vR d r) with done := true } else vR d r) = vR d r := if_neg h
      refine this.trans ?_
      unfold vR
      have hdd : r ≤ d ↔ r ≤ f := by clear h hiff this; omega
      rw [show decide (r ≤ d) = decide (r ≤ f) from decide_eq_decide.2 hdd]
  have : (lineG (max 1 low) n low d).low = (lineG (max 1 low) n low f).low := rfl
  show GrD.mk _ _ = _
  rw [this]
  congr 1

theorem line_emitted {n low d : Nat} (hn : n ≤ 40) (h1 : max 1 low ≤ n) (hd : n ≤ d) : emittedV (lineG (max 1 low) n low d) (nm n) = true := by
  unfold emittedV
  rw [line_get (by omega) hn h1 (Nat.le_refl _)]
  exact decide_eq_true hd
end Go.Proofs.Ytbeaffeibcjjfaa
