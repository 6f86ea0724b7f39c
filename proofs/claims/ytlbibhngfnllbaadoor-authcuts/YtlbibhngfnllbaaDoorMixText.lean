/- What mix.text and mix.cut do: eight words as thirty-two bytes; a block off the front; nothing old in memory is turned. -/
import Derived.Test.YtlbibhngfnllbaaDoorMixNumbers
namespace Go.Proofs.YtlbibhngfnllbaaDoor
open Go.RowKit
set_option linter.unusedVariables false

def outByte (h : List UInt32) (i : Nat) : UInt8 := UInt8.ofNat ((h.getD (i / 4) 0).toNat / 2 ^ (i % 4 * 8))
def textL (h : List UInt32) : List UInt8 := (List.range 32).map (outByte h)
def byteVal (b : UInt8) : Value := .int .u8 (b.toNat : Int)

def outCells (h : List UInt32) (i : Nat) : List Value := (List.range 32).map fun j => if j < i then byteVal (outByte h j) else .int .u8 0

theorem outCells_step (h : List UInt32) (i : Nat) : outCells h (i + 1) = (outCells h i).set i (byteVal (outByte h i)) := by
  unfold outCells
  apply List.ext_getElem
  · simp
  · intro j h1 h2
    simp only [List.getElem_map, List.getElem_range, List.getElem_set]
    by_cases e : i = j
    · subst e; simp
    · rw [if_neg e]
      by_cases hj : j < i
      · rw [if_pos hj, if_pos (by omega)]
      · rw [if_neg hj, if_neg (by omega)]

theorem outCells_all (h : List UInt32) : outCells h 32 = (textL h).map byteVal := by
  unfold outCells textL
  rw [List.map_map]
  apply List.map_congr_left
  intro j hj
  have := List.mem_range.1 hj
  rw [if_pos this]
  rfl

set_option maxRecDepth 100000 in
set_option maxHeartbeats 1000000 in
theorem text_any (h : List UInt32) (w : World) (hh : h.length = 8) :
    Calls Tryd.prog 38 #[.agg (h.map wv).toArray] w fun e w' => e = .returned (.string ⟨(textL h).toArray⟩) ∧ Below w.heap.size w w' := by
  go_enter Tryd.func38, Tryd.ntmps38
  go_wp2
  go_loopw [5] (fun v5 wr => ∃ i : Nat, i ≤ 32 ∧ v5 = .int .i64 i ∧ Arr wr w.heap.size 59 (h.map wv) ∧ Arr wr (w.heap.size + 1) 76 (outCells h i) ∧ Below w.heap.size w wr) (fun v5 _ => 32 - (intOf v5).toNat)
  case atStart =>
    obtain ⟨h1, h2, h3⟩ := two_new w 59 76 (h.map wv) (List.replicate 32 (.int .u8 0))
    exact ⟨0, Nat.zero_le _, rfl, h1, h2, h3⟩
  case round =>
    obtain ⟨i, hi, rfl, hA, hO, hB⟩ := hrel
    by_cases hlt : i < 32
    · have h1 : (i : Int) < 32 := by omega
      have h0 : (0 : Int) ≤ (i : Int) := by omega
      obtain ⟨m, hm⟩ : ∃ z, Hid (z = h.getD (i / 4) 0) := ⟨_, rfl⟩
      have hc : wr.cell? ⟨w.heap.size, i / 4, none⟩ = some (.int .u32 (m.toNat : Int)) := by
        rw [hm.out]
        refine hA.cell ?_
        rw [List.getElem?_map, List.getElem?_eq_getElem (by omega), List.getD, List.getElem?_eq_getElem (by omega)]; rfl
      have hf := hO.frozen i
      have hc2 : wr.cell? ⟨w.heap.size + 1, i, none⟩ = some (.int .u8 0) := hO.cell (by simp [outCells, hlt])
      go_wp2
      have hv : Value.int .u8 ((m.toNat : Int) / 2 ^ (i % 4 * 8) % 256) = byteVal (outByte h i) := by
        unfold byteVal outByte
        rw [← hm.out]
        simp
      rw [hv]
      have hO' := hO.set i (byteVal (outByte h i))
      rw [← outCells_step] at hO'
      exact ⟨⟨i + 1, by omega, by simp, hA.other (by simp) _, hO', hB.setCell (by simp) _⟩, by simp [intOf]; omega⟩
    · obtain rfl : i = 32 := by omega
      rw [outCells_all] at hO
      have hcv : (convert 55 9 (.slice (some ⟨w.heap.size + 1, 0, none⟩) 32 32)).run Tryd.prog wr = .ok (.string ⟨(textL h).toArray⟩) wr := by
        have := run_convert_bytes_back (P := Tryd.prog) wr 55 9 5 ⟨w.heap.size + 1, 0, none⟩ 32 (textL h) Tryd.underlying55 Tryd.underlying5 Tryd.underlying9 (fun j hj => by
          have e : (⟨w.heap.size + 1, 0, none⟩ : Addr).add j = ⟨w.heap.size + 1, j, none⟩ := by unfold Addr.add; split <;> simp_all
          rw [e]
          exact hO.cell (by simp [List.getElem?_eq_getElem hj, byteVal]))
        have hl : (textL h).length = 32 := by simp [textL]
        rw [hl] at this
        exact this
      go_wp2
      go_ret
      exact ⟨rfl, hB⟩

set_option maxRecDepth 100000 in
theorem cut_any (s : ByteArray) (w : World) :
    Calls Tryd.prog 35 #[.string s] w fun e w' => e = .returned (.tuple #[.string (s.extract 0 (min s.size 64)), .string (s.extract (min s.size 64) s.size)]) ∧ ∃ m, w' = w.drewN m := by
  go_enter Tryd.func35, Tryd.ntmps35
  by_cases h : s.size ≤ 64
  · have h1 : min (s.size : Int) 64 = s.size := by omega
    have h0 : (0 : Int) ≤ (s.size : Int) := by omega
    go_wp2
    go_quiet (fail)
    go_wp2
    go_ret2
    refine ⟨?_, nq, rfl⟩
    rw [Nat.min_eq_left h]
    simp
  · have h1 : min (s.size : Int) 64 = 64 := by omega
    have h2 : (64 : Int) ≤ (s.size : Int) := by omega
    go_wp2
    go_quiet (fail)
    go_wp2
    go_ret2
    refine ⟨?_, nq, rfl⟩
    rw [Nat.min_eq_right (by omega)]
    simp
end Go.Proofs.YtlbibhngfnllbaaDoor
