/- The reference asks whether a text is in a list. -/
import Derived.Test.YtfbpjdjajecajaaRefGr
import Derived.Deep.QuietTactic
import Derived.BigQuiet
namespace Go.Proofs.Ytfbpjdjajecajaa
open Go Go.RowKit
set_option linter.unusedVariables false

def inL16 (l : List ByteArray) (s : ByteArray) : Bool := l.any (fun x => decide (x = s))

theorem inL16_iff {l : List ByteArray} {s : ByteArray} : inL16 l s = true ↔ s ∈ l := by
  unfold inL16
  rw [List.any_eq_true]
  constructor
  · rintro ⟨x, h1, h2⟩; rw [← of_decide_eq_true h2]; exact h1
  · intro h; exact ⟨s, h, decide_eq_true rfl⟩

theorem RowAt.txt16 {w : World} {ao : Option Addr} {l : List ByteArray} (h : RowAt textK w ao l) {i : Nat} {v : ByteArray} (hv : l[i]? = some v) :
    ∃ b off, ao = some ⟨b, off, none⟩ ∧ b < w.heap.size ∧ w.cell? ⟨b, off + i, none⟩ = some (.string v) := by
  obtain ⟨b, off, h1, h2, h3⟩ := h.cell i v hv
  refine ⟨b, off, h1, h2, ?_⟩
  have := h3 0 _ rfl
  have e : off + i * textK.n + 0 = off + i := by show off + i * 1 + 0 = _; omega
  rw [e] at this
  exact this

set_option maxRecDepth 100000 in
set_option maxHeartbeats 1000000 in
theorem rgHas_any (ao : Option Addr) (cap : Nat) (l : List ByteArray) (s : ByteArray) (w : World) (hR : RowAt textK w ao l) (hl : l.length ≤ 1000000) :
    Calls Try.prog 23 #[.slice ao l.length cap, .string s] w fun e w' => e = .returned (.bool (inL16 l s)) ∧ w' = w := by
  obtain ⟨B, hB⟩ : ∃ B, Hid (inL16 l s = B) := ⟨_, rfl⟩
  rw [hB.out]
  go_enter Try.func23, Try.ntmps23
  go_wp2_with fail
  go_loopw [5] (fun v5 wr => ∃ i : Nat, i ≤ l.length ∧ v5 = .int .i64 (i : Int) ∧ Hid (∀ y ∈ l.take i, y ≠ s) ∧ wr = w) (fun v _ => l.length - (intOf v).toNat)
  case atStart => exact ⟨0, Nat.zero_le _, rfl, (fun y hy => by simp at hy), rfl⟩
  case round =>
    obtain ⟨i, hi, rfl, hno, rfl⟩ := hrel
    by_cases hil : i < l.length
    · have g1 : (i : Int) < (l.length : Int) := by omega
      obtain ⟨x, hx⟩ : ∃ p, l[i]? = some p := ⟨_, List.getElem?_eq_getElem hil⟩
      obtain ⟨b, off, rfl, hbl, y0⟩ := hR.txt16 hx
      by_cases he : x = s
      · have hBv : Hid (B = true) := by show _ = _; rw [← hB.out, inL16_iff, ← he]; exact List.mem_of_getElem? hx
        have hb : (x.toList == s.toList) = true := by rw [bytes_eq]; exact decide_eq_true he
        have hb2 : x.toList = s.toList := by rw [he]
        clear he hno hB
        go_wp2
        go_ret
        exact ⟨by rw [hBv.out]; rfl, rfl⟩
      · have hno' : Hid (∀ y ∈ l.take (i + 1), y ≠ s) := fun q hq => by
          rw [List.take_add_one, hx] at hq
          rcases List.mem_append.1 hq with hq | hq
          · exact hno.out q hq
          · simp at hq
            rw [hq]
            exact he
        have hb : (x.toList == s.toList) = false := by rw [bytes_eq]; exact decide_eq_false he
        have hb2 : ¬ x.toList = s.toList := by simpa using hb
        clear he hno
        go_wp2
        go_roundw
        case rel => exact ⟨i + 1, by omega, by go_num, hno', trivial⟩
        case measure => simp [intOf]; omega
    · have g1 : ¬ (i : Int) < (l.length : Int) := by omega
      have hBv : Hid (B = false) := by
        show _ = _
        rw [← hB.out, Bool.eq_false_iff]
        intro e
        exact hno.out s (by rw [List.take_of_length_le (by omega)]; exact inL16_iff.1 e) rfl
      clear hno hB
      go_wp2
      go_ret
      exact ⟨by rw [hBv.out]; rfl, rfl⟩
end Go.Proofs.Ytfbpjdjajecajaa
