/- A map of texts at operations of a region that draws its order; copied whole. -/
import Derived.Test.YthhildeocedpiaaDoorMapStr
namespace Go.Proofs.YthhildeocedpiaaDoor
open Go Go.RowKit Go.Maps
set_option linter.unusedVariables false

/-- 'm[k]'. -/
theorem smap_runs {w : World} {b : Nat} {f : ByteArray → Option Value} {n : Nat} (h : SMap w b f n) {t e : TypeId} (ht : Tryd.prog.underlying t = some (.map 9 e)) {z : Value} (hz : ∀ w, (zeroValue e).run Tryd.prog w = .ok z w) {id : ByteArray} (hid : id.size ≤ maxLen) (m : Nat) : (Instr.lookup t (.map (some b)) (.string id) false).run Tryd.prog (w.drewN m) = .ok ((f id).getD z) (w.drewN m) := by
  obtain ⟨D, ho, h1, h2, h3⟩ := h.keep (w' := w.drewN m) rfl
  obtain ⟨v, ps, hrun, hv⟩ := ho.lookup lawStr ht (hz _) (zd := .held z) (zp := []) rfl (keyS_of hid)
  have e1 : v = (f id).getD z := by
    have := h3 id (.held z)
    unfold heldElem at hv
    simp only [Option.some.injEq, Prod.mk.injEq] at hv
    rw [this] at hv
    cases hf : f id with
    | none => rw [hf] at hv; simpa using hv.1
    | some u => rw [hf] at hv; simpa using hv.1
  subst e1
  exact hrun

theorem smap_run1 {w : World} {b : Nat} {f : ByteArray → Option Value} {n : Nat} (h : SMap w b f n) {t e : TypeId} (ht : Tryd.prog.underlying t = some (.map 9 e)) {z : Value} (hz : ∀ w, (zeroValue e).run Tryd.prog w = .ok z w) {id : ByteArray} (hid : id.size ≤ maxLen) : (Instr.lookup t (.map (some b)) (.string id) false).run Tryd.prog w.drew = .ok ((f id).getD z) w.drew := smap_runs h ht hz hid 1

/-- 'm[k] = v'. -/
theorem smap_updates {w : World} {b : Nat} {f : ByteArray → Option Value} {n : Nat} (h : SMap w b f n) (hn : n < maxLen) {t e : TypeId} (ht : Tryd.prog.underlying t = some (.map 9 e)) (id : ByteArray) (hid : id.size ≤ maxLen) (u : Value) :
    ∃ w', (Instr.mapUpdate t (.map (some b)) (.string id) u).run Tryd.prog w = .ok () w' ∧ SMap w' b (putF f id u) (putN f id n) ∧ Kept (fun k => k = b) w w' := by
  obtain ⟨D, ho, h1, h2, h3⟩ := h
  obtain ⟨w', hrun, r1, r2⟩ := ho.update lawStr ht hn (keyS_of hid) (val := u) (d := .held u) (ps := []) rfl
  exact ⟨w', hrun, SMap.puts ho h1 h2 h3 r1, (Kept.of_grown r2).mono (fun k _ e => by simpa using e.symm)⟩

theorem putN_bound (f : ByteArray → Option Value) (id : ByteArray) (n : Nat) : putN f id n ≤ n + 1 := by
  unfold putN
  split <;> omega
end Go.Proofs.YthhildeocedpiaaDoor
