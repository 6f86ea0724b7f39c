/- Texts as one: StaBld. -/
import Derived.Test.YtajpfkenhchafaaDoorEd04
import Derived.BigRegion
/- A strings.Builder of the call's own: what WriteString turns is told block by block; String of nothing. -/
namespace Go.Proofs.YtajpfkenhchafaaDoor
open Go.RowKit
set_option linter.unusedVariables false

theorem copyCheck_kept (B b : Nat) (bs : List Value) (w : World) (h : Lib.IsBuilder 64 5 B b bs w) :
    Calls Tryd.prog 53 #[.pointer (some ⟨b, 0, none⟩)] w fun e w' => e = .returned (.tuple #[]) ∧ (Lib.BuilderAt 64 5 B b (.pointer (some ⟨b, 0, none⟩)) bs w' ∧ Kept (fun k => k = b) w w' ∧ w'.heap.size = w.heap.size) := by
  rcases h with h | h
  · refine (copyCheck_fresh b w h.cell0 h.shape h.frozen0).mono ?_
    rintro e w' ⟨rfl, rfl⟩
    exact ⟨rfl, h.used _, Kept.setCell w ⟨b, 0, none⟩ _, by show (w.heap.modify b _).size = _; simp⟩
  · refine (copyCheck_used b w h.cell0).mono ?_
    rintro e w' ⟨rfl, rfl⟩
    exact ⟨rfl, h, Kept.refl _ _, rfl⟩

/-- What is turned: the builder, and a row of bytes behind B. -/
def ByteS (w : World) (B b k : Nat) : Prop := k = b ∨ (B ≤ k ∧ ∃ cur, w.heap[k]? = some (.cells cur 5 (0, 0)))

set_option maxRecDepth 100000 in
set_option maxHeartbeats 400000 in
theorem write_kept (B b : Nat) (bs : List Value) (s : ByteArray) (w : World) (h : Lib.IsBuilder 64 5 B b bs w) (hlen : bs.length + s.size ≤ 140737488355328) (hBw : B ≤ w.heap.size) :
    Calls Tryd.prog 32 #[.pointer (some ⟨b, 0, none⟩), .string s] w fun e w' => e = .returned (.tuple #[.int .i64 s.size, .nilIface]) ∧ (Lib.BuilderAt 64 5 B b (.pointer (some ⟨b, 0, none⟩)) (bs ++ Lib.strCells s) w' ∧ Kept (ByteS w B b) w w') := by
  obtain ⟨i0, hi, hz0, hz1, hz2⟩ := info_parts infoByte
  go_enter Tryd.func32, Tryd.ntmps32
  go_wp2_with fail
  refine (copyCheck_kept B b bs _ h).mono ?_
  rintro e w1 ⟨rfl, h1, hb1, hs1⟩
  obtain ⟨hB, v, hbk, hown, hne⟩ := h1
  have c1 : w1.cell? ⟨b, 1, none⟩ = some v := by rw [Lib.cell_of_heap hbk]; rfl
  have hv : ∀ k, v.ownBlock = some k → ByteS w B b k := by
    intro k hk
    rcases hown.2 with ⟨rfl, _⟩ | ⟨g, cap, cur, rfl, e2, e3, _⟩
    · cases hk
    · have e : g = k := by simpa [Value.ownBlock] using hk
      subst e
      have hgb : ¬ g = b := fun e => hne (by rw [← e]; rfl)
      refine Or.inr ⟨e2, cur, ?_⟩
      have hlt : g < w.heap.size := by
        rcases Nat.lt_or_ge g w.heap.size with q | q
        · exact q
        · exfalso
          have := (Array.getElem?_eq_some_iff.1 e3).1
          omega
      rw [← hb1.block g hlt hgb]
      exact e3
  clear hs1
  go_wp2_with (at_builtin; refine Lib.wpList_append_own_string _ rfl _ _ 62 9 rfl B 5 i0 Tryd.underlying62 Tryd.underlying9 hi hz0 hz1 hz2 _ _ _ rfl hown s rfl ?c3 ?c4 ?c5 ?_)
  case c3 => unfold maxLen; omega
  case c4 => omega
  case c5 => have := hb1.size; omega
  intro v' w2 hown' hgrow _
  have hlt : b < w1.heap.size := (Array.getElem?_eq_some_iff.1 hbk).1
  have hb2 : w2.heap[b]? = some (.cells #[.pointer (some ⟨b, 0, none⟩), v] 64 (0, 0)) := by
    rw [hgrow.block b hlt (fun e => hne e.symm)]
    exact hbk
  have d1 : w2.cell? ⟨b, 1, none⟩ = some v := by rw [Lib.cell_of_heap hb2]; rfl
  have f1 : w2.frozen? ⟨b, 1, none⟩ = false := Lib.frozen_of_heap hb2 1
  obtain ⟨ao, n', cap, rfl⟩ : ∃ ao n' cap, v' = .slice ao n' cap := by
    rcases hown'.2 with ⟨hv, _⟩ | ⟨g, cap, cur, hv, _⟩
    · exact ⟨_, _, _, hv⟩
    · exact ⟨_, _, _, hv⟩
  have fin1 : Lib.BuilderAt 64 5 B b (.pointer (some ⟨b, 0, none⟩)) (bs ++ Lib.strCells s) (w2.setCell ⟨b, 1, none⟩ (.slice ao n' cap)) :=
    Lib.BuilderAt.put (T := 64) (e := 5) hB hb2 (bs' := bs ++ Lib.strCells s) (by simpa [Lib.strCells_length] using hown') (by decide)
  have fin2 : Kept (ByteS w B b) w (w2.setCell ⟨b, 1, none⟩ (.slice ao n' cap)) :=
    ((hb1.mono (fun k _ e => Or.inl e)).trans ((Kept.of_grown hgrow).mono (fun k _ e => hv k e))).trans ((Kept.setCell w2 ⟨b, 1, none⟩ _).mono (fun k _ e => Or.inl e))
  clear hown' hgrow hown hbk hb2 hb1 h hne hlt c1 hv
  go_wp2
  go_ret2
  exact ⟨rfl, fin1, fin2⟩

set_option maxRecDepth 100000 in
set_option maxHeartbeats 400000 in
/-- String of a builder that was never written. -/
theorem string_none (b : Nat) (w : World) (hbk : w.heap[b]? = some (.cells #[.pointer none, .slice none 0 0] 64 (0, 0))) :
    Calls Tryd.prog 37 #[.pointer (some ⟨b, 0, none⟩)] w fun e w' => e = .returned (.string ⟨#[]⟩) ∧ Below w.heap.size w w' := by
  have fin := Below.drew (Below.refl w.heap.size w)
  have hSt : (Builtin.unsafeString_ #[100, 3] 9 #[.pointer none, .int .i64 0]).run Tryd.prog w.drew = .ok (.string ⟨#[]⟩) w.drew := Lib.run_unsafeString_none _ _ _ _ _
  have hSD : (Builtin.unsafeSliceData_ #[62] 100 #[.slice none 0 0]).run Tryd.prog w.drew = .ok (.pointer none) w.drew := rfl
  have c1 : w.cell? ⟨b, 1, none⟩ = some (.slice none 0 0) := by rw [Lib.cell_of_heap hbk]; rfl
  clear hbk
  go_enter Tryd.func37, Tryd.ntmps37
  go_wp2
  go_region
  all_goals (go_wp2; go_ret; exact ⟨rfl, fin⟩)

/-- Block b is a builder of the call's own that holds l; nothing that is older than W has turned. -/
structure DgS (W : World) (b : Nat) (w : World) (l : List UInt8) : Prop where
  bld : Lib.IsBuilder 64 5 W.heap.size b (Lib.byteCells l) w
  emp : l = [] → w.heap[b]? = some (.cells #[.pointer none, .slice none 0 0] 64 (0, 0))
  bel : Below W.heap.size W w
  low : W.heap.size ≤ b

theorem DgS.new (W : World) : DgS W W.heap.size (W.alloc (.cells #[.pointer none, .slice none 0 0] 64)) [] :=
  ⟨Lib.fresh_isBuilder 64 5 W, fun _ => heap_alloc_new W _, belowNew W _, Nat.le_refl _⟩

theorem DgS.lt {W w : World} {b : Nat} {l : List UInt8} (h : DgS W b w l) : b < w.heap.size := by
  rcases h.bld with h1 | h1 <;> exact Lib.BuilderAt.lt h1

theorem DgS.call {W w w1 : World} {b : Nat} {l : List UInt8} (h : DgS W b w l) (hb : Below w.heap.size w w1) : DgS W b w1 l :=
  ⟨builder_keep h.bld hb, fun e => (hb.block b h.lt).trans (h.emp e), h.bel.trans (hb.mono h.bel.size), h.low⟩

theorem DgS.write {W w : World} {b : Nat} {l : List UInt8} (h : DgS W b w l) (m : List UInt8) (hm : l.length + m.length ≤ 140737488355328) (h0 : m ≠ []) :
    Calls Tryd.prog 32 #[.pointer (some ⟨b, 0, none⟩), .string ⟨m.toArray⟩] w fun e w' => e = .returned (.tuple #[.int .i64 m.length, .nilIface]) ∧ DgS W b w' (l ++ m) ∧ Kept (ByteS w W.heap.size b) w w' := by
  refine (write_kept W.heap.size b _ ⟨m.toArray⟩ w h.bld (by rw [Lib.byteCells_length, size_mk]; exact hm) h.bel.size).mono ?_
  rintro e w' ⟨rfl, h2, hk⟩
  have hbw : Below W.heap.size W w' := h.bel.trans (hk.below h.bel.size (fun k hk => by
    rcases hk with e | ⟨e, _⟩
    · rw [e]; exact h.low
    · exact e))
  refine ⟨by rw [size_mk], ⟨Or.inr ?_, fun e => ?_, hbw, h.low⟩, hk⟩
  · rw [Lib.byteCells_append]
    rw [Lib.strCells_eq] at h2
    exact h2
  · exact absurd (List.append_eq_nil_iff.1 e).2 h0

theorem DgS.read {W w : World} {b : Nat} {l : List UInt8} (h : DgS W b w l) :
    Calls Tryd.prog 37 #[.pointer (some ⟨b, 0, none⟩)] w fun e w' => e = .returned (.string ⟨l.toArray⟩) ∧ Below W.heap.size W w' := by
  by_cases h0 : l = []
  · refine (string_none b w (h.emp h0)).mono ?_
    rintro e w' ⟨rfl, hb⟩
    exact ⟨by rw [h0], h.bel.trans (hb.mono h.bel.size)⟩
  · refine (string_any W.heap.size b l w h.bld h0).mono ?_
    rintro e w' ⟨rfl, hb⟩
    exact ⟨rfl, h.bel.trans hb⟩

/-- A block of another type is no row of bytes, and no builder. -/
theorem DgS.other {W w : World} {b : Nat} {l : List UInt8} (h : DgS W b w l) {T : TypeId} (h1 : T ≠ 5) (h2 : T ≠ 64) (k : Nat) (cur : Array Value) (hk : w.heap[k]? = some (.cells cur T (0, 0))) : ¬ ByteS w W.heap.size b k := by
  rintro (e | ⟨_, c, e⟩)
  · subst e
    rcases h.bld with ⟨_, v, h3, _⟩ | ⟨_, v, h3, _⟩ <;> (rw [hk] at h3; simp at h3; exact h2 h3.2)
  · rw [hk] at e
    simp at e
    exact h1 e.2

theorem DgS.arr {W w w' : World} {b : Nat} {l : List UInt8} (h : DgS W b w l) (hk : Kept (ByteS w W.heap.size b) w w') {g : Nat} {T : TypeId} {cs : List Value} (hA : Arr w g T cs) (h1 : T ≠ 5) (h2 : T ≠ 64) : Arr w' g T cs :=
  hA.kept hk (h.other h1 h2 g _ hA)
end Go.Proofs.YtajpfkenhchafaaDoor
