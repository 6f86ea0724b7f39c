/- slices.Compact of texts by the library's own contract, laid over this program: of a row of the call's own that is sorted, each is left once. -/
import Derived.Test.YtfbpjdjajecajaaSortStr
import Derived.Shelf.Slices.CompactS
namespace Go.Proofs.Ytfbpjdjajecajaa
open Go.Shelf Go.RowKit Go.Sort
set_option linter.unusedVariables false

def laysCompactS_ren : Go.Shelf.Ren := ⟨fun | 194 => 20 | n => n, fun | 31 => 29 | 9 => 9 | 3 => 3 | 0 => 0 | 4 => 4 | n => n, fun | n => n⟩

theorem laysCompactS : Go.Proofs.Lays.n194 Try.prog laysCompactS_ren := {
  mixed := by kernel_rfl
  f194 := Try.func20.trans (congrArg some (by kernel_rfl))
  t0 := Try.underlying0
  a0 := Try.isAgg0
  z0 := Try.sizeOf0
  v0 := Try.zeroValue0
  t3 := Try.underlying3
  a3 := Try.isAgg3
  z3 := Try.sizeOf3
  v3 := Try.zeroValue3
  t4 := Try.underlying4
  a4 := Try.isAgg4
  z4 := Try.sizeOf4
  v4 := Try.zeroValue4
  t9 := Try.underlying9
  a9 := Try.isAgg9
  z9 := Try.sizeOf9
  v9 := Try.zeroValue9
  t31 := Try.underlying29
  a31 := Try.isAgg29
  z31 := Try.sizeOf29
  v31 := Try.zeroValue29 }

/-- Each once, where the same ones stand side by side. -/
def dedupT (l : List ByteArray) : List ByteArray := (Lib.compact (l.map (fun x => x.data.toList))).map (fun x => ⟨x.toArray⟩)

theorem compact_le {α : Type} [Inhabited α] [DecidableEq α] (zs : List α) : (Lib.compact zs).length ≤ zs.length := by
  unfold Lib.compact Lib.compactUpTo
  rw [List.length_map]
  have := List.length_filter_le (Lib.keeps zs.toArray) (List.range zs.length)
  rw [List.length_range] at this
  exact this

theorem dedupT_le (l : List ByteArray) : (dedupT l).length ≤ l.length := by
  unfold dedupT
  rw [List.length_map]
  have := compact_le (l.map (fun x => x.data.toList))
  rw [List.length_map] at this
  exact this

/-- What is left of a row of the call's own. -/
theorem KQ.cutRow {w : World} {B : Nat} {g off n cap : Nat} {l : List ByteArray} (h : KQ textK 9 w B (.slice (some ⟨g, off, none⟩) n cap) l) (hl : 0 < l.length) :
    n = l.length ∧ n ≤ cap ∧ Holds encStr w g off (l.map (fun x => x.data.toList)).toArray ∧ g < w.heap.size ∧ ∀ (N : Nat) (c z : List (List UInt8)), c.length + z.length = l.length →
      KQ textK 9 (putRow encStr (Sort.ahead w N) g off (c ++ z).toArray) B (.slice (some ⟨g, off, none⟩) c.length cap) (c.map (fun x => ⟨x.toArray⟩)) ∧
      Kept (fun k => k = g) w (putRow encStr (Sort.ahead w N) g off (c ++ z).toArray) := by
  have hS := (h.sorted hl).1
  rcases h.row.2 with ⟨ao', hv, hn⟩ | ⟨g', pre, post, cap', hv, hb, hg, hnc, hcm, hpl⟩
  · omega
  · simp only [Value.slice.injEq, Option.some.injEq, Addr.mk.injEq, and_true] at hv
    obtain ⟨⟨rfl, rfl⟩, rfl, rfl⟩ := hv
    have hlt := hg.lt
    refine ⟨rfl, hnc, hS, hlt, fun N c z hcz => ?_⟩
    have hblk : ∀ k, k < w.heap.size → k ≠ g → (putRow encStr (Sort.ahead w N) g pre.length (c ++ z).toArray).heap[k]? = w.heap[k]? := by
      intro k hk hne
      show (w.heap.modify g _)[k]? = _
      rw [Array.getElem?_modify, if_neg (fun e => hne e.symm)]
    have ec : flatK textK (c.map (fun x => (⟨x.toArray⟩ : ByteArray))) = c.map encStr := by rw [flat_text, List.map_map]; rfl
    have hgg : Arr (putRow encStr (Sort.ahead w N) g pre.length (c ++ z).toArray) g 9 (pre ++ flatK textK (c.map (fun x => (⟨x.toArray⟩ : ByteArray))) ++ (z.map encStr ++ post)) := by
      rw [ec]
      have e2 : pre ++ c.map encStr ++ (z.map encStr ++ post) = pre ++ (c ++ z).map encStr ++ post := by simp
      rw [e2]
      unfold Arr at hg ⊢
      show (w.heap.modify g _)[g]? = _
      rw [Array.getElem?_modify, if_pos rfl, hg]
      show some (Obj.cells (putCells encStr pre.length (c ++ z).toArray (pre ++ flatK textK l ++ post).toArray) _ _) = _
      rw [put_cells _ _ _ _ (by rw [flat_text, List.length_map, List.length_append]; exact hcz.symm)]
    have hcl : (c.map (fun x => (⟨x.toArray⟩ : ByteArray))).length = c.length := List.length_map ..
    have hpl' : post.length = (cap - l.length) * 1 := hpl
    refine ⟨⟨⟨by rw [flatK_length], Or.inr ⟨g, pre, z.map encStr ++ post, cap, by rw [hcl], hb, hgg, by rw [hcl]; omega, hcm, ?_⟩⟩, fun _ _ => trivial, fun _ _ _ h => h.elim, fun k hk => ?_, ?_⟩, rfl, rfl, rfl, ?_, fun k hk hne => hblk k hk hne⟩
    · rw [List.length_append, List.length_map, hcl]
      show z.length + post.length = (cap - c.length) * 1
      omega
    · simp only [Value.ownBlock, Option.some.injEq] at hk
      subst hk
      exact ⟨hb, hgg.lt⟩
    · intro n' cap' e
      simp at e
    · show w.heap.size ≤ (w.heap.modify g _).size
      simp

set_option maxRecDepth 100000 in
set_option maxHeartbeats 1000000 in
theorem compactS_any (B : Nat) (q : Value) (l : List ByteArray) (w : World) (h : KQ textK 9 w B q l) (hl : l.length ≤ 1000000) :
    Calls Try.prog 20 #[q] w fun e w' => ∃ q', e = .returned q' ∧ KQ textK 9 w' B q' (dedupT l) ∧ Kept (fun k => q.ownBlock = some k) w w' := by
  obtain ⟨ao, cap, rfl, hnil, hRow⟩ := h.form
  cases hc : l with
  | nil =>
    subst hc
    refine (show Calls Try.prog 20 _ w _ from Any.slices_Compact_string_empty laysCompactS ao cap w).mono ?_
    rintro e w' ⟨rfl, rfl⟩
    have e0 : dedupT [] = [] := List.eq_nil_of_length_eq_zero (Nat.le_zero.1 (dedupT_le []))
    exact ⟨_, rfl, by rw [e0]; exact h, Kept.refl _ _⟩
  | cons x r =>
    have hpos : 0 < l.length := by rw [hc]; simp
    rw [← hc]
    obtain ⟨g, off, rfl, _, _⟩ := hRow.cell 0 x (by rw [hc]; rfl)
    obtain ⟨_, h0, h1, h2, h3⟩ := h.cutRow hpos
    have hs := Any.slices_Compact_string laysCompactS g off cap (l.map (fun x => x.data.toList)) w h1 (by rw [List.length_map]; omega) (by rw [List.length_map]; exact h0)
    rw [List.length_map] at hs
    refine (show Calls Try.prog 20 _ w _ from hs).mono ?_
    rintro e w' ⟨rfl, N, rfl⟩
    have hcl := compact_le (l.map (fun x => x.data.toList))
    rw [List.length_map] at hcl
    obtain ⟨h4, h5⟩ := h3 N (Lib.compact (l.map (fun x => x.data.toList))) (List.replicate (l.length - (Lib.compact (l.map (fun x => x.data.toList))).length) []) (by rw [List.length_replicate]; omega)
    exact ⟨_, rfl, h4, h5.mono (fun k _ e => by rw [e]; rfl)⟩

/-- Of a sorted row each is left, once. -/
theorem compact_rise {zs : List (List UInt8)} (hs : zs.Pairwise (· ≤ ·)) : (Lib.compact zs).Pairwise (· < ·) ∧ ∀ x, x ∈ Lib.compact zs ↔ x ∈ zs := by
  have hle : ∀ i j, i ≤ j → j < zs.length → zs.toArray[i]! ≤ zs.toArray[j]! := by
    intro i j hij hj
    rw [getElem!_pos _ i (by simp; omega), getElem!_pos _ j (by simpa using hj)]
    rcases Nat.lt_or_eq_of_le hij with h | h
    · simpa using List.pairwise_iff_getElem.1 hs i j (by omega) hj h
    · subst h; exact List.le_refl _
  have key : ∀ m, m ≤ zs.length → (Lib.compactUpTo zs.toArray m).Pairwise (· < ·) ∧ ∀ x, x ∈ Lib.compactUpTo zs.toArray m ↔ ∃ j, j < m ∧ zs.toArray[j]! = x := by
    intro m
    induction m with
    | zero => intro _; exact ⟨by simp [Lib.compactUpTo], fun x => by simp [Lib.compactUpTo]⟩
    | succ m ih =>
      intro hm
      obtain ⟨h1, h2⟩ := ih (by omega)
      rw [Lib.compactUpTo_succ]
      by_cases hk : Lib.keeps zs.toArray m = true
      · rw [if_pos hk]
        refine ⟨List.pairwise_append.2 ⟨h1, List.pairwise_singleton _ _, fun a ha b hb => ?_⟩, fun x => ?_⟩
        · rw [List.mem_singleton.1 hb]
          obtain ⟨j, hj, rfl⟩ := (h2 a).1 ha
          unfold Lib.keeps at hk
          simp only [decide_eq_true_eq] at hk
          rcases hk with hk | hk
          · omega
          · have q1 := hle j (m - 1) (by omega) (by omega)
            have q2 := hle (m - 1) m (by omega) (by omega)
            exact Std.lt_of_le_of_lt q1 (Std.lt_of_le_of_ne q2 (fun e => hk e.symm))
        · rw [List.mem_append, List.mem_singleton, h2]
          constructor
          · rintro (⟨j, hj, e⟩ | e)
            · exact ⟨j, by omega, e⟩
            · exact ⟨m, by omega, e.symm⟩
          · rintro ⟨j, hj, e⟩
            rcases Nat.lt_or_eq_of_le (Nat.le_of_lt_succ hj) with h | h
            · exact Or.inl ⟨j, h, e⟩
            · subst h; exact Or.inr e.symm
      · rw [if_neg hk, List.append_nil]
        refine ⟨h1, fun x => ?_⟩
        rw [h2]
        constructor
        · rintro ⟨j, hj, e⟩
          exact ⟨j, by omega, e⟩
        · rintro ⟨j, hj, e⟩
          rcases Nat.lt_or_eq_of_le (Nat.le_of_lt_succ hj) with h | h
          · exact ⟨j, h, e⟩
          · subst h
            unfold Lib.keeps at hk
            simp only [decide_eq_true_eq, not_or, Decidable.not_not] at hk
            exact ⟨j - 1, by omega, by rw [← e, hk.2]⟩
  obtain ⟨h1, h2⟩ := key zs.length (Nat.le_refl _)
  refine ⟨h1, fun x => (h2 x).trans ?_⟩
  constructor
  · rintro ⟨j, hj, rfl⟩
    rw [getElem!_pos _ j (by simpa using hj)]
    simp
  · intro hx
    obtain ⟨j, hj, e⟩ := List.getElem_of_mem hx
    exact ⟨j, hj, by rw [getElem!_pos _ j (by simpa using hj)]; simpa using e⟩

/-- Sorted, and each once: it rises, and has what was there. -/
theorem dedup_sort (k : List ByteArray) : (dedupT (sortT k)).Pairwise (fun a b => a.toList < b.toList) ∧ ∀ x, x ∈ dedupT (sortT k) ↔ x ∈ k := by
  have hl : ∀ x y : List UInt8, (decide (x ≤ y)) = true ↔ x ≤ y := fun x y => decide_eq_true_iff
  have e1 : (sortT k).map (fun x => x.data.toList) = (k.map (fun x => x.data.toList)).mergeSort (fun x y => decide (x ≤ y)) := by
    unfold sortT
    rw [List.map_map]
    exact (List.map_congr_left (fun x _ => rfl)).trans (List.map_id _)
  have h2 : ((k.map (fun x => x.data.toList)).mergeSort (fun x y => decide (x ≤ y))).Pairwise (· ≤ ·) := by
    have := List.pairwise_mergeSort (le := fun x y : List UInt8 => decide (x ≤ y)) (fun a b c h1 h2 => by rw [hl] at *; exact List.le_trans h1 h2) (fun a b => by
      rcases Std.le_total (a := a) (b := b) with h | h <;> simp [h]) (k.map (fun x => x.data.toList))
    exact this.imp (fun h => (hl _ _).1 h)
  obtain ⟨c1, c2⟩ := compact_rise h2
  unfold dedupT
  rw [e1]
  refine ⟨?_, fun x => ?_⟩
  · rw [List.pairwise_map]
    exact c1.imp (fun {a b} h => by rw [ByteArray.toList_eq, ByteArray.toList_eq]; exact h)
  · rw [List.mem_map]
    constructor
    · rintro ⟨y, hy, rfl⟩
      have := ((List.mergeSort_perm _ _).mem_iff).1 ((c2 y).1 hy)
      obtain ⟨z, hz, e⟩ := List.mem_map.1 this
      rw [← e]
      exact hz
    · intro hx
      refine ⟨x.data.toList, (c2 _).2 (((List.mergeSort_perm _ _).mem_iff).2 (List.mem_map.2 ⟨x, hx, rfl⟩)), ?_⟩
      cases x; rfl
end Go.Proofs.Ytfbpjdjajecajaa
