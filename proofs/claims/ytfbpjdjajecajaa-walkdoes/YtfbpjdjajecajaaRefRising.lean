/- The reference puts a text at its place. (Laid by gen_refrising.py.) -/
import Derived.Test.YtfbpjdjajecajaaRefGrHas
import Derived.Test.YtfbpjdjajecajaaRegionLast
import Derived.Test.YtfbpjdjajecajaaKindsOwn
namespace Go.Proofs.Ytfbpjdjajecajaa
open Go Go.RowKit
set_option linter.unusedVariables false

def riseAt (l : List ByteArray) (x : ByteArray) : Nat := (l.takeWhile (fun y => Op.bytesLess y.toList x.toList)).length

theorem riseAt_le (l : List ByteArray) (x : ByteArray) : riseAt l x ≤ l.length := by
  unfold riseAt
  exact (List.takeWhile_sublist _).length_le

theorem riseStop {α : Type} {p : α → Bool} : ∀ (l : List α) (i : Nat) (x : α), l[i]? = some x → i ≤ (l.takeWhile p).length → (i < (l.takeWhile p).length ↔ p x = true)
  | [], i, x, h, _ => by simp at h
  | y :: l, 0, x, h, _ => by
    simp at h
    subst h
    rw [List.takeWhile_cons]
    cases p y <;> simp
  | y :: l, i + 1, x, h, hi => by
    have h' : l[i]? = some x := by simpa using h
    rw [List.takeWhile_cons] at hi ⊢
    cases hp : p y with
    | false => rw [hp] at hi; simp at hi
    | true =>
      rw [hp] at hi
      simp only [if_true, List.length_cons] at hi ⊢
      rw [← riseStop (p := p) l i x h' (by omega)]
      omega

theorem riseAt_step {l : List ByteArray} {x y : ByteArray} {i : Nat} (hy : l[i]? = some y) (hi : i ≤ riseAt l x) : i < riseAt l x ↔ Op.bytesLess y.toList x.toList = true := riseStop l i y hy hi

def riseR (x : ByteArray) : List ByteArray → List ByteArray
  | [] => [x]
  | y :: r => if Op.bytesLess y.toList x.toList = true then y :: riseR x r else x :: y :: r

theorem riseR_eq (x : ByteArray) : ∀ l : List ByteArray, l.take (riseAt l x) ++ x :: l.drop (riseAt l x) = riseR x l
  | [] => rfl
  | y :: r => by
    have ih := riseR_eq x r
    unfold riseAt at ih ⊢
    unfold riseR
    rw [List.takeWhile_cons]
    by_cases h : Op.bytesLess y.toList x.toList = true
    · rw [if_pos h, if_pos h, List.length_cons, List.take_succ_cons, List.drop_succ_cons, List.cons_append, ih]
    · rw [if_neg h, if_neg h]
      rfl

theorem riseR_mem (x : ByteArray) : ∀ (l : List ByteArray) (y : ByteArray), y ∈ riseR x l ↔ y = x ∨ y ∈ l
  | [], y => by simp [riseR]
  | z :: r, y => by
    unfold riseR
    split
    · rw [List.mem_cons, riseR_mem x r y, List.mem_cons]
      constructor <;> rintro (h | h | h) <;> simp [h]
    · rw [List.mem_cons]

theorem riseR_sorted (x : ByteArray) : ∀ l : List ByteArray, l.Pairwise (fun a b => a.toList < b.toList) → x ∉ l → (riseR x l).Pairwise (fun a b => a.toList < b.toList)
  | [], _, _ => List.pairwise_singleton _ _
  | z :: r, h, hn => by
    obtain ⟨h1, h2⟩ := List.pairwise_cons.1 h
    have hnr : x ∉ r := fun e => hn (List.mem_cons_of_mem _ e)
    have hzx : z ≠ x := fun e => hn (by rw [e]; exact List.mem_cons_self)
    unfold riseR
    split
    · rename_i hl
      rw [lessT_eq] at hl
      have hl := of_decide_eq_true hl
      refine List.pairwise_cons.2 ⟨fun y hy => ?_, riseR_sorted x r h2 hnr⟩
      rcases (riseR_mem x r y).1 hy with e | e
      · rw [e]; exact hl
      · exact h1 y e
    · rename_i hl
      rw [lessT_eq] at hl
      have hl : ¬ z.toList < x.toList := by simpa using hl
      have hxz : x.toList < z.toList := by
        rcases List.le_total z.toList x.toList with h4 | h4
        · rcases List.le_iff_lt_or_eq.1 h4 with h5 | h5
          · exact absurd h5 hl
          · exact absurd (bytes_inj h5) hzx
        · rcases List.le_iff_lt_or_eq.1 h4 with h5 | h5
          · exact h5
          · exact absurd (bytes_inj h5).symm hzx
      refine List.pairwise_cons.2 ⟨fun y hy => ?_, h⟩
      rcases List.mem_cons.1 hy with e | e
      · rw [e]; exact hxz
      · exact List.lt_trans hxz (h1 y e)

/-- A text more, at its place. -/
def riseT (l : List ByteArray) (s : ByteArray) : List ByteArray := if inL16 l s = true then l else l.take (riseAt l s) ++ s :: l.drop (riseAt l s)

theorem riseT_mem (l : List ByteArray) (s y : ByteArray) : y ∈ riseT l s ↔ y = s ∨ y ∈ l := by
  unfold riseT
  split
  · rename_i h
    have := inL16_iff.1 h
    exact ⟨Or.inr, fun e => e.elim (fun e => by rw [e]; exact this) id⟩
  · rw [riseR_eq, riseR_mem]

theorem riseT_sorted {l : List ByteArray} {s : ByteArray} (h : l.Pairwise (fun a b => a.toList < b.toList)) : (riseT l s).Pairwise (fun a b => a.toList < b.toList) := by
  unfold riseT
  split
  · exact h
  · rename_i hn
    rw [riseR_eq]
    exact riseR_sorted s l h (fun e => hn (inL16_iff.2 e))

theorem riseT_length (l : List ByteArray) (s : ByteArray) : (riseT l s).length ≤ l.length + 1 := by
  unfold riseT
  split
  · omega
  · have := riseAt_le l s
    rw [List.length_append, List.length_cons, List.length_take, List.length_drop]
    omega

theorem txtOne (w : World) (x : ByteArray) : RowAt textK (w.alloc (.cells #[.string x] 9)) (some ⟨w.heap.size, 0, none⟩) [x] := by
  have hX := Arr.new w 9 [.string x]
  refine ⟨fun i y hy => ?_, fun _ _ => trivial⟩
  cases i with
  | succ k => simp at hy
  | zero =>
    simp only [List.getElem?_cons_zero, Option.some.injEq] at hy
    subst hy
    refine ⟨_, _, rfl, hX.lt, fun q v hv => ?_⟩
    have h0 := hX.cell (i := q) (v := v) hv
    have e : 0 + 0 * textK.n + q = q := by omega
    rw [e]
    exact h0

set_option maxRecDepth 100000 in
set_option maxHeartbeats 4000000 in
theorem rgRising_any (base : Nat) (q : Value) (l : List ByteArray) (s : ByteArray) (w : World) (h : KQ textK 9 w base q l) (hbw : base ≤ w.heap.size) (hl : l.length ≤ 900000) :
    Calls Try.prog 22 #[q, .string s] w fun e w' => ∃ q', e = .returned q' ∧ KQ textK 9 w' base q' (riseT l s) ∧ Fresh w q q' ∧ Below w.heap.size w w' := by
  obtain ⟨ao, cap, rfl, hnil, hRow⟩ := h.form
  have cH := rgHas_any ao cap l s w hRow (by omega)
  obtain ⟨lo, hlo⟩ : ∃ z, Hid (riseT l s = z) := ⟨_, rfl⟩
  rw [hlo.out]
  cases hB : inL16 l s with
  | true =>
    have hll : l = lo := by rw [← hlo.out]; unfold riseT; rw [if_pos hB]
    subst hll
    rw [hB] at cH
    go_enter Try.func22, Try.ntmps22
    go_wp2_with fail
    refine cH.mono ?_
    rintro e w1 ⟨rfl, rfl⟩
    clear cH
    go_wp2
    go_ret
    exact ⟨_, rfl, h, Fresh.refl _ _, Below.refl _ _⟩
  | false =>
    have hlo2 : Hid (lo = l.take (riseAt l s) ++ s :: l.drop (riseAt l s)) := by show lo = _; rw [← hlo.out]; unfold riseT; rw [if_neg (by rw [hB]; decide)]
    rw [hB] at cH
    clear hlo hB
    obtain ⟨i0, z0, hi0, hz0, hz1, hz2, hz3⟩ := strInfoT
    go_enter Try.func22, Try.ntmps22
    go_wp2_with fail
    refine cH.mono ?_
    rintro e w1 ⟨rfl, rfl⟩
    clear cH
    have hnT : Hid (ao = none → cap = 0) := hnil
    have hh : Hid (KQ textK 9 w1 base (.slice ao l.length cap) l) := h
    clear hnil h
    go_wp2_with fail
    go_loopw [5] (fun v5 wr => ∃ k : Nat, k ≤ riseAt l s ∧ v5 = .int .i64 (k : Int) ∧ wr = w1) (fun v _ => riseAt l s - (intOf v).toNat)
    case atStart => exact ⟨0, Nat.zero_le _, rfl, rfl⟩
    case round =>
      obtain ⟨k, hka, rfl, rfl⟩ := hrel
      have hpl := riseAt_le l s
      rcases (by by_cases h : k < l.length; exact Or.inl h; exact Or.inr h : k < l.length ∨ ¬ k < l.length) with hlt | hlt
      focus
        have g2 : (k : Int) < (l.length : Int) := by omega
        have gd : decide (k < l.length) = true := decide_eq_true hlt
        obtain ⟨z, hz⟩ : ∃ z, l[k]? = some z := ⟨_, List.getElem?_eq_getElem hlt⟩
        have hst := riseAt_step hz hka
        obtain ⟨g, o3, rfl, hg1, q0⟩ := hRow.txt16 hz
        clear hz
        rcases Bool.eq_false_or_eq_true (Op.bytesLess z.toList s.toList) with hls | hls
        · have hlt2 := hst.2 hls
          clear hst
          go_wp2
          go_roundw
          case rel => exact ⟨k + 1, by omega, by go_num, trivial⟩
          case measure => simp [intOf]; omega
        have Hip : Hid (k = riseAt l s) := by
          have : ¬ k < riseAt l s := fun h => by rw [hst.1 h] at hls; cases hls
          show k = _
          omega
        clear hst hka hpl
        obtain ⟨_, _, -, -, -, -, hlc⟩ := hh.out.spot (by omega)
        have hci : (cap = k) = False := by simp; omega
        have hrD : ∀ U, Below wr.heap.size wr U → RowAt textK U (some ⟨g, o3 + k, none⟩) (l.drop k) := fun U hb => by have := (hRow.below hb).dropG k; rw [show k * textK.n = k from Nat.mul_one k] at this; exact this
        have hnD : Hid (some (⟨g, o3 + k, none⟩ : Addr) = none → cap - k = 0) := fun h => by cases h
      rotate_left 1
      focus
        have g2 : ¬ (k : Int) < (l.length : Int) := by omega
        have gd : decide (k < l.length) = false := decide_eq_false hlt
        have Hip : Hid (k = riseAt l s) := by show k = _; omega
        have hkl : k = l.length := by have := Hip.out; omega
        clear hka hpl
        rcases (by cases ao with | none => exact Or.inl rfl | some ad => exact Or.inr ⟨ad, rfl⟩ : ao = none ∨ ∃ ad, ao = some ad) with hao | ⟨ad, hao⟩
        focus
          have hc0 := hnT.out hao
          have hl0 : l = [] := by
            cases l with
            | nil => rfl
            | cons z r => obtain ⟨_, _, e, _⟩ := hh.out.spot (Nat.succ_pos _); rw [hao] at e; cases e
          have hk0 : k = 0 := by rw [hkl, hl0]; rfl
          subst hao
          have hci := eq_true (show cap = k by rw [hc0, hk0])
          have hrD : ∀ U, Below wr.heap.size wr U → RowAt textK U none (l.drop k) := fun U _ => by rw [hl0, List.drop_nil]; exact nil_row _ _
          have hnD : Hid ((none : Option Addr) = none → cap - k = 0) := fun _ => by omega
          have hlc : l.length ≤ cap := by rw [hl0]; exact Nat.zero_le _
          clear hc0 hl0 hkl hk0
        rotate_left 1
        subst hao
        have hlc : l.length ≤ cap := by
          rcases Nat.eq_zero_or_pos l.length with h0 | h0
          · omega
          · obtain ⟨_, _, -, -, -, -, h9⟩ := hh.out.spot h0; exact h9
        rcases (by by_cases hcp : cap = k; exact Or.inl hcp; exact Or.inr hcp : cap = k ∨ ¬ cap = k) with hcp | hcp
        focus
          have hci := eq_true hcp
          have hdn : l.drop k = [] := List.drop_of_length_le (by omega)
          have hrD : ∀ U, Below wr.heap.size wr U → RowAt textK U (some ad) (l.drop k) := fun U _ => by rw [hdn]; exact nil_row _ _
          have hnD : Hid (some ad = none → cap - k = 0) := fun h => by cases h
          clear hdn hcp hkl
        rotate_left 1
        obtain ⟨g, o3, had⟩ : ∃ b off, ad = ⟨b, off, none⟩ := by
          rcases hh.out.row.2 with ⟨ao', hv, hn⟩ | ⟨g8, pre, post, c8, hv, _⟩
          · simp only [Value.slice.injEq] at hv
            exact (hcp (by have := hv.2.1; have := hv.2.2; omega)).elim
          · simp only [Value.slice.injEq] at hv
            exact ⟨_, _, Option.some.inj hv.1⟩
        subst had
        have hci := eq_false hcp
        have hrD : ∀ U, Below wr.heap.size wr U → RowAt textK U (some ⟨g, o3 + k, none⟩) (l.drop k) := fun U hb => by have := (hRow.below hb).dropG k; rw [show k * textK.n = k from Nat.mul_one k] at this; exact this
        have hnD : Hid (some (⟨g, o3 + k, none⟩ : Addr) = none → cap - k = 0) := fun h => by cases h
        clear hcp hkl
      all_goals
        have j3 : (0 : Int) ≤ (k : Int) := by omega
        have j4 : (k : Int) ≤ (cap : Int) := by have := Hip.out; have := riseAt_le l s; omega
        have j5 : (k : Int) ≤ (l.length : Int) := by have := Hip.out; have := riseAt_le l s; omega
        have j6 : (l.length : Int) ≤ (cap : Int) := by omega
        have hTl : (l.take k).length = k := by rw [List.length_take]; omega
        have hDl : (l.drop k).length = l.length - k := List.length_drop
        have hN3 : Hid (k + 1 + (l.length - k) = l.length + 1) := by show k + 1 + (l.length - k) = l.length + 1; omega
        have hrT := fun U (hb : Below wr.heap.size wr U) => (hRow.below hb).take k
        have m1 : k ≤ maxLen := by unfold maxLen; omega
        have m2 : k * 16 ≤ 140737488355328 := by omega
        have m3 : k + 1 ≤ maxLen := by unfold maxLen; omega
        have m4 : (k + 1) * 16 ≤ 140737488355328 := by omega
        have m5 : l.length + 1 ≤ maxLen := by unfold maxLen; omega
        have m6 : (l.length + 1) * 16 ≤ 140737488355328 := by omega
        have HL : Hid (lo = l.take k ++ s :: l.drop k) := by show lo = _; rw [hlo2.out, ← Hip.out]
        have HN : Hid (l.length + 1 = lo.length) := by
          show l.length + 1 = lo.length
          rw [HL.out, List.length_append, List.length_cons, hTl, hDl]
          omega
        have hbd : Below wr.heap.size wr wr.drew := below_drewN (Below.refl _ wr) 1
        go_wp2_with fail
        refine wp_region_K (fun w' => Below wr.heap.size wr w') 12 (by kernel_rfl) ?_
        generalize wr.drew = w5 at hbd ⊢
        refine wpAnyK_takeD (i := 1) (v := ?_) (some 25) rfl rfl (by kernel_rfl) (by kernel_rfl) (by kernel_rfl) (by kernel_rfl) (by decide) (fun _ _ _ h => h) (by assumption) (Or.inl ⟨by rfl, ?_⟩) ?_
        rotate_left 1
        · intro w' hSw
          skip
          go_simp
          first | done | with_reducible rfl
        simp only [Act.put, List.setIfInBounds_toArray, List.set_cons_zero, List.set_cons_succ]
        refine wpAnyK_takeD (i := 2) (v := ?_) (some 26) rfl rfl (by kernel_rfl) (by kernel_rfl) (by kernel_rfl) (by kernel_rfl) (by decide) (fun _ _ _ h => h) (by assumption) (Or.inl ⟨by rfl, ?_⟩) ?_
        rotate_left 1
        · intro w' hSw
          skip
          go_simp
          first | done | with_reducible rfl
        simp only [Act.put, List.setIfInBounds_toArray, List.set_cons_zero, List.set_cons_succ]
        refine wpAnyK_takeD (i := 3) (v := ?_) (some 27) rfl rfl (by kernel_rfl) (by kernel_rfl) (by kernel_rfl) (by kernel_rfl) (by decide) (fun _ _ _ h => h) (by assumption) (Or.inl ⟨by rfl, ?_⟩) ?_
        rotate_left 1
        · intro w' hSw
          skip
          go_simp
          first | done | with_reducible rfl
        simp only [Act.put, List.setIfInBounds_toArray, List.set_cons_zero, List.set_cons_succ]
        refine wpAnyK_takeD (i := 5) (v := ?_) (some 29) rfl rfl (by kernel_rfl) (by kernel_rfl) (by kernel_rfl) (by kernel_rfl) (by decide) (fun _ _ _ h => h) (by assumption) (Or.inl ⟨by rfl, ?_⟩) ?_
        rotate_left 1
        · intro w' hSw
          skip
          go_simp
          first | done | with_reducible rfl
        simp only [Act.put, List.setIfInBounds_toArray, List.set_cons_zero, List.set_cons_succ]
        refine wpAnyK_takeD (i := 8) (v := ?_) (some 32) rfl rfl (by kernel_rfl) (by kernel_rfl) (by kernel_rfl) (by kernel_rfl) (by decide) (fun _ _ _ h => h) (by assumption) (Or.inl ⟨by rfl, ?_⟩) ?_
        rotate_left 1
        · intro w' hSw
          skip
          go_simp
          first | done | with_reducible rfl
        simp only [Act.put, List.setIfInBounds_toArray, List.set_cons_zero, List.set_cons_succ]
        refine wpAnyK_takeD (i := 9) (v := ?_) (some 33) rfl rfl (by kernel_rfl) (by kernel_rfl) (by kernel_rfl) (by kernel_rfl) (by decide) (fun _ _ _ h => h) (by assumption) (Or.inl ⟨by rfl, ?_⟩) ?_
        rotate_left 1
        · intro w' hSw
          skip
          go_simp
          first | done | with_reducible rfl
        simp only [Act.put, List.setIfInBounds_toArray, List.set_cons_zero, List.set_cons_succ]
        refine wpAnyK_takeD (i := 10) (v := ?_) (some 34) rfl rfl (by kernel_rfl) (by kernel_rfl) (by kernel_rfl) (by kernel_rfl) (by decide) (fun _ _ _ h => h) (by assumption) (Or.inl ⟨by rfl, ?_⟩) ?_
        rotate_left 1
        · intro w' hSw
          skip
          go_simp
          first | done | with_reducible rfl
        simp only [Act.put, List.setIfInBounds_toArray, List.set_cons_zero, List.set_cons_succ]
        refine wpAnyK_ready (rs := [0, 6]) (by kernel_rfl) (by simp) ?_
        refine AllReadyK.cons rfl (fun K' hK => ?_) ?_
        · go_simp
          have bw6 := hbd.trans ((belowNew w5 (.cells #[] 9)).mono hbd.size)
          have hOw6 : (w5.alloc (.cells #[] 9)).ownsRow wr.heap.size 9 textK.n (.slice (some ⟨w5.heap.size, 0, none⟩) 0 0) 0 [] := World.ownsRow_made w5 #[] 0 hbd.size (by unfold maxLen; omega) (by simp)
          have hsw6 : w5.heap.size < (w5.alloc (.cells #[] 9)).heap.size := by rw [alloc_size]; omega
          obtain ⟨w6, hww6⟩ : ∃ q, w5.alloc (.cells #[] 9) = q := ⟨_, rfl⟩
          rw [hww6] at bw6 hOw6 hsw6 ⊢
          refine hK.out _ _ (fun _ => bw6) ?_
          clear hK K' hww6
          refine wpAnyK_ready (rs := [4, 6]) (by kernel_rfl) (by simp) ?_
          refine AllReadyK.consD (some 28) rfl rfl (fun K' hK => ?_) ?_
          · refine step_ownR (K := textK) w6 (by rfl) _ _ 29 (by rfl) wr.heap.size 9 i0 _ 16 Try.underlying29 hi0 hz0 hz1 hz2 hz3 _ _ _ _ _ (by rfl) hOw6 _ _ _ hTl (Nat.zero_add _) (by rfl) (hrT _ bw6) (fun e => hnT.out (by first | exact e | trivial)) m1 m2 bw6.size ?_
            intro aw7 cw7 w7 hOw7 hkw7
            have bw7 := bw6.trans (Kept.below hkw7 bw6.size (fun k hk => (hOw6.lt k hk).1))
            refine hK.out _ _ (fun _ => bw7) ?_
            clear hK K' hkw7
            simp only [Act.put, List.setIfInBounds_toArray, List.set_cons_zero, List.set_cons_succ]
            refine wpAnyK_ready (rs := [6]) (by kernel_rfl) (by simp) ?_
            refine AllReadyK.cons rfl (fun K' hK => ?_) ?_
            · go_simp
              have bw8 := bw7.trans ((belowNew w7 (.cells #[.string s] 9)).mono bw7.size)
              have hRw8 := txtOne w7 s
              have hsw8 : w7.heap.size < (w7.alloc (.cells #[.string s] 9)).heap.size := by rw [alloc_size]; omega
              have hOw8 := own_belowT hOw7 (belowNew w7 (.cells #[.string s] 9))
              obtain ⟨w8, hww8⟩ : ∃ q, w7.alloc (.cells #[.string s] 9) = q := ⟨_, rfl⟩
              rw [hww8] at bw8 hRw8 hsw8 hOw8 ⊢
              refine hK.out _ _ (fun _ => bw8) ?_
              clear hK K' hww8
              refine wpAnyK_ready (rs := [7]) (by kernel_rfl) (by simp) ?_
              refine AllReadyK.consD (some 31) rfl rfl (fun K' hK => ?_) ?_
              · refine step_ownR (K := textK) w8 (by rfl) _ _ 29 (by rfl) wr.heap.size 9 i0 _ 16 Try.underlying29 hi0 hz0 hz1 hz2 hz3 _ _ _ _ _ (by rfl) hOw8 _ _ _ rfl rfl (by rfl) hRw8 (fun h => by cases h) m3 m4 bw8.size ?_
                intro aw9 cw9 w9 hOw9 hkw9
                have bw9 := bw8.trans (Kept.below hkw9 bw8.size (fun k hk => (hOw8.lt k hk).1))
                refine hK.out _ _ (fun _ => bw9) ?_
                clear hK K' hkw9
                simp only [Act.put, List.setIfInBounds_toArray, List.set_cons_zero, List.set_cons_succ]
                refine wpAnyK_ready (rs := [11]) (by kernel_rfl) (by simp) ?_
                refine AllReadyK.consD (some 35) rfl rfl (fun K' hK => ?_) ?_
                · refine step_ownR (K := textK) w9 (by rfl) _ _ 29 (by rfl) wr.heap.size 9 i0 _ 16 Try.underlying29 hi0 hz0 hz1 hz2 hz3 _ _ _ _ _ (by rfl) hOw9 _ _ _ hDl hN3.out (by rfl) (hrD _ bw9) (fun e => hnD.out (by first | exact e | trivial)) m5 m6 bw9.size ?_
                  intro aw10 cw10 w10 hOw10 hkw10
                  have bw10 := bw9.trans (Kept.below hkw10 bw9.size (fun k hk => (hOw9.lt k hk).1))
                  refine hK.out _ _ (fun _ => bw10) ?_
                  clear hK K' hkw10
                  simp only [Act.put, List.setIfInBounds_toArray, List.set_cons_zero, List.set_cons_succ]
                  refine wpAnyK_ready (rs := [12]) (by kernel_rfl) (by simp) ?_
                  refine AllReadyK.cons rfl (fun K' hK => ?_) AllReadyK.nil
                  go_simp
                  have hq0 := KQ.joined (K := textK) (T := 9) (lo := lo) (fun _ _ h => h.elim) (fun _ => trivial) hOw10 HL.out HN.out
                  have hq := hq0.rebase (B' := base) hbw
                  have hbF := bw10
                  refine hK.out _ _ (fun h => absurd rfl h) ?_
                  clear hK K'
                  refine wpAnyK_done (by kernel_rfl) ?_ _
                  go_wp2
                  go_ret
                  exact ⟨_, rfl, hq, (fun gg e => Or.inr (hq0.lt gg e).1), hbF⟩
                exact AllReadyK.nil
              exact AllReadyK.nil
            exact AllReadyK.nil
          refine AllReadyK.cons rfl (fun K' hK => ?_) ?_
          · go_simp
            have bw11 := bw6.trans ((belowNew w6 (.cells #[.string s] 9)).mono bw6.size)
            have hRw11 := txtOne w6 s
            have hsw11 : w6.heap.size < (w6.alloc (.cells #[.string s] 9)).heap.size := by rw [alloc_size]; omega
            have hOw11 := own_belowT hOw6 (belowNew w6 (.cells #[.string s] 9))
            obtain ⟨w11, hww11⟩ : ∃ q, w6.alloc (.cells #[.string s] 9) = q := ⟨_, rfl⟩
            rw [hww11] at bw11 hRw11 hsw11 hOw11 ⊢
            refine hK.out _ _ (fun _ => bw11) ?_
            clear hK K' hww11
            refine wpAnyK_ready (rs := [4]) (by kernel_rfl) (by simp) ?_
            refine AllReadyK.consD (some 28) rfl rfl (fun K' hK => ?_) ?_
            · refine step_ownR (K := textK) w11 (by rfl) _ _ 29 (by rfl) wr.heap.size 9 i0 _ 16 Try.underlying29 hi0 hz0 hz1 hz2 hz3 _ _ _ _ _ (by rfl) hOw11 _ _ _ hTl (Nat.zero_add _) (by rfl) (hrT _ bw11) (fun e => hnT.out (by first | exact e | trivial)) m1 m2 bw11.size ?_
              intro aw12 cw12 w12 hOw12 hkw12
              have bw12 := bw11.trans (Kept.below hkw12 bw11.size (fun k hk => (hOw11.lt k hk).1))
              have hRw12 := hRw11.kept hkw12 (fun k hk e => by
                rcases hk with ⟨_, off', e'⟩ | ⟨_, _, f'⟩
                · simp at e'
                  simp [Value.ownBlock] at e
                  omega
                · exact f'.elim)
              refine hK.out _ _ (fun _ => bw12) ?_
              clear hK K' hkw12
              simp only [Act.put, List.setIfInBounds_toArray, List.set_cons_zero, List.set_cons_succ]
              refine wpAnyK_ready (rs := [7]) (by kernel_rfl) (by simp) ?_
              refine AllReadyK.consD (some 31) rfl rfl (fun K' hK => ?_) ?_
              · refine step_ownR (K := textK) w12 (by rfl) _ _ 29 (by rfl) wr.heap.size 9 i0 _ 16 Try.underlying29 hi0 hz0 hz1 hz2 hz3 _ _ _ _ _ (by rfl) hOw12 _ _ _ rfl rfl (by rfl) hRw12 (fun h => by cases h) m3 m4 bw12.size ?_
                intro aw13 cw13 w13 hOw13 hkw13
                have bw13 := bw12.trans (Kept.below hkw13 bw12.size (fun k hk => (hOw12.lt k hk).1))
                refine hK.out _ _ (fun _ => bw13) ?_
                clear hK K' hkw13
                simp only [Act.put, List.setIfInBounds_toArray, List.set_cons_zero, List.set_cons_succ]
                refine wpAnyK_ready (rs := [11]) (by kernel_rfl) (by simp) ?_
                refine AllReadyK.consD (some 35) rfl rfl (fun K' hK => ?_) ?_
                · refine step_ownR (K := textK) w13 (by rfl) _ _ 29 (by rfl) wr.heap.size 9 i0 _ 16 Try.underlying29 hi0 hz0 hz1 hz2 hz3 _ _ _ _ _ (by rfl) hOw13 _ _ _ hDl hN3.out (by rfl) (hrD _ bw13) (fun e => hnD.out (by first | exact e | trivial)) m5 m6 bw13.size ?_
                  intro aw14 cw14 w14 hOw14 hkw14
                  have bw14 := bw13.trans (Kept.below hkw14 bw13.size (fun k hk => (hOw13.lt k hk).1))
                  refine hK.out _ _ (fun _ => bw14) ?_
                  clear hK K' hkw14
                  simp only [Act.put, List.setIfInBounds_toArray, List.set_cons_zero, List.set_cons_succ]
                  refine wpAnyK_ready (rs := [12]) (by kernel_rfl) (by simp) ?_
                  refine AllReadyK.cons rfl (fun K' hK => ?_) AllReadyK.nil
                  go_simp
                  have hq0 := KQ.joined (K := textK) (T := 9) (lo := lo) (fun _ _ h => h.elim) (fun _ => trivial) hOw14 HL.out HN.out
                  have hq := hq0.rebase (B' := base) hbw
                  have hbF := bw14
                  refine hK.out _ _ (fun h => absurd rfl h) ?_
                  clear hK K'
                  refine wpAnyK_done (by kernel_rfl) ?_ _
                  go_wp2
                  go_ret
                  exact ⟨_, rfl, hq, (fun gg e => Or.inr (hq0.lt gg e).1), hbF⟩
                exact AllReadyK.nil
              exact AllReadyK.nil
            exact AllReadyK.nil
          exact AllReadyK.nil
        refine AllReadyK.cons rfl (fun K' hK => ?_) ?_
        · go_simp
          have bw15 := hbd.trans ((belowNew w5 (.cells #[.string s] 9)).mono hbd.size)
          have hRw15 := txtOne w5 s
          have hsw15 : w5.heap.size < (w5.alloc (.cells #[.string s] 9)).heap.size := by rw [alloc_size]; omega
          obtain ⟨w15, hww15⟩ : ∃ q, w5.alloc (.cells #[.string s] 9) = q := ⟨_, rfl⟩
          rw [hww15] at bw15 hRw15 hsw15 ⊢
          refine hK.out _ _ (fun _ => bw15) ?_
          clear hK K' hww15
          refine wpAnyK_ready (rs := [0]) (by kernel_rfl) (by simp) ?_
          refine AllReadyK.cons rfl (fun K' hK => ?_) ?_
          · go_simp
            have bw16 := bw15.trans ((belowNew w15 (.cells #[] 9)).mono bw15.size)
            have hOw16 : (w15.alloc (.cells #[] 9)).ownsRow wr.heap.size 9 textK.n (.slice (some ⟨w15.heap.size, 0, none⟩) 0 0) 0 [] := World.ownsRow_made w15 #[] 0 bw15.size (by unfold maxLen; omega) (by simp)
            have hsw16 : w15.heap.size < (w15.alloc (.cells #[] 9)).heap.size := by rw [alloc_size]; omega
            have hRw16 := hRw15.below (belowNew w15 (.cells #[] 9))
            obtain ⟨w16, hww16⟩ : ∃ q, w15.alloc (.cells #[] 9) = q := ⟨_, rfl⟩
            rw [hww16] at bw16 hOw16 hsw16 hRw16 ⊢
            refine hK.out _ _ (fun _ => bw16) ?_
            clear hK K' hww16
            refine wpAnyK_ready (rs := [4]) (by kernel_rfl) (by simp) ?_
            refine AllReadyK.consD (some 28) rfl rfl (fun K' hK => ?_) ?_
            · refine step_ownR (K := textK) w16 (by rfl) _ _ 29 (by rfl) wr.heap.size 9 i0 _ 16 Try.underlying29 hi0 hz0 hz1 hz2 hz3 _ _ _ _ _ (by rfl) hOw16 _ _ _ hTl (Nat.zero_add _) (by rfl) (hrT _ bw16) (fun e => hnT.out (by first | exact e | trivial)) m1 m2 bw16.size ?_
              intro aw17 cw17 w17 hOw17 hkw17
              have bw17 := bw16.trans (Kept.below hkw17 bw16.size (fun k hk => (hOw16.lt k hk).1))
              have hRw17 := hRw16.kept hkw17 (fun k hk e => by
                rcases hk with ⟨_, off', e'⟩ | ⟨_, _, f'⟩
                · simp at e'
                  simp [Value.ownBlock] at e
                  omega
                · exact f'.elim)
              refine hK.out _ _ (fun _ => bw17) ?_
              clear hK K' hkw17
              simp only [Act.put, List.setIfInBounds_toArray, List.set_cons_zero, List.set_cons_succ]
              refine wpAnyK_ready (rs := [7]) (by kernel_rfl) (by simp) ?_
              refine AllReadyK.consD (some 31) rfl rfl (fun K' hK => ?_) ?_
              · refine step_ownR (K := textK) w17 (by rfl) _ _ 29 (by rfl) wr.heap.size 9 i0 _ 16 Try.underlying29 hi0 hz0 hz1 hz2 hz3 _ _ _ _ _ (by rfl) hOw17 _ _ _ rfl rfl (by rfl) hRw17 (fun h => by cases h) m3 m4 bw17.size ?_
                intro aw18 cw18 w18 hOw18 hkw18
                have bw18 := bw17.trans (Kept.below hkw18 bw17.size (fun k hk => (hOw17.lt k hk).1))
                refine hK.out _ _ (fun _ => bw18) ?_
                clear hK K' hkw18
                simp only [Act.put, List.setIfInBounds_toArray, List.set_cons_zero, List.set_cons_succ]
                refine wpAnyK_ready (rs := [11]) (by kernel_rfl) (by simp) ?_
                refine AllReadyK.consD (some 35) rfl rfl (fun K' hK => ?_) ?_
                · refine step_ownR (K := textK) w18 (by rfl) _ _ 29 (by rfl) wr.heap.size 9 i0 _ 16 Try.underlying29 hi0 hz0 hz1 hz2 hz3 _ _ _ _ _ (by rfl) hOw18 _ _ _ hDl hN3.out (by rfl) (hrD _ bw18) (fun e => hnD.out (by first | exact e | trivial)) m5 m6 bw18.size ?_
                  intro aw19 cw19 w19 hOw19 hkw19
                  have bw19 := bw18.trans (Kept.below hkw19 bw18.size (fun k hk => (hOw18.lt k hk).1))
                  refine hK.out _ _ (fun _ => bw19) ?_
                  clear hK K' hkw19
                  simp only [Act.put, List.setIfInBounds_toArray, List.set_cons_zero, List.set_cons_succ]
                  refine wpAnyK_ready (rs := [12]) (by kernel_rfl) (by simp) ?_
                  refine AllReadyK.cons rfl (fun K' hK => ?_) AllReadyK.nil
                  go_simp
                  have hq0 := KQ.joined (K := textK) (T := 9) (lo := lo) (fun _ _ h => h.elim) (fun _ => trivial) hOw19 HL.out HN.out
                  have hq := hq0.rebase (B' := base) hbw
                  have hbF := bw19
                  refine hK.out _ _ (fun h => absurd rfl h) ?_
                  clear hK K'
                  refine wpAnyK_done (by kernel_rfl) ?_ _
                  go_wp2
                  go_ret
                  exact ⟨_, rfl, hq, (fun gg e => Or.inr (hq0.lt gg e).1), hbF⟩
                exact AllReadyK.nil
              exact AllReadyK.nil
            exact AllReadyK.nil
          exact AllReadyK.nil
        exact AllReadyK.nil
end Go.Proofs.Ytfbpjdjajecajaa
