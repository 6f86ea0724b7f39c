/- slices.Index, slices.Delete and slices.Clone of texts, over rows of the call's own. -/
import Derived.Test.YtfbpjdjajecajaaRowsMore
import Derived.Test.YtfbpjdjajecajaaTextMath
import Derived.Lib.SliceRun
import Derived.Shelf.RegionOpenPlain
import Derived.Deep.RegionLaw
namespace Go.Proofs.Ytfbpjdjajecajaa
open Go Go.RowKit
set_option linter.unusedVariables false

theorem flat_texts (l : List ByteArray) : flatK textK l = l.map Value.string := by
  unfold flatK
  induction l with
  | nil => rfl
  | cons x l ih => rw [List.flatMap_cons, List.map_cons, ih]; rfl

/-- Where a text stands. -/
def atT (x : ByteArray) : List ByteArray → Option Nat
  | [] => none
  | y :: r => if y = x then some 0 else (atT x r).map (· + 1)

def idxI (o : Option Nat) : Int := match o with | some i => (i : Int) | none => -1

theorem atT_some {x : ByteArray} : ∀ {l : List ByteArray} {i : Nat}, atT x l = some i → l[i]? = some x ∧ ∀ j y, j < i → l[j]? = some y → ¬ y = x
  | [], i, h => by cases h
  | z :: r, i, h => by
    unfold atT at h
    by_cases e : z = x
    · rw [if_pos e] at h
      simp only [Option.some.injEq] at h
      subst h
      exact ⟨by rw [e]; rfl, fun j y hj => absurd hj (by omega)⟩
    · rw [if_neg e] at h
      obtain ⟨k, hk, rfl⟩ := Option.map_eq_some_iff.1 h
      obtain ⟨h1, h2⟩ := atT_some hk
      refine ⟨by simpa using h1, fun j y hj hy => ?_⟩
      cases j with
      | zero =>
        simp only [List.getElem?_cons_zero, Option.some.injEq] at hy
        subst hy
        exact e
      | succ j => exact h2 j y (by omega) (by simpa using hy)

theorem atT_none {x : ByteArray} {l : List ByteArray} : atT x l = none ↔ ∀ y ∈ l, ¬ y = x := by
  induction l with
  | nil => exact ⟨(fun _ x hx => by cases hx), fun _ => rfl⟩
  | cons z r ih =>
    unfold atT
    by_cases e : z = x
    · rw [if_pos e]
      exact ⟨(fun h => by cases h), fun h => absurd e (h z List.mem_cons_self)⟩
    · rw [if_neg e, Option.map_eq_none_iff, ih]
      constructor
      · intro h y hy
        rcases List.mem_cons.1 hy with rfl | hy
        · exact e
        · exact h y hy
      · exact fun h y hy => h y (List.mem_cons_of_mem _ hy)

theorem RowAt.text {w : World} {ao : Option Addr} {l : List ByteArray} (h : RowAt textK w ao l) {i : Nat} {x : ByteArray} (hx : l[i]? = some x) : ∃ g off, ao = some ⟨g, off, none⟩ ∧ g < w.heap.size ∧ w.cell? ⟨g, off + i, none⟩ = some (.string x) := by
  obtain ⟨g, off, h1, h2, h3⟩ := h.cell i x hx
  have := h3 0 _ rfl
  simp only [show textK.n = 1 from rfl, Nat.mul_one, Nat.add_zero] at this
  exact ⟨g, off, h1, h2, this⟩

set_option maxRecDepth 100000 in
set_option maxHeartbeats 1000000 in
theorem cloneS_nil (w : World) : Calls Try.prog 16 #[.slice none 0 0] w fun e w' => e = .returned (.slice none 0 0) ∧ w' = w := by
  have q24 : ∀ (w : World) (a : Option Addr) (n c n' c' : Nat), (binOp .eql 29 (.slice a n c) (.slice none n' c')).run Try.prog w = .ok (.bool a.isNone) w := fun w a n c n' c' => Lib.run_eql_slice_nil w _ _ a n c n' c' Try.underlying29
  go_enter Try.func16, Try.ntmps16
  go_wp2
  go_ret
  exact ⟨rfl, rfl⟩

set_option maxRecDepth 100000 in
set_option maxHeartbeats 2000000 in
theorem cloneS_at (ad : Addr) (c : Nat) (l : List ByteArray) (w : World) (hc : ∀ j u, (l.map Value.string)[j]? = some u → w.cell? (ad.add j) = some u) (hl : l.length ≤ 1000000) :
    Calls Try.prog 16 #[.slice (some ad) l.length c] w fun e w' => ∃ v, e = .returned v ∧ KQ textK 9 w' w.heap.size v l ∧ Below w.heap.size w w' := by
  obtain ⟨i0, z0, hi0, hz0, hz1, hz2, hz3⟩ := strInfoT
  have q24 : ∀ (w : World) (a : Option Addr) (n c n' c' : Nat), (binOp .eql 29 (.slice a n c) (.slice none n' c')).run Try.prog w = .ok (.bool a.isNone) w := fun w a n c n' c' => Lib.run_eql_slice_nil w _ _ a n c n' c' Try.underlying29
  have hc' : Hid (∀ j u, (l.map Value.string)[j]? = some u → (w.alloc (.cells #[] 9)).cell? (ad.add j) = some u) := fun j u hu => Lib.cell?_alloc_some _ (hc j u hu)
  clear hc
  go_enter Try.func16, Try.ntmps16
  go_wp2_with (at_builtin; refine wpList_append_own _ rfl _ _ 29 rfl w.heap.size 9 i0 z0 1 16 Try.underlying29 hi0 hz0 hz1 hz2 hz3 (by decide) _ _ _ rfl (World.ownsRow_made w #[] 0 (Nat.le_refl _) (Nat.zero_le _) rfl) ad l.length c (l.map Value.string) rfl ?qc1 hc'.out ?qc3 ?qc4 ?qc5 ?qc6 ?_)
  case qc1 => simp
  case qc3 => intro u hu; obtain ⟨x, _, rfl⟩ := List.mem_map.1 hu; rfl
  case qc4 => unfold maxLen; omega
  case qc5 => omega
  case qc6 => simp
  intro v' w1 hown hgrow hnil
  have hb1 : Below w.heap.size w w1 := ((Below.refl _ w).alloc (Nat.le_refl _) _).grown hgrow (by simp) (by intro k hk; simp [Value.ownBlock] at hk; omega)
  have hO : w1.ownsRow w.heap.size 9 textK.n v' l.length (flatK textK l) := by
    rw [flat_texts]
    show w1.ownsRow w.heap.size 9 1 v' l.length (l.map Value.string)
    simpa using hown
  clear hown hgrow hnil hc'
  go_wp2
  go_ret
  obtain ⟨ao, cap, rfl⟩ : ∃ ao cap, v' = .slice ao l.length cap := by
    obtain ⟨ao, cap, e, _⟩ := (QRow.of_own hO).form
    exact ⟨ao, cap, e⟩
  exact ⟨_, rfl, KQ.of_own (fun _ _ h => h.elim) (fun _ _ => trivial) rfl hO, hb1⟩

theorem cloneS_any (B : Nat) (q : Value) (l : List ByteArray) (w : World) (h : KQ textK 9 w B q l) (hl : l.length ≤ 1000000) :
    Calls Try.prog 16 #[q] w fun e w' => ∃ v, e = .returned v ∧ KQ textK 9 w' w.heap.size v l ∧ Below w.heap.size w w' := by
  obtain ⟨ao, cap, rfl, hnil, hRow⟩ := h.form
  cases ao with
  | none =>
    have hc := hnil rfl
    subst hc
    have hl0 : l = [] := by
      cases l with
      | nil => rfl
      | cons x r => obtain ⟨g, off, e, _⟩ := hRow.text (i := 0) rfl; cases e
    subst hl0
    refine (cloneS_nil w).mono ?_
    rintro e w' ⟨rfl, rfl⟩
    exact ⟨_, rfl, KQ.empty _ _ _ _, Below.refl _ _⟩
  | some ad => exact cloneS_at ad cap l w (fun j u hu => hRow.news j u (by rw [flat_texts]; exact hu)) hl

/-- What is written behind the texts that stay, and what is cleared. -/
theorem Arr.shift {w : World} {g : Nat} {T : TypeId} {pre xs post : List Value} {i j : Nat} (h : Arr w g T (pre ++ xs ++ post)) (hij : i < j) (hj : j ≤ xs.length) :
    Arr (w.setCells g (pre.length + i) (xs.drop j)) g T (pre ++ xs.take i ++ xs.drop j ++ (xs.drop (i + (xs.length - j)) ++ post)) ∧
    Arr ((w.setCells g (pre.length + i) (xs.drop j)).setCells g (pre.length + (i + (xs.length - j))) (List.replicate (j - i) (.string ⟨#[]⟩))) g T (pre ++ (xs.take i ++ xs.drop j) ++ (List.replicate (j - i) (.string ⟨#[]⟩) ++ post)) := by
  have hl : (xs.drop j).length = xs.length - j := List.length_drop
  have e1 : pre ++ xs ++ post = (pre ++ xs.take i) ++ (xs.drop i).take (xs.length - j) ++ (xs.drop (i + (xs.length - j)) ++ post) := by
    have e2 : xs = xs.take i ++ ((xs.drop i).take (xs.length - j) ++ xs.drop (i + (xs.length - j))) := by
      rw [← List.drop_drop, List.take_append_drop, List.take_append_drop]
    conv => lhs; rw [e2]
    simp only [List.append_assoc]
  have hp : (pre ++ xs.take i).length = pre.length + i := by rw [List.length_append, List.length_take, Nat.min_eq_left (by omega)]
  rw [e1] at h
  have h1 := Arr.setCells (xs.drop j) w (pre ++ xs.take i) ((xs.drop i).take (xs.length - j)) (xs.drop (i + (xs.length - j)) ++ post) (by rw [List.length_take, List.length_drop, hl]; omega) h
  rw [hp] at h1
  refine ⟨h1, ?_⟩
  have hp2 : (pre ++ xs.take i ++ xs.drop j).length = pre.length + (i + (xs.length - j)) := by rw [List.length_append, hp, hl]; omega
  have h2 := Arr.setCells (List.replicate (j - i) (.string ⟨#[]⟩)) _ (pre ++ xs.take i ++ xs.drop j) (xs.drop (i + (xs.length - j))) post (by rw [List.length_drop, List.length_replicate]; omega) (by rw [← List.append_assoc] at h1; exact h1)
  rw [hp2] at h2
  simp only [List.append_assoc] at h2 ⊢
  exact h2
end Go.Proofs.Ytfbpjdjajecajaa
