/- Rows of pointers to records that lie apart: whatever the records are. -/
import Derived.Test.YtfbpjdjajecajaaRowsMore
namespace Go.Proofs.Ytfbpjdjajecajaa
open Go Go.RowKit
set_option linter.unusedVariables false

/-- Pointers to whole objects. -/
def ptrP : Kind Nat where
  n := 1
  c b := [.pointer (some ⟨b, 0, none⟩)]
  foot _ _ := False
  At _ _ := True
  pos := by decide
  len _ := rfl
  one x u hu := by
    simp only [List.mem_cons, List.not_mem_nil, or_false] at hu
    rcases hu with rfl; rfl
  lt _ h := h.elim
  keep _ _ := trivial

theorem RowAt.pointer {w : World} {ao : Option Addr} {l : List Nat} (h : RowAt ptrP w ao l) {i : Nat} {x : Nat} (hx : l[i]? = some x) : ∃ g off, ao = some ⟨g, off, none⟩ ∧ g < w.heap.size ∧ w.cell? ⟨g, off + i, none⟩ = some (.pointer (some ⟨x, 0, none⟩)) := by
  obtain ⟨g, off, h1, h2, h3⟩ := h.cell i x hx
  have := h3 0 _ rfl
  simp only [show ptrP.n = 1 from rfl, Nat.mul_one, Nat.add_zero] at this
  exact ⟨g, off, h1, h2, this⟩

theorem new_ptrP (w : World) (T : TypeId) (x : Nat) : ∀ j u, (ptrP.c x)[j]? = some u → (w.alloc (.cells #[.pointer (some ⟨x, 0, none⟩)] T)).cell? ((⟨w.heap.size, 0, none⟩ : Addr).add j) = some u := by
  intro j u hu
  rw [Go.WideShapes.add_plain, Nat.zero_add]
  exact (Arr.new w T [.pointer (some ⟨x, 0, none⟩)]).cell hu

/-- A kind of records that are pointed to: their type, their block, their cells, what they reach besides. -/
structure PtrKind (α : Type) where
  T : TypeId
  rb : α → Nat
  c : α → List Value
  F : α → Nat → Prop
  R : World → α → Prop
  lt : ∀ {w x k}, R w x → F x k → k < w.heap.size
  keep : ∀ {w w' x}, R w x → (∀ b, F x b → w'.heap[b]? = w.heap[b]?) → R w' x

section
variable {α : Type} (K : PtrKind α)

/-- The row q of pointers, the records xs; all of it lies from base on, and apart. -/
structure PRow (TP : TypeId) (w : World) (base : Nat) (q : Value) (xs : List α) : Prop where
  row : KQ ptrP TP w base q (xs.map K.rb)
  box : ∀ x ∈ xs, Arr w (K.rb x) K.T (K.c x)
  at_ : ∀ x ∈ xs, K.R w x
  apart : xs.Pairwise (fun x y => K.rb x ≠ K.rb y)
  off : ∀ x ∈ xs, ∀ y ∈ xs, ¬ K.F x (K.rb y)
  qb : ∀ x ∈ xs, q.ownBlock ≠ some (K.rb x)
  qf : ∀ x ∈ xs, ∀ k, K.F x k → q.ownBlock ≠ some k
  gt : ∀ x ∈ xs, base ≤ K.rb x
  gf : ∀ x ∈ xs, ∀ k, K.F x k → base ≤ k

def PFt (q : Value) (xs : List α) (k : Nat) : Prop := q.ownBlock = some k ∨ ∃ x ∈ xs, k = K.rb x ∨ K.F x k

variable {K} {TP : TypeId} {w w' : World} {base : Nat} {q : Value} {xs : List α}

theorem PRow.empty (w : World) (base : Nat) : PRow K TP w base (.slice none 0 0) [] :=
  ⟨KQ.empty _ _ _ _, fun x hx => (by cases hx), fun x hx => (by cases hx), List.Pairwise.nil, fun x hx => (by cases hx), fun x hx => (by cases hx), fun x hx => (by cases hx), fun x hx => (by cases hx), fun x hx => (by cases hx)⟩

theorem PtrKind.kept {T : Nat → Prop} {x : α} (h : K.R w x) (hk : Kept T w w') (hn : ∀ k, K.F x k → ¬ T k) : K.R w' x := K.keep h (fun b hb => hk.block b (K.lt h hb) (hn b hb))

theorem PRow.kept {T : Nat → Prop} (h : PRow K TP w base q xs) (hk : Kept T w w') (hn : ∀ k, PFt K q xs k → ¬ T k) : PRow K TP w' base q xs :=
  ⟨h.row.kept hk (fun k e => hn k (Or.inl e)) (fun _ _ _ h => h.elim), fun x hx => (h.box x hx).kept hk (hn _ (Or.inr ⟨x, hx, Or.inl rfl⟩)), fun x hx => K.kept (h.at_ x hx) hk (fun k e => hn k (Or.inr ⟨x, hx, Or.inr e⟩)), h.apart, h.off, h.qb, h.qf, h.gt, h.gf⟩

theorem PRow.lt (h : PRow K TP w base q xs) {k : Nat} (hk : PFt K q xs k) : k < w.heap.size := by
  rcases hk with e | ⟨x, hx, rfl | e⟩
  · exact (h.row.lt k e).2
  · exact (h.box x hx).lt
  · exact K.lt (h.at_ x hx) e

theorem PRow.ge (h : PRow K TP w base q xs) {k : Nat} (hk : PFt K q xs k) : base ≤ k := by
  rcases hk with e | ⟨x, hx, rfl | e⟩
  · exact (h.row.lt k e).1
  · exact h.gt x hx
  · exact h.gf x hx k e

theorem PRow.below (h : PRow K TP w base q xs) (hb : Below w.heap.size w w') : PRow K TP w' base q xs :=
  h.kept (Kept.of_below (S := fun k => w.heap.size ≤ k) hb) (fun k hk e => by have := h.lt hk; have e' : w.heap.size ≤ k := e; omega)

/-- A record turns. -/
theorem PRow.put (h : PRow K TP w base q xs) {i : Nat} {x y : α} (hx : xs[i]? = some x) (hrb : K.rb y = K.rb x) (hF : ∀ k, K.F y k ↔ K.F x k) (hR : ∀ w, K.R w x → K.R w y) {k : Nat} {v : Value} (hc : K.c y = (K.c x).set k v) : PRow K TP (w.setCell ⟨K.rb x, k, none⟩ v) base q (xs.set i y) ∧ Kept (fun b => b = K.rb x) w (w.setCell ⟨K.rb x, k, none⟩ v) := by
  have hk := Kept.setCell w ⟨K.rb x, k, none⟩ v
  have hm := List.mem_of_getElem? hx
  have hi := (List.getElem?_eq_some_iff.1 hx).1
  have hmap : (xs.set i y).map K.rb = xs.map K.rb := by
    rw [List.map_set, hrb]
    have hil : i < (xs.map K.rb).length := by rw [List.length_map]; exact hi
    have e : (xs.map K.rb)[i] = K.rb x := by
      have : (xs.map K.rb)[i]? = some (K.rb x) := by rw [List.getElem?_map, hx]; rfl
      rw [List.getElem?_eq_getElem hil] at this
      exact Option.some.inj this
    rw [← e]
    exact List.set_getElem_self hil
  have hmem : ∀ z ∈ xs.set i y, ∃ z' ∈ xs, K.rb z = K.rb z' ∧ ∀ k, K.F z k ↔ K.F z' k := fun z hz => by
    rcases List.mem_or_eq_of_mem_set hz with hz | rfl
    · exact ⟨z, hz, rfl, fun _ => Iff.rfl⟩
    · exact ⟨x, hm, hrb, hF⟩
  have hoff : ∀ z ∈ xs, ∀ b, K.F z b → ¬ b = K.rb x := fun z hz b hb e => h.off z hz x hm (by rw [← e]; exact hb)
  have hat : ∀ z ∈ xs.set i y, Arr (w.setCell ⟨K.rb x, k, none⟩ v) (K.rb z) K.T (K.c z) ∧ K.R (w.setCell ⟨K.rb x, k, none⟩ v) z := fun z hz => by
    rcases List.mem_iff_getElem?.1 hz with ⟨j, hj⟩
    by_cases hij : i = j
    · subst hij
      rw [List.getElem?_set_self hi] at hj
      obtain rfl := Option.some.inj hj
      refine ⟨?_, hR _ (K.kept (h.at_ x hm) hk (fun b hb e => hoff x hm b hb e))⟩
      rw [hrb, hc]
      exact (h.box x hm).set k v
    · rw [List.getElem?_set_ne hij] at hj
      have hzm := List.mem_of_getElem? hj
      refine ⟨(h.box z hzm).kept hk (fun e => ?_), K.kept (h.at_ z hzm) hk (fun b hb e => hoff z hzm b hb e)⟩
      have e' : K.rb z = K.rb x := e
      have hjl := (List.getElem?_eq_some_iff.1 hj).1
      have hp := List.pairwise_iff_getElem.1 h.apart
      rw [List.getElem?_eq_getElem hi] at hx
      rw [List.getElem?_eq_getElem hjl] at hj
      have e1 := Option.some.inj hx
      have e2 := Option.some.inj hj
      rcases Nat.lt_or_gt_of_ne hij with hlt | hlt
      · exact hp i j hi hjl hlt (by rw [e1, e2, e'])
      · exact hp j i hjl hi hlt (by rw [e1, e2, e'])
  refine ⟨⟨?_, fun z hz => (hat z hz).1, fun z hz => (hat z hz).2, ?_, ?_, ?_, ?_, ?_, ?_⟩, hk⟩
  · rw [hmap]
    exact h.row.kept hk (fun b hb e => h.qb x hm (by rw [← show b = K.rb x from e]; exact hb)) (fun _ _ _ h => h.elim)
  · have : ((xs.set i y).map K.rb).Pairwise (fun a b => a ≠ b) := by rw [hmap, List.pairwise_map]; exact h.apart
    rw [List.pairwise_map] at this
    exact this
  · intro a ha b hb e
    obtain ⟨a', ha', _, hFa⟩ := hmem a ha
    obtain ⟨b', hb', hbb, _⟩ := hmem b hb
    rw [hbb] at e
    exact h.off a' ha' b' hb' ((hFa _).1 e)
  · intro a ha
    obtain ⟨a', ha', haa, _⟩ := hmem a ha
    rw [haa]; exact h.qb a' ha'
  · intro a ha k hk
    obtain ⟨a', ha', _, hFa⟩ := hmem a ha
    exact h.qf a' ha' k ((hFa k).1 hk)
  · intro a ha
    obtain ⟨a', ha', haa, _⟩ := hmem a ha
    rw [haa]; exact h.gt a' ha'
  · intro a ha k hk
    obtain ⟨a', ha', _, hFa⟩ := hmem a ha
    exact h.gf a' ha' k ((hFa k).1 hk)

/-- Other pointers, in a row that is new: of records that were there, and of new ones y. -/
theorem PRow.anew (h : PRow K TP w base q xs) (hb : Below w.heap.size w w') {q' : Value} {ys zs : List α} (hQ : KQ ptrP TP w' w.heap.size q' (zs.map K.rb)) (hz : ∀ z ∈ zs, z ∈ xs ∨ z ∈ ys) (hap : zs.Pairwise (fun x y => K.rb x ≠ K.rb y))
    (hbox : ∀ y ∈ ys, Arr w' (K.rb y) K.T (K.c y)) (hat : ∀ y ∈ ys, K.R w' y) (hge : ∀ y ∈ ys, w.heap.size ≤ K.rb y) (hgf : ∀ y ∈ ys, ∀ k, K.F y k → w.heap.size ≤ k) (hoff : ∀ y ∈ ys, ∀ z ∈ ys, ¬ K.F y (K.rb z)) (hq1 : ∀ y ∈ ys, q'.ownBlock ≠ some (K.rb y)) (hq2 : ∀ y ∈ ys, ∀ k, K.F y k → q'.ownBlock ≠ some k) (hB : base ≤ w.heap.size) : PRow K TP w' base q' zs := by
  have h' := h.below hb
  have hown : ∀ k, q'.ownBlock = some k → w.heap.size ≤ k := fun k e => (hQ.lt k e).1
  refine ⟨hQ.rebase hB, fun z hzm => ?_, fun z hzm => ?_, hap, fun a ha b hb' e => ?_, fun z hzm e => ?_, fun z hzm k hf e => ?_, fun z hzm => ?_, fun z hzm k hf => ?_⟩
  · exact (hz z hzm).elim (fun m => h'.box z m) (fun m => hbox z m)
  · exact (hz z hzm).elim (fun m => h'.at_ z m) (fun m => hat z m)
  · rcases hz a ha with ma | ma <;> rcases hz b hb' with mb | mb
    · exact h.off a ma b mb e
    · have := K.lt (h.at_ a ma) e
      have := hge b mb
      omega
    · have := hgf a ma _ e
      have := (h.box b mb).lt
      omega
    · exact hoff a ma b mb e
  · rcases hz z hzm with m | m
    · have := hown _ e
      have := (h.box z m).lt
      omega
    · exact hq1 z m e
  · rcases hz z hzm with m | m
    · have := hown _ e
      have := K.lt (h.at_ z m) hf
      omega
    · exact hq2 z m k hf e
  · exact (hz z hzm).elim (fun m => h.gt z m) (fun m => Nat.le_trans hB (hge z m))
  · exact (hz z hzm).elim (fun m => h.gf z m k hf) (fun m => Nat.le_trans hB (hgf z m k hf))
end
end Go.Proofs.Ytfbpjdjajecajaa
