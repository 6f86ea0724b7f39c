/- How a row of whatever elements that came in is opened. -/
import Derived.Test.YthhildeocedpiaaDoorKinds
import Derived.Test.YthhildeocedpiaaDoorFrame
import Derived.Deep.Slices
import Derived.Lib.SmallJoins
namespace Go.Proofs.YthhildeocedpiaaDoor
open Go.ChangeShapes Go.WideShapes Go.ChangeAt Go.RowKit Go.Joins Go.Deep
set_option linter.unusedVariables false

/-- How a row reads, its elements as Q says. -/
def RowD {H α : Type} (Q : DataW H → α → Prop) (d : DataW H) (l : List α) : Prop :=
  (d = .nil ∧ l = []) ∨ ∃ (ds rest : List (DataW H)), d = .slice ds rest ∧ ds.length = l.length ∧ ∀ (i : Nat) (y : DataW H) (x : α), ds[i]? = some y → l[i]? = some x → Q y x

set_option maxRecDepth 100000 in
theorem open_row {α : Type} [Inhabited α] (K : Kind α) {H : Type} {enc : TypeId × Value → H} {W : World} {T E : TypeId} (Q : DataW H → α → Prop) (hT : Tryd.prog.underlying T = some (.slice E)) (hE : Tryd.prog.cellsOf E = K.n)
    (opens : ∀ {fuel cs y}, DataW.trod enc Tryd.prog W 0 (fun _ => true) true fuel E cs = some y → ∃ x : α, cs = K.c x ∧ K.At W x ∧ Q y.1 x)
    {fuel : Nat} {a : Option Addr} {len cap : Nat} {y : DataW H × List MemPlace} (hf : DataW.trod enc Tryd.prog W 0 (fun _ => true) true fuel T [.slice a len cap] = some y) :
    ∃ l : List α, l.length = len ∧ RowAt K W a l ∧ (a = none → cap = 0) ∧ len ≤ maxLen ∧ RowD Q y.1 l := by
  rcases open_slice hT hf with ⟨hcs, hx⟩ | ⟨x, l, c, m, n, D, Pl, hcs, _, hl, hm, hmm, hx, hc⟩
  · simp at hcs
    obtain ⟨rfl, rfl, rfl⟩ := hcs
    exact ⟨[], rfl, nil_row _ _, fun _ => rfl, Nat.zero_le _, Or.inl ⟨by rw [hx], rfl⟩⟩
  · simp at hcs
    obtain ⟨rfl, rfl, rfl⟩ := hcs
    simp at hmm
    subst hmm
    have hall : ∀ i : Nat, ∃ q : α, i < len → (∀ j v, (K.c q)[j]? = some v → W.cell? (x.add (i * K.n + j)) = some v) ∧ K.At W q ∧ Q (D i) q := by
      intro i
      by_cases hi : i < len
      · obtain ⟨cs', h1, h2⟩ := hc i (by omega)
        rw [hE] at h1
        obtain ⟨_, hlen, hcell⟩ := World.cells?_some h1
        obtain ⟨q, rfl, q2, q3⟩ := opens h2
        refine ⟨q, fun _ => ⟨fun j v hv => ?_, q2, q3⟩⟩
        have hj : j < (K.c q).length := (List.getElem?_eq_some_iff.1 hv).1
        have := hcell j (by rw [K.len] at hj; exact hj)
        rw [add_add] at this
        rw [this, hv]
      · exact ⟨default, fun h => absurd h hi⟩
    obtain ⟨Y, hY⟩ := Classical.axiomOfChoice hall
    have hc0 : ∀ q : α, ∃ v, (K.c q)[0]? = some v := fun q => ⟨(K.c q)[0]'(by rw [K.len]; exact K.pos), List.getElem?_eq_getElem _⟩
    refine ⟨(List.range len).map Y, by simp, ⟨?_, ?_⟩, (fun h => by cases h), by omega, Or.inr ⟨_, _, by rw [hx], by simp, ?_⟩⟩
    · intro i q hq
      have hi : i < len := by
        by_cases hi : i < len
        · exact hi
        · rw [List.getElem?_eq_none (by simp; omega)] at hq
          cases hq
      obtain rfl : Y i = q := by simpa [hi] using hq
      obtain ⟨c0, q2, _⟩ := hY i hi
      obtain ⟨b, off, spot⟩ := x
      obtain ⟨v0, hv0⟩ := hc0 (Y 0)
      have hz := (hY 0 (by omega)).1 0 _ hv0
      have hspot : spot = none := by simpa [Addr.add] using World.cell?_spot hz
      subst hspot
      obtain ⟨v1, hv1⟩ := hc0 (Y i)
      have hb0 := c0 0 _ hv1
      rw [Go.WideShapes.add_plain] at hb0
      refine ⟨b, off, rfl, World.block_lt_of_cell? W _ hb0, fun j v hv => ?_⟩
      have := c0 j v hv
      rw [Go.WideShapes.add_plain] at this
      rw [← this, Nat.add_assoc]
    · intro q hq
      obtain ⟨i, hi, rfl⟩ := List.mem_map.1 hq
      exact (hY i (by simpa using hi)).2.1
    · intro i y' q hy hq
      have hi : i < len := by
        by_cases hi : i < len
        · exact hi
        · rw [List.getElem?_eq_none (by simp; omega)] at hq
          cases hq
      obtain rfl : Y i = q := by simpa [hi] using hq
      obtain rfl : D i = y' := by simpa [hi] using hy
      exact (hY i hi).2.2

theorem weightsAll_of {H : Type} {P : Program} {e : TypeId} : ∀ {l : List (DataW H)} {d : DataW H}, d ∈ l → ∀ n ∈ d.weights P e, n ∈ DataW.weightsAll P e l
  | [], d, h, _, _ => by cases h
  | x :: r, d, h, n, hn => by
    rw [List.mem_cons] at h
    rw [DataW.weightsAll, List.mem_append]
    rcases h with rfl | h
    · exact Or.inl hn
    · exact Or.inr (weightsAll_of h n hn)

theorem weights_of {H : Type} {P : Program} {ts : List TypeId} {ds : List (DataW H)} (h : (DataW.weightsEach P ts ds).all (· ≤ reachBytes) = true) {j : Nat} {t : TypeId} {d : DataW H} (ht : ts[j]? = some t) (hd : ds[j]? = some d) : ∀ n ∈ d.weights P t, n ≤ reachBytes :=
  fun n hn => by simpa using List.all_eq_true.1 h n (DataW.weights_mem_each ht hd n hn)

/-- The sizes of a row's elements, and of the row. -/
theorem RowD.fit {H α : Type} {Q : DataW H → α → Prop} {d : DataW H} {l : List α} (hd : RowD Q d l) {T E : TypeId} (hT : Tryd.prog.underlying T = some (.slice E)) (h : ∀ n ∈ d.weights Tryd.prog T, n ≤ reachBytes) :
    l.length * Tryd.prog.bytesOf E ≤ reachBytes ∧ ∀ x ∈ l, ∃ y, Q y x ∧ ∀ n ∈ y.weights Tryd.prog E, n ≤ reachBytes := by
  rcases hd with ⟨rfl, rfl⟩ | ⟨ds, rest, rfl, hl, hq⟩
  · simp
  · refine ⟨?_, fun x hx => ?_⟩
    · have := h ((ds.length + rest.length) * Tryd.prog.bytesOf E) (by simp [DataW.weights, hT])
      rw [← hl]
      exact Nat.le_trans (Nat.mul_le_mul_right _ (by omega)) this
    · obtain ⟨i, hi⟩ := List.getElem?_of_mem hx
      have hi' : i < ds.length := by have := (List.getElem?_eq_some_iff.1 hi).1; omega
      refine ⟨ds[i], hq i ds[i] x (List.getElem?_eq_getElem hi') hi, fun n hn => h n ?_⟩
      rw [DataW.weights, hT]
      simp only [List.mem_cons, List.mem_append]
      exact Or.inr (Or.inl (weightsAll_of (List.getElem_mem hi') n hn))

theorem bulk_part {H : Type} {d : DataW H} : ∀ {l : List (DataW H)}, d ∈ l → Rows.uptoBulk d ≤ Rows.uptoBulkAll l
  | [], h => by cases h
  | x :: r, h => by
    simp only [Rows.uptoBulkAll]
    rcases List.mem_cons.1 h with e | e
    · subst e; omega
    · have := bulk_part e; omega

theorem bulk_all {H α : Type} {Q : DataW H → α → Prop} {size : α → Nat} (hq : ∀ y x, Q y x → size x ≤ Rows.uptoBulk y) : ∀ (ds : List (DataW H)) (l : List α), ds.length = l.length → (∀ (i : Nat) (y : DataW H) (x : α), ds[i]? = some y → l[i]? = some x → Q y x) → (l.map size).sum ≤ Rows.uptoBulkAll ds
  | [], [], _, _ => by simp
  | [], x :: l, h, _ => by simp at h
  | d :: ds, [], h, _ => by simp at h
  | d :: ds, x :: l, h, hQ => by
    have ih := bulk_all hq ds l (by simpa using h) (fun i y z hy hz => hQ (i + 1) y z (by simpa using hy) (by simpa using hz))
    have h0 := hq d x (hQ 0 d x rfl rfl)
    simp only [List.map_cons, List.sum_cons, Rows.uptoBulkAll]
    omega

/-- The bulk of a row. -/
theorem RowD.bulk {H α : Type} {Q : DataW H → α → Prop} {d : DataW H} {l : List α} (hd : RowD Q d l) {size : α → Nat} (hq : ∀ y x, Q y x → size x ≤ Rows.uptoBulk y) : (l.map size).sum + 1 ≤ Rows.uptoBulk d := by
  rcases hd with ⟨rfl, rfl⟩ | ⟨ds, rest, rfl, hl, hQ⟩
  · simp [Rows.uptoBulk]
  · have := bulk_all hq ds l hl hQ
    simp only [Rows.uptoBulk]
    omega
end Go.Proofs.YthhildeocedpiaaDoor
