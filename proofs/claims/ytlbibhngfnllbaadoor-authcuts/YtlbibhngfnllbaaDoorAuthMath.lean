/- Which rows of tags are enough, in plain mathematics. -/
import Derived.Test.YtlbibhngfnllbaaDoorAuthTagList
namespace Go.Proofs.YtlbibhngfnllbaaDoor

/-- A validator's own tag. -/
def tagOf (ks : List ByteArray) (kind word : ByteArray) (i : Nat) : Int × ByteArray := ((i : Int), macOf (ks.getD i ⟨#[]⟩) kind word)

theorem tagErr_own {ks : List ByteArray} {kind word : ByteArray} {ahead : Int} {i : Nat} (hi : i < ks.length) (ha : ahead < (i : Int)) : tagErr ks kind word ahead (tagOf ks kind word i) = 0 := by
  unfold tagErr tagOf
  simp only
  rw [if_neg (by omega), if_neg (by omega), Int.toNat_natCast, if_pos rfl]

theorem go_rising {ks : List ByteArray} {kind word : ByteArray} : ∀ (l : List Nat) (ahead : Int), (∀ i ∈ l, i < ks.length) → (∀ i ∈ l, ahead < (i : Int)) → l.Pairwise (· < ·) → enoughGo ks kind word ahead (l.map (tagOf ks kind word)) = 0
  | [], _, _, _, _ => rfl
  | i :: l, ahead, h1, h2, h3 => by
    rw [List.map_cons, enoughGo, if_pos (tagErr_own (h1 i (by simp)) (h2 i (by simp)))]
    rw [List.pairwise_cons] at h3
    exact go_rising l _ (fun j hj => h1 j (by simp [hj])) (fun j hj => by have := h3.1 j hj; show (i : Int) < (j : Int); omega) h3.2

theorem enough_rising {ks : List ByteArray} {kind word : ByteArray} (f : Nat) (l : List Nat) (h1 : ∀ i ∈ l, i < ks.length) (h3 : l.Pairwise (· < ·)) : enoughL ks f kind word (l.map (tagOf ks kind word)) = if l.length < 2 * f + 1 then 12 else 0 := by
  unfold enoughL
  rw [go_rising l (-1) h1 (fun i _ => by omega) h3, if_pos rfl, List.length_map]

/-- Behind a row that rises, a tag that doesn't. -/
theorem go_breaks {ks : List ByteArray} {kind word : ByteArray} (x : Int × ByteArray) (rest : List (Int × ByteArray)) (hx : 0 ≤ x.1 ∧ x.1 < (ks.length : Int)) : ∀ (l : List Nat) (ahead : Int) (z : Nat), (∀ i ∈ l, i < ks.length) → (∀ i ∈ l, ahead < (i : Int)) → l.Pairwise (· < ·) → (l.getLast? = some z ∧ x.1 ≤ (z : Int)) → enoughGo ks kind word ahead (l.map (tagOf ks kind word) ++ x :: rest) = 9
  | [], _, _, _, _, _, h => by simp at h
  | [i], ahead, z, h1, h2, h3, h => by
    obtain ⟨hz, hxz⟩ := h
    simp at hz
    subst hz
    rw [List.map_cons, List.map_nil, List.cons_append, enoughGo, if_pos (tagErr_own (h1 i (by simp)) (h2 i (by simp))), List.nil_append, enoughGo]
    have : tagErr ks kind word (tagOf ks kind word i).1 x = 9 := by
      unfold tagErr
      rw [if_neg (by omega), if_pos (by exact hxz)]
    rw [this, if_neg (by decide)]
  | i :: j :: l, ahead, z, h1, h2, h3, h => by
    rw [List.map_cons, List.cons_append, enoughGo, if_pos (tagErr_own (h1 i (by simp)) (h2 i (by simp)))]
    rw [List.pairwise_cons] at h3
    exact go_breaks x rest hx (j :: l) _ z (fun k hk => h1 k (by simp [hk])) (fun k hk => by have := h3.1 k hk; show (i : Int) < (k : Int); omega) h3.2 ⟨by simpa using h.1, h.2⟩

theorem enough_breaks {ks : List ByteArray} {kind word : ByteArray} (f : Nat) (l : List Nat) (z : Nat) (x : Int × ByteArray) (rest : List (Int × ByteArray)) (hx : 0 ≤ x.1 ∧ x.1 < (ks.length : Int)) (h1 : ∀ i ∈ l, i < ks.length) (h3 : l.Pairwise (· < ·)) (h : l.getLast? = some z ∧ x.1 ≤ (z : Int)) :
    enoughL ks f kind word (l.map (tagOf ks kind word) ++ x :: rest) = 9 := by
  unfold enoughL
  rw [go_breaks x rest hx l (-1) z h1 (fun i _ => by omega) h3 h, if_neg (by decide)]

/-- The first tag is of another word. -/
theorem enough_wrong {ks : List ByteArray} {kind word : ByteArray} (f i : Nat) (mac : ByteArray) (rest : List (Int × ByteArray)) (hi : i < ks.length) (hm : ¬ mac = macOf (ks.getD i ⟨#[]⟩) kind word) :
    enoughL ks f kind word (((i : Int), mac) :: rest) = 10 := by
  have ht : tagErr ks kind word (-1) ((i : Int), mac) = 10 := by
    unfold tagErr
    simp only
    rw [if_neg (by omega), if_neg (by omega), Int.toNat_natCast, if_neg hm]
  have hgo : enoughGo ks kind word (-1) (((i : Int), mac) :: rest) = 10 := by rw [enoughGo, ht, if_neg (by decide)]
  unfold enoughL
  rw [hgo, if_neg (by decide)]

theorem range_rising (n : Nat) : (List.range n).Pairwise (· < ·) := List.pairwise_lt_range

theorem keysL_getD (seed : ByteArray) (n i : Nat) (h : i < n) : (keysL seed n).getD i ⟨#[]⟩ = keyOf seed i := by simp [keysL, List.getD, h]

set_option maxRecDepth 100000 in
/-- The example's two words: their tags are not the same. -/
theorem other_word : ¬ macOf (keyOf ⟨#[115, 101, 101, 100]⟩ 0) ⟨#[107]⟩ ⟨#[119]⟩ = macOf (keyOf ⟨#[115, 101, 101, 100]⟩ 0) ⟨#[107]⟩ ⟨#[120]⟩ := by
  have h : ¬ (keyedL (keyedL [115, 101, 101, 100] [0]) [1, 107, 119]).take 16 = (keyedL (keyedL [115, 101, 101, 100] [0]) [1, 107, 120]).take 16 := by decide +kernel
  intro e
  apply h
  have e2 := congrArg (fun b : ByteArray => b.data.toList) e
  simp only [macOf, keyOf, bytes, ByteArray.data_extract, Array.toList_extract, List.extract_eq_take_drop] at e2
  exact e2

/-- Two parts of a row. -/
theorem both_le {α : Type} (p q : α → Bool) : ∀ l : List α, (l.filter p).length + (l.filter q).length ≤ (l.filter fun x => p x && q x).length + l.length
  | [] => by simp
  | x :: l => by
    have := both_le p q l
    cases hp : p x <;> cases hq : q x <;> simp [hp, hq] <;> omega
end Go.Proofs.YtlbibhngfnllbaaDoor
