/- Rows of tags that the call itself makes. -/
import Derived.Test.YtlbibhngfnllbaaDoorAuthEnough
namespace Go.Proofs.YtlbibhngfnllbaaDoor
open Go.RowKit Go.Sort
set_option linter.unusedVariables false

/-- The cells of a row of tags. -/
def flatT : List (Int × ByteArray) → List Value
  | [] => []
  | x :: l => .int .i64 x.1 :: .string x.2 :: flatT l

theorem flatT_append : ∀ (a b : List (Int × ByteArray)), flatT (a ++ b) = flatT a ++ flatT b
  | [], _ => rfl
  | x :: a, b => by simp [flatT, flatT_append a b]

theorem flatT_length : ∀ l : List (Int × ByteArray), (flatT l).length = l.length * 2
  | [] => rfl
  | x :: l => by simp only [flatT, List.length_cons, flatT_length l]; omega

theorem flatT_one : ∀ l : List (Int × ByteArray), ∀ u ∈ flatT l, u.oneCell' = true
  | [], u, hu => by simp [flatT] at hu
  | x :: l, u, hu => by
    simp only [flatT, List.mem_cons] at hu
    rcases hu with rfl | rfl | hu
    · rfl
    · rfl
    · exact flatT_one l u hu

theorem flatT_get : ∀ (l : List (Int × ByteArray)) (j : Nat) (x : Int × ByteArray), l[j]? = some x → (flatT l)[j * 2]? = some (.int .i64 x.1) ∧ (flatT l)[j * 2 + 1]? = some (.string x.2)
  | [], j, x, h => by simp at h
  | y :: l, 0, x, h => by
    simp at h
    subst h
    exact ⟨rfl, rfl⟩
  | y :: l, j + 1, x, h => by
    have := flatT_get l j x (by simpa using h)
    rw [show (j + 1) * 2 = j * 2 + 2 by omega]
    exact this

theorem infoTagAll : (Tryd.prog.info? 32).map (fun i => (i.zero, i.size, i.bytes)) = some (some (.agg #[.int .i64 0, .string ⟨#[]⟩]), 2, 24) := by kernel_rfl

theorem own_tags {w : World} {B : Nat} {v : Value} {l : List (Int × ByteArray)} (h : w.ownsRow B 32 2 v l.length (flatT l)) :
    ∃ a cap, v = .slice a l.length cap ∧ TagsAt w a l := by
  rcases h.2 with ⟨rfl, hn⟩ | ⟨g, cap, cur, rfl, _⟩
  · rw [List.length_eq_zero_iff] at hn
    subst hn
    exact ⟨none, 0, rfl, fun j x hj => by simp at hj⟩
  · refine ⟨_, cap, rfl, fun j x hj => ⟨g, 0, rfl, (h.lt g rfl).2, ?_, ?_⟩⟩
    · have := h.cells rfl (j * 2) _ (flatT_get l j x hj).1
      rw [Addr.add_mid] at this
      exact this
    · have := h.cells rfl (j * 2 + 1) _ (flatT_get l j x hj).2
      rw [Addr.add_mid, Nat.zero_add] at this
      rw [Nat.zero_add]
      exact this

/-- The cells of a row that came in. -/
theorem tags_news {w : World} {ad : Addr} {l : List (Int × ByteArray)} (h : TagsAt w (some ad) l) :
    ∀ j u, (flatT l)[j]? = some u → w.cell? (ad.add j) = some u := by
  intro j u hj
  have hlt : j < (flatT l).length := (List.getElem?_eq_some_iff.1 hj).1
  rw [flatT_length] at hlt
  obtain ⟨x, hx⟩ : ∃ x, l[j / 2]? = some x := ⟨_, List.getElem?_eq_getElem (by omega)⟩
  obtain ⟨b, off, hb, _, c0, c1⟩ := h _ x hx
  obtain rfl : ad = ⟨b, off, none⟩ := by simpa using hb
  obtain ⟨g0, g1⟩ := flatT_get l _ x hx
  rw [Addr.add_mid]
  rcases Nat.mod_two_eq_zero_or_one j with hm | hm
  · have e : j = j / 2 * 2 := by omega
    rw [← e] at g0 c0
    rw [hj] at g0
    cases g0
    exact c0
  · have e : j = j / 2 * 2 + 1 := by omega
    rw [← e] at g1
    rw [hj] at g1
    cases g1
    rw [Nat.add_assoc, ← e] at c1
    exact c1
end Go.Proofs.YtlbibhngfnllbaaDoor
