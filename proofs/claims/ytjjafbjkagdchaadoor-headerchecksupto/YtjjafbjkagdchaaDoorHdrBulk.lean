/- What the bound of the second form gives of a header that came in. -/
import Derived.Test.YtjjafbjkagdchaaDoorHeaderChecksWalk
import Derived.Test.YtjjafbjkagdchaaDoorUpto
namespace Go.Proofs.YtjjafbjkagdchaaDoor
open Go.ChangeShapes Go.WideShapes Go.ChangeAt Go.RowKit
set_option linter.unusedVariables false

/-- What a Ref holds. -/
def refBulk (r : RefM) : Nat := r.digest.size + 1 + tagsBulk r.acks

theorem refQ_bulk {H : Type} (y : DataW H) (r : RefM) (h : RefQ y r) : refBulk r ≤ Rows.uptoBulk y := by
  obtain ⟨y0, y1, rfl, h0, h1⟩ := h
  have q0 := h0.bulk
  have q1 := h1.bulk tagQ_bulk
  simp only [Rows.uptoBulk, Rows.uptoBulkAll, refBulk, tagsBulk]
  omega

def refsBulk (l : List RefM) : Nat := (l.map refBulk).sum

theorem refsBulk_len : ∀ (l : List RefM), l.length ≤ refsBulk l
  | [] => by simp
  | r :: l => by
    have := refsBulk_len l
    simp only [refsBulk, refBulk, List.map_cons, List.sum_cons, List.length_cons] at this ⊢
    omega

theorem refsBulk_mem : ∀ {l : List RefM} {r : RefM}, r ∈ l → refBulk r ≤ refsBulk l
  | [], r, h => by cases h
  | x :: l, r, h => by
    simp only [refsBulk, List.map_cons, List.sum_cons]
    rcases List.mem_cons.1 h with rfl | h
    · omega
    · have := refsBulk_mem h
      simp only [refsBulk] at this
      omega

theorem refs_flat_le : ∀ (l : List RefM), ((rd l).flatMap refB).length ≤ 36 * refsBulk l
  | [] => by simp [rd]
  | r :: l => by
    have ih := refs_flat_le l
    have h1 := txt_len_le r.digest.data.toList
    have h2 := tagsB_len_le r.acks
    have h3 : r.digest.data.toList.length = r.digest.size := by simp
    have e : (rd (r :: l)).flatMap refB = refB r.d ++ (rd l).flatMap refB := by simp [rd]
    have e2 : refB r.d = txt r.digest.data.toList ++ tagsB r.acks := rfl
    rw [e, List.length_append, e2, List.length_append]
    simp only [refsBulk, refBulk, List.map_cons, List.sum_cons] at ih ⊢
    omega

theorem hdr_bulk {H : Type} {d : DataW H} {x : HdrM} (h : HdrQ d x) (hk : Rows.uptoBulk d ≤ 1048576) : x.Lens ∧ x.Fit ∧ (encH x.d).length ≤ 1073741824 := by
  obtain ⟨y0, y1, y2, y3, rfl, h2, h3⟩ := h
  have q2 := h2.bulk refQ_bulk
  have q3 := h3.bulk StrQ.bulk
  simp only [Rows.uptoBulk, Rows.uptoBulkAll] at hk
  have b2 : refsBulk x.refs ≤ 1048576 := by unfold refsBulk; omega
  have b3 : strsBulk x.parents ≤ 1048576 := by unfold strsBulk; omega
  have l2 := refsBulk_len x.refs
  have l3 := strsBulk_length x.parents
  have la : ∀ r ∈ x.refs, tagsBulk r.acks ≤ 1048576 := fun r hr => by
    have := refsBulk_mem hr
    unfold refBulk at this
    omega
  have f2 := refs_flat_le x.refs
  have f3 := lst_bulk x.parents
  have g0 := goInt_length x.author
  have g1 := goInt_length x.round
  have g2 := goInt_length ((rd x.refs).length : Int)
  have hl : (encH x.d).length ≤ 1073741824 := by
    show (goInt x.author ++ goInt x.round ++ goInt ((rd x.refs).length : Int) ++ (rd x.refs).flatMap refB ++ lst (bl x.parents)).length ≤ _
    simp only [List.length_append]
    omega
  refine ⟨⟨by omega, by omega, fun r hr => ?_⟩, ⟨by omega, by omega, fun r hr => ?_, fun r hr t ht => ?_, by omega⟩, hl⟩
  · have := la r hr; have := tagsBulk_len r.acks; omega
  · have := la r hr; have := tagsBulk_len r.acks; omega
  · have := la r hr; have := tagsBulk_mem ht; omega
end Go.Proofs.YtjjafbjkagdchaaDoor
