/- A header's bytes, cut off anywhere, are too short. -/
import Derived.Test.YtjjafbjkagdchaaDoorHeaderMath
namespace Go.Proofs.YtjjafbjkagdchaaDoor
open Go.RowKit
set_option linter.unusedVariables false

theorem take_lt {c r : List UInt8} {j : Nat} (h : j < c.length) : (c ++ r).take j = c.take j := by
  rw [List.take_append_of_le_length (by omega)]

theorem take_ge {c r : List UInt8} {j : Nat} (h : c.length ≤ j) : (c ++ r).take j = c ++ r.take (j - c.length) := by
  rw [List.take_append, List.take_of_length_le h]

section
variable {α : Type}

theorem rdI_cut {f : Nat → List UInt8 → Except Nat α} (n : Nat) (r : List UInt8) (j : Nat) (hn : n ≤ 4611686018427387903) (hj : j < (enc n ++ r).length) (hr : ∀ i, i < r.length → f n (r.take i) = .error 1) : rdI ((enc n ++ r).take j) f = .error 1 := by
  by_cases h : j < (enc n).length
  · rw [take_lt h, rdI_err (getInt_cut n j hn h) (by decide)]
  · rw [take_ge (by omega), rdI_enc n _ hn, hr _ (by rw [List.length_append] at hj; omega)]

theorem rdT_cut {f : List UInt8 → List UInt8 → Except Nat α} (t r : List UInt8) (j : Nat) (ht : t.length ≤ 65536) (hj : j < (txt t ++ r).length) (hr : ∀ i, i < r.length → f t (r.take i) = .error 1) : rdT ((txt t ++ r).take j) f = .error 1 := by
  by_cases h : j < (txt t).length
  · rw [take_lt h, rdT_err (getText_cut t j ht h) (by decide)]
  · rw [take_ge (by omega), rdT_txt t _ ht, hr _ (by rw [List.length_append] at hj; omega)]

theorem rdL_cut {f : List (List UInt8) → List UInt8 → Except Nat α} (most : Int) (ts : List (List UInt8)) (r : List UInt8) (j : Nat) (ht : ∀ t ∈ ts, t.length ≤ 65536) (hn : ts.length ≤ 4611686018427387903) (hm : (ts.length : Int) ≤ most) (hj : j < (lst ts ++ r).length) (hr : ∀ i, i < r.length → f ts (r.take i) = .error 1) : rdL most ((lst ts ++ r).take j) f = .error 1 := by
  by_cases h : j < (lst ts).length
  · rw [take_lt h, rdL_err (getList_cut ts most j ht hn hm h) (by decide)]
  · rw [take_ge (by omega), rdL_lst most ts _ ht hn hm, hr _ (by rw [List.length_append] at hj; omega)]

theorem getTags_cut (l : List TagD) (j : Nat) (h : ∀ t ∈ l, t.Fit) (hl : l.length ≤ 7) (hj : j < (tagsB l).length) : getTagsL ((tagsB l).take j) = ([], 0, 1) := by
  have hg : getList ((tagsB l).take j) 7 = ([], 0, 1) := getList_cut (l.map tagB) 7 j (by
    intro t ht
    obtain ⟨x, hx, rfl⟩ := List.mem_map.1 ht
    have := tagB_len (h x hx)
    omega) (by rw [List.length_map]; omega) (by rw [List.length_map]; omega) hj
  unfold getTagsL
  rw [hg, if_pos (by decide)]

theorem rdG_cut {f : List TagD → List UInt8 → Except Nat α} (l : List TagD) (r : List UInt8) (j : Nat) (h : ∀ t ∈ l, t.Fit) (hl : l.length ≤ 7) (hj : j < (tagsB l ++ r).length) (hr : ∀ i, i < r.length → f l (r.take i) = .error 1) : rdG ((tagsB l ++ r).take j) f = .error 1 := by
  by_cases hc : j < (tagsB l).length
  · rw [take_lt hc, rdG_err (getTags_cut l j h hl hc) (by decide)]
  · rw [take_ge (by omega), rdG_tags l _ h hl, hr _ (by rw [List.length_append] at hj; omega)]

theorem rdRefs_cut : ∀ (rs : List RefD) (r : List UInt8) (f : List RefD → List UInt8 → Except Nat α) (j : Nat), (∀ x ∈ rs, x.Fit) → j < (rs.flatMap refB ++ r).length → (∀ i, i < r.length → f rs (r.take i) = .error 1) → rdRefs rs.length ((rs.flatMap refB ++ r).take j) f = .error 1
  | [], r, f, j, _, hj, hr => by
    simp only [List.flatMap_nil, List.nil_append] at hj ⊢
    exact hr j hj
  | x :: rs, r, f, j, h, hj, hr => by
    have hx := h x (by simp)
    have hd : x.digest.data.toList.length ≤ 65536 := by have := hx.dig; simpa using this
    have e : (x :: rs).flatMap refB ++ r = txt x.digest.data.toList ++ (tagsB x.acks ++ (rs.flatMap refB ++ r)) := by
      rw [List.flatMap_cons, refB]
      simp only [List.append_assoc]
    rw [e] at hj ⊢
    rw [List.length_cons, rdRefs]
    refine rdT_cut _ _ j hd hj (fun i hi => ?_)
    refine rdG_cut _ _ i hx.all hx.few hi (fun i2 hi2 => ?_)
    refine rdRefs_cut rs r _ i2 (fun y hy => h y (by simp [hy])) hi2 (fun i3 hi3 => ?_)
    rw [mk_list]
    exact hr i3 hi3
end

theorem decH_cut {h : HdrD} (hf : h.Fit) (j : Nat) (hj : j < (encH h).length) : decH ((encH h).take j) = .error 1 := by
  obtain ⟨a, ha⟩ := Int.eq_ofNat_of_zero_le hf.a0
  obtain ⟨n, hn⟩ := Int.eq_ofNat_of_zero_le hf.r0
  have h1 := hf.a6
  have h2 := hf.rM
  have h3 := hf.few
  have h4 := hf.ps
  have e : encH h = enc a ++ (enc n ++ (enc h.refs.length ++ (h.refs.flatMap refB ++ (lst (bl h.parents) ++ [])))) := by
    unfold encH
    rw [ha, hn, goInt_nat a (by omega), goInt_nat n (by omega), goInt_nat h.refs.length (by omega)]
    simp only [List.append_assoc, List.append_nil]
  rw [e] at hj ⊢
  unfold decH rdH
  refine rdI_cut a _ j (by omega) hj (fun i hi => ?_)
  refine rdI_cut n _ i (by omega) hi (fun i hi => ?_)
  refine rdI_cut h.refs.length _ i (by omega) hi (fun i hi => ?_)
  rw [if_neg (by omega)]
  refine rdRefs_cut h.refs _ _ i hf.refs hi (fun i hi => ?_)
  refine rdL_cut 7 _ _ i ?_ (by simp [bl]; omega) (by simp [bl]; omega) hi (fun i hi => by simp at hi)
  intro t ht
  obtain ⟨p, hp, rfl⟩ := List.mem_map.1 ht
  have := hf.pz p hp
  simpa using this
end Go.Proofs.YtjjafbjkagdchaaDoor
