/- slices.Index, slices.Delete and slices.Clone of texts, over rows of the call's own. -/
import Derived.Test.YtbikabjogacfkaaDoorRowsMore
import Derived.Test.YtbikabjogacfkaaDoorTextMath
import Derived.Lib.SliceRun
import Derived.Shelf.RegionOpenPlain
import Derived.Deep.RegionLaw
namespace Go.Proofs.YtbikabjogacfkaaDoor
open Go Go.RowKit
set_option linter.unusedVariables false

theorem flat_texts (l : List ByteArray) : flatK textK l = l.map Value.string := by
  unfold flatK
  induction l with
  | nil => rfl
  | cons x l ih => rw [List.flatMap_cons, List.map_cons, ih]; rfl

/-- Where a text stands. -/
def atT (x : ByteArray) : List ByteArray → Option Nat
  | [] => none
  | y :: r => if y = x then some 0 else (atT x r).map (· + 1)

def idxI (o : Option Nat) : Int := match o with | some i => (i : Int) | none => -1

theorem atT_some {x : ByteArray} : ∀ {l : List ByteArray} {i : Nat}, atT x l = some i → l[i]? = some x ∧ ∀ j y, j < i → l[j]? = some y → ¬ y = x
  | [], i, h => by cases h
  | z :: r, i, h => by
    unfold atT at h
    by_cases e : z = x
    · rw [if_pos e] at h
      simp only [Option.some.injEq] at h
      subst h
      exact ⟨by rw [e]; rfl, fun j y hj => absurd hj (by omega)⟩
    · rw [if_neg e] at h
      obtain ⟨k, hk, rfl⟩ := Option.map_eq_some_iff.1 h
      obtain ⟨h1, h2⟩ := atT_some hk
      refine ⟨by simpa using h1, fun j y hj hy => ?_⟩
      cases j with
      | zero =>
        simp only [List.getElem?_cons_zero, Option.some.injEq] at hy
        subst hy
        exact e
      | succ j => exact h2 j y (by omega) (by simpa using hy)

theorem atT_none {x : ByteArray} {l : List ByteArray} : atT x l = none ↔ ∀ y ∈ l, ¬ y = x := by
  induction l with
  | nil => exact ⟨(fun _ x hx => by cases hx), fun _ => rfl⟩
  | cons z r ih =>
    unfold atT
    by_cases e : z = x
    · rw [if_pos e]
      exact ⟨(fun h => by cases h), fun h => absurd e (h z List.mem_cons_self)⟩
    · rw [if_neg e, Option.map_eq_none_iff, ih]
      constructor
      · intro h y hy
        rcases List.mem_cons.1 hy with rfl | hy
        · exact e
        · exact h y hy
      · exact fun h y hy => h y (List.mem_cons_of_mem _ hy)

theorem RowAt.text {w : World} {ao : Option Addr} {l : List ByteArray} (h : RowAt textK w ao l) {i : Nat} {x : ByteArray} (hx : l[i]? = some x) : ∃ g off, ao = some ⟨g, off, none⟩ ∧ g < w.heap.size ∧ w.cell? ⟨g, off + i, none⟩ = some (.string x) := by
  obtain ⟨g, off, h1, h2, h3⟩ := h.cell i x hx
  have := h3 0 _ rfl
  simp only [show textK.n = 1 from rfl, Nat.mul_one, Nat.add_zero] at this
  exact ⟨g, off, h1, h2, this⟩

set_option maxRecDepth 100000 in
set_option maxHeartbeats 1000000 in
theorem indexS_any (x : ByteArray) (ao : Option Addr) (cap : Nat) (l : List ByteArray) (w : World) (h : RowAt textK w ao l) (hl : l.length ≤ 1000000) :
    Calls Tryd.prog 34 #[.slice ao l.length cap, .string x] w fun e w' => e = .returned (.int .i64 (idxI (atT x l))) ∧ Below w.heap.size w w' := by
  cases hA : atT x l with
  | some i0 =>
    obtain ⟨hx0, hless⟩ := atT_some hA
    have hi0 : i0 < l.length := (List.getElem?_eq_some_iff.1 hx0).1
    have hless' : Hid (∀ (j : Nat) (y : ByteArray), j < i0 → l[j]? = some y → (x.toList == y.toList) = false) := fun j y hj hy => by
      rw [bytes_eq]
      exact decide_eq_false (fun e => hless j y hj hy e.symm)
    have hsame' : Hid (∀ y : ByteArray, l[i0]? = some y → (x.toList == y.toList) = true) := fun y hy => by
      rw [hx0] at hy
      cases hy
      rw [bytes_eq]
      exact decide_eq_true rfl
    clear hx0 hless hA
    go_enter Tryd.func34, Tryd.ntmps34
    go_wp2_with fail
    go_loopw [8] (fun v8 wr => ∃ i : Nat, i ≤ i0 ∧ v8 = .int .i64 (i : Int) ∧ Below w.heap.size w wr) (fun v _ => i0 - (intOf v).toNat)
    case atStart => exact ⟨0, Nat.zero_le _, rfl, Below.refl _ _⟩
    case round =>
      obtain ⟨i, hi, rfl, hb⟩ := hrel
      have hil : i < l.length := by omega
      have g1 : (i : Int) < (l.length : Int) := by omega
      obtain ⟨y, hy⟩ : ∃ y, l[i]? = some y := ⟨_, List.getElem?_eq_getElem hil⟩
      obtain ⟨g, off, rfl, hg, hp⟩ := (h.below hb).text hy
      by_cases hlt : i < i0
      · have he := hless'.out i y hlt hy
        clear hy
        go_wp2
        go_roundw
        case rel => exact ⟨i + 1, by omega, by go_num, hb⟩
        case measure => simp [intOf]; omega
      · obtain rfl : i = i0 := by omega
        have he := hsame'.out y hy
        clear hy
        go_wp2
        go_ret
        exact ⟨rfl, hb⟩
  | none =>
    have hno' : Hid (∀ (j : Nat) (y : ByteArray), l[j]? = some y → (x.toList == y.toList) = false) := fun j y hy => by
      rw [bytes_eq]
      exact decide_eq_false (fun e => atT_none.1 hA y (List.mem_of_getElem? hy) e.symm)
    clear hA
    go_enter Tryd.func34, Tryd.ntmps34
    go_wp2_with fail
    go_loopw [8] (fun v8 wr => ∃ i : Nat, i ≤ l.length ∧ v8 = .int .i64 (i : Int) ∧ Below w.heap.size w wr) (fun v _ => l.length - (intOf v).toNat)
    case atStart => exact ⟨0, Nat.zero_le _, rfl, Below.refl _ _⟩
    case round =>
      obtain ⟨i, hi, rfl, hb⟩ := hrel
      by_cases hil : i < l.length
      · have g1 : (i : Int) < (l.length : Int) := by omega
        obtain ⟨y, hy⟩ : ∃ y, l[i]? = some y := ⟨_, List.getElem?_eq_getElem hil⟩
        obtain ⟨g, off, rfl, hg, hp⟩ := (h.below hb).text hy
        have he := hno'.out i y hy
        clear hy
        go_wp2
        go_roundw
        case rel => exact ⟨i + 1, by omega, by go_num, hb⟩
        case measure => simp [intOf]; omega
      · have g1 : ¬ (i : Int) < (l.length : Int) := by omega
        go_wp2
        go_ret
        exact ⟨rfl, hb⟩

set_option maxRecDepth 100000 in
set_option maxHeartbeats 1000000 in
theorem cloneS_nil (w : World) : Calls Tryd.prog 36 #[.slice none 0 0] w fun e w' => e = .returned (.slice none 0 0) ∧ w' = w := by
  have q24 : ∀ (w : World) (a : Option Addr) (n c n' c' : Nat), (binOp .eql 43 (.slice a n c) (.slice none n' c')).run Tryd.prog w = .ok (.bool a.isNone) w := fun w a n c n' c' => Lib.run_eql_slice_nil w _ _ a n c n' c' Tryd.underlying43
  go_enter Tryd.func36, Tryd.ntmps36
  go_wp2
  go_ret
  exact ⟨rfl, rfl⟩

set_option maxRecDepth 100000 in
set_option maxHeartbeats 2000000 in
theorem cloneS_at (ad : Addr) (c : Nat) (l : List ByteArray) (w : World) (hc : ∀ j u, (l.map Value.string)[j]? = some u → w.cell? (ad.add j) = some u) (hl : l.length ≤ 1000000) :
    Calls Tryd.prog 36 #[.slice (some ad) l.length c] w fun e w' => ∃ v, e = .returned v ∧ KQ textK 9 w' w.heap.size v l ∧ Below w.heap.size w w' := by
  obtain ⟨i0, z0, hi0, hz0, hz1, hz2, hz3⟩ := strInfoT
  have q24 : ∀ (w : World) (a : Option Addr) (n c n' c' : Nat), (binOp .eql 43 (.slice a n c) (.slice none n' c')).run Tryd.prog w = .ok (.bool a.isNone) w := fun w a n c n' c' => Lib.run_eql_slice_nil w _ _ a n c n' c' Tryd.underlying43
  have hc' : Hid (∀ j u, (l.map Value.string)[j]? = some u → (w.alloc (.cells #[] 9)).cell? (ad.add j) = some u) := fun j u hu => Lib.cell?_alloc_some _ (hc j u hu)
  clear hc
  go_enter Tryd.func36, Tryd.ntmps36
  go_wp2_with (at_builtin; refine wpList_append_own _ rfl _ _ 43 rfl w.heap.size 9 i0 z0 1 16 Tryd.underlying43 hi0 hz0 hz1 hz2 hz3 (by decide) _ _ _ rfl (World.ownsRow_made w #[] 0 (Nat.le_refl _) (Nat.zero_le _) rfl) ad l.length c (l.map Value.string) rfl ?qc1 hc'.out ?qc3 ?qc4 ?qc5 ?qc6 ?_)
  case qc1 => simp
  case qc3 => intro u hu; obtain ⟨x, _, rfl⟩ := List.mem_map.1 hu; rfl
  case qc4 => unfold maxLen; omega
  case qc5 => omega
  case qc6 => simp
  intro v' w1 hown hgrow hnil
  have hb1 : Below w.heap.size w w1 := ((Below.refl _ w).alloc (Nat.le_refl _) _).grown hgrow (by simp) (by intro k hk; simp [Value.ownBlock] at hk; omega)
  have hO : w1.ownsRow w.heap.size 9 textK.n v' l.length (flatK textK l) := by
    rw [flat_texts]
    show w1.ownsRow w.heap.size 9 1 v' l.length (l.map Value.string)
    simpa using hown
  clear hown hgrow hnil hc'
  go_wp2
  go_ret
  obtain ⟨ao, cap, rfl⟩ : ∃ ao cap, v' = .slice ao l.length cap := by
    obtain ⟨ao, cap, e, _⟩ := (QRow.of_own hO).form
    exact ⟨ao, cap, e⟩
  exact ⟨_, rfl, KQ.of_own (fun _ _ h => h.elim) (fun _ _ => trivial) rfl hO, hb1⟩

theorem cloneS_any (B : Nat) (q : Value) (l : List ByteArray) (w : World) (h : KQ textK 9 w B q l) (hl : l.length ≤ 1000000) :
    Calls Tryd.prog 36 #[q] w fun e w' => ∃ v, e = .returned v ∧ KQ textK 9 w' w.heap.size v l ∧ Below w.heap.size w w' := by
  obtain ⟨ao, cap, rfl, hnil, hRow⟩ := h.form
  cases ao with
  | none =>
    have hc := hnil rfl
    subst hc
    have hl0 : l = [] := by
      cases l with
      | nil => rfl
      | cons x r => obtain ⟨g, off, e, _⟩ := hRow.text (i := 0) rfl; cases e
    subst hl0
    refine (cloneS_nil w).mono ?_
    rintro e w' ⟨rfl, rfl⟩
    exact ⟨_, rfl, KQ.empty _ _ _ _, Below.refl _ _⟩
  | some ad => exact cloneS_at ad cap l w (fun j u hu => hRow.news j u (by rw [flat_texts]; exact hu)) hl

/-- What is written behind the texts that stay, and what is cleared. -/
theorem Arr.shift {w : World} {g : Nat} {T : TypeId} {pre xs post : List Value} {i j : Nat} (h : Arr w g T (pre ++ xs ++ post)) (hij : i < j) (hj : j ≤ xs.length) :
    Arr (w.setCells g (pre.length + i) (xs.drop j)) g T (pre ++ xs.take i ++ xs.drop j ++ (xs.drop (i + (xs.length - j)) ++ post)) ∧
    Arr ((w.setCells g (pre.length + i) (xs.drop j)).setCells g (pre.length + (i + (xs.length - j))) (List.replicate (j - i) (.string ⟨#[]⟩))) g T (pre ++ (xs.take i ++ xs.drop j) ++ (List.replicate (j - i) (.string ⟨#[]⟩) ++ post)) := by
  have hl : (xs.drop j).length = xs.length - j := List.length_drop
  have e1 : pre ++ xs ++ post = (pre ++ xs.take i) ++ (xs.drop i).take (xs.length - j) ++ (xs.drop (i + (xs.length - j)) ++ post) := by
    have e2 : xs = xs.take i ++ ((xs.drop i).take (xs.length - j) ++ xs.drop (i + (xs.length - j))) := by
      rw [← List.drop_drop, List.take_append_drop, List.take_append_drop]
    conv => lhs; rw [e2]
    simp only [List.append_assoc]
  have hp : (pre ++ xs.take i).length = pre.length + i := by rw [List.length_append, List.length_take, Nat.min_eq_left (by omega)]
  rw [e1] at h
  have h1 := Arr.setCells (xs.drop j) w (pre ++ xs.take i) ((xs.drop i).take (xs.length - j)) (xs.drop (i + (xs.length - j)) ++ post) (by rw [List.length_take, List.length_drop, hl]; omega) h
  rw [hp] at h1
  refine ⟨h1, ?_⟩
  have hp2 : (pre ++ xs.take i ++ xs.drop j).length = pre.length + (i + (xs.length - j)) := by rw [List.length_append, hp, hl]; omega
  have h2 := Arr.setCells (List.replicate (j - i) (.string ⟨#[]⟩)) _ (pre ++ xs.take i ++ xs.drop j) (xs.drop (i + (xs.length - j))) post (by rw [List.length_drop, List.length_replicate]; omega) (by rw [← List.append_assoc] at h1; exact h1)
  rw [hp2] at h2
  simp only [List.append_assoc] at h2 ⊢
  exact h2

set_option maxRecDepth 1000000 in
set_option maxHeartbeats 4000000 in
theorem deleteS_raw (g cap n i j : Nat) (pre xs post : List Value) (w : World) (h : Arr w g 9 (pre ++ xs ++ post)) (hn : xs.length = n) (h1 : ∀ u ∈ xs, u.oneCell' = true) (hcap : n ≤ cap) (hm : cap ≤ 9223372036854775807) (hij : i < j) (hj : j ≤ n) :
    Calls Tryd.prog 35 #[.slice (some ⟨g, pre.length, none⟩) n cap, .int .i64 (i : Int), .int .i64 (j : Int)] w fun e w' => e = .returned (.slice (some ⟨g, pre.length, none⟩) (n - (j - i)) cap) ∧ w' = (w.drew.setCells g (pre.length + i) (xs.drop j)).setCells g (pre.length + (i + (n - j))) (List.replicate (j - i) (.string ⟨#[]⟩)) := by
  obtain ⟨i0, z0, hi0, hz0, hz1, hz2, hz3⟩ := strInfoT
  have hcell : ∀ k u, xs[k]? = some u → w.drew.cell? ⟨g, pre.length + k, none⟩ = some u := fun k u hu => h.drew.cell (by
    have := (List.getElem?_eq_some_iff.1 hu).1
    rw [List.append_assoc, List.getElem?_append_right (by omega), Nat.add_sub_cancel_left, List.getElem?_append_left this]
    exact hu)
  have hfz := h.drew.frozen
  have hA1 := (Arr.shift h.drew hij (by omega)).1
  rw [hn] at hA1
  obtain ⟨news, hnews⟩ : ∃ news, xs.drop j = news := ⟨_, rfl⟩
  rw [hnews] at hA1 ⊢
  have hlen : news.length = n - j := by rw [← hnews, List.length_drop, hn]
  obtain ⟨off, hoff⟩ : ∃ off, pre.length = off := ⟨_, rfl⟩
  have hoffs : ∀ k, k < j - i → (pre ++ xs.take i ++ news ++ (xs.drop (i + (n - j)) ++ post))[off + (i + (n - j)) + k]? = (xs.drop (i + (n - j)) ++ post)[k]? := fun k hk => by
    have hp : (pre ++ xs.take i ++ news).length = off + (i + (n - j)) := by rw [List.length_append, List.length_append, List.length_take, hlen, ← hoff]; omega
    rw [List.getElem?_append_right (by omega), hp, Nat.add_sub_cancel_left]
  rw [hoff] at hA1 hcell ⊢
  obtain ⟨A, hA, hsrc⟩ : ∃ A : Addr, (if cap = j then some (⟨g, off, none⟩ : Addr) else some ⟨g, off + j, none⟩) = some A ∧ Hid (∀ t u, news[t]? = some u → w.drew.cell? (A.add t) = some u) := by
    by_cases h : cap = j
    · refine ⟨⟨g, off, none⟩, by simp [h], fun t u hu => ?_⟩
      have h0 : news.length = 0 := by rw [hlen]; omega
      rw [List.length_eq_zero_iff.1 h0] at hu
      simp at hu
    · refine ⟨⟨g, off + j, none⟩, by simp [h], fun t u hu => ?_⟩
      rw [← hnews, List.getElem?_drop] at hu
      rw [Go.WideShapes.add_plain, show off + j + t = off + (j + t) by omega]
      exact hcell _ u hu
  have s1 : Hid (news.length = (n - j) * 1) := by rw [Nat.mul_one]; exact hlen
  have s2 : Hid (∀ u ∈ news, u.oneCell' = true) := fun u hu => h1 u (by rw [← hnews] at hu; exact List.mem_of_mem_drop hu)
  have s3 : Hid (∀ t, t < news.length → (w.drew.cell? ⟨g, off + i * 1 + t, none⟩).isSome = true ∧ w.drew.frozen? ⟨g, off + i * 1 + t, none⟩ = false) := by
    intro t ht
    rw [hlen] at ht
    rw [Nat.mul_one, Nat.add_assoc]
    have e : xs[i + t]? = some xs[i + t] := List.getElem?_eq_getElem (by omega)
    exact ⟨by rw [hcell _ _ e]; rfl, hfz _⟩
  obtain ⟨W1, hW1⟩ : ∃ W1, W1 = w.drew.setCells g (off + i * 1) news := ⟨_, rfl⟩
  have hA2 : Arr W1 g 9 (pre ++ xs.take i ++ news ++ (xs.drop (i + (n - j)) ++ post)) := by rw [hW1, Nat.mul_one]; exact hA1
  have hcl : ∀ ty, (Builtin.clear_ #[43] ty #[.slice (some ⟨g, off + (i + (n - j)), none⟩) (n - (i + (n - j))) (cap - (i + (n - j)))]).run Tryd.prog W1 = .ok (.tuple #[]) (W1.setCells g (off + (i + (n - j))) (List.replicate (n - (i + (n - j))) (.string ⟨#[]⟩))) :=
    fun ty => Lib.run_clear_slice W1 _ _ ty _ Tryd.underlying43 Tryd.zeroValue9 rfl rfl g (off + (i + (n - j))) _ _ (by omega) (fun t ht => by
      have hlt : t < (xs.drop (i + (n - j)) ++ post).length := by rw [List.length_append, List.length_drop]; omega
      rw [hA2.cell ((hoffs t (by omega)).trans (List.getElem?_eq_getElem hlt))]; rfl) (fun t _ => hA2.frozen _)
  have hW : Hid (W1 = w.drew.setCells g (off + i * 1) news) := hW1
  have hic : i ≤ cap := by omega
  have hjc : j ≤ cap := by omega
  have hfin : Hid (W1.setCells g (off + (i + (n - j))) (List.replicate (n - (i + (n - j))) (.string ⟨#[]⟩)) = (w.drew.setCells g (off + i) news).setCells g (off + (i + (n - j))) (List.replicate (j - i) (.string ⟨#[]⟩)) ∧ i + (n - j) = n - (j - i)) := by
    refine ⟨?_, by omega⟩
    rw [hW1, Nat.mul_one, show n - (i + (n - j)) = j - i by omega]
  clear hW1 hA1 hA2 hcell hoffs h hfz hnews hlen hoff hn h1
  go_enter Tryd.func35, Tryd.ntmps35
  go_wp2_with fail
  go_region_law (refine step_append_room rfl (.tmp 22) (.tmp 25) 43 rfl 9 i0 1 Tryd.underlying43 hi0 hz1 g off i cap (by simp [Act.eval, Act.put]) A (n - j) (cap - j) news (by simp [Act.eval, Act.put]) s1.out hsrc.out s2.out (by omega) s3.out ?_; rw [← hW.out])
  go_wp2
  go_ret
  exact ⟨by rw [← hfin.out.2]; rfl, hfin.out.1⟩

theorem deleteS_any (B i j : Nat) (ao : Option Addr) (cap : Nat) (l : List ByteArray) (w : World) (h : KQ textK 9 w B (.slice ao l.length cap) l) (hij : i < j) (hj : j ≤ l.length) :
    Calls Tryd.prog 35 #[.slice ao l.length cap, .int .i64 (i : Int), .int .i64 (j : Int)] w fun e w' => e = .returned (.slice ao (l.length - (j - i)) cap) ∧ KQ textK 9 w' B (.slice ao (l.length - (j - i)) cap) (l.take i ++ l.drop j) ∧ Kept (fun k => (Value.slice ao l.length cap).ownBlock = some k) w w' := by
  rcases h.row.2 with ⟨ao', hv, hn⟩ | ⟨g, pre, post, cap', hv, hb, hg, hnc, hcm, hpl⟩
  · omega
  · simp only [Value.slice.injEq, true_and] at hv
    obtain ⟨rfl, rfl⟩ := hv
    rw [flat_texts] at hg
    have hxl : (l.map Value.string).length = l.length := List.length_map _
    refine (deleteS_raw g cap l.length i j pre (l.map Value.string) post w hg hxl (fun u hu => by obtain ⟨x, _, rfl⟩ := List.mem_map.1 hu; rfl) hnc (by unfold maxLen at hcm; omega) hij hj).mono ?_
    rintro e w' ⟨rfl, rfl⟩
    obtain ⟨_, hA⟩ := Arr.shift hg.drew hij (by omega)
    rw [hxl] at hA
    have hll : (l.take i ++ l.drop j).length = l.length - (j - i) := by rw [List.length_append, List.length_take, List.length_drop]; omega
    have hfl : flatK textK (l.take i ++ l.drop j) = (l.map Value.string).take i ++ (l.map Value.string).drop j := by rw [flat_texts, List.map_append, List.map_take, List.map_drop]
    refine ⟨rfl, ⟨⟨by rw [flatK_length], Or.inr ⟨g, pre, _, cap, by rw [hll], hb, by rw [hfl]; exact hA, by omega, hcm, ?_⟩⟩, fun _ _ => trivial, fun _ _ _ h => h.elim, fun k hk => ?_, fun n c e => by cases e⟩, ?_⟩
    · rw [List.length_append, List.length_replicate, hpl, hll]
      show j - i + (cap - l.length) * 1 = (cap - (l.length - (j - i))) * 1
      omega
    · simp only [Value.ownBlock, Option.some.injEq] at hk
      subst hk
      exact ⟨hb, hA.lt⟩
    · have k1 := Kept.of_grown (grown_setCells g ((l.map Value.string).drop j) (pre.length + i) w.drew)
      have k2 := Kept.of_grown (grown_setCells g (List.replicate (j - i) (.string ⟨#[]⟩)) (pre.length + (i + (l.length - j))) (w.drew.setCells g (pre.length + i) ((l.map Value.string).drop j)))
      have k0 : Kept (fun k => some g = some k) w w.drew := Kept.of_below (below_drewN (Below.refl w.heap.size w) 1)
      exact (k0.trans k1).trans k2
end Go.Proofs.YtbikabjogacfkaaDoor
