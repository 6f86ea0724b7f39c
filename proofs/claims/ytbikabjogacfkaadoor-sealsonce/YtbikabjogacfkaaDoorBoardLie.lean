/- The program's board as it lies in memory: a box, a map of texts to collected tags, a row of the words in their order. -/
import Derived.Test.YtbikabjogacfkaaDoorRowsMore
import Derived.Test.YtbikabjogacfkaaDoorBoardMath
import Derived.Test.YtbikabjogacfkaaDoorTextMath
import Derived.Test.YtbikabjogacfkaaDoorVotesSt
import Derived.Test.YtbikabjogacfkaaDoorMapStr
namespace Go.Proofs.YtbikabjogacfkaaDoor
open Go Go.RowKit Go.Maps
set_option linter.unusedVariables false

/-- A word of the board as it lies. -/
structure PV where
  vb : Nat
  word : ByteArray
  P : List (Option TagD)

def PV.b (x : PV) : WordB := ⟨x.word, x.P⟩
def ptrV (b : Nat) : Value := .pointer (some ⟨b, 0, none⟩)

/-- What the map holds by each text. -/
def votF (vs : List PV) (id : ByteArray) : Option Value := (vs.find? (fun x => decide (x.word = id))).map (fun x => ptrV x.vb)

def delV (word : ByteArray) (vs : List PV) : List PV := vs.filter (fun x => !decide (x.word = word))
def setV (word : ByteArray) (P : List (Option TagD)) (vs : List PV) : List PV := vs.map (fun x => if x.word = word then ⟨x.vb, word, P⟩ else x)

theorem words_b (vs : List PV) : (vs.map PV.b).map (·.word) = vs.map (·.word) := by rw [List.map_map]; rfl

theorem delV_b (word : ByteArray) (vs : List PV) : closeB word (vs.map PV.b) = (delV word vs).map PV.b := by
  unfold closeB delV
  rw [List.filter_map]
  rfl

theorem setV_b (word : ByteArray) (P : List (Option TagD)) (vs : List PV) : setB word P (vs.map PV.b) = (setV word P vs).map PV.b := by
  unfold setB setV
  rw [List.map_map, List.map_map]
  refine List.map_congr_left (fun x _ => ?_)
  simp only [Function.comp_apply]
  by_cases e : x.word = word
  · rw [if_pos e, if_pos (show x.b.word = word from e)]; rfl
  · rw [if_neg e, if_neg (show ¬ x.b.word = word from e)]

theorem setV_words (word : ByteArray) (P : List (Option TagD)) (vs : List PV) : (setV word P vs).map (·.word) = vs.map (·.word) := by
  unfold setV
  rw [List.map_map]
  refine List.map_congr_left (fun x _ => ?_)
  simp only [Function.comp_apply]
  by_cases e : x.word = word
  · rw [if_pos e]; exact e.symm
  · rw [if_neg e]

theorem setV_vbs (word : ByteArray) (P : List (Option TagD)) (vs : List PV) : (setV word P vs).map (·.vb) = vs.map (·.vb) := by
  unfold setV
  rw [List.map_map]
  refine List.map_congr_left (fun x _ => ?_)
  simp only [Function.comp_apply]
  by_cases e : x.word = word
  · rw [if_pos e]
  · rw [if_neg e]

theorem setV_mem {word : ByteArray} {P : List (Option TagD)} {vs : List PV} {y : PV} (h : y ∈ setV word P vs) : ∃ x ∈ vs, x.vb = y.vb ∧ x.word = y.word ∧ (x.word = word ∧ y.P = P ∨ ¬ x.word = word ∧ y = x) := by
  unfold setV at h
  obtain ⟨x, hx, rfl⟩ := List.mem_map.1 h
  refine ⟨x, hx, ?_⟩
  by_cases e : x.word = word
  · simp only [e, if_true]; exact ⟨trivial, trivial, Or.inl ⟨trivial, trivial⟩⟩
  · simp only [e, if_false]; exact ⟨trivial, trivial, Or.inr ⟨fun h => h, trivial⟩⟩

theorem votF_push {vs : List PV} {word : ByteArray} (hni : word ∉ vs.map (·.word)) (vb : Nat) (P : List (Option TagD)) (i : ByteArray) : votF (vs ++ [⟨vb, word, P⟩]) i = putF (votF vs) word (ptrV vb) i := by
  unfold votF putF
  rw [List.find?_append]
  by_cases e : i = word
  · subst e
    have : vs.find? (fun x => decide (x.word = i)) = none := by
      rw [List.find?_eq_none]
      intro x hx h
      exact hni (by rw [← of_decide_eq_true h]; exact List.mem_map_of_mem hx)
    rw [this, if_pos rfl]
    simp
  · rw [if_neg e]
    have : [(⟨vb, word, P⟩ : PV)].find? (fun x => decide (x.word = i)) = none := by
      rw [List.find?_eq_none]
      intro x hx h
      rw [List.mem_singleton.1 hx] at h
      exact e (of_decide_eq_true h).symm
    rw [this, Option.or_none]

theorem votF_del (word : ByteArray) (vs : List PV) (i : ByteArray) : votF (delV word vs) i = delF (votF vs) word i := by
  unfold votF delF delV
  rw [List.find?_filter]
  by_cases e : i = word
  · subst e
    rw [if_pos rfl]
    have : vs.find? (fun a => decide ((!decide (a.word = i)) = true ∧ decide (a.word = i) = true)) = none := by
      rw [List.find?_eq_none]
      intro x _ h
      by_cases e : x.word = i <;> simp [e] at h
    rw [this]
    rfl
  · rw [if_neg e]
    congr 2
    funext x
    by_cases e2 : x.word = i
    · have : ¬ x.word = word := fun h => e (e2.symm.trans h)
      simp [e2, e]
    · simp [e2]

theorem votF_set (word : ByteArray) (P : List (Option TagD)) (vs : List PV) (i : ByteArray) : votF (setV word P vs) i = votF vs i := by
  unfold votF setV
  rw [List.find?_map, Option.map_map]
  have e1 : ((fun x : PV => decide (x.word = i)) ∘ fun x => if x.word = word then ⟨x.vb, word, P⟩ else x) = fun x => decide (x.word = i) := by
    funext x
    simp only [Function.comp_apply]
    by_cases e : x.word = word
    · rw [if_pos e, ← e]
    · rw [if_neg e]
  rw [e1]
  congr 1
  funext x
  simp only [Function.comp_apply]
  by_cases e : x.word = word
  · rw [if_pos e]
  · rw [if_neg e]

theorem getB_find (id : ByteArray) : ∀ bs : List WordB, getB id bs = bs.find? (fun x => decide (x.word = id))
  | [] => rfl
  | x :: r => by
    have ih := getB_find id r
    unfold getB at ih ⊢
    unfold atW
    by_cases e : x.word = id
    · rw [if_pos e, List.find?_cons, decide_eq_true e]
      rfl
    · rw [if_neg e, List.find?_cons, decide_eq_false e, ← ih]
      cases atW id r <;> rfl

theorem votF_none {vs : List PV} {id : ByteArray} (h : atW id (vs.map PV.b) = none) : votF vs id = none := by
  have := getB_none.2 h
  rw [getB_find, List.find?_map, Option.map_eq_none_iff] at this
  unfold votF
  rw [show (fun x : PV => decide (x.word = id)) = (fun x : WordB => decide (x.word = id)) ∘ PV.b from rfl, this]
  rfl

theorem votF_some {vs : List PV} {id : ByteArray} {xb : WordB} (h : getB id (vs.map PV.b) = some xb) : ∃ x ∈ vs, x.b = xb ∧ x.word = id ∧ votF vs id = some (ptrV x.vb) := by
  rw [getB_find, List.find?_map] at h
  obtain ⟨x, hx, rfl⟩ := Option.map_eq_some_iff.1 h
  refine ⟨x, List.mem_of_find?_eq_some hx, rfl, of_decide_eq_true (p := x.word = id) (List.find?_some (p := (fun x : WordB => decide (x.word = id)) ∘ PV.b) hx), ?_⟩
  unfold votF
  rw [show (fun x : PV => decide (x.word = id)) = (fun x : WordB => decide (x.word = id)) ∘ PV.b from rfl, hx]
  rfl

/-- The board lies in block bb, its map in block mb, its row is q. -/
structure PBd (w : World) (bb mb : Nat) (q : Value) (tb : Nat) (kind : ByteArray) (m0 : Int) (vs : List PV) : Prop where
  box : Arr w bb 61 [.pointer (some ⟨tb, 0, none⟩), .string kind, .int .i64 m0, .map (some mb), q]
  row : KQ textK 9 w 0 q (vs.map (·.word))
  map : SMap w mb (votF vs) vs.length
  at_ : ∀ x ∈ vs, VotesAt w x.vb tb kind x.word x.P
  nod : (vs.map (·.word)).Nodup
  apart : (vs.map (·.vb)).Nodup
  ne : bb ≠ mb
  vne : ∀ x ∈ vs, x.vb ≠ bb ∧ x.vb ≠ mb
  off : ∀ k, q.ownBlock = some k → k ≠ bb ∧ k ≠ mb ∧ ∀ x ∈ vs, k ≠ x.vb
  few : vs.length ≤ 1000000

/-- The blocks that it has. -/
def PFoot (bb mb : Nat) (q : Value) (vs : List PV) (k : Nat) : Prop := k = bb ∨ k = mb ∨ q.ownBlock = some k ∨ ∃ x ∈ vs, k = x.vb

section
variable {w w' : World} {bb mb : Nat} {q : Value} {tb : Nat} {kind : ByteArray} {m0 : Int} {vs : List PV} {S : Nat → Prop}

theorem PBd.kept (h : PBd w bb mb q tb kind m0 vs) (hk : Kept S w w') (hS : ∀ k, PFoot bb mb q vs k → ¬ S k) : PBd w' bb mb q tb kind m0 vs :=
  ⟨h.box.kept hk (hS bb (Or.inl rfl)), h.row.kept hk (fun k e => hS k (Or.inr (Or.inr (Or.inl e)))) (fun _ _ _ h => h.elim), h.map.kept hk (hS mb (Or.inr (Or.inl rfl))), fun x hx => (h.at_ x hx).kept hk (hS _ (Or.inr (Or.inr (Or.inr ⟨x, hx, rfl⟩)))), h.nod, h.apart, h.ne, h.vne, h.off, h.few⟩

theorem PBd.below (h : PBd w bb mb q tb kind m0 vs) (hb : Below w.heap.size w w') : PBd w' bb mb q tb kind m0 vs :=
  h.kept (Kept.of_below (S := fun _ => False) hb) (fun _ _ h => h)

theorem PBd.lt (h : PBd w bb mb q tb kind m0 vs) {k : Nat} (hk : PFoot bb mb q vs k) : k < w.heap.size := by
  rcases hk with rfl | rfl | e | ⟨x, hx, rfl⟩
  · exact h.box.lt
  · exact h.map.lt
  · exact (h.row.lt k e).2
  · exact Arr.lt (h.at_ x hx)

/-- Two words have two blocks. -/
theorem PBd.two (h : PBd w bb mb q tb kind m0 vs) {x y : PV} (hx : x ∈ vs) (hy : y ∈ vs) (e : x.vb = y.vb) : x = y := by
  have hn := h.apart
  clear h
  induction vs with
  | nil => cases hx
  | cons a r ih =>
    rw [List.map_cons, List.nodup_cons] at hn
    rcases List.mem_cons.1 hx with hx1 | hx1
    · rcases List.mem_cons.1 hy with hy1 | hy1
      · rw [hx1, hy1]
      · exact absurd (by rw [← hx1, e]; exact List.mem_map_of_mem hy1) hn.1
    · rcases List.mem_cons.1 hy with hy1 | hy1
      · exact absurd (by rw [← hy1, ← e]; exact List.mem_map_of_mem hx1) hn.1
      · exact ih hx1 hy1 hn.2
end

/-- .. as the blocks that it has and what is in it. -/
structure PB (w : World) (bb : Nat) (S : Nat → Prop) (tb : Nat) (kind : ByteArray) (most : Int) (bs : List WordB) : Prop where
  at_ : ∃ mb q m0 vs, bs = vs.map PV.b ∧ most = max 0 m0 ∧ (∀ k, S k ↔ PFoot bb mb q vs k) ∧ PBd w bb mb q tb kind m0 vs

section
variable {w w' : World} {bb : Nat} {S S' : Nat → Prop} {tb : Nat} {kind : ByteArray} {most : Int} {bs : List WordB}

theorem PB.kept (h : PB w bb S tb kind most bs) (hk : Kept S' w w') (hS : ∀ k, S k → ¬ S' k) : PB w' bb S tb kind most bs := by
  obtain ⟨mb, q, m0, vs, h1, h2, h3, h4⟩ := h
  exact ⟨mb, q, m0, vs, h1, h2, h3, h4.kept hk (fun k e => hS k ((h3 k).2 e))⟩

theorem PB.below (h : PB w bb S tb kind most bs) (hb : Below w.heap.size w w') : PB w' bb S tb kind most bs := by
  obtain ⟨mb, q, m0, vs, h1, h2, h3, h4⟩ := h
  exact ⟨mb, q, m0, vs, h1, h2, h3, h4.below hb⟩

theorem PB.lt (h : PB w bb S tb kind most bs) : ∀ k, S k → k < w.heap.size := by
  obtain ⟨mb, q, m0, vs, h1, h2, h3, h4⟩ := h
  exact fun k hk => h4.lt ((h3 k).1 hk)

theorem PB.few (h : PB w bb S tb kind most bs) : bs.length ≤ 1000000 := by
  obtain ⟨mb, q, m0, vs, rfl, h2, h3, h4⟩ := h
  rw [List.length_map]
  exact h4.few
end

section
variable {w wC w1 w5 wX w3 w8 : World} {bb mb vb : Nat} {q q' : Value} {tb : Nat} {kind word : ByteArray} {m0 : Int} {vs : List PV}

/-- A word is added. -/
theorem PBd.pushed (h : PBd w bb mb q tb kind m0 vs) (hA : atW word (vs.map PV.b) = none) (hb : Below w.heap.size w wC) (hC : VotesAt wC vb tb kind word noP) (hv : w.heap.size ≤ vb)
    (hM : SMap w5 mb (putF (votF vs) word (ptrV vb)) (putN (votF vs) word vs.length)) (h5 : Kept (fun k => k = mb) wC w5) (hX : Below w5.heap.size w5 wX)
    (hQ8 : KQ textK 9 w8 0 q' (vs.map (·.word) ++ [word])) (hk8 : Kept (fun k => q.ownBlock = some k) wX w8) (hf8 : Fresh wX q q') (hl : vs.length < 1000000) :
    PBd (w8.setCell ⟨bb, 4, none⟩ q') bb mb q' tb kind m0 (vs ++ [⟨vb, word, noP⟩]) ∧ (∀ k, PFoot bb mb q' (vs ++ [⟨vb, word, noP⟩]) k → PFoot bb mb q vs k ∨ w.heap.size ≤ k) ∧ Kept (PFoot bb mb q vs) w (w8.setCell ⟨bb, 4, none⟩ q') := by
  have hlt := fun k (hk : PFoot bb mb q vs k) => h.lt hk
  have hbb := hlt bb (Or.inl rfl)
  have hmb := hlt mb (Or.inr (Or.inl rfl))
  have hqo := fun k (e : q.ownBlock = some k) => hlt k (Or.inr (Or.inr (Or.inl e)))
  have hvl := fun x hx => hlt x.vb (Or.inr (Or.inr (Or.inr ⟨x, hx, rfl⟩)))
  have hvC : vb < wC.heap.size := Arr.lt hC
  have s1 := hb.size
  have s2 := h5.size
  have s3 := hX.size
  have s4 := hk8.size
  have hni : word ∉ vs.map (·.word) := fun hm => by
    obtain ⟨x, hx, e⟩ := List.mem_map.1 hm
    exact atW_none.1 hA x.b (List.mem_map_of_mem hx) e
  have hst := Kept.setCell w8 ⟨bb, 4, none⟩ q'
  have hK5 : Kept (fun k => k = mb ∨ q.ownBlock = some k) w wX := ((Kept.of_below hb).trans (h5.mono (fun k _ e => Or.inl e))).trans (Kept.of_below hX)
  have hK8 : Kept (fun k => k = mb ∨ q.ownBlock = some k) w w8 := hK5.trans (hk8.mono (fun k _ e => Or.inr e))
  have hF : ∀ k, q'.ownBlock = some k → q.ownBlock = some k ∨ wX.heap.size ≤ k := hf8
  have hn : putN (votF vs) word vs.length = (vs ++ [(⟨vb, word, noP⟩ : PV)]).length := by
    unfold putN
    rw [votF_none hA, if_neg (by decide), List.length_append]
    rfl
  rw [hn] at hM
  refine ⟨⟨?_, ?_, ?_, ?_, ?_, ?_, h.ne, ?_, ?_, by rw [List.length_append]; simp; omega⟩, ?_, ?_⟩
  · exact (h.box.kept hK8 (fun e => by
      rcases e with e | e
      · exact h.ne e
      · exact (h.off bb e).1 rfl)).set 4 q'
  · rw [List.map_append]
    exact hQ8.kept hst (fun k hk e => by
      have e' : k = bb := e
      subst e'
      rcases hF k hk with e1 | e1
      · exact (h.off k e1).1 rfl
      · omega) (fun _ _ _ h => h.elim)
  · exact ((((hM.below hX).kept hk8 (fun e => (h.off mb e).2.1 rfl)).kept hst (fun e => h.ne (show mb = bb from e).symm))).congr (fun i => votF_push hni vb noP i)
  · intro x hx
    rcases List.mem_append.1 hx with hx | hx
    · refine ((h.at_ x hx).kept hK8 (fun e => ?_)).kept hst (fun e => (h.vne x hx).1 e)
      rcases e with e | e
      · exact (h.vne x hx).2 e
      · exact (h.off _ e).2.2 x hx rfl
    · rw [List.mem_singleton.1 hx]
      exact (((hC.kept h5 (fun e => by have e' : vb = mb := e; omega)).below hX).kept hk8 (fun e => by have := hqo vb e; omega)).kept hst (fun e => by have e' : vb = bb := e; omega)
  · rw [List.map_append, List.nodup_append]
    refine ⟨h.nod, by simp, fun a ha b hb e => ?_⟩
    simp only [List.map_cons, List.map_nil, List.mem_singleton] at hb
    rw [e, hb] at ha
    exact hni ha
  · rw [List.map_append, List.nodup_append]
    refine ⟨h.apart, by simp, fun a ha b hb e => ?_⟩
    simp only [List.map_cons, List.map_nil, List.mem_singleton] at hb
    obtain ⟨x, hx, rfl⟩ := List.mem_map.1 ha
    have := hvl x hx
    omega
  · intro x hx
    rcases List.mem_append.1 hx with hx | hx
    · exact h.vne x hx
    · rw [List.mem_singleton.1 hx]
      exact ⟨fun e => by have e' : vb = bb := e; omega, fun e => by have e' : vb = mb := e; omega⟩
  · intro k hk
    rcases hF k hk with e | e
    · obtain ⟨a, b, c⟩ := h.off k e
      refine ⟨a, b, fun x hx => ?_⟩
      rcases List.mem_append.1 hx with hx | hx
      · exact c x hx
      · rw [List.mem_singleton.1 hx]
        intro e'
        have e'' : k = vb := e'
        have := hqo k e
        omega
    · refine ⟨by omega, by omega, fun x hx => ?_⟩
      rcases List.mem_append.1 hx with hx | hx
      · have := hvl x hx; omega
      · rw [List.mem_singleton.1 hx]
        intro e'
        have e'' : k = vb := e'
        omega
  · rintro k (e | e | e | ⟨x, hx, e⟩)
    · exact Or.inl (Or.inl e)
    · exact Or.inl (Or.inr (Or.inl e))
    · rcases hF k e with e1 | e1
      · exact Or.inl (Or.inr (Or.inr (Or.inl e1)))
      · exact Or.inr (by omega)
    · rcases List.mem_append.1 hx with hx | hx
      · exact Or.inl (Or.inr (Or.inr (Or.inr ⟨x, hx, e⟩)))
      · rw [List.mem_singleton.1 hx] at e
        have e' : k = vb := e
        exact Or.inr (by omega)
  · exact (hK8.mono (fun k _ e => by
      rcases e with e | e
      · exact Or.inr (Or.inl e)
      · exact Or.inr (Or.inr (Or.inl e)))).set (p := ⟨bb, 4, none⟩) (Or.inl rfl) _

theorem delV_len (h : (vs.map (·.word)).Nodup) : delN (votF vs) word vs.length = (delV word vs).length := by
  have e : (delV word vs).length = (closeB word (vs.map PV.b)).length := by rw [delV_b, List.length_map]
  unfold delN
  cases hA : atW word (vs.map PV.b) with
  | none =>
    rw [votF_none hA, if_neg (by decide), e, closeB_none hA, List.length_map]
  | some j =>
    obtain ⟨xb, hx, _, hg, _⟩ := atW_some hA
    obtain ⟨x, _, _, _, hv⟩ := votF_some hg
    have hj := (List.getElem?_eq_some_iff.1 hx).1
    rw [List.length_map] at hj
    rw [hv, if_pos (by rfl), e, closeB_at (by rw [words_b]; exact h) hA, List.length_eraseIdx, List.length_map, if_pos hj]

theorem delV_mem {x : PV} (h : x ∈ delV word vs) : x ∈ vs := (List.mem_filter.1 h).1

/-- A word is taken out. -/
theorem PBd.closed (h : PBd w bb mb q tb kind m0 vs) (hM : SMap w1 mb (delF (votF vs) word) (delN (votF vs) word vs.length)) (h1 : Kept (fun k => k = mb) w w1) (hX : Below w1.heap.size w1 wX)
    (hQ : KQ textK 9 w3 0 q' ((delV word vs).map (·.word))) (hk : Kept (fun k => q.ownBlock = some k) wX w3) (ho : ∀ k, q'.ownBlock = some k → q.ownBlock = some k) :
    PBd (w3.setCell ⟨bb, 4, none⟩ q') bb mb q' tb kind m0 (delV word vs) ∧ (∀ k, PFoot bb mb q' (delV word vs) k → PFoot bb mb q vs k) ∧ Kept (fun k => k = bb ∨ k = mb ∨ q.ownBlock = some k) w (w3.setCell ⟨bb, 4, none⟩ q') := by
  have hst := Kept.setCell w3 ⟨bb, 4, none⟩ q'
  have hK3 : Kept (fun k => k = mb ∨ q.ownBlock = some k) w w3 := ((h1.mono (fun k _ e => Or.inl e)).trans (Kept.of_below hX)).trans (hk.mono (fun k _ e => Or.inr e))
  rw [delV_len h.nod] at hM
  refine ⟨⟨?_, ?_, ?_, ?_, ?_, ?_, h.ne, fun x hx => h.vne x (delV_mem hx), fun k e => ?_, ?_⟩, ?_, ?_⟩
  · exact (h.box.kept hK3 (fun e => by
      rcases e with e | e
      · exact h.ne e
      · exact (h.off bb e).1 rfl)).set 4 q'
  · exact hQ.kept hst (fun k hk e => (h.off k (ho k hk)).1 e) (fun _ _ _ h => h.elim)
  · exact (((hM.below hX).kept hk (fun e => (h.off mb e).2.1 rfl)).kept hst (fun e => h.ne (show mb = bb from e).symm)).congr (fun i => votF_del word vs i)
  · intro x hx
    have hx := delV_mem hx
    refine ((h.at_ x hx).kept hK3 (fun e => ?_)).kept hst (fun e => (h.vne x hx).1 e)
    rcases e with e | e
    · exact (h.vne x hx).2 e
    · exact (h.off _ e).2.2 x hx rfl
  · exact (List.Sublist.map _ List.filter_sublist).nodup h.nod
  · exact (List.Sublist.map _ List.filter_sublist).nodup h.apart
  · obtain ⟨a, b, c⟩ := h.off k (ho k e)
    exact ⟨a, b, fun x hx => c x (delV_mem hx)⟩
  · have := List.length_filter_le (fun x : PV => !decide (x.word = word)) vs
    have := h.few
    unfold delV
    omega
  · rintro k (e | e | e | ⟨x, hx, e⟩)
    · exact Or.inl e
    · exact Or.inr (Or.inl e)
    · exact Or.inr (Or.inr (Or.inl (ho k e)))
    · exact Or.inr (Or.inr (Or.inr ⟨x, delV_mem hx, e⟩))
  · exact Kept.set (S := fun k => k = bb ∨ k = mb ∨ q.ownBlock = some k) (p := ⟨bb, 4, none⟩) (hK3.mono (fun k _ e => Or.inr e)) (Or.inl rfl) _

/-- What is not open is struck. -/
theorem PBd.struck (h : PBd w bb mb q tb kind m0 vs) (hA : atW word (vs.map PV.b) = none) (hM : SMap w1 mb (delF (votF vs) word) (delN (votF vs) word vs.length)) (h1 : Kept (fun k => k = mb) w w1) : PBd w1 bb mb q tb kind m0 vs := by
  have e : delN (votF vs) word vs.length = vs.length := by unfold delN; rw [votF_none hA, if_neg (by decide)]
  rw [e] at hM
  refine ⟨h.box.kept h1 (fun e => h.ne e), h.row.kept h1 (fun k e e' => (h.off k e).2.1 e') (fun _ _ _ h => h.elim), hM.congr (fun i => ?_), fun x hx => (h.at_ x hx).kept h1 (fun e => (h.vne x hx).2 e), h.nod, h.apart, h.ne, h.vne, h.off, h.few⟩
  unfold delF
  by_cases e : i = word
  · rw [if_pos e, e, votF_none hA]
  · rw [if_neg e]

/-- A word's tags are turned. -/
theorem PBd.seti (h : PBd w bb mb q tb kind m0 vs) {x : PV} (hx : x ∈ vs) (hw : x.word = word) {P : List (Option TagD)} (hV : VotesAt w1 x.vb tb kind word P) (h1 : Kept (fun k => k = x.vb) w w1) :
    PBd w1 bb mb q tb kind m0 (setV word P vs) ∧ ∀ k, PFoot bb mb q (setV word P vs) k → PFoot bb mb q vs k := by
  have hone : ∀ y ∈ vs, y.word = word → y.vb = x.vb := fun y hy e => by
    have hn := h.nod
    clear hV h1 h
    induction vs with
    | nil => cases hy
    | cons a r ih =>
      rw [List.map_cons, List.nodup_cons] at hn
      rcases List.mem_cons.1 hx with hx1 | hx1
      · rcases List.mem_cons.1 hy with hy1 | hy1
        · rw [hx1, hy1]
        · exact absurd (by rw [← hx1, hw, ← e]; exact List.mem_map_of_mem hy1) hn.1
      · rcases List.mem_cons.1 hy with hy1 | hy1
        · exact absurd (by rw [← hy1, e, ← hw]; exact List.mem_map_of_mem hx1) hn.1
        · exact ih hx1 hy1 hn.2
  refine ⟨⟨h.box.kept h1 (fun e => (h.vne x hx).1 e.symm), ?_, ?_, fun y hy => ?_, by rw [setV_words]; exact h.nod, by rw [setV_vbs]; exact h.apart, h.ne, fun y hy => ?_, fun k e => ?_, by unfold setV; rw [List.length_map]; exact h.few⟩, ?_⟩
  · rw [setV_words]
    exact h.row.kept h1 (fun k e e' => (h.off k e).2.2 x hx e') (fun _ _ _ h => h.elim)
  · have e : (setV word P vs).length = vs.length := by unfold setV; rw [List.length_map]
    rw [e]
    exact (h.map.kept h1 (fun e => (h.vne x hx).2 e.symm)).congr (fun i => votF_set word P vs i)
  · obtain ⟨z, hz, e1, e2, e3⟩ := setV_mem hy
    rcases e3 with ⟨e3, e4⟩ | ⟨e3, e4⟩
    · rw [← e1, ← e2, e3, e4, hone z hz e3]
      exact hV
    · rw [e4]
      refine (h.at_ z hz).kept h1 (fun e => e3 ?_)
      rw [h.two hz hx e, hw]
  · obtain ⟨z, hz, e1, e2, e3⟩ := setV_mem hy
    rw [← e1]
    exact h.vne z hz
  · obtain ⟨a, b, c⟩ := h.off k e
    refine ⟨a, b, fun y hy => ?_⟩
    obtain ⟨z, hz, e1, e2, e3⟩ := setV_mem hy
    rw [← e1]
    exact c z hz
  · rintro k (e | e | e | ⟨y, hy, e⟩)
    · exact Or.inl e
    · exact Or.inr (Or.inl e)
    · exact Or.inr (Or.inr (Or.inl e))
    · obtain ⟨z, hz, e1, _⟩ := setV_mem hy
      exact Or.inr (Or.inr (Or.inr ⟨z, hz, by rw [e1]; exact e⟩))
end
end Go.Proofs.YtbikabjogacfkaaDoor
