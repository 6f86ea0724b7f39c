/- A row at whatever place of a block of the call's own, with room behind it: cut in front, appended to behind. -/
import Derived.Test.YthhildeocedpiaaDoorTxArr
import Derived.ArgAppend
namespace Go.Proofs.YthhildeocedpiaaDoor
open Go.RowKit
set_option linter.unusedVariables false

/-- v is a row of n elements, the cells xs, in a block of the call's own (or it has no room at all). -/
def QRow (w : World) (base : Nat) (e : TypeId) (size : Nat) (v : Value) (n : Nat) (xs : List Value) : Prop :=
  xs.length = n * size ∧
  ((∃ ao, v = .slice ao 0 0 ∧ n = 0) ∨
   ∃ g pre post cap, v = .slice (some ⟨g, pre.length, none⟩) n cap ∧ base ≤ g ∧ Arr w g e (pre ++ xs ++ post) ∧ n ≤ cap ∧ cap ≤ maxLen ∧ post.length = (cap - n) * size)

theorem QRow.nil (w : World) (base : Nat) (e : TypeId) (size : Nat) (ao : Option Addr) : QRow w base e size (.slice ao 0 0) 0 [] :=
  ⟨by simp, Or.inl ⟨ao, rfl, rfl⟩⟩

theorem QRow.of_own {w : World} {base : Nat} {e : TypeId} {size : Nat} {v : Value} {n : Nat} {xs : List Value} (h : w.ownsRow base e size v n xs) : QRow w base e size v n xs := by
  refine ⟨h.1, ?_⟩
  rcases h.2 with ⟨hv, hn⟩ | ⟨g, cap, cur, hv, hb, hg, hnc, hcm, hsz, htk⟩
  · exact Or.inl ⟨none, hv, hn⟩
  · refine Or.inr ⟨g, [], cur.toList.drop (n * size), cap, hv, hb, ?_, hnc, hcm, ?_⟩
    · unfold Arr
      rw [List.nil_append, ← htk, List.take_append_drop]
      exact hg
    · rw [List.length_drop, Array.length_toList, hsz, Nat.sub_mul]

theorem QRow.form {w : World} {base : Nat} {e : TypeId} {size : Nat} {v : Value} {n : Nat} {xs : List Value} (h : QRow w base e size v n xs) : ∃ ao cap, v = .slice ao n cap ∧ n ≤ cap ∧ cap ≤ maxLen := by
  rcases h.2 with ⟨ao, hv, hn⟩ | ⟨g, pre, post, cap, hv, _, _, h1, h2, _⟩
  · subst hn
    exact ⟨ao, 0, hv, Nat.le_refl _, Nat.zero_le _⟩
  · exact ⟨_, cap, hv, h1, h2⟩

/-- Its cells, where it has some. -/
theorem QRow.cells {w : World} {base : Nat} {e : TypeId} {size : Nat} {v : Value} {n : Nat} {xs : List Value} (h : QRow w base e size v n xs) (hn : 0 < n) :
    ∃ g off cap, v = .slice (some ⟨g, off, none⟩) n cap ∧ base ≤ g ∧ g < w.heap.size ∧ ∀ j u, xs[j]? = some u → w.cell? ⟨g, off + j, none⟩ = some u := by
  rcases h.2 with ⟨ao, hv, h0⟩ | ⟨g, pre, post, cap, hv, hb, hg, h1, h2, h3⟩
  · omega
  · refine ⟨g, pre.length, cap, hv, hb, hg.lt, fun j u hu => hg.cell ?_⟩
    have hj := (List.getElem?_eq_some_iff.1 hu).1
    rw [List.getElem?_append_left (by rw [List.length_append]; omega), List.getElem?_append_right (by omega), Nat.add_sub_cancel_left]
    exact hu

/-- What stands elsewhere may turn. -/
theorem QRow.keep {w w' : World} {base : Nat} {e : TypeId} {size : Nat} {v : Value} {n : Nat} {xs : List Value} (h : QRow w base e size v n xs) (hk : ∀ g, v.ownBlock = some g → w'.heap[g]? = w.heap[g]?) : QRow w' base e size v n xs := by
  refine ⟨h.1, ?_⟩
  rcases h.2 with h0 | ⟨g, pre, post, cap, hv, hb, hg, r⟩
  · exact Or.inl h0
  · refine Or.inr ⟨g, pre, post, cap, hv, hb, ?_, r⟩
    unfold Arr at hg ⊢
    rw [hk g (by rw [hv]; rfl)]
    exact hg

/-- s[i:]: the front is cut off. -/
theorem QRow.cut {w : World} {base : Nat} {e : TypeId} {size : Nat} {ao : Option Addr} {n cap : Nat} {xs : List Value} (h : QRow w base e size (.slice ao n cap) n xs) (i : Nat) (hi : i ≤ n) (ao' : Option Addr)
    (hao : ∀ b off, ao = some ⟨b, off, none⟩ → ¬ cap = i → ao' = some ⟨b, off + i * size, none⟩) : QRow w base e size (.slice ao' (n - i) (cap - i)) (n - i) (xs.drop (i * size)) := by
  have hl : (xs.drop (i * size)).length = (n - i) * size := by rw [List.length_drop, h.1, Nat.sub_mul]
  refine ⟨hl, ?_⟩
  rcases h.2 with ⟨ao0, hv, h0⟩ | ⟨g, pre, post, cap0, hv, hb, hg, h1, h2, h3⟩
  · simp only [Value.slice.injEq] at hv
    exact Or.inl ⟨ao', by rw [hv.2.2]; simp; omega, by omega⟩
  · simp only [Value.slice.injEq, true_and] at hv
    obtain ⟨rfl, rfl⟩ := hv
    by_cases hc : cap = i
    · exact Or.inl ⟨ao', by rw [hc]; simp; omega, by omega⟩
    · refine Or.inr ⟨g, pre ++ xs.take (i * size), post, cap - i, ?_, hb, ?_, by omega, by omega, ?_⟩
      · have hm : i * size ≤ xs.length := by rw [h.1]; exact Nat.mul_le_mul_right _ hi
        rw [hao g pre.length rfl hc, List.length_append, List.length_take, Nat.min_eq_left hm]
      · rw [List.append_assoc pre, List.take_append_drop]
        exact hg
      · rw [h3]
        congr 1
        omega

/-- Cells that are written one behind the other. -/
theorem Arr.setCells {g : Nat} {t : TypeId} : ∀ (vs : List Value) (w : World) (pre mid post : List Value), mid.length = vs.length → Arr w g t (pre ++ mid ++ post) → Arr (w.setCells g pre.length vs) g t (pre ++ vs ++ post)
  | [], w, pre, mid, post, hl, h => by
    have : mid = [] := List.eq_nil_of_length_eq_zero hl
    subst this
    exact h
  | v :: vs, w, pre, [], post, hl, h => by simp at hl
  | v :: vs, w, pre, m :: mid, post, hl, h => by
    have h1 := h.set pre.length v
    have e : (pre ++ (m :: mid) ++ post).set pre.length v = (pre ++ [v]) ++ mid ++ post := by
      rw [List.append_assoc, List.set_append_right _ _ (by omega), Nat.sub_self]
      simp
    rw [e] at h1
    have h2 := Arr.setCells vs (w.setCell ⟨g, pre.length, none⟩ v) (pre ++ [v]) mid post (by simpa using hl) h1
    have e2 : (pre ++ [v]).length = pre.length + 1 := by simp
    rw [e2] at h2
    have e3 : pre ++ [v] ++ vs ++ post = pre ++ (v :: vs) ++ post := by simp
    rw [e3] at h2
    exact h2

theorem grown_setCells (g : Nat) : ∀ (vs : List Value) (o : Nat) (w : World), w.grownBy (w.setCells g o vs) (some g)
  | [], _, w => ⟨rfl, rfl, rfl, Nat.le_refl _, fun _ _ _ => rfl⟩
  | v :: vs, o, w => by
    obtain ⟨h1, h2, h3, h4, h5⟩ := grown_setCells g vs (o + 1) (w.setCell ⟨g, o, none⟩ v)
    refine ⟨h1, h2, h3, ?_, fun k hk hne => ?_⟩
    · have : (w.setCell ⟨g, o, none⟩ v).heap.size = w.heap.size := by show (w.heap.modify g _).size = _; simp
      rw [this] at h4
      exact h4
    · have hs : (w.setCell ⟨g, o, none⟩ v).heap.size = w.heap.size := by show (w.heap.modify g _).size = _; simp
      have hk' : k ≠ g := fun e => hne (by rw [e])
      have := h5 k (by rw [hs]; exact hk) hne
      rw [Below.heap_setCell w ⟨g, o, none⟩ v k hk'] at this
      exact this

/-- append(s, x): in the room behind, or in a new row. -/
theorem wpList_append_q {P : Program} {w : World} {ops : Array Oper} {rest : List Oper} {o : Oper} {a : Act} {Q : Exit → Act → World → Prop} (hgd : o.guard = none) (s x : Operand) (t : TypeId)
    (ho : o.op = .call { callee := .builtin .append, args := #[s, x], argTypes := #[t, t] })
    (base : Nat) (e : TypeId) (i : TypeInfo) (z : Value) (size bytes : Nat) (ht : P.underlying t = some (.slice e)) (hi : P.info? e = some i) (hz : i.zero = some z)
    (hsize : i.size = size) (hby : i.bytes = bytes) (hzs : z.cells.size = size) (hsz : 0 < size)
    (v : Value) (n : Nat) (xs : List Value) (hs : a.eval s = v) (hq : QRow w base e size v n xs)
    (ad : Addr) (m c : Nat) (news : List Value) (hx : a.eval x = .slice (some ad) m c) (hm : 0 < m) (hl : news.length = m * size) (hnews : ∀ j u, news[j]? = some u → w.cell? (ad.add j) = some u) (h1 : ∀ u ∈ news, u.oneCell' = true)
    (h63 : n + m ≤ maxLen) (hbytes : (n + m) * bytes ≤ 140737488355328) (hbase : base ≤ w.heap.size)
    (h : ∀ v' w', QRow w' base e size v' (n + m) (xs ++ news) → w.grownBy w' v.ownBlock → (∀ g, v'.ownBlock = some g → v.ownBlock = some g ∨ w.heap.size ≤ g) → wpList P ops Q rest (a.put o.dst v') w') : wpList P ops Q (o :: rest) a w := by
  have hmono : ∀ {w' : World} {v' : Value}, w'.ownsRow w.heap.size e size v' (n + m) (xs ++ news) → QRow w' base e size v' (n + m) (xs ++ news) := by
    intro w' v' ho'
    refine QRow.of_own ⟨ho'.1, ho'.2.imp id fun ⟨g, cap, cur, q1, q2, q3⟩ => ⟨g, cap, cur, q1, Nat.le_trans hbase q2, q3⟩⟩
  have hfresh : ∀ {w' : World} {v' : Value}, w'.ownsRow w.heap.size e size v' (n + m) (xs ++ news) → ∀ g, v'.ownBlock = some g → v.ownBlock = some g ∨ w.heap.size ≤ g := by
    intro w' v' ho' g hg
    exact Or.inr (ho'.lt g hg).1
  have hgr : ∀ {w' : World} (r : Option Nat), w.grownBy w' none → w.grownBy w' r := fun r hg => ⟨hg.os, hg.tape, hg.output, hg.size, fun k hk _ => hg.block k hk (by simp)⟩
  rcases hq.2 with ⟨ao, rfl, rfl⟩ | ⟨g, pre, post, cap, rfl, hb, hg, hnc, hcm, hpl⟩
  · have hxs : xs = [] := List.eq_nil_of_length_eq_zero (by simpa using hq.1)
    subst hxs
    refine wpList_append_grows w hgd s x t ho e i z size bytes ht hi hz hsize hby hzs hsz ao 0 0 [] hs (fun _ => ⟨rfl, rfl⟩) (by simp) (fun b _ j u hu => by simp at hu) ad m c news hx hl hnews h1 (by omega) h63 hbytes ?_
    intro v' w' r1 r2
    exact h v' w' (hmono r1) (hgr _ r2) (hfresh r1)
  · refine wpList_append_arg w hgd s x t ho e i z size bytes ht hi hz hsize hby hzs hsz g pre.length n cap xs hs hq.1 ?_ ad m c news hx hl hnews h1 ?_ h63 hbytes ?_ ?_
    · intro j u hu
      refine hg.cell ?_
      have hj := (List.getElem?_eq_some_iff.1 hu).1
      rw [List.getElem?_append_left (by rw [List.length_append]; omega), List.getElem?_append_right (by omega), Nat.add_sub_cancel_left]
      exact hu
    · intro hroom j hj
      have hlt : pre.length + n * size + j < (pre ++ xs ++ post).length := by
        have h2 : m * size ≤ (cap - n) * size := Nat.mul_le_mul_right _ (by omega)
        rw [List.length_append, List.length_append, hq.1, hpl]
        omega
      exact ⟨by rw [hg.cell (List.getElem?_eq_getElem hlt)]; rfl, hg.frozen _⟩
    · intro hroom
      have h2 : m * size ≤ (cap - n) * size := Nat.mul_le_mul_right _ (by omega)
      have hA : Arr w g e ((pre ++ xs) ++ post.take news.length ++ post.drop news.length) := by
        rw [List.append_assoc (pre ++ xs), List.take_append_drop]
        exact hg
      have hA2 := Arr.setCells news w (pre ++ xs) (post.take news.length) (post.drop news.length) (by rw [List.length_take]; omega) hA
      have e1 : (pre ++ xs).length = pre.length + n * size := by rw [List.length_append, hq.1]
      rw [e1] at hA2
      refine h _ _ ⟨by rw [List.length_append, hq.1, hl, Nat.add_mul], Or.inr ⟨g, pre, post.drop news.length, cap, rfl, hb, ?_, hroom, hcm, ?_⟩⟩ (grown_setCells g news _ w) (fun g' hg' => Or.inl hg')
      · rw [← List.append_assoc pre]
        exact hA2
      · rw [List.length_drop, hpl, hl, ← Nat.sub_mul]
        congr 1
        omega
    · intro _ v' w' r1 r2
      exact h v' w' (hmono r1) (hgr _ r2) (hfresh r1)

/-- All blocks that were there are as they were, but those of S. -/
structure Kept (S : Nat → Prop) (w w' : World) : Prop where
  os : w'.os = w.os
  tape : w'.tape = w.tape
  output : w'.output = w.output
  size : w.heap.size ≤ w'.heap.size
  block : ∀ k, k < w.heap.size → ¬ S k → w'.heap[k]? = w.heap[k]?

theorem Kept.refl (S : Nat → Prop) (w : World) : Kept S w w := ⟨rfl, rfl, rfl, Nat.le_refl _, fun _ _ _ => rfl⟩

theorem Kept.trans {S : Nat → Prop} {a b c : World} (h : Kept S a b) (k : Kept S b c) : Kept S a c :=
  ⟨k.os.trans h.os, k.tape.trans h.tape, k.output.trans h.output, Nat.le_trans h.size k.size, fun i hi hn => (k.block i (Nat.lt_of_lt_of_le hi h.size) hn).trans (h.block i hi hn)⟩

theorem Kept.mono {S T : Nat → Prop} {w w' : World} (h : Kept S w w') (hs : ∀ k, k < w.heap.size → S k → T k) : Kept T w w' :=
  ⟨h.os, h.tape, h.output, h.size, fun k hk hn => h.block k hk (fun hS => hn (hs k hk hS))⟩

theorem Kept.of_below {S : Nat → Prop} {w w' : World} (h : Below w.heap.size w w') : Kept S w w' := ⟨h.os, h.tape, h.output, h.size, fun k hk _ => h.block k hk⟩

theorem Kept.of_grown {w w' : World} {r : Option Nat} (h : w.grownBy w' r) : Kept (fun k => r = some k) w w' := ⟨h.os, h.tape, h.output, h.size, fun k hk hn => h.block k hk (fun e => hn e.symm)⟩

theorem Kept.setCell (w : World) (p : Addr) (v : Value) : Kept (fun k => k = p.block) w (w.setCell p v) :=
  ⟨rfl, rfl, rfl, by show _ ≤ (w.heap.modify p.block _).size; simp, fun k _ hn => Below.heap_setCell w p v k hn⟩

theorem Kept.below {S : Nat → Prop} {w w' : World} (h : Kept S w w') {B : Nat} (hB : B ≤ w.heap.size) (hS : ∀ k, S k → B ≤ k) : Below B w w' :=
  ⟨h.os, h.tape, h.output, h.size, fun k hk => h.block k (by omega) (fun hs => by have := hS k hs; omega)⟩

theorem Kept.cell {S : Nat → Prop} {w w' : World} (h : Kept S w w') {p : Addr} (hp : p.block < w.heap.size) (hn : ¬ S p.block) : w'.cell? p = w.cell? p := by
  have := h.block p.block hp hn
  simp only [World.cell?, this]

theorem Arr.kept {S : Nat → Prop} {w w' : World} {g : Nat} {t : TypeId} {cs : List Value} (h : Arr w g t cs) (hk : Kept S w w') (hn : ¬ S g) : Arr w' g t cs := by
  have hl := h.lt
  unfold Arr at h ⊢
  rw [hk.block g hl hn]
  exact h

theorem QRow.kept {S : Nat → Prop} {w w' : World} {base : Nat} {e : TypeId} {size : Nat} {v : Value} {n : Nat} {xs : List Value} (h : QRow w base e size v n xs) (hk : Kept S w w') (hn : ∀ g, v.ownBlock = some g → ¬ S g) : QRow w' base e size v n xs := by
  refine ⟨h.1, h.2.imp id ?_⟩
  rintro ⟨g, pre, post, cap, hv, hb, hg, r⟩
  exact ⟨g, pre, post, cap, hv, hb, hg.kept hk (hn g (by rw [hv]; rfl)), r⟩

/-- A row of no transactions, or one in memory: its block is there. -/
theorem QRow.lt {w : World} {base : Nat} {e : TypeId} {size : Nat} {v : Value} {n : Nat} {xs : List Value} (h : QRow w base e size v n xs) : n = 0 ∨ ∃ g, v.ownBlock = some g ∧ base ≤ g ∧ g < w.heap.size := by
  rcases h.2 with ⟨ao, hv, hn⟩ | ⟨g, pre, post, cap, hv, hb, hg, r⟩
  · exact Or.inl hn
  · exact Or.inr ⟨g, by rw [hv]; rfl, hb, hg.lt⟩

theorem Kept.transNew {S T : Nat → Prop} {a b c : World} (h : Kept S a b) (k : Kept T b c) (hT : ∀ j, T j → a.heap.size ≤ j) : Kept S a c :=
  ⟨k.os.trans h.os, k.tape.trans h.tape, k.output.trans h.output, Nat.le_trans h.size k.size, fun j hj hn => (k.block j (Nat.lt_of_lt_of_le hj h.size) (fun e => by have := hT j e; omega)).trans (h.block j hj hn)⟩

theorem Kept.setNew {S : Nat → Prop} {w w' : World} (h : Kept S w w') {a : Addr} (ha : w.heap.size ≤ a.block) (v : Value) : Kept S w (w'.setCell a v) :=
  ⟨h.os, h.tape, h.output, by rw [setCell_size]; exact h.size, fun k hk hn => by rw [Below.heap_setCell w' a v k (by omega)]; exact h.block k hk hn⟩

theorem Kept.set {S : Nat → Prop} {w w' : World} (h : Kept S w w') {p : Addr} (hp : S p.block) (v : Value) : Kept S w (w'.setCell p v) :=
  h.trans ((Kept.setCell w' p v).mono (fun k _ e => by rw [e]; exact hp))
end Go.Proofs.YthhildeocedpiaaDoor
