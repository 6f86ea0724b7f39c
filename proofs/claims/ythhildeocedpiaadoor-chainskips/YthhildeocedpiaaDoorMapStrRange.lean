/- A map of texts that is gone through: what is still to come; the step; what is struck on the way. -/
import Derived.Test.YthhildeocedpiaaDoorMapStr
import Derived.Maps.RangeWalk
namespace Go.Proofs.YthhildeocedpiaaDoor
open Go Go.RowKit Go.Maps
set_option linter.unusedVariables false

/-- The map in block b is gone through by the iterator in block r: 'left' tells which texts are still to come, cnt how many. -/
def SRange (w : World) (b r : Nat) (f : ByteArray → Option Value) (n : Nat) (left : ByteArray → Bool) (cnt : Nat) : Prop :=
  ∃ (D : DataW Value) (lf : Lit → Bool) (N : Nat), w.ranges Tryd.prog 9 heldElem b r N D lf cnt ∧ Maps.size D = n ∧ (∀ id, Maps.has D (keyS id) = (f id).isSome) ∧ (∀ id z, D.atKey (keyS id) z = match f id with | some v => .held v | none => z) ∧ ∀ id, lf (keyS id) = left id

theorem SRange.map {w : World} {b r : Nat} {f : ByteArray → Option Value} {n : Nat} {left : ByteArray → Bool} {cnt : Nat} (h : SRange w b r f n left cnt) : SMap w b f n := by
  obtain ⟨D, lf, N, h1, h2, h3, h4, _⟩ := h
  exact ⟨D, by rw [← h2]; exact owns_tight h1.owns, h2, h3, h4⟩

theorem SRange.left_eq {w : World} {b r : Nat} {f : ByteArray → Option Value} {n : Nat} {left : ByteArray → Bool} {cnt : Nat} (h : SRange w b r f n left cnt) : w.rangeLeft b r = cnt := by
  obtain ⟨D, lf, N, h1, _⟩ := h
  exact h1.left_eq

theorem SRange.lt {w : World} {b r : Nat} {f : ByteArray → Option Value} {n : Nat} {left : ByteArray → Bool} {cnt : Nat} (h : SRange w b r f n left cnt) : r < w.heap.size := by
  obtain ⟨D, lf, N, h1, _⟩ := h
  exact h1.lt

theorem SRange.keep {w w' : World} {b r : Nat} {f : ByteArray → Option Value} {n : Nat} {left : ByteArray → Bool} {cnt : Nat} (h : SRange w b r f n left cnt) (hb : w'.heap[b]? = w.heap[b]?) (hr : w'.heap[r]? = w.heap[r]?) : SRange w' b r f n left cnt := by
  obtain ⟨D, lf, N, ⟨es, clock, since, seen, c0, k1, k2, k3, k4, k5, k6⟩, h2⟩ := h
  exact ⟨D, lf, N, ⟨es, clock, since, seen, c0, hb.trans k1, k2, k3, k4, hr.trans k5, k6⟩, h2⟩

theorem SRange.kept {S : Nat → Prop} {w w' : World} {b r : Nat} {f : ByteArray → Option Value} {n : Nat} {left : ByteArray → Bool} {cnt : Nat} (h : SRange w b r f n left cnt) (hk : Kept S w w') (hb : ¬ S b) (hr : ¬ S r) : SRange w' b r f n left cnt :=
  h.keep (hk.block b h.map.lt hb) (hk.block r h.lt hr)

theorem SRange.congr {w : World} {b r : Nat} {f g : ByteArray → Option Value} {n : Nat} {left : ByteArray → Bool} {cnt : Nat} (h : SRange w b r f n left cnt) (e : ∀ id, g id = f id) : SRange w b r g n left cnt := by
  obtain rfl : g = f := funext e
  exact h

theorem sameKey_S (a b : ByteArray) : (keyS a).sameKey (keyS b) = decide (a = b) := by
  by_cases e : a = b
  · subst e
    rw [decide_eq_true rfl]
    exact WideAt.sameKey_self (keyS_ok _)
  · rw [decide_eq_false e]
    exact sameKey_ne (fun h => e (keyS_inj h))

/-- One less is to come. -/
def strikeF (left : ByteArray → Bool) (id : ByteArray) (i : ByteArray) : Bool := left i && !decide (i = id)

section
variable {w : World} {ops : Array Oper} {rest : List Oper} {o : Oper} {a : Act} {Q : Exit → Act → World → Prop}

/-- 'range m'. -/
theorem smap_range (hg : o.guard = none) (m : Operand) (t : TypeId) (hop : o.op = Op.range t m) (e : TypeId) (ht : Tryd.prog.underlying t = some (.map 9 e)) (b : Nat) (f : ByteArray → Option Value) (n : Nat) (hm : a.eval m = .map (some b)) (h : SMap w b f n)
    (hK : ∀ w', SRange w' b w.heap.size f n (fun i => (f i).isSome) n → Below w.heap.size w w' → w'.heap.size = w.heap.size + 1 → wpList Tryd.prog ops Q rest (a.put o.dst (.pointer (some ⟨w.heap.size, 0, none⟩))) w') : wpList Tryd.prog ops Q (o :: rest) a w := by
  obtain ⟨D, ho, h1, h2, h3⟩ := h
  refine wpList_range_own w hg m t hop 9 e lawStr ht heldElem b n D hm ho ?_
  intro w' hr hg' hs
  exact hK w' ⟨D, Maps.has D, n, by rw [h1] at hr; exact hr, h1, h2, h3, h2⟩ ⟨hg'.os, hg'.tape, hg'.output, hg'.size, fun k hk => hg'.block k hk (by simp)⟩ hs

/-- The step. -/
theorem smap_next (hg : o.guard = none) (it : Operand) (hop : o.op = Op.next it false) (b r : Nat) (f : ByteArray → Option Value) (n : Nat) (left : ByteArray → Bool) (cnt : Nat) (hit : a.eval it = .pointer (some ⟨r, 0, none⟩)) (h : SRange w b r f n left cnt)
    (hDone : (∀ i, left i = false) → wpList Tryd.prog ops Q rest (a.put o.dst (.tuple #[.bool false])) w)
    (hMore : ∀ (id : ByteArray) (v : Value) (w' : World) (cnt' : Nat), id.size ≤ maxLen → left id = true → f id = some v → SRange w' b r f n (strikeF left id) cnt' → cnt' < cnt → Kept (fun k => k = r) w w' → w'.heap.size = w.heap.size → (Instr.entry (.pointer (some ⟨r, 0, none⟩))).run Tryd.prog w' = .ok (.tuple #[.string id, v]) w' → wpList Tryd.prog ops Q rest (a.put o.dst (.tuple #[.bool true, .string id, v])) w') : wpList Tryd.prog ops Q (o :: rest) a w := by
  obtain ⟨D, lf, N, hr, h1, h2, h3, h4⟩ := h
  refine wpList_next_ranges w hg it hop 9 lawStr heldElem (fun x : ByteArray => Value.string x) (fun v : Value => v) (fun key kl hk => ?_) (fun v y _ => ⟨v, rfl⟩) b r N D lf cnt hit hr ?_ ?_
  · obtain ⟨s, rfl, _⟩ := Go.WideMaps.string_of_keyOf Tryd.underlying9 hk
    exact ⟨s, rfl⟩
  · intro _ hl
    exact hDone (fun i => by rw [← h4]; exact hl _)
  · intro x c kl y w' cnt' hkey hlk hv hat hrg hlt hgr hsz hen
    obtain ⟨s, es, rfl, hs⟩ := Go.WideMaps.string_of_keyOf Tryd.underlying9 hkey
    simp only [Value.string.injEq] at es
    subst es
    have hv' : y = (.held c, []) := by
      unfold heldElem at hv
      simpa using hv.symm
    subst hv'
    have hlx : left x = true := by rw [← h4]; exact hlk
    have hfx : f x = some c := by
      have q1 := hat (.held undef)
      have q2 := hat .nil
      have e1 := h3 x (.held undef)
      have e2 := h3 x .nil
      cases hf : f x with
      | none =>
        rw [hf] at e2
        have : (DataW.nil : DataW Value) = .held c := e2.symm.trans q2
        cases this
      | some u =>
        rw [hf] at e2
        have : (DataW.held u : DataW Value) = .held c := e2.symm.trans q2
        simp only [DataW.held.injEq] at this
        rw [this]
    refine hMore x c w' cnt' hs hlx hfx ⟨D, _, N, hrg, h1, h2, h3, fun i => ?_⟩ hlt ((Kept.of_grown hgr).mono (fun k _ e => by simpa using e.symm)) hsz hen
    show (lf (keyS i) && !(keyS i).sameKey (keyS x)) = strikeF left x i
    rw [sameKey_S, h4]
    rfl

/-- 'delete(m, id)' in the round. -/
theorem smap_del_range (hg : o.guard = none) (m x : Operand) (t : TypeId) (hop : o.op = Op.call { callee := Callee.builtin Builtin.delete, args := #[m, x], argTypes := #[t, 9] }) (e : TypeId) (ht : Tryd.prog.underlying t = some (.map 9 e))
    (b r : Nat) (f : ByteArray → Option Value) (n : Nat) (left : ByteArray → Bool) (cnt : Nat) (hm : a.eval m = .map (some b)) (h : SRange w b r f n left cnt) (id : ByteArray) (hid : id.size ≤ maxLen) (hx : a.eval x = .string id)
    (hK : ∀ w' cnt', SRange w' b r (delF f id) (delN f id n) (strikeF left id) cnt' → cnt' ≤ cnt → Kept (fun k => k = b) w w' → wpList Tryd.prog ops Q rest (a.put o.dst (.tuple #[])) w') : wpList Tryd.prog ops Q (o :: rest) a w := by
  obtain ⟨D, lf, N, hr, h1, h2, h3, h4⟩ := h
  refine wpList_delete_ranges w hg m x t 9 hop e lawStr ht heldElem b r N D lf cnt hm hr _ _ hx (keyS_of hid) ?_
  intro w' cnt' hr' hle ht'
  have hT := hr.owns.tidy lawStr
  have hsz : Maps.size (D.del (keyS id)) = delN f id n := by
    unfold delN
    have := size_del (k := keyS id) hT
    rw [h2, h1] at this
    cases hc : (f id).isSome <;> rw [hc] at this <;> simp at this ⊢ <;> omega
  refine hK w' cnt' ⟨D.del (keyS id), _, N, hr', hsz, fun i => ?_, fun i z => ?_, fun i => ?_⟩ hle ((Kept.of_grown ht'.grown).mono (fun k _ e => by simpa using e.symm))
  · unfold delF
    by_cases e : i = id
    · subst e
      rw [if_pos rfl]
      exact has_del_same
    · rw [if_neg e, has_del_other (fun e' => e (keyS_inj e'))]
      exact h2 i
  · unfold delF
    by_cases e : i = id
    · subst e
      rw [if_pos rfl]
      exact atKey_del_same _
    · rw [if_neg e, atKey_del_other (fun e' => e (keyS_inj e'))]
      exact h3 i z
  · show (lf (keyS i) && !(keyS i).sameKey (keyS id)) = strikeF left id i
    rw [sameKey_S, h4]
    rfl
end
end Go.Proofs.YthhildeocedpiaaDoor
