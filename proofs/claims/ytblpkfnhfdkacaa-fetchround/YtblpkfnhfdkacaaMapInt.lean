/- A map of numbers to whatever values: what is in by each number; how it is looked up in, written, and struck from. -/
import Derived.Test.YtblpkfnhfdkacaaMapStr
import Derived.Maps.OwnSet
import Derived.Maps.OwnOps
namespace Go.Proofs.Ytblpkfnhfdkacaa
open Go Go.RowKit Go.Maps
set_option linter.unusedVariables false

/-- A number as a key. -/
def keyI (id : Int) : Lit := .int .i64 id

theorem keyI_inj {a b : Int} (h : keyI a = keyI b) : a = b := by
  unfold keyI at h
  simpa using h

theorem keyI_ok (id : Int) : WideAt.IsKeyLit (keyI id) := trivial

theorem lawI : Keyed Try.prog 3 := int_keyed Try.underlying3

theorem keyI_of {id : Int} (h : (Lit.int .i64 id).wf = true) : keyOf Try.prog 3 (.int .i64 id) = some (keyI id) := keyOf_int_mk Try.underlying3 h

/-- Block b is a map that holds by each number what f tells, n things in all. -/
def IMap (w : World) (b : Nat) (f : Int → Option Value) (n : Nat) : Prop :=
  ∃ D : DataW Value, w.ownsMap Try.prog 3 heldElem b n D ∧ Maps.size D = n ∧ (∀ id, Maps.has D (keyI id) = (f id).isSome) ∧ ∀ id z, D.atKey (keyI id) z = match f id with | some v => .held v | none => z

theorem IMap.lt {w : World} {b : Nat} {f : Int → Option Value} {n : Nat} (h : IMap w b f n) : b < w.heap.size := by
  obtain ⟨D, h1, _⟩ := h
  exact h1.lt

theorem IMap.keep {w w' : World} {b : Nat} {f : Int → Option Value} {n : Nat} (h : IMap w b f n) (hk : w'.heap[b]? = w.heap[b]?) : IMap w' b f n := by
  obtain ⟨D, ⟨es, clock, hb, F, hs, hD⟩, h2⟩ := h
  exact ⟨D, ⟨es, clock, hk.trans hb, F, hs, hD⟩, h2⟩

theorem IMap.kept {S : Nat → Prop} {w w' : World} {b : Nat} {f : Int → Option Value} {n : Nat} (h : IMap w b f n) (hk : Kept S w w') (hb : ¬ S b) : IMap w' b f n := h.keep (hk.block b h.lt hb)

theorem IMap.below {w w' : World} {b : Nat} {f : Int → Option Value} {n : Nat} (h : IMap w b f n) (hb : Below w.heap.size w w') : IMap w' b f n := h.keep (hb.block b h.lt)

theorem IMap.congr {w : World} {b : Nat} {f g : Int → Option Value} {n : Nat} (h : IMap w b f n) (e : ∀ id, g id = f id) : IMap w b g n := by
  obtain rfl : g = f := funext e
  exact h

theorem IMap.new (w : World) : IMap (w.alloc (.map #[] 0)) w.heap.size (fun _ => none) 0 :=
  ⟨.map [], World.ownsMap_made w _ _ _, rfl, fun _ => rfl, fun _ _ => rfl⟩

/-- How many there are behind it. -/
def putNI (f : Int → Option Value) (id : Int) (n : Nat) : Nat := if (f id).isSome = true then n else n + 1
def delNI (f : Int → Option Value) (id : Int) (n : Nat) : Nat := if (f id).isSome = true then n - 1 else n

/-- What is put in. -/
def putFI (f : Int → Option Value) (id : Int) (v : Value) (i : Int) : Option Value := if i = id then some v else f i
def delFI (f : Int → Option Value) (id : Int) (i : Int) : Option Value := if i = id then none else f i

theorem IMap.puts {w w' : World} {b : Nat} {f : Int → Option Value} {n m : Nat} {D : DataW Value} {id : Int} {v : Value} (ho : w.ownsMap Try.prog 3 heldElem b n D) (h1 : Maps.size D = n) (h2 : ∀ id, Maps.has D (keyI id) = (f id).isSome) (h3 : ∀ id z, D.atKey (keyI id) z = match f id with | some v => .held v | none => z)
    (h : w'.ownsMap Try.prog 3 heldElem b m (D.put (keyI id) (.held v))) : IMap w' b (putFI f id v) (putNI f id n) := by
  have hT := ho.tidy lawI
  have hsz : Maps.size (D.put (keyI id) (.held v)) = putNI f id n := by
    unfold putNI
    rw [size_put hT, h2, h1]
  refine ⟨_, by rw [← hsz]; exact owns_tight h, hsz, fun i => ?_, fun i z => ?_⟩
  · unfold putFI
    by_cases e : i = id
    · subst e
      rw [if_pos rfl]
      exact has_put_same hT.isMap (keyI_ok _) _
    · rw [if_neg e, has_put_other (fun e' => e (keyI_inj e'))]
      exact h2 i
  · unfold putFI
    by_cases e : i = id
    · subst e
      rw [if_pos rfl]
      exact atKey_put_same hT.isMap (keyI_ok _) _ _
    · rw [if_neg e, atKey_put_other (fun e' => e (keyI_inj e'))]
      exact h3 i z

theorem IMap.dels {w w' : World} {b : Nat} {f : Int → Option Value} {n m : Nat} {D : DataW Value} {id : Int} (ho : w.ownsMap Try.prog 3 heldElem b n D) (h1 : Maps.size D = n) (h2 : ∀ id, Maps.has D (keyI id) = (f id).isSome) (h3 : ∀ id z, D.atKey (keyI id) z = match f id with | some v => .held v | none => z)
    (h : w'.ownsMap Try.prog 3 heldElem b m (D.del (keyI id))) : IMap w' b (delFI f id) (delNI f id n) := by
  have hT := ho.tidy lawI
  have hsz : Maps.size (D.del (keyI id)) = delNI f id n := by
    unfold delNI
    have := size_del (k := keyI id) hT
    rw [h2, h1] at this
    cases hc : (f id).isSome <;> rw [hc] at this <;> simp at this ⊢ <;> omega
  refine ⟨_, by rw [← hsz]; exact owns_tight h, hsz, fun i => ?_, fun i z => ?_⟩
  · unfold delFI
    by_cases e : i = id
    · subst e
      rw [if_pos rfl]
      exact has_del_same
    · rw [if_neg e, has_del_other (fun e' => e (keyI_inj e'))]
      exact h2 i
  · unfold delFI
    by_cases e : i = id
    · subst e
      rw [if_pos rfl]
      exact atKey_del_same _
    · rw [if_neg e, atKey_del_other (fun e' => e (keyI_inj e'))]
      exact h3 i z

section
variable {w : World} {ops : Array Oper} {rest : List Oper} {o : Oper} {a : Act} {Q : Exit → Act → World → Prop}

/-- 'v, ok := m[id]'. -/
theorem imap_look_ok (hw : Region.wanted o (yielded ops a.tmps) = true) (m x : Operand) (t : TypeId) (hop : o.op = Op.lookup t m x true) (e : TypeId) (ht : Try.prog.underlying t = some (.map 3 e)) (z : Value) (hz : (zeroValue e).run Try.prog w = .ok z w)
    (b : Nat) (f : Int → Option Value) (n : Nat) (hm : a.eval m = .map (some b)) (h : IMap w b f n) (id : Int) (hid : (Lit.int .i64 id).wf = true) (hx : a.eval x = .int .i64 id)
    (hK : wpList Try.prog ops Q rest (a.put o.dst (.tuple #[(f id).getD z, .bool (f id).isSome])) w) : wpList Try.prog ops Q (o :: rest) a w := by
  obtain ⟨D, ho, h1, h2, h3⟩ := h
  refine wpList_step fun K' hK' => ?_
  rw [if_pos hw]
  obtain ⟨v, ps, hrun, hv⟩ := ho.look_ok lawI ht hz (zd := .held z) (zp := []) rfl (keyI_of hid)
  have e1 : v = (f id).getD z := by
    have := h3 id (.held z)
    unfold heldElem at hv
    simp only [Option.some.injEq, Prod.mk.injEq] at hv
    rw [this] at hv
    cases hf : f id with
    | none => rw [hf] at hv; simpa using hv.1
    | some u => rw [hf] at hv; simpa using hv.1
  subst e1
  rw [h2] at hrun
  unfold Oper.wp
  simp [execOp, hop, hm, hx, hrun, Result.andThen]
  exact hK' _ _ hK

/-- 'm[id]'. -/
theorem imap_look (hw : Region.wanted o (yielded ops a.tmps) = true) (m x : Operand) (t : TypeId) (hop : o.op = Op.lookup t m x false) (e : TypeId) (ht : Try.prog.underlying t = some (.map 3 e)) (z : Value) (hz : (zeroValue e).run Try.prog w = .ok z w)
    (b : Nat) (f : Int → Option Value) (n : Nat) (hm : a.eval m = .map (some b)) (h : IMap w b f n) (id : Int) (hid : (Lit.int .i64 id).wf = true) (hx : a.eval x = .int .i64 id)
    (hK : wpList Try.prog ops Q rest (a.put o.dst ((f id).getD z)) w) : wpList Try.prog ops Q (o :: rest) a w := by
  obtain ⟨D, ho, h1, h2, h3⟩ := h
  refine wpList_step fun K' hK' => ?_
  rw [if_pos hw]
  obtain ⟨v, ps, hrun, hv⟩ := ho.lookup lawI ht hz (zd := .held z) (zp := []) rfl (keyI_of hid)
  have e1 : v = (f id).getD z := by
    have := h3 id (.held z)
    unfold heldElem at hv
    simp only [Option.some.injEq, Prod.mk.injEq] at hv
    rw [this] at hv
    cases hf : f id with
    | none => rw [hf] at hv; simpa using hv.1
    | some u => rw [hf] at hv; simpa using hv.1
  subst e1
  unfold Oper.wp
  simp [execOp, hop, hm, hx, hrun, Result.andThen]
  exact hK' _ _ hK

/-- 'm[id] = v'. -/
theorem imap_put (hg : o.guard = none) (m x v : Operand) (t : TypeId) (hop : o.op = Op.mapUpdate t m x v) (e : TypeId) (ht : Try.prog.underlying t = some (.map 3 e))
    (b : Nat) (f : Int → Option Value) (n : Nat) (hm : a.eval m = .map (some b)) (h : IMap w b f n) (hn : n < maxLen) (id : Int) (hid : (Lit.int .i64 id).wf = true) (hx : a.eval x = .int .i64 id) (u : Value) (hv : a.eval v = u)
    (hK : ∀ w', IMap w' b (putFI f id u) (putNI f id n) → Kept (fun k => k = b) w w' → wpList Try.prog ops Q rest (a.put o.dst undef) w') : wpList Try.prog ops Q (o :: rest) a w := by
  obtain ⟨D, ho, h1, h2, h3⟩ := h
  refine wpList_mapUpdate_own w hg m x v t hop 3 e lawI ht heldElem b n D hm ho hn _ _ _ hx hv (keyI_of hid) (.held u) [] rfl ?_
  intro w' ho' hg'
  refine hK w' (IMap.puts ho h1 h2 h3 ho') ((Kept.of_grown hg').mono (fun k _ e => by simpa using e.symm))

/-- 'delete(m, id)'. -/
theorem imap_del (hg : o.guard = none) (m x : Operand) (t : TypeId) (hop : o.op = Op.call { callee := Callee.builtin Builtin.delete, args := #[m, x], argTypes := #[t, 3] }) (e : TypeId) (ht : Try.prog.underlying t = some (.map 3 e))
    (b : Nat) (f : Int → Option Value) (n : Nat) (hm : a.eval m = .map (some b)) (h : IMap w b f n) (id : Int) (hid : (Lit.int .i64 id).wf = true) (hx : a.eval x = .int .i64 id)
    (hK : ∀ w', IMap w' b (delFI f id) (delNI f id n) → Kept (fun k => k = b) w w' → wpList Try.prog ops Q rest (a.put o.dst (.tuple #[])) w') : wpList Try.prog ops Q (o :: rest) a w := by
  obtain ⟨D, ho, h1, h2, h3⟩ := h
  refine wpList_delete_own w hg m x t 3 hop e lawI ht heldElem b n D hm ho _ _ hx (keyI_of hid) ?_
  intro w' ho' ht'
  refine hK w' (IMap.dels ho h1 h2 h3 ho') ((Kept.of_grown ht'.grown).mono (fun k _ e => by simpa using e.symm))

/-- 'len(m)'. -/
theorem imap_len (hw : Region.wanted o (yielded ops a.tmps) = true) (m : Operand) (t : TypeId) (hop : o.op = Op.call { callee := Callee.builtin Builtin.len, args := #[m], argTypes := #[t] }) (e : TypeId) (ht : Try.prog.underlying t = some (.map 3 e))
    (b : Nat) (f : Int → Option Value) (n : Nat) (hm : a.eval m = .map (some b)) (h : IMap w b f n) (hK : wpList Try.prog ops Q rest (a.put o.dst (.int .i64 (n : Int))) w) : wpList Try.prog ops Q (o :: rest) a w := by
  obtain ⟨D, ho, h1, h2, h3⟩ := h
  refine wpList_step fun K' hK' => ?_
  rw [if_pos hw]
  have hl := ho.len ht o.type
  rw [h1] at hl
  unfold Oper.wp
  simp [execOp, hop, resolve, invoke, builtin, hm, hl, Result.andThen]
  exact hK' _ _ hK
end
end Go.Proofs.Ytblpkfnhfdkacaa
