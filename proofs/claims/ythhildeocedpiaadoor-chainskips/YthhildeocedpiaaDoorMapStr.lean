/- A map of texts to whatever values: what is in by each text; how it is looked up in, written, and struck from. -/
import Derived.Test.YthhildeocedpiaaDoorQueue
import Derived.Maps.OwnSet
import Derived.Maps.OwnOps
import Derived.StringKeys
namespace Go.Proofs.YthhildeocedpiaaDoor
open Go Go.RowKit Go.Maps
set_option linter.unusedVariables false

/-- Values as they are. -/
def heldElem (v : Value) : Option (DataW Value × List MemPlace) := some (.held v, [])

/-- A text as a key. -/
def keyS (id : ByteArray) : Lit := .string id.data.toList

theorem keyS_inj {a b : ByteArray} (h : keyS a = keyS b) : a = b := by
  unfold keyS at h
  simp only [Lit.string.injEq] at h
  cases a
  cases b
  simpa using h

theorem keyS_ok (id : ByteArray) : WideAt.IsKeyLit (keyS id) := trivial

theorem lawStr : Keyed Tryd.prog 9 := string_keyed Tryd.underlying9

theorem keyS_of {id : ByteArray} (h : id.size ≤ maxLen) : keyOf Tryd.prog 9 (.string id) = some (keyS id) := Go.WideMaps.keyOf_string_mk Tryd.underlying9 h

/-- Block b is a map that holds by each text what f tells, n things in all. -/
def SMap (w : World) (b : Nat) (f : ByteArray → Option Value) (n : Nat) : Prop :=
  ∃ D : DataW Value, w.ownsMap Tryd.prog 9 heldElem b n D ∧ Maps.size D = n ∧ (∀ id, Maps.has D (keyS id) = (f id).isSome) ∧ ∀ id z, D.atKey (keyS id) z = match f id with | some v => .held v | none => z

theorem owns_tight {k : TypeId} {R : Value → Option (DataW Value × List MemPlace)} {w : World} {b n : Nat} {D : DataW Value} (h : w.ownsMap Tryd.prog k R b n D) : w.ownsMap Tryd.prog k R b (Maps.size D) D := by
  obtain ⟨es, clock, hb, F, hs, rfl⟩ := h
  refine ⟨es, clock, hb, F, ?_, rfl⟩
  rw [Maps.size_eq, length_read]
  exact Nat.le_refl _

theorem SMap.lt {w : World} {b : Nat} {f : ByteArray → Option Value} {n : Nat} (h : SMap w b f n) : b < w.heap.size := by
  obtain ⟨D, h1, _⟩ := h
  exact h1.lt

theorem SMap.keep {w w' : World} {b : Nat} {f : ByteArray → Option Value} {n : Nat} (h : SMap w b f n) (hk : w'.heap[b]? = w.heap[b]?) : SMap w' b f n := by
  obtain ⟨D, ⟨es, clock, hb, F, hs, hD⟩, h2⟩ := h
  exact ⟨D, ⟨es, clock, hk.trans hb, F, hs, hD⟩, h2⟩

theorem SMap.kept {S : Nat → Prop} {w w' : World} {b : Nat} {f : ByteArray → Option Value} {n : Nat} (h : SMap w b f n) (hk : Kept S w w') (hb : ¬ S b) : SMap w' b f n := h.keep (hk.block b h.lt hb)

theorem SMap.below {w w' : World} {b : Nat} {f : ByteArray → Option Value} {n : Nat} (h : SMap w b f n) (hb : Below w.heap.size w w') : SMap w' b f n := h.keep (hb.block b h.lt)

theorem SMap.congr {w : World} {b : Nat} {f g : ByteArray → Option Value} {n : Nat} (h : SMap w b f n) (e : ∀ id, g id = f id) : SMap w b g n := by
  obtain rfl : g = f := funext e
  exact h

theorem SMap.new (w : World) : SMap (w.alloc (.map #[] 0)) w.heap.size (fun _ => none) 0 :=
  ⟨.map [], World.ownsMap_made w _ _ _, rfl, fun _ => rfl, fun _ _ => rfl⟩

/-- How many there are behind it. -/
def putN (f : ByteArray → Option Value) (id : ByteArray) (n : Nat) : Nat := if (f id).isSome = true then n else n + 1
def delN (f : ByteArray → Option Value) (id : ByteArray) (n : Nat) : Nat := if (f id).isSome = true then n - 1 else n

/-- What is put in. -/
def putF (f : ByteArray → Option Value) (id : ByteArray) (v : Value) (i : ByteArray) : Option Value := if i = id then some v else f i
def delF (f : ByteArray → Option Value) (id : ByteArray) (i : ByteArray) : Option Value := if i = id then none else f i

theorem SMap.puts {w w' : World} {b : Nat} {f : ByteArray → Option Value} {n m : Nat} {D : DataW Value} {id : ByteArray} {v : Value} (ho : w.ownsMap Tryd.prog 9 heldElem b n D) (h1 : Maps.size D = n) (h2 : ∀ id, Maps.has D (keyS id) = (f id).isSome) (h3 : ∀ id z, D.atKey (keyS id) z = match f id with | some v => .held v | none => z)
    (h : w'.ownsMap Tryd.prog 9 heldElem b m (D.put (keyS id) (.held v))) : SMap w' b (putF f id v) (putN f id n) := by
  have hT := ho.tidy lawStr
  have hsz : Maps.size (D.put (keyS id) (.held v)) = putN f id n := by
    unfold putN
    rw [size_put hT, h2, h1]
  refine ⟨_, by rw [← hsz]; exact owns_tight h, hsz, fun i => ?_, fun i z => ?_⟩
  · unfold putF
    by_cases e : i = id
    · subst e
      rw [if_pos rfl]
      exact has_put_same hT.isMap (keyS_ok _) _
    · rw [if_neg e, has_put_other (fun e' => e (keyS_inj e'))]
      exact h2 i
  · unfold putF
    by_cases e : i = id
    · subst e
      rw [if_pos rfl]
      exact atKey_put_same hT.isMap (keyS_ok _) _ _
    · rw [if_neg e, atKey_put_other (fun e' => e (keyS_inj e'))]
      exact h3 i z

theorem SMap.dels {w w' : World} {b : Nat} {f : ByteArray → Option Value} {n m : Nat} {D : DataW Value} {id : ByteArray} (ho : w.ownsMap Tryd.prog 9 heldElem b n D) (h1 : Maps.size D = n) (h2 : ∀ id, Maps.has D (keyS id) = (f id).isSome) (h3 : ∀ id z, D.atKey (keyS id) z = match f id with | some v => .held v | none => z)
    (h : w'.ownsMap Tryd.prog 9 heldElem b m (D.del (keyS id))) : SMap w' b (delF f id) (delN f id n) := by
  have hT := ho.tidy lawStr
  have hsz : Maps.size (D.del (keyS id)) = delN f id n := by
    unfold delN
    have := size_del (k := keyS id) hT
    rw [h2, h1] at this
    cases hc : (f id).isSome <;> rw [hc] at this <;> simp at this ⊢ <;> omega
  refine ⟨_, by rw [← hsz]; exact owns_tight h, hsz, fun i => ?_, fun i z => ?_⟩
  · unfold delF
    by_cases e : i = id
    · subst e
      rw [if_pos rfl]
      exact has_del_same
    · rw [if_neg e, has_del_other (fun e' => e (keyS_inj e'))]
      exact h2 i
  · unfold delF
    by_cases e : i = id
    · subst e
      rw [if_pos rfl]
      exact atKey_del_same _
    · rw [if_neg e, atKey_del_other (fun e' => e (keyS_inj e'))]
      exact h3 i z

section
variable {w : World} {ops : Array Oper} {rest : List Oper} {o : Oper} {a : Act} {Q : Exit → Act → World → Prop}

/-- 'v, ok := m[id]'. -/
theorem smap_look_ok (hw : Region.wanted o (yielded ops a.tmps) = true) (m x : Operand) (t : TypeId) (hop : o.op = Op.lookup t m x true) (e : TypeId) (ht : Tryd.prog.underlying t = some (.map 9 e)) (z : Value) (hz : (zeroValue e).run Tryd.prog w = .ok z w)
    (b : Nat) (f : ByteArray → Option Value) (n : Nat) (hm : a.eval m = .map (some b)) (h : SMap w b f n) (id : ByteArray) (hid : id.size ≤ maxLen) (hx : a.eval x = .string id)
    (hK : wpList Tryd.prog ops Q rest (a.put o.dst (.tuple #[(f id).getD z, .bool (f id).isSome])) w) : wpList Tryd.prog ops Q (o :: rest) a w := by
  obtain ⟨D, ho, h1, h2, h3⟩ := h
  refine wpList_step fun K' hK' => ?_
  rw [if_pos hw]
  obtain ⟨v, ps, hrun, hv⟩ := ho.look_ok lawStr ht hz (zd := .held z) (zp := []) rfl (keyS_of hid)
  have e1 : v = (f id).getD z := by
    have := h3 id (.held z)
    unfold heldElem at hv
    simp only [Option.some.injEq, Prod.mk.injEq] at hv
    rw [this] at hv
    cases hf : f id with
    | none => rw [hf] at hv; simpa using hv.1
    | some u => rw [hf] at hv; simpa using hv.1
  subst e1
  rw [h2] at hrun
  unfold Oper.wp
  simp [execOp, hop, hm, hx, hrun, Result.andThen]
  exact hK' _ _ hK

/-- 'm[id]'. -/
theorem smap_look (hw : Region.wanted o (yielded ops a.tmps) = true) (m x : Operand) (t : TypeId) (hop : o.op = Op.lookup t m x false) (e : TypeId) (ht : Tryd.prog.underlying t = some (.map 9 e)) (z : Value) (hz : (zeroValue e).run Tryd.prog w = .ok z w)
    (b : Nat) (f : ByteArray → Option Value) (n : Nat) (hm : a.eval m = .map (some b)) (h : SMap w b f n) (id : ByteArray) (hid : id.size ≤ maxLen) (hx : a.eval x = .string id)
    (hK : wpList Tryd.prog ops Q rest (a.put o.dst ((f id).getD z)) w) : wpList Tryd.prog ops Q (o :: rest) a w := by
  obtain ⟨D, ho, h1, h2, h3⟩ := h
  refine wpList_step fun K' hK' => ?_
  rw [if_pos hw]
  obtain ⟨v, ps, hrun, hv⟩ := ho.lookup lawStr ht hz (zd := .held z) (zp := []) rfl (keyS_of hid)
  have e1 : v = (f id).getD z := by
    have := h3 id (.held z)
    unfold heldElem at hv
    simp only [Option.some.injEq, Prod.mk.injEq] at hv
    rw [this] at hv
    cases hf : f id with
    | none => rw [hf] at hv; simpa using hv.1
    | some u => rw [hf] at hv; simpa using hv.1
  subst e1
  unfold Oper.wp
  simp [execOp, hop, hm, hx, hrun, Result.andThen]
  exact hK' _ _ hK

/-- 'm[id] = v'. -/
theorem smap_put (hg : o.guard = none) (m x v : Operand) (t : TypeId) (hop : o.op = Op.mapUpdate t m x v) (e : TypeId) (ht : Tryd.prog.underlying t = some (.map 9 e))
    (b : Nat) (f : ByteArray → Option Value) (n : Nat) (hm : a.eval m = .map (some b)) (h : SMap w b f n) (hn : n < maxLen) (id : ByteArray) (hid : id.size ≤ maxLen) (hx : a.eval x = .string id) (u : Value) (hv : a.eval v = u)
    (hK : ∀ w', SMap w' b (putF f id u) (putN f id n) → Kept (fun k => k = b) w w' → wpList Tryd.prog ops Q rest (a.put o.dst undef) w') : wpList Tryd.prog ops Q (o :: rest) a w := by
  obtain ⟨D, ho, h1, h2, h3⟩ := h
  refine wpList_mapUpdate_own w hg m x v t hop 9 e lawStr ht heldElem b n D hm ho hn _ _ _ hx hv (keyS_of hid) (.held u) [] rfl ?_
  intro w' ho' hg'
  refine hK w' (SMap.puts ho h1 h2 h3 ho') ((Kept.of_grown hg').mono (fun k _ e => by simpa using e.symm))

/-- 'delete(m, id)'. -/
theorem smap_del (hg : o.guard = none) (m x : Operand) (t : TypeId) (hop : o.op = Op.call { callee := Callee.builtin Builtin.delete, args := #[m, x], argTypes := #[t, 9] }) (e : TypeId) (ht : Tryd.prog.underlying t = some (.map 9 e))
    (b : Nat) (f : ByteArray → Option Value) (n : Nat) (hm : a.eval m = .map (some b)) (h : SMap w b f n) (id : ByteArray) (hid : id.size ≤ maxLen) (hx : a.eval x = .string id)
    (hK : ∀ w', SMap w' b (delF f id) (delN f id n) → Kept (fun k => k = b) w w' → wpList Tryd.prog ops Q rest (a.put o.dst (.tuple #[])) w') : wpList Tryd.prog ops Q (o :: rest) a w := by
  obtain ⟨D, ho, h1, h2, h3⟩ := h
  refine wpList_delete_own w hg m x t 9 hop e lawStr ht heldElem b n D hm ho _ _ hx (keyS_of hid) ?_
  intro w' ho' ht'
  refine hK w' (SMap.dels ho h1 h2 h3 ho') ((Kept.of_grown ht'.grown).mono (fun k _ e => by simpa using e.symm))

/-- 'len(m)'. -/
theorem smap_len (hw : Region.wanted o (yielded ops a.tmps) = true) (m : Operand) (t : TypeId) (hop : o.op = Op.call { callee := Callee.builtin Builtin.len, args := #[m], argTypes := #[t] }) (e : TypeId) (ht : Tryd.prog.underlying t = some (.map 9 e))
    (b : Nat) (f : ByteArray → Option Value) (n : Nat) (hm : a.eval m = .map (some b)) (h : SMap w b f n) (hK : wpList Tryd.prog ops Q rest (a.put o.dst (.int .i64 (n : Int))) w) : wpList Tryd.prog ops Q (o :: rest) a w := by
  obtain ⟨D, ho, h1, h2, h3⟩ := h
  refine wpList_step fun K' hK' => ?_
  rw [if_pos hw]
  have hl := ho.len ht o.type
  rw [h1] at hl
  unfold Oper.wp
  simp [execOp, hop, resolve, invoke, builtin, hm, hl, Result.andThen]
  exact hK' _ _ hK
end
end Go.Proofs.YthhildeocedpiaaDoor
