/- A map of places, which are complex numbers, to whatever values: what is in by each place; how it is looked up in, written, struck from, and gone through. The library's laws on maps go by 'keyOf', which answers none for complex numbers: these go by the block itself. -/
import Derived.Test.YtfbpjdjajecajaaPlaceCon
import Derived.Test.YtfbpjdjajecajaaQueue
import Derived.Maps.RangeWalk
import Derived.WideKeyRuns
namespace Go.Proofs.Ytfbpjdjajecajaa
open Go Go.RowKit Go.Maps
open Go.ChangeMaps (setBlock heap_setBlock_same heap_setBlock_other)
open Go.MapKept (Stamped stamped_iff stamped_push stamped_modify stamped_erase)
set_option linter.unusedVariables false

def PlD.In (p : PlD) : Prop := p.r ≤ 1125899906842624 ∧ p.a ≤ 6

/-- A place as a value. -/
def kC (p : PlD) : Value := .complex .f64 (plX p) (plY p)

theorem kC_inj {p q : PlD} (hp : p.In) (hq : q.In) (h : kC p = kC q) : p = q := by
  have h1 := plXY hp.1 hp.2
  have h2 := plXY hq.1 hq.2
  simp only [kC, Value.complex.injEq, true_and] at h
  rw [h.1, h.2, h2] at h1
  exact (Option.some.inj h1).symm

theorem eqC_at (w : World) (d : Nat) (x y u v : Nat) : (Op.equalIn (d + 1) 45 (.complex .f64 x y) (.complex .f64 u v)).run Try.prog w = .ok (Op.floatEq .f64 x u && Op.floatEq .f64 y v) w := by
  simp only [Op.equalIn, Sem.run_bind, run_underlying Try.underlying45, Result.andThen, if_true]
  rfl

theorem eqC_run (w : World) {p q : PlD} (hp : p.In) (hq : q.In) : (Op.equal 45 (kC p) (kC q)).run Try.prog w = .ok (decide (p = q)) w := by
  have h := plC_eq (plXY hp.1 hp.2) (plXY hq.1 hq.2)
  rw [← h]
  exact eqC_at w 9999 _ _ _ _

theorem findC_at (w : World) {p : PlD} (hp : p.In) : ∀ (es : List MapEntry) (i : Nat), (∀ e ∈ es, ∃ q : PlD, q.In ∧ e.key = kC q) →
    ((Instr.findAsking 45 (kC p) es i).run Try.prog w = .ok none w ∧ ∀ e ∈ es, e.key ≠ kC p) ∨
    ∃ j e, (Instr.findAsking 45 (kC p) es i).run Try.prog w = .ok (some (i + j, e.val)) w ∧ es[j]? = some e ∧ e.key = kC p
  | [], i, _ => Or.inl ⟨by simp [Instr.findAsking], by simp⟩
  | e :: es, i, hall => by
    obtain ⟨q, hq, hk⟩ := hall e (List.mem_cons_self ..)
    have hr := eqC_run w hp hq
    by_cases hpq : p = q
    · subst hpq
      rw [decide_eq_true rfl] at hr
      exact Or.inr ⟨0, e, by simp [Instr.findAsking, hk, hr], rfl, hk⟩
    · rw [decide_eq_false hpq] at hr
      rcases findC_at w hp es (i + 1) (fun y hy => hall y (List.mem_cons_of_mem _ hy)) with ⟨h1, h2⟩ | ⟨j, e', h1, h2, h3⟩
      · refine Or.inl ⟨by simp [Instr.findAsking, hk, hr, h1], fun y hy => ?_⟩
        rcases List.mem_cons.1 hy with rfl | hy
        · rw [hk]; exact fun h => hpq (kC_inj hq hp h).symm
        · exact h2 y hy
      · exact Or.inr ⟨j + 1, e', by simp [Instr.findAsking, hk, hr, h1, Nat.add_assoc, Nat.add_comm 1 j], by simpa using h2, h3⟩

theorem findC (w : World) {p : PlD} (hp : p.In) (es : List MapEntry) (hall : ∀ e ∈ es, ∃ q : PlD, q.In ∧ e.key = kC q) :
    ((Instr.findKey 45 (kC p) es).run Try.prog w = .ok none w ∧ ∀ e ∈ es, e.key ≠ kC p) ∨
    ∃ j e, (Instr.findKey 45 (kC p) es).run Try.prog w = .ok (some (j, e.val)) w ∧ es[j]? = some e ∧ e.key = kC p := by
  have hf : (Instr.findKey 45 (kC p) es).run Try.prog w = (Instr.findAsking 45 (kC p) es 0).run Try.prog w := by
    cases es with
    | nil => simp [Instr.findKey, run_underlying Try.underlying45, Instr.findNow, Instr.findAsking]
    | cons e es => simp [Instr.findKey, run_underlying Try.underlying45, Instr.findNow, Instr.sameNow, kC]
  rw [hf]
  have := findC_at w hp es 0 hall
  simpa using this

theorem checkC_at (w : World) (em : Bool) (d : Nat) (x y : Nat) : (Instr.checkKey em (d + 1) 45 (.complex .f64 x y)).run Try.prog w = .ok () w := by
  simp [Instr.checkKey, run_underlying Try.underlying45]

theorem checkC (w : World) (em : Bool) (p : PlD) : (Instr.checkKey em 10000 45 (kC p)).run Try.prog w = .ok () w := checkC_at w em 9999 _ _

theorem staysC (w : World) (p : PlD) : (Instr.keyThatStays (kC p) (kC p)).run Try.prog w = .ok (kC p) w := by
  unfold Instr.keyThatStays
  have : Instr.sameBits 10000 (kC p) (kC p) = true := by unfold kC; simp [Instr.sameBits]
  rw [if_pos this]
  rfl

/-- The entries of such a map. -/
structure FitC (es : Array MapEntry) (clock : Nat) : Prop where
  st : Stamped es clock
  keys : ∀ e ∈ es.toList, ∃ q : PlD, q.In ∧ e.key = kC q

/-- Block b is a map that holds by each place what f tells, n things in all. -/
def CMap (w : World) (b : Nat) (f : PlD → Option Value) (n : Nat) : Prop :=
  ∃ es clock, w.heap[b]? = some (.map es clock) ∧ FitC es clock ∧ es.size = n ∧ ∀ p v, p.In → (f p = some v ↔ ∃ e ∈ es.toList, e.key = kC p ∧ e.val = v)

theorem CMap.lt {w : World} {b : Nat} {f : PlD → Option Value} {n : Nat} (h : CMap w b f n) : b < w.heap.size := by
  obtain ⟨es, clock, hb, _⟩ := h
  exact (Array.getElem?_eq_some_iff.1 hb).1

theorem CMap.keep {w w' : World} {b : Nat} {f : PlD → Option Value} {n : Nat} (h : CMap w b f n) (hk : w'.heap[b]? = w.heap[b]?) : CMap w' b f n := by
  obtain ⟨es, clock, hb, r⟩ := h
  exact ⟨es, clock, hk.trans hb, r⟩

theorem CMap.kept {S : Nat → Prop} {w w' : World} {b : Nat} {f : PlD → Option Value} {n : Nat} (h : CMap w b f n) (hk : Kept S w w') (hb : ¬ S b) : CMap w' b f n := h.keep (hk.block b h.lt hb)

theorem CMap.below {w w' : World} {b : Nat} {f : PlD → Option Value} {n : Nat} (h : CMap w b f n) (hb : Below w.heap.size w w') : CMap w' b f n := h.keep (hb.block b h.lt)

theorem CMap.congr {w : World} {b : Nat} {f g : PlD → Option Value} {n : Nat} (h : CMap w b f n) (e : ∀ p, p.In → g p = f p) : CMap w b g n := by
  obtain ⟨es, clock, hb, h1, h2, h3⟩ := h
  exact ⟨es, clock, hb, h1, h2, fun p v hp => by rw [e p hp]; exact h3 p v hp⟩

theorem CMap.new (w : World) : CMap (w.alloc (.map #[] 0)) w.heap.size (fun _ => none) 0 :=
  ⟨#[], 0, heap_alloc_new w _, ⟨(stamped_iff _ _).2 ⟨by simp, by simp, by simp⟩, by simp⟩, rfl, fun p v _ => by simp⟩

def putC (f : PlD → Option Value) (p : PlD) (v : Value) (q : PlD) : Option Value := if q = p then some v else f q
def delC (f : PlD → Option Value) (p : PlD) (q : PlD) : Option Value := if q = p then none else f q
def putNC (f : PlD → Option Value) (p : PlD) (n : Nat) : Nat := if (f p).isSome = true then n else n + 1
def delNC (f : PlD → Option Value) (p : PlD) (n : Nat) : Nat := if (f p).isSome = true then n - 1 else n

/-- What is found. -/
theorem CMap.find {w : World} {b : Nat} {f : PlD → Option Value} {n : Nat} (h : CMap w b f n) {p : PlD} (hp : p.In) :
    ∃ es clock, w.heap[b]? = some (.map es clock) ∧ FitC es clock ∧ es.size = n ∧ (∀ q v, q.In → (f q = some v ↔ ∃ e ∈ es.toList, e.key = kC q ∧ e.val = v)) ∧
      (((Instr.findKey 45 (kC p) es.toList).run Try.prog w = .ok none w ∧ f p = none ∧ ∀ e ∈ es.toList, e.key ≠ kC p) ∨
        ∃ j e, (Instr.findKey 45 (kC p) es.toList).run Try.prog w = .ok (some (j, e.val)) w ∧ es.toList[j]? = some e ∧ e.key = kC p ∧ f p = some e.val) := by
  obtain ⟨es, clock, hb, F, hn, hf⟩ := h
  refine ⟨es, clock, hb, F, hn, hf, ?_⟩
  rcases findC w hp es.toList F.keys with ⟨h1, h2⟩ | ⟨j, e, h1, h2, h3⟩
  · refine Or.inl ⟨h1, ?_, h2⟩
    cases hv : f p with
    | none => rfl
    | some v =>
      obtain ⟨e, he, hk, _⟩ := (hf p v hp).1 hv
      exact (h2 e he hk).elim
  · exact Or.inr ⟨j, e, h1, h2, h3, (hf p e.val hp).2 ⟨e, List.mem_of_getElem? h2, h3, rfl⟩⟩

/-- 'v, ok := m[p]', 'm[p]' as a run. -/
theorem CMap.looks {w : World} {b : Nat} {f : PlD → Option Value} {n : Nat} (h : CMap w b f n) {t e : TypeId} (ht : Try.prog.underlying t = some (.map 45 e)) {z : Value} (hz : (zeroValue e).run Try.prog w = .ok z w) {p : PlD} (hp : p.In) (ok : Bool) :
    (Instr.lookup t (.map (some b)) (kC p) ok).run Try.prog w = .ok (if ok then .tuple #[(f p).getD z, .bool (f p).isSome] else (f p).getD z) w := by
  obtain ⟨es, clock, hb, F, hn, hf, hc⟩ := h.find hp
  rcases hc with ⟨h1, h2, _⟩ | ⟨j, x, h1, h2, h3, h4⟩
  · simp [Instr.lookup, run_underlying ht, MapKept.run_getObj_map hb, checkC w _ p, h1, hz, Result.andThen, h2]
  · simp [Instr.lookup, run_underlying ht, MapKept.run_getObj_map hb, checkC w _ p, h1, Result.andThen, h4]

theorem setB_kept {w : World} {b : Nat} {o o' : Obj} (hb : w.heap[b]? = some o) : Kept (fun k => k = b) w (setBlock w b o') :=
  ⟨rfl, rfl, rfl, by simp [setBlock], fun k _ hk => (MapKept.heap_set hb).2 k hk⟩

theorem keyC_unique {es : Array MapEntry} {clock : Nat} (F : FitC es clock) {i j : Nat} {x y : MapEntry} (hi : es.toList[i]? = some x) (hj : es.toList[j]? = some y) (hk : x.key = y.key) : i = j := by
  have h := ((stamped_iff _ _).1 F.st).2.2
  obtain ⟨hi1, hi2⟩ := List.getElem?_eq_some_iff.1 hi
  obtain ⟨hj1, hj2⟩ := List.getElem?_eq_some_iff.1 hj
  rcases Nat.lt_trichotomy i j with e | e | e
  · have := List.pairwise_iff_getElem.1 h i j hi1 hj1 e
    rw [hi2, hj2] at this
    exact (this hk).elim
  · exact e
  · have := List.pairwise_iff_getElem.1 h j i hj1 hi1 e
    rw [hi2, hj2] at this
    exact (this hk.symm).elim

/-- 'm[p] = u' as a run. -/
theorem CMap.update {w : World} {b : Nat} {f : PlD → Option Value} {n : Nat} (h : CMap w b f n) {t e : TypeId} (ht : Try.prog.underlying t = some (.map 45 e)) {p : PlD} (hp : p.In) (u : Value) :
    ∃ w', (Instr.mapUpdate t (.map (some b)) (kC p) u).run Try.prog w = .ok () w' ∧ CMap w' b (putC f p u) (putNC f p n) ∧ Kept (fun k => k = b) w w' ∧ w'.heap.size = w.heap.size := by
  obtain ⟨es, clock, hb, F, hn, hf, hc⟩ := h.find hp
  rcases hc with ⟨h1, h2, h3⟩ | ⟨j, x, h1, h2, h3, h4⟩
  · refine ⟨setBlock w b (.map (es.push { key := kC p, val := u, born := clock }) (clock + 1)), ?_, ⟨_, _, heap_setBlock_same hb _, ⟨stamped_push F.st h3, ?_⟩, ?_, ?_⟩, setB_kept hb, by simp [setBlock]⟩
    · simp [Instr.mapUpdate, run_underlying ht, MapKept.run_getObj_map hb, checkC w _ p, h1, MapKept.run_setObj_map _ hb, Result.andThen, setBlock]
    · intro y hy
      simp only [Array.toList_push, List.mem_append, List.mem_singleton] at hy
      rcases hy with hy | rfl
      · exact F.keys y hy
      · exact ⟨p, hp, rfl⟩
    · unfold putNC
      rw [h2]
      simp [hn]
    · intro q v hq
      unfold putC
      by_cases e : q = p
      · subst e
        rw [if_pos rfl]
        constructor
        · intro hv
          exact ⟨{ key := kC q, val := u, born := clock }, by simp, rfl, by simpa using hv⟩
        · rintro ⟨y, hy, hk, hv⟩
          simp only [Array.toList_push, List.mem_append, List.mem_singleton] at hy
          rcases hy with hy | rfl
          · exact (h3 y hy hk).elim
          · rw [← hv]
      · rw [if_neg e, hf q v hq]
        constructor
        · rintro ⟨y, hy, r⟩
          exact ⟨y, by simp [hy], r⟩
        · rintro ⟨y, hy, hk, hv⟩
          simp only [Array.toList_push, List.mem_append, List.mem_singleton] at hy
          rcases hy with hy | rfl
          · exact ⟨y, hy, hk, hv⟩
          · exact (e (kC_inj hp hq hk).symm).elim
  · have hj : j < es.size := by simpa using (List.getElem?_eq_some_iff.1 h2).1
    have hx : es[j]? = some x := by rw [← Array.getElem?_toList]; exact h2
    refine ⟨setBlock w b (.map (es.modify j fun e => { e with key := kC p, val := u }) clock), ?_, ⟨_, _, heap_setBlock_same hb _, ⟨stamped_modify F.st _ _ (fun _ _ => rfl) (fun e _ he => ?_), ?_⟩, ?_, ?_⟩, setB_kept hb, by simp [setBlock]⟩
    · have hst := staysC w p
      simp [Instr.mapUpdate, run_underlying ht, MapKept.run_getObj_map hb, checkC w _ p, h1, hx, h3, hst, MapKept.run_setObj_map _ hb, Result.andThen, setBlock]
    · rw [hx] at he
      simp only [Option.some.injEq] at he
      rw [← he]
      exact h3.symm
    · intro y hy
      obtain ⟨i, hi⟩ := List.getElem?_of_mem hy
      rw [Array.getElem?_toList, Array.getElem?_modify] at hi
      split at hi
      · rename_i e
        rw [← e, hx] at hi
        simp only [Option.map_some, Option.some.injEq] at hi
        rw [← hi]
        exact ⟨p, hp, rfl⟩
      · exact F.keys y (List.mem_of_getElem? (by rw [Array.getElem?_toList]; exact hi))
    · unfold putNC
      rw [h4]
      simp [hn]
    · intro q v hq
      unfold putC
      by_cases e : q = p
      · subst e
        rw [if_pos rfl]
        constructor
        · intro hv
          refine ⟨{ x with key := kC q, val := u }, List.mem_of_getElem? (i := j) ?_, rfl, by simpa using hv⟩
          rw [Array.getElem?_toList, Array.getElem?_modify, if_pos rfl, hx]
          rfl
        · rintro ⟨y, hy, hk, hv⟩
          obtain ⟨i, hi⟩ := List.getElem?_of_mem hy
          rw [Array.getElem?_toList, Array.getElem?_modify] at hi
          split at hi
          · rename_i e
            rw [← e, hx] at hi
            simp only [Option.map_some, Option.some.injEq] at hi
            rw [← hv, ← hi]
          · rename_i hne
            have := keyC_unique F h2 (by rw [Array.getElem?_toList]; exact hi) (h3.trans hk.symm)
            exact (hne this).elim
      · rw [if_neg e, hf q v hq]
        constructor
        · rintro ⟨y, hy, hk, hv⟩
          obtain ⟨i, hi⟩ := List.getElem?_of_mem hy
          refine ⟨y, List.mem_of_getElem? (i := i) ?_, hk, hv⟩
          rw [Array.getElem?_toList, Array.getElem?_modify, if_neg, ← Array.getElem?_toList]
          · exact hi
          · intro eij
            rw [← eij, h2] at hi
            simp only [Option.some.injEq] at hi
            rw [hi, hk] at h3
            exact e (kC_inj hq hp h3)
        · rintro ⟨y, hy, hk, hv⟩
          obtain ⟨i, hi⟩ := List.getElem?_of_mem hy
          rw [Array.getElem?_toList, Array.getElem?_modify] at hi
          split at hi
          · rename_i e'
            rw [← e', hx] at hi
            simp only [Option.map_some, Option.some.injEq] at hi
            rw [← hi] at hk
            exact (e (kC_inj hp hq hk).symm).elim
          · exact ⟨y, List.mem_of_getElem? (by rw [Array.getElem?_toList]; exact hi), hk, hv⟩

/-- 'len(m)' as a run. -/
theorem CMap.lens {w : World} {b : Nat} {f : PlD → Option Value} {n : Nat} (h : CMap w b f n) {t e : TypeId} (ht : Try.prog.underlying t = some (.map 45 e)) (ty : TypeId) :
    (Builtin.len_ #[t] ty #[.map (some b)]).run Try.prog w = .ok (.int .i64 (n : Int)) w := by
  obtain ⟨es, clock, hb, F, hn, hf⟩ := h
  simp [Builtin.len_, run_underlying ht, MapKept.run_getObj_map hb, Result.andThen, hn, goInt]

/-- What delete finds. -/
theorem dropC {w : World} {b : Nat} {es : Array MapEntry} {clock : Nat} (hb : w.heap[b]? = some (.map es clock)) (F : FitC es clock) {t e : TypeId} (ht : Try.prog.underlying t = some (.map 45 e)) (ty : TypeId) {p : PlD} (hp : p.In) :
    ∃ es', (Builtin.delete_ #[t, 45] ty #[.map (some b), kC p]).run Try.prog w = .ok (.tuple #[]) (setBlock w b (.map es' clock)) ∧ FitC es' clock ∧ es'.toList.Sublist es.toList ∧ (∀ x, x ∈ es'.toList ↔ (x ∈ es.toList ∧ x.key ≠ kC p)) ∧
      ((∃ x ∈ es.toList, x.key = kC p) → es'.size = es.size - 1) ∧ ((¬ ∃ x ∈ es.toList, x.key = kC p) → es'.size = es.size) := by
  rcases findC w hp es.toList F.keys with ⟨h1, h2⟩ | ⟨j, e0, h1, h2, h3⟩
  · refine ⟨es, ?_, F, List.Sublist.refl _, fun x => ⟨fun hx => ⟨hx, h2 x hx⟩, fun hx => hx.1⟩, fun ⟨x, hx, hk⟩ => (h2 x hx hk).elim, fun _ => rfl⟩
    · simp [Builtin.delete_, run_underlying ht, MapKept.run_getObj_map hb, checkC w _ p, h1, MapKept.run_setObj_map _ hb, Result.andThen, setBlock]
  · have hjl : j < es.toList.length := (List.getElem?_eq_some_iff.1 h2).1
    have hjs : j < es.size := by simpa using hjl
    have hsub : (es.eraseIdxIfInBounds j).toList = es.toList.eraseIdx j := by
      unfold Array.eraseIdxIfInBounds
      rw [dif_pos hjs]
      simp
    refine ⟨es.eraseIdxIfInBounds j, ?_, ⟨stamped_erase F.st j, fun x hx => ?_⟩, by rw [hsub]; exact List.eraseIdx_sublist _ _, fun x => ?_, fun _ => ?_, fun hn => (hn ⟨e0, List.mem_of_getElem? h2, h3⟩).elim⟩
    · simp [Builtin.delete_, run_underlying ht, MapKept.run_getObj_map hb, checkC w _ p, h1, MapKept.run_setObj_map _ hb, Result.andThen, setBlock]
    · rw [hsub] at hx
      exact F.keys x ((List.eraseIdx_sublist _ _).subset hx)
    · rw [hsub, List.mem_eraseIdx_iff_getElem?]
      constructor
      · rintro ⟨i, hne, hi⟩
        exact ⟨List.mem_of_getElem? hi, fun hk => hne (keyC_unique F hi h2 (hk.trans h3.symm))⟩
      · rintro ⟨hx, hne⟩
        obtain ⟨i, hi⟩ := List.getElem?_of_mem hx
        refine ⟨i, fun e1 => hne ?_, hi⟩
        rw [e1, h2] at hi
        cases hi
        exact h3
    · have hl : (es.eraseIdxIfInBounds j).toList.length = es.toList.length - 1 := by rw [hsub, List.length_eraseIdx, if_pos hjl]
      rw [Array.length_toList, Array.length_toList] at hl
      exact hl

/-- The map in block b is gone through by the iterator in block r: 'left' tells which places are still to come, cnt how many. -/
def CRange (w : World) (b r : Nat) (f : PlD → Option Value) (n : Nat) (left : PlD → Bool) (cnt : Nat) : Prop :=
  ∃ es clock since seen c0, w.heap[b]? = some (.map es clock) ∧ FitC es clock ∧ es.size = n ∧ (∀ p v, p.In → (f p = some v ↔ ∃ e ∈ es.toList, e.key = kC p ∧ e.val = v)) ∧
    w.heap[r]? = some (.mapIter (some b) since seen c0) ∧ (∀ x ∈ es.toList, x.born < since) ∧ (leftOf es seen).size = cnt ∧
    (∀ p, p.In → (left p = true ↔ ∃ e ∈ es.toList, e.key = kC p ∧ seen.contains e.born = false)) ∧ since ≤ c0 ∧ since ≤ clock

theorem CRange.map {w : World} {b r : Nat} {f : PlD → Option Value} {n : Nat} {left : PlD → Bool} {cnt : Nat} (h : CRange w b r f n left cnt) : CMap w b f n := by
  obtain ⟨es, clock, since, seen, c0, h1, h2, h3, h4, _⟩ := h
  exact ⟨es, clock, h1, h2, h3, h4⟩

theorem CRange.left_eq {w : World} {b r : Nat} {f : PlD → Option Value} {n : Nat} {left : PlD → Bool} {cnt : Nat} (h : CRange w b r f n left cnt) : w.rangeLeft b r = cnt := by
  obtain ⟨es, clock, since, seen, c0, h1, h2, h3, h4, h5, h6, h7, _⟩ := h
  unfold World.rangeLeft
  rw [h1, h5]
  exact h7

theorem CRange.lt {w : World} {b r : Nat} {f : PlD → Option Value} {n : Nat} {left : PlD → Bool} {cnt : Nat} (h : CRange w b r f n left cnt) : r < w.heap.size := by
  obtain ⟨es, clock, since, seen, c0, h1, h2, h3, h4, h5, _⟩ := h
  exact (Array.getElem?_eq_some_iff.1 h5).1

theorem CRange.ne {w : World} {b r : Nat} {f : PlD → Option Value} {n : Nat} {left : PlD → Bool} {cnt : Nat} (h : CRange w b r f n left cnt) : r ≠ b := by
  obtain ⟨es, clock, since, seen, c0, h1, h2, h3, h4, h5, _⟩ := h
  intro e
  rw [e, h1] at h5
  cases h5

theorem CRange.keep {w w' : World} {b r : Nat} {f : PlD → Option Value} {n : Nat} {left : PlD → Bool} {cnt : Nat} (h : CRange w b r f n left cnt) (hb : w'.heap[b]? = w.heap[b]?) (hr : w'.heap[r]? = w.heap[r]?) : CRange w' b r f n left cnt := by
  obtain ⟨es, clock, since, seen, c0, h1, h2, h3, h4, h5, h6⟩ := h
  exact ⟨es, clock, since, seen, c0, hb.trans h1, h2, h3, h4, hr.trans h5, h6⟩

theorem CRange.kept {S : Nat → Prop} {w w' : World} {b r : Nat} {f : PlD → Option Value} {n : Nat} {left : PlD → Bool} {cnt : Nat} (h : CRange w b r f n left cnt) (hk : Kept S w w') (hb : ¬ S b) (hr : ¬ S r) : CRange w' b r f n left cnt :=
  h.keep (hk.block b h.map.lt hb) (hk.block r h.lt hr)

theorem CRange.congr {w : World} {b r : Nat} {f g : PlD → Option Value} {n : Nat} {left : PlD → Bool} {cnt : Nat} (h : CRange w b r f n left cnt) (e : ∀ p, p.In → g p = f p) : CRange w b r g n left cnt := by
  obtain ⟨es, clock, since, seen, c0, h1, h2, h3, h4, h5⟩ := h
  exact ⟨es, clock, since, seen, c0, h1, h2, h3, fun p v hp => by rw [e p hp]; exact h4 p v hp, h5⟩

/-- One less is to come. -/
def strikeC (left : PlD → Bool) (p : PlD) (q : PlD) : Bool := left q && !decide (q = p)

/-- 'range m' as a run. -/
theorem CMap.ranges {w : World} {b : Nat} {f : PlD → Option Value} {n : Nat} (h : CMap w b f n) {t e : TypeId} (ht : Try.prog.underlying t = some (.map 45 e)) :
    ∃ w', (Instr.range t (.map (some b))).run Try.prog w = .ok (.pointer (some ⟨w.heap.size, 0, none⟩)) w' ∧ CRange w' b w.heap.size f n (fun p => (f p).isSome) n ∧ Below w.heap.size w w' ∧ w'.heap.size = w.heap.size + 1 := by
  have hlt := h.lt
  obtain ⟨es, clock, hb, F, hn, hf⟩ := h
  refine ⟨_, run_range_map w t 45 e b es clock ht hb, ⟨es, clock, clock, #[], clock, ((MapKept.heap_alloc w _).2 b hlt).trans hb, F, hn, hf, (MapKept.heap_alloc w _).1, F.st.1, ?_, ?_, Nat.le_refl _, Nat.le_refl _⟩, belowNew w _, by simp⟩
  · rw [← hn]; simp [leftOf]
  · intro p hp
    rw [Option.isSome_iff_exists]
    constructor
    · rintro ⟨v, hv⟩
      obtain ⟨e, he, hk, _⟩ := (hf p v hp).1 hv
      exact ⟨e, he, hk, by simp⟩
    · rintro ⟨e, he, hk, _⟩
      exact ⟨e.val, (hf p e.val hp).2 ⟨e, he, hk, rfl⟩⟩

/-- The step as a run. -/
theorem CRange.next {w : World} {b r : Nat} {f : PlD → Option Value} {n : Nat} {left : PlD → Bool} {cnt : Nat} (h : CRange w b r f n left cnt) (ty : TypeId) :
    ((∀ p : PlD, p.In → left p = false) ∧ (Instr.next (.pointer (some ⟨r, 0, none⟩)) false ty).run Try.prog w = .ok (.tuple #[.bool false]) w) ∨
    ∃ (p : PlD) (v : Value) (w' : World) (cnt' : Nat), p.In ∧ left p = true ∧ f p = some v ∧ (Instr.next (.pointer (some ⟨r, 0, none⟩)) false ty).run Try.prog w = .ok (.tuple #[.bool true, kC p, v]) w' ∧
      CRange w' b r f n (strikeC left p) cnt' ∧ cnt' < cnt ∧ Kept (fun k => k = r) w w' ∧ w'.heap.size = w.heap.size ∧ (Instr.entry (.pointer (some ⟨r, 0, none⟩))).run Try.prog w' = .ok (.tuple #[kC p, v]) w' := by
  have hne := h.ne
  obtain ⟨es, clock, since, seen, c0, hb, F, hn, hf, hr, hold, rfl, hl, hsc, hsk⟩ := h
  rcases run_next_at (P := Try.prog) w ty r b since c0 seen es clock hr hb hold hsc with ⟨h0, hrun⟩ | ⟨e, he, w1, hal, hrun⟩
  · refine Or.inl ⟨fun p hp => ?_, hrun⟩
    cases hk : left p
    · rfl
    · obtain ⟨x, hx, _, hs⟩ := (hl p hp).1 hk
      rw [all_seen es seen h0 x hx] at hs
      cases hs
  · obtain ⟨hem, hes⟩ := mem_left he
    obtain ⟨p, hp, hk⟩ := F.keys e hem
    have hr1 : w1.heap[r]? = some (.mapIter (some b) since seen c0) := by rcases hal with rfl | rfl <;> exact hr
    have hb1 : w1.heap[b]? = some (.map es clock) := by rcases hal with rfl | rfl <;> exact hb
    have hset := MapKept.heap_set (o' := .mapIter (some b) since (seen.push e.born) clock) hr1
    have hb' : (setBlock w1 r (.mapIter (some b) since (seen.push e.born) clock)).heap[b]? = some (.map es clock) := (hset.2 b (fun e1 => hne e1.symm)).trans hb1
    have hen := run_entry_at (P := Try.prog) _ r b since seen es clock e hset.1 hb' hem ((stamped_iff es clock).1 F.st).2.1
    rw [hk] at hrun hen
    refine Or.inr ⟨p, e.val, _, _, hp, (hl p hp).2 ⟨e, hem, hk, hes⟩, (hf p e.val hp).2 ⟨e, hem, hk, rfl⟩, hrun,
      ⟨es, clock, since, seen.push e.born, clock, hb', F, hn, hf, hset.1, hold, rfl, fun q hq => ?_, hsk, hsk⟩, left_shrinks es seen e he, ?_, ?_, hen⟩
    · unfold strikeC
      rw [Bool.and_eq_true, hl q hq]
      simp only [contains_push, Bool.or_eq_false_iff, Bool.not_eq_true', decide_eq_false_iff_not]
      constructor
      · rintro ⟨⟨x, hx, hxk, hxs⟩, hqp⟩
        refine ⟨x, hx, hxk, hxs, ?_⟩
        cases hbe : (x.born == e.born) with
        | false => rfl
        | true =>
          exfalso
          have hnd := ((stamped_iff es clock).1 F.st).2.1
          have hxe : x = e := by
            obtain ⟨i, hi⟩ := List.getElem?_of_mem hx
            obtain ⟨j, hj⟩ := List.getElem?_of_mem hem
            have hij : i = j := by
              have h1 : (es.toList.map (·.born))[i]? = some x.born := by rw [List.getElem?_map, hi]; rfl
              have h2 : (es.toList.map (·.born))[j]? = some e.born := by rw [List.getElem?_map, hj]; rfl
              obtain ⟨i1, i2⟩ := List.getElem?_eq_some_iff.1 h1
              obtain ⟨j1, j2⟩ := List.getElem?_eq_some_iff.1 h2
              exact (List.getElem_inj hnd).1 (by rw [i2, j2]; simpa using hbe)
            rw [hij, hj] at hi
            exact (Option.some.inj hi).symm
          rw [hxe, hk] at hxk
          exact hqp (kC_inj hp hq hxk).symm
      · rintro ⟨x, hx, hxk, hxs, hxb⟩
        refine ⟨⟨x, hx, hxk, hxs⟩, fun hqp => ?_⟩
        subst hqp
        obtain ⟨i, hi⟩ := List.getElem?_of_mem hx
        obtain ⟨j, hj⟩ := List.getElem?_of_mem hem
        have := keyC_unique F hi hj (hxk.trans hk.symm)
        rw [this, hj] at hi
        cases hi
        simp at hxb
    · rcases hal with rfl | rfl <;> exact ⟨rfl, rfl, rfl, by simp [setBlock], fun i _ hi => hset.2 i hi⟩
    · rcases hal with rfl | rfl <;> simp [setBlock]

/-- 'delete(m, p)' in the round, as a run. -/
theorem CRange.delete {w : World} {b r : Nat} {f : PlD → Option Value} {n : Nat} {left : PlD → Bool} {cnt : Nat} (h : CRange w b r f n left cnt) {t e : TypeId} (ht : Try.prog.underlying t = some (.map 45 e)) {p : PlD} (hp : p.In) (ty : TypeId) :
    ∃ w' cnt', (Builtin.delete_ #[t, 45] ty #[.map (some b), kC p]).run Try.prog w = .ok (.tuple #[]) w' ∧ CRange w' b r (delC f p) (delNC f p n) (strikeC left p) cnt' ∧ cnt' ≤ cnt ∧ Kept (fun k => k = b) w w' ∧ w'.heap.size = w.heap.size := by
  have hne := h.ne
  obtain ⟨es, clock, since, seen, c0, hb, F, hn, hf, hr, hold, rfl, hl, hsc, hsk⟩ := h
  obtain ⟨es', hrun, F', hsub, hwho, hsz1, hsz2⟩ := dropC (ty := ty) hb F ht hp
  refine ⟨_, _, hrun, ⟨es', clock, since, seen, c0, heap_setBlock_same hb _, F', ?_, fun q v hq => ?_, (heap_setBlock_other hb _ hne).trans hr, fun x hx => hold x ((hwho x).1 hx).1, rfl, fun q hq => ?_, hsc, hsk⟩, ?_, setB_kept hb, by simp [setBlock]⟩
  · unfold delNC
    have hiff : (∃ x ∈ es.toList, x.key = kC p) ↔ (f p).isSome = true := by
      rw [Option.isSome_iff_exists]
      constructor
      · rintro ⟨x, hx, hk⟩
        exact ⟨x.val, (hf p x.val hp).2 ⟨x, hx, hk, rfl⟩⟩
      · rintro ⟨v, hv⟩
        obtain ⟨x, hx, hk, _⟩ := (hf p v hp).1 hv
        exact ⟨x, hx, hk⟩
    by_cases hc : (f p).isSome = true
    · rw [hsz1 (hiff.2 hc), if_pos hc, hn]
    · rw [hsz2 (fun h => hc (hiff.1 h)), if_neg hc, hn]
  · unfold delC
    by_cases e1 : q = p
    · subst e1
      rw [if_pos rfl]
      constructor
      · intro h; cases h
      · rintro ⟨x, hx, hk, _⟩
        exact (((hwho x).1 hx).2 hk).elim
    · rw [if_neg e1, hf q v hq]
      constructor
      · rintro ⟨x, hx, hk, hv⟩
        exact ⟨x, (hwho x).2 ⟨hx, fun h => e1 (kC_inj hq hp (hk.symm.trans h))⟩, hk, hv⟩
      · rintro ⟨x, hx, hk, hv⟩
        exact ⟨x, ((hwho x).1 hx).1, hk, hv⟩
  · unfold strikeC
    rw [Bool.and_eq_true, hl q hq]
    simp only [Bool.not_eq_true', decide_eq_false_iff_not]
    constructor
    · rintro ⟨⟨x, hx, hk, hs⟩, hqp⟩
      exact ⟨x, (hwho x).2 ⟨hx, fun h => hqp (kC_inj hq hp (hk.symm.trans h))⟩, hk, hs⟩
    · rintro ⟨x, hx, hk, hs⟩
      exact ⟨⟨x, ((hwho x).1 hx).1, hk, hs⟩, fun e1 => ((hwho x).1 hx).2 (by rw [← e1]; exact hk)⟩
  · have e1 : ∀ a : Array MapEntry, (leftOf a seen).size = (a.toList.filter fun e => !seen.contains e.born).length := fun a => by
      unfold leftOf
      rw [← Array.toList_filter, Array.length_toList]
    rw [e1, e1]
    exact (hsub.filter _).length_le

/-- How many things it holds. -/
theorem CMap.count {w : World} {b : Nat} {f : PlD → Option Value} {n : Nat} (h : CMap w b f n) {L : List PlD} (hL : L.Nodup) (hI : ∀ p ∈ L, p.In) (hf : ∀ p, p.In → ((f p).isSome = true ↔ p ∈ L)) : n = L.length := by
  obtain ⟨es, clock, hb, F, hn, hfe⟩ := h
  have h1 : (es.toList.map (·.key)).Nodup := F.st.2.2
  have h2 : (L.map kC).Nodup := by
    unfold List.Nodup
    rw [List.pairwise_map]
    exact List.Pairwise.imp_of_mem (fun {x y} hx hy hne e => hne (kC_inj (hI x hx) (hI y hy) e)) hL
  have h3 : ∀ k, k ∈ es.toList.map (·.key) ↔ k ∈ L.map kC := by
    intro k
    constructor
    · intro hk
      obtain ⟨x, hx, rfl⟩ := List.mem_map.1 hk
      obtain ⟨q, hq, hk'⟩ := F.keys x hx
      show x.key ∈ _
      rw [hk']
      refine List.mem_map.2 ⟨q, (hf q hq).1 (Option.isSome_iff_exists.2 ⟨x.val, (hfe q x.val hq).2 ⟨x, hx, hk', rfl⟩⟩), rfl⟩
    · intro hk
      obtain ⟨q, hq, rfl⟩ := List.mem_map.1 hk
      obtain ⟨v, hv⟩ := Option.isSome_iff_exists.1 ((hf q (hI q hq)).2 hq)
      obtain ⟨x, hx, hk', _⟩ := (hfe q v (hI q hq)).1 hv
      exact List.mem_map.2 ⟨x, hx, hk'⟩
  have := (List.perm_ext_iff_of_nodup h1 h2).2 h3
  have hl := this.length_eq
  rw [List.length_map, List.length_map] at hl
  rw [← hn, ← hl]
  simp

section
variable {w : World} {ops : Array Oper} {rest : List Oper} {o : Oper} {a : Act} {Q : Exit → Act → World → Prop}

/-- 'v, ok := m[p]'. -/
theorem cmap_look_ok (hw : Region.wanted o (yielded ops a.tmps) = true) (m x : Operand) (t : TypeId) (hop : o.op = Op.lookup t m x true) (e : TypeId) (ht : Try.prog.underlying t = some (.map 45 e)) (z : Value) (hz : (zeroValue e).run Try.prog w = .ok z w)
    (b : Nat) (f : PlD → Option Value) (n : Nat) (hm : a.eval m = .map (some b)) (h : CMap w b f n) (p : PlD) (hp : p.In) (hx : a.eval x = kC p)
    (hK : wpList Try.prog ops Q rest (a.put o.dst (.tuple #[(f p).getD z, .bool (f p).isSome])) w) : wpList Try.prog ops Q (o :: rest) a w := by
  refine wpList_step fun K' hK' => ?_
  rw [if_pos hw]
  have hrun := h.looks ht hz hp true
  rw [if_pos rfl] at hrun
  unfold Oper.wp
  simp [execOp, hop, hm, hx, hrun, Result.andThen]
  exact hK' _ _ hK

/-- 'm[p]'. -/
theorem cmap_look (hw : Region.wanted o (yielded ops a.tmps) = true) (m x : Operand) (t : TypeId) (hop : o.op = Op.lookup t m x false) (e : TypeId) (ht : Try.prog.underlying t = some (.map 45 e)) (z : Value) (hz : (zeroValue e).run Try.prog w = .ok z w)
    (b : Nat) (f : PlD → Option Value) (n : Nat) (hm : a.eval m = .map (some b)) (h : CMap w b f n) (p : PlD) (hp : p.In) (hx : a.eval x = kC p)
    (hK : wpList Try.prog ops Q rest (a.put o.dst ((f p).getD z)) w) : wpList Try.prog ops Q (o :: rest) a w := by
  refine wpList_step fun K' hK' => ?_
  rw [if_pos hw]
  have hrun := h.looks ht hz hp false
  rw [if_neg (by decide)] at hrun
  unfold Oper.wp
  simp [execOp, hop, hm, hx, hrun, Result.andThen]
  exact hK' _ _ hK

/-- 'm[p] = v'. -/
theorem cmap_put (hg : o.guard = none) (m x v : Operand) (t : TypeId) (hop : o.op = Op.mapUpdate t m x v) (e : TypeId) (ht : Try.prog.underlying t = some (.map 45 e))
    (b : Nat) (f : PlD → Option Value) (n : Nat) (hm : a.eval m = .map (some b)) (h : CMap w b f n) (p : PlD) (hp : p.In) (hx : a.eval x = kC p) (u : Value) (hv : a.eval v = u)
    (hK : ∀ w', CMap w' b (putC f p u) (putNC f p n) → Kept (fun k => k = b) w w' → w'.heap.size = w.heap.size → wpList Try.prog ops Q rest (a.put o.dst undef) w') : wpList Try.prog ops Q (o :: rest) a w := by
  refine wpList_plain hg fun K' hK' => ?_
  obtain ⟨w', hrun, h1, h2, h3⟩ := h.update ht hp u
  unfold Oper.wp
  simp [execOp, hop, hm, hx, hv, hrun, Result.andThen]
  exact hK' _ _ (hK w' h1 h2 h3)

/-- 'len(m)'. -/
theorem cmap_len (hw : Region.wanted o (yielded ops a.tmps) = true) (m : Operand) (t : TypeId) (hop : o.op = Op.call { callee := Callee.builtin Builtin.len, args := #[m], argTypes := #[t] }) (e : TypeId) (ht : Try.prog.underlying t = some (.map 45 e))
    (b : Nat) (f : PlD → Option Value) (n : Nat) (hm : a.eval m = .map (some b)) (h : CMap w b f n) (hK : wpList Try.prog ops Q rest (a.put o.dst (.int .i64 (n : Int))) w) : wpList Try.prog ops Q (o :: rest) a w := by
  refine wpList_step fun K' hK' => ?_
  rw [if_pos hw]
  have hrun := h.lens ht o.type
  unfold Oper.wp
  simp [execOp, hop, resolve, invoke, builtin, hm, hrun, Result.andThen]
  exact hK' _ _ hK

/-- 'range m'. -/
theorem cmap_range (hg : o.guard = none) (m : Operand) (t : TypeId) (hop : o.op = Op.range t m) (e : TypeId) (ht : Try.prog.underlying t = some (.map 45 e)) (b : Nat) (f : PlD → Option Value) (n : Nat) (hm : a.eval m = .map (some b)) (h : CMap w b f n)
    (hK : ∀ w', CRange w' b w.heap.size f n (fun p => (f p).isSome) n → Below w.heap.size w w' → w'.heap.size = w.heap.size + 1 → wpList Try.prog ops Q rest (a.put o.dst (.pointer (some ⟨w.heap.size, 0, none⟩))) w') : wpList Try.prog ops Q (o :: rest) a w := by
  refine wpList_plain hg fun K' hK' => ?_
  obtain ⟨w', hrun, h1, h2, h3⟩ := h.ranges ht
  unfold Oper.wp
  simp [execOp, hop, hm, hrun, Result.andThen]
  exact hK' _ _ (hK w' h1 h2 h3)

/-- The step. -/
theorem cmap_next (hg : o.guard = none) (it : Operand) (hop : o.op = Op.next it false) (b r : Nat) (f : PlD → Option Value) (n : Nat) (left : PlD → Bool) (cnt : Nat) (hit : a.eval it = .pointer (some ⟨r, 0, none⟩)) (h : CRange w b r f n left cnt)
    (hDone : (∀ p : PlD, p.In → left p = false) → wpList Try.prog ops Q rest (a.put o.dst (.tuple #[.bool false])) w)
    (hMore : ∀ (p : PlD) (v : Value) (w' : World) (cnt' : Nat), p.In → left p = true → f p = some v → CRange w' b r f n (strikeC left p) cnt' → cnt' < cnt → Kept (fun k => k = r) w w' → w'.heap.size = w.heap.size → (Instr.entry (.pointer (some ⟨r, 0, none⟩))).run Try.prog w' = .ok (.tuple #[kC p, v]) w' → wpList Try.prog ops Q rest (a.put o.dst (.tuple #[.bool true, kC p, v])) w') : wpList Try.prog ops Q (o :: rest) a w := by
  refine wpList_plain hg fun K' hK' => ?_
  unfold Oper.wp
  rcases h.next o.type with ⟨hl, hrun⟩ | ⟨p, v, w', cnt', hp, hlp, hf, hrun, hrg, hlt, hk, hsz, hen⟩
  · simp [execOp, hop, hit, hrun, Result.andThen]
    exact hK' _ _ (hDone hl)
  · simp [execOp, hop, hit, hrun, Result.andThen]
    exact hK' _ _ (hMore p v w' cnt' hp hlp hf hrg hlt hk hsz hen)

/-- 'delete(m, p)' in the round. -/
theorem cmap_del_range (hg : o.guard = none) (m x : Operand) (t : TypeId) (hop : o.op = Op.call { callee := Callee.builtin Builtin.delete, args := #[m, x], argTypes := #[t, 45] }) (e : TypeId) (ht : Try.prog.underlying t = some (.map 45 e))
    (b r : Nat) (f : PlD → Option Value) (n : Nat) (left : PlD → Bool) (cnt : Nat) (hm : a.eval m = .map (some b)) (h : CRange w b r f n left cnt) (p : PlD) (hp : p.In) (hx : a.eval x = kC p)
    (hK : ∀ w' cnt', CRange w' b r (delC f p) (delNC f p n) (strikeC left p) cnt' → cnt' ≤ cnt → Kept (fun k => k = b) w w' → w'.heap.size = w.heap.size → wpList Try.prog ops Q rest (a.put o.dst (.tuple #[])) w') : wpList Try.prog ops Q (o :: rest) a w := by
  refine wpList_plain hg fun K' hK' => ?_
  obtain ⟨w', cnt', hrun, h1, h2, h3, h4⟩ := h.delete ht hp o.type
  unfold Oper.wp
  simp [execOp, hop, resolve, invoke, builtin, hm, hx, hrun, Result.andThen]
  exact hK' _ _ (hK w' cnt' h1 h2 h3 h4)
end
end Go.Proofs.Ytfbpjdjajecajaa
