/- Rows that are appended to: a whole row behind another one; where they lie. -/
import Derived.Test.YthhildeocedpiaaDoorRowsMore
import Derived.ScopeJumps
import Derived.WalkMore
namespace Go.Proofs.YthhildeocedpiaaDoor
open Go Go.RowKit
set_option linter.unusedVariables false

/-- append(q, xs...) of no elements. -/
theorem run_append_zero {P : Program} (w : World) (t ty e : TypeId) (i : TypeInfo) (ht : P.underlying t = some (.slice e)) (hi : P.info? e = some i) (ao b : Option Addr) (n cap c : Nat) (hn : n ≤ cap) :
    (Builtin.append_ #[t, t] ty #[.slice ao n cap, .slice b 0 c]).run P w = .ok (.slice ao n cap) w := by
  cases ao <;> cases b <;> simp [Builtin.append_, run_underlying ht, sizeOf, typeInfo, hi, Builtin.lenOf, Builtin.firstCells, hn, storeCells, loadCells, loadCellsFrom, Result.andThen]

/-- append(q, y): where it lies then. -/
theorem wpList_pushN {α : Type} {K : Kind α} {P : Program} {w : World} {ops : Array Oper} {rest : List Oper} {o : Oper} {a : Act} {Q : Exit → Act → World → Prop} (hgd : o.guard = none) (s x : Operand) (t : TypeId)
    (ho : o.op = .call { callee := .builtin .append, args := #[s, x], argTypes := #[t, t] })
    (base : Nat) (e : TypeId) (i : TypeInfo) (z : Value) (bytes : Nat) (ht : P.underlying t = some (.slice e)) (hi : P.info? e = some i) (hz : i.zero = some z)
    (hsize : i.size = K.n) (hby : i.bytes = bytes) (hzs : z.cells.size = K.n)
    (q : Value) (l : List α) (hs : a.eval s = q) (hq : KQ K e w base q l) (y : α) (hy : K.At w y) (hyo : ∀ b, K.foot y b → q.ownBlock ≠ some b)
    (ad : Addr) (c : Nat) (hx : a.eval x = .slice (some ad) 1 c) (hnews : ∀ j u, (K.c y)[j]? = some u → w.cell? (ad.add j) = some u)
    (h63 : l.length + 1 ≤ maxLen) (hbytes : (l.length + 1) * bytes ≤ 140737488355328) (hbase : base ≤ w.heap.size)
    (h : ∀ ao' cap' w', KQ K e w' base (.slice ao' (l ++ [y]).length cap') (l ++ [y]) → Kept (fun k => q.ownBlock = some k) w w' → Fresh w q (.slice ao' (l ++ [y]).length cap') → wpList P ops Q rest (a.put o.dst (.slice ao' (l ++ [y]).length cap')) w') : wpList P ops Q (o :: rest) a w := by
  refine wpList_append_q hgd s x t ho base e i z K.n bytes ht hi hz hsize hby hzs K.pos q l.length (flatK K l) hs hq.row ad 1 c (K.c y) hx (by decide) (by rw [K.len]; omega) hnews (K.one y) h63 hbytes hbase ?_
  intro v' w' hrow hgr hfr
  obtain ⟨ao', cap', rfl, _, _⟩ := hrow.form
  have el : (l ++ [y]).length = l.length + 1 := by simp
  have hh := h ao' cap' w'
  rw [el] at hh
  refine hh (hq.push (m := [y]) ?_ ?_ (by simp) (by rw [flatK_single]; exact hrow) hgr hfr) (Kept.of_grown hgr) hfr
  · intro x hx; simp at hx; rw [hx]; exact hy
  · intro x hx; simp at hx; rw [hx]; exact hyo

/-- append(q, xs...): a whole row, whatever its length. -/
theorem wpList_joins {α : Type} {K : Kind α} {P : Program} {w : World} {ops : Array Oper} {rest : List Oper} {o : Oper} {a : Act} {Q : Exit → Act → World → Prop} (hgd : o.guard = none) (s x : Operand) (t : TypeId)
    (ho : o.op = .call { callee := .builtin .append, args := #[s, x], argTypes := #[t, t] })
    (base : Nat) (e : TypeId) (i : TypeInfo) (z : Value) (bytes : Nat) (ht : P.underlying t = some (.slice e)) (hi : P.info? e = some i) (hz : i.zero = some z)
    (hsize : i.size = K.n) (hby : i.bytes = bytes) (hzs : z.cells.size = K.n)
    (q : Value) (l m : List α) (hs : a.eval s = q) (hq : KQ K e w base q l) (hf : ∀ x b, ¬ K.foot x b)
    (ao : Option Addr) (c : Nat) (hx : a.eval x = .slice ao m.length c) (hS : RowAt K w ao m)
    (h63 : l.length + m.length ≤ maxLen) (hbytes : (l.length + m.length) * bytes ≤ 140737488355328) (hbase : base ≤ w.heap.size)
    (h : ∀ ao' cap' w', KQ K e w' base (.slice ao' (l ++ m).length cap') (l ++ m) → Kept (fun k => q.ownBlock = some k) w w' → Fresh w q (.slice ao' (l ++ m).length cap') → wpList P ops Q rest (a.put o.dst (.slice ao' (l ++ m).length cap')) w') : wpList P ops Q (o :: rest) a w := by
  have el : (l ++ m).length = l.length + m.length := by simp
  cases hm : m with
  | nil =>
    subst hm
    obtain ⟨aq, cq, rfl, _, _⟩ := hq.form
    obtain ⟨_, _, eq, hlc, _⟩ := hq.row.form
    simp only [Value.slice.injEq] at eq
    obtain ⟨rfl, _, rfl⟩ := eq
    refine wpList_plain hgd fun K' hK' => ?_
    have hrun := run_append_zero (P := P) w t o.type e i ht hi aq ao l.length cq c hlc
    unfold Oper.wp
    simp [execOp, ho, resolve, invoke, builtin, hs, hx, hrun, Result.andThen]
    have hh := h aq cq w
    rw [List.append_nil] at hh
    exact hK' _ _ (hh hq (Kept.refl _ _) (Fresh.refl _ _))
  | cons y r =>
    have hpos : 0 < m.length := by rw [hm]; simp
    obtain ⟨g, off, rfl, _, _⟩ := hS.cell 0 y (by rw [hm]; rfl)
    refine wpList_append_q hgd s x t ho base e i z K.n bytes ht hi hz hsize hby hzs K.pos q l.length (flatK K l) hs hq.row ⟨g, off, none⟩ m.length c (flatK K m) hx hpos (flatK_length K m) hS.news (flatK_one K m) h63 hbytes hbase ?_
    intro v' w' hrow hgr hfr
    obtain ⟨ao', cap', rfl, _, _⟩ := hrow.form
    have hh := h ao' cap' w'
    rw [el] at hh
    exact hh (hq.push (m := m) (fun x hx => hS.at_ x hx) (fun x _ b hb => absurd hb (hf x b)) hpos hrow hgr hfr) (Kept.of_grown hgr) hfr

/-- The front of a row of the call's own. -/
theorem KQ.cutEnd {α : Type} {K : Kind α} {T : TypeId} {w : World} {base : Nat} {ao : Option Addr} {n cap : Nat} {l : List α} (h : KQ K T w base (.slice ao n cap) l) (hf : ∀ x b, ¬ K.foot x b) (m : Nat) (hm : m ≤ l.length) : KQ K T w base (.slice ao m cap) (l.take m) := by
  have hlen : (l.take m).length = m := by rw [List.length_take]; omega
  refine ⟨⟨by rw [flatK_length], ?_⟩, fun x hx => h.at_ x (List.mem_of_mem_take hx), fun x _ b hb => absurd hb (hf x b), fun k hk => h.lt k (by cases ao <;> exact hk), fun a b e => h.nil n b (by simp only [Value.slice.injEq] at e; rw [e.1, e.2.2])⟩
  rcases h.row.2 with ⟨ao', hv, hn⟩ | ⟨g, pre, post, cap', hv, hb, hg, hnc, hcm, hpl⟩
  · simp only [Value.slice.injEq] at hv
    obtain ⟨rfl, hv2, rfl⟩ := hv
    exact Or.inl ⟨ao, by congr 1; omega, by omega⟩
  · simp only [Value.slice.injEq] at hv
    obtain ⟨rfl, rfl, rfl⟩ := hv
    refine Or.inr ⟨g, pre, flatK K (l.drop m) ++ post, cap, by rw [hlen], hb, ?_, by omega, hcm, ?_⟩
    · have e : pre ++ flatK K (l.take m) ++ (flatK K (l.drop m) ++ post) = pre ++ flatK K l ++ post := by
        rw [← List.append_assoc, List.append_assoc pre, ← flatK_append, List.take_append_drop]
      rw [e]
      exact hg
    · rw [List.length_append, flatK_length, hpl, hlen, List.length_drop, ← Nat.add_mul]
      congr 1
      omega

theorem KQ.rowOf {α : Type} {K : Kind α} {T : TypeId} {w : World} {base : Nat} {ao : Option Addr} {n cap : Nat} {l : List α} (h : KQ K T w base (.slice ao n cap) l) : RowAt K w ao l ∧ n = l.length := by
  obtain ⟨ao', cap', e, _, hr⟩ := h.form
  simp only [Value.slice.injEq] at e
  obtain ⟨e1, e2, _⟩ := e
  rw [e1]
  exact ⟨hr, e2⟩

theorem KQ.capOf {α : Type} {K : Kind α} {T : TypeId} {w : World} {base : Nat} {ao : Option Addr} {n cap : Nat} {l : List α} (h : KQ K T w base (.slice ao n cap) l) : l.length ≤ cap ∧ cap ≤ maxLen := by
  obtain ⟨ao', cap', e, h1, h2⟩ := h.row.form
  simp only [Value.slice.injEq] at e
  obtain ⟨_, _, e3⟩ := e
  rw [e3]
  exact ⟨h1, h2⟩

/-- A label to which a scope jumps back, behind two statements: its first way is walked up to it, then all its passes alike. -/
theorem wp_scope_next {P : Program} {a : Act} {w : World} {Q : Exit → Act → World → Prop} {x1 x2 r : Code} (l : Nat) (J : Act → World → Prop) (μ : Act → World → Nat) (hf : findLabel (x1.seq (x2.seq ((Code.label l).seq r))) l = some (Code.skip.seq r))
    (pass : ∀ a w, J a w → r.wp P (Exit.jump l (fun a' w' => J a' w' ∧ μ a' w' < μ a w) Q) a w)
    (first : ∀ K1 : Act → World → Prop, (∀ a w, x2.wp P (Exit.then J (Exit.jump l J Q)) a w → K1 a w) → x1.wp P (Exit.then K1 (Exit.jump l J Q)) a w) : (Code.scope (x1.seq (x2.seq ((Code.label l).seq r)))).wp P Q a w := by
  have hz : ∀ a w, J a w → ((Code.label l).seq r).wp P (Exit.jump l J Q) a w := fun a w h => wp_seq (wp_label (Code.wp_mono (fun e a' w' hq => by cases e <;> first | exact hq | exact ⟨hq.1, hq.2.1⟩) (pass a w h)))
  refine wp_scope_jumps l J μ hf (wp_seq (first _ (fun a w h => wp_seq (Code.wp_mono (fun e a' w' hq => ?_) h)))) (fun a w h => wp_seq (wp_skip (pass a w h)))
  cases e with
  | normal => exact hz a' w' hq
  | _ => exact hq
end Go.Proofs.YthhildeocedpiaaDoor
