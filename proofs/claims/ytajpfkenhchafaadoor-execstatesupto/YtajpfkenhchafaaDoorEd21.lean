/- Texts as one: ExeTwo, JoinsFeet. -/
import Derived.Test.YtajpfkenhchafaaDoorEd19
import Derived.Test.YtajpfkenhchafaaDoorEd05
/- Two rows of transactions that came in, as a row of them. -/
namespace Go.Proofs.YtajpfkenhchafaaDoor
open Go Go.ChangeShapes Go.WideShapes Go.ChangeAt Go.RowKit Go.Joins Go.Deep
set_option linter.unusedVariables false

theorem open_txs23 {H : Type} {enc : TypeId × Value → H} {W : World} {a : Option Addr} {len cap : Nat} {d : DataW H} {p : List MemPlace}
    (h : DataW.Trod enc Tryd.prog W 0 (fun _ => true) true 24 (.slice a len cap) d p) :
    ∃ l : List TxM, l.length = len ∧ (RowAt txK W a l ∧ (a = none → cap = 0)) ∧ len ≤ maxLen ∧ RowD TxQs d l := by
  obtain ⟨fuel, hf⟩ := h
  haveI : Inhabited TxM := ⟨⟨.none, none, 0, none, 0⟩⟩
  obtain ⟨l, h1, h2, h3, h4, h5⟩ := open_row txK TxQs Tryd.underlying24 cellsTx open_txk_cells hf
  exact ⟨l, h1, ⟨h2, h3⟩, h4, h5⟩

/-- Two of them as a row. -/
def two23 (a b : List TxM) (ao bo : Option Addr) (ac bc : Nat) : List TRow := [⟨a, ao, ac⟩, ⟨b, bo, bc⟩]

theorem two23_row {w : World} {a b : List TxM} {ao bo : Option Addr} {ac bc : Nat} (ha : RowAt txK w ao a) (ha0 : ao = none → ac = 0) (hb : RowAt txK w bo b) (hb0 : bo = none → bc = 0) :
    RowAt trowK (w.alloc (.cells (flatK trowK (two23 a b ao bo ac bc)).toArray 24)) (some ⟨w.heap.size, 0, none⟩) (two23 a b ao bo ac bc) :=
  Arr.rowW (Arr.new w 24 (flatK trowK (two23 a b ao bo ac bc))) rfl (fun x hx => by
    have hn := belowNew w (.cells (flatK trowK (two23 a b ao bo ac bc)).toArray 24)
    simp only [two23, List.mem_cons, List.not_mem_nil, or_false] at hx
    rcases hx with rfl | rfl
    · exact ⟨ha.below hn, ha0⟩
    · exact ⟨hb.below hn, hb0⟩)

theorem two23_wide {a b : List TxM} {ao bo : Option Addr} {ac bc : Nat} (ha : Wide22 a) (hb : Wide22 b) : Wide23 (two23 a b ao bo ac bc) :=
  ⟨by show 2 ≤ _; decide, fun x hx => by
    simp only [two23, List.mem_cons, List.not_mem_nil, or_false] at hx
    rcases hx with rfl | rfl
    · exact ha
    · exact hb⟩

theorem two23_few {a b : List TxM} {ao bo : Option Addr} {ac bc : Nat} (h : greatR (two23 a b ao bo ac bc) = false) : greatM a = false ∧ greatM b = false ∧ a.length + b.length ≤ 200 := by
  obtain ⟨h1, h2⟩ := fewR h
  refine ⟨h1 ⟨a, ao, ac⟩ (by simp [two23]), h1 ⟨b, bo, bc⟩ (by simp [two23]), ?_⟩
  have e : sumR (two23 a b ao bo ac bc) = a.length + b.length := by simp [sumR, two23]
  omega
end Go.Proofs.YtajpfkenhchafaaDoor

/- append(q, xs...) of records that reach further blocks. -/
namespace Go.Proofs.YtajpfkenhchafaaDoor
open Go Go.RowKit
set_option linter.unusedVariables false

theorem wpList_joinsT {α : Type} {K : Kind α} {P : Program} {w : World} {ops : Array Oper} {rest : List Oper} {o : Oper} {a : Act} {Q : Exit → Act → World → Prop} (hgd : o.guard = none) (s x : Operand) (t : TypeId)
    (ho : o.op = .call { callee := .builtin .append, args := #[s, x], argTypes := #[t, t] })
    (base : Nat) (e : TypeId) (i : TypeInfo) (z : Value) (bytes : Nat) (ht : P.underlying t = some (.slice e)) (hi : P.info? e = some i) (hz : i.zero = some z)
    (hsize : i.size = K.n) (hby : i.bytes = bytes) (hzs : z.cells.size = K.n)
    (q : Value) (l m : List α) (hs : a.eval s = q) (hq : KQ K e w base q l) (hf : ∀ x ∈ m, ∀ b, K.foot x b → q.ownBlock ≠ some b)
    (ao : Option Addr) (M c : Nat) (hM : M = m.length) (hx : a.eval x = .slice ao M c) (hS : RowAt K w ao m)
    (h63 : l.length + m.length ≤ maxLen) (hbytes : (l.length + m.length) * bytes ≤ 140737488355328) (hbase : base ≤ w.heap.size)
    (h : ∀ ao' cap' w', KQ K e w' base (.slice ao' (l ++ m).length cap') (l ++ m) → Kept (fun k => q.ownBlock = some k) w w' → Fresh w q (.slice ao' (l ++ m).length cap') → wpList P ops Q rest (a.put o.dst (.slice ao' (l ++ m).length cap')) w') : wpList P ops Q (o :: rest) a w := by
  subst hM
  have el : (l ++ m).length = l.length + m.length := by simp
  cases hm : m with
  | nil =>
    subst hm
    obtain ⟨aq, cq, rfl, _, _⟩ := hq.form
    obtain ⟨_, _, eq, hlc, _⟩ := hq.row.form
    simp only [Value.slice.injEq] at eq
    obtain ⟨rfl, _, rfl⟩ := eq
    refine wpList_plain hgd fun K' hK' => ?_
    have hrun := run_append_zero (P := P) w t o.type e i ht hi aq ao l.length cq c hlc
    unfold Oper.wp
    simp [execOp, ho, resolve, invoke, builtin, hs, hx, hrun, Result.andThen]
    have hh := h aq cq w
    rw [List.append_nil] at hh
    exact hK' _ _ (hh hq (Kept.refl _ _) (Fresh.refl _ _))
  | cons y r =>
    have hpos : 0 < m.length := by rw [hm]; simp
    obtain ⟨g, off, rfl, _, _⟩ := hS.cell 0 y (by rw [hm]; rfl)
    refine wpList_append_q hgd s x t ho base e i z K.n bytes ht hi hz hsize hby hzs K.pos q l.length (flatK K l) hs hq.row ⟨g, off, none⟩ m.length c (flatK K m) hx hpos (flatK_length K m) hS.news (flatK_one K m) h63 hbytes hbase ?_
    intro v' w' hrow hgr hfr
    obtain ⟨ao', cap', rfl, _, _⟩ := hrow.form
    have hp := hq.push (m := m) (fun x hx => hS.at_ x hx) hf hpos hrow hgr hfr
    rw [el] at h
    exact h ao' cap' w' hp (Kept.of_grown hgr) hfr
end Go.Proofs.YtajpfkenhchafaaDoor
