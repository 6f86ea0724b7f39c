/- Bags as they lie in memory: a box of two cells and a row of what is in. -/
import Derived.Test.YtmbfidegcebbdaaKindsOwn
import Derived.Laws.CopyRow
import Derived.Laws.ResultCell
namespace Go.Proofs.Ytmbfidegcebbdaa
open Go.RowKit
set_option linter.unusedVariables false

/-- What is on its way. -/
structure EnvD where
  fr : Int
  to : Int
  by_ : ByteArray

instance : Inhabited EnvD := ⟨⟨0, 0, ⟨#[]⟩⟩⟩

/-- Nothing. -/
def env0 : EnvD := ⟨0, 0, ⟨#[]⟩⟩

/-- As a value. -/
def EnvD.v (x : EnvD) : Value := .agg #[.int .i64 x.fr, .int .i64 x.to, .string x.by_]

def envK : Kind EnvD where
  n := 3
  c x := [.int .i64 x.fr, .int .i64 x.to, .string x.by_]
  foot _ _ := False
  At _ _ := True
  pos := by decide
  len _ := rfl
  one x u hu := by
    simp only [List.mem_cons, List.not_mem_nil, or_false] at hu
    rcases hu with rfl | rfl | rfl <;> rfl
  lt _ h := h.elim
  keep _ _ := trivial

theorem infoEnv : (Try.prog.info? 30).any (fun i => i.size == 3 && i.bytes == 32 && (match i.zero with | some z => z.cells.size == 3 | none => false)) = true := by kernel_rfl

theorem envInfo : ∃ i z, Try.prog.info? 30 = some i ∧ i.zero = some z ∧ i.size = 3 ∧ i.bytes = 32 ∧ z.cells.size = 3 := by
  have h := infoEnv
  cases hi : Try.prog.info? 30 with
  | none => rw [hi] at h; cases h
  | some i =>
    rw [hi] at h
    simp only [Option.any_some, Bool.and_eq_true, beq_iff_eq] at h
    cases hz : i.zero with
    | none => rw [hz] at h; simp at h
    | some z =>
      rw [hz] at h
      exact ⟨i, z, rfl, hz, h.1.1, h.1.2, by simpa using h.2⟩

/-- A bag lies in block bb, its row in a block behind it. -/
structure BagAt (T : TypeId) (w : World) (bb : Nat) (q : Value) (l : List EnvD) (lost : Nat) : Prop where
  box : Arr w bb T [q, .int .i64 (lost : Int)]
  row : KQ envK 30 w (bb + 1) q l
  few : l.length ≤ 256

theorem BagAt.below {T : TypeId} {w w' : World} {bb : Nat} {q : Value} {l : List EnvD} {n : Nat} (h : BagAt T w bb q l n) (hb : Below w.heap.size w w') : BagAt T w' bb q l n :=
  ⟨h.box.below hb h.box.lt, h.row.below hb, h.few⟩

theorem BagAt.kept {S : Nat → Prop} {T : TypeId} {w w' : World} {bb : Nat} {q : Value} {l : List EnvD} {n : Nat} (h : BagAt T w bb q l n) (hk : Kept S w w') (h1 : ¬ S bb) (h2 : ∀ k, q.ownBlock = some k → ¬ S k) : BagAt T w' bb q l n :=
  ⟨h.box.kept hk h1, h.row.kept hk h2 (fun _ _ _ h => h.elim), h.few⟩

/-- Its row's block is behind its box. -/
theorem BagAt.ge {T : TypeId} {w : World} {bb : Nat} {q : Value} {l : List EnvD} {n : Nat} (h : BagAt T w bb q l n) {k : Nat} (hk : q.ownBlock = some k) : bb < k ∧ k < w.heap.size := by
  have := h.row.lt k hk
  omega

/-- What is turned by an act on a bag. -/
def BagS (bb : Nat) (q : Value) (k : Nat) : Prop := k = bb ∨ q.ownBlock = some k

/-- A row's block is an old one's, or new. -/
def Fresh (w : World) (q q' : Value) : Prop := ∀ g, q'.ownBlock = some g → q.ownBlock = some g ∨ w.heap.size ≤ g

theorem Fresh.refl (w : World) (q : Value) : Fresh w q q := fun _ h => Or.inl h

/-- append(q, y), at a step of a region that draws its order: where the new row lies. -/
theorem step_pushF {α : Type} {K : Kind α} {P : Program} (w : World) {ops : Array Oper} {o : Oper} {a : Act} {C : Act → World → Prop} {Q : Exit → Act → World → Prop} {E : Prop} (hgd : o.guard = none) (s x : Operand) (t : TypeId)
    (ho : o.op = .call { callee := .builtin .append, args := #[s, x], argTypes := #[t, t] })
    (base : Nat) (e : TypeId) (i : TypeInfo) (z : Value) (bytes : Nat) (ht : P.underlying t = some (.slice e)) (hi : P.info? e = some i) (hz : i.zero = some z)
    (hsize : i.size = K.n) (hby : i.bytes = bytes) (hzs : z.cells.size = K.n)
    (q : Value) (l : List α) (hs : a.eval s = q) (hq : KQ K e w base q l) (y : α) (hy : K.At w y) (hyo : ∀ b, K.foot y b → q.ownBlock ≠ some b)
    (ad : Addr) (c : Nat) (hx : a.eval x = .slice (some ad) 1 c) (hnews : ∀ j u, (K.c y)[j]? = some u → w.cell? (ad.add j) = some u)
    (h63 : l.length + 1 ≤ maxLen) (hbytes : (l.length + 1) * bytes ≤ 140737488355328) (hbase : base ≤ w.heap.size)
    (h : ∀ ao' cap' w', KQ K e w' base (.slice ao' (l.length + 1) cap') (l ++ [y]) → Kept (fun k => q.ownBlock = some k) w w' → Fresh w q (.slice ao' (l.length + 1) cap') → C (a.put o.dst (.slice ao' (l.length + 1) cap')) w') : if Region.wanted o (yielded ops a.tmps) = true then Oper.wp P o a w C Q else E := by
  refine step_append_q w hgd s x t ho e i z K.n bytes ht hi hz hsize hby hzs K.pos base q l.length (flatK K l) hs hq.row ad 1 c (K.c y) hx (by decide) (by rw [K.len]; omega) hnews (K.one y) h63 hbytes hbase ?_
  intro v' w' hrow hgr hfr
  obtain ⟨ao', cap', rfl, _, _⟩ := hrow.form
  refine h ao' cap' w' (hq.push (m := [y]) ?_ ?_ (by simp) (by rw [flatK_single]; exact hrow) hgr hfr) (Kept.of_grown hgr) hfr
  · intro x hx; simp at hx; rw [hx]; exact hy
  · intro x hx; simp at hx; rw [hx]; exact hyo

/-- One, new. -/
theorem new_env (w : World) (x : EnvD) : ∀ j u, (envK.c x)[j]? = some u → (w.alloc (.cells #[.int .i64 x.fr, .int .i64 x.to, .string x.by_] 30)).cell? ((⟨w.heap.size, 0, none⟩ : Addr).add j) = some u := by
  intro j u hu
  rw [Go.WideShapes.add_plain, Nat.zero_add]
  exact (Arr.new w 30 [.int .i64 x.fr, .int .i64 x.to, .string x.by_]).cell hu

/-- The one at a place, in memory. -/
theorem BagAt.cells {T : TypeId} {w : World} {bb : Nat} {ao : Option Addr} {n cap : Nat} {l : List EnvD} {lost : Nat} (h : BagAt T w bb (.slice ao n cap) l lost) {i : Nat} {x : EnvD} (hx : l[i]? = some x) :
    ∃ g off, ao = some ⟨g, off, none⟩ ∧ bb < g ∧ g < w.heap.size ∧ w.cell? ⟨g, off + i * 3, none⟩ = some (.int .i64 x.fr) ∧ w.cell? ⟨g, off + i * 3 + 1, none⟩ = some (.int .i64 x.to) ∧ w.cell? ⟨g, off + i * 3 + 2, none⟩ = some (.string x.by_) := by
  obtain ⟨g, off, rfl, h1, h2, h3, _⟩ := h.row.set hx
  exact ⟨g, off, rfl, by omega, h2, h3 0 _ rfl, h3 1 _ rfl, h3 2 _ rfl⟩

/-- The form of a bag's row. -/
theorem BagAt.form {T : TypeId} {w : World} {bb : Nat} {q : Value} {l : List EnvD} {lost : Nat} (h : BagAt T w bb q l lost) : ∃ ao cap, q = .slice ao l.length cap ∧ (ao = none → cap = 0) ∧ RowAt envK w ao l := h.row.form

/-- Behind a Send that went. -/
theorem BagAt.pushed {T : TypeId} {w w1 w2 : World} {bb : Nat} {q : Value} {l : List EnvD} {lost : Nat} {x : EnvD} {ao' : Option Addr} {cap' : Nat} (h : BagAt T w bb q l lost) (hl : l.length < 256) (hb : Below w.heap.size w w1)
    (hq : KQ envK 30 w2 (bb + 1) (.slice ao' (l.length + 1) cap') (l ++ [x])) (hk : Kept (fun k => q.ownBlock = some k) w1 w2) (hf : Fresh w1 q (.slice ao' (l.length + 1) cap')) :
    BagAt T (w2.setCell ⟨bb, 0, none⟩ (.slice ao' (l.length + 1) cap')) bb (.slice ao' (l.length + 1) cap') (l ++ [x]) lost ∧ Fresh w q (.slice ao' (l.length + 1) cap') ∧ Kept (BagS bb q) w (w2.setCell ⟨bb, 0, none⟩ (.slice ao' (l.length + 1) cap')) := by
  have hk2 : Kept (BagS bb q) w w2 := (Kept.of_below hb).trans (hk.mono (fun k _ h => Or.inr h))
  have hbx : Arr w2 bb T [q, .int .i64 (lost : Int)] := (h.box.below hb h.box.lt).kept hk (fun e => by have := (h.ge e).1; omega)
  have hst := Kept.setCell w2 ⟨bb, 0, none⟩ (.slice ao' (l.length + 1) cap')
  refine ⟨⟨hbx.set 0 _, hq.kept hst (fun k hk' e => ?_) (fun _ _ _ h => h.elim), by simp; omega⟩, fun g hg => ?_, hk2.set (p := ⟨bb, 0, none⟩) (Or.inl rfl) _⟩
  · have := (hq.lt k hk').1
    have e' : k = bb := e
    omega
  · rcases hf g hg with h1 | h1
    · exact Or.inl h1
    · exact Or.inr (by have := hb.size; omega)

theorem BagAt.lostOne {T : TypeId} {w : World} {bb : Nat} {q : Value} {l : List EnvD} {lost : Nat} (h : BagAt T w bb q l lost) : BagAt T (w.setCell ⟨bb, 1, none⟩ (.int .i64 ((lost + 1 : Nat) : Int))) bb q l (lost + 1) := by
  have hst := Kept.setCell w ⟨bb, 1, none⟩ (.int .i64 ((lost + 1 : Nat) : Int))
  refine ⟨h.box.set 1 _, h.row.kept hst (fun k hk' e => ?_) (fun _ _ _ h => h.elim), h.few⟩
  have := (h.ge hk').1
  have e' : k = bb := e
  omega

theorem infoEnv3 : (Try.prog.info? 30).map (·.size) = some 3 := by kernel_rfl

theorem results_env {fn : Func} {p u : Tmp} (h : fn.results = #[.cell p 30, .tmp u]) (tmps : Array Value) (w : World) (g : Nat) (x : EnvD)
    (hp : tmps.getD p undef = .pointer (some ⟨g, 0, none⟩)) (hg : Arr w g 30 (envK.c x)) (v : Value) (hv : tmps.getD u undef = v) :
    (results fn tmps).run Try.prog w = .ok (.tuple #[x.v, v]) w := by
  rw [results_cell_tmp h, hp, hv]
  have hl := run_loadVar_row w g 30 30 (envK.c x).toArray (0, 0) _ hg Try.underlying30 rfl infoEnv3
  simp [asAddr, hl, EnvD.v, envK, Result.andThen]

/-- Three cells that are written. -/
theorem Arr.env {w : World} {g : Nat} {x : EnvD} (h : Arr w g 30 (envK.c x)) (y : EnvD) : Arr (((w.setCell ⟨g, 0, none⟩ (.int .i64 y.fr)).setCell ⟨g, 1, none⟩ (.int .i64 y.to)).setCell ⟨g, 2, none⟩ (.string y.by_)) g 30 (envK.c y) :=
  ((h.set 0 (.int .i64 y.fr)).set 1 (.int .i64 y.to)).set 2 (.string y.by_)

theorem below_env {B g : Nat} {a w : World} (h : Below B a w) (hg : B ≤ g) (y : EnvD) : Below B a (((w.setCell ⟨g, 0, none⟩ (.int .i64 y.fr)).setCell ⟨g, 1, none⟩ (.int .i64 y.to)).setCell ⟨g, 2, none⟩ (.string y.by_)) :=
  ((h.setCell (p := ⟨g, 0, none⟩) hg _).setCell (p := ⟨g, 1, none⟩) hg _).setCell (p := ⟨g, 2, none⟩) hg _

theorem kept_env (w : World) (g : Nat) (y : EnvD) : Kept (fun k => k = g) w (((w.setCell ⟨g, 0, none⟩ (.int .i64 y.fr)).setCell ⟨g, 1, none⟩ (.int .i64 y.to)).setCell ⟨g, 2, none⟩ (.string y.by_)) :=
  ((Kept.setCell w ⟨g, 0, none⟩ (.int .i64 y.fr)).set (p := ⟨g, 1, none⟩) rfl (.int .i64 y.to)).set (p := ⟨g, 2, none⟩) rfl (.string y.by_)

/-- At. -/
def atB (l : List EnvD) (i : Int) : Bool := decide (0 ≤ i ∧ i < (l.length : Int))
def atE (l : List EnvD) (i : Int) : EnvD := if atB l i = true then l.getD i.toNat env0 else env0

theorem at_in {l : List EnvD} {i : Int} (h : atB l i = true) : ∃ j : Nat, i = (j : Int) ∧ j < l.length ∧ l[j]? = some (atE l i) := by
  have h' := h
  unfold atB at h'
  simp only [decide_eq_true_eq] at h'
  refine ⟨i.toNat, by omega, by omega, ?_⟩
  unfold atE
  rw [if_pos h]
  have : i.toNat < l.length := by omega
  simp [List.getD, this]

theorem at_out {l : List EnvD} {i : Int} (h : atB l i = false) : (i < 0 ∨ (l.length : Int) ≤ i) ∧ atE l i = env0 := by
  have h' := h
  unfold atB at h'
  simp only [decide_eq_false_iff_not] at h'
  refine ⟨by omega, ?_⟩
  unfold atE
  rw [h]
  rfl

/-- Take. -/
def takeL (l : List EnvD) (i : Int) : List EnvD := if atB l i = true then l.eraseIdx i.toNat else l

/-- What Send leaves. -/
def sendL (l : List EnvD) (x : EnvD) : List EnvD := if l.length < 256 then l ++ [x] else l
def sendN (l : List EnvD) (n : Nat) : Nat := if l.length < 256 then n else n + 1

/-- What Twice leaves. -/
def twiceB (l : List EnvD) (i : Int) : Bool := atB l i && decide (l.length < 256)
def twiceL (l : List EnvD) (i : Int) : List EnvD := if atB l i = true then sendL l (atE l i) else l
def twiceN (l : List EnvD) (i : Int) (n : Nat) : Nat := if atB l i = true then sendN l n else n
end Go.Proofs.Ytmbfidegcebbdaa
