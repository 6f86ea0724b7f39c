/- How rows of what is on its way, and of acts, that came in are opened. -/
import Derived.Test.YtmbfidegcebbdaaKindsOpen
import Derived.Test.YtmbfidegcebbdaaIntsOpen
import Derived.Test.YtmbfidegcebbdaaNetRows
namespace Go.Proofs.Ytmbfidegcebbdaa
open Go.ChangeShapes Go.WideShapes Go.ChangeAt Go.RowKit Go.Joins Go.Deep
set_option linter.unusedVariables false

theorem list3n {α : Type} {l : List α} (h : l.length = 3) : ∃ c0 c1 c2, l = [c0, c1, c2] := by
  match l, h with
  | [c0, c1, c2], _ => exact ⟨c0, c1, c2, rfl⟩

theorem list4n {α : Type} {l : List α} (h : l.length = 4) : ∃ c0 c1 c2 c3, l = [c0, c1, c2, c3] := by
  match l, h with
  | [c0, c1, c2, c3], _ => exact ⟨c0, c1, c2, c3, rfl⟩

theorem list6n {α : Type} {l : List α} (h : l.length = 6) : ∃ c0 c1 c2 c3 c4 c5, l = [c0, c1, c2, c3, c4, c5] := by
  match l, h with
  | [c0, c1, c2, c3, c4, c5], _ => exact ⟨c0, c1, c2, c3, c4, c5, rfl⟩

theorem cellsEnv10 : Try.prog.cellsOf 30 = 3 := by kernel_rfl
theorem cellsInt10 : Try.prog.cellsOf 3 = 1 := by kernel_rfl
theorem cellsStr10 : Try.prog.cellsOf 9 = 1 := by kernel_rfl

/-- Nothing is asked of how it reads. -/
def AnyQ {H α : Type} (d : DataW H) (x : α) : Prop := True

set_option maxRecDepth 100000 in
theorem open_env_cells {H : Type} {enc : TypeId × Value → H} {W : World} {fuel : Nat} {cs : List Value} {y : DataW H × List MemPlace}
    (hf : DataW.trod enc Try.prog W 0 (fun _ => true) true fuel 30 cs = some y) : ∃ x : EnvD, cs = envK.c x ∧ envK.At W x ∧ AnyQ y.1 x := by
  obtain ⟨xs, n, _, hx, hcl, hl, hg⟩ := DataW.trod_struct Try.underlying30 hf
  obtain ⟨c0, c1, c2, rfl⟩ := list3n (hcl.trans cellsEnv10)
  obtain ⟨y0, y1, y2, rfl⟩ := list3n hl
  have g0 := hg 0 _ rfl
  have g1 := hg 1 _ rfl
  have g2 := hg 2 _ rfl
  simp [cellsInt10, cellsStr10] at g0 g1 g2
  obtain ⟨a0, e0, _, _⟩ := DataW.trod_int Try.underlying3 g0
  obtain ⟨a1, e1, _, _⟩ := DataW.trod_int Try.underlying3 g1
  obtain ⟨a2, e2, hy2, s2⟩ := DataW.trod_string Try.underlying9 g2
  simp at e0 e1 e2
  subst e0 e1 e2
  exact ⟨⟨a0, a1, a2⟩, rfl, trivial, trivial⟩

theorem open_envs {H : Type} {enc : TypeId × Value → H} {W : World} {a : Option Addr} {len cap : Nat} {d : DataW H} {p : List MemPlace}
    (h : DataW.Trod enc Try.prog W 0 (fun _ => true) true 26 (.slice a len cap) d p) :
    ∃ l : List EnvD, l.length = len ∧ RowAt envK W a l ∧ len ≤ maxLen := by
  obtain ⟨fuel, hf⟩ := h
  obtain ⟨l, h1, h2, _, h4, _⟩ := open_row envK AnyQ Try.underlying26 cellsEnv10 open_env_cells hf
  exact ⟨l, h1, h2, h4⟩

/-- An act. -/
structure ActD where
  kind : Int
  e : EnvD
  n : Int
  more : Int

instance : Inhabited ActD := ⟨⟨0, env0, 0, 0⟩⟩

def actK : Kind ActD where
  n := 6
  c x := [.int .i64 x.kind, .int .i64 x.e.fr, .int .i64 x.e.to, .string x.e.by_, .int .i64 x.n, .int .i64 x.more]
  foot _ _ := False
  At _ _ := True
  pos := by decide
  len _ := rfl
  one x u hu := by
    simp only [List.mem_cons, List.not_mem_nil, or_false] at hu
    rcases hu with rfl | rfl | rfl | rfl | rfl | rfl <;> rfl
  lt _ h := h.elim
  keep _ _ := trivial

theorem cellsAct10 : Try.prog.cellsOf 32 = 6 := by kernel_rfl

set_option maxRecDepth 100000 in
theorem open_act_cells {H : Type} {enc : TypeId × Value → H} {W : World} {fuel : Nat} {cs : List Value} {y : DataW H × List MemPlace}
    (hf : DataW.trod enc Try.prog W 0 (fun _ => true) true fuel 32 cs = some y) : ∃ x : ActD, cs = actK.c x ∧ actK.At W x ∧ AnyQ y.1 x := by
  obtain ⟨xs, n, _, hx, hcl, hl, hg⟩ := DataW.trod_struct Try.underlying32 hf
  obtain ⟨c0, c1, c2, c3, c4, c5, rfl⟩ := list6n (hcl.trans cellsAct10)
  obtain ⟨y0, y1, y2, y3, rfl⟩ := list4n hl
  have g0 := hg 0 _ rfl
  have g1 := hg 1 _ rfl
  have g2 := hg 2 _ rfl
  have g3 := hg 3 _ rfl
  simp [cellsInt10, cellsEnv10] at g0 g1 g2 g3
  obtain ⟨a0, e0, _, _⟩ := DataW.trod_int Try.underlying3 g0
  obtain ⟨x, e1, _, _⟩ := open_env_cells g1
  obtain ⟨a2, e2, _, _⟩ := DataW.trod_int Try.underlying3 g2
  obtain ⟨a3, e3, _, _⟩ := DataW.trod_int Try.underlying3 g3
  have e1' : [c1, c2, c3] = [.int .i64 x.fr, .int .i64 x.to, .string x.by_] := e1
  simp at e0 e1' e2 e3
  obtain ⟨rfl, rfl, rfl⟩ := e1'
  subst e0 e2 e3
  exact ⟨⟨a0, x, a2, a3⟩, rfl, trivial, trivial⟩

theorem open_acts {H : Type} {enc : TypeId × Value → H} {W : World} {a : Option Addr} {len cap : Nat} {d : DataW H} {p : List MemPlace}
    (h : DataW.Trod enc Try.prog W 0 (fun _ => true) true 22 (.slice a len cap) d p) :
    ∃ l : List ActD, l.length = len ∧ RowAt actK W a l ∧ len ≤ maxLen := by
  obtain ⟨fuel, hf⟩ := h
  obtain ⟨l, h1, h2, _, h4, _⟩ := open_row actK AnyQ Try.underlying22 cellsAct10 open_act_cells hf
  exact ⟨l, h1, h2, h4⟩
end Go.Proofs.Ytmbfidegcebbdaa
