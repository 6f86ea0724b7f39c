/- The program's graph, as it lies; what New, Len, Emitted do. -/
import Derived.Test.YtfbpjdjajecajaaWalkDfs
import Derived.Test.YtfbpjdjajecajaaMapCplx
import Derived.Test.YtfbpjdjajecajaaMapStr
import Derived.Test.YtfbpjdjajecajaaRowsMore
import Derived.BigQuiet
import Derived.BigRegion
import Derived.Deep.QuietTactic
import Derived.Deep.RegionWith
namespace Go.Proofs.Ytfbpjdjajecajaa
open Go Go.RowKit Go.Maps
set_option linter.unusedVariables false

theorem plV_in {g : GrD} (h : GrOk g) {v : VtxD} (hv : v ∈ g.L) : (plV v).In := by
  have := h.rng v hv
  unfold PlD.In plV
  simp only
  omega

/-- A vertex as a value. -/
def vtxV (id : ByteArray) (ao : Option Addr) (n cap : Nat) (done : Bool) : Value := .agg #[.string id, .slice ao n cap, .bool done]

/-- How a vertex' parents lie. -/
def ParAt (w : World) (S : Nat → Prop) (gb pb vb : Nat) (v : VtxD) (ao : Option Addr) (n cap : Nat) : Prop :=
  v.done = false → n = v.parents.length ∧ RowAt textK w ao v.parents ∧ ∀ b, rowFoot textK ao v.parents b → S b ∧ b ≠ gb ∧ b ≠ pb ∧ b ≠ vb

/-- What the map of places holds. -/
def plF (L : List VtxD) (id : ByteArray) : Option Value := (getV L id).map (fun v => kC (plV v))

structure PGr (w : World) (gb pb vb : Nat) (S : Nat → Prop) (g : GrD) (f : PlD → Option Value) : Prop where
  box : Arr w gb 44 [.int .i64 g.low, .map (some pb), .map (some vb)]
  pl : SMap w pb (plF g.L) g.L.length
  vx : CMap w vb f g.L.length
  no : ∀ p, p.In → atPl g.L p = none → f p = none
  yes : ∀ v ∈ g.L, ∃ ao n cap, f (plV v) = some (vtxV v.id ao n cap v.done) ∧ ParAt w S gb pb vb v ao n cap
  ok : GrOk g
  ids : ∀ v ∈ g.L, v.id.size ≤ maxLen ∧ ∀ p ∈ v.parents, p.size ≤ maxLen
  sg : S gb
  sp : S pb
  sv : S vb
  n1 : gb ≠ pb
  n2 : gb ≠ vb
  n3 : pb ≠ vb
  lt : ∀ k, S k → k < w.heap.size

/-- A graph whose blocks are among S. -/
def PG (w : World) (gb : Nat) (S : Nat → Prop) (g : GrD) : Prop := ∃ pb vb f, PGr w gb pb vb S g f

theorem ParAt.keep {w w' : World} {S T : Nat → Prop} {gb pb vb : Nat} {v : VtxD} {ao : Option Addr} {n cap : Nat} (h : ParAt w S gb pb vb v ao n cap) (hk : Kept T w w') (hT : ∀ b, S b → b ≠ gb → b ≠ pb → b ≠ vb → ¬ T b) : ParAt w' S gb pb vb v ao n cap := fun hd => by
  obtain ⟨h1, h2, h3⟩ := h hd
  exact ⟨h1, h2.kept hk (fun b hb => by obtain ⟨q1, q2, q3, q4⟩ := h3 b hb; exact hT b q1 q2 q3 q4), h3⟩

theorem PGr.kept {w w' : World} {gb pb vb : Nat} {S T : Nat → Prop} {g : GrD} {f : PlD → Option Value} (h : PGr w gb pb vb S g f) (hk : Kept T w w') (hT : ∀ k, S k → ¬ T k) : PGr w' gb pb vb S g f :=
  { h with box := h.box.kept hk (hT _ h.sg), pl := h.pl.kept hk (hT _ h.sp), vx := h.vx.kept hk (hT _ h.sv)
           yes := fun v hv => by obtain ⟨ao, n, cap, h1, h2⟩ := h.yes v hv; exact ⟨ao, n, cap, h1, h2.keep hk (fun b hb _ _ _ => hT b hb)⟩
           lt := fun k e => Nat.lt_of_lt_of_le (h.lt k e) hk.size }

theorem PGr.below {w w' : World} {gb pb vb : Nat} {S : Nat → Prop} {g : GrD} {f : PlD → Option Value} (h : PGr w gb pb vb S g f) (hb : Below w.heap.size w w') : PGr w' gb pb vb S g f :=
  h.kept (T := fun k => False) (Kept.of_below hb) (fun _ _ e => e)

theorem PG.kept {w w' : World} {gb : Nat} {S T : Nat → Prop} {g : GrD} (h : PG w gb S g) (hk : Kept T w w') (hT : ∀ k, S k → ¬ T k) : PG w' gb S g := by
  obtain ⟨pb, vb, f, h⟩ := h
  exact ⟨pb, vb, f, h.kept hk hT⟩

theorem PG.below {w w' : World} {gb : Nat} {S : Nat → Prop} {g : GrD} (h : PG w gb S g) (hb : Below w.heap.size w w') : PG w' gb S g := by
  obtain ⟨pb, vb, f, h⟩ := h
  exact ⟨pb, vb, f, h.below hb⟩

theorem PG.lt {w : World} {gb : Nat} {S : Nat → Prop} {g : GrD} (h : PG w gb S g) {k : Nat} (hk : S k) : k < w.heap.size := by
  obtain ⟨pb, vb, f, h⟩ := h
  exact h.lt k hk

theorem PG.ok {w : World} {gb : Nat} {S : Nat → Prop} {g : GrD} (h : PG w gb S g) : GrOk g := by
  obtain ⟨pb, vb, f, h⟩ := h
  exact h.ok

theorem zeroVtx (w : World) : (zeroValue 49).run Try.prog w = .ok (.agg #[.string ⟨#[]⟩, .slice none 0 0, .bool false]) w := by kernel_rfl
theorem zeroCplx (w : World) : (zeroValue 45).run Try.prog w = .ok (.complex .f64 0 0) w := by kernel_rfl

theorem fieldId (w : World) (s : ByteArray) (b c : Value) : (Instr.field 49 (.agg #[.string s, b, c]) 0).run Try.prog w = .ok (.string s) w := by kernel_rfl
theorem fieldDone (w : World) (a b : Value) (c : Bool) : (Instr.field 49 (.agg #[a, b, .bool c]) 2).run Try.prog w = .ok (.bool c) w := by kernel_rfl

set_option maxRecDepth 100000 in
theorem pgNew_any (w : World) : Calls Try.prog 4 #[] w fun e w' => ∃ gb S, e = .returned (.pointer (some ⟨gb, 0, none⟩)) ∧ PG w' gb S gr0 ∧ (∀ k, S k → w.heap.size ≤ k) ∧ Below w.heap.size w w' := by
  have hmm := @run_makeMap Try.prog
  have hM := SMap.new w
  have hB1 := belowNew w (.map #[] 0)
  have hC := CMap.new (w.alloc (.map #[] 0))
  have hB2 := belowNew (w.alloc (.map #[] 0)) (.map #[] 0)
  have hM2 := hM.below hB2
  obtain ⟨w2, hw2⟩ : ∃ q, (w.alloc (.map #[] 0)).alloc (.map #[] 0) = q := ⟨_, rfl⟩
  rw [hw2] at hC hB2 hM2
  have hA := Arr.new w2 44 [.int .i64 0, .map (some w.heap.size), .map (some (w.heap.size + 1))]
  have hB3 := belowNew w2 (.cells #[.int .i64 0, .map (some w.heap.size), .map (some (w.heap.size + 1))] 44)
  have hs1 : (w.alloc (.map #[] 0)).heap.size = w.heap.size + 1 := alloc_size _ _
  have hs2 : w2.heap.size = w.heap.size + 1 + 1 := by rw [← hw2, alloc_size, alloc_size]
  rw [hs1] at hC hB2
  have hb2 : Below w.heap.size w w2 := hB1.trans (hB2.mono (by omega))
  clear hM hB1
  go_enter Try.func4, Try.ntmps4
  go_wp2
  go_ret
  refine ⟨w2.heap.size, fun k => k = w2.heap.size ∨ k = w.heap.size ∨ k = w.heap.size + 1, by rw [hs2]; rfl, ⟨w.heap.size, w.heap.size + 1, fun _ => none, ?_⟩, fun k hk => by omega, hb2.trans (hB3.mono hb2.size)⟩
  exact { box := hA, pl := hM2.below hB3, vx := hC.below hB3, no := (fun _ _ _ => rfl), yes := (fun v hv => by cases hv), ok := GrOk.zero, ids := (fun v hv => by cases hv), sg := Or.inl rfl, sp := Or.inr (Or.inl rfl), sv := Or.inr (Or.inr rfl), n1 := by omega, n2 := by omega, n3 := by omega, lt := fun k hk => by have := hB3.size; have := hA.lt; omega }
end Go.Proofs.Ytfbpjdjajecajaa
