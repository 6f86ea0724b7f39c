/- More on rows of the call's own: where they lie, joined rows, rows of texts. -/
import Derived.Test.YthhildeocedpiaaDoorKindsOwn
import Derived.Test.YthhildeocedpiaaDoorRegionLast
namespace Go.Proofs.YthhildeocedpiaaDoor
open Go Go.RowKit
set_option linter.unusedVariables false

/-- A row's block is an old one's, or new. -/
def Fresh (w : World) (q q' : Value) : Prop := ∀ g, q'.ownBlock = some g → q.ownBlock = some g ∨ w.heap.size ≤ g

theorem Fresh.refl (w : World) (q : Value) : Fresh w q q := fun _ h => Or.inl h

/-- append(q, y), at a step of a region that draws its order: where the new row lies. -/
theorem step_pushF {α : Type} {K : Kind α} {P : Program} (w : World) {ops : Array Oper} {o : Oper} {a : Act} {C : Act → World → Prop} {Q : Exit → Act → World → Prop} {E : Prop} (hgd : o.guard = none) (s x : Operand) (t : TypeId)
    (ho : o.op = .call { callee := .builtin .append, args := #[s, x], argTypes := #[t, t] })
    (base : Nat) (e : TypeId) (i : TypeInfo) (z : Value) (bytes : Nat) (ht : P.underlying t = some (.slice e)) (hi : P.info? e = some i) (hz : i.zero = some z)
    (hsize : i.size = K.n) (hby : i.bytes = bytes) (hzs : z.cells.size = K.n)
    (q : Value) (l : List α) (hs : a.eval s = q) (hq : KQ K e w base q l) (y : α) (hy : K.At w y) (hyo : ∀ b, K.foot y b → q.ownBlock ≠ some b)
    (ad : Addr) (c : Nat) (hx : a.eval x = .slice (some ad) 1 c) (hnews : ∀ j u, (K.c y)[j]? = some u → w.cell? (ad.add j) = some u)
    (h63 : l.length + 1 ≤ maxLen) (hbytes : (l.length + 1) * bytes ≤ 140737488355328) (hbase : base ≤ w.heap.size)
    (h : ∀ ao' cap' w', KQ K e w' base (.slice ao' (l.length + 1) cap') (l ++ [y]) → Kept (fun k => q.ownBlock = some k) w w' → Fresh w q (.slice ao' (l.length + 1) cap') → C (a.put o.dst (.slice ao' (l.length + 1) cap')) w') : if Region.wanted o (yielded ops a.tmps) = true then Oper.wp P o a w C Q else E := by
  refine step_append_q w hgd s x t ho e i z K.n bytes ht hi hz hsize hby hzs K.pos base q l.length (flatK K l) hs hq.row ad 1 c (K.c y) hx (by decide) (by rw [K.len]; omega) hnews (K.one y) h63 hbytes hbase ?_
  intro v' w' hrow hgr hfr
  obtain ⟨ao', cap', rfl, _, _⟩ := hrow.form
  refine h ao' cap' w' (hq.push (m := [y]) ?_ ?_ (by simp) (by rw [flatK_single]; exact hrow) hgr hfr) (Kept.of_grown hgr) hfr
  · intro x hx; simp at hx; rw [hx]; exact hy
  · intro x hx; simp at hx; rw [hx]; exact hyo

/-- A row's block lies behind whatever lies ahead of its base. -/
theorem KQ.rebase {α : Type} {K : Kind α} {T : TypeId} {w : World} {B B' : Nat} {q : Value} {l : List α} (h : KQ K T w B q l) (hB : B' ≤ B) : KQ K T w B' q l := by
  refine ⟨⟨h.row.1, h.row.2.imp id ?_⟩, h.at_, h.off, fun k hk => ⟨Nat.le_trans hB (h.lt k hk).1, (h.lt k hk).2⟩, h.nil⟩
  rintro ⟨g, pre, post, cap, e, hb, r⟩
  exact ⟨g, pre, post, cap, e, Nat.le_trans hB hb, r⟩

theorem own_belowT {B : Nat} {e : TypeId} {k : Nat} {v : Value} {n : Nat} {xs : List Value} {w w' : World} (h : w.ownsRow B e k v n xs) (hb : Below w.heap.size w w') : w'.ownsRow B e k v n xs := by
  refine ⟨h.1, h.2.imp id ?_⟩
  rintro ⟨g, cap, cur, e1, e2, e3, e4⟩
  have hg : g < w.heap.size := (Array.getElem?_eq_some_iff.1 e3).1
  exact ⟨g, cap, cur, e1, e2, (hb.block g hg).trans e3, e4⟩

theorem RowAt.dropG {α : Type} {K : Kind α} {w : World} {b off : Nat} {l : List α} (h : RowAt K w (some ⟨b, off, none⟩) l) (i : Nat) : RowAt K w (some ⟨b, off + i * K.n, none⟩) (l.drop i) := by
  refine ⟨fun k t ht => ?_, fun x hx => h.at_ x (List.mem_of_mem_drop hx)⟩
  rw [List.getElem?_drop] at ht
  obtain ⟨b', off', e', h1, h2⟩ := h.cell _ t ht
  simp only [Option.some.injEq, Addr.mk.injEq, and_true] at e'
  obtain ⟨rfl, rfl⟩ := e'
  refine ⟨_, _, rfl, h1, fun q v hv => ?_⟩
  have := h2 q v hv
  have ea : off + (i + k) * K.n + q = off + i * K.n + k * K.n + q := by rw [Nat.add_mul]; omega
  rw [ea] at this
  exact this

/-- Behind three appends. -/
theorem KQ.joined {α : Type} {K : Kind α} {T : TypeId} {w : World} {B : Nat} {ao : Option Addr} {N cap : Nat} {LT LD lo : List α} {x : α} (hf : ∀ x b, ¬ K.foot x b) (hA : ∀ x, K.At w x) (h : w.ownsRow B T K.n (.slice ao N cap) N ([] ++ flatK K LT ++ flatK K [x] ++ flatK K LD)) (hl : lo = LT ++ x :: LD) (hN : N = lo.length) : KQ K T w B (.slice ao N cap) lo := by
  have e : [] ++ flatK K LT ++ flatK K [x] ++ flatK K LD = flatK K lo := by
    rw [hl, List.nil_append, ← flatK_append, ← flatK_append, List.append_assoc]
    rfl
  rw [e] at h
  exact KQ.of_own hf (fun x _ => hA x) hN h

theorem infoStrT : (Tryd.prog.info? 9).any (fun i => i.size == 1 && i.bytes == 16 && (match i.zero with | some z => z.cells.size == 1 | none => false)) = true := by kernel_rfl

theorem strInfoT : ∃ i z, Tryd.prog.info? 9 = some i ∧ i.zero = some z ∧ i.size = 1 ∧ i.bytes = 16 ∧ z.cells.size = 1 := by
  have h := infoStrT
  cases hi : Tryd.prog.info? 9 with
  | none => rw [hi] at h; cases h
  | some i =>
    rw [hi] at h
    simp only [Option.any_some, Bool.and_eq_true, beq_iff_eq] at h
    cases hz : i.zero with
    | none => rw [hz] at h; simp at h
    | some z =>
      rw [hz] at h
      exact ⟨i, z, rfl, hz, h.1.1, h.1.2, by simpa using h.2⟩

/-- Texts. -/
def textK : Kind ByteArray where
  n := 1
  c x := [.string x]
  foot _ _ := False
  At _ _ := True
  pos := by decide
  len _ := rfl
  one x u hu := by
    simp only [List.mem_cons, List.not_mem_nil, or_false] at hu
    rcases hu with rfl; rfl
  lt _ h := h.elim
  keep _ _ := trivial

theorem new_text (w : World) (x : ByteArray) : ∀ j u, (textK.c x)[j]? = some u → (w.alloc (.cells #[.string x] 9)).cell? ((⟨w.heap.size, 0, none⟩ : Addr).add j) = some u := by
  intro j u hu
  rw [Go.WideShapes.add_plain, Nat.zero_add]
  exact (Arr.new w 9 [.string x]).cell hu

/-- What a table has behind an act: what it had, or new. -/
def FreshS (w : World) (S S' : Nat → Prop) : Prop := ∀ k, S' k → S k ∨ w.heap.size ≤ k

/-- Where a row that is not empty lies. -/
theorem KQ.spot {α : Type} {K : Kind α} {T : TypeId} {w : World} {base : Nat} {ao : Option Addr} {n cap : Nat} {l : List α} (h : KQ K T w base (.slice ao n cap) l) (hl : 0 < l.length) : ∃ g off, ao = some ⟨g, off, none⟩ ∧ base ≤ g ∧ g < w.heap.size ∧ n = l.length ∧ n ≤ cap := by
  rcases h.row.2 with ⟨ao', hv, hn⟩ | ⟨g, pre, post, cap', hv, hb, hg, hnc, hcm, hpl⟩
  · omega
  · simp only [Value.slice.injEq] at hv
    obtain ⟨rfl, rfl, rfl⟩ := hv
    exact ⟨g, pre.length, rfl, hb, hg.lt, rfl, hnc⟩
end Go.Proofs.YthhildeocedpiaaDoor
