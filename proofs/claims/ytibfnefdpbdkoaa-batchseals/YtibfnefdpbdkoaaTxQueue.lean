/- A row of transactions of the call's own, that is appended to. -/
import Derived.Test.YtibfnefdpbdkoaaBatTick
import Derived.Test.YtibfnefdpbdkoaaTxReader
namespace Go.Proofs.Ytibfnefdpbdkoaa
open Go.RowKit
set_option linter.unusedVariables false

/-- q is a row of the call's own that holds l. -/
structure TxQ (w : World) (base : Nat) (q : Value) (l : List TxM) : Prop where
  row : QRow w base 33 9 q l.length (flatX l)
  at_ : ∀ x ∈ l, x.At w
  off : ∀ x ∈ l, x.Off (fun k => q.ownBlock = some k)
  lt : ∀ k, q.ownBlock = some k → base ≤ k ∧ k < w.heap.size
  nil : ∀ n cap, q = .slice none n cap → cap = 0

theorem TxQ.empty (w : World) (base : Nat) : TxQ w base (.slice none 0 0) [] :=
  ⟨QRow.nil _ _ _ _ _, (fun x hx => by cases hx), (fun x hx => by cases hx), (fun k hk => by simp [Value.ownBlock] at hk), fun n cap e => by simp at e; exact e.2.symm⟩

theorem TxQ.kept {S : Nat → Prop} {w w' : World} {base : Nat} {q : Value} {l : List TxM} (h : TxQ w base q l) (hk : Kept S w w') (hq : ∀ k, q.ownBlock = some k → ¬ S k) (ho : ∀ x ∈ l, x.Off S) : TxQ w' base q l :=
  ⟨h.row.kept hk hq, fun x hx => (h.at_ x hx).kept hk (ho x hx), h.off, fun k hq => ⟨(h.lt k hq).1, Nat.lt_of_lt_of_le (h.lt k hq).2 hk.size⟩, h.nil⟩

theorem TxQ.below {w w' : World} {base : Nat} {q : Value} {l : List TxM} (h : TxQ w base q l) (hb : Below w.heap.size w w') : TxQ w' base q l :=
  h.kept (Kept.of_below (S := fun _ => False) hb) (fun _ _ h => h) (fun x _ => ⟨fun _ _ _ _ h => h, fun _ _ _ _ h => h⟩)

theorem TxQ.form {w : World} {base : Nat} {q : Value} {l : List TxM} (h : TxQ w base q l) : ∃ ao cap, q = .slice ao l.length cap ∧ (ao = none → cap = 0) ∧ TxsAt w ao l := by
  obtain ⟨ao, cap, rfl, _, _⟩ := h.row.form
  exact ⟨ao, cap, rfl, fun e => h.nil _ _ (by rw [e]), h.row.txs rfl h.at_⟩

/-- More is appended. -/
theorem TxQ.push {w w' : World} {base : Nat} {q q' : Value} {l m : List TxM} (h : TxQ w base q l) (hm : ∀ x ∈ m, x.At w) (hmo : ∀ x ∈ m, x.Off (fun k => q.ownBlock = some k)) (h0 : 0 < m.length)
    (hrow : QRow w' base 33 9 q' (l.length + m.length) (flatX l ++ flatX m)) (hgr : w.grownBy w' q.ownBlock) (hfr : ∀ g, q'.ownBlock = some g → q.ownBlock = some g ∨ w.heap.size ≤ g) : TxQ w' base q' (l ++ m) := by
  have k6 := Kept.of_grown hgr
  refine ⟨by rw [List.length_append, flatX_append]; exact hrow, ?_, ?_, ?_, ?_⟩
  · intro x hx
    rw [List.mem_append] at hx
    rcases hx with hx | hx
    · exact (h.at_ x hx).kept k6 (h.off x hx)
    · exact (hm x hx).kept k6 (hmo x hx)
  · intro x hx
    rw [List.mem_append] at hx
    rcases hx with hx | hx
    · exact (h.at_ x hx).off_grow (h.off x hx) hfr
    · exact (hm x hx).off_grow (hmo x hx) hfr
  · intro k hk
    rcases hrow.lt with hl | ⟨g, hg, hb, hl⟩
    · omega
    · rw [hk] at hg
      simp at hg
      subst hg
      exact ⟨hb, hl⟩
  · intro n cap e
    rcases hrow.2 with ⟨ao, hv, hn⟩ | ⟨g, pre, post, c, hv, _⟩
    · omega
    · rw [hv] at e
      cases e

/-- Lists in new memory keep off what is older. -/
theorem off_own {x : TxM} {b : Nat} {w : World} (h1 : OwnStrs b w x.ra x.d.rs) (h2 : OwnStrs b w x.wa x.d.ws) {S : Nat → Prop} (hS : ∀ k, S k → k < b) : x.Off S := by
  refine ⟨fun bb off e hl hk => ?_, fun bb off e hl hk => ?_⟩
  · obtain ⟨b', off', e', h3, _⟩ := h1 0 hl
    rw [e] at e'
    simp at e'
    have := hS bb hk
    omega
  · obtain ⟨b', off', e', h3, _⟩ := h2 0 hl
    rw [e] at e'
    simp at e'
    have := hS bb hk
    omega

theorem infoTx4 : (Try.prog.info? 33).map (fun i => (i.zero, i.size, i.bytes)) = some (some (.agg #[.int .i64 0, .string ⟨#[]⟩, .string ⟨#[]⟩, .int .u64 0, .int .u64 0, .string ⟨#[]⟩, .string ⟨#[]⟩, .slice none 0 0, .slice none 0 0]), 9, 136) := by kernel_rfl

theorem c_one (x : TxM) : ∀ u ∈ x.c, u.oneCell' = true := by
  have := flatX_one [x]
  simpa [flatX] using this

theorem flatX_single (x : TxM) : flatX [x] = x.c := by simp [flatX]

theorem new_c (w : World) (x : TxM) : ∀ j u, x.c[j]? = some u → (w.alloc (.cells x.c.toArray 33)).cell? ((⟨w.heap.size, 0, none⟩ : Addr).add j) = some u := by
  intro j u hu
  rw [Go.WideShapes.add_plain, Nat.zero_add]
  exact (Arr.new w 33 x.c).cell hu
end Go.Proofs.Ytibfnefdpbdkoaa
