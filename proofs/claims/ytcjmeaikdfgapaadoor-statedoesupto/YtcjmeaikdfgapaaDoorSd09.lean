/- Texts as one: WalkRows, AccTx, AccUnion, AccLeast, AccClash, AccGroups. -/
import Derived.Test.YtcjmeaikdfgapaaDoorSd08
import Derived.ScopeJumps
import Derived.WalkMore
import Derived.Laws.OwnMore
import Derived.Test.YtcjmeaikdfgapaaDoorSd04
/- Rows that are appended to: a whole row behind another one; where they lie. -/
namespace Go.Proofs.YtcjmeaikdfgapaaDoor
open Go Go.RowKit
set_option linter.unusedVariables false

/-- append(q, xs...) of no elements. -/
theorem run_append_zero {P : Program} (w : World) (t ty e : TypeId) (i : TypeInfo) (ht : P.underlying t = some (.slice e)) (hi : P.info? e = some i) (ao b : Option Addr) (n cap c : Nat) (hn : n ≤ cap) :
    (Builtin.append_ #[t, t] ty #[.slice ao n cap, .slice b 0 c]).run P w = .ok (.slice ao n cap) w := by
  cases ao <;> cases b <;> simp [Builtin.append_, run_underlying ht, sizeOf, typeInfo, hi, Builtin.lenOf, Builtin.firstCells, hn, storeCells, loadCells, loadCellsFrom, Result.andThen]

/-- append(q, y): where it lies then. -/
theorem wpList_pushN {α : Type} {K : Kind α} {P : Program} {w : World} {ops : Array Oper} {rest : List Oper} {o : Oper} {a : Act} {Q : Exit → Act → World → Prop} (hgd : o.guard = none) (s x : Operand) (t : TypeId)
    (ho : o.op = .call { callee := .builtin .append, args := #[s, x], argTypes := #[t, t] })
    (base : Nat) (e : TypeId) (i : TypeInfo) (z : Value) (bytes : Nat) (ht : P.underlying t = some (.slice e)) (hi : P.info? e = some i) (hz : i.zero = some z)
    (hsize : i.size = K.n) (hby : i.bytes = bytes) (hzs : z.cells.size = K.n)
    (q : Value) (l : List α) (hs : a.eval s = q) (hq : KQ K e w base q l) (y : α) (hy : K.At w y) (hyo : ∀ b, K.foot y b → q.ownBlock ≠ some b)
    (ad : Addr) (c : Nat) (hx : a.eval x = .slice (some ad) 1 c) (hnews : ∀ j u, (K.c y)[j]? = some u → w.cell? (ad.add j) = some u)
    (h63 : l.length + 1 ≤ maxLen) (hbytes : (l.length + 1) * bytes ≤ 140737488355328) (hbase : base ≤ w.heap.size)
    (h : ∀ ao' cap' w', KQ K e w' base (.slice ao' (l ++ [y]).length cap') (l ++ [y]) → Kept (fun k => q.ownBlock = some k) w w' → Fresh w q (.slice ao' (l ++ [y]).length cap') → wpList P ops Q rest (a.put o.dst (.slice ao' (l ++ [y]).length cap')) w') : wpList P ops Q (o :: rest) a w := by
  refine wpList_append_q hgd s x t ho base e i z K.n bytes ht hi hz hsize hby hzs K.pos q l.length (flatK K l) hs hq.row ad 1 c (K.c y) hx (by decide) (by rw [K.len]; omega) hnews (K.one y) h63 hbytes hbase ?_
  intro v' w' hrow hgr hfr
  obtain ⟨ao', cap', rfl, _, _⟩ := hrow.form
  have el : (l ++ [y]).length = l.length + 1 := by simp
  have hh := h ao' cap' w'
  rw [el] at hh
  refine hh (hq.push (m := [y]) ?_ ?_ (by simp) (by rw [flatK_single]; exact hrow) hgr hfr) (Kept.of_grown hgr) hfr
  · intro x hx; simp at hx; rw [hx]; exact hy
  · intro x hx; simp at hx; rw [hx]; exact hyo

/-- append(q, xs...): a whole row, whatever its length. -/
theorem wpList_joins {α : Type} {K : Kind α} {P : Program} {w : World} {ops : Array Oper} {rest : List Oper} {o : Oper} {a : Act} {Q : Exit → Act → World → Prop} (hgd : o.guard = none) (s x : Operand) (t : TypeId)
    (ho : o.op = .call { callee := .builtin .append, args := #[s, x], argTypes := #[t, t] })
    (base : Nat) (e : TypeId) (i : TypeInfo) (z : Value) (bytes : Nat) (ht : P.underlying t = some (.slice e)) (hi : P.info? e = some i) (hz : i.zero = some z)
    (hsize : i.size = K.n) (hby : i.bytes = bytes) (hzs : z.cells.size = K.n)
    (q : Value) (l m : List α) (hs : a.eval s = q) (hq : KQ K e w base q l) (hf : ∀ x b, ¬ K.foot x b)
    (ao : Option Addr) (c : Nat) (hx : a.eval x = .slice ao m.length c) (hS : RowAt K w ao m)
    (h63 : l.length + m.length ≤ maxLen) (hbytes : (l.length + m.length) * bytes ≤ 140737488355328) (hbase : base ≤ w.heap.size)
    (h : ∀ ao' cap' w', KQ K e w' base (.slice ao' (l ++ m).length cap') (l ++ m) → Kept (fun k => q.ownBlock = some k) w w' → Fresh w q (.slice ao' (l ++ m).length cap') → wpList P ops Q rest (a.put o.dst (.slice ao' (l ++ m).length cap')) w') : wpList P ops Q (o :: rest) a w := by
  have el : (l ++ m).length = l.length + m.length := by simp
  cases hm : m with
  | nil =>
    subst hm
    obtain ⟨aq, cq, rfl, _, _⟩ := hq.form
    obtain ⟨_, _, eq, hlc, _⟩ := hq.row.form
    simp only [Value.slice.injEq] at eq
    obtain ⟨rfl, _, rfl⟩ := eq
    refine wpList_plain hgd fun K' hK' => ?_
    have hrun := run_append_zero (P := P) w t o.type e i ht hi aq ao l.length cq c hlc
    unfold Oper.wp
    simp [execOp, ho, resolve, invoke, builtin, hs, hx, hrun, Result.andThen]
    have hh := h aq cq w
    rw [List.append_nil] at hh
    exact hK' _ _ (hh hq (Kept.refl _ _) (Fresh.refl _ _))
  | cons y r =>
    have hpos : 0 < m.length := by rw [hm]; simp
    obtain ⟨g, off, rfl, _, _⟩ := hS.cell 0 y (by rw [hm]; rfl)
    refine wpList_append_q hgd s x t ho base e i z K.n bytes ht hi hz hsize hby hzs K.pos q l.length (flatK K l) hs hq.row ⟨g, off, none⟩ m.length c (flatK K m) hx hpos (flatK_length K m) hS.news (flatK_one K m) h63 hbytes hbase ?_
    intro v' w' hrow hgr hfr
    obtain ⟨ao', cap', rfl, _, _⟩ := hrow.form
    have hh := h ao' cap' w'
    rw [el] at hh
    exact hh (hq.push (m := m) (fun x hx => hS.at_ x hx) (fun x _ b hb => absurd hb (hf x b)) hpos hrow hgr hfr) (Kept.of_grown hgr) hfr

/-- The front of a row of the call's own. -/
theorem KQ.cutEnd {α : Type} {K : Kind α} {T : TypeId} {w : World} {base : Nat} {ao : Option Addr} {n cap : Nat} {l : List α} (h : KQ K T w base (.slice ao n cap) l) (hf : ∀ x b, ¬ K.foot x b) (m : Nat) (hm : m ≤ l.length) : KQ K T w base (.slice ao m cap) (l.take m) := by
  have hlen : (l.take m).length = m := by rw [List.length_take]; omega
  refine ⟨⟨by rw [flatK_length], ?_⟩, fun x hx => h.at_ x (List.mem_of_mem_take hx), fun x _ b hb => absurd hb (hf x b), fun k hk => h.lt k (by cases ao <;> exact hk), fun a b e => h.nil n b (by simp only [Value.slice.injEq] at e; rw [e.1, e.2.2])⟩
  rcases h.row.2 with ⟨ao', hv, hn⟩ | ⟨g, pre, post, cap', hv, hb, hg, hnc, hcm, hpl⟩
  · simp only [Value.slice.injEq] at hv
    obtain ⟨rfl, hv2, rfl⟩ := hv
    exact Or.inl ⟨ao, by congr 1; omega, by omega⟩
  · simp only [Value.slice.injEq] at hv
    obtain ⟨rfl, rfl, rfl⟩ := hv
    refine Or.inr ⟨g, pre, flatK K (l.drop m) ++ post, cap, by rw [hlen], hb, ?_, by omega, hcm, ?_⟩
    · have e : pre ++ flatK K (l.take m) ++ (flatK K (l.drop m) ++ post) = pre ++ flatK K l ++ post := by
        rw [← List.append_assoc, List.append_assoc pre, ← flatK_append, List.take_append_drop]
      rw [e]
      exact hg
    · rw [List.length_append, flatK_length, hpl, hlen, List.length_drop, ← Nat.add_mul]
      congr 1
      omega

theorem KQ.rowOf {α : Type} {K : Kind α} {T : TypeId} {w : World} {base : Nat} {ao : Option Addr} {n cap : Nat} {l : List α} (h : KQ K T w base (.slice ao n cap) l) : RowAt K w ao l ∧ n = l.length := by
  obtain ⟨ao', cap', e, _, hr⟩ := h.form
  simp only [Value.slice.injEq] at e
  obtain ⟨e1, e2, _⟩ := e
  rw [e1]
  exact ⟨hr, e2⟩

theorem KQ.capOf {α : Type} {K : Kind α} {T : TypeId} {w : World} {base : Nat} {ao : Option Addr} {n cap : Nat} {l : List α} (h : KQ K T w base (.slice ao n cap) l) : l.length ≤ cap ∧ cap ≤ maxLen := by
  obtain ⟨ao', cap', e, h1, h2⟩ := h.row.form
  simp only [Value.slice.injEq] at e
  obtain ⟨_, _, e3⟩ := e
  rw [e3]
  exact ⟨h1, h2⟩

/-- A label to which a scope jumps back, behind two statements: its first way is walked up to it, then all its passes alike. -/
theorem wp_scope_next {P : Program} {a : Act} {w : World} {Q : Exit → Act → World → Prop} {x1 x2 r : Code} (l : Nat) (J : Act → World → Prop) (μ : Act → World → Nat) (hf : findLabel (x1.seq (x2.seq ((Code.label l).seq r))) l = some (Code.skip.seq r))
    (pass : ∀ a w, J a w → r.wp P (Exit.jump l (fun a' w' => J a' w' ∧ μ a' w' < μ a w) Q) a w)
    (first : ∀ K1 : Act → World → Prop, (∀ a w, x2.wp P (Exit.then J (Exit.jump l J Q)) a w → K1 a w) → x1.wp P (Exit.then K1 (Exit.jump l J Q)) a w) : (Code.scope (x1.seq (x2.seq ((Code.label l).seq r)))).wp P Q a w := by
  have hz : ∀ a w, J a w → ((Code.label l).seq r).wp P (Exit.jump l J Q) a w := fun a w h => wp_seq (wp_label (Code.wp_mono (fun e a' w' hq => by cases e <;> first | exact hq | exact ⟨hq.1, hq.2.1⟩) (pass a w h)))
  refine wp_scope_jumps l J μ hf (wp_seq (first _ (fun a w h => wp_seq (Code.wp_mono (fun e a' w' hq => ?_) h)))) (fun a w h => wp_seq (wp_skip (pass a w h)))
  cases e with
  | normal => exact hz a' w' hq
  | _ => exact hq
end Go.Proofs.YtcjmeaikdfgapaaDoor

/- Transactions as they lie in memory, and rows of them; pairs of numbers; numbers from 0 on. -/
namespace Go.Proofs.YtcjmeaikdfgapaaDoor
open Go Go.RowKit
set_option linter.unusedVariables false

/-- A transaction as it lies. -/
structure TxA where
  kind : Int
  frm : ByteArray
  dst : ByteArray
  amt : Int
  non : Int
  key : ByteArray
  val : ByteArray
  rs : List ByteArray
  ws : List ByteArray
  ra : Option Addr
  rc : Nat
  wa : Option Addr
  wc : Nat

instance : Inhabited TxA := ⟨⟨0, ⟨#[]⟩, ⟨#[]⟩, 0, 0, ⟨#[]⟩, ⟨#[]⟩, [], [], none, 0, none, 0⟩⟩

def TxA.rw (x : TxA) : RwD := ⟨x.rs, x.ws⟩

def TxA.c (x : TxA) : List Value := [.int .i64 x.kind, .string x.frm, .string x.dst, .int .u64 x.amt, .int .u64 x.non, .string x.key, .string x.val, .slice x.ra x.rs.length x.rc, .slice x.wa x.ws.length x.wc]

def TxA.v (x : TxA) : Value := .agg #[.int .i64 x.kind, .string x.frm, .string x.dst, .int .u64 x.amt, .int .u64 x.non, .string x.key, .string x.val, .slice x.ra x.rs.length x.rc, .slice x.wa x.ws.length x.wc]

/-- Its lists lie in memory, nil is nil, and its keys are texts that a machine has. -/
structure TxA.At (w : World) (x : TxA) : Prop where
  rd : RowAt textK w x.ra x.rs
  wr : RowAt textK w x.wa x.ws
  nr : x.ra = none → x.rc = 0
  nw : x.wa = none → x.wc = 0
  zr : ∀ s ∈ x.rs, s.size ≤ maxLen
  zw : ∀ s ∈ x.ws, s.size ≤ maxLen

def txA : Kind TxA where
  n := 9
  c := TxA.c
  foot x b := rowFoot textK x.ra x.rs b ∨ rowFoot textK x.wa x.ws b
  At := TxA.At
  pos := by decide
  len _ := rfl
  one x u hu := by
    simp only [TxA.c, List.mem_cons, List.not_mem_nil, or_false] at hu
    rcases hu with rfl | rfl | rfl | rfl | rfl | rfl | rfl | rfl | rfl <;> rfl
  lt h hf := hf.elim h.rd.lt h.wr.lt
  keep h hk := ⟨h.rd.keep (fun b hb => hk b (Or.inl hb)), h.wr.keep (fun b hb => hk b (Or.inr hb)), h.nr, h.nw, h.zr, h.zw⟩

theorem TxA.At.below {w w' : World} {x : TxA} (h : TxA.At w x) (hb : Below w.heap.size w w') : TxA.At w' x := txA.below h hb

/-- The nine cells of one of a row. -/
theorem RowAt.tx {w : World} {ao : Option Addr} {l : List TxA} (h : RowAt txA w ao l) {i : Nat} {x : TxA} (hx : l[i]? = some x) :
    ∃ b off, ao = some ⟨b, off, none⟩ ∧ b < w.heap.size ∧ w.cell? ⟨b, off + i * 9, none⟩ = some (.int .i64 x.kind) ∧ w.cell? ⟨b, off + i * 9 + 1, none⟩ = some (.string x.frm) ∧ w.cell? ⟨b, off + i * 9 + 2, none⟩ = some (.string x.dst) ∧ w.cell? ⟨b, off + i * 9 + 3, none⟩ = some (.int .u64 x.amt) ∧ w.cell? ⟨b, off + i * 9 + 4, none⟩ = some (.int .u64 x.non) ∧
      w.cell? ⟨b, off + i * 9 + 5, none⟩ = some (.string x.key) ∧ w.cell? ⟨b, off + i * 9 + 6, none⟩ = some (.string x.val) ∧ w.cell? ⟨b, off + i * 9 + 7, none⟩ = some (.slice x.ra x.rs.length x.rc) ∧ w.cell? ⟨b, off + i * 9 + 8, none⟩ = some (.slice x.wa x.ws.length x.wc) ∧ TxA.At w x := by
  obtain ⟨b, off, h1, h2, h3⟩ := h.cell i x hx
  exact ⟨b, off, h1, h2, h3 0 _ rfl, h3 1 _ rfl, h3 2 _ rfl, h3 3 _ rfl, h3 4 _ rfl, h3 5 _ rfl, h3 6 _ rfl, h3 7 _ rfl, h3 8 _ rfl, h.at_ x (List.mem_of_getElem? hx)⟩

theorem RowAt.txt {w : World} {ao : Option Addr} {l : List ByteArray} (h : RowAt textK w ao l) {i : Nat} {v : ByteArray} (hv : l[i]? = some v) :
    ∃ b off, ao = some ⟨b, off, none⟩ ∧ b < w.heap.size ∧ w.cell? ⟨b, off + i, none⟩ = some (.string v) := by
  obtain ⟨b, off, h1, h2, h3⟩ := h.cell i v hv
  refine ⟨b, off, h1, h2, ?_⟩
  have := h3 0 _ rfl
  have e : off + i * textK.n + 0 = off + i := by show off + i * 1 + 0 = _; omega
  rw [e] at this
  exact this

/-- Numbers from 0 on. -/
def natK : Kind Nat where
  n := 1
  c v := [.int .i64 (v : Int)]
  foot _ _ := False
  At _ _ := True
  pos := by decide
  len _ := rfl
  one x u hu := by
    simp only [List.mem_cons, List.not_mem_nil, or_false] at hu
    rcases hu with rfl; rfl
  lt _ h := h.elim
  keep _ _ := trivial

theorem RowAt.nat {w : World} {ao : Option Addr} {l : List Nat} (h : RowAt natK w ao l) {i : Nat} {v : Nat} (hv : l[i]? = some v) :
    ∃ b off, ao = some ⟨b, off, none⟩ ∧ b < w.heap.size ∧ w.cell? ⟨b, off + i, none⟩ = some (.int .i64 (v : Int)) := by
  obtain ⟨b, off, h1, h2, h3⟩ := h.cell i v hv
  refine ⟨b, off, h1, h2, ?_⟩
  have := h3 0 _ rfl
  have e : off + i * natK.n + 0 = off + i := by show off + i * 1 + 0 = _; omega
  rw [e] at this
  exact this

/-- Pairs of numbers. -/
def pairK : Kind (Nat × Nat) where
  n := 2
  c v := [.int .i64 (v.1 : Int), .int .i64 (v.2 : Int)]
  foot _ _ := False
  At _ _ := True
  pos := by decide
  len _ := rfl
  one x u hu := by
    simp only [List.mem_cons, List.not_mem_nil, or_false] at hu
    rcases hu with rfl | rfl <;> rfl
  lt _ h := h.elim
  keep _ _ := trivial

theorem RowAt.pair {w : World} {ao : Option Addr} {l : List (Nat × Nat)} (h : RowAt pairK w ao l) {i : Nat} {v : Nat × Nat} (hv : l[i]? = some v) :
    ∃ b off, ao = some ⟨b, off, none⟩ ∧ b < w.heap.size ∧ w.cell? ⟨b, off + i * 2, none⟩ = some (.int .i64 (v.1 : Int)) ∧ w.cell? ⟨b, off + i * 2 + 1, none⟩ = some (.int .i64 (v.2 : Int)) := by
  obtain ⟨b, off, h1, h2, h3⟩ := h.cell i v hv
  exact ⟨b, off, h1, h2, h3 0 _ rfl, h3 1 _ rfl⟩

theorem infoParts {t : TypeId} {k b : Nat} (h : (Tryd.prog.info? t).any (fun i => i.size == k && i.bytes == b && (match i.zero with | some z => z.cells.size == k | none => false)) = true) : ∃ i z, Tryd.prog.info? t = some i ∧ i.zero = some z ∧ i.size = k ∧ i.bytes = b ∧ z.cells.size = k := by
  cases hi : Tryd.prog.info? t with
  | none => rw [hi] at h; cases h
  | some i =>
    rw [hi] at h
    simp only [Option.any_some, Bool.and_eq_true, beq_iff_eq] at h
    cases hz : i.zero with
    | none => rw [hz] at h; simp at h
    | some z =>
      rw [hz] at h
      exact ⟨i, z, rfl, hz, h.1.1, h.1.2, by simpa using h.2⟩

theorem intInfoA : ∃ i z, Tryd.prog.info? 3 = some i ∧ i.zero = some z ∧ i.size = 1 ∧ i.bytes = 8 ∧ z.cells.size = 1 := infoParts (by kernel_rfl)

theorem txInfoA : ∃ i z, Tryd.prog.info? 33 = some i ∧ i.zero = some z ∧ i.size = 9 ∧ i.bytes = 136 ∧ z.cells.size = 9 := infoParts (by kernel_rfl)

/-- A row of nothing that is new. -/
theorem KQ.madeA {α : Type} {K : Kind α} {T : TypeId} (w : World) (B : Nat) (hB : B ≤ w.heap.size) : KQ K T (w.alloc (.cells #[] T)) B (.slice (some ⟨w.heap.size, 0, none⟩) 0 0) [] :=
  ⟨⟨by simp [flatK], Or.inl ⟨_, rfl, rfl⟩⟩, fun x hx => (by cases hx), fun x hx => (by cases hx), fun k hk => by
    simp only [Value.ownBlock, Option.some.injEq] at hk
    rw [alloc_size]
    omega, fun n cap e => by simp at e⟩

/-- What the transactions declare. -/
def rwL (l : List TxA) : List RwD := l.map TxA.rw

theorem rwL_length (l : List TxA) : (rwL l).length = l.length := by simp [rwL]

theorem rwL_get {l : List TxA} {i : Nat} {x : TxA} (h : l[i]? = some x) : (rwL l)[i]? = some x.rw := by
  unfold rwL
  rw [List.getElem?_map, h]
  rfl
end Go.Proofs.YtcjmeaikdfgapaaDoor

/- Layer 20's mathematics: members that point to lesser ones of their group, and what is joined. -/
namespace Go.Proofs.YtcjmeaikdfgapaaDoor
open Go.RowKit
set_option linter.unusedVariables false

/-- Where member i points to. -/
def up (g : List Nat) (i : Nat) : Nat := g.getD i i

theorem up_lt {g : List Nat} {i : Nat} (h : i < g.length) : up g i = g.getD i 0 := by
  unfold up
  simp only [List.getD_eq_getElem?_getD, List.getElem?_eq_getElem h]
  rfl

theorem up_get {g : List Nat} {i v : Nat} (h : g[i]? = some v) : up g i = v := by
  unfold up
  rw [List.getD_eq_getElem?_getD, h]
  rfl

theorem up_set {g : List Nat} {i : Nat} (h : i < g.length) (v x : Nat) : up (g.set i v) x = if x = i then v else up g x := by
  unfold up
  simp only [List.getD_eq_getElem?_getD, List.getElem?_set]
  by_cases hx : x = i
  · subst hx; simp [h]
  · rw [if_neg (fun e => hx e.symm), if_neg hx]

/-- The one that points to itself, at the end of the way. -/
inductive Root (g : List Nat) : Nat → Nat → Prop
  | top {r : Nat} : up g r = r → Root g r r
  | step {i r : Nat} : up g i ≠ i → Root g (up g i) r → Root g i r

def Dn (g : List Nat) : Prop := ∀ i, up g i ≤ i

theorem Root.ex {g : List Nat} (hd : Dn g) (i : Nat) : ∃ r, Root g i r := by
  induction i using Nat.strongRecOn with
  | ind i ih =>
    by_cases h : up g i = i
    · exact ⟨i, .top h⟩
    · have := hd i
      obtain ⟨r, hr⟩ := ih (up g i) (by omega)
      exact ⟨r, .step h hr⟩

theorem Root.fix {g : List Nat} {i r : Nat} (h : Root g i r) : up g r = r := by
  induction h with
  | top h => exact h
  | step _ _ ih => exact ih

theorem Root.uniq {g : List Nat} {i r s : Nat} (h : Root g i r) (k : Root g i s) : r = s := by
  induction h with
  | top h =>
    cases k with
    | top => rfl
    | step n _ => exact absurd h n
  | step n _ ih =>
    cases k with
    | top h => exact absurd h n
    | step _ k => exact ih k

theorem Root.le {g : List Nat} (hd : Dn g) {i r : Nat} (h : Root g i r) : r ≤ i := by
  induction h with
  | top => exact Nat.le_refl _
  | step _ _ ih => exact Nat.le_trans ih (hd _)

theorem Root.of_up {g : List Nat} {i r : Nat} (h : Root g i r) : Root g (up g i) r := by
  cases h with
  | top h => rw [h]; exact .top h
  | step _ h => exact h

theorem Root.at_up {g : List Nat} {i r : Nat} (h : Root g (up g i) r) : Root g i r := by
  by_cases e : up g i = i
  · rw [e] at h; exact h
  · exact .step e h

/-- A member that points to another one of its way: the ends stay. -/
theorem Root.short {g : List Nat} (hd : Dn g) {i v r0 : Nat} (hi : i < g.length) (h1 : Root g i r0) (h2 : Root g v r0) (hv : v < i ∨ (v = i ∧ up g i = i)) : ∀ x r, Root g x r → Root (g.set i v) x r := by
  intro x
  induction x using Nat.strongRecOn with
  | ind x ih =>
    intro r h
    by_cases hx : x = i
    · subst hx
      rcases hv with hv | ⟨rfl, hv⟩
      · refine .step ?_ ?_
        · rw [up_set hi, if_pos rfl]; omega
        · rw [up_set hi, if_pos rfl]
          obtain rfl := h1.uniq h
          exact ih v hv r0 h2
      · have e : up (g.set v v) v = v := by rw [up_set hi, if_pos rfl]
        have : r = v := h.uniq (.top hv)
        rw [this]
        exact .top e
    · have e : up (g.set i v) x = up g x := by rw [up_set hi, if_neg hx]
      cases h with
      | top h => exact .top (by rw [e]; exact h)
      | step n h =>
        refine .step (by rw [e]; exact n) ?_
        rw [e]
        have := hd x
        exact ih _ (by omega) r h

/-- Two ends are joined. -/
theorem Root.join {g : List Nat} (hd : Dn g) {a b : Nat} (hb : b < g.length) (hab : a < b) (ha1 : up g a = a) (hb1 : up g b = b) : ∀ x r, Root g x r → Root (g.set b a) x (if r = b then a else r) := by
  intro x
  induction x using Nat.strongRecOn with
  | ind x ih =>
    intro r h
    by_cases hx : x = b
    · subst hx
      obtain rfl := (Root.top hb1).uniq h
      rw [if_pos rfl]
      refine .step ?_ ?_
      · rw [up_set hb, if_pos rfl]; omega
      · rw [up_set hb, if_pos rfl]
        refine .top ?_
        rw [up_set hb, if_neg (by omega)]
        exact ha1
    · have e : up (g.set b a) x = up g x := by rw [up_set hb, if_neg hx]
      cases h with
      | top h =>
        rw [if_neg hx]
        exact .top (by rw [e]; exact h)
      | step n h =>
        refine .step (by rw [e]; exact n) ?_
        rw [e]
        have := hd x
        exact ih _ (by omega) r h

/-- Two have one end. -/
def Same2 (g : List Nat) (x y : Nat) : Prop := ∃ r, Root g x r ∧ Root g y r

theorem Same2.symm {g : List Nat} {x y : Nat} (h : Same2 g x y) : Same2 g y x := by
  obtain ⟨r, h1, h2⟩ := h
  exact ⟨r, h2, h1⟩

theorem Same2.trans {g : List Nat} {x y z : Nat} (h : Same2 g x y) (k : Same2 g y z) : Same2 g x z := by
  obtain ⟨r, h1, h2⟩ := h
  obtain ⟨s, k1, k2⟩ := k
  obtain rfl := h2.uniq k1
  exact ⟨r, h1, k2⟩

/-- Members that point to lesser ones of their group. -/
structure UF (l : List RwD) (g : List Nat) : Prop where
  snd : Snd l g
  dn : Dn g

theorem UF.upc {l : List RwD} {g : List Nat} (h : UF l g) {i : Nat} (hi : i < l.length) : Conn l i (up g i) := by
  rw [up_lt (by rw [h.snd.1]; exact hi)]
  exact h.snd.2 i hi

theorem UF.set {l : List RwD} {g : List Nat} (h : UF l g) {i v : Nat} (hi : i < l.length) (hv : v ≤ i) (hc : Conn l i v) : UF l (g.set i v) := by
  have hl : i < g.length := by rw [h.snd.1]; exact hi
  refine ⟨⟨by rw [List.length_set]; exact h.snd.1, fun x hx => ?_⟩, fun x => ?_⟩
  · rw [← up_lt (by rw [List.length_set, h.snd.1]; exact hx), up_set hl]
    split
    · rename_i e
      rw [e]; exact hc
    · exact h.upc hx
  · rw [up_set hl]
    split
    · rename_i e
      rw [e]; exact hv
    · exact h.dn x

theorem UF.start (l : List RwD) : UF l (List.range l.length) := by
  refine ⟨snd_start, fun i => ?_⟩
  unfold up
  rw [List.getD_eq_getElem?_getD]
  by_cases h : i < l.length
  · rw [List.getElem?_range h]; exact Nat.le_refl _
  · rw [List.getElem?_eq_none (by rw [List.length_range]; omega)]; exact Nat.le_refl _

theorem Root.conn {l : List RwD} {g : List Nat} (h : UF l g) {i r : Nat} (hr : Root g i r) (hi : i < l.length) : Conn l i r := by
  induction hr with
  | top => exact Conn.refl
  | step n _ ih =>
    have hc := h.upc hi
    exact hc.trans (ih (hc.lt hi))

/-- A step of the way is made shorter. -/
theorem UF.halve {l : List RwD} {g : List Nat} (h : UF l g) {i : Nat} (hi : i < l.length) (hne : up g i ≠ i) : UF l (g.set i (up g (up g i))) ∧ ∀ x r, Root g x r → Root (g.set i (up g (up g i))) x r := by
  have hc := h.upc hi
  have h1 := h.dn i
  have h2 := h.dn (up g i)
  obtain ⟨r, hr⟩ := Root.ex h.dn i
  refine ⟨h.set hi (by omega) (hc.trans (h.upc (hc.lt hi))), Root.short h.dn (by rw [h.snd.1]; exact hi) hr hr.of_up.of_up (Or.inl (by omega))⟩

/-- A member points to its end. -/
theorem UF.point {l : List RwD} {g : List Nat} (h : UF l g) {i r : Nat} (hi : i < l.length) (hr : Root g i r) : UF l (g.set i r) ∧ ∀ x s, Root g x s → Root (g.set i r) x s := by
  have hl := hr.le h.dn
  refine ⟨h.set hi hl (hr.conn h hi), Root.short h.dn (by rw [h.snd.1]; exact hi) hr (.top hr.fix) ?_⟩
  rcases Nat.lt_or_ge r i with e | e
  · exact Or.inl e
  · obtain rfl : r = i := by omega
    exact Or.inr ⟨rfl, hr.fix⟩

/-- Two ends become one. -/
theorem UF.join {l : List RwD} {g : List Nat} (h : UF l g) {a b : Nat} (ha : a < l.length) (hb : b < l.length) (hc : Conn l a b) (ha1 : up g a = a) (hb1 : up g b = b) :
    UF l (g.set (max a b) (min a b)) ∧ (∀ x y, Same2 g x y → Same2 (g.set (max a b) (min a b)) x y) ∧ Same2 (g.set (max a b) (min a b)) a b := by
  have key : ∀ a b : Nat, a < l.length → b < l.length → Conn l a b → up g a = a → up g b = b → a ≤ b → UF l (g.set b a) ∧ (∀ x y, Same2 g x y → Same2 (g.set b a) x y) ∧ Same2 (g.set b a) a b := by
    intro a b ha hb hc ha1 hb1 hab
    have hbl : b < g.length := by rw [h.snd.1]; exact hb
    refine ⟨h.set hb hab hc.symm, ?_⟩
    rcases Nat.lt_or_ge a b with hlt | hge
    · have hj := Root.join h.dn hbl hlt ha1 hb1
      refine ⟨fun x y ⟨r, h1, h2⟩ => ⟨_, hj x r h1, hj y r h2⟩, ?_⟩
      have q1 := hj a a (.top ha1)
      have q2 := hj b b (.top hb1)
      rw [if_neg (by omega)] at q1
      rw [if_pos rfl] at q2
      exact ⟨a, q1, q2⟩
    · obtain rfl : a = b := by omega
      have hs := Root.short h.dn hbl (.top ha1) (.top ha1) (Or.inr ⟨rfl, ha1⟩)
      exact ⟨fun x y ⟨r, h1, h2⟩ => ⟨r, hs x r h1, hs y r h2⟩, a, hs a a (.top ha1), hs a a (.top ha1)⟩
  rcases Nat.le_total a b with hab | hab
  · rw [Nat.max_eq_right hab, Nat.min_eq_left hab]
    exact key a b ha hb hc ha1 hb1 hab
  · rw [Nat.max_eq_left hab, Nat.min_eq_right hab]
    obtain ⟨q1, q2, q3⟩ := key b a hb ha hc.symm hb1 ha1 hab
    exact ⟨q1, q2, q3.symm⟩

/-- The last of the first so many that writes a key. -/
def lastN (l : List RwD) (key : ByteArray) : Nat → Option Nat
  | 0 => none
  | m + 1 => match l[m]? with | some t => if inK t.ws key = true then some m else lastN l key m | none => lastN l key m

theorem lastN_some {l : List RwD} {key : ByteArray} : ∀ {m w : Nat}, lastN l key m = some w → w < m ∧ ∃ t, l[w]? = some t ∧ key ∈ t.ws
  | 0, w, h => by cases h
  | m + 1, w, h => by
    unfold lastN at h
    cases hm : l[m]? with
    | none =>
      rw [hm] at h
      obtain ⟨h1, h2⟩ := lastN_some h
      exact ⟨by omega, h2⟩
    | some t =>
      rw [hm] at h
      simp only at h
      split at h
      · rename_i hk
        simp only [Option.some.injEq] at h
        subst h
        exact ⟨by omega, t, hm, inK_iff.1 hk⟩
      · obtain ⟨h1, h2⟩ := lastN_some h
        exact ⟨by omega, h2⟩

theorem lastN_ex {l : List RwD} {key : ByteArray} : ∀ {m i : Nat} {t : RwD}, i < m → l[i]? = some t → key ∈ t.ws → ∃ w, lastN l key m = some w
  | 0, i, t, h, _, _ => by omega
  | m + 1, i, t, h, h1, h2 => by
    unfold lastN
    cases hm : l[m]? with
    | none =>
      by_cases e : i = m
      · rw [e, hm] at h1; cases h1
      · exact lastN_ex (by omega) h1 h2
    | some u =>
      simp only
      by_cases hk : inK u.ws key = true
      · rw [if_pos hk]; exact ⟨m, rfl⟩
      · rw [if_neg hk]
        by_cases e : i = m
        · rw [e, hm] at h1
          simp only [Option.some.injEq] at h1
          subst h1
          exact absurd (inK_iff.2 h2) hk
        · exact lastN_ex (by omega) h1 h2

/-- What the first so many declare is joined with the last writers. -/
def Jn (l : List RwD) (g : List Nat) (m : Nat) : Prop := ∀ i t, i < m → l[i]? = some t → ∀ key, (key ∈ t.rs ∨ key ∈ t.ws) → ∀ w, lastN l key l.length = some w → Same2 g i w

theorem Jn.mono {l : List RwD} {g g' : List Nat} {m : Nat} (h : Jn l g m) (hs : ∀ x y, Same2 g x y → Same2 g' x y) : Jn l g' m := fun i t hi ht key hk w hw => hs _ _ (h i t hi ht key hk w hw)

theorem last_conn {l : List RwD} {i w : Nat} {t : RwD} {key : ByteArray} (ht : l[i]? = some t) (hk : key ∈ t.rs ∨ key ∈ t.ws) (hw : lastN l key l.length = some w) : Conn l i w := by
  obtain ⟨h1, u, hu, hk2⟩ := lastN_some hw
  refine Conn.one ?_
  rw [adjB_some ht hu, clashB_iff]
  rcases hk with hk | hk
  · exact Or.inr ⟨key, hk2, hk⟩
  · exact Or.inl ⟨key, hk, Or.inl hk2⟩

theorem Jn.same {l : List RwD} {g : List Nat} (h : Jn l g l.length) (hu : UF l g) {i j : Nat} (hc : Conn l i j) : Same2 g i j := by
  induction hc with
  | refl =>
    obtain ⟨r, hr⟩ := Root.ex hu.dn i
    exact ⟨r, hr, hr⟩
  | step hc ha ih =>
    rename_i j k
    refine ih.trans ?_
    obtain ⟨hj, hk⟩ := adjB_lt ha
    have ej := List.getElem?_eq_getElem hj
    have ek := List.getElem?_eq_getElem hk
    rw [adjB_some ej ek, clashB_iff] at ha
    have fin : ∀ key, (key ∈ l[j].rs ∨ key ∈ l[j].ws) → (key ∈ l[k].rs ∨ key ∈ l[k].ws) → (key ∈ l[j].ws ∨ key ∈ l[k].ws) → Same2 g j k := by
      intro key h1 h2 h3
      obtain ⟨w, hw⟩ : ∃ w, lastN l key l.length = some w := by
        rcases h3 with h3 | h3
        · exact lastN_ex hj ej h3
        · exact lastN_ex hk ek h3
      exact (h j _ hj ej key h1 w hw).trans (h k _ hk ek key h2 w hw).symm
    rcases ha with ⟨key, h1, h2 | h2⟩ | ⟨key, h1, h2⟩
    · exact fin key (Or.inr h1) (Or.inr h2) (Or.inl h1)
    · exact fin key (Or.inr h1) (Or.inl h2) (Or.inl h1)
    · exact fin key (Or.inl h2) (Or.inr h1) (Or.inr h1)

/-- The program's groups are right. -/
theorem UF.groups {l : List RwD} {g : List Nat} (h : UF l g) (hj : Jn l g l.length) (hr : ∀ i, i < l.length → Root g i (up g i)) : GSpec l g := by
  refine ⟨h.snd.1, h.snd.2, fun i j hi hc => ?_⟩
  have hl := hc.lt hi
  obtain ⟨r, h1, h2⟩ := hj.same h hc
  have e1 := (hr i hi).uniq h1
  have e2 := (hr j hl).uniq h2
  rw [← up_lt (by rw [h.snd.1]; exact hi), e1, ← e2]
  exact h.dn j
end Go.Proofs.YtcjmeaikdfgapaaDoor

/- What (access.groups).least and join do. -/
namespace Go.Proofs.YtcjmeaikdfgapaaDoor
open Go Go.RowKit
set_option linter.unusedVariables false

/-- A number of a row of the call's own, and how it is written. -/
theorem KQ.natSet {T : TypeId} {w : World} {B g off n cap : Nat} {l : List Nat} (h : KQ natK T w B (.slice (some ⟨g, off, none⟩) n cap) l) {i x : Nat} (hx : l[i]? = some x) :
    w.cell? ⟨g, off + i, none⟩ = some (.int .i64 (x : Int)) ∧ w.frozen? ⟨g, off + i, none⟩ = false ∧ B ≤ g ∧ g < w.heap.size ∧ ∀ v : Nat, KQ natK T (w.setCell ⟨g, off + i, none⟩ (.int .i64 (v : Int))) B (.slice (some ⟨g, off, none⟩) n cap) (l.set i v) := by
  obtain ⟨g', off', e', q2, q3, q4, q5, q6⟩ := h.set hx
  simp only [Option.some.injEq, Addr.mk.injEq, and_true] at e'
  obtain ⟨rfl, rfl⟩ := e'
  have e : off + i * natK.n + 0 = off + i := by show off + i * 1 + 0 = _; omega
  refine ⟨?_, q5 _, q2, q3, fun v => ?_⟩
  · have := q4 0 _ rfl
    rw [e] at this
    exact this
  · have := q6 v 0 (.int .i64 (v : Int)) (by show 0 < 1; decide) rfl trivial (fun _ h => h)
    rw [e] at this
    exact this

theorem KQ.natAt {T : TypeId} {w : World} {B n cap : Nat} {ao : Option Addr} {l : List Nat} (h : KQ natK T w B (.slice ao n cap) l) (hl : 0 < l.length) : ∃ g off, ao = some ⟨g, off, none⟩ := by
  obtain ⟨g, off, e, _⟩ := h.spot hl
  exact ⟨g, off, e⟩

/-- What points to an end stays as it is. -/
def Stay (g g' : List Nat) : Prop := ∀ x, up g (up g x) = up g x → up g' x = up g x

theorem Stay.refl (g : List Nat) : Stay g g := fun _ _ => rfl

theorem Stay.trans {g g' g'' : List Nat} (h : Stay g g') (k : Stay g' g'') : Stay g g'' := by
  intro x hx
  have h1 := h x hx
  have h2 := h (up g x) (by rw [hx, hx])
  rw [hx] at h2
  have h3 := k x (by rw [h1]; exact h2)
  rw [h3, h1]

theorem stay_halve {g : List Nat} {j : Nat} (hj : j < g.length) : Stay g (g.set j (up g (up g j))) := by
  intro x hx
  rw [up_set hj]
  split
  · rename_i e
    rw [e] at hx ⊢
    exact hx
  · rfl

/-- The least one of a group is told. -/
def GotLeast (l : List RwD) (W : World) (B g : Nat) (q : Value) (gl : List Nat) (i : Nat) (e : Ending) (w : World) : Prop :=
  ∃ r gl', e = .returned (.int .i64 ((r : Nat) : Int)) ∧ Root gl i r ∧ KQ natK 3 w B q gl' ∧ UF l gl' ∧ (∀ x s, Root gl x s → Root gl' x s) ∧ Stay gl gl' ∧ Kept (fun k => k = g) W w

/-- Two groups are joined. -/
def GotJoin (l : List RwD) (W : World) (B g : Nat) (q : Value) (gl : List Nat) (i k : Nat) (e : Ending) (w : World) : Prop :=
  e = .returned (.tuple #[]) ∧ ∃ gl', KQ natK 3 w B q gl' ∧ UF l gl' ∧ (∀ x y, Same2 gl x y → Same2 gl' x y) ∧ Same2 gl' i k ∧ Kept (fun k => k = g) W w
end Go.Proofs.YtcjmeaikdfgapaaDoor

/- What access.Clash does. -/
namespace Go.Proofs.YtcjmeaikdfgapaaDoor
open Go Go.RowKit
set_option linter.unusedVariables false

/-- What is declared of a key. -/
def usesF (rs ws : List ByteArray) (k : ByteArray) : Option Value := if inK ws k = true then some (.int .i64 2) else if inK rs k = true then some (.int .i64 1) else none

theorem inK_snoc (l : List ByteArray) (x k : ByteArray) : inK (l ++ [x]) k = (inK l k || decide (x = k)) := by
  unfold inK
  rw [List.any_append]
  simp

theorem usesF_read {rs : List ByteArray} {i : Nat} {x : ByteArray} (hx : rs[i]? = some x) (k : ByteArray) : usesF (rs.take (i + 1)) [] k = putF (usesF (rs.take i) []) x (.int .i64 1) k := by
  rw [List.take_add_one, hx]
  unfold usesF putF
  show _ = if k = x then _ else _
  have e0 : inK [] k = false := rfl
  simp only [e0, Option.toList_some, inK_snoc]
  by_cases h : k = x
  · subst h; simp
  · rw [if_neg h]
    have : decide (x = k) = false := decide_eq_false (fun e => h e.symm)
    rw [this, Bool.or_false]

theorem usesF_write {rs ws : List ByteArray} {i : Nat} {x : ByteArray} (hx : ws[i]? = some x) (k : ByteArray) : usesF rs (ws.take (i + 1)) k = putF (usesF rs (ws.take i)) x (.int .i64 2) k := by
  rw [List.take_add_one, hx]
  unfold usesF putF
  simp only [Option.toList_some, inK_snoc]
  by_cases h : k = x
  · subst h; simp
  · rw [if_neg h]
    have : decide (x = k) = false := decide_eq_false (fun e => h e.symm)
    rw [this, Bool.or_false]

theorem putN_le (f : ByteArray → Option Value) (id : ByteArray) (n : Nat) : putN f id n ≤ n + 1 := by
  unfold putN
  split <;> omega

def GotUses (W : World) (x : TxA) (e : Ending) (w : World) : Prop :=
  ∃ b n, e = .returned (.map (some b)) ∧ SMap w b (usesF x.rs x.ws) n ∧ W.heap.size ≤ b ∧ Below W.heap.size W w

set_option maxRecDepth 100000 in
set_option maxHeartbeats 1000000 in
theorem usesA_any (x : TxA) (w : World) (hA : TxA.At w x) (lr : x.rs.length ≤ 1000000) (lw : x.ws.length ≤ 1000000) :
    Calls Tryd.prog 41 #[x.v] w fun e w' => GotUses w x e w' := by
  have hX := Arr.new w 33 x.c
  have hB := belowNew w (.cells x.c.toArray 33)
  have hM := SMap.new (w.alloc (.cells x.c.toArray 33))
  have hBm := belowNew (w.alloc (.cells x.c.toArray 33)) (.map #[] 0)
  rw [alloc_size] at hM
  have hX1 := hX.below hBm (by rw [alloc_size]; omega)
  have hB1 := hB.trans (hBm.mono (by rw [alloc_size]; omega))
  obtain ⟨hrd, hwr, hnr, hnw, hzr, hzw⟩ := hA
  obtain ⟨kind, frm, dst, amt, non, key, val, rs, ws, ra, rc, wa, wc⟩ := x
  replace lr : rs.length ≤ 1000000 := lr
  replace lw : ws.length ≤ 1000000 := lw
  replace hrd : RowAt textK w ra rs := hrd
  replace hwr : RowAt textK w wa ws := hwr
  replace hzr : ∀ s ∈ rs, s.size ≤ maxLen := hzr
  replace hzw : ∀ s ∈ ws, s.size ≤ maxLen := hzw
  have k7 := hX1.cell (i := 7) rfl
  have k8 := hX1.cell (i := 8) rfl
  have k7a := hX.cell (i := 7) rfl
  have k8a := hX.cell (i := 8) rfl
  have mk : ∀ (n : Int) (w : World), (Instr.makeMap 84 (some (.int .i64 n))).run Tryd.prog w = .ok (.map (some w.heap.size)) (w.alloc (.map #[] 0)) := fun n w => rfl
  clear hX hB hBm hnr hnw
  unfold TxA.v
  go_enter Tryd.func41, Tryd.ntmps41
  go_wp2_with fail
  go_loopw [19] (fun v19 wr => ∃ i m : Nat, i ≤ rs.length ∧ v19 = .int .i64 (i : Int) ∧ SMap wr (w.heap.size + 1) (usesF (rs.take i) []) m ∧ m ≤ i ∧ wr.cell? ⟨w.heap.size, 8, none⟩ = some (.slice wa ws.length wc) ∧ w.heap.size < wr.heap.size ∧ Below w.heap.size w wr) (fun v _ => rs.length - (intOf v).toNat)
  case atStart => exact ⟨0, 0, Nat.zero_le _, rfl, hM, Nat.le_refl _, k8, hX1.lt, hB1⟩
  case round =>
    obtain ⟨i, m, hi, rfl, hm1, hm2, hk8, hlt, hb⟩ := hrel
    clear hM hX1 hB1 k7 k8 k7a k8a
    by_cases hil : i < rs.length
    · have g1 : (i : Int) < (rs.length : Int) := by omega
      obtain ⟨y, hy⟩ : ∃ p, rs[i]? = some p := ⟨_, List.getElem?_eq_getElem hil⟩
      obtain ⟨b, off, rfl, hbl, hcell⟩ := (hrd.below hb).txt hy
      have hid := hzr y (List.mem_of_getElem? hy)
      have hmx : m < maxLen := by unfold maxLen; omega
      have hnx : Hid (∀ k, usesF (rs.take (i + 1)) [] k = putF (usesF (rs.take i) []) y (.int .i64 1) k) := usesF_read hy
      go_wp2_with (at_mapUpdate; refine smap_put rfl _ _ _ 84 rfl 3 Tryd.underlying84 (w.heap.size + 1) _ _ rfl hm1 hmx y hid rfl _ rfl ?_; intro w5 hM5 hk5)
      have hp := putN_le (usesF (rs.take i) []) y m
      go_roundw
      case rel => exact ⟨i + 1, _, by omega, by go_num, hM5.congr hnx.out, by omega, by rw [hk5.cell (p := ⟨w.heap.size, 8, none⟩) hlt (fun e => by have : w.heap.size = w.heap.size + 1 := e; omega)]; exact hk8, Nat.lt_of_lt_of_le hlt hk5.size, hb.trans (hk5.below hb.size (fun k e => by have : k = w.heap.size + 1 := e; omega))⟩
      case measure => simp [intOf]; omega
    · have g1 : ¬ (i : Int) < (rs.length : Int) := by omega
      have hir : i = rs.length := by omega
      rw [hir, List.take_length] at hm1
      have hm2' : m ≤ rs.length := by omega
      clear hir hm2 hil hi hrd
      go_wp2_with fail
      go_loopw [29] (fun v29 wr => ∃ i m : Nat, i ≤ ws.length ∧ v29 = .int .i64 (i : Int) ∧ SMap wr (w.heap.size + 1) (usesF rs (ws.take i)) m ∧ m ≤ rs.length + i ∧ Below w.heap.size w wr) (fun v _ => ws.length - (intOf v).toNat)
      case atStart => exact ⟨0, m, Nat.zero_le _, rfl, hm1, by omega, hb⟩
      case round =>
        obtain ⟨i, m, hi, rfl, hm1, hm2, hb⟩ := hrel
        by_cases hil : i < ws.length
        · have g1 : (i : Int) < (ws.length : Int) := by omega
          obtain ⟨y, hy⟩ : ∃ p, ws[i]? = some p := ⟨_, List.getElem?_eq_getElem hil⟩
          obtain ⟨b, off, rfl, hbl, hcell⟩ := (hwr.below hb).txt hy
          have hid := hzw y (List.mem_of_getElem? hy)
          have hmx : m < maxLen := by unfold maxLen; omega
          have hnx : Hid (∀ k, usesF rs (ws.take (i + 1)) k = putF (usesF rs (ws.take i)) y (.int .i64 2) k) := usesF_write hy
          go_wp2_with (at_mapUpdate; refine smap_put rfl _ _ _ 84 rfl 3 Tryd.underlying84 (w.heap.size + 1) _ _ rfl hm1 hmx y hid rfl _ rfl ?_; intro w5 hM5 hk5)
          have hp := putN_le (usesF rs (ws.take i)) y m
          go_roundw
          case rel => exact ⟨i + 1, _, by omega, by go_num, hM5.congr hnx.out, by omega, hb.trans (hk5.below hb.size (fun k e => by have : k = w.heap.size + 1 := e; omega))⟩
          case measure => simp [intOf]; omega
        · have g1 : ¬ (i : Int) < (ws.length : Int) := by omega
          have hir : i = ws.length := by omega
          rw [hir, List.take_length] at hm1
          clear hir hm2 hil hi
          go_wp2
          go_ret
          exact ⟨_, _, rfl, hm1, by omega, hb⟩

set_option maxRecDepth 100000 in
theorem zeroIntA (w : World) : (zeroValue 3).run Tryd.prog w = .ok (.int .i64 0) w := by rfl

theorem clash_uses (a b : RwD) : clashB a b = (b.ws.any (fun y => inK a.ws y || inK a.rs y) || b.rs.any (fun y => inK a.ws y)) := by
  rw [Bool.eq_iff_iff, clashB_iff]
  simp only [Bool.or_eq_true, List.any_eq_true, inK_iff]
  constructor
  · rintro (⟨k, h1, h2 | h2⟩ | ⟨k, h1, h2⟩)
    · exact Or.inl ⟨k, h2, Or.inl h1⟩
    · exact Or.inr ⟨k, h2, h1⟩
    · exact Or.inl ⟨k, h1, Or.inr h2⟩
  · rintro (⟨k, h1, h2 | h2⟩ | ⟨k, h1, h2⟩)
    · exact Or.inl ⟨k, h2, Or.inl h1⟩
    · exact Or.inr ⟨k, h1, h2⟩
    · exact Or.inl ⟨k, h2, Or.inr h1⟩

theorem two_newA (w : World) (x y : TxA) : ∃ w2, w2 = (w.alloc (.cells x.c.toArray 33)).alloc (.cells y.c.toArray 33) ∧ Arr w2 w.heap.size 33 x.c ∧ Arr w2 (w.heap.size + 1) 33 y.c ∧ Below w.heap.size w w2 := by
  obtain ⟨h1, h2, h3⟩ := two_new w 33 33 x.c y.c
  exact ⟨_, rfl, h1, h2, h3⟩

theorem take_any {α : Type} {l : List α} {p : α → Bool} {i : Nat} {x : α} (hx : l[i]? = some x) (h : (l.take i).any p = false) (hp : p x = false) : (l.take (i + 1)).any p = false := by
  rw [List.take_add_one, hx, List.any_append, h]
  simp [hp]

theorem any_hit {α : Type} {l : List α} {p : α → Bool} {i : Nat} {x : α} (hx : l[i]? = some x) (hp : p x = true) : l.any p = true := List.any_eq_true.2 ⟨x, List.mem_of_getElem? hx, hp⟩

set_option maxRecDepth 100000 in
set_option maxHeartbeats 1000000 in
theorem clashA_any (x y : TxA) (w : World) (hA : TxA.At w x) (hB : TxA.At w y) (xr : x.rs.length ≤ 1000000) (xw : x.ws.length ≤ 1000000) (yr : y.rs.length ≤ 1000000) (yw : y.ws.length ≤ 1000000) :
    Calls Tryd.prog 23 #[x.v, y.v] w fun e w' => e = .returned (.bool (clashB x.rw y.rw)) ∧ Below w.heap.size w w' := by
  obtain ⟨w2, hw2, hX, hY, hb2⟩ := two_newA w x y
  have hU := usesA_any x w2 (hA.below hb2) xr xw
  have hrd := hB.rd
  have hwr := hB.wr
  have hzr := hB.zr
  have hzw := hB.zw
  rw [clash_uses]
  obtain ⟨kind, frm, dst, amt, non, key, val, rs, ws, ra, rc, wa, wc⟩ := x
  obtain ⟨kind', frm', dst', amt', non', key', val', rs', ws', ra', rc', wa', wc'⟩ := y
  show Calls _ _ _ _ fun e w' => e = .returned (.bool (ws'.any (fun y => inK ws y || inK rs y) || rs'.any (fun y => inK ws y))) ∧ _
  replace hw2 : (w.alloc (.cells #[.int .i64 kind, .string frm, .string dst, .int .u64 amt, .int .u64 non, .string key, .string val, .slice ra rs.length rc, .slice wa ws.length wc] 33)).alloc (.cells #[.int .i64 kind', .string frm', .string dst', .int .u64 amt', .int .u64 non', .string key', .string val', .slice ra' rs'.length rc', .slice wa' ws'.length wc'] 33) = w2 := hw2.symm
  replace hrd : RowAt textK w ra' rs' := hrd
  replace hwr : RowAt textK w wa' ws' := hwr
  replace hzr : ∀ s ∈ rs', s.size ≤ maxLen := hzr
  replace hzw : ∀ s ∈ ws', s.size ≤ maxLen := hzw
  replace yr : rs'.length ≤ 1000000 := yr
  replace yw : ws'.length ≤ 1000000 := yw
  have x0 := hX.cell (i := 0) rfl
  have x1 := hX.cell (i := 1) rfl
  have x2 := hX.cell (i := 2) rfl
  have x3 := hX.cell (i := 3) rfl
  have x4 := hX.cell (i := 4) rfl
  have x5 := hX.cell (i := 5) rfl
  have x6 := hX.cell (i := 6) rfl
  have x7 := hX.cell (i := 7) rfl
  have x8 := hX.cell (i := 8) rfl
  clear hA hB
  unfold TxA.v at hU ⊢
  go_enter Tryd.func23, Tryd.ntmps23
  go_wp2_with (go_at_call 41; refine hU.mono ?_; rintro _ w3 ⟨mb, mn, rfl, hM, hmb, hb3⟩; have hY3 := hY.below hb3 hY.lt; have y7 := hY3.cell (i := 7) rfl; have y8 := hY3.cell (i := 8) rfl; clear x0 x1 x2 x3 x4 x5 x6 x7 x8 hX hY hU hw2)
  replace hM : SMap w3 mb (usesF rs ws) mn := hM
  have hbw := hb2.trans (hb3.mono hb2.size)
  have hrd3 := hrd.below hbw
  have hwr3 := hwr.below hbw
  clear hb2 hb3 hrd hwr hmb
  go_loopw [15] (fun v15 wr => ∃ i : Nat, i ≤ ws'.length ∧ v15 = .int .i64 (i : Int) ∧ Hid ((ws'.take i).any (fun y => inK ws y || inK rs y) = false) ∧ wr = w3) (fun v _ => ws'.length - (intOf v).toNat)
  case atStart => exact ⟨0, Nat.zero_le _, rfl, rfl, rfl⟩
  case round =>
    obtain ⟨i, hi, rfl, hno, rfl⟩ := hrel
    by_cases hil : i < ws'.length
    · have g1 : (i : Int) < (ws'.length : Int) := by omega
      obtain ⟨y, hy⟩ : ∃ p, ws'[i]? = some p := ⟨_, List.getElem?_eq_getElem hil⟩
      obtain ⟨b, off, rfl, hbl, hcell⟩ := hwr3.txt hy
      have hid := hzw y (List.mem_of_getElem? hy)
      cases hu : (inK ws y || inK rs y) with
      | true =>
        have hres : Hid (ws'.any (fun y => inK ws y || inK rs y) = true) := any_hit hy hu
        obtain ⟨n, hn0, hun⟩ : ∃ n : Int, ((n == 0) = false) ∧ Hid (usesF rs ws y = some (.int .i64 n)) := by
          unfold Hid usesF
          by_cases h1 : inK ws y = true
          · exact ⟨2, rfl, by rw [if_pos h1]⟩
          · have h2 : inK rs y = true := by rw [Bool.not_eq_true] at h1; rw [h1] at hu; simpa using hu
            exact ⟨1, rfl, by rw [if_neg h1, if_pos h2]⟩
        clear hu
        go_wp2_with (at_lookup; refine smap_look (by rfl) _ _ 84 rfl 3 Tryd.underlying84 _ (zeroIntA _) mb _ _ rfl hM y hid rfl ?_; rw [hun.out]; simp only [Option.getD_some])
        go_ret
        exact ⟨by rw [hres.out]; rfl, hbw⟩
      | false =>
        have hno' : Hid ((ws'.take (i + 1)).any (fun y => inK ws y || inK rs y) = false) := take_any hy hno.out hu
        have hun : Hid (usesF rs ws y = none) := by
          unfold Hid usesF
          rw [Bool.or_eq_false_iff] at hu
          rw [hu.1, hu.2]
          rfl
        clear hu hno
        go_wp2_with (at_lookup; refine smap_look (by rfl) _ _ 84 rfl 3 Tryd.underlying84 _ (zeroIntA _) mb _ _ rfl hM y hid rfl ?_; rw [hun.out]; simp only [Option.getD_none])
        go_roundw
        case rel => exact ⟨i + 1, by omega, by go_num, hno', by trivial⟩
        case measure => simp [intOf]; omega
    · have g1 : ¬ (i : Int) < (ws'.length : Int) := by omega
      have hir : i = ws'.length := by omega
      have hN : Hid (ws'.any (fun y => inK ws y || inK rs y) = false) := by
        have := hno.out
        rw [hir, List.take_length] at this
        exact this
      clear hir hno hil hi
      go_wp2_with fail
      go_loopw [27] (fun v27 wz => ∃ i : Nat, i ≤ rs'.length ∧ v27 = .int .i64 (i : Int) ∧ Hid ((rs'.take i).any (fun y => inK ws y) = false) ∧ wz = wr) (fun v _ => rs'.length - (intOf v).toNat)
      case atStart => exact ⟨0, Nat.zero_le _, rfl, rfl, rfl⟩
      case round =>
        obtain ⟨i, hi, rfl, hno, rfl⟩ := hrel
        by_cases hil : i < rs'.length
        · have g1 : (i : Int) < (rs'.length : Int) := by omega
          obtain ⟨y, hy⟩ : ∃ p, rs'[i]? = some p := ⟨_, List.getElem?_eq_getElem hil⟩
          obtain ⟨b, off, rfl, hbl, hcell⟩ := hrd3.txt hy
          have hid := hzr y (List.mem_of_getElem? hy)
          cases hu : inK ws y with
          | true =>
            have hres : Hid (rs'.any (fun y => inK ws y) = true) := any_hit hy hu
            have hun : Hid (usesF rs ws y = some (.int .i64 2)) := by
              unfold Hid usesF
              rw [if_pos hu]
            clear hu
            go_wp2_with (at_lookup; refine smap_look (by rfl) _ _ 84 rfl 3 Tryd.underlying84 _ (zeroIntA _) mb _ _ rfl hM y hid rfl ?_; rw [hun.out]; simp only [Option.getD_some])
            go_ret
            exact ⟨by rw [hres.out, Bool.or_true]; rfl, hbw⟩
          | false =>
            have hno' : Hid ((rs'.take (i + 1)).any (fun y => inK ws y) = false) := take_any hy hno.out hu
            obtain ⟨n, hn0, hun⟩ : ∃ n : Int, ((n == 2) = false) ∧ Hid ((usesF rs ws y).getD (.int .i64 0) = .int .i64 n) := by
              unfold Hid usesF
              rw [hu]
              by_cases h2 : inK rs y = true
              · exact ⟨1, rfl, by rw [if_pos h2]; rfl⟩
              · exact ⟨0, rfl, by rw [if_neg h2]; rfl⟩
            clear hu hno
            go_wp2_with (at_lookup; refine smap_look (by rfl) _ _ 84 rfl 3 Tryd.underlying84 _ (zeroIntA _) mb _ _ rfl hM y hid rfl ?_; rw [hun.out])
            go_roundw
            case rel => exact ⟨i + 1, by omega, by go_num, hno', by trivial⟩
            case measure => simp [intOf]; omega
        · have g1 : ¬ (i : Int) < (rs'.length : Int) := by omega
          have hir : i = rs'.length := by omega
          have hN2 : Hid (rs'.any (fun y => inK ws y) = false) := by
            have := hno.out
            rw [hir, List.take_length] at this
            exact this
          clear hir hno hil hi
          go_wp2
          go_ret
          exact ⟨by rw [hN.out, hN2.out]; rfl, hbw⟩
end Go.Proofs.YtcjmeaikdfgapaaDoor

/- What (access.groups).joinBy, access.lastWriters and access.Groups do. -/
namespace Go.Proofs.YtcjmeaikdfgapaaDoor
open Go Go.RowKit
set_option linter.unusedVariables false

/-- The last writers, as a map tells them. -/
def lastF (l : List RwD) (key : ByteArray) : Option Value := (lastN l key l.length).map (fun w => .int .i64 ((w : Nat) : Int))

/-- All these keys' last writers are joined with member i. -/
def JnK (l : List RwD) (g : List Nat) (i : Nat) (ks : List ByteArray) : Prop := ∀ key ∈ ks, ∀ w, lastN l key l.length = some w → Same2 g i w

theorem JnK.mono {l : List RwD} {g g' : List Nat} {i : Nat} {ks : List ByteArray} (h : JnK l g i ks) (hs : ∀ x y, Same2 g x y → Same2 g' x y) : JnK l g' i ks := fun key hk w hw => hs _ _ (h key hk w hw)

theorem JnK.more {l : List RwD} {g : List Nat} {i j : Nat} {ks : List ByteArray} {y : ByteArray} (hy : ks[j]? = some y) (h : JnK l g i (ks.take j)) (hn : ∀ w, lastN l y l.length = some w → Same2 g i w) : JnK l g i (ks.take (j + 1)) := by
  intro key hk w hw
  rw [List.take_add_one, hy, List.mem_append] at hk
  rcases hk with hk | hk
  · exact h key hk w hw
  · simp only [Option.toList_some, List.mem_singleton] at hk
    subst hk
    exact hn w hw

/-- A member is joined with the last writers of its keys. -/
def GotJoinBy (l : List RwD) (W : World) (B g : Nat) (q : Value) (gl : List Nat) (i : Nat) (ks : List ByteArray) (e : Ending) (w : World) : Prop :=
  e = .returned (.tuple #[]) ∧ ∃ gl', KQ natK 3 w B q gl' ∧ UF l gl' ∧ (∀ x y, Same2 gl x y → Same2 gl' x y) ∧ JnK l gl' i ks ∧ Kept (fun k => k = g) W w
end Go.Proofs.YtcjmeaikdfgapaaDoor
