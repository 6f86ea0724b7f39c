/- A desk that the call has made; the laws' own example. -/
import Derived.Test.YtblpkfnhfdkacaaFetDesk
import Derived.Test.YtblpkfnhfdkacaaFetGot
import Derived.Laws.StructEq
namespace Go.Proofs.Ytblpkfnhfdkacaa
open Go Go.RowKit
set_option linter.unusedVariables false

/-- A desk that is new since W, where nothing old is turned. -/
structure One19 (W w : World) (db : Nat) (S : Nat → Prop) (n : Nat) (L : List WiD) : Prop where
  pd : PD w db S n L
  ge : W.heap.size ≤ db
  bel : Below W.heap.size W w

section
variable {W w w' : World} {db n : Nat} {S S' : Nat → Prop} {L L' : List WiD}

theorem One19.below (h : One19 W w db S n L) (hb : Below w.heap.size w w') : One19 W w' db S n L := ⟨h.pd.below hb, h.ge, h.bel.trans (hb.mono h.bel.size)⟩

theorem One19.step (h : One19 W w db S n L) (hp : PD w' db S' n L') (hk : Kept S w w') : One19 W w' db S' n L' :=
  ⟨hp, h.ge, h.bel.trans (hk.below h.bel.size (fun k e => Nat.le_trans h.ge (h.pd.ge k e)))⟩

theorem One19.kept {T : Nat → Prop} (h : One19 W w db S n L) (hk : Kept T w w') (hT : ∀ k, T k → W.heap.size ≤ k) (hd : ∀ k, S k → ¬ T k) : One19 W w' db S n L :=
  ⟨h.pd.kept hk hd, h.ge, h.bel.trans (hk.below h.bel.size hT)⟩

end

/-- append([]int{}, xs...) behind a guard. -/
theorem wpList_joinsG {α : Type} {K : Kind α} {P : Program} {w : World} {ops : Array Oper} {rest : List Oper} {o : Oper} {a : Act} {Q : Exit → Act → World → Prop} (hw : Region.wanted o (yielded ops a.tmps) = true) (s x : Operand) (t : TypeId)
    (ho : o.op = .call { callee := .builtin .append, args := #[s, x], argTypes := #[t, t] })
    (base : Nat) (e : TypeId) (i : TypeInfo) (z : Value) (bytes : Nat) (ht : P.underlying t = some (.slice e)) (hi : P.info? e = some i) (hz : i.zero = some z)
    (hsize : i.size = K.n) (hby : i.bytes = bytes) (hzs : z.cells.size = K.n)
    (q : Value) (m : List α) (hs : a.eval s = q) (hq : KQ K e w base q []) (hf : ∀ x b, ¬ K.foot x b)
    (ao : Option Addr) (c : Nat) (hx : a.eval x = .slice ao m.length c) (hS : RowAt K w ao m)
    (h63 : m.length ≤ maxLen) (hbytes : m.length * bytes ≤ 140737488355328) (hbase : base ≤ w.heap.size)
    (h : ∀ ao' cap' w', KQ K e w' base (.slice ao' m.length cap') m → Kept (fun k => q.ownBlock = some k) w w' → wpList P ops Q rest (a.put o.dst (.slice ao' m.length cap')) w') : wpList P ops Q (o :: rest) a w := by
  refine wpList_step fun K' hK' => ?_
  rw [if_pos hw]
  cases hm : m with
  | nil =>
    subst hm
    obtain ⟨aq, cq, rfl, _, _⟩ := hq.form
    obtain ⟨_, _, eq, hlc, _⟩ := hq.row.form
    simp only [Value.slice.injEq] at eq
    obtain ⟨rfl, _, rfl⟩ := eq
    have hrun := run_append_zero (P := P) w t o.type e i ht hi aq ao 0 cq c hlc
    unfold Oper.wp
    simp [execOp, ho, resolve, invoke, builtin, hs, hx, hrun, Result.andThen]
    exact hK' _ _ (h aq cq w hq (Kept.refl _ _))
  | cons y r =>
    have hpos : 0 < m.length := by rw [hm]; simp
    obtain ⟨g, off, rfl, _, _⟩ := hS.cell 0 y (by rw [hm]; rfl)
    obtain ⟨v', w', hrun, hrow, hgr, hfr⟩ := run_append_q (P := P) w t o.type e i z K.n bytes ht hi hz hsize hby hzs K.pos base q 0 (flatK K []) hq.row ⟨g, off, none⟩ m.length c (flatK K m) hpos (flatK_length K m) hS.news (flatK_one K m) (by omega) (by rw [Nat.zero_add]; exact hbytes) hbase
    obtain ⟨ao', cap', rfl, _, _⟩ := hrow.form
    rw [Nat.zero_add] at hrow hfr hrun
    have hp := hq.push (m := m) (fun x hx => hS.at_ x hx) (fun x _ b hb => absurd hb (hf x b)) hpos (by rw [List.length_nil, Nat.zero_add]; exact hrow) hgr hfr
    unfold Oper.wp
    simp [execOp, ho, resolve, invoke, builtin, hs, hx, hrun, Result.andThen]
    exact hK' _ _ (h ao' cap' w' hp (Kept.of_grown hgr))

def wkL (i : Nat) : List WiD := match i with
  | 0 => [⟨⟨#[97]⟩, [5, 6], 0, 0⟩]
  | 1 => [⟨⟨#[97]⟩, [5, 6], 1, 0⟩]
  | 2 => [⟨⟨#[97]⟩, [5, 6], 1, 1⟩]
  | 3 => [⟨⟨#[97]⟩, [5, 6], 1, 2⟩]
  | _ => [⟨⟨#[97]⟩, [5, 6], 2, 0⟩]

theorem holdAsk : Try.prog.stoodInHeld 40 = false := by kernel_rfl
theorem guardAsk : Try.prog.eqGuardType Try.prog.depth 40 = false := by kernel_rfl
theorem fieldsAsk : (Try.prog.fieldsOf 40).toList.map (fun f => (f.name, f.type, f.offset)) = [("Id", 9, 0), ("To", 3, 1)] := by kernel_rfl

theorem ask_eqIn (w : World) (d : Nat) (i1 i2 : ByteArray) (t1 t2 : Int) : (Op.equalIn (d + 2) 40 (.agg #[.string i1, .int .i64 t1]) (.agg #[.string i2, .int .i64 t2])).run Try.prog w = .ok (i1.toList == i2.toList && t1 == t2) w := by
  rw [run_equalIn_struct w (d + 1) 40 _ _ (by rw [Try.underlying40]; rfl) holdAsk]
  have hf := fieldsAsk
  generalize (Try.prog.fieldsOf 40).toList = fs at hf
  have hl : fs.length = 2 := by have := congrArg List.length hf; simpa using this
  match fs, hl, hf with
  | [a, b], _, hf =>
    simp only [List.map_cons, List.map_nil, List.cons.injEq, Prod.mk.injEq, and_true] at hf
    obtain ⟨⟨a1, a2, a3⟩, b1, b2, b3⟩ := hf
    have p1 : ∀ i t, (part 9 #[.string i, .int .i64 t] 0).run Try.prog w = .ok (.string i) w := fun i t => by rfl
    have p2 : ∀ i t, (part 3 #[.string i, .int .i64 t] 1).run Try.prog w = .ok (.int .i64 t) w := fun i t => by rfl
    simp only [Op.eqFields, a1, a2, a3, b1, b2, b3, Sem.run_bind, Sem.run_ite, p1, p2, Result.andThen_ok, run_equalIn_string w d 9 i1 i2 Try.underlying9, run_equalIn_int w d 3 .i64 .i64 t1 t2 Try.underlying3]
    cases (i1.toList == i2.toList) <;> cases (t1 == t2) <;> simp

/-- Two askings are compared. -/
theorem ask_eql (w : World) (i1 i2 : ByteArray) (t1 t2 : Int) : (binOp .eql 40 (.agg #[.string i1, .int .i64 t1]) (.agg #[.string i2, .int .i64 t2])).run Try.prog w = .ok (.bool (i1.toList == i2.toList && t1 == t2)) w := by
  rw [run_eql_struct, ask_eqIn w 9998]
  rfl

theorem ask_neq (w : World) (i1 i2 : ByteArray) (t1 t2 : Int) : (binOp .neq 40 (.agg #[.string i1, .int .i64 t1]) (.agg #[.string i2, .int .i64 t2])).run Try.prog w = .ok (.bool (!(i1.toList == i2.toList && t1 == t2))) w := by
  rw [run_neq_struct, ask_eqIn w 9998]
  rfl

theorem RowAt.ofInts {w : World} {g : Nat} {T : TypeId} {l : List Int} (h : Arr w g T (l.map (fun v => .int .i64 v))) : RowAt intK w (some ⟨g, 0, none⟩) l := by
  refine ⟨fun i x hx => ⟨g, 0, rfl, h.lt, fun j v hv => ?_⟩, fun _ _ => trivial⟩
  have hj : j = 0 := by
    have := (List.getElem?_eq_some_iff.1 hv).1
    have e : (intK.c x).length = 1 := rfl
    omega
  subst hj
  have e : 0 + i * intK.n + 0 = i := by show 0 + i * 1 + 0 = i; omega
  rw [e]
  have hv' : some (Value.int .i64 x) = some v := hv
  rw [← hv']
  exact h.cell (by rw [List.getElem?_map, hx]; rfl)

theorem wk_tick (i : Nat) (h : i < 4) : asksL 3 (wkL i) = (if i = 0 then [⟨⟨#[97]⟩, 5⟩] else if i = 3 then [⟨⟨#[97]⟩, 6⟩] else []) ∧ (wkL i).map (tickW 3) = wkL (i + 1) := by
  rcases (by omega : i = 0 ∨ i = 1 ∨ i = 2 ∨ i = 3) with rfl | rfl | rfl | rfl <;> exact ⟨rfl, rfl⟩

theorem RowAt.ask {w : World} {ao : Option Addr} {l : List AskD} (h : RowAt askK w ao l) {i : Nat} {x : AskD} (hx : l[i]? = some x) :
    ∃ g off, ao = some ⟨g, off, none⟩ ∧ g < w.heap.size ∧ w.cell? ⟨g, off + i * 2, none⟩ = some (.string x.id) ∧ w.cell? ⟨g, off + i * 2 + 1, none⟩ = some (.int .i64 x.to) := by
  obtain ⟨g, off, h1, h2, h3⟩ := h.cell i x hx
  exact ⟨g, off, h1, h2, h3 0 _ rfl, h3 1 _ rfl⟩

set_option maxRecDepth 100000 in
set_option maxHeartbeats 2000000 in
theorem works19_any (W : World) : Calls Try.prog 18 #[] W fun e w' => e = .returned (.bool true) ∧ Below W.heap.size W w' := by
  have cN := pdNew_yes 3 W (by decide) (by decide)
  go_enter Try.func18, Try.ntmps18
  go_wp2_with fail
  refine cN.mono ?_
  rintro e w0 ⟨rfl, h0, hb0⟩
  have hO : One19 W w0 W.heap.size (fun k => k = W.heap.size) 3 [] := ⟨h0, Nat.le_refl _, hb0⟩
  clear cN h0 hb0
  generalize W.heap.size = db at hO ⊢
  have hI := Arr.new w0 3 [.int .i64 5, .int .i64 6]
  have hbI := belowNew w0 (.cells #[.int .i64 5, .int .i64 6] 3)
  have hO1 := hO.below hbI
  have cW := pdWant_any ⟨#[97]⟩ (some ⟨w0.heap.size, 0, none⟩) 2 [5, 6] hO1.pd (RowAt.ofInts (l := [5, 6]) hI) (by decide)
  have e1 : wantE [] ⟨#[97]⟩ ([5, 6] : List Int).length = 0 := by decide
  have e2 : wantL [] ⟨#[97]⟩ [5, 6] = wkL 0 := rfl
  rw [e1, e2] at cW
  go_wp2_with fail
  refine cW.mono ?_
  rintro e w1 ⟨S1, rfl, h1, hf1, hk1⟩
  have hO2 := hO1.step h1 hk1
  clear cW hO hO1 hI hbI h1 hk1 hf1 e1 e2
  have t0 := wk_tick 0 (by decide)
  have cT := pdTick_any hO2.pd
  rw [t0.1, t0.2] at cT
  go_wp2_with fail
  refine cT.mono ?_
  rintro e w2 ⟨a0, c0, rfl, hA0, h2, hk2⟩
  have hO3 := hO2.step h2 hk2
  have hR0 := (hA0.rowOf).1
  have hgA : ∀ k, rowFoot askK a0 [⟨⟨#[97]⟩, 5⟩] k → w1.heap.size ≤ k := fun k hk => KQ.foot_ge hA0 (Nat.le_refl _) (fun _ _ _ h => h.elim) k hk
  have hlt2 := hO2.pd.lt
  clear cT h2 hk2 hA0
  have t1 := wk_tick 1 (by decide)
  have cT := pdTick_any hO3.pd
  rw [t1.1, t1.2] at cT
  go_wp2_with fail
  refine cT.mono ?_
  rintro e w3 ⟨a1, c1, rfl, hA1, h3, hk3⟩
  have hO4 := hO3.step h3 hk3
  have hR1 := hR0.kept hk3 (fun b hb e => by have := hgA b hb; have := hlt2 b e; omega)
  clear cT h3 hk3 hA1 hR0
  have t2 := wk_tick 2 (by decide)
  have cT := pdTick_any hO4.pd
  rw [t2.1, t2.2] at cT
  go_wp2_with fail
  refine cT.mono ?_
  rintro e w4 ⟨a2, c2, rfl, hA2, h4, hk4⟩
  have hO5 := hO4.step h4 hk4
  have hR2 := hR1.kept hk4 (fun b hb e => by have := hgA b hb; have := hlt2 b e; omega)
  clear cT h4 hk4 hA2 hR1
  have t3 := wk_tick 3 (by decide)
  have cT := pdTick_any hO5.pd
  rw [t3.1, t3.2] at cT
  go_wp2_with fail
  refine cT.mono ?_
  rintro e w5 ⟨a3, c3, rfl, hA3, h5, hk5⟩
  have hO6 := hO5.step h5 hk5
  have hR3 := hR2.kept hk5 (fun b hb e => by have := hgA b hb; have := hlt2 b e; omega)
  have hR4 := (hA3.rowOf).1
  obtain ⟨g, off, rfl, _, z0, z1⟩ := hR3.ask (i := 0) (x := ⟨⟨#[97]⟩, 5⟩) rfl
  obtain ⟨g', off', rfl, _, z2, z3⟩ := hR4.ask (i := 0) (x := ⟨⟨#[97]⟩, 6⟩) rfl
  rw [Nat.zero_mul, Nat.add_zero] at z0 z1 z2 z3
  have hbF := hO6.bel
  have hql := ask_eql
  have hqg := guardAsk
  clear cT h5 hk5 hA3 hR2 hR3 hR4 hgA hlt2 hO2 hO3 hO4 hO5 hO6 t0 t1 t2 t3
  go_wp2
  go_ret
  exact ⟨rfl, hbF⟩
end Go.Proofs.Ytblpkfnhfdkacaa
