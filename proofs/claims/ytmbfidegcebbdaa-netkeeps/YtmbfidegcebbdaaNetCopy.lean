/- copy within a row of the call's own; a row without its last; how a bag is closed up. -/
import Derived.Test.YtmbfidegcebbdaaNetRows
namespace Go.Proofs.Ytmbfidegcebbdaa
open Go.RowKit
set_option linter.unusedVariables false

theorem run_copyN {P : Program} (w : World) (dT sT ty elem : TypeId) (i : TypeInfo) (size : Nat) (hu : P.underlying dT = some (.slice elem)) (hi : P.info? elem = some i) (hsz : i.size = size)
    (dp sp : Option Addr) (dLen dCap sLen sCap m : Nat) (hm : Nat.min sLen dLen = m) (g off : Nat) (t : TypeId) (cur : List Value) (hg : Arr w g t cur) (cs : List Value) (hn : cs.length = m * size)
    (hpos : 0 < m → dp = some ⟨g, off, none⟩ ∧ ∃ ad, sp = some ad ∧ ∀ j v, cs[j]? = some v → w.cell? (ad.add j) = some v) (hfit : off + cs.length ≤ cur.length) (h1 : ∀ v ∈ cs, v.oneCell' = true) :
    ∃ w', (Builtin.copy_ #[dT, sT] ty #[.slice dp dLen dCap, .slice sp sLen sCap]).run P w = .ok (goInt m) w' ∧ Arr w' g t (cur.take off ++ (cs ++ cur.drop (off + cs.length))) ∧ Kept (fun k => k = g) w w' := by
  subst hsz
  by_cases h0 : m = 0
  · subst h0
    obtain rfl : cs = [] := List.eq_nil_of_length_eq_zero (by simpa using hn)
    refine ⟨w, ?_, by simpa using hg, Kept.refl _ _⟩
    cases dp <;> cases sp <;> simp [Builtin.copy_, run_underlying hu, Builtin.lenOf, Builtin.firstCells, sizeOf, typeInfo, hi, hm, loadCells, loadCellsFrom, storeCells]
  · obtain ⟨rfl, ad, rfl, hsrc⟩ := hpos (by omega)
    have hl := run_loadCells_list (P := P) w ad cs hsrc
    have hst := run_storeCells_at P g off t cs 0 cur.toArray w hg (by simpa using hfit) h1
    rw [hn] at hl
    refine ⟨w.setRow g (cur.take off ++ (cs ++ cur.drop (off + cs.length))).toArray, ?_, Arr.row (g := g) (t := t) hg _, rfl, rfl, rfl, by show _ ≤ (w.heap.modify g _).size; simp, fun k _ hk => ?_⟩
    · simp [Builtin.copy_, run_underlying hu, Builtin.lenOf, Builtin.firstCells, sizeOf, typeInfo, hi, hm, hl, hst]
    · show (w.heap.modify g _)[k]? = _
      rw [Array.getElem?_modify, if_neg (fun e => hk e.symm)]

/-- At a step of a region that draws its order. -/
theorem step_copyN {P : Program} (w : World) {ops : Array Oper} {o : Oper} {a : Act} {C : Act → World → Prop} {Q : Exit → Act → World → Prop} {E : Prop} (hgd : o.guard = none) (d s : Operand) (dT sT : TypeId)
    (ho : o.op = .call { callee := .builtin .copy, args := #[d, s], argTypes := #[dT, sT] }) (elem : TypeId) (i : TypeInfo) (size : Nat) (hu : P.underlying dT = some (.slice elem)) (hi : P.info? elem = some i) (hsz : i.size = size)
    (dp sp : Option Addr) (dLen dCap sLen sCap m : Nat) (hd : a.eval d = .slice dp dLen dCap) (hs : a.eval s = .slice sp sLen sCap) (hm : Nat.min sLen dLen = m) (g off : Nat) (t : TypeId) (cur : List Value) (hg : Arr w g t cur) (cs : List Value) (hn : cs.length = m * size)
    (hpos : 0 < m → dp = some ⟨g, off, none⟩ ∧ ∃ ad, sp = some ad ∧ ∀ j v, cs[j]? = some v → w.cell? (ad.add j) = some v) (hfit : off + cs.length ≤ cur.length) (h1 : ∀ v ∈ cs, v.oneCell' = true)
    (h : ∀ w', Hid (Arr w' g t (cur.take off ++ (cs ++ cur.drop (off + cs.length)))) → Kept (fun k => k = g) w w' → C (a.put o.dst (goInt m)) w') : if Region.wanted o (yielded ops a.tmps) = true then Oper.wp P o a w C Q else E := by
  rw [if_pos (by simp [Region.wanted, hgd])]
  obtain ⟨w', hrun, r1, r2⟩ := run_copyN (P := P) w dT sT o.type elem i size hu hi hsz dp sp dLen dCap sLen sCap m hm g off t cur hg cs hn hpos hfit h1
  unfold Oper.wp
  simp [execOp, ho, resolve, invoke, builtin, hd, hs, hrun, Result.andThen]
  exact h w' r1 r2

/-- A row of the call's own that is not empty, opened, and how it is shut again. -/
theorem KQ.opened {w : World} {base : Nat} {ao : Option Addr} {n cap : Nat} {l : List EnvD} (h : KQ envK 30 w base (.slice ao n cap) l) (hl : 0 < l.length) :
    ∃ g pre post, ao = some ⟨g, pre.length, none⟩ ∧ base ≤ g ∧ g < w.heap.size ∧ n = l.length ∧ n ≤ cap ∧ Arr w g 30 (pre ++ flatK envK l ++ post) ∧
      ∀ (w' : World) (l' : List EnvD), l'.length = l.length → Arr w' g 30 (pre ++ flatK envK l' ++ post) → KQ envK 30 w' base (.slice ao n cap) l' := by
  rcases h.row.2 with ⟨ao', hv, hn⟩ | ⟨g, pre, post, cap', hv, hb, hg, hnc, hcm, hpl⟩
  · omega
  · simp only [Value.slice.injEq] at hv
    obtain ⟨rfl, rfl, rfl⟩ := hv
    refine ⟨g, pre, post, rfl, hb, hg.lt, rfl, hnc, hg, fun w' l' hl' hg' => ⟨⟨by rw [flatK_length], Or.inr ⟨g, pre, post, cap, by rw [hl'], hb, hg', by omega, hcm, by rw [hl']; exact hpl⟩⟩, fun _ _ => trivial, fun _ _ _ h => h.elim, ?_, h.nil⟩⟩
    intro k hk
    simp only [Value.ownBlock, Option.some.injEq] at hk
    subst hk
    exact ⟨hb, hg'.lt⟩

/-- q[:m]. -/
theorem KQ.front {w : World} {base : Nat} {ao : Option Addr} {n cap : Nat} {l : List EnvD} (h : KQ envK 30 w base (.slice ao n cap) l) (m : Nat) (hm : m ≤ l.length) : KQ envK 30 w base (.slice ao m cap) (l.take m) := by
  have hlen : (l.take m).length = m := by rw [List.length_take]; omega
  refine ⟨⟨by rw [flatK_length], ?_⟩, fun _ _ => trivial, fun _ _ _ h => h.elim, fun k hk => h.lt k (by cases ao <;> exact hk), fun a b e => h.nil n b (by simp only [Value.slice.injEq] at e; rw [e.1, e.2.2])⟩
  rcases h.row.2 with ⟨ao', hv, hn⟩ | ⟨g, pre, post, cap', hv, hb, hg, hnc, hcm, hpl⟩
  · simp only [Value.slice.injEq] at hv
    obtain ⟨rfl, hv2, rfl⟩ := hv
    exact Or.inl ⟨ao, by congr 1; omega, by omega⟩
  · simp only [Value.slice.injEq] at hv
    obtain ⟨rfl, rfl, rfl⟩ := hv
    refine Or.inr ⟨g, pre, flatK envK (l.drop m) ++ post, cap, by rw [hlen], hb, ?_, by omega, hcm, ?_⟩
    · have e : pre ++ flatK envK (l.take m) ++ (flatK envK (l.drop m) ++ post) = pre ++ flatK envK l ++ post := by
        rw [← List.append_assoc, List.append_assoc pre, ← flatK_append, List.take_append_drop]
      rw [e]
      exact hg
    · rw [List.length_append, flatK_length, hpl, hlen, List.length_drop, ← Nat.add_mul]
      congr 1
      omega

/-- What lies there when all behind a place were moved up. -/
def shiftL (l : List EnvD) (i : Nat) : List EnvD := l.take i ++ l.drop (i + 1) ++ l.drop (l.length - 1)

theorem shift_len {l : List EnvD} {i : Nat} (h : i < l.length) : (shiftL l i).length = l.length := by
  unfold shiftL
  simp only [List.length_append, List.length_take, List.length_drop]
  omega

theorem shift_take {l : List EnvD} {i : Nat} (h : i < l.length) : (shiftL l i).take (l.length - 1) = l.eraseIdx i := by
  have e : (l.take i ++ l.drop (i + 1)).length = l.length - 1 := by simp only [List.length_append, List.length_take, List.length_drop]; omega
  unfold shiftL
  rw [← e, List.take_left, List.eraseIdx_eq_take_drop_succ]

/-- The cells behind the copy. -/
theorem shift_cells {l : List EnvD} {i : Nat} (h : i < l.length) (pre post : List Value) :
    (pre ++ flatK envK l ++ post).take (pre.length + i * 3) ++ (flatK envK (l.drop (i + 1)) ++ (pre ++ flatK envK l ++ post).drop (pre.length + i * 3 + (flatK envK (l.drop (i + 1))).length)) = pre ++ flatK envK (shiftL l i) ++ post := by
  have n3 : envK.n = 3 := rfl
  have e1 : pre ++ flatK envK l ++ post = (pre ++ flatK envK (l.take i)) ++ (flatK envK (l.drop i) ++ post) := by
    rw [← List.append_assoc, List.append_assoc pre (flatK envK (l.take i)), ← flatK_append, List.take_append_drop]
  have l1 : (pre ++ flatK envK (l.take i)).length = pre.length + i * 3 := by rw [List.length_append, flatK_length, n3, List.length_take]; omega
  have e2 : pre ++ flatK envK l ++ post = (pre ++ flatK envK (l.take (l.length - 1))) ++ (flatK envK (l.drop (l.length - 1)) ++ post) := by
    rw [← List.append_assoc, List.append_assoc pre (flatK envK (l.take (l.length - 1))), ← flatK_append, List.take_append_drop]
  have l2 : (pre ++ flatK envK (l.take (l.length - 1))).length = pre.length + i * 3 + (flatK envK (l.drop (i + 1))).length := by
    rw [List.length_append, flatK_length, flatK_length, n3, List.length_take, List.length_drop]
    omega
  have h1 : (pre ++ flatK envK l ++ post).take (pre.length + i * 3) = pre ++ flatK envK (l.take i) := by rw [e1, ← l1, List.take_left]
  have h2 : (pre ++ flatK envK l ++ post).drop (pre.length + i * 3 + (flatK envK (l.drop (i + 1))).length) = flatK envK (l.drop (l.length - 1)) ++ post := by rw [e2, ← l2, List.drop_left]
  rw [h1, h2]
  unfold shiftL
  rw [flatK_append, flatK_append]
  simp only [List.append_assoc]

/-- Where those behind a place lie. -/
theorem RowAt.dropE {w : World} {b off : Nat} {l : List EnvD} (h : RowAt envK w (some ⟨b, off, none⟩) l) (i : Nat) : RowAt envK w (some ⟨b, off + i * 3, none⟩) (l.drop i) := by
  refine ⟨fun k t ht => ?_, fun _ _ => trivial⟩
  rw [List.getElem?_drop] at ht
  obtain ⟨b', off', e', h1, h2⟩ := h.cell _ t ht
  simp only [Option.some.injEq, Addr.mk.injEq, and_true] at e'
  obtain ⟨rfl, rfl⟩ := e'
  refine ⟨_, _, rfl, h1, fun q v hv => ?_⟩
  have := h2 q v hv
  have ea : off + (i + k) * envK.n + q = off + i * 3 + k * envK.n + q := by show off + (i + k) * 3 + q = off + i * 3 + k * 3 + q; omega
  rw [ea] at this
  exact this

/-- One of a row is written over. -/
theorem BagAt.over {T : TypeId} {w : World} {bb : Nat} {ao : Option Addr} {n cap : Nat} {l : List EnvD} {lost : Nat} (h : BagAt T w bb (.slice ao n cap) l lost) {i : Nat} {x : EnvD} (hx : l[i]? = some x) (y : EnvD) :
    ∃ g off, ao = some ⟨g, off, none⟩ ∧ bb < g ∧ (∀ o, w.frozen? ⟨g, o, none⟩ = false) ∧ w.cell? ⟨g, off + i * 3, none⟩ = some (.int .i64 x.fr) ∧ w.cell? ⟨g, off + i * 3 + 1, none⟩ = some (.int .i64 x.to) ∧ w.cell? ⟨g, off + i * 3 + 2, none⟩ = some (.string x.by_) ∧
      BagAt T (((w.setCell ⟨g, off + i * 3, none⟩ (.int .i64 y.fr)).setCell ⟨g, off + i * 3 + 1, none⟩ (.int .i64 y.to)).setCell ⟨g, off + i * 3 + 2, none⟩ (.string y.by_)) bb (.slice ao n cap) (l.set i y) lost := by
  have hi := (List.getElem?_eq_some_iff.1 hx).1
  obtain ⟨g, off, rfl, hb, hg, hc, hfz, hs⟩ := h.row.set hx
  have h0 := hs ⟨y.fr, x.to, x.by_⟩ 0 (.int .i64 y.fr) (by decide) rfl trivial (fun _ h => h)
  have g1 : (l.set i ⟨y.fr, x.to, x.by_⟩)[i]? = some ⟨y.fr, x.to, x.by_⟩ := by rw [List.getElem?_set, if_pos rfl, if_pos hi]
  obtain ⟨g', off', e, _, _, _, _, hs1⟩ := h0.set g1
  simp only [Option.some.injEq, Addr.mk.injEq, and_true] at e
  obtain ⟨rfl, rfl⟩ := e
  have h1 := hs1 ⟨y.fr, y.to, x.by_⟩ 1 (.int .i64 y.to) (by decide) rfl trivial (fun _ h => h)
  rw [List.set_set] at h1
  have g2 : (l.set i ⟨y.fr, y.to, x.by_⟩)[i]? = some ⟨y.fr, y.to, x.by_⟩ := by rw [List.getElem?_set, if_pos rfl, if_pos hi]
  obtain ⟨g', off', e, _, _, _, _, hs2⟩ := h1.set g2
  simp only [Option.some.injEq, Addr.mk.injEq, and_true] at e
  obtain ⟨rfl, rfl⟩ := e
  have h2 := hs2 y 2 (.string y.by_) (by decide) rfl trivial (fun _ h => h)
  rw [List.set_set] at h2
  have hne : bb ≠ g := by omega
  refine ⟨g, off, rfl, by omega, hfz, hc 0 _ rfl, hc 1 _ rfl, hc 2 _ rfl, ⟨?_, h2, by rw [List.length_set]; exact h.few⟩⟩
  exact ((h.box.other (p := ⟨g, _, none⟩) hne _).other (p := ⟨g, _, none⟩) hne _).other (p := ⟨g, _, none⟩) hne _

/-- A row's block lies behind whatever lies ahead of its base. -/
theorem KQ.base {w : World} {B B' : Nat} {q : Value} {l : List EnvD} (h : KQ envK 30 w B q l) (hB : B' ≤ B) : KQ envK 30 w B' q l := by
  refine ⟨⟨h.row.1, h.row.2.imp id ?_⟩, h.at_, h.off, fun k hk => ⟨Nat.le_trans hB (h.lt k hk).1, (h.lt k hk).2⟩, h.nil⟩
  rintro ⟨g, pre, post, cap, e, hb, r⟩
  exact ⟨g, pre, post, cap, e, Nat.le_trans hB hb, r⟩

/-- Behind the reference's Take. -/
theorem BagAt.taken {T : TypeId} {w wc : World} {bb : Nat} {q : Value} {l : List EnvD} {lost : Nat} {ao' : Option Addr} {cap' N j : Nat} {LT LD : List EnvD} (h : BagAt T w bb q l lost) (hj : j < l.length) (hb : Below w.heap.size w wc)
    (hO : wc.ownsRow w.heap.size 30 envK.n (.slice ao' N cap') N ([] ++ flatK envK LT ++ flatK envK LD)) (hl : LT ++ LD = l.eraseIdx j) (hN : N = (l.eraseIdx j).length) :
    BagAt T (wc.setCell ⟨bb, 0, none⟩ (.slice ao' N cap')) bb (.slice ao' N cap') (l.eraseIdx j) lost ∧ (∀ k, (Value.slice ao' N cap').ownBlock = some k → w.heap.size ≤ k) ∧ Kept (BagS bb q) w (wc.setCell ⟨bb, 0, none⟩ (.slice ao' N cap')) := by
  have hf : [] ++ flatK envK LT ++ flatK envK LD = flatK envK (l.eraseIdx j) := by
    rw [List.nil_append, ← flatK_append, hl]
  rw [hf] at hO
  have hq := KQ.of_own (K := envK) (l := l.eraseIdx j) (fun _ _ h => h.elim) (fun _ _ => trivial) hN hO
  have hlt := h.box.lt
  have hst := Kept.setCell wc ⟨bb, 0, none⟩ (.slice ao' N cap')
  refine ⟨⟨(h.box.below hb h.box.lt).set 0 _, (hq.base (by omega)).kept hst (fun k hk e => ?_) (fun _ _ _ h => h.elim), ?_⟩, fun k hk => (hq.lt k hk).1, (Kept.of_below hb).set (p := ⟨bb, 0, none⟩) (Or.inl rfl) _⟩
  · have := (hq.lt k hk).1
    have e' : k = bb := e
    omega
  · rw [List.length_eraseIdx, if_pos hj]
    have := h.few
    omega
end Go.Proofs.Ytmbfidegcebbdaa
