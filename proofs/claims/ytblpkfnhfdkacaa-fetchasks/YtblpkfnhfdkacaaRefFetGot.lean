/- The reference has got something. -/
import Derived.Test.YtblpkfnhfdkacaaRefFet
import Derived.Test.YtblpkfnhfdkacaaFetGot
namespace Go.Proofs.Ytblpkfnhfdkacaa
open Go Go.RowKit
set_option linter.unusedVariables false

/-- append(q, xs...), at a step of a region that draws its order. -/
theorem step_joinsL {α : Type} {K : Kind α} {P : Program} (w : World) {ops : Array Oper} {o : Oper} {a : Act} {C : Act → World → Prop} {Q : Exit → Act → World → Prop} {E : Prop} (hgd : o.guard = none) (s x : Operand) (t : TypeId)
    (ho : o.op = .call { callee := .builtin .append, args := #[s, x], argTypes := #[t, t] })
    (base : Nat) (e : TypeId) (i : TypeInfo) (z : Value) (bytes : Nat) (ht : P.underlying t = some (.slice e)) (hi : P.info? e = some i) (hz : i.zero = some z)
    (hsize : i.size = K.n) (hby : i.bytes = bytes) (hzs : z.cells.size = K.n)
    (q : Value) (l m : List α) (hs : a.eval s = q) (hq : KQ K e w base q l) (hf : ∀ x b, ¬ K.foot x b)
    (ao : Option Addr) (M c : Nat) (hM : M = m.length) (hx : a.eval x = .slice ao M c) (hS : RowAt K w ao m)
    (h63 : l.length + m.length ≤ maxLen) (hbytes : (l.length + m.length) * bytes ≤ 140737488355328) (hbase : base ≤ w.heap.size)
    (h : ∀ ao' cap' w', KQ K e w' base (.slice ao' (l.length + M) cap') (l ++ m) → Kept (fun k => q.ownBlock = some k) w w' → Fresh w q (.slice ao' (l.length + M) cap') → C (a.put o.dst (.slice ao' (l.length + M) cap')) w') : if Region.wanted o (yielded ops a.tmps) = true then Oper.wp P o a w C Q else E := by
  subst hM
  rw [if_pos (by simp [Region.wanted, hgd])]
  cases hm : m with
  | nil =>
    subst hm
    obtain ⟨aq, cq, rfl, _, _⟩ := hq.form
    obtain ⟨_, _, eq, hlc, _⟩ := hq.row.form
    simp only [Value.slice.injEq] at eq
    obtain ⟨rfl, _, rfl⟩ := eq
    have hrun := run_append_zero (P := P) w t o.type e i ht hi aq ao l.length cq c hlc
    unfold Oper.wp
    simp [execOp, ho, resolve, invoke, builtin, hs, hx, hrun, Result.andThen]
    have hh := h aq cq w
    rw [List.append_nil] at hh
    exact hh hq (Kept.refl _ _) (Fresh.refl _ _)
  | cons y r =>
    have hpos : 0 < m.length := by rw [hm]; simp
    obtain ⟨g, off, rfl, _, _⟩ := hS.cell 0 y (by rw [hm]; rfl)
    obtain ⟨v', w', hrun, hrow, hgr, hfr⟩ := run_append_q (P := P) w t o.type e i z K.n bytes ht hi hz hsize hby hzs K.pos base q l.length (flatK K l) hq.row ⟨g, off, none⟩ m.length c (flatK K m) hpos (flatK_length K m) hS.news (flatK_one K m) h63 hbytes hbase
    obtain ⟨ao', cap', rfl, _, _⟩ := hrow.form
    have hp := hq.push (m := m) (fun x hx => hS.at_ x hx) (fun x _ b hb => absurd hb (hf x b)) hpos hrow hgr hfr
    unfold Oper.wp
    simp [execOp, ho, resolve, invoke, builtin, hs, hx, hrun, Result.andThen]
    exact h ao' cap' w' hp (Kept.of_grown hgr) hfr

theorem wrapI_small19 (n : Int) (h0 : 0 ≤ n) (h1 : n < 9223372036854775808) : IntKind.i64.wrap n = n := by
  simp [IntKind.wrap, IntKind.bits, IntKind.signed]
  omega

theorem rd_less {w w8 : World} {db n : Nat} {S : Nat → Prop} {q : Value} {xs : List WiR} {id : ByteArray} {j : Nat} {x : WiR} (h : RD w db S n (xs.map (·.d))) (h1 : RT w db q n xs) (h3 : ∀ k, RFt db q xs k → S k) (hx : xs[j]? = some x) (he : x.d.id = id)
    {a8 : Option Addr} {c8 N : Nat} (hQ : KQ ptrK19 72 w8 w.heap.size (.slice a8 N c8) ((xs.map (·.rb)).take j ++ (xs.map (·.rb)).drop (j + 1))) (hb : Below w.heap.size w w8) :
    ∃ S', RD (w8.setCell ⟨db, 1, none⟩ (.slice a8 N c8)) db S' n (gotL (xs.map (·.d)) id) ∧ FreshS w S S' ∧ Kept S w (w8.setCell ⟨db, 1, none⟩ (.slice a8 N c8)) := by
  have hj := (List.getElem?_eq_some_iff.1 hx).1
  have hdb := h1.box.lt
  have h8 := h1.below hb
  have kS := Kept.setCell w8 ⟨db, 1, none⟩ (.slice a8 N c8)
  have hE : xs.eraseIdx j = xs.filter (fun y => !decide (y.d.id = id)) := by
    have hp : xs.Pairwise (fun a b => a.d.id ≠ b.d.id) := by have := h.ok.apart; rw [List.pairwise_map] at this; exact this
    have e : xs = xs.take j ++ x :: xs.drop (j + 1) := by
      have e1 := List.drop_eq_getElem_cons hj
      have e2 : xs[j] = x := by rw [List.getElem?_eq_getElem hj] at hx; exact Option.some.inj hx
      rw [e2] at e1
      rw [← e1, List.take_append_drop]
    rw [List.eraseIdx_eq_take_drop_succ]
    have hp' := hp
    rw [e, List.pairwise_append, List.pairwise_cons] at hp'
    obtain ⟨_, ⟨p2, _⟩, p3⟩ := hp'
    conv => rhs; rw [e]
    rw [List.filter_append, List.filter_cons_of_neg (by simp [he]), List.filter_eq_self.2, List.filter_eq_self.2]
    · intro y hy
      simp only [Bool.not_eq_true', decide_eq_false_iff_not]
      rw [← he]
      exact fun e => p2 y hy e.symm
    · intro y hy
      simp only [Bool.not_eq_true', decide_eq_false_iff_not]
      rw [← he]
      exact p3 y hy x (List.mem_cons_self)
  have hmem : ∀ y ∈ xs.eraseIdx j, y ∈ xs := fun y hy => List.mem_of_mem_eraseIdx hy
  have hmap : (xs.eraseIdx j).map (·.rb) = (xs.map (·.rb)).take j ++ (xs.map (·.rb)).drop (j + 1) := by
    rw [List.eraseIdx_eq_take_drop_succ, List.map_append, List.map_take, List.map_drop]
  have hown : ∀ k, (Value.slice a8 N c8).ownBlock = some k → w.heap.size ≤ k := fun k e => (hQ.lt k e).1
  have hRT : RT (w8.setCell ⟨db, 1, none⟩ (.slice a8 N c8)) db (.slice a8 N c8) n (xs.eraseIdx j) := by
    refine ⟨h8.box.set 1 _, ?_, fun y hy => (h8.at_ y (hmem y hy)).kept kS (fun e => ?_) (fun k hf e => ?_), h1.apart.sublist (List.eraseIdx_sublist _ _), fun a ha b hb => h1.off a (hmem a ha) b (hmem b hb), fun y hy e => ?_, fun y hy k hf e => ?_, fun y hy => h1.gt y (hmem y hy), fun y hy => h1.gf y (hmem y hy)⟩
    · rw [hmap]
      refine (hQ.rebase (by omega)).kept kS (fun k e e' => ?_) (fun _ _ _ h => h.elim)
      have := hown k e
      have e1 : k = db := e'
      omega
    · have := h1.gt y (hmem y hy)
      have e1 : y.rb = db := e
      omega
    · have := h1.gf y (hmem y hy) k hf
      have e1 : k = db := e
      omega
    · have := hown _ e
      have := (h1.at_ y (hmem y hy)).box.lt
      omega
    · have := hown _ e
      have := (h1.at_ y (hmem y hy)).row.lt hf
      omega
  have hd : (xs.eraseIdx j).map (·.d) = gotL (xs.map (·.d)) id := by
    rw [hE]
    unfold gotL
    rw [List.filter_map]
    rfl
  have hK : Kept S w (w8.setCell ⟨db, 1, none⟩ (.slice a8 N c8)) := (Kept.of_below hb).trans (kS.mono (fun k _ e => h3 k (Or.inl e)))
  have hz := hK.size
  refine ⟨fun k => S k ∨ RFt db (.slice a8 N c8) (xs.eraseIdx j) k, ⟨⟨_, _, hRT, hd, fun k e => Or.inr e⟩, h.ok.got id, ?_, ?_⟩, ?_, hK⟩
  · rintro k (e | e)
    · exact Nat.lt_of_lt_of_le (h.lt k e) hz
    · exact hRT.lt e
  · rintro k (e | e)
    · exact h.ge k e
    · exact hRT.ge e
  · rintro k (e | e)
    · exact Or.inl e
    · rcases e with e | e | ⟨y, hy, e⟩
      · exact Or.inl (h3 k (Or.inl e))
      · exact Or.inr (hown k e)
      · exact Or.inl (h3 k (Or.inr (Or.inr ⟨y, hmem y hy, e⟩)))

set_option maxRecDepth 100000 in
set_option maxHeartbeats 4000000 in
theorem rdGot_any (id : ByteArray) {w : World} {db : Nat} {S : Nat → Prop} {n : Nat} {L : List WiD} (h : RD w db S n L) :
    Calls Try.prog 12 #[.pointer (some ⟨db, 0, none⟩), .string id] w fun e w' => ∃ S', e = .returned (.bool (hasL L id)) ∧ RD w' db S' n (gotL L id) ∧ FreshS w S S' ∧ Kept S w w' := by
  obtain ⟨q, xs, h1, rfl, h3⟩ := h.ex
  have hrefl : FreshS w S S := fun k hk => Or.inl hk
  have hfew : xs.length ≤ 64 := by have := h.ok.few; rw [List.length_map] at this; exact this
  have cA := rdAt_any id h1 hfew
  cases hB : hasL (xs.map (·.d)) id with
  | false =>
    have hnot : Hid (∀ i : Int, ((hasL (xs.map (·.d)) id = false ∧ i = -1) ∨ ∃ j : Nat, i = (j : Int) ∧ ∃ x, xs[j]? = some x ∧ x.d.id = id) → i = -1) := fun i hA => by
      rcases hA with ⟨_, e⟩ | ⟨j, rfl, x, hx, he⟩
      · exact e
      · exact absurd he (hasL_not.1 hB x.d (List.mem_map.2 ⟨x, List.mem_of_getElem? hx, rfl⟩))
    rw [gotL_none hB]
    go_enter Try.func12, Try.ntmps12
    go_wp2_with fail
    refine cA.mono ?_
    rintro e w1 ⟨rfl, i, rfl, hA⟩
    obtain rfl := hnot.out i hA
    clear hA cA hnot
    go_wp2
    go_ret
    first | exact ⟨rfl, S, h, hrefl, Kept.refl _ _⟩ | exact ⟨S, rfl, h, hrefl, Kept.refl _ _⟩
  | true =>
    obtain ⟨ao, cap, rfl, _, hRow⟩ := h1.row.form
    have hcap := (h1.row.capOf).1
    rw [List.length_map] at h1 h3 hcap
    go_enter Try.func12, Try.ntmps12
    go_wp2_with fail
    refine cA.mono ?_
    rintro e w1 ⟨rfl, i, rfl, hA⟩
    obtain ⟨j, rfl, x, hx, he⟩ : ∃ j : Nat, i = (j : Int) ∧ ∃ x, xs[j]? = some x ∧ x.d.id = id := by
      rcases hA with ⟨hn, _⟩ | hA
      · rw [hB] at hn; cases hn
      · exact hA
    clear hA cA
    have hj := (List.getElem?_eq_some_iff.1 hx).1
    obtain ⟨g, off, rfl, _, _⟩ := hRow.ptr19 (i := j) (x := x.rb) (by rw [List.getElem?_map, hx]; rfl)
    obtain ⟨j0, y0, hj0, hy0, hy1, hy2, hy3⟩ := ptrInfo19
    have c1 := h1.box.cell (i := 1) rfl
    have f1 := h1.box.frozen 1
    have hbx : Below w1.heap.size w1 (w1.alloc (.cells #[] 72)).drew := (belowNew w1 (.cells #[] 72)).trans (below_drewN (Below.refl _ _) 1)
    have c1x := (h1.below (belowNew w1 (.cells #[] 72))).box.cell (i := 1) rfl
    have hQ : KQ ptrK19 72 (w1.alloc (.cells #[] 72)).drew w1.heap.size (.slice (some ⟨w1.heap.size, 0, none⟩) 0 0) [] := (KQ.made w1 _ (Nat.le_refl _)).below (below_drewN (Below.refl _ _) 1)
    have hbs := hbx.size
    have hRx := hRow.below hbx
    have lt1 : ((xs.map (·.rb)).take j).length = j := by rw [List.length_take, List.length_map]; omega
    have ld1 : ((xs.map (·.rb)).drop (j + 1)).length = xs.length - (j + 1) := by rw [List.length_drop, List.length_map]
    have m1 : ([] : List Nat).length + ((xs.map (·.rb)).take j).length ≤ maxLen := by rw [lt1]; unfold maxLen; simp; omega
    have m2 : (([] : List Nat).length + ((xs.map (·.rb)).take j).length) * 8 ≤ 140737488355328 := by rw [lt1]; simp; omega
    have m3 : ((xs.map (·.rb)).take j).length + ((xs.map (·.rb)).drop (j + 1)).length ≤ maxLen := by rw [lt1, ld1]; unfold maxLen; omega
    have m4 : (((xs.map (·.rb)).take j).length + ((xs.map (·.rb)).drop (j + 1)).length) * 8 ≤ 140737488355328 := by rw [lt1, ld1]; omega
    have g1 : ¬ (j : Int) < 0 := by omega
    have g2 : (j : Int) ≤ (cap : Int) := by omega
    have g3 : (j : Int) + 1 ≤ (xs.length : Int) := by omega
    have g4 : (xs.length : Int) ≤ (cap : Int) := by omega
    have hj' : Hid (j < xs.length) := hj
    have hw := wrapI_small19 ((j : Int) + 1) (by omega) (by omega)
    have hn1 : ((j : Int) + 1).toNat = j + 1 := by omega
    have g5 : (0 : Int) ≤ (j : Int) + 1 := by omega
    have g6 : (j : Int) ≤ (xs.length : Int) := by omega
    have g7 : (j : Int) ≤ (j : Int) + 1 := by omega
    by_cases hc : cap = j + 1
    · have hRd : ∀ U, Below w1.heap.size w1 U → RowAt ptrK19 U (some ⟨g, off, none⟩) ((xs.map (·.rb)).drop (j + 1)) := fun U hU => by
        rw [List.drop_of_length_le (by rw [List.length_map]; omega)]
        exact nil_row _ _
      go_wp2_with fail
      go_region_law (first
        | (refine step_joinsL (K := ptrK19) _ (by rfl) _ _ 62 (by rfl) w1.heap.size 72 j0 _ 8 Try.underlying62 hj0 hy0 hy1 hy2 hy3 _ [] ((xs.map (·.rb)).take j) (by rfl) hQ (fun _ _ h => h.elim) (some ⟨g, off, none⟩) j _ lt1.symm (by rfl) (hRx.take j) m1 m2 hbs ?_
           intro ao3 cap3 w3 hQ3 hk3 hf3
           rw [List.nil_append, List.length_nil, Nat.zero_add] at hQ3
           rw [List.length_nil, Nat.zero_add]
           have hb3 := hbx.trans (hk3.below hbs (fun k e => (hQ.lt k e).1))
           have c13 := (h1.below hb3).box.cell (i := 1) rfl
           have hbs3 := hb3.size
           have hRd3 := hRd _ hb3)
        | (refine step_joinsL (K := ptrK19) _ (by rfl) _ _ 62 (by rfl) w1.heap.size 72 j0 _ 8 Try.underlying62 hj0 hy0 hy1 hy2 hy3 _ ((xs.map (·.rb)).take j) ((xs.map (·.rb)).drop (j + 1)) (by rfl) hQ3 (fun _ _ h => h.elim) (some ⟨g, off, none⟩) (xs.length - (j + 1)) _ ld1.symm (by rfl) hRd3 m3 m4 hbs3 ?_
           intro ao8 cap8 w8 hQ8 hk8 hf8
           rw [lt1] at hQ8
           have hb8 := hb3.trans (hk8.below hbs3 (fun k e => (hQ3.lt k e).1))
           have h18 := h1.below hb8
           have c18 := h18.box.cell (i := 1) rfl
           have f18 := h18.box.frozen 1))
      all_goals
        obtain ⟨S', f1', f2', f3'⟩ := rd_less (id := id) h h1 h3 hx he hQ8 hb8
        generalize w8.setCell _ _ = w9 at f1' f3' ⊢
        clear hQ8 hk8 hf8 h18 c18 f18 hQ3 hk3 hf3 hb3 c13 hRd hRd3 hQ hRx hbx c1x c1 f1 hw
        go_wp2
        go_ret
        exact ⟨S', rfl, f1', f2', f3'⟩
    · have hRd : ∀ U, Below w1.heap.size w1 U → RowAt ptrK19 U (some ⟨g, off + (j + 1), none⟩) ((xs.map (·.rb)).drop (j + 1)) := fun U hU => by
        have := (hRow.below hU).dropG (j + 1)
        rw [show ptrK19.n = 1 from rfl, Nat.mul_one] at this
        exact this
      go_wp2_with fail
      go_region_law (first
        | (refine step_joinsL (K := ptrK19) _ (by rfl) _ _ 62 (by rfl) w1.heap.size 72 j0 _ 8 Try.underlying62 hj0 hy0 hy1 hy2 hy3 _ [] ((xs.map (·.rb)).take j) (by rfl) hQ (fun _ _ h => h.elim) (some ⟨g, off, none⟩) j _ lt1.symm (by rfl) (hRx.take j) m1 m2 hbs ?_
           intro ao3 cap3 w3 hQ3 hk3 hf3
           rw [List.nil_append, List.length_nil, Nat.zero_add] at hQ3
           rw [List.length_nil, Nat.zero_add]
           have hb3 := hbx.trans (hk3.below hbs (fun k e => (hQ.lt k e).1))
           have c13 := (h1.below hb3).box.cell (i := 1) rfl
           have hbs3 := hb3.size
           have hRd3 := hRd _ hb3)
        | (refine step_joinsL (K := ptrK19) _ (by rfl) _ _ 62 (by rfl) w1.heap.size 72 j0 _ 8 Try.underlying62 hj0 hy0 hy1 hy2 hy3 _ ((xs.map (·.rb)).take j) ((xs.map (·.rb)).drop (j + 1)) (by rfl) hQ3 (fun _ _ h => h.elim) (some ⟨g, off + (j + 1), none⟩) (xs.length - (j + 1)) (cap - (j + 1)) ld1.symm (by rfl) hRd3 m3 m4 hbs3 ?_
           intro ao8 cap8 w8 hQ8 hk8 hf8
           rw [lt1] at hQ8
           have hb8 := hb3.trans (hk8.below hbs3 (fun k e => (hQ3.lt k e).1))
           have h18 := h1.below hb8
           have c18 := h18.box.cell (i := 1) rfl
           have f18 := h18.box.frozen 1))
      all_goals
        obtain ⟨S', f1', f2', f3'⟩ := rd_less (id := id) h h1 h3 hx he hQ8 hb8
        generalize w8.setCell _ _ = w9 at f1' f3' ⊢
        clear hQ8 hk8 hf8 h18 c18 f18 hQ3 hk3 hf3 hb3 c13 hRd hRd3 hQ hRx hbx c1x c1 f1 hw
        go_wp2
        go_ret
        exact ⟨S', rfl, f1', f2', f3'⟩
end Go.Proofs.Ytblpkfnhfdkacaa
