/- Something is got: slices.DeleteFunc over a closure. -/
import Derived.Test.YtblpkfnhfdkacaaFetTick
import Derived.Lib.SliceRun
namespace Go.Proofs.Ytblpkfnhfdkacaa
open Go Go.RowKit
set_option linter.unusedVariables false

/-- clear of a row of one element. -/
theorem run_clear_one {P : Program} (w : World) (t e ty : TypeId) (z : Value) (zs : List Value) (ht : P.underlying t = some (.slice e)) (hv : ∀ w, (zeroValue e).run P w = .ok z w) (hz : z.cells = zs.toArray) (h1 : ∀ u ∈ zs, u.oneCell' = true) (b o c : Nat)
    (hc : ∀ j, j < zs.length → (w.cell? ⟨b, o + j, none⟩).isSome = true) (hf : ∀ j, j < zs.length → w.frozen? ⟨b, o + j, none⟩ = false) :
    (Builtin.clear_ #[t] ty #[.slice (some ⟨b, o, none⟩) 1 c]).run P w = .ok (.tuple #[]) (w.setCells b o zs) := by
  have hzc : (Builtin.zeroCells z.cells 1).toList = zs := by
    rw [hz]
    simp [Builtin.zeroCells]
    apply List.ext_getElem
    · simp
    · intro i h1 h2
      simp [Nat.mod_eq_of_lt h2, List.getElem?_eq_getElem h2]
  have hst := run_storeCells_cells (P := P) b o zs 0 w (by simpa using hc) (by simpa using hf) h1
  simp only [Nat.add_zero] at hst
  simp [Builtin.clear_, run_underlying ht, hv, hzc, hst]

/-- The last element of a row of the call's own is cut off, and what stood there may turn. -/
theorem KQ.cutLast {α : Type} {K : Kind α} {T : TypeId} {w : World} {base g off n cap : Nat} {l : List α} {x : α} (h : KQ K T w base (.slice (some ⟨g, off, none⟩) n cap) (l ++ [x])) :
    (∀ j, j < K.n → (w.cell? ⟨g, off + l.length * K.n + j, none⟩).isSome = true) ∧ (∀ o, w.frozen? ⟨g, o, none⟩ = false) ∧ ∀ vs : List Value, vs.length = K.n → KQ K T (w.setCells g (off + l.length * K.n) vs) base (.slice (some ⟨g, off, none⟩) l.length cap) l := by
  have hx : (l ++ [x])[l.length]? = some x := by simp
  obtain ⟨g', off', e', q2, q3, q4, q5, _⟩ := h.set hx
  simp only [Option.some.injEq, Addr.mk.injEq, and_true] at e'
  obtain ⟨rfl, rfl⟩ := e'
  refine ⟨fun j hj => ?_, q5, fun vs hv => ?_⟩
  · have hjl : j < (K.c x).length := by rw [K.len]; exact hj
    rw [q4 j _ (List.getElem?_eq_getElem hjl)]
    rfl
  · rcases h.row.2 with ⟨ao', hv', hn⟩ | ⟨g1, pre, post, cap', hv', hb, hg, hnc, hcm, hpl⟩
    · simp at hv'
      simp at hn
    · simp only [Value.slice.injEq, Option.some.injEq, Addr.mk.injEq, and_true] at hv'
      obtain ⟨⟨rfl, rfl⟩, rfl, rfl⟩ := hv'
      have e1 : pre ++ flatK K (l ++ [x]) ++ post = (pre ++ flatK K l) ++ K.c x ++ post := by rw [flatK_append, flatK_single]; simp
      rw [e1] at hg
      have hA := Arr.setCells vs w (pre ++ flatK K l) (K.c x) post (by rw [K.len, hv]) hg
      rw [List.length_append, flatK_length] at hA
      have kk := setCells_kept g vs (pre.length + l.length * K.n) w
      refine ⟨⟨by rw [flatK_length], Or.inr ⟨g, pre, vs ++ post, cap, rfl, hb, by rw [← List.append_assoc]; exact hA, ?_, hcm, ?_⟩⟩, ?_, ?_, ?_, ?_⟩
      · have := hnc
        rw [List.length_append] at this
        omega
      · rw [List.length_append] at hpl hnc
        rw [List.length_append, hv, hpl]
        have hc1 : cap - l.length = (cap - (l.length + [x].length)) + 1 := by simp at hnc ⊢; omega
        rw [hc1, Nat.add_mul, Nat.one_mul, Nat.add_comm]
      · intro z hz
        have hz' : z ∈ l ++ [x] := List.mem_append.2 (Or.inl hz)
        exact K.kept (h.at_ z hz') kk (fun b hb' e => h.off z hz' b hb' (by rw [show b = g from e]; rfl))
      · intro z hz b hb'
        exact h.off z (List.mem_append.2 (Or.inl hz)) b hb'
      · intro k hk
        have := h.lt k hk
        exact ⟨this.1, Nat.lt_of_lt_of_le this.2 kk.size⟩
      · intro a b e
        simp at e

/-- What stands there when those from j + 1 up to k have moved up. -/
def movedL {α : Type} (l : List α) (j k : Nat) : List α := (l.eraseIdx j).take (k - 1) ++ l.drop (k - 1)

theorem moved_start {α : Type} {l : List α} {j : Nat} (hj : j < l.length) : movedL l j (j + 1) = l := by
  unfold movedL
  rw [Nat.add_sub_cancel, List.eraseIdx_eq_take_drop_succ, List.take_append_of_le_length (by rw [List.length_take]; omega), List.take_take, Nat.min_self, List.take_append_drop]

theorem moved_get {α : Type} {l : List α} {j k : Nat} (hj : j < k) (hk : k < l.length) : (movedL l j k)[k]? = l[k]? := by
  unfold movedL
  have hle : ((l.eraseIdx j).take (k - 1)).length = k - 1 := by rw [List.length_take, List.length_eraseIdx_of_lt (by omega)]; omega
  rw [List.getElem?_append_right (by omega), hle, List.getElem?_drop]
  congr 1
  omega

theorem moved_len {α : Type} {l : List α} {j k : Nat} (hj : j < k) (hk : k ≤ l.length) : (movedL l j k).length = l.length := by
  unfold movedL
  rw [List.length_append, List.length_take, List.length_eraseIdx_of_lt (by omega), List.length_drop]
  omega

theorem moved_set {α : Type} {l : List α} {j k : Nat} {x : α} (hj : j < k) (hk : k < l.length) (hx : l[k]? = some x) : (movedL l j k).set (k - 1) x = movedL l j (k + 1) := by
  unfold movedL
  have hle : ((l.eraseIdx j).take (k - 1)).length = k - 1 := by rw [List.length_take, List.length_eraseIdx_of_lt (by omega)]; omega
  rw [List.set_append_right _ _ (by omega), hle, Nat.sub_self, Nat.add_sub_cancel]
  have e1 : l.drop (k - 1) = l[k - 1]'(by omega) :: l.drop k := by
    rw [List.drop_eq_getElem_cons (by omega)]
    congr 2
    omega
  have e2 : (l.eraseIdx j).take k = (l.eraseIdx j).take (k - 1) ++ [x] := by
    have hk1 : k = (k - 1) + 1 := by omega
    conv => lhs; rw [hk1]
    rw [List.take_add_one, List.getElem?_eraseIdx_of_ge (by omega), show k - 1 + 1 = k from by omega, hx]
    rfl
  rw [e1, e2]
  simp

theorem moved_end {α : Type} {l : List α} {j : Nat} (hj : j < l.length) : ∃ y, movedL l j l.length = l.eraseIdx j ++ [y] := by
  unfold movedL
  have e1 : l.drop (l.length - 1) = [l[l.length - 1]'(by omega)] := by
    rw [List.drop_eq_getElem_cons (by omega), show l.length - 1 + 1 = l.length from by omega, List.drop_length]
  rw [e1, List.take_of_length_le (by rw [List.length_eraseIdx_of_lt hj]; exact Nat.le_refl _)]
  exact ⟨_, rfl⟩

theorem moved_mem {α : Type} {l : List α} {j k : Nat} {y : α} (h : y ∈ movedL l j k) : y ∈ l := by
  unfold movedL at h
  rcases List.mem_append.1 h with h | h
  · exact List.mem_of_mem_eraseIdx (List.mem_of_mem_take h)
  · exact List.mem_of_mem_drop h

theorem zeroWish : ∀ w, (zeroValue 67).run Try.prog w = .ok (.agg #[.string ⟨#[]⟩, .slice none 0 0, .int .i64 0, .int .i64 0]) w := by
  intro w
  rfl

theorem erase_got {ms : List WiM} {id : ByteArray} {j : Nat} {x : WiM} (hp : ms.Pairwise (fun a b => a.d.id ≠ b.d.id)) (hx : ms[j]? = some x) (he : x.d.id = id) : ms.eraseIdx j = ms.filter (fun y => !decide (y.d.id = id)) := by
  have hj := (List.getElem?_eq_some_iff.1 hx).1
  have e : ms = ms.take j ++ x :: ms.drop (j + 1) := by
    have e1 := List.drop_eq_getElem_cons hj
    have e2 : ms[j] = x := by rw [List.getElem?_eq_getElem hj] at hx; exact Option.some.inj hx
    rw [e2] at e1
    rw [← e1, List.take_append_drop]
  rw [List.eraseIdx_eq_take_drop_succ]
  have hp' := hp
  rw [e, List.pairwise_append, List.pairwise_cons] at hp'
  obtain ⟨_, ⟨p2, _⟩, p3⟩ := hp'
  conv => rhs; rw [e]
  rw [List.filter_append, List.filter_cons_of_neg (by simp [he]), List.filter_eq_self.2, List.filter_eq_self.2]
  · intro y hy
    simp only [Bool.not_eq_true', decide_eq_false_iff_not]
    rw [← he]
    exact fun e => p2 y hy e.symm
  · intro y hy
    simp only [Bool.not_eq_true', decide_eq_false_iff_not]
    rw [← he]
    exact p3 y hy x (List.mem_cons_self)

set_option maxRecDepth 100000 in
set_option maxHeartbeats 2000000 in
theorem deleteF_any (n : Nat) (ao : Option Addr) (cap : Nat) (ms : List WiM) (id : ByteArray) (cb B : Nat) (w : World) (h : KQ (wishK n) 67 w B (.slice ao ms.length cap) ms) (hfew : ms.length ≤ 64) (hp : ms.Pairwise (fun a b => a.d.id ≠ b.d.id)) (hc : w.cell? ⟨cb, 0, none⟩ = some (.string id)) (hlt : cb < w.heap.size) (hcg : (Value.slice ao ms.length cap).ownBlock ≠ some cb) :
    Calls Try.prog 29 #[.slice ao ms.length cap, .func (.func 33) #[] #[.pointer (some ⟨cb, 0, none⟩)]] w fun e w' => ∃ ms', e = .returned (.slice ao ms'.length cap) ∧ ms' = ms.filter (fun y => !decide (y.d.id = id)) ∧ KQ (wishK n) 67 w' B (.slice ao ms'.length cap) ms' ∧ Kept (fun k => (Value.slice ao ms.length cap).ownBlock = some k) w w' := by
  have cI := indexF_any n ao cap ms id cb w (h.rowOf).1 hfew hc hlt
  go_enter Try.func29, Try.ntmps29
  go_wp2_with fail
  refine cI.mono ?_
  rintro e w1 ⟨i, rfl, hA, hb1⟩
  have h1 := h.below hb1
  have hc1 : w1.cell? ⟨cb, 0, none⟩ = some (.string id) := by rw [hb1.cell (p := ⟨cb, 0, none⟩) hlt]; exact hc
  have hK1 := Kept.of_below (S := fun k => (Value.slice ao ms.length cap).ownBlock = some k) hb1
  have hlt1 := Nat.lt_of_lt_of_le hlt hb1.size
  rcases hA with ⟨hn, rfl⟩ | ⟨j, rfl, hj, ⟨x, hx, he⟩, _⟩
  · have hF : ms.filter (fun y => !decide (y.d.id = id)) = ms := List.filter_eq_self.2 (fun y hy => by
      rw [Bool.not_eq_true', decide_eq_false_iff_not]
      exact hasL_not.1 hn y.d (List.mem_map.2 ⟨y, hy, rfl⟩))
    clear cI
    go_wp2
    go_ret
    exact ⟨ms, rfl, hF.symm, h1, hK1⟩
  · have hE := erase_got hp hx he
    have hothers : Hid (∀ k y, ms[k]? = some y → j < k → ¬ y.d.id = id) := fun k y hy hk e => by
      have hkl := (List.getElem?_eq_some_iff.1 hy).1
      have := List.pairwise_iff_getElem.1 hp j k hj hkl hk
      rw [List.getElem?_eq_getElem hj] at hx
      rw [List.getElem?_eq_getElem hkl] at hy
      rw [Option.some.inj hx, Option.some.inj hy, he, e] at this
      exact this rfl
    obtain ⟨g, off, rfl, hBg, hgl, _⟩ := h1.set hx
    have gj : ¬ (j : Int) = -1 := by omega
    have hfoot : Hid (∀ y ∈ ms, ∀ b, (wishK n).foot y b → b ≠ g) := fun y hy b hb e => h.off y hy b hb (by rw [e]; rfl)
    have hcbg : cb ≠ g := fun e => hcg (by rw [e]; rfl)
    have hgw : g < w.heap.size := (h.lt g rfl).2
    clear cI hc hx
    go_wp2_with fail
    generalize ((j : Int) == -1) = bj
    clear gj
    go_loopw [5, 6] (fun v5 v6 wr => ∃ p : Nat, j ≤ p ∧ p < ms.length ∧ v5 = .int .i64 (p : Int) ∧ v6 = .int .i64 ((p + 1 : Nat) : Int) ∧ KQ (wishK n) 67 wr B (.slice (some ⟨g, off, none⟩) ms.length cap) (movedL ms j (p + 1)) ∧ wr.cell? ⟨cb, 0, none⟩ = some (.string id) ∧ Kept (fun k => k = g) w wr) (fun v _ _ => ms.length - (intOf v).toNat)
    case atStart => exact ⟨j, Nat.le_refl _, hj, rfl, by go_num, by rw [moved_start hj]; exact h1, hc1, hK1.mono (fun k _ e => by simpa [Value.ownBlock] using e.symm)⟩
    case round =>
      obtain ⟨p, hjp, hpl, rfl, rfl, hQ, hcr, hKr⟩ := hrel
      have hz := hKr.size
      by_cases hk : p + 1 < ms.length
      · have g1 : (p : Int) + 1 < (ms.length : Int) := by omega
        obtain ⟨y, hy⟩ : ∃ y, ms[p + 1]? = some y := ⟨_, List.getElem?_eq_getElem hk⟩
        have hym := List.mem_of_getElem? hy
        have hy' : (movedL ms j (p + 1))[p + 1]? = some y := by rw [moved_get (by omega) hk]; exact hy
        have hne := hothers.out _ _ hy (by omega)
        obtain ⟨g', off', e', _, _, hcell, _, _⟩ := hQ.set hy'
        simp only [Option.some.injEq, Addr.mk.injEq, and_true] at e'
        obtain ⟨rfl, rfl⟩ := e'
        have y0 : wr.cell? ⟨g, off + (p + 1) * 4, none⟩ = some (.string y.d.id) := hcell 0 _ rfl
        have y1 : wr.cell? ⟨g, off + (p + 1) * 4 + 1, none⟩ = some (.slice y.fa y.d.fr.length y.fc) := hcell 1 _ rfl
        have y2 : wr.cell? ⟨g, off + (p + 1) * 4 + 2, none⟩ = some (.int .i64 (nextW y.d : Nat)) := hcell 2 _ rfl
        have y3 : wr.cell? ⟨g, off + (p + 1) * 4 + 3, none⟩ = some (.int .i64 (leftW n y.d : Nat)) := hcell 3 _ rfl
        have hbn := belowNew wr (.cells #[.string y.d.id, .slice y.fa y.d.fr.length y.fc, .int .i64 (nextW y.d : Nat), .int .i64 (leftW n y.d : Nat)] 67)
        have hV := Arr.new wr 67 [.string y.d.id, .slice y.fa y.d.fr.length y.fc, .int .i64 (nextW y.d : Nat), .int .i64 (leftW n y.d : Nat)]
        have hQ2 := hQ.below hbn
        have hcr2 : (wr.alloc (.cells #[.string y.d.id, .slice y.fa y.d.fr.length y.fc, .int .i64 (nextW y.d : Nat), .int .i64 (leftW n y.d : Nat)] 67)).cell? ⟨cb, 0, none⟩ = some (.string id) := by
          rw [hbn.cell (p := ⟨cb, 0, none⟩) (by show cb < _; omega)]; exact hcr
        have cF := isFor1_any n y id cb _ hcr2 (by rw [alloc_size]; omega)
        rw [decide_eq_false hne] at cF
        unfold WiM.v at cF
        clear hcell hQ
        go_wp2_with fail
        refine cF.mono ?_
        rintro e w3 ⟨rfl, hb3⟩
        have hV3 := hV.below hb3 hV.lt
        have hQ3 := hQ2.below hb3
        have hcr3 : w3.cell? ⟨cb, 0, none⟩ = some (.string id) := by rw [hb3.cell (p := ⟨cb, 0, none⟩) (by show cb < _; rw [alloc_size]; omega)]; exact hcr2
        have hKr3 := (hKr.trans (Kept.of_below (S := fun k => k = g) hbn)).trans (Kept.of_below (S := fun k => k = g) hb3)
        have v0 := hV3.cell (i := 0) rfl
        have v1 := hV3.cell (i := 1) rfl
        have v2 := hV3.cell (i := 2) rfl
        have v3 := hV3.cell (i := 3) rfl
        obtain ⟨z, hz'⟩ : ∃ z, (movedL ms j (p + 1))[p]? = some z := ⟨_, List.getElem?_eq_getElem (by rw [moved_len (by omega) (by omega)]; omega)⟩
        obtain ⟨g', off', e', _, hg3, hcell, hfz, hset⟩ := hQ3.setWhole hz'
        simp only [Option.some.injEq, Addr.mk.injEq, and_true] at e'
        obtain ⟨rfl, rfl⟩ := e'
        have z0 : w3.cell? ⟨g, off + p * 4, none⟩ = some (.string z.d.id) := hcell 0 _ rfl
        have z1 : w3.cell? ⟨g, off + p * 4 + 1, none⟩ = some (.slice z.fa z.d.fr.length z.fc) := hcell 1 _ rfl
        have z2 : w3.cell? ⟨g, off + p * 4 + 2, none⟩ = some (.int .i64 (nextW z.d : Nat)) := hcell 2 _ rfl
        have z3 : w3.cell? ⟨g, off + p * 4 + 3, none⟩ = some (.int .i64 (leftW n z.d : Nat)) := hcell 3 _ rfl
        have f0 := hfz (off + p * 4)
        have f1 := hfz (off + p * 4 + 1)
        have f2 := hfz (off + p * 4 + 2)
        have f3 := hfz (off + p * 4 + 3)
        have hS := hset y (hQ3.at_ y (List.mem_of_getElem? hy')) (hfoot.out y hym)
        have hms := moved_set (j := j) (k := p + 1) (by omega) hk hy
        rw [show p + 1 - 1 = p from rfl] at hms
        rw [hms] at hS
        have kS := setCells_kept g ((wishK n).c y) (off + p * (wishK n).n) w3
        have hKF := hKr3.trans kS
        have hcF : (w3.setCells g (off + p * (wishK n).n) ((wishK n).c y)).cell? ⟨cb, 0, none⟩ = some (.string id) := by
          have hsz3 := hKr3.size
          rw [kS.cell (p := ⟨cb, 0, none⟩) (by show cb < _; omega) (fun e => hcbg e)]; exact hcr3
        have hfin : Hid (∀ wx, wx = w3.setCells g (off + p * (wishK n).n) ((wishK n).c y) → KQ (wishK n) 67 wx B (.slice (some ⟨g, off, none⟩) ms.length cap) (movedL ms j (p + 1 + 1)) ∧ wx.cell? ⟨cb, 0, none⟩ = some (.string id) ∧ Kept (fun k => k = g) w wx) := fun wx e => by
          subst e
          exact ⟨hS, hcF, hKF⟩
        have g2 : (p : Int) < (ms.length : Int) := by omega
        clear hset hcell hS hms kS hKF hcF hKr hKr3 hQ2 hQ3 hbn hb3 cF hcr hcr2 hcr3 hV hV3 y0 y1 y2 y3
        go_wp2
        go_roundw
        case rel =>
          obtain ⟨r1, r2, r3⟩ := hfin.out _ rfl
          exact ⟨p + 1, by omega, by omega, by go_num, by go_num, r1, r2, r3⟩
        case measure => simp [intOf]; omega
      · have hpe : ms.length = p + 1 := by omega
        have g1 : ¬ (p : Int) + 1 < (ms.length : Int) := by omega
        obtain ⟨y, hy⟩ := moved_end hj
        rw [← hpe] at hQ
        rw [hy] at hQ
        have hlen : (ms.eraseIdx j).length = p := by rw [List.length_eraseIdx_of_lt hj]; omega
        obtain ⟨hsome, hfz, hcut⟩ := hQ.cutLast
        have hS := hcut [.string ⟨#[]⟩, .slice none 0 0, .int .i64 0, .int .i64 0] rfl
        have hcapl := (hQ.capOf).1
        rw [List.length_append, hlen] at hcapl
        rw [hlen] at hS hsome
        have hclr : ∀ ty, (Builtin.clear_ #[59] ty #[.slice (some ⟨g, off + p * 4, none⟩) 1 (cap - p)]).run Try.prog wr = .ok (.tuple #[]) (wr.setCells g (off + p * 4) [.string ⟨#[]⟩, .slice none 0 0, .int .i64 0, .int .i64 0]) := fun ty => run_clear_one wr _ _ ty _ [.string ⟨#[]⟩, .slice none 0 0, .int .i64 0, .int .i64 0] Try.underlying59 zeroWish rfl (by
          intro u hu
          simp only [List.mem_cons, List.not_mem_nil, or_false] at hu
          rcases hu with rfl | rfl | rfl | rfl <;> rfl) g (off + p * 4) (cap - p) (fun q hq => hsome q hq) (fun q _ => hfz _)
        have kS := setCells_kept g [.string ⟨#[]⟩, .slice none 0 0, .int .i64 0, .int .i64 0] (off + p * 4) wr
        have hKF := hKr.trans kS
        rw [hE] at hS hlen
        have hfin : Hid (∃ ms', .returned (.slice (some ⟨g, off, none⟩) p cap) = (Ending.returned (.slice (some ⟨g, off, none⟩) ms'.length cap)) ∧ ms' = ms.filter (fun y => !decide (y.d.id = id)) ∧ KQ (wishK n) 67 (wr.setCells g (off + p * 4) [.string ⟨#[]⟩, .slice none 0 0, .int .i64 0, .int .i64 0]) B (.slice (some ⟨g, off, none⟩) ms'.length cap) ms' ∧ Kept (fun k => (Value.slice (some ⟨g, off, none⟩) ms.length cap).ownBlock = some k) w (wr.setCells g (off + p * 4) [.string ⟨#[]⟩, .slice none 0 0, .int .i64 0, .int .i64 0])) :=
          ⟨_, by rw [hlen], rfl, by rw [hlen]; exact hS, hKF.mono (fun k _ e => by rw [show k = g from e]; rfl)⟩
        have g2 : (p : Int) ≤ (cap : Int) := by simp at hcapl; omega
        have g3 : ¬ cap = p := by simp at hcapl; omega
        have g4 : (p : Int) ≤ (ms.length : Int) := by omega
        have g5 : ms.length - p = 1 := by omega
        have g6 : (ms.length : Int) ≤ (cap : Int) := by simp at hcapl; omega
        clear hS kS hKF hKr hcut hsome hQ hE hothers hfoot hlen hcr h1
        go_wp2_with fail
        go_ret
        have hf := hfin.out
        rw [hpe] at hf
        exact hf

theorem PDk.less {w w' : World} {db n : Nat} {ao : Option Addr} {cap : Nat} {ms ms' : List WiM} {id : ByteArray} (h : PDk w db (.slice ao ms.length cap) n ms) (hm : ms' = ms.filter (fun y => !decide (y.d.id = id))) (hQ : KQ (wishK n) 67 w' (db + 1) (.slice ao ms'.length cap) ms') (hk : Kept (fun k => (Value.slice ao ms.length cap).ownBlock = some k) w w') :
    PDk (w'.setCell ⟨db, 1, none⟩ (.slice ao ms'.length cap)) db (.slice ao ms'.length cap) n ms' ∧ ms'.map (·.d) = gotL (ms.map (·.d)) id ∧ Kept (fun k => k = db ∨ (Value.slice ao ms.length cap).ownBlock = some k) w (w'.setCell ⟨db, 1, none⟩ (.slice ao ms'.length cap)) := by
  have hmem : ∀ x ∈ ms', x ∈ ms := fun x hx => by rw [hm] at hx; exact (List.mem_filter.1 hx).1
  have hg : ms'.map (·.d) = gotL (ms.map (·.d)) id := by
    rw [hm]
    unfold gotL
    rw [List.filter_map]
    rfl
  have kS := Kept.setCell w' ⟨db, 1, none⟩ (.slice ao ms'.length cap)
  refine ⟨⟨(h.box.kept hk h.ne).set 1 _, hQ.kept kS (fun k hk' e => ?_) (fun x hx b hb e => ?_), by rw [hg]; exact h.ok.got id, fun x hx => h.far x (hmem x hx)⟩, hg, (hk.mono (fun k _ e => Or.inr e)).trans (kS.mono (fun k _ e => Or.inl e))⟩
  · have := (hQ.lt k hk').1
    have e' : k = db := e
    omega
  · have := h.far x (hmem x hx) b hb
    have e' : b = db := e
    omega

set_option maxRecDepth 100000 in
set_option maxHeartbeats 2000000 in
theorem pdGot_any (id : ByteArray) {w : World} {db : Nat} {S : Nat → Prop} {n : Nat} {L : List WiD} (h : PD w db S n L) :
    Calls Try.prog 11 #[.pointer (some ⟨db, 0, none⟩), .string id] w fun e w' => e = .returned (.bool (hasL L id)) ∧ PD w' db S n (gotL L id) ∧ Kept S w w' := by
  obtain ⟨q, ms, h1, rfl, h3, h4, h5⟩ := h.ex
  have hfew : ms.length ≤ 64 := by have := h1.ok.few; rw [List.length_map] at this; exact this
  have hpw : ms.Pairwise (fun a b => a.d.id ≠ b.d.id) := by have := h1.ok.apart; rw [List.pairwise_map] at this; exact this
  rw [← gotL_less, List.length_map]
  obtain ⟨ao, cap, rfl, _, _⟩ := h1.row.form
  have c1 := h1.box.cell (i := 1) rfl
  have cF := isFor_any id w.drew
  have hbd : Below w.heap.size w w.drew := below_drewN (Below.refl _ _) 1
  have hown : Hid (∀ k, (Value.slice ao ms.length cap).ownBlock = some k → k < w.heap.size) := fun k e => (h1.row.lt k e).2
  go_enter Try.func11, Try.ntmps11
  go_wp2_with fail
  go_region_law (first
    | (go_simp; go_at_call 26; refine cF.mono ?_; rintro e wF ⟨cb, rfl, hcb, hge, hcl, hbF⟩
       have h1F := (h1.below hbd).below hbF
       have c1F := h1F.box.cell (i := 1) rfl
       have cD := deleteF_any n ao cap ms id cb (db + 1) wF h1F.row hfew hpw hcb hcl (fun e => by have := hown.out cb e; have hz : w.drew.heap.size = w.heap.size := rfl; omega))
    | (go_simp; go_at_call 29; refine cD.mono ?_; rintro e wD ⟨ms', rfl, hm0, hQ', hk'⟩
       have hm' : Hid (ms' = ms.filter (fun y => !decide (y.d.id = id))) := hm0
       clear hm0
       have hXD := h1F.box.kept hk' h1F.ne
       have c1D := hXD.cell (i := 1) rfl
       have f1D := hXD.frozen 1))
  all_goals
    obtain ⟨p1, p2, p3⟩ := h1F.less hm'.out hQ' hk'
    have c1E := p1.box.cell (i := 1) rfl
    have hbAll := hbd.trans (hbF.mono hbd.size)
    have hKS : Kept S w (wD.setCell ⟨db, 1, none⟩ (.slice ao ms'.length cap)) := (Kept.of_below hbAll).trans (p3.mono (fun k _ e => e.elim (fun e => by rw [e]; exact h3) (fun e => h4 k e)))
    have hfin : PD (wD.setCell ⟨db, 1, none⟩ (.slice ao ms'.length cap)) db S n (gotL (ms.map (·.d)) id) := ⟨⟨_, _, p1, p2, h3, fun k e => h4 k (by cases ao <;> exact e), fun x hx k e => h5 x (by rw [hm'.out] at hx; exact (List.mem_filter.1 hx).1) k e⟩, fun k e => Nat.lt_of_lt_of_le (h.lt k e) hKS.size, h.ge⟩
    have hll : Hid ((gotL (ms.map (·.d)) id).length = ms'.length) := by show _ = _; rw [← p2, List.length_map]
    have hfin' : Hid _ := hfin
    have hml : ms'.length ≤ 64 := by rw [hm'.out]; exact Nat.le_trans (List.length_filter_le _ _) hfew
    clear hfin p1 p2 p3 hQ' hk' hm' hXD c1D f1D h1F c1F cD cF hcb h1 c1 hpw h5
    generalize wD.setCell _ _ = w9 at hfin' hKS c1E ⊢
    go_wp2
    go_ret
    exact ⟨by rw [hll.out]; simp, hfin'.out, hKS⟩
end Go.Proofs.Ytblpkfnhfdkacaa
