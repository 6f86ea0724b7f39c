/- BlockMany: for every input the statement answers true, and each argument reads afterwards as it read before. Condition: the two tables of package mix read as the program's text lays them; no other. -/
import Derived.Test.YtoodapbmpbaogaaDoorBlkCheck
import Derived.Test.YtoodapbmpbaogaaDoorBlkRows
import Derived.Test.YtoodapbmpbaogaaDoorHdrRows
import Derived.Test.YtoodapbmpbaogaaDoorAuthAll
import Derived.Deep.QuietTactic
import Derived.BigQuiet
import Derived.BigRegion
import Derived.Test.YtoodapbmpbaogaaDoorKindsOpen
import Derived.Test.YtoodapbmpbaogaaDoorMixAll
import Derived.Test.YtoodapbmpbaogaaDoorCards
import Derived.Test.YtoodapbmpbaogaaDoorTie
import Derived.SevenTiedAt
/- What tusklaw08.works does; nothing old in memory is turned. -/
namespace Go.Proofs.YtoodapbmpbaogaaDoor
open Go.RowKit
set_option linter.unusedVariables false

/-- A block upon the first one. -/
def exK (v : Int) : BlkM := ⟨v, ⟨0, gen32, none, [], 0⟩, none, [], 0⟩

theorem exK_at (v : Int) (w : World) : (exK v).At w := ⟨⟨nil_row _ _, fun _ => rfl⟩, nil_row _ _, fun _ => rfl⟩

theorem exQ_chk (ks : List ByteArray) (n : Nat) : chkQ ks n ⟨0, gen32, []⟩ = 0 := by
  unfold chkQ chkF
  rw [if_neg (by simp), if_pos rfl, if_pos ⟨by simp [isGen], rfl⟩]

theorem exK_chk1 (ks : List ByteArray) (n : Nat) : chkK ks n (exK 1).d = 0 := by
  have hq : chkQ ks n (exK 1).d.qc = 0 := exQ_chk ks n
  unfold chkK
  rw [if_neg (by simp [exK, BlkM.d]), if_neg (by rw [hq]; simp), if_neg (by simp [exK, BlkM.d, QcM.d]), if_neg (by simp [exK, BlkM.d])]
  rfl

theorem exK_chk0 (ks : List ByteArray) (n : Nat) : chkK ks n (exK 0).d = 2 := by
  unfold chkK
  rw [if_pos (Or.inl (by simp [exK, BlkM.d]))]

set_option maxRecDepth 100000 in
set_option maxHeartbeats 2000000 in
theorem works8_any (w : World) (hG : Mx.Glob w) :
    Calls Tryd.prog 22 #[] w fun e w' => e = .returned (.bool true) ∧ Below w.heap.size w w' := by
  have cB := both_any 0 w hG
  have cN := fun w1 => genesis_any w1
  have hg32 : gen32.size = 32 := gen32_size
  have cC1 := fun tb n ks w1 hT n2 hk h hg => blkCheck_any tb n ks (exK 1) w1 hT n2 hk h (Nat.zero_le _) (Nat.zero_le _) hg
  have cC0 := fun tb n ks w1 hT n2 hk h hg => blkCheck_any tb n ks (exK 0) w1 hT n2 hk h (Nat.zero_le _) (Nat.zero_le _) hg
  simp only [exK_chk1] at cC1
  simp only [exK_chk0] at cC0
  have e1 := fun w => exK_at 1 w
  have e0 := fun w => exK_at 0 w
  unfold BlkM.v exK at cC1 cC0
  unfold exK at e1 e0
  simp only [List.length_nil] at cC1 cC0
  go_enter Tryd.func22, Tryd.ntmps22
  go_wp2_with fail
  refine cB.mono ?_
  rintro e w1 ⟨n, tb, rb, n2, n1, rfl, hT1, _, hB1⟩
  have hG1 := hG.below hB1
  have hk32 : ∀ k ∈ Mx.keysL seedW (3 * n + 1), k.size ≤ 32 := Mx.keysL_size _ _
  generalize Mx.keysL seedW (3 * n + 1) = ks at *
  generalize gen32 = gb at *
  clear cB hG
  go_wp2_with fail
  refine (cN _).mono ?_
  rintro e w2 ⟨rfl, hb2⟩
  have hX := Arr.new w2 27 [.int .i64 1, .int .i64 0, .string gb, .slice none 0 0, .slice none 0 0]
  have hbx := belowNew w2 (.cells #[.int .i64 1, .int .i64 0, .string gb, .slice none 0 0, .slice none 0 0] 27)
  have hb3 := hb2.trans (hbx.mono hb2.size)
  have hT3 := hT1.below hb3
  have hG3 := hG1.below hb3
  have hB3 := hB1.trans (hb3.mono hB1.size)
  have hw12 := hb2.size
  have x0 := hX.cell (i := 0) rfl
  have x1 := hX.cell (i := 1) rfl
  have x2 := hX.cell (i := 2) rfl
  have x3 := hX.cell (i := 3) rfl
  have x4 := hX.cell (i := 4) rfl
  have c1 := cC1 tb n ks _ hT3 n2 hk32 (e1 _) hG3
  clear hb2 hbx cC1 e1
  go_wp2_with fail
  refine c1.mono ?_
  rintro e w4 ⟨rfl, hb4⟩
  have hX4 := hX.below hb4 hX.lt
  have hb34 := hb3.trans (hb4.mono hb3.size)
  have hB4 := hB3.trans (hb4.mono hB3.size)
  clear c1 x0 x1 x2 x3 x4 hX hb3 hB3 hb4 hT3 hG3
  have y0 := hX4.cell (i := 0) rfl
  have f0 := hX4.frozen 0
  have hX5 := hX4.set 0 (.int .i64 0)
  have hb5 := hb34.setCell (p := ⟨w2.heap.size, 0, none⟩) hw12 (.int .i64 0)
  obtain ⟨w5, hw5⟩ : ∃ q, w4.setCell ⟨w2.heap.size, 0, none⟩ (.int .i64 0) = q := ⟨_, rfl⟩
  rw [hw5] at hX5 hb5
  replace hX5 : Arr w5 w2.heap.size 27 [.int .i64 0, .int .i64 0, .string gb, .slice none 0 0, .slice none 0 0] := hX5
  have hT5 := hT1.below hb5
  have hG5 := hG1.below hb5
  have hB5 := hB1.trans (hb5.mono hB1.size)
  have x0 := hX5.cell (i := 0) rfl
  have x1 := hX5.cell (i := 1) rfl
  have x2 := hX5.cell (i := 2) rfl
  have x3 := hX5.cell (i := 3) rfl
  have x4 := hX5.cell (i := 4) rfl
  have c0 := cC0 tb n ks _ hT5 n2 hk32 (e0 _) hG5
  clear hX4 hb34 hB4 hT1 hG1 cC0 e0
  go_wp2_with fail
  refine c0.mono ?_
  rintro e w6 ⟨rfl, hb6⟩
  have hB6 := hB5.trans (hb6.mono hB5.size)
  clear c0 x0 x1 x2 x3 x4 hX5 hb5 hT5 hG5 hB5 hb6 y0 f0 hw5
  have hg32' : (gb.size : Int) = 32 := by omega
  go_wp2_with fail
  refine (cN _).mono ?_
  rintro e w7 ⟨rfl, hb7⟩
  have hB7 := hB6.trans (hb7.mono hB6.size)
  clear cN hB6 hb7
  go_wp2
  go_ret
  exact ⟨rfl, hB7⟩
end Go.Proofs.YtoodapbmpbaogaaDoor

/- The mathematics of BlockMany: marks of different ids are different; one of them twice is told. -/
namespace Go.Proofs.YtoodapbmpbaogaaDoor
open Go.RowKit
set_option linter.unusedVariables false

/-- An id: a byte, and zeros. -/
def dig (i : Nat) : ByteArray := ⟨(UInt8.ofNat i :: List.replicate 31 0).toArray⟩

theorem dig_size (i : Nat) : (dig i).size = 32 := by simp [dig, ByteArray.size]

theorem dig_inj {i j : Nat} (hi : i < 256) (hj : j < 256) (h : dig i = dig j) : i = j := by
  have h1 : (dig i).data.toList = (dig j).data.toList := by rw [h]
  have h2 : UInt8.ofNat i = UInt8.ofNat j := (List.cons.inj h1).1
  have h3 : (UInt8.ofNat i).toNat = (UInt8.ofNat j).toNat := by rw [h2]
  rw [ofNat_toNat8, ofNat_toNat8] at h3
  omega

/-- The marks that BlockMany makes. -/
def ManyL (l : List ByteArray) : Prop := ∀ j m, l[j]? = some m → ∃ r : Int, 1 ≤ r ∧ r ≤ 1000 ∧ m = markB r (dig j)

theorem many_nil : ManyL [] := fun j m h => by simp at h

theorem ManyL.push {l : List ByteArray} (h : ManyL l) {r : Int} (h1 : 1 ≤ r) (h2 : r ≤ 1000) : ManyL (l ++ [markB r (dig l.length)]) := by
  intro j m hm
  by_cases hj : j < l.length
  · rw [List.getElem?_append_left hj] at hm
    exact h j m hm
  · rw [List.getElem?_append_right (by omega)] at hm
    have hj0 : j - l.length = 0 := by
      by_cases h0 : j - l.length = 0
      · exact h0
      · rw [List.getElem?_eq_none (by simp; omega)] at hm
        cases hm
    rw [hj0] at hm
    simp at hm
    have : j = l.length := by omega
    subst this
    exact ⟨r, h1, h2, hm.symm⟩

theorem many_ok {r : Int} {j : Nat} (h1 : 1 ≤ r) (h2 : r ≤ 1000) : ¬ (r < 1 ∨ 4611686018427387903 < r ∨ (dig j).size ≠ 32) := by
  rw [dig_size]
  omega

theorem ManyL.marks {l : List ByteArray} (h : ManyL l) : ∀ m ∈ l, isMark m := by
  intro m hm
  obtain ⟨j, hj⟩ := List.getElem?_of_mem hm
  obtain ⟨r, h1, h2, rfl⟩ := h j m hj
  exact mark_is (many_ok h1 h2)

theorem ManyL.apart {l : List ByteArray} (h : ManyL l) (hl : l.length ≤ 12) {i j : Nat} {m : ByteArray} (hi : l[i]? = some m) (hj : l[j]? = some m) : i = j := by
  obtain ⟨r, h1, h2, e⟩ := h i m hi
  obtain ⟨q, k1, k2, e'⟩ := h j m hj
  have a := mark_id (many_ok (j := i) h1 h2)
  have b := mark_id (many_ok (j := j) k1 k2)
  rw [← e] at a
  rw [← e'] at b
  have hi' := (List.getElem?_eq_some_iff.1 hi).1
  have hj' := (List.getElem?_eq_some_iff.1 hj).1
  exact dig_inj (by omega) (by omega) (a.symm.trans b)

theorem hasB_false {l : List ByteArray} {m : ByteArray} (h : m ∉ l) : hasB l m = false := by
  cases hh : hasB l m with
  | false => rfl
  | true => exact absurd (hasB_iff.1 hh) h

/-- Marks, all different: nothing is wrong with the first k of them. -/
theorem ManyL.fine {l : List ByteArray} (h : ManyL l) (hl : l.length ≤ 12) (rest : List ByteArray) : ∀ k, k ≤ l.length → certsP [] (l ++ rest) = certsP (l.take k) (l.drop k ++ rest) := by
  intro k
  induction k with
  | zero => intro _; simp
  | succ k ih =>
    intro hk
    rw [ih (by omega)]
    obtain ⟨m, hm⟩ : ∃ m, l[k]? = some m := ⟨l[k], List.getElem?_eq_getElem (by omega)⟩
    have e : l.drop k ++ rest = m :: (l.drop (k + 1) ++ rest) := by
      obtain ⟨h', rfl⟩ := List.getElem?_eq_some_iff.1 hm
      rw [List.drop_eq_getElem_cons h']
      rfl
    have e2 : l.take k ++ [m] = l.take (k + 1) := by
      obtain ⟨h', rfl⟩ := List.getElem?_eq_some_iff.1 hm
      exact List.take_append_getElem h'
    have hn : m ∉ l.take k := by
      intro hmem
      obtain ⟨j, hj⟩ := List.getElem?_of_mem hmem
      rw [List.getElem?_take] at hj
      split at hj
      · rename_i hjk
        have := h.apart hl hj hm
        omega
      · cases hj
    rw [e, certsP, if_neg (fun hh => hh (h.marks m (List.mem_of_getElem? hm))), if_neg (by rw [hasB_false hn]; decide), e2]

theorem ManyL.zero {l : List ByteArray} (h : ManyL l) (hl : l.length ≤ 12) : certsP [] l = 0 := by
  have := h.fine hl [] l.length (Nat.le_refl _)
  rw [List.append_nil, List.drop_length, List.append_nil] at this
  rw [this]
  rfl

theorem ManyL.twice {l : List ByteArray} (h : ManyL l) (hl : l.length ≤ 12) {m : ByteArray} (hm : m ∈ l) : certsP [] (l ++ [m]) = 13 := by
  have := h.fine hl [m] l.length (Nat.le_refl _)
  rw [List.drop_length, List.nil_append, List.take_length] at this
  rw [this, certsP, if_neg (fun hh => hh (h.marks m hm)), if_pos (hasB_iff.2 hm)]

/-- What is wrong with a block of the view 1 upon the first one. -/
theorem many_chk (ks : List ByteArray) (n : Nat) (l : List ByteArray) : chkK ks n ⟨1, ⟨0, gen32, []⟩, l⟩ = if 8 < l.length then 8 else certsP [] l := by
  have hq : chkQ ks n ⟨0, gen32, []⟩ = 0 := by
    unfold chkQ chkF
    rw [if_neg (by simp), if_pos rfl, if_pos ⟨by simp [isGen], rfl⟩]
  unfold chkK
  rw [if_neg (by simp)]
  simp only [hq]
  rw [if_neg (by simp), if_neg (by simp)]
end Go.Proofs.YtoodapbmpbaogaaDoor

/- What tusklaw08.OwnQc and tusklaw08.Own do: what shares nothing; nothing old in memory is turned. -/
namespace Go.Proofs.YtoodapbmpbaogaaDoor
open Go.RowKit
set_option linter.unusedVariables false

theorem own_empty (w : World) (T : TypeId) (n : Nat) : (w.alloc (.cells #[] T)).ownsRow w.heap.size T n (.slice (some ⟨w.heap.size, 0, none⟩) 0 0) 0 [] := World.ownsRow_made w #[] 0 (Nat.le_refl _) (by unfold maxLen; omega) (by simp)

theorem infoStr8 : (Tryd.prog.info? 9).map (fun i => (i.zero, i.size, i.bytes)) = some (some (.string ⟨#[]⟩), 1, 16) := by kernel_rfl

theorem results_qcO {fn : Func} {p : Tmp} (h : fn.results = #[.cell p 24]) (tmps : Array Value) (w : World) (g : Nat) (x : QcM)
    (hp : tmps.getD p undef = .pointer (some ⟨g, 0, none⟩)) (hg : Arr w g 24 x.c) :
    (results fn tmps).run Tryd.prog w = .ok x.v w :=
  results_cell_row h tmps w g 24 x.c.toArray (0, 0) _ hp hg Tryd.underlying24 rfl infoQc8

theorem results_blkO {fn : Func} {p : Tmp} (h : fn.results = #[.cell p 27]) (tmps : Array Value) (w : World) (g : Nat) (x : BlkM)
    (hp : tmps.getD p undef = .pointer (some ⟨g, 0, none⟩)) (hg : Arr w g 27 x.c) :
    (results fn tmps).run Tryd.prog w = .ok x.v w :=
  results_cell_row h tmps w g 27 x.c.toArray (0, 0) _ hp hg Tryd.underlying27 rfl infoBlk8

/-- A Qc that shares nothing is handed back. -/
def GotOwnQ (W : World) (x : QcM) (e : Ending) (w : World) : Prop :=
  ∃ y : QcM, e = .returned y.v ∧ y.d = x.d ∧ y.At w ∧ (∀ b, y.foot b → W.heap.size ≤ b) ∧ Below W.heap.size W w

/-- A block that shares nothing is handed back. -/
def GotOwnB (W : World) (x : BlkM) (e : Ending) (w : World) : Prop :=
  ∃ y : BlkM, e = .returned y.v ∧ y.d = x.d ∧ y.At w ∧ (∀ b, y.foot b → W.heap.size ≤ b) ∧ Below W.heap.size W w

set_option maxRecDepth 100000 in
set_option maxHeartbeats 2000000 in
theorem ownQc_any (x : QcM) (w : World) (hA : x.At w) (hv : x.votes.length * 24 ≤ 140737488351232) :
    Calls Tryd.prog 25 #[x.v] w fun e w' => GotOwnQ w x e w' := by
  obtain ⟨v, b, va, l, vc⟩ := x
  obtain ⟨hX, hZ, hB⟩ := two_new w 24 24 [.int .i64 v, .string b, .slice va l.length vc] [.int .i64 0, .string ⟨#[]⟩, .slice none 0 0]
  obtain ⟨i1, hi, hz0, hz1, hz2⟩ := info_parts infoTag6
  have hA1 : RowAt tagK _ va l := (hA.below hB).votes
  have hnv : va = none → vc = 0 := hA.nv
  have hl : l.length * 24 ≤ 140737488351232 := hv
  obtain ⟨w1, hw1⟩ : ∃ q, (w.alloc (.cells [.int .i64 v, .string b, .slice va l.length vc].toArray 24)).alloc (.cells [.int .i64 0, .string ⟨#[]⟩, .slice none 0 0].toArray 24) = q := ⟨_, rfl⟩
  have hs1 : w.heap.size + 2 ≤ w1.heap.size := by rw [← hw1, alloc_size, alloc_size]; omega
  rw [hw1] at hX hZ hB hA1
  have hbe := belowNew w1 (.cells #[] 54)
  have hoE := own_empty w1 54 tagK.n
  have hX2 := hX.below hbe hX.lt
  have hA2 := hA1.below hbe
  have hbs := hbe.size
  have x2 := hX2.cell (i := 2) rfl
  have n1 : l.length ≤ maxLen := by unfold maxLen; omega
  have n2 : l.length * 24 ≤ 140737488355328 := by omega
  unfold QcM.v
  simp only
  clear hA hv
  go_enter Tryd.func25, Tryd.ntmps25
  go_wp2_with (at_builtin; refine wpList_copy (K := tagK) rfl _ _ 22 rfl w1.heap.size 54 i1 _ 24 Tryd.underlying22 hi hz0 hz1 hz2 rfl _ rfl hoE va vc l rfl hA2 (fun _ _ _ h => h.elim) hnv n1 n2 hbs ?_)
  intro ao3 cap3 w3 hR3 hn3 hf3 hb3
  have hB3 : Below w1.heap.size w1 w3 := hbe.trans hb3
  have hX3 := hX.below hB3 hX.lt
  have hZ3 := hZ.below hB3 hZ.lt
  have hBw3 := hB.trans (hB3.mono hB.size)
  have hfl : ∀ g, rowFoot tagK ao3 l g → w1.heap.size ≤ g := fun g hg => by
    rcases hg with ⟨hne, off, e⟩ | ⟨_, _, h⟩
    · exact hf3 hne g off e
    · exact h.elim
  have x2 := hX3.cell (i := 2) rfl
  have f2 := hX3.frozen 2
  have hX4 := hX3.set 2 (.slice ao3 l.length cap3)
  have hZ4 := hZ3.other (p := ⟨w.heap.size, 2, none⟩) (by show w.heap.size + 1 ≠ w.heap.size; omega) (.slice ao3 l.length cap3)
  have hR4 := hR3.kept (Kept.setCell w3 ⟨w.heap.size, 2, none⟩ (.slice ao3 l.length cap3)) (fun g hg e => by have := hfl g hg; have e' : g = w.heap.size := e; omega)
  have hB4 := hBw3.setCell (p := ⟨w.heap.size, 2, none⟩) (Nat.le_refl _) (.slice ao3 l.length cap3)
  obtain ⟨w4, hw4⟩ : ∃ q, w3.setCell ⟨w.heap.size, 2, none⟩ (.slice ao3 l.length cap3) = q := ⟨_, rfl⟩
  rw [hw4] at hX4 hZ4 hR4 hB4
  replace hX4 : Arr w4 w.heap.size 24 [.int .i64 v, .string b, .slice ao3 l.length cap3] := hX4
  have y0 := hX4.cell (i := 0) rfl
  have y1 := hX4.cell (i := 1) rfl
  have y2 := hX4.cell (i := 2) rfl
  have z0 := hZ4.cell (i := 0) rfl
  have z1 := hZ4.cell (i := 1) rfl
  have z2 := hZ4.cell (i := 2) rfl
  have g0 := hZ4.frozen 0
  have g1 := hZ4.frozen 1
  have g2 := hZ4.frozen 2
  have hZF := hZ4.set3 (.int .i64 v) (.string b) (.slice ao3 l.length cap3)
  have kF := kept_set3 w4 (w.heap.size + 1) (.int .i64 v) (.string b) (.slice ao3 l.length cap3)
  have hRF := hR4.kept kF (fun g hg e => by have := hfl g hg; have e' : g = w.heap.size + 1 := e; omega)
  have hBF := below_set3 hB4 (g := w.heap.size + 1) (Nat.le_succ _) (.int .i64 v) (.string b) (.slice ao3 l.length cap3)
  have fin : ∀ e, e = .returned (QcM.v ⟨v, b, ao3, l, cap3⟩) → GotOwnQ w ⟨v, b, va, l, vc⟩ e _ := fun e he => ⟨⟨v, b, ao3, l, cap3⟩, he, rfl, ⟨hRF, hn3⟩, (fun g hg => by have := hfl g hg; omega), hBF⟩
  unfold set3 at hZF fin
  clear hX hZ hB hA1 hbe hoE hX2 hA2 hR3 hb3 hB3 hX3 hZ3 hBw3 hfl hX4 hZ4 hR4 hB4 kF hRF hBF hf3 hw1
  go_wp2
  refine bodyPost_ret (v := QcM.v ⟨v, b, ao3, l, cap3⟩) (results_qcO rfl _ _ (w.heap.size + 1) ⟨v, b, ao3, l, cap3⟩ rfl hZF) rfl ?_
  exact fin _ rfl

set_option maxRecDepth 100000 in
set_option maxHeartbeats 2000000 in
theorem ownBlk_any (x : BlkM) (w : World) (hA : x.At w) (hv : x.qc.votes.length * 24 ≤ 140737488351232) (hc : x.certs.length * 16 ≤ 140737488351232) :
    Calls Tryd.prog 10 #[x.v] w fun e w' => GotOwnB w x e w' := by
  obtain ⟨v, q, ca, l, cc⟩ := x
  obtain ⟨hX, hZ, hB⟩ := two_new w 27 27 [.int .i64 v, .int .i64 q.view, .string q.block, .slice q.va q.votes.length q.vc, .slice ca l.length cc] [.int .i64 0, .int .i64 0, .string ⟨#[]⟩, .slice none 0 0, .slice none 0 0]
  obtain ⟨i1, hi, hz0, hz1, hz2⟩ := info_parts infoStr8
  have hA1 := hA.below hB
  have hq1 : q.At _ := hA1.qc
  have hc1 : RowAt strK _ ca l := hA1.certs
  have hnc : ca = none → cc = 0 := hA.nc
  have hcl : ∀ g, rowFoot strK ca l g → g < w.heap.size := fun g hg => hA.certs.lt hg
  have hl : l.length * 16 ≤ 140737488351232 := hc
  have cQ := ownQc_any q _ hq1 hv
  unfold QcM.v at cQ
  obtain ⟨w1, hw1⟩ : ∃ q', (w.alloc (.cells [.int .i64 v, .int .i64 q.view, .string q.block, .slice q.va q.votes.length q.vc, .slice ca l.length cc].toArray 27)).alloc (.cells [.int .i64 0, .int .i64 0, .string ⟨#[]⟩, .slice none 0 0, .slice none 0 0].toArray 27) = q' := ⟨_, rfl⟩
  have hs1 : w.heap.size + 2 ≤ w1.heap.size := by rw [← hw1, alloc_size, alloc_size]; omega
  rw [hw1] at hX hZ hB hA1 hq1 hc1 cQ
  have n1 : l.length ≤ maxLen := by unfold maxLen; omega
  have n2 : l.length * 16 ≤ 140737488355328 := by omega
  have x1 := hX.cell (i := 1) rfl
  have x2 := hX.cell (i := 2) rfl
  have x3 := hX.cell (i := 3) rfl
  unfold BlkM.v
  simp only
  clear hA hv hc hA1 hq1
  go_enter Tryd.func10, Tryd.ntmps10
  go_wp2_with fail
  refine cQ.mono ?_
  rintro e w2 ⟨y, rfl, hyd, hy, hyf, hb2⟩
  unfold QcM.v
  have hX2 := hX.below hb2 hX.lt
  have hZ2 := hZ.below hb2 hZ.lt
  have hc2 := hc1.below hb2
  have hB2 := hB.trans (hb2.mono hB.size)
  have hs2 := hb2.size
  have hyl : ∀ g, y.foot g → w.heap.size + 2 ≤ g := fun g hg => by have := hyf g hg; omega
  clear cQ hX hZ hc1 hB hb2 x1 x2 x3 hyf hw1
  have x1 := hX2.cell (i := 1) rfl
  have x2 := hX2.cell (i := 2) rfl
  have x3 := hX2.cell (i := 3) rfl
  have x4 := hX2.cell (i := 4) rfl
  have f1 := hX2.frozen 1
  have f2 := hX2.frozen 2
  have f3 := hX2.frozen 3
  have hX3 := ((hX2.set 1 (.int .i64 y.view)).set 2 (.string y.block)).set 3 (.slice y.va y.votes.length y.vc)
  have k3 := (((Kept.refl (fun k => k = w.heap.size) w2).set (p := ⟨w.heap.size, 1, none⟩) rfl (.int .i64 y.view)).set (p := ⟨w.heap.size, 2, none⟩) rfl (.string y.block)).set (p := ⟨w.heap.size, 3, none⟩) rfl (.slice y.va y.votes.length y.vc)
  have hZ3 := hZ2.kept k3 (by omega)
  have hc3 := hc2.kept k3 (fun g hg e => by have := hcl g hg; have e' : g = w.heap.size := e; omega)
  have hy3 := Kind.kept qcK hy k3 (fun g hg e => by have := hyl g hg; have e' : g = w.heap.size := e; omega)
  have hB3 := ((hB2.setCell (p := ⟨w.heap.size, 1, none⟩) (Nat.le_refl _) (.int .i64 y.view)).setCell (p := ⟨w.heap.size, 2, none⟩) (Nat.le_refl _) (.string y.block)).setCell (p := ⟨w.heap.size, 3, none⟩) (Nat.le_refl _) (.slice y.va y.votes.length y.vc)
  have hs3 := k3.size
  obtain ⟨w3, hw3⟩ : ∃ q', ((w2.setCell ⟨w.heap.size, 1, none⟩ (.int .i64 y.view)).setCell ⟨w.heap.size, 2, none⟩ (.string y.block)).setCell ⟨w.heap.size, 3, none⟩ (.slice y.va y.votes.length y.vc) = q' := ⟨_, rfl⟩
  rw [hw3] at hX3 hZ3 hc3 hy3 hB3 hs3
  replace hX3 : Arr w3 w.heap.size 27 [.int .i64 v, .int .i64 y.view, .string y.block, .slice y.va y.votes.length y.vc, .slice ca l.length cc] := hX3
  have hbe := belowNew w3 (.cells #[] 9)
  have hoE := own_empty w3 9 strK.n
  have hX4 := hX3.below hbe hX3.lt
  have hc4 := hc3.below hbe
  have hbs := hbe.size
  have q4 := hX4.cell (i := 4) rfl
  clear hX2 hZ2 hc2 hB2 k3 hy
  go_wp2_with (at_builtin; refine wpList_copy (K := strK) rfl _ _ 25 rfl w3.heap.size 9 i1 _ 16 Tryd.underlying25 hi hz0 hz1 hz2 rfl _ rfl hoE ca cc l rfl hc4 (fun _ _ _ h => h.elim) hnc n1 n2 hbs ?_)
  intro ao5 cap5 w5 hR5 hn5 hf5 hb5
  clear x1 x2 x3 x4 f1 f2 f3 q4
  have hB5 : Below w3.heap.size w3 w5 := hbe.trans hb5
  have hX5 := hX3.below hB5 hX3.lt
  have hZ5 := hZ3.below hB5 hZ3.lt
  have hy5 := hy3.below hB5
  have hBw5 := hB3.trans (hB5.mono hB3.size)
  have hfl : ∀ g, rowFoot strK ao5 l g → w.heap.size + 2 ≤ g := fun g hg => by
    rcases hg with ⟨hne, off, e⟩ | ⟨_, _, h⟩
    · have := hf5 hne g off e
      omega
    · exact h.elim
  have x4 := hX5.cell (i := 4) rfl
  have f4 := hX5.frozen 4
  have hX6 := hX5.set 4 (.slice ao5 l.length cap5)
  have hZ6 := hZ5.other (p := ⟨w.heap.size, 4, none⟩) (by show w.heap.size + 1 ≠ w.heap.size; omega) (.slice ao5 l.length cap5)
  have k6 := Kept.setCell w5 ⟨w.heap.size, 4, none⟩ (.slice ao5 l.length cap5)
  have hR6 := hR5.kept k6 (fun g hg e => by have := hfl g hg; have e' : g = w.heap.size := e; omega)
  have hy6 := Kind.kept qcK hy5 k6 (fun g hg e => by have := hyl g hg; have e' : g = w.heap.size := e; omega)
  have hB6 := hBw5.setCell (p := ⟨w.heap.size, 4, none⟩) (Nat.le_refl _) (.slice ao5 l.length cap5)
  obtain ⟨w6, hw6⟩ : ∃ q', w5.setCell ⟨w.heap.size, 4, none⟩ (.slice ao5 l.length cap5) = q' := ⟨_, rfl⟩
  rw [hw6] at hX6 hZ6 hR6 hy6 hB6
  replace hX6 : Arr w6 w.heap.size 27 [.int .i64 v, .int .i64 y.view, .string y.block, .slice y.va y.votes.length y.vc, .slice ao5 l.length cap5] := hX6
  have y0 := hX6.cell (i := 0) rfl
  have y1 := hX6.cell (i := 1) rfl
  have y2 := hX6.cell (i := 2) rfl
  have y3 := hX6.cell (i := 3) rfl
  have y4 := hX6.cell (i := 4) rfl
  have z0 := hZ6.cell (i := 0) rfl
  have z1 := hZ6.cell (i := 1) rfl
  have z2 := hZ6.cell (i := 2) rfl
  have z3 := hZ6.cell (i := 3) rfl
  have z4 := hZ6.cell (i := 4) rfl
  have g0 := hZ6.frozen 0
  have g1 := hZ6.frozen 1
  have g2 := hZ6.frozen 2
  have g3 := hZ6.frozen 3
  have g4 := hZ6.frozen 4
  have hZF := hZ6.set5 (.int .i64 v) (.int .i64 y.view) (.string y.block) (.slice y.va y.votes.length y.vc) (.slice ao5 l.length cap5)
  have kF := kept_set5 w6 (w.heap.size + 1) (.int .i64 v) (.int .i64 y.view) (.string y.block) (.slice y.va y.votes.length y.vc) (.slice ao5 l.length cap5)
  have hRF := hR6.kept kF (fun g hg e => by have := hfl g hg; have e' : g = w.heap.size + 1 := e; omega)
  have hyF := Kind.kept qcK hy6 kF (fun g hg e => by have := hyl g hg; have e' : g = w.heap.size + 1 := e; omega)
  have hBF := below_set5 hB6 (g := w.heap.size + 1) (Nat.le_succ _) (.int .i64 v) (.int .i64 y.view) (.string y.block) (.slice y.va y.votes.length y.vc) (.slice ao5 l.length cap5)
  have fin : ∀ e, e = .returned (BlkM.v ⟨v, y, ao5, l, cap5⟩) → GotOwnB w ⟨v, q, ca, l, cc⟩ e _ := fun e he => ⟨⟨v, y, ao5, l, cap5⟩, he, (by show (⟨v, y.d, l⟩ : BlkD) = ⟨v, q.d, l⟩; rw [hyd]), ⟨hyF, hRF, hn5⟩, (fun g hg => hg.elim (fun h => by have := hyl g h; omega) (fun h => by have := hfl g h; omega)), hBF⟩
  unfold set5 at hZF fin
  clear hX3 hZ3 hc3 hy3 hB3 hbe hoE hX4 hc4 hR5 hb5 hB5 hX5 hZ5 hy5 hBw5 hfl hX6 hZ6 hR6 hy6 hB6 kF hRF hyF hBF hf5 k6 hw3
  go_wp2
  refine bodyPost_ret (v := BlkM.v ⟨v, y, ao5, l, cap5⟩) (results_blkO rfl _ _ (w.heap.size + 1) ⟨v, y, ao5, l, cap5⟩ rfl hZF) rfl ?_
  exact fin _ rfl
end Go.Proofs.YtoodapbmpbaogaaDoor

/- Rows of numbers; a number that is picked out of so many. -/
namespace Go.Proofs.YtoodapbmpbaogaaDoor
open Go.RowKit
set_option linter.unusedVariables false

/-- Numbers. -/
def intK : Kind Int where
  n := 1
  c v := [.int .i64 v]
  foot _ _ := False
  At _ _ := True
  pos := by decide
  len _ := rfl
  one x u hu := by
    simp only [List.mem_cons, List.not_mem_nil, or_false] at hu
    rcases hu with rfl; rfl
  lt _ h := h.elim
  keep _ _ := trivial

theorem RowAt.int {w : World} {ao : Option Addr} {l : List Int} (h : RowAt intK w ao l) {i : Nat} {v : Int} (hv : l[i]? = some v) :
    ∃ b off, ao = some ⟨b, off, none⟩ ∧ b < w.heap.size ∧ w.cell? ⟨b, off + i, none⟩ = some (.int .i64 v) := by
  obtain ⟨b, off, h1, h2, h3⟩ := h.cell i v hv
  refine ⟨b, off, h1, h2, ?_⟩
  have := h3 0 _ rfl
  have e : off + i * intK.n + 0 = off + i := by show off + i * 1 + 0 = _; omega
  rw [e] at this
  exact this

theorem pick_atC (f : Int) (k : Nat) (hk : 0 < k) (hk2 : k < 9223372036854775808) : ∃ j : Nat, j < k ∧ wrap64 ((IntKind.u64.wrap f).tmod (k : Int)) = (j : Int) := by
  obtain ⟨h0, h1⟩ := Mx.u64_range f
  rw [Int.tmod_eq_emod_of_nonneg h0]
  generalize IntKind.u64.wrap f = m at h0 h1
  have hlt := Int.emod_lt_of_pos m (show (0 : Int) < (k : Int) by omega)
  have hge := Int.emod_nonneg m (show (k : Int) ≠ 0 by omega)
  refine ⟨(m % (k : Int)).toNat, by omega, ?_⟩
  rw [Mx.wrap64_small _ hge (by omega)]
  omega
end Go.Proofs.YtoodapbmpbaogaaDoor

/- tusklaw08.BlockMany answers true; nothing old in memory is turned. -/
namespace Go.Proofs.YtoodapbmpbaogaaDoor
open Go.RowKit Go.Sort
set_option linter.unusedVariables false

/-- Thirty-two bytes in memory, the first of which is i. -/
def digC (i : Nat) : List Value := .int .u8 (i : Int) :: List.replicate 31 (.int .u8 0)

theorem wrap_i64 (x : Int) : IntKind.i64.wrap x = wrap64 x := by
  simp [IntKind.wrap, IntKind.bits, IntKind.signed, wrap64]
  omega

theorem new_strK (w : World) (m : ByteArray) : ∀ j u, (strK.c m)[j]? = some u → (w.alloc (.cells #[.string m] 9)).cell? ((⟨w.heap.size, 0, none⟩ : Addr).add j) = some u := by
  intro j u hu
  rw [Go.WideShapes.add_plain, Nat.zero_add]
  exact (Arr.new w 9 [.string m]).cell hu

theorem digC_get {i : Nat} (hi : i < 256) (j : Nat) (hj : j < (dig i).data.toList.length) : (digC i)[j]? = some (.int .u8 ((dig i).data.toList[j].toNat : Int)) := by
  have e : (dig i).data.toList = UInt8.ofNat i :: List.replicate 31 0 := rfl
  simp only [e] at hj ⊢
  match j, hj with
  | 0, _ =>
    show some (Value.int .u8 (i : Int)) = some (.int .u8 ((UInt8.ofNat i).toNat : Int))
    rw [ofNat_toNat8, Nat.mod_eq_of_lt hi]
  | j + 1, hj =>
    have hj2 : j + 1 < 32 := by simpa using hj
    have hj' : j < 31 := by omega
    show (List.replicate 31 (Value.int .u8 0))[j]? = some (.int .u8 ((List.replicate 31 (0 : UInt8))[j].toNat : Int))
    rw [List.getElem?_replicate, if_pos hj', List.getElem_replicate]
    rfl

set_option maxRecDepth 100000 in
set_option maxHeartbeats 4000000 in
theorem blockMany_walk (f n : Int) (ra : Option Addr) (rc : Nat) (rounds : List Int) (twice : Int) (w : World) (h0 : (Lit.int .i64 f).wf = true) (h1 : (Lit.int .i64 n).wf = true) (hR : RowAt intK w ra rounds) (hRm : rounds.length ≤ maxLen) (h3 : (Lit.int .i64 twice).wf = true) (hG : Mx.Glob w) :
    Calls Tryd.prog 6 #[.int .i64 f, .int .i64 n, .slice ra rounds.length rc, .int .i64 twice] w fun e w' => e = .returned (.bool true) ∧ Below w.heap.size w w' := by
  have cW := works8_any w hG
  obtain ⟨N, hN, hNe⟩ := pick_atC n 12 (by omega) (by omega)
  obtain ⟨i0, hi, hz0, hz1, hz2⟩ := info_parts infoStr8
  have cN := fun w1 => genesis_any w1
  go_enter Tryd.func6, Tryd.ntmps6
  go_wp2_with fail
  refine cW.mono ?_
  rintro e w1 ⟨rfl, hB1⟩
  clear cW
  have cB := both_any f w1 (hG.below hB1)
  go_wp2_with fail
  refine cB.mono ?_
  rintro e w2 ⟨nn, tb, rb, n2, n1, rfl, hT2, _, hb2⟩
  have hB2 := hB1.trans (hb2.mono hB1.size)
  have hG2 := hG.below hB2
  have hk32 : ∀ k ∈ Mx.keysL seedW (3 * nn + 1), k.size ≤ 32 := Mx.keysL_size _ _
  generalize Mx.keysL seedW (3 * nn + 1) = ks at *
  clear cB hb2 hB1
  have hNe' : wrap64 ((IntKind.u64.wrap n).tmod 12) = (N : Int) := hNe
  clear hNe
  go_wp2_with fail
  simp only [hNe']
  refine (cN _).mono ?_
  rintro e w3 ⟨rfl, hb3⟩
  clear hNe' h1
  have hX := Arr.new w3 27 [.int .i64 1, .int .i64 0, .string gen32, .slice none 0 0, .slice none 0 0]
  have hbx := belowNew w3 (.cells #[.int .i64 1, .int .i64 0, .string gen32, .slice none 0 0, .slice none 0 0] 27)
  have hb4 := hb3.trans (hbx.mono hb3.size)
  have hq0 := KQ.empty strK 9 (w3.alloc (.cells #[.int .i64 1, .int .i64 0, .string gen32, .slice none 0 0, .slice none 0 0] 27)) (w3.heap.size + 1)
  have hs23 := hb3.size
  obtain ⟨gb, hgb⟩ : ∃ q, q = gen32 := ⟨_, rfl⟩
  rw [← hgb] at hX hb4 hq0 ⊢
  have HG : Hid (gb = gen32) := hgb
  clear hb3 hbx cN hgb
  have hmany0 := many_nil
  go_wp2_with fail
  generalize w3.heap.size = bb at *
  go_loopw [13, 14, 15] (fun v13 _ _ wr => ∃ (i : Nat) (l : List ByteArray) (ca : Option Addr) (cc : Nat), i ≤ N ∧ v13 = .int .i64 (i : Int) ∧ l.length = i ∧ ManyL l ∧ Arr wr bb 27 [.int .i64 1, .int .i64 0, .string gb, .slice none 0 0, .slice ca l.length cc] ∧ KQ strK 9 wr (bb + 1) (.slice ca l.length cc) l ∧ Below w2.heap.size w2 wr) (fun v _ _ _ => N - (intOf v).toNat)
  case atStart => exact ⟨0, [], none, 0, Nat.zero_le _, rfl, rfl, many_nil, hX, hq0, hb4⟩
  case round =>
    clear hX hq0 hb4 hmany0
    obtain ⟨_, l, ca, cc, hiN, rfl, rfl, hM, hX, hQ, hB⟩ := hrel
    by_cases hlt : l.length < N
    · have hms : ∀ w : World, (Instr.makeSlice 62 (.int .i64 32) (.int .i64 32)).run Tryd.prog w = .ok (.slice (some ⟨w.heap.size, 0, none⟩) 32 32) (w.alloc (.cells (digC 0).toArray 5)) := fun _ => by kernel_rfl
      have hD := Arr.new wr 5 (digC 0)
      have hbd := belowNew wr (.cells (digC 0).toArray 5)
      have hX1 := hX.below hbd hX.lt
      have hQ1 := hQ.below hbd
      have hB1 := hB.trans (hbd.mono hB.size)
      have d0 := hD.cell (i := 0) (v := .int .u8 0) rfl
      have fd := hD.frozen 0
      have hD2 := hD.set 0 (.int .u8 (l.length : Int))
      have hwd : wr.heap.size ≠ bb := by have := hX.lt; omega
      have hX2 := hX1.other (p := ⟨wr.heap.size, 0, none⟩) (by show bb ≠ wr.heap.size; omega) (.int .u8 (l.length : Int))
      have hk2 := Kept.setCell (wr.alloc (.cells (digC 0).toArray 5)) ⟨wr.heap.size, 0, none⟩ (.int .u8 (l.length : Int))
      have hQ2 := hQ1.kept hk2 (fun k hk e => by have := (hQ.lt k hk).2; have e' : k = wr.heap.size := e; omega) (fun _ _ _ h => h.elim)
      have hB2' := hB1.setCell (p := ⟨wr.heap.size, 0, none⟩) (by have := hB.size; exact this) (.int .u8 (l.length : Int))
      obtain ⟨wd, hwd2⟩ : ∃ q, (wr.alloc (.cells (digC 0).toArray 5)).setCell ⟨wr.heap.size, 0, none⟩ (.int .u8 (l.length : Int)) = q := ⟨_, rfl⟩
      rw [hwd2] at hD2 hX2 hQ2 hB2'
      replace hD2 : Arr wd wr.heap.size 5 (digC l.length) := hD2
      have hcv : (convert 62 9 (.slice (some ⟨wr.heap.size, 0, none⟩) 32 32)).run Tryd.prog wd.drew = .ok (.string (dig l.length)) wd.drew := by
        refine run_convert_bytes_back (P := Tryd.prog) _ 62 9 5 ⟨wr.heap.size, 0, none⟩ 32 (dig l.length).data.toList Tryd.underlying62 Tryd.underlying5 Tryd.underlying9 (fun j hj => ?_)
        rw [Go.WideShapes.add_plain, Nat.zero_add]
        exact hD2.drew.cell (digC_get (by omega) j hj)
      have hu8 : IntKind.u8.wrap (l.length : Int) = (l.length : Int) := by
        simp [IntKind.wrap, IntKind.bits, IntKind.signed]
        omega
      have hu8' : (l.length : Int) % 256 = (l.length : Int) := by omega
      have hBd : Below w2.heap.size w2 wd := hB2'
      have c4 := hX2.cell (i := 4) rfl
      have f4 := hX2.frozen 4
      have hm1 : l.length + 1 ≤ maxLen := by unfold maxLen; omega
      have hm2 : (l.length + 1) * 16 ≤ 140737488355328 := by omega
      have hBw := hB2.trans (hB.mono hB2.size)
      clear hX hQ hB hD hbd hX1 hQ1 hB1 hk2 hB2' hwd
      by_cases hlr : l.length < rounds.length
      · obtain ⟨v, hv⟩ : ∃ v, rounds[l.length]? = some v := ⟨rounds[l.length], List.getElem?_eq_getElem hlr⟩
        obtain ⟨b9, o9, rfl, hb9, hc9⟩ := (hR.below hBw).int hv
        obtain ⟨j, hj, hje⟩ := pick_atC v 1000 (by omega) (by omega)
        have hje' : wrap64 ((IntKind.u64.wrap v).tmod 1000) = (j : Int) := hje
        have hlr' : (l.length : Int) < (rounds.length : Int) := by omega
        clear hje hv hlr
        have cMk := fun w1 => mark_any (1 + (j : Int)) (dig l.length) w1 (by rw [dig_size]; omega)
        have hMp := hM.push (r := (1 + (j : Int))) (by omega) (by omega)
        generalize markB (1 + (j : Int)) (dig l.length) = mk at cMk hMp
        generalize dig l.length = dg at *
        go_wp2_with fail
        go_region_law (first
          | (go_simp; go_at_call 32; refine (cMk _).mono ?_; rintro e w5 ⟨rfl, hb5⟩; have hbW : Below wd.heap.size wd w5 := ((Below.refl _ wd).drew).trans hb5; have c4a : w5.cell? ⟨bb, 4, none⟩ = some (.slice ca l.length cc) := (hbW.cell (p := ⟨bb, 4, none⟩) hX2.lt).trans c4; have hbA := belowNew w5 (.cells #[.string mk] 9); have hbV : Below wd.heap.size wd (w5.alloc (.cells #[.string mk] 9)) := hbW.trans (hbA.mono hbW.size); have c4d : (w5.alloc (.cells #[.string mk] 9)).cell? ⟨bb, 4, none⟩ = some (.slice ca l.length cc) := (hbV.cell (p := ⟨bb, 4, none⟩) hX2.lt).trans c4; have hQ5 := hQ2.below hbV; have hN1 := new_strK w5 mk; have hN3 : bb + 1 ≤ (w5.alloc (.cells #[.string mk] 9)).heap.size := (by have := hbV.size; have := hX2.lt; omega))
          | (refine step_push (K := strK) _ (by rfl) _ _ 25 (by rfl) (bb + 1) 9 i0 _ 16 Tryd.underlying25 hi hz0 hz1 hz2 rfl _ l (by rfl) hQ5 mk trivial (fun _ h => h.elim) ⟨w5.heap.size, 0, none⟩ 1 (by rfl) hN1 hm1 hm2 hN3 ?_; intro ao6 cap6 w6 hQ6 hk6; have hX6 := (hX2.below hbV hX2.lt).kept hk6 (fun e => by have := (hQ5.lt bb e).1; omega); have c4c := hX6.cell (i := 4) rfl; have f4c := hX6.frozen 4; have hB6 := (hBd.trans (hbV.mono hBd.size)).trans (hk6.below (Nat.le_trans hBd.size hbV.size) (fun k hk => by have := (hQ5.lt k hk).1; omega))))
        all_goals
          have hX7 := hX6.set 4 (.slice ao6 (l.length + 1) cap6)
          have hk7 := Kept.setCell w6 ⟨bb, 4, none⟩ (.slice ao6 (l.length + 1) cap6)
          have hQ7 := hQ6.kept hk7 (fun k hk e => by have := (hQ6.lt k hk).1; have e' : k = bb := e; omega) (fun _ _ _ h => h.elim)
          have hB7 := hB6.setCell (p := ⟨bb, 4, none⟩) hs23 (.slice ao6 (l.length + 1) cap6)
          generalize w6.setCell _ _ = w7 at hX7 hQ7 hB7 ⊢
          go_wp2
          have hl1 : (l ++ [mk]).length = l.length + 1 := by simp
          go_roundw
          case rel => exact ⟨l.length + 1, l ++ [mk], ao6, cap6, by omega, by go_num, hl1, hMp, by rw [hl1]; exact hX7, by rw [hl1]; exact hQ7, hB7⟩
          case measure => simp [intOf]; omega
      · have hlr' : ¬ (l.length : Int) < (rounds.length : Int) := by omega
        have cMk := fun w1 => mark_any 1 (dig l.length) w1 (by rw [dig_size]; omega)
        have hMp := hM.push (r := 1) (by omega) (by omega)
        generalize markB 1 (dig l.length) = mk at cMk hMp
        generalize dig l.length = dg at *
        go_wp2_with fail
        go_region_law (first
          | (go_simp; go_at_call 32; refine (cMk _).mono ?_; rintro e w5 ⟨rfl, hb5⟩; have hbW : Below wd.heap.size wd w5 := ((Below.refl _ wd).drew).trans hb5; have c4a : w5.cell? ⟨bb, 4, none⟩ = some (.slice ca l.length cc) := (hbW.cell (p := ⟨bb, 4, none⟩) hX2.lt).trans c4; have hbA := belowNew w5 (.cells #[.string mk] 9); have hbV : Below wd.heap.size wd (w5.alloc (.cells #[.string mk] 9)) := hbW.trans (hbA.mono hbW.size); have c4d : (w5.alloc (.cells #[.string mk] 9)).cell? ⟨bb, 4, none⟩ = some (.slice ca l.length cc) := (hbV.cell (p := ⟨bb, 4, none⟩) hX2.lt).trans c4; have hQ5 := hQ2.below hbV; have hN1 := new_strK w5 mk; have hN3 : bb + 1 ≤ (w5.alloc (.cells #[.string mk] 9)).heap.size := (by have := hbV.size; have := hX2.lt; omega))
          | (refine step_push (K := strK) _ (by rfl) _ _ 25 (by rfl) (bb + 1) 9 i0 _ 16 Tryd.underlying25 hi hz0 hz1 hz2 rfl _ l (by rfl) hQ5 mk trivial (fun _ h => h.elim) ⟨w5.heap.size, 0, none⟩ 1 (by rfl) hN1 hm1 hm2 hN3 ?_; intro ao6 cap6 w6 hQ6 hk6; have hX6 := (hX2.below hbV hX2.lt).kept hk6 (fun e => by have := (hQ5.lt bb e).1; omega); have c4c := hX6.cell (i := 4) rfl; have f4c := hX6.frozen 4; have hB6 := (hBd.trans (hbV.mono hBd.size)).trans (hk6.below (Nat.le_trans hBd.size hbV.size) (fun k hk => by have := (hQ5.lt k hk).1; omega))))
        all_goals
          have hX7 := hX6.set 4 (.slice ao6 (l.length + 1) cap6)
          have hk7 := Kept.setCell w6 ⟨bb, 4, none⟩ (.slice ao6 (l.length + 1) cap6)
          have hQ7 := hQ6.kept hk7 (fun k hk e => by have := (hQ6.lt k hk).1; have e' : k = bb := e; omega) (fun _ _ _ h => h.elim)
          have hB7 := hB6.setCell (p := ⟨bb, 4, none⟩) hs23 (.slice ao6 (l.length + 1) cap6)
          generalize w6.setCell _ _ = w7 at hX7 hQ7 hB7 ⊢
          go_wp2
          have hl1 : (l ++ [mk]).length = l.length + 1 := by simp
          go_roundw
          case rel => exact ⟨l.length + 1, l ++ [mk], ao6, cap6, by omega, by go_num, hl1, hMp, by rw [hl1]; exact hX7, by rw [hl1]; exact hQ7, hB7⟩
          case measure => simp [intOf]; omega
    · have hNl : N = l.length := by omega
      subst hNl
      obtain ⟨ao9, cap9, e9, hn9, hRow⟩ := hQ.form
      simp only [Value.slice.injEq, true_and] at e9
      obtain ⟨rfl, rfl⟩ := e9
      have hgb := HG.out
      have hBK : BlkM.At wr ⟨1, ⟨0, gen32, none, [], 0⟩, ca, l, cc⟩ := ⟨⟨nil_row _ _, fun _ => rfl⟩, hRow, hn9⟩
      have cO := fun w1 h => ownBlk_any ⟨1, ⟨0, gen32, none, [], 0⟩, ca, l, cc⟩ w1 h (by simp) (by show l.length * 16 ≤ _; omega)
      have Hck : Hid (∀ y : BlkM, y.d = BlkM.d ⟨1, ⟨0, gen32, none, [], 0⟩, ca, l, cc⟩ → chkK ks nn y.d = if 8 < l.length then 8 else 0) := fun y hy => by
        rw [hy]
        have := many_chk ks nn l
        rw [hM.zero (by omega)] at this
        exact this
      have Hlen : Hid (∀ y : BlkM, y.d = BlkM.d ⟨1, ⟨0, gen32, none, [], 0⟩, ca, l, cc⟩ → y.qc.votes.length ≤ maxLen ∧ y.certs.length ≤ maxLen) := fun y hy => by
        have h1 : y.qc.votes = [] := congrArg (fun d : BlkD => d.qc.votes) hy
        have h2 : y.certs = l := congrArg BlkD.certs hy
        rw [h1, h2]
        exact ⟨Nat.zero_le _, by unfold maxLen; omega⟩
      rw [← hgb] at hBK cO
      unfold BlkM.v at cO
      simp only [List.length_nil] at cO
      have x0 := hX.cell (i := 0) rfl
      have x1 := hX.cell (i := 1) rfl
      have x2 := hX.cell (i := 2) rfl
      have x3 := hX.cell (i := 3) rfl
      have x4 := hX.cell (i := 4) rfl
      have HGb : Hid (gb = gen32) := HG
      clear hgb HG
      go_wp2_with fail
      refine (cO _ hBK).mono ?_
      rintro e w5 ⟨y, rfl, hyd, hy, hyf, hb5⟩
      rw [HGb.out] at hyd
      have hck := Hck.out y hyd
      have hlen := Hlen.out y hyd
      have hX5 := hX.below hb5 hX.lt
      have hQ5 := hQ.below hb5
      have hB5 := hB.trans (hb5.mono hB.size)
      have cC := blkCheck_any tb nn ks y w5 (hT2.below hB5) n2 hk32 hy hlen.1 hlen.2 (hG2.below hB5)
      rw [hck] at cC
      unfold BlkM.v at cC ⊢
      clear cO Hck Hlen hck hlen hyd hy hyf hb5 hX hQ hB x0 x1 x2 x3 x4 hBK hRow
      by_cases h8 : 8 < l.length
      · rw [if_pos h8] at cC
        have h8' : (8 : Int) < (l.length : Int) := by omega
        go_wp2_with fail
        refine cC.mono ?_
        rintro e w6 ⟨rfl, hb6⟩
        have hB6 := hB2.trans ((hB5.trans (hb6.mono hB5.size)).mono hB2.size)
        clear cC
        go_wp2
        go_ret
        exact ⟨rfl, hB6⟩
      rw [if_neg h8] at cC
      have h8' : ¬ (8 : Int) < (l.length : Int) := by omega
      go_wp2_with fail
      refine cC.mono ?_
      rintro e w6 ⟨rfl, hb6⟩
      have hX6 := hX5.below hb6 hX5.lt
      have hQ6 := hQ5.below hb6
      have hB6 := hB5.trans (hb6.mono hB5.size)
      clear cC hX5 hQ5 hB5 hb6
      by_cases hl0 : l.length = 0
      · have hl0' : (l.length : Int) = 0 := by omega
        have hBF := hB2.trans (hB6.mono hB2.size)
        clear hl0
        go_wp2
        go_ret
        exact ⟨rfl, hBF⟩
      by_cases hl8 : l.length = 8
      · have hl8' : (l.length : Int) = 8 := by omega
        have hBF := hB2.trans (hB6.mono hB2.size)
        clear hl8
        go_wp2
        go_ret
        exact ⟨rfl, hBF⟩
      have hl0' : ((l.length : Int) == 0) = false := by rw [beq_eq_false_iff_ne]; omega
      have hl8' : ((l.length : Int) == 8) = false := by rw [beq_eq_false_iff_ne]; omega
      have hl0n : ¬ l = [] := fun e => hl0 (by rw [e]; rfl)
      obtain ⟨k, hk, hke⟩ := pick_atC twice l.length (by omega) (by omega)
      have hke2 : IntKind.i64.wrap ((IntKind.u64.wrap twice).tmod (l.length : Int)) = (k : Int) := by rw [← hke]; exact wrap_i64 _
      have hun : IntKind.u64.wrap (l.length : Int) = (l.length : Int) := by
        simp [IntKind.wrap, IntKind.bits, IntKind.signed]
        omega
      obtain ⟨m, hm⟩ : ∃ m, l[k]? = some m := ⟨l[k], List.getElem?_eq_getElem hk⟩
      obtain ⟨ao9, cap9, e9, hn8, hRow⟩ := hQ6.form
      simp only [Value.slice.injEq, true_and] at e9
      obtain ⟨rfl, rfl⟩ := e9
      obtain ⟨b9, o9, rfl, hb9, hc9⟩ := hRow.cell k m hm
      have cm := hc9 0 (.string m) rfl
      have e0 : o9 + k * strK.n + 0 = o9 + k := by show o9 + k * 1 + 0 = _; omega
      rw [e0] at cm
      have Hm : Hid (m ∈ l) := List.mem_of_getElem? hm
      have hkl : (k : Int) < (l.length : Int) := by omega
      have c4 := hX6.cell (i := 4) rfl
      have hbA : Below w6.heap.size w6 (w6.alloc (.cells #[.string m] 9)).drew := ((Below.refl w6.heap.size w6).alloc (Nat.le_refl _) (.cells #[.string m] 9)).drew
      have c4d : (w6.alloc (.cells #[.string m] 9)).cell? ⟨bb, 4, none⟩ = some (.slice (some ⟨b9, o9, none⟩) l.length cc) := (hbA.cell (p := ⟨bb, 4, none⟩) hX6.lt).trans c4
      have cmd : (w6.alloc (.cells #[.string m] 9)).cell? ⟨b9, o9 + k, none⟩ = some (.string m) := (hbA.cell (p := ⟨b9, o9 + k, none⟩) hb9).trans cm
      have hQ7 := hQ6.below hbA
      have hX7 := hX6.below hbA hX6.lt
      have hB7 := hB6.trans (hbA.mono hB6.size)
      have hN1 := new_strK w6 m
      have hN3 : bb + 1 ≤ (w6.alloc (.cells #[.string m] 9)).drew.heap.size := by have := hbA.size; have := hX6.lt; omega
      have hm1 : l.length + 1 ≤ maxLen := by unfold maxLen; omega
      have hm2 : (l.length + 1) * 16 ≤ 140737488355328 := by omega
      have Hk : Hid (k < l.length) := hk
      have Hl7 : Hid (l.length ≤ 7) := by show _ ≤ _; omega
      clear hc9 e0 hm hRow hk hl0 hl8
      go_wp2_with fail
      go_region_law (first
        | (refine step_push (K := strK) _ (by rfl) _ _ 25 (by rfl) (bb + 1) 9 i0 _ 16 Tryd.underlying25 hi hz0 hz1 hz2 rfl _ l (by rfl) hQ7 m trivial (fun _ h => h.elim) ⟨w6.heap.size, 0, none⟩ 1 (by rfl) hN1 hm1 hm2 hN3 ?_; intro ao8 cap8 w8 hQ8 hk8; have hX8 := hX7.kept hk8 (fun e => by have := (hQ7.lt bb e).1; omega); have c4c := hX8.cell (i := 4) rfl; have f4c := hX8.frozen 4; have hB8 := hB7.trans (hk8.below hB7.size (fun k hk => by have := (hQ7.lt k hk).1; omega))))
      all_goals
        have hX9 := hX8.set 4 (.slice ao8 (l.length + 1) cap8)
        have hk9 := Kept.setCell w8 ⟨bb, 4, none⟩ (.slice ao8 (l.length + 1) cap8)
        have hQ9 := hQ8.kept hk9 (fun k hk e => by have := (hQ8.lt k hk).1; have e' : k = bb := e; omega) (fun _ _ _ h => h.elim)
        have hB9 := hB8.setCell (p := ⟨bb, 4, none⟩) hs23 (.slice ao8 (l.length + 1) cap8)
        generalize w8.setCell _ _ = w9 at hX9 hQ9 hB9 ⊢
        replace hX9 : Arr w9 bb 27 [.int .i64 1, .int .i64 0, .string gb, .slice none 0 0, .slice ao8 (l.length + 1) cap8] := hX9
        have hl1 : (l ++ [m]).length = l.length + 1 := by simp
        have hlk := Hk.out
        obtain ⟨ao7, cap7, e7, hn7, hRow⟩ := hQ9.form
        simp only [Value.slice.injEq] at e7
        obtain ⟨e71, e72, e73⟩ := e7
        subst e71 e73
        have hBK : BlkM.At w9 ⟨1, ⟨0, gen32, none, [], 0⟩, ao8, l ++ [m], cap8⟩ := ⟨⟨nil_row _ _, fun _ => rfl⟩, hRow, hn7⟩
        have cC := blkCheck_any tb nn ks ⟨1, ⟨0, gen32, none, [], 0⟩, ao8, l ++ [m], cap8⟩ w9 (hT2.below hB9) n2 hk32 hBK (Nat.zero_le _) (by show (l ++ [m]).length ≤ _; rw [hl1]; exact hm1) (hG2.below hB9)
        have hck : chkK ks nn (BlkM.d ⟨1, ⟨0, gen32, none, [], 0⟩, ao8, l ++ [m], cap8⟩) = 13 := by
          have := many_chk ks nn (l ++ [m])
          rw [if_neg (by rw [hl1]; have := Hl7.out; omega), hM.twice (by omega) Hm.out] at this
          exact this
        rw [hck, ← HGb.out] at cC
        unfold BlkM.v at cC
        simp only [List.length_nil, hl1] at cC
        have hBF := hB2.trans (hB9.mono hB2.size)
        have y0 := hX9.cell (i := 0) rfl
        have y1 := hX9.cell (i := 1) rfl
        have y2 := hX9.cell (i := 2) rfl
        have y3 := hX9.cell (i := 3) rfl
        have y4 := hX9.cell (i := 4) rfl
        clear hX8 hk9 hQ8 hB8 hl1 e72 hRow hBK hck hX6 hQ6 hB6 hX7 hQ7 hB7 c4 c4d cm cmd hbA hN1 hN3 hQ9 hk8 c4c f4c hlk
        try go_wp2_with fail
        refine cC.mono ?_
        rintro e w10 ⟨rfl, hb10⟩
        have hBG := hBF.trans (hb10.mono hBF.size)
        clear cC y0 y1 y2 y3 y4 hX9
        go_wp2
        go_ret
        exact ⟨rfl, hBG⟩
end Go.Proofs.YtoodapbmpbaogaaDoor

/- How a row of numbers that came in is opened. -/
namespace Go.Proofs.YtoodapbmpbaogaaDoor
open Go.ChangeShapes Go.WideShapes Go.ChangeAt Go.RowKit Go.Joins Go.Deep
set_option linter.unusedVariables false

theorem cellsInt7 : Tryd.prog.cellsOf 3 = 1 := by kernel_rfl

/-- How a number reads. -/
def IntQ {H : Type} (d : DataW H) (v : Int) : Prop := True

set_option maxRecDepth 100000 in
theorem open_int_cells7 {H : Type} {enc : TypeId × Value → H} {W : World} {fuel : Nat} {cs : List Value} {y : DataW H × List MemPlace}
    (hf : DataW.trod enc Tryd.prog W 0 (fun _ => true) true fuel 3 cs = some y) : ∃ v : Int, cs = intK.c v ∧ intK.At W v ∧ IntQ y.1 v := by
  obtain ⟨a0, e0, _, _⟩ := DataW.trod_int Tryd.underlying3 hf
  exact ⟨a0, e0, trivial, trivial⟩

theorem open_intsK {H : Type} {enc : TypeId × Value → H} {W : World} {a : Option Addr} {len cap : Nat} {d : DataW H} {p : List MemPlace}
    (h : DataW.Trod enc Tryd.prog W 0 (fun _ => true) true 60 (.slice a len cap) d p) :
    ∃ l : List Int, l.length = len ∧ RowAt intK W a l ∧ len ≤ maxLen := by
  obtain ⟨fuel, hf⟩ := h
  obtain ⟨l, h1, h2, _, h4, _⟩ := open_row intK IntQ Tryd.underlying60 cellsInt7 open_int_cells7 hf
  exact ⟨l, h1, h2, h4⟩
end Go.Proofs.YtoodapbmpbaogaaDoor

/- BlockMany: for every input the statement answers true, and each argument reads afterwards as it read before. Condition: the two tables of package mix read as the program's text lays them; no other. -/
namespace Go.Proofs.YtoodapbmpbaogaaDoor
open Go.ChangeShapes Go.WideShapes Go.ChangeAt Go.RowKit
open Go.ChangeMaps (open_string shut_string)
set_option linter.unusedVariables false

set_option maxRecDepth 100000 in
theorem blockMany_lifted (os : Os) (started : os.Started) (H : Type) (enc : TypeId × Value → H) :
    ReturnsInHanded {} Tryd.checked os 6 .any (fun w args => (Rows.blockManySpec.pre enc Tryd.prog Tryd.f6 [] false w args ∧ laidMetH Tryd.prog Mx.laid2 w) ∧ sizedMet enc Tryd.prog Tryd.f6 (OpenSpec.ofChange Rows.blockManySpec) false w args)
      (Rows.blockManySpec.post enc Tryd.prog Tryd.f6 false true false false) := by
  refine returnsInHanded_of_change_and (C := Tryd.checked) (X := fun w _ => laidMetH Tryd.prog Mx.laid2 w) (fun _ _ _ hh h => h.of_heap hh) ownKnob_none started (by kernel_rfl) Tryd.func6
    (ChangeSpec.witness_shaped (enc := enc) (C := Tryd.checked) (os := os) (X := fun w _ => laidMetH Tryd.prog Mx.laid2 w) false (World.doorLaid Tryd.prog 400 os) #[.int .i64 0, .int .i64 0, .slice none 0 0, .int .i64 0] 8 rfl (World.shaped_of_RefB (by kernel_rfl) (by kernel_rfl)) (by kernel_rfl) (by kernel_rfl) (by kernel_rfl) (Mx.door_met os _)) ?_
  intro W base args ds gs before hval0 hW hcnd hsz0 hL _
  have hval : ∀ (j : Nat) t v, Tryd.f6.params[j]? = some t → args[j]? = some v → Value.okWide Tryd.prog W .any base t v := hval0
  have hsz : (DataW.weightsEach Tryd.prog (Tryd.f6.params.toList ++ Rows.blockManySpec.plain.varTypes Tryd.prog) (ds ++ gs)).all (· ≤ reachBytes) = true := hsz0
  have hW' := hW
  obtain ⟨p, q, hA0, hV, rfl, hfz, hnd⟩ := hW
  have hA : DataW.TrodAll enc Tryd.prog W 0 (fun _ => true) true Tryd.f6.params.toList args.toList ds p := hA0
  rw [Tryd.params6] at hA hval hsz
  obtain ⟨v0, vs0, d0, ds0, p0, q0, hargs, rfl, rfl, h0, r0⟩ := trodAll_cons hA
  obtain ⟨v1, vs1, d1, ds1, p1, q1, rfl, rfl, rfl, h1, r1⟩ := trodAll_cons r0
  obtain ⟨v2, vs2, d2, ds2, p2, q2, rfl, rfl, rfl, h2, r2⟩ := trodAll_cons r1
  obtain ⟨v3, vs3, d3, ds3, p3, q3, rfl, rfl, rfl, h3, r3⟩ := trodAll_cons r2
  obtain ⟨rfl, rfl, rfl⟩ := trodAll_nil r3
  obtain rfl : args = #[v0, v1, v2, v3] := by cases args; simp_all
  obtain ⟨rfl, rfl⟩ := trodVars_none hV
  have k0 := h0
  have lt0 : ∀ x ∈ p0, x.block < W.heap.size := by obtain ⟨m, hm⟩ := k0; exact DataW.trod_lt m _ _ _ hm
  obtain ⟨a0, rfl, hd0, hp0, w0⟩ := open_int Tryd.underlying3 (hval 0 3 v0 rfl rfl) h0
  have k1 := h1
  have lt1 : ∀ x ∈ p1, x.block < W.heap.size := by obtain ⟨m, hm⟩ := k1; exact DataW.trod_lt m _ _ _ hm
  obtain ⟨a1, rfl, hd1, hp1, w1⟩ := open_int Tryd.underlying3 (hval 1 3 v1 rfl rfl) h1
  have k2 := h2
  have lt2 : ∀ x ∈ p2, x.block < W.heap.size := by obtain ⟨m, hm⟩ := k2; exact DataW.trod_lt m _ _ _ hm
  obtain ⟨a2, len2, cap2, rfl⟩ := okWide_slice Tryd.underlying60 (hval 2 60 v2 rfl rfl)
  obtain ⟨l2, rfl, st2, sm2⟩ := open_intsK h2
  have k3 := h3
  have lt3 : ∀ x ∈ p3, x.block < W.heap.size := by obtain ⟨m, hm⟩ := k3; exact DataW.trod_lt m _ _ _ hm
  obtain ⟨a3, rfl, hd3, hp3, w3⟩ := open_int Tryd.underlying3 (hval 3 3 v3 rfl rfl) h3
  clear hA0 hval0 hsz0
  refine (blockMany_walk a0 a1 a2 cap2 l2 a3 W w0 w1 st2 sm2 w3 (Mx.of_laid hL)).mono fun e W' ⟨he, bel⟩ => ?_
  subst he
  exact ⟨_, rfl, _, _, _, [], _, [], hW', trodAll_mk1 (shut_bool Tryd.underlying4 _), (trodAll_cons_mk (Below.trod laidOut_true (by kernel_rfl) (of_decide_eq_true (by kernel_rfl)) k0 bel lt0) (trodAll_cons_mk (Below.trod laidOut_true (by kernel_rfl) (of_decide_eq_true (by kernel_rfl)) k1 bel lt1) (trodAll_cons_mk (Below.trod laidOut_true (by kernel_rfl) (of_decide_eq_true (by kernel_rfl)) k2 bel lt2) (trodAll_cons_mk (Below.trod laidOut_true (by kernel_rfl) (of_decide_eq_true (by kernel_rfl)) k3 bel lt3) trodAll_mk0)))), rfl, bel.frame _, fun h => by cases h⟩

theorem blockMany_holds : Rows.BlockManySaid :=
  OpenClaim.holds_of_wide 6 Tryd.f6 rfl rfl rfl rfl rfl rfl rfl ⟨rfl, rfl, rfl, rfl, rfl⟩ rfl rfl rfl rfl rfl (by kernel_rfl) Tryd.func6 (by kernel_rfl)
    (of_decide_eq_true (by kernel_rfl)) (by unfold Func.isWrapper; rw [if_neg (of_decide_eq_false (by kernel_rfl))]; exact ⟨rfl, rfl⟩)
    (fun os started H enc _ => blockMany_lifted os started H enc)

theorem blockMany_card : Rows.BlockManyCardSaid :=
  Claim7.holds_tied_plain_at .later [] [.data, .data] true (true, "9b200217b6f6b519613b493f24995ae3180a9199bc923eb04e9d1025e2e0dfcb") false
    blockMany_holds (fun _ h => by cases h) (by kernel_rfl) (fun _ h => by cases h) blockMany_row_tie rfl ⟨rfl, rfl⟩ (by kernel_rfl) rfl
    (fun f fn hf hfn => by
      obtain rfl : f = 6 := Option.some.inj ((show Tryd.prog.funcNamed "tusk/tusklaw08.BlockMany" = some 6 by kernel_rfl).symm.trans hf) |>.symm
      obtain rfl : fn = Tryd.f6 := (Option.some.inj (Tryd.func6.symm.trans hfn)).symm
      exact ⟨by kernel_rfl, fun j t ht => by
        rw [Tryd.params6] at ht
        have hall : ∀ t ∈ (#[3, 3, 60, 3] : Array TypeId).toList, Tryd.prog.wantsStandIn t = false := by
          show ∀ t ∈ ([3, 3, 60, 3] : List TypeId), Tryd.prog.wantsStandIn t = false
          refine List.forall_mem_cons.2 ⟨by kernel_rfl, ?_⟩
          refine List.forall_mem_cons.2 ⟨by kernel_rfl, ?_⟩
          refine List.forall_mem_cons.2 ⟨by kernel_rfl, ?_⟩
          refine List.forall_mem_cons.2 ⟨by kernel_rfl, ?_⟩
          exact fun _ h => by cases h
        exact hall t (Array.mem_toList_iff.2 (Array.mem_of_getElem? ht))⟩)
    (by kernel_rfl)
end Go.Proofs.YtoodapbmpbaogaaDoor
