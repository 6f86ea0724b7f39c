/- Texts as one: WavMark, AccGrp, WavLook. -/
import Derived.Test.YtajpfkenhchafaaDoorEd02
import Derived.Test.YtajpfkenhchafaaDoorEd08
import Derived.Test.YtajpfkenhchafaaDoorEd06
import Derived.Laws.MakeOwn
/- Layer 21's mathematics: the program's marks. -/
namespace Go.Proofs.YtajpfkenhchafaaDoor
open Go Go.RowKit
set_option linter.unusedVariables false

theorem flat_natInt : ∀ l : List Nat, flatK natK l = flatK intK (rowI l)
  | [] => rfl
  | x :: l => by
    show natK.c x ++ flatK natK l = intK.c (x : Int) ++ flatK intK (rowI l)
    rw [flat_natInt l]
    rfl

theorem KQ.natInt {T : TypeId} {w : World} {B : Nat} {q : Value} {l : List Nat} (h : KQ natK T w B q l) : KQ intK T w B q (rowI l) := by
  refine ⟨?_, fun _ _ => trivial, fun _ _ _ h => h.elim, h.lt, h.nil⟩
  have := h.row
  rw [flat_natInt] at this
  have e : (rowI l).length = l.length := by unfold rowI; rw [List.length_map]
  rw [e]
  exact this

theorem KQ.intSet {T : TypeId} {w : World} {B g off n cap : Nat} {l : List Int} (h : KQ intK T w B (.slice (some ⟨g, off, none⟩) n cap) l) {i : Nat} {x : Int} (hx : l[i]? = some x) :
    w.cell? ⟨g, off + i, none⟩ = some (.int .i64 x) ∧ w.frozen? ⟨g, off + i, none⟩ = false ∧ B ≤ g ∧ g < w.heap.size ∧ ∀ v : Int, KQ intK T (w.setCell ⟨g, off + i, none⟩ (.int .i64 v)) B (.slice (some ⟨g, off, none⟩) n cap) (l.set i v) := by
  obtain ⟨g', off', e', q2, q3, q4, q5, q6⟩ := h.set hx
  simp only [Option.some.injEq, Addr.mk.injEq, and_true] at e'
  obtain ⟨rfl, rfl⟩ := e'
  have e : off + i * intK.n + 0 = off + i := by show off + i * 1 + 0 = _; omega
  refine ⟨?_, q5 _, q2, q3, fun v => ?_⟩
  · have := q4 0 _ rfl
    rw [e] at this
    exact this
  · have := q6 v 0 (.int .i64 v) (by show 0 < 1; decide) rfl trivial (fun _ h => h)
    rw [e] at this
    exact this

/-- The waves by the marks: -1 where there is none. -/
def markI (m : List Nat) : List Int := m.map (fun (v : Nat) => (v : Int) - 1)

theorem markI_length (m : List Nat) : (markI m).length = m.length := by simp [markI]

theorem markI_get {m : List Nat} {x v : Nat} (h : m[x]? = some v) : (markI m)[x]? = some ((v : Int) - 1) := by
  unfold markI
  rw [List.getElem?_map, h]
  rfl

theorem markI_set (m : List Nat) (x j : Nat) : markI (m.set x (j + 1)) = (markI m).set x (j : Int) := by
  unfold markI
  rw [List.map_set]
  congr 1
  omega

theorem markI_zero (n : Nat) : markI (List.replicate n 0) = List.replicate n (-1) := by
  unfold markI
  rw [List.map_replicate]
  rfl

/-- How many are not marked. -/
def openN (m : List Nat) : Nat := m.countP (fun v => decide (v = 0))

theorem openN_zero (n : Nat) : openN (List.replicate n 0) = n := by
  unfold openN
  rw [List.countP_replicate]
  simp

theorem openN_set : ∀ {m : List Nat} {x j : Nat}, m[x]? = some 0 → openN (m.set x (j + 1)) + 1 = openN m
  | [], x, j, h => by simp at h
  | v :: m, 0, j, h => by
    obtain rfl : v = 0 := by simpa using h
    simp [openN]
  | v :: m, x + 1, j, h => by
    have ih := openN_set (m := m) (x := x) (j := j) (by simpa using h)
    rw [List.set_cons_succ]
    unfold openN at ih ⊢
    rw [List.countP_cons, List.countP_cons]
    omega

theorem openN_le (m : List Nat) : openN m ≤ m.length := List.countP_le_length

theorem openN_pos {m : List Nat} : 0 < openN m ↔ m.any (fun x => decide (x = 0)) = true := by
  unfold openN
  rw [List.countP_pos_iff, List.any_eq_true]

/-- What look tells. -/
def lookN (n : Nat) (P : List (List Int)) : Except Nat (List Nat) := match markP n 0 (List.replicate n 0) P with
  | .error e => .error e
  | .ok m => if m.any (fun x => decide (x = 0)) = true then .error 12 else .ok m

theorem lookN_err {n : Nat} {P : List (List Int)} {e : Nat} (h : markP n 0 (List.replicate n 0) P = .error e) : lookN n P = .error e := by
  unfold lookN
  rw [h]

theorem lookN_few {n : Nat} {P : List (List Int)} {m : List Nat} (h : markP n 0 (List.replicate n 0) P = .ok m) (h0 : 0 < openN m) : lookN n P = .error 12 := by
  unfold lookN
  rw [h]
  exact if_pos (openN_pos.1 h0)

theorem lookN_ok {n : Nat} {P : List (List Int)} {m : List Nat} (h : markP n 0 (List.replicate n 0) P = .ok m) (h0 : ¬ 0 < openN m) : lookN n P = .ok m := by
  unfold lookN
  rw [h]
  exact if_neg (fun e => h0 (openN_pos.2 e))

theorem mark1_range {n w : Nat} {m : List Nat} {x : Int} (h : x < 0 ∨ (n : Int) ≤ x) : mark1 n w m x = .error 2 := by
  unfold mark1
  rw [if_pos h]

theorem mark1_err {n w : Nat} {m : List Nat} {x : Nat} {v : Nat} (hx : x < n) (hv : m[x]? = some v) (h0 : v ≠ 0) : mark1 n w m (x : Int) = .error 13 :=
  mark1_twice hx (by rw [List.getD_eq_getElem?_getD, hv]; show 0 < v; omega)

theorem mark1_set {n w : Nat} {m : List Nat} {x : Nat} (hx : x < n) (hv : m[x]? = some 0) : mark1 n w m (x : Int) = .ok (m.set x (w + 1)) :=
  mark1_ok hx (by rw [List.getD_eq_getElem?_getD, hv]; rfl)
end Go.Proofs.YtajpfkenhchafaaDoor

/- What access.Groups does. -/
namespace Go.Proofs.YtajpfkenhchafaaDoor
open Go Go.RowKit
set_option linter.unusedVariables false

theorem intZeroA : ∃ i, Tryd.prog.info? 3 = some i ∧ i.zero = some (.int .i64 0) ∧ i.size = 1 ∧ i.bytes = 8 := by
  have h : (Tryd.prog.info? 3).any (fun i => i.size == 1 && i.bytes == 8 && (match i.zero with | some (.int .i64 0) => true | _ => false)) = true := by kernel_rfl
  cases hi : Tryd.prog.info? 3 with
  | none => rw [hi] at h; cases h
  | some i =>
    rw [hi] at h
    simp only [Option.any_some, Bool.and_eq_true, beq_iff_eq] at h
    refine ⟨i, rfl, ?_, h.1.1, h.1.2⟩
    have h2 := h.2
    split at h2
    · assumption
    · cases h2

theorem flat_nat0 : ∀ n, flatK natK (List.replicate n 0) = List.replicate n (Value.int .i64 0)
  | 0 => rfl
  | n + 1 => by
    rw [List.replicate_succ, List.replicate_succ, ← flat_nat0 n]
    rfl

theorem made_int (n : Nat) : (madeCells (Value.int .i64 0).cells (n * 1)).toList = List.replicate n (Value.int .i64 0) := by
  apply List.ext_getElem
  · simp [madeCells]
  · intro i h1 h2
    simp [madeCells, Value.cells, Nat.mod_one]

/-- A new row of zeros. -/
theorem make_nats (t : TypeId) (ht : Tryd.prog.underlying t = some (.slice 3)) (n : Nat) (hn : n ≤ 1000000) (w : World) :
    ∃ w', (Instr.makeSlice t (.int .i64 (n : Int)) (.int .i64 (n : Int))).run Tryd.prog w = .ok (.slice (some ⟨w.heap.size, 0, none⟩) n n) w' ∧
      KQ natK 3 w' w.heap.size (.slice (some ⟨w.heap.size, 0, none⟩) n n) (List.replicate n 0) ∧ Below w.heap.size w w' ∧ w.heap.size < w'.heap.size := by
  obtain ⟨i, hi, hz, hs, hb⟩ := intZeroA
  obtain ⟨w', h1, h2, h3⟩ := run_make_full (P := Tryd.prog) w w.heap.size t 3 i (.int .i64 0) 1 ht hi hz hs .i64 .i64 n (by rw [hb]; omega) (by unfold maxLen; omega) (Nat.le_refl _)
  rw [made_int, ← flat_nat0] at h2
  have hQ : KQ natK 3 w' w.heap.size (.slice (some ⟨w.heap.size, 0, none⟩) n n) (List.replicate n 0) := KQ.of_own (K := natK) (fun _ _ h => h) (fun _ _ => trivial) (by rw [List.length_replicate]) h2
  have hk := Kept.of_grown h3
  refine ⟨w', h1, hQ, hk.below (Nat.le_refl _) (fun k e => by cases e), ?_⟩
  exact (hQ.lt w.heap.size rfl).2

def GotGroups (W : World) (l : List RwD) (e : Ending) (w : World) : Prop :=
  ∃ g gl, e = .returned (.slice (some ⟨g, 0, none⟩) l.length l.length) ∧ KQ natK 3 w W.heap.size (.slice (some ⟨g, 0, none⟩) l.length l.length) gl ∧ GSpec l gl ∧ Below W.heap.size W w

theorem range_set {gl : List Nat} {i n : Nat} (h1 : gl.length = n) (h2 : gl.take i = List.range i) (hi : i < n) : (gl.set i i).take (i + 1) = List.range (i + 1) := by
  rw [List.take_set, List.range_succ, List.take_add_one, h2, List.getElem?_eq_getElem (by omega)]
  simp

/-- The first so many point to their ends. -/
def Ends (gl : List Nat) (i : Nat) : Prop := ∀ k, k < i → Root gl k (up gl k)

theorem Ends.stay {l : List RwD} {gl gl' : List Nat} {i : Nat} (h : Ends gl i) (hs : Stay gl gl') (hr : ∀ x s, Root gl x s → Root gl' x s) : Ends gl' i := by
  intro k hk
  have h1 := h k hk
  have := hs k h1.fix
  rw [this]
  exact hr k _ h1

theorem Ends.point {l : List RwD} {gl : List Nat} {i r : Nat} (h : Ends gl i) (hl : i < gl.length) (hr : Root gl i r) (hp : ∀ x s, Root gl x s → Root (gl.set i r) x s) : Ends (gl.set i r) (i + 1) := by
  intro k hk
  rw [up_set hl]
  split
  · rename_i e
    subst e
    exact hp _ _ hr
  · rename_i e
    exact hp _ _ (h k (by omega))

theorem Same2.of_roots {gl gl' : List Nat} (hr : ∀ x s, Root gl x s → Root gl' x s) {x y : Nat} (h : Same2 gl x y) : Same2 gl' x y := by
  obtain ⟨r, h1, h2⟩ := h
  exact ⟨r, hr _ _ h1, hr _ _ h2⟩
end Go.Proofs.YtajpfkenhchafaaDoor

/- What waves.look does. -/
namespace Go.Proofs.YtajpfkenhchafaaDoor
open Go Go.RowKit
set_option linter.unusedVariables false

def GotLook (W : World) (n : Nat) (P : List (List Int)) (e : Ending) (w : World) : Prop :=
  Below W.heap.size W w ∧ match lookN n P with
    | .error k => e = .returned (.tuple #[.slice none 0 0, .int .i64 (k : Int)])
    | .ok m => m.length = n ∧ ∃ g, e = .returned (.tuple #[.slice (some ⟨g, 0, none⟩) n n, .int .i64 0]) ∧ KQ intK 3 w W.heap.size (.slice (some ⟨g, 0, none⟩) n n) (markI m)

/-- Rows that a machine has. -/
def RowsFit (p : List IRow) : Prop := p.length ≤ 1000 ∧ ∀ x ∈ p, x.l.length ≤ 140737488355328

theorem lsP_take {p : List IRow} {j : Nat} {x : IRow} (h : p[j]? = some x) : (lsP p)[j]? = some x.l := by
  unfold lsP
  rw [List.getElem?_map, h]
  rfl

set_option maxRecDepth 100000 in
set_option maxHeartbeats 4000000 in
theorem look_any (p : List IRow) (pa : Option Addr) (pc n : Nat) (w : World) (hp : RowAt irowK w pa p) (hf : RowsFit p) (hn : n ≤ 1000000) :
    Calls Tryd.prog 42 #[.slice pa p.length pc, .int .i64 (n : Int)] w fun e w' => GotLook w n (lsP p) e w' := by
  obtain ⟨hp1, hp2⟩ := hf
  generalize hGOT : (fun e w' => GotLook w n (lsP p) e w') = GOT
  have hGe : Hid (∀ w' k, Below w.heap.size w w' → lookN n (lsP p) = .error k → GOT (.returned (.tuple #[.slice none 0 0, .int .i64 (k : Int)])) w') := by
    intro w' k h1 h2
    rw [← hGOT]
    refine ⟨h1, ?_⟩
    rw [h2]
  have hGo : Hid (∀ w' m g, Below w.heap.size w w' → lookN n (lsP p) = .ok m → m.length = n → KQ intK 3 w' w.heap.size (.slice (some ⟨g, 0, none⟩) n n) (markI m) → GOT (.returned (.tuple #[.slice (some ⟨g, 0, none⟩) n n, .int .i64 0])) w') := by
    intro w' m g h1 h2 h3 h4
    rw [← hGOT]
    refine ⟨h1, ?_⟩
    rw [h2]
    exact ⟨h3, g, rfl, h4⟩
  clear hGOT
  obtain ⟨w1, hms, hQ1, hB1, hs1⟩ := make_nats 25 Tryd.underlying25 n hn w
  obtain ⟨B, hB⟩ : ∃ B, B = w.heap.size := ⟨_, rfl⟩
  have hQ1' := hQ1.natInt.rebase (show B ≤ w.heap.size by omega)
  have hgB : B ≤ w.heap.size := by omega
  generalize hg : w.heap.size = g at hQ1' hms hs1 hgB
  go_enter Tryd.func42, Tryd.ntmps42
  go_wp2_with fail
  refine wp_scope_straight ?_
  go_wp2_with fail
  go_loopw [18] (fun v18 wr => ∃ (i : Nat) (al : List Int), i ≤ n ∧ v18 = .int .i64 (i : Int) ∧ KQ intK 3 wr B (.slice (some ⟨g, 0, none⟩) n n) al ∧ Hid (al.length = n) ∧ Hid (al.take i = List.replicate i (-1)) ∧ Below w.heap.size w wr) (fun v _ => n - (intOf v).toNat)
  case atStart => exact ⟨0, rowI (List.replicate n 0), Nat.zero_le _, rfl, hQ1', by unfold Hid rowI; rw [List.length_map, List.length_replicate], rfl, hB1⟩
  case round =>
    obtain ⟨i, al, hi, rfl, hq, hal, hat, hb⟩ := hrel
    clear hQ1 hQ1' hB1
    by_cases hil : i < n
    · have g1 : (i : Int) < (n : Int) := by omega
      obtain ⟨x, hx⟩ : ∃ p, al[i]? = some p := ⟨_, List.getElem?_eq_getElem (by rw [hal.out]; exact hil)⟩
      obtain ⟨c1, f1, hBg, hgw, s1⟩ := hq.intSet hx
      simp only [Nat.zero_add] at c1 f1 s1
      have hq2 := s1 (-1)
      have hl2 : Hid ((al.set i (-1)).length = n) := by unfold Hid; rw [List.length_set]; exact hal.out
      have ht2 : Hid ((al.set i (-1)).take (i + 1) = List.replicate (i + 1) (-1)) := by
        unfold Hid
        rw [List.take_add_one, List.getElem?_set_self (by rw [hal.out]; exact hil), List.take_set_of_le (Nat.le_refl _), hat.out, List.replicate_succ']
        rfl
      have hb2 : Below w.heap.size w (wr.setCell ⟨g, i, none⟩ (.int .i64 (-1))) := hb.trans ((Kept.setCell wr ⟨g, i, none⟩ (.int .i64 (-1))).below hb.size (fun k e => by have e' : k = g := e; omega))
      clear hx hal hat s1 hq
      go_wp2_with fail
      go_roundw
      case rel => exact ⟨i + 1, _, by omega, by go_num, hq2, hl2, ht2, hb2⟩
      case measure => simp [intOf]; omega
    · have g1 : ¬ (i : Int) < (n : Int) := by omega
      have hin : i = n := by omega
      have hq3 : KQ intK 3 wr B (.slice (some ⟨g, 0, none⟩) n n) (markI (List.replicate n 0)) := by
        have h1 := hat.out
        rw [hin] at h1
        rw [List.take_of_length_le (by rw [hal.out]; exact Nat.le_refl _)] at h1
        rw [markI_zero, ← h1]
        exact hq
      clear hq hat hal hin
      go_wp2_with fail
      refine wp_label ?_
      go_wp2_with fail
      go_loopw [28, 8, 9] (fun v28 v8 v9 wr => ∃ (j : Nat) (m : List Nat) (left : Nat), j ≤ p.length ∧ v28 = .int .i64 (j : Int) ∧ v8 = .int .i64 (left : Int) ∧ v9 = .int .i64 0 ∧ KQ intK 3 wr B (.slice (some ⟨g, 0, none⟩) n n) (markI m) ∧ Hid (m.length = n) ∧ Hid (left = openN m) ∧ left ≤ n ∧ Hid (markP n 0 (List.replicate n 0) ((lsP p).take j) = .ok m) ∧ Below w.heap.size w wr) (fun v _ _ _ => p.length - (intOf v).toNat)
      case atStart => exact ⟨0, List.replicate n 0, n, Nat.zero_le _, rfl, rfl, rfl, hq3, by unfold Hid; rw [List.length_replicate], (openN_zero n).symm, Nat.le_refl _, rfl, hb⟩
      case round =>
        obtain ⟨j, m, left, hj, rfl, rfl, rfl, hq, hml, hlf, hln, hmk, hb⟩ := hrel
        clear hq3
        by_cases hjl : j < p.length
        · have g1 : (j : Int) < (p.length : Int) := by omega
          obtain ⟨x, hx⟩ : ∃ q, p[j]? = some q := ⟨_, List.getElem?_eq_getElem hjl⟩
          obtain ⟨bp, op, rfl, hbp, cr, hri, _⟩ := (hp.below hb).irow hx
          have hri0 := (hp.at_ x (List.mem_of_getElem? hx)).1
          have hxl := hp2 x (List.mem_of_getElem? hx)
          have hx' : Hid _ := hx
          have hrow : Hid (∀ m', markR n j m x.l = .ok m' → markP n 0 (List.replicate n 0) ((lsP p).take (j + 1)) = .ok m') := fun m' h => by
            rw [markP_step hmk.out (lsP_take hx)]; exact h
          have hrer : Hid (∀ e, markR n j m x.l = .error e → lookN n (lsP p) = .error e) := fun e h => by
            refine lookN_err (markP_err (i := j + 1) ?_)
            rw [markP_step hmk.out (lsP_take hx)]; exact h
          have hmk' : Hid (Hid (markP n 0 (List.replicate n 0) ((lsP p).take j) = .ok m)) := hmk
          have hjw : j ≤ 1000 := by omega
          clear hx hmk hri
          go_wp2_with fail
          go_loopw [35, 8, 9] (fun v35 v8 v9 wr => ∃ (k : Nat) (m' : List Nat) (left : Nat), k ≤ x.l.length ∧ v35 = .int .i64 (k : Int) ∧ v8 = .int .i64 (left : Int) ∧ v9 = .int .i64 0 ∧ KQ intK 3 wr B (.slice (some ⟨g, 0, none⟩) n n) (markI m') ∧ Hid (m'.length = n) ∧ Hid (left = openN m') ∧ left ≤ n ∧ Hid (markR n j m (x.l.take k) = .ok m') ∧ Below w.heap.size w wr) (fun v _ _ _ => x.l.length - (intOf v).toNat)
          case atStart => exact ⟨0, m, left, Nat.zero_le _, rfl, rfl, rfl, hq, hml, hlf, hln, rfl, hb⟩
          case round =>
            obtain ⟨k, m', left, hk, rfl, rfl, rfl, hq, hml, hlf, hln, hmk, hb⟩ := hrel
            by_cases hkl : k < x.l.length
            · have g1 : (k : Int) < (x.l.length : Int) := by omega
              obtain ⟨y, hy⟩ : ∃ q, x.l[k]? = some q := ⟨_, List.getElem?_eq_getElem hkl⟩
              obtain ⟨br, orr, hxa, hbr, cy⟩ := (hri0.below hb).int hy
              have hst := markR_step hmk.out hy
              have hstep : Hid (∀ m2, mark1 n j m' y = .ok m2 → markR n j m (x.l.take (k + 1)) = .ok m2) := fun m2 h => by rw [hst]; exact h
              have hserr : Hid (∀ e, mark1 n j m' y = .error e → lookN n (lsP p) = .error e) := fun e h => hrer.out e (markR_err (i := k + 1) (by rw [hst]; exact h))
              clear hst
              rw [hxa]
              by_cases hy0 : y < 0
              · have hE := hGe.out wr 2 hb (hserr.out 2 (mark1_range (Or.inl hy0)))
                clear hserr hstep hrer hrow
                go_wp2_with fail
                exact hE
              · by_cases hyn : (n : Int) ≤ y
                · have hE := hGe.out wr 2 hb (hserr.out 2 (mark1_range (Or.inr hyn)))
                  have g2 : ¬ y < (n : Int) := by omega
                  clear hserr hstep hrer hrow
                  go_wp2_with fail
                  exact hE
                · obtain ⟨z, rfl⟩ : ∃ z : Nat, y = (z : Int) := ⟨y.toNat, by omega⟩
                  have hzn : z < n := by omega
                  have g2 : ¬ (n : Int) ≤ (z : Int) := hyn
                  have g3 : (z : Int) < (n : Int) := by omega
                  obtain ⟨v, hv⟩ : ∃ v, m'[z]? = some v := ⟨_, List.getElem?_eq_getElem (by rw [hml.out]; exact hzn)⟩
                  obtain ⟨c1, f1, hBg, hgw, s1⟩ := hq.intSet (markI_get hv)
                  simp only [Nat.zero_add] at c1 f1 s1
                  by_cases hv0 : v = 0
                  · subst hv0
                    have h1 := hstep.out _ (mark1_set hzn hv)
                    have h2 : Hid (markR n j m (x.l.take (k + 1)) = .ok (m'.set z (j + 1))) := h1
                    have hq2 := s1 (j : Int)
                    rw [← markI_set] at hq2
                    have hop := openN_set (j := j) hv
                    have hl2 : Hid ((m'.set z (j + 1)).length = n) := by unfold Hid; rw [List.length_set]; exact hml.out
                    have hlp : 1 ≤ left := by rw [hlf.out]; omega
                    have ho2 : Hid (left - 1 = openN (m'.set z (j + 1))) := by unfold Hid; rw [hlf.out]; omega
                    have g5 : ((left : Int) - 1) = ((left - 1 : Nat) : Int) := by omega
                    have hb2 : Below w.heap.size w (wr.setCell ⟨g, z, none⟩ (.int .i64 (j : Int))) := hb.trans ((Kept.setCell wr ⟨g, z, none⟩ (.int .i64 (j : Int))).below hb.size (fun k e => by have e' : k = g := e; omega))
                    have g6 : (((0 : Nat) : Int) - 1 == -1) = true := rfl
                    clear h1 hserr hstep hrer hrow hop hlf hmk hml s1 hq hv hy
                    go_wp2_with fail
                    go_roundw
                    case rel => exact ⟨k + 1, _, left - 1, by omega, by go_num, by go_num, rfl, hq2, hl2, ho2, by omega, h2, hb2⟩
                    case measure => simp [intOf]; omega
                  · have hE := hGe.out wr 13 hb (hserr.out 13 (mark1_err hzn hv hv0))
                    have g6 : ((v : Int) - 1 == -1) = false := by simp; omega
                    clear hserr hstep hrer hrow s1 hq hv hy
                    go_wp2_with fail
                    exact hE
            · have g1 : ¬ (k : Int) < (x.l.length : Int) := by omega
              have hkr : k = x.l.length := by omega
              have h1 := hmk.out
              rw [hkr, List.take_length] at h1
              have h2 : Hid (markP n 0 (List.replicate n 0) ((lsP p).take (j + 1)) = .ok m') := hrow.out _ h1
              clear h1 hkr hmk hrow hrer
              go_wp2_with fail
              go_roundw
              case rel => exact ⟨j + 1, m', left, by omega, by go_num, rfl, rfl, hq, hml, hlf, hln, h2, hb⟩
              case measure => simp [intOf]; omega
        · have g1 : ¬ (j : Int) < (p.length : Int) := by omega
          have hjr : j = p.length := by omega
          have h1 : markP n 0 (List.replicate n 0) (lsP p) = .ok m := by
            have := hmk.out
            rw [hjr, List.take_of_length_le (by unfold lsP; rw [List.length_map]; exact Nat.le_refl _)] at this
            exact this
          by_cases hl0 : 0 < left
          · have g2 : (0 : Int) < (left : Int) := by omega
            have hE := hGe.out wr 12 hb (lookN_few h1 (by rw [← hlf.out]; exact hl0))
            clear h1 hjr hmk hlf
            go_wp2_with fail
            exact hE
          · have g2 : ¬ (0 : Int) < (left : Int) := by omega
            have hE := hGo.out wr m g hb (lookN_ok h1 (by rw [← hlf.out]; exact hl0)) hml.out (by rw [← hB]; exact hq)
            clear h1 hjr hmk hlf
            go_wp2_with fail
            exact hE
end Go.Proofs.YtajpfkenhchafaaDoor
