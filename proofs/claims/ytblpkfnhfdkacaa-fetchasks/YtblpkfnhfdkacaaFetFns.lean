/- What is wanted: is it among them? (slices.ContainsFunc over a closure.) One wish's tick, and its asking. -/
import Derived.Test.YtblpkfnhfdkacaaFetLie
import Derived.Test.YtblpkfnhfdkacaaTextMath
import Derived.Lib.QuietBelow
namespace Go.Proofs.Ytblpkfnhfdkacaa
open Go Go.RowKit
set_option linter.unusedVariables false

/-- A wish's value. -/
def WiM.v (n : Nat) (x : WiM) : Value := .agg #[.string x.d.id, .slice x.fa x.d.fr.length x.fc, .int .i64 (nextW x.d : Nat), .int .i64 (leftW n x.d : Nat)]

set_option maxRecDepth 100000 in
theorem isFor_any (id : ByteArray) (w : World) : Calls Try.prog 26 #[.string id] w fun e w' => ∃ cb, e = .returned (.func (.func 33) #[] #[.pointer (some ⟨cb, 0, none⟩)]) ∧ w'.cell? ⟨cb, 0, none⟩ = some (.string id) ∧ w.heap.size ≤ cb ∧ cb < w'.heap.size ∧ Below w.heap.size w w' := by
  have hN := Arr.new w 9 [.string id]
  have hb := belowNew w (.cells #[.string id] 9)
  have c0 := hN.cell (i := 0) rfl
  go_enter Try.func26, Try.ntmps26
  go_wp2
  go_ret
  exact ⟨_, rfl, c0, Nat.le_refl _, hN.lt, hb⟩

set_option maxRecDepth 100000 in
theorem isFor1_any (n : Nat) (x : WiM) (id : ByteArray) (cb : Nat) (w : World) (hc : w.cell? ⟨cb, 0, none⟩ = some (.string id)) (hl : cb < w.heap.size) :
    Calls Try.prog 33 #[x.v n, .pointer (some ⟨cb, 0, none⟩)] w fun e w' => e = .returned (.bool (decide (x.d.id = id))) ∧ Below w.heap.size w w' := by
  have hN := Arr.new w 67 [.string x.d.id, .slice x.fa x.d.fr.length x.fc, .int .i64 (nextW x.d : Nat), .int .i64 (leftW n x.d : Nat)]
  have hb := belowNew w (.cells #[.string x.d.id, .slice x.fa x.d.fr.length x.fc, .int .i64 (nextW x.d : Nat), .int .i64 (leftW n x.d : Nat)] 67)
  have c0 := hN.cell (i := 0) rfl
  have c1 : (w.alloc (.cells #[.string x.d.id, .slice x.fa x.d.fr.length x.fc, .int .i64 (nextW x.d : Nat), .int .i64 (leftW n x.d : Nat)] 67)).cell? ⟨cb, 0, none⟩ = some (.string id) := by
    rw [hb.cell (p := ⟨cb, 0, none⟩) hl]
    exact hc
  unfold WiM.v
  go_enter Try.func33, Try.ntmps33
  go_wp2
  go_ret
  rw [← bytes_eq]
  exact ⟨rfl, hb⟩

/-- Where the first one of an id stands. -/
def findL (ms : List WiM) (id : ByteArray) : Nat := ms.findIdx (fun x => decide (x.d.id = id))

set_option maxRecDepth 100000 in
set_option maxHeartbeats 1000000 in
theorem indexF_any (n : Nat) (ao : Option Addr) (cap : Nat) (ms : List WiM) (id : ByteArray) (cb : Nat) (w : World) (hR : RowAt (wishK n) w ao ms) (hl : ms.length ≤ 64) (hc : w.cell? ⟨cb, 0, none⟩ = some (.string id)) (hlt : cb < w.heap.size) :
    Calls Try.prog 32 #[.slice ao ms.length cap, .func (.func 33) #[] #[.pointer (some ⟨cb, 0, none⟩)]] w fun e w' => ∃ i : Int, e = .returned (.int .i64 i) ∧ ((hasL (ms.map (·.d)) id = false ∧ i = -1) ∨ ∃ j : Nat, i = (j : Int) ∧ j < ms.length ∧ (∃ x, ms[j]? = some x ∧ x.d.id = id) ∧ ∀ y ∈ ms.take j, y.d.id ≠ id) ∧ Below w.heap.size w w' := by
  go_enter Try.func32, Try.ntmps32
  go_wp2_with fail
  go_loopw [8] (fun v8 wr => ∃ i : Nat, i ≤ ms.length ∧ v8 = .int .i64 (i : Int) ∧ Hid (∀ y ∈ ms.take i, y.d.id ≠ id) ∧ Below w.heap.size w wr) (fun v _ => ms.length - (intOf v).toNat)
  case atStart => exact ⟨0, Nat.zero_le _, rfl, (fun y hy => by simp at hy), Below.refl _ _⟩
  case round =>
    obtain ⟨i, hi, rfl, hno, hb⟩ := hrel
    by_cases hil : i < ms.length
    · have g1 : (i : Int) < (ms.length : Int) := by omega
      obtain ⟨x, hx⟩ : ∃ p, ms[i]? = some p := ⟨_, List.getElem?_eq_getElem hil⟩
      have hm := List.mem_of_getElem? hx
      obtain ⟨b, off, rfl, hbl, hcell⟩ := (hR.below hb).cell i x hx
      have y0 : wr.cell? ⟨b, off + i * 4, none⟩ = some (.string x.d.id) := hcell 0 _ rfl
      have y1 : wr.cell? ⟨b, off + i * 4 + 1, none⟩ = some (.slice x.fa x.d.fr.length x.fc) := hcell 1 _ rfl
      have y2 : wr.cell? ⟨b, off + i * 4 + 2, none⟩ = some (.int .i64 (nextW x.d : Nat)) := hcell 2 _ rfl
      have y3 : wr.cell? ⟨b, off + i * 4 + 3, none⟩ = some (.int .i64 (leftW n x.d : Nat)) := hcell 3 _ rfl
      have c1 := isFor1_any n x id cb wr (by rw [hb.cell (p := ⟨cb, 0, none⟩) hlt]; exact hc) (Nat.lt_of_lt_of_le hlt hb.size)
      clear hcell hR hc
      by_cases he : x.d.id = id
      · rw [decide_eq_true he] at c1
        unfold WiM.v at c1
        have hfin : Hid (∃ j : Nat, (i : Int) = (j : Int) ∧ j < ms.length ∧ (∃ x, ms[j]? = some x ∧ x.d.id = id) ∧ ∀ y ∈ ms.take j, y.d.id ≠ id) := ⟨i, rfl, hil, ⟨x, hx, he⟩, hno.out⟩
        have he' : Hid _ := he
        clear he hno
        go_wp2_with (go_at_call 33; refine c1.mono ?_; rintro e w2 ⟨rfl, hb2⟩)
        go_ret
        exact ⟨_, rfl, Or.inr hfin.out, hb.trans (hb2.mono hb.size)⟩
      · rw [decide_eq_false he] at c1
        unfold WiM.v at c1
        have hno' : Hid (∀ y ∈ ms.take (i + 1), y.d.id ≠ id) := fun q hq => by
          rw [List.take_add_one, hx] at hq
          rcases List.mem_append.1 hq with hq | hq
          · exact hno.out q hq
          · simp at hq
            rw [hq]
            exact he
        have he' : Hid _ := he
        clear he hno
        go_wp2_with (go_at_call 33; refine c1.mono ?_; rintro e w2 ⟨rfl, hb2⟩; have hb3 := hb.trans (hb2.mono hb.size))
        go_roundw
        case rel => exact ⟨i + 1, by omega, by go_num, hno', hb3⟩
        case measure => simp [intOf]; omega
    · have g1 : ¬ (i : Int) < (ms.length : Int) := by omega
      have hany : Hid (hasL (ms.map (·.d)) id = false) := by
        show _ = _
        rw [hasL_not]
        intro q hq
        obtain ⟨y, hy, rfl⟩ := List.mem_map.1 hq
        exact hno.out y (by rw [List.take_of_length_le (by omega)]; exact hy)
      clear hno
      go_wp2
      go_ret
      exact ⟨-1, rfl, Or.inl ⟨hany.out, rfl⟩, hb⟩

set_option maxRecDepth 100000 in
theorem containsF_any (n : Nat) (ao : Option Addr) (cap : Nat) (ms : List WiM) (id : ByteArray) (cb : Nat) (w : World) (hR : RowAt (wishK n) w ao ms) (hl : ms.length ≤ 64) (hc : w.cell? ⟨cb, 0, none⟩ = some (.string id)) (hlt : cb < w.heap.size) :
    Calls Try.prog 25 #[.slice ao ms.length cap, .func (.func 33) #[] #[.pointer (some ⟨cb, 0, none⟩)]] w fun e w' => e = .returned (.bool (hasL (ms.map (·.d)) id)) ∧ Below w.heap.size w w' := by
  have cI := indexF_any n ao cap ms id cb w hR hl hc hlt
  go_enter Try.func25, Try.ntmps25
  go_wp2_with fail
  refine cI.mono ?_
  rintro e w1 ⟨i, rfl, hA, hb⟩
  have hA' : Hid (decide (0 ≤ i) = hasL (ms.map (·.d)) id) := by
    rcases hA with ⟨h1, rfl⟩ | ⟨j, rfl, h2, ⟨x, h3, h4⟩, h5⟩
    · show _ = _; rw [h1]; rfl
    · show _ = _
      rw [hasL_iff.2 ⟨x.d, List.mem_map.2 ⟨x, List.mem_of_getElem? h3, rfl⟩, h4⟩]
      simp
  clear hA cI
  go_wp2
  go_ret
  exact ⟨by rw [← hA'.out]; rfl, hb⟩

theorem infoInt19 : (Try.prog.info? 3).any (fun i => i.size == 1 && i.bytes == 8 && (match i.zero with | some z => z.cells.size == 1 | none => false)) = true := by kernel_rfl

theorem intInfo19 : ∃ i z, Try.prog.info? 3 = some i ∧ i.zero = some z ∧ i.size = 1 ∧ i.bytes = 8 ∧ z.cells.size = 1 := by
  have h := infoInt19
  cases hi : Try.prog.info? 3 with
  | none => rw [hi] at h; cases h
  | some i =>
    rw [hi] at h
    simp only [Option.any_some, Bool.and_eq_true, beq_iff_eq] at h
    cases hz : i.zero with
    | none => rw [hz] at h; simp at h
    | some z =>
      rw [hz] at h
      exact ⟨i, z, rfl, hz, h.1.1, h.1.2, by simpa using h.2⟩

/-- A row of nothing that is new. -/
theorem KQ.made {α : Type} {K : Kind α} {T : TypeId} (w : World) (B : Nat) (hB : B ≤ w.heap.size) : KQ K T (w.alloc (.cells #[] T)) B (.slice (some ⟨w.heap.size, 0, none⟩) 0 0) [] :=
  ⟨⟨by simp [flatK], Or.inl ⟨_, rfl, rfl⟩⟩, fun x hx => (by cases hx), fun x hx => (by cases hx), fun k hk => by
    simp only [Value.ownBlock, Option.some.injEq] at hk
    rw [alloc_size]
    omega, fun n cap e => by simp at e⟩

set_option maxRecDepth 100000 in
set_option maxHeartbeats 1000000 in
theorem cloneI_any (ao : Option Addr) (c : Nat) (l : List Int) (w : World) (hR : RowAt intK w ao l) (hp : 0 < l.length) (hl : l.length * 8 ≤ 140737488355328) :
    Calls Try.prog 27 #[.slice ao l.length c] w fun e w' => ∃ ao' c', e = .returned (.slice ao' l.length c') ∧ KQ intK 3 w' w.heap.size (.slice ao' l.length c') l ∧ Below w.heap.size w w' := by
  obtain ⟨i0, z0, hi0, hz0, hz1, hz2, hz3⟩ := intInfo19
  obtain ⟨v0, hv0⟩ : ∃ v, l[0]? = some v := ⟨_, List.getElem?_eq_getElem hp⟩
  obtain ⟨b, off, rfl, _, _⟩ := hR.int hv0
  have q24 : ∀ (w : World) (a : Option Addr) (n c n' c' : Nat), (binOp .eql 30 (.slice a n c) (.slice none n' c')).run Try.prog w = .ok (.bool a.isNone) w := fun w a n c n' c' => Lib.run_eql_slice_nil w _ _ a n c n' c' Try.underlying30
  have hbx := belowNew w (.cells #[] 3)
  have hR2 := hR.below hbx
  have hQ : KQ intK 3 (w.alloc (.cells #[] 3)) w.heap.size (.slice (some ⟨w.heap.size, 0, none⟩) 0 0) [] := KQ.made w _ (Nat.le_refl _)
  have m1 : ([] : List Int).length + l.length ≤ maxLen := by unfold maxLen; simp; omega
  have m2 : (([] : List Int).length + l.length) * 8 ≤ 140737488355328 := by simp; omega
  have hbs := hbx.size
  clear hR
  go_enter Try.func27, Try.ntmps27
  go_wp2_with (at_builtin; refine wpList_joins (K := intK) rfl _ _ 30 rfl w.heap.size 3 i0 _ 8 Try.underlying30 hi0 hz0 hz1 hz2 hz3 _ [] l rfl hQ (fun _ _ h => h.elim) (some ⟨b, off, none⟩) c rfl hR2 m1 m2 hbs ?_)
  intro ao3 cap3 w3 hQ3 hk3 hf3
  have hB := hbx.trans (hk3.below hbs (fun k e => (hQ.lt k e).1))
  clear hQ hk3 hf3 hR2 hbx m1 m2 hbs
  go_wp2
  go_ret
  exact ⟨_, _, rfl, hQ3, hB⟩

theorem sizeAsk : (Try.prog.info? 40).map (·.size) = some 2 := by kernel_rfl

theorem results_ask {fn : Func} {p : Tmp} (h : fn.results = #[.cell p 40]) (tmps : Array Value) (w : World) (g : Nat) (id : ByteArray) (to : Int)
    (hp : tmps.getD p undef = .pointer (some ⟨g, 0, none⟩)) (hg : Arr w g 40 [.string id, .int .i64 to]) :
    (results fn tmps).run Try.prog w = .ok (.agg #[.string id, .int .i64 to]) w :=
  results_cell_row h tmps w g 40 #[.string id, .int .i64 to] (0, 0) _ hp hg Try.underlying40 rfl sizeAsk

section
variable {w : World} {n B g off N cap : Nat} {ms : List WiM} {i : Nat} {x : WiM}

/-- A wish behind its tick. -/
def midW (x : WiD) : WiD := { x with ago := if x.asked = 0 then 0 else x.ago + 1 }

set_option maxRecDepth 100000 in
set_option maxHeartbeats 1000000 in
theorem wishTick_any (h : KQ (wishK n) 67 w B (.slice (some ⟨g, off, none⟩) N cap) ms) (hx : ms[i]? = some x) (hn : n ≤ 1000) (h0 : x.d.asked = 0 → x.d.ago = 0) (h1 : x.d.ago < n) :
    Calls Try.prog 30 #[.pointer (some ⟨g, off + i * 4, none⟩)] w fun e w' => e = .returned (.bool (dueW n x.d)) ∧ KQ (wishK n) 67 w' B (.slice (some ⟨g, off, none⟩) N cap) (ms.set i ⟨midW x.d, x.fa, x.fc⟩) ∧ Kept (fun k => k = g) w w' := by
  obtain ⟨g', off', e', q2, q3, q4, q5, q6⟩ := h.set hx
  simp only [Option.some.injEq, Addr.mk.injEq, and_true] at e'
  obtain ⟨rfl, rfl⟩ := e'
  have c3 : w.cell? ⟨g, off + i * 4 + 3, none⟩ = some (.int .i64 (leftW n x.d : Nat)) := q4 3 _ rfl
  have f3 := q5 (off + i * 4 + 3)
  have hAt : x.At w := h.at_ x (List.mem_of_getElem? hx)
  have hm : (leftW n (midW x.d) : Nat) = leftW n x.d - 1 := by
    unfold leftW midW
    by_cases ha : x.d.asked = 0
    · simp [ha]
    · simp [ha]; omega
  have hS_1 := q6 ⟨midW x.d, x.fa, x.fc⟩ 3 (.int .i64 (leftW n (midW x.d) : Nat)) (by show 3 < 4; decide) rfl ⟨hAt.row, hAt.len, hAt.pos⟩ (fun _ h => h)
  have hS : KQ (wishK n) 67 (w.setCell ⟨g, off + i * 4 + 3, none⟩ (.int .i64 (leftW n (midW x.d) : Nat))) B (.slice (some ⟨g, off, none⟩) N cap) (ms.set i ⟨midW x.d, x.fa, x.fc⟩) := hS_1
  rw [hm] at hS
  have hk := Kept.setCell w ⟨g, off + i * 4 + 3, none⟩ (.int .i64 ((leftW n x.d - 1 : Nat) : Int))
  have hd : dueW n x.d = decide (leftW n x.d ≤ 1) := by
    unfold dueW leftW
    rw [decide_eq_decide]
    by_cases ha : x.d.asked = 0
    · simp [ha]
    · rw [if_neg ha]; omega
  have hl : leftW n x.d ≤ 1000 := by unfold leftW; split <;> omega
  rw [hd]
  clear q6 q4 h hd hm
  generalize leftW n x.d = v at *
  cases v with
  | zero =>
    go_enter Try.func30, Try.ntmps30
    go_wp2
    go_ret
    exact ⟨rfl, hS, hk⟩
  | succ u =>
    have e1 : ((u + 1 : Nat) : Int) - 1 = (u : Int) := by omega
    have e2 : ((u + 1 - 1 : Nat) : Int) = (u : Int) := by omega
    have e3 : decide (u + 1 ≤ 1) = ((u : Int) == 0) := by
      rw [Bool.eq_iff_iff, decide_eq_true_iff, beq_iff_eq]; omega
    have g1 : (0 : Int) ≤ (u : Int) := by omega
    rw [e3]
    rw [e2] at hS hk
    clear hS_1
    go_enter Try.func30, Try.ntmps30
    go_wp2
    go_ret
    exact ⟨rfl, hS, hk⟩

set_option maxRecDepth 100000 in
set_option maxHeartbeats 1000000 in
theorem wishAsk_any (h : KQ (wishK n) 67 w B (.slice (some ⟨g, off, none⟩) N cap) ms) (hx : ms[i]? = some x) (hn : n ≤ 1000) (h0 : leftW n x.d = 0) :
    Calls Try.prog 31 #[.pointer (some ⟨g, off + i * 4, none⟩), .int .i64 (n : Int)] w fun e w' => e = .returned (.agg #[.string x.d.id, .int .i64 (askW x.d).to]) ∧ KQ (wishK n) 67 w' B (.slice (some ⟨g, off, none⟩) N cap) (ms.set i ⟨⟨x.d.id, x.d.fr, x.d.asked + 1, 0⟩, x.fa, x.fc⟩) ∧ Kept (fun k => k = g) w w' := by
  have hAt : x.At w := h.at_ x (List.mem_of_getElem? hx)
  have hpos := hAt.pos
  have hlen := hAt.len
  have hlt : nextW x.d < x.d.fr.length := Nat.mod_lt _ hpos
  obtain ⟨to, hto⟩ : ∃ v, x.d.fr[nextW x.d]? = some v := ⟨_, List.getElem?_eq_getElem hlt⟩
  have hask : (askW x.d).to = to := by
    unfold askW
    show (x.d.fr[nextW x.d]?).getD 0 = to
    rw [hto]; rfl
  rw [hask]
  have hgw : g < w.heap.size := (h.lt g rfl).2
  have hft : Hid (∀ z ∈ ms, ∀ b, (wishK n).foot z b → b < w.heap.size) := fun z hz b hb => (wishK n).lt (h.at_ z hz) hb
  have hbA := belowNew w (.cells #[.string ⟨#[]⟩, .int .i64 0] 40)
  have hA1 := Arr.new w 40 [.string ⟨#[]⟩, .int .i64 0]
  have hk1 := h.below hbA
  have hAt1 : x.At (w.alloc (.cells #[.string ⟨#[]⟩, .int .i64 0] 40)) := hk1.at_ x (List.mem_of_getElem? hx)
  obtain ⟨gt, ot, hfa, hgt, ct⟩ := hAt1.row.int hto
  have K0 := Kept.of_below (S := fun k => k = g) hbA
  obtain ⟨rb, hrb⟩ : ∃ z, Hid (w.heap.size = z) := ⟨_, rfl⟩
  rw [hrb.out] at hA1
  go_enter Try.func31, Try.ntmps31
  go_wp2_with fail
  rw [hrb.out]
  clear hAt h hbA
  have hrl : rb < (w.alloc (.cells #[.string ⟨#[]⟩, .int .i64 0] 40)).heap.size := hA1.lt
  replace hA1 : Arr (w.alloc (.cells #[.string ⟨#[]⟩, .int .i64 0] 40)) rb 40 [.string ⟨#[]⟩, .int .i64 0] := hA1
  generalize w.alloc (.cells #[.string ⟨#[]⟩, .int .i64 0] 40) = w1 at *
  obtain ⟨g', off', e', q2, q3, q4, q5, _⟩ := hk1.set hx
  simp only [Option.some.injEq, Addr.mk.injEq, and_true] at e'
  obtain ⟨rfl, rfl⟩ := e'
  have y0 : w1.cell? ⟨g, off + i * 4, none⟩ = some (.string x.d.id) := q4 0 _ rfl
  have y1 : w1.cell? ⟨g, off + i * 4 + 1, none⟩ = some (.slice x.fa x.d.fr.length x.fc) := q4 1 _ rfl
  have y2 : w1.cell? ⟨g, off + i * 4 + 2, none⟩ = some (.int .i64 (nextW x.d : Nat)) := q4 2 _ rfl
  rw [hfa] at y1
  have g1 : ((nextW x.d : Nat) : Int) < (x.d.fr.length : Int) := by omega
  clear q4
  go_region
  have hb2 : Below w1.heap.size w1 (w1.alloc (.cells #[.string x.d.id, .int .i64 to] 40)).drew := (belowNew w1 (.cells #[.string x.d.id, .int .i64 to] 40)).trans (below_drewN (Below.refl _ _) 1)
  have hA2 : Arr (w1.alloc (.cells #[.string x.d.id, .int .i64 to] 40)).drew w1.heap.size 40 [.string x.d.id, .int .i64 to] := (Arr.new w1 40 [.string x.d.id, .int .i64 to])
  have hk2 := hk1.below hb2
  have hR2 := hA1.below hb2 hrl
  have K1 := K0.trans (Kept.of_below (S := fun k => k = g) hb2)
  have hAt2 : x.At (w1.alloc (.cells #[.string x.d.id, .int .i64 to] 40)).drew := hk2.at_ x (List.mem_of_getElem? hx)
  have hne : rb ≠ w1.heap.size := by omega
  have hge : g ≠ w1.heap.size := by omega
  have hgr : g ≠ rb := by have := hrb.out; omega
  clear K0 hk1 hA1 hAt1 y0 y1 y2 ct hb2
  generalize (w1.alloc (.cells #[.string x.d.id, .int .i64 to] 40)).drew = w2 at *
  generalize w1.heap.size = rc at *
  obtain ⟨g', off', e', _, q3, q4, q5, q6⟩ := hk2.set hx
  simp only [Option.some.injEq, Addr.mk.injEq, and_true] at e'
  obtain ⟨rfl, rfl⟩ := e'
  have y1 : w2.cell? ⟨g, off + i * 4 + 1, none⟩ = some (.slice x.fa x.d.fr.length x.fc) := q4 1 _ rfl
  have y2 : w2.cell? ⟨g, off + i * 4 + 2, none⟩ = some (.int .i64 (nextW x.d : Nat)) := q4 2 _ rfl
  have f2 := q5 (off + i * 4 + 2)
  have hS := q6 ⟨⟨x.d.id, x.d.fr, x.d.asked + 1, n⟩, x.fa, x.fc⟩ 2 (.int .i64 (((x.d.asked + 1) % x.d.fr.length : Nat) : Int)) (by show 2 < 4; decide) (by
    show [_, _, _, _] = [_, _, _, _]
    have e : leftW n ⟨x.d.id, x.d.fr, x.d.asked + 1, n⟩ = leftW n x.d := by rw [h0]; unfold leftW; simp
    rw [e]
    rfl) ⟨hAt2.row, hAt2.len, hAt2.pos⟩ (fun _ h => h)
  have hS : KQ (wishK n) 67 (w2.setCell ⟨g, off + i * 4 + 2, none⟩ (.int .i64 (((x.d.asked + 1) % x.d.fr.length : Nat) : Int))) B (.slice (some ⟨g, off, none⟩) N cap) (ms.set i ⟨⟨x.d.id, x.d.fr, x.d.asked + 1, n⟩, x.fa, x.fc⟩) := hS
  have hnx : Int.tmod ((nextW x.d : Nat) + 1 : Int) (x.d.fr.length : Int) = (((x.d.asked + 1) % x.d.fr.length : Nat) : Int) := by
    rw [Int.tmod_eq_emod_of_nonneg (by omega)]
    unfold nextW
    have : (x.d.asked % x.d.fr.length + 1) % x.d.fr.length = (x.d.asked + 1) % x.d.fr.length := by rw [Nat.add_mod, Nat.mod_mod, ← Nat.add_mod]
    rw [← this]
    simp
  have g2 : ¬ (x.d.fr.length : Int) = 0 := by omega
  unfold maxLen at hlen
  have g3 : ((nextW x.d : Nat) : Int) + 1 ≤ 9223372036854775807 := by omega
  have hK2 := Kept.setCell w2 ⟨g, off + i * 4 + 2, none⟩ (.int .i64 (((x.d.asked + 1) % x.d.fr.length : Nat) : Int))
  generalize (((x.d.asked + 1) % x.d.fr.length : Nat) : Int) = nx at *
  clear q6 q4
  go_wp2_with fail
  go_region
  have hK3 : Kept (fun k => k = g) w2 (w2.setCell ⟨g, off + i * 4 + 2, none⟩ (.int .i64 nx)).drew := hK2.trans (Kept.of_below (below_drewN (Below.refl _ _) 1))
  have hk3 := hS.below (below_drewN (Below.refl _ (w2.setCell ⟨g, off + i * 4 + 2, none⟩ (.int .i64 nx))) 1)
  have hR3 := hR2.kept hK3 (fun e => hgr (show rb = g from e).symm)
  have hA3 := hA2.kept hK3 (fun e => hge (show rc = g from e).symm)
  have K2 := K1.trans hK3
  replace hk3 : KQ (wishK n) 67 (w2.setCell ⟨g, off + i * 4 + 2, none⟩ (.int .i64 nx)).drew B (.slice (some ⟨g, off, none⟩) N cap) (ms.set i ⟨⟨x.d.id, x.d.fr, x.d.asked + 1, n⟩, x.fa, x.fc⟩) := hk3
  clear hS hK2 K1 hK3 hR2 hA2 hk2 hAt2 y1 y2 f2 hnx
  generalize (w2.setCell ⟨g, off + i * 4 + 2, none⟩ (.int .i64 nx)).drew = w3 at *
  have hil : i < ms.length := (List.getElem?_eq_some_iff.1 hx).1
  have hx3 : (ms.set i ⟨⟨x.d.id, x.d.fr, x.d.asked + 1, n⟩, x.fa, x.fc⟩)[i]? = some ⟨⟨x.d.id, x.d.fr, x.d.asked + 1, n⟩, x.fa, x.fc⟩ := by rw [List.getElem?_set_self hil]
  have hAt3 : WiM.At w3 ⟨⟨x.d.id, x.d.fr, x.d.asked + 1, n⟩, x.fa, x.fc⟩ := hk3.at_ _ (List.mem_of_getElem? hx3)
  obtain ⟨g', off', e', _, q3, q4, q5, q6⟩ := hk3.set hx3
  simp only [Option.some.injEq, Addr.mk.injEq, and_true] at e'
  obtain ⟨rfl, rfl⟩ := e'
  have y3 : w3.cell? ⟨g, off + i * 4 + 3, none⟩ = some (.int .i64 (leftW n ⟨x.d.id, x.d.fr, x.d.asked + 1, n⟩ : Nat)) := q4 3 _ rfl
  have f3 := q5 (off + i * 4 + 3)
  have hS := q6 ⟨⟨x.d.id, x.d.fr, x.d.asked + 1, 0⟩, x.fa, x.fc⟩ 3 (.int .i64 (n : Int)) (by show 3 < 4; decide) (by
    have e : leftW n ⟨x.d.id, x.d.fr, x.d.asked + 1, 0⟩ = n := by unfold leftW; simp
    show [_, _, _, Value.int .i64 ((leftW n ⟨x.d.id, x.d.fr, x.d.asked + 1, 0⟩ : Nat) : Int)] = _
    rw [e]
    rfl) ⟨hAt3.row, hAt3.len, hAt3.pos⟩ (fun _ h => h)
  rw [List.set_set] at hS
  have hS : KQ (wishK n) 67 (w3.setCell ⟨g, off + i * 4 + 3, none⟩ (.int .i64 (n : Int))) B (.slice (some ⟨g, off, none⟩) N cap) (ms.set i ⟨⟨x.d.id, x.d.fr, x.d.asked + 1, 0⟩, x.fa, x.fc⟩) := hS
  have hK3 := Kept.setCell w3 ⟨g, off + i * 4 + 3, none⟩ (.int .i64 (n : Int))
  have hR4 := hR3.kept hK3 (fun e => hgr (show rb = g from e).symm)
  have hA4 := hA3.kept hK3 (fun e => hge (show rc = g from e).symm)
  have K3 := K2.trans hK3
  clear q6 q4 hR3 hA3 hk3 hAt3 hK3 K2
  generalize hw4 : w3.setCell ⟨g, off + i * 4 + 3, none⟩ (.int .i64 (n : Int)) = w4 at *
  have a0 := hA4.cell (i := 0) rfl
  have a1 := hA4.cell (i := 1) rfl
  have r0 := hR4.frozen 0
  have r1 := hR4.frozen 1
  have r2 := hR4.cell (i := 0) rfl
  have r3 := hR4.cell (i := 1) rfl
  have hR5 := (hR4.set 0 (.string x.d.id)).set 1 (.int .i64 to)
  have hK5 : Kept (fun k => k = rb) w4 ((w4.setCell ⟨rb, 0, none⟩ (.string x.d.id)).setCell ⟨rb, 1, none⟩ (.int .i64 to)) := (Kept.setCell w4 ⟨rb, 0, none⟩ (.string x.d.id)).trans (Kept.setCell _ ⟨rb, 1, none⟩ (.int .i64 to))
  have hF : KQ (wishK n) 67 ((w4.setCell ⟨rb, 0, none⟩ (.string x.d.id)).setCell ⟨rb, 1, none⟩ (.int .i64 to)) B (.slice (some ⟨g, off, none⟩) N cap) (ms.set i ⟨⟨x.d.id, x.d.fr, x.d.asked + 1, 0⟩, x.fa, x.fc⟩) := by
    refine hS.kept hK5 (fun k hk e => ?_) (fun z hz b hb e => ?_)
    · simp only [Value.ownBlock, Option.some.injEq] at hk
      exact hgr (hk.trans e)
    · have e' : b = rb := e
      have ho := hrb.out
      rcases List.mem_or_eq_of_mem_set hz with hz | rfl
      · have := hft.out z hz b hb; omega
      · have := hft.out x (List.mem_of_getElem? hx) b hb; omega
  have hKF : Kept (fun k => k = g) w ((w4.setCell ⟨rb, 0, none⟩ (.string x.d.id)).setCell ⟨rb, 1, none⟩ (.int .i64 to)) := by
    have h1 : Kept (fun k => k = g ∨ k = rb) w ((w4.setCell ⟨rb, 0, none⟩ (.string x.d.id)).setCell ⟨rb, 1, none⟩ (.int .i64 to)) := (K3.mono (fun k _ e => Or.inl e)).trans (hK5.mono (fun k _ e => Or.inr e))
    have ho := hrb.out
    exact h1.mono (fun k hk e => e.resolve_right (by omega))
  clear hK5 hS K3 hR4 hft
  go_wp2
  refine bodyPost_ret (v := .agg #[.string x.d.id, .int .i64 to]) (results_ask rfl _ _ rb x.d.id to rfl hR5) rfl ?_
  exact ⟨rfl, hF, hKF⟩
end
end Go.Proofs.Ytblpkfnhfdkacaa
