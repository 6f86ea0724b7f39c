/- The reference's desk as it lies in memory: a box, a row of pointers, what each of them leads to; New, at, Wants. -/
import Derived.Test.YtblpkfnhfdkacaaFetTwo
namespace Go.Proofs.Ytblpkfnhfdkacaa
open Go Go.RowKit
set_option linter.unusedVariables false

/-- Pointers to whole objects. -/
def ptrK19 : Kind Nat where
  n := 1
  c b := [.pointer (some ⟨b, 0, none⟩)]
  foot _ _ := False
  At _ _ := True
  pos := by decide
  len _ := rfl
  one x u hu := by
    simp only [List.mem_cons, List.not_mem_nil, or_false] at hu
    rcases hu with rfl; rfl
  lt _ h := h.elim
  keep _ _ := trivial

theorem infoPtr19 : (Try.prog.info? 72).any (fun i => i.size == 1 && i.bytes == 8 && (match i.zero with | some z => z.cells.size == 1 | none => false)) = true := by kernel_rfl

theorem ptrInfo19 : ∃ i z, Try.prog.info? 72 = some i ∧ i.zero = some z ∧ i.size = 1 ∧ i.bytes = 8 ∧ z.cells.size = 1 := by
  have h := infoPtr19
  cases hi : Try.prog.info? 72 with
  | none => rw [hi] at h; cases h
  | some i =>
    rw [hi] at h
    simp only [Option.any_some, Bool.and_eq_true, beq_iff_eq] at h
    cases hz : i.zero with
    | none => rw [hz] at h; simp at h
    | some z =>
      rw [hz] at h
      exact ⟨i, z, rfl, hz, h.1.1, h.1.2, by simpa using h.2⟩

theorem infoRAsk : (Try.prog.info? 41).any (fun i => i.size == 2 && i.bytes == 24 && (match i.zero with | some z => z.cells.size == 2 | none => false)) = true := by kernel_rfl

theorem raskInfo : ∃ i z, Try.prog.info? 41 = some i ∧ i.zero = some z ∧ i.size = 2 ∧ i.bytes = 24 ∧ z.cells.size = 2 := by
  have h := infoRAsk
  cases hi : Try.prog.info? 41 with
  | none => rw [hi] at h; cases h
  | some i =>
    rw [hi] at h
    simp only [Option.any_some, Bool.and_eq_true, beq_iff_eq] at h
    cases hz : i.zero with
    | none => rw [hz] at h; simp at h
    | some z =>
      rw [hz] at h
      exact ⟨i, z, rfl, hz, h.1.1, h.1.2, by simpa using h.2⟩

theorem RowAt.ptr19 {w : World} {ao : Option Addr} {l : List Nat} (h : RowAt ptrK19 w ao l) {i : Nat} {x : Nat} (hx : l[i]? = some x) : ∃ g off, ao = some ⟨g, off, none⟩ ∧ g < w.heap.size ∧ w.cell? ⟨g, off + i, none⟩ = some (.pointer (some ⟨x, 0, none⟩)) := by
  obtain ⟨g, off, h1, h2, h3⟩ := h.cell i x hx
  have := h3 0 _ rfl
  simp only [show ptrK19.n = 1 from rfl, Nat.mul_one, Nat.add_zero] at this
  exact ⟨g, off, h1, h2, this⟩

/-- A wish of the reference's. -/
structure WiR where
  d : WiD
  rb : Nat
  fa : Option Addr
  fc : Nat

def WiR.F (x : WiR) (k : Nat) : Prop := rowFoot intK x.fa x.d.fr k

def WiR.c (x : WiR) : List Value := [.string x.d.id, .slice x.fa x.d.fr.length x.fc, .int .i64 (x.d.asked : Int), .int .i64 (x.d.ago : Int)]

structure WiR.At (w : World) (x : WiR) : Prop where
  box : Arr w x.rb 74 x.c
  row : RowAt intK w x.fa x.d.fr
  len : x.d.fr.length ≤ maxLen
  pos : 0 < x.d.fr.length

/-- The reference's desk: its blocks lie apart. -/
structure RT (w : World) (db : Nat) (q : Value) (n : Nat) (xs : List WiR) : Prop where
  box : Arr w db 64 [.int .i64 (n : Int), q]
  row : KQ ptrK19 72 w (db + 1) q (xs.map (·.rb))
  at_ : ∀ x ∈ xs, x.At w
  apart : xs.Pairwise (fun x y => x.rb ≠ y.rb)
  off : ∀ x ∈ xs, ∀ y ∈ xs, ¬ x.F y.rb
  qb : ∀ x ∈ xs, q.ownBlock ≠ some x.rb
  qf : ∀ x ∈ xs, ∀ k, x.F k → q.ownBlock ≠ some k
  gt : ∀ x ∈ xs, db < x.rb
  gf : ∀ x ∈ xs, ∀ k, x.F k → db < k

def RFt (db : Nat) (q : Value) (xs : List WiR) (k : Nat) : Prop := k = db ∨ q.ownBlock = some k ∨ ∃ x ∈ xs, k = x.rb ∨ x.F k

section
variable {w w' : World} {db n : Nat} {q : Value} {xs : List WiR} {S : Nat → Prop} {L : List WiD}

theorem WiR.At.kept {T : Nat → Prop} {x : WiR} (h : x.At w) (hk : Kept T w w') (h1 : ¬ T x.rb) (h2 : ∀ k, x.F k → ¬ T k) : x.At w' := ⟨h.box.kept hk h1, h.row.kept hk h2, h.len, h.pos⟩

theorem RT.kept {T : Nat → Prop} (h : RT w db q n xs) (hk : Kept T w w') (hn : ∀ k, RFt db q xs k → ¬ T k) : RT w' db q n xs :=
  ⟨h.box.kept hk (hn _ (Or.inl rfl)), h.row.kept hk (fun k e => hn k (Or.inr (Or.inl e))) (fun _ _ _ h => h.elim), fun x hx => (h.at_ x hx).kept hk (hn _ (Or.inr (Or.inr ⟨x, hx, Or.inl rfl⟩))) (fun k e => hn k (Or.inr (Or.inr ⟨x, hx, Or.inr e⟩))), h.apart, h.off, h.qb, h.qf, h.gt, h.gf⟩

theorem RT.lt (h : RT w db q n xs) {k : Nat} (hk : RFt db q xs k) : k < w.heap.size := by
  rcases hk with rfl | e | ⟨x, hx, rfl | e⟩
  · exact h.box.lt
  · exact (h.row.lt k e).2
  · exact (h.at_ x hx).box.lt
  · exact (h.at_ x hx).row.lt e

theorem RT.ge (h : RT w db q n xs) {k : Nat} (hk : RFt db q xs k) : db ≤ k := by
  rcases hk with rfl | e | ⟨x, hx, rfl | e⟩
  · exact Nat.le_refl _
  · have := (h.row.lt k e).1; omega
  · exact Nat.le_of_lt (h.gt x hx)
  · exact Nat.le_of_lt (h.gf x hx k e)

theorem RT.below (h : RT w db q n xs) (hb : Below w.heap.size w w') : RT w' db q n xs :=
  h.kept (Kept.of_below (S := fun k => w.heap.size ≤ k) hb) (fun k hk e => by have := h.lt hk; have e' : w.heap.size ≤ k := e; omega)

/-- A wish turns. -/
theorem RT.put (h : RT w db q n xs) {i : Nat} {x y : WiR} (hx : xs[i]? = some x) (hrb : y.rb = x.rb) (hfa : y.fa = x.fa) (hfr : y.d.fr = x.d.fr) {k : Nat} {v : Value} (hc : y.c = x.c.set k v) : RT (w.setCell ⟨x.rb, k, none⟩ v) db q n (xs.set i y) ∧ Kept (fun b => b = x.rb) w (w.setCell ⟨x.rb, k, none⟩ v) := by
  have hk := Kept.setCell w ⟨x.rb, k, none⟩ v
  have hm := List.mem_of_getElem? hx
  have hi := (List.getElem?_eq_some_iff.1 hx).1
  have hF : ∀ k, y.F k ↔ x.F k := fun k => by unfold WiR.F; rw [hfa, hfr]
  have hmap : (xs.set i y).map (·.rb) = xs.map (·.rb) := by
    rw [List.map_set, hrb]
    have hil : i < (xs.map (·.rb)).length := by rw [List.length_map]; exact hi
    have e : (xs.map (·.rb))[i] = x.rb := by
      have : (xs.map (·.rb))[i]? = some x.rb := by rw [List.getElem?_map, hx]; rfl
      rw [List.getElem?_eq_getElem hil] at this
      exact Option.some.inj this
    rw [← e]
    exact List.set_getElem_self hil
  have hmem : ∀ z ∈ xs.set i y, ∃ z' ∈ xs, z.rb = z'.rb ∧ ∀ k, z.F k ↔ z'.F k := fun z hz => by
    rcases List.mem_or_eq_of_mem_set hz with hz | rfl
    · exact ⟨z, hz, rfl, fun _ => Iff.rfl⟩
    · exact ⟨x, hm, hrb, hF⟩
  refine ⟨⟨h.box.kept hk (fun e => ?_), ?_, ?_, ?_, ?_, ?_, ?_, ?_, ?_⟩, hk⟩
  · have := h.gt x hm
    have e' : db = x.rb := e
    omega
  · rw [hmap]
    exact h.row.kept hk (fun b hb e => h.qb x hm (by rw [← show b = x.rb from e]; exact hb)) (fun _ _ _ h => h.elim)
  · intro z hz
    rcases List.mem_iff_getElem?.1 hz with ⟨j, hj⟩
    by_cases hij : i = j
    · subst hij
      rw [List.getElem?_set_self hi] at hj
      obtain rfl := Option.some.inj hj
      refine ⟨?_, ?_, by rw [hfr]; exact (h.at_ x hm).len, by rw [hfr]; exact (h.at_ x hm).pos⟩
      · rw [hrb, hc]
        exact (h.at_ x hm).box.set k v
      · rw [hfa, hfr]
        exact (h.at_ x hm).row.kept hk (fun b hb e => h.off x hm x hm (by rw [← show b = x.rb from e]; exact hb))
    · rw [List.getElem?_set_ne hij] at hj
      have hzm := List.mem_of_getElem? hj
      refine (h.at_ z hzm).kept hk (fun e => ?_) (fun b hb e => h.off z hzm x hm (by rw [← show b = x.rb from e]; exact hb))
      have e' : z.rb = x.rb := e
      have hjl := (List.getElem?_eq_some_iff.1 hj).1
      have hp := List.pairwise_iff_getElem.1 h.apart
      rw [List.getElem?_eq_getElem hi] at hx
      rw [List.getElem?_eq_getElem hjl] at hj
      have e1 := Option.some.inj hx
      have e2 := Option.some.inj hj
      rcases Nat.lt_or_gt_of_ne hij with hlt | hlt
      · exact hp i j hi hjl hlt (by rw [e1, e2, e'])
      · exact hp j i hjl hi hlt (by rw [e1, e2, e'])
  · have : ((xs.set i y).map (·.rb)).Pairwise (fun a b => a ≠ b) := by rw [hmap, List.pairwise_map]; exact h.apart
    rw [List.pairwise_map] at this
    exact this
  · intro a ha b hb e
    obtain ⟨a', ha', _, hFa⟩ := hmem a ha
    obtain ⟨b', hb', hbb, _⟩ := hmem b hb
    rw [hbb] at e
    exact h.off a' ha' b' hb' ((hFa _).1 e)
  · intro a ha
    obtain ⟨a', ha', haa, _⟩ := hmem a ha
    rw [haa]; exact h.qb a' ha'
  · intro a ha k hk
    obtain ⟨a', ha', _, hFa⟩ := hmem a ha
    exact h.qf a' ha' k ((hFa k).1 hk)
  · intro a ha
    obtain ⟨a', ha', haa, _⟩ := hmem a ha
    rw [haa]; exact h.gt a' ha'
  · intro a ha k hk
    obtain ⟨a', ha', _, hFa⟩ := hmem a ha
    exact h.gf a' ha' k ((hFa k).1 hk)

/-- The reference's desk. -/
structure RD (w : World) (db : Nat) (S : Nat → Prop) (n : Nat) (L : List WiD) : Prop where
  ex : ∃ q xs, RT w db q n xs ∧ xs.map (·.d) = L ∧ ∀ k, RFt db q xs k → S k
  ok : DeOk n L
  lt : ∀ k, S k → k < w.heap.size
  ge : ∀ k, S k → db ≤ k

theorem RD.kept {T : Nat → Prop} (h : RD w db S n L) (hk : Kept T w w') (hd : ∀ k, S k → ¬ T k) : RD w' db S n L := by
  obtain ⟨q, xs, h1, h2, h3⟩ := h.ex
  exact ⟨⟨q, xs, h1.kept hk (fun k e => hd k (h3 k e)), h2, h3⟩, h.ok, fun k e => Nat.lt_of_lt_of_le (h.lt k e) hk.size, h.ge⟩

theorem RD.below (h : RD w db S n L) (hb : Below w.heap.size w w') : RD w' db S n L := by
  obtain ⟨q, xs, h1, h2⟩ := h.ex
  exact ⟨⟨q, xs, h1.below hb, h2⟩, h.ok, fun k e => Nat.lt_of_lt_of_le (h.lt k e) hb.size, h.ge⟩

set_option maxRecDepth 100000 in
theorem rdNew_yes (n : Nat) (w : World) (h1 : 1 ≤ n) (h2 : n ≤ 1000) : Calls Try.prog 8 #[.int .i64 (n : Int)] w fun e w' => e = .returned (.tuple #[.pointer (some ⟨w.heap.size, 0, none⟩), .int .i64 0]) ∧ RD w' w.heap.size (fun k => k = w.heap.size) n [] ∧ Below w.heap.size w w' := by
  have hN := Arr.new w 64 [.int .i64 (n : Int), .slice none 0 0]
  have hbn := belowNew w (.cells #[.int .i64 (n : Int), .slice none 0 0] 64)
  have g1 : ¬ (n : Int) < 1 := by omega
  have g2 : ¬ (1000 : Int) < (n : Int) := by omega
  go_enter Try.func8, Try.ntmps8
  go_wp2
  go_ret2
  refine ⟨rfl, ⟨⟨.slice none 0 0, [], ⟨hN, KQ.empty _ _ _ _, fun x hx => (by cases hx), List.Pairwise.nil, fun x hx => (by cases hx), fun x hx => (by cases hx), fun x hx => (by cases hx), fun x hx => (by cases hx), fun x hx => (by cases hx)⟩, rfl, fun k e => ?_⟩, DeOk.nil h1 h2, fun k e => ?_, fun k e => by rw [e]; exact Nat.le_refl _⟩, hbn⟩
  · rcases e with rfl | e | ⟨x, hx, _⟩
    · rfl
    · cases e
    · cases hx
  · have e' : k = w.heap.size := e
    rw [e', alloc_size]
    omega

set_option maxRecDepth 100000 in
theorem rdNew_no (n : Int) (w : World) (h : n < 1 ∨ 1000 < n) : Calls Try.prog 8 #[.int .i64 n] w fun e w' => e = .returned (.tuple #[.pointer none, .int .i64 2]) ∧ w' = w := by
  by_cases h1 : n < 1
  · go_enter Try.func8, Try.ntmps8
    go_wp2
    go_ret2
    exact ⟨rfl, rfl⟩
  · have h2 : 1000 < n := by omega
    go_enter Try.func8, Try.ntmps8
    go_wp2
    go_ret2
    exact ⟨rfl, rfl⟩


set_option maxRecDepth 100000 in
set_option maxHeartbeats 1000000 in
theorem rdAt_any (id : ByteArray) (h : RT w db q n xs) (hl : xs.length ≤ 64) :
    Calls Try.prog 28 #[.pointer (some ⟨db, 0, none⟩), .string id] w fun e w' => w' = w ∧ ∃ i : Int, e = .returned (.int .i64 i) ∧ ((hasL (xs.map (·.d)) id = false ∧ i = -1) ∨ ∃ j : Nat, i = (j : Int) ∧ ∃ x, xs[j]? = some x ∧ x.d.id = id) := by
  obtain ⟨ao, cap, rfl, _, hR⟩ := h.row.form
  rw [List.length_map] at h
  have c1 := h.box.cell (i := 1) rfl
  go_enter Try.func28, Try.ntmps28
  go_wp2_with fail
  go_loopw [5] (fun v5 wr => ∃ i : Nat, i ≤ xs.length ∧ v5 = .int .i64 (i : Int) ∧ Hid (∀ y ∈ xs.take i, y.d.id ≠ id) ∧ wr = w) (fun v _ => xs.length - (intOf v).toNat)
  case atStart => exact ⟨0, Nat.zero_le _, rfl, (fun y hy => by simp at hy), rfl⟩
  case round =>
    obtain ⟨i, hi, rfl, hno, rfl⟩ := hrel
    by_cases hil : i < xs.length
    · have g1 : (i : Int) < (xs.length : Int) := by omega
      obtain ⟨x, hx⟩ : ∃ p, xs[i]? = some p := ⟨_, List.getElem?_eq_getElem hil⟩
      have hm := List.mem_of_getElem? hx
      obtain ⟨b, off, rfl, hbl, y0⟩ := hR.ptr19 (i := i) (x := x.rb) (by rw [List.getElem?_map, hx]; rfl)
      have y1 := (h.at_ x hm).box.cell (i := 0) rfl
      by_cases he : x.d.id = id
      · have hfin : Hid (∃ j : Nat, (i : Int) = (j : Int) ∧ ∃ x, xs[j]? = some x ∧ x.d.id = id) := ⟨i, rfl, x, hx, he⟩
        have hb : (x.d.id.toList == id.toList) = true := by rw [bytes_eq]; exact decide_eq_true he
        have hb2 : x.d.id.toList = id.toList := by rw [he]
        clear he hno
        go_wp2
        go_ret
        exact ⟨rfl, _, rfl, Or.inr hfin.out⟩
      · have hno' : Hid (∀ y ∈ xs.take (i + 1), y.d.id ≠ id) := fun q hq => by
          rw [List.take_add_one, hx] at hq
          rcases List.mem_append.1 hq with hq | hq
          · exact hno.out q hq
          · simp at hq
            rw [hq]
            exact he
        have hb : (x.d.id.toList == id.toList) = false := by rw [bytes_eq]; exact decide_eq_false he
        have hb2 : ¬ x.d.id.toList = id.toList := by simpa using hb
        clear he hno
        go_wp2
        go_roundw
        case rel => exact ⟨i + 1, by omega, by go_num, hno', trivial⟩
        case measure => simp [intOf]; omega
    · have g1 : ¬ (i : Int) < (xs.length : Int) := by omega
      have hany : Hid (hasL (xs.map (·.d)) id = false) := by
        show _ = _
        rw [hasL_not]
        intro q hq
        obtain ⟨y, hy, rfl⟩ := List.mem_map.1 hq
        exact hno.out y (by rw [List.take_of_length_le (by omega)]; exact hy)
      clear hno
      go_wp2
      go_ret
      exact ⟨rfl, -1, rfl, Or.inl ⟨hany.out, rfl⟩⟩

set_option maxRecDepth 100000 in
set_option maxHeartbeats 1000000 in
theorem rdWants_any (h : RD w db S n L) :
    Calls Try.prog 17 #[.pointer (some ⟨db, 0, none⟩)] w fun e w' => ∃ ao cap, e = .returned (.slice ao L.length cap) ∧ KQ textK 9 w' w.heap.size (.slice ao L.length cap) (L.map (·.id)) ∧ Below w.heap.size w w' := by
  obtain ⟨q, xs, h1, rfl, h3⟩ := h.ex
  obtain ⟨i0, z0, hi0, hz0, hz1, hz2, hz3⟩ := strInfoT
  have hfew : xs.length ≤ 64 := by have := h.ok.few; rw [List.length_map] at this; exact this
  obtain ⟨ao, cap, rfl, _, hR⟩ := h1.row.form
  rw [List.length_map] at h1 ⊢
  have hlt := h1.box.lt
  go_enter Try.func17, Try.ntmps17
  go_wp2_with fail
  go_loopw [3, 4] (fun v3 v4 wr => ∃ (i : Nat) (al : Option Addr) (cl : Nat), i ≤ xs.length ∧ v4 = .int .i64 (i : Int) ∧ v3 = .slice al i cl ∧ KQ textK 9 wr w.heap.size (.slice al i cl) ((xs.take i).map (·.d.id)) ∧ Below w.heap.size w wr) (fun _ v _ => xs.length - (intOf v).toNat)
  case atStart => exact ⟨0, none, 0, Nat.zero_le _, rfl, rfl, KQ.empty _ _ _ _, Below.refl _ _⟩
  case round =>
    obtain ⟨i, al, cl, hi, rfl, rfl, hA, hb⟩ := hrel
    have hT := h1.below hb
    have c1 := hT.box.cell (i := 1) rfl
    by_cases hil : i < xs.length
    · have g1 : (i : Int) < (xs.length : Int) := by omega
      obtain ⟨x, hx⟩ : ∃ p, xs[i]? = some p := ⟨_, List.getElem?_eq_getElem hil⟩
      have hm := List.mem_of_getElem? hx
      obtain ⟨b, off, rfl, hbl, y0⟩ := (hR.below hb).ptr19 (i := i) (x := x.rb) (by rw [List.getElem?_map, hx]; rfl)
      have y1 := (hT.at_ x hm).box.cell (i := 0) rfl
      have hstp : (xs.take (i + 1)).map (·.d.id) = (xs.take i).map (·.d.id) ++ [x.d.id] := by rw [List.take_add_one, hx]; simp
      have hlen : ((xs.take i).map (·.d.id)).length = i := by rw [List.length_map, List.length_take]; omega
      have hb2 := belowNew wr (.cells #[.string x.d.id] 9)
      have hA1 := hA.below hb2
      have hbB := hb.trans (hb2.mono hb.size)
      have hN := new_text wr x.d.id
      have hbs := hbB.size
      have m1 : ((xs.take i).map (·.d.id)).length + 1 ≤ maxLen := by unfold maxLen; rw [hlen]; omega
      have m2 : (((xs.take i).map (·.d.id)).length + 1) * 16 ≤ 140737488355328 := by rw [hlen]; omega
      have hfin : ∀ ao' cap' w', KQ textK 9 w' w.heap.size (.slice ao' (((xs.take i).map (·.d.id)).length + 1) cap') ((xs.take i).map (·.d.id) ++ [x.d.id]) → KQ textK 9 w' w.heap.size (.slice ao' (i + 1) cap') ((xs.take (i + 1)).map (·.d.id)) := fun ao' cap' w' hh => by rw [hlen] at hh; rw [hstp]; exact hh
      have hfin' : Hid _ := hfin
      clear hA hb2 hb hstp hfin
      generalize hms : (xs.take i).map (·.d.id) = mi at *
      subst hlen
      go_wp2_with (at_builtin; refine wpList_pushN (K := textK) rfl _ _ 43 rfl w.heap.size 9 i0 _ 16 Try.underlying43 hi0 hz0 hz1 hz2 hz3 _ mi rfl hA1 x.d.id trivial (fun _ h => h.elim) ⟨wr.heap.size, 0, none⟩ 1 rfl hN m1 m2 hbs ?_)
      intro ao3 cap3 w3 hA4 hk4 hf4
      have hA5 := hfin'.out ao3 cap3 w3 hA4
      have hbF := hbB.trans (hk4.below hbs (fun k e => (hA1.lt k e).1))
      clear hA4 hk4 hf4 hA1 hbB hN hbs m1 m2 hfin' hT c1
      go_wp2
      go_roundw
      case rel => exact ⟨mi.length + 1, ao3, cap3, by omega, by go_num, rfl, hA5, hbF⟩
      case measure => simp [intOf]; omega
    · obtain rfl : i = xs.length := by omega
      have g1 : ¬ ((xs.length : Nat) : Int) < (xs.length : Int) := by omega
      rw [List.take_length] at hA
      go_wp2
      go_ret
      exact ⟨_, _, rfl, hA, hb⟩
end
end Go.Proofs.Ytblpkfnhfdkacaa
