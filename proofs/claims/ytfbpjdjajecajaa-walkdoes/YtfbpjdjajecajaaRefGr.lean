/- The reference's graph as it lies in memory; find, Emitted. -/
import Derived.Test.YtfbpjdjajecajaaPtrRows
import Derived.Test.YtfbpjdjajecajaaWalkMath
import Derived.Test.YtfbpjdjajecajaaTextMath
namespace Go.Proofs.Ytfbpjdjajecajaa
open Go Go.RowKit
set_option linter.unusedVariables false

/-- A vertex of the reference's. -/
structure VtR where
  d : VtxD
  rb : Nat
  pa : Option Addr
  pc : Nat

structure VtR.Row (w : World) (x : VtR) : Prop where
  row : RowAt textK w x.pa x.d.parents

def vtR : PtrKind VtR where
  T := 55
  rb x := x.rb
  c x := [.string x.d.id, .int .i64 x.d.round, .int .i64 x.d.author, .slice x.pa x.d.parents.length x.pc, .bool x.d.done]
  F x k := rowFoot textK x.pa x.d.parents k
  R w x := x.Row w
  lt h hf := h.row.lt hf
  keep h hk := ⟨h.row.keep hk⟩

/-- The reference's graph. -/
structure RGr (w : World) (gb : Nat) (q : Value) (low : Int) (xs : List VtR) : Prop where
  box : Arr w gb 28 [q, .int .i64 low]
  row : PRow vtR 52 w (gb + 1) q xs

def RGt (gb : Nat) (q : Value) (xs : List VtR) (k : Nat) : Prop := k = gb ∨ PFt vtR q xs k

structure RG16 (w : World) (gb : Nat) (S : Nat → Prop) (g : GrD) : Prop where
  ex : ∃ q xs, RGr w gb q g.low xs ∧ xs.map (·.d) = g.L ∧ ∀ k, RGt gb q xs k → S k
  ok : GrOk g
  lt : ∀ k, S k → k < w.heap.size
  ge : ∀ k, S k → gb ≤ k

section
variable {w w' : World} {gb : Nat} {q : Value} {low : Int} {xs : List VtR} {S : Nat → Prop} {g : GrD}

theorem RGr.kept {T : Nat → Prop} (h : RGr w gb q low xs) (hk : Kept T w w') (hn : ∀ k, RGt gb q xs k → ¬ T k) : RGr w' gb q low xs :=
  ⟨h.box.kept hk (hn _ (Or.inl rfl)), h.row.kept hk (fun k e => hn k (Or.inr e))⟩

theorem RGr.below (h : RGr w gb q low xs) (hb : Below w.heap.size w w') : RGr w' gb q low xs := ⟨h.box.below hb h.box.lt, h.row.below hb⟩

theorem RG16.kept {T : Nat → Prop} (h : RG16 w gb S g) (hk : Kept T w w') (hd : ∀ k, S k → ¬ T k) : RG16 w' gb S g := by
  obtain ⟨q, xs, h1, h2, h3⟩ := h.ex
  exact ⟨⟨q, xs, h1.kept hk (fun k e => hd k (h3 k e)), h2, h3⟩, h.ok, fun k e => Nat.lt_of_lt_of_le (h.lt k e) hk.size, h.ge⟩

theorem RG16.below (h : RG16 w gb S g) (hb : Below w.heap.size w w') : RG16 w' gb S g := by
  obtain ⟨q, xs, h1, h2⟩ := h.ex
  exact ⟨⟨q, xs, h1.below hb, h2⟩, h.ok, fun k e => Nat.lt_of_lt_of_le (h.lt k e) hb.size, h.ge⟩

/-- A new graph. -/
theorem RG16.new (w : World) : RG16 (w.alloc (.cells #[.slice none 0 0, .int .i64 0] 28)) w.heap.size (fun k => k = w.heap.size) gr0 := by
  refine ⟨⟨.slice none 0 0, [], ⟨Arr.new w 28 [.slice none 0 0, .int .i64 0], PRow.empty _ _⟩, rfl, fun k e => ?_⟩, GrOk.zero, fun k e => ?_, fun k e => by rw [e]; exact Nat.le_refl _⟩
  · rcases e with e | e | ⟨x, hx, _⟩
    · exact e
    · cases e
    · cases hx
  · have e' : k = w.heap.size := e
    rw [e', alloc_size]
    omega

set_option maxRecDepth 100000 in
set_option maxHeartbeats 1000000 in
theorem rgFind_any (id : ByteArray) (h : RGr w gb q low xs) (hl : xs.length ≤ 256) :
    Calls Try.prog 17 #[.pointer (some ⟨gb, 0, none⟩), .string id] w fun e w' => w' = w ∧ ((getV (xs.map (·.d)) id = none ∧ e = .returned (.pointer none)) ∨ ∃ (j : Nat) (x : VtR), xs[j]? = some x ∧ getV (xs.map (·.d)) id = some x.d ∧ x.d.id = id ∧ e = .returned (.pointer (some ⟨x.rb, 0, none⟩))) := by
  obtain ⟨ao, cap, rfl, _, hR⟩ := h.row.row.form
  rw [List.length_map] at h
  have c0 := h.box.cell (i := 0) rfl
  go_enter Try.func17, Try.ntmps17
  go_wp2_with fail
  go_loopw [5] (fun v5 wr => ∃ i : Nat, i ≤ xs.length ∧ v5 = .int .i64 (i : Int) ∧ Hid (getV ((xs.map (·.d)).drop i) id = getV (xs.map (·.d)) id) ∧ wr = w) (fun v _ => xs.length - (intOf v).toNat)
  case atStart => exact ⟨0, Nat.zero_le _, rfl, rfl, rfl⟩
  case round =>
    obtain ⟨i, hi, rfl, hno, rfl⟩ := hrel
    by_cases hil : i < xs.length
    · have g1 : (i : Int) < (xs.length : Int) := by omega
      obtain ⟨x, hx⟩ : ∃ p, xs[i]? = some p := ⟨_, List.getElem?_eq_getElem hil⟩
      have hm := List.mem_of_getElem? hx
      have hxd : (xs.map (·.d))[i]? = some x.d := by rw [List.getElem?_map, hx]; rfl
      obtain ⟨b, off, rfl, hbl, y0⟩ := hR.pointer (i := i) (x := x.rb) (by rw [List.getElem?_map, hx]; rfl)
      have y1 : wr.cell? ⟨x.rb, 0, none⟩ = some (.string x.d.id) := (h.row.box x hm).cell (i := 0) rfl
      have hst := getV_step (id := id) hxd
      cases hb : (x.d.id.toList == id.toList) with
      | true =>
        rw [hb, if_pos rfl, hno.out] at hst
        have hid : x.d.id = id := by
          have := bytes_eq x.d.id id
          rw [hb] at this
          exact of_decide_eq_true this.symm
        have hfin : Hid (∃ (j : Nat) (z : VtR), xs[j]? = some z ∧ getV (xs.map (·.d)) id = some z.d ∧ z.d.id = id ∧ Ending.returned (.pointer (some ⟨x.rb, 0, none⟩)) = .returned (.pointer (some ⟨z.rb, 0, none⟩))) := ⟨i, x, hx, hst, hid, rfl⟩
        have hb2 : x.d.id.toList = id.toList := by rw [hid]
        clear hno hst hid
        go_wp2
        go_ret
        exact ⟨rfl, Or.inr hfin.out⟩
      | false =>
        rw [hb, if_neg (by decide), hno.out] at hst
        have hno' : Hid (getV ((xs.map (·.d)).drop (i + 1)) id = getV (xs.map (·.d)) id) := hst.symm
        have hb2 : ¬ x.d.id.toList = id.toList := by simpa using hb
        clear hno hst
        go_wp2
        go_roundw
        case rel => exact ⟨i + 1, by omega, by go_num, hno', trivial⟩
        case measure => simp [intOf]; omega
    · have g1 : ¬ (i : Int) < (xs.length : Int) := by omega
      have hn : Hid (getV (xs.map (·.d)) id = none) := by
        show _ = _
        rw [← hno.out, List.drop_of_length_le (by rw [List.length_map]; omega)]
        rfl
      clear hno
      go_wp2
      go_ret
      exact ⟨rfl, Or.inl ⟨hn.out, rfl⟩⟩

set_option maxRecDepth 100000 in
theorem rgEmitted_any (id : ByteArray) (h : RG16 w gb S g) :
    Calls Try.prog 13 #[.pointer (some ⟨gb, 0, none⟩), .string id] w fun e w' => e = .returned (.bool (emittedV g id)) ∧ w' = w := by
  obtain ⟨q, xs, h1, h2, h3⟩ := h.ex
  have hl : xs.length ≤ 256 := by have := h.ok.n; rw [← h2, List.length_map] at this; exact this
  have cF := rgFind_any id h1 hl
  rw [h2] at cF
  obtain ⟨B, hB⟩ : ∃ B, Hid (emittedV g id = B) := ⟨_, rfl⟩
  rw [hB.out]
  go_enter Try.func13, Try.ntmps13
  go_wp2_with fail
  refine cF.mono ?_
  rintro e w1 ⟨rfl, ⟨hn, rfl⟩ | ⟨j, x, hx, hg, hid, rfl⟩⟩
  · have hBv : Hid (B = false) := by show _ = _; rw [← hB.out]; unfold emittedV; rw [hn]
    clear cF hB
    go_wp2
    go_ret
    exact ⟨by rw [hBv.out]; rfl, rfl⟩
  · have y4 : w1.cell? ⟨x.rb, 4, none⟩ = some (.bool x.d.done) := (h1.row.box x (List.mem_of_getElem? hx)).cell (i := 4) rfl
    have hBv : Hid (B = x.d.done) := by show _ = _; rw [← hB.out]; unfold emittedV; rw [hg]
    clear cF hB
    go_wp2
    go_ret
    exact ⟨by rw [hBv.out]; rfl, rfl⟩

theorem infoPtr16 : (Try.prog.info? 52).any (fun i => i.size == 1 && i.bytes == 8 && (match i.zero with | some z => z.cells.size == 1 | none => false)) = true := by kernel_rfl

theorem ptrInfo16 : ∃ i z, Try.prog.info? 52 = some i ∧ i.zero = some z ∧ i.size = 1 ∧ i.bytes = 8 ∧ z.cells.size = 1 := by
  have h := infoPtr16
  cases hi : Try.prog.info? 52 with
  | none => rw [hi] at h; cases h
  | some i =>
    rw [hi] at h
    simp only [Option.any_some, Bool.and_eq_true, beq_iff_eq] at h
    cases hz : i.zero with
    | none => rw [hz] at h; simp at h
    | some z =>
      rw [hz] at h
      exact ⟨i, z, rfl, hz, h.1.1, h.1.2, by simpa using h.2⟩
end
end Go.Proofs.Ytfbpjdjajecajaa
