/- Texts as one: RefSta. -/
import Derived.Test.YtajpfkenhchafaaGreatDoorEz20
import Derived.Test.YtajpfkenhchafaaGreatDoorEz04
import Derived.Test.YtajpfkenhchafaaGreatDoorEz05
import Derived.BigQuiet
import Derived.Deep.QuietTactic
import Derived.OwnWalk
/- The reference's state as it lies in memory; Account, Value. -/
namespace Go.Proofs.YtajpfkenhchafaaGreatDoor
open Go Go.RowKit
set_option linter.unusedVariables false

def accK : Kind (ByteArray × (Nat × Nat)) where
  n := 3
  c x := [.string x.1, .int .u64 (x.2.1 : Int), .int .u64 (x.2.2 : Int)]
  foot _ _ := False
  At _ _ := True
  pos := by decide
  len _ := rfl
  one x u hu := by
    simp only [List.mem_cons, List.not_mem_nil, or_false] at hu
    rcases hu with rfl | rfl | rfl <;> rfl
  lt _ h := h.elim
  keep _ _ := trivial

def valK : Kind (ByteArray × ByteArray) where
  n := 2
  c x := [.string x.1, .string x.2]
  foot _ _ := False
  At _ _ := True
  pos := by decide
  len _ := rfl
  one x u hu := by
    simp only [List.mem_cons, List.not_mem_nil, or_false] at hu
    rcases hu with rfl | rfl <;> rfl
  lt _ h := h.elim
  keep _ _ := trivial

theorem infoAcc22 : (Tryz.prog.info? 92).any (fun i => i.size == 3 && i.bytes == 32 && (match i.zero with | some z => z.cells.size == 3 | none => false)) = true := by kernel_rfl

theorem accInfo : ∃ i z, Tryz.prog.info? 92 = some i ∧ i.zero = some z ∧ i.size = 3 ∧ i.bytes = 32 ∧ z.cells.size = 3 := by
  have h := infoAcc22
  cases hi : Tryz.prog.info? 92 with
  | none => rw [hi] at h; cases h
  | some i =>
    rw [hi] at h
    simp only [Option.any_some, Bool.and_eq_true, beq_iff_eq] at h
    cases hz : i.zero with
    | none => rw [hz] at h; simp at h
    | some z =>
      rw [hz] at h
      exact ⟨i, z, rfl, hz, h.1.1, h.1.2, by simpa using h.2⟩

theorem infoVal22 : (Tryz.prog.info? 94).any (fun i => i.size == 2 && i.bytes == 32 && (match i.zero with | some z => z.cells.size == 2 | none => false)) = true := by kernel_rfl

theorem valInfo : ∃ i z, Tryz.prog.info? 94 = some i ∧ i.zero = some z ∧ i.size = 2 ∧ i.bytes = 32 ∧ z.cells.size = 2 := by
  have h := infoVal22
  cases hi : Tryz.prog.info? 94 with
  | none => rw [hi] at h; cases h
  | some i =>
    rw [hi] at h
    simp only [Option.any_some, Bool.and_eq_true, beq_iff_eq] at h
    cases hz : i.zero with
    | none => rw [hz] at h; simp at h
    | some z =>
      rw [hz] at h
      exact ⟨i, z, rfl, hz, h.1.1, h.1.2, by simpa using h.2⟩

/-- One, new. -/
theorem kindOne {α : Type} (K : Kind α) (w : World) (T : TypeId) (x : α) (hA : ∀ w, K.At w x) : RowAt K (w.alloc (.cells (K.c x).toArray T)) (some ⟨w.heap.size, 0, none⟩) [x] := by
  have hX := Arr.new w T (K.c x)
  refine ⟨fun i y hy => ?_, fun y hy => by rw [List.mem_singleton.1 hy]; exact hA _⟩
  cases i with
  | succ k => simp at hy
  | zero =>
    simp only [List.getElem?_cons_zero, Option.some.injEq] at hy
    subst hy
    refine ⟨_, _, rfl, hX.lt, fun q v hv => ?_⟩
    have h0 := hX.cell (i := q) (v := v) hv
    have e : 0 + 0 * K.n + q = q := by omega
    rw [e]
    exact h0

theorem accOne (w : World) (n : ByteArray) : RowAt accK (w.alloc (.cells #[.string n, .int .u64 0, .int .u64 0] 92)) (some ⟨w.heap.size, 0, none⟩) [(n, (0, 0))] := kindOne accK w _ (n, (0, 0)) (fun _ => trivial)

theorem valOne (w : World) (n x : ByteArray) : RowAt valK (w.alloc (.cells #[.string n, .string x] 94)) (some ⟨w.heap.size, 0, none⟩) [(n, x)] := kindOne valK w _ (n, x) (fun _ => trivial)

theorem RowAt.acc {w : World} {ao : Option Addr} {l : List (ByteArray × (Nat × Nat))} (h : RowAt accK w ao l) {i : Nat} {x : ByteArray × (Nat × Nat)} (hx : l[i]? = some x) :
    ∃ g off, ao = some ⟨g, off, none⟩ ∧ g < w.heap.size ∧ w.cell? ⟨g, off + i * 3, none⟩ = some (.string x.1) ∧ w.cell? ⟨g, off + i * 3 + 1, none⟩ = some (.int .u64 (x.2.1 : Int)) ∧ w.cell? ⟨g, off + i * 3 + 2, none⟩ = some (.int .u64 (x.2.2 : Int)) := by
  obtain ⟨g, off, h1, h2, h3⟩ := h.cell i x hx
  exact ⟨g, off, h1, h2, h3 0 _ rfl, h3 1 _ rfl, h3 2 _ rfl⟩

theorem RowAt.val {w : World} {ao : Option Addr} {l : List (ByteArray × ByteArray)} (h : RowAt valK w ao l) {i : Nat} {x : ByteArray × ByteArray} (hx : l[i]? = some x) :
    ∃ g off, ao = some ⟨g, off, none⟩ ∧ g < w.heap.size ∧ w.cell? ⟨g, off + i * 2, none⟩ = some (.string x.1) ∧ w.cell? ⟨g, off + i * 2 + 1, none⟩ = some (.string x.2) := by
  obtain ⟨g, off, h1, h2, h3⟩ := h.cell i x hx
  exact ⟨g, off, h1, h2, h3 0 _ rfl, h3 1 _ rfl⟩

/-- The reference's state: its box, its two rows. -/
structure RSt (w : World) (rb : Nat) (qa qv : Value) (A : List (ByteArray × (Nat × Nat))) (V : List (ByteArray × ByteArray)) : Prop where
  box : Arr w rb 90 [qa, qv]
  ra : KQ accK 92 w (rb + 1) qa A
  rv : KQ valK 94 w (rb + 1) qv V
  ap : ∀ k, qa.ownBlock = some k → qv.ownBlock ≠ some k

def RFt (rb : Nat) (qa qv : Value) (k : Nat) : Prop := k = rb ∨ qa.ownBlock = some k ∨ qv.ownBlock = some k

/-- What its rows say. -/
structure RM (A : List (ByteArray × (Nat × Nat))) (V : List (ByteArray × ByteArray)) (s : StF) (N : Nat) : Prop where
  ra : KRise A
  rv : KRise V
  acc : ∀ n, (kGet A n).getD (0, 0) = s.acc n
  val : ∀ n, kGet V n = s.val n
  la : A.length ≤ N
  lv : V.length ≤ N
  ok : StOk s N

/-- The same, of the blocks S that it has. -/
structure RS (w : World) (rb : Nat) (S : Nat → Prop) (s : StF) (N : Nat) : Prop where
  ex : ∃ qa qv A V, RSt w rb qa qv A V ∧ RM A V s N ∧ ∀ k, RFt rb qa qv k → S k
  lt : ∀ k, S k → k < w.heap.size
  ge : ∀ k, S k → rb ≤ k

section
variable {w w' w1 : World} {rb : Nat} {qa qv : Value} {A : List (ByteArray × (Nat × Nat))} {V : List (ByteArray × ByteArray)} {S : Nat → Prop} {s : StF} {N : Nat}

theorem RM.mono {M : Nat} (h : RM A V s N) (hm : N ≤ M) : RM A V s M := ⟨h.ra, h.rv, h.acc, h.val, Nat.le_trans h.la hm, Nat.le_trans h.lv hm, h.ok.mono hm⟩

theorem RSt.kept {T : Nat → Prop} (h : RSt w rb qa qv A V) (hk : Kept T w w') (hn : ∀ k, RFt rb qa qv k → ¬ T k) : RSt w' rb qa qv A V :=
  ⟨h.box.kept hk (hn _ (Or.inl rfl)), h.ra.kept hk (fun k e => hn k (Or.inr (Or.inl e))) (fun _ _ _ h => h.elim), h.rv.kept hk (fun k e => hn k (Or.inr (Or.inr e))) (fun _ _ _ h => h.elim), h.ap⟩

theorem RSt.below (h : RSt w rb qa qv A V) (hb : Below w.heap.size w w') : RSt w' rb qa qv A V := ⟨h.box.below hb h.box.lt, h.ra.below hb, h.rv.below hb, h.ap⟩

theorem RS.kept {T : Nat → Prop} (h : RS w rb S s N) (hk : Kept T w w') (hd : ∀ k, S k → ¬ T k) : RS w' rb S s N := by
  obtain ⟨qa, qv, A, V, h1, h2, h3⟩ := h.ex
  exact ⟨⟨qa, qv, A, V, h1.kept hk (fun k e => hd k (h3 k e)), h2, h3⟩, fun k e => Nat.lt_of_lt_of_le (h.lt k e) hk.size, h.ge⟩

theorem RS.below (h : RS w rb S s N) (hb : Below w.heap.size w w') : RS w' rb S s N := by
  obtain ⟨qa, qv, A, V, h1, h2, h3⟩ := h.ex
  exact ⟨⟨qa, qv, A, V, h1.below hb, h2, h3⟩, fun k e => Nat.lt_of_lt_of_le (h.lt k e) hb.size, h.ge⟩

theorem RS.mono {M : Nat} (h : RS w rb S s N) (hm : N ≤ M) : RS w rb S s M := by
  obtain ⟨qa, qv, A, V, h1, h2, h3⟩ := h.ex
  exact ⟨⟨qa, qv, A, V, h1, h2.mono hm, h3⟩, h.lt, h.ge⟩

/-- Another row of accounts, new. -/
theorem RSt.newA (h : RSt w rb qa qv A V) (hb : Below w.heap.size w w1) {q' : Value} {A' : List (ByteArray × (Nat × Nat))} (hq : KQ accK 92 w1 w.heap.size q' A') : RSt (w1.setCell ⟨rb, 0, none⟩ q') rb q' qv A' V ∧ Kept (fun k => k = rb) w (w1.setCell ⟨rb, 0, none⟩ q') := by
  have hlt := h.box.lt
  have hst := Kept.setCell w1 ⟨rb, 0, none⟩ q'
  refine ⟨⟨(h.box.below hb hlt).set 0 q', (hq.rebase (by omega)).kept hst (fun k hk e => ?_) (fun _ _ _ h => h.elim), (h.rv.below hb).kept hst (fun k hk e => ?_) (fun _ _ _ h => h.elim), fun k h1 h2 => ?_⟩, (Kept.of_below (S := fun k => k = rb) hb).set (p := ⟨rb, 0, none⟩) rfl _⟩
  · have := (hq.lt k hk).1
    have e' : k = rb := e
    omega
  · have := (h.rv.lt k hk).1
    have e' : k = rb := e
    omega
  · have := (hq.lt k h1).1
    have := (h.rv.lt k h2).2
    omega

theorem RSt.newV (h : RSt w rb qa qv A V) (hb : Below w.heap.size w w1) {q' : Value} {V' : List (ByteArray × ByteArray)} (hq : KQ valK 94 w1 w.heap.size q' V') : RSt (w1.setCell ⟨rb, 1, none⟩ q') rb qa q' A V' ∧ Kept (fun k => k = rb) w (w1.setCell ⟨rb, 1, none⟩ q') := by
  have hlt := h.box.lt
  have hst := Kept.setCell w1 ⟨rb, 1, none⟩ q'
  refine ⟨⟨(h.box.below hb hlt).set 1 q', (h.ra.below hb).kept hst (fun k hk e => ?_) (fun _ _ _ h => h.elim), (hq.rebase (by omega)).kept hst (fun k hk e => ?_) (fun _ _ _ h => h.elim), fun k h1 h2 => ?_⟩, (Kept.of_below (S := fun k => k = rb) hb).set (p := ⟨rb, 1, none⟩) rfl _⟩
  · have := (h.ra.lt k hk).1
    have e' : k = rb := e
    omega
  · have := (hq.lt k hk).1
    have e' : k = rb := e
    omega
  · have := (hq.lt k h2).1
    have := (h.ra.lt k h1).2
    omega

/-- A number of an account is written. -/
theorem RSt.setA (h : RSt w rb qa qv A V) {i : Nat} {x : ByteArray × (Nat × Nat)} (hx : A[i]? = some x) :
    ∃ g off cap, qa = .slice (some ⟨g, off, none⟩) A.length cap ∧ g < w.heap.size ∧ RFt rb qa qv g ∧ w.cell? ⟨g, off + i * 3 + 1, none⟩ = some (.int .u64 (x.2.1 : Int)) ∧ w.cell? ⟨g, off + i * 3 + 2, none⟩ = some (.int .u64 (x.2.2 : Int)) ∧ (∀ o, w.frozen? ⟨g, o, none⟩ = false) ∧
      (∀ m : Nat, RSt (w.setCell ⟨g, off + i * 3 + 1, none⟩ (.int .u64 (m : Int))) rb qa qv (A.set i (x.1, (m, x.2.2))) V) ∧ (∀ m : Nat, RSt (w.setCell ⟨g, off + i * 3 + 2, none⟩ (.int .u64 (m : Int))) rb qa qv (A.set i (x.1, (x.2.1, m))) V) := by
  obtain ⟨ao, cap, rfl, -, -⟩ := h.ra.form
  obtain ⟨g, off, rfl, hg, hl, hc, hf, hs⟩ := h.ra.set hx
  have hother : ∀ (p : Addr) (v : Value), p.block = g → Arr (w.setCell p v) rb 90 [.slice (some ⟨g, off, none⟩) A.length cap, qv] ∧ KQ valK 94 (w.setCell p v) (rb + 1) qv V := fun p v hp => by
    have hk := Kept.setCell w p v
    refine ⟨h.box.kept hk (fun e => ?_), h.rv.kept hk (fun k e1 e2 => ?_) (fun _ _ _ h => h.elim)⟩
    · have e' : rb = p.block := e
      omega
    · have e' : k = p.block := e2
      exact h.ap g rfl (by rw [← hp, ← e']; exact e1)
  refine ⟨g, off, cap, rfl, hl, Or.inr (Or.inl rfl), hc 1 _ rfl, hc 2 _ rfl, hf, fun m => ?_, fun m => ?_⟩
  · obtain ⟨h1, h2⟩ := hother ⟨g, off + i * 3 + 1, none⟩ (.int .u64 (m : Int)) rfl
    exact ⟨h1, hs (x.1, (m, x.2.2)) 1 _ (by decide) rfl trivial (fun _ h => h), h2, h.ap⟩
  · obtain ⟨h1, h2⟩ := hother ⟨g, off + i * 3 + 2, none⟩ (.int .u64 (m : Int)) rfl
    exact ⟨h1, hs (x.1, (x.2.1, m)) 2 _ (by decide) rfl trivial (fun _ h => h), h2, h.ap⟩

/-- A value's text is written. -/
theorem RSt.setV (h : RSt w rb qa qv A V) {i : Nat} {x : ByteArray × ByteArray} (hx : V[i]? = some x) :
    ∃ g off cap, qv = .slice (some ⟨g, off, none⟩) V.length cap ∧ g < w.heap.size ∧ RFt rb qa qv g ∧ w.cell? ⟨g, off + i * 2 + 1, none⟩ = some (.string x.2) ∧ (∀ o, w.frozen? ⟨g, o, none⟩ = false) ∧
      (∀ m : ByteArray, RSt (w.setCell ⟨g, off + i * 2 + 1, none⟩ (.string m)) rb qa qv A (V.set i (x.1, m))) := by
  obtain ⟨ao, cap, rfl, -, -⟩ := h.rv.form
  obtain ⟨g, off, rfl, hg, hl, hc, hf, hs⟩ := h.rv.set hx
  refine ⟨g, off, cap, rfl, hl, Or.inr (Or.inr rfl), hc 1 _ rfl, hf, fun m => ?_⟩
  have hk := Kept.setCell w ⟨g, off + i * 2 + 1, none⟩ (.string m)
  refine ⟨h.box.kept hk (fun e => ?_), h.ra.kept hk (fun k e1 e2 => ?_) (fun _ _ _ h => h.elim), hs (x.1, m) 1 _ (by decide) rfl trivial (fun _ h => h), h.ap⟩
  · have e' : rb = g := e
    omega
  · have e' : k = g := e2
    exact h.ap k e1 (by rw [e']; rfl)

set_option maxRecDepth 100000 in
set_option maxHeartbeats 1000000 in
theorem rsAccount_at (n : ByteArray) (h : RSt w rb qa qv A V) (hl : A.length ≤ 1000000) :
    Calls Tryz.prog 50 #[.pointer (some ⟨rb, 0, none⟩), .string n] w fun e w' => e = .returned (.tuple #[.int .u64 (((kGet A n).getD (0, 0)).1 : Int), .int .u64 (((kGet A n).getD (0, 0)).2 : Int)]) ∧ Below w.heap.size w w' := by
  obtain ⟨ao, cap, rfl, hnil, hRow⟩ := h.ra.form
  have c0 := h.box.cell (i := 0) rfl
  obtain ⟨g, hg⟩ : ∃ g, Hid (kGet A n = g) := ⟨_, rfl⟩
  rw [hg.out]
  go_enter Tryz.func50, Tryz.ntmps50
  go_wp2
  go_loopw [6] (fun v6 wr => ∃ i : Nat, i ≤ A.length ∧ v6 = .int .i64 (i : Int) ∧ Hid (kGet (A.drop i) n = g) ∧ wr = w) (fun v _ => A.length - (intOf v).toNat)
  case atStart => exact ⟨0, Nat.zero_le _, rfl, hg, rfl⟩
  case round =>
    obtain ⟨i, hil, rfl, hgi, rfl⟩ := hrel
    by_cases hlt : i < A.length
    · have g1 : (i : Int) < (A.length : Int) := by omega
      obtain ⟨x, hx⟩ : ∃ x, A[i]? = some x := ⟨_, List.getElem?_eq_getElem hlt⟩
      have hst := kGet_step (n := n) hx
      obtain ⟨b, off, rfl, hbl, y0, y1, y2⟩ := hRow.acc hx
      cases he : x.1.toList == n.toList with
      | true =>
        rw [he] at hst
        have hgx : Hid (g = some x.2) := hgi.out.symm.trans hst
        clear hst hgi
        go_wp2_with fail
        go_big_quiet (fail)
        have hbq := below_drewN (Below.refl wr.heap.size wr) nq
        generalize wr.drewN nq = w3 at hbq ⊢
        clear c0 y0 y1 y2
        go_wp2
        go_ret2
        exact ⟨by rw [hgx.out]; rfl, hbq⟩
      | false =>
        rw [he] at hst
        have hgx : Hid (kGet (A.drop (i + 1)) n = g) := hst.symm.trans hgi.out
        clear hst hgi
        go_wp2
        go_roundw
        case rel => exact ⟨i + 1, by omega, by go_num, hgx, trivial⟩
        case measure => simp [intOf]; omega
    · obtain rfl : i = A.length := by omega
      have g1 : ¬ ((A.length : Nat) : Int) < (A.length : Int) := by omega
      have hgx : Hid (g = none) := by
        have := hgi.out
        rw [List.drop_length] at this
        exact this.symm
      clear hgi
      go_wp2
      go_ret2
      exact ⟨by rw [hgx.out]; rfl, Below.refl _ _⟩

end
end Go.Proofs.YtajpfkenhchafaaGreatDoor
