/- WavesCut's three plans side by side, and their mathematics. -/
import Derived.Test.YtkgidmifgfoeiaaWavWorks
namespace Go.Proofs.Ytkgidmifgfoeiaa
open Go Go.RowKit
set_option linter.unusedVariables false

/-- A plan that is appended to; its rows lie elsewhere. -/
structure RowsQ (w : World) (B : Nat) (q : Value) (p : List IRow) : Prop where
  out : KQ slotK 24 w B q p
  at_ : ∀ x ∈ p, irowK.At w x
  off : ∀ x ∈ p, ∀ b, rowFoot intK x.ao x.l b → q.ownBlock ≠ some b

def RFoot (q : Value) (p : List IRow) (b : Nat) : Prop := q.ownBlock = some b ∨ ∃ x ∈ p, rowFoot intK x.ao x.l b

theorem RowsQ.lt {w : World} {B : Nat} {q : Value} {p : List IRow} (h : RowsQ w B q p) {b : Nat} (hb : RFoot q p b) : b < w.heap.size := by
  rcases hb with hb | ⟨x, hx, hb⟩
  · exact (h.out.lt b hb).2
  · exact (h.at_ x hx).1.lt hb

theorem RowsQ.empty (w : World) (B : Nat) : RowsQ w B (.slice none 0 0) [] := ⟨KQ.empty _ _ _ _, fun x hx => (by cases hx), fun x hx => (by cases hx)⟩

theorem RowsQ.kept {S : Nat → Prop} {w w' : World} {B : Nat} {q : Value} {p : List IRow} (h : RowsQ w B q p) (hk : Kept S w w') (hn : ∀ b, RFoot q p b → ¬ S b) : RowsQ w' B q p :=
  ⟨h.out.kept hk (fun k e => hn k (Or.inl e)) (fun _ _ _ h => h.elim), fun x hx => irowK.kept (h.at_ x hx) hk (fun b hb => hn b (Or.inr ⟨x, hx, hb⟩)), h.off⟩

theorem RowsQ.below {w w' : World} {B : Nat} {q : Value} {p : List IRow} (h : RowsQ w B q p) (hb : Below w.heap.size w w') : RowsQ w' B q p := h.kept (S := fun _ => False) (Kept.of_below hb) (fun _ _ h => h)

theorem RowsQ.push {w w' : World} {B : Nat} {q q' : Value} {p : List IRow} {y : IRow} (h : RowsQ w B q p) (hq : KQ slotK 24 w' B q' (p ++ [y])) (hk : Kept (fun k => q.ownBlock = some k) w w') (hf : Fresh w q q') (hy : irowK.At w y) (hyo : ∀ b, rowFoot intK y.ao y.l b → q.ownBlock ≠ some b) : RowsQ w' B q' (p ++ [y]) := by
  have key : ∀ x, irowK.At w x → (∀ b, rowFoot intK x.ao x.l b → q.ownBlock ≠ some b) → irowK.At w' x ∧ ∀ b, rowFoot intK x.ao x.l b → q'.ownBlock ≠ some b := fun x hx ho => by
    refine ⟨irowK.kept hx hk (fun b hb e => ho b hb e), fun b hb e => ?_⟩
    rcases hf b e with e2 | e2
    · exact ho b hb e2
    · have := hx.1.lt hb; omega
  refine ⟨hq, fun x hx => ?_, fun x hx => ?_⟩
  · rcases List.mem_append.1 hx with hx | hx
    · exact (key x (h.at_ x hx) (h.off x hx)).1
    · simp only [List.mem_cons, List.not_mem_nil, or_false] at hx
      subst hx
      exact (key x hy hyo).1
  · rcases List.mem_append.1 hx with hx | hx
    · exact (key x (h.at_ x hx) (h.off x hx)).2
    · simp only [List.mem_cons, List.not_mem_nil, or_false] at hx
      subst hx
      exact (key x hy hyo).2

theorem RowsQ.form {w : World} {B : Nat} {q : Value} {p : List IRow} (h : RowsQ w B q p) : ∃ ao cap, q = .slice ao p.length cap ∧ RowAt irowK w ao p := by
  obtain ⟨ao, cap, h1, h2, h3⟩ := h.out.form
  exact ⟨ao, cap, h1, fun i x hx => h3.cell i x hx, h.at_⟩

/-- Three plans side by side; the rows of the third are old. -/
structure Cut3 (w : World) (B : Nat) (F T U : Value) (LF LT LU : List IRow) : Prop where
  f : RowsQ w B F LF
  t : RowsQ w B T LT
  u : RowsQ w B U LU
  ft : ∀ b, F.ownBlock = some b → ¬ RFoot T LT b ∧ U.ownBlock ≠ some b
  tf : ∀ b, T.ownBlock = some b → ¬ RFoot F LF b ∧ U.ownBlock ≠ some b
  uo : ∀ x ∈ LU, ∀ b, rowFoot intK x.ao x.l b → b < B

theorem Cut3.swap {w : World} {B : Nat} {F T U : Value} {LF LT LU : List IRow} (h : Cut3 w B F T U LF LT LU) : Cut3 w B T F U LT LF LU := ⟨h.t, h.f, h.u, h.tf, h.ft, h.uo⟩

theorem Cut3.below {w w' : World} {B : Nat} {F T U : Value} {LF LT LU : List IRow} (h : Cut3 w B F T U LF LT LU) (hb : Below w.heap.size w w') : Cut3 w' B F T U LF LT LU := ⟨h.f.below hb, h.t.below hb, h.u.below hb, h.ft, h.tf, h.uo⟩

theorem Cut3.empty (w : World) (B : Nat) : Cut3 w B (.slice none 0 0) (.slice none 0 0) (.slice none 0 0) [] [] [] :=
  ⟨RowsQ.empty w B, RowsQ.empty w B, RowsQ.empty w B, (fun b e => by cases e), (fun b e => by cases e), (fun x hx => by cases hx)⟩

theorem Cut3.pushF {w w' : World} {B : Nat} {F F' T U : Value} {LF LT LU : List IRow} {x : IRow} (h : Cut3 w B F T U LF LT LU) (hq : KQ slotK 24 w' B F' (LF ++ [x])) (hk : Kept (fun k => F.ownBlock = some k) w w') (hf : Fresh w F F') (hx : irowK.At w x) (hxf : ∀ b, rowFoot intK x.ao x.l b → F.ownBlock ≠ some b) (hxt : ∀ b, rowFoot intK x.ao x.l b → T.ownBlock ≠ some b) :
    Cut3 w' B F' T U (LF ++ [x]) LT LU := by
  have hfb : ∀ b, F.ownBlock = some b → B ≤ b := fun b e => (h.f.out.lt b e).1
  refine ⟨h.f.push hq hk hf hx hxf, h.t.kept hk (fun b hb e => (h.ft b e).1 hb), h.u.kept hk (fun b hb e => ?_), fun b e => ?_, fun b e => ⟨fun hb => ?_, (h.tf b e).2⟩, h.uo⟩
  · rcases hb with hb | ⟨y, hy, hb⟩
    · exact (h.ft b e).2 hb
    · have h1 := h.uo y hy b hb
      have h2 := hfb b e
      omega
  · rcases hf b e with e2 | e2
    · exact h.ft b e2
    · refine ⟨fun hb => ?_, fun hb => ?_⟩
      · have := h.t.lt hb; omega
      · have := (h.u.out.lt b hb).2; omega
  · rcases hb with hb | ⟨y, hy, hb⟩
    · rcases hf b hb with e2 | e2
      · exact (h.tf b e).1 (Or.inl e2)
      · have := (h.t.out.lt b e).2; omega
    · rcases List.mem_append.1 hy with hy | hy
      · exact (h.tf b e).1 (Or.inr ⟨y, hy, hb⟩)
      · simp only [List.mem_cons, List.not_mem_nil, or_false] at hy
        subst hy
        exact hxt b hb e

theorem Cut3.setU {w w' : World} {B : Nat} {F T U U' : Value} {LF LT LU LU' : List IRow} (h : Cut3 w B F T U LF LT LU) (hb : Below w.heap.size w w') (hu : RowsQ w' B U' LU') (hn : ∀ b, U'.ownBlock = some b → w.heap.size ≤ b) (ho : ∀ x ∈ LU', ∀ b, rowFoot intK x.ao x.l b → b < B) : Cut3 w' B F T U' LF LT LU' :=
  ⟨h.f.below hb, h.t.below hb, hu, fun b e => ⟨(h.ft b e).1, fun e2 => by have := (h.f.out.lt b e).2; have := hn b e2; omega⟩, fun b e => ⟨(h.tf b e).1, fun e2 => by have := (h.t.out.lt b e).2; have := hn b e2; omega⟩, ho⟩

/-- Row k of the three. -/
theorem take_next {α : Type} {l : List α} {k : Nat} {x : α} (h : l[k]? = some x) : l.take (k + 1) = l.take k ++ [x] := by
  rw [List.take_add_one, h]
  rfl

theorem planI_snoc (P : List (List Nat)) (r : List Nat) : planI (P ++ [r]) = planI P ++ [rowI r] := by
  unfold planI
  rw [List.map_append]
  rfl

theorem cut_next {P : List (List Nat)} {r s : List Nat} {i k : Nat} (hr : P[k]? = some r) (hs : P[i]? = some s) (z : List Nat) : (P.set i z).take (k + 1) = (P.set i z).take k ++ [if k = i then z else r] := by
  refine take_next ?_
  by_cases e : k = i
  · subst e
    rw [if_pos rfl, List.getElem?_set_self (List.getElem?_eq_some_iff.1 hs).1]
  · rw [if_neg e, List.getElem?_set_ne (by omega)]
    exact hr

theorem lsP_snoc {p : List IRow} {P : List (List Nat)} {x : IRow} {r : List Nat} (h : lsP p = planI P) (hx : x.l = rowI r) : lsP (p ++ [x]) = planI (P ++ [r]) := by
  rw [planI_snoc, ← h, ← hx]
  unfold lsP
  rw [List.map_append]
  rfl

theorem lsP_front {p : List IRow} {P : List (List Nat)} {x : IRow} {r : List Nat} (h : lsP p = planI P) (hx : x.l = rowI r) : lsP ([x] ++ p) = planI (r :: P) := by
  unfold lsP planI at *
  rw [List.map_append, h, List.map_cons, List.map_cons, hx]
  rfl

theorem turn_next {P : List (List Nat)} {k : Nat} {r : List Nat} (h : P[k]? = some r) : (P.take (k + 1)).reverse = r :: (P.take k).reverse := by
  rw [take_next h, List.reverse_append]
  rfl

/-- No wave of the plan is empty. -/
theorem wave_row' {l : List RwD} {p : List IRow} (h : lsP p = planI (planN l l.length)) {i : Nat} {x : IRow} (hx : p[i]? = some x) : 0 < x.l.length := by
  have hlt : i < (planN l l.length).length := by rw [← lsP_len h]; exact (List.getElem?_eq_some_iff.1 hx).1
  rw [planN_length] at hlt
  obtain ⟨z, q1, q2⟩ := lsP_row h (planN_get hlt)
  rw [hx] at q1
  obtain rfl : x = z := by simpa using q1
  obtain ⟨y, q, e⟩ := plan_full hlt
  rw [planN_get hlt] at e
  rw [q2, rowI_len, Option.some.inj e]
  simp

/-- A new row of one. -/
theorem oneSlot (w : World) (x : IRow) : KQ slotK 24 (w.alloc (.cells #[.slice x.ao x.l.length x.cap] 24)) w.heap.size (.slice (some ⟨w.heap.size, 0, none⟩) 1 1) [x] := by
  have h : Arr (w.alloc (.cells #[.slice x.ao x.l.length x.cap] 24)) w.heap.size 24 [.slice x.ao x.l.length x.cap] := Arr.new w 24 [.slice x.ao x.l.length x.cap]
  refine ⟨⟨rfl, Or.inr ⟨w.heap.size, [], [], 1, rfl, Nat.le_refl _, h, Nat.le_refl _, by unfold maxLen; decide, rfl⟩⟩, fun _ _ => trivial, fun _ _ _ h => h.elim, fun k hk => ?_, fun n cap e => by simp at e⟩
  simp only [Value.ownBlock, Option.some.injEq] at hk
  rw [alloc_size]
  omega

theorem Cut3.front {w w' : World} {B : Nat} {F T U U' : Value} {LF LT LU : List IRow} {x : IRow} (h : Cut3 w B F T U LF LT LU) (hB : B ≤ w.heap.size) (hb : Below w.heap.size w w') (hq : KQ slotK 24 w' w.heap.size U' ([x] ++ LU)) (hx : irowK.At w x) (hxo : ∀ b, rowFoot intK x.ao x.l b → b < B) : Cut3 w' B F T U' LF LT ([x] ++ LU) := by
  have hf : ∀ y ∈ [x] ++ LU, ∀ b, rowFoot intK y.ao y.l b → b < B := fun y hy => by
    rcases List.mem_append.1 hy with hy | hy
    · simp only [List.mem_cons, List.not_mem_nil, or_false] at hy
      subst hy
      exact hxo
    · exact h.uo y hy
  refine h.setU hb ⟨hq.rebase hB, fun y hy => ?_, fun y hy b h1 e => ?_⟩ (fun b e => (hq.lt b e).1) hf
  · rcases List.mem_append.1 hy with hy | hy
    · simp only [List.mem_cons, List.not_mem_nil, or_false] at hy
      subst hy
      exact irowK.below hx hb
    · exact irowK.below (h.u.at_ y hy) hb
  · have h2 := hf y hy b h1
    have h3 := (hq.lt b e).1
    omega

/-- Both new rows are put behind. -/
structure New2 (w : World) (a : Nat) (X Y : IRow) : Prop where
  xa : irowK.At w X
  ya : irowK.At w Y
  xo : ∀ b, rowFoot intK X.ao X.l b → a ≤ b
  yo : ∀ b, rowFoot intK Y.ao Y.l b → a ≤ b

theorem New2.below {w w' : World} {a : Nat} {X Y : IRow} (h : New2 w a X Y) (hb : Below w.heap.size w w') : New2 w' a X Y := ⟨irowK.below h.xa hb, irowK.below h.ya hb, h.xo, h.yo⟩

theorem Cut3.putX {w w' : World} {B a : Nat} {F F' T U : Value} {LF LT LU : List IRow} {X Y : IRow} (h : Cut3 w B F T U LF LT LU) (hn : New2 w a X Y) (hfa : ∀ b, F.ownBlock = some b → b < a) (hta : ∀ b, T.ownBlock = some b → b < a)
    (hq : KQ slotK 24 w' B F' (LF ++ [X])) (hk : Kept (fun k => F.ownBlock = some k) w w') (hf : Fresh w F F') :
    Cut3 w' B F' T U (LF ++ [X]) LT LU ∧ irowK.At w' Y ∧ (∀ b, rowFoot intK Y.ao Y.l b → F'.ownBlock ≠ some b ∧ T.ownBlock ≠ some b) ∧ (∀ A, A ≤ B → A ≤ w.heap.size → Below A w w') := by
  refine ⟨h.pushF hq hk hf hn.xa (fun b hb e => ?_) (fun b hb e => ?_), irowK.kept hn.ya hk (fun b hb e => ?_), fun b hb => ⟨fun e => ?_, fun e => ?_⟩, fun A hA hA2 => hk.below hA2 (fun k e => by have := (h.f.out.lt k e).1; omega)⟩
  · have h1 := hn.xo b hb
    have h2 := hfa b e
    omega
  · have h1 := hn.xo b hb
    have h2 := hta b e
    omega
  · have h1 := hn.yo b hb
    have h2 := hfa b e
    omega
  · rcases hf b e with e2 | e2
    · have h1 := hn.yo b hb
      have h2 := hfa b e2
      omega
    · have h1 := hn.ya.1.lt hb
      omega
  · have h1 := hn.yo b hb
    have h2 := hta b e
    omega

theorem fit_of {p : List IRow} {Q : List (List Nat)} (h : lsP p = planI Q) (h1 : Q.length ≤ 1000) (h2 : ∀ r ∈ Q, r.length ≤ 2000) : RowsFit p := by
  refine ⟨by rw [lsP_len h]; exact h1, fun x hx => ?_⟩
  obtain ⟨k, hk⟩ := List.mem_iff_getElem?.1 hx
  have hlt : k < Q.length := by rw [← lsP_len h]; exact (List.getElem?_eq_some_iff.1 hk).1
  obtain ⟨z, e1, e2⟩ := lsP_row h (List.getElem?_eq_getElem hlt)
  rw [hk] at e1
  obtain rfl : x = z := by simpa using e1
  have := h2 _ (List.getElem_mem hlt)
  rw [e2, rowI_len]
  omega

theorem set_short {Q : List (List Nat)} (h : ∀ r ∈ Q, r.length ≤ 1000) (i : Nat) {z : List Nat} (hz : z.length ≤ 1001) : ∀ r ∈ Q.set i z, r.length ≤ 2000 := fun r hr => by
  rcases List.mem_or_eq_of_mem_set hr with hr | rfl
  · have := h r hr; omega
  · omega
end Go.Proofs.Ytkgidmifgfoeiaa
