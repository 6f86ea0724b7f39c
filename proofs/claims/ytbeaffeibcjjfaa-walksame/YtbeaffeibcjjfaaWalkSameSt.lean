/- WalkSame: two graphs side by side, a row that is read, a row that is written. -/
import Derived.Test.YtbeaffeibcjjfaaWalkOpen
import Derived.Test.YtbeaffeibcjjfaaWalkEmit
import Derived.Test.YtbeaffeibcjjfaaWalkLaws
import Derived.Test.YtbeaffeibcjjfaaWalkRows
import Derived.Test.YtbeaffeibcjjfaaWalkWorks
import Derived.Test.YtbeaffeibcjjfaaKindsWhole
namespace Go.Proofs.Ytbeaffeibcjjfaa
open Go Go.RowKit Go.ChangeShapes Go.WideShapes
set_option linter.unusedVariables false

def vtO (x : OpW) : VtxD := ⟨x.id, x.round, x.author, x.ps, false⟩

/-- append(q, xs...): a whole row whose elements reach elsewhere. -/
theorem wpList_joinsF {α : Type} {K : Kind α} {P : Program} {w : World} {ops : Array Oper} {rest : List Oper} {o : Oper} {a : Act} {Q : Exit → Act → World → Prop} (hgd : o.guard = none) (s x : Operand) (t : TypeId)
    (ho : o.op = .call { callee := .builtin .append, args := #[s, x], argTypes := #[t, t] })
    (base : Nat) (e : TypeId) (i : TypeInfo) (z : Value) (bytes : Nat) (ht : P.underlying t = some (.slice e)) (hi : P.info? e = some i) (hz : i.zero = some z)
    (hsize : i.size = K.n) (hby : i.bytes = bytes) (hzs : z.cells.size = K.n)
    (q : Value) (m : List α) (hs : a.eval s = q) (hq : KQ K e w base q []) (hf : ∀ x ∈ m, ∀ b, K.foot x b → q.ownBlock ≠ some b)
    (ao : Option Addr) (c : Nat) (hx : a.eval x = .slice ao m.length c) (hS : RowAt K w ao m)
    (h63 : m.length ≤ maxLen) (hbytes : m.length * bytes ≤ 140737488355328) (hbase : base ≤ w.heap.size)
    (h : ∀ ao' cap' w', KQ K e w' base (.slice ao' m.length cap') m → Kept (fun k => q.ownBlock = some k) w w' → Fresh w q (.slice ao' m.length cap') → wpList P ops Q rest (a.put o.dst (.slice ao' m.length cap')) w') : wpList P ops Q (o :: rest) a w := by
  cases hm : m with
  | nil =>
    subst hm
    obtain ⟨aq, cq, rfl, _, _⟩ := hq.form
    obtain ⟨_, _, eq, hlc, _⟩ := hq.row.form
    simp only [Value.slice.injEq] at eq
    obtain ⟨rfl, _, rfl⟩ := eq
    refine wpList_plain hgd fun K' hK' => ?_
    have hrun := run_append_zero (P := P) w t o.type e i ht hi aq ao 0 cq c hlc
    unfold Oper.wp
    simp [execOp, ho, resolve, invoke, builtin, hs, hx, hrun, Result.andThen]
    exact hK' _ _ (h aq cq w hq (Kept.refl _ _) (Fresh.refl _ _))
  | cons y r =>
    have hpos : 0 < m.length := by rw [hm]; simp
    obtain ⟨g, off, rfl, _, _⟩ := hS.cell 0 y (by rw [hm]; rfl)
    refine wpList_append_q hgd s x t ho base e i z K.n bytes ht hi hz hsize hby hzs K.pos q 0 (flatK K []) hs hq.row ⟨g, off, none⟩ m.length c (flatK K m) hx hpos (flatK_length K m) hS.news (flatK_one K m) (by omega) (by rw [Nat.zero_add]; exact hbytes) hbase ?_
    intro v' w' hrow hgr hfr
    obtain ⟨ao', cap', rfl, _, _⟩ := hrow.form
    have hh := h ao' cap' w'
    rw [Nat.zero_add] at hrow hfr
    have hp := hq.push (m := m) (fun x hx => hS.at_ x hx) hf hpos (by rw [List.length_nil, Nat.zero_add]; exact hrow) hgr hfr
    rw [Nat.zero_add]
    exact hh hp (Kept.of_grown hgr) hfr

/-- The two graphs a and b; a row that is read; a row of the call's own. -/
structure St (W w : World) (ga gb : Nat) (A B : GrD) (ar : Option Addr) (R : List OpW) (q : Value) (Q : List OpW) : Prop where
  bel : Below W.heap.size W w
  ex : ∃ SA SB : Nat → Prop, PG w ga SA A ∧ PG w gb SB B ∧ (∀ k, SA k → W.heap.size ≤ k) ∧ (∀ k, SB k → W.heap.size ≤ k) ∧ (∀ k, SA k → ¬ SB k) ∧
    (∀ k, rowFoot opW ar R k → ¬ SA k ∧ ¬ SB k ∧ q.ownBlock ≠ some k) ∧ (∀ k, q.ownBlock = some k → ¬ SA k ∧ ¬ SB k)
  row : RowAt opW w ar R
  kq : KQ opW 31 w W.heap.size q Q
  lo : ∀ x ∈ R, ∀ b, opW.foot x b → b < W.heap.size
  loQ : ∀ x ∈ Q, ∀ b, opW.foot x b → b < W.heap.size

section
variable {W w w' : World} {ga gb : Nat} {A B : GrD} {ar : Option Addr} {R : List OpW} {q : Value} {Q : List OpW}

theorem St.below (h : St W w ga gb A B ar R q Q) (hb : Below w.heap.size w w') : St W w' ga gb A B ar R q Q := by
  obtain ⟨SA, SB, a, b, c⟩ := h.ex
  exact ⟨h.bel.trans (hb.mono h.bel.size), ⟨SA, SB, a.below hb, b.below hb, c⟩, h.row.below hb, h.kq.below hb, h.lo, h.loQ⟩

theorem St.addA (h : St W w ga gb A B ar R q Q) {x : OpW} (hx : x ∈ R) (hl : x.ps.length ≤ 1000000) :
    Calls Try.prog 8 #[.pointer (some ⟨ga, 0, none⟩), .string x.id, .int .i64 x.round, .int .i64 x.author, .slice x.pa x.ps.length x.pc] w fun e w' => e = .returned (.int .i64 (addEV A x.id x.round x.author x.ps.length : Nat)) ∧ St W w' ga gb (addGV A x.id x.round x.author x.ps) B ar R q Q := by
  obtain ⟨SA, SB, hA, hB, sA, sB, dAB, dR, dq⟩ := h.ex
  have hat : x.At w := h.row.at_ x hx
  refine (pgAdd_any x.id x.round x.author x.pa x.pc x.ps ga SA A w hA hat.id hat.each hat.row (fun b hb hs => by have := h.lo x hx b hb; have := sA b hs; omega) hl).mono ?_
  rintro e w' ⟨S', rfl, hA', hf, hk⟩
  refine ⟨rfl, below_of_kept h.bel sA hk, ⟨S', SB, hA', hB.kept hk (fun k hs ha => dAB k ha hs), fun k hs => ?_, sB, fun k hs hb => ?_, fun k hr => ⟨fun hs => ?_, (dR k hr).2⟩, fun k hq => ⟨fun hs => ?_, (dq k hq).2⟩⟩, h.row.kept hk (fun b hb => (dR b hb).1), h.kq.kept hk (fun k hq => (dq k hq).1) (fun x hx b hb hs => by have := h.loQ x hx b hb; have := sA b hs; omega), h.lo, h.loQ⟩
  · rcases hf k hs with e | e
    · exact sA k e
    · have := h.bel.size; omega
  · rcases hf k hs with e | e
    · exact dAB k e hb
    · have := hB.lt hb; omega
  · rcases hf k hs with e | e
    · exact (dR k hr).1 e
    · have := h.row.lt hr; omega
  · rcases hf k hs with e | e
    · exact (dq k hq).1 e
    · have := (h.kq.lt k hq).2; omega

theorem St.addB (h : St W w ga gb A B ar R q Q) {x : OpW} (hx : x ∈ Q) (hl : x.ps.length ≤ 1000000) :
    Calls Try.prog 8 #[.pointer (some ⟨gb, 0, none⟩), .string x.id, .int .i64 x.round, .int .i64 x.author, .slice x.pa x.ps.length x.pc] w fun e w' => e = .returned (.int .i64 (addEV B x.id x.round x.author x.ps.length : Nat)) ∧ St W w' ga gb A (addGV B x.id x.round x.author x.ps) ar R q Q := by
  obtain ⟨SA, SB, hA, hB, sA, sB, dAB, dR, dq⟩ := h.ex
  have hat : x.At w := h.kq.at_ x hx
  refine (pgAdd_any x.id x.round x.author x.pa x.pc x.ps gb SB B w hB hat.id hat.each hat.row (fun b hb hs => by have := h.loQ x hx b hb; have := sB b hs; omega) hl).mono ?_
  rintro e w' ⟨S', rfl, hB', hf, hk⟩
  refine ⟨rfl, below_of_kept h.bel sB hk, ⟨SA, S', hA.kept hk (fun k ha hs => dAB k ha hs), hB', sA, fun k hs => ?_, fun k ha hs => ?_, fun k hr => ⟨(dR k hr).1, fun hs => ?_, (dR k hr).2.2⟩, fun k hq => ⟨(dq k hq).1, fun hs => ?_⟩⟩, h.row.kept hk (fun b hb => (dR b hb).2.1), h.kq.kept hk (fun k hq => (dq k hq).2) (fun x hx b hb hs => by have := h.loQ x hx b hb; have := sB b hs; omega), h.lo, h.loQ⟩
  · rcases hf k hs with e | e
    · exact sB k e
    · have := h.bel.size; omega
  · rcases hf k hs with e | e
    · exact dAB k ha e
    · have := hA.lt ha; omega
  · rcases hf k hs with e | e
    · exact (dR k hr).2.1 e
    · have := h.row.lt hr; omega
  · rcases hf k hs with e | e
    · exact (dq k hq).2 e
    · have := (h.kq.lt k hq).2; omega

theorem St.push (h : St W w ga gb A B ar R q Q) {q' : Value} {Q' : List OpW} (hq : KQ opW 31 w' W.heap.size q' Q') (hk : Kept (fun k => q.ownBlock = some k) w w') (hf : Fresh w q q') (hl : ∀ x ∈ Q', ∀ b, opW.foot x b → b < W.heap.size) : St W w' ga gb A B ar R q' Q' := by
  obtain ⟨SA, SB, hA, hB, sA, sB, dAB, dR, dq⟩ := h.ex
  refine ⟨below_of_kept h.bel (fun k e => (h.kq.lt k e).1) hk, ⟨SA, SB, hA.kept hk (fun k ha e => (dq k e).1 ha), hB.kept hk (fun k ha e => (dq k e).2 ha), sA, sB, dAB, fun k hr => ⟨(dR k hr).1, (dR k hr).2.1, fun e => ?_⟩, fun k e => ?_⟩, h.row.kept hk (fun b hb => (dR b hb).2.2), hq, h.lo, hl⟩
  · rcases hf k e with e | e
    · exact (dR k hr).2.2 e
    · have := h.row.lt hr; omega
  · rcases hf k e with e | e
    · exact dq k e
    · exact ⟨fun ha => by have := hA.lt ha; omega, fun ha => by have := hB.lt ha; omega⟩

theorem St.newQ (h : St W w ga gb A B ar R q Q) (hb : Below w.heap.size w w') {q' : Value} {Q' : List OpW} (hq : KQ opW 31 w' W.heap.size q' Q') (hge : ∀ k, q'.ownBlock = some k → w.heap.size ≤ k) (hl : ∀ x ∈ Q', ∀ b, opW.foot x b → b < W.heap.size) : St W w' ga gb A B ar R q' Q' := by
  obtain ⟨SA, SB, hA, hB, sA, sB, dAB, dR, dq⟩ := h.ex
  exact ⟨h.bel.trans (hb.mono h.bel.size), ⟨SA, SB, hA.below hb, hB.below hb, sA, sB, dAB, fun k hr => ⟨(dR k hr).1, (dR k hr).2.1, fun e => by have := hge k e; have := h.row.lt hr; omega⟩, fun k e => ⟨fun ha => by have := hge k e; have := hA.lt ha; omega, fun ha => by have := hge k e; have := hB.lt ha; omega⟩⟩, h.row.below hb, hq, h.lo, hl⟩

theorem St.turnR {aq : Option Addr} {n c : Nat} (h : St W w ga gb A B ar R (.slice aq n c) Q) (m : Nat) : St W w ga gb A B aq (Q.take m) (.slice none 0 0) [] := by
  obtain ⟨SA, SB, hA, hB, sA, sB, dAB, dR, dq⟩ := h.ex
  refine ⟨h.bel, ⟨SA, SB, hA, hB, sA, sB, dAB, fun k hr => ?_, fun k e => by cases e⟩, h.kq.rowOf.1.take m, KQ.empty _ _ _ _, fun x hx => h.loQ x (List.mem_of_mem_take hx), fun x hx => by cases hx⟩
  rcases take_foot hr with ⟨_, off, rfl⟩ | ⟨x, hx, hf⟩
  · exact ⟨(dq k rfl).1, (dq k rfl).2, fun e => by cases e⟩
  · have := h.loQ x hx k hf
    exact ⟨fun e => by have := sA k e; omega, fun e => by have := sB k e; omega, fun e => by cases e⟩

theorem St.zero {SA SB : Nat → Prop} (hb : Below W.heap.size W w) (hA : PG w ga SA A) (hB : PG w gb SB B) (sA : ∀ k, SA k → W.heap.size ≤ k) (sB : ∀ k, SB k → W.heap.size ≤ k) (d : ∀ k, SA k → ¬ SB k) : St W w ga gb A B none [] (.slice none 0 0) [] :=
  ⟨hb, ⟨SA, SB, hA, hB, sA, sB, d, fun k hr => (nil_foot hr).elim, fun k e => by cases e⟩, nil_row _ _, KQ.empty _ _ _ _, fun x hx => (by cases hx), fun x hx => (by cases hx)⟩

/-- Both graphs are one: both answer alike. -/
theorem St.both {g : GrD} (h : St W w ga gb g g ar R q Q) (id : ByteArray) : ∃ SA SB : Nat → Prop, PG w ga SA g ∧ ∀ e1 w1, GotEmit w ga SA g id e1 w1 → ∃ (l m : List ByteArray) (al : Option Addr) (cl : Nat) (am : Option Addr) (cm : Nat), e1 = .returned (.tuple #[.slice al l.length cl, .slice am m.length cm]) ∧ PG w1 gb SB g ∧
    ∀ e2 w2, GotEmit w1 gb SB g id e2 w2 → ∃ (al2 : Option Addr) (cl2 : Nat) (am2 : Option Addr) (cm2 : Nat) (g' : GrD), e2 = .returned (.tuple #[.slice al2 l.length cl2, .slice am2 m.length cm2]) ∧ RowAt textK w2 al l ∧ RowAt textK w2 am m ∧ RowAt textK w2 al2 l ∧ RowAt textK w2 am2 m ∧ l.length ≤ maxLen ∧ m.length ≤ maxLen ∧ St W w2 ga gb g' g' ar R q Q := by
  obtain ⟨SA, SB, hA, hB, sA, sB, dAB, dR, dq⟩ := h.ex
  refine ⟨SA, SB, hA, ?_⟩
  rintro e1 w1 ⟨l, m, al, cl, am, cm, rfl, hm, hl1, hm1, hk1, hc1⟩
  refine ⟨l, m, al, cl, am, cm, rfl, hB.kept hk1 (fun k hs ha => dAB k ha hs), ?_⟩
  rintro e2 w2 ⟨l2, m2, al2, cl2, am2, cm2, rfl, hm', hl2, hm2, hk2, hc2⟩
  obtain rfl : m2 = m := hm'.same hm
  have hlow : ∀ k, SB k → k < w.heap.size := fun k e => hB.lt e
  have oL : RowAt textK w2 al l := (hl1.rowOf.1).kept hk2 (fun b hb hs => by
    have := KQ.foot_ge hl1 (Nat.le_refl _) (fun _ _ _ h => h.elim) b hb
    have := hlow b hs
    omega)
  have oM : RowAt textK w2 am m2 := (hm1.rowOf.1).kept hk2 (fun b hb hs => by
    have := KQ.foot_ge hm1 (Nat.le_refl _) (fun _ _ _ h => h.elim) b hb
    have := hlow b hs
    omega)
  have b1 := below_of_kept h.bel sA hk1
  have b2 := below_of_kept b1 sB hk2
  have fin : ∀ g', PG w1 ga SA g' → PG w2 gb SB g' → St W w2 ga gb g' g' ar R q Q := fun g' p1 p2 =>
    ⟨b2, ⟨SA, SB, p1.kept hk2 (fun k ha hs => dAB k ha hs), p2, sA, sB, dAB, dR, dq⟩, (h.row.kept hk1 (fun b hb => (dR b hb).1)).kept hk2 (fun b hb => (dR b hb).2.1),
      (h.kq.kept hk1 (fun k hq => (dq k hq).1) (fun x hx b hb hs => by have := h.loQ x hx b hb; have := sA b hs; omega)).kept hk2 (fun k hq => (dq k hq).2) (fun x hx b hb hs => by have := h.loQ x hx b hb; have := sB b hs; omega), h.lo, h.loQ⟩
  have hml := hm1.capOf
  have hll := hl1.capOf
  rcases hc1 with ⟨rfl, rfl, p1⟩ | ⟨hne, rfl, p1⟩
  · rcases hc2 with ⟨_, rfl, p2⟩ | ⟨hne, _, _⟩
    · exact ⟨al2, cl2, am2, cm2, _, rfl, oL, oM, hl2.rowOf.1, hm2.rowOf.1, by omega, by omega, fin _ p1 p2⟩
    · exact (hne rfl).elim
  · rcases hc2 with ⟨e, _, _⟩ | ⟨_, rfl, p2⟩
    · exact (hne e).elim
    · exact ⟨al2, cl2, am2, cm2, _, rfl, oL, oM, hl2.rowOf.1, hm2.rowOf.1, by omega, by omega, fin _ p1 p2⟩

/-- Two elements of the row change places. -/
theorem St.swap {ao : Option Addr} {n cap : Nat} (h : St W w ga gb A B ar R (.slice ao n cap) Q) {i j : Nat} {c e : OpW} (hc : Q[i]? = some c) (he : Q[j]? = some e) :
    ∃ g off, ao = some ⟨g, off, none⟩ ∧ g < w.heap.size ∧ (∀ o, w.frozen? ⟨g, o, none⟩ = false) ∧ (∀ m u, (opW.c e)[m]? = some u → w.cell? ⟨g, off + j * 5 + m, none⟩ = some u) ∧ (∀ m u, (opW.c c)[m]? = some u → w.cell? ⟨g, off + i * 5 + m, none⟩ = some u) ∧
      St W ((w.setCells g (off + i * 5) (opW.c e)).setCells g (off + j * 5) (opW.c c)) ga gb A B ar R (.slice ao n cap) ((Q.set i e).set j c) := by
  have hcm := List.mem_of_getElem? hc
  have hem := List.mem_of_getElem? he
  obtain ⟨g, off, rfl, q2, q3, q4, q5, q6⟩ := h.kq.setWhole hc
  have hown : (Value.slice (some ⟨g, off, none⟩) n cap).ownBlock = some g := rfl
  have h1 := q6 e (h.kq.at_ e hem) (fun b hb e' => h.kq.off e hem b hb (by rw [hown, e']))
  have hj := (List.getElem?_eq_some_iff.1 he).1
  obtain ⟨z, hz⟩ : ∃ z, (Q.set i e)[j]? = some z := ⟨_, List.getElem?_eq_getElem (by rw [List.length_set]; exact hj)⟩
  obtain ⟨g', off', r1, r2, r3, r4, r5, r6⟩ := h1.setWhole hz
  simp only [Option.some.injEq, Addr.mk.injEq, and_true] at r1
  obtain ⟨rfl, rfl⟩ := r1
  have kk := setCells_kept g (opW.c e) (off + i * opW.n) w
  have h2 := r6 c (Kind.kept opW (h.kq.at_ c hcm) kk (fun b hb e' => h.kq.off c hcm b hb (by rw [hown, e']))) (fun b hb e' => h.kq.off c hcm b hb (by rw [hown, e']))
  have hmem : ∀ y, y ∈ (Q.set i e).set j c → y ∈ Q := fun y hy => by
    rcases List.mem_or_eq_of_mem_set hy with hy | rfl
    · rcases List.mem_or_eq_of_mem_set hy with hy | rfl
      · exact hy
      · exact hem
    · exact hcm
  obtain ⟨g2, off2, s1, _, _, s4, _, _⟩ := h.kq.setWhole he
  simp only [Option.some.injEq, Addr.mk.injEq, and_true] at s1
  obtain ⟨rfl, rfl⟩ := s1
  have hkk := kk.trans (setCells_kept g (opW.c c) (off + j * opW.n) _)
  exact ⟨g, off, rfl, q3, q5, s4, q4, h.push h2 (hkk.mono (fun k _ e' => by have e'' : k = g := e'; rw [e'']; rfl)) (Fresh.refl _ _) (fun y hy => h.loQ y (hmem y hy))⟩

theorem swap_perm {α : Type} (l : List α) (i j : Nat) (c e : α) (hc : l[i]? = some c) (he : l[j]? = some e) : ((l.set i e).set j c).Perm l := by
  obtain ⟨hi, rfl⟩ := List.getElem?_eq_some_iff.1 hc
  obtain ⟨hj, rfl⟩ := List.getElem?_eq_some_iff.1 he
  exact List.set_set_perm hi hj
end
end Go.Proofs.Ytbeaffeibcjjfaa
