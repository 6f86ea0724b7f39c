/- CertVotes: for every input the statement answers true, and each argument reads afterwards as it read before. Condition: the two tables of package mix read as the program's text lays them; no other. -/
import Derived.Test.YtjebfkgigijnhaaDoorKinds
import Derived.Test.YtjebfkgigijnhaaDoorCertRows
import Derived.Test.YtjebfkgigijnhaaDoorHdrOwn
import Derived.Deep.RegionHeld3
import Derived.Test.YtjebfkgigijnhaaDoorHdrCheck
import Derived.Test.YtjebfkgigijnhaaDoorHdrRows
import Derived.Deep.QuietTactic
import Derived.BigQuiet
import Derived.Test.YtjebfkgigijnhaaDoorHdrWorks
import Derived.Test.YtjebfkgigijnhaaDoorRefHdrSame
import Derived.Test.YtjebfkgigijnhaaDoorTagJ
import Derived.Test.YtjebfkgigijnhaaDoorCertWorks
import Derived.Test.YtjebfkgigijnhaaDoorCertDecode
import Derived.Test.YtjebfkgigijnhaaDoorCertEncode
import Derived.Test.YtjebfkgigijnhaaDoorCertCheck
import Derived.Test.YtjebfkgigijnhaaDoorCertSame
import Derived.Test.YtjebfkgigijnhaaDoorKindsSet
import Derived.BigRegion
import Derived.Test.YtjebfkgigijnhaaDoorHdrOpen
import Derived.Test.YtjebfkgigijnhaaDoorMixAll
import Derived.Test.YtjebfkgigijnhaaDoorCards
import Derived.Test.YtjebfkgigijnhaaDoorTie
import Derived.SevenTiedAt
/- append(q, xs...) of a row's elements, q an empty row of the call's own: nothing but q's block and new ones is turned. -/
namespace Go.Proofs.YtjebfkgigijnhaaDoor
open Go.RowKit
set_option linter.unusedVariables false

section
variable {α : Type} {K : Kind α}

/-- As an equation of the run. -/
theorem run_copyK {P : Program} (w : World) (t ty : TypeId) (base : Nat) (e : TypeId) (i : TypeInfo) (z : Value) (bytes : Nat) (ht : P.underlying t = some (.slice e)) (hi : P.info? e = some i) (hz : i.zero = some z)
    (hsize : i.size = K.n) (hby : i.bytes = bytes) (hzs : z.cells.size = K.n)
    (v : Value) (hown : w.ownsRow base e K.n v 0 []) (ao : Option Addr) (cap : Nat) (l : List α)
    (hS : RowAt K w ao l) (hf : ∀ x b, ¬ K.foot x b) (hnil : ao = none → cap = 0) (hm : l.length ≤ maxLen) (hlen : l.length * bytes ≤ 140737488355328) (hbase : base ≤ w.heap.size) :
    ∃ ao' cap' w', (Builtin.append_ #[t, t] ty #[v, .slice ao l.length cap]).run P w = .ok (.slice ao' l.length cap') w' ∧ KQ K e w' base (.slice ao' l.length cap') l ∧ Kept (fun k => v.ownBlock = some k) w w' := by
  cases ao with
  | none =>
    have hc0 := hnil rfl
    subst hc0
    have hss : l = [] := by
      cases l with
      | nil => rfl
      | cons y r => obtain ⟨_, _, e, _⟩ := hS.cell 0 y rfl; cases e
    subst hss
    have hrun := run_append_owned_none (P := P) (w := w) base t ty e i K.n ht hi v 0 [] hown
    have hq := QRow.of_own hown
    rcases hown.2 with ⟨hv, _⟩ | ⟨g, c, cur, hv, _⟩
    · rw [hv] at hrun ⊢
      exact ⟨none, 0, w, hrun, KQ.empty K e w base, Kept.refl _ _⟩
    · rw [hv] at hrun hq hown ⊢
      exact ⟨_, c, w, hrun, ⟨hq, (fun x hx => by cases hx), (fun x hx => by cases hx), (fun k hk => ⟨(hown.lt k hk).1, (hown.lt k hk).2⟩), (fun n cap e => by cases e)⟩, Kept.refl _ _⟩
  | some ad =>
    obtain ⟨v', w', hrun, hown', hgrow, _⟩ := run_append_own (P := P) w base t ty e i z K.n bytes ht hi hz hsize hby hzs K.pos v 0 [] hown ad l.length cap (flatK K l) (flatK_length K l) hS.news (flatK_one K l) (by omega) (by rw [Nat.zero_add]; exact hlen) hbase
    rw [Nat.zero_add, List.nil_append] at hown'
    have hk := Kept.of_grown hgrow
    have hA : ∀ x ∈ l, K.At w' x := fun x hx => K.kept (hS.at_ x hx) hk (fun b hb' => absurd hb' (hf x b))
    have hq := QRow.of_own hown'
    obtain ⟨ao', cap', rfl, hlc, _⟩ := hq.form
    refine ⟨ao', cap', w', hrun, ⟨hq, hA, fun x hx b hb => absurd hb (hf x b), fun k hk => ⟨(hown'.lt k hk).1, (hown'.lt k hk).2⟩, ?_⟩, hk⟩
    intro n c he
    rcases hown'.2 with ⟨hv, _⟩ | ⟨g, c', cur, hv, _⟩
    · rw [hv] at he
      simp at he
      omega
    · rw [hv] at he
      cases he

/-- The same, at a step of a region that draws its order. -/
theorem step_copyK {P : Program} (w : World) {ops : Array Oper} {o : Oper} {a : Act} {C : Act → World → Prop} {Q : Exit → Act → World → Prop} {E : Prop} (hgd : o.guard = none) (s x : Operand) (t : TypeId)
    (ho : o.op = .call { callee := .builtin .append, args := #[s, x], argTypes := #[t, t] })
    (base : Nat) (e : TypeId) (i : TypeInfo) (z : Value) (bytes : Nat) (ht : P.underlying t = some (.slice e)) (hi : P.info? e = some i) (hz : i.zero = some z)
    (hsize : i.size = K.n) (hby : i.bytes = bytes) (hzs : z.cells.size = K.n)
    (v : Value) (hs : a.eval s = v) (hown : w.ownsRow base e K.n v 0 []) (ao : Option Addr) (cap : Nat) (l : List α) (hx : a.eval x = .slice ao l.length cap)
    (hS : RowAt K w ao l) (hf : ∀ x b, ¬ K.foot x b) (hnil : ao = none → cap = 0) (hm : l.length ≤ maxLen) (hlen : l.length * bytes ≤ 140737488355328) (hbase : base ≤ w.heap.size)
    (h : ∀ ao' cap' w', KQ K e w' base (.slice ao' l.length cap') l → Kept (fun k => v.ownBlock = some k) w w' → C (a.put o.dst (.slice ao' l.length cap')) w') : if Region.wanted o (yielded ops a.tmps) = true then Oper.wp P o a w C Q else E := by
  rw [if_pos (by simp [Region.wanted, hgd])]
  obtain ⟨ao', cap', w', hrun, r1, r2⟩ := run_copyK (K := K) (P := P) w t o.type base e i z bytes ht hi hz hsize hby hzs v hown ao cap l hS hf hnil hm hlen hbase
  unfold Oper.wp
  simp [execOp, ho, resolve, invoke, builtin, hs, hx, hrun, Result.andThen]
  exact h ao' cap' w' r1 r2
end
end Go.Proofs.YtjebfkgigijnhaaDoor

/- What tusklaw07.Own does: a certificate that shares nothing; nothing old in memory is turned. -/
namespace Go.Proofs.YtjebfkgigijnhaaDoor
open Go.RowKit
set_option linter.unusedVariables false

theorem results_certO {fn : Func} {p : Tmp} (h : fn.results = #[.cell p 28]) (tmps : Array Value) (w : World) (g : Nat) (x : CertM)
    (hp : tmps.getD p undef = .pointer (some ⟨g, 0, none⟩)) (hg : Arr w g 28 x.c) :
    (results fn tmps).run Tryd.prog w = .ok x.v w :=
  results_cell_row h tmps w g 28 x.c.toArray (0, 0) _ hp hg Tryd.underlying28 rfl infoCert7

/-- A certificate that shares nothing is handed back. -/
def GotOwnC (W : World) (x : CertM) (e : Ending) (w : World) : Prop :=
  ∃ y : CertM, e = .returned y.v ∧ y.d = x.d ∧ y.At w ∧ (∀ b, y.foot b → W.heap.size ≤ b) ∧ Below W.heap.size W w

theorem ownEmpty (w : World) : (w.alloc (.cells #[] 47)).ownsRow w.heap.size 47 tagK.n (.slice (some ⟨w.heap.size, 0, none⟩) 0 0) 0 [] := World.ownsRow_made w #[] 0 (Nat.le_refl _) (by unfold maxLen; omega) (by simp)

theorem own_belowC {B : Nat} {e : TypeId} {k : Nat} {v : Value} {n : Nat} {xs : List Value} {w w' : World} (h : w.ownsRow B e k v n xs) (hb : Below w.heap.size w w') : w'.ownsRow B e k v n xs := by
  refine ⟨h.1, ?_⟩
  rcases h.2 with h0 | ⟨g, cap, cur, hv, hB, hg, r⟩
  · exact Or.inl h0
  · have hl : g < w.heap.size := (Array.getElem?_eq_some_iff.1 hg).1
    exact Or.inr ⟨g, cap, cur, hv, hB, by rw [hb.block g hl]; exact hg, r⟩

set_option maxRecDepth 100000 in
set_option maxHeartbeats 4000000 in
theorem own7_any (x : CertM) (w : World) (hA : x.At w) (hL : x.hdr.Lens) (hv : x.votes.length * 24 ≤ 140737488351232) :
    Calls Tryd.prog 10 #[x.v] w fun e w' => GotOwnC w x e w' := by
  obtain ⟨h, va, vs, vc⟩ := x
  obtain ⟨hX, hZ, hB⟩ := two_new w 28 28 [.int .i64 h.author, .int .i64 h.round, .slice h.ra h.refs.length h.rc, .slice h.pa h.parents.length h.pc, .slice va vs.length vc] [.int .i64 0, .int .i64 0, .slice none 0 0, .slice none 0 0, .slice none 0 0]
  obtain ⟨i1, hi, hz0, hz1, hz2⟩ := info_parts infoTag6
  have hA1 := hA.below hB
  have hh1 : h.At _ := hA1.hdr
  have hv1 : RowAt tagK _ va vs := hA1.votes
  have hnv : va = none → vc = 0 := hA.nv
  obtain ⟨w1, hw1⟩ : ∃ q, (w.alloc (.cells [.int .i64 h.author, .int .i64 h.round, .slice h.ra h.refs.length h.rc, .slice h.pa h.parents.length h.pc, .slice va vs.length vc].toArray 28)).alloc (.cells [.int .i64 0, .int .i64 0, .slice none 0 0, .slice none 0 0, .slice none 0 0].toArray 28) = q := ⟨_, rfl⟩
  rw [hw1] at hX hZ hB hh1 hv1
  clear hA hA1
  unfold CertM.v
  simp only
  go_enter Tryd.func10, Tryd.ntmps10
  have cO := fun w2 h2 => own6_any h w2 h2 hL
  unfold HdrM.v at cO
  have hkp : ∀ U, Kept (fun k => k = w.heap.size + 1) w1 U → (U.cell? ⟨w.heap.size, 0, none⟩ = some (.int .i64 h.author) ∧ U.cell? ⟨w.heap.size, 1, none⟩ = some (.int .i64 h.round) ∧ U.cell? ⟨w.heap.size, 2, none⟩ = some (.slice h.ra h.refs.length h.rc) ∧ U.cell? ⟨w.heap.size, 3, none⟩ = some (.slice h.pa h.parents.length h.pc) ∧ U.cell? ⟨w.heap.size, 4, none⟩ = some (.slice va vs.length vc)) := fun U hU => by
    have hn : w.heap.size ≠ w.heap.size + 1 := by omega
    have h := hX.kept hU hn
    exact ⟨h.cell (i := 0) rfl, h.cell (i := 1) rfl, h.cell (i := 2) rfl, h.cell (i := 3) rfl, h.cell (i := 4) rfl⟩
  have bd : Below w1.heap.size w1 w1.drew := below_drewN (Below.refl _ w1) 1
  have be : Below w1.heap.size w1 (w1.drew.alloc (.cells #[] 47)) := bd.alloc (Nat.le_refl _) _
  have hd : h.At w1.drew := hh1.below bd
  have he : h.At (w1.drew.alloc (.cells #[] 47)) := hh1.below be
  have kd : Kept (fun k => k = w.heap.size + 1) w1 w1.drew := Kept.of_below bd
  have ke : Kept (fun k => k = w.heap.size + 1) w1 (w1.drew.alloc (.cells #[] 47)) := Kept.of_below be
  have hoE := ownEmpty w1.drew
  have hv' : vs.length * 24 ≤ 140737488351232 := hv
  have n1 : vs.length ≤ maxLen := by unfold maxLen; omega
  have n2 : vs.length * 24 ≤ 140737488355328 := by omega
  have hS0 := hkp _ kd
  have h1z := hZ.lt
  go_wp2_with fail
  clear hw1
  go_region_held3 (fun w' => w'.cell? ⟨w.heap.size, 0, none⟩ = some (.int .i64 h.author) ∧ w'.cell? ⟨w.heap.size, 1, none⟩ = some (.int .i64 h.round) ∧ w'.cell? ⟨w.heap.size, 2, none⟩ = some (.slice h.ra h.refs.length h.rc) ∧ w'.cell? ⟨w.heap.size, 3, none⟩ = some (.slice h.pa h.parents.length h.pc) ∧ w'.cell? ⟨w.heap.size, 4, none⟩ = some (.slice va vs.length vc)) (exact hkp _ (by assumption))
    (first
    | (go_at_call 26; refine (cO _ hd).mono ?_; rintro e w2 ⟨y, rfl, hyd, hy, hyf, hb2⟩; unfold HdrM.v; have bA : Below w1.heap.size w1 w2 := bd.trans hb2; have kA : Kept (fun k => k = w.heap.size + 1) w1 w2 := Kept.of_below bA; have bE := bA.alloc bA.size (.cells #[] 47); have kE : Kept (fun k => k = w.heap.size + 1) w1 _ := Kept.of_below bE; have hv2 := hv1.below bE; have ho2 := ownEmpty w2; have hbs2 := (belowNew w2 (.cells #[] 47)).size; have hyE := hy.below (belowNew w2 (.cells #[] 47)))
    | (go_at_call 26; refine (cO _ he).mono ?_; rintro e w2 ⟨y, rfl, hyd, hy, hyf, hb2⟩; unfold HdrM.v; have bA : Below w1.heap.size w1 w2 := be.trans (hb2.mono be.size); have kA : Kept (fun k => k = w.heap.size + 1) w1 w2 := Kept.of_below bA; have hv2 := hv1.below bA; have ho3 := own_belowC hoE hb2; have hbs3 : w1.heap.size ≤ w2.heap.size := bA.size)
    | (refine step_copyK (K := tagK) _ (by rfl) _ _ 26 (by rfl) w2.heap.size 47 i1 _ 24 Tryd.underlying26 hi hz0 hz1 hz2 rfl _ (by rfl) ho2 va vc vs (by rfl) hv2 (fun _ _ h => h.elim) hnv n1 n2 hbs2 ?_; intro ao3 cap3 w3 hq3 hk3; have bF : Below w1.heap.size w1 w3 := bE.trans (Kept.below hk3 bE.size (fun k hk => by have := (ho2.lt k hk).1; have := bA.size; omega)); have kF : Kept (fun k => k = w.heap.size + 1) w1 w3 := Kept.of_below bF; have hy3 := Kind.kept hdrK hyE hk3 (fun b hb e => by have := (ho2.lt b e).1; have := Kind.lt hdrK hy hb; omega); have hZ3 := hZ.below bF hZ.lt; have z0 := hZ3.cell (i := 0) rfl; have z1 := hZ3.cell (i := 1) rfl; have z2 := hZ3.cell (i := 2) rfl; have z3 := hZ3.cell (i := 3) rfl; have z4 := hZ3.cell (i := 4) rfl; have g0 := hZ3.frozen 0; have g1 := hZ3.frozen 1; have g2 := hZ3.frozen 2; have g3 := hZ3.frozen 3; have g4 := hZ3.frozen 4; have kG := kF.trans (kept_set5 w3 (w.heap.size + 1) (.int .i64 y.author) (.int .i64 y.round) (.slice y.ra y.refs.length y.rc) (.slice y.pa y.parents.length y.pc) (.slice ao3 vs.length cap3)))
    | (refine step_copyK (K := tagK) _ (by rfl) _ _ 26 (by rfl) w1.heap.size 47 i1 _ 24 Tryd.underlying26 hi hz0 hz1 hz2 rfl _ (by rfl) ho3 va vc vs (by rfl) hv2 (fun _ _ h => h.elim) hnv n1 n2 hbs3 ?_; intro ao3 cap3 w3 hq3 hk3; have bF : Below w1.heap.size w1 w3 := bA.trans (Kept.below hk3 bA.size (fun k hk => (ho3.lt k hk).1)); have kF : Kept (fun k => k = w.heap.size + 1) w1 w3 := Kept.of_below bF; have hy3 := Kind.kept hdrK hy hk3 (fun b hb e => by have h1 := hyf b hb; rw [alloc_size] at h1; have h2 : w1.heap.size + 1 ≤ b := h1; simp [Value.ownBlock] at e; omega); have hZ3 := hZ.below bF hZ.lt; have z0 := hZ3.cell (i := 0) rfl; have z1 := hZ3.cell (i := 1) rfl; have z2 := hZ3.cell (i := 2) rfl; have z3 := hZ3.cell (i := 3) rfl; have z4 := hZ3.cell (i := 4) rfl; have g0 := hZ3.frozen 0; have g1 := hZ3.frozen 1; have g2 := hZ3.frozen 2; have g3 := hZ3.frozen 3; have g4 := hZ3.frozen 4; have kG := kF.trans (kept_set5 w3 (w.heap.size + 1) (.int .i64 y.author) (.int .i64 y.round) (.slice y.ra y.refs.length y.rc) (.slice y.pa y.parents.length y.pc) (.slice ao3 vs.length cap3))))
  all_goals
    have hyl : ∀ b, y.foot b → w1.heap.size ≤ b := fun b hb => Nat.le_trans (by first | exact Nat.le_refl _ | (rw [alloc_size]; exact Nat.le_succ _)) (hyf b hb)
    obtain ⟨ao4, cap4, e4, hn4, hrow3⟩ := hq3.form
    simp only [Value.slice.injEq, true_and] at e4
    obtain ⟨rfl, rfl⟩ := e4
    have hql : ∀ b, rowFoot tagK ao3 vs b → w1.heap.size ≤ b := fun b hb => Nat.le_trans (by first | exact Nat.le_refl _ | exact bA.size) (hq3.foot_ge (Nat.le_refl _) (fun _ _ _ h => h.elim) b hb)
    have hZF := hZ3.set5 (.int .i64 y.author) (.int .i64 y.round) (.slice y.ra y.refs.length y.rc) (.slice y.pa y.parents.length y.pc) (.slice ao3 vs.length cap3)
    have k5 := kept_set5 w3 (w.heap.size + 1) (.int .i64 y.author) (.int .i64 y.round) (.slice y.ra y.refs.length y.rc) (.slice y.pa y.parents.length y.pc) (.slice ao3 vs.length cap3)
    have hyF := Kind.kept hdrK hy3 k5 (fun b hb e => by have := hyl b hb; have e' : b = w.heap.size + 1 := e; omega)
    have hqF := hrow3.kept k5 (fun b hb e => by have := hql b hb; have e' : b = w.heap.size + 1 := e; omega)
    have bG := below_set5 (hB.trans (bF.mono hB.size)) (g := w.heap.size + 1) (Nat.le_succ _) (.int .i64 y.author) (.int .i64 y.round) (.slice y.ra y.refs.length y.rc) (.slice y.pa y.parents.length y.pc) (.slice ao3 vs.length cap3)
    have fin : ∀ e, e = .returned (CertM.v ⟨y, ao3, vs, cap3⟩) → GotOwnC w ⟨h, va, vs, vc⟩ e _ := fun e hv => ⟨⟨y, ao3, vs, cap3⟩, hv, (by show (⟨y.d, vs⟩ : CertD) = ⟨h.d, vs⟩; rw [hyd]), ⟨hyF, hqF, hn4⟩, (fun b hb => hb.elim (fun h => by have := hyl b h; have := hB.size; omega) (fun h => by have := hql b h; have := hB.size; omega)), bG⟩
    unfold set5 at hZF fin
    clear hkp hS0 hd he kd ke hoE cO hyl hql k5 hyF hqF bG hrow3 hq3 hk3
    try go_wp2
    refine bodyPost_ret (v := CertM.v ⟨y, ao3, vs, cap3⟩) (results_certO rfl _ _ (w.heap.size + 1) ⟨y, ao3, vs, cap3⟩ rfl hZF) rfl ?_
    exact fin _ rfl
end Go.Proofs.YtjebfkgigijnhaaDoor

/- A header that is right is plain; without acks, or with parents turned, it is not right. -/
namespace Go.Proofs.YtjebfkgigijnhaaDoor
open Go.RowKit
set_option linter.unusedVariables false

theorem digE_zero {d a : ByteArray} (h : digE d a = 0) : d.size = 32 ∧ leB d a = false := by
  unfold digE at h
  by_cases h1 : d.size ≠ 32
  · rw [if_pos h1] at h; omega
  · rw [if_neg h1] at h
    cases hl : leB d a with
    | true => rw [if_pos hl] at h; omega
    | false => exact ⟨by omega, rfl⟩

theorem risP_zero : ∀ (l : List ByteArray) (a : ByteArray), risP a l = 0 → ∀ p ∈ l, p.size = 32
  | [], _, _, p, hp => by cases hp
  | k :: r, a, h, p, hp => by
    rw [risP] at h
    by_cases hd : digE k a ≠ 0
    · rw [if_pos hd] at h; omega
    · rw [if_neg hd] at h
      rcases List.mem_cons.1 hp with rfl | hp
      · exact (digE_zero (d := p) (a := a) (by omega)).1
      · exact risP_zero r k h p hp

theorem refP_zero {en : List TagD → ByteArray → Nat} : ∀ (l : List RefD) (a : ByteArray), refP en a l = 0 → ∀ x ∈ l, x.digest.size = 32 ∧ en x.acks x.digest = 0
  | [], _, _, p, hp => by cases hp
  | k :: r, a, h, p, hp => by
    rw [refP] at h
    by_cases hd : digE k.digest a ≠ 0
    · rw [if_pos hd] at h; omega
    · rw [if_neg hd] at h
      by_cases he : en k.acks k.digest ≠ 0
      · rw [if_pos he] at h; omega
      · rw [if_neg he] at h
        rcases List.mem_cons.1 hp with rfl | hp
        · exact ⟨(digE_zero (d := p.digest) (a := a) (by omega)).1, by omega⟩
        · exact refP_zero r k.digest h p hp

/-- A Ref's acks are others: the first that is wrong. -/
theorem refP_set {en : List TagD → ByteArray → Nat} : ∀ (l : List RefD) (a : ByteArray) (i : Nat) (x y : RefD), refP en a l = 0 → l[i]? = some x → y.digest = x.digest → en y.acks y.digest ≠ 0 → refP en a (l.set i y) = en y.acks y.digest
  | [], _, _, _, _, _, h, _, _ => by simp at h
  | k :: r, a, 0, x, y, h, hx, hd, hn => by
    simp at hx
    subst hx
    rw [refP] at h
    by_cases h1 : digE k.digest a ≠ 0
    · rw [if_pos h1] at h; omega
    · rw [List.set_cons_zero, refP, hd, if_neg h1, if_pos (by rw [← hd]; exact hn)]
  | k :: r, a, i + 1, x, y, h, hx, hd, hn => by
    rw [refP] at h
    by_cases h1 : digE k.digest a ≠ 0
    · rw [if_pos h1] at h; omega
    · rw [if_neg h1] at h
      by_cases he : en k.acks k.digest ≠ 0
      · rw [if_pos he] at h; omega
      · rw [if_neg he] at h
        rw [List.set_cons_succ, refP, if_neg h1, if_neg he]
        exact refP_set r k.digest i x y h (by simpa using hx) hd hn

theorem go_zero {ks : List ByteArray} {kind word : ByteArray} : ∀ (l : List (Int × ByteArray)) (ahead : Int), -1 ≤ ahead → Mx.enoughGo ks kind word ahead l = 0 → (l = [] ∨ (l.length : Int) + ahead + 1 ≤ ks.length) ∧ ∀ x ∈ l, 0 ≤ x.1 ∧ x.1 < ks.length ∧ x.2.size = 16
  | [], _, _, _ => ⟨Or.inl rfl, fun x hx => by cases hx⟩
  | x :: l, ahead, ha, h => by
    rw [Mx.enoughGo] at h
    by_cases he : Mx.tagErr ks kind word ahead x = 0
    · rw [if_pos he] at h
      unfold Mx.tagErr at he
      by_cases h1 : x.1 < 0 ∨ (ks.length : Int) ≤ x.1
      · rw [if_pos h1] at he; omega
      rw [if_neg h1] at he
      by_cases h2 : x.1 ≤ ahead
      · rw [if_pos h2] at he; omega
      rw [if_neg h2] at he
      by_cases h3 : x.2 = Mx.macOf (ks.getD x.1.toNat ⟨#[]⟩) kind word
      · obtain ⟨i1, i2⟩ := go_zero l x.1 (by omega) h
        refine ⟨Or.inr ?_, fun y hy => ?_⟩
        · rw [List.length_cons]
          rcases i1 with rfl | i1
          · simp; omega
          · omega
        · rcases List.mem_cons.1 hy with rfl | hy
          · exact ⟨by omega, by omega, by rw [h3]; exact Mx.macOf_size _ _ _⟩
          · exact i2 y hy
      · rw [if_neg h3] at he; omega
    · rw [if_neg he] at h
      exact absurd h he

theorem go_take {ks : List ByteArray} {kind word : ByteArray} : ∀ (l : List (Int × ByteArray)) (ahead : Int) (m : Nat), Mx.enoughGo ks kind word ahead l = 0 → Mx.enoughGo ks kind word ahead (l.take m) = 0
  | [], _, m, _ => by simp [Mx.enoughGo]
  | x :: l, ahead, 0, _ => by simp [Mx.enoughGo]
  | x :: l, ahead, m + 1, h => by
    rw [Mx.enoughGo] at h
    rw [List.take_succ_cons, Mx.enoughGo]
    by_cases he : Mx.tagErr ks kind word ahead x = 0
    · rw [if_pos he] at h ⊢
      exact go_take l x.1 m h
    · rw [if_neg he] at h
      exact absurd h he

theorem pairT_take (l : List TagD) (m : Nat) : pairT (l.take m) = (pairT l).take m := by simp [pairT, List.map_take]

/-- Tags that are enough: how many, and of which form. -/
theorem enT_zero {ks : List ByteArray} {f : Nat} {l : List TagD} {d : ByteArray} (hk : ks.length = 3 * f + 1) (hf : f ≤ 2) (h : enT ks f l d = 0) : 2 * f + 1 ≤ l.length ∧ l.length ≤ 7 ∧ (∀ t ∈ l, t.Fit) ∧ enT ks f (l.take (2 * f)) d = 12 := by
  unfold enT Mx.enoughL at h
  by_cases h0 : Mx.enoughGo ks ackW d (-1) (pairT l) = 0
  · rw [if_pos h0] at h
    by_cases h1 : (pairT l).length < 2 * f + 1
    · rw [if_pos h1] at h; omega
    · rw [pairT_length] at h1
      obtain ⟨i1, i2⟩ := go_zero (pairT l) (-1) (by omega) h0
      refine ⟨by omega, ?_, fun t ht => ?_, ?_⟩
      · rcases i1 with e | i1
        · have := congrArg List.length e
          rw [pairT_length] at this
          simp at this
          rw [this]
          simp
        · rw [pairT_length] at i1
          omega
      · have := i2 (t.who, t.mac) (List.mem_map.2 ⟨t, ht, rfl⟩)
        exact ⟨this.1, by have := this.2.1; simp only at this; omega, this.2.2⟩
      · unfold enT Mx.enoughL
        rw [pairT_take, if_pos (go_take _ _ _ h0), if_pos (by rw [List.length_take, pairT_length]; omega)]
  · rw [if_neg h0] at h
    exact absurd h h0

theorem less_eqH : ∀ (x y : List UInt8), Op.bytesLess x y = decide (x < y)
  | [], [] => by simp [Op.bytesLess]
  | _ :: _, [] => by simp [Op.bytesLess]
  | [], _ :: _ => by simp [Op.bytesLess]
  | a :: x, b :: y => by
    rw [Op.bytesLess, less_eqH x y]
    simp only [List.cons_lt_cons_iff]
    by_cases h1 : a < b <;> by_cases h2 : a = b <;> by_cases h3 : x < y <;> simp [h1, h2, h3]

theorem less_total {x y : List UInt8} (h : (Op.bytesLess x y || x == y) = false) : (Op.bytesLess y x || y == x) = true := by
  rw [Bool.or_eq_false_iff] at h
  rw [less_eqH] at h
  rw [less_eqH]
  have h1 : ¬ x < y := by simpa using h.1
  have h2 : ¬ x = y := by simpa using h.2
  have h3 : y < x := by
    rcases List.le_total x y with h4 | h4
    · rcases List.le_iff_lt_or_eq.1 h4 with h5 | h5
      · exact absurd h5 h1
      · exact absurd h5 h2
    · rcases List.le_iff_lt_or_eq.1 h4 with h5 | h5
      · exact h5
      · exact absurd h5.symm h2
  simp [h3]

theorem leB_nil {d : ByteArray} (h : d.size = 32) : leB d ⟨#[]⟩ = false := by
  unfold leB
  have hl : d.toList.length = 32 := by rw [ByteArray.toList_eq]; simpa using h
  have he : (⟨#[]⟩ : ByteArray).toList = [] := by rw [ByteArray.toList_eq]
  rw [he]
  cases hd : d.toList with
  | nil => rw [hd] at hl; simp at hl
  | cons x r => rfl

/-- Two parents turned: the second is not above the first. -/
theorem risP_turned {p q : ByteArray} {l : List ByteArray} (h : risP ⟨#[]⟩ (p :: q :: l) = 0) : risP ⟨#[]⟩ (q :: p :: l) = 9 := by
  have hs := risP_zero _ _ h
  have hp := hs p (by simp)
  have hq := hs q (by simp)
  rw [risP] at h
  have h1 : digE p ⟨#[]⟩ = 0 := by unfold digE; rw [if_neg (by omega), if_neg (by rw [leB_nil hp]; simp)]
  rw [if_neg (by omega), risP] at h
  by_cases h2 : digE q p ≠ 0
  · rw [if_pos h2] at h; omega
  · have h3 := (digE_zero (d := q) (a := p) (by omega)).2
    have h4 : leB p q = true := less_total h3
    have h5 : digE q ⟨#[]⟩ = 0 := by unfold digE; rw [if_neg (by omega), if_neg (by rw [leB_nil hq]; simp)]
    have h6 : digE p q = 9 := by unfold digE; rw [if_neg (by omega), if_pos h4]
    rw [risP, if_neg (by omega), risP, h6, if_pos (by decide)]

/-- The parts of a header that is right. -/
theorem chkH_parts {n need : Nat} {en : List TagD → ByteArray → Nat} {h : HdrD} (hc : chkH n need en h = 0) : ¬ (h.author < 0 ∨ (n : Int) ≤ h.author ∨ h.round < 1 ∨ 4611686018427387903 < h.round) ∧ h.refs.length ≤ 4 ∧ refP en ⟨#[]⟩ h.refs = 0 ∧ risP ⟨#[]⟩ h.parents = 0 ∧ h.parents.length ≤ n := by
  unfold chkH at hc
  by_cases h1 : h.author < 0 ∨ (n : Int) ≤ h.author ∨ h.round < 1 ∨ 4611686018427387903 < h.round
  · rw [if_pos h1] at hc; omega
  rw [if_neg h1] at hc
  by_cases h2 : 4 < h.refs.length
  · rw [if_pos h2] at hc; omega
  rw [if_neg h2] at hc
  by_cases h3 : refP en ⟨#[]⟩ h.refs ≠ 0
  · rw [if_pos h3] at hc; omega
  rw [if_neg h3] at hc
  by_cases h4 : risP ⟨#[]⟩ h.parents ≠ 0
  · rw [if_pos h4] at hc; omega
  rw [if_neg h4] at hc
  refine ⟨h1, by omega, by omega, by omega, ?_⟩
  unfold countE at hc
  by_cases h5 : h.round = 1 ∧ 0 < h.parents.length
  · rw [if_pos h5] at hc; omega
  rw [if_neg h5] at hc
  by_cases h6 : 1 < h.round ∧ h.parents.length < need
  · rw [if_pos h6] at hc; omega
  rw [if_neg h6] at hc
  by_cases h7 : n < h.parents.length
  · rw [if_pos h7] at hc; omega
  · omega

theorem right_fit {ks : List ByteArray} {f : Nat} {h : HdrD} (hk : ks.length = 3 * f + 1) (hf : f ≤ 2) (hc : chkH (3 * f + 1) (2 * f + 1) (enT ks f) h = 0) : h.Fit := by
  obtain ⟨h1, h2, h3, h4, h5⟩ := chkH_parts hc
  refine ⟨by omega, by omega, by omega, by omega, h2, fun x hx => ?_, by omega, fun p hp => by have := risP_zero _ _ h4 p hp; omega⟩
  obtain ⟨r1, r2⟩ := refP_zero _ _ h3 x hx
  obtain ⟨_, e2, e3, _⟩ := enT_zero hk hf r2
  exact ⟨by omega, e2, e3⟩

theorem right_few {ks : List ByteArray} {f : Nat} {h : HdrD} (hk : ks.length = 3 * f + 1) (hf : f ≤ 2) (hc : chkH (3 * f + 1) (2 * f + 1) (enT ks f) h = 0) {i : Nat} {x : RefD} (hx : h.refs[i]? = some x) :
    2 * f + 1 ≤ x.acks.length ∧ chkH (3 * f + 1) (2 * f + 1) (enT ks f) { h with refs := h.refs.set i ⟨x.digest, x.acks.take (2 * f)⟩ } = 12 := by
  obtain ⟨h1, h2, h3, h4, h5⟩ := chkH_parts hc
  obtain ⟨r1, r2⟩ := refP_zero _ _ h3 x (List.mem_of_getElem? hx)
  obtain ⟨e1, e2, e3, e4⟩ := enT_zero hk hf r2
  refine ⟨e1, ?_⟩
  have hs := refP_set h.refs ⟨#[]⟩ i x ⟨x.digest, x.acks.take (2 * f)⟩ h3 hx rfl (by rw [e4]; decide)
  rw [e4] at hs
  unfold chkH
  simp only
  rw [if_neg h1, if_neg (by rw [List.length_set]; omega), hs, if_pos (by decide)]

theorem right_turned {n need : Nat} {en : List TagD → ByteArray → Nat} {h : HdrD} (hc : chkH n need en h = 0) {p q : ByteArray} {l : List ByteArray} (hp : h.parents = p :: q :: l) : chkH n need en { h with parents := q :: p :: l } = 9 := by
  obtain ⟨h1, h2, h3, h4, h5⟩ := chkH_parts hc
  rw [hp] at h4
  have ht := risP_turned h4
  unfold chkH
  simp only
  rw [if_neg h1, if_neg (by omega), if_neg (by omega), ht, if_pos (by decide)]
end Go.Proofs.YtjebfkgigijnhaaDoor

/- What tusklaw06.Great, PlainTags and Plain do; nothing in memory is turned. -/
namespace Go.Proofs.YtjebfkgigijnhaaDoor
open Go.RowKit
set_option linter.unusedVariables false

/-- A bool is handed back that says whether P. -/
def GotBool (P : Prop) (e : Ending) : Prop := ∃ p : Bool, e = .returned (.bool p) ∧ (p = true ↔ P)

theorem gotB_no {P : Prop} (h : ¬ P) {e : Ending} (he : e = .returned (.bool false)) : GotBool P e := ⟨false, he, (fun h => by cases h), fun h' => absurd h' h⟩
theorem gotB_yes {P : Prop} (h : P) {e : Ending} (he : e = .returned (.bool true)) : GotBool P e := ⟨true, he, fun _ => h, fun _ => rfl⟩

set_option maxRecDepth 100000 in
set_option maxHeartbeats 1000000 in
theorem great_any (x : HdrM) (w : World) (hA : x.At w) (hn : x.refs.length ≤ maxLen) (hp : x.parents.length ≤ maxLen) :
    Calls Tryd.prog 9 #[x.v] w fun e w' => (∃ g, e = .returned (.bool g)) ∧ Below w.heap.size w w' := by
  obtain ⟨au, ro, ra, rs, rc, pa, ps, pc⟩ := x
  have hA1 : RowAt refK w ra rs := hA.refs
  have hA2 : RowAt strK w pa ps := hA.ps
  have hn' : rs.length ≤ maxLen := hn
  have hp' : ps.length ≤ maxLen := hp
  have hX := Arr.new w 25 [.int .i64 au, .int .i64 ro, .slice ra rs.length rc, .slice pa ps.length pc]
  have hB := belowNew w (.cells #[.int .i64 au, .int .i64 ro, .slice ra rs.length rc, .slice pa ps.length pc] 25)
  clear hA hn hp
  unfold maxLen at hn' hp'
  unfold HdrM.v
  simp only
  have x3 := hX.cell (i := 3) rfl
  go_enter Tryd.func9, Tryd.ntmps9
  go_wp2
  go_loopw [3, 4] (fun v3 v4 wr => ∃ (k : Nat) (n : Int), k ≤ rs.length ∧ v4 = .int .i64 (k : Int) ∧ v3 = .int .i64 n ∧ Arr wr w.heap.size 25 [.int .i64 au, .int .i64 ro, .slice ra rs.length rc, .slice pa ps.length pc] ∧ Below w.heap.size w wr) (fun _ v _ => rs.length - (intOf v).toNat)
  case atStart => exact ⟨0, _, Nat.zero_le _, rfl, rfl, hX, hB⟩
  case round =>
    clear hX hB x3
    obtain ⟨k, n, hk, rfl, rfl, hX, hb⟩ := hrel
    have x2 := hX.cell (i := 2) rfl
    by_cases hlt : k < rs.length
    · obtain ⟨r, hr⟩ : ∃ r, rs[k]? = some r := ⟨rs[k], List.getElem?_eq_getElem hlt⟩
      obtain ⟨b, off, rfl, hbl, y0, y1⟩ := (hA1.below hb).ref hr
      clear hr
      go_wp2_with fail
      go_big_quiet (fail)
      have hb2 := below_drewN hb nq
      have hX2 := hX.drewN nq
      clear hX hb x2 y0 y1
      generalize wr.drewN nq = w1 at *
      go_wp2
      go_roundw
      case rel => exact ⟨k + 1, _, by omega, by go_num, rfl, hX2, hb2⟩
      case measure => simp [intOf]; omega
    · go_wp2
      go_loopw [3, 5] (fun v3 v5 wr => ∃ (k : Nat) (n : Int), k ≤ ps.length ∧ v5 = .int .i64 (k : Int) ∧ v3 = .int .i64 n ∧ Arr wr w.heap.size 25 [.int .i64 au, .int .i64 ro, .slice ra rs.length rc, .slice pa ps.length pc] ∧ Below w.heap.size w wr) (fun _ v _ => ps.length - (intOf v).toNat)
      case atStart => exact ⟨0, _, Nat.zero_le _, rfl, rfl, hX, hb⟩
      case round =>
        clear hX hb x2
        obtain ⟨j, n, hj, rfl, rfl, hX, hb⟩ := hrel
        have x3 := hX.cell (i := 3) rfl
        by_cases hlt2 : j < ps.length
        · obtain ⟨b, off, rfl, hbl, hc⟩ := (hA2.below hb).strs j hlt2
          go_wp2
          go_roundw
          case rel => exact ⟨j + 1, _, by omega, by go_num, rfl, hX, hb⟩
          case measure => simp [intOf]; omega
        · go_wp2
          go_ret
          exact ⟨⟨_, rfl⟩, hb⟩
end Go.Proofs.YtjebfkgigijnhaaDoor

/- What the walks of HeaderBack, HeaderRight and HeaderCuts share. -/
namespace Go.Proofs.YtjebfkgigijnhaaDoor
open Go.RowKit
set_option linter.unusedVariables false

theorem HdrM.Lens.n' {x : HdrM} (h : x.Lens) : x.refs.length ≤ maxLen := by have := h.n; unfold maxLen; omega
theorem HdrM.Lens.p' {x : HdrM} (h : x.Lens) : x.parents.length ≤ maxLen := by have := h.p; unfold maxLen; omega
theorem HdrM.Lens.acks' {x : HdrM} (h : x.Lens) : ∀ r ∈ x.refs, r.acks.length ≤ maxLen := fun r hr => by have := h.acks r hr; unfold maxLen; omega

theorem flat_tags_fit : ∀ (l : List TagD), (∀ t ∈ l, t.Fit) → ((l.map tagB).flatMap txt).length ≤ 34 * l.length
  | [], _ => by simp
  | t :: l, h => by
    have ih := flat_tags_fit l (fun x hx => h x (by simp [hx]))
    have h1 := txt_len_le (tagB t)
    have h2 := tagB_len (h t (by simp))
    simp only [List.map_cons, List.flatMap_cons, List.length_append, List.length_cons] at ih ⊢
    omega

theorem refB_fit {r : RefD} (h : r.Fit) : (refB r).length ≤ 65800 := by
  have h1 := txt_len_le r.digest.data.toList
  have h2 := flat_tags_fit r.acks h.all
  have h3 := goInt_length ((r.acks.map tagB).length : Int)
  have h4 := h.few
  have h5 := h.dig
  have h6 : r.digest.data.toList.length = r.digest.size := by simp
  rw [refB, List.length_append, tagsB, lst, List.length_append]
  omega

theorem flat_refs_fit : ∀ (l : List RefD), (∀ r ∈ l, r.Fit) → (l.flatMap refB).length ≤ 65800 * l.length
  | [], _ => by simp
  | r :: l, h => by
    have ih := flat_refs_fit l (fun x hx => h x (by simp [hx]))
    have h1 := refB_fit (h r (by simp))
    simp only [List.flatMap_cons, List.length_append, List.length_cons] at ih ⊢
    omega

theorem flat_strs_fit : ∀ (l : List ByteArray), (∀ p ∈ l, p.size ≤ 65536) → ((bl l).flatMap txt).length ≤ 65545 * l.length
  | [], _ => by simp [bl]
  | p :: l, h => by
    have ih := flat_strs_fit l (fun x hx => h x (by simp [hx]))
    have h1 := txt_len_le p.data.toList
    have h2 := h p (by simp)
    have h6 : p.data.toList.length = p.size := by simp
    have e : (bl (p :: l)).flatMap txt = txt p.data.toList ++ (bl l).flatMap txt := by simp [bl]
    rw [e, List.length_append, List.length_cons]
    omega

theorem encH_fit {h : HdrD} (hf : h.Fit) : (encH h).length ≤ 1000000 := by
  have h1 := flat_refs_fit h.refs hf.refs
  have h2 := flat_strs_fit h.parents hf.pz
  have h3 := hf.few
  have h4 := hf.ps
  have g0 := goInt_length h.author
  have g1 := goInt_length h.round
  have g2 := goInt_length (h.refs.length : Int)
  have g3 := goInt_length ((bl h.parents).length : Int)
  unfold encH lst
  simp only [List.length_append]
  omega

theorem hdrFit_of {x : HdrM} (h : x.d.Fit) : x.Fit := by
  have h1 : x.refs.length ≤ 4 := by have := h.few; simpa [HdrM.d, rd] using this
  have h2 : x.parents.length ≤ 7 := h.ps
  have h3 : ∀ r ∈ x.refs, r.d.Fit := fun r hr => h.refs r.d (List.mem_map.2 ⟨r, hr, rfl⟩)
  refine ⟨by omega, by omega, fun r hr => ?_, fun r hr t ht => ?_, by have := encH_fit h; omega⟩
  · have : r.acks.length ≤ 7 := (h3 r hr).few
    omega
  · have : t.mac.size = 16 := ((h3 r hr).all t ht).mac
    omega

theorem fit_lens {x : HdrM} (h : x.d.Fit) : x.refs.length ≤ 4 ∧ x.parents.length ≤ 7 ∧ ∀ r ∈ x.refs, r.acks.length ≤ 7 :=
  ⟨by have := h.few; simpa [HdrM.d, rd] using this, h.ps, fun r hr => (h.refs r.d (List.mem_map.2 ⟨r, hr, rfl⟩)).few⟩
end Go.Proofs.YtjebfkgigijnhaaDoor

/- A right header has few bytes. -/
namespace Go.Proofs.YtjebfkgigijnhaaDoor
open Go.RowKit
set_option linter.unusedVariables false

theorem refB_right {r : RefD} (h : r.Fit) (hd : r.digest.size = 32) : (refB r).length ≤ 290 := by
  have h1 := txt_len_le r.digest.data.toList
  have h2 := flat_tags_fit r.acks h.all
  have h3 := goInt_length ((r.acks.map tagB).length : Int)
  have h4 := h.few
  have h6 : r.digest.data.toList.length = r.digest.size := by simp
  rw [refB, List.length_append, tagsB, lst, List.length_append]
  omega

theorem flat_refs_right : ∀ (l : List RefD), (∀ r ∈ l, r.Fit ∧ r.digest.size = 32) → (l.flatMap refB).length ≤ 290 * l.length
  | [], _ => by simp
  | r :: l, h => by
    have ih := flat_refs_right l (fun x hx => h x (by simp [hx]))
    have h1 := refB_right (h r (by simp)).1 (h r (by simp)).2
    simp only [List.flatMap_cons, List.length_append, List.length_cons] at ih ⊢
    omega

theorem flat_strs_right : ∀ (l : List ByteArray), (∀ p ∈ l, p.size = 32) → ((bl l).flatMap txt).length ≤ 41 * l.length
  | [], _ => by simp [bl]
  | p :: l, h => by
    have ih := flat_strs_right l (fun x hx => h x (by simp [hx]))
    have h1 := txt_len_le p.data.toList
    have h2 := h p (by simp)
    have h6 : p.data.toList.length = p.size := by simp
    have e : (bl (p :: l)).flatMap txt = txt p.data.toList ++ (bl l).flatMap txt := by simp [bl]
    rw [e, List.length_append, List.length_cons]
    omega

/-- A right header has few bytes. -/
theorem right_small {ks : List ByteArray} {f : Nat} {h : HdrD} (hk : ks.length = 3 * f + 1) (hf : f ≤ 2) (hc : chkH (3 * f + 1) (2 * f + 1) (enT ks f) h = 0) : (encH h).length ≤ 2000 := by
  obtain ⟨_, h2, h3, h4, h5⟩ := chkH_parts hc
  have hr : ∀ r ∈ h.refs, r.Fit ∧ r.digest.size = 32 := fun r hr => by
    obtain ⟨a, b⟩ := refP_zero h.refs _ h3 r hr
    obtain ⟨_, c, d, _⟩ := enT_zero hk hf b
    exact ⟨⟨by omega, c, d⟩, a⟩
  have a1 := flat_refs_right h.refs hr
  have a2 := flat_strs_right h.parents (risP_zero h.parents _ h4)
  have g0 := goInt_length h.author
  have g1 := goInt_length h.round
  have g2 := goInt_length (h.refs.length : Int)
  have g3 := goInt_length ((bl h.parents).length : Int)
  unfold encH lst
  simp only [List.length_append]
  omega
end Go.Proofs.YtjebfkgigijnhaaDoor

/- What the walks of CertMade and CertVotes share: rows of numbers; a right header's certificate. -/
namespace Go.Proofs.YtjebfkgigijnhaaDoor
open Go.RowKit
set_option linter.unusedVariables false

/-- Numbers. -/
def intK : Kind Int where
  n := 1
  c v := [.int .i64 v]
  foot _ _ := False
  At _ _ := True
  pos := by decide
  len _ := rfl
  one x u hu := by
    simp only [List.mem_cons, List.not_mem_nil, or_false] at hu
    rcases hu with rfl; rfl
  lt _ h := h.elim
  keep _ _ := trivial

theorem RowAt.int {w : World} {ao : Option Addr} {l : List Int} (h : RowAt intK w ao l) {i : Nat} {v : Int} (hv : l[i]? = some v) :
    ∃ b off, ao = some ⟨b, off, none⟩ ∧ b < w.heap.size ∧ w.cell? ⟨b, off + i, none⟩ = some (.int .i64 v) := by
  obtain ⟨b, off, h1, h2, h3⟩ := h.cell i v hv
  refine ⟨b, off, h1, h2, ?_⟩
  have := h3 0 _ rfl
  have e : off + i * intK.n + 0 = off + i := by show off + i * 1 + 0 = _; omega
  rw [e] at this
  exact this

theorem tagsB_fitC {l : List TagD} (h : ∀ t ∈ l, t.Fit) (hl : l.length ≤ 7) : (tagsB l).length ≤ 300 := by
  have h1 := flat_tags_fit l h
  have h2 := goInt_length ((l.map tagB).length : Int)
  rw [tagsB, lst, List.length_append]
  omega

theorem certFit_ofC {x : CertM} (h1 : x.hdr.d.Fit) (h2 : x.votes.length ≤ 7) (h3 : ∀ t ∈ x.votes, t.Fit) : x.Fit :=
  ⟨hdrFit_of h1, by omega, fun t ht => by have := (h3 t ht).mac; omega, by have := tagsB_fitC h3 h2; omega⟩

/-- A header's lists, where it has the data of another one. -/
theorem lens_same {x y : HdrM} (hyd : y.d = x.d) (hL : x.Lens) : (∀ r ∈ y.refs, r.acks.length ≤ maxLen) ∧ y.parents.length ≤ maxLen := by
  constructor
  · intro r hr
    have h1 : r.d ∈ rd x.refs := by
      have h2 : rd y.refs = rd x.refs := congrArg HdrD.refs hyd
      rw [← h2]
      exact List.mem_map.2 ⟨r, hr, rfl⟩
    obtain ⟨q, hq, hqr⟩ := List.mem_map.1 h1
    have h3 : q.acks = r.acks := congrArg RefD.acks hqr
    rw [← h3]
    exact hL.acks' q hq
  · have h2 : y.parents = x.parents := congrArg HdrD.parents hyd
    rw [h2]
    exact hL.p'

/-- A header that can be read: its lists are short. -/
theorem fit_lensC {x : HdrM} (h : x.d.Fit) : x.Lens :=
  ⟨by have := (fit_lens h).1; omega, by have := (fit_lens h).2.1; omega, fun r hr => by have := (fit_lens h).2.2 r hr; omega⟩

theorem pick_atC (f : Int) (k : Nat) (hk : 0 < k) (hk2 : k < 9223372036854775808) : ∃ j : Nat, j < k ∧ wrap64 ((IntKind.u64.wrap f).tmod (k : Int)) = (j : Int) := by
  obtain ⟨h0, h1⟩ := Mx.u64_range f
  rw [Int.tmod_eq_emod_of_nonneg h0]
  generalize IntKind.u64.wrap f = m at h0 h1
  have hlt := Int.emod_lt_of_pos m (show (0 : Int) < (k : Int) by omega)
  have hge := Int.emod_nonneg m (show (k : Int) ≠ 0 by omega)
  refine ⟨(m % (k : Int)).toNat, by omega, ?_⟩
  rw [Mx.wrap64_small _ hge (by omega)]
  omega
end Go.Proofs.YtjebfkgigijnhaaDoor

/- Tags of all that are needed; one less, a wrong one, two of them turned. -/
namespace Go.Proofs.YtjebfkgigijnhaaDoor
open Go.RowKit
set_option linter.unusedVariables false

/-- The tags of the first m. -/
def tagsTo (ks : List ByteArray) (kind word : ByteArray) (m : Nat) : List TagD := (List.range m).map (tagJ ks kind word)

theorem tagsTo_len (ks : List ByteArray) (kind word : ByteArray) (m : Nat) : (tagsTo ks kind word m).length = m := by simp [tagsTo]

theorem tagsTo_succ (ks : List ByteArray) (kind word : ByteArray) (m : Nat) : tagsTo ks kind word (m + 1) = tagsTo ks kind word m ++ [tagJ ks kind word m] := by simp [tagsTo, List.range_succ]

theorem tagsTo_get {ks : List ByteArray} {kind word : ByteArray} {m i : Nat} (h : i < m) : (tagsTo ks kind word m)[i]? = some (tagJ ks kind word i) := by simp [tagsTo, h]

theorem tagsTo_chk {ks : List ByteArray} {kind word : ByteArray} {m : Nat} (h : m ≤ ks.length) : ∀ t ∈ tagsTo ks kind word m, chkT ks kind word t = 0 := by
  intro t ht
  obtain ⟨i, hi, rfl⟩ := List.mem_map.1 ht
  exact tagJ_chk (by have := List.mem_range.1 hi; omega)

theorem tagsTo_sorted (ks : List ByteArray) (kind word : ByteArray) (m : Nat) : (tagsTo ks kind word m).Pairwise (fun a b => a.who < b.who) := by
  unfold tagsTo
  rw [List.pairwise_map]
  exact List.pairwise_lt_range.imp (fun h => by simp only [tagJ]; omega)

theorem few_chk {ks : List ByteArray} {kind word : ByteArray} {f m i : Nat} (h : m ≤ ks.length) (hi : i < m) (hm : m = 2 * f + 1) :
    Mx.enoughL ks f kind word (pairT ((tagsTo ks kind word m).take i ++ (tagsTo ks kind word m).drop (i + 1))) = 12 := by
  rw [enough_sorted f]
  · rw [if_pos]
    rw [List.length_append, List.length_take, List.length_drop, tagsTo_len]
    omega
  · intro t ht
    rw [List.mem_append] at ht
    rcases ht with ht | ht
    · exact tagsTo_chk h t (List.mem_of_mem_take ht)
    · exact tagsTo_chk h t (List.mem_of_mem_drop ht)
  · have hs := tagsTo_sorted ks kind word m
    have hsub : ((tagsTo ks kind word m).take i ++ (tagsTo ks kind word m).drop (i + 1)).Sublist (tagsTo ks kind word m) := by
      have h1 : ((tagsTo ks kind word m).drop (i + 1)).Sublist ((tagsTo ks kind word m).drop i) := by
        rw [← List.drop_drop]
        exact List.drop_sublist _ _
      have h2 := List.Sublist.append (List.Sublist.refl ((tagsTo ks kind word m).take i)) h1
      rw [List.take_append_drop] at h2
      exact h2
    exact hs.sublist hsub

/-- A wrong tag behind right ones. -/
theorem go_wrong {ks : List ByteArray} {kind word : ByteArray} (x : Int × ByteArray) (rest : List (Int × ByteArray)) (h0 : 0 ≤ x.1) (h1 : x.1 < (ks.length : Int)) (hm : ¬ x.2 = Mx.macOf (ks.getD x.1.toNat ⟨#[]⟩) kind word) : ∀ (l : List TagD) (ahead : Int), (∀ t ∈ l, chkT ks kind word t = 0) → (∀ t ∈ l, ahead < t.who) → (∀ t ∈ l, t.who < x.1) → ahead < x.1 → l.Pairwise (fun a b => a.who < b.who) → Mx.enoughGo ks kind word ahead (pairT l ++ x :: rest) = 10
  | [], ahead, _, _, _, ha, _ => by
    show Mx.enoughGo ks kind word ahead (x :: rest) = 10
    have ht : Mx.tagErr ks kind word ahead x = 10 := by
      unfold Mx.tagErr
      rw [if_neg (by omega), if_neg (by omega), if_neg hm]
    rw [Mx.enoughGo, if_neg (by rw [ht]; decide), ht]
  | t :: l, ahead, c1, c2, c3, ha, c4 => by
    have hz := chkT_zero (c1 t (by simp))
    have h2 := c2 t (by simp)
    have ht : Mx.tagErr ks kind word ahead (t.who, t.mac) = 0 := by
      unfold Mx.tagErr
      rw [if_neg (by simp only; omega), if_neg (by simp only; omega), if_pos hz.2.2]
    rw [List.pairwise_cons] at c4
    show Mx.enoughGo ks kind word ahead ((t.who, t.mac) :: (pairT l ++ x :: rest)) = 10
    rw [Mx.enoughGo, if_pos ht]
    exact go_wrong x rest h0 h1 hm l t.who (fun y hy => c1 y (by simp [hy])) (fun y hy => c4.1 y hy) (fun y hy => c3 y (by simp [hy])) (c3 t (by simp)) c4.2

theorem odd_chk {ks : List ByteArray} {kind word : ByteArray} {f m i : Nat} (h : m ≤ ks.length) (hi : i < m) (mac : ByteArray) (hm : ¬ mac = Mx.macOf (ks.getD i ⟨#[]⟩) kind word) :
    Mx.enoughL ks f kind word (pairT ((tagsTo ks kind word m).set i ⟨(i : Int), mac⟩)) = 10 := by
  have e : (tagsTo ks kind word m).set i ⟨(i : Int), mac⟩ = tagsTo ks kind word i ++ ⟨(i : Int), mac⟩ :: (tagsTo ks kind word m).drop (i + 1) := by
    rw [List.set_eq_take_append_cons_drop, if_pos (by rw [tagsTo_len]; exact hi)]
    congr 1
    unfold tagsTo
    rw [← List.map_take, List.take_range, Nat.min_eq_left (by omega)]
  have hg : Mx.enoughGo ks kind word (-1) (pairT ((tagsTo ks kind word m).set i ⟨(i : Int), mac⟩)) = 10 := by
    rw [e]
    show Mx.enoughGo ks kind word (-1) ((tagsTo ks kind word i ++ ⟨(i : Int), mac⟩ :: (tagsTo ks kind word m).drop (i + 1)).map _) = 10
    rw [List.map_append, List.map_cons]
    exact go_wrong ((i : Int), mac) _ (by simp only; omega) (by simp only; omega) (by simpa using hm) (tagsTo ks kind word i) (-1) (tagsTo_chk (by omega)) (fun t ht => by
      obtain ⟨k, hk, rfl⟩ := List.mem_map.1 ht
      simp only [tagJ]
      omega) (fun t ht => by
      obtain ⟨k, hk, rfl⟩ := List.mem_map.1 ht
      have := List.mem_range.1 hk
      simp only [tagJ]
      omega) (by simp only; omega) (tagsTo_sorted _ _ _ _)
  unfold Mx.enoughL
  rw [hg]
  rfl

theorem turned_chk {ks : List ByteArray} {kind word : ByteArray} {f : Nat} (h : 2 ≤ ks.length) (l : List TagD) :
    Mx.enoughL ks f kind word (pairT (tagJ ks kind word 1 :: tagJ ks kind word 0 :: l)) = 9 := by
  have h1 := chkT_zero (tagJ_chk (kind := kind) (word := word) (ks := ks) (j := 1) (by omega))
  have e1 : Mx.tagErr ks kind word (-1) ((tagJ ks kind word 1).who, (tagJ ks kind word 1).mac) = 0 := by
    unfold Mx.tagErr
    rw [if_neg (by simp only; omega), if_neg (by simp only; omega), if_pos h1.2.2]
  have e2 : Mx.tagErr ks kind word 1 ((tagJ ks kind word 0).who, (tagJ ks kind word 0).mac) = 9 := by
    unfold Mx.tagErr tagJ
    simp only
    rw [if_neg (by omega), if_pos (by omega)]
  have hg : Mx.enoughGo ks kind word (-1) (pairT (tagJ ks kind word 1 :: tagJ ks kind word 0 :: l)) = 9 := by
    show Mx.enoughGo ks kind word (-1) (((tagJ ks kind word 1).who, (tagJ ks kind word 1).mac) :: ((tagJ ks kind word 0).who, (tagJ ks kind word 0).mac) :: pairT l) = 9
    rw [Mx.enoughGo, if_pos e1]
    have e3 : (tagJ ks kind word 1).who = 1 := rfl
    simp only [e3]
    rw [Mx.enoughGo, if_neg (by rw [e2]; decide), e2]
  unfold Mx.enoughL
  rw [hg]
  rfl

theorem all_chk {ks : List ByteArray} {kind word : ByteArray} {f m : Nat} (h : m ≤ ks.length) (hm : m = 2 * f + 1) : Mx.enoughL ks f kind word (pairT (tagsTo ks kind word m)) = 0 := by
  rw [enough_sorted f (tagsTo_chk h) (tagsTo_sorted _ _ _ _), if_neg]
  rw [tagsTo_len]
  omega
end Go.Proofs.YtjebfkgigijnhaaDoor

/- append(q, xs...) upon a row of the call's own, whatever is appended; a copy at an operation that is guarded. -/
namespace Go.Proofs.YtjebfkgigijnhaaDoor
open Go.RowKit
set_option linter.unusedVariables false

section
variable {α : Type} {K : Kind α}

/-- append(q, xs...), q of the call's own, xs at an address. -/
theorem step_ownO {P : Program} (w : World) {ops : Array Oper} {o : Oper} {a : Act} {C : Act → World → Prop} {Q : Exit → Act → World → Prop} {E : Prop} (hgd : o.guard = none) (s x : Operand) (t : TypeId)
    (ho : o.op = .call { callee := .builtin .append, args := #[s, x], argTypes := #[t, t] })
    (base : Nat) (e : TypeId) (i : TypeInfo) (z : Value) (bytes : Nat) (ht : P.underlying t = some (.slice e)) (hi : P.info? e = some i) (hz : i.zero = some z)
    (hsize : i.size = K.n) (hby : i.bytes = bytes) (hzs : z.cells.size = K.n)
    (v : Value) (n : Nat) (xs : List Value) (hs : a.eval s = v) (hown : w.ownsRow base e K.n v n xs) (ad : Addr) (cap : Nat) (l : List α) (hx : a.eval x = .slice (some ad) l.length cap)
    (hS : RowAt K w (some ad) l) (hm : n + l.length ≤ maxLen) (hlen : (n + l.length) * bytes ≤ 140737488355328) (hbase : base ≤ w.heap.size)
    (h : ∀ ao' cap' w', w'.ownsRow base e K.n (.slice ao' (n + l.length) cap') (n + l.length) (xs ++ flatK K l) → Kept (fun k => v.ownBlock = some k) w w' → C (a.put o.dst (.slice ao' (n + l.length) cap')) w') : if Region.wanted o (yielded ops a.tmps) = true then Oper.wp P o a w C Q else E := by
  rw [if_pos (by simp [Region.wanted, hgd])]
  obtain ⟨v', w', hrun, hown', hgrow, _⟩ := run_append_own (P := P) w base t o.type e i z K.n bytes ht hi hz hsize hby hzs K.pos v n xs hown ad l.length cap (flatK K l) (flatK_length K l) hS.news (flatK_one K l) hm hlen hbase
  obtain ⟨ao', cap', rfl, _, _⟩ := (QRow.of_own hown').form
  unfold Oper.wp
  simp [execOp, ho, resolve, invoke, builtin, hs, hx, hrun, Result.andThen]
  exact h ao' cap' w' hown' (Kept.of_grown hgrow)

/-- The same, the lengths under letters. -/
theorem step_ownM {P : Program} (w : World) {ops : Array Oper} {o : Oper} {a : Act} {C : Act → World → Prop} {Q : Exit → Act → World → Prop} {E : Prop} (hgd : o.guard = none) (s x : Operand) (t : TypeId)
    (ho : o.op = .call { callee := .builtin .append, args := #[s, x], argTypes := #[t, t] })
    (base : Nat) (e : TypeId) (i : TypeInfo) (z : Value) (bytes : Nat) (ht : P.underlying t = some (.slice e)) (hi : P.info? e = some i) (hz : i.zero = some z)
    (hsize : i.size = K.n) (hby : i.bytes = bytes) (hzs : z.cells.size = K.n)
    (v : Value) (n m N : Nat) (xs : List Value) (hs : a.eval s = v) (hown : w.ownsRow base e K.n v n xs) (ad : Addr) (cap : Nat) (l : List α) (hl : l.length = m) (hN : n + m = N) (hx : a.eval x = .slice (some ad) m cap)
    (hS : RowAt K w (some ad) l) (hm : N ≤ maxLen) (hlen : N * bytes ≤ 140737488355328) (hbase : base ≤ w.heap.size)
    (h : ∀ ao' cap' w', w'.ownsRow base e K.n (.slice ao' N cap') N (xs ++ flatK K l) → Kept (fun k => v.ownBlock = some k) w w' → C (a.put o.dst (.slice ao' N cap')) w') : if Region.wanted o (yielded ops a.tmps) = true then Oper.wp P o a w C Q else E := by
  subst hl
  subst hN
  exact step_ownO w hgd s x t ho base e i z bytes ht hi hz hsize hby hzs v n xs hs hown ad cap l hx hS hm hlen hbase h

/-- append(q, xs...), q of the call's own, xs whatever row. -/
theorem step_ownR {P : Program} (w : World) {ops : Array Oper} {o : Oper} {a : Act} {C : Act → World → Prop} {Q : Exit → Act → World → Prop} {E : Prop} (hgd : o.guard = none) (s x : Operand) (t : TypeId)
    (ho : o.op = .call { callee := .builtin .append, args := #[s, x], argTypes := #[t, t] })
    (base : Nat) (e : TypeId) (i : TypeInfo) (z : Value) (bytes : Nat) (ht : P.underlying t = some (.slice e)) (hi : P.info? e = some i) (hz : i.zero = some z)
    (hsize : i.size = K.n) (hby : i.bytes = bytes) (hzs : z.cells.size = K.n)
    (v : Value) (n m N : Nat) (xs : List Value) (hs : a.eval s = v) (hown : w.ownsRow base e K.n v n xs) (ao : Option Addr) (cap : Nat) (l : List α) (hl : l.length = m) (hN : n + m = N) (hx : a.eval x = .slice ao m cap)
    (hS : RowAt K w ao l) (hnil : ao = none → cap = 0) (hm : N ≤ maxLen) (hlen : N * bytes ≤ 140737488355328) (hbase : base ≤ w.heap.size)
    (h : ∀ ao' cap' w', w'.ownsRow base e K.n (.slice ao' N cap') N (xs ++ flatK K l) → Kept (fun k => v.ownBlock = some k) w w' → C (a.put o.dst (.slice ao' N cap')) w') : if Region.wanted o (yielded ops a.tmps) = true then Oper.wp P o a w C Q else E := by
  cases ao with
  | some ad => exact step_ownM w hgd s x t ho base e i z bytes ht hi hz hsize hby hzs v n m N xs hs hown ad cap l hl hN hx hS hm hlen hbase h
  | none =>
    have hc0 := hnil rfl
    subst hc0
    have hss : l = [] := by
      cases l with
      | nil => rfl
      | cons y r => obtain ⟨_, _, e, _⟩ := hS.cell 0 y rfl; cases e
    subst hss
    have hm0 : m = 0 := by simpa using hl.symm
    subst hm0
    have hNn : N = n := by omega
    subst hNn
    rw [if_pos (by simp [Region.wanted, hgd])]
    have hrun := run_append_owned_none (P := P) (w := w) base t o.type e i K.n ht hi v N xs hown
    obtain ⟨ao', cap', rfl, _, _⟩ := (QRow.of_own hown).form
    have e0 : xs ++ flatK K ([] : List α) = xs := by simp [flatK]
    rw [e0] at h
    unfold Oper.wp
    simp [execOp, ho, resolve, invoke, builtin, hs, hx, hrun, Result.andThen]
    exact h ao' cap' w hown (Kept.refl _ _)

/-- A row of the call's own, flat elements. -/
theorem KQ.of_own {T : TypeId} {w : World} {base : Nat} {ao : Option Addr} {n cap : Nat} {l : List α} (hf : ∀ x b, ¬ K.foot x b) (hA : ∀ x ∈ l, K.At w x) (hn : n = l.length) (h : w.ownsRow base T K.n (.slice ao n cap) n (flatK K l)) : KQ K T w base (.slice ao n cap) l := by
  subst hn
  refine ⟨QRow.of_own h, hA, fun x hx b hb => absurd hb (hf x b), fun k hk => ⟨(h.lt k hk).1, (h.lt k hk).2⟩, ?_⟩
  intro n c he
  rcases h.2 with ⟨hv, _⟩ | ⟨g, c', cur, hv, _⟩
  · rw [hv] at he
    simp at he
    omega
  · rw [hv] at he
    cases he

/-- append(q, xs...), q an empty row of the call's own, at an operation that is wanted. -/
theorem wpList_copyW {P : Program} {w : World} {ops : Array Oper} {rest : List Oper} {o : Oper} {a : Act} {Q : Exit → Act → World → Prop} (hw : Region.wanted o (yielded ops a.tmps) = true) (s x : Operand) (t : TypeId)
    (ho : o.op = .call { callee := .builtin .append, args := #[s, x], argTypes := #[t, t] })
    (base : Nat) (e : TypeId) (i : TypeInfo) (z : Value) (bytes : Nat) (ht : P.underlying t = some (.slice e)) (hi : P.info? e = some i) (hz : i.zero = some z)
    (hsize : i.size = K.n) (hby : i.bytes = bytes) (hzs : z.cells.size = K.n)
    (v : Value) (hs : a.eval s = v) (hown : w.ownsRow base e K.n v 0 []) (ao : Option Addr) (cap : Nat) (l : List α) (hx : a.eval x = .slice ao l.length cap)
    (hS : RowAt K w ao l) (hf : ∀ x b, ¬ K.foot x b) (hnil : ao = none → cap = 0) (hm : l.length ≤ maxLen) (hlen : l.length * bytes ≤ 140737488355328) (hbase : base ≤ w.heap.size)
    (h : ∀ ao' cap' w', KQ K e w' base (.slice ao' l.length cap') l → Kept (fun k => v.ownBlock = some k) w w' → wpList P ops Q rest (a.put o.dst (.slice ao' l.length cap')) w') : wpList P ops Q (o :: rest) a w := by
  refine wpList_step fun K' hK' => ?_
  rw [if_pos hw]
  obtain ⟨ao', cap', w', hrun, r1, r2⟩ := run_copyK (K := K) (P := P) w t o.type base e i z bytes ht hi hz hsize hby hzs v hown ao cap l hS hf hnil hm hlen hbase
  unfold Oper.wp
  simp [execOp, ho, resolve, invoke, builtin, hs, hx, hrun, Result.andThen]
  exact hK' _ _ (h ao' cap' w' r1 r2)
end
end Go.Proofs.YtjebfkgigijnhaaDoor

/- A tag of a row of the call's own is written. -/
namespace Go.Proofs.YtjebfkgigijnhaaDoor
open Go.RowKit
set_option linter.unusedVariables false

theorem KQ.setTag {T : TypeId} {w : World} {base : Nat} {ao : Option Addr} {n cap : Nat} {l : List TagD} (h : KQ tagK T w base (.slice ao n cap) l) {i : Nat} {t : TagD} (ht : l[i]? = some t) :
    ∃ g off, ao = some ⟨g, off, none⟩ ∧ base ≤ g ∧ g < w.heap.size ∧ w.cell? ⟨g, off + i * 2, none⟩ = some (.int .i64 t.who) ∧ w.cell? ⟨g, off + i * 2 + 1, none⟩ = some (.string t.mac) ∧ (∀ o, w.frozen? ⟨g, o, none⟩ = false) ∧
      ∀ y : TagD, KQ tagK T ((w.setCell ⟨g, off + i * 2, none⟩ (.int .i64 y.who)).setCell ⟨g, off + i * 2 + 1, none⟩ (.string y.mac)) base (.slice ao n cap) (l.set i y) := by
  obtain ⟨g, off, e, h1, h2, h3, h4, h5⟩ := h.set ht
  refine ⟨g, off, e, h1, h2, h3 0 _ rfl, h3 1 _ rfl, h4, fun y => ?_⟩
  have hi := (List.getElem?_eq_some_iff.1 ht).1
  have a1 := h5 ⟨y.who, t.mac⟩ 0 (.int .i64 y.who) (by decide) rfl trivial (fun b hb => hb.elim)
  obtain ⟨g', off', e', _, _, _, _, h6⟩ := a1.set (i := i) (x := ⟨y.who, t.mac⟩) (by rw [List.getElem?_set, if_pos rfl, if_pos hi])
  rw [e] at e'
  simp only [Option.some.injEq, Addr.mk.injEq, and_true] at e'
  obtain ⟨rfl, rfl⟩ := e'
  have a2 := h6 y 1 (.string y.mac) (by decide) rfl trivial (fun b hb => hb.elim)
  rw [List.set_set] at a2
  exact a2
end Go.Proofs.YtjebfkgigijnhaaDoor

/- tusklaw07.CertVotes answers true; nothing old in memory is turned. -/
namespace Go.Proofs.YtjebfkgigijnhaaDoor
open Go.RowKit
set_option linter.unusedVariables false

set_option maxRecDepth 100000 in
set_option maxHeartbeats 8000000 in
theorem certVotes_walk (f : Int) (x : HdrM) (at_ : Int) (w : World) (hwf : (Lit.int .i64 f).wf = true) (hA : x.At w) (hL : x.Lens) (hwf2 : (Lit.int .i64 at_).wf = true) (hG : Mx.Glob w) :
    Calls Tryd.prog 7 #[.int .i64 f, x.v, .int .i64 at_] w fun e w' => e = .returned (.bool true) ∧ Below w.heap.size w w' := by
  have hX := Arr.new w 25 [.int .i64 x.author, .int .i64 x.round, .slice x.ra x.refs.length x.rc, .slice x.pa x.parents.length x.pc]
  have hB := belowNew w (.cells #[.int .i64 x.author, .int .i64 x.round, .slice x.ra x.refs.length x.rc, .slice x.pa x.parents.length x.pc] 25)
  have cW := works7_any _ (hG.below hB)
  have cG := fun w1 h => great_any x w1 h hL.n' hL.p'
  have cO := fun w1 h => own6_any x w1 h hL
  unfold HdrM.v at cG cO ⊢
  go_enter Tryd.func7, Tryd.ntmps7
  go_wp2_with fail
  refine cW.mono ?_
  rintro e w1 ⟨rfl, hb1⟩
  have hX1 := hX.below hb1 hX.lt
  have hB1 := hB.trans (hb1.mono hB.size)
  clear hX hB hb1 cW
  have cB := both_any f w1 (hG.below hB1)
  go_wp2_with fail
  refine cB.mono ?_
  rintro e w2 ⟨n, tb, rb, n2, n1, rfl, hT2, _, hb2⟩
  have hX2 := hX1.below hb2 hX1.lt
  have hB2 := hB1.trans (hb2.mono hB1.size)
  have hk32 : ∀ k ∈ Mx.keysL seedW (3 * n + 1), k.size ≤ 32 := Mx.keysL_size _ _
  have hkl : Hid ((Mx.keysL seedW (3 * n + 1)).length = 3 * n + 1) := Mx.keysL_len _ _
  generalize Mx.keysL seedW (3 * n + 1) = ks at *
  clear hX1 hB1 hb2 cB
  have x0 := hX2.cell (i := 0) rfl
  have x1 := hX2.cell (i := 1) rfl
  have x2 := hX2.cell (i := 2) rfl
  have x3 := hX2.cell (i := 3) rfl
  go_wp2_with fail
  refine (cG _ (hA.below hB2)).mono ?_
  rintro e w3 ⟨⟨g, rfl⟩, hb3⟩
  have hX3 := hX2.below hb3 hX2.lt
  have hT3 := hT2.below hb3
  have hB3 := hB2.trans (hb3.mono hB2.size)
  clear hX2 hB2 hb3 cG x0 x1 x2 x3 hT2
  cases g with
  | true =>
    go_wp2
    go_ret
    exact ⟨rfl, hB3⟩
  | false =>
  have x0 := hX3.cell (i := 0) rfl
  have x1 := hX3.cell (i := 1) rfl
  have x2 := hX3.cell (i := 2) rfl
  have x3 := hX3.cell (i := 3) rfl
  go_wp2_with fail
  refine (cO _ (hA.below hB3)).mono ?_
  rintro e w4 ⟨y, rfl, hyd, hy, hyf, hb4⟩
  have hX4 := hX3.below hb4 hX3.lt
  have hT4 := hT3.below hb4
  have hB4 := hB3.trans (hb4.mono hB3.size)
  obtain ⟨hyl, hyp⟩ := lens_same hyd hL
  have cC := hdrCheck_any tb n ks y w4 hT4 n2 hk32 hy hyl hyp (hG.below hB4)
  rw [hyd] at cC
  clear hX3 hB3 hb4 x0 x1 x2 x3 hyf hyl hyp hT3
  unfold HdrM.v at cC ⊢
  by_cases hc : chkH (3 * n + 1) (2 * n + 1) (enT ks n) x.d ≠ 0
  · generalize chkH (3 * n + 1) (2 * n + 1) (enT ks n) x.d = er at cC hc
    have hne : ((er : Int) != 0) = true := by rw [bne_iff_ne]; omega
    go_wp2_with fail
    refine cC.mono ?_
    rintro e w5 ⟨rfl, hb5⟩
    have hB5 := hB4.trans (hb5.mono hB4.size)
    clear hb5 cC hX4 hB4 hy
    go_wp2
    go_ret
    exact ⟨rfl, hB5⟩
  have hc0 : chkH (3 * n + 1) (2 * n + 1) (enT ks n) x.d = 0 := by omega
  rw [hc0] at cC
  have HC : Hid (chkH (3 * n + 1) (2 * n + 1) (enT ks n) x.d = 0) := hc0
  have hfit : Hid x.d.Fit := right_fit hkl.out n2 hc0
  have hsmall : Hid ((encH x.d).length ≤ 2000) := right_small hkl.out n2 hc0
  clear hc hc0
  go_wp2_with fail
  refine cC.mono ?_
  rintro e w5 ⟨rfl, hb5⟩
  have hX5 := hX4.below hb5 hX4.lt
  have hT5 := hT4.below hb5
  have hB5 := hB4.trans (hb5.mono hB4.size)
  clear cC hX4 hB4 hb5 hT4 hy hyd
  have x0 := hX5.cell (i := 0) rfl
  have x1 := hX5.cell (i := 1) rfl
  have x2 := hX5.cell (i := 2) rfl
  have x3 := hX5.cell (i := 3) rfl
  go_wp2_with fail
  refine (cO _ (hA.below hB5)).mono ?_
  rintro e w6 ⟨z, rfl, hzd, hz, hzf, hb6⟩
  have hX6 := hX5.below hb6 hX5.lt
  have hT6 := hT5.below hb6
  have hB6 := hB5.trans (hb6.mono hB5.size)
  have cI := hdrId_any z w6 hz (hdrFit_of (by rw [hzd]; exact hfit.out)) (by rw [hzd]; have := hsmall.out; omega) (hG.below hB6)
  rw [hzd] at cI
  obtain ⟨ib, hib⟩ : ∃ q, Hid (q = idB x.d) := ⟨_, rfl⟩
  have hibs : ib.size = 32 := by rw [hib.out]; exact idB_size _
  have e1 : Mx.bytes (Mx.sumL (encH x.d)) = ib := hib.out.symm
  rw [e1] at cI
  clear e1 hX5 hB5 hb6 hT5 hz hzf x0 x1 x2 x3
  unfold HdrM.v at cI ⊢
  go_wp2_with fail
  refine cI.mono ?_
  rintro e w7 ⟨rfl, hb7⟩
  have hX7 := hX6.below hb7 hX6.lt
  have hT7 := hT6.below hb7
  have hB7 := hB6.trans (hb7.mono hB6.size)
  have hG7 := hG.below hB7
  clear cI hX6 hB6 hb7 hT6 hzd
  obtain ⟨i0, hi, hz0, hz1, hz2⟩ := info_parts infoTag6
  obtain ⟨nd, hnd⟩ : ∃ q, Hid (q = 2 * n + 1) := ⟨_, rfl⟩
  have hnd3 : 3 ≤ nd ∧ nd ≤ 5 := by have := hnd.out; omega
  have cND := fun w h => Mx.need_any tb n ks w h n2
  simp only [← hnd.out] at cND
  go_wp2_with fail
  go_loopw [11, 12, 13, 14] (fun v11 v12 _ _ wr => ∃ i : Nat, i ≤ nd ∧ v12 = .int .i64 (i : Int) ∧ KQ tagK 47 wr w7.heap.size v11 (tagsTo ks voteW ib i) ∧ Below w7.heap.size w7 wr) (fun _ v _ _ _ => nd - (intOf v).toNat)
  case atStart => exact ⟨0, Nat.zero_le _, rfl, KQ.empty _ _ _ _, Below.refl _ _⟩
  case round =>
    obtain ⟨i, hin, rfl, hq, hb⟩ := hrel
    have hTr := hT7.below hb
    go_wp2_with fail
    refine (cND _ hTr).mono ?_
    rintro e wr' ⟨rfl, rfl⟩
    by_cases hlt : i < nd
    · have hlt' : (i : Int) < (nd : Int) := by omega
      have hkk := hkl.out
      have hndd := hnd.out
      have cS := Mx.sign_yes tb n ks i voteW ib wr' hTr (ks.getD i ⟨#[]⟩) (Mx.getD_some (by omega)) hk32 (by decide) (by omega) (hG7.below hb)
      have hsu := tagsTo_succ ks voteW ib i
      have hll := tagsTo_len ks voteW ib i
      have htj : tagJ ks voteW ib i = ⟨(i : Int), Mx.macOf (ks.getD i ⟨#[]⟩) voteW ib⟩ := rfl
      obtain ⟨mac, hmac⟩ : ∃ z, z = Mx.macOf (ks.getD i ⟨#[]⟩) voteW ib := ⟨_, rfl⟩
      rw [← hmac] at cS htj
      rw [htj] at hsu
      unfold Mx.tagV at cS
      unfold voteW at cS
      have Hsu : Hid _ := hsu
      obtain ⟨qa, qc, rfl, hqn, _⟩ := hq.form
      generalize tagsTo ks voteW ib i = l at *
      clear hsu hmac htj hkk hndd
      go_wp2_with fail
      refine cS.mono ?_
      rintro e w9 ⟨rfl, hb9⟩
      have hbx := belowNew w9 (.cells #[.int .i64 (i : Int), .string mac] 47)
      have hX9 := Arr.new w9 47 [.int .i64 (i : Int), .string mac]
      have hq10 := (hq.below hb9).below hbx
      have hb10 := (hb.trans (hb9.mono hb.size)).trans (hbx.mono (Nat.le_trans hb.size hb9.size))
      clear cS hb9 hbx hq hb hTr
      obtain ⟨w10, hw10⟩ : ∃ z, w9.alloc (.cells #[.int .i64 (i : Int), .string mac] 47) = z := ⟨_, rfl⟩
      rw [hw10] at hX9 hq10 hb10
      have y0 := hX9.cell (i := 0) rfl
      have y1 := hX9.cell (i := 1) rfl
      have hN := new_tagK w10 ⟨(i : Int), mac⟩
      have hq11 := hq10.below (belowNew w10 (.cells #[.int .i64 (i : Int), .string mac] 47))
      have hb11 := hb10.trans ((belowNew w10 (.cells #[.int .i64 (i : Int), .string mac] 47)).mono hb10.size)
      have hbs := hb11.size
      have hli : l.length = i := hll
      rw [hli] at hq11
      clear hq10 hb10 hX9 hll
      go_wp2_with (at_builtin; refine wpList_push (K := tagK) rfl _ _ 26 rfl w7.heap.size 47 i0 _ 24 Tryd.underlying26 hi hz0 hz1 hz2 rfl _ l rfl hq11 ⟨(i : Int), mac⟩ trivial (fun _ h => h.elim) ⟨w10.heap.size, 0, none⟩ 1 rfl hN ?c3 ?c4 hbs ?_)
      case c3 => unfold maxLen; omega
      case c4 => omega
      intro ao3 cap3 w12 hq12 hk12
      have hb12 := hb11.trans (Kept.below hk12 hbs (fun j hj => (hq11.lt j hj).1))
      rw [← Hsu.out] at hq12
      clear hk12 hq11 hb11 hN hbs hw10 y0 y1
      go_wp2
      go_roundw
      case rel => exact ⟨i + 1, by omega, by go_num, hq12, hb12⟩
      case measure => simp [intOf]; omega
    · obtain rfl : nd = i := by omega
      have hlt' : ¬ (nd : Int) < (nd : Int) := by omega
      have hkk := hkl.out
      have hndd := hnd.out
      have hLl := tagsTo_len ks voteW ib nd
      have hBr := hB7.trans (hb.mono hB7.size)
      have hXr := hX7.below hb (by have := hB7.size; have := hX7.lt; omega)
      obtain ⟨qa, qc, rfl, hqn, hqt⟩ := hq.form
      obtain ⟨b, off, rfl, hbl, _, _⟩ := hqt.tag (i := 0) (tagsTo_get (by omega))
      have hb7 : w7.heap.size ≤ b := (hq.lt b rfl).1
      have Hget : Hid (∀ k, k < nd → (tagsTo ks voteW ib nd)[k]? = some (tagJ ks voteW ib k)) := fun k hk => tagsTo_get hk
      have Hfew : Hid (∀ k, k < nd → enV ks n x.d ((tagsTo ks voteW ib nd).take k ++ (tagsTo ks voteW ib nd).drop (k + 1)) = 12) := fun k hk => by
        unfold enV
        rw [← hib.out]
        exact few_chk (by omega) hk hndd
      have Hodd : Hid (∀ k mac, k < nd → ¬ mac = Mx.macOf (ks.getD k ⟨#[]⟩) voteW ib → enV ks n x.d ((tagsTo ks voteW ib nd).set k ⟨(k : Int), mac⟩) = 10) := fun k mac hk hm => by
        unfold enV
        rw [← hib.out]
        exact odd_chk (by omega) hk mac hm
      have Hall : Hid (enV ks n x.d (tagsTo ks voteW ib nd) = 0) := by
        unfold enV
        rw [← hib.out]
        exact all_chk (by omega) hndd
      have Htur : Hid (enV ks n x.d (((tagsTo ks voteW ib nd).set 0 (tagJ ks voteW ib 1)).set 1 (tagJ ks voteW ib 0)) = 9) := by
        unfold enV
        rw [← hib.out]
        have e : ((tagsTo ks voteW ib nd).set 0 (tagJ ks voteW ib 1)).set 1 (tagJ ks voteW ib 0) = tagJ ks voteW ib 1 :: tagJ ks voteW ib 0 :: (tagsTo ks voteW ib nd).drop 2 := by
          have h0 := tagsTo_get (ks := ks) (kind := voteW) (word := ib) (m := nd) (i := 0) (by omega)
          have h1 := tagsTo_get (ks := ks) (kind := voteW) (word := ib) (m := nd) (i := 1) (by omega)
          generalize tagsTo ks voteW ib nd = L at h0 h1
          match L, h0, h1 with
          | a :: c :: r, _, _ => rfl
        rw [e]
        exact turned_chk (by omega) _
      obtain ⟨L, hLe⟩ : ∃ q, Hid (q = tagsTo ks voteW ib nd) := ⟨_, rfl⟩
      rw [← hLe.out] at hq hqt hLl Hget Hfew Hodd Hall Htur ⊢
      have cK : Hid (∀ (l : List TagD) (u : HdrM) (ao : Option Addr) (cap : Nat) (w' : World), l.length ≤ 7 → u.d = x.d → u.At w' → RowAt tagK w' ao l → (ao = none → cap = 0) → Below w7.heap.size w7 w' → Calls Tryd.prog 11 #[.pointer (some ⟨tb, 0, none⟩), .agg #[.int .i64 u.author, .int .i64 u.round, .slice u.ra u.refs.length u.rc, .slice u.pa u.parents.length u.pc, .slice ao l.length cap]] w' fun e w'' => e = .returned (.int .i64 (enV ks n x.d l : Int)) ∧ Below w'.heap.size w' w'') := by
        intro l u ao cap w' hl7 hud hu hrow hnil hbw
        have hufit : u.d.Fit := by rw [hud]; exact hfit.out
        have := certCheck_any tb n ks ⟨u, ao, l, cap⟩ w' (hT7.below hbw) n2 hk32 ⟨hu, hrow, hnil⟩ (fit_lensC hufit).acks' (fit_lensC hufit).p' (by show l.length ≤ maxLen; unfold maxLen; omega) (hdrFit_of hufit) (by show (encH u.d).length ≤ _; rw [hud]; have := hsmall.out; omega) (hG7.below hbw)
        have hd : CertM.d ⟨u, ao, l, cap⟩ = ⟨x.d, l⟩ := by show (⟨u.d, l⟩ : CertD) = _; rw [hud]
        have hc : chkC ks n ⟨x.d, l⟩ = enV ks n x.d l := by
          unfold chkC
          rw [if_neg (by simp only; rw [HC.out]; simp)]
        rw [hd, hc] at this
        exact this
      have hL7 : L.length ≤ 7 := by omega
      have m1 : L.length ≤ maxLen := by unfold maxLen; omega
      have m2 : L.length * 24 ≤ 140737488355328 := by omega
      have c3n : ¬ (nd : Int) < 3 := by omega
      have x0 := hXr.cell (i := 0) rfl
      have x1 := hXr.cell (i := 1) rfl
      have x2 := hXr.cell (i := 2) rfl
      have x3 := hXr.cell (i := 3) rfl
      clear hkk hndd
      go_wp2_with fail
      refine (cO _ (hA.below hBr)).mono ?_
      rintro e w9 ⟨u, rfl, hud, hu, huf, hb9⟩
      unfold HdrM.v
      have hbE := belowNew w9 (.cells #[] 47)
      have hb9' := hb.trans (hb9.mono hb.size)
      have hbE' := hb9'.trans (hbE.mono hb9'.size)
      have hqtE := (hqt.below hb9).below hbE
      have hqE := (hq.below hb9).below hbE
      have huE := hu.below hbE
      have hoE := ownEmpty w9
      have hXE := (hXr.below hb9 hXr.lt).below hbE (by have := hXr.lt; have := hb9.size; omega)
      have hbsE := hbE.size
      have hu9 := hu
      clear x0 x1 x2 x3 hBr hXr huf hu
      go_wp2_with (at_builtin; refine wpList_copyW (K := tagK) ?hw _ _ 26 rfl w9.heap.size 47 i0 _ 24 Tryd.underlying26 hi hz0 hz1 hz2 rfl _ rfl hoE (some ⟨b, off, none⟩) qc L ?hx hqtE (fun _ _ h => h.elim) (fun h => by cases h) m1 m2 hbsE ?_)
      case hx => (try rw [hLl]); rfl
      intro a1 c1 w10 hq10 hk10
      have hbk := Kept.below hk10 (B := w9.heap.size) hbsE (fun k hk => (hoE.lt k hk).1)
      have hb10 := hbE'.trans (hbk.mono hb9'.size)
      have hq0 := hqE.kept hk10 (fun k hk e => by have h1 := (hoE.lt k e).1; have h2 := (hq.lt k hk).2; have := hb9.size; omega) (fun _ _ _ h => h.elim)
      have hu10 := Kind.kept hdrK huE hk10 (fun g hg e => by have h1 := (hoE.lt g e).1; have := Kind.lt hdrK hu9 hg; omega)
      have hX10 := hXE.below hbk (by have := hX7.lt; have := hb9'.size; omega)
      obtain ⟨a1', c1', e1, hn1, hr1⟩ := hq10.form
      simp only [hLl, Value.slice.injEq, true_and] at e1
      obtain ⟨rfl, rfl⟩ := e1
      have cK1 := cK.out L u a1 c1 w10 hL7 hud hu10 hr1 hn1 hb10
      rw [Hall.out, hLl] at cK1
      clear hbk hq hqt hb hb9 hb9' hbE hbE' hqtE hqE huE hu9 hoE hXE hbsE hk10 hq10 hr1 hn1 hu10 hud
      go_wp2_with fail
      refine cK1.mono ?_
      rintro e w11 ⟨rfl, hb11⟩
      have hb12 := hb10.trans (hb11.mono hb10.size)
      have hq12 := hq0.below hb11
      have hX12 := hX10.below hb11 hX10.lt
      clear cK1 hb11 hb10 hq0 hX10
      obtain ⟨j, hj, hje⟩ := pick_atC at_ nd (by omega) (by omega)
      go_wp2_with fail
      rw [hje]
      clear hje
      obtain ⟨qa9, qc9, e9, hcap, _⟩ := hq12.row.form
      simp only [hLl, Value.slice.injEq, true_and] at e9
      obtain ⟨rfl, rfl⟩ := e9
      rw [hLl] at hcap
      have hrow12 : RowAt tagK w11 (some ⟨b, off, none⟩) L := by
        obtain ⟨a9, c9, e9, _, h9⟩ := hq12.form
        simp only [hLl, Value.slice.injEq, true_and] at e9
        rw [e9.1]
        exact h9
      have bd : Below w11.heap.size w11 w11.drew := below_drewN (Below.refl _ w11) 1
      have bE : Below w11.heap.size w11 (w11.drew.alloc (.cells #[] 47)) := bd.alloc (Nat.le_refl _) _
      have hoE := ownEmpty w11.drew
      have hrE := hrow12.below bE
      have hTj : (L.take j).length = j := by rw [List.length_take, hLl]; omega
      have hDj : (L.drop (j + 1)).length = nd - (j + 1) := by rw [List.length_drop, hLl]
      have hN1 : 0 + j = j := Nat.zero_add j
      have hN2 : j + (nd - (j + 1)) = nd - 1 := by omega
      have hwj : IntKind.i64.wrap ((j : Int) + 1) = (j : Int) + 1 := by rw [IntKind.wrap_i64]; omega
      have j1 : (0 : Int) ≤ (j : Int) := by omega
      have j2 : (j : Int) ≤ (qc : Int) := by omega
      have j3 : (j : Int) + 1 ≤ (nd : Int) := by omega
      have j4 : (0 : Int) ≤ (j : Int) + 1 := by omega
      have n1 : j ≤ maxLen := by unfold maxLen; omega
      have n2' : j * 24 ≤ 140737488355328 := by omega
      have n3 : nd - 1 ≤ maxLen := by unfold maxLen; omega
      have n4 : (nd - 1) * 24 ≤ 140737488355328 := by omega
      have hrT := hrE.take j
      have hzE : w11.heap.size ≤ (w11.drew.alloc (.cells #[] 47)).heap.size := bE.size
      rcases (by by_cases hcp : qc = j + 1; exact Or.inl hcp; exact Or.inr hcp : qc = j + 1 ∨ ¬ qc = j + 1) with hcp | hcp
      · have hdn : L.drop (j + 1) = [] := List.drop_of_length_le (by omega)
        have hdrop : ∀ U, Below w11.heap.size w11 U → RowAt tagK U (some ⟨b, off, none⟩) (L.drop (j + 1)) := fun U _ => by rw [hdn]; exact nil_row _ _
        have hcpT : (qc = j + 1) = True := eq_true hcp
        clear hcp hdn
        go_region_law (first
          | (refine step_ownM (K := tagK) _ (by rfl) _ _ 26 (by rfl) w11.heap.size 47 i0 _ 24 Tryd.underlying26 hi hz0 hz1 hz2 rfl _ 0 j j [] (by rfl) hoE ⟨b, off, none⟩ qc (L.take j) hTj hN1 (by rfl) hrT n1 n2' hzE ?_; intro ao1 cap1 w13 hO13 hk13; have b13 : Below w11.heap.size w11 w13 := bE.trans (Kept.below hk13 bE.size (fun k hk => (hoE.lt k hk).1)); have hz13 := b13.size; have hrD : RowAt tagK w13 (some ⟨b, off, none⟩) (L.drop (j + 1)) := hdrop w13 b13)
          | (refine step_ownM (K := tagK) _ (by rfl) _ _ 26 (by rfl) w11.heap.size 47 i0 _ 24 Tryd.underlying26 hi hz0 hz1 hz2 rfl _ j (nd - (j + 1)) (nd - 1) (flatK tagK (L.take j)) (by rfl) hO13 ⟨b, off, none⟩ (qc - (j + 1)) (L.drop (j + 1)) hDj hN2 (by rfl) hrD n3 n4 hz13 ?_; intro ao2 cap2 w14 hO14 hk14; have b14 : Below w11.heap.size w11 w14 := b13.trans (Kept.below hk14 hz13 (fun k hk => (hO13.lt k hk).1))))
        have hb14 := hb12.trans (b14.mono hb12.size)
        have hFL : flatK tagK (L.take j ++ L.drop (j + 1)) = flatK tagK (L.take j) ++ flatK tagK (L.drop (j + 1)) := flatK_append _ _ _
        have hFl : (L.take j ++ L.drop (j + 1)).length = nd - 1 := by rw [List.length_append, hTj, hDj]; omega
        rw [← hFL] at hO14
        have hqF := KQ.of_own (K := tagK) (l := L.take j ++ L.drop (j + 1)) (fun _ _ h => h.elim) (fun _ _ => trivial) hFl.symm hO14
        have hFc := Hfew.out j hj
        obtain ⟨FL, hFLe⟩ : ∃ q, q = L.take j ++ L.drop (j + 1) := ⟨_, rfl⟩
        rw [← hFLe] at hqF hFl hFc
        obtain ⟨aF, cF, eF, hnF, hrF⟩ := hqF.form
        simp only [hFl, Value.slice.injEq, true_and] at eF
        obtain ⟨rfl, rfl⟩ := eF
        have hrL := hrow12.below b14
        have hX14 := hX12.below b14 hX12.lt
        have hLj := Hget.out j hj
        have hL0 := Hget.out 0 (by omega)
        have hL1 := Hget.out 1 (by omega)
        have hbw : b < w14.heap.size := by
          obtain ⟨b', off', e', h', _⟩ := hrL.cell 0 _ hL0
          simp at e'
          omega
        clear hFL hFLe hqF hO14 hk14 hO13 hk13 b13 hrT hrE hoE hdrop hrow12 hq12 hX12 hb12 bd bE b14 hrD hz13 hzE Hget Hfew hTj hDj hN1 hN2 hwj j3 j4 n1 n2' n3 n4
        -- odd
        have bE := belowNew w14 (.cells #[] 47)
        have hoE := ownEmpty w14
        have hrLE := hrL.below bE
        have hzE := bE.size
        simp only [Act.put, List.setIfInBounds_toArray]
        go_wp2_with (at_builtin; (refine wpList_copyW (K := tagK) (by rfl) _ _ 26 rfl w14.heap.size 47 i0 _ 24 Tryd.underlying26 hi hz0 hz1 hz2 rfl _ rfl hoE (some ⟨b, off, none⟩) qc L (by rw [hLl]; rfl) hrLE (fun _ _ h => h.elim) (fun h => by cases h) m1 m2 hzE ?_))
        intro a2 c2 w15 hq15 hk15
        have b15 : Below w14.heap.size w14 w15 := bE.trans (Kept.below hk15 hzE (fun k hk => (hoE.lt k hk).1))
        have hb15 := hb14.trans (b15.mono hb14.size)
        have hq15lt : ∀ k, (Value.slice a2 nd c2).ownBlock = some k → k < w15.heap.size := fun k hk => (hq15.lt k hk).2
        clear hoE hrLE hzE bE hk15
        have hkk := hkl.out
        have hndd := hnd.out
        have cS := Mx.sign_yes tb n ks j ackW ib w15 (hT7.below hb15) (ks.getD j ⟨#[]⟩) (Mx.getD_some (by omega)) hk32 (by decide) (by omega) (hG7.below hb15)
        obtain ⟨mac, hmac⟩ : ∃ z, z = Mx.macOf (ks.getD j ⟨#[]⟩) ackW ib := ⟨_, rfl⟩
        rw [← hmac] at cS
        unfold Mx.tagV at cS
        unfold ackW at cS
        clear hmac hkk hndd
        go_wp2_with fail
        refine cS.mono ?_
        rintro e w16 ⟨rfl, hb16⟩
        have bX := belowNew w16 (.cells #[.int .i64 (j : Int), .string mac] 47)
        have hY17 := Arr.new w16 47 [.int .i64 (j : Int), .string mac]
        have hq17 := (hq15.below hb16).below bX
        have b17 := b15.trans ((hb16.trans (bX.mono hb16.size)).mono b15.size)
        have hY16 : w14.heap.size ≤ w16.heap.size := Nat.le_trans b15.size hb16.size
        have hq16lt : ∀ k, (Value.slice a2 nd c2).ownBlock = some k → k < w16.heap.size := fun k hk => Nat.lt_of_lt_of_le (hq15lt k hk) hb16.size
        clear cS hb15 hb16 hq15 b15 bX
        obtain ⟨w17, hw17⟩ : ∃ z, w16.alloc (.cells #[.int .i64 (j : Int), .string mac] 47) = z := ⟨_, rfl⟩
        rw [hw17] at hY17 hq17 b17
        obtain ⟨g, og, eg, hg, hgl, o0, o1, hfro, hset⟩ := hq17.setTag hLj
        subst eg
        have hgx := hq16lt g rfl
        have o0' : w17.cell? ⟨g, og + j * 2, none⟩ = some (.int .i64 (j : Int)) := o0
        have f0 := hfro (og + j * 2)
        have f1 := hfro (og + j * 2 + 1)
        have y0 := hY17.cell (i := 0) rfl
        have y1 := hY17.cell (i := 1) rfl
        have jn : (j : Int) < (nd : Int) := by omega
        have hq18 := hset ⟨(j : Int), mac⟩
        have b18 := (b17.setCell (p := ⟨g, og + j * 2, none⟩) hg (.int .i64 (j : Int))).setCell (p := ⟨g, og + j * 2 + 1, none⟩) hg (.string mac)
        replace hq18 : KQ tagK 47 ((w17.setCell ⟨g, og + j * 2, none⟩ (.int .i64 (j : Int))).setCell ⟨g, og + j * 2 + 1, none⟩ (.string mac)) w14.heap.size (.slice (some ⟨g, og, none⟩) nd c2) (L.set j ⟨(j : Int), mac⟩) := hq18
        obtain ⟨w18, hw18⟩ : ∃ q, (w17.setCell ⟨g, og + j * 2, none⟩ (.int .i64 (j : Int))).setCell ⟨g, og + j * 2 + 1, none⟩ (.string mac) = q := ⟨_, rfl⟩
        rw [hw18] at hq18 b18
        clear o0
        -- turned
        have bE := belowNew w18 (.cells #[] 47)
        have b18E := b18.trans (bE.mono b18.size)
        have hoE := ownEmpty w18
        have hrLE := hrL.below b18E
        have hzE := bE.size
        go_wp2_with (at_builtin; refine wpList_copyW (K := tagK) (by rfl) _ _ 26 (by rfl) w18.heap.size 47 i0 _ 24 Tryd.underlying26 hi hz0 hz1 hz2 rfl _ (by rfl) hoE (some ⟨b, off, none⟩) qc L (by rw [hLl]; rfl) hrLE (fun _ _ h => h.elim) (fun h => by cases h) m1 m2 hzE ?_)
        intro a3 c3 w19 hq19 hk19
        have b19' : Below w18.heap.size w18 w19 := bE.trans (Kept.below hk19 hzE (fun k hk => (hoE.lt k hk).1))
        have b19 := b18.trans (b19'.mono b18.size)
        have hq18' := hq18.below b19'
        clear o0' o1 f0 f1 y0 y1 hw18 hw17 hset hfro hq17 b17 hY17 bE b18E hoE hrLE hzE hk19
        have hrL19 := hrL.below b19
        obtain ⟨b', off', e', _, l0, l1⟩ := hrL19.tag hL0
        obtain ⟨rfl, rfl⟩ : b' = b ∧ off' = off := by simp at e'; exact ⟨e'.1.symm, e'.2.symm⟩
        obtain ⟨b2, off2, e2, _, l2, l3⟩ := hrL19.tag hL1
        obtain ⟨rfl, rfl⟩ : b2 = b' ∧ off2 = off' := by simp at e2; exact ⟨e2.1.symm, e2.2.symm⟩
        obtain ⟨M0, hM0⟩ : ∃ q, Hid (q = (tagJ ks voteW ib 0).mac) := ⟨_, rfl⟩
        obtain ⟨M1, hM1⟩ : ∃ q, Hid (q = (tagJ ks voteW ib 1).mac) := ⟨_, rfl⟩
        have ht0 : tagJ ks voteW ib 0 = ⟨0, M0⟩ := by rw [hM0.out]; rfl
        have ht1 : tagJ ks voteW ib 1 = ⟨1, M1⟩ := by rw [hM1.out]; rfl
        rw [ht0] at l0 l1 hL0 Htur
        rw [ht1] at l2 l3 hL1 Htur
        have p0 : w19.cell? ⟨b2, off2, none⟩ = some (.int .i64 0) := by simpa using l0
        have p1 : w19.cell? ⟨b2, off2 + 1, none⟩ = some (.string M0) := by simpa using l1
        have p2 : w19.cell? ⟨b2, off2 + 2, none⟩ = some (.int .i64 1) := by simpa using l2
        have p3 : w19.cell? ⟨b2, off2 + 3, none⟩ = some (.string M1) := by simpa using l3
        obtain ⟨g3, o3, eg3, hg3, hgl3, q0, q1, hfr3, hset3⟩ := hq19.setTag hL0
        subst eg3
        have hq20a := hset3 ⟨1, M1⟩
        obtain ⟨g4, o4, eg4, _, _, q2, q3, _, hset4⟩ := hq19.setTag hL1
        obtain ⟨rfl, rfl⟩ : g4 = g3 ∧ o4 = o3 := by simp at eg4; exact ⟨eg4.1.symm, eg4.2.symm⟩
        obtain ⟨g5, o5, eg5, _, _, _, _, _, hset5⟩ := hq20a.setTag (i := 1) (t := ⟨1, M1⟩) (by rw [List.getElem?_set, if_neg (by decide)]; exact hL1)
        obtain ⟨rfl, rfl⟩ : g5 = g4 ∧ o5 = o4 := by simp at eg5; exact ⟨eg5.1.symm, eg5.2.symm⟩
        have hq20 := hset5 ⟨0, M0⟩
        simp only [Nat.zero_mul, Nat.add_zero, Nat.one_mul] at hq20 q0 q1 q2 q3
        have f0 := hfr3 o5
        have f1 := hfr3 (o5 + 1)
        have f2 := hfr3 (o5 + 2)
        have f3 := hfr3 (o5 + 3)
        replace q3 : w19.cell? ⟨g5, o5 + 3, none⟩ = some (.string M1) := q3
        replace hq20 : KQ tagK 47 ((((w19.setCell ⟨g5, o5, none⟩ (.int .i64 1)).setCell ⟨g5, o5 + 1, none⟩ (.string M1)).setCell ⟨g5, o5 + 2, none⟩ (.int .i64 0)).setCell ⟨g5, o5 + 2 + 1, none⟩ (.string M0)) w18.heap.size (.slice (some ⟨g5, o5, none⟩) nd c3) ((L.set 0 ⟨1, M1⟩).set 1 ⟨0, M0⟩) := hq20
        have i1 : (1 : Int) < (nd : Int) := by omega
        have i2 : (0 : Int) < (nd : Int) := by omega
        have b20' := ((((Below.refl w18.heap.size w19).setCell (p := ⟨g5, o5, none⟩) hg3 (.int .i64 1)).setCell (p := ⟨g5, o5 + 1, none⟩) hg3 (.string M1)).setCell (p := ⟨g5, o5 + 2, none⟩) hg3 (.int .i64 0)).setCell (p := ⟨g5, o5 + 2 + 1, none⟩) hg3 (.string M0)
        have hgb : b2 ≠ g5 := by have := b18.size; omega
        clear l0 l1 l2 l3 e' e2 eg4 eg5 hset3 hset4 hset5 hq20a hfr3 hrL19
        go_wp2_with fail
        go_big_region
        generalize (((w19.setCell ⟨g5, o5, none⟩ (.int .i64 1)).setCell ⟨g5, o5 + 1, none⟩ (.string M1)).setCell ⟨g5, o5 + 2, none⟩ (.int .i64 0)).setCell ⟨g5, o5 + 2 + 1, none⟩ (.string M0) = w20 at hq20 b20' ⊢
        have bd20 : Below w20.heap.size w20 w20.drew := below_drewN (Below.refl _ w20) 1
        have b21' : Below w18.heap.size w18 w20.drew := b19'.trans (b20'.trans (bd20.mono (Nat.le_trans b19'.size b20'.size)))
        have b21 : Below w14.heap.size w14 w20.drew := b18.trans (b21'.mono b18.size)
        obtain ⟨aT, cT, eT, hnT, hrT⟩ := hq20.form
        simp only [List.length_set, hLl, Value.slice.injEq, true_and] at eT
        obtain ⟨rfl, rfl⟩ := eT
        obtain ⟨aO, cO2, eO, hnO, hrO⟩ := hq18.form
        simp only [List.length_set, hLl, Value.slice.injEq, true_and] at eO
        obtain ⟨rfl, rfl⟩ := eO
        have hrT21 := hrT.below bd20
        have hrO21 := hrO.below b21'
        have hrF21 := hrF.below b21
        have hrL21 := hrL.below b21
        have hX21 := hX14.below b21 hX14.lt
        have hb21 := hb14.trans (b21.mono hb14.size)
        have hOl : (L.set j ⟨(j : Int), mac⟩).length = nd := by rw [List.length_set, hLl]
        have hTl : ((L.set 0 ⟨1, M1⟩).set 1 ⟨0, M0⟩).length = nd := by rw [List.length_set, List.length_set, hLl]
        have hoj : (L.set j ⟨(j : Int), mac⟩)[j]? = some ⟨(j : Int), mac⟩ := by rw [List.getElem?_set, if_pos rfl, if_pos (by omega)]
        have htjm : tagJ ks voteW ib j = ⟨(j : Int), Mx.macOf (ks.getD j ⟨#[]⟩) voteW ib⟩ := rfl
        have HOc : Hid ((mac = Mx.macOf (ks.getD j ⟨#[]⟩) voteW ib ∧ enV ks n x.d (L.set j ⟨(j : Int), mac⟩) = 0) ∨ (¬ mac = Mx.macOf (ks.getD j ⟨#[]⟩) voteW ib ∧ enV ks n x.d (L.set j ⟨(j : Int), mac⟩) = 10)) := by
          by_cases hmm : mac = Mx.macOf (ks.getD j ⟨#[]⟩) voteW ib
          · refine Or.inl ⟨hmm, ?_⟩
            have : L.set j ⟨(j : Int), mac⟩ = L := by
              rw [hmm, ← htjm]
              obtain ⟨h1, h2⟩ := List.getElem?_eq_some_iff.1 hLj
              rw [← h2]
              exact List.set_getElem_self h1
            rw [this]
            exact Hall.out
          · exact Or.inr ⟨hmm, Hodd.out j mac hj hmm⟩
        rw [htjm] at hLj
        obtain ⟨mj, hmj⟩ : ∃ q, Hid (q = Mx.macOf (ks.getD j ⟨#[]⟩) voteW ib) := ⟨_, rfl⟩
        rw [← hmj.out] at hLj HOc
        obtain ⟨OL, hOLe⟩ : ∃ q, Hid (q = L.set j ⟨(j : Int), mac⟩) := ⟨_, rfl⟩
        obtain ⟨TL, hTLe⟩ : ∃ q, Hid (q = (L.set 0 ⟨1, M1⟩).set 1 ⟨0, M0⟩) := ⟨_, rfl⟩
        rw [← hOLe.out] at hrO21 hOl hoj HOc
        rw [← hTLe.out] at hrT21 hTl Htur
        generalize w20.drew = w21 at hrT21 hrO21 hrF21 hrL21 hX21 hb21 ⊢
        clear hq20 hq18 hq18' hq19 hrT hrO hrF hrL hX14 hb14 b21 b21' bd20 b20' b19' b19 b18 htjm hgb p0 p1 p2 p3 q0 q1 q2 q3 f0 f1 f2 f3 hL0 hL1 Hodd
        have cKF := fun u w' h1 h2 h3 h4 => cK.out FL u _ _ w' (by omega) h1 h2 h3 hnF h4
        have cKO := fun u w' h1 h2 h3 h4 => cK.out OL u _ _ w' (by omega) h1 h2 h3 hnO h4
        have cKT := fun u w' h1 h2 h3 h4 => cK.out TL u _ _ w' (by omega) h1 h2 h3 hnT h4
        rw [hFc, hFl] at cKF
        rw [hOl] at cKO
        rw [Htur.out, hTl] at cKT
        obtain ⟨eo, heo⟩ : ∃ q, Hid (q = enV ks n x.d OL) := ⟨_, rfl⟩
        rw [← heo.out] at cKO HOc
        have hB21 := hB7.trans (hb21.mono hB7.size)
        have x0 := hX21.cell (i := 0) rfl
        have x1 := hX21.cell (i := 1) rfl
        have x2 := hX21.cell (i := 2) rfl
        have x3 := hX21.cell (i := 3) rfl
        go_wp2_with fail
        refine (cO _ (hA.below hB21)).mono ?_
        rintro e w22 ⟨u1, rfl, hud, hu, huf, hb1⟩
        unfold HdrM.v
        have hb22 := hb21.trans (hb1.mono hb21.size)
        have c1 := cKF u1 w22 hud hu (hrF21.below hb1) hb22
        have b22 := hb1
        clear x0 x1 x2 x3 cKF huf hud hu
        go_wp2_with fail
        refine c1.mono ?_
        rintro e w23 ⟨rfl, hb1'⟩
        have b23 := b22.trans (hb1'.mono b22.size)
        have hb23 := hb21.trans (b23.mono hb21.size)
        have hB23 := hB7.trans (hb23.mono hB7.size)
        have hX23 := hX21.below b23 hX21.lt
        clear c1 hb1 hb1' b22 hb22
        have x0 := hX23.cell (i := 0) rfl
        have x1 := hX23.cell (i := 1) rfl
        have x2 := hX23.cell (i := 2) rfl
        have x3 := hX23.cell (i := 3) rfl
        go_wp2_with fail
        refine (cO _ (hA.below hB23)).mono ?_
        rintro e w24 ⟨u2, rfl, hud, hu, huf, hb1⟩
        unfold HdrM.v
        have b24 := b23.trans (hb1.mono b23.size)
        have hb24 := hb21.trans (b24.mono hb21.size)
        have c1 := cKO u2 w24 hud hu (hrO21.below b24) hb24
        clear x0 x1 x2 x3 cKO huf hud hu
        go_wp2_with fail
        refine c1.mono ?_
        rintro e w25 ⟨rfl, hb1'⟩
        have b25 := b24.trans (hb1'.mono b24.size)
        have hb25 := hb21.trans (b25.mono hb21.size)
        have hB25 := hB7.trans (hb25.mono hB7.size)
        have hX25 := hX21.below b25 hX21.lt
        clear c1 hb1 hb1' b24 hb24 b23 hb23 hB23 hX23
        have x0 := hX25.cell (i := 0) rfl
        have x1 := hX25.cell (i := 1) rfl
        have x2 := hX25.cell (i := 2) rfl
        have x3 := hX25.cell (i := 3) rfl
        go_wp2_with fail
        refine (cO _ (hA.below hB25)).mono ?_
        rintro e w26 ⟨u3, rfl, hud, hu, huf, hb1⟩
        unfold HdrM.v
        have b26 := b25.trans (hb1.mono b25.size)
        have hb26 := hb21.trans (b26.mono hb21.size)
        have c1 := cKT u3 w26 hud hu (hrT21.below b26) hb26
        clear x0 x1 x2 x3 cKT huf hud hu cO
        go_wp2_with fail
        refine c1.mono ?_
        rintro e w27 ⟨rfl, hb1'⟩
        have b27 := b26.trans (hb1'.mono b26.size)
        have hb27 := hb21.trans (b27.mono hb21.size)
        have hB27 := hB7.trans (hb27.mono hB7.size)
        clear c1 hb1 hb1' b26 hb26 b25 hb25 hB25 hX25
        obtain ⟨b', off', e', _, l0, l1⟩ := (hrL21.below b27).tag hLj
        obtain ⟨rfl, rfl⟩ : b' = b2 ∧ off' = off2 := by simp at e'; exact ⟨e'.1.symm, e'.2.symm⟩
        obtain ⟨g6, o6, e6, _, r0, r1⟩ := (hrO21.below b27).tag hoj
        obtain ⟨rfl, rfl⟩ : g6 = g ∧ o6 = og := by simp at e6; exact ⟨e6.1.symm, e6.2.symm⟩
        simp only at l0 l1 r0 r1
        clear e' e6 hrL21 hrO21 hrF21 hrT21 hX21 hB21 hb21 b27 hb27
        rcases HOc.out with ⟨hmm, he⟩ | ⟨hmm, he⟩
        · subst he
          rw [hmm] at r1
          clear HOc heo
          go_wp2_with fail
          go_big_quiet (fail)
          have hBF := below_drewN hB27 nq
          clear l0 l1 r0 r1
          generalize w27.drewN nq = w28 at hBF ⊢
          go_wp2
          go_ret
          exact ⟨rfl, hBF⟩
        · subst he
          clear HOc heo
          go_wp2_with fail
          go_big_quiet (fail)
          have hBF := below_drewN hB27 nq
          clear l0 l1 r0 r1
          generalize w27.drewN nq = w28 at hBF ⊢
          go_wp2
          go_ret
          exact ⟨rfl, hBF⟩
      · have hdrop : ∀ U, Below w11.heap.size w11 U → RowAt tagK U (some ⟨b, off + (j + 1) * 2, none⟩) (L.drop (j + 1)) := fun U hU => by
          have h0 := hrow12.below hU
          refine ⟨fun k t ht => ?_, fun _ _ => trivial⟩
          rw [List.getElem?_drop] at ht
          obtain ⟨b', off', e', h1, h2⟩ := h0.cell _ t ht
          simp only [Option.some.injEq, Addr.mk.injEq, and_true] at e'
          obtain ⟨rfl, rfl⟩ := e'
          refine ⟨_, _, rfl, h1, fun q v hv => ?_⟩
          have := h2 q v hv
          have ea : off + (j + 1 + k) * tagK.n + q = off + (j + 1) * 2 + k * tagK.n + q := by show off + (j + 1 + k) * 2 + q = off + (j + 1) * 2 + k * 2 + q; omega
          rw [ea] at this
          exact this
        go_region_law (first
          | (refine step_ownM (K := tagK) _ (by rfl) _ _ 26 (by rfl) w11.heap.size 47 i0 _ 24 Tryd.underlying26 hi hz0 hz1 hz2 rfl _ 0 j j [] (by rfl) hoE ⟨b, off, none⟩ qc (L.take j) hTj hN1 (by rfl) hrT n1 n2' hzE ?_; intro ao1 cap1 w13 hO13 hk13; have b13 : Below w11.heap.size w11 w13 := bE.trans (Kept.below hk13 bE.size (fun k hk => (hoE.lt k hk).1)); have hz13 := b13.size; have hrD : RowAt tagK w13 (some ⟨b, off + (j + 1) * 2, none⟩) (L.drop (j + 1)) := hdrop w13 b13)
          | (refine step_ownM (K := tagK) _ (by rfl) _ _ 26 (by rfl) w11.heap.size 47 i0 _ 24 Tryd.underlying26 hi hz0 hz1 hz2 rfl _ j (nd - (j + 1)) (nd - 1) (flatK tagK (L.take j)) (by rfl) hO13 ⟨b, off + (j + 1) * 2, none⟩ (qc - (j + 1)) (L.drop (j + 1)) hDj hN2 (by rfl) hrD n3 n4 hz13 ?_; intro ao2 cap2 w14 hO14 hk14; have b14 : Below w11.heap.size w11 w14 := b13.trans (Kept.below hk14 hz13 (fun k hk => (hO13.lt k hk).1))))
        have hb14 := hb12.trans (b14.mono hb12.size)
        have hFL : flatK tagK (L.take j ++ L.drop (j + 1)) = flatK tagK (L.take j) ++ flatK tagK (L.drop (j + 1)) := flatK_append _ _ _
        have hFl : (L.take j ++ L.drop (j + 1)).length = nd - 1 := by rw [List.length_append, hTj, hDj]; omega
        rw [← hFL] at hO14
        have hqF := KQ.of_own (K := tagK) (l := L.take j ++ L.drop (j + 1)) (fun _ _ h => h.elim) (fun _ _ => trivial) hFl.symm hO14
        have hFc := Hfew.out j hj
        obtain ⟨FL, hFLe⟩ : ∃ q, q = L.take j ++ L.drop (j + 1) := ⟨_, rfl⟩
        rw [← hFLe] at hqF hFl hFc
        obtain ⟨aF, cF, eF, hnF, hrF⟩ := hqF.form
        simp only [hFl, Value.slice.injEq, true_and] at eF
        obtain ⟨rfl, rfl⟩ := eF
        have hrL := hrow12.below b14
        have hX14 := hX12.below b14 hX12.lt
        have hLj := Hget.out j hj
        have hL0 := Hget.out 0 (by omega)
        have hL1 := Hget.out 1 (by omega)
        have hbw : b < w14.heap.size := by
          obtain ⟨b', off', e', h', _⟩ := hrL.cell 0 _ hL0
          simp at e'
          omega
        clear hFL hFLe hqF hO14 hk14 hO13 hk13 b13 hrT hrE hoE hdrop hrow12 hq12 hX12 hb12 bd bE b14 hrD hz13 hzE Hget Hfew hTj hDj hN1 hN2 hwj j3 j4 n1 n2' n3 n4
        -- odd
        have bE := belowNew w14 (.cells #[] 47)
        have hoE := ownEmpty w14
        have hrLE := hrL.below bE
        have hzE := bE.size
        simp only [Act.put, List.setIfInBounds_toArray]
        go_wp2_with (at_builtin; (refine wpList_copyW (K := tagK) (by rfl) _ _ 26 rfl w14.heap.size 47 i0 _ 24 Tryd.underlying26 hi hz0 hz1 hz2 rfl _ rfl hoE (some ⟨b, off, none⟩) qc L (by rw [hLl]; rfl) hrLE (fun _ _ h => h.elim) (fun h => by cases h) m1 m2 hzE ?_))
        intro a2 c2 w15 hq15 hk15
        have b15 : Below w14.heap.size w14 w15 := bE.trans (Kept.below hk15 hzE (fun k hk => (hoE.lt k hk).1))
        have hb15 := hb14.trans (b15.mono hb14.size)
        have hq15lt : ∀ k, (Value.slice a2 nd c2).ownBlock = some k → k < w15.heap.size := fun k hk => (hq15.lt k hk).2
        clear hoE hrLE hzE bE hk15
        have hkk := hkl.out
        have hndd := hnd.out
        have cS := Mx.sign_yes tb n ks j ackW ib w15 (hT7.below hb15) (ks.getD j ⟨#[]⟩) (Mx.getD_some (by omega)) hk32 (by decide) (by omega) (hG7.below hb15)
        obtain ⟨mac, hmac⟩ : ∃ z, z = Mx.macOf (ks.getD j ⟨#[]⟩) ackW ib := ⟨_, rfl⟩
        rw [← hmac] at cS
        unfold Mx.tagV at cS
        unfold ackW at cS
        clear hmac hkk hndd
        go_wp2_with fail
        refine cS.mono ?_
        rintro e w16 ⟨rfl, hb16⟩
        have bX := belowNew w16 (.cells #[.int .i64 (j : Int), .string mac] 47)
        have hY17 := Arr.new w16 47 [.int .i64 (j : Int), .string mac]
        have hq17 := (hq15.below hb16).below bX
        have b17 := b15.trans ((hb16.trans (bX.mono hb16.size)).mono b15.size)
        have hY16 : w14.heap.size ≤ w16.heap.size := Nat.le_trans b15.size hb16.size
        have hq16lt : ∀ k, (Value.slice a2 nd c2).ownBlock = some k → k < w16.heap.size := fun k hk => Nat.lt_of_lt_of_le (hq15lt k hk) hb16.size
        clear cS hb15 hb16 hq15 b15 bX
        obtain ⟨w17, hw17⟩ : ∃ z, w16.alloc (.cells #[.int .i64 (j : Int), .string mac] 47) = z := ⟨_, rfl⟩
        rw [hw17] at hY17 hq17 b17
        obtain ⟨g, og, eg, hg, hgl, o0, o1, hfro, hset⟩ := hq17.setTag hLj
        subst eg
        have hgx := hq16lt g rfl
        have o0' : w17.cell? ⟨g, og + j * 2, none⟩ = some (.int .i64 (j : Int)) := o0
        have f0 := hfro (og + j * 2)
        have f1 := hfro (og + j * 2 + 1)
        have y0 := hY17.cell (i := 0) rfl
        have y1 := hY17.cell (i := 1) rfl
        have jn : (j : Int) < (nd : Int) := by omega
        have hq18 := hset ⟨(j : Int), mac⟩
        have b18 := (b17.setCell (p := ⟨g, og + j * 2, none⟩) hg (.int .i64 (j : Int))).setCell (p := ⟨g, og + j * 2 + 1, none⟩) hg (.string mac)
        replace hq18 : KQ tagK 47 ((w17.setCell ⟨g, og + j * 2, none⟩ (.int .i64 (j : Int))).setCell ⟨g, og + j * 2 + 1, none⟩ (.string mac)) w14.heap.size (.slice (some ⟨g, og, none⟩) nd c2) (L.set j ⟨(j : Int), mac⟩) := hq18
        obtain ⟨w18, hw18⟩ : ∃ q, (w17.setCell ⟨g, og + j * 2, none⟩ (.int .i64 (j : Int))).setCell ⟨g, og + j * 2 + 1, none⟩ (.string mac) = q := ⟨_, rfl⟩
        rw [hw18] at hq18 b18
        clear o0
        -- turned
        have bE := belowNew w18 (.cells #[] 47)
        have b18E := b18.trans (bE.mono b18.size)
        have hoE := ownEmpty w18
        have hrLE := hrL.below b18E
        have hzE := bE.size
        go_wp2_with (at_builtin; refine wpList_copyW (K := tagK) (by rfl) _ _ 26 (by rfl) w18.heap.size 47 i0 _ 24 Tryd.underlying26 hi hz0 hz1 hz2 rfl _ (by rfl) hoE (some ⟨b, off, none⟩) qc L (by rw [hLl]; rfl) hrLE (fun _ _ h => h.elim) (fun h => by cases h) m1 m2 hzE ?_)
        intro a3 c3 w19 hq19 hk19
        have b19' : Below w18.heap.size w18 w19 := bE.trans (Kept.below hk19 hzE (fun k hk => (hoE.lt k hk).1))
        have b19 := b18.trans (b19'.mono b18.size)
        have hq18' := hq18.below b19'
        clear o0' o1 f0 f1 y0 y1 hw18 hw17 hset hfro hq17 b17 hY17 bE b18E hoE hrLE hzE hk19
        have hrL19 := hrL.below b19
        obtain ⟨b', off', e', _, l0, l1⟩ := hrL19.tag hL0
        obtain ⟨rfl, rfl⟩ : b' = b ∧ off' = off := by simp at e'; exact ⟨e'.1.symm, e'.2.symm⟩
        obtain ⟨b2, off2, e2, _, l2, l3⟩ := hrL19.tag hL1
        obtain ⟨rfl, rfl⟩ : b2 = b' ∧ off2 = off' := by simp at e2; exact ⟨e2.1.symm, e2.2.symm⟩
        obtain ⟨M0, hM0⟩ : ∃ q, Hid (q = (tagJ ks voteW ib 0).mac) := ⟨_, rfl⟩
        obtain ⟨M1, hM1⟩ : ∃ q, Hid (q = (tagJ ks voteW ib 1).mac) := ⟨_, rfl⟩
        have ht0 : tagJ ks voteW ib 0 = ⟨0, M0⟩ := by rw [hM0.out]; rfl
        have ht1 : tagJ ks voteW ib 1 = ⟨1, M1⟩ := by rw [hM1.out]; rfl
        rw [ht0] at l0 l1 hL0 Htur
        rw [ht1] at l2 l3 hL1 Htur
        have p0 : w19.cell? ⟨b2, off2, none⟩ = some (.int .i64 0) := by simpa using l0
        have p1 : w19.cell? ⟨b2, off2 + 1, none⟩ = some (.string M0) := by simpa using l1
        have p2 : w19.cell? ⟨b2, off2 + 2, none⟩ = some (.int .i64 1) := by simpa using l2
        have p3 : w19.cell? ⟨b2, off2 + 3, none⟩ = some (.string M1) := by simpa using l3
        obtain ⟨g3, o3, eg3, hg3, hgl3, q0, q1, hfr3, hset3⟩ := hq19.setTag hL0
        subst eg3
        have hq20a := hset3 ⟨1, M1⟩
        obtain ⟨g4, o4, eg4, _, _, q2, q3, _, hset4⟩ := hq19.setTag hL1
        obtain ⟨rfl, rfl⟩ : g4 = g3 ∧ o4 = o3 := by simp at eg4; exact ⟨eg4.1.symm, eg4.2.symm⟩
        obtain ⟨g5, o5, eg5, _, _, _, _, _, hset5⟩ := hq20a.setTag (i := 1) (t := ⟨1, M1⟩) (by rw [List.getElem?_set, if_neg (by decide)]; exact hL1)
        obtain ⟨rfl, rfl⟩ : g5 = g4 ∧ o5 = o4 := by simp at eg5; exact ⟨eg5.1.symm, eg5.2.symm⟩
        have hq20 := hset5 ⟨0, M0⟩
        simp only [Nat.zero_mul, Nat.add_zero, Nat.one_mul] at hq20 q0 q1 q2 q3
        have f0 := hfr3 o5
        have f1 := hfr3 (o5 + 1)
        have f2 := hfr3 (o5 + 2)
        have f3 := hfr3 (o5 + 3)
        replace q3 : w19.cell? ⟨g5, o5 + 3, none⟩ = some (.string M1) := q3
        replace hq20 : KQ tagK 47 ((((w19.setCell ⟨g5, o5, none⟩ (.int .i64 1)).setCell ⟨g5, o5 + 1, none⟩ (.string M1)).setCell ⟨g5, o5 + 2, none⟩ (.int .i64 0)).setCell ⟨g5, o5 + 2 + 1, none⟩ (.string M0)) w18.heap.size (.slice (some ⟨g5, o5, none⟩) nd c3) ((L.set 0 ⟨1, M1⟩).set 1 ⟨0, M0⟩) := hq20
        have i1 : (1 : Int) < (nd : Int) := by omega
        have i2 : (0 : Int) < (nd : Int) := by omega
        have b20' := ((((Below.refl w18.heap.size w19).setCell (p := ⟨g5, o5, none⟩) hg3 (.int .i64 1)).setCell (p := ⟨g5, o5 + 1, none⟩) hg3 (.string M1)).setCell (p := ⟨g5, o5 + 2, none⟩) hg3 (.int .i64 0)).setCell (p := ⟨g5, o5 + 2 + 1, none⟩) hg3 (.string M0)
        have hgb : b2 ≠ g5 := by have := b18.size; omega
        clear l0 l1 l2 l3 e' e2 eg4 eg5 hset3 hset4 hset5 hq20a hfr3 hrL19
        go_wp2_with fail
        go_big_region
        generalize (((w19.setCell ⟨g5, o5, none⟩ (.int .i64 1)).setCell ⟨g5, o5 + 1, none⟩ (.string M1)).setCell ⟨g5, o5 + 2, none⟩ (.int .i64 0)).setCell ⟨g5, o5 + 2 + 1, none⟩ (.string M0) = w20 at hq20 b20' ⊢
        have bd20 : Below w20.heap.size w20 w20.drew := below_drewN (Below.refl _ w20) 1
        have b21' : Below w18.heap.size w18 w20.drew := b19'.trans (b20'.trans (bd20.mono (Nat.le_trans b19'.size b20'.size)))
        have b21 : Below w14.heap.size w14 w20.drew := b18.trans (b21'.mono b18.size)
        obtain ⟨aT, cT, eT, hnT, hrT⟩ := hq20.form
        simp only [List.length_set, hLl, Value.slice.injEq, true_and] at eT
        obtain ⟨rfl, rfl⟩ := eT
        obtain ⟨aO, cO2, eO, hnO, hrO⟩ := hq18.form
        simp only [List.length_set, hLl, Value.slice.injEq, true_and] at eO
        obtain ⟨rfl, rfl⟩ := eO
        have hrT21 := hrT.below bd20
        have hrO21 := hrO.below b21'
        have hrF21 := hrF.below b21
        have hrL21 := hrL.below b21
        have hX21 := hX14.below b21 hX14.lt
        have hb21 := hb14.trans (b21.mono hb14.size)
        have hOl : (L.set j ⟨(j : Int), mac⟩).length = nd := by rw [List.length_set, hLl]
        have hTl : ((L.set 0 ⟨1, M1⟩).set 1 ⟨0, M0⟩).length = nd := by rw [List.length_set, List.length_set, hLl]
        have hoj : (L.set j ⟨(j : Int), mac⟩)[j]? = some ⟨(j : Int), mac⟩ := by rw [List.getElem?_set, if_pos rfl, if_pos (by omega)]
        have htjm : tagJ ks voteW ib j = ⟨(j : Int), Mx.macOf (ks.getD j ⟨#[]⟩) voteW ib⟩ := rfl
        have HOc : Hid ((mac = Mx.macOf (ks.getD j ⟨#[]⟩) voteW ib ∧ enV ks n x.d (L.set j ⟨(j : Int), mac⟩) = 0) ∨ (¬ mac = Mx.macOf (ks.getD j ⟨#[]⟩) voteW ib ∧ enV ks n x.d (L.set j ⟨(j : Int), mac⟩) = 10)) := by
          by_cases hmm : mac = Mx.macOf (ks.getD j ⟨#[]⟩) voteW ib
          · refine Or.inl ⟨hmm, ?_⟩
            have : L.set j ⟨(j : Int), mac⟩ = L := by
              rw [hmm, ← htjm]
              obtain ⟨h1, h2⟩ := List.getElem?_eq_some_iff.1 hLj
              rw [← h2]
              exact List.set_getElem_self h1
            rw [this]
            exact Hall.out
          · exact Or.inr ⟨hmm, Hodd.out j mac hj hmm⟩
        rw [htjm] at hLj
        obtain ⟨mj, hmj⟩ : ∃ q, Hid (q = Mx.macOf (ks.getD j ⟨#[]⟩) voteW ib) := ⟨_, rfl⟩
        rw [← hmj.out] at hLj HOc
        obtain ⟨OL, hOLe⟩ : ∃ q, Hid (q = L.set j ⟨(j : Int), mac⟩) := ⟨_, rfl⟩
        obtain ⟨TL, hTLe⟩ : ∃ q, Hid (q = (L.set 0 ⟨1, M1⟩).set 1 ⟨0, M0⟩) := ⟨_, rfl⟩
        rw [← hOLe.out] at hrO21 hOl hoj HOc
        rw [← hTLe.out] at hrT21 hTl Htur
        generalize w20.drew = w21 at hrT21 hrO21 hrF21 hrL21 hX21 hb21 ⊢
        clear hq20 hq18 hq18' hq19 hrT hrO hrF hrL hX14 hb14 b21 b21' bd20 b20' b19' b19 b18 htjm hgb p0 p1 p2 p3 q0 q1 q2 q3 f0 f1 f2 f3 hL0 hL1 Hodd
        have cKF := fun u w' h1 h2 h3 h4 => cK.out FL u _ _ w' (by omega) h1 h2 h3 hnF h4
        have cKO := fun u w' h1 h2 h3 h4 => cK.out OL u _ _ w' (by omega) h1 h2 h3 hnO h4
        have cKT := fun u w' h1 h2 h3 h4 => cK.out TL u _ _ w' (by omega) h1 h2 h3 hnT h4
        rw [hFc, hFl] at cKF
        rw [hOl] at cKO
        rw [Htur.out, hTl] at cKT
        obtain ⟨eo, heo⟩ : ∃ q, Hid (q = enV ks n x.d OL) := ⟨_, rfl⟩
        rw [← heo.out] at cKO HOc
        have hB21 := hB7.trans (hb21.mono hB7.size)
        have x0 := hX21.cell (i := 0) rfl
        have x1 := hX21.cell (i := 1) rfl
        have x2 := hX21.cell (i := 2) rfl
        have x3 := hX21.cell (i := 3) rfl
        go_wp2_with fail
        refine (cO _ (hA.below hB21)).mono ?_
        rintro e w22 ⟨u1, rfl, hud, hu, huf, hb1⟩
        unfold HdrM.v
        have hb22 := hb21.trans (hb1.mono hb21.size)
        have c1 := cKF u1 w22 hud hu (hrF21.below hb1) hb22
        have b22 := hb1
        clear x0 x1 x2 x3 cKF huf hud hu
        go_wp2_with fail
        refine c1.mono ?_
        rintro e w23 ⟨rfl, hb1'⟩
        have b23 := b22.trans (hb1'.mono b22.size)
        have hb23 := hb21.trans (b23.mono hb21.size)
        have hB23 := hB7.trans (hb23.mono hB7.size)
        have hX23 := hX21.below b23 hX21.lt
        clear c1 hb1 hb1' b22 hb22
        have x0 := hX23.cell (i := 0) rfl
        have x1 := hX23.cell (i := 1) rfl
        have x2 := hX23.cell (i := 2) rfl
        have x3 := hX23.cell (i := 3) rfl
        go_wp2_with fail
        refine (cO _ (hA.below hB23)).mono ?_
        rintro e w24 ⟨u2, rfl, hud, hu, huf, hb1⟩
        unfold HdrM.v
        have b24 := b23.trans (hb1.mono b23.size)
        have hb24 := hb21.trans (b24.mono hb21.size)
        have c1 := cKO u2 w24 hud hu (hrO21.below b24) hb24
        clear x0 x1 x2 x3 cKO huf hud hu
        go_wp2_with fail
        refine c1.mono ?_
        rintro e w25 ⟨rfl, hb1'⟩
        have b25 := b24.trans (hb1'.mono b24.size)
        have hb25 := hb21.trans (b25.mono hb21.size)
        have hB25 := hB7.trans (hb25.mono hB7.size)
        have hX25 := hX21.below b25 hX21.lt
        clear c1 hb1 hb1' b24 hb24 b23 hb23 hB23 hX23
        have x0 := hX25.cell (i := 0) rfl
        have x1 := hX25.cell (i := 1) rfl
        have x2 := hX25.cell (i := 2) rfl
        have x3 := hX25.cell (i := 3) rfl
        go_wp2_with fail
        refine (cO _ (hA.below hB25)).mono ?_
        rintro e w26 ⟨u3, rfl, hud, hu, huf, hb1⟩
        unfold HdrM.v
        have b26 := b25.trans (hb1.mono b25.size)
        have hb26 := hb21.trans (b26.mono hb21.size)
        have c1 := cKT u3 w26 hud hu (hrT21.below b26) hb26
        clear x0 x1 x2 x3 cKT huf hud hu cO
        go_wp2_with fail
        refine c1.mono ?_
        rintro e w27 ⟨rfl, hb1'⟩
        have b27 := b26.trans (hb1'.mono b26.size)
        have hb27 := hb21.trans (b27.mono hb21.size)
        have hB27 := hB7.trans (hb27.mono hB7.size)
        clear c1 hb1 hb1' b26 hb26 b25 hb25 hB25 hX25
        obtain ⟨b', off', e', _, l0, l1⟩ := (hrL21.below b27).tag hLj
        obtain ⟨rfl, rfl⟩ : b' = b2 ∧ off' = off2 := by simp at e'; exact ⟨e'.1.symm, e'.2.symm⟩
        obtain ⟨g6, o6, e6, _, r0, r1⟩ := (hrO21.below b27).tag hoj
        obtain ⟨rfl, rfl⟩ : g6 = g ∧ o6 = og := by simp at e6; exact ⟨e6.1.symm, e6.2.symm⟩
        simp only at l0 l1 r0 r1
        clear e' e6 hrL21 hrO21 hrF21 hrT21 hX21 hB21 hb21 b27 hb27
        rcases HOc.out with ⟨hmm, he⟩ | ⟨hmm, he⟩
        · subst he
          rw [hmm] at r1
          clear HOc heo
          go_wp2_with fail
          go_big_quiet (fail)
          have hBF := below_drewN hB27 nq
          clear l0 l1 r0 r1
          generalize w27.drewN nq = w28 at hBF ⊢
          go_wp2
          go_ret
          exact ⟨rfl, hBF⟩
        · subst he
          clear HOc heo
          go_wp2_with fail
          go_big_quiet (fail)
          have hBF := below_drewN hB27 nq
          clear l0 l1 r0 r1
          generalize w27.drewN nq = w28 at hBF ⊢
          go_wp2
          go_ret
          exact ⟨rfl, hBF⟩
end Go.Proofs.YtjebfkgigijnhaaDoor

/- How a header that came in is opened; its sizes. -/
namespace Go.Proofs.YtjebfkgigijnhaaDoor
open Go.ChangeShapes Go.WideShapes Go.ChangeAt Go.RowKit Go.Joins Go.Deep
set_option linter.unusedVariables false

instance : Inhabited ByteArray := ⟨⟨#[]⟩⟩

/-- How a Ref reads. -/
def RefQ {H : Type} (d : DataW H) (r : RefM) : Prop := ∃ y0 y1, d = .agg [y0, y1] ∧ StrQ y0 r.digest ∧ RowD TagQ y1 r.acks

theorem cellsRef6 : Tryd.prog.cellsOf 73 = 2 := by kernel_rfl
theorem cellsHdr6 : Tryd.prog.cellsOf 25 = 4 := by kernel_rfl
theorem cellsTags6 : Tryd.prog.cellsOf 26 = 1 := by kernel_rfl
theorem cellsRefs6 : Tryd.prog.cellsOf 22 = 1 := by kernel_rfl
theorem cellsStrs6 : Tryd.prog.cellsOf 23 = 1 := by kernel_rfl
theorem bytesRef6 : Tryd.prog.bytesOf 73 = 40 := by kernel_rfl
theorem bytesTag6 : Tryd.prog.bytesOf 47 = 24 := by kernel_rfl
theorem bytesStr6 : Tryd.prog.bytesOf 9 = 16 := by kernel_rfl

set_option maxRecDepth 100000 in
theorem open_ref_cells {H : Type} {enc : TypeId × Value → H} {W : World} {fuel : Nat} {cs : List Value} {y : DataW H × List MemPlace}
    (hf : DataW.trod enc Tryd.prog W 0 (fun _ => true) true fuel 73 cs = some y) : ∃ r : RefM, cs = refK.c r ∧ refK.At W r ∧ RefQ y.1 r := by
  obtain ⟨xs, n, _, hx, hcl, hl, hg⟩ := DataW.trod_struct Tryd.underlying73 hf
  obtain ⟨c0, c1, rfl⟩ := list2x (hcl.trans cellsRef6)
  obtain ⟨y0, y1, rfl⟩ := list2x hl
  have g0 := hg 0 _ rfl
  have g1 := hg 1 _ rfl
  simp [cellsTags6, cellsStr6] at g0 g1
  obtain ⟨a0, e0, hy0, s0⟩ := DataW.trod_string Tryd.underlying9 g0
  obtain ⟨ao, len, cap, e1⟩ := slice_form Tryd.underlying26 g1
  simp at e0 e1
  subst e0 e1
  obtain ⟨l, rfl, l1, l2, l3, l4⟩ := open_tagsK g1
  refine ⟨⟨a0, l, ao, cap⟩, rfl, ⟨l1, l2⟩, y0.1, y1.1, ?_, ⟨by rw [hy0], s0⟩, l4⟩
  have := congrArg Prod.fst hx
  simpa using this

set_option maxRecDepth 100000 in
theorem open_str_cells {H : Type} {enc : TypeId × Value → H} {W : World} {fuel : Nat} {cs : List Value} {y : DataW H × List MemPlace}
    (hf : DataW.trod enc Tryd.prog W 0 (fun _ => true) true fuel 9 cs = some y) : ∃ s : ByteArray, cs = strK.c s ∧ strK.At W s ∧ StrQ y.1 s := by
  obtain ⟨a0, e0, hy0, s0⟩ := DataW.trod_string Tryd.underlying9 hf
  exact ⟨a0, e0, trivial, by rw [hy0], s0⟩

/-- How a header reads. -/
def HdrQ {H : Type} (d : DataW H) (x : HdrM) : Prop := ∃ y0 y1 y2 y3, d = .agg [y0, y1, y2, y3] ∧ RowD RefQ y2 x.refs ∧ RowD StrQ y3 x.parents

set_option maxRecDepth 100000 in
theorem open_hdr_cells {H : Type} {enc : TypeId × Value → H} {W : World} {fuel : Nat} {cs : List Value} {y : DataW H × List MemPlace}
    (hf : DataW.trod enc Tryd.prog W 0 (fun _ => true) true fuel 25 cs = some y) : ∃ x : HdrM, cs = hdrK.c x ∧ hdrK.At W x ∧ HdrQ y.1 x := by
  obtain ⟨xs, n, _, hx, hcl, hl, hg⟩ := DataW.trod_struct Tryd.underlying25 hf
  obtain ⟨c0, c1, c2, c3, rfl⟩ := list4x (hcl.trans cellsHdr6)
  obtain ⟨y0, y1, y2, y3, rfl⟩ := list4x hl
  have g0 := hg 0 _ rfl
  have g1 := hg 1 _ rfl
  have g2 := hg 2 _ rfl
  have g3 := hg 3 _ rfl
  simp [cellsInt6, cellsRefs6, cellsStrs6] at g0 g1 g2 g3
  obtain ⟨a0, e0, _, _⟩ := DataW.trod_int Tryd.underlying3 g0
  obtain ⟨a1, e1, _, _⟩ := DataW.trod_int Tryd.underlying3 g1
  obtain ⟨ra, rlen, rc, e2⟩ := slice_form Tryd.underlying22 g2
  obtain ⟨pa, plen, pc, e3⟩ := slice_form Tryd.underlying23 g3
  simp at e0 e1 e2 e3
  subst e0 e1 e2 e3
  obtain ⟨rs, rfl, r1, r2, r3, r4⟩ := open_row refK RefQ Tryd.underlying22 cellsRef6 open_ref_cells g2
  obtain ⟨ps, rfl, p1, p2, p3, p4⟩ := open_row strK StrQ Tryd.underlying23 cellsStr6 open_str_cells g3
  refine ⟨⟨a0, a1, ra, rs, rc, pa, ps, pc⟩, rfl, ⟨r1, r2, p1, p2⟩, y0.1, y1.1, y2.1, y3.1, ?_, r4, p4⟩
  have := congrArg Prod.fst hx
  simpa using this

set_option maxRecDepth 100000 in
theorem open_hdr {H : Type} {enc : TypeId × Value → H} {W : World} {r : Reach} {b0 : Nat} {v : Value} {d : DataW H} {p : List MemPlace} (hv : Value.okWide Tryd.prog W r b0 25 v)
    (h : DataW.Trod enc Tryd.prog W 0 (fun _ => true) true 25 v d p) : ∃ x : HdrM, v = x.v ∧ x.At W ∧ HdrQ d x := by
  obtain ⟨cs, rfl, hsz⟩ := okWide_struct Tryd.underlying25 hv
  obtain ⟨fuel, hf⟩ := h
  have hc : (Value.agg cs).cells.toList = cs.toList := by simp [Value.cells]
  obtain ⟨x, e, hx, hq⟩ := open_hdr_cells hf
  refine ⟨x, ?_, hx, hq⟩
  have e' : cs.toList = x.c := by rw [← hc]; exact e
  have : cs = x.c.toArray := by rw [← e']
  rw [this]
  rfl

set_option maxRecDepth 100000 in
theorem ref_acks_fit {H : Type} {y : DataW H} {r : RefM} (h : RefQ y r) (hw : ∀ n ∈ y.weights Tryd.prog 73, n ≤ reachBytes) : r.acks.length * 24 ≤ 140737488351232 := by
  obtain ⟨y0, y1, rfl, _, h1⟩ := h
  have := (h1.fit Tryd.underlying26 (fun n hn => hw n (by
    rw [DataW.weights, Tryd.underlying73]
    exact DataW.weights_mem_each (ts := [9, 26]) (j := 1) rfl rfl n hn))).1
  rw [bytesTag6] at this
  simpa [reachBytes] using this

set_option maxRecDepth 100000 in
theorem hdr_fit {H : Type} {d : DataW H} {x : HdrM} (h : HdrQ d x) (hw : ∀ n ∈ d.weights Tryd.prog 25, n ≤ reachBytes) : x.Lens := by
  obtain ⟨y0, y1, y2, y3, rfl, h2, h3⟩ := h
  obtain ⟨f1, f2⟩ := h2.fit Tryd.underlying22 (fun n hn => hw n (by
    rw [DataW.weights, Tryd.underlying25]
    exact DataW.weights_mem_each (ts := [3, 3, 22, 23]) (j := 2) rfl rfl n hn))
  obtain ⟨g1, _⟩ := h3.fit Tryd.underlying23 (fun n hn => hw n (by
    rw [DataW.weights, Tryd.underlying25]
    exact DataW.weights_mem_each (ts := [3, 3, 22, 23]) (j := 3) rfl rfl n hn))
  rw [bytesRef6] at f1
  rw [bytesStr6] at g1
  refine ⟨by simpa [reachBytes] using f1, by simpa [reachBytes] using g1, fun r hr => ?_⟩
  obtain ⟨y, hy, hyw⟩ := f2 r hr
  exact ref_acks_fit hy hyw

/-- A header that came in: in sizes that a machine holds. -/
theorem hdr_sized {H : Type} {ts : List TypeId} {ds : List (DataW H)} (h : (DataW.weightsEach Tryd.prog ts ds).all (· ≤ reachBytes) = true) {j : Nat} {d : DataW H} {x : HdrM} (ht : ts[j]? = some 25) (hd : ds[j]? = some d) (hs : HdrQ d x) : x.Lens := hdr_fit hs (weights_of h ht hd)
end Go.Proofs.YtjebfkgigijnhaaDoor

/- CertVotes: for every input the statement answers true, and each argument reads afterwards as it read before. Condition: the two tables of package mix read as the program's text lays them; no other. -/
namespace Go.Proofs.YtjebfkgigijnhaaDoor
open Go.ChangeShapes Go.WideShapes Go.ChangeAt Go.RowKit
open Go.ChangeMaps (open_string shut_string)
set_option linter.unusedVariables false

set_option maxRecDepth 100000 in
theorem certVotes_lifted (os : Os) (started : os.Started) (H : Type) (enc : TypeId × Value → H) :
    ReturnsInHanded {} Tryd.checked os 7 .any (fun w args => (Rows.certVotesSpec.pre enc Tryd.prog Tryd.f7 [] false w args ∧ laidMetH Tryd.prog Mx.laid2 w) ∧ sizedMet enc Tryd.prog Tryd.f7 (OpenSpec.ofChange Rows.certVotesSpec) false w args)
      (Rows.certVotesSpec.post enc Tryd.prog Tryd.f7 false true false false) := by
  refine returnsInHanded_of_change_and (C := Tryd.checked) (X := fun w _ => laidMetH Tryd.prog Mx.laid2 w) (fun _ _ _ hh h => h.of_heap hh) ownKnob_none started (by kernel_rfl) Tryd.func7
    (ChangeSpec.witness_shaped (enc := enc) (C := Tryd.checked) (os := os) (X := fun w _ => laidMetH Tryd.prog Mx.laid2 w) false (World.doorLaid Tryd.prog 400 os) #[.int .i64 0, .agg #[.int .i64 0, .int .i64 0, .slice none 0 0, .slice none 0 0], .int .i64 0] 8 rfl (World.shaped_of_RefB (by kernel_rfl) (by kernel_rfl)) (by kernel_rfl) (by kernel_rfl) (by kernel_rfl) (Mx.door_met os _)) ?_
  intro W base args ds gs before hval0 hW hcnd hsz0 hL _
  have hval : ∀ (j : Nat) t v, Tryd.f7.params[j]? = some t → args[j]? = some v → Value.okWide Tryd.prog W .any base t v := hval0
  have hsz : (DataW.weightsEach Tryd.prog (Tryd.f7.params.toList ++ Rows.certVotesSpec.plain.varTypes Tryd.prog) (ds ++ gs)).all (· ≤ reachBytes) = true := hsz0
  have hW' := hW
  obtain ⟨p, q, hA0, hV, rfl, hfz, hnd⟩ := hW
  have hA : DataW.TrodAll enc Tryd.prog W 0 (fun _ => true) true Tryd.f7.params.toList args.toList ds p := hA0
  rw [Tryd.params7] at hA hval hsz
  obtain ⟨v0, vs0, d0, ds0, p0, q0, hargs, rfl, rfl, h0, r0⟩ := trodAll_cons hA
  obtain ⟨v1, vs1, d1, ds1, p1, q1, rfl, rfl, rfl, h1, r1⟩ := trodAll_cons r0
  obtain ⟨v2, vs2, d2, ds2, p2, q2, rfl, rfl, rfl, h2, r2⟩ := trodAll_cons r1
  obtain ⟨rfl, rfl, rfl⟩ := trodAll_nil r2
  obtain rfl : args = #[v0, v1, v2] := by cases args; simp_all
  obtain ⟨rfl, rfl⟩ := trodVars_none hV
  have k0 := h0
  have lt0 : ∀ x ∈ p0, x.block < W.heap.size := by obtain ⟨m, hm⟩ := k0; exact DataW.trod_lt m _ _ _ hm
  obtain ⟨a0, rfl, hd0, hp0, w0⟩ := open_int Tryd.underlying3 (hval 0 3 v0 rfl rfl) h0
  have k1 := h1
  have lt1 : ∀ x ∈ p1, x.block < W.heap.size := by obtain ⟨m, hm⟩ := k1; exact DataW.trod_lt m _ _ _ hm
  obtain ⟨x1, rfl, at1, qd1⟩ := open_hdr (hval 1 25 v1 rfl rfl) h1
  have sl1 := hdr_sized hsz (j := 1) rfl rfl qd1
  have k2 := h2
  have lt2 : ∀ x ∈ p2, x.block < W.heap.size := by obtain ⟨m, hm⟩ := k2; exact DataW.trod_lt m _ _ _ hm
  obtain ⟨a2, rfl, hd2, hp2, w2⟩ := open_int Tryd.underlying3 (hval 2 3 v2 rfl rfl) h2
  clear hA0 hval0 hsz0
  refine (certVotes_walk a0 x1 a2 W w0 at1 sl1 w2 (Mx.of_laid hL)).mono fun e W' ⟨he, bel⟩ => ?_
  subst he
  exact ⟨_, rfl, _, _, _, [], _, [], hW', trodAll_mk1 (shut_bool Tryd.underlying4 _), (trodAll_cons_mk (Below.trod laidOut_true (by kernel_rfl) (of_decide_eq_true (by kernel_rfl)) k0 bel lt0) (trodAll_cons_mk (Below.trod laidOut_true (by kernel_rfl) (of_decide_eq_true (by kernel_rfl)) k1 bel lt1) (trodAll_cons_mk (Below.trod laidOut_true (by kernel_rfl) (of_decide_eq_true (by kernel_rfl)) k2 bel lt2) trodAll_mk0))), rfl, bel.frame _, fun h => by cases h⟩

theorem certVotes_holds : Rows.CertVotesSaid :=
  OpenClaim.holds_of_wide 7 Tryd.f7 rfl rfl rfl rfl rfl rfl rfl ⟨rfl, rfl, rfl, rfl, rfl⟩ rfl rfl rfl rfl rfl (by kernel_rfl) Tryd.func7 (by kernel_rfl)
    (of_decide_eq_true (by kernel_rfl)) (by unfold Func.isWrapper; rw [if_neg (of_decide_eq_false (by kernel_rfl))]; exact ⟨rfl, rfl⟩)
    (fun os started H enc _ => certVotes_lifted os started H enc)

theorem certVotes_card : Rows.CertVotesCardSaid :=
  Claim7.holds_tied_plain_at .later [] [.data, .data] true (true, "9bc01858be54a6f7b88abffa2cc2f115ecc2b533579eb6ab191bef2d768c1a51") false
    certVotes_holds (fun _ h => by cases h) (by kernel_rfl) (fun _ h => by cases h) certVotes_row_tie rfl ⟨rfl, rfl⟩ (by kernel_rfl) rfl
    (fun f fn hf hfn => by
      obtain rfl : f = 7 := Option.some.inj ((show Tryd.prog.funcNamed "tusk/tusklaw07.CertVotes" = some 7 by kernel_rfl).symm.trans hf) |>.symm
      obtain rfl : fn = Tryd.f7 := (Option.some.inj (Tryd.func7.symm.trans hfn)).symm
      exact ⟨by kernel_rfl, fun j t ht => by
        rw [Tryd.params7] at ht
        have hall : ∀ t ∈ (#[3, 25, 3] : Array TypeId).toList, Tryd.prog.wantsStandIn t = false := by
          show ∀ t ∈ ([3, 25, 3] : List TypeId), Tryd.prog.wantsStandIn t = false
          refine List.forall_mem_cons.2 ⟨by kernel_rfl, ?_⟩
          refine List.forall_mem_cons.2 ⟨by kernel_rfl, ?_⟩
          refine List.forall_mem_cons.2 ⟨by kernel_rfl, ?_⟩
          exact fun _ h => by cases h
        exact hall t (Array.mem_toList_iff.2 (Array.mem_of_getElem? ht))⟩)
    (by kernel_rfl)
end Go.Proofs.YtjebfkgigijnhaaDoor
