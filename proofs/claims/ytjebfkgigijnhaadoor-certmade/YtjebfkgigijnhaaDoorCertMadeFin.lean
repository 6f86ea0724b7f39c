/- CertMade: for every input the statement answers true, and each argument reads afterwards as it read before. Condition: the two tables of package mix read as the program's text lays them; no other. -/
import Derived.Test.YtjebfkgigijnhaaDoorKinds
import Derived.Test.YtjebfkgigijnhaaDoorCertRows
import Derived.Test.YtjebfkgigijnhaaDoorHdrOwn
import Derived.Deep.RegionHeld3
import Derived.Test.YtjebfkgigijnhaaDoorHdrCheck
import Derived.Test.YtjebfkgigijnhaaDoorHdrRows
import Derived.Deep.QuietTactic
import Derived.BigQuiet
import Derived.Test.YtjebfkgigijnhaaDoorHdrWorks
import Derived.Test.YtjebfkgigijnhaaDoorRefHdrSame
import Derived.Test.YtjebfkgigijnhaaDoorTagJ
import Derived.Test.YtjebfkgigijnhaaDoorCertWorks
import Derived.Test.YtjebfkgigijnhaaDoorCertDecode
import Derived.Test.YtjebfkgigijnhaaDoorCertEncode
import Derived.Test.YtjebfkgigijnhaaDoorCertCheck
import Derived.Test.YtjebfkgigijnhaaDoorCertSame
import Derived.Test.YtjebfkgigijnhaaDoorQueue
import Derived.Maps.OwnSet
import Derived.Maps.OwnOps
import Derived.Test.YtjebfkgigijnhaaDoorHdrOpen
import Derived.Test.YtjebfkgigijnhaaDoorKindsOpen
import Derived.Test.YtjebfkgigijnhaaDoorMixAll
import Derived.Test.YtjebfkgigijnhaaDoorCards
import Derived.Test.YtjebfkgigijnhaaDoorTie
import Derived.SevenTiedAt
/- append(q, xs...) of a row's elements, q an empty row of the call's own: nothing but q's block and new ones is turned. -/
namespace Go.Proofs.YtjebfkgigijnhaaDoor
open Go.RowKit
set_option linter.unusedVariables false

section
variable {α : Type} {K : Kind α}

/-- As an equation of the run. -/
theorem run_copyK {P : Program} (w : World) (t ty : TypeId) (base : Nat) (e : TypeId) (i : TypeInfo) (z : Value) (bytes : Nat) (ht : P.underlying t = some (.slice e)) (hi : P.info? e = some i) (hz : i.zero = some z)
    (hsize : i.size = K.n) (hby : i.bytes = bytes) (hzs : z.cells.size = K.n)
    (v : Value) (hown : w.ownsRow base e K.n v 0 []) (ao : Option Addr) (cap : Nat) (l : List α)
    (hS : RowAt K w ao l) (hf : ∀ x b, ¬ K.foot x b) (hnil : ao = none → cap = 0) (hm : l.length ≤ maxLen) (hlen : l.length * bytes ≤ 140737488355328) (hbase : base ≤ w.heap.size) :
    ∃ ao' cap' w', (Builtin.append_ #[t, t] ty #[v, .slice ao l.length cap]).run P w = .ok (.slice ao' l.length cap') w' ∧ KQ K e w' base (.slice ao' l.length cap') l ∧ Kept (fun k => v.ownBlock = some k) w w' := by
  cases ao with
  | none =>
    have hc0 := hnil rfl
    subst hc0
    have hss : l = [] := by
      cases l with
      | nil => rfl
      | cons y r => obtain ⟨_, _, e, _⟩ := hS.cell 0 y rfl; cases e
    subst hss
    have hrun := run_append_owned_none (P := P) (w := w) base t ty e i K.n ht hi v 0 [] hown
    have hq := QRow.of_own hown
    rcases hown.2 with ⟨hv, _⟩ | ⟨g, c, cur, hv, _⟩
    · rw [hv] at hrun ⊢
      exact ⟨none, 0, w, hrun, KQ.empty K e w base, Kept.refl _ _⟩
    · rw [hv] at hrun hq hown ⊢
      exact ⟨_, c, w, hrun, ⟨hq, (fun x hx => by cases hx), (fun x hx => by cases hx), (fun k hk => ⟨(hown.lt k hk).1, (hown.lt k hk).2⟩), (fun n cap e => by cases e)⟩, Kept.refl _ _⟩
  | some ad =>
    obtain ⟨v', w', hrun, hown', hgrow, _⟩ := run_append_own (P := P) w base t ty e i z K.n bytes ht hi hz hsize hby hzs K.pos v 0 [] hown ad l.length cap (flatK K l) (flatK_length K l) hS.news (flatK_one K l) (by omega) (by rw [Nat.zero_add]; exact hlen) hbase
    rw [Nat.zero_add, List.nil_append] at hown'
    have hk := Kept.of_grown hgrow
    have hA : ∀ x ∈ l, K.At w' x := fun x hx => K.kept (hS.at_ x hx) hk (fun b hb' => absurd hb' (hf x b))
    have hq := QRow.of_own hown'
    obtain ⟨ao', cap', rfl, hlc, _⟩ := hq.form
    refine ⟨ao', cap', w', hrun, ⟨hq, hA, fun x hx b hb => absurd hb (hf x b), fun k hk => ⟨(hown'.lt k hk).1, (hown'.lt k hk).2⟩, ?_⟩, hk⟩
    intro n c he
    rcases hown'.2 with ⟨hv, _⟩ | ⟨g, c', cur, hv, _⟩
    · rw [hv] at he
      simp at he
      omega
    · rw [hv] at he
      cases he

/-- The same, at a step of a region that draws its order. -/
theorem step_copyK {P : Program} (w : World) {ops : Array Oper} {o : Oper} {a : Act} {C : Act → World → Prop} {Q : Exit → Act → World → Prop} {E : Prop} (hgd : o.guard = none) (s x : Operand) (t : TypeId)
    (ho : o.op = .call { callee := .builtin .append, args := #[s, x], argTypes := #[t, t] })
    (base : Nat) (e : TypeId) (i : TypeInfo) (z : Value) (bytes : Nat) (ht : P.underlying t = some (.slice e)) (hi : P.info? e = some i) (hz : i.zero = some z)
    (hsize : i.size = K.n) (hby : i.bytes = bytes) (hzs : z.cells.size = K.n)
    (v : Value) (hs : a.eval s = v) (hown : w.ownsRow base e K.n v 0 []) (ao : Option Addr) (cap : Nat) (l : List α) (hx : a.eval x = .slice ao l.length cap)
    (hS : RowAt K w ao l) (hf : ∀ x b, ¬ K.foot x b) (hnil : ao = none → cap = 0) (hm : l.length ≤ maxLen) (hlen : l.length * bytes ≤ 140737488355328) (hbase : base ≤ w.heap.size)
    (h : ∀ ao' cap' w', KQ K e w' base (.slice ao' l.length cap') l → Kept (fun k => v.ownBlock = some k) w w' → C (a.put o.dst (.slice ao' l.length cap')) w') : if Region.wanted o (yielded ops a.tmps) = true then Oper.wp P o a w C Q else E := by
  rw [if_pos (by simp [Region.wanted, hgd])]
  obtain ⟨ao', cap', w', hrun, r1, r2⟩ := run_copyK (K := K) (P := P) w t o.type base e i z bytes ht hi hz hsize hby hzs v hown ao cap l hS hf hnil hm hlen hbase
  unfold Oper.wp
  simp [execOp, ho, resolve, invoke, builtin, hs, hx, hrun, Result.andThen]
  exact h ao' cap' w' r1 r2
end
end Go.Proofs.YtjebfkgigijnhaaDoor

/- What tusklaw07.Own does: a certificate that shares nothing; nothing old in memory is turned. -/
namespace Go.Proofs.YtjebfkgigijnhaaDoor
open Go.RowKit
set_option linter.unusedVariables false

theorem results_certO {fn : Func} {p : Tmp} (h : fn.results = #[.cell p 28]) (tmps : Array Value) (w : World) (g : Nat) (x : CertM)
    (hp : tmps.getD p undef = .pointer (some ⟨g, 0, none⟩)) (hg : Arr w g 28 x.c) :
    (results fn tmps).run Tryd.prog w = .ok x.v w :=
  results_cell_row h tmps w g 28 x.c.toArray (0, 0) _ hp hg Tryd.underlying28 rfl infoCert7

/-- A certificate that shares nothing is handed back. -/
def GotOwnC (W : World) (x : CertM) (e : Ending) (w : World) : Prop :=
  ∃ y : CertM, e = .returned y.v ∧ y.d = x.d ∧ y.At w ∧ (∀ b, y.foot b → W.heap.size ≤ b) ∧ Below W.heap.size W w

theorem ownEmpty (w : World) : (w.alloc (.cells #[] 47)).ownsRow w.heap.size 47 tagK.n (.slice (some ⟨w.heap.size, 0, none⟩) 0 0) 0 [] := World.ownsRow_made w #[] 0 (Nat.le_refl _) (by unfold maxLen; omega) (by simp)

theorem own_belowC {B : Nat} {e : TypeId} {k : Nat} {v : Value} {n : Nat} {xs : List Value} {w w' : World} (h : w.ownsRow B e k v n xs) (hb : Below w.heap.size w w') : w'.ownsRow B e k v n xs := by
  refine ⟨h.1, ?_⟩
  rcases h.2 with h0 | ⟨g, cap, cur, hv, hB, hg, r⟩
  · exact Or.inl h0
  · have hl : g < w.heap.size := (Array.getElem?_eq_some_iff.1 hg).1
    exact Or.inr ⟨g, cap, cur, hv, hB, by rw [hb.block g hl]; exact hg, r⟩

set_option maxRecDepth 100000 in
set_option maxHeartbeats 4000000 in
theorem own7_any (x : CertM) (w : World) (hA : x.At w) (hL : x.hdr.Lens) (hv : x.votes.length * 24 ≤ 140737488351232) :
    Calls Tryd.prog 10 #[x.v] w fun e w' => GotOwnC w x e w' := by
  obtain ⟨h, va, vs, vc⟩ := x
  obtain ⟨hX, hZ, hB⟩ := two_new w 28 28 [.int .i64 h.author, .int .i64 h.round, .slice h.ra h.refs.length h.rc, .slice h.pa h.parents.length h.pc, .slice va vs.length vc] [.int .i64 0, .int .i64 0, .slice none 0 0, .slice none 0 0, .slice none 0 0]
  obtain ⟨i1, hi, hz0, hz1, hz2⟩ := info_parts infoTag6
  have hA1 := hA.below hB
  have hh1 : h.At _ := hA1.hdr
  have hv1 : RowAt tagK _ va vs := hA1.votes
  have hnv : va = none → vc = 0 := hA.nv
  obtain ⟨w1, hw1⟩ : ∃ q, (w.alloc (.cells [.int .i64 h.author, .int .i64 h.round, .slice h.ra h.refs.length h.rc, .slice h.pa h.parents.length h.pc, .slice va vs.length vc].toArray 28)).alloc (.cells [.int .i64 0, .int .i64 0, .slice none 0 0, .slice none 0 0, .slice none 0 0].toArray 28) = q := ⟨_, rfl⟩
  rw [hw1] at hX hZ hB hh1 hv1
  clear hA hA1
  unfold CertM.v
  simp only
  go_enter Tryd.func10, Tryd.ntmps10
  have cO := fun w2 h2 => own6_any h w2 h2 hL
  unfold HdrM.v at cO
  have hkp : ∀ U, Kept (fun k => k = w.heap.size + 1) w1 U → (U.cell? ⟨w.heap.size, 0, none⟩ = some (.int .i64 h.author) ∧ U.cell? ⟨w.heap.size, 1, none⟩ = some (.int .i64 h.round) ∧ U.cell? ⟨w.heap.size, 2, none⟩ = some (.slice h.ra h.refs.length h.rc) ∧ U.cell? ⟨w.heap.size, 3, none⟩ = some (.slice h.pa h.parents.length h.pc) ∧ U.cell? ⟨w.heap.size, 4, none⟩ = some (.slice va vs.length vc)) := fun U hU => by
    have hn : w.heap.size ≠ w.heap.size + 1 := by omega
    have h := hX.kept hU hn
    exact ⟨h.cell (i := 0) rfl, h.cell (i := 1) rfl, h.cell (i := 2) rfl, h.cell (i := 3) rfl, h.cell (i := 4) rfl⟩
  have bd : Below w1.heap.size w1 w1.drew := below_drewN (Below.refl _ w1) 1
  have be : Below w1.heap.size w1 (w1.drew.alloc (.cells #[] 47)) := bd.alloc (Nat.le_refl _) _
  have hd : h.At w1.drew := hh1.below bd
  have he : h.At (w1.drew.alloc (.cells #[] 47)) := hh1.below be
  have kd : Kept (fun k => k = w.heap.size + 1) w1 w1.drew := Kept.of_below bd
  have ke : Kept (fun k => k = w.heap.size + 1) w1 (w1.drew.alloc (.cells #[] 47)) := Kept.of_below be
  have hoE := ownEmpty w1.drew
  have hv' : vs.length * 24 ≤ 140737488351232 := hv
  have n1 : vs.length ≤ maxLen := by unfold maxLen; omega
  have n2 : vs.length * 24 ≤ 140737488355328 := by omega
  have hS0 := hkp _ kd
  have h1z := hZ.lt
  go_wp2_with fail
  clear hw1
  go_region_held3 (fun w' => w'.cell? ⟨w.heap.size, 0, none⟩ = some (.int .i64 h.author) ∧ w'.cell? ⟨w.heap.size, 1, none⟩ = some (.int .i64 h.round) ∧ w'.cell? ⟨w.heap.size, 2, none⟩ = some (.slice h.ra h.refs.length h.rc) ∧ w'.cell? ⟨w.heap.size, 3, none⟩ = some (.slice h.pa h.parents.length h.pc) ∧ w'.cell? ⟨w.heap.size, 4, none⟩ = some (.slice va vs.length vc)) (exact hkp _ (by assumption))
    (first
    | (go_at_call 26; refine (cO _ hd).mono ?_; rintro e w2 ⟨y, rfl, hyd, hy, hyf, hb2⟩; unfold HdrM.v; have bA : Below w1.heap.size w1 w2 := bd.trans hb2; have kA : Kept (fun k => k = w.heap.size + 1) w1 w2 := Kept.of_below bA; have bE := bA.alloc bA.size (.cells #[] 47); have kE : Kept (fun k => k = w.heap.size + 1) w1 _ := Kept.of_below bE; have hv2 := hv1.below bE; have ho2 := ownEmpty w2; have hbs2 := (belowNew w2 (.cells #[] 47)).size; have hyE := hy.below (belowNew w2 (.cells #[] 47)))
    | (go_at_call 26; refine (cO _ he).mono ?_; rintro e w2 ⟨y, rfl, hyd, hy, hyf, hb2⟩; unfold HdrM.v; have bA : Below w1.heap.size w1 w2 := be.trans (hb2.mono be.size); have kA : Kept (fun k => k = w.heap.size + 1) w1 w2 := Kept.of_below bA; have hv2 := hv1.below bA; have ho3 := own_belowC hoE hb2; have hbs3 : w1.heap.size ≤ w2.heap.size := bA.size)
    | (refine step_copyK (K := tagK) _ (by rfl) _ _ 26 (by rfl) w2.heap.size 47 i1 _ 24 Tryd.underlying26 hi hz0 hz1 hz2 rfl _ (by rfl) ho2 va vc vs (by rfl) hv2 (fun _ _ h => h.elim) hnv n1 n2 hbs2 ?_; intro ao3 cap3 w3 hq3 hk3; have bF : Below w1.heap.size w1 w3 := bE.trans (Kept.below hk3 bE.size (fun k hk => by have := (ho2.lt k hk).1; have := bA.size; omega)); have kF : Kept (fun k => k = w.heap.size + 1) w1 w3 := Kept.of_below bF; have hy3 := Kind.kept hdrK hyE hk3 (fun b hb e => by have := (ho2.lt b e).1; have := Kind.lt hdrK hy hb; omega); have hZ3 := hZ.below bF hZ.lt; have z0 := hZ3.cell (i := 0) rfl; have z1 := hZ3.cell (i := 1) rfl; have z2 := hZ3.cell (i := 2) rfl; have z3 := hZ3.cell (i := 3) rfl; have z4 := hZ3.cell (i := 4) rfl; have g0 := hZ3.frozen 0; have g1 := hZ3.frozen 1; have g2 := hZ3.frozen 2; have g3 := hZ3.frozen 3; have g4 := hZ3.frozen 4; have kG := kF.trans (kept_set5 w3 (w.heap.size + 1) (.int .i64 y.author) (.int .i64 y.round) (.slice y.ra y.refs.length y.rc) (.slice y.pa y.parents.length y.pc) (.slice ao3 vs.length cap3)))
    | (refine step_copyK (K := tagK) _ (by rfl) _ _ 26 (by rfl) w1.heap.size 47 i1 _ 24 Tryd.underlying26 hi hz0 hz1 hz2 rfl _ (by rfl) ho3 va vc vs (by rfl) hv2 (fun _ _ h => h.elim) hnv n1 n2 hbs3 ?_; intro ao3 cap3 w3 hq3 hk3; have bF : Below w1.heap.size w1 w3 := bA.trans (Kept.below hk3 bA.size (fun k hk => (ho3.lt k hk).1)); have kF : Kept (fun k => k = w.heap.size + 1) w1 w3 := Kept.of_below bF; have hy3 := Kind.kept hdrK hy hk3 (fun b hb e => by have h1 := hyf b hb; rw [alloc_size] at h1; have h2 : w1.heap.size + 1 ≤ b := h1; simp [Value.ownBlock] at e; omega); have hZ3 := hZ.below bF hZ.lt; have z0 := hZ3.cell (i := 0) rfl; have z1 := hZ3.cell (i := 1) rfl; have z2 := hZ3.cell (i := 2) rfl; have z3 := hZ3.cell (i := 3) rfl; have z4 := hZ3.cell (i := 4) rfl; have g0 := hZ3.frozen 0; have g1 := hZ3.frozen 1; have g2 := hZ3.frozen 2; have g3 := hZ3.frozen 3; have g4 := hZ3.frozen 4; have kG := kF.trans (kept_set5 w3 (w.heap.size + 1) (.int .i64 y.author) (.int .i64 y.round) (.slice y.ra y.refs.length y.rc) (.slice y.pa y.parents.length y.pc) (.slice ao3 vs.length cap3))))
  all_goals
    have hyl : ∀ b, y.foot b → w1.heap.size ≤ b := fun b hb => Nat.le_trans (by first | exact Nat.le_refl _ | (rw [alloc_size]; exact Nat.le_succ _)) (hyf b hb)
    obtain ⟨ao4, cap4, e4, hn4, hrow3⟩ := hq3.form
    simp only [Value.slice.injEq, true_and] at e4
    obtain ⟨rfl, rfl⟩ := e4
    have hql : ∀ b, rowFoot tagK ao3 vs b → w1.heap.size ≤ b := fun b hb => Nat.le_trans (by first | exact Nat.le_refl _ | exact bA.size) (hq3.foot_ge (Nat.le_refl _) (fun _ _ _ h => h.elim) b hb)
    have hZF := hZ3.set5 (.int .i64 y.author) (.int .i64 y.round) (.slice y.ra y.refs.length y.rc) (.slice y.pa y.parents.length y.pc) (.slice ao3 vs.length cap3)
    have k5 := kept_set5 w3 (w.heap.size + 1) (.int .i64 y.author) (.int .i64 y.round) (.slice y.ra y.refs.length y.rc) (.slice y.pa y.parents.length y.pc) (.slice ao3 vs.length cap3)
    have hyF := Kind.kept hdrK hy3 k5 (fun b hb e => by have := hyl b hb; have e' : b = w.heap.size + 1 := e; omega)
    have hqF := hrow3.kept k5 (fun b hb e => by have := hql b hb; have e' : b = w.heap.size + 1 := e; omega)
    have bG := below_set5 (hB.trans (bF.mono hB.size)) (g := w.heap.size + 1) (Nat.le_succ _) (.int .i64 y.author) (.int .i64 y.round) (.slice y.ra y.refs.length y.rc) (.slice y.pa y.parents.length y.pc) (.slice ao3 vs.length cap3)
    have fin : ∀ e, e = .returned (CertM.v ⟨y, ao3, vs, cap3⟩) → GotOwnC w ⟨h, va, vs, vc⟩ e _ := fun e hv => ⟨⟨y, ao3, vs, cap3⟩, hv, (by show (⟨y.d, vs⟩ : CertD) = ⟨h.d, vs⟩; rw [hyd]), ⟨hyF, hqF, hn4⟩, (fun b hb => hb.elim (fun h => by have := hyl b h; have := hB.size; omega) (fun h => by have := hql b h; have := hB.size; omega)), bG⟩
    unfold set5 at hZF fin
    clear hkp hS0 hd he kd ke hoE cO hyl hql k5 hyF hqF bG hrow3 hq3 hk3
    try go_wp2
    refine bodyPost_ret (v := CertM.v ⟨y, ao3, vs, cap3⟩) (results_certO rfl _ _ (w.heap.size + 1) ⟨y, ao3, vs, cap3⟩ rfl hZF) rfl ?_
    exact fin _ rfl
end Go.Proofs.YtjebfkgigijnhaaDoor

/- A header that is right is plain; without acks, or with parents turned, it is not right. -/
namespace Go.Proofs.YtjebfkgigijnhaaDoor
open Go.RowKit
set_option linter.unusedVariables false

theorem digE_zero {d a : ByteArray} (h : digE d a = 0) : d.size = 32 ∧ leB d a = false := by
  unfold digE at h
  by_cases h1 : d.size ≠ 32
  · rw [if_pos h1] at h; omega
  · rw [if_neg h1] at h
    cases hl : leB d a with
    | true => rw [if_pos hl] at h; omega
    | false => exact ⟨by omega, rfl⟩

theorem risP_zero : ∀ (l : List ByteArray) (a : ByteArray), risP a l = 0 → ∀ p ∈ l, p.size = 32
  | [], _, _, p, hp => by cases hp
  | k :: r, a, h, p, hp => by
    rw [risP] at h
    by_cases hd : digE k a ≠ 0
    · rw [if_pos hd] at h; omega
    · rw [if_neg hd] at h
      rcases List.mem_cons.1 hp with rfl | hp
      · exact (digE_zero (d := p) (a := a) (by omega)).1
      · exact risP_zero r k h p hp

theorem refP_zero {en : List TagD → ByteArray → Nat} : ∀ (l : List RefD) (a : ByteArray), refP en a l = 0 → ∀ x ∈ l, x.digest.size = 32 ∧ en x.acks x.digest = 0
  | [], _, _, p, hp => by cases hp
  | k :: r, a, h, p, hp => by
    rw [refP] at h
    by_cases hd : digE k.digest a ≠ 0
    · rw [if_pos hd] at h; omega
    · rw [if_neg hd] at h
      by_cases he : en k.acks k.digest ≠ 0
      · rw [if_pos he] at h; omega
      · rw [if_neg he] at h
        rcases List.mem_cons.1 hp with rfl | hp
        · exact ⟨(digE_zero (d := p.digest) (a := a) (by omega)).1, by omega⟩
        · exact refP_zero r k.digest h p hp

/-- A Ref's acks are others: the first that is wrong. -/
theorem refP_set {en : List TagD → ByteArray → Nat} : ∀ (l : List RefD) (a : ByteArray) (i : Nat) (x y : RefD), refP en a l = 0 → l[i]? = some x → y.digest = x.digest → en y.acks y.digest ≠ 0 → refP en a (l.set i y) = en y.acks y.digest
  | [], _, _, _, _, _, h, _, _ => by simp at h
  | k :: r, a, 0, x, y, h, hx, hd, hn => by
    simp at hx
    subst hx
    rw [refP] at h
    by_cases h1 : digE k.digest a ≠ 0
    · rw [if_pos h1] at h; omega
    · rw [List.set_cons_zero, refP, hd, if_neg h1, if_pos (by rw [← hd]; exact hn)]
  | k :: r, a, i + 1, x, y, h, hx, hd, hn => by
    rw [refP] at h
    by_cases h1 : digE k.digest a ≠ 0
    · rw [if_pos h1] at h; omega
    · rw [if_neg h1] at h
      by_cases he : en k.acks k.digest ≠ 0
      · rw [if_pos he] at h; omega
      · rw [if_neg he] at h
        rw [List.set_cons_succ, refP, if_neg h1, if_neg he]
        exact refP_set r k.digest i x y h (by simpa using hx) hd hn

theorem go_zero {ks : List ByteArray} {kind word : ByteArray} : ∀ (l : List (Int × ByteArray)) (ahead : Int), -1 ≤ ahead → Mx.enoughGo ks kind word ahead l = 0 → (l = [] ∨ (l.length : Int) + ahead + 1 ≤ ks.length) ∧ ∀ x ∈ l, 0 ≤ x.1 ∧ x.1 < ks.length ∧ x.2.size = 16
  | [], _, _, _ => ⟨Or.inl rfl, fun x hx => by cases hx⟩
  | x :: l, ahead, ha, h => by
    rw [Mx.enoughGo] at h
    by_cases he : Mx.tagErr ks kind word ahead x = 0
    · rw [if_pos he] at h
      unfold Mx.tagErr at he
      by_cases h1 : x.1 < 0 ∨ (ks.length : Int) ≤ x.1
      · rw [if_pos h1] at he; omega
      rw [if_neg h1] at he
      by_cases h2 : x.1 ≤ ahead
      · rw [if_pos h2] at he; omega
      rw [if_neg h2] at he
      by_cases h3 : x.2 = Mx.macOf (ks.getD x.1.toNat ⟨#[]⟩) kind word
      · obtain ⟨i1, i2⟩ := go_zero l x.1 (by omega) h
        refine ⟨Or.inr ?_, fun y hy => ?_⟩
        · rw [List.length_cons]
          rcases i1 with rfl | i1
          · simp; omega
          · omega
        · rcases List.mem_cons.1 hy with rfl | hy
          · exact ⟨by omega, by omega, by rw [h3]; exact Mx.macOf_size _ _ _⟩
          · exact i2 y hy
      · rw [if_neg h3] at he; omega
    · rw [if_neg he] at h
      exact absurd h he

theorem go_take {ks : List ByteArray} {kind word : ByteArray} : ∀ (l : List (Int × ByteArray)) (ahead : Int) (m : Nat), Mx.enoughGo ks kind word ahead l = 0 → Mx.enoughGo ks kind word ahead (l.take m) = 0
  | [], _, m, _ => by simp [Mx.enoughGo]
  | x :: l, ahead, 0, _ => by simp [Mx.enoughGo]
  | x :: l, ahead, m + 1, h => by
    rw [Mx.enoughGo] at h
    rw [List.take_succ_cons, Mx.enoughGo]
    by_cases he : Mx.tagErr ks kind word ahead x = 0
    · rw [if_pos he] at h ⊢
      exact go_take l x.1 m h
    · rw [if_neg he] at h
      exact absurd h he

theorem pairT_take (l : List TagD) (m : Nat) : pairT (l.take m) = (pairT l).take m := by simp [pairT, List.map_take]

/-- Tags that are enough: how many, and of which form. -/
theorem enT_zero {ks : List ByteArray} {f : Nat} {l : List TagD} {d : ByteArray} (hk : ks.length = 3 * f + 1) (hf : f ≤ 2) (h : enT ks f l d = 0) : 2 * f + 1 ≤ l.length ∧ l.length ≤ 7 ∧ (∀ t ∈ l, t.Fit) ∧ enT ks f (l.take (2 * f)) d = 12 := by
  unfold enT Mx.enoughL at h
  by_cases h0 : Mx.enoughGo ks ackW d (-1) (pairT l) = 0
  · rw [if_pos h0] at h
    by_cases h1 : (pairT l).length < 2 * f + 1
    · rw [if_pos h1] at h; omega
    · rw [pairT_length] at h1
      obtain ⟨i1, i2⟩ := go_zero (pairT l) (-1) (by omega) h0
      refine ⟨by omega, ?_, fun t ht => ?_, ?_⟩
      · rcases i1 with e | i1
        · have := congrArg List.length e
          rw [pairT_length] at this
          simp at this
          rw [this]
          simp
        · rw [pairT_length] at i1
          omega
      · have := i2 (t.who, t.mac) (List.mem_map.2 ⟨t, ht, rfl⟩)
        exact ⟨this.1, by have := this.2.1; simp only at this; omega, this.2.2⟩
      · unfold enT Mx.enoughL
        rw [pairT_take, if_pos (go_take _ _ _ h0), if_pos (by rw [List.length_take, pairT_length]; omega)]
  · rw [if_neg h0] at h
    exact absurd h h0

theorem less_eqH : ∀ (x y : List UInt8), Op.bytesLess x y = decide (x < y)
  | [], [] => by simp [Op.bytesLess]
  | _ :: _, [] => by simp [Op.bytesLess]
  | [], _ :: _ => by simp [Op.bytesLess]
  | a :: x, b :: y => by
    rw [Op.bytesLess, less_eqH x y]
    simp only [List.cons_lt_cons_iff]
    by_cases h1 : a < b <;> by_cases h2 : a = b <;> by_cases h3 : x < y <;> simp [h1, h2, h3]

theorem less_total {x y : List UInt8} (h : (Op.bytesLess x y || x == y) = false) : (Op.bytesLess y x || y == x) = true := by
  rw [Bool.or_eq_false_iff] at h
  rw [less_eqH] at h
  rw [less_eqH]
  have h1 : ¬ x < y := by simpa using h.1
  have h2 : ¬ x = y := by simpa using h.2
  have h3 : y < x := by
    rcases List.le_total x y with h4 | h4
    · rcases List.le_iff_lt_or_eq.1 h4 with h5 | h5
      · exact absurd h5 h1
      · exact absurd h5 h2
    · rcases List.le_iff_lt_or_eq.1 h4 with h5 | h5
      · exact h5
      · exact absurd h5.symm h2
  simp [h3]

theorem leB_nil {d : ByteArray} (h : d.size = 32) : leB d ⟨#[]⟩ = false := by
  unfold leB
  have hl : d.toList.length = 32 := by rw [ByteArray.toList_eq]; simpa using h
  have he : (⟨#[]⟩ : ByteArray).toList = [] := by rw [ByteArray.toList_eq]
  rw [he]
  cases hd : d.toList with
  | nil => rw [hd] at hl; simp at hl
  | cons x r => rfl

/-- Two parents turned: the second is not above the first. -/
theorem risP_turned {p q : ByteArray} {l : List ByteArray} (h : risP ⟨#[]⟩ (p :: q :: l) = 0) : risP ⟨#[]⟩ (q :: p :: l) = 9 := by
  have hs := risP_zero _ _ h
  have hp := hs p (by simp)
  have hq := hs q (by simp)
  rw [risP] at h
  have h1 : digE p ⟨#[]⟩ = 0 := by unfold digE; rw [if_neg (by omega), if_neg (by rw [leB_nil hp]; simp)]
  rw [if_neg (by omega), risP] at h
  by_cases h2 : digE q p ≠ 0
  · rw [if_pos h2] at h; omega
  · have h3 := (digE_zero (d := q) (a := p) (by omega)).2
    have h4 : leB p q = true := less_total h3
    have h5 : digE q ⟨#[]⟩ = 0 := by unfold digE; rw [if_neg (by omega), if_neg (by rw [leB_nil hq]; simp)]
    have h6 : digE p q = 9 := by unfold digE; rw [if_neg (by omega), if_pos h4]
    rw [risP, if_neg (by omega), risP, h6, if_pos (by decide)]

/-- The parts of a header that is right. -/
theorem chkH_parts {n need : Nat} {en : List TagD → ByteArray → Nat} {h : HdrD} (hc : chkH n need en h = 0) : ¬ (h.author < 0 ∨ (n : Int) ≤ h.author ∨ h.round < 1 ∨ 4611686018427387903 < h.round) ∧ h.refs.length ≤ 4 ∧ refP en ⟨#[]⟩ h.refs = 0 ∧ risP ⟨#[]⟩ h.parents = 0 ∧ h.parents.length ≤ n := by
  unfold chkH at hc
  by_cases h1 : h.author < 0 ∨ (n : Int) ≤ h.author ∨ h.round < 1 ∨ 4611686018427387903 < h.round
  · rw [if_pos h1] at hc; omega
  rw [if_neg h1] at hc
  by_cases h2 : 4 < h.refs.length
  · rw [if_pos h2] at hc; omega
  rw [if_neg h2] at hc
  by_cases h3 : refP en ⟨#[]⟩ h.refs ≠ 0
  · rw [if_pos h3] at hc; omega
  rw [if_neg h3] at hc
  by_cases h4 : risP ⟨#[]⟩ h.parents ≠ 0
  · rw [if_pos h4] at hc; omega
  rw [if_neg h4] at hc
  refine ⟨h1, by omega, by omega, by omega, ?_⟩
  unfold countE at hc
  by_cases h5 : h.round = 1 ∧ 0 < h.parents.length
  · rw [if_pos h5] at hc; omega
  rw [if_neg h5] at hc
  by_cases h6 : 1 < h.round ∧ h.parents.length < need
  · rw [if_pos h6] at hc; omega
  rw [if_neg h6] at hc
  by_cases h7 : n < h.parents.length
  · rw [if_pos h7] at hc; omega
  · omega

theorem right_fit {ks : List ByteArray} {f : Nat} {h : HdrD} (hk : ks.length = 3 * f + 1) (hf : f ≤ 2) (hc : chkH (3 * f + 1) (2 * f + 1) (enT ks f) h = 0) : h.Fit := by
  obtain ⟨h1, h2, h3, h4, h5⟩ := chkH_parts hc
  refine ⟨by omega, by omega, by omega, by omega, h2, fun x hx => ?_, by omega, fun p hp => by have := risP_zero _ _ h4 p hp; omega⟩
  obtain ⟨r1, r2⟩ := refP_zero _ _ h3 x hx
  obtain ⟨_, e2, e3, _⟩ := enT_zero hk hf r2
  exact ⟨by omega, e2, e3⟩

theorem right_few {ks : List ByteArray} {f : Nat} {h : HdrD} (hk : ks.length = 3 * f + 1) (hf : f ≤ 2) (hc : chkH (3 * f + 1) (2 * f + 1) (enT ks f) h = 0) {i : Nat} {x : RefD} (hx : h.refs[i]? = some x) :
    2 * f + 1 ≤ x.acks.length ∧ chkH (3 * f + 1) (2 * f + 1) (enT ks f) { h with refs := h.refs.set i ⟨x.digest, x.acks.take (2 * f)⟩ } = 12 := by
  obtain ⟨h1, h2, h3, h4, h5⟩ := chkH_parts hc
  obtain ⟨r1, r2⟩ := refP_zero _ _ h3 x (List.mem_of_getElem? hx)
  obtain ⟨e1, e2, e3, e4⟩ := enT_zero hk hf r2
  refine ⟨e1, ?_⟩
  have hs := refP_set h.refs ⟨#[]⟩ i x ⟨x.digest, x.acks.take (2 * f)⟩ h3 hx rfl (by rw [e4]; decide)
  rw [e4] at hs
  unfold chkH
  simp only
  rw [if_neg h1, if_neg (by rw [List.length_set]; omega), hs, if_pos (by decide)]

theorem right_turned {n need : Nat} {en : List TagD → ByteArray → Nat} {h : HdrD} (hc : chkH n need en h = 0) {p q : ByteArray} {l : List ByteArray} (hp : h.parents = p :: q :: l) : chkH n need en { h with parents := q :: p :: l } = 9 := by
  obtain ⟨h1, h2, h3, h4, h5⟩ := chkH_parts hc
  rw [hp] at h4
  have ht := risP_turned h4
  unfold chkH
  simp only
  rw [if_neg h1, if_neg (by omega), if_neg (by omega), ht, if_pos (by decide)]
end Go.Proofs.YtjebfkgigijnhaaDoor

/- What tusklaw06.Great, PlainTags and Plain do; nothing in memory is turned. -/
namespace Go.Proofs.YtjebfkgigijnhaaDoor
open Go.RowKit
set_option linter.unusedVariables false

/-- A bool is handed back that says whether P. -/
def GotBool (P : Prop) (e : Ending) : Prop := ∃ p : Bool, e = .returned (.bool p) ∧ (p = true ↔ P)

theorem gotB_no {P : Prop} (h : ¬ P) {e : Ending} (he : e = .returned (.bool false)) : GotBool P e := ⟨false, he, (fun h => by cases h), fun h' => absurd h' h⟩
theorem gotB_yes {P : Prop} (h : P) {e : Ending} (he : e = .returned (.bool true)) : GotBool P e := ⟨true, he, fun _ => h, fun _ => rfl⟩

set_option maxRecDepth 100000 in
set_option maxHeartbeats 1000000 in
theorem great_any (x : HdrM) (w : World) (hA : x.At w) (hn : x.refs.length ≤ maxLen) (hp : x.parents.length ≤ maxLen) :
    Calls Tryd.prog 9 #[x.v] w fun e w' => (∃ g, e = .returned (.bool g)) ∧ Below w.heap.size w w' := by
  obtain ⟨au, ro, ra, rs, rc, pa, ps, pc⟩ := x
  have hA1 : RowAt refK w ra rs := hA.refs
  have hA2 : RowAt strK w pa ps := hA.ps
  have hn' : rs.length ≤ maxLen := hn
  have hp' : ps.length ≤ maxLen := hp
  have hX := Arr.new w 25 [.int .i64 au, .int .i64 ro, .slice ra rs.length rc, .slice pa ps.length pc]
  have hB := belowNew w (.cells #[.int .i64 au, .int .i64 ro, .slice ra rs.length rc, .slice pa ps.length pc] 25)
  clear hA hn hp
  unfold maxLen at hn' hp'
  unfold HdrM.v
  simp only
  have x3 := hX.cell (i := 3) rfl
  go_enter Tryd.func9, Tryd.ntmps9
  go_wp2
  go_loopw [3, 4] (fun v3 v4 wr => ∃ (k : Nat) (n : Int), k ≤ rs.length ∧ v4 = .int .i64 (k : Int) ∧ v3 = .int .i64 n ∧ Arr wr w.heap.size 25 [.int .i64 au, .int .i64 ro, .slice ra rs.length rc, .slice pa ps.length pc] ∧ Below w.heap.size w wr) (fun _ v _ => rs.length - (intOf v).toNat)
  case atStart => exact ⟨0, _, Nat.zero_le _, rfl, rfl, hX, hB⟩
  case round =>
    clear hX hB x3
    obtain ⟨k, n, hk, rfl, rfl, hX, hb⟩ := hrel
    have x2 := hX.cell (i := 2) rfl
    by_cases hlt : k < rs.length
    · obtain ⟨r, hr⟩ : ∃ r, rs[k]? = some r := ⟨rs[k], List.getElem?_eq_getElem hlt⟩
      obtain ⟨b, off, rfl, hbl, y0, y1⟩ := (hA1.below hb).ref hr
      clear hr
      go_wp2_with fail
      go_big_quiet (fail)
      have hb2 := below_drewN hb nq
      have hX2 := hX.drewN nq
      clear hX hb x2 y0 y1
      generalize wr.drewN nq = w1 at *
      go_wp2
      go_roundw
      case rel => exact ⟨k + 1, _, by omega, by go_num, rfl, hX2, hb2⟩
      case measure => simp [intOf]; omega
    · go_wp2
      go_loopw [3, 5] (fun v3 v5 wr => ∃ (k : Nat) (n : Int), k ≤ ps.length ∧ v5 = .int .i64 (k : Int) ∧ v3 = .int .i64 n ∧ Arr wr w.heap.size 25 [.int .i64 au, .int .i64 ro, .slice ra rs.length rc, .slice pa ps.length pc] ∧ Below w.heap.size w wr) (fun _ v _ => ps.length - (intOf v).toNat)
      case atStart => exact ⟨0, _, Nat.zero_le _, rfl, rfl, hX, hb⟩
      case round =>
        clear hX hb x2
        obtain ⟨j, n, hj, rfl, rfl, hX, hb⟩ := hrel
        have x3 := hX.cell (i := 3) rfl
        by_cases hlt2 : j < ps.length
        · obtain ⟨b, off, rfl, hbl, hc⟩ := (hA2.below hb).strs j hlt2
          go_wp2
          go_roundw
          case rel => exact ⟨j + 1, _, by omega, by go_num, rfl, hX, hb⟩
          case measure => simp [intOf]; omega
        · go_wp2
          go_ret
          exact ⟨⟨_, rfl⟩, hb⟩
end Go.Proofs.YtjebfkgigijnhaaDoor

/- What the walks of HeaderBack, HeaderRight and HeaderCuts share. -/
namespace Go.Proofs.YtjebfkgigijnhaaDoor
open Go.RowKit
set_option linter.unusedVariables false

theorem HdrM.Lens.n' {x : HdrM} (h : x.Lens) : x.refs.length ≤ maxLen := by have := h.n; unfold maxLen; omega
theorem HdrM.Lens.p' {x : HdrM} (h : x.Lens) : x.parents.length ≤ maxLen := by have := h.p; unfold maxLen; omega
theorem HdrM.Lens.acks' {x : HdrM} (h : x.Lens) : ∀ r ∈ x.refs, r.acks.length ≤ maxLen := fun r hr => by have := h.acks r hr; unfold maxLen; omega

theorem flat_tags_fit : ∀ (l : List TagD), (∀ t ∈ l, t.Fit) → ((l.map tagB).flatMap txt).length ≤ 34 * l.length
  | [], _ => by simp
  | t :: l, h => by
    have ih := flat_tags_fit l (fun x hx => h x (by simp [hx]))
    have h1 := txt_len_le (tagB t)
    have h2 := tagB_len (h t (by simp))
    simp only [List.map_cons, List.flatMap_cons, List.length_append, List.length_cons] at ih ⊢
    omega

theorem refB_fit {r : RefD} (h : r.Fit) : (refB r).length ≤ 65800 := by
  have h1 := txt_len_le r.digest.data.toList
  have h2 := flat_tags_fit r.acks h.all
  have h3 := goInt_length ((r.acks.map tagB).length : Int)
  have h4 := h.few
  have h5 := h.dig
  have h6 : r.digest.data.toList.length = r.digest.size := by simp
  rw [refB, List.length_append, tagsB, lst, List.length_append]
  omega

theorem flat_refs_fit : ∀ (l : List RefD), (∀ r ∈ l, r.Fit) → (l.flatMap refB).length ≤ 65800 * l.length
  | [], _ => by simp
  | r :: l, h => by
    have ih := flat_refs_fit l (fun x hx => h x (by simp [hx]))
    have h1 := refB_fit (h r (by simp))
    simp only [List.flatMap_cons, List.length_append, List.length_cons] at ih ⊢
    omega

theorem flat_strs_fit : ∀ (l : List ByteArray), (∀ p ∈ l, p.size ≤ 65536) → ((bl l).flatMap txt).length ≤ 65545 * l.length
  | [], _ => by simp [bl]
  | p :: l, h => by
    have ih := flat_strs_fit l (fun x hx => h x (by simp [hx]))
    have h1 := txt_len_le p.data.toList
    have h2 := h p (by simp)
    have h6 : p.data.toList.length = p.size := by simp
    have e : (bl (p :: l)).flatMap txt = txt p.data.toList ++ (bl l).flatMap txt := by simp [bl]
    rw [e, List.length_append, List.length_cons]
    omega

theorem encH_fit {h : HdrD} (hf : h.Fit) : (encH h).length ≤ 1000000 := by
  have h1 := flat_refs_fit h.refs hf.refs
  have h2 := flat_strs_fit h.parents hf.pz
  have h3 := hf.few
  have h4 := hf.ps
  have g0 := goInt_length h.author
  have g1 := goInt_length h.round
  have g2 := goInt_length (h.refs.length : Int)
  have g3 := goInt_length ((bl h.parents).length : Int)
  unfold encH lst
  simp only [List.length_append]
  omega

theorem hdrFit_of {x : HdrM} (h : x.d.Fit) : x.Fit := by
  have h1 : x.refs.length ≤ 4 := by have := h.few; simpa [HdrM.d, rd] using this
  have h2 : x.parents.length ≤ 7 := h.ps
  have h3 : ∀ r ∈ x.refs, r.d.Fit := fun r hr => h.refs r.d (List.mem_map.2 ⟨r, hr, rfl⟩)
  refine ⟨by omega, by omega, fun r hr => ?_, fun r hr t ht => ?_, by have := encH_fit h; omega⟩
  · have : r.acks.length ≤ 7 := (h3 r hr).few
    omega
  · have : t.mac.size = 16 := ((h3 r hr).all t ht).mac
    omega

theorem fit_lens {x : HdrM} (h : x.d.Fit) : x.refs.length ≤ 4 ∧ x.parents.length ≤ 7 ∧ ∀ r ∈ x.refs, r.acks.length ≤ 7 :=
  ⟨by have := h.few; simpa [HdrM.d, rd] using this, h.ps, fun r hr => (h.refs r.d (List.mem_map.2 ⟨r, hr, rfl⟩)).few⟩
end Go.Proofs.YtjebfkgigijnhaaDoor

/- A right header has few bytes. -/
namespace Go.Proofs.YtjebfkgigijnhaaDoor
open Go.RowKit
set_option linter.unusedVariables false

theorem refB_right {r : RefD} (h : r.Fit) (hd : r.digest.size = 32) : (refB r).length ≤ 290 := by
  have h1 := txt_len_le r.digest.data.toList
  have h2 := flat_tags_fit r.acks h.all
  have h3 := goInt_length ((r.acks.map tagB).length : Int)
  have h4 := h.few
  have h6 : r.digest.data.toList.length = r.digest.size := by simp
  rw [refB, List.length_append, tagsB, lst, List.length_append]
  omega

theorem flat_refs_right : ∀ (l : List RefD), (∀ r ∈ l, r.Fit ∧ r.digest.size = 32) → (l.flatMap refB).length ≤ 290 * l.length
  | [], _ => by simp
  | r :: l, h => by
    have ih := flat_refs_right l (fun x hx => h x (by simp [hx]))
    have h1 := refB_right (h r (by simp)).1 (h r (by simp)).2
    simp only [List.flatMap_cons, List.length_append, List.length_cons] at ih ⊢
    omega

theorem flat_strs_right : ∀ (l : List ByteArray), (∀ p ∈ l, p.size = 32) → ((bl l).flatMap txt).length ≤ 41 * l.length
  | [], _ => by simp [bl]
  | p :: l, h => by
    have ih := flat_strs_right l (fun x hx => h x (by simp [hx]))
    have h1 := txt_len_le p.data.toList
    have h2 := h p (by simp)
    have h6 : p.data.toList.length = p.size := by simp
    have e : (bl (p :: l)).flatMap txt = txt p.data.toList ++ (bl l).flatMap txt := by simp [bl]
    rw [e, List.length_append, List.length_cons]
    omega

/-- A right header has few bytes. -/
theorem right_small {ks : List ByteArray} {f : Nat} {h : HdrD} (hk : ks.length = 3 * f + 1) (hf : f ≤ 2) (hc : chkH (3 * f + 1) (2 * f + 1) (enT ks f) h = 0) : (encH h).length ≤ 2000 := by
  obtain ⟨_, h2, h3, h4, h5⟩ := chkH_parts hc
  have hr : ∀ r ∈ h.refs, r.Fit ∧ r.digest.size = 32 := fun r hr => by
    obtain ⟨a, b⟩ := refP_zero h.refs _ h3 r hr
    obtain ⟨_, c, d, _⟩ := enT_zero hk hf b
    exact ⟨⟨by omega, c, d⟩, a⟩
  have a1 := flat_refs_right h.refs hr
  have a2 := flat_strs_right h.parents (risP_zero h.parents _ h4)
  have g0 := goInt_length h.author
  have g1 := goInt_length h.round
  have g2 := goInt_length (h.refs.length : Int)
  have g3 := goInt_length ((bl h.parents).length : Int)
  unfold encH lst
  simp only [List.length_append]
  omega
end Go.Proofs.YtjebfkgigijnhaaDoor

/- What the walks of CertMade and CertVotes share: rows of numbers; a right header's certificate. -/
namespace Go.Proofs.YtjebfkgigijnhaaDoor
open Go.RowKit
set_option linter.unusedVariables false

/-- Numbers. -/
def intK : Kind Int where
  n := 1
  c v := [.int .i64 v]
  foot _ _ := False
  At _ _ := True
  pos := by decide
  len _ := rfl
  one x u hu := by
    simp only [List.mem_cons, List.not_mem_nil, or_false] at hu
    rcases hu with rfl; rfl
  lt _ h := h.elim
  keep _ _ := trivial

theorem RowAt.int {w : World} {ao : Option Addr} {l : List Int} (h : RowAt intK w ao l) {i : Nat} {v : Int} (hv : l[i]? = some v) :
    ∃ b off, ao = some ⟨b, off, none⟩ ∧ b < w.heap.size ∧ w.cell? ⟨b, off + i, none⟩ = some (.int .i64 v) := by
  obtain ⟨b, off, h1, h2, h3⟩ := h.cell i v hv
  refine ⟨b, off, h1, h2, ?_⟩
  have := h3 0 _ rfl
  have e : off + i * intK.n + 0 = off + i := by show off + i * 1 + 0 = _; omega
  rw [e] at this
  exact this

theorem tagsB_fitC {l : List TagD} (h : ∀ t ∈ l, t.Fit) (hl : l.length ≤ 7) : (tagsB l).length ≤ 300 := by
  have h1 := flat_tags_fit l h
  have h2 := goInt_length ((l.map tagB).length : Int)
  rw [tagsB, lst, List.length_append]
  omega

theorem certFit_ofC {x : CertM} (h1 : x.hdr.d.Fit) (h2 : x.votes.length ≤ 7) (h3 : ∀ t ∈ x.votes, t.Fit) : x.Fit :=
  ⟨hdrFit_of h1, by omega, fun t ht => by have := (h3 t ht).mac; omega, by have := tagsB_fitC h3 h2; omega⟩

/-- A header's lists, where it has the data of another one. -/
theorem lens_same {x y : HdrM} (hyd : y.d = x.d) (hL : x.Lens) : (∀ r ∈ y.refs, r.acks.length ≤ maxLen) ∧ y.parents.length ≤ maxLen := by
  constructor
  · intro r hr
    have h1 : r.d ∈ rd x.refs := by
      have h2 : rd y.refs = rd x.refs := congrArg HdrD.refs hyd
      rw [← h2]
      exact List.mem_map.2 ⟨r, hr, rfl⟩
    obtain ⟨q, hq, hqr⟩ := List.mem_map.1 h1
    have h3 : q.acks = r.acks := congrArg RefD.acks hqr
    rw [← h3]
    exact hL.acks' q hq
  · have h2 : y.parents = x.parents := congrArg HdrD.parents hyd
    rw [h2]
    exact hL.p'

/-- A header that can be read: its lists are short. -/
theorem fit_lensC {x : HdrM} (h : x.d.Fit) : x.Lens :=
  ⟨by have := (fit_lens h).1; omega, by have := (fit_lens h).2.1; omega, fun r hr => by have := (fit_lens h).2.2 r hr; omega⟩

theorem pick_atC (f : Int) (k : Nat) (hk : 0 < k) (hk2 : k < 9223372036854775808) : ∃ j : Nat, j < k ∧ wrap64 ((IntKind.u64.wrap f).tmod (k : Int)) = (j : Int) := by
  obtain ⟨h0, h1⟩ := Mx.u64_range f
  rw [Int.tmod_eq_emod_of_nonneg h0]
  generalize IntKind.u64.wrap f = m at h0 h1
  have hlt := Int.emod_lt_of_pos m (show (0 : Int) < (k : Int) by omega)
  have hge := Int.emod_nonneg m (show (k : Int) ≠ 0 by omega)
  refine ⟨(m % (k : Int)).toNat, by omega, ?_⟩
  rw [Mx.wrap64_small _ hge (by omega)]
  omega
end Go.Proofs.YtjebfkgigijnhaaDoor

/- A map of numbers to yes or no that the call makes: what is looked up in it, and how it is written. -/
namespace Go.Proofs.YtjebfkgigijnhaaDoor
open Go Go.RowKit Go.Maps
set_option linter.unusedVariables false

theorem plainElem_bool_inv {H : Type} {P : Program} {e : TypeId} (he : P.underlying e = some .bool) {v : Value} {z : DataW H × List MemPlace} (h : plainElem P e v = some z) : ∃ b, v = .bool b ∧ z = (.lit (.bool b), []) := by
  unfold plainElem at h
  simp only [he] at h
  cases v <;> simp_all

/-- 'm[k]' at elements that are bools. -/
theorem wpList_lookup_own_bool {H : Type} {P : Program} (w : World) {ops : Array Oper} {rest : List Oper} {o : Oper} {a : Act} {Q : Exit → Act → World → Prop}
    (hg : o.guard = none) (m x : Operand) (t : TypeId) (hop : o.op = Op.lookup t m x false)
    (k e : TypeId) (K : Keyed P k) (ht : P.underlying t = some (.map k e)) (he : P.underlying e = some .bool) (hz : (zeroValue e).run P w = .ok (.bool false) w) (b n : Nat) (D : DataW H)
    (hm : a.eval m = .map (some b)) (hown : w.ownsMap P k (plainElem P e) b n D) (key : Value) (kl : Lit) (hx : a.eval x = key) (hkey : keyOf P k key = some kl)
    (c : Bool) (hat : D.atKey kl (.lit (.bool false)) = .lit (.bool c)) (hK : wpList P ops Q rest (a.put o.dst (.bool c)) w) :
    wpList P ops Q (o :: rest) a w := by
  refine wpList_plain hg fun K' hK' => ?_
  obtain ⟨v, ps, hrun, hv⟩ := hown.lookup K ht hz (plainElem_bool he false) hkey
  obtain ⟨c', rfl, hc'⟩ := plainElem_bool_inv he hv
  simp only [Prod.mk.injEq] at hc'
  have : c' = c := by
    have h1 := hc'.1
    rw [hat] at h1
    simp at h1
    exact h1.symm
  subst this
  unfold Oper.wp
  simp [execOp, hop, hm, hx, hrun, Result.andThen]
  exact hK' _ _ hK

theorem Kept.grown {w w' : World} {r : Nat} (h : Kept (fun k => k = r) w w') : w.grownBy w' (some r) := ⟨h.os, h.tape, h.output, h.size, fun k hk hne => h.block k hk (fun e => hne (by rw [e]))⟩

theorem Below.grown0 {w w' : World} (h : Below w.heap.size w w') : w.grownBy w' none := ⟨h.os, h.tape, h.output, h.size, fun k hk _ => h.block k hk⟩

/-- The map holds just the numbers below n that p tells. -/
structure SetMap (D : DataW Unit) (n : Nat) (p : Nat → Bool) (sz : Nat) : Prop where
  at_ : ∀ j, j < n → D.atKey (.int .i64 (j : Int)) (.lit (.bool false)) = .lit (.bool (p j))
  has : ∀ j, j < n → Maps.has D (.int .i64 (j : Int)) = p j
  size : Maps.size D = sz

theorem key_ok (j : Int) : WideAt.IsKeyLit (.int .i64 j) := by
  exact trivial

theorem SetMap.put {D : DataW Unit} {n : Nat} {p : Nat → Bool} {sz : Nat} (h : SetMap D n p sz) (hT : Tidy D) {j : Nat} (hj : j < n) {p' : Nat → Bool} (hp : ∀ i, p' i = if i = j then true else p i) : SetMap (D.put (.int .i64 (j : Int)) (.lit (.bool true))) n p' (if p j = true then sz else sz + 1) := by
  refine ⟨fun i hi => ?_, fun i hi => ?_, ?_⟩
  · rw [hp]
    by_cases e : i = j
    · subst e
      rw [if_pos rfl]
      exact atKey_put_same hT.isMap (key_ok _) _ _
    · rw [if_neg e, atKey_put_other (by simp; omega)]
      exact h.at_ i hi
  · rw [hp]
    by_cases e : i = j
    · subst e
      rw [if_pos rfl]
      exact has_put_same hT.isMap (key_ok _) _
    · rw [if_neg e, has_put_other (by simp; omega)]
      exact h.has i hi
  · rw [size_put hT, h.has j hj, h.size]
end Go.Proofs.YtjebfkgigijnhaaDoor

/- tusklaw07.CertMade answers true; nothing old in memory is turned. -/
namespace Go.Proofs.YtjebfkgigijnhaaDoor
open Go.RowKit Go.Maps
set_option linter.unusedVariables false

theorem zeroBool (w : World) : (zeroValue 4).run Tryd.prog w = .ok (.bool false) w := by kernel_rfl
theorem lawInt : Keyed Tryd.prog 3 := int_keyed Tryd.underlying3

set_option maxRecDepth 100000 in
set_option maxHeartbeats 4000000 in
theorem certMade_walk (f : Int) (x : HdrM) (oa : Option Addr) (oc : Nat) (order : List Int) (w : World) (hwf : (Lit.int .i64 f).wf = true) (hA : x.At w) (hL : x.Lens) (hO : RowAt intK w oa order) (hOm : order.length ≤ maxLen) (hG : Mx.Glob w) :
    Calls Tryd.prog 5 #[.int .i64 f, x.v, .slice oa order.length oc] w fun e w' => e = .returned (.bool true) ∧ Below w.heap.size w w' := by
  have hX := Arr.new w 25 [.int .i64 x.author, .int .i64 x.round, .slice x.ra x.refs.length x.rc, .slice x.pa x.parents.length x.pc]
  have hB := belowNew w (.cells #[.int .i64 x.author, .int .i64 x.round, .slice x.ra x.refs.length x.rc, .slice x.pa x.parents.length x.pc] 25)
  have cW := works7_any _ (hG.below hB)
  have cG := fun w1 h => great_any x w1 h hL.n' hL.p'
  have cO := fun w1 h => own6_any x w1 h hL
  unfold HdrM.v at cG cO ⊢
  go_enter Tryd.func5, Tryd.ntmps5
  go_wp2_with fail
  refine cW.mono ?_
  rintro e w1 ⟨rfl, hb1⟩
  have hX1 := hX.below hb1 hX.lt
  have hB1 := hB.trans (hb1.mono hB.size)
  clear hX hB hb1 cW
  have cB := both_any f w1 (hG.below hB1)
  go_wp2_with fail
  refine cB.mono ?_
  rintro e w2 ⟨n, tb, rb, n2, n1, rfl, hT2, _, hb2⟩
  have hX2 := hX1.below hb2 hX1.lt
  have hB2 := hB1.trans (hb2.mono hB1.size)
  have hk32 : ∀ k ∈ Mx.keysL seedW (3 * n + 1), k.size ≤ 32 := Mx.keysL_size _ _
  have hkl : Hid ((Mx.keysL seedW (3 * n + 1)).length = 3 * n + 1) := Mx.keysL_len _ _
  generalize Mx.keysL seedW (3 * n + 1) = ks at *
  clear hX1 hB1 hb2 cB
  have x0 := hX2.cell (i := 0) rfl
  have x1 := hX2.cell (i := 1) rfl
  have x2 := hX2.cell (i := 2) rfl
  have x3 := hX2.cell (i := 3) rfl
  go_wp2_with fail
  refine (cG _ (hA.below hB2)).mono ?_
  rintro e w3 ⟨⟨g, rfl⟩, hb3⟩
  have hX3 := hX2.below hb3 hX2.lt
  have hT3 := hT2.below hb3
  have hB3 := hB2.trans (hb3.mono hB2.size)
  clear hX2 hB2 hb3 cG x0 x1 x2 x3 hT2
  cases g with
  | true =>
    go_wp2
    go_ret
    exact ⟨rfl, hB3⟩
  | false =>
  have x0 := hX3.cell (i := 0) rfl
  have x1 := hX3.cell (i := 1) rfl
  have x2 := hX3.cell (i := 2) rfl
  have x3 := hX3.cell (i := 3) rfl
  go_wp2_with fail
  refine (cO _ (hA.below hB3)).mono ?_
  rintro e w4 ⟨y, rfl, hyd, hy, hyf, hb4⟩
  have hX4 := hX3.below hb4 hX3.lt
  have hT4 := hT3.below hb4
  have hB4 := hB3.trans (hb4.mono hB3.size)
  obtain ⟨hyl, hyp⟩ := lens_same hyd hL
  have cC := hdrCheck_any tb n ks y w4 hT4 n2 hk32 hy hyl hyp (hG.below hB4)
  rw [hyd] at cC
  clear hX3 hB3 hb4 x0 x1 x2 x3 hyf hyl hyp hT3
  unfold HdrM.v at cC ⊢
  by_cases hc : chkH (3 * n + 1) (2 * n + 1) (enT ks n) x.d ≠ 0
  · generalize chkH (3 * n + 1) (2 * n + 1) (enT ks n) x.d = er at cC hc
    have hne : ((er : Int) != 0) = true := by rw [bne_iff_ne]; omega
    go_wp2_with fail
    refine cC.mono ?_
    rintro e w5 ⟨rfl, hb5⟩
    have hB5 := hB4.trans (hb5.mono hB4.size)
    clear hb5 cC hX4 hB4 hy
    go_wp2
    go_ret
    exact ⟨rfl, hB5⟩
  have hc0 : chkH (3 * n + 1) (2 * n + 1) (enT ks n) x.d = 0 := by omega
  rw [hc0] at cC
  have HC : Hid (chkH (3 * n + 1) (2 * n + 1) (enT ks n) x.d = 0) := hc0
  have hfit : Hid x.d.Fit := right_fit hkl.out n2 hc0
  have hsmall : Hid ((encH x.d).length ≤ 2000) := right_small hkl.out n2 hc0
  clear hc hc0
  go_wp2_with fail
  refine cC.mono ?_
  rintro e w5 ⟨rfl, hb5⟩
  have hX5 := hX4.below hb5 hX4.lt
  have hT5 := hT4.below hb5
  have hB5 := hB4.trans (hb5.mono hB4.size)
  clear cC hX4 hB4 hb5 hT4 hy hyd
  have x0 := hX5.cell (i := 0) rfl
  have x1 := hX5.cell (i := 1) rfl
  have x2 := hX5.cell (i := 2) rfl
  have x3 := hX5.cell (i := 3) rfl
  go_wp2_with fail
  refine (cO _ (hA.below hB5)).mono ?_
  rintro e w6 ⟨z, rfl, hzd, hz, hzf, hb6⟩
  have hX6 := hX5.below hb6 hX5.lt
  have hT6 := hT5.below hb6
  have hB6 := hB5.trans (hb6.mono hB5.size)
  have cI := hdrId_any z w6 hz (hdrFit_of (by rw [hzd]; exact hfit.out)) (by rw [hzd]; have := hsmall.out; omega) (hG.below hB6)
  rw [hzd] at cI
  obtain ⟨ib, hib⟩ : ∃ q, Hid (q = idB x.d) := ⟨_, rfl⟩
  have hibs : ib.size = 32 := by rw [hib.out]; exact idB_size _
  have e1 : Mx.bytes (Mx.sumL (encH x.d)) = ib := hib.out.symm
  rw [e1] at cI
  clear e1 hX5 hB5 hb6 hT5 hz hzf x0 x1 x2 x3
  unfold HdrM.v at cI ⊢
  go_wp2_with fail
  refine cI.mono ?_
  rintro e w7 ⟨rfl, hb7⟩
  have hX7 := hX6.below hb7 hX6.lt
  have hT7 := hT6.below hb7
  have hB7 := hB6.trans (hb7.mono hB6.size)
  have hG7 := hG.below hB7
  clear cI hX6 hB6 hb7 hT6 hzd
  have env : VEnv w7 tb n ks voteW ib := ⟨hT7, n2, hkl.out, hk32, by decide, by omega, hG7⟩
  have cV := env.collect (Below.refl _ _)
  unfold voteW at cV
  go_wp2_with fail
  refine cV.mono ?_
  rintro e w8 ⟨vb, rfl, hvb, hS8, hb8⟩
  clear cV
  have hmm := @run_makeMap Tryd.prog
  have hM9 := World.ownsMap_made (H := Unit) w8 Tryd.prog 3 (plainElem Tryd.prog 4)
  have hS9 := hS8.below (belowNew w8 (.map #[] 0))
  have hmv : w8.heap.size ≠ vb := by have := hS8.lt; omega
  have hmw : w7.heap.size ≤ w8.heap.size := hb8.size
  clear hS8 hb8 hk32
  obtain ⟨nn, hnn⟩ : ∃ q, Hid (q = 3 * n + 1) := ⟨_, rfl⟩
  have hnn7 : nn ≤ 7 ∧ 0 < nn := by have := hnn.out; omega
  have hst0 : SetMap (.map [] : DataW Unit) nn (isIn noP) (inL noP).length := ⟨fun j _ => by rw [isIn_none]; rfl, fun j _ => by rw [isIn_none]; rfl, rfl⟩
  go_wp2_with fail
  clear hmm
  generalize hmbe : w8.heap.size = mb at *
  go_loopw [13, 14, 15, 16, 17] (fun v13 _ _ _ _ wr => ∃ (i : Nat) (P : List (Option TagD)) (D : DataW Unit), i ≤ order.length ∧ i ≤ 30 ∧ v13 = .int .i64 (i : Int) ∧ VSt w7 tb n ks voteW ib vb P wr ∧ wr.ownsMap Tryd.prog 3 (plainElem Tryd.prog 4) mb i D ∧ SetMap D nn (isIn P) (inL P).length) (fun v _ _ _ _ _ => 30 - (intOf v).toNat)
  case atStart => exact ⟨0, noP, .map [], Nat.zero_le _, Nat.zero_le _, rfl, hS9, hM9, hst0⟩
  case round =>
    obtain ⟨i, P, D, hil, hi30, rfl, hS, hM, hD⟩ := hrel
    clear hS9 hM9 hst0
    by_cases hgo : i < order.length ∧ i < 30
    · have g1 : (i : Int) < (order.length : Int) := by omega
      have g2 : (i : Int) < 30 := by omega
      obtain ⟨v, hv⟩ : ∃ v, order[i]? = some v := ⟨_, List.getElem?_eq_getElem hgo.1⟩
      have hBr := hB7.trans (hS.bel.mono hB7.size)
      obtain ⟨b, off, rfl, hbl, y0⟩ := (hO.below hBr).int hv
      obtain ⟨j, hj, hje⟩ := pick_atC v nn hnn7.2 (by omega)
      have cN := fun m => Mx.n_any tb n ks (wr.drewN m) (hT7.below ((hS.bel).trans ((below_drewN (Below.refl _ wr) m).mono hS.bel.size))) n2
      simp only [← hnn.out] at cN
      go_wp2_with fail
      go_quiet (exact Calls.quiet_of_same (cN _))
      rw [hje]
      have hbq := below_drewN (Below.refl wr.heap.size wr) nq
      have hS2 := hS.below hbq
      have hM2 := hM.kept (Below.grown0 hbq) (by simp)
      clear hje cN y0 hBr hS hM
      generalize wr.drewN nq = w9 at hS2 hM2 ⊢
      have hkk := hkl.out
      have hnne := hnn.out
      obtain ⟨a1, a2, a3⟩ := tagJ_add hS2.pl (j := j) (by omega) (by omega)
      have cS := Mx.sign_yes tb n ks j voteW ib w9 (hT7.below hS2.bel) (ks.getD j ⟨#[]⟩) (Mx.getD_some (by omega)) env.k32 (by decide) (by omega) (hG7.below hS2.bel)
      have cA := fun w h => VEnv.add env (P := P) (w := w) (vb := vb) h (tagJ ks voteW ib j)
      rw [a1] at cA
      have hjw : (Lit.int .i64 (j : Int)).wf = true := WalkArith.wf_i64 (by omega)
      have hkey := keyOf_int_mk Tryd.underlying3 hjw
      have hat := hD.at_ j hj
      have hTd := hM2.tidy lawInt
      have hD' := hD.put hTd hj (p' := isIn (addP (chkT ks voteW ib) P (tagJ ks voteW ib j))) a2
      rw [← a3] at hD'
      have HD' : Hid (SetMap _ nn _ _) := hD'
      clear a2 a3 hD' hTd hkk hnne
      obtain ⟨P', hP'⟩ : ∃ q, q = addP (chkT ks voteW ib) P (tagJ ks voteW ib j) := ⟨_, rfl⟩
      rw [← hP'] at cA HD'
      unfold Mx.tagV at cS
      unfold tagJ at cA
      simp only at cA
      obtain ⟨mac, hmac⟩ : ∃ z, z = Mx.macOf (ks.getD j ⟨#[]⟩) voteW ib := ⟨_, rfl⟩
      rw [← hmac] at cS cA
      unfold voteW at cS
      clear hmac hP' a1
      go_wp2_with fail
      refine cS.mono ?_
      rintro e w10 ⟨rfl, hb10⟩
      have hbx := belowNew w10 (.cells #[.int .i64 (j : Int), .string mac] 47)
      have hX11 := Arr.new w10 47 [.int .i64 (j : Int), .string mac]
      have hS11 := (hS2.below hb10).below hbx
      have hM11 := (hM2.kept (Below.grown0 hb10) (by simp)).alloc (.cells #[.int .i64 (j : Int), .string mac] 47)
      clear cS hS2 hM2 hb10 hbx
      obtain ⟨w11, hw11⟩ : ∃ z, w10.alloc (.cells #[.int .i64 (j : Int), .string mac] 47) = z := ⟨_, rfl⟩
      rw [hw11] at hX11 hS11 hM11
      have x0 := hX11.cell (i := 0) rfl
      have x1 := hX11.cell (i := 1) rfl
      go_wp2_with fail
      refine (cA _ hS11).mono ?_
      rintro e w12 ⟨rfl, hS12, hk12⟩
      have hM12 := hM11.kept hk12.grown (by simp; exact hmv)
      clear cA hS11 hM11 hk12 hX11 hw11 x0 x1
      have hz0 := zeroBool w12
      cases hin : isIn P j with
      | true =>
        rw [hin] at hat
        simp only [if_true]
        go_wp2_with (first | (at_lookup; refine wpList_lookup_own_bool _ rfl _ _ 58 rfl 3 4 lawInt Tryd.underlying58 Tryd.underlying4 hz0 mb i D rfl hM12 _ _ rfl hkey true hat ?_) | (at_mapUpdate; refine wpList_mapUpdate_own _ rfl _ _ _ 58 rfl 3 4 lawInt Tryd.underlying58 _ mb i _ rfl hM12 (by unfold maxLen; omega) _ _ _ rfl rfl hkey _ [] (plainElem_bool Tryd.underlying4 true) ?_))
        intro w13 hM13 hg13
        have hS13 := hS12.kept (Kept.of_grown hg13) (fun e => hmv (by simpa using e)) (fun k hk => by have hk' : mb = k := by simpa using hk
                                                                                                      omega)
        clear hS12 hM12 hg13 hz0 hat hkey
        go_wp2
        go_roundw
        case rel => exact ⟨i + 1, P', _, by omega, by omega, by go_num, hS13, hM13, HD'.out⟩
        case measure => simp [intOf]; omega
      | false =>
        rw [hin] at hat
        simp only [Bool.false_eq_true, if_false]
        go_wp2_with (first | (at_lookup; refine wpList_lookup_own_bool _ rfl _ _ 58 rfl 3 4 lawInt Tryd.underlying58 Tryd.underlying4 hz0 mb i D rfl hM12 _ _ rfl hkey false hat ?_) | (at_mapUpdate; refine wpList_mapUpdate_own _ rfl _ _ _ 58 rfl 3 4 lawInt Tryd.underlying58 _ mb i _ rfl hM12 (by unfold maxLen; omega) _ _ _ rfl rfl hkey _ [] (plainElem_bool Tryd.underlying4 true) ?_))
        intro w13 hM13 hg13
        have hS13 := hS12.kept (Kept.of_grown hg13) (fun e => hmv (by simpa using e)) (fun k hk => by have hk' : mb = k := by simpa using hk
                                                                                                      omega)
        clear hS12 hM12 hg13 hz0 hat hkey
        go_wp2
        go_roundw
        case rel => exact ⟨i + 1, P', _, by omega, by omega, by go_num, hS13, hM13, HD'.out⟩
        case measure => simp [intOf]; omega
    · have hex : (¬ (i : Int) < (order.length : Int)) ∨ ((i : Int) < (order.length : Int) ∧ ¬ (i : Int) < 30) := by omega
      rcases hex with h1 | ⟨h1, h2⟩
      all_goals
        first | have d1 : decide ((i : Int) < 30) = false := decide_eq_false h2 | have d1 : decide ((i : Int) < (order.length : Int)) = false := decide_eq_false h1
        -- behind the loop
        have hkk := hkl.out
        have hBr := hB7.trans (hS.bel.mono hB7.size)
        have hXr := hX7.below hS.bel (by have := hB7.size; have := hX7.lt; omega)
        have x0 := hXr.cell (i := 0) rfl
        have x1 := hXr.cell (i := 1) rfl
        have x2 := hXr.cell (i := 2) rfl
        have x3 := hXr.cell (i := 3) rfl
        have hden : chkC ks n ⟨x.d, inL P⟩ = if (inL P).length < 2 * n + 1 then 12 else 0 := by
          unfold chkC
          rw [if_neg (by simp only; rw [HC.out]; simp)]
          unfold enV
          simp only
          rw [← hib.out]
          exact enough_places hS.pl
        have hvf : ∀ t ∈ inL P, t.Fit := fun t ht => chkT_fit (hS.pl.mem t ht).2.2 (by omega)
        have hv7 := hS.pl.few
        have hsz := hD.size
        have Hdec : Hid (decC (encC ⟨x.d, inL P⟩) = .ok ⟨x.d, inL P⟩) := by
          have := decC_enc (c := ⟨x.d, inL P⟩) hfit.out (by have := hsmall.out; simp only; omega) hv7 hvf []
          rw [List.append_nil, if_pos rfl] at this
          exact this
        have cT := fun w h => VEnv.tags env (P := P) (w := w) (vb := vb) h
        have cF := fun w h => VEnv.full env (P := P) (w := w) (vb := vb) h
        have hpl := hS.pl
        go_wp2_with fail
        refine (cO _ (hA.below hBr)).mono ?_
        rintro e w10 ⟨u, rfl, hud, hu, huf, hb10⟩
        have hS10 := hS.below hb10
        have hM10 := hM.kept (Below.grown0 hb10) (by simp)
        unfold HdrM.v
        clear cO hS hM hXr x0 x1 x2 x3 hBr hb10 huf
        go_wp2_with fail
        refine (cT _ hS10).mono ?_
        rintro e w11 ⟨va, vc, rfl, hV, hVn, hVf, hb11⟩
        have hS11 := hS10.below hb11
        have hM11 := hM10.kept (Below.grown0 hb11) (by simp)
        have hu11 := hu.below hb11
        obtain ⟨vs, hvs⟩ : ∃ q, q = inL P := ⟨_, rfl⟩
        rw [← hvs] at hV hVf hden hvf hv7 Hdec hsz cF ⊢
        obtain ⟨cc, hcc⟩ : ∃ q : CertM, q = ⟨u, va, vs, vc⟩ := ⟨_, rfl⟩
        have hbx := belowNew w11 (.cells #[.int .i64 u.author, .int .i64 u.round, .slice u.ra u.refs.length u.rc, .slice u.pa u.parents.length u.pc, .slice va vs.length vc] 28)
        have hC12 := Arr.new w11 28 [.int .i64 u.author, .int .i64 u.round, .slice u.ra u.refs.length u.rc, .slice u.pa u.parents.length u.pc, .slice va vs.length vc]
        have hS12 := hS11.below hbx
        have hM12 := hM11.alloc (.cells #[.int .i64 u.author, .int .i64 u.round, .slice u.ra u.refs.length u.rc, .slice u.pa u.parents.length u.pc, .slice va vs.length vc] 28)
        have hc12 : CertM.At _ ⟨u, va, vs, vc⟩ := ⟨hu11.below hbx, hV.below hbx, hVn⟩
        clear hS10 hM10 hu hb11 hS11 hM11 hu11 hbx hV hVn hVf cT
        obtain ⟨w12, hw12⟩ : ∃ q, w11.alloc (.cells #[.int .i64 u.author, .int .i64 u.round, .slice u.ra u.refs.length u.rc, .slice u.pa u.parents.length u.pc, .slice va vs.length vc] 28) = q := ⟨_, rfl⟩
        rw [hw12] at hC12 hS12 hM12 hc12
        have hcd : CertM.d ⟨u, va, vs, vc⟩ = ⟨x.d, vs⟩ := by show (⟨u.d, vs⟩ : CertD) = _; rw [hud]
        have hufit : u.d.Fit := by rw [hud]; exact hfit.out
        have cP := fun w h => own7_any ⟨u, va, vs, vc⟩ w h (fit_lensC hufit) (by show vs.length * 24 ≤ _; omega)
        unfold CertM.v at cP
        simp only at cP
        have x0 := hC12.cell (i := 0) rfl
        have x1 := hC12.cell (i := 1) rfl
        have x2 := hC12.cell (i := 2) rfl
        have x3 := hC12.cell (i := 3) rfl
        have x4 := hC12.cell (i := 4) rfl
        clear hcc
        have Hvs : Hid (vs = inL P) := hvs
        clear hvs
        go_wp2_with fail
        refine (cP _ hc12).mono ?_
        rintro e w13 ⟨q, rfl, hqd, hq, hqf, hb13⟩
        have hS13 := hS12.below hb13
        have hM13 := hM12.kept (Below.grown0 hb13) (by simp)
        have hC13 := hC12.below hb13 hC12.lt
        have hc13 := hc12.below hb13
        have hqd2 : q.d = ⟨x.d, vs⟩ := hqd.trans hcd
        have hqh : q.hdr.d = x.d := congrArg CertD.header hqd2
        have hqv : q.votes = vs := congrArg CertD.votes hqd2
        have hqfit : q.hdr.d.Fit := by rw [hqh]; exact hfit.out
        have cK := certCheck_any tb n ks q w13 (hT7.below hS13.bel) n2 env.k32 hq (fit_lensC hqfit).acks' (fit_lensC hqfit).p' (by rw [hqv]; unfold maxLen; omega) (hdrFit_of hqfit) (by rw [hqh]; have := hsmall.out; omega) (hG7.below hS13.bel)
        rw [hqd2, hden] at cK
        unfold CertM.v at cK ⊢
        clear hS12 hM12 hC12 hc12 hb13 x0 x1 x2 x3 x4 hq hqf hqd hqd2 hqh hqv hqfit
        go_wp2_with fail
        refine cK.mono ?_
        rintro e w14 ⟨rfl, hb14⟩
        have hS14 := hS13.below hb14
        have hM14 := hM13.kept (Below.grown0 hb14) (by simp)
        have hC14 := hC13.below hb14 hC13.lt
        have hc14 := hc13.below hb14
        clear cK hS13 hM13 hC13 hc13 hb14
        have cND := fun w h => Mx.need_any tb n ks w h n2
        obtain ⟨nd, hndd⟩ : ∃ q, Hid (q = 2 * n + 1) := ⟨_, rfl⟩
        simp only [← hndd.out] at cF cND ⊢
        have hwd : ∀ B, (w14.heap.size ≤ B → w14.heap.size ≤ B) := fun _ h => h
        by_cases hcmp : nd ≤ vs.length
        · have hlt' : ¬ vs.length < nd := by omega
          have hde : decide (nd ≤ vs.length) = true := decide_eq_true hcmp
          have hde' : (nd : Int) ≤ (vs.length : Int) := by omega
          simp only [hde] at cF
          rw [if_neg hlt']
          go_wp2_with fail
          refine (cF _ hS14).mono ?_
          rintro e w15 ⟨rfl, hb15⟩
          have hS15 := hS14.below hb15
          have hM15 := hM14.kept (Below.grown0 hb15) (by simp)
          have hC15 := hC14.below hb15 hC14.lt
          have hc15 := hc14.below hb15
          clear hS14 hM14 hC14 hc14 hb15
          go_wp2_with fail
          refine (cF _ hS15).mono ?_
          rintro e w16 ⟨rfl, hb16⟩
          have hS16 := hS15.below hb16
          have hM16 := hM15.kept (Below.grown0 hb16) (by simp)
          have hC16 := hC15.below hb16 hC15.lt
          have hc16 := hc15.below hb16
          have hlen := hM16.len Tryd.underlying58 3
          rw [hsz] at hlen
          clear hS15 hM15 hC15 hc15 hb16
          go_wp2_with fail
          refine (cND _ (hT7.below hS16.bel)).mono ?_
          rintro e w16' ⟨rfl, rfl⟩
          go_wp2_with fail
          refine (cF _ hS16).mono ?_
          rintro e w17 ⟨rfl, hb17⟩
          have hS17 := hS16.below hb17
          have hC17 := hC16.below hb17 hC16.lt
          have hc17 := hc16.below hb17
          clear hS16 hM16 hC16 hc16 hb17 hlen cF cND
          have y0 := hC17.cell (i := 0) rfl
          have y1 := hC17.cell (i := 1) rfl
          have y2 := hC17.cell (i := 2) rfl
          have y3 := hC17.cell (i := 3) rfl
          have y4 := hC17.cell (i := 4) rfl
          go_wp2_with fail
          refine (cP _ hc17).mono ?_
          rintro e w18 ⟨q, rfl, hqd, hq, hqf, hb18⟩
          have hS18 := hS17.below hb18
          have hC18 := hC17.below hb18 hC17.lt
          have hc18 := hc17.below hb18
          have hqd2 : q.d = ⟨x.d, vs⟩ := hqd.trans hcd
          have hqh : q.hdr.d = x.d := congrArg CertD.header hqd2
          have hqv : q.votes = vs := congrArg CertD.votes hqd2
          have cE := certEncode_any q w18 hq (certFit_ofC (by rw [hqh]; exact hfit.out) (by rw [hqv]; exact hv7) (by rw [hqv]; exact hvf))
          rw [hqd2] at cE
          obtain ⟨eb, heb⟩ : ∃ q, q = (⟨(encC ⟨x.d, vs⟩).toArray⟩ : ByteArray) := ⟨_, rfl⟩
          have hes : eb.size ≤ maxLen := by
            rw [heb, size_mk]
            have h1 := hsmall.out
            have h2 := tagsB_fitC hvf hv7
            have h3 := txt_len_le (encH x.d)
            show (txt (encH x.d) ++ tagsB vs).length ≤ maxLen
            rw [List.length_append]
            unfold maxLen
            omega
          have cD := fun w => certDecode_any eb w hes
          have hebl : eb.data.toList = encC ⟨x.d, vs⟩ := by rw [heb]
          rw [hebl, Hdec.out] at cD
          rw [← heb] at cE
          unfold CertM.v at cE ⊢
          clear heb hes hebl hS17 hC17 hc17 hb18 y0 y1 y2 y3 y4 hq hqf hqd hqd2 hqh hqv
          go_wp2_with fail
          refine cE.mono ?_
          rintro e w19 ⟨rfl, hb19⟩
          have hS19 := hS18.below hb19
          have hC19 := hC18.below hb19 hC18.lt
          have hc19 := hc18.below hb19
          clear cE hS18 hC18 hc18 hb19
          go_wp2_with fail
          refine (cD _).mono ?_
          rintro e w20 ⟨z, er, rfl, hz, hres, hzf, hb20⟩
          obtain ⟨rfl, hzd⟩ : er = 0 ∧ z.d = ⟨x.d, vs⟩ := by
            rcases hres with ⟨h1, h2⟩ | ⟨h1, h2, _⟩
            · simp only [Except.ok.injEq] at h2
              exact ⟨h1, h2.symm⟩
            · cases h2
          have hS20 := hS19.below hb20
          have hC20 := hC19.below hb20 hC19.lt
          have hc20 := hc19.below hb20
          have hbx := belowNew w20 (.cells z.c.toArray 28)
          have hZ21 : Arr _ w20.heap.size 28 [.int .i64 z.hdr.author, .int .i64 z.hdr.round, .slice z.hdr.ra z.hdr.refs.length z.hdr.rc, .slice z.hdr.pa z.hdr.parents.length z.hdr.pc, .slice z.va z.votes.length z.vc] := Arr.new w20 28 z.c
          have hS21 := hS20.below hbx
          have hC21 := hC20.below hbx hC20.lt
          have hc21 := hc20.below hbx
          have hz21 := hz.below hbx
          have hzh : z.hdr.d = x.d := congrArg CertD.header hzd
          have hzv : z.votes = vs := congrArg CertD.votes hzd
          have hzl := fit_lens (x := z.hdr) (by rw [hzh]; exact hfit.out)
          have cZ := sameC_any z ⟨u, va, vs, vc⟩ _ hz21 hc21 (hzd.trans hcd.symm) (by omega) (by omega) (fun r hr => by have := hzl.2.2 r hr; omega) (by rw [hzv]; omega)
          unfold CertM.v at cZ ⊢
          unfold CertM.c at cZ hZ21 hS21 hC21
          clear cD hres hzf hb20 hS19 hC19 hc19 hbx hS20 hC20 hc20 hz hz21 hc21 hzh hzv hzl hzd
          have y0 := hC21.cell (i := 0) rfl
          have y1 := hC21.cell (i := 1) rfl
          have y2 := hC21.cell (i := 2) rfl
          have y3 := hC21.cell (i := 3) rfl
          have y4 := hC21.cell (i := 4) rfl
          have z0 := hZ21.cell (i := 0) rfl
          have z1 := hZ21.cell (i := 1) rfl
          have z2 := hZ21.cell (i := 2) rfl
          have z3 := hZ21.cell (i := 3) rfl
          have z4 := hZ21.cell (i := 4) rfl
          have hB21 := hB7.trans (hS21.bel.mono hB7.size)
          go_wp2_with fail
          refine cZ.mono ?_
          rintro e w22 ⟨rfl, hb22⟩
          have hBF := hB21.trans (hb22.mono hB21.size)
          clear cZ hZ21 hC21 hS21 hb22 hB21 y0 y1 y2 y3 y4 z0 z1 z2 z3 z4
          go_wp2
          go_ret
          exact ⟨rfl, hBF⟩
        · have hlt' : vs.length < nd := by omega
          have hde : decide (nd ≤ vs.length) = false := decide_eq_false hcmp
          have hde' : ¬ (nd : Int) ≤ (vs.length : Int) := by omega
          simp only [hde] at cF
          rw [if_pos hlt']
          go_wp2_with fail
          refine (cF _ hS14).mono ?_
          rintro e w15 ⟨rfl, hb15⟩
          have hS15 := hS14.below hb15
          have hM15 := hM14.kept (Below.grown0 hb15) (by simp)
          have hC15 := hC14.below hb15 hC14.lt
          have hc15 := hc14.below hb15
          clear hS14 hM14 hC14 hc14 hb15
          go_wp2_with fail
          refine (cF _ hS15).mono ?_
          rintro e w16 ⟨rfl, hb16⟩
          have hS16 := hS15.below hb16
          have hM16 := hM15.kept (Below.grown0 hb16) (by simp)
          have hC16 := hC15.below hb16 hC15.lt
          have hc16 := hc15.below hb16
          have hlen := hM16.len Tryd.underlying58 3
          rw [hsz] at hlen
          clear hS15 hM15 hC15 hc15 hb16
          go_wp2_with fail
          refine (cND _ (hT7.below hS16.bel)).mono ?_
          rintro e w16' ⟨rfl, rfl⟩
          go_wp2_with fail
          refine (cF _ hS16).mono ?_
          rintro e w17 ⟨rfl, hb17⟩
          have hS17 := hS16.below hb17
          have hC17 := hC16.below hb17 hC16.lt
          have hc17 := hc16.below hb17
          clear hS16 hM16 hC16 hc16 hb17 hlen cF cND
          have y0 := hC17.cell (i := 0) rfl
          have y1 := hC17.cell (i := 1) rfl
          have y2 := hC17.cell (i := 2) rfl
          have y3 := hC17.cell (i := 3) rfl
          have y4 := hC17.cell (i := 4) rfl
          go_wp2_with fail
          refine (cP _ hc17).mono ?_
          rintro e w18 ⟨q, rfl, hqd, hq, hqf, hb18⟩
          have hS18 := hS17.below hb18
          have hC18 := hC17.below hb18 hC17.lt
          have hc18 := hc17.below hb18
          have hqd2 : q.d = ⟨x.d, vs⟩ := hqd.trans hcd
          have hqh : q.hdr.d = x.d := congrArg CertD.header hqd2
          have hqv : q.votes = vs := congrArg CertD.votes hqd2
          have cE := certEncode_any q w18 hq (certFit_ofC (by rw [hqh]; exact hfit.out) (by rw [hqv]; exact hv7) (by rw [hqv]; exact hvf))
          rw [hqd2] at cE
          obtain ⟨eb, heb⟩ : ∃ q, q = (⟨(encC ⟨x.d, vs⟩).toArray⟩ : ByteArray) := ⟨_, rfl⟩
          have hes : eb.size ≤ maxLen := by
            rw [heb, size_mk]
            have h1 := hsmall.out
            have h2 := tagsB_fitC hvf hv7
            have h3 := txt_len_le (encH x.d)
            show (txt (encH x.d) ++ tagsB vs).length ≤ maxLen
            rw [List.length_append]
            unfold maxLen
            omega
          have cD := fun w => certDecode_any eb w hes
          have hebl : eb.data.toList = encC ⟨x.d, vs⟩ := by rw [heb]
          rw [hebl, Hdec.out] at cD
          rw [← heb] at cE
          unfold CertM.v at cE ⊢
          clear heb hes hebl hS17 hC17 hc17 hb18 y0 y1 y2 y3 y4 hq hqf hqd hqd2 hqh hqv
          go_wp2_with fail
          refine cE.mono ?_
          rintro e w19 ⟨rfl, hb19⟩
          have hS19 := hS18.below hb19
          have hC19 := hC18.below hb19 hC18.lt
          have hc19 := hc18.below hb19
          clear cE hS18 hC18 hc18 hb19
          go_wp2_with fail
          refine (cD _).mono ?_
          rintro e w20 ⟨z, er, rfl, hz, hres, hzf, hb20⟩
          obtain ⟨rfl, hzd⟩ : er = 0 ∧ z.d = ⟨x.d, vs⟩ := by
            rcases hres with ⟨h1, h2⟩ | ⟨h1, h2, _⟩
            · simp only [Except.ok.injEq] at h2
              exact ⟨h1, h2.symm⟩
            · cases h2
          have hS20 := hS19.below hb20
          have hC20 := hC19.below hb20 hC19.lt
          have hc20 := hc19.below hb20
          have hbx := belowNew w20 (.cells z.c.toArray 28)
          have hZ21 : Arr _ w20.heap.size 28 [.int .i64 z.hdr.author, .int .i64 z.hdr.round, .slice z.hdr.ra z.hdr.refs.length z.hdr.rc, .slice z.hdr.pa z.hdr.parents.length z.hdr.pc, .slice z.va z.votes.length z.vc] := Arr.new w20 28 z.c
          have hS21 := hS20.below hbx
          have hC21 := hC20.below hbx hC20.lt
          have hc21 := hc20.below hbx
          have hz21 := hz.below hbx
          have hzh : z.hdr.d = x.d := congrArg CertD.header hzd
          have hzv : z.votes = vs := congrArg CertD.votes hzd
          have hzl := fit_lens (x := z.hdr) (by rw [hzh]; exact hfit.out)
          have cZ := sameC_any z ⟨u, va, vs, vc⟩ _ hz21 hc21 (hzd.trans hcd.symm) (by omega) (by omega) (fun r hr => by have := hzl.2.2 r hr; omega) (by rw [hzv]; omega)
          unfold CertM.v at cZ ⊢
          unfold CertM.c at cZ hZ21 hS21 hC21
          clear cD hres hzf hb20 hS19 hC19 hc19 hbx hS20 hC20 hc20 hz hz21 hc21 hzh hzv hzl hzd
          have y0 := hC21.cell (i := 0) rfl
          have y1 := hC21.cell (i := 1) rfl
          have y2 := hC21.cell (i := 2) rfl
          have y3 := hC21.cell (i := 3) rfl
          have y4 := hC21.cell (i := 4) rfl
          have z0 := hZ21.cell (i := 0) rfl
          have z1 := hZ21.cell (i := 1) rfl
          have z2 := hZ21.cell (i := 2) rfl
          have z3 := hZ21.cell (i := 3) rfl
          have z4 := hZ21.cell (i := 4) rfl
          have hB21 := hB7.trans (hS21.bel.mono hB7.size)
          go_wp2_with fail
          refine cZ.mono ?_
          rintro e w22 ⟨rfl, hb22⟩
          have hBF := hB21.trans (hb22.mono hB21.size)
          clear cZ hZ21 hC21 hS21 hb22 hB21 y0 y1 y2 y3 y4 z0 z1 z2 z3 z4
          go_wp2
          go_ret
          exact ⟨rfl, hBF⟩
end Go.Proofs.YtjebfkgigijnhaaDoor

/- How a header that came in is opened; its sizes. -/
namespace Go.Proofs.YtjebfkgigijnhaaDoor
open Go.ChangeShapes Go.WideShapes Go.ChangeAt Go.RowKit Go.Joins Go.Deep
set_option linter.unusedVariables false

instance : Inhabited ByteArray := ⟨⟨#[]⟩⟩

/-- How a Ref reads. -/
def RefQ {H : Type} (d : DataW H) (r : RefM) : Prop := ∃ y0 y1, d = .agg [y0, y1] ∧ StrQ y0 r.digest ∧ RowD TagQ y1 r.acks

theorem cellsRef6 : Tryd.prog.cellsOf 73 = 2 := by kernel_rfl
theorem cellsHdr6 : Tryd.prog.cellsOf 25 = 4 := by kernel_rfl
theorem cellsTags6 : Tryd.prog.cellsOf 26 = 1 := by kernel_rfl
theorem cellsRefs6 : Tryd.prog.cellsOf 22 = 1 := by kernel_rfl
theorem cellsStrs6 : Tryd.prog.cellsOf 23 = 1 := by kernel_rfl
theorem bytesRef6 : Tryd.prog.bytesOf 73 = 40 := by kernel_rfl
theorem bytesTag6 : Tryd.prog.bytesOf 47 = 24 := by kernel_rfl
theorem bytesStr6 : Tryd.prog.bytesOf 9 = 16 := by kernel_rfl

set_option maxRecDepth 100000 in
theorem open_ref_cells {H : Type} {enc : TypeId × Value → H} {W : World} {fuel : Nat} {cs : List Value} {y : DataW H × List MemPlace}
    (hf : DataW.trod enc Tryd.prog W 0 (fun _ => true) true fuel 73 cs = some y) : ∃ r : RefM, cs = refK.c r ∧ refK.At W r ∧ RefQ y.1 r := by
  obtain ⟨xs, n, _, hx, hcl, hl, hg⟩ := DataW.trod_struct Tryd.underlying73 hf
  obtain ⟨c0, c1, rfl⟩ := list2x (hcl.trans cellsRef6)
  obtain ⟨y0, y1, rfl⟩ := list2x hl
  have g0 := hg 0 _ rfl
  have g1 := hg 1 _ rfl
  simp [cellsTags6, cellsStr6] at g0 g1
  obtain ⟨a0, e0, hy0, s0⟩ := DataW.trod_string Tryd.underlying9 g0
  obtain ⟨ao, len, cap, e1⟩ := slice_form Tryd.underlying26 g1
  simp at e0 e1
  subst e0 e1
  obtain ⟨l, rfl, l1, l2, l3, l4⟩ := open_tagsK g1
  refine ⟨⟨a0, l, ao, cap⟩, rfl, ⟨l1, l2⟩, y0.1, y1.1, ?_, ⟨by rw [hy0], s0⟩, l4⟩
  have := congrArg Prod.fst hx
  simpa using this

set_option maxRecDepth 100000 in
theorem open_str_cells {H : Type} {enc : TypeId × Value → H} {W : World} {fuel : Nat} {cs : List Value} {y : DataW H × List MemPlace}
    (hf : DataW.trod enc Tryd.prog W 0 (fun _ => true) true fuel 9 cs = some y) : ∃ s : ByteArray, cs = strK.c s ∧ strK.At W s ∧ StrQ y.1 s := by
  obtain ⟨a0, e0, hy0, s0⟩ := DataW.trod_string Tryd.underlying9 hf
  exact ⟨a0, e0, trivial, by rw [hy0], s0⟩

/-- How a header reads. -/
def HdrQ {H : Type} (d : DataW H) (x : HdrM) : Prop := ∃ y0 y1 y2 y3, d = .agg [y0, y1, y2, y3] ∧ RowD RefQ y2 x.refs ∧ RowD StrQ y3 x.parents

set_option maxRecDepth 100000 in
theorem open_hdr_cells {H : Type} {enc : TypeId × Value → H} {W : World} {fuel : Nat} {cs : List Value} {y : DataW H × List MemPlace}
    (hf : DataW.trod enc Tryd.prog W 0 (fun _ => true) true fuel 25 cs = some y) : ∃ x : HdrM, cs = hdrK.c x ∧ hdrK.At W x ∧ HdrQ y.1 x := by
  obtain ⟨xs, n, _, hx, hcl, hl, hg⟩ := DataW.trod_struct Tryd.underlying25 hf
  obtain ⟨c0, c1, c2, c3, rfl⟩ := list4x (hcl.trans cellsHdr6)
  obtain ⟨y0, y1, y2, y3, rfl⟩ := list4x hl
  have g0 := hg 0 _ rfl
  have g1 := hg 1 _ rfl
  have g2 := hg 2 _ rfl
  have g3 := hg 3 _ rfl
  simp [cellsInt6, cellsRefs6, cellsStrs6] at g0 g1 g2 g3
  obtain ⟨a0, e0, _, _⟩ := DataW.trod_int Tryd.underlying3 g0
  obtain ⟨a1, e1, _, _⟩ := DataW.trod_int Tryd.underlying3 g1
  obtain ⟨ra, rlen, rc, e2⟩ := slice_form Tryd.underlying22 g2
  obtain ⟨pa, plen, pc, e3⟩ := slice_form Tryd.underlying23 g3
  simp at e0 e1 e2 e3
  subst e0 e1 e2 e3
  obtain ⟨rs, rfl, r1, r2, r3, r4⟩ := open_row refK RefQ Tryd.underlying22 cellsRef6 open_ref_cells g2
  obtain ⟨ps, rfl, p1, p2, p3, p4⟩ := open_row strK StrQ Tryd.underlying23 cellsStr6 open_str_cells g3
  refine ⟨⟨a0, a1, ra, rs, rc, pa, ps, pc⟩, rfl, ⟨r1, r2, p1, p2⟩, y0.1, y1.1, y2.1, y3.1, ?_, r4, p4⟩
  have := congrArg Prod.fst hx
  simpa using this

set_option maxRecDepth 100000 in
theorem open_hdr {H : Type} {enc : TypeId × Value → H} {W : World} {r : Reach} {b0 : Nat} {v : Value} {d : DataW H} {p : List MemPlace} (hv : Value.okWide Tryd.prog W r b0 25 v)
    (h : DataW.Trod enc Tryd.prog W 0 (fun _ => true) true 25 v d p) : ∃ x : HdrM, v = x.v ∧ x.At W ∧ HdrQ d x := by
  obtain ⟨cs, rfl, hsz⟩ := okWide_struct Tryd.underlying25 hv
  obtain ⟨fuel, hf⟩ := h
  have hc : (Value.agg cs).cells.toList = cs.toList := by simp [Value.cells]
  obtain ⟨x, e, hx, hq⟩ := open_hdr_cells hf
  refine ⟨x, ?_, hx, hq⟩
  have e' : cs.toList = x.c := by rw [← hc]; exact e
  have : cs = x.c.toArray := by rw [← e']
  rw [this]
  rfl

set_option maxRecDepth 100000 in
theorem ref_acks_fit {H : Type} {y : DataW H} {r : RefM} (h : RefQ y r) (hw : ∀ n ∈ y.weights Tryd.prog 73, n ≤ reachBytes) : r.acks.length * 24 ≤ 140737488351232 := by
  obtain ⟨y0, y1, rfl, _, h1⟩ := h
  have := (h1.fit Tryd.underlying26 (fun n hn => hw n (by
    rw [DataW.weights, Tryd.underlying73]
    exact DataW.weights_mem_each (ts := [9, 26]) (j := 1) rfl rfl n hn))).1
  rw [bytesTag6] at this
  simpa [reachBytes] using this

set_option maxRecDepth 100000 in
theorem hdr_fit {H : Type} {d : DataW H} {x : HdrM} (h : HdrQ d x) (hw : ∀ n ∈ d.weights Tryd.prog 25, n ≤ reachBytes) : x.Lens := by
  obtain ⟨y0, y1, y2, y3, rfl, h2, h3⟩ := h
  obtain ⟨f1, f2⟩ := h2.fit Tryd.underlying22 (fun n hn => hw n (by
    rw [DataW.weights, Tryd.underlying25]
    exact DataW.weights_mem_each (ts := [3, 3, 22, 23]) (j := 2) rfl rfl n hn))
  obtain ⟨g1, _⟩ := h3.fit Tryd.underlying23 (fun n hn => hw n (by
    rw [DataW.weights, Tryd.underlying25]
    exact DataW.weights_mem_each (ts := [3, 3, 22, 23]) (j := 3) rfl rfl n hn))
  rw [bytesRef6] at f1
  rw [bytesStr6] at g1
  refine ⟨by simpa [reachBytes] using f1, by simpa [reachBytes] using g1, fun r hr => ?_⟩
  obtain ⟨y, hy, hyw⟩ := f2 r hr
  exact ref_acks_fit hy hyw

/-- A header that came in: in sizes that a machine holds. -/
theorem hdr_sized {H : Type} {ts : List TypeId} {ds : List (DataW H)} (h : (DataW.weightsEach Tryd.prog ts ds).all (· ≤ reachBytes) = true) {j : Nat} {d : DataW H} {x : HdrM} (ht : ts[j]? = some 25) (hd : ds[j]? = some d) (hs : HdrQ d x) : x.Lens := hdr_fit hs (weights_of h ht hd)
end Go.Proofs.YtjebfkgigijnhaaDoor

/- How a row of numbers that came in is opened. -/
namespace Go.Proofs.YtjebfkgigijnhaaDoor
open Go.ChangeShapes Go.WideShapes Go.ChangeAt Go.RowKit Go.Joins Go.Deep
set_option linter.unusedVariables false

theorem cellsInt7 : Tryd.prog.cellsOf 3 = 1 := by kernel_rfl

/-- How a number reads. -/
def IntQ {H : Type} (d : DataW H) (v : Int) : Prop := True

set_option maxRecDepth 100000 in
theorem open_int_cells7 {H : Type} {enc : TypeId × Value → H} {W : World} {fuel : Nat} {cs : List Value} {y : DataW H × List MemPlace}
    (hf : DataW.trod enc Tryd.prog W 0 (fun _ => true) true fuel 3 cs = some y) : ∃ v : Int, cs = intK.c v ∧ intK.At W v ∧ IntQ y.1 v := by
  obtain ⟨a0, e0, _, _⟩ := DataW.trod_int Tryd.underlying3 hf
  exact ⟨a0, e0, trivial, trivial⟩

theorem open_intsK {H : Type} {enc : TypeId × Value → H} {W : World} {a : Option Addr} {len cap : Nat} {d : DataW H} {p : List MemPlace}
    (h : DataW.Trod enc Tryd.prog W 0 (fun _ => true) true 54 (.slice a len cap) d p) :
    ∃ l : List Int, l.length = len ∧ RowAt intK W a l ∧ len ≤ maxLen := by
  obtain ⟨fuel, hf⟩ := h
  obtain ⟨l, h1, h2, _, h4, _⟩ := open_row intK IntQ Tryd.underlying54 cellsInt7 open_int_cells7 hf
  exact ⟨l, h1, h2, h4⟩
end Go.Proofs.YtjebfkgigijnhaaDoor

/- CertMade: for every input the statement answers true, and each argument reads afterwards as it read before. Condition: the two tables of package mix read as the program's text lays them; no other. -/
namespace Go.Proofs.YtjebfkgigijnhaaDoor
open Go.ChangeShapes Go.WideShapes Go.ChangeAt Go.RowKit
open Go.ChangeMaps (open_string shut_string)
set_option linter.unusedVariables false

set_option maxRecDepth 100000 in
theorem certMade_lifted (os : Os) (started : os.Started) (H : Type) (enc : TypeId × Value → H) :
    ReturnsInHanded {} Tryd.checked os 5 .any (fun w args => (Rows.certMadeSpec.pre enc Tryd.prog Tryd.f5 [] false w args ∧ laidMetH Tryd.prog Mx.laid2 w) ∧ sizedMet enc Tryd.prog Tryd.f5 (OpenSpec.ofChange Rows.certMadeSpec) false w args)
      (Rows.certMadeSpec.post enc Tryd.prog Tryd.f5 false true false false) := by
  refine returnsInHanded_of_change_and (C := Tryd.checked) (X := fun w _ => laidMetH Tryd.prog Mx.laid2 w) (fun _ _ _ hh h => h.of_heap hh) ownKnob_none started (by kernel_rfl) Tryd.func5
    (ChangeSpec.witness_shaped (enc := enc) (C := Tryd.checked) (os := os) (X := fun w _ => laidMetH Tryd.prog Mx.laid2 w) false (World.doorLaid Tryd.prog 400 os) #[.int .i64 0, .agg #[.int .i64 0, .int .i64 0, .slice none 0 0, .slice none 0 0], .slice none 0 0] 8 rfl (World.shaped_of_RefB (by kernel_rfl) (by kernel_rfl)) (by kernel_rfl) (by kernel_rfl) (by kernel_rfl) (Mx.door_met os _)) ?_
  intro W base args ds gs before hval0 hW hcnd hsz0 hL _
  have hval : ∀ (j : Nat) t v, Tryd.f5.params[j]? = some t → args[j]? = some v → Value.okWide Tryd.prog W .any base t v := hval0
  have hsz : (DataW.weightsEach Tryd.prog (Tryd.f5.params.toList ++ Rows.certMadeSpec.plain.varTypes Tryd.prog) (ds ++ gs)).all (· ≤ reachBytes) = true := hsz0
  have hW' := hW
  obtain ⟨p, q, hA0, hV, rfl, hfz, hnd⟩ := hW
  have hA : DataW.TrodAll enc Tryd.prog W 0 (fun _ => true) true Tryd.f5.params.toList args.toList ds p := hA0
  rw [Tryd.params5] at hA hval hsz
  obtain ⟨v0, vs0, d0, ds0, p0, q0, hargs, rfl, rfl, h0, r0⟩ := trodAll_cons hA
  obtain ⟨v1, vs1, d1, ds1, p1, q1, rfl, rfl, rfl, h1, r1⟩ := trodAll_cons r0
  obtain ⟨v2, vs2, d2, ds2, p2, q2, rfl, rfl, rfl, h2, r2⟩ := trodAll_cons r1
  obtain ⟨rfl, rfl, rfl⟩ := trodAll_nil r2
  obtain rfl : args = #[v0, v1, v2] := by cases args; simp_all
  obtain ⟨rfl, rfl⟩ := trodVars_none hV
  have k0 := h0
  have lt0 : ∀ x ∈ p0, x.block < W.heap.size := by obtain ⟨m, hm⟩ := k0; exact DataW.trod_lt m _ _ _ hm
  obtain ⟨a0, rfl, hd0, hp0, w0⟩ := open_int Tryd.underlying3 (hval 0 3 v0 rfl rfl) h0
  have k1 := h1
  have lt1 : ∀ x ∈ p1, x.block < W.heap.size := by obtain ⟨m, hm⟩ := k1; exact DataW.trod_lt m _ _ _ hm
  obtain ⟨x1, rfl, at1, qd1⟩ := open_hdr (hval 1 25 v1 rfl rfl) h1
  have sl1 := hdr_sized hsz (j := 1) rfl rfl qd1
  have k2 := h2
  have lt2 : ∀ x ∈ p2, x.block < W.heap.size := by obtain ⟨m, hm⟩ := k2; exact DataW.trod_lt m _ _ _ hm
  obtain ⟨a2, len2, cap2, rfl⟩ := okWide_slice Tryd.underlying54 (hval 2 54 v2 rfl rfl)
  obtain ⟨l2, rfl, st2, sm2⟩ := open_intsK h2
  clear hA0 hval0 hsz0
  refine (certMade_walk a0 x1 a2 cap2 l2 W w0 at1 sl1 st2 sm2 (Mx.of_laid hL)).mono fun e W' ⟨he, bel⟩ => ?_
  subst he
  exact ⟨_, rfl, _, _, _, [], _, [], hW', trodAll_mk1 (shut_bool Tryd.underlying4 _), (trodAll_cons_mk (Below.trod laidOut_true (by kernel_rfl) (of_decide_eq_true (by kernel_rfl)) k0 bel lt0) (trodAll_cons_mk (Below.trod laidOut_true (by kernel_rfl) (of_decide_eq_true (by kernel_rfl)) k1 bel lt1) (trodAll_cons_mk (Below.trod laidOut_true (by kernel_rfl) (of_decide_eq_true (by kernel_rfl)) k2 bel lt2) trodAll_mk0))), rfl, bel.frame _, fun h => by cases h⟩

theorem certMade_holds : Rows.CertMadeSaid :=
  OpenClaim.holds_of_wide 5 Tryd.f5 rfl rfl rfl rfl rfl rfl rfl ⟨rfl, rfl, rfl, rfl, rfl⟩ rfl rfl rfl rfl rfl (by kernel_rfl) Tryd.func5 (by kernel_rfl)
    (of_decide_eq_true (by kernel_rfl)) (by unfold Func.isWrapper; rw [if_neg (of_decide_eq_false (by kernel_rfl))]; exact ⟨rfl, rfl⟩)
    (fun os started H enc _ => certMade_lifted os started H enc)

theorem certMade_card : Rows.CertMadeCardSaid :=
  Claim7.holds_tied_plain_at .later [] [.data, .data] true (true, "9bc01858be54a6f7b88abffa2cc2f115ecc2b533579eb6ab191bef2d768c1a51") false
    certMade_holds (fun _ h => by cases h) (by kernel_rfl) (fun _ h => by cases h) certMade_row_tie rfl ⟨rfl, rfl⟩ (by kernel_rfl) rfl
    (fun f fn hf hfn => by
      obtain rfl : f = 5 := Option.some.inj ((show Tryd.prog.funcNamed "tusk/tusklaw07.CertMade" = some 5 by kernel_rfl).symm.trans hf) |>.symm
      obtain rfl : fn = Tryd.f5 := (Option.some.inj (Tryd.func5.symm.trans hfn)).symm
      exact ⟨by kernel_rfl, fun j t ht => by
        rw [Tryd.params5] at ht
        have hall : ∀ t ∈ (#[3, 25, 54] : Array TypeId).toList, Tryd.prog.wantsStandIn t = false := by
          show ∀ t ∈ ([3, 25, 54] : List TypeId), Tryd.prog.wantsStandIn t = false
          refine List.forall_mem_cons.2 ⟨by kernel_rfl, ?_⟩
          refine List.forall_mem_cons.2 ⟨by kernel_rfl, ?_⟩
          refine List.forall_mem_cons.2 ⟨by kernel_rfl, ?_⟩
          exact fun _ h => by cases h
        exact hall t (Array.mem_toList_iff.2 (Array.mem_of_getElem? ht))⟩)
    (by kernel_rfl)
end Go.Proofs.YtjebfkgigijnhaaDoor
