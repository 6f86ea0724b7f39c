/- Texts as one: ExeWalk, ExePerm, ExeSwap, RegionLate, IntsOpen. -/
import Derived.Test.YtajpfkenhchafaaDoorEd15
import Derived.Test.YtajpfkenhchafaaDoorEd18
import Derived.Deep.DeepCutAuto
import Derived.Deep.CutBlock
import Derived.Test.YtajpfkenhchafaaDoorEd03
import Derived.Test.YtajpfkenhchafaaDoorEd08
import Derived.Test.YtajpfkenhchafaaDoorEd09
import Derived.Deep.RegionHeld
import Derived.StillTail
import Derived.Test.YtajpfkenhchafaaDoorEd07
/- What the walks of layer 23 share. -/
namespace Go.Proofs.YtajpfkenhchafaaDoor
open Go Go.RowKit
set_option linter.unusedVariables false

theorem sumR_le {l : List TRow} (i : Nat) : sumR (l.take i) ≤ sumR l := by
  have h : sumR l = sumR (l.take i) + sumR (l.drop i) := by
    unfold sumR
    rw [← List.sum_append, ← List.map_append, List.take_append_drop]
  omega

/-- A row of the call's own, as one that is run. -/
theorem own_rows {W w : World} {lo ao : Option Addr} {l m : List TxM} {B cap : Nat} (h : RowsM W lo l) (hm : KQ txK 50 w B (.slice ao m.length cap) m) (hf : ∀ y ∈ m, ∀ b, txK.foot y b → B ≤ b) (hd : m.map TxM.d = l.map TxM.d) :
    RowsM w ao m ∧ m.length = l.length ∧ ∀ b, rowFoot txK ao m b → B ≤ b := by
  obtain ⟨h1, h2⟩ := rows_same h hd
  exact ⟨⟨hm.rowOf.1, by rw [h1]; exact h.len, h2⟩, h1, hm.foot_ge (Nat.le_refl _) (fun y hy b hb => hf y hy b hb)⟩
end Go.Proofs.YtajpfkenhchafaaDoor

/- A plan whose waves are turned within themselves is right too. -/
namespace Go.Proofs.YtajpfkenhchafaaDoor
open Go
set_option linter.unusedVariables false

/-- The same rows, each in whatever order. -/
def RowsPerm : List (List Nat) → List (List Nat) → Prop
  | [], [] => True
  | q :: P, r :: R => q.Perm r ∧ RowsPerm P R
  | _, _ => False

theorem RowsPerm.refl : ∀ P : List (List Nat), RowsPerm P P
  | [] => trivial
  | q :: P => ⟨List.Perm.refl _, RowsPerm.refl P⟩

theorem RowsPerm.len : ∀ {P R : List (List Nat)}, RowsPerm P R → P.length = R.length
  | [], [], _ => rfl
  | q :: P, r :: R, h => by rw [List.length_cons, List.length_cons, RowsPerm.len h.2]
  | [], _ :: _, h => h.elim
  | _ :: _, [], h => h.elim

theorem RowsPerm.get : ∀ {P R : List (List Nat)} {k : Nat} {q : List Nat}, RowsPerm P R → P[k]? = some q → ∃ r, R[k]? = some r ∧ q.Perm r
  | [], _, _, _, _, h => by simp at h
  | p :: P, r :: R, 0, q, h, e => by
    obtain rfl : p = q := by simpa using e
    exact ⟨r, rfl, h.1⟩
  | p :: P, r :: R, k + 1, q, h, e => RowsPerm.get (P := P) (R := R) h.2 (by simpa using e)
  | _ :: _, [], _, _, h, _ => h.elim

theorem RowsPerm.set : ∀ {P R : List (List Nat)} {k : Nat} {q q' : List Nat}, RowsPerm P R → P[k]? = some q → q'.Perm q → RowsPerm (P.set k q') R
  | [], _, _, _, _, _, h, _ => by simp at h
  | p :: P, r :: R, 0, q, q', h, e, hq => by
    obtain rfl : p = q := by simpa using e
    exact ⟨hq.trans h.1, h.2⟩
  | p :: P, r :: R, k + 1, q, q', h, e, hq => ⟨h.1, RowsPerm.set (P := P) (R := R) h.2 (by simpa using e) hq⟩
  | _ :: _, [], _, _, _, h, _, _ => h.elim

theorem RowsPerm.flat : ∀ {P R : List (List Nat)}, RowsPerm P R → P.flatten.Perm R.flatten
  | [], [], _ => List.Perm.refl _
  | q :: P, r :: R, h => by
    rw [List.flatten_cons, List.flatten_cons]
    exact h.1.append (RowsPerm.flat h.2)
  | [], _ :: _, h => h.elim
  | _ :: _, [], h => h.elim

/-- Two of a row change their places. -/
def swapL (q : List Nat) (a b : Nat) : List Nat := (q.set a (q.getD b 0)).set b (q.getD a 0)

theorem swapL_length (q : List Nat) (a b : Nat) : (swapL q a b).length = q.length := by unfold swapL; rw [List.length_set, List.length_set]

theorem getD_at {q : List Nat} {a : Nat} (h : a < q.length) : q.getD a 0 = q[a] := by
  rw [List.getD_eq_getElem?_getD, List.getElem?_eq_getElem h]
  rfl

theorem swapL_perm {q : List Nat} {a b : Nat} (ha : a < q.length) (hb : b < q.length) : (swapL q a b).Perm q := by
  unfold swapL
  rw [getD_at ha, getD_at hb]
  exact List.set_set_perm ha hb

/-- It is right. -/
theorem chk_perm {l : List RwD} {P : List (List Nat)} (h : RowsPerm P (planN l l.length)) : chkN l (planI P) = 0 := by
  have hf := h.flat
  obtain ⟨m, h1, h2, h3, _⟩ := markP_ok (n := l.length) (p := P) (w := 0) (m := List.replicate l.length 0) (by rw [List.length_replicate]) (hf.nodup_iff.2 (plan_nodup ..))
    (fun x hx => plan_flat.1 (hf.mem_iff.1 hx)) (fun x _ => getD_zeros _ _)
  have hat : ∀ x, x < l.length → m.getD x 0 = wv l x + 1 := fun x hx => by
    have hg := planN_get (nwN_gt (l := l) hx)
    obtain ⟨q, hq⟩ : ∃ q, P[wv l x]? = some q := ⟨_, List.getElem?_eq_getElem (by rw [h.len, planN_length]; exact nwN_gt hx)⟩
    obtain ⟨r, hr, hp⟩ := h.get hq
    rw [hg] at hr
    obtain rfl : waveL l l.length (wv l x) = r := by simpa using hr
    rw [h3 (wv l x) q hq x (hp.mem_iff.2 (waveL_mem.2 ⟨hx, rfl⟩))]
    omega
  unfold chkN
  rw [h1]
  refine chkM_ok h2 (fun x hx => by rw [hat x hx]; omega) (fun i k hik ha => ?_)
  obtain ⟨q1, q2⟩ := adjB_lt ha
  rw [hat i q1, hat k q2]
  have := wv_lt hik ha
  omega

/-- No wave is empty. -/
theorem RowsPerm.pos {l : List RwD} {P : List (List Nat)} (h : RowsPerm P (planN l l.length)) {k : Nat} {q : List Nat} (hq : P[k]? = some q) : 0 < q.length ∧ q.length ≤ l.length := by
  obtain ⟨r, hr, hp⟩ := h.get hq
  have hk : k < nwN l l.length := by
    have := (List.getElem?_eq_some_iff.1 hr).1
    rw [planN_length] at this
    exact this
  rw [planN_get hk] at hr
  obtain rfl : waveL l l.length k = r := by simpa using hr
  obtain ⟨i, hi, hw⟩ := nwN_ex hk
  rw [hp.length_eq]
  refine ⟨List.length_pos_of_mem (waveL_mem.2 ⟨hi, hw⟩), ?_⟩
  unfold waveL
  exact Nat.le_trans (List.length_filter_le _ _) (by rw [List.length_range]; omega)
end Go.Proofs.YtajpfkenhchafaaDoor

/- Two numbers of a row of a plan change their places. -/
namespace Go.Proofs.YtajpfkenhchafaaDoor
open Go Go.RowKit
set_option linter.unusedVariables false

theorem flat_slot_set {p : List IRow} {k : Nat} {x y : IRow} (hx : p[k]? = some x) (hc : slotK.c y = slotK.c x) : flatK slotK (p.set k y) = flatK slotK p := by
  show (p.set k y).flatMap slotK.c = p.flatMap slotK.c
  rw [List.flatMap_def, List.flatMap_def, List.map_set, hc]
  congr 1
  refine List.ext_getElem? (fun i => ?_)
  by_cases h : k = i
  · subst h
    rw [List.getElem?_map, hx, List.getElem?_set_self (by rw [List.length_map]; exact (List.getElem?_eq_some_iff.1 hx).1)]
    rfl
  · rw [List.getElem?_set_ne h]

/-- Row k has other numbers, as many, in the same place. -/
theorem PlanQ.inner {w w' : World} {B k n cap : Nat} {ao xa : Option Addr} {xc : Nat} {p : List IRow} {L M : List Int} (h : PlanQ w B (.slice ao n cap) p) (hx : p[k]? = some ⟨L, xa, xc⟩) (hl : M.length = L.length)
    (hy : KQ intK 3 w' B (.slice xa M.length xc) M) (hk : Kept (fun k => (Value.slice xa L.length xc).ownBlock = some k) w w') : PlanQ w' B (.slice ao n cap) (p.set k ⟨M, xa, xc⟩) := by
  have hxm := List.mem_of_getElem? hx
  have hout := h.out.kept hk (fun b e e2 => h.off ⟨L, xa, xc⟩ hxm b e2 e) (fun _ _ _ h => h.elim)
  have hv : (IRow.mk M xa xc).v = (IRow.mk L xa xc).v := by unfold IRow.v; rw [hl]
  have hf : flatK slotK (p.set k ⟨M, xa, xc⟩) = flatK slotK p := flat_slot_set hx (by show [Value.slice xa M.length xc] = [Value.slice xa L.length xc]; rw [hl])
  have key : ∀ m z, (p.set k ⟨M, xa, xc⟩)[m]? = some z → (m = k ∧ z = ⟨M, xa, xc⟩) ∨ (m ≠ k ∧ p[m]? = some z) := fun m z hm => by
    by_cases e : m = k
    · subst e
      rw [List.getElem?_set_self (List.getElem?_eq_some_iff.1 hx).1] at hm
      exact Or.inl ⟨rfl, by simpa using hm.symm⟩
    · rw [List.getElem?_set_ne (by omega)] at hm
      exact Or.inr ⟨e, hm⟩
  have old : ∀ (m : Nat) (z : IRow), (p.set k ⟨M, xa, xc⟩)[m]? = some z → ∃ z' : IRow, p[m]? = some z' ∧ z'.v = z.v := fun m z hm => by
    rcases key m z hm with ⟨rfl, rfl⟩ | ⟨_, h1⟩
    · exact ⟨_, hx, hv.symm⟩
    · exact ⟨z, h1, rfl⟩
  refine ⟨⟨?_, fun _ _ => trivial, fun _ _ _ h => h.elim, hout.lt, hout.nil⟩, fun z hz => ?_, fun z hz b hb => ?_, fun i j a c hij ha hc b hb e => ?_⟩
  · rw [List.length_set, hf]
    exact hout.row
  · obtain ⟨i, hi⟩ := List.mem_iff_getElem?.1 hz
    rcases key i z hi with ⟨_, rfl⟩ | ⟨hik, h1⟩
    · exact hy
    · exact (h.inn z (List.mem_of_getElem? h1)).kept hk (fun b e e2 => h.apart i k z _ hik h1 hx b e e2) (fun _ _ _ h => h.elim)
  · obtain ⟨i, hi⟩ := List.mem_iff_getElem?.1 hz
    obtain ⟨z', h1, h2⟩ := old i z hi
    rw [← h2] at hb
    exact h.off z' (List.mem_of_getElem? h1) b hb
  · obtain ⟨a', h1, h2⟩ := old i a ha
    obtain ⟨c', h3, h4⟩ := old j c hc
    rw [← h2] at hb
    rw [← h4] at e
    exact h.apart i j a' c' hij h1 h3 b hb e

theorem rowI_set (q : List Nat) (i v : Nat) : (rowI q).set i (v : Int) = rowI (q.set i v) := by
  unfold rowI
  rw [List.map_set]
  rfl

theorem rowI_get {q : List Nat} {i : Nat} (h : i < q.length) : (rowI q)[i]? = some ((q.getD i 0 : Nat) : Int) := by
  unfold rowI
  rw [List.getElem?_map, List.getElem?_eq_getElem h, getD_at h]
  rfl

theorem rowI_length (q : List Nat) : (rowI q).length = q.length := by unfold rowI; rw [List.length_map]

/-- A place below k. -/
theorem pick23 (f : Int) (k : Nat) (hk : 0 < k) (hk2 : k < 1000000) : ∃ j : Nat, j < k ∧ IntKind.i64.wrap ((IntKind.u64.wrap f).tmod (k : Int)) = (j : Int) := by
  have h0 : 0 ≤ IntKind.u64.wrap f := by
    rw [show IntKind.u64.wrap f = f % 18446744073709551616 by simp [IntKind.wrap, IntKind.bits, IntKind.signed]]
    omega
  rw [Int.tmod_eq_emod_of_nonneg h0]
  generalize IntKind.u64.wrap f = m at h0
  have hlt := Int.emod_lt_of_pos m (show (0 : Int) < (k : Int) by omega)
  have hge := Int.emod_nonneg m (show (k : Int) ≠ 0 by omega)
  refine ⟨(m % (k : Int)).toNat, by omega, ?_⟩
  generalize m % (k : Int) = r at hlt hge
  have e : IntKind.i64.wrap r = r := by
    simp [IntKind.wrap, IntKind.bits, IntKind.signed]
    omega
  rw [e]
  omega

/-- The world behind it. -/
def swapW (w : World) (g off a b : Nat) (va vb : Nat) : World := (w.setCell ⟨g, off + a, none⟩ (.int .i64 (vb : Int))).setCell ⟨g, off + b, none⟩ (.int .i64 (va : Int))

theorem PlanQ.swap {w : World} {B k n cap g off : Nat} {ao : Option Addr} {xc a b : Nat} {p : List IRow} {Q : List Nat} (h : PlanQ w B (.slice ao n cap) p) (hx : p[k]? = some ⟨rowI Q, some ⟨g, off, none⟩, xc⟩) (ha : a < Q.length) (hb : b < Q.length) :
    w.cell? ⟨g, off + a, none⟩ = some (.int .i64 ((Q.getD a 0 : Nat) : Int)) ∧ w.cell? ⟨g, off + b, none⟩ = some (.int .i64 ((Q.getD b 0 : Nat) : Int)) ∧ w.frozen? ⟨g, off + a, none⟩ = false ∧
    (∃ u, (w.setCell ⟨g, off + a, none⟩ (.int .i64 ((Q.getD b 0 : Nat) : Int))).cell? ⟨g, off + b, none⟩ = some u) ∧ (w.setCell ⟨g, off + a, none⟩ (.int .i64 ((Q.getD b 0 : Nat) : Int))).frozen? ⟨g, off + b, none⟩ = false ∧ B ≤ g ∧ g < w.heap.size ∧
    PlanQ (swapW w g off a b (Q.getD a 0) (Q.getD b 0)) B (.slice ao n cap) (p.set k ⟨rowI (swapL Q a b), some ⟨g, off, none⟩, xc⟩) ∧ Kept (fun k => k = g) w (swapW w g off a b (Q.getD a 0) (Q.getD b 0)) := by
  have hi := h.inn _ (List.mem_of_getElem? hx)
  have hq : KQ intK 3 w B (.slice (some ⟨g, off, none⟩) (rowI Q).length xc) (rowI Q) := hi
  obtain ⟨c1, f1, hB, hg, hs1⟩ := hq.intSet (rowI_get ha)
  obtain ⟨c2, _⟩ := hq.intSet (rowI_get hb)
  have hq1 := hs1 ((Q.getD b 0 : Nat) : Int)
  rw [rowI_set] at hq1
  have hb1 : b < (Q.set a (Q.getD b 0)).length := by rw [List.length_set]; exact hb
  obtain ⟨c3, f3, _, _, hs2⟩ := hq1.intSet (rowI_get hb1)
  have hq2 := hs2 ((Q.getD a 0 : Nat) : Int)
  rw [rowI_set] at hq2
  have hk : Kept (fun k => k = g) w (swapW w g off a b (Q.getD a 0) (Q.getD b 0)) := (Kept.setCell w ⟨g, off + a, none⟩ _).set (p := ⟨g, off + b, none⟩) rfl _
  refine ⟨c1, c2, f1, ⟨_, c3⟩, f3, hB, hg, h.inner hx (by rw [rowI_length, rowI_length, swapL_length]) ?_ (hk.mono (fun k _ e => by rw [show k = g from e]; rfl)), hk⟩
  rw [rowI_length, swapL_length, ← rowI_length Q]
  exact hq2
end Go.Proofs.YtajpfkenhchafaaDoor

/- A region that draws its order: loads are taken first under two conditions on the world: S is kept by every operation; T is asked till operation z, which what reads by T stands ahead of, comes up. -/
namespace Go.Proofs.YtajpfkenhchafaaDoor
open Go

section
variable {P : Program} {ops : Array Oper} {Q : Exit → Act → World → Prop} {md : Region.Mode} {S T : World → Prop} {z : Nat}

/-- Whatever order is picked from here on: S holds behind every operation, T till number z. -/
def wpAnyM (P : Program) (md : Region.Mode) (ops : Array Oper) (Q : Exit → Act → World → Prop) (S T : World → Prop) (z : Nat) : Nat → Array Bool → Act → World → Prop
  | 0, listed, a, w => Region.ready md ops listed = [] ∧ Q .normal a w
  | fuel + 1, listed, a, w =>
    (Region.ready md ops listed = [] → Q .normal a w) ∧
    ∀ i ∈ Region.ready md ops listed, wpOp P ops Q i (fun a' w' => S w' ∧ (i ≠ z → T w' ∧ wpAnyM P md ops Q S T z fuel (listed.setIfInBounds i true) a' w') ∧ (i = z → wpAnyH P md ops Q S fuel (listed.setIfInBounds i true) a' w')) a w

theorem wpAny_of_M : ∀ (fuel : Nat) (listed : Array Bool) (a : Act) (w : World), wpAnyM P md ops Q S T z fuel listed a w → wpAny P md ops Q fuel listed a w
  | 0, _, _, _, h => h
  | fuel + 1, _, _, _, h => ⟨h.1, fun i hi => wpOp_mono (fun a' w' h' => by
      by_cases e : i = z
      · exact wpAny_of_held fuel _ a' w' (h'.2.2 e)
      · exact wpAny_of_M fuel _ a' w' (h'.2.1 e).2) (h.2 i hi)⟩

/-- Number z does not come up while one that it waits for has not. -/
theorem not_readyM {i : Nat} {listed : Array Bool} (hz : Region.waitsFor md ops z i = true) (hun : listed.getD i true = false) : z ∉ Region.ready md ops listed := by
  intro hr
  obtain ⟨_, oz, hoz, hall⟩ := mem_ready.1 hr
  obtain ⟨o', ho', e, he, hb, hon⟩ := Region.waitsFor_spec hz
  have : o' = oz := Option.some.inj (ho'.symm.trans hoz)
  subst this
  have h3 := hall e he hb
  rw [hon, getD_both hun] at h3
  cases h3

/-- What reads by S alone is taken first. -/
theorem wpAnyM_first {i : Nat} {oi : Oper} {v : Value} (hi : ops[i]? = some oi) (hsel : ∀ (j : Nat) (o : Oper) cs b, ops[j]? = some o → o.op ≠ .select cs b)
    (hQ : ∀ c a w, Q (.panic c) (a.put oi.dst v) w → Q (.panic c) a w) (hiz : i ≠ z) :
    ∀ (fuel : Nat) (listed : Array Bool) (a : Act) (w : World),
      (∀ j oj, ops[j]? = some oj → j ≠ i → listed.getD j true = false → (∀ e ∈ oj.after, Region.binds md e = true → e.on ≠ i) → oi.apart ops oj = true) →
      i ∈ Region.ready md ops listed → YieldsIf P ops S oi v a → S w → T w →
      wpAnyM P md ops Q S T z fuel (listed.setIfInBounds i true) (a.put oi.dst v) w → wpAnyM P md ops Q S T z (fuel + 1) listed a w := by
  intro fuel
  induction fuel with
  | zero =>
    intro listed a w _ hr hy hS hT H
    refine ⟨fun h => (by rw [h] at hr; cases hr), fun j hj => ?_⟩
    by_cases hji : j = i
    · subst hji; exact hy.wpOp hi hS ⟨hS, fun _ => ⟨hT, H⟩, fun e => absurd e hiz⟩
    · have := ready_mono hj hji
      rw [H.1] at this
      cases this
  | succ fuel ih =>
    intro listed a w hfree hr hy hS hT H
    refine ⟨fun h => (by rw [h] at hr; cases hr), fun j hj => ?_⟩
    by_cases hji : j = i
    · subst hji; exact hy.wpOp hi hS ⟨hS, fun _ => ⟨hT, H⟩, fun e => absurd e hiz⟩
    · have h1 := H.2 j (ready_mono hj hji)
      obtain ⟨hjun, oj, hoj, hall⟩ := mem_ready.1 hj
      have hun := (mem_ready.1 hr).1
      have hnot : ∀ e ∈ oj.after, Region.binds md e = true → e.on ≠ i := fun e he hb heq => by
        have h1 := hall e he hb
        rw [heq, getD_both hun] at h1
        cases h1
      have h2 := wpOp_putIf hoj (hfree j oj hoj hji hjun hnot) (fun cs b => hsel i oi cs b hi) (fun cs b => hsel j oj cs b hoj) hQ hy h1
      have hfree' : ∀ k ok, ops[k]? = some ok → k ≠ i → (listed.setIfInBounds j true).getD k true = false →
          (∀ e ∈ ok.after, Region.binds md e = true → e.on ≠ i) → oi.apart ops ok = true := fun k ok hk hki hun hno => by
        refine hfree k ok hk hki ?_ hno
        by_cases hjk : j = k
        · subst hjk; exact hjun
        · rw [getD_set_ne true hjk] at hun; exact hun
      refine wpOp_mono (fun a' w' h3 => ⟨h3.2.1, fun e => ⟨(h3.2.2.1 e).1, ih (listed.setIfInBounds j true) a' w' hfree' (ready_mono hr (Ne.symm hji)) h3.1 h3.2.1 (h3.2.2.1 e).1 ?_⟩, fun e => wpAnyH_first hi hsel hQ fuel (listed.setIfInBounds j true) a' w' hfree' (ready_mono hr (Ne.symm hji)) h3.1 h3.2.1 ?_⟩) h2
      · rw [Array.setIfInBounds_comm _ _ hji]
        exact (h3.2.2.1 e).2
      · rw [Array.setIfInBounds_comm _ _ hji]
        exact h3.2.2.2 e

/-- What reads by S and T, and z waits for, is taken first. -/
theorem wpAnyM_firstT {i : Nat} {oi : Oper} {v : Value} (hi : ops[i]? = some oi) (hsel : ∀ (j : Nat) (o : Oper) cs b, ops[j]? = some o → o.op ≠ .select cs b)
    (hQ : ∀ c a w, Q (.panic c) (a.put oi.dst v) w → Q (.panic c) a w) (hz : Region.waitsFor md ops z i = true) (hiz : i ≠ z) :
    ∀ (fuel : Nat) (listed : Array Bool) (a : Act) (w : World),
      (∀ j oj, ops[j]? = some oj → j ≠ i → listed.getD j true = false → (∀ e ∈ oj.after, Region.binds md e = true → e.on ≠ i) → oi.apart ops oj = true) →
      i ∈ Region.ready md ops listed → YieldsIf P ops (fun w => S w ∧ T w) oi v a → S w → T w →
      wpAnyM P md ops Q S T z fuel (listed.setIfInBounds i true) (a.put oi.dst v) w → wpAnyM P md ops Q S T z (fuel + 1) listed a w := by
  intro fuel
  induction fuel with
  | zero =>
    intro listed a w _ hr hy hS hT H
    refine ⟨fun h => (by rw [h] at hr; cases hr), fun j hj => ?_⟩
    by_cases hji : j = i
    · subst hji; exact hy.wpOp hi ⟨hS, hT⟩ ⟨hS, fun _ => ⟨hT, H⟩, fun e => absurd e hiz⟩
    · have := ready_mono hj hji
      rw [H.1] at this
      cases this
  | succ fuel ih =>
    intro listed a w hfree hr hy hS hT H
    refine ⟨fun h => (by rw [h] at hr; cases hr), fun j hj => ?_⟩
    by_cases hji : j = i
    · subst hji; exact hy.wpOp hi ⟨hS, hT⟩ ⟨hS, fun _ => ⟨hT, H⟩, fun e => absurd e hiz⟩
    · have hun := (mem_ready.1 hr).1
      have hjz : j ≠ z := fun e => by subst e; exact not_readyM hz hun hj
      have h1 := H.2 j (ready_mono hj hji)
      obtain ⟨hjun, oj, hoj, hall⟩ := mem_ready.1 hj
      have hnot : ∀ e ∈ oj.after, Region.binds md e = true → e.on ≠ i := fun e he hb heq => by
        have h1 := hall e he hb
        rw [heq, getD_both hun] at h1
        cases h1
      have h2 := wpOp_putIf hoj (hfree j oj hoj hji hjun hnot) (fun cs b => hsel i oi cs b hi) (fun cs b => hsel j oj cs b hoj) hQ hy h1
      have hfree' : ∀ k ok, ops[k]? = some ok → k ≠ i → (listed.setIfInBounds j true).getD k true = false →
          (∀ e ∈ ok.after, Region.binds md e = true → e.on ≠ i) → oi.apart ops ok = true := fun k ok hk hki hun hno => by
        refine hfree k ok hk hki ?_ hno
        by_cases hjk : j = k
        · subst hjk; exact hjun
        · rw [getD_set_ne true hjk] at hun; exact hun
      refine wpOp_mono (fun a' w' h3 => ⟨h3.2.1, fun e => ⟨(h3.2.2.1 e).1, ih (listed.setIfInBounds j true) a' w' hfree' (ready_mono hr (Ne.symm hji)) h3.1 h3.2.1 (h3.2.2.1 e).1 ?_⟩, fun e => absurd e hjz⟩) h2
      rw [Array.setIfInBounds_comm _ _ hji]
      exact (h3.2.2.1 e).2

/-- Take number i first, by S; the slot under a letter. -/
theorem wpAnyM_takeD {i : Nat} {oi : Oper} {v : Value} {fuel : Nat} {listed : Array Bool} {a : Act} {w : World} (d : Option Nat) (hi : ops[i]? = some oi) (hd : oi.dst = d)
    (hs : Region.noSelect ops = true) (hf : Region.free md ops listed i = true) (hr : (Region.ready md ops listed).contains i = true) (hiz : i ≠ z)
    (hQ : ∀ c a w, Q (.panic c) (a.put d v) w → Q (.panic c) a w) (hS : S w) (hT : T w) (hy : YieldsIf P ops S oi v a)
    (h : wpAnyM P md ops Q S T z fuel (listed.setIfInBounds i true) (a.put d v) w) : wpAnyM P md ops Q S T z (fuel + 1) listed a w := by
  subst hd
  exact wpAnyM_first hi (Region.noSelect_spec hs) hQ hiz fuel listed a w (Region.free_spec hi hf) (by simpa using hr) hy hS hT h

/-- Take number i first, by S and T. -/
theorem wpAnyM_takeT {i : Nat} {oi : Oper} {v : Value} {fuel : Nat} {listed : Array Bool} {a : Act} {w : World} (d : Option Nat) (hi : ops[i]? = some oi) (hd : oi.dst = d)
    (hs : Region.noSelect ops = true) (hf : Region.free md ops listed i = true) (hr : (Region.ready md ops listed).contains i = true) (hz : Region.waitsFor md ops z i = true) (hiz : i ≠ z)
    (hQ : ∀ c a w, Q (.panic c) (a.put d v) w → Q (.panic c) a w) (hS : S w) (hT : T w) (hy : YieldsIf P ops (fun w => S w ∧ T w) oi v a)
    (h : wpAnyM P md ops Q S T z fuel (listed.setIfInBounds i true) (a.put d v) w) : wpAnyM P md ops Q S T z (fuel + 1) listed a w := by
  subst hd
  exact wpAnyM_firstT hi (Region.noSelect_spec hs) hQ hz hiz fuel listed a w (Region.free_spec hi hf) (by simpa using hr) hy hS hT h

/-- Number z comes up, alone. -/
theorem wpAnyM_last {o : Oper} {fuel : Nat} {listed : Array Bool} {a : Act} {w : World} (d : Option Nat) (hr : Region.ready md ops listed = [z]) (ho : ops[z]? = some o) (hd : o.dst = d) (hw : Region.wanted o (yielded ops a.tmps) = true)
    (h : ∀ K : Act → World → Prop, (∀ v w, S w → wpAnyH P md ops Q S fuel (listed.setIfInBounds z true) (a.put d v) w → K (a.put o.dst v) w) → Oper.wp P o a w K Q) : wpAnyM P md ops Q S T z (fuel + 1) listed a w := by
  subst hd
  refine ⟨fun h0 => (by rw [hr] at h0; cases h0), fun j hj => ?_⟩
  rw [hr] at hj
  obtain rfl : j = z := by simpa using hj
  unfold wpOp
  simp only [ho, hw, if_true]
  exact Or.inl (h _ (fun v w hS hW => ⟨hS, fun e => absurd rfl e, fun _ => hW⟩))

/-- The beginning. -/
theorem wp_region_M {id : Nat} {a : Act} {w : World} (S T : World → Prop) (z : Nat) (hm : P.follows .mixedOrders = true)
    (h : wpAnyM P .any ops Q S T z ops.size (Array.replicate ops.size false) a w.drew) : (Code.region id ops true).wp P Q a w :=
  wp_region_any hm (wpAny_of_M _ _ _ _ h)
end
end Go.Proofs.YtajpfkenhchafaaDoor

/- How a row of numbers that came in is opened. -/
namespace Go.Proofs.YtajpfkenhchafaaDoor
open Go.ChangeShapes Go.WideShapes Go.ChangeAt Go.RowKit Go.Joins Go.Deep
set_option linter.unusedVariables false

theorem cellsInt7 : Tryd.prog.cellsOf 3 = 1 := by kernel_rfl

/-- How a number reads. -/
def IntQ {H : Type} (d : DataW H) (v : Int) : Prop := True

set_option maxRecDepth 100000 in
theorem open_int_cells7 {H : Type} {enc : TypeId × Value → H} {W : World} {fuel : Nat} {cs : List Value} {y : DataW H × List MemPlace}
    (hf : DataW.trod enc Tryd.prog W 0 (fun _ => true) true fuel 3 cs = some y) : ∃ v : Int, cs = intK.c v ∧ intK.At W v ∧ IntQ y.1 v := by
  obtain ⟨a0, e0, _, _⟩ := DataW.trod_int Tryd.underlying3 hf
  exact ⟨a0, e0, trivial, trivial⟩

theorem open_intsK {H : Type} {enc : TypeId × Value → H} {W : World} {a : Option Addr} {len cap : Nat} {d : DataW H} {p : List MemPlace}
    (h : DataW.Trod enc Tryd.prog W 0 (fun _ => true) true 25 (.slice a len cap) d p) :
    ∃ l : List Int, l.length = len ∧ RowAt intK W a l ∧ len ≤ maxLen := by
  obtain ⟨fuel, hf⟩ := h
  obtain ⟨l, h1, h2, _, h4, _⟩ := open_row intK IntQ Tryd.underlying25 cellsInt7 open_int_cells7 hf
  exact ⟨l, h1, h2, h4⟩
end Go.Proofs.YtajpfkenhchafaaDoor
