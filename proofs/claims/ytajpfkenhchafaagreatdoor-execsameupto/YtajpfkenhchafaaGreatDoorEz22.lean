/- Texts as one: RefStaAt. -/
import Derived.Test.YtajpfkenhchafaaGreatDoorEz21
/- What the reference's 'at' does. (Laid by gen_refstaat.py.) -/
namespace Go.Proofs.YtajpfkenhchafaaGreatDoor
open Go Go.RowKit
set_option linter.unusedVariables false

/-- The accounts behind 'at'. -/
def atL (A : List (ByteArray × (Nat × Nat))) (n : ByteArray) : List (ByteArray × (Nat × Nat)) := kPut n ((kGet A n).getD (0, 0)) A

theorem kPut_self {β : Type} {A : List (ByteArray × β)} {n : ByteArray} {y : β} (h : A[kAt A n]? = some (n, y)) : kPut n y A = A := by
  rw [kPut_set n y y h]
  obtain ⟨h1, h2⟩ := List.getElem?_eq_some_iff.1 h
  rw [← h2]
  exact List.set_getElem_self h1

theorem atL_same {A : List (ByteArray × (Nat × Nat))} {n : ByteArray} {y : Nat × Nat} (hr : KRise A) (h : A[kAt A n]? = some (n, y)) : atL A n = A := by
  unfold atL
  rw [(kGet_at hr).1 h]
  exact kPut_self h

theorem kGet_out {β : Type} {A : List (ByteArray × β)} {n : ByteArray} (hr : KRise A) (h : ∀ y, A[kAt A n]? ≠ some (n, y)) : kGet A n = none := by
  cases hg : kGet A n with
  | none => rfl
  | some y => exact absurd ((kGet_at hr).2 hg) (h y)

theorem atL_new {A : List (ByteArray × (Nat × Nat))} {n : ByteArray} (hr : KRise A) (h : ∀ y, A[kAt A n]? ≠ some (n, y)) : atL A n = A.take (kAt A n) ++ (n, (0, 0)) :: A.drop (kAt A n) := by
  unfold atL
  rw [kGet_out hr h]
  exact kPut_new n _ h

theorem kPut_at {β : Type} {A : List (ByteArray × β)} (hr : KRise A) (n : ByteArray) (x : β) : (kPut n x A)[kAt A n]? = some (n, x) := by
  by_cases h : ∃ y, A[kAt A n]? = some (n, y)
  · obtain ⟨y, hy⟩ := h
    rw [kPut_set n x y hy, List.getElem?_set_self (List.getElem?_eq_some_iff.1 hy).1]
  · have h' : ∀ y, A[kAt A n]? ≠ some (n, y) := fun y e => h ⟨y, e⟩
    have hle := kAt_le A n
    rw [kPut_new n x h', List.getElem?_append_right (by rw [List.length_take]; omega), show kAt A n - (A.take (kAt A n)).length = 0 by rw [List.length_take]; omega]
    rfl

theorem kPut_len {β : Type} {A : List (ByteArray × β)} (n : ByteArray) (x : β) : (kPut n x A).length ≤ A.length + 1 := by
  by_cases h : ∃ y, A[kAt A n]? = some (n, y)
  · obtain ⟨y, hy⟩ := h
    rw [kPut_set n x y hy, List.length_set]
    omega
  · have h' : ∀ y, A[kAt A n]? ≠ some (n, y) := fun y e => h ⟨y, e⟩
    rw [kPut_new n x h', List.length_append, List.length_cons, List.length_take, List.length_drop]
    omega

/-- A row's block is an old one's, or new. -/
def FreshQ22 (w : World) (q q' : Value) : Prop := ∀ k, q'.ownBlock = some k → q.ownBlock = some k ∨ w.heap.size ≤ k

section
variable {w : World} {rb : Nat} {qa qv : Value} {A : List (ByteArray × (Nat × Nat))} {V : List (ByteArray × ByteArray)}

set_option maxRecDepth 100000 in
set_option maxHeartbeats 8000000 in
theorem rsAt_at (n : ByteArray) (h : RSt w rb qa qv A V) (hr : KRise A) (hl : A.length ≤ 900000) :
    Calls Tryz.prog 48 #[.pointer (some ⟨rb, 0, none⟩), .string n] w fun e w' => e = .returned (.int .i64 (kAt A n : Nat)) ∧ ∃ qa', RSt w' rb qa' qv (atL A n) V ∧ FreshQ22 w qa qa' ∧ Kept (fun k => k = rb) w w' := by
  obtain ⟨i0, z0, hi0, hz0, hz1, hz2, hz3⟩ := accInfo
  obtain ⟨ao, cap, rfl, hnil, hRow⟩ := h.ra.form
  have hlc : A.length ≤ cap := by
    obtain ⟨a', c', e, hle, _⟩ := h.ra.row.form
    simp only [Value.slice.injEq, true_and] at e
    omega
  have hpn : ¬ cap = A.length → ∀ ad, ao = some ad → ad.spot = none := by
    intro hcn ad e
    rcases h.ra.row.2 with ⟨ao', hv, hn⟩ | ⟨g, pre, post, c, hv, _⟩
    · simp only [Value.slice.injEq] at hv
      omega
    · simp only [Value.slice.injEq] at hv
      rw [hv.1] at e
      cases e
      rfl
  have hfin : Hid (∀ w1 q' lo, Below w.heap.size w w1 → KQ accK 92 w1 w.heap.size q' lo → lo = A.take (kAt A n) ++ (n, (0, 0)) :: A.drop (kAt A n) → (∀ y, A[kAt A n]? ≠ some (n, y)) → ∃ qa', RSt (w1.setCell ⟨rb, 0, none⟩ q') rb qa' qv (atL A n) V ∧ FreshQ22 w (.slice ao A.length cap) qa' ∧ Kept (fun k => k = rb) w (w1.setCell ⟨rb, 0, none⟩ q')) := by
    intro w1 q' lo hb hq hlo hno
    obtain ⟨h1, h2⟩ := h.newA hb hq
    exact ⟨q', by rw [atL_new hr hno, ← hlo]; exact h1, fun k e => Or.inr (hq.lt k e).1, h2⟩
  have hsam : Hid (∀ y, A[kAt A n]? = some (n, y) → ∃ qa', RSt w rb qa' qv (atL A n) V ∧ FreshQ22 w (.slice ao A.length cap) qa' ∧ Kept (fun k => k = rb) w w) := by
    intro y hy
    exact ⟨_, by rw [atL_same hr hy]; exact h, fun k e => Or.inl e, Kept.refl _ _⟩
  have hbx := h.box
  have c0 := hbx.cell (i := 0) rfl
  have hpl := kAt_le A n
  obtain ⟨GG, hGG⟩ : ∃ GG, Hid ((fun w' => ∃ qa', RSt w' rb qa' qv (atL A n) V ∧ FreshQ22 w (.slice ao A.length cap) qa' ∧ Kept (fun k => k = rb) w w') = GG) := ⟨_, rfl⟩
  have hpost : ∀ w', (∃ qa', RSt w' rb qa' qv (atL A n) V ∧ FreshQ22 w (.slice ao A.length cap) qa' ∧ Kept (fun k => k = rb) w w') = GG w' := fun w' => by rw [← hGG.out]
  simp only [hpost] at hfin hsam ⊢
  clear hpost hGG h
  obtain ⟨ka, hka⟩ : ∃ q, Hid (kAt A n = q) := ⟨_, rfl⟩
  have hst : Hid (∀ i x, A[i]? = some x → i ≤ ka → (i < ka ↔ Op.bytesLess x.1.toList n.toList = true)) := by
    intro i x hx hi
    rw [← hka.out] at hi ⊢
    exact kAt_step hx hi
  rw [hka.out] at hfin hsam hpl ⊢
  clear hka
  go_enter Tryz.func48, Tryz.ntmps48
  go_wp2_with fail
  go_loopw [5] (fun v5 wr => ∃ i : Nat, i ≤ ka ∧ v5 = .int .i64 (i : Int) ∧ wr = w) (fun v _ => ka - (intOf v).toNat)
  case atStart => exact ⟨0, Nat.zero_le _, rfl, rfl⟩
  case round =>
    obtain ⟨i, hia, rfl, hwr⟩ := hrel
    by_cases hlt : i < A.length
    · have g1 : (i : Int) < (A.length : Int) := by omega
      obtain ⟨x, hx⟩ : ∃ x, A[i]? = some x := ⟨_, List.getElem?_eq_getElem hlt⟩
      have hst1 := hst.out i x hx hia
      obtain ⟨b, off, hao, hbl, y0, _, _⟩ := hRow.acc hx
      subst hwr
      cases hls : Op.bytesLess x.1.toList n.toList with
      | true =>
        have hlt2 := hst1.2 hls
        subst hao
        clear hst1 hx
        go_wp2
        go_roundw
        case rel => exact ⟨i + 1, by omega, by go_num, trivial⟩
        case measure => simp [intOf]; omega
      | false =>
        have hip : i = ka := by
          have : ¬ i < ka := fun h => by rw [hst1.1 h] at hls; cases hls
          omega
        subst hao
        subst hip
        have g2 : ((i : Int) == (A.length : Int)) = false := by rw [beq_eq_false_iff_ne]; omega
        cases he : x.1.toList == n.toList with
        | true =>
          have hs := hsam.out x.2 (by rw [hx]; rw [bytes_eq] at he; rw [← of_decide_eq_true he])
          clear hst1 hx hst hsam hfin hia
          go_wp2
          go_ret
          exact ⟨rfl, hs⟩
        | false =>
          have hno : Hid (∀ y, A[i]? ≠ some (n, y)) := fun y e => by
            rw [hx] at e
            cases e
            simp at he
          clear hst1 hx hst hsam hia
          have hci : (cap = i) = False := by simp; omega
          have hrD : ∀ U, Below wr.heap.size wr U → RowAt accK U (some ⟨b, off + i * 3, none⟩) (A.drop i) := fun U hb => (hRow.below hb).dropG i
          have hnD : Hid (some (⟨b, off + i * 3, none⟩ : Addr) = none → cap - i = 0) := fun h => by cases h
          go_wp2_with fail
          have hc := fun w' (hb : Below wr.heap.size wr w') => (hbx.below hb hbx.lt).cell (i := 0) rfl
          have hbox := hbx
          have j1 : (0 : Int) ≤ (i : Int) := by omega
          have j2 : (i : Int) ≤ (cap : Int) := by omega
          have j3 : (i : Int) ≤ (A.length : Int) := by omega
          have hTl : (A.take i).length = i := by rw [List.length_take]; omega
          have hDl : (A.drop i).length = A.length - i := List.length_drop
          have hN3 : Hid (i + 1 + (A.length - i) = A.length + 1) := by show i + 1 + (A.length - i) = A.length + 1; omega
          have hrT := fun U (hb : Below wr.heap.size wr U) => (hRow.below hb).take i
          have hnT : Hid _ := hnil
          have m1 : i ≤ maxLen := by unfold maxLen; omega
          have m2 : i * 32 ≤ 140737488355328 := by omega
          have m3 : i + 1 ≤ maxLen := by unfold maxLen; omega
          have m4 : (i + 1) * 32 ≤ 140737488355328 := by omega
          have m5 : A.length + 1 ≤ maxLen := by unfold maxLen; omega
          have m6 : (A.length + 1) * 32 ≤ 140737488355328 := by omega
          obtain ⟨lo, hlo⟩ : ∃ lo, lo = A.take i ++ (n, (0, 0)) :: A.drop i := ⟨_, rfl⟩
          have HL : Hid (lo = A.take i ++ (n, (0, 0)) :: A.drop i) := hlo
          have HN : Hid (A.length + 1 = lo.length) := by
            show A.length + 1 = lo.length
            rw [hlo, List.length_append, List.length_cons, hTl, hDl]
            omega
          clear hlo hnil
          have hbd : Below wr.heap.size wr wr.drew := below_drewN (Below.refl _ wr) 1
          go_wp2_with fail
          refine wp_region_K (fun w' => Below wr.heap.size wr w') 22 (by kernel_rfl) ?_
          generalize wr.drew = w5 at hbd ⊢
          refine wpAnyK_takeD (i := 0) (v := ?_) (some 46) rfl rfl (by kernel_rfl) (by kernel_rfl) (by kernel_rfl) (by kernel_rfl) (by decide) (fun _ _ _ h => h) (by assumption) (Or.inl ⟨by rfl, ?_⟩) ?_
          rotate_left 1
          · intro w' hSw
            have cF := hc w' hSw
            go_simp
            first | done | with_reducible rfl
          simp only [Act.put, List.setIfInBounds_toArray, List.set_cons_zero, List.set_cons_succ]
          refine wpAnyK_takeD (i := 2) (v := ?_) (some 48) rfl rfl (by kernel_rfl) (by kernel_rfl) (by kernel_rfl) (by kernel_rfl) (by decide) (fun _ _ _ h => h) (by assumption) (Or.inl ⟨by rfl, ?_⟩) ?_
          rotate_left 1
          · intro w' hSw
            have cF := hc w' hSw
            go_simp
            first | done | with_reducible rfl
          simp only [Act.put, List.setIfInBounds_toArray, List.set_cons_zero, List.set_cons_succ]
          refine wpAnyK_takeD (i := 3) (v := ?_) (some 49) rfl rfl (by kernel_rfl) (by kernel_rfl) (by kernel_rfl) (by kernel_rfl) (by decide) (fun _ _ _ h => h) (by assumption) (Or.inl ⟨by rfl, ?_⟩) ?_
          rotate_left 1
          · intro w' hSw
            have cF := hc w' hSw
            go_simp
            first | done | with_reducible rfl
          simp only [Act.put, List.setIfInBounds_toArray, List.set_cons_zero, List.set_cons_succ]
          refine wpAnyK_takeD (i := 4) (v := ?_) (some 50) rfl rfl (by kernel_rfl) (by kernel_rfl) (by kernel_rfl) (by kernel_rfl) (by decide) (fun _ _ _ h => h) (by assumption) (Or.inl ⟨by rfl, ?_⟩) ?_
          rotate_left 1
          · intro w' hSw
            have cF := hc w' hSw
            go_simp
            first | done | with_reducible rfl
          simp only [Act.put, List.setIfInBounds_toArray, List.set_cons_zero, List.set_cons_succ]
          refine wpAnyK_takeD (i := 5) (v := ?_) (some 51) rfl rfl (by kernel_rfl) (by kernel_rfl) (by kernel_rfl) (by kernel_rfl) (by decide) (fun _ _ _ h => h) (by assumption) (Or.inl ⟨by rfl, ?_⟩) ?_
          rotate_left 1
          · intro w' hSw
            have cF := hc w' hSw
            go_simp
            first | done | with_reducible rfl
          simp only [Act.put, List.setIfInBounds_toArray, List.set_cons_zero, List.set_cons_succ]
          refine wpAnyK_takeD (i := 6) (v := ?_) (some 52) rfl rfl (by kernel_rfl) (by kernel_rfl) (by kernel_rfl) (by kernel_rfl) (by decide) (fun _ _ _ h => h) (by assumption) (Or.inl ⟨by rfl, ?_⟩) ?_
          rotate_left 1
          · intro w' hSw
            have cF := hc w' hSw
            go_simp
            first | done | with_reducible rfl
          simp only [Act.put, List.setIfInBounds_toArray, List.set_cons_zero, List.set_cons_succ]
          refine wpAnyK_takeD (i := 7) (v := ?_) (some 53) rfl rfl (by kernel_rfl) (by kernel_rfl) (by kernel_rfl) (by kernel_rfl) (by decide) (fun _ _ _ h => h) (by assumption) (Or.inl ⟨by rfl, ?_⟩) ?_
          rotate_left 1
          · intro w' hSw
            have cF := hc w' hSw
            go_simp
            first | done | with_reducible rfl
          simp only [Act.put, List.setIfInBounds_toArray, List.set_cons_zero, List.set_cons_succ]
          refine wpAnyK_takeD (i := 9) (v := ?_) (some 55) rfl rfl (by kernel_rfl) (by kernel_rfl) (by kernel_rfl) (by kernel_rfl) (by decide) (fun _ _ _ h => h) (by assumption) (Or.inl ⟨by rfl, ?_⟩) ?_
          rotate_left 1
          · intro w' hSw
            have cF := hc w' hSw
            go_simp
            first | done | with_reducible rfl
          simp only [Act.put, List.setIfInBounds_toArray, List.set_cons_zero, List.set_cons_succ]
          refine wpAnyK_takeD (i := 10) (v := ?_) (some 56) rfl rfl (by kernel_rfl) (by kernel_rfl) (by kernel_rfl) (by kernel_rfl) (by decide) (fun _ _ _ h => h) (by assumption) (Or.inl ⟨by rfl, ?_⟩) ?_
          rotate_left 1
          · intro w' hSw
            have cF := hc w' hSw
            go_simp
            first | done | with_reducible rfl
          simp only [Act.put, List.setIfInBounds_toArray, List.set_cons_zero, List.set_cons_succ]
          refine wpAnyK_takeD (i := 13) (v := ?_) (some 59) rfl rfl (by kernel_rfl) (by kernel_rfl) (by kernel_rfl) (by kernel_rfl) (by decide) (fun _ _ _ h => h) (by assumption) (Or.inl ⟨by rfl, ?_⟩) ?_
          rotate_left 1
          · intro w' hSw
            have cF := hc w' hSw
            go_simp
            first | done | with_reducible rfl
          simp only [Act.put, List.setIfInBounds_toArray, List.set_cons_zero, List.set_cons_succ]
          refine wpAnyK_takeD (i := 14) (v := ?_) (some 60) rfl rfl (by kernel_rfl) (by kernel_rfl) (by kernel_rfl) (by kernel_rfl) (by decide) (fun _ _ _ h => h) (by assumption) (Or.inl ⟨by rfl, ?_⟩) ?_
          rotate_left 1
          · intro w' hSw
            have cF := hc w' hSw
            go_simp
            first | done | with_reducible rfl
          simp only [Act.put, List.setIfInBounds_toArray, List.set_cons_zero, List.set_cons_succ]
          refine wpAnyK_takeD (i := 15) (v := ?_) (some 61) rfl rfl (by kernel_rfl) (by kernel_rfl) (by kernel_rfl) (by kernel_rfl) (by decide) (fun _ _ _ h => h) (by assumption) (Or.inl ⟨by rfl, ?_⟩) ?_
          rotate_left 1
          · intro w' hSw
            have cF := hc w' hSw
            go_simp
            first | done | with_reducible rfl
          simp only [Act.put, List.setIfInBounds_toArray, List.set_cons_zero, List.set_cons_succ]
          refine wpAnyK_takeD (i := 16) (v := ?_) (some 62) rfl rfl (by kernel_rfl) (by kernel_rfl) (by kernel_rfl) (by kernel_rfl) (by decide) (fun _ _ _ h => h) (by assumption) (Or.inl ⟨by rfl, ?_⟩) ?_
          rotate_left 1
          · intro w' hSw
            have cF := hc w' hSw
            go_simp
            first | done | with_reducible rfl
          simp only [Act.put, List.setIfInBounds_toArray, List.set_cons_zero, List.set_cons_succ]
          refine wpAnyK_takeD (i := 17) (v := ?_) (some 63) rfl rfl (by kernel_rfl) (by kernel_rfl) (by kernel_rfl) (by kernel_rfl) (by decide) (fun _ _ _ h => h) (by assumption) (Or.inl ⟨by rfl, ?_⟩) ?_
          rotate_left 1
          · intro w' hSw
            have cF := hc w' hSw
            go_simp
            first | done | with_reducible rfl
          simp only [Act.put, List.setIfInBounds_toArray, List.set_cons_zero, List.set_cons_succ]
          refine wpAnyK_takeD (i := 18) (v := ?_) (some 64) rfl rfl (by kernel_rfl) (by kernel_rfl) (by kernel_rfl) (by kernel_rfl) (by decide) (fun _ _ _ h => h) (by assumption) (Or.inl ⟨by rfl, ?_⟩) ?_
          rotate_left 1
          · intro w' hSw
            have cF := hc w' hSw
            go_simp
            first | done | with_reducible rfl
          simp only [Act.put, List.setIfInBounds_toArray, List.set_cons_zero, List.set_cons_succ]
          refine wpAnyK_ready (rs := [1, 11]) (by kernel_rfl) (by simp) ?_
          refine AllReadyK.cons rfl (fun K' hK => ?_) ?_
          · go_simp
            have bw6 := hbd.trans ((belowNew w5 (.cells #[] 92)).mono hbd.size)
            have hOw6 : (w5.alloc (.cells #[] 92)).ownsRow wr.heap.size 92 accK.n (.slice (some ⟨w5.heap.size, 0, none⟩) 0 0) 0 [] := World.ownsRow_made w5 #[] 0 hbd.size (by unfold maxLen; omega) (by simp)
            have hsw6 : w5.heap.size < (w5.alloc (.cells #[] 92)).heap.size := by rw [alloc_size]; omega
            obtain ⟨w6, hww6⟩ : ∃ q, w5.alloc (.cells #[] 92) = q := ⟨_, rfl⟩
            rw [hww6] at bw6 hOw6 hsw6 ⊢
            refine hK.out _ _ (fun _ => bw6) ?_
            clear hK K' hww6
            refine wpAnyK_ready (rs := [8, 11]) (by kernel_rfl) (by simp) ?_
            refine AllReadyK.consD (some 54) rfl rfl (fun K' hK => ?_) ?_
            · refine step_ownR (K := accK) w6 (by rfl) _ _ 87 (by rfl) wr.heap.size 92 i0 _ 32 Tryz.underlying87 hi0 hz0 hz1 hz2 hz3 _ _ _ _ _ (by rfl) hOw6 _ _ _ hTl (Nat.zero_add _) (by rfl) (hrT _ bw6) (fun e => hnT.out (by first | exact e | trivial)) m1 m2 bw6.size ?_
              intro aw7 cw7 w7 hOw7 hkw7
              have bw7 := bw6.trans (Kept.below hkw7 bw6.size (fun k hk => (hOw6.lt k hk).1))
              refine hK.out _ _ (fun _ => bw7) ?_
              clear hK K' hkw7
              simp only [Act.put, List.setIfInBounds_toArray, List.set_cons_zero, List.set_cons_succ]
              refine wpAnyK_ready (rs := [11]) (by kernel_rfl) (by simp) ?_
              refine AllReadyK.cons rfl (fun K' hK => ?_) ?_
              · go_simp
                have bw8 := bw7.trans ((belowNew w7 (.cells #[.string n, .int .u64 0, .int .u64 0] 92)).mono bw7.size)
                have hRw8 := accOne w7 n
                have hsw8 : w7.heap.size < (w7.alloc (.cells #[.string n, .int .u64 0, .int .u64 0] 92)).heap.size := by rw [alloc_size]; omega
                have hOw8 := own_belowT hOw7 (belowNew w7 (.cells #[.string n, .int .u64 0, .int .u64 0] 92))
                obtain ⟨w8, hww8⟩ : ∃ q, w7.alloc (.cells #[.string n, .int .u64 0, .int .u64 0] 92) = q := ⟨_, rfl⟩
                rw [hww8] at bw8 hRw8 hsw8 hOw8 ⊢
                refine hK.out _ _ (fun _ => bw8) ?_
                clear hK K' hww8
                refine wpAnyK_ready (rs := [12]) (by kernel_rfl) (by simp) ?_
                refine AllReadyK.consD (some 58) rfl rfl (fun K' hK => ?_) ?_
                · refine step_ownR (K := accK) w8 (by rfl) _ _ 87 (by rfl) wr.heap.size 92 i0 _ 32 Tryz.underlying87 hi0 hz0 hz1 hz2 hz3 _ _ _ _ _ (by rfl) hOw8 _ _ _ rfl rfl (by rfl) hRw8 (fun h => by cases h) m3 m4 bw8.size ?_
                  intro aw9 cw9 w9 hOw9 hkw9
                  have bw9 := bw8.trans (Kept.below hkw9 bw8.size (fun k hk => (hOw8.lt k hk).1))
                  refine hK.out _ _ (fun _ => bw9) ?_
                  clear hK K' hkw9
                  simp only [Act.put, List.setIfInBounds_toArray, List.set_cons_zero, List.set_cons_succ]
                  refine wpAnyK_ready (rs := [19]) (by kernel_rfl) (by simp) ?_
                  refine AllReadyK.consD (some 65) rfl rfl (fun K' hK => ?_) ?_
                  · refine step_ownR (K := accK) w9 (by rfl) _ _ 87 (by rfl) wr.heap.size 92 i0 _ 32 Tryz.underlying87 hi0 hz0 hz1 hz2 hz3 _ _ _ _ _ (by rfl) hOw9 _ _ _ hDl hN3.out (by rfl) (hrD _ bw9) (fun e => hnD.out (by first | exact e | trivial)) m5 m6 bw9.size ?_
                    intro aw10 cw10 w10 hOw10 hkw10
                    have bw10 := bw9.trans (Kept.below hkw10 bw9.size (fun k hk => (hOw9.lt k hk).1))
                    refine hK.out _ _ (fun _ => bw10) ?_
                    clear hK K' hkw10
                    simp only [Act.put, List.setIfInBounds_toArray, List.set_cons_zero, List.set_cons_succ]
                    refine wpAnyK_ready (rs := [20]) (by kernel_rfl) (by simp) ?_
                    refine AllReadyK.cons rfl (fun K' hK => ?_) AllReadyK.nil
                    go_simp
                    refine hK.out _ _ (fun _ => bw10) ?_
                    clear hK K'
                    refine wpAnyK_ready (rs := [21]) (by kernel_rfl) (by simp) ?_
                    refine AllReadyK.cons rfl (fun K' hK => ?_) AllReadyK.nil
                    go_simp
                    refine hK.out _ _ (fun _ => bw10) ?_
                    clear hK K'
                    refine wpAnyK_ready (rs := [22]) (by kernel_rfl) (by simp) ?_
                    refine AllReadyK.cons rfl (fun K' hK => ?_) AllReadyK.nil
                    have cF := hc w10 bw10
                    have fF := (hbox.below bw10 hbox.lt).frozen 0
                    go_simp
                    have hq := KQ.joined (K := accK) (T := 92) (lo := lo) (fun _ _ h => h.elim) (fun _ => trivial) hOw10 HL.out HN.out
                    have fin := hfin.out _ _ _ bw10 hq HL.out hno.out
                    refine hK.out _ _ (fun h => absurd rfl h) ?_
                    clear hK K'
                    refine wpAnyK_done (by kernel_rfl) ?_ _
                    go_wp2
                    go_ret
                    exact ⟨rfl, fin⟩
                  exact AllReadyK.nil
                exact AllReadyK.nil
              exact AllReadyK.nil
            refine AllReadyK.cons rfl (fun K' hK => ?_) ?_
            · go_simp
              have bw11 := bw6.trans ((belowNew w6 (.cells #[.string n, .int .u64 0, .int .u64 0] 92)).mono bw6.size)
              have hRw11 := accOne w6 n
              have hsw11 : w6.heap.size < (w6.alloc (.cells #[.string n, .int .u64 0, .int .u64 0] 92)).heap.size := by rw [alloc_size]; omega
              have hOw11 := own_belowT hOw6 (belowNew w6 (.cells #[.string n, .int .u64 0, .int .u64 0] 92))
              obtain ⟨w11, hww11⟩ : ∃ q, w6.alloc (.cells #[.string n, .int .u64 0, .int .u64 0] 92) = q := ⟨_, rfl⟩
              rw [hww11] at bw11 hRw11 hsw11 hOw11 ⊢
              refine hK.out _ _ (fun _ => bw11) ?_
              clear hK K' hww11
              refine wpAnyK_ready (rs := [8]) (by kernel_rfl) (by simp) ?_
              refine AllReadyK.consD (some 54) rfl rfl (fun K' hK => ?_) ?_
              · refine step_ownR (K := accK) w11 (by rfl) _ _ 87 (by rfl) wr.heap.size 92 i0 _ 32 Tryz.underlying87 hi0 hz0 hz1 hz2 hz3 _ _ _ _ _ (by rfl) hOw11 _ _ _ hTl (Nat.zero_add _) (by rfl) (hrT _ bw11) (fun e => hnT.out (by first | exact e | trivial)) m1 m2 bw11.size ?_
                intro aw12 cw12 w12 hOw12 hkw12
                have bw12 := bw11.trans (Kept.below hkw12 bw11.size (fun k hk => (hOw11.lt k hk).1))
                have hRw12 := hRw11.kept hkw12 (fun k hk e => by
                  rcases hk with ⟨_, off', e'⟩ | ⟨_, _, f'⟩
                  · simp at e'
                    simp [Value.ownBlock] at e
                    omega
                  · exact f'.elim)
                refine hK.out _ _ (fun _ => bw12) ?_
                clear hK K' hkw12
                simp only [Act.put, List.setIfInBounds_toArray, List.set_cons_zero, List.set_cons_succ]
                refine wpAnyK_ready (rs := [12]) (by kernel_rfl) (by simp) ?_
                refine AllReadyK.consD (some 58) rfl rfl (fun K' hK => ?_) ?_
                · refine step_ownR (K := accK) w12 (by rfl) _ _ 87 (by rfl) wr.heap.size 92 i0 _ 32 Tryz.underlying87 hi0 hz0 hz1 hz2 hz3 _ _ _ _ _ (by rfl) hOw12 _ _ _ rfl rfl (by rfl) hRw12 (fun h => by cases h) m3 m4 bw12.size ?_
                  intro aw13 cw13 w13 hOw13 hkw13
                  have bw13 := bw12.trans (Kept.below hkw13 bw12.size (fun k hk => (hOw12.lt k hk).1))
                  refine hK.out _ _ (fun _ => bw13) ?_
                  clear hK K' hkw13
                  simp only [Act.put, List.setIfInBounds_toArray, List.set_cons_zero, List.set_cons_succ]
                  refine wpAnyK_ready (rs := [19]) (by kernel_rfl) (by simp) ?_
                  refine AllReadyK.consD (some 65) rfl rfl (fun K' hK => ?_) ?_
                  · refine step_ownR (K := accK) w13 (by rfl) _ _ 87 (by rfl) wr.heap.size 92 i0 _ 32 Tryz.underlying87 hi0 hz0 hz1 hz2 hz3 _ _ _ _ _ (by rfl) hOw13 _ _ _ hDl hN3.out (by rfl) (hrD _ bw13) (fun e => hnD.out (by first | exact e | trivial)) m5 m6 bw13.size ?_
                    intro aw14 cw14 w14 hOw14 hkw14
                    have bw14 := bw13.trans (Kept.below hkw14 bw13.size (fun k hk => (hOw13.lt k hk).1))
                    refine hK.out _ _ (fun _ => bw14) ?_
                    clear hK K' hkw14
                    simp only [Act.put, List.setIfInBounds_toArray, List.set_cons_zero, List.set_cons_succ]
                    refine wpAnyK_ready (rs := [20]) (by kernel_rfl) (by simp) ?_
                    refine AllReadyK.cons rfl (fun K' hK => ?_) AllReadyK.nil
                    go_simp
                    refine hK.out _ _ (fun _ => bw14) ?_
                    clear hK K'
                    refine wpAnyK_ready (rs := [21]) (by kernel_rfl) (by simp) ?_
                    refine AllReadyK.cons rfl (fun K' hK => ?_) AllReadyK.nil
                    go_simp
                    refine hK.out _ _ (fun _ => bw14) ?_
                    clear hK K'
                    refine wpAnyK_ready (rs := [22]) (by kernel_rfl) (by simp) ?_
                    refine AllReadyK.cons rfl (fun K' hK => ?_) AllReadyK.nil
                    have cF := hc w14 bw14
                    have fF := (hbox.below bw14 hbox.lt).frozen 0
                    go_simp
                    have hq := KQ.joined (K := accK) (T := 92) (lo := lo) (fun _ _ h => h.elim) (fun _ => trivial) hOw14 HL.out HN.out
                    have fin := hfin.out _ _ _ bw14 hq HL.out hno.out
                    refine hK.out _ _ (fun h => absurd rfl h) ?_
                    clear hK K'
                    refine wpAnyK_done (by kernel_rfl) ?_ _
                    go_wp2
                    go_ret
                    exact ⟨rfl, fin⟩
                  exact AllReadyK.nil
                exact AllReadyK.nil
              exact AllReadyK.nil
            exact AllReadyK.nil
          refine AllReadyK.cons rfl (fun K' hK => ?_) ?_
          · go_simp
            have bw15 := hbd.trans ((belowNew w5 (.cells #[.string n, .int .u64 0, .int .u64 0] 92)).mono hbd.size)
            have hRw15 := accOne w5 n
            have hsw15 : w5.heap.size < (w5.alloc (.cells #[.string n, .int .u64 0, .int .u64 0] 92)).heap.size := by rw [alloc_size]; omega
            obtain ⟨w15, hww15⟩ : ∃ q, w5.alloc (.cells #[.string n, .int .u64 0, .int .u64 0] 92) = q := ⟨_, rfl⟩
            rw [hww15] at bw15 hRw15 hsw15 ⊢
            refine hK.out _ _ (fun _ => bw15) ?_
            clear hK K' hww15
            refine wpAnyK_ready (rs := [1]) (by kernel_rfl) (by simp) ?_
            refine AllReadyK.cons rfl (fun K' hK => ?_) ?_
            · go_simp
              have bw16 := bw15.trans ((belowNew w15 (.cells #[] 92)).mono bw15.size)
              have hOw16 : (w15.alloc (.cells #[] 92)).ownsRow wr.heap.size 92 accK.n (.slice (some ⟨w15.heap.size, 0, none⟩) 0 0) 0 [] := World.ownsRow_made w15 #[] 0 bw15.size (by unfold maxLen; omega) (by simp)
              have hsw16 : w15.heap.size < (w15.alloc (.cells #[] 92)).heap.size := by rw [alloc_size]; omega
              have hRw16 := hRw15.below (belowNew w15 (.cells #[] 92))
              obtain ⟨w16, hww16⟩ : ∃ q, w15.alloc (.cells #[] 92) = q := ⟨_, rfl⟩
              rw [hww16] at bw16 hOw16 hsw16 hRw16 ⊢
              refine hK.out _ _ (fun _ => bw16) ?_
              clear hK K' hww16
              refine wpAnyK_ready (rs := [8]) (by kernel_rfl) (by simp) ?_
              refine AllReadyK.consD (some 54) rfl rfl (fun K' hK => ?_) ?_
              · refine step_ownR (K := accK) w16 (by rfl) _ _ 87 (by rfl) wr.heap.size 92 i0 _ 32 Tryz.underlying87 hi0 hz0 hz1 hz2 hz3 _ _ _ _ _ (by rfl) hOw16 _ _ _ hTl (Nat.zero_add _) (by rfl) (hrT _ bw16) (fun e => hnT.out (by first | exact e | trivial)) m1 m2 bw16.size ?_
                intro aw17 cw17 w17 hOw17 hkw17
                have bw17 := bw16.trans (Kept.below hkw17 bw16.size (fun k hk => (hOw16.lt k hk).1))
                have hRw17 := hRw16.kept hkw17 (fun k hk e => by
                  rcases hk with ⟨_, off', e'⟩ | ⟨_, _, f'⟩
                  · simp at e'
                    simp [Value.ownBlock] at e
                    omega
                  · exact f'.elim)
                refine hK.out _ _ (fun _ => bw17) ?_
                clear hK K' hkw17
                simp only [Act.put, List.setIfInBounds_toArray, List.set_cons_zero, List.set_cons_succ]
                refine wpAnyK_ready (rs := [12]) (by kernel_rfl) (by simp) ?_
                refine AllReadyK.consD (some 58) rfl rfl (fun K' hK => ?_) ?_
                · refine step_ownR (K := accK) w17 (by rfl) _ _ 87 (by rfl) wr.heap.size 92 i0 _ 32 Tryz.underlying87 hi0 hz0 hz1 hz2 hz3 _ _ _ _ _ (by rfl) hOw17 _ _ _ rfl rfl (by rfl) hRw17 (fun h => by cases h) m3 m4 bw17.size ?_
                  intro aw18 cw18 w18 hOw18 hkw18
                  have bw18 := bw17.trans (Kept.below hkw18 bw17.size (fun k hk => (hOw17.lt k hk).1))
                  refine hK.out _ _ (fun _ => bw18) ?_
                  clear hK K' hkw18
                  simp only [Act.put, List.setIfInBounds_toArray, List.set_cons_zero, List.set_cons_succ]
                  refine wpAnyK_ready (rs := [19]) (by kernel_rfl) (by simp) ?_
                  refine AllReadyK.consD (some 65) rfl rfl (fun K' hK => ?_) ?_
                  · refine step_ownR (K := accK) w18 (by rfl) _ _ 87 (by rfl) wr.heap.size 92 i0 _ 32 Tryz.underlying87 hi0 hz0 hz1 hz2 hz3 _ _ _ _ _ (by rfl) hOw18 _ _ _ hDl hN3.out (by rfl) (hrD _ bw18) (fun e => hnD.out (by first | exact e | trivial)) m5 m6 bw18.size ?_
                    intro aw19 cw19 w19 hOw19 hkw19
                    have bw19 := bw18.trans (Kept.below hkw19 bw18.size (fun k hk => (hOw18.lt k hk).1))
                    refine hK.out _ _ (fun _ => bw19) ?_
                    clear hK K' hkw19
                    simp only [Act.put, List.setIfInBounds_toArray, List.set_cons_zero, List.set_cons_succ]
                    refine wpAnyK_ready (rs := [20]) (by kernel_rfl) (by simp) ?_
                    refine AllReadyK.cons rfl (fun K' hK => ?_) AllReadyK.nil
                    go_simp
                    refine hK.out _ _ (fun _ => bw19) ?_
                    clear hK K'
                    refine wpAnyK_ready (rs := [21]) (by kernel_rfl) (by simp) ?_
                    refine AllReadyK.cons rfl (fun K' hK => ?_) AllReadyK.nil
                    go_simp
                    refine hK.out _ _ (fun _ => bw19) ?_
                    clear hK K'
                    refine wpAnyK_ready (rs := [22]) (by kernel_rfl) (by simp) ?_
                    refine AllReadyK.cons rfl (fun K' hK => ?_) AllReadyK.nil
                    have cF := hc w19 bw19
                    have fF := (hbox.below bw19 hbox.lt).frozen 0
                    go_simp
                    have hq := KQ.joined (K := accK) (T := 92) (lo := lo) (fun _ _ h => h.elim) (fun _ => trivial) hOw19 HL.out HN.out
                    have fin := hfin.out _ _ _ bw19 hq HL.out hno.out
                    refine hK.out _ _ (fun h => absurd rfl h) ?_
                    clear hK K'
                    refine wpAnyK_done (by kernel_rfl) ?_ _
                    go_wp2
                    go_ret
                    exact ⟨rfl, fin⟩
                  exact AllReadyK.nil
                exact AllReadyK.nil
              exact AllReadyK.nil
            exact AllReadyK.nil
          exact AllReadyK.nil
    · have g1 : ¬ (i : Int) < (A.length : Int) := by omega
      subst hwr
      have hil2 : i = A.length := by omega
      have hip : i = ka := by omega
      subst hip
      have g2 : ((i : Int) == (A.length : Int)) = true := by rw [hil2]; exact beq_self_eq_true _
      have hno : Hid (∀ y, A[i]? ≠ some (n, y)) := fun y e => by
        have := (List.getElem?_eq_some_iff.1 e).1
        omega
      clear hst hsam hia
      cases ao with
      | none =>
        have hl0 : A = [] := by
          cases A with
          | nil => rfl
          | cons y r => obtain ⟨_, _, e, _⟩ := hRow.cell 0 y rfl; cases e
        have hc0 := hnil rfl
        subst hc0
        subst hl0
        obtain rfl : i = 0 := by simpa using hil2
        clear hil2 hnil hpn hlc g1 hpl hlt
        go_wp2_with fail
        have hc := fun w' (hb : Below wr.heap.size wr w') => (hbx.below hb hbx.lt).cell (i := 0) rfl
        have hbox := hbx
        have hTl : (([] : List (ByteArray × (Nat × Nat))).take 0).length = 0 := rfl
        have hDl : (([] : List (ByteArray × (Nat × Nat))).drop 0).length = 0 := rfl
        have hrT : ∀ U, Below wr.heap.size wr U → RowAt accK U none (([] : List (ByteArray × (Nat × Nat))).take 0) := fun U _ => nil_row _ _
        have hrD : ∀ U, Below wr.heap.size wr U → RowAt accK U none (([] : List (ByteArray × (Nat × Nat))).drop 0) := fun U _ => nil_row _ _
        have m1 : 0 ≤ maxLen := by unfold maxLen; omega
        have m2 : 0 * 32 ≤ 140737488355328 := by omega
        have m3 : 0 + 1 ≤ maxLen := by unfold maxLen; omega
        have m4 : (0 + 1) * 32 ≤ 140737488355328 := by omega
        have m5 := m3
        have m6 := m4
        obtain ⟨lo, hlo⟩ : ∃ lo, lo = ([] : List (ByteArray × (Nat × Nat))).take 0 ++ (n, (0, 0)) :: ([] : List (ByteArray × (Nat × Nat))).drop 0 := ⟨_, rfl⟩
        have HL : Hid (lo = ([] : List (ByteArray × (Nat × Nat))).take 0 ++ (n, (0, 0)) :: ([] : List (ByteArray × (Nat × Nat))).drop 0) := hlo
        have HN : Hid (0 + 1 = lo.length) := by show 0 + 1 = lo.length; rw [hlo]; rfl
        clear hlo
        have hbd : Below wr.heap.size wr wr.drew := below_drewN (Below.refl _ wr) 1
        go_wp2_with fail
        refine wp_region_K (fun w' => Below wr.heap.size wr w') 22 (by kernel_rfl) ?_
        generalize wr.drew = w5 at hbd ⊢
        refine wpAnyK_takeD (i := 0) (v := ?_) (some 46) rfl rfl (by kernel_rfl) (by kernel_rfl) (by kernel_rfl) (by kernel_rfl) (by decide) (fun _ _ _ h => h) (by assumption) (Or.inl ⟨by rfl, ?_⟩) ?_
        rotate_left 1
        · intro w' hSw
          have cF := hc w' hSw
          go_simp
          first | done | with_reducible rfl
        simp only [Act.put, List.setIfInBounds_toArray, List.set_cons_zero, List.set_cons_succ]
        refine wpAnyK_takeD (i := 2) (v := ?_) (some 48) rfl rfl (by kernel_rfl) (by kernel_rfl) (by kernel_rfl) (by kernel_rfl) (by decide) (fun _ _ _ h => h) (by assumption) (Or.inl ⟨by rfl, ?_⟩) ?_
        rotate_left 1
        · intro w' hSw
          have cF := hc w' hSw
          go_simp
          first | done | with_reducible rfl
        simp only [Act.put, List.setIfInBounds_toArray, List.set_cons_zero, List.set_cons_succ]
        refine wpAnyK_takeD (i := 3) (v := ?_) (some 49) rfl rfl (by kernel_rfl) (by kernel_rfl) (by kernel_rfl) (by kernel_rfl) (by decide) (fun _ _ _ h => h) (by assumption) (Or.inl ⟨by rfl, ?_⟩) ?_
        rotate_left 1
        · intro w' hSw
          have cF := hc w' hSw
          go_simp
          first | done | with_reducible rfl
        simp only [Act.put, List.setIfInBounds_toArray, List.set_cons_zero, List.set_cons_succ]
        refine wpAnyK_takeD (i := 4) (v := ?_) (some 50) rfl rfl (by kernel_rfl) (by kernel_rfl) (by kernel_rfl) (by kernel_rfl) (by decide) (fun _ _ _ h => h) (by assumption) (Or.inl ⟨by rfl, ?_⟩) ?_
        rotate_left 1
        · intro w' hSw
          have cF := hc w' hSw
          go_simp
          first | done | with_reducible rfl
        simp only [Act.put, List.setIfInBounds_toArray, List.set_cons_zero, List.set_cons_succ]
        refine wpAnyK_takeD (i := 5) (v := ?_) (some 51) rfl rfl (by kernel_rfl) (by kernel_rfl) (by kernel_rfl) (by kernel_rfl) (by decide) (fun _ _ _ h => h) (by assumption) (Or.inl ⟨by rfl, ?_⟩) ?_
        rotate_left 1
        · intro w' hSw
          have cF := hc w' hSw
          go_simp
          first | done | with_reducible rfl
        simp only [Act.put, List.setIfInBounds_toArray, List.set_cons_zero, List.set_cons_succ]
        refine wpAnyK_takeD (i := 6) (v := ?_) (some 52) rfl rfl (by kernel_rfl) (by kernel_rfl) (by kernel_rfl) (by kernel_rfl) (by decide) (fun _ _ _ h => h) (by assumption) (Or.inl ⟨by rfl, ?_⟩) ?_
        rotate_left 1
        · intro w' hSw
          have cF := hc w' hSw
          go_simp
          first | done | with_reducible rfl
        simp only [Act.put, List.setIfInBounds_toArray, List.set_cons_zero, List.set_cons_succ]
        refine wpAnyK_takeD (i := 7) (v := ?_) (some 53) rfl rfl (by kernel_rfl) (by kernel_rfl) (by kernel_rfl) (by kernel_rfl) (by decide) (fun _ _ _ h => h) (by assumption) (Or.inl ⟨by rfl, ?_⟩) ?_
        rotate_left 1
        · intro w' hSw
          have cF := hc w' hSw
          go_simp
          first | done | with_reducible rfl
        simp only [Act.put, List.setIfInBounds_toArray, List.set_cons_zero, List.set_cons_succ]
        refine wpAnyK_takeD (i := 9) (v := ?_) (some 55) rfl rfl (by kernel_rfl) (by kernel_rfl) (by kernel_rfl) (by kernel_rfl) (by decide) (fun _ _ _ h => h) (by assumption) (Or.inl ⟨by rfl, ?_⟩) ?_
        rotate_left 1
        · intro w' hSw
          have cF := hc w' hSw
          go_simp
          first | done | with_reducible rfl
        simp only [Act.put, List.setIfInBounds_toArray, List.set_cons_zero, List.set_cons_succ]
        refine wpAnyK_takeD (i := 10) (v := ?_) (some 56) rfl rfl (by kernel_rfl) (by kernel_rfl) (by kernel_rfl) (by kernel_rfl) (by decide) (fun _ _ _ h => h) (by assumption) (Or.inl ⟨by rfl, ?_⟩) ?_
        rotate_left 1
        · intro w' hSw
          have cF := hc w' hSw
          go_simp
          first | done | with_reducible rfl
        simp only [Act.put, List.setIfInBounds_toArray, List.set_cons_zero, List.set_cons_succ]
        refine wpAnyK_takeD (i := 13) (v := ?_) (some 59) rfl rfl (by kernel_rfl) (by kernel_rfl) (by kernel_rfl) (by kernel_rfl) (by decide) (fun _ _ _ h => h) (by assumption) (Or.inl ⟨by rfl, ?_⟩) ?_
        rotate_left 1
        · intro w' hSw
          have cF := hc w' hSw
          go_simp
          first | done | with_reducible rfl
        simp only [Act.put, List.setIfInBounds_toArray, List.set_cons_zero, List.set_cons_succ]
        refine wpAnyK_takeD (i := 14) (v := ?_) (some 60) rfl rfl (by kernel_rfl) (by kernel_rfl) (by kernel_rfl) (by kernel_rfl) (by decide) (fun _ _ _ h => h) (by assumption) (Or.inl ⟨by rfl, ?_⟩) ?_
        rotate_left 1
        · intro w' hSw
          have cF := hc w' hSw
          go_simp
          first | done | with_reducible rfl
        simp only [Act.put, List.setIfInBounds_toArray, List.set_cons_zero, List.set_cons_succ]
        refine wpAnyK_takeD (i := 15) (v := ?_) (some 61) rfl rfl (by kernel_rfl) (by kernel_rfl) (by kernel_rfl) (by kernel_rfl) (by decide) (fun _ _ _ h => h) (by assumption) (Or.inl ⟨by rfl, ?_⟩) ?_
        rotate_left 1
        · intro w' hSw
          have cF := hc w' hSw
          go_simp
          first | done | with_reducible rfl
        simp only [Act.put, List.setIfInBounds_toArray, List.set_cons_zero, List.set_cons_succ]
        refine wpAnyK_takeD (i := 16) (v := ?_) (some 62) rfl rfl (by kernel_rfl) (by kernel_rfl) (by kernel_rfl) (by kernel_rfl) (by decide) (fun _ _ _ h => h) (by assumption) (Or.inl ⟨by rfl, ?_⟩) ?_
        rotate_left 1
        · intro w' hSw
          have cF := hc w' hSw
          go_simp
          first | done | with_reducible rfl
        simp only [Act.put, List.setIfInBounds_toArray, List.set_cons_zero, List.set_cons_succ]
        refine wpAnyK_takeD (i := 17) (v := ?_) (some 63) rfl rfl (by kernel_rfl) (by kernel_rfl) (by kernel_rfl) (by kernel_rfl) (by decide) (fun _ _ _ h => h) (by assumption) (Or.inl ⟨by rfl, ?_⟩) ?_
        rotate_left 1
        · intro w' hSw
          have cF := hc w' hSw
          go_simp
          first | done | with_reducible rfl
        simp only [Act.put, List.setIfInBounds_toArray, List.set_cons_zero, List.set_cons_succ]
        refine wpAnyK_takeD (i := 18) (v := ?_) (some 64) rfl rfl (by kernel_rfl) (by kernel_rfl) (by kernel_rfl) (by kernel_rfl) (by decide) (fun _ _ _ h => h) (by assumption) (Or.inl ⟨by rfl, ?_⟩) ?_
        rotate_left 1
        · intro w' hSw
          have cF := hc w' hSw
          go_simp
          first | done | with_reducible rfl
        simp only [Act.put, List.setIfInBounds_toArray, List.set_cons_zero, List.set_cons_succ]
        refine wpAnyK_ready (rs := [1, 11]) (by kernel_rfl) (by simp) ?_
        refine AllReadyK.cons rfl (fun K' hK => ?_) ?_
        · go_simp
          have bw6 := hbd.trans ((belowNew w5 (.cells #[] 92)).mono hbd.size)
          have hOw6 : (w5.alloc (.cells #[] 92)).ownsRow wr.heap.size 92 accK.n (.slice (some ⟨w5.heap.size, 0, none⟩) 0 0) 0 [] := World.ownsRow_made w5 #[] 0 hbd.size (by unfold maxLen; omega) (by simp)
          have hsw6 : w5.heap.size < (w5.alloc (.cells #[] 92)).heap.size := by rw [alloc_size]; omega
          obtain ⟨w6, hww6⟩ : ∃ q, w5.alloc (.cells #[] 92) = q := ⟨_, rfl⟩
          rw [hww6] at bw6 hOw6 hsw6 ⊢
          refine hK.out _ _ (fun _ => bw6) ?_
          clear hK K' hww6
          refine wpAnyK_ready (rs := [8, 11]) (by kernel_rfl) (by simp) ?_
          refine AllReadyK.consD (some 54) rfl rfl (fun K' hK => ?_) ?_
          · refine step_ownR (K := accK) w6 (by rfl) _ _ 87 (by rfl) wr.heap.size 92 i0 _ 32 Tryz.underlying87 hi0 hz0 hz1 hz2 hz3 _ _ _ _ _ (by rfl) hOw6 _ _ _ hTl (Nat.zero_add _) (by rfl) (hrT _ bw6) (fun _ => rfl) m1 m2 bw6.size ?_
            intro aw7 cw7 w7 hOw7 hkw7
            have bw7 := bw6.trans (Kept.below hkw7 bw6.size (fun k hk => (hOw6.lt k hk).1))
            refine hK.out _ _ (fun _ => bw7) ?_
            clear hK K' hkw7
            simp only [Act.put, List.setIfInBounds_toArray, List.set_cons_zero, List.set_cons_succ]
            refine wpAnyK_ready (rs := [11]) (by kernel_rfl) (by simp) ?_
            refine AllReadyK.cons rfl (fun K' hK => ?_) ?_
            · go_simp
              have bw8 := bw7.trans ((belowNew w7 (.cells #[.string n, .int .u64 0, .int .u64 0] 92)).mono bw7.size)
              have hRw8 := accOne w7 n
              have hsw8 : w7.heap.size < (w7.alloc (.cells #[.string n, .int .u64 0, .int .u64 0] 92)).heap.size := by rw [alloc_size]; omega
              have hOw8 := own_belowT hOw7 (belowNew w7 (.cells #[.string n, .int .u64 0, .int .u64 0] 92))
              obtain ⟨w8, hww8⟩ : ∃ q, w7.alloc (.cells #[.string n, .int .u64 0, .int .u64 0] 92) = q := ⟨_, rfl⟩
              rw [hww8] at bw8 hRw8 hsw8 hOw8 ⊢
              refine hK.out _ _ (fun _ => bw8) ?_
              clear hK K' hww8
              refine wpAnyK_ready (rs := [12]) (by kernel_rfl) (by simp) ?_
              refine AllReadyK.consD (some 58) rfl rfl (fun K' hK => ?_) ?_
              · refine step_ownR (K := accK) w8 (by rfl) _ _ 87 (by rfl) wr.heap.size 92 i0 _ 32 Tryz.underlying87 hi0 hz0 hz1 hz2 hz3 _ _ _ _ _ (by rfl) hOw8 _ _ _ rfl rfl (by rfl) hRw8 (fun h => by cases h) m3 m4 bw8.size ?_
                intro aw9 cw9 w9 hOw9 hkw9
                have bw9 := bw8.trans (Kept.below hkw9 bw8.size (fun k hk => (hOw8.lt k hk).1))
                refine hK.out _ _ (fun _ => bw9) ?_
                clear hK K' hkw9
                simp only [Act.put, List.setIfInBounds_toArray, List.set_cons_zero, List.set_cons_succ]
                refine wpAnyK_ready (rs := [19]) (by kernel_rfl) (by simp) ?_
                refine AllReadyK.consD (some 65) rfl rfl (fun K' hK => ?_) ?_
                · refine step_ownR (K := accK) w9 (by rfl) _ _ 87 (by rfl) wr.heap.size 92 i0 _ 32 Tryz.underlying87 hi0 hz0 hz1 hz2 hz3 _ _ _ _ _ (by rfl) hOw9 _ _ _ hDl rfl (by rfl) (hrD _ bw9) (fun _ => rfl) m5 m6 bw9.size ?_
                  intro aw10 cw10 w10 hOw10 hkw10
                  have bw10 := bw9.trans (Kept.below hkw10 bw9.size (fun k hk => (hOw9.lt k hk).1))
                  refine hK.out _ _ (fun _ => bw10) ?_
                  clear hK K' hkw10
                  simp only [Act.put, List.setIfInBounds_toArray, List.set_cons_zero, List.set_cons_succ]
                  refine wpAnyK_ready (rs := [20]) (by kernel_rfl) (by simp) ?_
                  refine AllReadyK.cons rfl (fun K' hK => ?_) AllReadyK.nil
                  go_simp
                  refine hK.out _ _ (fun _ => bw10) ?_
                  clear hK K'
                  refine wpAnyK_ready (rs := [21]) (by kernel_rfl) (by simp) ?_
                  refine AllReadyK.cons rfl (fun K' hK => ?_) AllReadyK.nil
                  go_simp
                  refine hK.out _ _ (fun _ => bw10) ?_
                  clear hK K'
                  refine wpAnyK_ready (rs := [22]) (by kernel_rfl) (by simp) ?_
                  refine AllReadyK.cons rfl (fun K' hK => ?_) AllReadyK.nil
                  have cF := hc w10 bw10
                  have fF := (hbox.below bw10 hbox.lt).frozen 0
                  go_simp
                  have hq := KQ.joined (K := accK) (T := 92) (lo := lo) (fun _ _ h => h.elim) (fun _ => trivial) hOw10 HL.out HN.out
                  have fin := hfin.out _ _ _ bw10 hq HL.out hno.out
                  refine hK.out _ _ (fun h => absurd rfl h) ?_
                  clear hK K'
                  refine wpAnyK_done (by kernel_rfl) ?_ _
                  go_wp2
                  go_ret
                  exact ⟨rfl, fin⟩
                exact AllReadyK.nil
              exact AllReadyK.nil
            exact AllReadyK.nil
          refine AllReadyK.cons rfl (fun K' hK => ?_) ?_
          · go_simp
            have bw11 := bw6.trans ((belowNew w6 (.cells #[.string n, .int .u64 0, .int .u64 0] 92)).mono bw6.size)
            have hRw11 := accOne w6 n
            have hsw11 : w6.heap.size < (w6.alloc (.cells #[.string n, .int .u64 0, .int .u64 0] 92)).heap.size := by rw [alloc_size]; omega
            have hOw11 := own_belowT hOw6 (belowNew w6 (.cells #[.string n, .int .u64 0, .int .u64 0] 92))
            obtain ⟨w11, hww11⟩ : ∃ q, w6.alloc (.cells #[.string n, .int .u64 0, .int .u64 0] 92) = q := ⟨_, rfl⟩
            rw [hww11] at bw11 hRw11 hsw11 hOw11 ⊢
            refine hK.out _ _ (fun _ => bw11) ?_
            clear hK K' hww11
            refine wpAnyK_ready (rs := [8]) (by kernel_rfl) (by simp) ?_
            refine AllReadyK.consD (some 54) rfl rfl (fun K' hK => ?_) ?_
            · refine step_ownR (K := accK) w11 (by rfl) _ _ 87 (by rfl) wr.heap.size 92 i0 _ 32 Tryz.underlying87 hi0 hz0 hz1 hz2 hz3 _ _ _ _ _ (by rfl) hOw11 _ _ _ hTl (Nat.zero_add _) (by rfl) (hrT _ bw11) (fun _ => rfl) m1 m2 bw11.size ?_
              intro aw12 cw12 w12 hOw12 hkw12
              have bw12 := bw11.trans (Kept.below hkw12 bw11.size (fun k hk => (hOw11.lt k hk).1))
              have hRw12 := hRw11.kept hkw12 (fun k hk e => by
                rcases hk with ⟨_, off', e'⟩ | ⟨_, _, f'⟩
                · simp at e'
                  simp [Value.ownBlock] at e
                  omega
                · exact f'.elim)
              refine hK.out _ _ (fun _ => bw12) ?_
              clear hK K' hkw12
              simp only [Act.put, List.setIfInBounds_toArray, List.set_cons_zero, List.set_cons_succ]
              refine wpAnyK_ready (rs := [12]) (by kernel_rfl) (by simp) ?_
              refine AllReadyK.consD (some 58) rfl rfl (fun K' hK => ?_) ?_
              · refine step_ownR (K := accK) w12 (by rfl) _ _ 87 (by rfl) wr.heap.size 92 i0 _ 32 Tryz.underlying87 hi0 hz0 hz1 hz2 hz3 _ _ _ _ _ (by rfl) hOw12 _ _ _ rfl rfl (by rfl) hRw12 (fun h => by cases h) m3 m4 bw12.size ?_
                intro aw13 cw13 w13 hOw13 hkw13
                have bw13 := bw12.trans (Kept.below hkw13 bw12.size (fun k hk => (hOw12.lt k hk).1))
                refine hK.out _ _ (fun _ => bw13) ?_
                clear hK K' hkw13
                simp only [Act.put, List.setIfInBounds_toArray, List.set_cons_zero, List.set_cons_succ]
                refine wpAnyK_ready (rs := [19]) (by kernel_rfl) (by simp) ?_
                refine AllReadyK.consD (some 65) rfl rfl (fun K' hK => ?_) ?_
                · refine step_ownR (K := accK) w13 (by rfl) _ _ 87 (by rfl) wr.heap.size 92 i0 _ 32 Tryz.underlying87 hi0 hz0 hz1 hz2 hz3 _ _ _ _ _ (by rfl) hOw13 _ _ _ hDl rfl (by rfl) (hrD _ bw13) (fun _ => rfl) m5 m6 bw13.size ?_
                  intro aw14 cw14 w14 hOw14 hkw14
                  have bw14 := bw13.trans (Kept.below hkw14 bw13.size (fun k hk => (hOw13.lt k hk).1))
                  refine hK.out _ _ (fun _ => bw14) ?_
                  clear hK K' hkw14
                  simp only [Act.put, List.setIfInBounds_toArray, List.set_cons_zero, List.set_cons_succ]
                  refine wpAnyK_ready (rs := [20]) (by kernel_rfl) (by simp) ?_
                  refine AllReadyK.cons rfl (fun K' hK => ?_) AllReadyK.nil
                  go_simp
                  refine hK.out _ _ (fun _ => bw14) ?_
                  clear hK K'
                  refine wpAnyK_ready (rs := [21]) (by kernel_rfl) (by simp) ?_
                  refine AllReadyK.cons rfl (fun K' hK => ?_) AllReadyK.nil
                  go_simp
                  refine hK.out _ _ (fun _ => bw14) ?_
                  clear hK K'
                  refine wpAnyK_ready (rs := [22]) (by kernel_rfl) (by simp) ?_
                  refine AllReadyK.cons rfl (fun K' hK => ?_) AllReadyK.nil
                  have cF := hc w14 bw14
                  have fF := (hbox.below bw14 hbox.lt).frozen 0
                  go_simp
                  have hq := KQ.joined (K := accK) (T := 92) (lo := lo) (fun _ _ h => h.elim) (fun _ => trivial) hOw14 HL.out HN.out
                  have fin := hfin.out _ _ _ bw14 hq HL.out hno.out
                  refine hK.out _ _ (fun h => absurd rfl h) ?_
                  clear hK K'
                  refine wpAnyK_done (by kernel_rfl) ?_ _
                  go_wp2
                  go_ret
                  exact ⟨rfl, fin⟩
                exact AllReadyK.nil
              exact AllReadyK.nil
            exact AllReadyK.nil
          exact AllReadyK.nil
        refine AllReadyK.cons rfl (fun K' hK => ?_) ?_
        · go_simp
          have bw15 := hbd.trans ((belowNew w5 (.cells #[.string n, .int .u64 0, .int .u64 0] 92)).mono hbd.size)
          have hRw15 := accOne w5 n
          have hsw15 : w5.heap.size < (w5.alloc (.cells #[.string n, .int .u64 0, .int .u64 0] 92)).heap.size := by rw [alloc_size]; omega
          obtain ⟨w15, hww15⟩ : ∃ q, w5.alloc (.cells #[.string n, .int .u64 0, .int .u64 0] 92) = q := ⟨_, rfl⟩
          rw [hww15] at bw15 hRw15 hsw15 ⊢
          refine hK.out _ _ (fun _ => bw15) ?_
          clear hK K' hww15
          refine wpAnyK_ready (rs := [1]) (by kernel_rfl) (by simp) ?_
          refine AllReadyK.cons rfl (fun K' hK => ?_) ?_
          · go_simp
            have bw16 := bw15.trans ((belowNew w15 (.cells #[] 92)).mono bw15.size)
            have hOw16 : (w15.alloc (.cells #[] 92)).ownsRow wr.heap.size 92 accK.n (.slice (some ⟨w15.heap.size, 0, none⟩) 0 0) 0 [] := World.ownsRow_made w15 #[] 0 bw15.size (by unfold maxLen; omega) (by simp)
            have hsw16 : w15.heap.size < (w15.alloc (.cells #[] 92)).heap.size := by rw [alloc_size]; omega
            have hRw16 := hRw15.below (belowNew w15 (.cells #[] 92))
            obtain ⟨w16, hww16⟩ : ∃ q, w15.alloc (.cells #[] 92) = q := ⟨_, rfl⟩
            rw [hww16] at bw16 hOw16 hsw16 hRw16 ⊢
            refine hK.out _ _ (fun _ => bw16) ?_
            clear hK K' hww16
            refine wpAnyK_ready (rs := [8]) (by kernel_rfl) (by simp) ?_
            refine AllReadyK.consD (some 54) rfl rfl (fun K' hK => ?_) ?_
            · refine step_ownR (K := accK) w16 (by rfl) _ _ 87 (by rfl) wr.heap.size 92 i0 _ 32 Tryz.underlying87 hi0 hz0 hz1 hz2 hz3 _ _ _ _ _ (by rfl) hOw16 _ _ _ hTl (Nat.zero_add _) (by rfl) (hrT _ bw16) (fun _ => rfl) m1 m2 bw16.size ?_
              intro aw17 cw17 w17 hOw17 hkw17
              have bw17 := bw16.trans (Kept.below hkw17 bw16.size (fun k hk => (hOw16.lt k hk).1))
              have hRw17 := hRw16.kept hkw17 (fun k hk e => by
                rcases hk with ⟨_, off', e'⟩ | ⟨_, _, f'⟩
                · simp at e'
                  simp [Value.ownBlock] at e
                  omega
                · exact f'.elim)
              refine hK.out _ _ (fun _ => bw17) ?_
              clear hK K' hkw17
              simp only [Act.put, List.setIfInBounds_toArray, List.set_cons_zero, List.set_cons_succ]
              refine wpAnyK_ready (rs := [12]) (by kernel_rfl) (by simp) ?_
              refine AllReadyK.consD (some 58) rfl rfl (fun K' hK => ?_) ?_
              · refine step_ownR (K := accK) w17 (by rfl) _ _ 87 (by rfl) wr.heap.size 92 i0 _ 32 Tryz.underlying87 hi0 hz0 hz1 hz2 hz3 _ _ _ _ _ (by rfl) hOw17 _ _ _ rfl rfl (by rfl) hRw17 (fun h => by cases h) m3 m4 bw17.size ?_
                intro aw18 cw18 w18 hOw18 hkw18
                have bw18 := bw17.trans (Kept.below hkw18 bw17.size (fun k hk => (hOw17.lt k hk).1))
                refine hK.out _ _ (fun _ => bw18) ?_
                clear hK K' hkw18
                simp only [Act.put, List.setIfInBounds_toArray, List.set_cons_zero, List.set_cons_succ]
                refine wpAnyK_ready (rs := [19]) (by kernel_rfl) (by simp) ?_
                refine AllReadyK.consD (some 65) rfl rfl (fun K' hK => ?_) ?_
                · refine step_ownR (K := accK) w18 (by rfl) _ _ 87 (by rfl) wr.heap.size 92 i0 _ 32 Tryz.underlying87 hi0 hz0 hz1 hz2 hz3 _ _ _ _ _ (by rfl) hOw18 _ _ _ hDl rfl (by rfl) (hrD _ bw18) (fun _ => rfl) m5 m6 bw18.size ?_
                  intro aw19 cw19 w19 hOw19 hkw19
                  have bw19 := bw18.trans (Kept.below hkw19 bw18.size (fun k hk => (hOw18.lt k hk).1))
                  refine hK.out _ _ (fun _ => bw19) ?_
                  clear hK K' hkw19
                  simp only [Act.put, List.setIfInBounds_toArray, List.set_cons_zero, List.set_cons_succ]
                  refine wpAnyK_ready (rs := [20]) (by kernel_rfl) (by simp) ?_
                  refine AllReadyK.cons rfl (fun K' hK => ?_) AllReadyK.nil
                  go_simp
                  refine hK.out _ _ (fun _ => bw19) ?_
                  clear hK K'
                  refine wpAnyK_ready (rs := [21]) (by kernel_rfl) (by simp) ?_
                  refine AllReadyK.cons rfl (fun K' hK => ?_) AllReadyK.nil
                  go_simp
                  refine hK.out _ _ (fun _ => bw19) ?_
                  clear hK K'
                  refine wpAnyK_ready (rs := [22]) (by kernel_rfl) (by simp) ?_
                  refine AllReadyK.cons rfl (fun K' hK => ?_) AllReadyK.nil
                  have cF := hc w19 bw19
                  have fF := (hbox.below bw19 hbox.lt).frozen 0
                  go_simp
                  have hq := KQ.joined (K := accK) (T := 92) (lo := lo) (fun _ _ h => h.elim) (fun _ => trivial) hOw19 HL.out HN.out
                  have fin := hfin.out _ _ _ bw19 hq HL.out hno.out
                  refine hK.out _ _ (fun h => absurd rfl h) ?_
                  clear hK K'
                  refine wpAnyK_done (by kernel_rfl) ?_ _
                  go_wp2
                  go_ret
                  exact ⟨rfl, fin⟩
                exact AllReadyK.nil
              exact AllReadyK.nil
            exact AllReadyK.nil
          exact AllReadyK.nil
        exact AllReadyK.nil
      | some ad =>
        rcases (by by_cases hcp : cap = i; exact Or.inl hcp; exact Or.inr hcp : cap = i ∨ ¬ cap = i) with hcp | hcp
        · have hci := eq_true hcp
          have hdn : A.drop i = [] := List.drop_of_length_le (by omega)
          have hrD : ∀ U, Below wr.heap.size wr U → RowAt accK U (some ad) (A.drop i) := fun U _ => by rw [hdn]; exact nil_row _ _
          have hnD : Hid (some ad = none → cap - i = 0) := fun h => by cases h
          replace hil2 : Hid _ := hil2
          clear hdn hcp
          go_wp2_with fail
          have hc := fun w' (hb : Below wr.heap.size wr w') => (hbx.below hb hbx.lt).cell (i := 0) rfl
          have hbox := hbx
          have j1 : (0 : Int) ≤ (i : Int) := by omega
          have j2 : (i : Int) ≤ (cap : Int) := by omega
          have j3 : (i : Int) ≤ (A.length : Int) := by omega
          have hTl : (A.take i).length = i := by rw [List.length_take]; omega
          have hDl : (A.drop i).length = A.length - i := List.length_drop
          have hN3 : Hid (i + 1 + (A.length - i) = A.length + 1) := by show i + 1 + (A.length - i) = A.length + 1; omega
          have hrT := fun U (hb : Below wr.heap.size wr U) => (hRow.below hb).take i
          have hnT : Hid _ := hnil
          have m1 : i ≤ maxLen := by unfold maxLen; omega
          have m2 : i * 32 ≤ 140737488355328 := by omega
          have m3 : i + 1 ≤ maxLen := by unfold maxLen; omega
          have m4 : (i + 1) * 32 ≤ 140737488355328 := by omega
          have m5 : A.length + 1 ≤ maxLen := by unfold maxLen; omega
          have m6 : (A.length + 1) * 32 ≤ 140737488355328 := by omega
          obtain ⟨lo, hlo⟩ : ∃ lo, lo = A.take i ++ (n, (0, 0)) :: A.drop i := ⟨_, rfl⟩
          have HL : Hid (lo = A.take i ++ (n, (0, 0)) :: A.drop i) := hlo
          have HN : Hid (A.length + 1 = lo.length) := by
            show A.length + 1 = lo.length
            rw [hlo, List.length_append, List.length_cons, hTl, hDl]
            omega
          clear hlo hnil
          have hbd : Below wr.heap.size wr wr.drew := below_drewN (Below.refl _ wr) 1
          go_wp2_with fail
          refine wp_region_K (fun w' => Below wr.heap.size wr w') 22 (by kernel_rfl) ?_
          generalize wr.drew = w5 at hbd ⊢
          refine wpAnyK_takeD (i := 0) (v := ?_) (some 46) rfl rfl (by kernel_rfl) (by kernel_rfl) (by kernel_rfl) (by kernel_rfl) (by decide) (fun _ _ _ h => h) (by assumption) (Or.inl ⟨by rfl, ?_⟩) ?_
          rotate_left 1
          · intro w' hSw
            have cF := hc w' hSw
            go_simp
            first | done | with_reducible rfl
          simp only [Act.put, List.setIfInBounds_toArray, List.set_cons_zero, List.set_cons_succ]
          refine wpAnyK_takeD (i := 2) (v := ?_) (some 48) rfl rfl (by kernel_rfl) (by kernel_rfl) (by kernel_rfl) (by kernel_rfl) (by decide) (fun _ _ _ h => h) (by assumption) (Or.inl ⟨by rfl, ?_⟩) ?_
          rotate_left 1
          · intro w' hSw
            have cF := hc w' hSw
            go_simp
            first | done | with_reducible rfl
          simp only [Act.put, List.setIfInBounds_toArray, List.set_cons_zero, List.set_cons_succ]
          refine wpAnyK_takeD (i := 3) (v := ?_) (some 49) rfl rfl (by kernel_rfl) (by kernel_rfl) (by kernel_rfl) (by kernel_rfl) (by decide) (fun _ _ _ h => h) (by assumption) (Or.inl ⟨by rfl, ?_⟩) ?_
          rotate_left 1
          · intro w' hSw
            have cF := hc w' hSw
            go_simp
            first | done | with_reducible rfl
          simp only [Act.put, List.setIfInBounds_toArray, List.set_cons_zero, List.set_cons_succ]
          refine wpAnyK_takeD (i := 4) (v := ?_) (some 50) rfl rfl (by kernel_rfl) (by kernel_rfl) (by kernel_rfl) (by kernel_rfl) (by decide) (fun _ _ _ h => h) (by assumption) (Or.inl ⟨by rfl, ?_⟩) ?_
          rotate_left 1
          · intro w' hSw
            have cF := hc w' hSw
            go_simp
            first | done | with_reducible rfl
          simp only [Act.put, List.setIfInBounds_toArray, List.set_cons_zero, List.set_cons_succ]
          refine wpAnyK_takeD (i := 5) (v := ?_) (some 51) rfl rfl (by kernel_rfl) (by kernel_rfl) (by kernel_rfl) (by kernel_rfl) (by decide) (fun _ _ _ h => h) (by assumption) (Or.inl ⟨by rfl, ?_⟩) ?_
          rotate_left 1
          · intro w' hSw
            have cF := hc w' hSw
            go_simp
            first | done | with_reducible rfl
          simp only [Act.put, List.setIfInBounds_toArray, List.set_cons_zero, List.set_cons_succ]
          refine wpAnyK_takeD (i := 6) (v := ?_) (some 52) rfl rfl (by kernel_rfl) (by kernel_rfl) (by kernel_rfl) (by kernel_rfl) (by decide) (fun _ _ _ h => h) (by assumption) (Or.inl ⟨by rfl, ?_⟩) ?_
          rotate_left 1
          · intro w' hSw
            have cF := hc w' hSw
            go_simp
            first | done | with_reducible rfl
          simp only [Act.put, List.setIfInBounds_toArray, List.set_cons_zero, List.set_cons_succ]
          refine wpAnyK_takeD (i := 7) (v := ?_) (some 53) rfl rfl (by kernel_rfl) (by kernel_rfl) (by kernel_rfl) (by kernel_rfl) (by decide) (fun _ _ _ h => h) (by assumption) (Or.inl ⟨by rfl, ?_⟩) ?_
          rotate_left 1
          · intro w' hSw
            have cF := hc w' hSw
            go_simp
            first | done | with_reducible rfl
          simp only [Act.put, List.setIfInBounds_toArray, List.set_cons_zero, List.set_cons_succ]
          refine wpAnyK_takeD (i := 9) (v := ?_) (some 55) rfl rfl (by kernel_rfl) (by kernel_rfl) (by kernel_rfl) (by kernel_rfl) (by decide) (fun _ _ _ h => h) (by assumption) (Or.inl ⟨by rfl, ?_⟩) ?_
          rotate_left 1
          · intro w' hSw
            have cF := hc w' hSw
            go_simp
            first | done | with_reducible rfl
          simp only [Act.put, List.setIfInBounds_toArray, List.set_cons_zero, List.set_cons_succ]
          refine wpAnyK_takeD (i := 10) (v := ?_) (some 56) rfl rfl (by kernel_rfl) (by kernel_rfl) (by kernel_rfl) (by kernel_rfl) (by decide) (fun _ _ _ h => h) (by assumption) (Or.inl ⟨by rfl, ?_⟩) ?_
          rotate_left 1
          · intro w' hSw
            have cF := hc w' hSw
            go_simp
            first | done | with_reducible rfl
          simp only [Act.put, List.setIfInBounds_toArray, List.set_cons_zero, List.set_cons_succ]
          refine wpAnyK_takeD (i := 13) (v := ?_) (some 59) rfl rfl (by kernel_rfl) (by kernel_rfl) (by kernel_rfl) (by kernel_rfl) (by decide) (fun _ _ _ h => h) (by assumption) (Or.inl ⟨by rfl, ?_⟩) ?_
          rotate_left 1
          · intro w' hSw
            have cF := hc w' hSw
            go_simp
            first | done | with_reducible rfl
          simp only [Act.put, List.setIfInBounds_toArray, List.set_cons_zero, List.set_cons_succ]
          refine wpAnyK_takeD (i := 14) (v := ?_) (some 60) rfl rfl (by kernel_rfl) (by kernel_rfl) (by kernel_rfl) (by kernel_rfl) (by decide) (fun _ _ _ h => h) (by assumption) (Or.inl ⟨by rfl, ?_⟩) ?_
          rotate_left 1
          · intro w' hSw
            have cF := hc w' hSw
            go_simp
            first | done | with_reducible rfl
          simp only [Act.put, List.setIfInBounds_toArray, List.set_cons_zero, List.set_cons_succ]
          refine wpAnyK_takeD (i := 15) (v := ?_) (some 61) rfl rfl (by kernel_rfl) (by kernel_rfl) (by kernel_rfl) (by kernel_rfl) (by decide) (fun _ _ _ h => h) (by assumption) (Or.inl ⟨by rfl, ?_⟩) ?_
          rotate_left 1
          · intro w' hSw
            have cF := hc w' hSw
            go_simp
            first | done | with_reducible rfl
          simp only [Act.put, List.setIfInBounds_toArray, List.set_cons_zero, List.set_cons_succ]
          refine wpAnyK_takeD (i := 16) (v := ?_) (some 62) rfl rfl (by kernel_rfl) (by kernel_rfl) (by kernel_rfl) (by kernel_rfl) (by decide) (fun _ _ _ h => h) (by assumption) (Or.inl ⟨by rfl, ?_⟩) ?_
          rotate_left 1
          · intro w' hSw
            have cF := hc w' hSw
            go_simp
            first | done | with_reducible rfl
          simp only [Act.put, List.setIfInBounds_toArray, List.set_cons_zero, List.set_cons_succ]
          refine wpAnyK_takeD (i := 17) (v := ?_) (some 63) rfl rfl (by kernel_rfl) (by kernel_rfl) (by kernel_rfl) (by kernel_rfl) (by decide) (fun _ _ _ h => h) (by assumption) (Or.inl ⟨by rfl, ?_⟩) ?_
          rotate_left 1
          · intro w' hSw
            have cF := hc w' hSw
            go_simp
            first | done | with_reducible rfl
          simp only [Act.put, List.setIfInBounds_toArray, List.set_cons_zero, List.set_cons_succ]
          refine wpAnyK_takeD (i := 18) (v := ?_) (some 64) rfl rfl (by kernel_rfl) (by kernel_rfl) (by kernel_rfl) (by kernel_rfl) (by decide) (fun _ _ _ h => h) (by assumption) (Or.inl ⟨by rfl, ?_⟩) ?_
          rotate_left 1
          · intro w' hSw
            have cF := hc w' hSw
            go_simp
            first | done | with_reducible rfl
          simp only [Act.put, List.setIfInBounds_toArray, List.set_cons_zero, List.set_cons_succ]
          refine wpAnyK_ready (rs := [1, 11]) (by kernel_rfl) (by simp) ?_
          refine AllReadyK.cons rfl (fun K' hK => ?_) ?_
          · go_simp
            have bw6 := hbd.trans ((belowNew w5 (.cells #[] 92)).mono hbd.size)
            have hOw6 : (w5.alloc (.cells #[] 92)).ownsRow wr.heap.size 92 accK.n (.slice (some ⟨w5.heap.size, 0, none⟩) 0 0) 0 [] := World.ownsRow_made w5 #[] 0 hbd.size (by unfold maxLen; omega) (by simp)
            have hsw6 : w5.heap.size < (w5.alloc (.cells #[] 92)).heap.size := by rw [alloc_size]; omega
            obtain ⟨w6, hww6⟩ : ∃ q, w5.alloc (.cells #[] 92) = q := ⟨_, rfl⟩
            rw [hww6] at bw6 hOw6 hsw6 ⊢
            refine hK.out _ _ (fun _ => bw6) ?_
            clear hK K' hww6
            refine wpAnyK_ready (rs := [8, 11]) (by kernel_rfl) (by simp) ?_
            refine AllReadyK.consD (some 54) rfl rfl (fun K' hK => ?_) ?_
            · refine step_ownR (K := accK) w6 (by rfl) _ _ 87 (by rfl) wr.heap.size 92 i0 _ 32 Tryz.underlying87 hi0 hz0 hz1 hz2 hz3 _ _ _ _ _ (by rfl) hOw6 _ _ _ hTl (Nat.zero_add _) (by rfl) (hrT _ bw6) (fun e => hnT.out (by first | exact e | trivial)) m1 m2 bw6.size ?_
              intro aw7 cw7 w7 hOw7 hkw7
              have bw7 := bw6.trans (Kept.below hkw7 bw6.size (fun k hk => (hOw6.lt k hk).1))
              refine hK.out _ _ (fun _ => bw7) ?_
              clear hK K' hkw7
              simp only [Act.put, List.setIfInBounds_toArray, List.set_cons_zero, List.set_cons_succ]
              refine wpAnyK_ready (rs := [11]) (by kernel_rfl) (by simp) ?_
              refine AllReadyK.cons rfl (fun K' hK => ?_) ?_
              · go_simp
                have bw8 := bw7.trans ((belowNew w7 (.cells #[.string n, .int .u64 0, .int .u64 0] 92)).mono bw7.size)
                have hRw8 := accOne w7 n
                have hsw8 : w7.heap.size < (w7.alloc (.cells #[.string n, .int .u64 0, .int .u64 0] 92)).heap.size := by rw [alloc_size]; omega
                have hOw8 := own_belowT hOw7 (belowNew w7 (.cells #[.string n, .int .u64 0, .int .u64 0] 92))
                obtain ⟨w8, hww8⟩ : ∃ q, w7.alloc (.cells #[.string n, .int .u64 0, .int .u64 0] 92) = q := ⟨_, rfl⟩
                rw [hww8] at bw8 hRw8 hsw8 hOw8 ⊢
                refine hK.out _ _ (fun _ => bw8) ?_
                clear hK K' hww8
                refine wpAnyK_ready (rs := [12]) (by kernel_rfl) (by simp) ?_
                refine AllReadyK.consD (some 58) rfl rfl (fun K' hK => ?_) ?_
                · refine step_ownR (K := accK) w8 (by rfl) _ _ 87 (by rfl) wr.heap.size 92 i0 _ 32 Tryz.underlying87 hi0 hz0 hz1 hz2 hz3 _ _ _ _ _ (by rfl) hOw8 _ _ _ rfl rfl (by rfl) hRw8 (fun h => by cases h) m3 m4 bw8.size ?_
                  intro aw9 cw9 w9 hOw9 hkw9
                  have bw9 := bw8.trans (Kept.below hkw9 bw8.size (fun k hk => (hOw8.lt k hk).1))
                  refine hK.out _ _ (fun _ => bw9) ?_
                  clear hK K' hkw9
                  simp only [Act.put, List.setIfInBounds_toArray, List.set_cons_zero, List.set_cons_succ]
                  refine wpAnyK_ready (rs := [19]) (by kernel_rfl) (by simp) ?_
                  refine AllReadyK.consD (some 65) rfl rfl (fun K' hK => ?_) ?_
                  · refine step_ownR (K := accK) w9 (by rfl) _ _ 87 (by rfl) wr.heap.size 92 i0 _ 32 Tryz.underlying87 hi0 hz0 hz1 hz2 hz3 _ _ _ _ _ (by rfl) hOw9 _ _ _ hDl hN3.out (by rfl) (hrD _ bw9) (fun e => hnD.out (by first | exact e | trivial)) m5 m6 bw9.size ?_
                    intro aw10 cw10 w10 hOw10 hkw10
                    have bw10 := bw9.trans (Kept.below hkw10 bw9.size (fun k hk => (hOw9.lt k hk).1))
                    refine hK.out _ _ (fun _ => bw10) ?_
                    clear hK K' hkw10
                    simp only [Act.put, List.setIfInBounds_toArray, List.set_cons_zero, List.set_cons_succ]
                    refine wpAnyK_ready (rs := [20]) (by kernel_rfl) (by simp) ?_
                    refine AllReadyK.cons rfl (fun K' hK => ?_) AllReadyK.nil
                    go_simp
                    refine hK.out _ _ (fun _ => bw10) ?_
                    clear hK K'
                    refine wpAnyK_ready (rs := [21]) (by kernel_rfl) (by simp) ?_
                    refine AllReadyK.cons rfl (fun K' hK => ?_) AllReadyK.nil
                    go_simp
                    refine hK.out _ _ (fun _ => bw10) ?_
                    clear hK K'
                    refine wpAnyK_ready (rs := [22]) (by kernel_rfl) (by simp) ?_
                    refine AllReadyK.cons rfl (fun K' hK => ?_) AllReadyK.nil
                    have cF := hc w10 bw10
                    have fF := (hbox.below bw10 hbox.lt).frozen 0
                    go_simp
                    have hq := KQ.joined (K := accK) (T := 92) (lo := lo) (fun _ _ h => h.elim) (fun _ => trivial) hOw10 HL.out HN.out
                    have fin := hfin.out _ _ _ bw10 hq HL.out hno.out
                    refine hK.out _ _ (fun h => absurd rfl h) ?_
                    clear hK K'
                    refine wpAnyK_done (by kernel_rfl) ?_ _
                    go_wp2
                    go_ret
                    exact ⟨rfl, fin⟩
                  exact AllReadyK.nil
                exact AllReadyK.nil
              exact AllReadyK.nil
            refine AllReadyK.cons rfl (fun K' hK => ?_) ?_
            · go_simp
              have bw11 := bw6.trans ((belowNew w6 (.cells #[.string n, .int .u64 0, .int .u64 0] 92)).mono bw6.size)
              have hRw11 := accOne w6 n
              have hsw11 : w6.heap.size < (w6.alloc (.cells #[.string n, .int .u64 0, .int .u64 0] 92)).heap.size := by rw [alloc_size]; omega
              have hOw11 := own_belowT hOw6 (belowNew w6 (.cells #[.string n, .int .u64 0, .int .u64 0] 92))
              obtain ⟨w11, hww11⟩ : ∃ q, w6.alloc (.cells #[.string n, .int .u64 0, .int .u64 0] 92) = q := ⟨_, rfl⟩
              rw [hww11] at bw11 hRw11 hsw11 hOw11 ⊢
              refine hK.out _ _ (fun _ => bw11) ?_
              clear hK K' hww11
              refine wpAnyK_ready (rs := [8]) (by kernel_rfl) (by simp) ?_
              refine AllReadyK.consD (some 54) rfl rfl (fun K' hK => ?_) ?_
              · refine step_ownR (K := accK) w11 (by rfl) _ _ 87 (by rfl) wr.heap.size 92 i0 _ 32 Tryz.underlying87 hi0 hz0 hz1 hz2 hz3 _ _ _ _ _ (by rfl) hOw11 _ _ _ hTl (Nat.zero_add _) (by rfl) (hrT _ bw11) (fun e => hnT.out (by first | exact e | trivial)) m1 m2 bw11.size ?_
                intro aw12 cw12 w12 hOw12 hkw12
                have bw12 := bw11.trans (Kept.below hkw12 bw11.size (fun k hk => (hOw11.lt k hk).1))
                have hRw12 := hRw11.kept hkw12 (fun k hk e => by
                  rcases hk with ⟨_, off', e'⟩ | ⟨_, _, f'⟩
                  · simp at e'
                    simp [Value.ownBlock] at e
                    omega
                  · exact f'.elim)
                refine hK.out _ _ (fun _ => bw12) ?_
                clear hK K' hkw12
                simp only [Act.put, List.setIfInBounds_toArray, List.set_cons_zero, List.set_cons_succ]
                refine wpAnyK_ready (rs := [12]) (by kernel_rfl) (by simp) ?_
                refine AllReadyK.consD (some 58) rfl rfl (fun K' hK => ?_) ?_
                · refine step_ownR (K := accK) w12 (by rfl) _ _ 87 (by rfl) wr.heap.size 92 i0 _ 32 Tryz.underlying87 hi0 hz0 hz1 hz2 hz3 _ _ _ _ _ (by rfl) hOw12 _ _ _ rfl rfl (by rfl) hRw12 (fun h => by cases h) m3 m4 bw12.size ?_
                  intro aw13 cw13 w13 hOw13 hkw13
                  have bw13 := bw12.trans (Kept.below hkw13 bw12.size (fun k hk => (hOw12.lt k hk).1))
                  refine hK.out _ _ (fun _ => bw13) ?_
                  clear hK K' hkw13
                  simp only [Act.put, List.setIfInBounds_toArray, List.set_cons_zero, List.set_cons_succ]
                  refine wpAnyK_ready (rs := [19]) (by kernel_rfl) (by simp) ?_
                  refine AllReadyK.consD (some 65) rfl rfl (fun K' hK => ?_) ?_
                  · refine step_ownR (K := accK) w13 (by rfl) _ _ 87 (by rfl) wr.heap.size 92 i0 _ 32 Tryz.underlying87 hi0 hz0 hz1 hz2 hz3 _ _ _ _ _ (by rfl) hOw13 _ _ _ hDl hN3.out (by rfl) (hrD _ bw13) (fun e => hnD.out (by first | exact e | trivial)) m5 m6 bw13.size ?_
                    intro aw14 cw14 w14 hOw14 hkw14
                    have bw14 := bw13.trans (Kept.below hkw14 bw13.size (fun k hk => (hOw13.lt k hk).1))
                    refine hK.out _ _ (fun _ => bw14) ?_
                    clear hK K' hkw14
                    simp only [Act.put, List.setIfInBounds_toArray, List.set_cons_zero, List.set_cons_succ]
                    refine wpAnyK_ready (rs := [20]) (by kernel_rfl) (by simp) ?_
                    refine AllReadyK.cons rfl (fun K' hK => ?_) AllReadyK.nil
                    go_simp
                    refine hK.out _ _ (fun _ => bw14) ?_
                    clear hK K'
                    refine wpAnyK_ready (rs := [21]) (by kernel_rfl) (by simp) ?_
                    refine AllReadyK.cons rfl (fun K' hK => ?_) AllReadyK.nil
                    go_simp
                    refine hK.out _ _ (fun _ => bw14) ?_
                    clear hK K'
                    refine wpAnyK_ready (rs := [22]) (by kernel_rfl) (by simp) ?_
                    refine AllReadyK.cons rfl (fun K' hK => ?_) AllReadyK.nil
                    have cF := hc w14 bw14
                    have fF := (hbox.below bw14 hbox.lt).frozen 0
                    go_simp
                    have hq := KQ.joined (K := accK) (T := 92) (lo := lo) (fun _ _ h => h.elim) (fun _ => trivial) hOw14 HL.out HN.out
                    have fin := hfin.out _ _ _ bw14 hq HL.out hno.out
                    refine hK.out _ _ (fun h => absurd rfl h) ?_
                    clear hK K'
                    refine wpAnyK_done (by kernel_rfl) ?_ _
                    go_wp2
                    go_ret
                    exact ⟨rfl, fin⟩
                  exact AllReadyK.nil
                exact AllReadyK.nil
              exact AllReadyK.nil
            exact AllReadyK.nil
          refine AllReadyK.cons rfl (fun K' hK => ?_) ?_
          · go_simp
            have bw15 := hbd.trans ((belowNew w5 (.cells #[.string n, .int .u64 0, .int .u64 0] 92)).mono hbd.size)
            have hRw15 := accOne w5 n
            have hsw15 : w5.heap.size < (w5.alloc (.cells #[.string n, .int .u64 0, .int .u64 0] 92)).heap.size := by rw [alloc_size]; omega
            obtain ⟨w15, hww15⟩ : ∃ q, w5.alloc (.cells #[.string n, .int .u64 0, .int .u64 0] 92) = q := ⟨_, rfl⟩
            rw [hww15] at bw15 hRw15 hsw15 ⊢
            refine hK.out _ _ (fun _ => bw15) ?_
            clear hK K' hww15
            refine wpAnyK_ready (rs := [1]) (by kernel_rfl) (by simp) ?_
            refine AllReadyK.cons rfl (fun K' hK => ?_) ?_
            · go_simp
              have bw16 := bw15.trans ((belowNew w15 (.cells #[] 92)).mono bw15.size)
              have hOw16 : (w15.alloc (.cells #[] 92)).ownsRow wr.heap.size 92 accK.n (.slice (some ⟨w15.heap.size, 0, none⟩) 0 0) 0 [] := World.ownsRow_made w15 #[] 0 bw15.size (by unfold maxLen; omega) (by simp)
              have hsw16 : w15.heap.size < (w15.alloc (.cells #[] 92)).heap.size := by rw [alloc_size]; omega
              have hRw16 := hRw15.below (belowNew w15 (.cells #[] 92))
              obtain ⟨w16, hww16⟩ : ∃ q, w15.alloc (.cells #[] 92) = q := ⟨_, rfl⟩
              rw [hww16] at bw16 hOw16 hsw16 hRw16 ⊢
              refine hK.out _ _ (fun _ => bw16) ?_
              clear hK K' hww16
              refine wpAnyK_ready (rs := [8]) (by kernel_rfl) (by simp) ?_
              refine AllReadyK.consD (some 54) rfl rfl (fun K' hK => ?_) ?_
              · refine step_ownR (K := accK) w16 (by rfl) _ _ 87 (by rfl) wr.heap.size 92 i0 _ 32 Tryz.underlying87 hi0 hz0 hz1 hz2 hz3 _ _ _ _ _ (by rfl) hOw16 _ _ _ hTl (Nat.zero_add _) (by rfl) (hrT _ bw16) (fun e => hnT.out (by first | exact e | trivial)) m1 m2 bw16.size ?_
                intro aw17 cw17 w17 hOw17 hkw17
                have bw17 := bw16.trans (Kept.below hkw17 bw16.size (fun k hk => (hOw16.lt k hk).1))
                have hRw17 := hRw16.kept hkw17 (fun k hk e => by
                  rcases hk with ⟨_, off', e'⟩ | ⟨_, _, f'⟩
                  · simp at e'
                    simp [Value.ownBlock] at e
                    omega
                  · exact f'.elim)
                refine hK.out _ _ (fun _ => bw17) ?_
                clear hK K' hkw17
                simp only [Act.put, List.setIfInBounds_toArray, List.set_cons_zero, List.set_cons_succ]
                refine wpAnyK_ready (rs := [12]) (by kernel_rfl) (by simp) ?_
                refine AllReadyK.consD (some 58) rfl rfl (fun K' hK => ?_) ?_
                · refine step_ownR (K := accK) w17 (by rfl) _ _ 87 (by rfl) wr.heap.size 92 i0 _ 32 Tryz.underlying87 hi0 hz0 hz1 hz2 hz3 _ _ _ _ _ (by rfl) hOw17 _ _ _ rfl rfl (by rfl) hRw17 (fun h => by cases h) m3 m4 bw17.size ?_
                  intro aw18 cw18 w18 hOw18 hkw18
                  have bw18 := bw17.trans (Kept.below hkw18 bw17.size (fun k hk => (hOw17.lt k hk).1))
                  refine hK.out _ _ (fun _ => bw18) ?_
                  clear hK K' hkw18
                  simp only [Act.put, List.setIfInBounds_toArray, List.set_cons_zero, List.set_cons_succ]
                  refine wpAnyK_ready (rs := [19]) (by kernel_rfl) (by simp) ?_
                  refine AllReadyK.consD (some 65) rfl rfl (fun K' hK => ?_) ?_
                  · refine step_ownR (K := accK) w18 (by rfl) _ _ 87 (by rfl) wr.heap.size 92 i0 _ 32 Tryz.underlying87 hi0 hz0 hz1 hz2 hz3 _ _ _ _ _ (by rfl) hOw18 _ _ _ hDl hN3.out (by rfl) (hrD _ bw18) (fun e => hnD.out (by first | exact e | trivial)) m5 m6 bw18.size ?_
                    intro aw19 cw19 w19 hOw19 hkw19
                    have bw19 := bw18.trans (Kept.below hkw19 bw18.size (fun k hk => (hOw18.lt k hk).1))
                    refine hK.out _ _ (fun _ => bw19) ?_
                    clear hK K' hkw19
                    simp only [Act.put, List.setIfInBounds_toArray, List.set_cons_zero, List.set_cons_succ]
                    refine wpAnyK_ready (rs := [20]) (by kernel_rfl) (by simp) ?_
                    refine AllReadyK.cons rfl (fun K' hK => ?_) AllReadyK.nil
                    go_simp
                    refine hK.out _ _ (fun _ => bw19) ?_
                    clear hK K'
                    refine wpAnyK_ready (rs := [21]) (by kernel_rfl) (by simp) ?_
                    refine AllReadyK.cons rfl (fun K' hK => ?_) AllReadyK.nil
                    go_simp
                    refine hK.out _ _ (fun _ => bw19) ?_
                    clear hK K'
                    refine wpAnyK_ready (rs := [22]) (by kernel_rfl) (by simp) ?_
                    refine AllReadyK.cons rfl (fun K' hK => ?_) AllReadyK.nil
                    have cF := hc w19 bw19
                    have fF := (hbox.below bw19 hbox.lt).frozen 0
                    go_simp
                    have hq := KQ.joined (K := accK) (T := 92) (lo := lo) (fun _ _ h => h.elim) (fun _ => trivial) hOw19 HL.out HN.out
                    have fin := hfin.out _ _ _ bw19 hq HL.out hno.out
                    refine hK.out _ _ (fun h => absurd rfl h) ?_
                    clear hK K'
                    refine wpAnyK_done (by kernel_rfl) ?_ _
                    go_wp2
                    go_ret
                    exact ⟨rfl, fin⟩
                  exact AllReadyK.nil
                exact AllReadyK.nil
              exact AllReadyK.nil
            exact AllReadyK.nil
          exact AllReadyK.nil
        · have hci := eq_false hcp
          obtain ⟨b, off, an⟩ := ad
          obtain rfl : an = none := hpn (by omega) _ rfl
          have hrD : ∀ U, Below wr.heap.size wr U → RowAt accK U (some ⟨b, off + i * 3, none⟩) (A.drop i) := fun U hb => (hRow.below hb).dropG i
          have hnD : Hid (some (⟨b, off + i * 3, none⟩ : Addr) = none → cap - i = 0) := fun h => by cases h
          replace hil2 : Hid _ := hil2
          clear hcp
          go_wp2_with fail
          have hc := fun w' (hb : Below wr.heap.size wr w') => (hbx.below hb hbx.lt).cell (i := 0) rfl
          have hbox := hbx
          have j1 : (0 : Int) ≤ (i : Int) := by omega
          have j2 : (i : Int) ≤ (cap : Int) := by omega
          have j3 : (i : Int) ≤ (A.length : Int) := by omega
          have hTl : (A.take i).length = i := by rw [List.length_take]; omega
          have hDl : (A.drop i).length = A.length - i := List.length_drop
          have hN3 : Hid (i + 1 + (A.length - i) = A.length + 1) := by show i + 1 + (A.length - i) = A.length + 1; omega
          have hrT := fun U (hb : Below wr.heap.size wr U) => (hRow.below hb).take i
          have hnT : Hid _ := hnil
          have m1 : i ≤ maxLen := by unfold maxLen; omega
          have m2 : i * 32 ≤ 140737488355328 := by omega
          have m3 : i + 1 ≤ maxLen := by unfold maxLen; omega
          have m4 : (i + 1) * 32 ≤ 140737488355328 := by omega
          have m5 : A.length + 1 ≤ maxLen := by unfold maxLen; omega
          have m6 : (A.length + 1) * 32 ≤ 140737488355328 := by omega
          obtain ⟨lo, hlo⟩ : ∃ lo, lo = A.take i ++ (n, (0, 0)) :: A.drop i := ⟨_, rfl⟩
          have HL : Hid (lo = A.take i ++ (n, (0, 0)) :: A.drop i) := hlo
          have HN : Hid (A.length + 1 = lo.length) := by
            show A.length + 1 = lo.length
            rw [hlo, List.length_append, List.length_cons, hTl, hDl]
            omega
          clear hlo hnil
          have hbd : Below wr.heap.size wr wr.drew := below_drewN (Below.refl _ wr) 1
          go_wp2_with fail
          refine wp_region_K (fun w' => Below wr.heap.size wr w') 22 (by kernel_rfl) ?_
          generalize wr.drew = w5 at hbd ⊢
          refine wpAnyK_takeD (i := 0) (v := ?_) (some 46) rfl rfl (by kernel_rfl) (by kernel_rfl) (by kernel_rfl) (by kernel_rfl) (by decide) (fun _ _ _ h => h) (by assumption) (Or.inl ⟨by rfl, ?_⟩) ?_
          rotate_left 1
          · intro w' hSw
            have cF := hc w' hSw
            go_simp
            first | done | with_reducible rfl
          simp only [Act.put, List.setIfInBounds_toArray, List.set_cons_zero, List.set_cons_succ]
          refine wpAnyK_takeD (i := 2) (v := ?_) (some 48) rfl rfl (by kernel_rfl) (by kernel_rfl) (by kernel_rfl) (by kernel_rfl) (by decide) (fun _ _ _ h => h) (by assumption) (Or.inl ⟨by rfl, ?_⟩) ?_
          rotate_left 1
          · intro w' hSw
            have cF := hc w' hSw
            go_simp
            first | done | with_reducible rfl
          simp only [Act.put, List.setIfInBounds_toArray, List.set_cons_zero, List.set_cons_succ]
          refine wpAnyK_takeD (i := 3) (v := ?_) (some 49) rfl rfl (by kernel_rfl) (by kernel_rfl) (by kernel_rfl) (by kernel_rfl) (by decide) (fun _ _ _ h => h) (by assumption) (Or.inl ⟨by rfl, ?_⟩) ?_
          rotate_left 1
          · intro w' hSw
            have cF := hc w' hSw
            go_simp
            first | done | with_reducible rfl
          simp only [Act.put, List.setIfInBounds_toArray, List.set_cons_zero, List.set_cons_succ]
          refine wpAnyK_takeD (i := 4) (v := ?_) (some 50) rfl rfl (by kernel_rfl) (by kernel_rfl) (by kernel_rfl) (by kernel_rfl) (by decide) (fun _ _ _ h => h) (by assumption) (Or.inl ⟨by rfl, ?_⟩) ?_
          rotate_left 1
          · intro w' hSw
            have cF := hc w' hSw
            go_simp
            first | done | with_reducible rfl
          simp only [Act.put, List.setIfInBounds_toArray, List.set_cons_zero, List.set_cons_succ]
          refine wpAnyK_takeD (i := 5) (v := ?_) (some 51) rfl rfl (by kernel_rfl) (by kernel_rfl) (by kernel_rfl) (by kernel_rfl) (by decide) (fun _ _ _ h => h) (by assumption) (Or.inl ⟨by rfl, ?_⟩) ?_
          rotate_left 1
          · intro w' hSw
            have cF := hc w' hSw
            go_simp
            first | done | with_reducible rfl
          simp only [Act.put, List.setIfInBounds_toArray, List.set_cons_zero, List.set_cons_succ]
          refine wpAnyK_takeD (i := 6) (v := ?_) (some 52) rfl rfl (by kernel_rfl) (by kernel_rfl) (by kernel_rfl) (by kernel_rfl) (by decide) (fun _ _ _ h => h) (by assumption) (Or.inl ⟨by rfl, ?_⟩) ?_
          rotate_left 1
          · intro w' hSw
            have cF := hc w' hSw
            go_simp
            first | done | with_reducible rfl
          simp only [Act.put, List.setIfInBounds_toArray, List.set_cons_zero, List.set_cons_succ]
          refine wpAnyK_takeD (i := 7) (v := ?_) (some 53) rfl rfl (by kernel_rfl) (by kernel_rfl) (by kernel_rfl) (by kernel_rfl) (by decide) (fun _ _ _ h => h) (by assumption) (Or.inl ⟨by rfl, ?_⟩) ?_
          rotate_left 1
          · intro w' hSw
            have cF := hc w' hSw
            go_simp
            first | done | with_reducible rfl
          simp only [Act.put, List.setIfInBounds_toArray, List.set_cons_zero, List.set_cons_succ]
          refine wpAnyK_takeD (i := 9) (v := ?_) (some 55) rfl rfl (by kernel_rfl) (by kernel_rfl) (by kernel_rfl) (by kernel_rfl) (by decide) (fun _ _ _ h => h) (by assumption) (Or.inl ⟨by rfl, ?_⟩) ?_
          rotate_left 1
          · intro w' hSw
            have cF := hc w' hSw
            go_simp
            first | done | with_reducible rfl
          simp only [Act.put, List.setIfInBounds_toArray, List.set_cons_zero, List.set_cons_succ]
          refine wpAnyK_takeD (i := 10) (v := ?_) (some 56) rfl rfl (by kernel_rfl) (by kernel_rfl) (by kernel_rfl) (by kernel_rfl) (by decide) (fun _ _ _ h => h) (by assumption) (Or.inl ⟨by rfl, ?_⟩) ?_
          rotate_left 1
          · intro w' hSw
            have cF := hc w' hSw
            go_simp
            first | done | with_reducible rfl
          simp only [Act.put, List.setIfInBounds_toArray, List.set_cons_zero, List.set_cons_succ]
          refine wpAnyK_takeD (i := 13) (v := ?_) (some 59) rfl rfl (by kernel_rfl) (by kernel_rfl) (by kernel_rfl) (by kernel_rfl) (by decide) (fun _ _ _ h => h) (by assumption) (Or.inl ⟨by rfl, ?_⟩) ?_
          rotate_left 1
          · intro w' hSw
            have cF := hc w' hSw
            go_simp
            first | done | with_reducible rfl
          simp only [Act.put, List.setIfInBounds_toArray, List.set_cons_zero, List.set_cons_succ]
          refine wpAnyK_takeD (i := 14) (v := ?_) (some 60) rfl rfl (by kernel_rfl) (by kernel_rfl) (by kernel_rfl) (by kernel_rfl) (by decide) (fun _ _ _ h => h) (by assumption) (Or.inl ⟨by rfl, ?_⟩) ?_
          rotate_left 1
          · intro w' hSw
            have cF := hc w' hSw
            go_simp
            first | done | with_reducible rfl
          simp only [Act.put, List.setIfInBounds_toArray, List.set_cons_zero, List.set_cons_succ]
          refine wpAnyK_takeD (i := 15) (v := ?_) (some 61) rfl rfl (by kernel_rfl) (by kernel_rfl) (by kernel_rfl) (by kernel_rfl) (by decide) (fun _ _ _ h => h) (by assumption) (Or.inl ⟨by rfl, ?_⟩) ?_
          rotate_left 1
          · intro w' hSw
            have cF := hc w' hSw
            go_simp
            first | done | with_reducible rfl
          simp only [Act.put, List.setIfInBounds_toArray, List.set_cons_zero, List.set_cons_succ]
          refine wpAnyK_takeD (i := 16) (v := ?_) (some 62) rfl rfl (by kernel_rfl) (by kernel_rfl) (by kernel_rfl) (by kernel_rfl) (by decide) (fun _ _ _ h => h) (by assumption) (Or.inl ⟨by rfl, ?_⟩) ?_
          rotate_left 1
          · intro w' hSw
            have cF := hc w' hSw
            go_simp
            first | done | with_reducible rfl
          simp only [Act.put, List.setIfInBounds_toArray, List.set_cons_zero, List.set_cons_succ]
          refine wpAnyK_takeD (i := 17) (v := ?_) (some 63) rfl rfl (by kernel_rfl) (by kernel_rfl) (by kernel_rfl) (by kernel_rfl) (by decide) (fun _ _ _ h => h) (by assumption) (Or.inl ⟨by rfl, ?_⟩) ?_
          rotate_left 1
          · intro w' hSw
            have cF := hc w' hSw
            go_simp
            first | done | with_reducible rfl
          simp only [Act.put, List.setIfInBounds_toArray, List.set_cons_zero, List.set_cons_succ]
          refine wpAnyK_takeD (i := 18) (v := ?_) (some 64) rfl rfl (by kernel_rfl) (by kernel_rfl) (by kernel_rfl) (by kernel_rfl) (by decide) (fun _ _ _ h => h) (by assumption) (Or.inl ⟨by rfl, ?_⟩) ?_
          rotate_left 1
          · intro w' hSw
            have cF := hc w' hSw
            go_simp
            first | done | with_reducible rfl
          simp only [Act.put, List.setIfInBounds_toArray, List.set_cons_zero, List.set_cons_succ]
          refine wpAnyK_ready (rs := [1, 11]) (by kernel_rfl) (by simp) ?_
          refine AllReadyK.cons rfl (fun K' hK => ?_) ?_
          · go_simp
            have bw6 := hbd.trans ((belowNew w5 (.cells #[] 92)).mono hbd.size)
            have hOw6 : (w5.alloc (.cells #[] 92)).ownsRow wr.heap.size 92 accK.n (.slice (some ⟨w5.heap.size, 0, none⟩) 0 0) 0 [] := World.ownsRow_made w5 #[] 0 hbd.size (by unfold maxLen; omega) (by simp)
            have hsw6 : w5.heap.size < (w5.alloc (.cells #[] 92)).heap.size := by rw [alloc_size]; omega
            obtain ⟨w6, hww6⟩ : ∃ q, w5.alloc (.cells #[] 92) = q := ⟨_, rfl⟩
            rw [hww6] at bw6 hOw6 hsw6 ⊢
            refine hK.out _ _ (fun _ => bw6) ?_
            clear hK K' hww6
            refine wpAnyK_ready (rs := [8, 11]) (by kernel_rfl) (by simp) ?_
            refine AllReadyK.consD (some 54) rfl rfl (fun K' hK => ?_) ?_
            · refine step_ownR (K := accK) w6 (by rfl) _ _ 87 (by rfl) wr.heap.size 92 i0 _ 32 Tryz.underlying87 hi0 hz0 hz1 hz2 hz3 _ _ _ _ _ (by rfl) hOw6 _ _ _ hTl (Nat.zero_add _) (by rfl) (hrT _ bw6) (fun e => hnT.out (by first | exact e | trivial)) m1 m2 bw6.size ?_
              intro aw7 cw7 w7 hOw7 hkw7
              have bw7 := bw6.trans (Kept.below hkw7 bw6.size (fun k hk => (hOw6.lt k hk).1))
              refine hK.out _ _ (fun _ => bw7) ?_
              clear hK K' hkw7
              simp only [Act.put, List.setIfInBounds_toArray, List.set_cons_zero, List.set_cons_succ]
              refine wpAnyK_ready (rs := [11]) (by kernel_rfl) (by simp) ?_
              refine AllReadyK.cons rfl (fun K' hK => ?_) ?_
              · go_simp
                have bw8 := bw7.trans ((belowNew w7 (.cells #[.string n, .int .u64 0, .int .u64 0] 92)).mono bw7.size)
                have hRw8 := accOne w7 n
                have hsw8 : w7.heap.size < (w7.alloc (.cells #[.string n, .int .u64 0, .int .u64 0] 92)).heap.size := by rw [alloc_size]; omega
                have hOw8 := own_belowT hOw7 (belowNew w7 (.cells #[.string n, .int .u64 0, .int .u64 0] 92))
                obtain ⟨w8, hww8⟩ : ∃ q, w7.alloc (.cells #[.string n, .int .u64 0, .int .u64 0] 92) = q := ⟨_, rfl⟩
                rw [hww8] at bw8 hRw8 hsw8 hOw8 ⊢
                refine hK.out _ _ (fun _ => bw8) ?_
                clear hK K' hww8
                refine wpAnyK_ready (rs := [12]) (by kernel_rfl) (by simp) ?_
                refine AllReadyK.consD (some 58) rfl rfl (fun K' hK => ?_) ?_
                · refine step_ownR (K := accK) w8 (by rfl) _ _ 87 (by rfl) wr.heap.size 92 i0 _ 32 Tryz.underlying87 hi0 hz0 hz1 hz2 hz3 _ _ _ _ _ (by rfl) hOw8 _ _ _ rfl rfl (by rfl) hRw8 (fun h => by cases h) m3 m4 bw8.size ?_
                  intro aw9 cw9 w9 hOw9 hkw9
                  have bw9 := bw8.trans (Kept.below hkw9 bw8.size (fun k hk => (hOw8.lt k hk).1))
                  refine hK.out _ _ (fun _ => bw9) ?_
                  clear hK K' hkw9
                  simp only [Act.put, List.setIfInBounds_toArray, List.set_cons_zero, List.set_cons_succ]
                  refine wpAnyK_ready (rs := [19]) (by kernel_rfl) (by simp) ?_
                  refine AllReadyK.consD (some 65) rfl rfl (fun K' hK => ?_) ?_
                  · refine step_ownR (K := accK) w9 (by rfl) _ _ 87 (by rfl) wr.heap.size 92 i0 _ 32 Tryz.underlying87 hi0 hz0 hz1 hz2 hz3 _ _ _ _ _ (by rfl) hOw9 _ _ _ hDl hN3.out (by rfl) (hrD _ bw9) (fun e => hnD.out (by first | exact e | trivial)) m5 m6 bw9.size ?_
                    intro aw10 cw10 w10 hOw10 hkw10
                    have bw10 := bw9.trans (Kept.below hkw10 bw9.size (fun k hk => (hOw9.lt k hk).1))
                    refine hK.out _ _ (fun _ => bw10) ?_
                    clear hK K' hkw10
                    simp only [Act.put, List.setIfInBounds_toArray, List.set_cons_zero, List.set_cons_succ]
                    refine wpAnyK_ready (rs := [20]) (by kernel_rfl) (by simp) ?_
                    refine AllReadyK.cons rfl (fun K' hK => ?_) AllReadyK.nil
                    go_simp
                    refine hK.out _ _ (fun _ => bw10) ?_
                    clear hK K'
                    refine wpAnyK_ready (rs := [21]) (by kernel_rfl) (by simp) ?_
                    refine AllReadyK.cons rfl (fun K' hK => ?_) AllReadyK.nil
                    go_simp
                    refine hK.out _ _ (fun _ => bw10) ?_
                    clear hK K'
                    refine wpAnyK_ready (rs := [22]) (by kernel_rfl) (by simp) ?_
                    refine AllReadyK.cons rfl (fun K' hK => ?_) AllReadyK.nil
                    have cF := hc w10 bw10
                    have fF := (hbox.below bw10 hbox.lt).frozen 0
                    go_simp
                    have hq := KQ.joined (K := accK) (T := 92) (lo := lo) (fun _ _ h => h.elim) (fun _ => trivial) hOw10 HL.out HN.out
                    have fin := hfin.out _ _ _ bw10 hq HL.out hno.out
                    refine hK.out _ _ (fun h => absurd rfl h) ?_
                    clear hK K'
                    refine wpAnyK_done (by kernel_rfl) ?_ _
                    go_wp2
                    go_ret
                    exact ⟨rfl, fin⟩
                  exact AllReadyK.nil
                exact AllReadyK.nil
              exact AllReadyK.nil
            refine AllReadyK.cons rfl (fun K' hK => ?_) ?_
            · go_simp
              have bw11 := bw6.trans ((belowNew w6 (.cells #[.string n, .int .u64 0, .int .u64 0] 92)).mono bw6.size)
              have hRw11 := accOne w6 n
              have hsw11 : w6.heap.size < (w6.alloc (.cells #[.string n, .int .u64 0, .int .u64 0] 92)).heap.size := by rw [alloc_size]; omega
              have hOw11 := own_belowT hOw6 (belowNew w6 (.cells #[.string n, .int .u64 0, .int .u64 0] 92))
              obtain ⟨w11, hww11⟩ : ∃ q, w6.alloc (.cells #[.string n, .int .u64 0, .int .u64 0] 92) = q := ⟨_, rfl⟩
              rw [hww11] at bw11 hRw11 hsw11 hOw11 ⊢
              refine hK.out _ _ (fun _ => bw11) ?_
              clear hK K' hww11
              refine wpAnyK_ready (rs := [8]) (by kernel_rfl) (by simp) ?_
              refine AllReadyK.consD (some 54) rfl rfl (fun K' hK => ?_) ?_
              · refine step_ownR (K := accK) w11 (by rfl) _ _ 87 (by rfl) wr.heap.size 92 i0 _ 32 Tryz.underlying87 hi0 hz0 hz1 hz2 hz3 _ _ _ _ _ (by rfl) hOw11 _ _ _ hTl (Nat.zero_add _) (by rfl) (hrT _ bw11) (fun e => hnT.out (by first | exact e | trivial)) m1 m2 bw11.size ?_
                intro aw12 cw12 w12 hOw12 hkw12
                have bw12 := bw11.trans (Kept.below hkw12 bw11.size (fun k hk => (hOw11.lt k hk).1))
                have hRw12 := hRw11.kept hkw12 (fun k hk e => by
                  rcases hk with ⟨_, off', e'⟩ | ⟨_, _, f'⟩
                  · simp at e'
                    simp [Value.ownBlock] at e
                    omega
                  · exact f'.elim)
                refine hK.out _ _ (fun _ => bw12) ?_
                clear hK K' hkw12
                simp only [Act.put, List.setIfInBounds_toArray, List.set_cons_zero, List.set_cons_succ]
                refine wpAnyK_ready (rs := [12]) (by kernel_rfl) (by simp) ?_
                refine AllReadyK.consD (some 58) rfl rfl (fun K' hK => ?_) ?_
                · refine step_ownR (K := accK) w12 (by rfl) _ _ 87 (by rfl) wr.heap.size 92 i0 _ 32 Tryz.underlying87 hi0 hz0 hz1 hz2 hz3 _ _ _ _ _ (by rfl) hOw12 _ _ _ rfl rfl (by rfl) hRw12 (fun h => by cases h) m3 m4 bw12.size ?_
                  intro aw13 cw13 w13 hOw13 hkw13
                  have bw13 := bw12.trans (Kept.below hkw13 bw12.size (fun k hk => (hOw12.lt k hk).1))
                  refine hK.out _ _ (fun _ => bw13) ?_
                  clear hK K' hkw13
                  simp only [Act.put, List.setIfInBounds_toArray, List.set_cons_zero, List.set_cons_succ]
                  refine wpAnyK_ready (rs := [19]) (by kernel_rfl) (by simp) ?_
                  refine AllReadyK.consD (some 65) rfl rfl (fun K' hK => ?_) ?_
                  · refine step_ownR (K := accK) w13 (by rfl) _ _ 87 (by rfl) wr.heap.size 92 i0 _ 32 Tryz.underlying87 hi0 hz0 hz1 hz2 hz3 _ _ _ _ _ (by rfl) hOw13 _ _ _ hDl hN3.out (by rfl) (hrD _ bw13) (fun e => hnD.out (by first | exact e | trivial)) m5 m6 bw13.size ?_
                    intro aw14 cw14 w14 hOw14 hkw14
                    have bw14 := bw13.trans (Kept.below hkw14 bw13.size (fun k hk => (hOw13.lt k hk).1))
                    refine hK.out _ _ (fun _ => bw14) ?_
                    clear hK K' hkw14
                    simp only [Act.put, List.setIfInBounds_toArray, List.set_cons_zero, List.set_cons_succ]
                    refine wpAnyK_ready (rs := [20]) (by kernel_rfl) (by simp) ?_
                    refine AllReadyK.cons rfl (fun K' hK => ?_) AllReadyK.nil
                    go_simp
                    refine hK.out _ _ (fun _ => bw14) ?_
                    clear hK K'
                    refine wpAnyK_ready (rs := [21]) (by kernel_rfl) (by simp) ?_
                    refine AllReadyK.cons rfl (fun K' hK => ?_) AllReadyK.nil
                    go_simp
                    refine hK.out _ _ (fun _ => bw14) ?_
                    clear hK K'
                    refine wpAnyK_ready (rs := [22]) (by kernel_rfl) (by simp) ?_
                    refine AllReadyK.cons rfl (fun K' hK => ?_) AllReadyK.nil
                    have cF := hc w14 bw14
                    have fF := (hbox.below bw14 hbox.lt).frozen 0
                    go_simp
                    have hq := KQ.joined (K := accK) (T := 92) (lo := lo) (fun _ _ h => h.elim) (fun _ => trivial) hOw14 HL.out HN.out
                    have fin := hfin.out _ _ _ bw14 hq HL.out hno.out
                    refine hK.out _ _ (fun h => absurd rfl h) ?_
                    clear hK K'
                    refine wpAnyK_done (by kernel_rfl) ?_ _
                    go_wp2
                    go_ret
                    exact ⟨rfl, fin⟩
                  exact AllReadyK.nil
                exact AllReadyK.nil
              exact AllReadyK.nil
            exact AllReadyK.nil
          refine AllReadyK.cons rfl (fun K' hK => ?_) ?_
          · go_simp
            have bw15 := hbd.trans ((belowNew w5 (.cells #[.string n, .int .u64 0, .int .u64 0] 92)).mono hbd.size)
            have hRw15 := accOne w5 n
            have hsw15 : w5.heap.size < (w5.alloc (.cells #[.string n, .int .u64 0, .int .u64 0] 92)).heap.size := by rw [alloc_size]; omega
            obtain ⟨w15, hww15⟩ : ∃ q, w5.alloc (.cells #[.string n, .int .u64 0, .int .u64 0] 92) = q := ⟨_, rfl⟩
            rw [hww15] at bw15 hRw15 hsw15 ⊢
            refine hK.out _ _ (fun _ => bw15) ?_
            clear hK K' hww15
            refine wpAnyK_ready (rs := [1]) (by kernel_rfl) (by simp) ?_
            refine AllReadyK.cons rfl (fun K' hK => ?_) ?_
            · go_simp
              have bw16 := bw15.trans ((belowNew w15 (.cells #[] 92)).mono bw15.size)
              have hOw16 : (w15.alloc (.cells #[] 92)).ownsRow wr.heap.size 92 accK.n (.slice (some ⟨w15.heap.size, 0, none⟩) 0 0) 0 [] := World.ownsRow_made w15 #[] 0 bw15.size (by unfold maxLen; omega) (by simp)
              have hsw16 : w15.heap.size < (w15.alloc (.cells #[] 92)).heap.size := by rw [alloc_size]; omega
              have hRw16 := hRw15.below (belowNew w15 (.cells #[] 92))
              obtain ⟨w16, hww16⟩ : ∃ q, w15.alloc (.cells #[] 92) = q := ⟨_, rfl⟩
              rw [hww16] at bw16 hOw16 hsw16 hRw16 ⊢
              refine hK.out _ _ (fun _ => bw16) ?_
              clear hK K' hww16
              refine wpAnyK_ready (rs := [8]) (by kernel_rfl) (by simp) ?_
              refine AllReadyK.consD (some 54) rfl rfl (fun K' hK => ?_) ?_
              · refine step_ownR (K := accK) w16 (by rfl) _ _ 87 (by rfl) wr.heap.size 92 i0 _ 32 Tryz.underlying87 hi0 hz0 hz1 hz2 hz3 _ _ _ _ _ (by rfl) hOw16 _ _ _ hTl (Nat.zero_add _) (by rfl) (hrT _ bw16) (fun e => hnT.out (by first | exact e | trivial)) m1 m2 bw16.size ?_
                intro aw17 cw17 w17 hOw17 hkw17
                have bw17 := bw16.trans (Kept.below hkw17 bw16.size (fun k hk => (hOw16.lt k hk).1))
                have hRw17 := hRw16.kept hkw17 (fun k hk e => by
                  rcases hk with ⟨_, off', e'⟩ | ⟨_, _, f'⟩
                  · simp at e'
                    simp [Value.ownBlock] at e
                    omega
                  · exact f'.elim)
                refine hK.out _ _ (fun _ => bw17) ?_
                clear hK K' hkw17
                simp only [Act.put, List.setIfInBounds_toArray, List.set_cons_zero, List.set_cons_succ]
                refine wpAnyK_ready (rs := [12]) (by kernel_rfl) (by simp) ?_
                refine AllReadyK.consD (some 58) rfl rfl (fun K' hK => ?_) ?_
                · refine step_ownR (K := accK) w17 (by rfl) _ _ 87 (by rfl) wr.heap.size 92 i0 _ 32 Tryz.underlying87 hi0 hz0 hz1 hz2 hz3 _ _ _ _ _ (by rfl) hOw17 _ _ _ rfl rfl (by rfl) hRw17 (fun h => by cases h) m3 m4 bw17.size ?_
                  intro aw18 cw18 w18 hOw18 hkw18
                  have bw18 := bw17.trans (Kept.below hkw18 bw17.size (fun k hk => (hOw17.lt k hk).1))
                  refine hK.out _ _ (fun _ => bw18) ?_
                  clear hK K' hkw18
                  simp only [Act.put, List.setIfInBounds_toArray, List.set_cons_zero, List.set_cons_succ]
                  refine wpAnyK_ready (rs := [19]) (by kernel_rfl) (by simp) ?_
                  refine AllReadyK.consD (some 65) rfl rfl (fun K' hK => ?_) ?_
                  · refine step_ownR (K := accK) w18 (by rfl) _ _ 87 (by rfl) wr.heap.size 92 i0 _ 32 Tryz.underlying87 hi0 hz0 hz1 hz2 hz3 _ _ _ _ _ (by rfl) hOw18 _ _ _ hDl hN3.out (by rfl) (hrD _ bw18) (fun e => hnD.out (by first | exact e | trivial)) m5 m6 bw18.size ?_
                    intro aw19 cw19 w19 hOw19 hkw19
                    have bw19 := bw18.trans (Kept.below hkw19 bw18.size (fun k hk => (hOw18.lt k hk).1))
                    refine hK.out _ _ (fun _ => bw19) ?_
                    clear hK K' hkw19
                    simp only [Act.put, List.setIfInBounds_toArray, List.set_cons_zero, List.set_cons_succ]
                    refine wpAnyK_ready (rs := [20]) (by kernel_rfl) (by simp) ?_
                    refine AllReadyK.cons rfl (fun K' hK => ?_) AllReadyK.nil
                    go_simp
                    refine hK.out _ _ (fun _ => bw19) ?_
                    clear hK K'
                    refine wpAnyK_ready (rs := [21]) (by kernel_rfl) (by simp) ?_
                    refine AllReadyK.cons rfl (fun K' hK => ?_) AllReadyK.nil
                    go_simp
                    refine hK.out _ _ (fun _ => bw19) ?_
                    clear hK K'
                    refine wpAnyK_ready (rs := [22]) (by kernel_rfl) (by simp) ?_
                    refine AllReadyK.cons rfl (fun K' hK => ?_) AllReadyK.nil
                    have cF := hc w19 bw19
                    have fF := (hbox.below bw19 hbox.lt).frozen 0
                    go_simp
                    have hq := KQ.joined (K := accK) (T := 92) (lo := lo) (fun _ _ h => h.elim) (fun _ => trivial) hOw19 HL.out HN.out
                    have fin := hfin.out _ _ _ bw19 hq HL.out hno.out
                    refine hK.out _ _ (fun h => absurd rfl h) ?_
                    clear hK K'
                    refine wpAnyK_done (by kernel_rfl) ?_ _
                    go_wp2
                    go_ret
                    exact ⟨rfl, fin⟩
                  exact AllReadyK.nil
                exact AllReadyK.nil
              exact AllReadyK.nil
            exact AllReadyK.nil
          exact AllReadyK.nil
end
end Go.Proofs.YtajpfkenhchafaaGreatDoor
