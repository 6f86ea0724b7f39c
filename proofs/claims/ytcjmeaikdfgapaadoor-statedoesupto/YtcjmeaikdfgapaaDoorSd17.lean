/- Texts as one: RefStaNew. -/
import Derived.Test.YtcjmeaikdfgapaaDoorSd16
import Derived.Test.YtcjmeaikdfgapaaDoorSd07
import Derived.Test.YtcjmeaikdfgapaaDoorSd14
/- What the reference's New does; Account, Value, Apply of its blocks. -/
namespace Go.Proofs.YtcjmeaikdfgapaaDoor
open Go Go.RowKit
set_option linter.unusedVariables false

section
variable {w : World} {rb : Nat} {S : Nat → Prop} {s : StF} {N : Nat}

theorem rsAccount_any (n : ByteArray) (h : RS w rb S s N) (hN : N ≤ 100000) :
    Calls Tryd.prog 17 #[.pointer (some ⟨rb, 0, none⟩), .string n] w fun e w' => e = .returned (.tuple #[.int .u64 ((s.acc n).1 : Int), .int .u64 ((s.acc n).2 : Int)]) ∧ Below w.heap.size w w' := by
  obtain ⟨qa, qv, A, V, h1, hM, -⟩ := h.ex
  have := rsAccount_at n h1 (by have := hM.la; omega)
  rw [hM.acc n] at this
  exact this

theorem rsValue_any (n : ByteArray) (h : RS w rb S s N) (hN : N ≤ 100000) :
    Calls Tryd.prog 19 #[.pointer (some ⟨rb, 0, none⟩), .string n] w fun e w' => e = .returned (.tuple #[.string ((s.val n).getD ⟨#[]⟩), .bool (s.val n).isSome]) ∧ Below w.heap.size w w' := by
  obtain ⟨qa, qv, A, V, h1, hM, -⟩ := h.ex
  have := rsValue_at n h1 (by have := hM.lv; omega)
  rw [hM.val n] at this
  exact this

theorem rsApply_any (x : TxM) (hA : x.At w) (hs : TxSizes x.d) (hn : x.d.ws.length ≤ 500) (h : RS w rb S s N) (hN : N ≤ 100000) :
    Calls Tryd.prog 15 #[.pointer (some ⟨rb, 0, none⟩), x.v] w fun e w' => e = .returned (.int .i64 (applyE s x.d : Nat)) ∧ ∃ S', RS w' rb S' (applyF s x.d) (N + 2) ∧ FreshS w S S' ∧ Kept S w w' := by
  by_cases hz : applyE s x.d = 0
  · refine (rsApply_yes x hA hs hn h hN hz).mono ?_
    rintro e w' ⟨rfl, h2⟩
    exact ⟨by rw [hz]; rfl, h2⟩
  · refine (rsApply_no x hA hs hn h hN hz).mono ?_
    rintro e w' ⟨rfl, h2⟩
    exact ⟨rfl, S, by rw [applyF_no hz]; exact (h.below h2).mono (Nat.le_add_right _ _), fun k e => Or.inl e, Kept.of_below h2⟩
end

/-- A new state of the reference's is handed back. -/
def GotStateR (W : World) (s : StF) (N : Nat) (e : Ending) (w : World) : Prop :=
  ∃ rb S, e = .returned (.pointer (some ⟨rb, 0, none⟩)) ∧ RS w rb S s N ∧ (∀ b, S b → W.heap.size ≤ b) ∧ Below W.heap.size W w

theorem RM.nil (N : Nat) : RM [] [] ⟨fun _ => (0, 0), fun _ => none⟩ N :=
  ⟨List.Pairwise.nil, List.Pairwise.nil, fun _ => rfl, fun _ => rfl, Nat.zero_le _, Nat.zero_le _, by have := (StOk.new [] 0).mono (Nat.zero_le N); rwa [newF_none] at this⟩

theorem RSt.nil (w : World) : RSt (w.alloc (.cells #[.slice none 0 0, .slice none 0 0] 59)) w.heap.size (.slice none 0 0) (.slice none 0 0) [] [] :=
  ⟨Arr.new w 59 [.slice none 0 0, .slice none 0 0], KQ.empty _ _ _ _, KQ.empty _ _ _ _, fun k e => by cases e⟩

set_option maxRecDepth 100000 in
set_option maxHeartbeats 4000000 in
theorem refNew22_any (rich : List ByteArray) (ao : Option Addr) (cp : Nat) (funds : Nat) (w : World) (hR : RowAt strK w ao rich) (hz : ∀ s ∈ rich, s.size ≤ maxLen) (hl : rich.length ≤ 1000) :
    Calls Tryd.prog 10 #[.slice ao rich.length cp, .int .u64 (funds : Int)] w fun e w' => GotStateR w (newF rich funds) rich.length e w' := by
  have h0 := RSt.nil w
  have hb0 := belowNew w (.cells #[.slice none 0 0, .slice none 0 0] 59)
  have hM0 : RM [] [] (newF (rich.take 0) funds) 0 := by rw [List.take_zero, newF_none]; exact RM.nil 0
  have hfin : Hid (newF rich funds = newF (rich.take rich.length) funds) := by show newF rich funds = _; rw [List.take_length]
  obtain ⟨wi, hwi⟩ : ∃ q, Hid (w.alloc (.cells #[.slice none 0 0, .slice none 0 0] 59) = q) := ⟨_, rfl⟩
  go_enter Tryd.func10, Tryd.ntmps10
  go_wp2_with fail
  rw [hwi.out] at h0 hb0
  go_loopw [6, 7] (fun v6 _ wr => ∃ (i : Nat) (qa : Value) (A : List (ByteArray × (Nat × Nat))), i ≤ rich.length ∧ v6 = .int .i64 (i : Int) ∧ RSt wr w.heap.size qa (.slice none 0 0) A [] ∧ RM A [] (newF (rich.take i) funds) i ∧ Below w.heap.size w wr) (fun v _ _ => rich.length - (intOf v).toNat)
  case atStart => exact ⟨0, _, _, Nat.zero_le _, rfl, by rw [hwi.out]; exact h0, hM0, by rw [hwi.out]; exact hb0⟩
  case round =>
    obtain ⟨i, qa, A, hi, rfl, hP, hM, hb⟩ := hrel
    clear h0 hb0 hM0
    by_cases hil : i < rich.length
    · have g2 : (i : Int) < (rich.length : Int) := by omega
      obtain ⟨x, hx⟩ : ∃ p, rich[i]? = some p := ⟨_, List.getElem?_eq_getElem hil⟩
      obtain ⟨b2, off, hao, hbl0, hcell0⟩ := hR.strs i (by exact hil)
      have hxi : rich[i] = x := (List.getElem?_eq_some_iff.1 hx).2
      rw [hxi] at hcell0
      subst hao
      have hcW : ∀ w', Below w.heap.size w w' → w'.cell? ⟨b2, off + i, none⟩ = some (.string x) := fun w' hw' => by rw [cell_same (hw'.block _ hbl0)]; exact hcell0
      have hid := hz x (List.mem_of_getElem? hx)
      have hnx : Hid _ := newF_step rich funds hx
      have hok := (StOk.new (rich.take (i + 1)) funds).mono (Nat.zero_le (i + 1))
      have cN := fun w1 => refName_any x w1 hid
      obtain ⟨bb, hbb⟩ : ∃ q, Hid (isNm x = q) := ⟨_, rfl⟩
      rw [hbb.out] at cN
      have hcell := hcW wr hb
      clear hxi hx hbl0 hcell0
      go_wp2_with fail
      refine (cN _).mono ?_
      rintro e w1 ⟨rfl, rfl⟩
      clear cN
      cases bb with
      | false =>
        have hM2 : RM A [] (newF (rich.take (i + 1)) funds) (i + 1) := ⟨hM.ra, hM.rv, fun n => by rw [hM.acc n, hnx.out n, if_neg (by rw [hbb.out]; decide)], fun n => rfl, Nat.le_succ_of_le hM.la, Nat.zero_le _, hok⟩
        clear hnx hM hcell
        go_wp2
        go_roundw
        case rel => exact ⟨i + 1, qa, A, by omega, by go_num, hP, hM2, hb⟩
        case measure => simp [intOf]; omega
      | true =>
        have hRA : RA A (newF (rich.take i) funds).acc i := ⟨hM.ra, hM.acc, hM.la⟩
        have cT := rsAt_at x hP hM.ra (by have := hM.la; omega)
        obtain ⟨hRA5, hx5⟩ := hRA.at x
        obtain ⟨k, hk⟩ : ∃ k, Hid (kAt A x = k) := ⟨_, rfl⟩
        obtain ⟨A1, hA1⟩ : ∃ A1, Hid (atL A x = A1) := ⟨_, rfl⟩
        rw [hk.out] at cT hx5
        rw [hA1.out] at cT hRA5 hx5
        have h2z : ((newF (rich.take i) funds).acc x).2 = 0 := by
          unfold newF
          simp only
          split <;> rfl
        obtain ⟨u1, hu1⟩ : ∃ q, Hid (((newF (rich.take i) funds).acc x).1 = q) := ⟨_, rfl⟩
        have hpu : (newF (rich.take i) funds).acc x = (u1, 0) := by rw [← hu1.out, ← h2z]
        rw [hpu] at hx5
        have hacc : Hid (∀ n, pnF (newF (rich.take i) funds).acc x (min funds 4611686018427387903, 0) n = (newF (rich.take (i + 1)) funds).acc n) := fun n => by rw [hnx.out n, if_pos hbb.out]
        have hRA5' : Hid _ := hRA5
        have hx5' : Hid _ := hx5
        clear hRA hk hA1 hpu h2z hM hnx hRA5 hx5
        go_wp2_with fail
        refine cT.mono ?_
        rintro e w2 ⟨rfl, qa2, h2, hf2, hk2⟩
        have hb2 := hb.trans (hk2.below hb.size (fun j e => by
          have e' : j = w.heap.size := e
          omega))
        obtain ⟨g, off2, cap, rfl, hgl, hgF, c1, c2, hfz, hs1, hs2⟩ := h2.setA hx5'.out
        have c0 := h2.box.cell (i := 0) rfl
        have hkl := (List.getElem?_eq_some_iff.1 hx5'.out).1
        have g1 : (k : Int) < (A1.length : Int) := by omega
        have hfz1 := hfz (off2 + k * 3 + 1)
        have h3 := hs1 (min funds 4611686018427387903)
        obtain ⟨hRA6, -⟩ := hRA5'.out.set hx5'.out (min funds 4611686018427387903, 0)
        have hM2 : RM (A1.set k (x, (min funds 4611686018427387903, 0))) [] (newF (rich.take (i + 1)) funds) (i + 1) := ⟨hRA6.rise, List.Pairwise.nil, fun n => by rw [hRA6.acc n]; exact hacc.out n, fun n => rfl, hRA6.len, Nat.zero_le _, hok⟩
        have hgw : w.heap.size ≤ g := by
          rcases hgF with e | e | e
          · omega
          · have := (h2.ra.lt g e).1; omega
          · cases e
        have hb3 := hb2.trans ((Kept.setCell w2 ⟨g, off2 + k * 3 + 1, none⟩ (.int .u64 ((min funds 4611686018427387903 : Nat) : Int))).below hb2.size (fun j e => by rw [show j = g from e]; exact hgw))
        have hmv := minV funds
        have hl1 : A1.length = (A1.set k (x, (min funds 4611686018427387903, 0))).length := by rw [List.length_set]
        have h3' : Hid _ := h3
        have hb3' : Hid _ := hb3
        have hM2' : Hid _ := hM2
        clear cT hk2 hf2 hs1 hs2 hfz hRA6 hacc hb2 h3 hb3 hM2 hRA5' hx5' hP hb hcell hl1
        go_wp2_with fail
        go_roundw
        case rel => exact ⟨i + 1, _, _, by omega, by go_num, h3'.out, hM2'.out, hb3'.out⟩
        case measure => simp [intOf]; omega
    · have g2 : ¬ (i : Int) < (rich.length : Int) := by omega
      have hir : i = rich.length := by omega
      rw [hir, ← hfin.out] at hM
      clear hir hi hil
      go_wp2
      go_ret
      refine ⟨w.heap.size, RFt w.heap.size qa (.slice none 0 0), rfl, ⟨⟨_, _, _, _, hP, hM, fun k e => e⟩, fun k e => hP.ltF e, fun k e => ?_⟩, fun k e => ?_, hb⟩
      all_goals
        rcases e with e | e | e
        · omega
        · have := (hP.ra.lt k e).1; omega
        · cases e
end Go.Proofs.YtcjmeaikdfgapaaDoor
