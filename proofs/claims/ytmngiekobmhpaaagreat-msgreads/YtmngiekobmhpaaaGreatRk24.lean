/- MsgReads: for every input the statement answers true, and each argument reads afterwards as it read before. No condition. -/
import Derived.Deep.RegionHeld
import Derived.Test.YtmngiekobmhpaaaGreatRk17
import Derived.Test.YtmngiekobmhpaaaGreatRk20
import Derived.Test.YtmngiekobmhpaaaGreatRk23
import Derived.Test.YtmngiekobmhpaaaGreatRk18
import Derived.Test.YtmngiekobmhpaaaGreatRk02
/- A region that draws its order, walked by hand under a condition that holds behind every operation: the slot under a letter. -/
namespace Go.Proofs.YtmngiekobmhpaaaGreat
open Go

section
variable {P : Program} {ops : Array Oper} {Q : Exit → Act → World → Prop} {md : Region.Mode} {S : World → Prop}

theorem wpAnyH_takeD {i : Nat} {oi : Oper} {v : Value} {fuel : Nat} {listed : Array Bool} {a : Act} {w : World} (d : Option Nat) (hi : ops[i]? = some oi) (hd : oi.dst = d)
    (hs : Region.noSelect ops = true) (hf : Region.free md ops listed i = true) (hr : (Region.ready md ops listed).contains i = true)
    (hQ : ∀ c a w, Q (.panic c) (a.put d v) w → Q (.panic c) a w) (hy : YieldsIf P ops S oi v a) (hS : S w)
    (h : wpAnyH P md ops Q S fuel (listed.setIfInBounds i true) (a.put d v) w) : wpAnyH P md ops Q S (fuel + 1) listed a w := by
  subst hd
  exact wpAnyH_take hi hs hf hr hQ hy hS h
end
end Go.Proofs.YtmngiekobmhpaaaGreat

/- What the reference's Decode (tuskref09) does; nothing old in memory is turned. -/
namespace Go.Proofs.YtmngiekobmhpaaaGreat
open Go.RowKit Go.Sort
set_option linter.unusedVariables false

theorem fieldsK_len3 (k : Int) : (fieldsK k).length ≤ 3 := by
  by_cases h : fieldsK k = []
  · rw [h]; simp
  · rcases kind_cases h with rfl | rfl | rfl | rfl | rfl | rfl | rfl | rfl | rfl | rfl | rfl <;> decide

set_option maxRecDepth 100000 in
set_option maxHeartbeats 16000000 in
theorem refMsgDecode_any (s : ByteArray) (W : World) (hs : s.size ≤ maxLen) :
    Calls Tryz.prog 7 #[.string s] W fun e w' => GotMsg W (decM s.data.toList) e w' := by
  obtain ⟨hZ0, hR0, hB0⟩ := two_new W 39 62 [.int .i64 0, .string ⟨#[]⟩, .int .i64 0, .int .i64 0, .string ⟨#[]⟩, .int .i64 0, .int .i64 0, .slice none 0 0, .int .i64 0, .int .i64 0, .slice none 0 0, .slice none 0 0, .int .i64 0, .int .i64 0, .slice none 0 0, .slice none 0 0, .slice none 0 0, .int .i64 0, .int .i64 0, .string ⟨#[]⟩, .slice none 0 0, .slice none 0 0, .int .i64 0, .string ⟨#[]⟩, .slice none 0 0] [.string s, .int .i64 0]
  have hz1 : (List.toArray (α := Value) [.int .i64 0, .string ⟨#[]⟩, .int .i64 0, .int .i64 0, .string ⟨#[]⟩, .int .i64 0, .int .i64 0, .slice none 0 0, .int .i64 0, .int .i64 0, .slice none 0 0, .slice none 0 0, .int .i64 0, .int .i64 0, .slice none 0 0, .slice none 0 0, .slice none 0 0, .int .i64 0, .int .i64 0, .string ⟨#[]⟩, .slice none 0 0, .slice none 0 0, .int .i64 0, .string ⟨#[]⟩, .slice none 0 0]).all (·.oneCell') = true := Array.all_eq_true_iff_forall_mem.2 (fun v hv => msgK.one (msg0 0) v (List.mem_toArray.1 hv))
  obtain ⟨out, hout⟩ : ∃ o, Hid (o = decM s.data.toList) := ⟨_, rfl⟩
  rw [← hout.out]
  obtain ⟨w0, hw0⟩ : ∃ q', (W.alloc (.cells [.int .i64 0, .string ⟨#[]⟩, .int .i64 0, .int .i64 0, .string ⟨#[]⟩, .int .i64 0, .int .i64 0, .slice none 0 0, .int .i64 0, .int .i64 0, .slice none 0 0, .slice none 0 0, .int .i64 0, .int .i64 0, .slice none 0 0, .slice none 0 0, .slice none 0 0, .int .i64 0, .int .i64 0, .string ⟨#[]⟩, .slice none 0 0, .slice none 0 0, .int .i64 0, .string ⟨#[]⟩, .slice none 0 0].toArray 39)).alloc (.cells [.string s, .int .i64 0].toArray 62) = q' := ⟨_, rfl⟩
  rw [hw0] at hZ0 hR0 hB0
  have cI := inInt_k (W.heap.size + 1) w0 s 0 hR0 hs
  obtain ⟨rb, hrb⟩ : ∃ n, W.heap.size + 1 = n := ⟨_, rfl⟩
  rw [hrb] at cI hR0
  have hWr : W.heap.size < rb := by omega
  go_enter Tryz.func7, Tryz.ntmps7
  go_wp2_with fail
  refine cI.mono ?_
  rintro e w1 ⟨v, E, r1, rfl, hvM, hrs, hst0, hR1, k1⟩
  have hst := runX_or (r := .error 0) (hst0 _ (fun k l => if fieldsK (k : Int) = [] then .error 5 else rdFs (fieldsK (k : Int)) (msgZ (k : Int)) l finM))
  have hst2 : Hid ((E = 0 ∧ out = if fieldsK (v : Int) = [] then .error 5 else rdFs (fieldsK (v : Int)) (msgZ (v : Int)) r1.data.toList finM) ∨ (E ≠ 0 ∧ out = .error E)) := by
    show _ ∨ _
    rw [hout.out]
    exact hst
  have hZ1 := hZ0.kept k1 (by show ¬ W.heap.size = rb; omega)
  have hB1 := hB0.trans (k1.below hB0.size (fun k hk => by rw [hk]; omega))
  clear cI hst0 hst hout hZ0 hR0 hB0 k1 hw0 hrb hs
  by_cases hE : E ≠ 0
  · have ho : Hid (out = .error E) := by
      rcases hst2.out with h | h
      · exact absurd h.1 hE
      · exact h.2
    have hRa := hR1
    have hZa := hZ1
    have hBa := hB1
    have u1 := hR1.cell (i := 1) rfl
    clear hst2 hR1 hZ1 hB1
    have hbx := belowNew w1 (.cells [.int .i64 (v : Int), .string ⟨#[]⟩, .int .i64 0, .int .i64 0, .string ⟨#[]⟩, .int .i64 0, .int .i64 0, .slice none 0 0, .int .i64 0, .int .i64 0, .slice none 0 0, .slice none 0 0, .int .i64 0, .int .i64 0, .slice none 0 0, .slice none 0 0, .slice none 0 0, .int .i64 0, .int .i64 0, .string ⟨#[]⟩, .slice none 0 0, .slice none 0 0, .int .i64 0, .string ⟨#[]⟩, .slice none 0 0].toArray 39)
    have hRb := hRa.below hbx hRa.lt
    have hZb := hZa.below hbx hZa.lt
    have hBb := hBa.trans (hbx.mono hBa.size)
    have cE := inEnd_k rb _ r1 E hRb
    rw [if_neg (fun h => hE h.1)] at cE
    have hE1 : ((E : Int) == 0) = false := by rw [beq_eq_false_iff_ne]; have := hE; omega
    have hE2 : ((E : Int) != 0) = true := by rw [bne_iff_ne]; have := hE; omega
    have ub := hRb.cell (i := 1) rfl
    clear hRa hZa hBa hbx
    go_wp2_with fail
    refine cE.mono ?_
    rintro e wc ⟨rfl, hRc, kc⟩
    have hZc := hZb.kept kc (by show ¬ W.heap.size = rb; omega)
    have hBc := hBb.trans (kc.below hBb.size (fun k hk => by rw [hk]; omega))
    clear cE hRb hZb hBb kc ub
    have u1 := hRc.cell (i := 1) rfl
    have hZd : Arr wc.drew W.heap.size 39 [.int .i64 0, .string ⟨#[]⟩, .int .i64 0, .int .i64 0, .string ⟨#[]⟩, .int .i64 0, .int .i64 0, .slice none 0 0, .int .i64 0, .int .i64 0, .slice none 0 0, .slice none 0 0, .int .i64 0, .int .i64 0, .slice none 0 0, .slice none 0 0, .slice none 0 0, .int .i64 0, .int .i64 0, .string ⟨#[]⟩, .slice none 0 0, .slice none 0 0, .int .i64 0, .string ⟨#[]⟩, .slice none 0 0] := hZc.drewN 1
    have hBd : Below W.heap.size W wc.drew := below_drewN hBc 1
    have hRd : Arr wc.drew rb 62 [.string _, .int .i64 (E : Int)] := hRc.drewN 1
    have kr := kept_row wc.drew W.heap.size [.int .i64 0, .string ⟨#[]⟩, .int .i64 0, .int .i64 0, .string ⟨#[]⟩, .int .i64 0, .int .i64 0, .slice none 0 0, .int .i64 0, .int .i64 0, .slice none 0 0, .slice none 0 0, .int .i64 0, .int .i64 0, .slice none 0 0, .slice none 0 0, .slice none 0 0, .int .i64 0, .int .i64 0, .string ⟨#[]⟩, .slice none 0 0, .slice none 0 0, .int .i64 0, .string ⟨#[]⟩, .slice none 0 0].toArray
    have hRe := hRd.kept kr (by show ¬ rb = W.heap.size; omega)
    have hSd : (wc.drew).cell? ⟨rb, 1, none⟩ = some (.int .i64 (E : Int)) := hRd.cell (i := 1) rfl
    have hSe : (World.setRow wc.drew W.heap.size [.int .i64 0, .string ⟨#[]⟩, .int .i64 0, .int .i64 0, .string ⟨#[]⟩, .int .i64 0, .int .i64 0, .slice none 0 0, .int .i64 0, .int .i64 0, .slice none 0 0, .slice none 0 0, .int .i64 0, .int .i64 0, .slice none 0 0, .slice none 0 0, .slice none 0 0, .int .i64 0, .int .i64 0, .string ⟨#[]⟩, .slice none 0 0, .slice none 0 0, .int .i64 0, .string ⟨#[]⟩, .slice none 0 0].toArray).cell? ⟨rb, 1, none⟩ = some (.int .i64 (E : Int)) := hRe.cell (i := 1) rfl
    have hZF := hZd.row [.int .i64 0, .string ⟨#[]⟩, .int .i64 0, .int .i64 0, .string ⟨#[]⟩, .int .i64 0, .int .i64 0, .slice none 0 0, .int .i64 0, .int .i64 0, .slice none 0 0, .slice none 0 0, .int .i64 0, .int .i64 0, .slice none 0 0, .slice none 0 0, .slice none 0 0, .int .i64 0, .int .i64 0, .string ⟨#[]⟩, .slice none 0 0, .slice none 0 0, .int .i64 0, .string ⟨#[]⟩, .slice none 0 0]
    have hBF := below_setRow hBd (g := W.heap.size) (Nat.le_refl _) [.int .i64 0, .string ⟨#[]⟩, .int .i64 0, .int .i64 0, .string ⟨#[]⟩, .int .i64 0, .int .i64 0, .slice none 0 0, .int .i64 0, .int .i64 0, .slice none 0 0, .slice none 0 0, .int .i64 0, .int .i64 0, .slice none 0 0, .slice none 0 0, .slice none 0 0, .int .i64 0, .int .i64 0, .string ⟨#[]⟩, .slice none 0 0, .slice none 0 0, .int .i64 0, .string ⟨#[]⟩, .slice none 0 0].toArray
    have hfin : ∀ e, e = .returned (.tuple #[MsgM.v (msg0 0), .int .i64 (E : Int)]) → GotMsg W out e _ := fun e h => gotMsg_err ho.out hE hBF e h
    clear hRc hZc hBc hBd hRd kr hRe hBF
    go_wp2_with fail
    refine wp_region_held_drew (S := fun w' => w'.cell? ⟨rb, 1, none⟩ = some (.int .i64 (E : Int))) (by kernel_rfl) hSd (fun hHeld => ?_)
    refine wpAnyH_takeD (i := 0) (v := ?_) (some 80) rfl rfl (by kernel_rfl) (by kernel_rfl) (by kernel_rfl) (fun _ _ _ h => h) (Or.inl ⟨by rfl, ?_⟩) (by assumption) ?_
    rotate_left 1
    · intro w' hSw
      go_simp
      first | done | with_reducible rfl
    simp only [Act.put, List.setIfInBounds_toArray, List.set_cons_zero, List.set_cons_succ]
    refine wpAnyH_takeD (i := 1) (v := ?_) (some 81) rfl rfl (by kernel_rfl) (by kernel_rfl) (by kernel_rfl) (fun _ _ _ h => h) (Or.inl ⟨by rfl, ?_⟩) (by assumption) ?_
    rotate_left 1
    · intro w' hSw
      go_simp
      first | done | with_reducible rfl
    simp only [Act.put, List.setIfInBounds_toArray, List.set_cons_zero, List.set_cons_succ]
    refine wpAnyH_takeD (i := 2) (v := ?_) (some 82) rfl rfl (by kernel_rfl) (by kernel_rfl) (by kernel_rfl) (fun _ _ _ h => h) (Or.inl ⟨by rfl, ?_⟩) (by assumption) ?_
    rotate_left 1
    · intro w' hSw
      go_simp
      first | done | with_reducible rfl
    simp only [Act.put, List.setIfInBounds_toArray, List.set_cons_zero, List.set_cons_succ]
    refine wpAnyH_takeD (i := 3) (v := ?_) (some 83) rfl rfl (by kernel_rfl) (by kernel_rfl) (by kernel_rfl) (fun _ _ _ h => h) (Or.inl ⟨by rfl, ?_⟩) (by assumption) ?_
    rotate_left 1
    · intro w' hSw
      go_simp
      first | done | with_reducible rfl
    simp only [Act.put, List.setIfInBounds_toArray, List.set_cons_zero, List.set_cons_succ]
    refine wpAnyH_takeD (i := 4) (v := ?_) (some 84) rfl rfl (by kernel_rfl) (by kernel_rfl) (by kernel_rfl) (fun _ _ _ h => h) (Or.inl ⟨by rfl, ?_⟩) (by assumption) ?_
    rotate_left 1
    · intro w' hSw
      go_simp
      first | done | with_reducible rfl
    simp only [Act.put, List.setIfInBounds_toArray, List.set_cons_zero, List.set_cons_succ]
    refine wpAnyH_ready (rs := [5]) (by kernel_rfl) (by simp) ?_
    refine AllReadyH.cons rfl (fun K' hK => ?_) ?_
    · rw [if_pos (by rfl)]
      refine wp_store_row 39 _ _ (by rfl) W.heap.size [.int .i64 0, .string ⟨#[]⟩, .int .i64 0, .int .i64 0, .string ⟨#[]⟩, .int .i64 0, .int .i64 0, .slice none 0 0, .int .i64 0, .int .i64 0, .slice none 0 0, .slice none 0 0, .int .i64 0, .int .i64 0, .slice none 0 0, .slice none 0 0, .slice none 0 0, .int .i64 0, .int .i64 0, .string ⟨#[]⟩, .slice none 0 0, .slice none 0 0, .int .i64 0, .string ⟨#[]⟩, .slice none 0 0].toArray (by rfl) (by rfl) 39 _ hZd infoMsg9 (by rfl) hz1 ?_
      refine hK.out _ _ hSe (fun hHeld2 => ?_)
      clear hK K'
      refine wpAnyH_ready (rs := [6]) (by kernel_rfl) (by simp) ?_
      refine AllReadyH.cons rfl (fun K' hK => ?_) ?_
      · go_simp
        refine hK.out _ _ (by assumption) (fun hHeld3 => ?_)
        clear hK K'
        refine wpAnyH_done (by kernel_rfl) ?_ _
        go_wp2
        refine bodyPost_ret (v := .tuple #[MsgM.v (msg0 0), .int .i64 (E : Int)]) (results_row_tmp rfl _ _ W.heap.size [.int .i64 0, .string ⟨#[]⟩, .int .i64 0, .int .i64 0, .string ⟨#[]⟩, .int .i64 0, .int .i64 0, .slice none 0 0, .int .i64 0, .int .i64 0, .slice none 0 0, .slice none 0 0, .int .i64 0, .int .i64 0, .slice none 0 0, .slice none 0 0, .slice none 0 0, .int .i64 0, .int .i64 0, .string ⟨#[]⟩, .slice none 0 0, .slice none 0 0, .int .i64 0, .string ⟨#[]⟩, .slice none 0 0] rfl (run_loadVar_row _ W.heap.size 39 39 _ (0, 0) _ hZF Tryz.underlying39 rfl infoMsg9) _ rfl) rfl ?_
        exact hfin _ rfl
      exact AllReadyH.nil
    exact AllReadyH.nil
  replace hE : E = 0 := by omega
  subst hE
  have ho1 : Hid (out = if fieldsK (v : Int) = [] then .error 5 else rdFs (fieldsK (v : Int)) (msgZ (v : Int)) r1.data.toList finM) := by
    rcases hst2.out with h | h
    · exact h.2
    · exact absurd rfl h.1
  clear hst2
  have u1 := hR1.cell (i := 1) rfl
  have uf1 := hR1.frozen 1
  by_cases hv11 : (11 : Int) < (v : Int)
  · have ho : Hid (out = .error 5) := by
      show _ = _
      rw [ho1.out, if_pos (fieldsK_none (Or.inr hv11))]
    have hRa := hR1.set 1 (.int .i64 5)
    replace hRa : Arr _ rb 62 [.string r1, .int .i64 5] := hRa
    have hZa := hZ1.other (p := ⟨rb, 1, none⟩) (by show W.heap.size ≠ rb; omega) (.int .i64 5)
    have hBa := hB1.setCell (p := ⟨rb, 1, none⟩) (by show W.heap.size ≤ rb; omega) (.int .i64 5)
    have hE : (5 : Nat) ≠ 0 := by decide
    have u5 := hRa.cell (i := 1) rfl
    clear ho1 hR1 hZ1 hB1
    have hbx := belowNew (w1.setCell ⟨rb, 1, none⟩ (.int .i64 5)) (.cells [.int .i64 (v : Int), .string ⟨#[]⟩, .int .i64 0, .int .i64 0, .string ⟨#[]⟩, .int .i64 0, .int .i64 0, .slice none 0 0, .int .i64 0, .int .i64 0, .slice none 0 0, .slice none 0 0, .int .i64 0, .int .i64 0, .slice none 0 0, .slice none 0 0, .slice none 0 0, .int .i64 0, .int .i64 0, .string ⟨#[]⟩, .slice none 0 0, .slice none 0 0, .int .i64 0, .string ⟨#[]⟩, .slice none 0 0].toArray 39)
    have hRb := hRa.below hbx hRa.lt
    have hZb := hZa.below hbx hZa.lt
    have hBb := hBa.trans (hbx.mono hBa.size)
    have cE := inEnd_k rb _ r1 5 hRb
    rw [if_neg (fun h => hE h.1)] at cE
    replace cE : Calls Tryz.prog 22 #[.pointer (some ⟨rb, 0, none⟩)] _ fun e w1 => e = .returned (.tuple #[]) ∧ Arr w1 rb 62 [.string r1, .int .i64 5] ∧ Kept (fun k => k = rb) _ w1 := cE
    have hE1 : ((5 : Int) == 0) = false := by rw [beq_eq_false_iff_ne]; have := hE; omega
    have hE2 : ((5 : Int) != 0) = true := by rw [bne_iff_ne]; have := hE; omega
    have ub := hRb.cell (i := 1) rfl
    clear hRa hZa hBa hbx
    go_wp2_with fail
    refine cE.mono ?_
    rintro e wc ⟨rfl, hRc, kc⟩
    have hZc := hZb.kept kc (by show ¬ W.heap.size = rb; omega)
    have hBc := hBb.trans (kc.below hBb.size (fun k hk => by rw [hk]; omega))
    clear cE hRb hZb hBb kc ub
    have u1 := hRc.cell (i := 1) rfl
    have hZd : Arr wc.drew W.heap.size 39 [.int .i64 0, .string ⟨#[]⟩, .int .i64 0, .int .i64 0, .string ⟨#[]⟩, .int .i64 0, .int .i64 0, .slice none 0 0, .int .i64 0, .int .i64 0, .slice none 0 0, .slice none 0 0, .int .i64 0, .int .i64 0, .slice none 0 0, .slice none 0 0, .slice none 0 0, .int .i64 0, .int .i64 0, .string ⟨#[]⟩, .slice none 0 0, .slice none 0 0, .int .i64 0, .string ⟨#[]⟩, .slice none 0 0] := hZc.drewN 1
    have hBd : Below W.heap.size W wc.drew := below_drewN hBc 1
    have hRd : Arr wc.drew rb 62 [.string _, .int .i64 (5 : Int)] := hRc.drewN 1
    have kr := kept_row wc.drew W.heap.size [.int .i64 0, .string ⟨#[]⟩, .int .i64 0, .int .i64 0, .string ⟨#[]⟩, .int .i64 0, .int .i64 0, .slice none 0 0, .int .i64 0, .int .i64 0, .slice none 0 0, .slice none 0 0, .int .i64 0, .int .i64 0, .slice none 0 0, .slice none 0 0, .slice none 0 0, .int .i64 0, .int .i64 0, .string ⟨#[]⟩, .slice none 0 0, .slice none 0 0, .int .i64 0, .string ⟨#[]⟩, .slice none 0 0].toArray
    have hRe := hRd.kept kr (by show ¬ rb = W.heap.size; omega)
    have hSd : (wc.drew).cell? ⟨rb, 1, none⟩ = some (.int .i64 (5 : Int)) := hRd.cell (i := 1) rfl
    have hSe : (World.setRow wc.drew W.heap.size [.int .i64 0, .string ⟨#[]⟩, .int .i64 0, .int .i64 0, .string ⟨#[]⟩, .int .i64 0, .int .i64 0, .slice none 0 0, .int .i64 0, .int .i64 0, .slice none 0 0, .slice none 0 0, .int .i64 0, .int .i64 0, .slice none 0 0, .slice none 0 0, .slice none 0 0, .int .i64 0, .int .i64 0, .string ⟨#[]⟩, .slice none 0 0, .slice none 0 0, .int .i64 0, .string ⟨#[]⟩, .slice none 0 0].toArray).cell? ⟨rb, 1, none⟩ = some (.int .i64 (5 : Int)) := hRe.cell (i := 1) rfl
    have hZF := hZd.row [.int .i64 0, .string ⟨#[]⟩, .int .i64 0, .int .i64 0, .string ⟨#[]⟩, .int .i64 0, .int .i64 0, .slice none 0 0, .int .i64 0, .int .i64 0, .slice none 0 0, .slice none 0 0, .int .i64 0, .int .i64 0, .slice none 0 0, .slice none 0 0, .slice none 0 0, .int .i64 0, .int .i64 0, .string ⟨#[]⟩, .slice none 0 0, .slice none 0 0, .int .i64 0, .string ⟨#[]⟩, .slice none 0 0]
    have hBF := below_setRow hBd (g := W.heap.size) (Nat.le_refl _) [.int .i64 0, .string ⟨#[]⟩, .int .i64 0, .int .i64 0, .string ⟨#[]⟩, .int .i64 0, .int .i64 0, .slice none 0 0, .int .i64 0, .int .i64 0, .slice none 0 0, .slice none 0 0, .int .i64 0, .int .i64 0, .slice none 0 0, .slice none 0 0, .slice none 0 0, .int .i64 0, .int .i64 0, .string ⟨#[]⟩, .slice none 0 0, .slice none 0 0, .int .i64 0, .string ⟨#[]⟩, .slice none 0 0].toArray
    have hfin : ∀ e, e = .returned (.tuple #[MsgM.v (msg0 0), .int .i64 (5 : Int)]) → GotMsg W out e _ := fun e h => gotMsg_err ho.out hE hBF e h
    clear hRc hZc hBc hBd hRd kr hRe hBF
    go_wp2_with fail
    refine wp_region_held_drew (S := fun w' => w'.cell? ⟨rb, 1, none⟩ = some (.int .i64 (5 : Int))) (by kernel_rfl) hSd (fun hHeld => ?_)
    refine wpAnyH_takeD (i := 0) (v := ?_) (some 80) rfl rfl (by kernel_rfl) (by kernel_rfl) (by kernel_rfl) (fun _ _ _ h => h) (Or.inl ⟨by rfl, ?_⟩) (by assumption) ?_
    rotate_left 1
    · intro w' hSw
      go_simp
      first | done | with_reducible rfl
    simp only [Act.put, List.setIfInBounds_toArray, List.set_cons_zero, List.set_cons_succ]
    refine wpAnyH_takeD (i := 1) (v := ?_) (some 81) rfl rfl (by kernel_rfl) (by kernel_rfl) (by kernel_rfl) (fun _ _ _ h => h) (Or.inl ⟨by rfl, ?_⟩) (by assumption) ?_
    rotate_left 1
    · intro w' hSw
      go_simp
      first | done | with_reducible rfl
    simp only [Act.put, List.setIfInBounds_toArray, List.set_cons_zero, List.set_cons_succ]
    refine wpAnyH_takeD (i := 2) (v := ?_) (some 82) rfl rfl (by kernel_rfl) (by kernel_rfl) (by kernel_rfl) (fun _ _ _ h => h) (Or.inl ⟨by rfl, ?_⟩) (by assumption) ?_
    rotate_left 1
    · intro w' hSw
      go_simp
      first | done | with_reducible rfl
    simp only [Act.put, List.setIfInBounds_toArray, List.set_cons_zero, List.set_cons_succ]
    refine wpAnyH_takeD (i := 3) (v := ?_) (some 83) rfl rfl (by kernel_rfl) (by kernel_rfl) (by kernel_rfl) (fun _ _ _ h => h) (Or.inl ⟨by rfl, ?_⟩) (by assumption) ?_
    rotate_left 1
    · intro w' hSw
      go_simp
      first | done | with_reducible rfl
    simp only [Act.put, List.setIfInBounds_toArray, List.set_cons_zero, List.set_cons_succ]
    refine wpAnyH_takeD (i := 4) (v := ?_) (some 84) rfl rfl (by kernel_rfl) (by kernel_rfl) (by kernel_rfl) (fun _ _ _ h => h) (Or.inl ⟨by rfl, ?_⟩) (by assumption) ?_
    rotate_left 1
    · intro w' hSw
      go_simp
      first | done | with_reducible rfl
    simp only [Act.put, List.setIfInBounds_toArray, List.set_cons_zero, List.set_cons_succ]
    refine wpAnyH_ready (rs := [5]) (by kernel_rfl) (by simp) ?_
    refine AllReadyH.cons rfl (fun K' hK => ?_) ?_
    · rw [if_pos (by rfl)]
      refine wp_store_row 39 _ _ (by rfl) W.heap.size [.int .i64 0, .string ⟨#[]⟩, .int .i64 0, .int .i64 0, .string ⟨#[]⟩, .int .i64 0, .int .i64 0, .slice none 0 0, .int .i64 0, .int .i64 0, .slice none 0 0, .slice none 0 0, .int .i64 0, .int .i64 0, .slice none 0 0, .slice none 0 0, .slice none 0 0, .int .i64 0, .int .i64 0, .string ⟨#[]⟩, .slice none 0 0, .slice none 0 0, .int .i64 0, .string ⟨#[]⟩, .slice none 0 0].toArray (by rfl) (by rfl) 39 _ hZd infoMsg9 (by rfl) hz1 ?_
      refine hK.out _ _ hSe (fun hHeld2 => ?_)
      clear hK K'
      refine wpAnyH_ready (rs := [6]) (by kernel_rfl) (by simp) ?_
      refine AllReadyH.cons rfl (fun K' hK => ?_) ?_
      · go_simp
        refine hK.out _ _ (by assumption) (fun hHeld3 => ?_)
        clear hK K'
        refine wpAnyH_done (by kernel_rfl) ?_ _
        go_wp2
        refine bodyPost_ret (v := .tuple #[MsgM.v (msg0 0), .int .i64 (5 : Int)]) (results_row_tmp rfl _ _ W.heap.size [.int .i64 0, .string ⟨#[]⟩, .int .i64 0, .int .i64 0, .string ⟨#[]⟩, .int .i64 0, .int .i64 0, .slice none 0 0, .int .i64 0, .int .i64 0, .slice none 0 0, .slice none 0 0, .int .i64 0, .int .i64 0, .slice none 0 0, .slice none 0 0, .slice none 0 0, .int .i64 0, .int .i64 0, .string ⟨#[]⟩, .slice none 0 0, .slice none 0 0, .int .i64 0, .string ⟨#[]⟩, .slice none 0 0] rfl (run_loadVar_row _ W.heap.size 39 39 _ (0, 0) _ hZF Tryz.underlying39 rfl infoMsg9) _ rfl) rfl ?_
        exact hfin _ rfl
      exact AllReadyH.nil
    exact AllReadyH.nil
  have cF := refFields_any (v : Int)
  have hkl : (fieldsS (v : Int)).data.toList = fieldsK (v : Int) := rfl
  obtain ⟨own, hown⟩ : ∃ o, o = fieldsS (v : Int) := ⟨_, rfl⟩
  rw [← hown] at cF hkl
  have HO : Hid (own = fieldsS (v : Int)) := hown
  clear hown
  go_wp2_with fail
  refine (cF _).mono ?_
  rintro e w2 ⟨rfl, hb2⟩
  have hR2 := hR1.below hb2 hR1.lt
  have hZ2 := hZ1.below hb2 hZ1.lt
  have hB2 := hB1.trans (hb2.mono hB1.size)
  clear hR1 hZ1 hB1 hb2 u1 uf1
  have u1 := hR2.cell (i := 1) rfl
  have uf1 := hR2.frozen 1
  cases hEm : own.toList.isEmpty
  case true =>
    have ho : Hid (out = .error 5) := by
      show _ = _
      rw [ho1.out, if_pos]
      rw [← hkl, ← ByteArray.toList_eq]
      exact List.isEmpty_iff.1 hEm
    have hRa := hR2.set 1 (.int .i64 5)
    replace hRa : Arr _ rb 62 [.string r1, .int .i64 5] := hRa
    have hZa := hZ2.other (p := ⟨rb, 1, none⟩) (by show W.heap.size ≠ rb; omega) (.int .i64 5)
    have hBa := hB2.setCell (p := ⟨rb, 1, none⟩) (by show W.heap.size ≤ rb; omega) (.int .i64 5)
    have hE : (5 : Nat) ≠ 0 := by decide
    have u5 := hRa.cell (i := 1) rfl
    clear ho1 hR2 hZ2 hB2 cF
    have hbx := belowNew (w2.setCell ⟨rb, 1, none⟩ (.int .i64 5)) (.cells [.int .i64 (v : Int), .string ⟨#[]⟩, .int .i64 0, .int .i64 0, .string ⟨#[]⟩, .int .i64 0, .int .i64 0, .slice none 0 0, .int .i64 0, .int .i64 0, .slice none 0 0, .slice none 0 0, .int .i64 0, .int .i64 0, .slice none 0 0, .slice none 0 0, .slice none 0 0, .int .i64 0, .int .i64 0, .string ⟨#[]⟩, .slice none 0 0, .slice none 0 0, .int .i64 0, .string ⟨#[]⟩, .slice none 0 0].toArray 39)
    have hRb := hRa.below hbx hRa.lt
    have hZb := hZa.below hbx hZa.lt
    have hBb := hBa.trans (hbx.mono hBa.size)
    have cE := inEnd_k rb _ r1 5 hRb
    rw [if_neg (fun h => hE h.1)] at cE
    replace cE : Calls Tryz.prog 22 #[.pointer (some ⟨rb, 0, none⟩)] _ fun e w1 => e = .returned (.tuple #[]) ∧ Arr w1 rb 62 [.string r1, .int .i64 5] ∧ Kept (fun k => k = rb) _ w1 := cE
    have hE1 : ((5 : Int) == 0) = false := by rw [beq_eq_false_iff_ne]; have := hE; omega
    have hE2 : ((5 : Int) != 0) = true := by rw [bne_iff_ne]; have := hE; omega
    have ub := hRb.cell (i := 1) rfl
    clear hRa hZa hBa hbx
    go_wp2_with fail
    refine cE.mono ?_
    rintro e wc ⟨rfl, hRc, kc⟩
    have hZc := hZb.kept kc (by show ¬ W.heap.size = rb; omega)
    have hBc := hBb.trans (kc.below hBb.size (fun k hk => by rw [hk]; omega))
    clear cE hRb hZb hBb kc ub
    have u1 := hRc.cell (i := 1) rfl
    have hZd : Arr wc.drew W.heap.size 39 [.int .i64 0, .string ⟨#[]⟩, .int .i64 0, .int .i64 0, .string ⟨#[]⟩, .int .i64 0, .int .i64 0, .slice none 0 0, .int .i64 0, .int .i64 0, .slice none 0 0, .slice none 0 0, .int .i64 0, .int .i64 0, .slice none 0 0, .slice none 0 0, .slice none 0 0, .int .i64 0, .int .i64 0, .string ⟨#[]⟩, .slice none 0 0, .slice none 0 0, .int .i64 0, .string ⟨#[]⟩, .slice none 0 0] := hZc.drewN 1
    have hBd : Below W.heap.size W wc.drew := below_drewN hBc 1
    have hRd : Arr wc.drew rb 62 [.string _, .int .i64 (5 : Int)] := hRc.drewN 1
    have kr := kept_row wc.drew W.heap.size [.int .i64 0, .string ⟨#[]⟩, .int .i64 0, .int .i64 0, .string ⟨#[]⟩, .int .i64 0, .int .i64 0, .slice none 0 0, .int .i64 0, .int .i64 0, .slice none 0 0, .slice none 0 0, .int .i64 0, .int .i64 0, .slice none 0 0, .slice none 0 0, .slice none 0 0, .int .i64 0, .int .i64 0, .string ⟨#[]⟩, .slice none 0 0, .slice none 0 0, .int .i64 0, .string ⟨#[]⟩, .slice none 0 0].toArray
    have hRe := hRd.kept kr (by show ¬ rb = W.heap.size; omega)
    have hSd : (wc.drew).cell? ⟨rb, 1, none⟩ = some (.int .i64 (5 : Int)) := hRd.cell (i := 1) rfl
    have hSe : (World.setRow wc.drew W.heap.size [.int .i64 0, .string ⟨#[]⟩, .int .i64 0, .int .i64 0, .string ⟨#[]⟩, .int .i64 0, .int .i64 0, .slice none 0 0, .int .i64 0, .int .i64 0, .slice none 0 0, .slice none 0 0, .int .i64 0, .int .i64 0, .slice none 0 0, .slice none 0 0, .slice none 0 0, .int .i64 0, .int .i64 0, .string ⟨#[]⟩, .slice none 0 0, .slice none 0 0, .int .i64 0, .string ⟨#[]⟩, .slice none 0 0].toArray).cell? ⟨rb, 1, none⟩ = some (.int .i64 (5 : Int)) := hRe.cell (i := 1) rfl
    have hZF := hZd.row [.int .i64 0, .string ⟨#[]⟩, .int .i64 0, .int .i64 0, .string ⟨#[]⟩, .int .i64 0, .int .i64 0, .slice none 0 0, .int .i64 0, .int .i64 0, .slice none 0 0, .slice none 0 0, .int .i64 0, .int .i64 0, .slice none 0 0, .slice none 0 0, .slice none 0 0, .int .i64 0, .int .i64 0, .string ⟨#[]⟩, .slice none 0 0, .slice none 0 0, .int .i64 0, .string ⟨#[]⟩, .slice none 0 0]
    have hBF := below_setRow hBd (g := W.heap.size) (Nat.le_refl _) [.int .i64 0, .string ⟨#[]⟩, .int .i64 0, .int .i64 0, .string ⟨#[]⟩, .int .i64 0, .int .i64 0, .slice none 0 0, .int .i64 0, .int .i64 0, .slice none 0 0, .slice none 0 0, .int .i64 0, .int .i64 0, .slice none 0 0, .slice none 0 0, .slice none 0 0, .int .i64 0, .int .i64 0, .string ⟨#[]⟩, .slice none 0 0, .slice none 0 0, .int .i64 0, .string ⟨#[]⟩, .slice none 0 0].toArray
    have hfin : ∀ e, e = .returned (.tuple #[MsgM.v (msg0 0), .int .i64 (5 : Int)]) → GotMsg W out e _ := fun e h => gotMsg_err ho.out hE hBF e h
    clear hRc hZc hBc hBd hRd kr hRe hBF
    go_wp2_with fail
    refine wp_region_held_drew (S := fun w' => w'.cell? ⟨rb, 1, none⟩ = some (.int .i64 (5 : Int))) (by kernel_rfl) hSd (fun hHeld => ?_)
    refine wpAnyH_takeD (i := 0) (v := ?_) (some 80) rfl rfl (by kernel_rfl) (by kernel_rfl) (by kernel_rfl) (fun _ _ _ h => h) (Or.inl ⟨by rfl, ?_⟩) (by assumption) ?_
    rotate_left 1
    · intro w' hSw
      go_simp
      first | done | with_reducible rfl
    simp only [Act.put, List.setIfInBounds_toArray, List.set_cons_zero, List.set_cons_succ]
    refine wpAnyH_takeD (i := 1) (v := ?_) (some 81) rfl rfl (by kernel_rfl) (by kernel_rfl) (by kernel_rfl) (fun _ _ _ h => h) (Or.inl ⟨by rfl, ?_⟩) (by assumption) ?_
    rotate_left 1
    · intro w' hSw
      go_simp
      first | done | with_reducible rfl
    simp only [Act.put, List.setIfInBounds_toArray, List.set_cons_zero, List.set_cons_succ]
    refine wpAnyH_takeD (i := 2) (v := ?_) (some 82) rfl rfl (by kernel_rfl) (by kernel_rfl) (by kernel_rfl) (fun _ _ _ h => h) (Or.inl ⟨by rfl, ?_⟩) (by assumption) ?_
    rotate_left 1
    · intro w' hSw
      go_simp
      first | done | with_reducible rfl
    simp only [Act.put, List.setIfInBounds_toArray, List.set_cons_zero, List.set_cons_succ]
    refine wpAnyH_takeD (i := 3) (v := ?_) (some 83) rfl rfl (by kernel_rfl) (by kernel_rfl) (by kernel_rfl) (fun _ _ _ h => h) (Or.inl ⟨by rfl, ?_⟩) (by assumption) ?_
    rotate_left 1
    · intro w' hSw
      go_simp
      first | done | with_reducible rfl
    simp only [Act.put, List.setIfInBounds_toArray, List.set_cons_zero, List.set_cons_succ]
    refine wpAnyH_takeD (i := 4) (v := ?_) (some 84) rfl rfl (by kernel_rfl) (by kernel_rfl) (by kernel_rfl) (fun _ _ _ h => h) (Or.inl ⟨by rfl, ?_⟩) (by assumption) ?_
    rotate_left 1
    · intro w' hSw
      go_simp
      first | done | with_reducible rfl
    simp only [Act.put, List.setIfInBounds_toArray, List.set_cons_zero, List.set_cons_succ]
    refine wpAnyH_ready (rs := [5]) (by kernel_rfl) (by simp) ?_
    refine AllReadyH.cons rfl (fun K' hK => ?_) ?_
    · rw [if_pos (by rfl)]
      refine wp_store_row 39 _ _ (by rfl) W.heap.size [.int .i64 0, .string ⟨#[]⟩, .int .i64 0, .int .i64 0, .string ⟨#[]⟩, .int .i64 0, .int .i64 0, .slice none 0 0, .int .i64 0, .int .i64 0, .slice none 0 0, .slice none 0 0, .int .i64 0, .int .i64 0, .slice none 0 0, .slice none 0 0, .slice none 0 0, .int .i64 0, .int .i64 0, .string ⟨#[]⟩, .slice none 0 0, .slice none 0 0, .int .i64 0, .string ⟨#[]⟩, .slice none 0 0].toArray (by rfl) (by rfl) 39 _ hZd infoMsg9 (by rfl) hz1 ?_
      refine hK.out _ _ hSe (fun hHeld2 => ?_)
      clear hK K'
      refine wpAnyH_ready (rs := [6]) (by kernel_rfl) (by simp) ?_
      refine AllReadyH.cons rfl (fun K' hK => ?_) ?_
      · go_simp
        refine hK.out _ _ (by assumption) (fun hHeld3 => ?_)
        clear hK K'
        refine wpAnyH_done (by kernel_rfl) ?_ _
        go_wp2
        refine bodyPost_ret (v := .tuple #[MsgM.v (msg0 0), .int .i64 (5 : Int)]) (results_row_tmp rfl _ _ W.heap.size [.int .i64 0, .string ⟨#[]⟩, .int .i64 0, .int .i64 0, .string ⟨#[]⟩, .int .i64 0, .int .i64 0, .slice none 0 0, .int .i64 0, .int .i64 0, .slice none 0 0, .slice none 0 0, .int .i64 0, .int .i64 0, .slice none 0 0, .slice none 0 0, .slice none 0 0, .int .i64 0, .int .i64 0, .string ⟨#[]⟩, .slice none 0 0, .slice none 0 0, .int .i64 0, .string ⟨#[]⟩, .slice none 0 0] rfl (run_loadVar_row _ W.heap.size 39 39 _ (0, 0) _ hZF Tryz.underlying39 rfl infoMsg9) _ rfl) rfl ?_
        exact hfin _ rfl
      exact AllReadyH.nil
    exact AllReadyH.nil
  have Hne : Hid (fieldsK (v : Int) ≠ []) := fun e => by
    have : own.toList.isEmpty = true := by rw [ByteArray.toList_eq, hkl, e]; rfl
    rw [hEm] at this
    cases this
  have ho2 : Hid (out = rdFs (fieldsK (v : Int)) (msgZ (v : Int)) r1.data.toList finM) := by
    show _ = _
    rw [ho1.out, if_neg Hne.out]
  -- the message
  have hN := Arr.new w2 39 [.int .i64 (v : Int), .string ⟨#[]⟩, .int .i64 0, .int .i64 0, .string ⟨#[]⟩, .int .i64 0, .int .i64 0, .slice none 0 0, .int .i64 0, .int .i64 0, .slice none 0 0, .slice none 0 0, .int .i64 0, .int .i64 0, .slice none 0 0, .slice none 0 0, .slice none 0 0, .int .i64 0, .int .i64 0, .string ⟨#[]⟩, .slice none 0 0, .slice none 0 0, .int .i64 0, .string ⟨#[]⟩, .slice none 0 0]
  have hbx := belowNew w2 (.cells [.int .i64 (v : Int), .string ⟨#[]⟩, .int .i64 0, .int .i64 0, .string ⟨#[]⟩, .int .i64 0, .int .i64 0, .slice none 0 0, .int .i64 0, .int .i64 0, .slice none 0 0, .slice none 0 0, .int .i64 0, .int .i64 0, .slice none 0 0, .slice none 0 0, .slice none 0 0, .int .i64 0, .int .i64 0, .string ⟨#[]⟩, .slice none 0 0, .slice none 0 0, .int .i64 0, .string ⟨#[]⟩, .slice none 0 0].toArray 39)
  have hR3 := hR2.below hbx hR2.lt
  have hZ3 := hZ2.below hbx hZ2.lt
  have hB3 := hB2.trans (hbx.mono hB2.size)
  have hrl := hR2.lt
  obtain ⟨mb, hmb⟩ : ∃ n, w2.heap.size = n := ⟨_, rfl⟩
  rw [hmb] at hN hrl
  obtain ⟨w3, hw3⟩ : ∃ q', w2.alloc (.cells [.int .i64 (v : Int), .string ⟨#[]⟩, .int .i64 0, .int .i64 0, .string ⟨#[]⟩, .int .i64 0, .int .i64 0, .slice none 0 0, .int .i64 0, .int .i64 0, .slice none 0 0, .slice none 0 0, .int .i64 0, .int .i64 0, .slice none 0 0, .slice none 0 0, .slice none 0 0, .int .i64 0, .int .i64 0, .string ⟨#[]⟩, .slice none 0 0, .slice none 0 0, .int .i64 0, .string ⟨#[]⟩, .slice none 0 0].toArray 39) = q' := ⟨_, rfl⟩
  rw [hw3] at hN hR3 hZ3 hB3
  have hs3 : mb + 1 ≤ w3.heap.size := by rw [← hw3, alloc_size, hmb]; exact Nat.le_refl _
  have u1' := hR3.cell (i := 1) rfl
  have n0 := hN.cell (i := 0) rfl
  clear ho1 hR2 hZ2 hB2 hbx
  go_wp2_with fail
  refine (cF _).mono ?_
  rintro e w4 ⟨rfl, hb4⟩
  have hN4 := hN.below hb4 hN.lt
  have hR4 := hR3.below hb4 hR3.lt
  have hZ4 := hZ3.below hb4 hZ3.lt
  have hB4 := hB3.trans (hb4.mono hB3.size)
  have hs4 : mb + 1 ≤ w4.heap.size := Nat.le_trans hs3 hb4.size
  clear cF hN hR3 hZ3 hB3 hb4 u1 uf1 u1' n0 hw3 hmb hs3
  have hos : own.size = (fieldsK (v : Int)).length := by rw [← hkl]; rfl
  have hos3 : own.size ≤ 3 := by rw [hos]; exact fieldsK_len3 _
  go_wp2
  go_loopw [8] (fun v8 wr => ∃ (i E : Nat) (rest : ByteArray) (m : MsgM), i ≤ own.size ∧ v8 = .int .i64 (i : Int) ∧ Arr wr rb 62 [.string rest, .int .i64 (E : Int)] ∧ Arr wr mb 39 m.c ∧ m.At wr ∧ (∀ b, m.foot b → mb + 1 ≤ b) ∧ mb + 1 ≤ wr.heap.size ∧ rest.size ≤ maxLen ∧ Arr wr W.heap.size 39 [.int .i64 0, .string ⟨#[]⟩, .int .i64 0, .int .i64 0, .string ⟨#[]⟩, .int .i64 0, .int .i64 0, .slice none 0 0, .int .i64 0, .int .i64 0, .slice none 0 0, .slice none 0 0, .int .i64 0, .int .i64 0, .slice none 0 0, .slice none 0 0, .slice none 0 0, .int .i64 0, .int .i64 0, .string ⟨#[]⟩, .slice none 0 0, .slice none 0 0, .int .i64 0, .string ⟨#[]⟩, .slice none 0 0] ∧ Below W.heap.size W wr ∧ Hid ((E = 0 ∧ m.d.Few ∧ out = rdFs ((fieldsK (v : Int)).drop i) m.d rest.data.toList finM) ∨ (E ≠ 0 ∧ out = .error E))) (fun v _ => own.size - (intOf v).toNat)
  case atStart => exact ⟨0, 0, r1, msg0 (v : Int), Nat.zero_le _, rfl, hR4, hN4, msg0_at _ _, fun b hb => absurd hb (msg0_foot _ b), hs4, hrs, hZ4, hB4, Or.inl ⟨rfl, few_zero _, ho2.out⟩⟩
  case round =>
    clear hR4 hN4 hs4 hrs hZ4 hB4 ho2
    obtain ⟨i, E, rest, m, hi8, rfl, hR, hN, hM, hf, hsz, hrs, hZ, hb, HF⟩ := hrel
    have u1 := hR.cell (i := 1) rfl
    by_cases hi : i < own.size
    · by_cases hE : E = 0
      · subst hE
        have hil : i < (fieldsK (v : Int)).length := by omega
        have hel : own[i] = (fieldsK (v : Int))[i] := by
          have hown := HO.out
          subst hown
          rfl
        have hmem : own[i] ∈ letters := by rw [hel]; exact (fieldsK_letters (v : Int)).2 _ (List.getElem_mem hil)
        have HF1 : Hid (out = rdFs ((fieldsK (v : Int)).drop i) m.d rest.data.toList finM) := by
          rcases HF.out with h | h
          · exact h.2.2
          · exact absurd rfl h.1
        have HFew : Hid (m.d.Few) := by
          rcases HF.out with h | h
          · exact h.2.1
          · exact absurd rfl h.1
        obtain ⟨c, hcd⟩ : ∃ c, c = own[i] := ⟨_, rfl⟩
        rw [← hcd] at hmem hel
        have HF2 : Hid (out = match stepF c m.d rest.data.toList with
            | .error e => .error e
            | .ok (p, l) => rdFs ((fieldsK (v : Int)).drop (i + 1)) p l finM) := by
          show _ = _
          rw [HF1.out, List.drop_eq_getElem_cons hil, rdFs, ← hel]
          exact rdF_step _ _ _ _
        have Hmem : Hid (c ∈ letters) := hmem
        have cF := refField_any rb mb (mb + 1) (by omega) (by omega) (by omega) c hmem rest m wr hsz hR hN hM hf hrs
        rw [hcd] at cF
        clear HF HF1 hel hmem hR hN hM hf hrs
        go_wp2_with fail
        refine cF.mono ?_
        rintro e w5 ⟨er, rest', m', rfl, hR5, hN5, hM5, hf5, hrs5, hk5, hres⟩
        rw [← hcd] at hres
        have hZ5 := hZ.kept hk5 (by show ¬ (W.heap.size = rb ∨ W.heap.size = mb); omega)
        have hb5 := hb.trans (hk5.below hb.size (fun k hk => by rcases hk with hk | hk <;> (rw [hk]; omega)))
        have hsz5 : mb + 1 ≤ w5.heap.size := Nat.le_trans hsz hk5.size
        have HF3 : Hid ((er = 0 ∧ m'.d.Few ∧ out = rdFs ((fieldsK (v : Int)).drop (i + 1)) m'.d rest'.data.toList finM) ∨ (er ≠ 0 ∧ out = .error er)) := by
          rcases hres with ⟨he, h⟩ | ⟨he, h⟩
          · exact Or.inl ⟨he, few_step Hmem.out h HFew.out, by rw [HF2.out, h]⟩
          · exact Or.inr ⟨he, by rw [HF2.out, h]⟩
        clear cF hZ hb hk5 hres HF2 HFew Hmem u1 hsz hcd
        go_wp2
        go_roundw
        case rel => exact ⟨i + 1, er, rest', m', by omega, by go_num, hR5, hN5, hM5, hf5, hsz5, hrs5, hZ5, hb5, HF3⟩
        case measure => simp [intOf]; omega
      · have hE' : ((E : Int) == 0) = false := by rw [beq_eq_false_iff_ne]; omega
        have HF3 : Hid ((E = 0 ∧ m.d.Few ∧ out = rdFs ((fieldsK (v : Int)).drop (i + 1)) m.d rest.data.toList finM) ∨ (E ≠ 0 ∧ out = .error E)) := by
          refine Or.inr ⟨hE, ?_⟩
          rcases HF.out with h | h
          · exact absurd h.1 hE
          · exact h.2
        clear HF hE
        go_wp2
        go_roundw
        case rel => exact ⟨i + 1, E, rest, m, by omega, by go_num, hR, hN, hM, hf, hsz, hrs, hZ, hb, HF3⟩
        case measure => simp [intOf]; omega
    · by_cases hE : E ≠ 0
      · have ho : Hid (out = .error E) := by
          rcases HF.out with h | h
          · exact absurd h.1 hE
          · exact h.2
        have hRa := hR
        have hZa := hZ
        have hBa := hb
        clear HF hR hN hM hf hZ hb
        have hRb := hRa
        have hZb := hZa
        have hBb := hBa
        have cE := inEnd_k rb _ rest E hRb
        rw [if_neg (fun h => hE h.1)] at cE
        have hE1 : ((E : Int) == 0) = false := by rw [beq_eq_false_iff_ne]; have := hE; omega
        have hE2 : ((E : Int) != 0) = true := by rw [bne_iff_ne]; have := hE; omega
        have ub := hRb.cell (i := 1) rfl
        clear hRa hZa hBa
        go_wp2_with fail
        refine cE.mono ?_
        rintro e wc ⟨rfl, hRc, kc⟩
        have hZc := hZb.kept kc (by show ¬ W.heap.size = rb; omega)
        have hBc := hBb.trans (kc.below hBb.size (fun k hk => by rw [hk]; omega))
        clear cE hRb hZb hBb kc ub
        have u1 := hRc.cell (i := 1) rfl
        have hZd : Arr wc.drew W.heap.size 39 [.int .i64 0, .string ⟨#[]⟩, .int .i64 0, .int .i64 0, .string ⟨#[]⟩, .int .i64 0, .int .i64 0, .slice none 0 0, .int .i64 0, .int .i64 0, .slice none 0 0, .slice none 0 0, .int .i64 0, .int .i64 0, .slice none 0 0, .slice none 0 0, .slice none 0 0, .int .i64 0, .int .i64 0, .string ⟨#[]⟩, .slice none 0 0, .slice none 0 0, .int .i64 0, .string ⟨#[]⟩, .slice none 0 0] := hZc.drewN 1
        have hBd : Below W.heap.size W wc.drew := below_drewN hBc 1
        have hRd : Arr wc.drew rb 62 [.string _, .int .i64 (E : Int)] := hRc.drewN 1
        have kr := kept_row wc.drew W.heap.size [.int .i64 0, .string ⟨#[]⟩, .int .i64 0, .int .i64 0, .string ⟨#[]⟩, .int .i64 0, .int .i64 0, .slice none 0 0, .int .i64 0, .int .i64 0, .slice none 0 0, .slice none 0 0, .int .i64 0, .int .i64 0, .slice none 0 0, .slice none 0 0, .slice none 0 0, .int .i64 0, .int .i64 0, .string ⟨#[]⟩, .slice none 0 0, .slice none 0 0, .int .i64 0, .string ⟨#[]⟩, .slice none 0 0].toArray
        have hRe := hRd.kept kr (by show ¬ rb = W.heap.size; omega)
        have hSd : (wc.drew).cell? ⟨rb, 1, none⟩ = some (.int .i64 (E : Int)) := hRd.cell (i := 1) rfl
        have hSe : (World.setRow wc.drew W.heap.size [.int .i64 0, .string ⟨#[]⟩, .int .i64 0, .int .i64 0, .string ⟨#[]⟩, .int .i64 0, .int .i64 0, .slice none 0 0, .int .i64 0, .int .i64 0, .slice none 0 0, .slice none 0 0, .int .i64 0, .int .i64 0, .slice none 0 0, .slice none 0 0, .slice none 0 0, .int .i64 0, .int .i64 0, .string ⟨#[]⟩, .slice none 0 0, .slice none 0 0, .int .i64 0, .string ⟨#[]⟩, .slice none 0 0].toArray).cell? ⟨rb, 1, none⟩ = some (.int .i64 (E : Int)) := hRe.cell (i := 1) rfl
        have hZF := hZd.row [.int .i64 0, .string ⟨#[]⟩, .int .i64 0, .int .i64 0, .string ⟨#[]⟩, .int .i64 0, .int .i64 0, .slice none 0 0, .int .i64 0, .int .i64 0, .slice none 0 0, .slice none 0 0, .int .i64 0, .int .i64 0, .slice none 0 0, .slice none 0 0, .slice none 0 0, .int .i64 0, .int .i64 0, .string ⟨#[]⟩, .slice none 0 0, .slice none 0 0, .int .i64 0, .string ⟨#[]⟩, .slice none 0 0]
        have hBF := below_setRow hBd (g := W.heap.size) (Nat.le_refl _) [.int .i64 0, .string ⟨#[]⟩, .int .i64 0, .int .i64 0, .string ⟨#[]⟩, .int .i64 0, .int .i64 0, .slice none 0 0, .int .i64 0, .int .i64 0, .slice none 0 0, .slice none 0 0, .int .i64 0, .int .i64 0, .slice none 0 0, .slice none 0 0, .slice none 0 0, .int .i64 0, .int .i64 0, .string ⟨#[]⟩, .slice none 0 0, .slice none 0 0, .int .i64 0, .string ⟨#[]⟩, .slice none 0 0].toArray
        have hfin : ∀ e, e = .returned (.tuple #[MsgM.v (msg0 0), .int .i64 (E : Int)]) → GotMsg W out e _ := fun e h => gotMsg_err ho.out hE hBF e h
        clear hRc hZc hBc hBd hRd kr hRe hBF
        go_wp2_with fail
        refine wp_region_held_drew (S := fun w' => w'.cell? ⟨rb, 1, none⟩ = some (.int .i64 (E : Int))) (by kernel_rfl) hSd (fun hHeld => ?_)
        refine wpAnyH_takeD (i := 0) (v := ?_) (some 80) rfl rfl (by kernel_rfl) (by kernel_rfl) (by kernel_rfl) (fun _ _ _ h => h) (Or.inl ⟨by rfl, ?_⟩) (by assumption) ?_
        rotate_left 1
        · intro w' hSw
          go_simp
          first | done | with_reducible rfl
        simp only [Act.put, List.setIfInBounds_toArray, List.set_cons_zero, List.set_cons_succ]
        refine wpAnyH_takeD (i := 1) (v := ?_) (some 81) rfl rfl (by kernel_rfl) (by kernel_rfl) (by kernel_rfl) (fun _ _ _ h => h) (Or.inl ⟨by rfl, ?_⟩) (by assumption) ?_
        rotate_left 1
        · intro w' hSw
          go_simp
          first | done | with_reducible rfl
        simp only [Act.put, List.setIfInBounds_toArray, List.set_cons_zero, List.set_cons_succ]
        refine wpAnyH_takeD (i := 2) (v := ?_) (some 82) rfl rfl (by kernel_rfl) (by kernel_rfl) (by kernel_rfl) (fun _ _ _ h => h) (Or.inl ⟨by rfl, ?_⟩) (by assumption) ?_
        rotate_left 1
        · intro w' hSw
          go_simp
          first | done | with_reducible rfl
        simp only [Act.put, List.setIfInBounds_toArray, List.set_cons_zero, List.set_cons_succ]
        refine wpAnyH_takeD (i := 3) (v := ?_) (some 83) rfl rfl (by kernel_rfl) (by kernel_rfl) (by kernel_rfl) (fun _ _ _ h => h) (Or.inl ⟨by rfl, ?_⟩) (by assumption) ?_
        rotate_left 1
        · intro w' hSw
          go_simp
          first | done | with_reducible rfl
        simp only [Act.put, List.setIfInBounds_toArray, List.set_cons_zero, List.set_cons_succ]
        refine wpAnyH_takeD (i := 4) (v := ?_) (some 84) rfl rfl (by kernel_rfl) (by kernel_rfl) (by kernel_rfl) (fun _ _ _ h => h) (Or.inl ⟨by rfl, ?_⟩) (by assumption) ?_
        rotate_left 1
        · intro w' hSw
          go_simp
          first | done | with_reducible rfl
        simp only [Act.put, List.setIfInBounds_toArray, List.set_cons_zero, List.set_cons_succ]
        refine wpAnyH_ready (rs := [5]) (by kernel_rfl) (by simp) ?_
        refine AllReadyH.cons rfl (fun K' hK => ?_) ?_
        · rw [if_pos (by rfl)]
          refine wp_store_row 39 _ _ (by rfl) W.heap.size [.int .i64 0, .string ⟨#[]⟩, .int .i64 0, .int .i64 0, .string ⟨#[]⟩, .int .i64 0, .int .i64 0, .slice none 0 0, .int .i64 0, .int .i64 0, .slice none 0 0, .slice none 0 0, .int .i64 0, .int .i64 0, .slice none 0 0, .slice none 0 0, .slice none 0 0, .int .i64 0, .int .i64 0, .string ⟨#[]⟩, .slice none 0 0, .slice none 0 0, .int .i64 0, .string ⟨#[]⟩, .slice none 0 0].toArray (by rfl) (by rfl) 39 _ hZd infoMsg9 (by rfl) hz1 ?_
          refine hK.out _ _ hSe (fun hHeld2 => ?_)
          clear hK K'
          refine wpAnyH_ready (rs := [6]) (by kernel_rfl) (by simp) ?_
          refine AllReadyH.cons rfl (fun K' hK => ?_) ?_
          · go_simp
            refine hK.out _ _ (by assumption) (fun hHeld3 => ?_)
            clear hK K'
            refine wpAnyH_done (by kernel_rfl) ?_ _
            go_wp2
            refine bodyPost_ret (v := .tuple #[MsgM.v (msg0 0), .int .i64 (E : Int)]) (results_row_tmp rfl _ _ W.heap.size [.int .i64 0, .string ⟨#[]⟩, .int .i64 0, .int .i64 0, .string ⟨#[]⟩, .int .i64 0, .int .i64 0, .slice none 0 0, .int .i64 0, .int .i64 0, .slice none 0 0, .slice none 0 0, .int .i64 0, .int .i64 0, .slice none 0 0, .slice none 0 0, .slice none 0 0, .int .i64 0, .int .i64 0, .string ⟨#[]⟩, .slice none 0 0, .slice none 0 0, .int .i64 0, .string ⟨#[]⟩, .slice none 0 0] rfl (run_loadVar_row _ W.heap.size 39 39 _ (0, 0) _ hZF Tryz.underlying39 rfl infoMsg9) _ rfl) rfl ?_
            exact hfin _ rfl
          exact AllReadyH.nil
        exact AllReadyH.nil
      replace hE : E = 0 := by omega
      subst hE
      have ho1 : Hid (m.d.Few ∧ out = finM m.d rest.data.toList) := by
        rcases HF.out with h | h
        · refine ⟨h.2.1, ?_⟩
          rw [h.2.2, List.drop_of_length_le (by omega)]
          rfl
        · exact absurd rfl h.1
      clear HF
      have cE := inEnd_k rb wr rest 0 hR
      by_cases hre : rest.data.toList ≠ []
      · rw [if_pos ⟨rfl, hre⟩] at cE
        have ho : Hid (out = .error 6) := by
          show _ = _
          rw [ho1.out.2]
          unfold finM
          rw [if_pos hre]
        have hE : (6 : Nat) ≠ 0 := by decide
        clear ho1 hre hM hf
        go_wp2_with fail
        refine cE.mono ?_
        rintro e wc ⟨rfl, hRc, kc⟩
        have hZc := hZ.kept kc (by show ¬ W.heap.size = rb; omega)
        have hBc := hb.trans (kc.below hb.size (fun k hk => by rw [hk]; omega))
        clear cE hR hZ hb kc hN u1
        have u1 := hRc.cell (i := 1) rfl
        have hZd : Arr wc.drew W.heap.size 39 [.int .i64 0, .string ⟨#[]⟩, .int .i64 0, .int .i64 0, .string ⟨#[]⟩, .int .i64 0, .int .i64 0, .slice none 0 0, .int .i64 0, .int .i64 0, .slice none 0 0, .slice none 0 0, .int .i64 0, .int .i64 0, .slice none 0 0, .slice none 0 0, .slice none 0 0, .int .i64 0, .int .i64 0, .string ⟨#[]⟩, .slice none 0 0, .slice none 0 0, .int .i64 0, .string ⟨#[]⟩, .slice none 0 0] := hZc.drewN 1
        have hBd : Below W.heap.size W wc.drew := below_drewN hBc 1
        have hRd : Arr wc.drew rb 62 [.string _, .int .i64 ((6 : Nat) : Int)] := hRc.drewN 1
        have kr := kept_row wc.drew W.heap.size [.int .i64 0, .string ⟨#[]⟩, .int .i64 0, .int .i64 0, .string ⟨#[]⟩, .int .i64 0, .int .i64 0, .slice none 0 0, .int .i64 0, .int .i64 0, .slice none 0 0, .slice none 0 0, .int .i64 0, .int .i64 0, .slice none 0 0, .slice none 0 0, .slice none 0 0, .int .i64 0, .int .i64 0, .string ⟨#[]⟩, .slice none 0 0, .slice none 0 0, .int .i64 0, .string ⟨#[]⟩, .slice none 0 0].toArray
        have hRe := hRd.kept kr (by show ¬ rb = W.heap.size; omega)
        have hSd : (wc.drew).cell? ⟨rb, 1, none⟩ = some (.int .i64 ((6 : Nat) : Int)) := hRd.cell (i := 1) rfl
        have hSe : (World.setRow wc.drew W.heap.size [.int .i64 0, .string ⟨#[]⟩, .int .i64 0, .int .i64 0, .string ⟨#[]⟩, .int .i64 0, .int .i64 0, .slice none 0 0, .int .i64 0, .int .i64 0, .slice none 0 0, .slice none 0 0, .int .i64 0, .int .i64 0, .slice none 0 0, .slice none 0 0, .slice none 0 0, .int .i64 0, .int .i64 0, .string ⟨#[]⟩, .slice none 0 0, .slice none 0 0, .int .i64 0, .string ⟨#[]⟩, .slice none 0 0].toArray).cell? ⟨rb, 1, none⟩ = some (.int .i64 ((6 : Nat) : Int)) := hRe.cell (i := 1) rfl
        have hZF := hZd.row [.int .i64 0, .string ⟨#[]⟩, .int .i64 0, .int .i64 0, .string ⟨#[]⟩, .int .i64 0, .int .i64 0, .slice none 0 0, .int .i64 0, .int .i64 0, .slice none 0 0, .slice none 0 0, .int .i64 0, .int .i64 0, .slice none 0 0, .slice none 0 0, .slice none 0 0, .int .i64 0, .int .i64 0, .string ⟨#[]⟩, .slice none 0 0, .slice none 0 0, .int .i64 0, .string ⟨#[]⟩, .slice none 0 0]
        have hBF := below_setRow hBd (g := W.heap.size) (Nat.le_refl _) [.int .i64 0, .string ⟨#[]⟩, .int .i64 0, .int .i64 0, .string ⟨#[]⟩, .int .i64 0, .int .i64 0, .slice none 0 0, .int .i64 0, .int .i64 0, .slice none 0 0, .slice none 0 0, .int .i64 0, .int .i64 0, .slice none 0 0, .slice none 0 0, .slice none 0 0, .int .i64 0, .int .i64 0, .string ⟨#[]⟩, .slice none 0 0, .slice none 0 0, .int .i64 0, .string ⟨#[]⟩, .slice none 0 0].toArray
        have hfin : ∀ e, e = .returned (.tuple #[MsgM.v (msg0 0), .int .i64 ((6 : Nat) : Int)]) → GotMsg W out e _ := fun e h => gotMsg_err ho.out hE hBF e h
        clear hRc hZc hBc hBd hRd kr hRe hBF
        go_wp2_with fail
        refine wp_region_held_drew (S := fun w' => w'.cell? ⟨rb, 1, none⟩ = some (.int .i64 ((6 : Nat) : Int))) (by kernel_rfl) hSd (fun hHeld => ?_)
        refine wpAnyH_takeD (i := 0) (v := ?_) (some 80) rfl rfl (by kernel_rfl) (by kernel_rfl) (by kernel_rfl) (fun _ _ _ h => h) (Or.inl ⟨by rfl, ?_⟩) (by assumption) ?_
        rotate_left 1
        · intro w' hSw
          go_simp
          first | done | with_reducible rfl
        simp only [Act.put, List.setIfInBounds_toArray, List.set_cons_zero, List.set_cons_succ]
        refine wpAnyH_takeD (i := 1) (v := ?_) (some 81) rfl rfl (by kernel_rfl) (by kernel_rfl) (by kernel_rfl) (fun _ _ _ h => h) (Or.inl ⟨by rfl, ?_⟩) (by assumption) ?_
        rotate_left 1
        · intro w' hSw
          go_simp
          first | done | with_reducible rfl
        simp only [Act.put, List.setIfInBounds_toArray, List.set_cons_zero, List.set_cons_succ]
        refine wpAnyH_takeD (i := 2) (v := ?_) (some 82) rfl rfl (by kernel_rfl) (by kernel_rfl) (by kernel_rfl) (fun _ _ _ h => h) (Or.inl ⟨by rfl, ?_⟩) (by assumption) ?_
        rotate_left 1
        · intro w' hSw
          go_simp
          first | done | with_reducible rfl
        simp only [Act.put, List.setIfInBounds_toArray, List.set_cons_zero, List.set_cons_succ]
        refine wpAnyH_takeD (i := 3) (v := ?_) (some 83) rfl rfl (by kernel_rfl) (by kernel_rfl) (by kernel_rfl) (fun _ _ _ h => h) (Or.inl ⟨by rfl, ?_⟩) (by assumption) ?_
        rotate_left 1
        · intro w' hSw
          go_simp
          first | done | with_reducible rfl
        simp only [Act.put, List.setIfInBounds_toArray, List.set_cons_zero, List.set_cons_succ]
        refine wpAnyH_takeD (i := 4) (v := ?_) (some 84) rfl rfl (by kernel_rfl) (by kernel_rfl) (by kernel_rfl) (fun _ _ _ h => h) (Or.inl ⟨by rfl, ?_⟩) (by assumption) ?_
        rotate_left 1
        · intro w' hSw
          go_simp
          first | done | with_reducible rfl
        simp only [Act.put, List.setIfInBounds_toArray, List.set_cons_zero, List.set_cons_succ]
        refine wpAnyH_ready (rs := [5]) (by kernel_rfl) (by simp) ?_
        refine AllReadyH.cons rfl (fun K' hK => ?_) ?_
        · rw [if_pos (by rfl)]
          refine wp_store_row 39 _ _ (by rfl) W.heap.size [.int .i64 0, .string ⟨#[]⟩, .int .i64 0, .int .i64 0, .string ⟨#[]⟩, .int .i64 0, .int .i64 0, .slice none 0 0, .int .i64 0, .int .i64 0, .slice none 0 0, .slice none 0 0, .int .i64 0, .int .i64 0, .slice none 0 0, .slice none 0 0, .slice none 0 0, .int .i64 0, .int .i64 0, .string ⟨#[]⟩, .slice none 0 0, .slice none 0 0, .int .i64 0, .string ⟨#[]⟩, .slice none 0 0].toArray (by rfl) (by rfl) 39 _ hZd infoMsg9 (by rfl) hz1 ?_
          refine hK.out _ _ hSe (fun hHeld2 => ?_)
          clear hK K'
          refine wpAnyH_ready (rs := [6]) (by kernel_rfl) (by simp) ?_
          refine AllReadyH.cons rfl (fun K' hK => ?_) ?_
          · go_simp
            refine hK.out _ _ (by assumption) (fun hHeld3 => ?_)
            clear hK K'
            refine wpAnyH_done (by kernel_rfl) ?_ _
            go_wp2
            refine bodyPost_ret (v := .tuple #[MsgM.v (msg0 0), .int .i64 ((6 : Nat) : Int)]) (results_row_tmp rfl _ _ W.heap.size [.int .i64 0, .string ⟨#[]⟩, .int .i64 0, .int .i64 0, .string ⟨#[]⟩, .int .i64 0, .int .i64 0, .slice none 0 0, .int .i64 0, .int .i64 0, .slice none 0 0, .slice none 0 0, .int .i64 0, .int .i64 0, .slice none 0 0, .slice none 0 0, .slice none 0 0, .int .i64 0, .int .i64 0, .string ⟨#[]⟩, .slice none 0 0, .slice none 0 0, .int .i64 0, .string ⟨#[]⟩, .slice none 0 0] rfl (run_loadVar_row _ W.heap.size 39 39 _ (0, 0) _ hZF Tryz.underlying39 rfl infoMsg9) _ rfl) rfl ?_
            exact hfin _ rfl
          exact AllReadyH.nil
        exact AllReadyH.nil
      have hre0 : rest.data.toList = [] := by simpa using hre
      rw [if_neg (fun h => hre h.2)] at cE
      have ho2 : Hid (out = if chkM m.d ≠ 0 then .error (chkM m.d) else .ok m.d) := by
        show _ = _
        rw [ho1.out.2]
        unfold finM
        rw [if_neg (fun h => h hre0)]
      have hnum := few_num ho1.out.1
      have hsz9 : ∀ t ∈ m.bat.txs, TxSizes t.d := fun t ht => sizes_right (ho1.out.1.right t.d (List.mem_map.2 ⟨t, ht, rfl⟩))
      clear ho1 hre hre0
      go_wp2_with fail
      refine cE.mono ?_
      rintro e wc ⟨rfl, hRc, kc⟩
      have hZc := hZ.kept kc (by show ¬ W.heap.size = rb; omega)
      have hNc := hN.kept kc (by show ¬ mb = rb; omega)
      have hBc := hb.trans (kc.below hb.size (fun k hk => by rw [hk]; omega))
      have hMc := hM.keptM kc (fun b hb e => by have := hf b hb; have e' : b = rb := e; omega)
      have cC := refMsgCheck_any m wc hMc hnum hsz9
      obtain ⟨er, her⟩ : ∃ n : Nat, n = chkM m.d := ⟨_, rfl⟩
      rw [← her] at cC ho2
      clear cE hR hZ hb kc hN hM u1 hnum hsz9 her
      have hfz : ∀ b, m.foot b → ¬ b = W.heap.size := fun b hb => by have := hf b hb; omega
      have hlen : ∀ b, m.foot b → W.heap.size ≤ b := fun b hb => by have := hf b hb; omega
      have hfr : ∀ b, m.foot b → ¬ b = rb := fun b hb => by have := hf b hb; omega
      obtain ⟨k, dg, vi, tg, ba, he, ce, bl, q⟩ := m
      replace hNc : Arr wc mb 39 [.int .i64 k, .string dg, .int .i64 vi, .int .i64 tg.who, .string tg.mac, .int .i64 ba.author, .int .i64 ba.number, .slice ba.ta ba.txs.length ba.tc, .int .i64 he.author, .int .i64 he.round, .slice he.ra he.refs.length he.rc, .slice he.pa he.parents.length he.pc, .int .i64 ce.hdr.author, .int .i64 ce.hdr.round, .slice ce.hdr.ra ce.hdr.refs.length ce.hdr.rc, .slice ce.hdr.pa ce.hdr.parents.length ce.hdr.pc, .slice ce.va ce.votes.length ce.vc, .int .i64 bl.view, .int .i64 bl.qc.view, .string bl.qc.block, .slice bl.qc.va bl.qc.votes.length bl.qc.vc, .slice bl.ca bl.certs.length bl.cc, .int .i64 q.view, .string q.block, .slice q.va q.votes.length q.vc] := hNc
      unfold MsgM.v MsgM.c at cC
      simp only at cC
      have u1 := hRc.cell (i := 1) rfl
      go_wp2_with (refine wpList_load_row (by rfl) 39 _ (by rfl) mb (by rfl) 39 _ (0, 0) _ hNc Tryz.underlying39 (by rfl) infoMsg9 ?_)
      refine cC.mono ?_
      rintro e w6 ⟨rfl, hb6⟩
      have hR6 := hRc.below hb6 hRc.lt
      have hZ6 := hZc.below hb6 hZc.lt
      have hN6 := hNc.below hb6 hNc.lt
      have hB6 := hBc.trans (hb6.mono hBc.size)
      have hM6 := hMc.below hb6
      clear cC hRc hZc hNc hBc hMc hb6 u1 hf
      have u1 := hR6.cell (i := 1) rfl
      have uf1 := hR6.frozen 1
      have hR7 := hR6.set 1 (.int .i64 (er : Int))
      replace hR7 : Arr _ rb 62 [.string rest, .int .i64 (er : Int)] := hR7
      have hZ7 := hZ6.other (p := ⟨rb, 1, none⟩) (by show W.heap.size ≠ rb; omega) (.int .i64 (er : Int))
      have hN7 := hN6.other (p := ⟨rb, 1, none⟩) (by show mb ≠ rb; omega) (.int .i64 (er : Int))
      have hB7 := hB6.setCell (p := ⟨rb, 1, none⟩) (by show W.heap.size ≤ rb; omega) (.int .i64 (er : Int))
      have hM7 := hM6.keptM (Kept.setCell w6 ⟨rb, 1, none⟩ (.int .i64 (er : Int))) hfr
      have u7 := hR7.cell (i := 1) rfl
      clear hR6 hZ6 hN6 hB6 hM6
      by_cases hE : er ≠ 0
      · have ho : Hid (out = .error er) := by
          show _ = _
          rw [ho2.out, if_pos hE]
        have hE2 : ((er : Int) != 0) = true := by rw [bne_iff_ne]; omega
        clear ho2 hM7 hN7
        obtain ⟨wc, hwc⟩ : ∃ q', w6.setCell ⟨rb, 1, none⟩ (.int .i64 (er : Int)) = q' := ⟨_, rfl⟩
        rw [hwc] at hR7 hZ7 hB7 u7
        clear u7
        have u7 := hR7.cell (i := 1) rfl
        have hZd : Arr wc.drew W.heap.size 39 [.int .i64 0, .string ⟨#[]⟩, .int .i64 0, .int .i64 0, .string ⟨#[]⟩, .int .i64 0, .int .i64 0, .slice none 0 0, .int .i64 0, .int .i64 0, .slice none 0 0, .slice none 0 0, .int .i64 0, .int .i64 0, .slice none 0 0, .slice none 0 0, .slice none 0 0, .int .i64 0, .int .i64 0, .string ⟨#[]⟩, .slice none 0 0, .slice none 0 0, .int .i64 0, .string ⟨#[]⟩, .slice none 0 0] := hZ7.drewN 1
        have hBd : Below W.heap.size W wc.drew := below_drewN hB7 1
        have hRd : Arr wc.drew rb 62 [.string _, .int .i64 (er : Int)] := hR7.drewN 1
        have kr := kept_row wc.drew W.heap.size [.int .i64 0, .string ⟨#[]⟩, .int .i64 0, .int .i64 0, .string ⟨#[]⟩, .int .i64 0, .int .i64 0, .slice none 0 0, .int .i64 0, .int .i64 0, .slice none 0 0, .slice none 0 0, .int .i64 0, .int .i64 0, .slice none 0 0, .slice none 0 0, .slice none 0 0, .int .i64 0, .int .i64 0, .string ⟨#[]⟩, .slice none 0 0, .slice none 0 0, .int .i64 0, .string ⟨#[]⟩, .slice none 0 0].toArray
        have hRe := hRd.kept kr (by show ¬ rb = W.heap.size; omega)
        have hSd : (wc.drew).cell? ⟨rb, 1, none⟩ = some (.int .i64 (er : Int)) := hRd.cell (i := 1) rfl
        have hSe : (World.setRow wc.drew W.heap.size [.int .i64 0, .string ⟨#[]⟩, .int .i64 0, .int .i64 0, .string ⟨#[]⟩, .int .i64 0, .int .i64 0, .slice none 0 0, .int .i64 0, .int .i64 0, .slice none 0 0, .slice none 0 0, .int .i64 0, .int .i64 0, .slice none 0 0, .slice none 0 0, .slice none 0 0, .int .i64 0, .int .i64 0, .string ⟨#[]⟩, .slice none 0 0, .slice none 0 0, .int .i64 0, .string ⟨#[]⟩, .slice none 0 0].toArray).cell? ⟨rb, 1, none⟩ = some (.int .i64 (er : Int)) := hRe.cell (i := 1) rfl
        have hZF := hZd.row [.int .i64 0, .string ⟨#[]⟩, .int .i64 0, .int .i64 0, .string ⟨#[]⟩, .int .i64 0, .int .i64 0, .slice none 0 0, .int .i64 0, .int .i64 0, .slice none 0 0, .slice none 0 0, .int .i64 0, .int .i64 0, .slice none 0 0, .slice none 0 0, .slice none 0 0, .int .i64 0, .int .i64 0, .string ⟨#[]⟩, .slice none 0 0, .slice none 0 0, .int .i64 0, .string ⟨#[]⟩, .slice none 0 0]
        have hBF := below_setRow hBd (g := W.heap.size) (Nat.le_refl _) [.int .i64 0, .string ⟨#[]⟩, .int .i64 0, .int .i64 0, .string ⟨#[]⟩, .int .i64 0, .int .i64 0, .slice none 0 0, .int .i64 0, .int .i64 0, .slice none 0 0, .slice none 0 0, .int .i64 0, .int .i64 0, .slice none 0 0, .slice none 0 0, .slice none 0 0, .int .i64 0, .int .i64 0, .string ⟨#[]⟩, .slice none 0 0, .slice none 0 0, .int .i64 0, .string ⟨#[]⟩, .slice none 0 0].toArray
        have hfin : ∀ e, e = .returned (.tuple #[MsgM.v (msg0 0), .int .i64 (er : Int)]) → GotMsg W out e _ := fun e h => gotMsg_err ho.out hE hBF e h
        clear hR7 hZ7 hB7 hBd hRd kr hRe hBF
        go_wp2_with fail
        refine wp_region_held_drew (S := fun w' => w'.cell? ⟨rb, 1, none⟩ = some (.int .i64 (er : Int))) (by kernel_rfl) hSd (fun hHeld => ?_)
        refine wpAnyH_takeD (i := 0) (v := ?_) (some 80) rfl rfl (by kernel_rfl) (by kernel_rfl) (by kernel_rfl) (fun _ _ _ h => h) (Or.inl ⟨by rfl, ?_⟩) (by assumption) ?_
        rotate_left 1
        · intro w' hSw
          go_simp
          first | done | with_reducible rfl
        simp only [Act.put, List.setIfInBounds_toArray, List.set_cons_zero, List.set_cons_succ]
        refine wpAnyH_takeD (i := 1) (v := ?_) (some 81) rfl rfl (by kernel_rfl) (by kernel_rfl) (by kernel_rfl) (fun _ _ _ h => h) (Or.inl ⟨by rfl, ?_⟩) (by assumption) ?_
        rotate_left 1
        · intro w' hSw
          go_simp
          first | done | with_reducible rfl
        simp only [Act.put, List.setIfInBounds_toArray, List.set_cons_zero, List.set_cons_succ]
        refine wpAnyH_takeD (i := 2) (v := ?_) (some 82) rfl rfl (by kernel_rfl) (by kernel_rfl) (by kernel_rfl) (fun _ _ _ h => h) (Or.inl ⟨by rfl, ?_⟩) (by assumption) ?_
        rotate_left 1
        · intro w' hSw
          go_simp
          first | done | with_reducible rfl
        simp only [Act.put, List.setIfInBounds_toArray, List.set_cons_zero, List.set_cons_succ]
        refine wpAnyH_takeD (i := 3) (v := ?_) (some 83) rfl rfl (by kernel_rfl) (by kernel_rfl) (by kernel_rfl) (fun _ _ _ h => h) (Or.inl ⟨by rfl, ?_⟩) (by assumption) ?_
        rotate_left 1
        · intro w' hSw
          go_simp
          first | done | with_reducible rfl
        simp only [Act.put, List.setIfInBounds_toArray, List.set_cons_zero, List.set_cons_succ]
        refine wpAnyH_takeD (i := 4) (v := ?_) (some 84) rfl rfl (by kernel_rfl) (by kernel_rfl) (by kernel_rfl) (fun _ _ _ h => h) (Or.inl ⟨by rfl, ?_⟩) (by assumption) ?_
        rotate_left 1
        · intro w' hSw
          go_simp
          first | done | with_reducible rfl
        simp only [Act.put, List.setIfInBounds_toArray, List.set_cons_zero, List.set_cons_succ]
        refine wpAnyH_ready (rs := [5]) (by kernel_rfl) (by simp) ?_
        refine AllReadyH.cons rfl (fun K' hK => ?_) ?_
        · rw [if_pos (by rfl)]
          refine wp_store_row 39 _ _ (by rfl) W.heap.size [.int .i64 0, .string ⟨#[]⟩, .int .i64 0, .int .i64 0, .string ⟨#[]⟩, .int .i64 0, .int .i64 0, .slice none 0 0, .int .i64 0, .int .i64 0, .slice none 0 0, .slice none 0 0, .int .i64 0, .int .i64 0, .slice none 0 0, .slice none 0 0, .slice none 0 0, .int .i64 0, .int .i64 0, .string ⟨#[]⟩, .slice none 0 0, .slice none 0 0, .int .i64 0, .string ⟨#[]⟩, .slice none 0 0].toArray (by rfl) (by rfl) 39 _ hZd infoMsg9 (by rfl) hz1 ?_
          refine hK.out _ _ hSe (fun hHeld2 => ?_)
          clear hK K'
          refine wpAnyH_ready (rs := [6]) (by kernel_rfl) (by simp) ?_
          refine AllReadyH.cons rfl (fun K' hK => ?_) ?_
          · go_simp
            refine hK.out _ _ (by assumption) (fun hHeld3 => ?_)
            clear hK K'
            refine wpAnyH_done (by kernel_rfl) ?_ _
            go_wp2
            refine bodyPost_ret (v := .tuple #[MsgM.v (msg0 0), .int .i64 (er : Int)]) (results_row_tmp rfl _ _ W.heap.size [.int .i64 0, .string ⟨#[]⟩, .int .i64 0, .int .i64 0, .string ⟨#[]⟩, .int .i64 0, .int .i64 0, .slice none 0 0, .int .i64 0, .int .i64 0, .slice none 0 0, .slice none 0 0, .int .i64 0, .int .i64 0, .slice none 0 0, .slice none 0 0, .slice none 0 0, .int .i64 0, .int .i64 0, .string ⟨#[]⟩, .slice none 0 0, .slice none 0 0, .int .i64 0, .string ⟨#[]⟩, .slice none 0 0] rfl (run_loadVar_row _ W.heap.size 39 39 _ (0, 0) _ hZF Tryz.underlying39 rfl infoMsg9) _ rfl) rfl ?_
            exact hfin _ rfl
          exact AllReadyH.nil
        exact AllReadyH.nil
      replace hE : er = 0 := by omega
      subst hE
      have ho3 : Hid (out = .ok (MsgM.d ⟨k, dg, vi, tg, ba, he, ce, bl, q⟩)) := by
        show _ = _
        rw [ho2.out, if_neg (by simp)]
      have hx1 : (List.toArray (α := Value) [.int .i64 k, .string dg, .int .i64 vi, .int .i64 tg.who, .string tg.mac, .int .i64 ba.author, .int .i64 ba.number, .slice ba.ta ba.txs.length ba.tc, .int .i64 he.author, .int .i64 he.round, .slice he.ra he.refs.length he.rc, .slice he.pa he.parents.length he.pc, .int .i64 ce.hdr.author, .int .i64 ce.hdr.round, .slice ce.hdr.ra ce.hdr.refs.length ce.hdr.rc, .slice ce.hdr.pa ce.hdr.parents.length ce.hdr.pc, .slice ce.va ce.votes.length ce.vc, .int .i64 bl.view, .int .i64 bl.qc.view, .string bl.qc.block, .slice bl.qc.va bl.qc.votes.length bl.qc.vc, .slice bl.ca bl.certs.length bl.cc, .int .i64 q.view, .string q.block, .slice q.va q.votes.length q.vc]).all (·.oneCell') = true := Array.all_eq_true_iff_forall_mem.2 (fun v hv => msgK.one ⟨k, dg, vi, tg, ba, he, ce, bl, q⟩ v (List.mem_toArray.1 hv))
      have kr := kept_row (w6.setCell ⟨rb, 1, none⟩ (.int .i64 ((0 : Nat) : Int))) W.heap.size [.int .i64 k, .string dg, .int .i64 vi, .int .i64 tg.who, .string tg.mac, .int .i64 ba.author, .int .i64 ba.number, .slice ba.ta ba.txs.length ba.tc, .int .i64 he.author, .int .i64 he.round, .slice he.ra he.refs.length he.rc, .slice he.pa he.parents.length he.pc, .int .i64 ce.hdr.author, .int .i64 ce.hdr.round, .slice ce.hdr.ra ce.hdr.refs.length ce.hdr.rc, .slice ce.hdr.pa ce.hdr.parents.length ce.hdr.pc, .slice ce.va ce.votes.length ce.vc, .int .i64 bl.view, .int .i64 bl.qc.view, .string bl.qc.block, .slice bl.qc.va bl.qc.votes.length bl.qc.vc, .slice bl.ca bl.certs.length bl.cc, .int .i64 q.view, .string q.block, .slice q.va q.votes.length q.vc].toArray
      have hZF := hZ7.row [.int .i64 k, .string dg, .int .i64 vi, .int .i64 tg.who, .string tg.mac, .int .i64 ba.author, .int .i64 ba.number, .slice ba.ta ba.txs.length ba.tc, .int .i64 he.author, .int .i64 he.round, .slice he.ra he.refs.length he.rc, .slice he.pa he.parents.length he.pc, .int .i64 ce.hdr.author, .int .i64 ce.hdr.round, .slice ce.hdr.ra ce.hdr.refs.length ce.hdr.rc, .slice ce.hdr.pa ce.hdr.parents.length ce.hdr.pc, .slice ce.va ce.votes.length ce.vc, .int .i64 bl.view, .int .i64 bl.qc.view, .string bl.qc.block, .slice bl.qc.va bl.qc.votes.length bl.qc.vc, .slice bl.ca bl.certs.length bl.cc, .int .i64 q.view, .string q.block, .slice q.va q.votes.length q.vc]
      have hBF := below_setRow hB7 (g := W.heap.size) (Nat.le_refl _) [.int .i64 k, .string dg, .int .i64 vi, .int .i64 tg.who, .string tg.mac, .int .i64 ba.author, .int .i64 ba.number, .slice ba.ta ba.txs.length ba.tc, .int .i64 he.author, .int .i64 he.round, .slice he.ra he.refs.length he.rc, .slice he.pa he.parents.length he.pc, .int .i64 ce.hdr.author, .int .i64 ce.hdr.round, .slice ce.hdr.ra ce.hdr.refs.length ce.hdr.rc, .slice ce.hdr.pa ce.hdr.parents.length ce.hdr.pc, .slice ce.va ce.votes.length ce.vc, .int .i64 bl.view, .int .i64 bl.qc.view, .string bl.qc.block, .slice bl.qc.va bl.qc.votes.length bl.qc.vc, .slice bl.ca bl.certs.length bl.cc, .int .i64 q.view, .string q.block, .slice q.va q.votes.length q.vc].toArray
      have hMF := hM7.keptM kr hfz
      have hfin : ∀ e, e = .returned (.tuple #[MsgM.v ⟨k, dg, vi, tg, ba, he, ce, bl, q⟩, .int .i64 0]) → GotMsg W out e _ := fun e h => ⟨⟨k, dg, vi, tg, ba, he, ce, bl, q⟩, 0, h, hMF, Or.inl ⟨rfl, ho3.out⟩, hlen, hBF⟩
      clear ho2 kr hBF hMF hM7 hB7 hR7
      go_wp2_with (first | refine wpList_load_row (by rfl) 39 _ (by rfl) mb (by rfl) 39 _ (0, 0) _ hN7 Tryz.underlying39 (by rfl) infoMsg9 ?_ | refine wpList_store_row (by rfl) 39 _ _ (by rfl) W.heap.size [.int .i64 k, .string dg, .int .i64 vi, .int .i64 tg.who, .string tg.mac, .int .i64 ba.author, .int .i64 ba.number, .slice ba.ta ba.txs.length ba.tc, .int .i64 he.author, .int .i64 he.round, .slice he.ra he.refs.length he.rc, .slice he.pa he.parents.length he.pc, .int .i64 ce.hdr.author, .int .i64 ce.hdr.round, .slice ce.hdr.ra ce.hdr.refs.length ce.hdr.rc, .slice ce.hdr.pa ce.hdr.parents.length ce.hdr.pc, .slice ce.va ce.votes.length ce.vc, .int .i64 bl.view, .int .i64 bl.qc.view, .string bl.qc.block, .slice bl.qc.va bl.qc.votes.length bl.qc.vc, .slice bl.ca bl.certs.length bl.cc, .int .i64 q.view, .string q.block, .slice q.va q.votes.length q.vc].toArray (by rfl) (by rfl) 39 _ hZ7 infoMsg9 (by rfl) hx1 ?_)
      refine bodyPost_ret (v := .tuple #[MsgM.v ⟨k, dg, vi, tg, ba, he, ce, bl, q⟩, .int .i64 0]) (results_row_tmp rfl _ _ W.heap.size [.int .i64 k, .string dg, .int .i64 vi, .int .i64 tg.who, .string tg.mac, .int .i64 ba.author, .int .i64 ba.number, .slice ba.ta ba.txs.length ba.tc, .int .i64 he.author, .int .i64 he.round, .slice he.ra he.refs.length he.rc, .slice he.pa he.parents.length he.pc, .int .i64 ce.hdr.author, .int .i64 ce.hdr.round, .slice ce.hdr.ra ce.hdr.refs.length ce.hdr.rc, .slice ce.hdr.pa ce.hdr.parents.length ce.hdr.pc, .slice ce.va ce.votes.length ce.vc, .int .i64 bl.view, .int .i64 bl.qc.view, .string bl.qc.block, .slice bl.qc.va bl.qc.votes.length bl.qc.vc, .slice bl.ca bl.certs.length bl.cc, .int .i64 q.view, .string q.block, .slice q.va q.votes.length q.vc] rfl (run_loadVar_row _ W.heap.size 39 39 _ (0, 0) _ hZF Tryz.underlying39 rfl infoMsg9) _ rfl) rfl ?_
      exact hfin _ rfl
end Go.Proofs.YtmngiekobmhpaaaGreat

/- tusklaw09.MsgReads answers true; nothing old in memory is turned. -/
namespace Go.Proofs.YtmngiekobmhpaaaGreat
open Go.RowKit
set_option linter.unusedVariables false

theorem few_fields : ∀ (cs : List UInt8), (∀ c ∈ cs, c ∈ letters) → ∀ (p m : MsgD) (l : List UInt8) (f : MsgD → List UInt8 → Except Nat MsgD), p.Few → (∀ q r, f q r = .ok m → q.Few → m.Few) → rdFs cs p l f = .ok m → m.Few
  | [], _, p, m, l, f, hp, hf, h => hf p l h hp
  | c :: cs, hc, p, m, l, f, hp, hf, h => by
    rw [rdFs, rdF_step] at h
    cases hs : stepF c p l with
    | error e => rw [hs] at h; cases h
    | ok q =>
      obtain ⟨q, r⟩ := q
      rw [hs] at h
      exact few_fields cs (fun x hx => hc x (by simp [hx])) q m r f (few_step (hc c (by simp)) hs hp) hf h

theorem decM_few {l : List UInt8} {m : MsgD} (h : decM l = .ok m) : m.Few := by
  unfold decM at h
  rcases hg : getInt l with ⟨v, k, e⟩
  by_cases he : e = 0
  · subst he
    rw [rdI_ok hg] at h
    split at h
    · cases h
    refine few_fields _ (fieldsK_letters _).2 _ m _ _ (few_zero _) (fun q r hq hf => ?_) h
    split at hq
    · cases hq
    split at hq
    · cases hq
    simp only [Except.ok.injEq] at hq
    rw [← hq]
    exact hf
  · rw [rdI_err hg he] at h
    cases h

theorem gotMsg_same {r : Except Nat MsgD} {x y : MsgM} {e f : Nat} (h : (e = 0 ∧ r = .ok x.d) ∨ (e ≠ 0 ∧ r = .error e ∧ x = msg0 0)) (k : (f = 0 ∧ r = .ok y.d) ∨ (f ≠ 0 ∧ r = .error f ∧ y = msg0 0)) : e = f ∧ x.d = y.d := by
  rcases h with ⟨rfl, h⟩ | ⟨he, h, rfl⟩
  · rcases k with ⟨rfl, k⟩ | ⟨hf, k, _⟩
    · rw [h] at k
      simp only [Except.ok.injEq] at k
      exact ⟨rfl, k⟩
    · rw [h] at k
      cases k
  · rcases k with ⟨rfl, k⟩ | ⟨hf, k, rfl⟩
    · rw [h] at k
      cases k
    · rw [h] at k
      simp only [Except.error.injEq] at k
      exact ⟨k, rfl⟩

set_option maxRecDepth 100000 in
set_option maxHeartbeats 8000000 in
theorem msgReads_walk (s : ByteArray) (w : World) (hs : s.size ≤ 140737488351232) :
    Calls Tryz.prog 3 #[.string s] w fun e w' => e = .returned (.bool true) ∧ Below w.heap.size w w' := by
  by_cases hl : 20000 < s.size
  · have hl' : (20000 : Int) < s.size := by omega
    go_enter Tryz.func3, Tryz.ntmps3
    go_wp2
    go_ret
    exact ⟨rfl, Below.refl _ _⟩
  have hl' : ¬ (20000 : Int) < s.size := by omega
  have hmx : s.size ≤ maxLen := by unfold maxLen; omega
  have cA := fun w1 => msgDecode_any s w1 hmx
  have cB := fun w1 => refMsgDecode_any s w1 hmx
  have hnum : Hid (∀ (x : MsgM) (er : Nat), ((er = 0 ∧ decM s.data.toList = .ok x.d) ∨ (er ≠ 0 ∧ decM s.data.toList = .error er ∧ x = msg0 0)) → x.Num) := by
    intro x er h
    rcases h with ⟨_, h⟩ | ⟨_, _, rfl⟩
    · exact few_num (decM_few h)
    · exact few_num (x := msg0 0) (few_zero 0)
  generalize decM s.data.toList = r at cA cB hnum
  clear hmx hl hs
  go_enter Tryz.func3, Tryz.ntmps3
  go_wp2_with fail
  refine (cA _).mono ?_
  rintro e w1 ⟨x, er, rfl, hx, hres, _, hb1⟩
  have hnx := hnum.out x er hres
  have cS := fun (y : MsgM) w1 h1 h2 hd => sameM_any x y w1 h1 h2 hd hnx
  have hsame := fun (y : MsgM) (f : Nat) k => gotMsg_same (y := y) (f := f) hres k
  clear hres hnum hnx cA
  obtain ⟨xk, xdg, xvi, xtg, xba, xhe, xce, xbl, xq⟩ := x
  unfold MsgM.v MsgM.c at cS ⊢
  simp only at cS ⊢
  have hN0 := Arr.new w1 39 [.int .i64 0, .string ⟨#[]⟩, .int .i64 0, .int .i64 0, .string ⟨#[]⟩, .int .i64 0, .int .i64 0, .slice none 0 0, .int .i64 0, .int .i64 0, .slice none 0 0, .slice none 0 0, .int .i64 0, .int .i64 0, .slice none 0 0, .slice none 0 0, .slice none 0 0, .int .i64 0, .int .i64 0, .string ⟨#[]⟩, .slice none 0 0, .slice none 0 0, .int .i64 0, .string ⟨#[]⟩, .slice none 0 0]
  have hbn := belowNew w1 (.cells [.int .i64 0, .string ⟨#[]⟩, .int .i64 0, .int .i64 0, .string ⟨#[]⟩, .int .i64 0, .int .i64 0, .slice none 0 0, .int .i64 0, .int .i64 0, .slice none 0 0, .slice none 0 0, .int .i64 0, .int .i64 0, .slice none 0 0, .slice none 0 0, .slice none 0 0, .int .i64 0, .int .i64 0, .string ⟨#[]⟩, .slice none 0 0, .slice none 0 0, .int .i64 0, .string ⟨#[]⟩, .slice none 0 0].toArray 39)
  have h1 : (List.toArray (α := Value) [.int .i64 xk, .string xdg, .int .i64 xvi, .int .i64 xtg.who, .string xtg.mac, .int .i64 xba.author, .int .i64 xba.number, .slice xba.ta xba.txs.length xba.tc, .int .i64 xhe.author, .int .i64 xhe.round, .slice xhe.ra xhe.refs.length xhe.rc, .slice xhe.pa xhe.parents.length xhe.pc, .int .i64 xce.hdr.author, .int .i64 xce.hdr.round, .slice xce.hdr.ra xce.hdr.refs.length xce.hdr.rc, .slice xce.hdr.pa xce.hdr.parents.length xce.hdr.pc, .slice xce.va xce.votes.length xce.vc, .int .i64 xbl.view, .int .i64 xbl.qc.view, .string xbl.qc.block, .slice xbl.qc.va xbl.qc.votes.length xbl.qc.vc, .slice xbl.ca xbl.certs.length xbl.cc, .int .i64 xq.view, .string xq.block, .slice xq.va xq.votes.length xq.vc]).all (·.oneCell') = true := Array.all_eq_true_iff_forall_mem.2 (fun v hv => msgK.one ⟨xk, xdg, xvi, xtg, xba, xhe, xce, xbl, xq⟩ v (List.mem_toArray.1 hv))
  have kN := kept_row (w1.alloc (.cells [.int .i64 0, .string ⟨#[]⟩, .int .i64 0, .int .i64 0, .string ⟨#[]⟩, .int .i64 0, .int .i64 0, .slice none 0 0, .int .i64 0, .int .i64 0, .slice none 0 0, .slice none 0 0, .int .i64 0, .int .i64 0, .slice none 0 0, .slice none 0 0, .slice none 0 0, .int .i64 0, .int .i64 0, .string ⟨#[]⟩, .slice none 0 0, .slice none 0 0, .int .i64 0, .string ⟨#[]⟩, .slice none 0 0].toArray 39)) w1.heap.size [.int .i64 xk, .string xdg, .int .i64 xvi, .int .i64 xtg.who, .string xtg.mac, .int .i64 xba.author, .int .i64 xba.number, .slice xba.ta xba.txs.length xba.tc, .int .i64 xhe.author, .int .i64 xhe.round, .slice xhe.ra xhe.refs.length xhe.rc, .slice xhe.pa xhe.parents.length xhe.pc, .int .i64 xce.hdr.author, .int .i64 xce.hdr.round, .slice xce.hdr.ra xce.hdr.refs.length xce.hdr.rc, .slice xce.hdr.pa xce.hdr.parents.length xce.hdr.pc, .slice xce.va xce.votes.length xce.vc, .int .i64 xbl.view, .int .i64 xbl.qc.view, .string xbl.qc.block, .slice xbl.qc.va xbl.qc.votes.length xbl.qc.vc, .slice xbl.ca xbl.certs.length xbl.cc, .int .i64 xq.view, .string xq.block, .slice xq.va xq.votes.length xq.vc].toArray
  have hbS := below_setRow hbn (g := w1.heap.size) (Nat.le_refl _) [.int .i64 xk, .string xdg, .int .i64 xvi, .int .i64 xtg.who, .string xtg.mac, .int .i64 xba.author, .int .i64 xba.number, .slice xba.ta xba.txs.length xba.tc, .int .i64 xhe.author, .int .i64 xhe.round, .slice xhe.ra xhe.refs.length xhe.rc, .slice xhe.pa xhe.parents.length xhe.pc, .int .i64 xce.hdr.author, .int .i64 xce.hdr.round, .slice xce.hdr.ra xce.hdr.refs.length xce.hdr.rc, .slice xce.hdr.pa xce.hdr.parents.length xce.hdr.pc, .slice xce.va xce.votes.length xce.vc, .int .i64 xbl.view, .int .i64 xbl.qc.view, .string xbl.qc.block, .slice xbl.qc.va xbl.qc.votes.length xbl.qc.vc, .slice xbl.ca xbl.certs.length xbl.cc, .int .i64 xq.view, .string xq.block, .slice xq.va xq.votes.length xq.vc].toArray
  have hNew := hN0.row [.int .i64 xk, .string xdg, .int .i64 xvi, .int .i64 xtg.who, .string xtg.mac, .int .i64 xba.author, .int .i64 xba.number, .slice xba.ta xba.txs.length xba.tc, .int .i64 xhe.author, .int .i64 xhe.round, .slice xhe.ra xhe.refs.length xhe.rc, .slice xhe.pa xhe.parents.length xhe.pc, .int .i64 xce.hdr.author, .int .i64 xce.hdr.round, .slice xce.hdr.ra xce.hdr.refs.length xce.hdr.rc, .slice xce.hdr.pa xce.hdr.parents.length xce.hdr.pc, .slice xce.va xce.votes.length xce.vc, .int .i64 xbl.view, .int .i64 xbl.qc.view, .string xbl.qc.block, .slice xbl.qc.va xbl.qc.votes.length xbl.qc.vc, .slice xbl.ca xbl.certs.length xbl.cc, .int .i64 xq.view, .string xq.block, .slice xq.va xq.votes.length xq.vc]
  have hx2 := MsgM.At.below hx hbS
  have hB2 := hb1.trans (hbS.mono hb1.size)
  clear hbn kN hbS hx hb1
  go_wp2_with (refine wpList_store_row (by rfl) 39 _ _ (by rfl) w1.heap.size [.int .i64 xk, .string xdg, .int .i64 xvi, .int .i64 xtg.who, .string xtg.mac, .int .i64 xba.author, .int .i64 xba.number, .slice xba.ta xba.txs.length xba.tc, .int .i64 xhe.author, .int .i64 xhe.round, .slice xhe.ra xhe.refs.length xhe.rc, .slice xhe.pa xhe.parents.length xhe.pc, .int .i64 xce.hdr.author, .int .i64 xce.hdr.round, .slice xce.hdr.ra xce.hdr.refs.length xce.hdr.rc, .slice xce.hdr.pa xce.hdr.parents.length xce.hdr.pc, .slice xce.va xce.votes.length xce.vc, .int .i64 xbl.view, .int .i64 xbl.qc.view, .string xbl.qc.block, .slice xbl.qc.va xbl.qc.votes.length xbl.qc.vc, .slice xbl.ca xbl.certs.length xbl.cc, .int .i64 xq.view, .string xq.block, .slice xq.va xq.votes.length xq.vc].toArray (by rfl) (by rfl) 39 _ hN0 infoMsg9 (by rfl) h1 ?_)
  refine (cB _).mono ?_
  rintro e w3 ⟨y, f, rfl, hy, hres, _, hb3⟩
  obtain ⟨rfl, hdd⟩ := hsame y f hres
  have hX3 := hNew.below hb3 hNew.lt
  have hx3 := hx2.below hb3
  have hB3 := hB2.trans (hb3.mono hB2.size)
  obtain ⟨xb, hxb⟩ : ∃ n, w1.heap.size = n := ⟨_, rfl⟩
  rw [hxb] at hX3 ⊢
  clear hNew hx2 hB2 hb3 cB hN0 h1 hres hsame hxb
  have cS1 := fun w1 h1 h2 => cS y w1 h1 h2 hdd
  clear cS hdd
  obtain ⟨yk, ydg, yvi, ytg, yba, yhe, yce, ybl, yq⟩ := y
  unfold MsgM.v MsgM.c
  simp only
  have hN0 := Arr.new w3 39 [.int .i64 0, .string ⟨#[]⟩, .int .i64 0, .int .i64 0, .string ⟨#[]⟩, .int .i64 0, .int .i64 0, .slice none 0 0, .int .i64 0, .int .i64 0, .slice none 0 0, .slice none 0 0, .int .i64 0, .int .i64 0, .slice none 0 0, .slice none 0 0, .slice none 0 0, .int .i64 0, .int .i64 0, .string ⟨#[]⟩, .slice none 0 0, .slice none 0 0, .int .i64 0, .string ⟨#[]⟩, .slice none 0 0]
  have hbn := belowNew w3 (.cells [.int .i64 0, .string ⟨#[]⟩, .int .i64 0, .int .i64 0, .string ⟨#[]⟩, .int .i64 0, .int .i64 0, .slice none 0 0, .int .i64 0, .int .i64 0, .slice none 0 0, .slice none 0 0, .int .i64 0, .int .i64 0, .slice none 0 0, .slice none 0 0, .slice none 0 0, .int .i64 0, .int .i64 0, .string ⟨#[]⟩, .slice none 0 0, .slice none 0 0, .int .i64 0, .string ⟨#[]⟩, .slice none 0 0].toArray 39)
  have h1 : (List.toArray (α := Value) [.int .i64 yk, .string ydg, .int .i64 yvi, .int .i64 ytg.who, .string ytg.mac, .int .i64 yba.author, .int .i64 yba.number, .slice yba.ta yba.txs.length yba.tc, .int .i64 yhe.author, .int .i64 yhe.round, .slice yhe.ra yhe.refs.length yhe.rc, .slice yhe.pa yhe.parents.length yhe.pc, .int .i64 yce.hdr.author, .int .i64 yce.hdr.round, .slice yce.hdr.ra yce.hdr.refs.length yce.hdr.rc, .slice yce.hdr.pa yce.hdr.parents.length yce.hdr.pc, .slice yce.va yce.votes.length yce.vc, .int .i64 ybl.view, .int .i64 ybl.qc.view, .string ybl.qc.block, .slice ybl.qc.va ybl.qc.votes.length ybl.qc.vc, .slice ybl.ca ybl.certs.length ybl.cc, .int .i64 yq.view, .string yq.block, .slice yq.va yq.votes.length yq.vc]).all (·.oneCell') = true := Array.all_eq_true_iff_forall_mem.2 (fun v hv => msgK.one ⟨yk, ydg, yvi, ytg, yba, yhe, yce, ybl, yq⟩ v (List.mem_toArray.1 hv))
  have kN := kept_row (w3.alloc (.cells [.int .i64 0, .string ⟨#[]⟩, .int .i64 0, .int .i64 0, .string ⟨#[]⟩, .int .i64 0, .int .i64 0, .slice none 0 0, .int .i64 0, .int .i64 0, .slice none 0 0, .slice none 0 0, .int .i64 0, .int .i64 0, .slice none 0 0, .slice none 0 0, .slice none 0 0, .int .i64 0, .int .i64 0, .string ⟨#[]⟩, .slice none 0 0, .slice none 0 0, .int .i64 0, .string ⟨#[]⟩, .slice none 0 0].toArray 39)) w3.heap.size [.int .i64 yk, .string ydg, .int .i64 yvi, .int .i64 ytg.who, .string ytg.mac, .int .i64 yba.author, .int .i64 yba.number, .slice yba.ta yba.txs.length yba.tc, .int .i64 yhe.author, .int .i64 yhe.round, .slice yhe.ra yhe.refs.length yhe.rc, .slice yhe.pa yhe.parents.length yhe.pc, .int .i64 yce.hdr.author, .int .i64 yce.hdr.round, .slice yce.hdr.ra yce.hdr.refs.length yce.hdr.rc, .slice yce.hdr.pa yce.hdr.parents.length yce.hdr.pc, .slice yce.va yce.votes.length yce.vc, .int .i64 ybl.view, .int .i64 ybl.qc.view, .string ybl.qc.block, .slice ybl.qc.va ybl.qc.votes.length ybl.qc.vc, .slice ybl.ca ybl.certs.length ybl.cc, .int .i64 yq.view, .string yq.block, .slice yq.va yq.votes.length yq.vc].toArray
  have hbS := below_setRow hbn (g := w3.heap.size) (Nat.le_refl _) [.int .i64 yk, .string ydg, .int .i64 yvi, .int .i64 ytg.who, .string ytg.mac, .int .i64 yba.author, .int .i64 yba.number, .slice yba.ta yba.txs.length yba.tc, .int .i64 yhe.author, .int .i64 yhe.round, .slice yhe.ra yhe.refs.length yhe.rc, .slice yhe.pa yhe.parents.length yhe.pc, .int .i64 yce.hdr.author, .int .i64 yce.hdr.round, .slice yce.hdr.ra yce.hdr.refs.length yce.hdr.rc, .slice yce.hdr.pa yce.hdr.parents.length yce.hdr.pc, .slice yce.va yce.votes.length yce.vc, .int .i64 ybl.view, .int .i64 ybl.qc.view, .string ybl.qc.block, .slice ybl.qc.va ybl.qc.votes.length ybl.qc.vc, .slice ybl.ca ybl.certs.length ybl.cc, .int .i64 yq.view, .string yq.block, .slice yq.va yq.votes.length yq.vc].toArray
  have hNew := hN0.row [.int .i64 yk, .string ydg, .int .i64 yvi, .int .i64 ytg.who, .string ytg.mac, .int .i64 yba.author, .int .i64 yba.number, .slice yba.ta yba.txs.length yba.tc, .int .i64 yhe.author, .int .i64 yhe.round, .slice yhe.ra yhe.refs.length yhe.rc, .slice yhe.pa yhe.parents.length yhe.pc, .int .i64 yce.hdr.author, .int .i64 yce.hdr.round, .slice yce.hdr.ra yce.hdr.refs.length yce.hdr.rc, .slice yce.hdr.pa yce.hdr.parents.length yce.hdr.pc, .slice yce.va yce.votes.length yce.vc, .int .i64 ybl.view, .int .i64 ybl.qc.view, .string ybl.qc.block, .slice ybl.qc.va ybl.qc.votes.length ybl.qc.vc, .slice ybl.ca ybl.certs.length ybl.cc, .int .i64 yq.view, .string yq.block, .slice yq.va yq.votes.length yq.vc]
  have hX32 := hX3.below hbS hX3.lt
  have hy4 := MsgM.At.below hy hbS
  have hx4 := hx3.below hbS
  have hB4 := hB3.trans (hbS.mono hB3.size)
  clear hbn kN hbS hx3 hy hB3 hX3
  go_wp2_with (first | refine wpList_load_row (by rfl) 39 _ (by rfl) xb (by rfl) 39 _ (0, 0) _ hX32 Tryz.underlying39 (by rfl) infoMsg9 ?_ | refine wpList_load_row (by rfl) 39 _ (by rfl) w3.heap.size (by rfl) 39 _ (0, 0) _ hNew Tryz.underlying39 (by rfl) infoMsg9 ?_ | refine wpList_store_row (by rfl) 39 _ _ (by rfl) w3.heap.size [.int .i64 yk, .string ydg, .int .i64 yvi, .int .i64 ytg.who, .string ytg.mac, .int .i64 yba.author, .int .i64 yba.number, .slice yba.ta yba.txs.length yba.tc, .int .i64 yhe.author, .int .i64 yhe.round, .slice yhe.ra yhe.refs.length yhe.rc, .slice yhe.pa yhe.parents.length yhe.pc, .int .i64 yce.hdr.author, .int .i64 yce.hdr.round, .slice yce.hdr.ra yce.hdr.refs.length yce.hdr.rc, .slice yce.hdr.pa yce.hdr.parents.length yce.hdr.pc, .slice yce.va yce.votes.length yce.vc, .int .i64 ybl.view, .int .i64 ybl.qc.view, .string ybl.qc.block, .slice ybl.qc.va ybl.qc.votes.length ybl.qc.vc, .slice ybl.ca ybl.certs.length ybl.cc, .int .i64 yq.view, .string yq.block, .slice yq.va yq.votes.length yq.vc].toArray (by rfl) (by rfl) 39 _ hN0 infoMsg9 (by rfl) h1 ?_)
  refine (cS1 _ hx4 hy4).mono ?_
  rintro e w5 ⟨rfl, hb5⟩
  have hB5 := hB4.trans (hb5.mono hB4.size)
  clear cS1 hx4 hy4 hB4 hb5 hX32 hNew hN0 h1
  go_wp2
  go_ret
  exact ⟨rfl, hB5⟩
end Go.Proofs.YtmngiekobmhpaaaGreat

/- MsgReads: for every input the statement answers true, and each argument reads afterwards as it read before. No condition. -/
namespace Go.Proofs.YtmngiekobmhpaaaGreat
open Go.ChangeShapes Go.WideShapes Go.ChangeAt Go.RowKit
open Go.ChangeMaps (open_string shut_string)
set_option linter.unusedVariables false

set_option maxRecDepth 100000 in
theorem msgReads_lifted (os : Os) (started : os.Started) (H : Type) (enc : TypeId × Value → H) :
    ReturnsInHanded {} Tryz.checked os 3 .any (Rows.msgReadsSpec.pre6 enc Tryz.prog Tryz.f3 Rows.msgReadsRow.domain false) (Rows.msgReadsSpec.post enc Tryz.prog Tryz.f3 false true false false) := by
  refine returnsInHanded_of_change_sized (C := Tryz.checked) ownKnob_none started (by kernel_rfl) Tryz.func3
    (ChangeSpec.witness6 (enc := enc) (C := Tryz.checked) false ⟨#[], #[.string ByteArray.empty], []⟩ 8 (by kernel_rfl) (by kernel_rfl) (by kernel_rfl) (by kernel_rfl)) ?_
  intro W base args ds gs before hval0 hW hcnd hsz0 _
  have hval : ∀ (j : Nat) t v, Tryz.f3.params[j]? = some t → args[j]? = some v → Value.okWide Tryz.prog W .any base t v := hval0
  have hsz : (DataW.weightsEach Tryz.prog (Tryz.f3.params.toList ++ Rows.msgReadsSpec.plain.varTypes Tryz.prog) (ds ++ gs)).all (· ≤ reachBytes) = true := hsz0
  have hW' := hW
  obtain ⟨p, q, hA0, hV, rfl, hfz, hnd⟩ := hW
  have hA : DataW.TrodAll enc Tryz.prog W 0 (fun _ => true) true Tryz.f3.params.toList args.toList ds p := hA0
  rw [Tryz.params3] at hA hval hsz
  obtain ⟨v0, vs0, d0, ds0, p0, q0, hargs, rfl, rfl, h0, r0⟩ := trodAll_cons hA
  obtain ⟨rfl, rfl, rfl⟩ := trodAll_nil r0
  obtain rfl : args = #[v0] := by cases args; simp_all
  obtain ⟨rfl, rfl⟩ := trodVars_none hV
  have k0 := h0
  have lt0 : ∀ x ∈ p0, x.block < W.heap.size := by obtain ⟨m, hm⟩ := k0; exact DataW.trod_lt m _ _ _ hm
  obtain ⟨a0, rfl, hd0, hp0, w0⟩ := open_string Tryz.underlying9 (hval 0 9 v0 rfl rfl) h0
  have s0 : a0.size ≤ 140737488351232 := by
    have := sized_string hsz (j := 0) (t := 9) (bytes := a0.data.toList) rfl (by rw [hd0]; rfl)
    simpa [reachBytes] using this
  clear hA0 hval0 hsz0
  refine (msgReads_walk a0 W s0).mono fun e W' ⟨he, bel⟩ => ?_
  subst he
  exact ⟨_, rfl, _, _, _, [], _, [], hW', trodAll_mk1 (shut_bool Tryz.underlying4 _), (trodAll_cons_mk (Below.trod laidOut_true (by kernel_rfl) (of_decide_eq_true (by kernel_rfl)) k0 bel lt0) trodAll_mk0), rfl, bel.frame _, fun h => by cases h⟩

theorem msgReads_holds : Rows.MsgReadsSaid :=
  OpenClaim.holds_of_wide 3 Tryz.f3 rfl rfl rfl rfl rfl rfl rfl ⟨rfl, rfl, rfl, rfl, rfl⟩ rfl rfl rfl rfl rfl (by kernel_rfl) Tryz.func3 (by kernel_rfl)
    (of_decide_eq_true (by kernel_rfl)) (by unfold Func.isWrapper; rw [if_neg (of_decide_eq_false (by kernel_rfl))]; exact ⟨rfl, rfl⟩)
    (fun os started H enc _ => msgReads_lifted os started H enc)
end Go.Proofs.YtmngiekobmhpaaaGreat
