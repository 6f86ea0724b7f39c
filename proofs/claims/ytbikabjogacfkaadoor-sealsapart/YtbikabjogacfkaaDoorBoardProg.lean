/- What package seals does: New, Open, Close, Words, Add. -/
import Derived.Test.YtbikabjogacfkaaDoorBoardLie
import Derived.Test.YtbikabjogacfkaaDoorSliceStr
import Derived.BigQuiet
import Derived.BigRegion
import Derived.Deep.QuietTactic
import Derived.Deep.RegionHeld3
namespace Go.Proofs.YtbikabjogacfkaaDoor
open Go Go.RowKit Go.Maps
set_option linter.unusedVariables false

theorem one_word : ∀ {vs : List PV} {x y : PV}, (vs.map (·.word)).Nodup → x ∈ vs → y ∈ vs → x.word = y.word → x = y
  | [], _, _, _, hx, _, _ => by cases hx
  | a :: r, x, y, hn, hx, hy, e => by
    rw [List.map_cons, List.nodup_cons] at hn
    rcases List.mem_cons.1 hx with hx1 | hx1
    · rcases List.mem_cons.1 hy with hy1 | hy1
      · rw [hx1, hy1]
      · exact absurd (by rw [← hx1, e]; exact List.mem_map_of_mem hy1) hn.1
    · rcases List.mem_cons.1 hy with hy1 | hy1
      · exact absurd (by rw [← hy1, ← e]; exact List.mem_map_of_mem hx1) hn.1
      · exact one_word hn.2 hx1 hy1 e

theorem zeroVotesP (w : World) : (zeroValue 65).run Tryd.prog w = .ok (.pointer none) w := Tryd.zeroValue65 w

/-- 'm[id] = v' as a run. -/
theorem SMap.update {w : World} {b : Nat} {f : ByteArray → Option Value} {n : Nat} (h : SMap w b f n) (hn : n < maxLen) {t e : TypeId} (ht : Tryd.prog.underlying t = some (.map 9 e)) (id : ByteArray) (hid : id.size ≤ maxLen) (u : Value) :
    ∃ w', (Instr.mapUpdate t (.map (some b)) (.string id) u).run Tryd.prog w = .ok () w' ∧ SMap w' b (putF f id u) (putN f id n) ∧ Kept (fun k => k = b) w w' := by
  obtain ⟨D, ho, h1, h2, h3⟩ := h
  obtain ⟨w', hrun, r1, r2⟩ := ho.update lawStr ht hn (keyS_of hid) (val := u) (d := .held u) (ps := []) rfl
  exact ⟨w', hrun, SMap.puts ho h1 h2 h3 r1, (Kept.of_grown r2).mono (fun k _ e => by simpa using e.symm)⟩

theorem atW_T (word : ByteArray) : ∀ bs : List WordB, atW word bs = atT word (bs.map (·.word))
  | [] => rfl
  | x :: r => by
    unfold atW
    rw [List.map_cons]
    unfold atT
    rw [atW_T word r]

set_option maxRecDepth 100000 in
set_option maxHeartbeats 1000000 in
theorem pbNew_any (tb : Nat) (kind : ByteArray) (most : Int) (w : World) : Calls Tryd.prog 7 #[.pointer (some ⟨tb, 0, none⟩), .string kind, .int .i64 most] w fun e w' => ∃ bb, e = .returned (.pointer (some ⟨bb, 0, none⟩)) ∧ ∃ S, PB w' bb S tb kind (max 0 most) [] ∧ (∀ k, S k → w.heap.size ≤ k) ∧ Below w.heap.size w w' := by
  have hmm := @run_makeMap Tryd.prog
  have hb1 := belowNew w (.map #[] 0)
  have hM := SMap.new w
  have hb2 := belowNew (w.alloc (.map #[] 0)) (.cells #[.pointer (some ⟨tb, 0, none⟩), .string kind, .int .i64 most, .map (some w.heap.size), .slice none 0 0] 61)
  have hX := Arr.new (w.alloc (.map #[] 0)) 61 [.pointer (some ⟨tb, 0, none⟩), .string kind, .int .i64 most, .map (some w.heap.size), .slice none 0 0]
  have e8 : (w.alloc (.map #[] 0)).heap.size = w.heap.size + 1 := by show (w.heap.push _).size = _; exact Array.size_push _
  obtain ⟨mm, hmmx⟩ : ∃ z, Hid (max 0 most = z) := ⟨_, rfl⟩
  have hP : PB ((w.alloc (.map #[] 0)).alloc (.cells #[.pointer (some ⟨tb, 0, none⟩), .string kind, .int .i64 most, .map (some w.heap.size), .slice none 0 0] 61)) (w.heap.size + 1) (PFoot (w.heap.size + 1) w.heap.size (.slice none 0 0) []) tb kind mm [] := by
    refine ⟨w.heap.size, .slice none 0 0, most, [], rfl, hmmx.out.symm, fun k => Iff.rfl, by rw [← e8]; exact hX, KQ.empty _ _ _ _, (hM.below hb2).congr (fun _ => rfl), (fun x hx => by cases hx), List.nodup_nil, List.nodup_nil, by omega, (fun x hx => by cases hx), (fun k e => by cases e), by simp⟩
  have hB := hb1.trans (hb2.mono (by omega))
  have hS : ∀ k, PFoot (w.heap.size + 1) w.heap.size (.slice none 0 0) [] k → w.heap.size ≤ k := by
    rintro k (e | e | e | ⟨x, hx, _⟩)
    · omega
    · omega
    · cases e
    · cases hx
  rw [hmmx.out]
  clear hX hM hb1 hb2 e8
  go_enter Tryd.func7, Tryd.ntmps7
  go_wp2
  go_ret
  exact ⟨_, rfl, _, hP, hS, hB⟩

set_option maxRecDepth 100000 in
set_option maxHeartbeats 1000000 in
theorem pbWords_any (bb : Nat) (S : Nat → Prop) (tb : Nat) (kind : ByteArray) (most : Int) (bs : List WordB) (w : World) (h : PB w bb S tb kind most bs) :
    Calls Tryd.prog 17 #[.pointer (some ⟨bb, 0, none⟩)] w fun e w' => ∃ v, e = .returned v ∧ KQ textK 9 w' w.heap.size v (bs.map (·.word)) ∧ Below w.heap.size w w' := by
  obtain ⟨mb, q, m0, vs, rfl, _, _, h⟩ := h
  rw [words_b]
  have cC := cloneS_any 0 q (vs.map (·.word)) w h.row (by rw [List.length_map]; exact h.few)
  have c4 := h.box.cell (i := 4) rfl
  obtain ⟨ao, cap, rfl, _, _⟩ := h.row.form
  generalize vs.map (·.word) = l at cC c4 ⊢
  clear h
  go_enter Tryd.func17, Tryd.ntmps17
  go_wp2_with fail
  refine cC.mono ?_
  rintro e w1 ⟨v, rfl, hQ, hb⟩
  clear cC
  obtain ⟨aoF, capF, rfl, _, _⟩ := hQ.form
  go_wp2
  go_ret
  exact ⟨_, rfl, hQ, hb⟩

set_option maxRecDepth 100000 in
set_option maxHeartbeats 1000000 in
theorem pbClose_none (word : ByteArray) (hw : word.size ≤ maxLen) (bb mb : Nat) (q : Value) (tb : Nat) (kind : ByteArray) (m0 : Int) (vs : List PV) (w : World) (h : PBd w bb mb q tb kind m0 vs) (hA : atW word (vs.map PV.b) = none) :
    Calls Tryd.prog 14 #[.pointer (some ⟨bb, 0, none⟩), .string word] w fun e w' => e = .returned (.tuple #[]) ∧ PBd w' bb mb q tb kind m0 vs ∧ Kept (fun k => k = mb) w w' := by
  have hM := h.map
  have c3 := h.box.cell (i := 3) rfl
  obtain ⟨f0, hf0⟩ : ∃ f, Hid (votF vs = f) := ⟨_, rfl⟩
  rw [hf0.out] at hM
  go_enter Tryd.func14, Tryd.ntmps14
  go_wp2_with (at_delete; refine smap_del rfl _ _ 59 rfl 65 Tryd.underlying59 mb f0 _ rfl hM word hw rfl ?_)
  intro w1 hM1 hk1
  have h1 := h.struck hA (by rw [hf0.out]; exact hM1) hk1
  clear hM1 c3 hM
  have c4 := h1.box.cell (i := 4) rfl
  obtain ⟨ao, cap, rfl, _, hR⟩ := h1.row.form
  have cI := indexS_any word ao cap (vs.map (·.word)) w1 hR (by rw [List.length_map]; exact h1.few)
  rw [atW_T, words_b] at hA
  rw [hA] at cI
  unfold idxI at cI
  simp only at cI
  generalize vs.map (·.word) = l at cI c4
  go_wp2_with fail
  refine cI.mono ?_
  rintro e w2 ⟨rfl, hb2⟩
  have h2 := h1.below hb2
  have hk2 := hk1.trans (Kept.of_below hb2)
  clear cI c4
  go_wp2
  go_end0
  exact ⟨rfl, h2, hk2⟩

set_option maxRecDepth 100000 in
set_option maxHeartbeats 1000000 in
theorem pbClose_at (word : ByteArray) (hw : word.size ≤ maxLen) (bb mb : Nat) (q : Value) (tb : Nat) (kind : ByteArray) (m0 : Int) (vs : List PV) (w : World) (h : PBd w bb mb q tb kind m0 vs) {j : Nat} (hA : atW word (vs.map PV.b) = some j) :
    Calls Tryd.prog 14 #[.pointer (some ⟨bb, 0, none⟩), .string word] w fun e w' => e = .returned (.tuple #[]) ∧ ∃ q', PBd w' bb mb q' tb kind m0 (delV word vs) ∧ (∀ k, PFoot bb mb q' (delV word vs) k → PFoot bb mb q vs k) ∧ Kept (fun k => k = bb ∨ k = mb ∨ q.ownBlock = some k) w w' := by
  have hM := h.map
  have c3 := h.box.cell (i := 3) rfl
  have hj : j < vs.length := by
    obtain ⟨x, hx, _⟩ := atW_some hA
    have := (List.getElem?_eq_some_iff.1 hx).1
    simpa using this
  have hdel : Hid ((delV word vs).map (·.word) = (vs.map (·.word)).take j ++ (vs.map (·.word)).drop (j + 1)) := by
    show _ = _
    rw [← words_b (delV word vs), ← delV_b, closeB_at (by rw [words_b]; exact h.nod) hA, List.eraseIdx_eq_take_drop_succ, List.map_append, List.map_take, List.map_drop, words_b]
  have hfew := h.few
  obtain ⟨f0, hf0⟩ : ∃ f, Hid (votF vs = f) := ⟨_, rfl⟩
  rw [hf0.out] at hM
  rw [atW_T, words_b] at hA
  have hcl := fun (w1 wX w3 : World) (q' : Value) (a : SMap w1 mb (delF (votF vs) word) (delN (votF vs) word vs.length)) (b : Kept (fun k => k = mb) w w1) (c : Below w1.heap.size w1 wX) => h.closed (wX := wX) (w3 := w3) (q' := q') a b c
  rw [hf0.out] at hcl
  have hbox := h.box
  have hrow := h.row
  have hoff : ∀ k, q.ownBlock = some k → k ≠ mb := fun k e => (h.off k e).2.1
  have hne := h.ne
  have hoffb : ∀ k, q.ownBlock = some k → k ≠ bb := fun k e => (h.off k e).1
  clear h
  rw [hdel.out] at hcl
  obtain ⟨l, hl⟩ : ∃ l, Hid (vs.map (·.word) = l) := ⟨_, rfl⟩
  rw [hl.out] at hA hcl hrow
  have hlr : Hid (l.length = vs.length) := by show _ = _; rw [← hl.out, List.length_map]
  have hjl : j < l.length := by rw [hlr.out]; exact hj
  have hll : l.length ≤ 1000000 := by rw [hlr.out]; exact hfew
  obtain ⟨ao, cap, rfl, _, _⟩ := hrow.form
  have hji : (0 : Int) ≤ (j : Int) := by omega
  clear hdel
  go_enter Tryd.func14, Tryd.ntmps14
  go_wp2_with (at_delete; refine smap_del rfl _ _ 59 rfl 65 Tryd.underlying59 mb f0 _ rfl hM word hw rfl ?_)
  intro w1 hM1 hk1
  have hX1 := hbox.kept hk1 (fun e => hne e)
  have hQ1 := hrow.kept hk1 (fun k e e' => hoff k e e') (fun _ _ _ h => h.elim)
  have c4 := hX1.cell (i := 4) rfl
  have hR : RowAt textK w1 ao l := by
    obtain ⟨ao2, cap2, e1, _, hR⟩ := hQ1.form
    simp only [Value.slice.injEq, true_and] at e1
    rw [e1.1]
    exact hR
  have cI := indexS_any word ao cap l w1 hR hll
  rw [hA] at cI
  unfold idxI at cI
  simp only at cI
  clear c3 hM hR
  go_wp2_with fail
  refine cI.mono ?_
  rintro e w2 ⟨rfl, hb2⟩
  have hX2 := hX1.below hb2 hX1.lt
  have hQ2 := hQ1.below hb2
  have cD := deleteS_any 0 j (j + 1) ao cap l w2 hQ2 (by omega) (by omega)
  rw [show ((j + 1 : Nat) : Int) = (j : Int) + 1 from rfl] at cD
  generalize l.length - (j + 1 - j) = N at cD
  clear cI c4
  have c4 := hX2.cell (i := 4) rfl
  go_wp2_with fail
  refine cD.mono ?_
  rintro e w3 ⟨rfl, hQ3, hk3⟩
  have hX3 := hX2.kept hk3 (fun e => hoffb bb e rfl)
  obtain ⟨hF1, hF2, hF3⟩ := hcl w1 w2 w3 _ hM1 hk1 hb2 hQ3 hk3 (fun k e => by cases ao with | none => exact e | some a => exact e)
  clear cD c4
  have c4 := hX3.cell (i := 4) rfl
  have f4 := hX3.frozen 4
  clear hcl hX2 hX1 hbox hQ1 hQ2 hQ3
  go_wp2
  go_end0
  exact ⟨rfl, _, hF1, hF2, hF3⟩

theorem pbClose_any (word : ByteArray) (hw : word.size ≤ maxLen) (bb : Nat) (S : Nat → Prop) (tb : Nat) (kind : ByteArray) (most : Int) (bs : List WordB) (w : World) (h : PB w bb S tb kind most bs) (hn : (bs.map (·.word)).Nodup) :
    Calls Tryd.prog 14 #[.pointer (some ⟨bb, 0, none⟩), .string word] w fun e w' => e = .returned (.tuple #[]) ∧ ∃ S', PB w' bb S' tb kind most (closeB word bs) ∧ FreshS w S S' ∧ Kept S w w' := by
  obtain ⟨mb, q, m0, vs, rfl, hm, hS, h⟩ := h
  cases hA : atW word (vs.map PV.b) with
  | none =>
    rw [closeB_none hA]
    refine (pbClose_none word hw bb mb q tb kind m0 vs w h hA).mono ?_
    rintro e w' ⟨rfl, h1, h2⟩
    exact ⟨rfl, S, ⟨mb, q, m0, vs, rfl, hm, hS, h1⟩, fun k hk => Or.inl hk, h2.mono (fun k _ e => (hS k).2 (Or.inr (Or.inl e)))⟩
  | some j =>
    rw [delV_b]
    refine (pbClose_at word hw bb mb q tb kind m0 vs w h hA).mono ?_
    rintro e w' ⟨rfl, q', h1, h2, h3⟩
    refine ⟨rfl, PFoot bb mb q' (delV word vs), ⟨mb, q', m0, delV word vs, rfl, hm, fun k => Iff.rfl, h1⟩, fun k hk => Or.inl ((hS k).2 (h2 k hk)), h3.mono (fun k _ e => (hS k).2 ?_)⟩
    rcases e with e | e | e
    · exact Or.inl e
    · exact Or.inr (Or.inl e)
    · exact Or.inr (Or.inr (Or.inl e))

set_option maxRecDepth 100000 in
set_option maxHeartbeats 2000000 in
theorem pbOpen_any (word : ByteArray) (hw : word.size ≤ maxLen) (bb : Nat) (S : Nat → Prop) (tb : Nat) (kind : ByteArray) (most : Int) (bs : List WordB) (w : World) (h : PB w bb S tb kind most bs) (hl : bs.length < 1000000) :
    Calls Tryd.prog 9 #[.pointer (some ⟨bb, 0, none⟩), .string word] w fun e w' => e = .returned (.int .i64 (openE most bs word : Int)) ∧ ∃ S', PB w' bb S' tb kind most (openB most bs word) ∧ FreshS w S S' ∧ Kept S w w' := by
  obtain ⟨mb, q, m0, vs, rfl, hm, hS, hB⟩ := h
  rw [List.length_map] at hl
  have hRB : ∀ w', Below w.heap.size w w' → PB w' bb S tb kind most (vs.map PV.b) ∧ FreshS w S S ∧ Kept S w w' := fun w' hb => ⟨⟨mb, q, m0, vs, rfl, hm, hS, hB.below hb⟩, fun k hk => Or.inl hk, Kept.of_below hb⟩
  obtain ⟨ee, hee⟩ : ∃ z, Hid (openE most (vs.map PV.b) word = z) := ⟨_, rfl⟩
  obtain ⟨be, hbe⟩ : ∃ z, Hid (openB most (vs.map PV.b) word = z) := ⟨_, rfl⟩
  have hE := hee.out
  have hBE := hbe.out
  unfold openB at hBE
  rw [hee.out] at hBE
  rw [hee.out, hbe.out]
  unfold openE at hE
  rw [List.length_map] at hE
  have hM := hB.map
  have hz := zeroVotesP w
  have c2 := hB.box.cell (i := 2) rfl
  have c3 := hB.box.cell (i := 3) rfl
  have c4 := hB.box.cell (i := 4) rfl
  obtain ⟨f0, hf0⟩ : ∃ f, Hid (votF vs = f) := ⟨_, rfl⟩
  rw [hf0.out] at hM
  cases hA : atW word (vs.map PV.b) with
  | some i =>
    obtain ⟨xb, _, _, hg, _⟩ := atW_some hA
    obtain ⟨x, _, _, _, hv⟩ := votF_some hg
    rw [hf0.out] at hv
    rw [hA] at hE
    rw [if_pos (by rfl)] at hE
    subst hE
    rw [if_neg (by decide)] at hBE
    subst hBE
    have hF := hRB w (Below.refl _ _)
    unfold ptrV at hv
    have hv1 : (f0 word).getD (.pointer none) = .pointer (some ⟨x.vb, 0, none⟩) := by rw [hv]; rfl
    have hv2 : (f0 word).isSome = true := by rw [hv]; rfl
    clear hg hA hv hRB hB hS hf0
    go_enter Tryd.func9, Tryd.ntmps9
    go_wp2_with (at_lookup; refine smap_look_ok (by rfl) _ _ 59 rfl 65 Tryd.underlying59 _ hz mb _ _ rfl hM word hw rfl ?_; rw [hv1, hv2])
    go_ret
    exact ⟨rfl, S, hF.1, hF.2.1, hF.2.2⟩
  | none =>
    have hv := votF_none hA
    rw [hf0.out] at hv
    have hv1 : (f0 word).getD (.pointer none) = .pointer none := by rw [hv]; rfl
    have hv2 : (f0 word).isSome = false := by rw [hv]; rfl
    rw [hA] at hE
    rw [if_neg (by decide)] at hE
    obtain ⟨ao, cap, hqe, hnil, _⟩ := hB.row.form
    rw [List.length_map] at hqe
    subst hqe
    have hm0 : most ≤ (vs.length : Int) ↔ m0 ≤ (vs.length : Int) := by omega
    by_cases hfu : m0 ≤ (vs.length : Int)
    · rw [if_pos (hm0.2 hfu)] at hE
      subst hE
      rw [if_neg (by decide)] at hBE
      subst hBE
      clear hm0 hm
      go_enter Tryd.func9, Tryd.ntmps9
      go_wp2_with (at_lookup; refine smap_look_ok (by rfl) _ _ 59 rfl 65 Tryd.underlying59 _ hz mb _ _ rfl hM word hw rfl ?_; rw [hv1, hv2])
      go_quiet (fail)
      have hF := hRB _ (below_drewN (Below.refl w.heap.size w) nq)
      clear c2 c3 c4 hRB
      go_wp2
      go_ret
      exact ⟨rfl, S, hF.1, hF.2.1, hF.2.2⟩
    · rw [if_neg (fun e => hfu (hm0.1 e))] at hE
      subst hE
      rw [if_pos rfl] at hBE
      obtain ⟨i0, z0, hi0, hz0, hz1, hz2, hz3⟩ := strInfoT
      clear hm0
      have hm' : Hid _ := hm
      clear hm
      go_enter Tryd.func9, Tryd.ntmps9
      go_wp2_with (at_lookup; refine smap_look_ok (by rfl) _ _ 59 rfl 65 Tryd.underlying59 _ hz mb _ _ rfl hM word hw rfl ?_; rw [hv1, hv2])
      go_quiet (fail)
      have hbq := below_drewN (Below.refl w.heap.size w) nq
      have hB2 := hB.below hbq
      generalize w.drewN nq = w2 at hbq hB2 ⊢
      clear c2 c3 c4 hM hz hRB hB
      have c0 := hB2.box.cell (i := 0) rfl
      have c1 := hB2.box.cell (i := 1) rfl
      have c3 := hB2.box.cell (i := 3) rfl
      have cC : Calls Tryd.prog 26 #[.pointer (some ⟨tb, 0, none⟩), .string kind, .string word] w2.drew fun e w' => ∃ vb, e = .returned (.pointer (some ⟨vb, 0, none⟩)) ∧ VotesAt w' vb tb kind word noP ∧ w2.heap.size ≤ vb ∧ Below w2.heap.size w2 w' := by
        refine (collect_any tb kind word w2.drew).mono ?_
        rintro e w' ⟨vb, rfl, h1, h2, h3⟩
        exact ⟨vb, rfl, h1, h2, (below_drewN (Below.refl w2.heap.size w2) 1).trans h3⟩
      have hM2 := hB2.map
      rw [hf0.out] at hM2
      have hlm : vs.length < maxLen := by unfold maxLen; omega
      go_wp2_with fail
      rename_i K hK
      replace hK : Hid _ := hK
      go_region_law (go_simp; go_at_call 26; refine cC.mono ?_; rintro e wC ⟨vb, rfl, hC, hvb, hbC⟩; have c3C := (hB2.box.below hbC hB2.box.lt).cell (i := 3) rfl; obtain ⟨w5, hrun5, hM5, hk5⟩ := (hM2.below hbC).update hlm Tryd.underlying59 word hw (.pointer (some ⟨vb, 0, none⟩)))
      all_goals
        refine hK.out _ _ ?_
        have hX5 := (hB2.box.below hbC hB2.box.lt).kept hk5 (fun e => hB2.ne e)
        have hQ5 := (hB2.row.below hbC).kept hk5 (fun k e e' => (hB2.off k e).2.1 e') (fun _ _ _ h => h.elim)
        clear c0 c1 c3 cC c3C hrun5 hK
        have hlr : Hid ((vs.map (·.word)).length = vs.length) := List.length_map _
        have hpu := fun wX w8 q' a b c d => hB2.pushed (wX := wX) (w8 := w8) (q' := q') hA hbC hC hvb (by rw [hf0.out]; exact hM5) hk5 a b c d hl
        obtain ⟨l, hlx⟩ : ∃ l, Hid (vs.map (·.word) = l) := ⟨_, rfl⟩
        rw [hlx.out] at hQ5 hlr hpu
        rw [← hlr.out] at hX5 hQ5 hpu hS
        have hbl := hB2.box.lt
        have hof := fun e => (hB2.off bb e).1 rfl
        rw [← hlr.out] at hof
        have c4 := hX5.cell (i := 4) rfl
        have hbX := belowNew w5 (.cells #[.string word] 9)
        have hX6 := hX5.below hbX hX5.lt
        have hQ6 := hQ5.below hbX
        have c4X := hX6.cell (i := 4) rfl
        have hN := new_text w5 word
        have m1 : l.length + 1 ≤ maxLen := by rw [hlr.out]; unfold maxLen; omega
        have m2 : (l.length + 1) * 16 ≤ 140737488355328 := by rw [hlr.out]; omega
        go_wp2_with (at_builtin; refine wpList_append_q rfl _ _ 43 rfl 0 9 i0 z0 1 16 Tryd.underlying43 hi0 hz0 hz1 hz2 hz3 (by decide) _ l.length (flatK textK l) rfl hQ6.row ⟨w5.heap.size, 0, none⟩ 1 1 (textK.c word) rfl (by decide) rfl hN (textK.one word) m1 m2 (Nat.zero_le _) ?_)
        intro v8 w8 hrow8 hgr8 hfr8
        obtain ⟨ao8, cap8, rfl, _, _⟩ := hrow8.form
        have hk8 := Kept.of_grown hgr8
        rw [← alloc_size w5 (.cells #[.string word] 9)] at hfr8
        have hQ8 := hQ6.push (m := [word]) (fun _ _ => trivial) (fun _ _ _ h => h.elim) (by simp) (by rw [flatK_single]; exact hrow8) hgr8 hfr8
        have hX8 := hX6.kept hk8 hof
        clear c4 c4X
        have c4 := hX8.cell (i := 4) rfl
        have f4 := hX8.frozen 4
        obtain ⟨hF1, hF2, hF3⟩ := hpu _ _ _ hbX hQ8 hk8 hfr8
        clear hrow8 hgr8 hfr8 hN m1 m2 hX6 hX5 hQ6 hQ5 hX8 hpu hk8 hQ8
        go_wp2
        go_ret
        have hw2 := hbq.size
        refine ⟨rfl, PFoot bb mb _ (vs ++ [⟨vb, word, noP⟩]), ⟨mb, _, m0, vs ++ [⟨vb, word, noP⟩], ?_, hm'.out, fun k => Iff.rfl, hF1⟩, fun k hk => ?_, (Kept.of_below hbq).trans (hF3.mono (fun k _ e => (hS k).2 e))⟩
        · rw [← hBE, List.map_append]
          rfl
        · rcases hF2 k hk with e | e
          · exact Or.inl ((hS k).2 e)
          · exact Or.inr (by omega)

set_option maxRecDepth 100000 in
set_option maxHeartbeats 2000000 in
theorem pbAdd_any {w0 : World} {f : Nat} {ks : List ByteArray} (word : ByteArray) (hw : word.size ≤ maxLen) (t : TagD) (bb : Nat) (S : Nat → Prop) (tb : Nat) (kind : ByteArray) (most : Int) (bs : List WordB) (w : World) (h : PB w bb S tb kind most bs) (en : VEnv w0 tb f ks kind word) (hO : BOk f ks kind bs) (hb0 : Below w0.heap.size w0 w) (hS0 : ∀ k, S k → w0.heap.size ≤ k) :
    Calls Tryd.prog 11 #[.pointer (some ⟨bb, 0, none⟩), .string word, .agg #[.int .i64 t.who, .string t.mac]] w fun e w' => ∃ ao cap, e = .returned (.tuple #[.slice ao (sealL f ks kind bs word t).length cap, .int .i64 (sealE ks kind bs word t : Int)]) ∧ RowAt tagK w' ao (sealL f ks kind bs word t) ∧ (∀ b, rowFoot tagK ao (sealL f ks kind bs word t) b → w.heap.size ≤ b) ∧ ∃ S', PB w' bb S' tb kind most (sealB f ks kind bs word t) ∧ FreshS w S S' ∧ Kept S w w' := by
  obtain ⟨mb, q, m0, vs, rfl, hm, hS, hB⟩ := h
  have hb1 := belowNew w (.cells #[.int .i64 t.who, .string t.mac] 32)
  have hX := Arr.new w 32 [.int .i64 t.who, .string t.mac]
  have hB1 := hB.below hb1
  obtain ⟨w1, hw1⟩ : ∃ z, w.alloc (.cells #[.int .i64 t.who, .string t.mac] 32) = z := ⟨_, rfl⟩
  rw [hw1] at hb1 hX hB1
  have hM := hB1.map
  have hz := zeroVotesP w1
  have c3 := hB1.box.cell (i := 3) rfl
  obtain ⟨f0, hf0⟩ : ∃ f, Hid (votF vs = f) := ⟨_, rfl⟩
  rw [hf0.out] at hM
  obtain ⟨le, hle⟩ : ∃ z, Hid (sealL f ks kind (vs.map PV.b) word t = z) := ⟨_, rfl⟩
  obtain ⟨ee, hee⟩ : ∃ z, Hid (sealE ks kind (vs.map PV.b) word t = z) := ⟨_, rfl⟩
  obtain ⟨be, hbe⟩ : ∃ z, Hid (sealB f ks kind (vs.map PV.b) word t = z) := ⟨_, rfl⟩
  have hL := hle.out
  have hE := hee.out
  have hBE := hbe.out
  rw [hle.out, hee.out, hbe.out]
  unfold sealL at hL
  unfold sealE at hE
  unfold sealB at hBE
  cases hA : atW word (vs.map PV.b) with
  | none =>
    rw [getB_none.2 hA] at hL hE hBE
    simp only at hL hE hBE
    subst hL hE hBE
    have hv := votF_none hA
    rw [hf0.out] at hv
    have hv1 : (f0 word).getD (.pointer none) = .pointer none := by rw [hv]; rfl
    have hv2 : (f0 word).isSome = false := by rw [hv]; rfl
    go_enter Tryd.func11, Tryd.ntmps11
    go_wp2_with (at_lookup; refine smap_look_ok (by rfl) _ _ 59 rfl 65 Tryd.underlying59 _ hz mb _ _ rfl hM word hw rfl ?_; rw [hv1, hv2])
    go_ret2
    exact ⟨none, 0, rfl, nil_row _ _, fun b hb => (nil_foot hb).elim, S, ⟨mb, q, m0, vs, rfl, hm, hS, hB1⟩, fun k hk => Or.inl hk, Kept.of_below hb1⟩
  | some i =>
    obtain ⟨xb, _, hwd, hgB, _⟩ := atW_some hA
    obtain ⟨x, hxm, rfl, hwx, hv⟩ := votF_some hgB
    rw [hf0.out] at hv
    unfold ptrV at hv
    have hv1 : (f0 word).getD (.pointer none) = .pointer (some ⟨x.vb, 0, none⟩) := by rw [hv]; rfl
    have hv2 : (f0 word).isSome = true := by rw [hv]; rfl
    rw [hgB] at hL hE hBE
    simp only at hL hE hBE
    have hPl : Places (chkT ks kind word) (3 * f + 1) x.P := hO.got hgB
    obtain ⟨P2, hP2⟩ : ∃ z, Hid (addP (chkT ks kind word) x.P t = z) := ⟨_, rfl⟩
    obtain ⟨e2, he2⟩ : ∃ z, Hid (addE (chkT ks kind word) x.P t = z) := ⟨_, rfl⟩
    simp only [show x.b.P = x.P from rfl] at hL hE hBE
    have hb01 := hb0.trans (hb1.mono hb0.size)
    have hV1 := hB1.at_ x hxm
    rw [hwx] at hV1
    have hxS : w0.heap.size ≤ x.vb := hS0 _ ((hS _).2 (Or.inr (Or.inr (Or.inr ⟨x, hxm, rfl⟩))))
    have hVS : VSt w0 tb f ks kind word x.vb x.P w1 := ⟨hV1, hxS, hb01, hPl⟩
    have cV := en.add hVS t
    rw [hP2.out, he2.out] at cV
    have t0 := hX.cell (i := 0) rfl
    have t1 := hX.cell (i := 1) rfl
    rw [he2.out] at hE hL hBE
    subst hE
    rw [hP2.out] at hL hBE
    have hm' : Hid _ := hm
    clear hm hv hwd hX
    go_enter Tryd.func11, Tryd.ntmps11
    go_wp2_with (at_lookup; refine smap_look_ok (by rfl) _ _ 59 rfl 65 Tryd.underlying59 _ hz mb _ _ rfl hM word hw rfl ?_; rw [hv1, hv2])
    refine cV.mono ?_
    rintro e w3 ⟨rfl, hVS3, hk3⟩
    obtain ⟨hB3, hF3⟩ := hB1.seti hxm hwx hVS3.votes hk3
    have hkw3 : Kept S w w3 := (Kept.of_below hb1).trans (hk3.mono (fun k _ e => (hS k).2 (Or.inr (Or.inr (Or.inr ⟨x, hxm, e⟩)))))
    have hFw : ∀ k, PFoot bb mb q (setV word P2 vs) k → S k ∨ w.heap.size ≤ k := fun k hk => Or.inl ((hS k).2 (hF3 k hk))
    clear cV c3 t0 t1 hM hz hB1 hV1 hVS
    by_cases hz : e2 = 0
    · subst hz
      rw [if_pos rfl] at hL hBE
      obtain ⟨fb, hfb⟩ : ∃ z, Hid (fullP f P2 = z) := ⟨_, rfl⟩
      have cF : Calls Tryd.prog 30 #[.pointer (some ⟨x.vb, 0, none⟩)] w3 fun e w' => e = .returned (.bool fb) ∧ Below w3.heap.size w3 w' := by
        rw [← hfb.out]
        exact en.full hVS3
      rw [hfb.out] at hL hBE
      go_wp2_with fail
      refine cF.mono ?_
      rintro e w4 ⟨rfl, hb4⟩
      have hB4 := hB3.below hb4
      have hVS4 := hVS3.below hb4
      have hkw4 := hkw3.trans (Kept.of_below hb4)
      clear cF
      cases fb with
      | false =>
        rw [if_neg (by decide), setV_b] at hBE
        rw [if_neg (by decide)] at hL
        subst hL hBE
        go_wp2
        go_ret2
        exact ⟨none, 0, rfl, nil_row _ _, fun b hb => (nil_foot hb).elim, _, ⟨mb, q, m0, _, rfl, hm'.out, fun k => Iff.rfl, hB4⟩, hFw, hkw4⟩
      | true =>
        rw [if_pos rfl] at hL hBE
        have hA4 : atW word ((setV word P2 vs).map PV.b) = some i := by
          rw [← hA]
          refine atW_congr ?_
          rw [words_b, words_b, setV_words]
        have cC := pbClose_at word hw bb mb q tb kind m0 _ w4 hB4 hA4
        have hde : delV word (setV word P2 vs) = delV word vs := by
          unfold delV setV
          rw [List.filter_map]
          have e1 : ((fun x : PV => !decide (x.word = word)) ∘ fun x => if x.word = word then ⟨x.vb, word, P2⟩ else x) = fun x => !decide (x.word = word) := by
            funext y
            simp only [Function.comp_apply]
            by_cases e : y.word = word
            · rw [if_pos e, decide_eq_true e, decide_eq_true rfl]
            · rw [if_neg e]
          rw [e1]
          conv => rhs; rw [← List.map_id (vs.filter _)]
          refine List.map_congr_left (fun y hy => ?_)
          have := (List.mem_filter.1 hy).2
          rw [if_neg (by simpa using this)]
          rfl
        rw [hde] at cC
        rw [delV_b] at hBE
        subst hBE
        have hoff4 : ∀ k, (k = bb ∨ k = mb ∨ q.ownBlock = some k) → S k := fun k e => by
          rcases e with e | e | e
          · exact (hS k).2 (Or.inl e)
          · exact (hS k).2 (Or.inr (Or.inl e))
          · exact (hS k).2 (Or.inr (Or.inr (Or.inl e)))
        have hnv : ¬ (x.vb = bb ∨ x.vb = mb ∨ q.ownBlock = some x.vb) := fun e => by
          rcases e with e | e | e
          · exact (hB.vne x hxm).1 e
          · exact (hB.vne x hxm).2 e
          · exact (hB.off _ e).2.2 x hxm rfl
        go_wp2_with fail
        refine cC.mono ?_
        rintro e w5 ⟨rfl, q5, hB5, hF5, hk5⟩
        have hVS5 := hVS4.kept hk5 hnv (fun k e => hS0 k (hoff4 k e))
        have hkw5 : Kept S w w5 := hkw4.trans (hk5.mono (fun k _ e => hoff4 k e))
        have cT := en.tags hVS5
        rw [hL] at cT
        have hw5 := hkw5.size
        have hFw5 : ∀ k, PFoot bb mb q5 (delV word vs) k → S k ∨ w.heap.size ≤ k := fun k hk => hFw k (hF5 k hk)
        clear cC hB4 hVS4 hB3 hVS3 hk5 hL
        go_wp2_with fail
        refine cT.mono ?_
        rintro e w6 ⟨ao6, cap6, rfl, hR6, hn6, hf6, hb6⟩
        have hB6 := hB5.below hb6
        have hkw6 := hkw5.trans (Kept.of_below hb6)
        clear cT hB5
        go_wp2
        go_ret2
        exact ⟨_, _, rfl, hR6, fun b hb => Nat.le_trans hw5 (hf6 b hb), _, ⟨mb, q5, m0, _, rfl, hm'.out, fun k => Iff.rfl, hB6⟩, hFw5, hkw6⟩
    · rw [if_neg hz] at hL hBE
      subst hL hBE
      have hz' : ¬ (e2 : Int) = 0 := by omega
      have hPs : P2 = x.P := by
        rw [← hP2.out]
        exact addP_same (by rw [he2.out]; exact hz)
      have hbm2 : vs.map PV.b = (setV word P2 vs).map PV.b := by
        have hno : ∀ y ∈ vs, y.word = word → y.b = x.b := fun y hy e => by
          rw [one_word hB.nod hy hxm (by rw [e, hwx])]
        unfold setV
        rw [List.map_map]
        refine List.map_congr_left (fun y hy => ?_)
        simp only [Function.comp_apply]
        by_cases e : y.word = word
        · rw [if_pos e, hno y hy e, hPs]
          show (⟨x.word, x.P⟩ : WordB) = ⟨word, x.P⟩
          rw [hwx]
        · rw [if_neg e]
      have hbm2' : Hid _ := hbm2
      clear hbm2 hPs
      go_wp2
      go_ret2
      exact ⟨none, 0, rfl, nil_row _ _, fun b hb => (nil_foot hb).elim, _, ⟨mb, q, m0, _, hbm2'.out, hm'.out, fun k => Iff.rfl, hB3⟩, hFw, hkw3⟩
end Go.Proofs.YtbikabjogacfkaaDoor
