/- What Len, Emitted and Add of the program's graph do. -/
import Derived.Test.YtfbpjdjajecajaaWalkLie
import Derived.Test.YtfbpjdjajecajaaSliceStr
namespace Go.Proofs.Ytfbpjdjajecajaa
open Go Go.RowKit Go.Maps
set_option linter.unusedVariables false

theorem getV_iff {g : GrD} (h : GrOk g) {x : ByteArray} {v : VtxD} : getV g.L x = some v ↔ v ∈ g.L ∧ v.id = x :=
  ⟨getV_some, fun ⟨h1, h2⟩ => by rw [← h2]; exact h.get h1⟩

theorem getV_add {g : GrD} (h : GrOk g) {v : VtxD} (h' : GrOk { g with L := insV g.L v }) (hn : ∀ u ∈ g.L, u.id ≠ v.id) (x : ByteArray) : getV (insV g.L v) x = if x = v.id then some v else getV g.L x := by
  by_cases e : x = v.id
  · rw [if_pos e, e]
    exact h'.get (v := v) ((insV_mem _ _ _).2 (Or.inl rfl))
  · rw [if_neg e]
    cases hc : getV g.L x with
    | none =>
      refine getV_none.2 (fun u hu hx => ?_)
      rcases (insV_mem _ _ _).1 hu with q | q
      · rw [q] at hx; exact e hx.symm
      · exact getV_none.1 hc u q hx
    | some u =>
      obtain ⟨h1, h2⟩ := getV_some hc
      rw [← h2]
      exact h'.get (v := u) ((insV_mem _ _ _).2 (Or.inr h1))

theorem atPl_add {g : GrD} (h : GrOk g) {v : VtxD} (h' : GrOk { g with L := insV g.L v }) (p : PlD) : atPl (insV g.L v) p = none → atPl g.L p = none ∧ p ≠ plV v := by
  intro hn
  refine ⟨atPl_none.2 (fun u hu => atPl_none.1 hn u ((insV_mem _ _ _).2 (Or.inr hu))), fun e => ?_⟩
  exact atPl_none.1 hn v ((insV_mem _ _ _).2 (Or.inl rfl)) e.symm

theorem any_place {g : GrD} (h : GrOk g) {r a : Nat} : g.L.any (placeV (r : Int) (a : Int)) = (atPl g.L ⟨r, a⟩).isSome := by
  cases hc : atPl g.L ⟨r, a⟩ with
  | none =>
    rw [Option.isSome_none, List.any_eq_false]
    intro v hv
    unfold placeV
    rw [decide_eq_true_eq]
    rintro ⟨e1, e2⟩
    refine atPl_none.1 hc v hv ?_
    unfold plV
    rw [e1, e2]
    rfl
  | some v =>
    obtain ⟨h1, h2⟩ := atPl_some hc
    rw [Option.isSome_some, List.any_eq_true]
    refine ⟨v, h1, ?_⟩
    unfold placeV
    rw [decide_eq_true_eq]
    have h3 := h.rng v h1
    unfold plV at h2
    simp only [PlD.mk.injEq] at h2
    omega

set_option maxRecDepth 100000 in
theorem pgLen_at {w : World} {gb pb vb : Nat} {S : Nat → Prop} {g : GrD} {f : PlD → Option Value} (h : PGr w gb pb vb S g f) :
    Calls Try.prog 14 #[.pointer (some ⟨gb, 0, none⟩)] w fun e w' => e = .returned (.int .i64 (g.L.length : Int)) ∧ w' = w := by
  have c2 := h.box.cell (i := 2) rfl
  have hC := h.vx
  generalize g.L.length = n at hC ⊢
  go_enter Try.func14, Try.ntmps14
  go_wp2_with (at_len; refine cmap_len (by rfl) _ 42 rfl 49 Try.underlying42 vb _ _ rfl hC ?_)
  go_ret
  exact ⟨rfl, rfl⟩

theorem pgLen_any (gb : Nat) (S : Nat → Prop) (g : GrD) (w : World) (h : PG w gb S g) :
    Calls Try.prog 14 #[.pointer (some ⟨gb, 0, none⟩)] w fun e w' => e = .returned (.int .i64 (g.L.length : Int)) ∧ w' = w := by
  obtain ⟨pb, vb, f, h⟩ := h
  exact pgLen_at h

set_option maxRecDepth 100000 in
theorem pgEmitted_any (id : ByteArray) (gb : Nat) (S : Nat → Prop) (g : GrD) (w : World) (h : PG w gb S g) (hid : id.size ≤ maxLen) :
    Calls Try.prog 12 #[.pointer (some ⟨gb, 0, none⟩), .string id] w fun e w' => e = .returned (.bool (emittedV g id)) ∧ w' = w := by
  obtain ⟨pb, vb, f, h⟩ := h
  have c1 := h.box.cell (i := 1) rfl
  have c2 := h.box.cell (i := 2) rfl
  have hM := h.pl
  have hC := h.vx
  have hz := zeroCplx w
  have hzv := zeroVtx w
  unfold emittedV
  cases hg : getV g.L id with
  | none =>
    have e1 : plF g.L id = none := by unfold plF; rw [hg]; rfl
    have e2 : Hid ((plF g.L id).getD (.complex .f64 0 0) = .complex .f64 0 0) := by show _ = _; rw [e1]; rfl
    have e3 : Hid ((plF g.L id).isSome = false) := by show _ = _; rw [e1]; rfl
    clear e1
    go_enter Try.func12, Try.ntmps12
    go_wp2_with (at_lookup; refine smap_look_ok (by rfl) _ _ 41 rfl 45 Try.underlying41 _ hz pb _ _ rfl hM id hid rfl ?_; rw [e2.out, e3.out])
    go_ret
    exact ⟨rfl, rfl⟩
  | some v =>
    obtain ⟨hv, hvi⟩ := getV_some hg
    have hin := plV_in h.ok hv
    obtain ⟨ao, n, cap, hf, _⟩ := h.yes v hv
    have e1 : plF g.L id = some (kC (plV v)) := by unfold plF; rw [hg]; rfl
    have e2 : Hid ((plF g.L id).getD (.complex .f64 0 0) = .complex .f64 (plX (plV v)) (plY (plV v))) := by show _ = _; rw [e1]; rfl
    have e3 : Hid ((plF g.L id).isSome = true) := by show _ = _; rw [e1]; rfl
    have e4 : Hid ((f (plV v)).getD (.agg #[.string ⟨#[]⟩, .slice none 0 0, .bool false]) = .agg #[.string v.id, .slice ao n cap, .bool v.done]) := by show _ = _; rw [hf]; rfl
    clear e1 hf
    have hfd := fieldDone
    go_enter Try.func12, Try.ntmps12
    go_wp2_with (first
      | (at_lookup; refine smap_look_ok (by rfl) _ _ 41 rfl 45 Try.underlying41 _ hz pb _ _ rfl hM id hid rfl ?_; rw [e2.out, e3.out])
      | (at_lookup; refine cmap_look (by rfl) _ _ 42 rfl 49 Try.underlying42 _ hzv vb _ _ rfl hC (plV v) hin rfl ?_; rw [e4.out]))
    go_ret
    exact ⟨rfl, rfl⟩

set_option maxRecDepth 100000 in
theorem cloneS_none (c : Nat) (w : World) : Calls Try.prog 16 #[.slice none 0 c] w fun e w' => e = .returned (.slice none 0 0) ∧ w' = w := by
  have q24 : ∀ (w : World) (a : Option Addr) (n c n' c' : Nat), (binOp .eql 29 (.slice a n c) (.slice none n' c')).run Try.prog w = .ok (.bool a.isNone) w := fun w a n c n' c' => Lib.run_eql_slice_nil w _ _ a n c n' c' Try.underlying29
  go_enter Try.func16, Try.ntmps16
  go_wp2
  go_ret
  exact ⟨rfl, rfl⟩

/-- slices.Clone of whatever row. -/
theorem cloneS_row (ao : Option Addr) (c : Nat) (l : List ByteArray) (w : World) (h : RowAt textK w ao l) (hl : l.length ≤ 1000000) :
    Calls Try.prog 16 #[.slice ao l.length c] w fun e w' => ∃ v, e = .returned v ∧ KQ textK 9 w' w.heap.size v l ∧ Below w.heap.size w w' := by
  cases ao with
  | none =>
    have hl0 : l = [] := by
      cases l with
      | nil => rfl
      | cons x r => obtain ⟨g, off, e, _⟩ := h.text (i := 0) rfl; cases e
    subst hl0
    refine (cloneS_none c w).mono ?_
    rintro e w' ⟨rfl, rfl⟩
    exact ⟨_, rfl, KQ.empty _ _ _ _, Below.refl _ _⟩
  | some ad => exact cloneS_at ad c l w (fun j u hu => h.news j u (by rw [flat_texts]; exact hu)) hl

/-- A vertex more. -/
theorem PGr.add {w w1 w2 w3 : World} {gb pb vb : Nat} {S : Nat → Prop} {g : GrD} {f : PlD → Option Value} (h : PGr w gb pb vb S g f) {id : ByteArray} {r a : Nat} {ps : List ByteArray} (hid : id.size ≤ maxLen) (hps : ∀ p ∈ ps, p.size ≤ maxLen) (he : addEV g id r a ps.length = 0)
    (hM : SMap w1 pb (putF (plF g.L) id (kC ⟨r, a⟩)) (putN (plF g.L) id g.L.length)) (hk1 : Kept (fun k => k = pb) w w1) {ao : Option Addr} {cap : Nat} (hQ : KQ textK 9 w2 w1.heap.size (.slice ao ps.length cap) ps) (hb2 : Below w1.heap.size w1 w2)
    (hC : CMap w3 vb (putC f ⟨r, a⟩ (vtxV id ao ps.length cap false)) (putNC f ⟨r, a⟩ g.L.length)) (hk3 : Kept (fun k => k = vb) w2 w3) :
    ∃ S', PG w3 gb S' (addGV g id r a ps) ∧ FreshS w S S' ∧ Kept S w w3 := by
  have hok := h.ok.add id r a ps
  have e0 : addGV g id r a ps = { g with L := insV g.L ⟨id, r, a, ps, false⟩ } := by unfold addGV; rw [if_pos he]
  rw [e0] at hok ⊢
  obtain ⟨q1, q2, q3, q4, q5, q6⟩ := addEV_ok.1 he
  have hnone : atPl g.L ⟨r, a⟩ = none := atPl_none.2 (fun v hv e => q5 v hv (by have := h.ok.rng v hv; unfold plV at e; simp only [PlD.mk.injEq] at e; omega))
  have hin : PlD.In ⟨r, a⟩ := ⟨by show r ≤ _; omega, by show a ≤ 6; omega⟩
  have hpv : plV ⟨id, (r : Int), (a : Int), ps, false⟩ = ⟨r, a⟩ := rfl
  have hfn := h.no _ hin hnone
  have hgn : getV g.L id = none := getV_none.2 q3
  have hK13 : Kept S w w3 := ((hk1.mono (fun k _ e => by rw [e]; exact h.sp)).trans (Kept.of_below hb2)).trans (hk3.mono (fun k _ e => by rw [e]; exact h.sv))
  have hbox : Arr w3 gb 44 [.int .i64 g.low, .map (some pb), .map (some vb)] := by
    have b1 := h.box.kept hk1 (fun e => h.n1 e)
    have b2 := b1.below hb2 b1.lt
    exact b2.kept hk3 (fun e => h.n2 e)
  have hpl : SMap w3 pb (plF (insV g.L ⟨id, (r : Int), (a : Int), ps, false⟩)) (insV g.L ⟨id, (r : Int), (a : Int), ps, false⟩).length := by
    have m1 := (hM.below hb2).kept hk3 (fun e => h.n3 e)
    have e1 : putN (plF g.L) id g.L.length = (insV g.L ⟨id, (r : Int), (a : Int), ps, false⟩).length := by
      unfold putN plF
      rw [hgn, insV_length]
      rfl
    rw [e1] at m1
    refine m1.congr (fun x => ?_)
    unfold plF putF
    rw [getV_add h.ok hok q3 x]
    by_cases e : x = id
    · rw [if_pos e, if_pos e]; rfl
    · rw [if_neg e, if_neg e]
  have hwlt : w.heap.size ≤ w1.heap.size := hk1.size
  refine ⟨fun k => S k ∨ rowFoot textK ao ps k, ⟨pb, vb, putC f ⟨r, a⟩ (vtxV id ao ps.length cap false), ?_⟩, ?_, hK13⟩
  · exact
    { box := hbox
      pl := hpl
      vx := by
        have e1 : putNC f ⟨r, a⟩ g.L.length = (insV g.L ⟨id, (r : Int), (a : Int), ps, false⟩).length := by
          unfold putNC
          rw [hfn, insV_length]
          rfl
        rw [e1] at hC
        exact hC
      no := fun p hp hn => by
        obtain ⟨k1, k2⟩ := atPl_add h.ok hok p hn
        unfold putC
        rw [if_neg (by rw [hpv] at k2; exact k2)]
        exact h.no p hp k1
      yes := fun v hv => by
        rcases (insV_mem _ _ _).1 hv with e | e
        · subst e
          refine ⟨ao, ps.length, cap, by rw [hpv]; unfold putC; rw [if_pos rfl], fun _ => ⟨rfl, ?_, fun b hb => ⟨Or.inr hb, ?_, ?_, ?_⟩⟩⟩
          · obtain ⟨_, _, e, _, hr⟩ := hQ.form
            simp only [Value.slice.injEq] at e
            obtain ⟨rfl, _, rfl⟩ := e
            refine hr.kept hk3 (fun b hb e => ?_)
            have := KQ.foot_ge hQ (Nat.le_refl _) (fun _ _ _ h => h.elim) b hb
            have h4 := h.lt vb h.sv
            have e' : b = vb := e
            omega
          all_goals
            have := KQ.foot_ge hQ (Nat.le_refl _) (fun _ _ _ h => h.elim) b hb
            have h2 := h.lt gb h.sg
            have h3 := h.lt pb h.sp
            have h4 := h.lt vb h.sv
            omega
        · obtain ⟨ao', n', cap', y1, y2⟩ := h.yes v e
          refine ⟨ao', n', cap', ?_, fun hd => ?_⟩
          · unfold putC
            rw [if_neg (fun hh => atPl_none.1 hnone v e hh)]
            exact y1
          · obtain ⟨z1, z2, z3⟩ := y2 hd
            refine ⟨z1, ?_, fun b hb => by obtain ⟨t1, t2⟩ := z3 b hb; exact ⟨Or.inl t1, t2⟩⟩
            have z4 := z2.kept hk1 (fun b hb e => (z3 b hb).2.2.1 e)
            exact (z4.below hb2).kept hk3 (fun b hb e => (z3 b hb).2.2.2 e)
      ok := hok
      ids := fun v hv => by
        rcases (insV_mem _ _ _).1 hv with e | e
        · subst e; exact ⟨hid, hps⟩
        · exact h.ids v e
      sg := Or.inl h.sg
      sp := Or.inl h.sp
      sv := Or.inl h.sv
      n1 := h.n1
      n2 := h.n2
      n3 := h.n3
      lt := fun k hk => by
        rcases hk with hk | hk
        · exact Nat.lt_of_lt_of_le (h.lt k hk) hK13.size
        · obtain ⟨_, _, e, _, hr⟩ := hQ.form
          simp only [Value.slice.injEq] at e
          obtain ⟨rfl, _, rfl⟩ := e
          exact Nat.lt_of_lt_of_le (hr.lt hk) hk3.size }
  · rintro k (hk | hk)
    · exact Or.inl hk
    · refine Or.inr ?_
      have := KQ.foot_ge hQ (Nat.le_refl _) (fun _ _ _ h => h.elim) k hk
      omega

set_option maxRecDepth 100000 in
set_option maxHeartbeats 2000000 in
theorem pgAdd_any (id : ByteArray) (r a : Int) (ao : Option Addr) (cap : Nat) (ps : List ByteArray) (gb : Nat) (S : Nat → Prop) (g : GrD) (w : World) (h : PG w gb S g) (hid : id.size ≤ maxLen) (hps : ∀ p ∈ ps, p.size ≤ maxLen) (hR : RowAt textK w ao ps) (hoff : ∀ b, rowFoot textK ao ps b → ¬ S b) (hl : ps.length ≤ 1000000) :
    Calls Try.prog 5 #[.pointer (some ⟨gb, 0, none⟩), .string id, .int .i64 r, .int .i64 a, .slice ao ps.length cap] w fun e w' => ∃ S', e = .returned (.int .i64 (addEV g id r a ps.length : Nat)) ∧ PG w' gb S' (addGV g id r a ps) ∧ FreshS w S S' ∧ Kept S w w' := by
  have hrefl : FreshS w S S := fun k hk => Or.inl hk
  have hkeep : addEV g id r a ps.length ≠ 0 → addGV g id r a ps = g := fun hn => by unfold addGV; rw [if_neg hn]
  obtain ⟨pb, vb, f, h⟩ := h
  have hG : ∀ w', Below w.heap.size w w' → PG w' gb S g := fun w' hb => ⟨pb, vb, f, h.below hb⟩
  by_cases hin : inR r a
  · obtain ⟨i1, i2, i3, i4⟩ := hin
    obtain ⟨R, rfl⟩ : ∃ R : Nat, r = (R : Int) := ⟨r.toNat, by omega⟩
    obtain ⟨A, rfl⟩ : ∃ A : Nat, a = (A : Int) := ⟨a.toNat, by omega⟩
    have hpin : PlD.In ⟨R, A⟩ := ⟨by show R ≤ _; omega, by show A ≤ 6; omega⟩
    have cO := plOf_at R A w hpin.1 hpin.2
    by_cases h7 : 7 < ps.length
    · have hE : addEV g id R A ps.length = 8 := by unfold addEV; rw [if_neg (by omega), if_pos h7]
      rw [hkeep (by rw [hE]; decide), hE]
      have g7 : (7 : Int) < (ps.length : Int) := by omega
      go_enter Try.func5, Try.ntmps5
      go_wp2_with fail
      refine cO.mono ?_
      rintro e w0 ⟨rfl, rfl⟩
      go_wp2
      go_ret
      exact ⟨S, rfl, hG _ (Below.refl _ _), hrefl, Kept.refl _ _⟩
    · have g7 : ¬ (7 : Int) < (ps.length : Int) := by omega
      have c0 := h.box.cell (i := 0) rfl
      have c1 := h.box.cell (i := 1) rfl
      have c2 := h.box.cell (i := 2) rfl
      have hM := h.pl
      have hC := h.vx
      have hz := zeroCplx w
      have hzv := zeroVtx w
      cases hgv : getV g.L id with
      | some v =>
        have hE : addEV g id R A ps.length = 13 := by unfold addEV; rw [if_neg (by omega), if_neg h7, if_pos (by rw [hgv]; rfl)]
        rw [hkeep (by rw [hE]; decide), hE]
        have e1 : plF g.L id = some (kC (plV v)) := by unfold plF; rw [hgv]; rfl
        have e2 : Hid ((plF g.L id).getD (.complex .f64 0 0) = .complex .f64 (plX (plV v)) (plY (plV v))) := by show _ = _; rw [e1]; rfl
        have e3 : Hid ((plF g.L id).isSome = true) := by show _ = _; rw [e1]; rfl
        clear e1
        go_enter Try.func5, Try.ntmps5
        go_wp2_with fail
        refine cO.mono ?_
        rintro e w0 ⟨rfl, rfl⟩
        go_wp2_with (at_lookup; refine smap_look_ok (by rfl) _ _ 41 rfl 45 Try.underlying41 _ hz pb _ _ rfl hM id hid rfl ?_; rw [e2.out, e3.out])
        go_ret
        exact ⟨S, rfl, hG _ (Below.refl _ _), hrefl, Kept.refl _ _⟩
      | none =>
        have e1 : plF g.L id = none := by unfold plF; rw [hgv]; rfl
        have e2 : Hid ((plF g.L id).getD (.complex .f64 0 0) = .complex .f64 0 0) := by show _ = _; rw [e1]; rfl
        have e3 : Hid ((plF g.L id).isSome = false) := by show _ = _; rw [e1]; rfl
        by_cases hlow : (R : Int) < g.low
        · have hE : addEV g id R A ps.length = 11 := by unfold addEV; rw [if_neg (by omega), if_neg h7, if_neg (by rw [hgv]; decide), if_pos hlow]
          rw [hkeep (by rw [hE]; decide), hE]
          clear e1
          go_enter Try.func5, Try.ntmps5
          go_wp2_with fail
          refine cO.mono ?_
          rintro e w0 ⟨rfl, rfl⟩
          go_wp2_with (at_lookup; refine smap_look_ok (by rfl) _ _ 41 rfl 45 Try.underlying41 _ hz pb _ _ rfl hM id hid rfl ?_; rw [e2.out, e3.out])
          go_ret
          exact ⟨S, rfl, hG _ (Below.refl _ _), hrefl, Kept.refl _ _⟩
        · have hap := any_place (r := R) (a := A) h.ok
          cases hat : atPl g.L ⟨R, A⟩ with
          | some v =>
            have hE : addEV g id R A ps.length = 15 := by unfold addEV; rw [if_neg (by omega), if_neg h7, if_neg (by rw [hgv]; decide), if_neg hlow, if_pos (by rw [hap, hat]; rfl)]
            rw [hkeep (by rw [hE]; decide), hE]
            obtain ⟨hv1, hv2⟩ := atPl_some hat
            obtain ⟨ao', n', cap', hfv, _⟩ := h.yes v hv1
            rw [hv2] at hfv
            have e4 : Hid ((f ⟨R, A⟩).getD (.agg #[.string ⟨#[]⟩, .slice none 0 0, .bool false]) = .agg #[.string v.id, .slice ao' n' cap', .bool v.done]) := by show _ = _; rw [hfv]; rfl
            have e5 : Hid ((f ⟨R, A⟩).isSome = true) := by show _ = _; rw [hfv]; rfl
            have hb5 := belowNew w (.cells #[.string v.id, .slice ao' n' cap', .bool v.done] 49)
            clear e1 hfv
            go_enter Try.func5, Try.ntmps5
            go_wp2_with fail
            refine cO.mono ?_
            rintro e w0 ⟨rfl, rfl⟩
            go_wp2_with (first
              | (at_lookup; refine smap_look_ok (by rfl) _ _ 41 rfl 45 Try.underlying41 _ hz pb _ _ rfl hM id hid rfl ?_; rw [e2.out, e3.out])
              | (at_lookup; refine cmap_look_ok (by rfl) _ _ 42 rfl 49 Try.underlying42 _ hzv vb _ _ rfl hC ⟨R, A⟩ hpin rfl ?_; rw [e4.out, e5.out]))
            go_ret
            exact ⟨S, rfl, hG _ hb5, hrefl, Kept.of_below hb5⟩
          | none =>
            have hfn := h.no _ hpin hat
            have e4 : Hid ((f ⟨R, A⟩).getD (.agg #[.string ⟨#[]⟩, .slice none 0 0, .bool false]) = .agg #[.string ⟨#[]⟩, .slice none 0 0, .bool false]) := by show _ = _; rw [hfn]; rfl
            have e5 : Hid ((f ⟨R, A⟩).isSome = false) := by show _ = _; rw [hfn]; rfl
            have hb5 := belowNew w (.cells #[.string ⟨#[]⟩, .slice none 0 0, .bool false] 49)
            have h5 := h.below hb5
            have cL := pgLen_at h5
            by_cases h256 : 256 ≤ g.L.length
            · have hE : addEV g id R A ps.length = 4 := by unfold addEV; rw [if_neg (by omega), if_neg h7, if_neg (by rw [hgv]; decide), if_neg hlow, if_neg (by rw [hap, hat]; decide), if_pos h256]
              rw [hkeep (by rw [hE]; decide), hE]
              have g256 : (256 : Int) ≤ (g.L.length : Int) := by omega
              clear e1 hfn
              go_enter Try.func5, Try.ntmps5
              go_wp2_with fail
              refine cO.mono ?_
              rintro e w0 ⟨rfl, rfl⟩
              go_wp2_with (first
                | (at_lookup; refine smap_look_ok (by rfl) _ _ 41 rfl 45 Try.underlying41 _ hz pb _ _ rfl hM id hid rfl ?_; rw [e2.out, e3.out])
                | (at_lookup; refine cmap_look_ok (by rfl) _ _ 42 rfl 49 Try.underlying42 _ hzv vb _ _ rfl hC ⟨R, A⟩ hpin rfl ?_; rw [e4.out, e5.out]))
              refine cL.mono ?_
              rintro e w1 ⟨rfl, rfl⟩
              go_wp2
              go_ret
              exact ⟨S, rfl, hG _ hb5, hrefl, Kept.of_below hb5⟩
            · have hE : addEV g id R A ps.length = 0 := by unfold addEV; rw [if_neg (by omega), if_neg h7, if_neg (by rw [hgv]; decide), if_neg hlow, if_neg (by rw [hap, hat]; decide), if_neg h256]
              have g256 : ¬ (256 : Int) ≤ (g.L.length : Int) := by omega
              have hfin := fun w1 w2 w3 ao' cap' => PGr.add (w1 := w1) (w2 := w2) (w3 := w3) (ao := ao') (cap := cap') h5 hid hps hE
              have hR5 := hR.below hb5
              have hsz5 : w.heap.size ≤ (w.alloc (.cells #[.string ⟨#[]⟩, .slice none 0 0, .bool false] 49)).heap.size := hb5.size
              rw [hE]
              have hnm : g.L.length < maxLen := by unfold maxLen; omega
              have hM5 := h5.pl
              have hC5 := h5.vx
              have hn3 := h.n3
              have hbx := h5.box
              have hn1 := h.n1
              have hsp := h.sp
              clear e1 hfn hkeep hE hap hG c0
              have hfin' : Hid _ := hfin
              clear hfin
              have c0 := h.box.cell (i := 0) rfl
              go_enter Try.func5, Try.ntmps5
              go_wp2_with fail
              refine cO.mono ?_
              rintro e w0 ⟨rfl, rfl⟩
              go_wp2_with (first
                | (at_lookup; refine smap_look_ok (by rfl) _ _ 41 rfl 45 Try.underlying41 _ hz pb _ _ rfl hM id hid rfl ?_; rw [e2.out, e3.out])
                | (at_lookup; refine cmap_look_ok (by rfl) _ _ 42 rfl 49 Try.underlying42 _ hzv vb _ _ rfl hC ⟨R, A⟩ hpin rfl ?_; rw [e4.out, e5.out]))
              refine cL.mono ?_
              rintro e w1 ⟨rfl, hw1⟩
              rw [hw1]
              clear hw1
              obtain ⟨W5, hW5⟩ : ∃ q, w0.alloc (.cells #[.string ⟨#[]⟩, .slice none 0 0, .bool false] 49) = q := ⟨_, rfl⟩
              rw [hW5] at hb5 hR5 hsz5 hM5 hC5 hbx hfin' ⊢
              clear cL cO hM hC hz hzv e2 e3 e4 e5 c0 c1 c2 h h5 hW5
              have c1 := hbx.cell (i := 1) rfl
              go_wp2_with (at_mapUpdate; refine smap_put rfl _ _ _ 41 rfl 45 Try.underlying41 pb _ _ rfl hM5 hnm id hid rfl _ rfl ?_; intro w6 hM6 hk6)
              have hbx6 := hbx.kept hk6 (fun e => hn1 e)
              have c2 := hbx6.cell (i := 2) rfl
              have hC6 := hC5.kept hk6 (fun e => hn3 e.symm)
              have hR6 := hR5.kept hk6 (fun b hb e => hoff b hb (by rw [show b = pb from e]; exact hsp))
              have cC : Calls Try.prog 16 #[.slice ao ps.length cap] w6.drew fun e w' => ∃ ao' cap', e = .returned (.slice ao' ps.length cap') ∧ KQ textK 9 w' w6.heap.size (.slice ao' ps.length cap') ps ∧ Below w6.heap.size w6 w' := by
                refine (cloneS_row ao cap ps w6.drew (hR6.below (below_drewN (Below.refl w6.heap.size w6) 1)) hl).mono ?_
                rintro e w' ⟨v, rfl, h1, h2⟩
                obtain ⟨ao', cap', rfl, _, _⟩ := h1.form
                exact ⟨ao', cap', rfl, h1, (below_drewN (Below.refl w6.heap.size w6) 1).trans h2⟩
              rename_i K hK
              replace hK : Hid _ := hK
              go_region_law (go_simp; go_at_call 16; refine cC.mono ?_; rintro e wC ⟨ao', cap', rfl, hQ, hbC⟩; have c3C := (hbx6.below hbC hbx6.lt).cell (i := 2) rfl; obtain ⟨w7, hrun7, hC7, hk7, _⟩ := (hC6.below hbC).update Try.underlying42 hpin (.agg #[.string id, .slice ao' ps.length cap', .bool false]); unfold kC at hrun7)
              all_goals
                refine hK.out _ _ ?_
                obtain ⟨S', f1, f2, f3⟩ := hfin'.out w6 wC w7 ao' cap' hM6 hk6 hQ hbC hC7 hk7
                clear hK hrun7 c3C cC c1 c2 hfin' hQ hC7 hk7 hM6 hk6 hbC hbx6 hC6
                go_wp2
                go_ret
                exact ⟨S', rfl, f1, fun k hk => (f2 k hk).imp (fun e => e) (fun e => by omega), (Kept.of_below hb5).trans f3⟩
  · have hE : addEV g id r a ps.length = 2 := by unfold addEV; rw [if_pos (by unfold inR at hin; omega)]
    rw [hkeep (by rw [hE]; decide), hE]
    have cO := plOf_no r a w hin
    go_enter Try.func5, Try.ntmps5
    go_wp2_with fail
    refine cO.mono ?_
    rintro e w0 ⟨rfl, rfl⟩
    go_wp2
    go_ret
    exact ⟨S, rfl, hG _ (Below.refl _ _), hrefl, Kept.refl _ _⟩
end Go.Proofs.Ytfbpjdjajecajaa
