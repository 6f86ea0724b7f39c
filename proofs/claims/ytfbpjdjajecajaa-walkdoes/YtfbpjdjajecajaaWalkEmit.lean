/- What Emit of the program's graph does. -/
import Derived.Test.YtfbpjdjajecajaaWalkWalk
import Derived.Test.YtfbpjdjajecajaaCompactStr
namespace Go.Proofs.Ytfbpjdjajecajaa
open Go Go.RowKit Go.Maps
set_option linter.unusedVariables false

/-- What Emit answers: m is missing; if nothing is, l is emitted. -/
def GotEmit (w : World) (gb : Nat) (S : Nat → Prop) (g : GrD) (id : ByteArray) (e : Ending) (w' : World) : Prop :=
  ∃ (l m : List ByteArray) (al : Option Addr) (cl : Nat) (am : Option Addr) (cm : Nat), e = .returned (.tuple #[.slice al l.length cl, .slice am m.length cm]) ∧ MissOf g id m ∧
    KQ textK 9 w' w.heap.size (.slice al l.length cl) l ∧ KQ textK 9 w' w.heap.size (.slice am m.length cm) m ∧ Kept S w w' ∧
    ((m = [] ∧ l = emitV g id ∧ PG w' gb S (doneV g id)) ∨ (m ≠ [] ∧ l = [] ∧ PG w' gb S g))

/-- The vertices' map while some are marked. -/
def markF (f : PlD → Option Value) (L : List VtxD) (P : List PlD) (p : PlD) : Option Value := if p ∈ P then some (vtxV (((atPl L p).map (·.id)).getD ⟨#[]⟩) none 0 0 true) else f p

theorem markF_put {f : PlD → Option Value} {g : GrD} (h : GrOk g) {P : List PlD} {v : VtxD} (hv : v ∈ g.L) (p : PlD) : markF f g.L (P ++ [plV v]) p = putC (markF f g.L P) (plV v) (vtxV v.id none 0 0 true) p := by
  unfold markF putC
  by_cases e : p = plV v
  · rw [if_pos e, if_pos (by rw [e]; simp), e, atPl_of h hv]
    rfl
  · rw [if_neg e]
    congr 1
    simp [e]

open Classical in
/-- What it is at the end. -/
theorem doneV_mem {g : GrD} (h : GrOk g) {id : ByteArray} {v : VtxD} (hv : v ∈ (doneV g id).L) : ∃ u ∈ g.L, v.id = u.id ∧ plV v = plV u ∧ v.parents = u.parents ∧ ((Reach g id u.id ∧ v.done = true) ∨ (¬ Reach g id u.id ∧ v = u)) := by
  unfold doneV at hv
  obtain ⟨u, hu, rfl⟩ := List.mem_map.1 hv
  refine ⟨u, hu, ?_⟩
  by_cases hr : Reach g id u.id
  · rw [if_pos hr]
    exact ⟨rfl, rfl, rfl, Or.inl ⟨hr, rfl⟩⟩
  · rw [if_neg hr]
    exact ⟨rfl, rfl, rfl, Or.inr ⟨hr, rfl⟩⟩

open Classical in
theorem doneV_len (g : GrD) (id : ByteArray) : (doneV g id).L.length = g.L.length := by unfold doneV; rw [List.length_map]

open Classical in
theorem doneV_get (g : GrD) (id x : ByteArray) : plF (doneV g id).L x = plF g.L x := by
  unfold plF doneV getV
  simp only
  rw [List.find?_map]
  have : ((fun x_1 : VtxD => x_1.id.toList == x.toList) ∘ fun v : VtxD => if Reach g id v.id then { v with done := true } else v) = fun v : VtxD => v.id.toList == x.toList := by
    funext v
    simp only [Function.comp]
    split <;> rfl
  rw [this]
  cases g.L.find? (fun v => v.id.toList == x.toList) with
  | none => rfl
  | some v =>
    simp only [Option.map_some]
    split <;> rfl

theorem doneV_atPl {g : GrD} (h : GrOk g) {id : ByteArray} {p : PlD} (hn : atPl (doneV g id).L p = none) : atPl g.L p = none := by
  refine atPl_none.2 (fun u hu e => ?_)
  unfold doneV at hn
  refine atPl_none.1 hn _ (List.mem_map.2 ⟨u, hu, rfl⟩) ?_
  rw [← e]
  split <;> rfl

/-- All are marked. -/
theorem PGr.done {w w' : World} {gb pb vb : Nat} {S : Nat → Prop} {g : GrD} {f : PlD → Option Value} (h : PGr w gb pb vb S g f) {id : ByteArray} (hC : CMap w' vb (markF f g.L ((emitL g id).map plV)) g.L.length) (hk : Kept (fun k => k = vb) w w') : PG w' gb S (doneV g id) ∧ Kept S w w' := by
  have hkS : Kept S w w' := hk.mono (fun k _ e => by rw [e]; exact h.sv)
  refine ⟨⟨pb, vb, markF f g.L ((emitL g id).map plV), ?_⟩, hkS⟩
  have hpin : ∀ u ∈ g.L, plV u ∈ (emitL g id).map plV ↔ Reach g id u.id ∧ u.done = false := fun u hu => by
    rw [List.mem_map]
    constructor
    · rintro ⟨v, hv, e⟩
      obtain ⟨q1, q2, q3⟩ := emitL_mem.1 hv
      rw [plV_inj h.ok q1 hu e] at q2 q3
      exact ⟨q2, q3⟩
    · rintro ⟨q1, q2⟩
      exact ⟨u, emitL_mem.2 ⟨hu, q1, q2⟩, rfl⟩
  exact
    { box := h.box.kept hk (fun e => h.n2 e)
      pl := by rw [doneV_len]; exact (h.pl.kept hk (fun e => h.n3 e)).congr (fun x => doneV_get g id x)
      vx := by rw [doneV_len]; exact hC
      no := fun p hp hn => by
        have hn' := doneV_atPl h.ok hn
        unfold markF
        rw [if_neg (fun hm => by obtain ⟨v, hv, e⟩ := List.mem_map.1 hm; exact atPl_none.1 hn' v (emitL_mem.1 hv).1 e)]
        exact h.no p hp hn'
      yes := fun v hv => by
        obtain ⟨u, hu, e1, e2, e3, e4⟩ := doneV_mem h.ok hv
        obtain ⟨ao, n, cap, y1, y2⟩ := h.yes u hu
        by_cases hm : Reach g id u.id ∧ u.done = false
        · refine ⟨none, 0, 0, ?_, fun hd => ?_⟩
          · rw [e2]
            unfold markF
            rw [if_pos ((hpin u hu).2 hm), atPl_of h.ok hu]
            rcases e4 with ⟨_, hd⟩ | ⟨q, _⟩
            · rw [hd, e1]; rfl
            · exact (q hm.1).elim
          · rcases e4 with ⟨_, q⟩ | ⟨q, _⟩
            · rw [q] at hd; cases hd
            · exact (q hm.1).elim
        · have hfe : markF f g.L ((emitL g id).map plV) (plV v) = f (plV u) := by
            rw [e2]
            unfold markF
            rw [if_neg (fun q => hm ((hpin u hu).1 q))]
          rcases e4 with ⟨q, hd⟩ | ⟨q, rfl⟩
          · have hud : u.done = true := by
              cases hc : u.done with
              | true => rfl
              | false => exact (hm ⟨q, hc⟩).elim
            refine ⟨ao, n, cap, by rw [hfe, y1, e1, hd, hud], fun hd2 => by rw [hd] at hd2; cases hd2⟩
          · exact ⟨ao, n, cap, hfe.trans y1, y2.keep hk (fun b hb q1 q2 q3 q4 => q3 q4)⟩
      ok := h.ok.done id
      ids := fun v hv => by
        obtain ⟨u, hu, e1, e2, e3, _⟩ := doneV_mem h.ok hv
        rw [e1, e3]
        exact h.ids u hu
      sg := h.sg, sp := h.sp, sv := h.sv, n1 := h.n1, n2 := h.n2, n3 := h.n3
      lt := fun k e => Nat.lt_of_lt_of_le (h.lt k e) hk.size }

theorem emitL_few {g : GrD} (h : GrOk g) (id : ByteArray) : (emitL g id).length ≤ 256 := Nat.le_trans (List.Sublist.length_le List.filter_sublist) h.n

set_option maxRecDepth 100000 in
set_option maxHeartbeats 4000000 in
theorem pgEmit_any (id : ByteArray) (gb : Nat) (S : Nat → Prop) (g : GrD) (w : World) (h : PG w gb S g) (hid : id.size ≤ maxLen) :
    Calls Try.prog 7 #[.pointer (some ⟨gb, 0, none⟩), .string id] w fun e w' => GotEmit w gb S g id e w' := by
  obtain ⟨pb, vb, f, h⟩ := h
  have cW := pgWalk_at h id hid
  obtain ⟨i0, z0, hi0, hz0, hz1, hz2, hz3⟩ := strInfoT
  go_enter Try.func7, Try.ntmps7
  go_wp2_with fail
  refine cW.mono ?_
  rintro e w1 ⟨pr, F, M, ao4, c4, ao5, c5, rfl, hD, hK4, hK5, hap, hsz, hb1⟩
  clear cW
  have hlF := hD.lenF
  rw [List.length_map] at hlF
  have h256 := h.ok.n
  have hfew := hD.few
  have hfewM := hD.fewM
  rw [List.length_map, List.length_nil] at hfew
  have hMl : M.length ≤ 1793 := by omega
  have hFl : F.length ≤ 256 := by omega
  clear hfew hfewM hlF
  cases hM0 : M with
  | cons x0 r0 =>
    have hpos : (0 : Int) < (M.length : Int) := by rw [hM0]; simp
    have hx0 : x0 ∈ M := by rw [hM0]; simp
    rw [← hM0]
    clear hM0
    have cS := sortS_any w.heap.size _ M w1 hK5 (by omega)
    have hlt5 : ∀ k, (Value.slice ao5 M.length c5).ownBlock = some k → w.heap.size ≤ k := fun k e => (hK5.lt k e).1
    go_wp2_with fail
    refine cS.mono ?_
    rintro e w2 ⟨rfl, hQ2, hk2⟩
    have hb2 := hb1.trans (hk2.below hb1.size hlt5)
    have cC := compactS_any w.heap.size _ _ w2 hQ2 (by rw [sortT_length]; omega)
    have hlt52 : ∀ k, (Value.slice ao5 M.length c5).ownBlock = some k → w.heap.size ≤ k := hlt5
    clear cS hk2 hQ2 hK5
    go_wp2_with fail
    refine cC.mono ?_
    rintro e w3 ⟨q', rfl, hQ3, hk3⟩
    have hb3 := hb2.trans (hk3.below hb2.size hlt52)
    obtain ⟨aq, cq, rfl, _, _⟩ := hQ3.form
    obtain ⟨hrise, hmem⟩ := dedup_sort M
    have hmiss : MissOf g id (dedupT (sortT M)) := ⟨hrise, fun x => by rw [hmem, hD.missing]⟩
    have hmne : dedupT (sortT M) ≠ [] := fun e => by
      have := (hmem x0).2 hx0
      rw [e] at this
      cases this
    have hfin : GotEmit w gb S g id (.returned (.tuple #[.slice none 0 0, .slice aq (dedupT (sortT M)).length cq])) w3 :=
      ⟨[], _, none, 0, aq, cq, rfl, hmiss, KQ.empty _ _ _ _, hQ3, Kept.of_below hb3, Or.inr ⟨hmne, rfl, ⟨pb, vb, f, h.below hb3⟩⟩⟩
    clear hQ3 hk3 cC hb2 hb3
    go_wp2
    go_ret2
    exact hfin
  | nil =>
    subst hM0
    have hmiss : MissOf g id [] := ⟨List.Pairwise.nil, fun x => by rw [← hD.missing]⟩
    have hnd : F.Nodup := (List.pairwise_map.1 hD.nodF).imp (fun {a b} hne e => hne (by rw [e]))
    have cP := plSort_any ao4 c4 F w1 hK4.rowOf.1 hnd (by omega)
    go_wp2_with fail
    refine cP.mono ?_
    rintro e w2 ⟨d, ad, cd, rfl, hperm, hrise, hKd, hb2⟩
    have hb12 := hb1.trans (hb2.mono hb1.size)
    have hsort := hD.sorted h.ok hrise (fun p => by rw [List.mem_map, List.mem_map]; constructor <;> rintro ⟨x, hx, e⟩; exact ⟨x, hperm.mem_iff.1 hx, e⟩; exact ⟨x, hperm.mem_iff.2 hx, e⟩)
    have hElen : d.length = (emitL g id).length := by have := congrArg List.length hsort; rwa [List.length_map, List.length_map] at this
    have hE256 := emitL_few h.ok id
    have hKd2 := hKd.rebase hb1.size
    have hC2 := h.vx.below hb12
    have hk2 : Kept (fun k => k = vb) w w2 := Kept.of_below hb12
    have hvb := h.lt vb h.sv
    have hgb := h.lt gb h.sg
    have hn2 := h.n2
    clear cP hK4 hK5 hap hsz hb1 hb2 hKd hperm hrise hD hnd hMl hFl
    obtain ⟨n, hn⟩ : ∃ n, Hid (d.length = n) := ⟨_, rfl⟩
    have hEn : Hid ((emitL g id).length = n) := by show _ = _; rw [← hElen, hn.out]
    have hn256 : n ≤ 256 := by have := hEn.out; omega
    rw [hn.out] at hKd2 ⊢
    clear hElen hE256
    go_wp2_with fail
    go_loopw [8, 10, 27] (fun v8 _ v27 wr => ∃ (k : Nat) (al : Option Addr) (cl : Nat), k ≤ n ∧ v27 = .int .i64 (k : Int) ∧ v8 = .slice al k cl ∧ KQ textK 9 wr w.heap.size (.slice al k cl) (((emitL g id).take k).map (·.id)) ∧ KQ cK 45 wr w.heap.size (.slice ad n cd) d ∧ CMap wr vb (markF f g.L (((emitL g id).take k).map plV)) g.L.length ∧ Kept (fun k => k = vb) w wr ∧ (∀ j, ownA al = some j → ownA ad ≠ some j)) (fun _ _ v _ => n - (intOf v).toNat)
    case atStart => exact ⟨0, none, 0, by omega, rfl, rfl, KQ.empty _ _ _ _, hKd2, hC2.congr (fun p _ => by unfold markF; simp), hk2, fun j e => by cases e⟩
    case round =>
      obtain ⟨k, al, cl, hkn, rfl, rfl, hQ, hKd, hC, hk, hap⟩ := hrel
      clear hKd2 hC2 hk2
      by_cases hlt : k < n
      · have g1 : (k : Int) < (n : Int) := by omega
        obtain ⟨v, hv⟩ : ∃ v, (emitL g id)[k]? = some v := ⟨_, List.getElem?_eq_getElem (by rw [hEn.out]; exact hlt)⟩
        obtain ⟨x, hx⟩ : ∃ x, d[k]? = some x := ⟨_, List.getElem?_eq_getElem (by rw [hn.out]; exact hlt)⟩
        have hxv : x.1 = plV v := by
          have := congrArg (fun l => l[k]?) hsort
          simp only [List.getElem?_map, hx, hv, Option.map_some, Option.some.injEq] at this
          exact this
        obtain ⟨hvL, hvr, hvd⟩ := emitL_mem.1 (List.mem_of_getElem? hv)
        have hin := plV_in h.ok hvL
        obtain ⟨gd, od, had, hgd, cx⟩ := hKd.rowOf.1.pl hx
        rw [hxv] at cx
        obtain ⟨ao, nn, cap, hfv, _⟩ := h.yes v hvL
        have hrV : RiseV (emitL g id) := h.ok.rise.sublist List.filter_sublist
        have hnot : plV v ∉ ((emitL g id).take k).map plV := fun hm => by
          obtain ⟨u, hu, e⟩ := List.mem_map.1 hm
          obtain ⟨j, hj, hju⟩ := List.mem_iff_getElem.1 hu
          rw [List.length_take] at hj
          rw [List.getElem_take] at hju
          have hp := List.pairwise_iff_getElem.1 hrV j k (by omega) (List.getElem?_eq_some_iff.1 hv).1 (by omega)
          rw [hju, (List.getElem?_eq_some_iff.1 hv).2] at hp
          have := (plV_ltP h.ok (emitL_mem.1 (List.mem_of_mem_take hu)).1 hvL).2 hp
          rw [e] at this
          exact ltP_irrefl _ this
        have hfm : markF f g.L (((emitL g id).take k).map plV) (plV v) = some (vtxV v.id ao nn cap v.done) := by unfold markF; rw [if_neg hnot]; exact hfv
        have e4 : Hid ((markF f g.L (((emitL g id).take k).map plV) (plV v)).getD (.agg #[.string ⟨#[]⟩, .slice none 0 0, .bool false]) = .agg #[.string v.id, .slice ao nn cap, .bool v.done]) := by show _ = _; rw [hfm]; rfl
        have hbox := h.box.kept hk (fun e => hn2 e)
        have c2 := hbox.cell (i := 2) rfl
        have hzv := zeroVtx wr
        have hfd := fieldId
        have hb3 := belowNew wr (.cells #[.string v.id] 9)
        have hQ3 := hQ.below hb3
        have hN3 := new_text wr v.id
        have hbsz := hk.size
        have m1 : (((emitL g id).take k).map (·.id)).length + 1 ≤ maxLen := by rw [List.length_map, List.length_take, hEn.out]; unfold maxLen; omega
        have m2 : ((((emitL g id).take k).map (·.id)).length + 1) * 16 ≤ 140737488355328 := by rw [List.length_map, List.length_take, hEn.out]; omega
        have m3 : w.heap.size ≤ (wr.alloc (.cells #[.string v.id] 9)).heap.size := by have := hb3.size; omega
        subst had
        obtain ⟨lk, hlk⟩ : ∃ lk, Hid (((emitL g id).take k).map (·.id) = lk) := ⟨_, rfl⟩
        rw [hlk.out] at hQ3 m1 m2
        have hnew : Hid (lk ++ [v.id] = ((emitL g id).take (k + 1)).map (·.id)) := by show _ = _; rw [← hlk.out, List.take_add_one, hv, List.map_append]; rfl
        have hnewP : Hid (((emitL g id).take k).map plV ++ [plV v] = ((emitL g id).take (k + 1)).map plV) := by show _ = _; rw [List.take_add_one, hv, List.map_append]; rfl
        have hllen : Hid ((lk ++ [v.id]).length = k + 1) := by show _ = _; rw [hnew.out, List.length_map, List.length_take, hEn.out]; omega
        go_wp2_with (first
          | (at_lookup; refine cmap_look (by rfl) _ _ 42 rfl 49 Try.underlying42 _ hzv vb _ _ rfl hC (plV v) hin rfl ?_; rw [e4.out])
          | (at_builtin; refine wpList_pushN (K := textK) rfl _ _ 29 rfl w.heap.size 9 i0 _ 16 Try.underlying29 hi0 hz0 hz1 hz2 hz3 (.slice al k cl) lk rfl hQ3 v.id trivial (fun _ h => h.elim) ⟨wr.heap.size, 0, none⟩ 1 rfl hN3 m1 m2 m3 ?_; intro ao9 cap9 w9 hQ9 hk9 hf9))
        have hown : ∀ j, ownA al = some j → w.heap.size ≤ j ∧ j < wr.heap.size := fun j e => hQ.lt j (by rw [ownA_eq]; exact e)
        have hownd : ∀ j, ownA (some ⟨gd, od, none⟩) = some j → w.heap.size ≤ j ∧ j < wr.heap.size := fun j e => hKd.lt j (by rw [ownA_eq]; exact e)
        simp only [ownA_eq] at hk9
        have hfr9 : ∀ j, ownA ao9 = some j → ownA al = some j ∨ wr.heap.size ≤ j := fun j e => by
          rcases hf9 j (by rw [ownA_eq]; exact e) with q | q
          · rw [ownA_eq] at q; exact Or.inl q
          · have := hb3.size; exact Or.inr (by omega)
        have hap9 : ∀ j, ownA ao9 = some j → ownA (some ⟨gd, od, none⟩) ≠ some j := fun j e e' => by
          rcases hfr9 j e with q | q
          · exact hap j q e'
          · have := hownd j e'; omega
        have hKd9 := (hKd.below hb3).kept hk9 (fun j e e' => by rw [ownA_eq] at e; exact hap j e' e) (fun x _ b hb => absurd hb (noFootC x b))
        have hC9 := (hC.below hb3).kept hk9 (fun e => by have := hown vb e; omega)
        have hk09 : Kept (fun k => k = vb) w w9 := (hk.trans (Kept.of_below hb3)).transNew hk9 (fun j e => (hown j e).1)
        have hbox9 := h.box.kept hk09 (fun e => hn2 e)
        have c29 := hbox9.cell (i := 2) rfl
        rw [hllen.out] at hQ9
        clear hf9 hk9 hQ3 hN3 m1 m2 m3 hC hKd hQ hbox c2 hzv cx hb3 hown hownd hfr9 hap hk hbsz
        have hbd : Below w9.heap.size w9 w9.drew := below_drewN (Below.refl _ _) 1
        have hlk9 := (hC9.below hbd).looks Try.underlying42 (zeroVtx _) hin false
        rw [if_neg (by decide), e4.out] at hlk9
        obtain ⟨w10, hrun10, hC10, hk10, _⟩ := (hC9.below hbd).update Try.underlying42 hin (.agg #[.string v.id, .slice none 0 0, .bool true])
        unfold kC at hlk9 hrun10
        have hk910 : Kept (fun k => k = vb) w9 w10 := (Kept.of_below hbd).trans hk10
        have hK10 := hKd9.kept hk910 (fun j e e' => by have q := (hKd9.lt j e).1; have e'' : j = vb := e'; omega) (fun x _ b hb => absurd hb (noFootC x b))
        have hQ10 := hQ9.kept hk910 (fun j e e' => by have q := (hQ9.lt j e).1; have e'' : j = vb := e'; omega) (fun x _ b hb => absurd hb (noFootT x b))
        have hk010 := hk09.trans hk910
        have hC10' : CMap w10 vb (markF f g.L (((emitL g id).take (k + 1)).map plV)) g.L.length := by
          have en : putNC (markF f g.L (((emitL g id).take k).map plV)) (plV v) g.L.length = g.L.length := by unfold putNC; rw [hfm]; rfl
          rw [en] at hC10
          rw [← hnewP.out]
          exact hC10.congr (fun p _ => markF_put h.ok hvL p)
        clear hKd9 hQ9 hk09 hC9 hC10 hk10 hk910 hbox9
        rw [hnew.out] at hQ10
        clear hnew hnewP hlk hfm
        have hlkn : lk.length = k := by have := hllen.out; rw [List.length_append] at this; simpa using this
        rw [hlkn]
        clear hllen hlkn
        go_region
        all_goals
          clear c29 hlk9 hrun10 hbd
          go_wp2
          go_roundw
          case rel => exact ⟨k + 1, ao9, cap9, by omega, by go_num, rfl, hQ10, hK10, hC10', hk010, hap9⟩
          case measure => simp [intOf]; omega
      · obtain rfl : k = n := by omega
        have g1 : ¬ (k : Int) < (k : Int) := by omega
        rw [List.take_of_length_le (Nat.le_of_eq hEn.out)] at hQ hC
        obtain ⟨hPG, hkS⟩ := h.done hC hk
        have hll : Hid (k = (emitV g id).length) := by show _ = _; rw [emitV_eq, List.length_map, hEn.out]
        rw [← emitV_eq] at hQ
        have hfin : GotEmit w gb S g id (.returned (.tuple #[.slice al k cl, .slice none 0 0])) wr := by
          rw [hll.out] at hQ ⊢
          exact ⟨emitV g id, [], al, cl, none, 0, rfl, hmiss, hQ, KQ.empty _ _ _ _, hkS, Or.inl ⟨rfl, rfl, hPG⟩⟩
        clear hQ hKd hC hk hap hll hEn hn hsort
        go_wp2
        go_ret2
        exact hfin
end Go.Proofs.Ytfbpjdjajecajaa
