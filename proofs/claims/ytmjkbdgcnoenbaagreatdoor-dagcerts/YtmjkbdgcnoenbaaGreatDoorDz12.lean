/- Texts as one: TabFns. -/
import Derived.Test.YtmjkbdgcnoenbaaGreatDoorDz11
/- New, Put, Get, Len of a table. -/
namespace Go.Proofs.YtmjkbdgcnoenbaaGreatDoor
open Go Go.RowKit Go.Maps
set_option linter.unusedVariables false

theorem PTab.below {w w' : World} {tb mb : Nat} {most low : Int} {l : List ThingD} (h : PTab w tb mb most low l) (hb : Below w.heap.size w w') : PTab w' tb mb most low l := ⟨h.box.below hb h.box.lt, h.map.below hb, h.ne, h.nod, h.few⟩
theorem PTab.kept {S : Nat → Prop} {w w' : World} {tb mb : Nat} {most low : Int} {l : List ThingD} (h : PTab w tb mb most low l) (hk : Kept S w w') (h1 : ¬ S tb) (h2 : ¬ S mb) : PTab w' tb mb most low l := ⟨h.box.kept hk h1, h.map.kept hk h2, h.ne, h.nod, h.few⟩

/-- 'len(m)' where the order is drawn: what go_quiet asks for. -/
theorem SMap.lens {w : World} {b : Nat} {f : ByteArray → Option Value} {n : Nat} (h : SMap w b f n) {t e : TypeId} (ht : Tryz.prog.underlying t = some (.map 9 e)) (ty : TypeId) (m : Nat) : (Builtin.len_ #[t] ty #[.map (some b)]).run Tryz.prog (w.drewN m) = .ok (.int .i64 (n : Int)) (w.drewN m) := by
  obtain ⟨D, ho, h1, _⟩ := h.keep (w' := w.drewN m) rfl
  rw [ho.len ht ty, h1]

theorem zeroThing (w : World) : (zeroValue 142).run Tryz.prog w = .ok (.agg #[.int .i64 0, .string ⟨#[]⟩]) w := Tryz.zeroValue142 w

set_option maxRecDepth 100000 in
theorem tabGet_any (id : ByteArray) (hid : id.size ≤ maxLen) (tb mb : Nat) (most low : Int) (l : List ThingD) (w : World) (h : PTab w tb mb most low l) :
    Calls Tryz.prog 48 #[.pointer (some ⟨tb, 0, none⟩), .string id] w fun e w' => e = .returned (.tuple #[.string (gotS (getR l id)), .int .i64 (gotR (getR l id)), .bool (getR l id).isSome]) ∧ Below w.heap.size w w' := by
  have hM := h.map
  have c2 := h.box.cell (i := 0) rfl
  have ltb := h.box.lt
  have hz := zeroThing w
  obtain ⟨f0, hf0⟩ : ∃ f, Hid (tabF l = f) := ⟨_, rfl⟩
  rw [hf0.out] at hM
  obtain ⟨s, rd, ok, h1, h2, h3⟩ : ∃ s rd ok, Hid (gotS (getR l id) = s ∧ gotR (getR l id) = rd ∧ (getR l id).isSome = ok) ∧ (f0 id).getD (.agg #[.int .i64 0, .string ⟨#[]⟩]) = .agg #[.int .i64 rd, .string s] ∧ (f0 id).isSome = ok := by
    refine ⟨_, _, _, ⟨rfl, rfl, rfl⟩, ?_, ?_⟩
    · rw [← hf0.out]
      unfold tabF
      cases getR l id <;> rfl
    · rw [← hf0.out]
      unfold tabF
      cases getR l id <;> rfl
  rw [h1.out.1, h1.out.2.1, h1.out.2.2]
  go_enter Tryz.func48, Tryz.ntmps48
  go_wp2_with (at_lookup; refine smap_look_ok (by rfl) _ _ 144 rfl 142 Tryz.underlying144 _ hz mb _ _ rfl hM id hid rfl ?_; rw [h2, h3])
  go_region
  go_wp2
  go_ret3
  exact ⟨rfl, Below.drew (belowNew w _)⟩

theorem putF_tab {l : List ThingD} {x : ThingD} (hx : x.id ∉ l.map (·.id)) (i : ByteArray) : tabF (putL l x) i = putF (tabF l) x.id (thingV x) i := by
  unfold tabF putF
  rw [getR_put hx]
  by_cases h : x.id = i
  · rw [if_pos h, if_pos h.symm]
    rfl
  · rw [if_neg h, if_neg (fun e => h e.symm)]

theorem nod_put {l : List ThingD} {x : ThingD} (h : (l.map (·.id)).Nodup) (hx : x.id ∉ l.map (·.id)) : ((putL l x).map (·.id)).Nodup := by
  unfold putL
  rw [List.map_append, List.map_cons, List.nodup_append]
  have h1 : (l.map (·.id)) = (l.take (putAt l x.id)).map (·.id) ++ (l.drop (putAt l x.id)).map (·.id) := by rw [← List.map_append, List.take_append_drop]
  rw [h1] at h hx
  obtain ⟨a, b, c⟩ := List.nodup_append.1 h
  rw [List.mem_append, not_or] at hx
  refine ⟨a, List.nodup_cons.2 ⟨hx.2, b⟩, fun y hy z hz e => ?_⟩
  rcases List.mem_cons.1 hz with rfl | hz
  · subst e; exact hx.1 hy
  · exact c y hy z hz e

/-- What Put answers. -/
def putEP (most : Int) (l : List ThingD) (low : Int) (id : ByteArray) (round : Int) : Nat :=
  if (getR l id).isSome = true then 13 else if round < low then 11 else if most ≤ (l.length : Int) then 4 else 0
def putTP (most : Int) (l : List ThingD) (low : Int) (x : ThingD) : List ThingD := if putEP most l low x.id x.round = 0 then putL l x else l

set_option maxRecDepth 100000 in
set_option maxHeartbeats 1000000 in
theorem tabPut_any (id : ByteArray) (hid : id.size ≤ maxLen) (round : Int) (s : ByteArray) (tb mb : Nat) (most low : Int) (l : List ThingD) (w : World) (h : PTab w tb mb most low l) (hl6 : l.length < 1000000) :
    Calls Tryz.prog 59 #[.pointer (some ⟨tb, 0, none⟩), .string id, .int .i64 round, .string s] w fun e w' => e = .returned (.int .i64 (putEP most l low id round : Int)) ∧ PTab w' tb mb most low (putTP most l low ⟨id, round, s⟩) ∧ Kept (fun k => k = tb ∨ k = mb) w w' := by
  have hM := h.map
  have c0 := h.box.cell (i := 1) rfl
  have c1 := h.box.cell (i := 2) rfl
  have c2 := h.box.cell (i := 0) rfl
  have ltb := h.box.lt
  have hz := zeroThing w
  obtain ⟨f0, hf0⟩ : ∃ f, Hid (tabF l = f) := ⟨_, rfl⟩
  rw [hf0.out] at hM
  have hok : (f0 id).isSome = (getR l id).isSome := by
    rw [← hf0.out]
    unfold tabF
    cases getR l id <;> rfl
  obtain ⟨ee, te, hee, hte⟩ : ∃ ee te, Hid (putEP most l low id round = ee) ∧ Hid (putTP most l low ⟨id, round, s⟩ = te) := ⟨_, _, rfl, rfl⟩
  have hEE := hee.out
  have hTE := hte.out
  unfold putTP at hTE
  simp only [hee.out] at hTE
  rw [hee.out, hte.out]
  unfold putEP at hEE
  obtain ⟨rz, sz, hz1⟩ : ∃ rz sz, (f0 id).getD (.agg #[.int .i64 0, .string ⟨#[]⟩]) = .agg #[.int .i64 rz, .string sz] := by
    rw [← hf0.out]
    unfold tabF
    cases getR l id <;> exact ⟨_, _, rfl⟩
  have hA := belowNew w (.cells #[.int .i64 rz, .string sz] 142)
  have hP1 := h.below hA
  have hM1 := hM.below hA
  have hO := hM1.lens Tryz.underlying144 3
  have hK1 : Kept (fun k => k = tb ∨ k = mb) w (w.alloc (.cells #[.int .i64 rz, .string sz] 142)) := Kept.of_below hA
  cases hin : (getR l id).isSome with
  | true =>
    rw [hin] at hok hEE
    rw [if_pos rfl] at hEE
    subst hEE
    rw [if_neg (by decide)] at hTE
    subst hTE
    go_enter Tryz.func59, Tryz.ntmps59
    go_wp2_with (at_lookup; refine smap_look_ok (by rfl) _ _ 144 rfl 142 Tryz.underlying144 _ hz mb _ _ rfl hM id hid rfl ?_; rw [hz1, hok])
    go_ret
    exact ⟨rfl, hP1, hK1⟩
  | false =>
    rw [hin] at hok hEE
    rw [if_neg (by decide)] at hEE
    have hni : id ∉ l.map (·.id) := fun hm => by
      have := tabF_some.2 hm
      rw [hf0.out, hok] at this
      cases this
    by_cases hlo : round < low
    · rw [if_pos hlo] at hEE
      subst hEE
      rw [if_neg (by decide)] at hTE
      subst hTE
      go_enter Tryz.func59, Tryz.ntmps59
      go_wp2_with (at_lookup; refine smap_look_ok (by rfl) _ _ 144 rfl 142 Tryz.underlying144 _ hz mb _ _ rfl hM id hid rfl ?_; rw [hz1, hok])
      go_ret
      exact ⟨rfl, hP1, hK1⟩
    · rw [if_neg hlo] at hEE
      by_cases hfu : most ≤ (l.length : Int)
      · rw [if_pos hfu] at hEE
        subst hEE
        rw [if_neg (by decide)] at hTE
        subst hTE
        go_enter Tryz.func59, Tryz.ntmps59
        go_wp2_with (first | (at_lookup; refine smap_look_ok (by rfl) _ _ 144 rfl 142 Tryz.underlying144 _ hz mb _ _ rfl hM id hid rfl ?_; rw [hz1, hok]) | (at_len; refine smap_len (by rfl) _ 144 rfl 142 Tryz.underlying144 mb _ _ rfl hM1 ?_))
        have d0 := hP1.box.cell (i := 1) rfl
        have d2 := hP1.box.cell (i := 0) rfl
        clear c0 c1 c2 hz hM h hA
        generalize w.alloc (.cells #[.int .i64 rz, .string sz] 142) = w1 at hP1 hM1 hO hK1 d0 d2 ⊢
        go_quiet (fail)
        have hbd := below_drewN (Below.refl w1.heap.size w1) nq
        have hP2 := hP1.below hbd
        have hK2 := hK1.trans (Kept.of_below hbd)
        go_wp2
        go_ret
        exact ⟨rfl, hP2, hK2⟩
      · rw [if_neg hfu] at hEE
        subst hEE
        rw [if_pos rfl] at hTE
        have hfin : ∀ w5, SMap w5 mb (putF f0 id (.agg #[.int .i64 round, .string s])) (putN f0 id l.length) → Kept (fun k => k = mb) (w.alloc (.cells #[.int .i64 rz, .string sz] 142)) w5 → PTab w5 tb mb most low te := by
          intro w5 h1 h2
          subst hTE
          have hpn : putN f0 id l.length = (putL l ⟨id, round, s⟩).length := by
            unfold putN
            rw [hok, if_neg (by decide), putL_length]
          rw [hpn] at h1
          refine ⟨hP1.box.kept h2 (fun e => h.ne e), h1.congr (fun i => ?_), h.ne, nod_put h.nod hni, by rw [putL_length]; omega⟩
          rw [putF_tab hni, hf0.out]
          rfl
        clear hTE
        go_enter Tryz.func59, Tryz.ntmps59
        go_wp2_with (first | (at_lookup; refine smap_look_ok (by rfl) _ _ 144 rfl 142 Tryz.underlying144 _ hz mb _ _ rfl hM id hid rfl ?_; rw [hz1, hok]) | (at_len; refine smap_len (by rfl) _ 144 rfl 142 Tryz.underlying144 mb _ _ rfl hM1 ?_))
        have d0 := hP1.box.cell (i := 1) rfl
        have d2 := hP1.box.cell (i := 0) rfl
        clear c0 c1 c2 hz hM hA
        generalize w.alloc (.cells #[.int .i64 rz, .string sz] 142) = w1 at hP1 hM1 hO hK1 d0 d2 hfin ⊢
        go_quiet (fail)
        have hbd := below_drewN (Below.refl w1.heap.size w1) nq
        have hP2 := hP1.below hbd
        have hK2 := hK1.trans (Kept.of_below hbd)
        have hM2 := hM1.below hbd
        have d22 := hP2.box.cell (i := 0) rfl
        clear d0 d2 hO hM1 hP1 hK1
        generalize hw2 : w1.drewN nq = w2 at hP2 hK2 hM2 hbd d22 ⊢
        have hm9 : l.length < maxLen := by unfold maxLen; omega
        go_wp2_with (at_mapUpdate; refine smap_put rfl _ _ _ 144 rfl 142 Tryz.underlying144 mb f0 _ rfl hM2 hm9 id hid rfl _ rfl ?_; intro w5 hM5 hk5)
        have hP5 := hfin w5 hM5 ((Kept.of_below hbd).trans hk5)
        have hK5 := hK2.trans (hk5.mono (fun k _ e => Or.inr e))
        clear hfin hk5 hM5 hM2 hP2 d22 hbd
        go_wp2
        go_ret
        exact ⟨rfl, hP5, hK5⟩

set_option maxRecDepth 100000 in
theorem tabNew_any (most : Int) (w : World) :
    Calls Tryz.prog 69 #[.int .i64 most] w fun e w' => ∃ tb, e = .returned (.pointer (some ⟨tb, 0, none⟩)) ∧ ∃ mb, PTab w' tb mb most (-9223372036854775808) [] ∧ w.heap.size ≤ tb ∧ w.heap.size ≤ mb ∧ Below w.heap.size w w' := by
  have hmm := @run_makeMap Tryz.prog
  have hb1 := belowNew w (.map #[] 0)
  have hM := SMap.new w
  have hb2 := belowNew (w.alloc (.map #[] 0)) (.cells #[.map (some w.heap.size), .int .i64 most, .int .i64 (-9223372036854775808)] 146)
  have hX := Arr.new (w.alloc (.map #[] 0)) 146 [.map (some w.heap.size), .int .i64 most, .int .i64 (-9223372036854775808)]
  have e8 : (w.alloc (.map #[] 0)).heap.size = w.heap.size + 1 := by show (w.heap.push _).size = _; exact Array.size_push _
  have hP : PTab ((w.alloc (.map #[] 0)).alloc (.cells #[.map (some w.heap.size), .int .i64 most, .int .i64 (-9223372036854775808)] 146)) (w.heap.size + 1) w.heap.size most (-9223372036854775808) [] :=
    ⟨by rw [← e8]; exact hX, hM.below hb2, by omega, List.nodup_nil, by simp⟩
  have hB := hb1.trans (hb2.mono (by omega))
  clear hX hM hb1 hb2 e8
  go_enter Tryz.func69, Tryz.ntmps69
  go_wp2
  go_ret
  exact ⟨_, rfl, _, hP, by omega, by omega, hB⟩
end Go.Proofs.YtmjkbdgcnoenbaaGreatDoor
