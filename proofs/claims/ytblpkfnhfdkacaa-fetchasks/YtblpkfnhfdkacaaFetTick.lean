/- A desk's tick, and what it wants. -/
import Derived.Test.YtblpkfnhfdkacaaFetFns
namespace Go.Proofs.Ytblpkfnhfdkacaa
open Go Go.RowKit
set_option linter.unusedVariables false

/-- A wish behind a tick, as it lies. -/
def tickM (n : Nat) (x : WiM) : WiM := ⟨tickW n x.d, x.fa, x.fc⟩

/-- So many have had their tick. -/
def tickedM (n : Nat) (ms : List WiM) (i : Nat) : List WiM := (ms.take i).map (tickM n) ++ ms.drop i

theorem ticked_get {n : Nat} {ms : List WiM} {i : Nat} {x : WiM} (hx : ms[i]? = some x) : (tickedM n ms i)[i]? = some x := by
  have hi := (List.getElem?_eq_some_iff.1 hx).1
  unfold tickedM
  rw [List.getElem?_append_right (by rw [List.length_map, List.length_take]; omega), List.length_map, List.length_take, Nat.min_eq_left (by omega), List.getElem?_drop]
  simpa using hx

theorem ticked_set {n : Nat} {ms : List WiM} {i : Nat} {x : WiM} (hx : ms[i]? = some x) : (tickedM n ms i).set i (tickM n x) = tickedM n ms (i + 1) := by
  have hi := (List.getElem?_eq_some_iff.1 hx).1
  unfold tickedM
  rw [List.set_append_right _ _ (by rw [List.length_map, List.length_take]; omega), List.length_map, List.length_take, Nat.min_eq_left (by omega), Nat.sub_self, List.take_add_one, hx, List.drop_eq_getElem_cons hi]
  simp only [Option.toList_some, List.map_append, List.map_cons, List.map_nil, List.set_cons_zero, List.append_assoc, List.singleton_append]

theorem ticked_len {n : Nat} {ms : List WiM} {i : Nat} (hi : i ≤ ms.length) : (tickedM n ms i).length = ms.length := by
  unfold tickedM
  rw [List.length_append, List.length_map, List.length_take, List.length_drop]
  omega

theorem ticked_mem {n : Nat} {ms : List WiM} {i : Nat} {y : WiM} (h : y ∈ tickedM n ms i) : ∃ x ∈ ms, ∀ b, (wishK n).foot y b → (wishK n).foot x b := by
  unfold tickedM at h
  rcases List.mem_append.1 h with h | h
  · obtain ⟨x, hx, rfl⟩ := List.mem_map.1 h
    refine ⟨x, List.mem_of_mem_take hx, fun b hb => ?_⟩
    have hb' : rowFoot intK x.fa (tickW n x.d).fr b := hb
    rw [tickW_fr] at hb'
    exact hb'
  · exact ⟨y, List.mem_of_mem_drop h, fun b hb => hb⟩

/-- What they ask. -/
def askedM (n : Nat) (ms : List WiM) (i : Nat) : List AskD := asksL n ((ms.take i).map (·.d))

theorem asked_yes {n : Nat} {ms : List WiM} {i : Nat} {x : WiM} (hx : ms[i]? = some x) (hd : dueW n x.d = true) : askedM n ms (i + 1) = askedM n ms i ++ [askW x.d] := by
  unfold askedM asksL
  rw [List.take_add_one, hx]
  simp [hd]

theorem asked_no {n : Nat} {ms : List WiM} {i : Nat} {x : WiM} (hx : ms[i]? = some x) (hd : dueW n x.d = false) : askedM n ms (i + 1) = askedM n ms i := by
  unfold askedM asksL
  rw [List.take_add_one, hx]
  simp [hd]

theorem asked_len {n : Nat} {ms : List WiM} {i : Nat} : (askedM n ms i).length ≤ ms.length := by
  unfold askedM asksL
  rw [List.length_map]
  refine Nat.le_trans (List.length_filter_le _ _) ?_
  rw [List.length_map, List.length_take]
  omega

theorem mid_no {n : Nat} {x : WiD} (hd : dueW n x = false) : midW x = tickW n x := by
  unfold dueW at hd
  rw [decide_eq_false_iff_not] at hd
  have ha : ¬ x.asked = 0 := fun e => hd (Or.inl e)
  unfold midW tickW dueW
  rw [if_neg ha, if_neg (by rw [decide_eq_true_iff]; exact hd)]

theorem mid_yes {n : Nat} {x : WiD} (hd : dueW n x = true) (h1 : x.ago < n) : leftW n (midW x) = 0 ∧ (⟨(midW x).id, (midW x).fr, (midW x).asked + 1, 0⟩ : WiD) = tickW n x ∧ askW (midW x) = askW x := by
  refine ⟨?_, ?_, rfl⟩
  · unfold dueW at hd
    rw [decide_eq_true_iff] at hd
    unfold leftW midW
    by_cases ha : x.asked = 0
    · simp [ha]
    · simp [ha]; omega
  · unfold tickW
    rw [if_pos hd]
    rfl

theorem new_ask (w : World) (x : AskD) : ∀ j u, (askK.c x)[j]? = some u → (w.alloc (.cells #[.string x.id, .int .i64 x.to] 40)).cell? ((⟨w.heap.size, 0, none⟩ : Addr).add j) = some u := by
  intro j u hu
  rw [Go.WideShapes.add_plain, Nat.zero_add]
  exact (Arr.new w 40 [.string x.id, .int .i64 x.to]).cell hu

set_option maxRecDepth 100000 in
set_option maxHeartbeats 2000000 in
theorem pdTick_at {w : World} {db : Nat} {q : Value} {n : Nat} {ms : List WiM} (h : PDk w db q n ms) :
    Calls Try.prog 13 #[.pointer (some ⟨db, 0, none⟩)] w fun e w' => ∃ ao cap, e = .returned (.slice ao (askedM n ms ms.length).length cap) ∧ KQ askK 40 w' w.heap.size (.slice ao (askedM n ms ms.length).length cap) (askedM n ms ms.length) ∧ KQ (wishK n) 67 w' (db + 1) q (tickedM n ms ms.length) ∧ Kept (fun k => q.ownBlock = some k) w w' := by
  obtain ⟨i0, z0, hi0, hz0, hz1, hz2, hz3⟩ := askInfo
  have hfew : ms.length ≤ 64 := by have := h.ok.few; rw [List.length_map] at this; exact this
  have hn1 := h.ok.pos
  have hn2 := h.ok.most
  have hnev : Hid (∀ x ∈ ms, x.d.asked = 0 → x.d.ago = 0) := fun x hx => h.ok.never x.d (List.mem_map.2 ⟨x, hx, rfl⟩)
  have hsin : Hid (∀ x ∈ ms, x.d.ago < n) := fun x hx => h.ok.since x.d (List.mem_map.2 ⟨x, hx, rfl⟩)
  have hne := h.ne
  obtain ⟨ao, cap, rfl, _, _⟩ := h.row.form
  have c1 := h.box.cell (i := 1) rfl
  have hst0 : tickedM n ms 0 = ms := by unfold tickedM; simp
  go_enter Try.func13, Try.ntmps13
  go_wp2_with fail
  go_loopw [3, 11] (fun v3 v11 wr => ∃ (i : Nat) (al : Option Addr) (cl : Nat), i ≤ ms.length ∧ v11 = .int .i64 (i : Int) ∧ v3 = .slice al (askedM n ms i).length cl ∧ KQ askK 40 wr w.heap.size (.slice al (askedM n ms i).length cl) (askedM n ms i) ∧ KQ (wishK n) 67 wr (db + 1) (.slice ao ms.length cap) (tickedM n ms i) ∧ Arr wr db 61 [.int .i64 (n : Int), .slice ao ms.length cap] ∧ Kept (fun k => (Value.slice ao ms.length cap).ownBlock = some k) w wr) (fun _ v _ => ms.length - (intOf v).toNat)
  case atStart => exact ⟨0, none, 0, Nat.zero_le _, rfl, rfl, KQ.empty _ _ _ _, by rw [hst0]; exact h.row, h.box, Kept.refl _ _⟩
  case round =>
    obtain ⟨i, al, cl, hi, rfl, rfl, hA, hQ, hX, hk⟩ := hrel
    clear c1
    have c0 := hX.cell (i := 0) rfl
    have c1 := hX.cell (i := 1) rfl
    by_cases hil : i < ms.length
    · have g1 : (i : Int) < (ms.length : Int) := by omega
      obtain ⟨x, hx⟩ : ∃ p, ms[i]? = some p := ⟨_, List.getElem?_eq_getElem hil⟩
      have hm := List.mem_of_getElem? hx
      have hxs := ticked_get (n := n) hx
      have hnev' := hnev.out x hm
      have hsin' := hsin.out x hm
      obtain ⟨g, off, rfl, _, hgl, _⟩ := hQ.set hxs
      have hgd : g ≠ db := fun e => hne (by rw [e]; rfl)
      have cT := wishTick_any hQ hxs hn2 hnev' hsin'
      have hgK : ∀ {a b : World}, Kept (fun k => k = g) a b → Kept (fun k => (Value.slice (some ⟨g, off, none⟩) ms.length cap).ownBlock = some k) a b := fun hh => hh.mono (fun k _ e => by rw [show k = g from e]; rfl)
      cases hd : dueW n x.d with
      | false =>
        have hs' : (tickedM n ms i).set i ⟨midW x.d, x.fa, x.fc⟩ = tickedM n ms (i + 1) := by rw [mid_no hd]; exact ticked_set hx
        have ha' := asked_no hx hd
        rw [hd, hs'] at cT
        go_wp2_with fail
        refine cT.mono ?_
        rintro e w1 ⟨rfl, hQ1, hk1⟩
        have hX1 := hX.kept hk1 (fun e => hgd (show db = g from e).symm)
        have hA1 := hA.kept hk1 (fun k hk' e => by have := (hA.lt k hk').1; have e' : k = g := e; have := (h.row.lt g rfl).2; omega) (fun _ _ _ h => h.elim)
        have hk1' := hk.trans (hgK hk1)
        clear cT hk1 hQ hX hA hk c0 c1
        go_wp2
        go_roundw
        case rel => exact ⟨i + 1, al, cl, by omega, by go_num, by rw [ha'], by rw [ha']; exact hA1, hQ1, hX1, hk1'⟩
        case measure => simp [intOf]; omega
      | true =>
        obtain ⟨m0, m1, m2⟩ := mid_yes hd hsin'
        rw [hd] at cT
        have ha' := asked_yes hx hd
        have hlenA : (askedM n ms i).length ≤ 64 := Nat.le_trans asked_len hfew
        go_wp2_with fail
        refine cT.mono ?_
        rintro e w1 ⟨rfl, hQ1, hk1⟩
        have hX1 := hX.kept hk1 (fun e => hgd (show db = g from e).symm)
        have hA1 := hA.kept hk1 (fun k hk' e => by have := (hA.lt k hk').1; have e' : k = g := e; have := (h.row.lt g rfl).2; omega) (fun _ _ _ h => h.elim)
        have hk1' := hk.trans (hgK hk1)
        clear cT hk1 hQ hX hA hk c0 c1
        have hxs1 : ((tickedM n ms i).set i ⟨midW x.d, x.fa, x.fc⟩)[i]? = some ⟨midW x.d, x.fa, x.fc⟩ := List.getElem?_set_self (by rw [ticked_len (by omega)]; exact hil)
        have cA := wishAsk_any hQ1 hxs1 hn2 m0
        have hs' : ((tickedM n ms i).set i ⟨midW x.d, x.fa, x.fc⟩).set i ⟨⟨(midW x.d).id, (midW x.d).fr, (midW x.d).asked + 1, 0⟩, x.fa, x.fc⟩ = tickedM n ms (i + 1) := by
          rw [List.set_set, m1]
          exact ticked_set hx
        rw [m2] at cA
        rw [hs'] at cA
        have c0 := hX1.cell (i := 0) rfl
        have hid : (midW x.d).id = (askW x.d).id := rfl
        rw [hid] at cA
        generalize askW x.d = y at *
        go_wp2_with fail
        refine cA.mono ?_
        rintro e w2 ⟨rfl, hQ2, hk2⟩
        have hX2 := hX1.kept hk2 (fun e => hgd (show db = g from e).symm)
        have hA2 := hA1.kept hk2 (fun k hk' e => by have := (hA1.lt k hk').1; have e' : k = g := e; have := (h.row.lt g rfl).2; omega) (fun _ _ _ h => h.elim)
        have hk2' := hk1'.trans (hgK hk2)
        clear cA hk2 hQ1 hX1 hA1 hk1' c0
        have hbx := belowNew w2 (.cells #[.string y.id, .int .i64 y.to] 40)
        have hA3 := hA2.below hbx
        have hQ3 := hQ2.below hbx
        have hX3 := hX2.below hbx hX2.lt
        have hk3 := hk2'.trans (Kept.of_below hbx)
        have hN := new_ask w2 y
        have hbs := hk3.size
        have m1 : (askedM n ms i).length + 1 ≤ maxLen := by unfold maxLen; omega
        have m2 : ((askedM n ms i).length + 1) * 24 ≤ 140737488355328 := by omega
        clear hA2 hQ2 hX2 hk2'
        go_wp2_with (at_builtin; refine wpList_pushN (K := askK) rfl _ _ 35 rfl w.heap.size 40 i0 _ 24 Try.underlying35 hi0 hz0 hz1 hz2 hz3 _ (askedM n ms i) rfl hA3 y trivial (fun _ h => h.elim) ⟨w2.heap.size, 0, none⟩ 1 rfl hN m1 m2 hbs ?_)
        intro ao3 cap3 w3 hA4 hk4 hf4
        have hlow : ∀ k, (Value.slice al (askedM n ms i).length cl).ownBlock = some k → w.heap.size ≤ k := fun k e => (hA3.lt k e).1
        have hgw : g < w.heap.size := (h.row.lt g rfl).2
        have hQ4 := hQ3.kept hk4 (fun k hk' e => by
          have := hlow k e
          simp only [Value.ownBlock, Option.some.injEq] at hk'
          omega) (fun z hz b hb e => by
          have := hlow b e
          obtain ⟨x', hx', hf'⟩ := ticked_mem hz
          have := (wishK n).lt (h.row.at_ x' hx') (hf' b hb)
          omega)
        have hX4 := hX3.kept hk4 (fun e => by have := hlow _ e; have := h.box.lt; omega)
        have hkF : Kept (fun k => (Value.slice (some ⟨g, off, none⟩) ms.length cap).ownBlock = some k) w w3 := by
          have h1 := (hk3.mono (T := fun k => (Value.slice (some ⟨g, off, none⟩) ms.length cap).ownBlock = some k ∨ w.heap.size ≤ k) (fun k _ e => Or.inl e)).trans (hk4.mono (fun k _ e => Or.inr (hlow k e)))
          exact h1.mono (fun k hk' e => e.resolve_right (by omega))
        have hA5 : KQ askK 40 w3 w.heap.size (.slice ao3 ((askedM n ms i) ++ [y]).length cap3) ((askedM n ms i) ++ [y]) := by rw [List.length_append]; exact hA4
        have hlen5 : ((askedM n ms i) ++ [y]).length = (askedM n ms i).length + 1 := by simp
        rw [← ha', ] at hA5 hlen5
        clear hk4 hf4 hA4 hA3 hQ3 hX3 hk3 hN hbs m1 m2 hbx
        go_wp2
        go_roundw
        case rel => exact ⟨i + 1, ao3, cap3, by omega, by go_num, by rw [hlen5], hA5, hQ4, hX4, hkF⟩
        case measure => simp [intOf]; omega
    · obtain rfl : i = ms.length := by omega
      have g1 : ¬ ((ms.length : Nat) : Int) < (ms.length : Int) := by omega
      go_wp2
      go_ret
      exact ⟨_, _, rfl, hA, hQ, hk⟩

theorem tick_all {n : Nat} {ms : List WiM} : (tickedM n ms ms.length).map (·.d) = (ms.map (·.d)).map (tickW n) ∧ askedM n ms ms.length = asksL n (ms.map (·.d)) := by
  unfold tickedM askedM
  rw [List.take_length, List.drop_length, List.append_nil, List.map_map, List.map_map]
  exact ⟨rfl, rfl⟩

theorem pdTick_any {w : World} {db : Nat} {S : Nat → Prop} {n : Nat} {L : List WiD} (h : PD w db S n L) :
    Calls Try.prog 13 #[.pointer (some ⟨db, 0, none⟩)] w fun e w' => ∃ ao cap, e = .returned (.slice ao (asksL n L).length cap) ∧ KQ askK 40 w' w.heap.size (.slice ao (asksL n L).length cap) (asksL n L) ∧ PD w' db S n (L.map (tickW n)) ∧ Kept S w w' := by
  obtain ⟨q, ms, h1, rfl, h3, h4, h5⟩ := h.ex
  refine (pdTick_at h1).mono ?_
  rintro e w' ⟨ao, cap, rfl, hA, hQ, hk⟩
  obtain ⟨t1, t2⟩ := tick_all (n := n) (ms := ms)
  rw [t2] at hA ⊢
  refine ⟨ao, cap, rfl, hA, ⟨⟨q, _, ⟨h1.box.kept hk h1.ne, hQ, ?_, ?_⟩, t1, h3, h4, ?_⟩, fun k e => Nat.lt_of_lt_of_le (h.lt k e) hk.size, h.ge⟩, hk.mono (fun k _ e => h4 k e)⟩
  · rw [t1]; exact h1.ok.tick
  · intro x hx k hf
    obtain ⟨x', hx', hf'⟩ := ticked_mem hx
    exact h1.far x' hx' k (hf' k hf)
  · intro x hx k hf
    obtain ⟨x', hx', hf'⟩ := ticked_mem hx
    exact h5 x' hx' k (hf' k hf)

set_option maxRecDepth 100000 in
set_option maxHeartbeats 1000000 in
theorem pdWants_any {w : World} {db : Nat} {S : Nat → Prop} {n : Nat} {L : List WiD} (h : PD w db S n L) :
    Calls Try.prog 16 #[.pointer (some ⟨db, 0, none⟩)] w fun e w' => ∃ ao cap, e = .returned (.slice ao L.length cap) ∧ KQ textK 9 w' w.heap.size (.slice ao L.length cap) (L.map (·.id)) ∧ Below w.heap.size w w' := by
  obtain ⟨q, ms, h1, rfl, h3, h4, h5⟩ := h.ex
  obtain ⟨i0, z0, hi0, hz0, hz1, hz2, hz3⟩ := strInfoT
  have hfew : ms.length ≤ 64 := by have := h1.ok.few; rw [List.length_map] at this; exact this
  obtain ⟨ao, cap, rfl, _, hR⟩ := h1.row.form
  have c1 := h1.box.cell (i := 1) rfl
  rw [List.length_map]
  go_enter Try.func16, Try.ntmps16
  go_wp2_with fail
  go_loopw [3, 11] (fun v3 v11 wr => ∃ (i : Nat) (al : Option Addr) (cl : Nat), i ≤ ms.length ∧ v11 = .int .i64 (i : Int) ∧ v3 = .slice al i cl ∧ KQ textK 9 wr w.heap.size (.slice al i cl) ((ms.take i).map (·.d.id)) ∧ Below w.heap.size w wr) (fun _ v _ => ms.length - (intOf v).toNat)
  case atStart => exact ⟨0, none, 0, Nat.zero_le _, rfl, rfl, KQ.empty _ _ _ _, Below.refl _ _⟩
  case round =>
    obtain ⟨i, al, cl, hi, rfl, rfl, hA, hb⟩ := hrel
    by_cases hil : i < ms.length
    · have g1 : (i : Int) < (ms.length : Int) := by omega
      obtain ⟨x, hx⟩ : ∃ p, ms[i]? = some p := ⟨_, List.getElem?_eq_getElem hil⟩
      obtain ⟨b, off, rfl, hbl, hcell⟩ := (hR.below hb).cell i x hx
      have y0 : wr.cell? ⟨b, off + i * 4, none⟩ = some (.string x.d.id) := hcell 0 _ rfl
      have y1 : wr.cell? ⟨b, off + i * 4 + 1, none⟩ = some (.slice x.fa x.d.fr.length x.fc) := hcell 1 _ rfl
      have y2 : wr.cell? ⟨b, off + i * 4 + 2, none⟩ = some (.int .i64 (nextW x.d : Nat)) := hcell 2 _ rfl
      have y3 : wr.cell? ⟨b, off + i * 4 + 3, none⟩ = some (.int .i64 (leftW n x.d : Nat)) := hcell 3 _ rfl
      have hstp : (ms.take (i + 1)).map (·.d.id) = (ms.take i).map (·.d.id) ++ [x.d.id] := by rw [List.take_add_one, hx]; simp
      have hlen : ((ms.take i).map (·.d.id)).length = i := by rw [List.length_map, List.length_take]; omega
      have hb1 := belowNew wr (.cells #[.string x.d.id, .slice x.fa x.d.fr.length x.fc, .int .i64 (nextW x.d : Nat), .int .i64 (leftW n x.d : Nat)] 67)
      have hb2 := belowNew (wr.alloc (.cells #[.string x.d.id, .slice x.fa x.d.fr.length x.fc, .int .i64 (nextW x.d : Nat), .int .i64 (leftW n x.d : Nat)] 67)) (.cells #[.string x.d.id] 9)
      have hA1 := (hA.below hb1).below hb2
      have hbA := (hb.trans (hb1.mono hb.size))
      have hbB := hbA.trans (hb2.mono hbA.size)
      have hN := new_text (wr.alloc (.cells #[.string x.d.id, .slice x.fa x.d.fr.length x.fc, .int .i64 (nextW x.d : Nat), .int .i64 (leftW n x.d : Nat)] 67)) x.d.id
      rw [alloc_size] at hN
      have hbs := hbB.size
      have m1 : ((ms.take i).map (·.d.id)).length + 1 ≤ maxLen := by unfold maxLen; rw [hlen]; omega
      have m2 : (((ms.take i).map (·.d.id)).length + 1) * 16 ≤ 140737488355328 := by rw [hlen]; omega
      have hfin : ∀ ao' cap' w', KQ textK 9 w' w.heap.size (.slice ao' (((ms.take i).map (·.d.id)).length + 1) cap') ((ms.take i).map (·.d.id) ++ [x.d.id]) → KQ textK 9 w' w.heap.size (.slice ao' (i + 1) cap') ((ms.take (i + 1)).map (·.d.id)) := fun ao' cap' w' hh => by rw [hlen] at hh; rw [hstp]; exact hh
      have hfin' : Hid _ := hfin
      clear hcell hR c1 hA hb1 hb2 hb hbA hstp hfin
      generalize hms : (ms.take i).map (·.d.id) = mi at *
      subst hlen
      go_wp2_with (at_builtin; refine wpList_pushN (K := textK) rfl _ _ 43 rfl w.heap.size 9 i0 _ 16 Try.underlying43 hi0 hz0 hz1 hz2 hz3 _ mi rfl hA1 x.d.id trivial (fun _ h => h.elim) ⟨wr.heap.size + 1, 0, none⟩ 1 rfl hN m1 m2 hbs ?_)
      intro ao3 cap3 w3 hA4 hk4 hf4
      have hA5 := hfin'.out ao3 cap3 w3 hA4
      have hbF := hbB.trans (hk4.below hbs (fun k e => (hA1.lt k e).1))
      clear hA4 hk4 hf4 hA1 hbB hN hbs m1 m2 hfin'
      go_wp2
      go_roundw
      case rel => exact ⟨mi.length + 1, ao3, cap3, by omega, by go_num, rfl, hA5, hbF⟩
      case measure => simp [intOf]; omega
    · obtain rfl : i = ms.length := by omega
      have g1 : ¬ ((ms.length : Nat) : Int) < (ms.length : Int) := by omega
      rw [List.take_length] at hA
      go_wp2
      go_ret
      exact ⟨_, _, rfl, hA, hb⟩
end Go.Proofs.Ytblpkfnhfdkacaa
