/- The reference's tick. -/
import Derived.Test.YtblpkfnhfdkacaaRefFet
import Derived.Deep.DeepCutAuto
import Derived.Deep.RegionHeld3
namespace Go.Proofs.Ytblpkfnhfdkacaa
open Go Go.RowKit
set_option linter.unusedVariables false

def tickR (n : Nat) (x : WiR) : WiR := ⟨tickW n x.d, x.rb, x.fa, x.fc⟩
def tickedR (n : Nat) (xs : List WiR) (i : Nat) : List WiR := (xs.take i).map (tickR n) ++ xs.drop i

theorem tickedR_get {n : Nat} {xs : List WiR} {i : Nat} {x : WiR} (hx : xs[i]? = some x) : (tickedR n xs i)[i]? = some x := by
  have hi := (List.getElem?_eq_some_iff.1 hx).1
  unfold tickedR
  rw [List.getElem?_append_right (by rw [List.length_map, List.length_take]; omega), List.length_map, List.length_take, Nat.min_eq_left (by omega), List.getElem?_drop]
  simpa using hx

theorem tickedR_set {n : Nat} {xs : List WiR} {i : Nat} {x : WiR} (hx : xs[i]? = some x) : (tickedR n xs i).set i (tickR n x) = tickedR n xs (i + 1) := by
  have hi := (List.getElem?_eq_some_iff.1 hx).1
  unfold tickedR
  rw [List.set_append_right _ _ (by rw [List.length_map, List.length_take]; omega), List.length_map, List.length_take, Nat.min_eq_left (by omega), Nat.sub_self, List.take_add_one, hx, List.drop_eq_getElem_cons hi]
  simp only [Option.toList_some, List.map_append, List.map_cons, List.map_nil, List.set_cons_zero, List.append_assoc, List.singleton_append]

theorem tickedR_len {n : Nat} {xs : List WiR} {i : Nat} (hi : i ≤ xs.length) : (tickedR n xs i).length = xs.length := by
  unfold tickedR
  rw [List.length_append, List.length_map, List.length_take, List.length_drop]
  omega

theorem tickedR_foot {n : Nat} {xs : List WiR} {i : Nat} {db : Nat} {q : Value} {k : Nat} (h : RFt db q (tickedR n xs i) k) : RFt db q xs k := by
  rcases h with rfl | e | ⟨x, hx, e⟩
  · exact Or.inl rfl
  · exact Or.inr (Or.inl e)
  · refine Or.inr (Or.inr ?_)
    unfold tickedR at hx
    rcases List.mem_append.1 hx with hx | hx
    · obtain ⟨y, hy, rfl⟩ := List.mem_map.1 hx
      refine ⟨y, List.mem_of_mem_take hy, e.imp id (fun e => ?_)⟩
      have e' : rowFoot intK y.fa (tickW n y.d).fr k := e
      rw [tickW_fr] at e'
      exact e'
    · exact ⟨x, List.mem_of_mem_drop hx, e⟩

def askedR (n : Nat) (xs : List WiR) (i : Nat) : List AskD := asksL n ((xs.take i).map (·.d))

theorem askedR_yes {n : Nat} {xs : List WiR} {i : Nat} {x : WiR} (hx : xs[i]? = some x) (hd : dueW n x.d = true) : askedR n xs (i + 1) = askedR n xs i ++ [askW x.d] := by
  unfold askedR asksL
  rw [List.take_add_one, hx]
  simp [hd]

theorem askedR_no {n : Nat} {xs : List WiR} {i : Nat} {x : WiR} (hx : xs[i]? = some x) (hd : dueW n x.d = false) : askedR n xs (i + 1) = askedR n xs i := by
  unfold askedR asksL
  rw [List.take_add_one, hx]
  simp [hd]

theorem askedR_len {n : Nat} {xs : List WiR} {i : Nat} : (askedR n xs i).length ≤ xs.length := by
  unfold askedR asksL
  rw [List.length_map]
  refine Nat.le_trans (List.length_filter_le _ _) ?_
  rw [List.length_map, List.length_take]
  omega

theorem new_rask (w : World) (x : AskD) : ∀ j u, (askK.c x)[j]? = some u → (w.alloc (.cells #[.string x.id, .int .i64 x.to] 41)).cell? ((⟨w.heap.size, 0, none⟩ : Addr).add j) = some u := by
  intro j u hu
  rw [Go.WideShapes.add_plain, Nat.zero_add]
  exact (Arr.new w 41 [.string x.id, .int .i64 x.to]).cell hu

set_option maxRecDepth 100000 in
set_option maxHeartbeats 2000000 in
theorem rdTick_at {w : World} {db n : Nat} {q : Value} {xs : List WiR} (h : RT w db q n xs) (hok : DeOk n (xs.map (·.d))) (hA : ∀ x ∈ xs, x.d.asked ≤ 1000) :
    Calls Try.prog 14 #[.pointer (some ⟨db, 0, none⟩)] w fun e w' => ∃ ao cap, e = .returned (.slice ao (askedR n xs xs.length).length cap) ∧ KQ askK 41 w' w.heap.size (.slice ao (askedR n xs xs.length).length cap) (askedR n xs xs.length) ∧ RT w' db q n (tickedR n xs xs.length) ∧ Kept (RFt db q xs) w w' := by
  obtain ⟨i0, z0, hi0, hz0, hz1, hz2, hz3⟩ := raskInfo
  have hfew : xs.length ≤ 64 := by have := hok.few; rw [List.length_map] at this; exact this
  have hn1 := hok.pos
  have hn2 := hok.most
  have hsin : Hid (∀ x ∈ xs, x.d.ago < n) := fun x hx => hok.since x.d (List.mem_map.2 ⟨x, hx, rfl⟩)
  have hA' : Hid _ := hA
  clear hA
  obtain ⟨ao, cap, rfl, _, _⟩ := h.row.form
  rw [List.length_map] at h ⊢
  have hst0 : tickedR n xs 0 = xs := by unfold tickedR; simp
  go_enter Try.func14, Try.ntmps14
  go_wp2_with fail
  go_loopw [3, 4] (fun v3 v4 wr => ∃ (i : Nat) (al : Option Addr) (cl : Nat), i ≤ xs.length ∧ v4 = .int .i64 (i : Int) ∧ v3 = .slice al (askedR n xs i).length cl ∧ KQ askK 41 wr w.heap.size (.slice al (askedR n xs i).length cl) (askedR n xs i) ∧ RT wr db (.slice ao xs.length cap) n (tickedR n xs i) ∧ Kept (RFt db (.slice ao xs.length cap) xs) w wr) (fun _ v _ => xs.length - (intOf v).toNat)
  case atStart => exact ⟨0, none, 0, Nat.zero_le _, rfl, rfl, KQ.empty _ _ _ _, by rw [hst0]; exact h, Kept.refl _ _⟩
  case round =>
    obtain ⟨i, al, cl, hi, rfl, rfl, hQ, hT, hk⟩ := hrel
    have c0 := hT.box.cell (i := 0) rfl
    have c1 := hT.box.cell (i := 1) rfl
    by_cases hil : i < xs.length
    · have g1 : (i : Int) < (xs.length : Int) := by omega
      obtain ⟨x, hx⟩ : ∃ p, xs[i]? = some p := ⟨_, List.getElem?_eq_getElem hil⟩
      have hm := List.mem_of_getElem? hx
      have hxs := tickedR_get (n := n) hx
      have hsin' := hsin.out x hm
      have hax := hA'.out x hm
      obtain ⟨g, off, rfl, _, y0⟩ := ((hT.row.rowOf).1).ptr19 (i := i) (x := x.rb) (by rw [List.getElem?_map, hxs]; rfl)
      have hat := hT.at_ x (List.mem_of_getElem? hxs)
      have x3 := hat.box.cell (i := 3) rfl
      have f3 := hat.box.frozen 3
      have hp1 := hT.put (y := ⟨⟨x.d.id, x.d.fr, x.d.asked, x.d.ago + 1⟩, x.rb, x.fa, x.fc⟩) hxs rfl rfl rfl (k := 3) (v := .int .i64 ((x.d.ago : Int) + 1)) (by show [_, _, _, _] = [_, _, _, _]; simp)
      have hxb : RFt db (.slice (some ⟨g, off, none⟩) xs.length cap) xs x.rb := Or.inr (Or.inr ⟨x, hm, Or.inl rfl⟩)
      have hxw : x.rb < w.heap.size := h.lt hxb
      have hqx : ∀ k, (Value.slice al (askedR n xs i).length cl).ownBlock = some k → k ≠ x.rb := fun k e e' => by have := (hQ.lt k e).1; omega
      go_upto_region 7 with fail
      obtain ⟨hT1, hk1⟩ := hp1
      have hQ1 := hQ.kept hk1 (fun k e e' => hqx k e e') (fun _ _ _ h => h.elim)
      have hK1 := hk.trans (hk1.mono (fun k _ e => by rw [show k = x.rb from e]; exact hxb))
      clear x3 f3 hat hT hk hk1 hQ c0 c1 y0
      generalize wr.setCell ⟨x.rb, 3, none⟩ (.int .i64 ((x.d.ago : Int) + 1)) = w1 at *
      have hx1 : ((tickedR n xs i).set i ⟨⟨x.d.id, x.d.fr, x.d.asked, x.d.ago + 1⟩, x.rb, x.fa, x.fc⟩)[i]? = some ⟨⟨x.d.id, x.d.fr, x.d.asked, x.d.ago + 1⟩, x.rb, x.fa, x.fc⟩ := List.getElem?_set_self (by rw [tickedR_len (by omega)]; exact hil)
      have hat1 := hT1.at_ _ (List.mem_of_getElem? hx1)
      have a2 : w1.cell? ⟨x.rb, 2, none⟩ = some (.int .i64 (x.d.asked : Int)) := hat1.box.cell (i := 2) rfl
      have a3 : w1.cell? ⟨x.rb, 3, none⟩ = some (.int .i64 ((x.d.ago : Int) + 1)) := by
        have := hat1.box.cell (i := 3) rfl
        simp at this
        exact this
      have c0 := hT1.box.cell (i := 0) rfl
      obtain ⟨az, haz⟩ : ∃ z : Int, Hid ((x.d.asked : Int) = z) := ⟨_, rfl⟩
      rw [haz.out] at a2
      obtain ⟨bz, hbz⟩ : ∃ z : Int, Hid ((x.d.ago : Int) + 1 = z) := ⟨_, rfl⟩
      rw [hbz.out] at a3
      cases hd : dueW n x.d with
      | false =>
        have hd' := hd
        unfold dueW at hd'
        rw [decide_eq_false_iff_not] at hd'
        have d1 : decide ((0 : Int) < az) = true := decide_eq_true (by have := haz.out; omega)
        have d2 : decide (bz < (n : Int)) = true := decide_eq_true (by have := hbz.out; omega)
        have hs' : (tickedR n xs i).set i ⟨⟨x.d.id, x.d.fr, x.d.asked, x.d.ago + 1⟩, x.rb, x.fa, x.fc⟩ = tickedR n xs (i + 1) := by
          rw [← tickedR_set hx]
          unfold tickR tickW
          rw [if_neg (by rw [hd]; decide)]
        have ha' := askedR_no hx hd
        rw [hs'] at hT1
        clear hx1 hat1 hd hd'
        go_quiet (fail)
        have hbq : Below w1.heap.size w1 (w1.drewN nq) := below_drewN (Below.refl _ _) nq
        have hTq := hT1.below hbq
        have hQq := hQ1.below hbq
        have hKq := hK1.trans (Kept.of_below hbq)
        clear a2 a3 c0 d1 d2 hT1 hQ1 hK1 hbq
        generalize w1.drewN nq = w2 at *
        go_wp2
        go_roundw
        case rel => exact ⟨i + 1, al, cl, by omega, by go_num, by rw [ha'], by rw [ha']; exact hQq, hTq, hKq⟩
        case measure => simp [intOf]; omega
      | true =>
        have hd' := hd
        unfold dueW at hd'
        rw [decide_eq_true_iff] at hd'
        have ha' := askedR_yes hx hd
        have hlenA : (askedR n xs i).length ≤ 64 := Nat.le_trans askedR_len hfew
        have hs' : (tickedR n xs i).set i ⟨⟨x.d.id, x.d.fr, x.d.asked + 1, 0⟩, x.rb, x.fa, x.fc⟩ = tickedR n xs (i + 1) := by
          rw [← tickedR_set hx]
          unfold tickR tickW
          rw [if_pos hd]
        have hpos := hat1.pos
        have hlen := hat1.len
        have hfin : Hid (∀ wq, Below w1.heap.size w1 wq → RT wq db (.slice (some ⟨g, off, none⟩) xs.length cap) n ((tickedR n xs i).set i ⟨⟨x.d.id, x.d.fr, x.d.asked, x.d.ago + 1⟩, x.rb, x.fa, x.fc⟩) ∧ KQ askK 41 wq w.heap.size (.slice al (askedR n xs i).length cl) (askedR n xs i) ∧ Kept (RFt db (.slice (some ⟨g, off, none⟩) xs.length cap) xs) w wq) := fun wq hb => ⟨hT1.below hb, hQ1.below hb, hK1.trans (Kept.of_below hb)⟩
        go_cut [44] (fun s wx => s = .bool false ∧ Below w1.heap.size w1 wx)
        case first =>
          by_cases h0 : x.d.asked = 0
          · have d1 : decide ((0 : Int) < az) = false := decide_eq_false (by have := haz.out; omega)
            go_quiet (fail)
            have hbq : Below w1.heap.size w1 (w1.drewN nq) := below_drewN (Below.refl _ _) nq
            go_wp2_with fail
            go_meet
            exact ⟨rfl, hbq⟩
          · have d1 : decide ((0 : Int) < az) = true := decide_eq_true (by have := haz.out; omega)
            have d2 : decide (bz < (n : Int)) = false := decide_eq_false (by have := hbz.out; omega)
            go_quiet (fail)
            have hbq : Below w1.heap.size w1 (w1.drewN nq) := below_drewN (Below.refl _ _) nq
            go_wp2_with fail
            go_meet
            exact ⟨rfl, hbq⟩
        case rest =>
          obtain ⟨rfl, hbc⟩ := hcut
          obtain ⟨hT2, hQ2, hK2⟩ := hfin.out wc hbc
          clear hQ1 hK1 hat1 a2 a3 c0 hbc hfin
          generalize wc = w2 at *
          have hx2 := hx1
          have hat2 := hT2.at_ _ (List.mem_of_getElem? hx2)
          have b0 : w2.cell? ⟨x.rb, 0, none⟩ = some (.string x.d.id) := hat2.box.cell (i := 0) rfl
          have b1 : w2.cell? ⟨x.rb, 1, none⟩ = some (.slice x.fa x.d.fr.length x.fc) := hat2.box.cell (i := 1) rfl
          have b2 : w2.cell? ⟨x.rb, 2, none⟩ = some (.int .i64 (x.d.asked : Int)) := hat2.box.cell (i := 2) rfl
          rw [haz.out] at b2
          have hp : 0 < x.d.fr.length := hpos
          have hl63 : x.d.fr.length ≤ 9223372036854775807 := by have : x.d.fr.length ≤ maxLen := hlen; unfold maxLen at this; omega
          clear hpos hlen
          have hml : x.d.asked % x.d.fr.length < x.d.fr.length := Nat.mod_lt _ hp
          obtain ⟨tv, hto⟩ : ∃ v, x.d.fr[x.d.asked % x.d.fr.length]? = some v := ⟨_, List.getElem?_eq_getElem hml⟩
          have hask : askW x.d = ⟨x.d.id, tv⟩ := by unfold askW; rw [hto]; rfl
          rw [hask] at ha'
          have hrow2 : RowAt intK w2 x.fa x.d.fr := hat2.row
          obtain ⟨gt, ot, hfa, hgt, ct⟩ := hrow2.int hto
          rw [hfa] at b1
          have hrem : Int.tmod az (x.d.fr.length : Int) = ((x.d.asked % x.d.fr.length : Nat) : Int) := by
            rw [← haz.out, Int.tmod_eq_emod_of_nonneg (by omega)]
            simp
          have g2 : ¬ x.d.fr = [] := fun e => by rw [e] at hp; simp at hp
          have g3 : ((x.d.asked % x.d.fr.length : Nat) : Int) < (x.d.fr.length : Int) := by omega
          obtain ⟨jz, hjz⟩ : ∃ z : Nat, Hid (x.d.asked % x.d.fr.length = z) := ⟨_, rfl⟩
          rw [hjz.out] at hrem g3 ct
          have hbx : Below w2.heap.size w2 (w2.alloc (.cells #[.string x.d.id, .int .i64 tv] 41)).drew := (belowNew w2 (.cells #[.string x.d.id, .int .i64 tv] 41)).trans (below_drewN (Below.refl _ _) 1)
          have hQ3 := hQ2.below hbx
          have hN := new_rask w2 ⟨x.d.id, tv⟩
          have hK3 := hK2.trans (Kept.of_below (S := RFt db (.slice (some ⟨g, off, none⟩) xs.length cap) xs) hbx)
          have hT3 := hT2.below hbx
          have hbs : w.heap.size ≤ (w2.alloc (.cells #[.string x.d.id, .int .i64 tv] 41)).drew.heap.size := hK3.size
          have m1 : (askedR n xs i).length + 1 ≤ maxLen := by unfold maxLen; omega
          have m2 : ((askedR n xs i).length + 1) * 24 ≤ 140737488355328 := by omega
          have hlow : ∀ k, (Value.slice al (askedR n xs i).length cl).ownBlock = some k → w.heap.size ≤ k := fun k e => (hQ2.lt k e).1
          have hgw : gt < w.heap.size := h.lt (Or.inr (Or.inr ⟨x, hm, Or.inr (Or.inl ⟨fun e => by rw [e] at hp; simp at hp, ot, hfa⟩)⟩))
          have hlx : x.rb < w2.heap.size := hat2.box.lt
          have hkp : ∀ U, Below w2.heap.size w2 U → (U.cell? ⟨x.rb, 0, none⟩ = some (.string x.d.id) ∧ U.cell? ⟨x.rb, 1, none⟩ = some (.slice (some ⟨gt, ot, none⟩) x.d.fr.length x.fc) ∧ U.cell? ⟨x.rb, 2, none⟩ = some (.int .i64 az) ∧ U.cell? ⟨gt, ot + jz, none⟩ = some (.int .i64 tv)) := fun U hU =>
            ⟨(hU.cell (p := ⟨x.rb, 0, none⟩) hlx).trans b0, (hU.cell (p := ⟨x.rb, 1, none⟩) hlx).trans b1, (hU.cell (p := ⟨x.rb, 2, none⟩) hlx).trans b2, (hU.cell (p := ⟨gt, ot + jz, none⟩) hgt).trans ct⟩
          have uD : Below w2.heap.size w2 w2.drew := below_drewN (Below.refl _ _) 1
          have hS0 := hkp _ uD
          have hSx := hkp _ hbx
          have hlx3 : x.rb < (w2.alloc (.cells #[.string x.d.id, .int .i64 tv] 41)).drew.heap.size := Nat.lt_of_lt_of_le hlx hbx.size
          have hgt3 : gt < (w2.alloc (.cells #[.string x.d.id, .int .i64 tv] 41)).drew.heap.size := Nat.lt_of_lt_of_le hgt hbx.size
          have hk8p : ∀ w8, Kept (fun k => (Value.slice al (askedR n xs i).length cl).ownBlock = some k) (w2.alloc (.cells #[.string x.d.id, .int .i64 tv] 41)).drew w8 → (w8.cell? ⟨x.rb, 0, none⟩ = some (.string x.d.id) ∧ w8.cell? ⟨x.rb, 1, none⟩ = some (.slice (some ⟨gt, ot, none⟩) x.d.fr.length x.fc) ∧ w8.cell? ⟨x.rb, 2, none⟩ = some (.int .i64 az) ∧ w8.cell? ⟨gt, ot + jz, none⟩ = some (.int .i64 tv)) := fun w8 hk8 =>
            ⟨(hk8.cell (p := ⟨x.rb, 0, none⟩) hlx3 (fun e => by have : w.heap.size ≤ x.rb := hlow _ e; omega)).trans hSx.1, (hk8.cell (p := ⟨x.rb, 1, none⟩) hlx3 (fun e => by have : w.heap.size ≤ x.rb := hlow _ e; omega)).trans hSx.2.1, (hk8.cell (p := ⟨x.rb, 2, none⟩) hlx3 (fun e => by have : w.heap.size ≤ x.rb := hlow _ e; omega)).trans hSx.2.2.1, (hk8.cell (p := ⟨gt, ot + jz, none⟩) hgt3 (fun e => by have : w.heap.size ≤ gt := hlow _ e; omega)).trans hSx.2.2.2⟩
          clear hQ2 hK2 hT2 hat2 hrow2 hml hto hask hd hd' hT1 hjz hSx b0 b1 b2 ct
          go_wp2_with fail
          go_region_held3 (fun w' => w'.cell? ⟨x.rb, 0, none⟩ = some (.string x.d.id) ∧ w'.cell? ⟨x.rb, 1, none⟩ = some (.slice (some ⟨gt, ot, none⟩) x.d.fr.length x.fc) ∧ w'.cell? ⟨x.rb, 2, none⟩ = some (.int .i64 az) ∧ w'.cell? ⟨gt, ot + jz, none⟩ = some (.int .i64 tv)) (first | assumption | exact hkp _ (by assumption))
            (first
            | (refine step_pushF (K := askK) _ (by rfl) _ _ 37 (by rfl) w.heap.size 41 i0 _ 24 Try.underlying37 hi0 hz0 hz1 hz2 hz3 _ (askedR n xs i) (by rfl) hQ3 ⟨x.d.id, tv⟩ trivial (fun _ h => h.elim) ⟨w2.heap.size, 0, none⟩ 1 (by rfl) hN m1 m2 hbs ?_; intro ao8 cap8 w8 hQ8 hk8 hf8; have hS8 := hk8p _ hk8))
          have hT8 := hT3.kept hk8 (fun k hk e => by
            have h1 := hlow k e
            have h2 : RFt db (.slice (some ⟨g, off, none⟩) xs.length cap) (tickedR n xs i) k := by
              rcases hk with q | q | ⟨z, hz, q⟩
              · exact Or.inl q
              · exact Or.inr (Or.inl q)
              · rcases List.mem_or_eq_of_mem_set hz with hz | rfl
                · exact Or.inr (Or.inr ⟨z, hz, q⟩)
                · exact Or.inr (Or.inr ⟨x, List.mem_of_getElem? hxs, q⟩)
            have := h.lt (tickedR_foot h2)
            omega)
          have hK8 : Kept (RFt db (.slice (some ⟨g, off, none⟩) xs.length cap) xs) w w8 := by
            have h1 := (hK3.mono (T := fun k => RFt db (.slice (some ⟨g, off, none⟩) xs.length cap) xs k ∨ w.heap.size ≤ k) (fun k _ e => Or.inl e)).trans (hk8.mono (fun k _ e => Or.inr (hlow k e)))
            exact h1.mono (fun k hk' e => e.resolve_right (by omega))
          have hx8 := hx1
          have hat8 := hT8.at_ _ (List.mem_of_getElem? hx8)
          have e2 := hS8.2.2.1
          have hz1' : az ≤ 1000 := by have := haz.out; omega
          have hz2' : 0 ≤ az := by have := haz.out; omega
          have e3 := hat8.box.frozen 2
          obtain ⟨hT9, hk9⟩ := hT8.put (y := ⟨⟨x.d.id, x.d.fr, x.d.asked + 1, x.d.ago + 1⟩, x.rb, x.fa, x.fc⟩) hx8 rfl rfl rfl (k := 2) (v := .int .i64 (az + 1)) (by rw [← haz.out]; show [_, _, _, _] = [_, _, _, _]; simp)
          rw [List.set_set] at hT9
          have hx9 : ((tickedR n xs i).set i ⟨⟨x.d.id, x.d.fr, x.d.asked + 1, x.d.ago + 1⟩, x.rb, x.fa, x.fc⟩)[i]? = some ⟨⟨x.d.id, x.d.fr, x.d.asked + 1, x.d.ago + 1⟩, x.rb, x.fa, x.fc⟩ := List.getElem?_set_self (by rw [tickedR_len (by omega)]; exact hil)
          have hat9 := hT9.at_ _ (List.mem_of_getElem? hx9)
          have e4 := hat9.box.cell (i := 3) rfl
          have e5 := hat9.box.frozen 3
          obtain ⟨hTa, hka⟩ := hT9.put (y := ⟨⟨x.d.id, x.d.fr, x.d.asked + 1, 0⟩, x.rb, x.fa, x.fc⟩) hx9 rfl rfl rfl (k := 3) (v := .int .i64 0) rfl
          rw [List.set_set, hs'] at hTa
          have hlow8 : ∀ k, (Value.slice ao8 ((askedR n xs i).length + 1) cap8).ownBlock = some k → k ≠ x.rb := fun k e e' => by
            have := (hQ8.lt k e).1
            omega
          have hQa := (hQ8.kept hk9 (fun k e e' => hlow8 k e e') (fun _ _ _ h => h.elim)).kept hka (fun k e e' => hlow8 k e e') (fun _ _ _ h => h.elim)
          have hKa := (hK8.trans (hk9.mono (fun k _ e => by rw [show k = x.rb from e]; exact hxb))).trans (hka.mono (fun k _ e => by rw [show k = x.rb from e]; exact hxb))
          have hQb : KQ askK 41 ((w8.setCell ⟨x.rb, 2, none⟩ (.int .i64 (az + 1))).setCell ⟨x.rb, 3, none⟩ (.int .i64 0)) w.heap.size (.slice ao8 (askedR n xs (i + 1)).length cap8) (askedR n xs (i + 1)) := by
            rw [ha', List.length_append]
            exact hQa
          have hlb : (askedR n xs (i + 1)).length = (askedR n xs i).length + 1 := by rw [ha']; simp
          clear hQa hQ8 hk8 hf8 hS8 hT8 hK8 hat8 hat9 hT9 hk9 hka hQ3 hN hK3 hT3 hbx hS0 hkp hk8p uD
          go_wp2
          go_roundw
          case rel => exact ⟨i + 1, ao8, cap8, by omega, by go_num, by rw [hlb], hQb, hTa, hKa⟩
          case measure => simp [intOf]; omega
    · obtain rfl : i = xs.length := by omega
      have g1 : ¬ ((xs.length : Nat) : Int) < (xs.length : Int) := by omega
      go_wp2
      go_ret
      exact ⟨_, _, rfl, hQ, hT, hk⟩

theorem tickR_all {n : Nat} {xs : List WiR} : (tickedR n xs xs.length).map (·.d) = (xs.map (·.d)).map (tickW n) ∧ askedR n xs xs.length = asksL n (xs.map (·.d)) := by
  unfold tickedR askedR
  rw [List.take_length, List.drop_length, List.append_nil, List.map_map, List.map_map]
  exact ⟨rfl, rfl⟩

theorem rdTick_any {w : World} {db : Nat} {S : Nat → Prop} {n : Nat} {L : List WiD} (h : RD w db S n L) (hA : ∀ x ∈ L, x.asked ≤ 1000) :
    Calls Try.prog 14 #[.pointer (some ⟨db, 0, none⟩)] w fun e w' => ∃ ao cap, e = .returned (.slice ao (asksL n L).length cap) ∧ KQ askK 41 w' w.heap.size (.slice ao (asksL n L).length cap) (asksL n L) ∧ RD w' db S n (L.map (tickW n)) ∧ Kept S w w' := by
  obtain ⟨q, xs, h1, rfl, h3⟩ := h.ex
  refine (rdTick_at h1 h.ok (fun x hx => hA x.d (List.mem_map.2 ⟨x, hx, rfl⟩))).mono ?_
  rintro e w' ⟨ao, cap, rfl, hQ, hT, hk⟩
  obtain ⟨t1, t2⟩ := tickR_all (n := n) (xs := xs)
  rw [t2] at hQ ⊢
  exact ⟨ao, cap, rfl, hQ, ⟨⟨q, _, hT, t1, fun k e => h3 k (tickedR_foot e)⟩, h.ok.tick, fun k e => Nat.lt_of_lt_of_le (h.lt k e) hk.size, h.ge⟩, hk.mono (fun k _ e => h3 k e)⟩
end Go.Proofs.Ytblpkfnhfdkacaa
