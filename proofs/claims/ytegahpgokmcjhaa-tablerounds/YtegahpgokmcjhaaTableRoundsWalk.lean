/- TableRounds: the walk. -/
import Derived.Test.YtegahpgokmcjhaaTabWorks
import Derived.Test.YtegahpgokmcjhaaInts
import Derived.Test.YtegahpgokmcjhaaTabSame
import Derived.Deep.RegionHeld3
namespace Go.Proofs.Ytegahpgokmcjhaa
open Go.RowKit Go.Maps
set_option linter.unusedVariables false

/-- What the law keeps of what is in. -/
def inF (l : List ThingD) (id : ByteArray) : Option Value := (getR l id).map (fun _ => .bool true)

theorem zeroBool11 (w : World) : (zeroValue 4).run Try.prog w = .ok (.bool false) w := by kernel_rfl

structure RSt (W : World) (tb mb : Nat) (S : Nat → Prop) (l : List ThingD) (w : World) : Prop where
  p : PT w tb S 50 (-9223372036854775808) l
  m : SMap w mb (inF l) l.length
  off : ¬ S mb
  gp : ∀ k, S k → W.heap.size ≤ k
  gm : W.heap.size ≤ mb
  bel : Below W.heap.size W w
  rds : ∀ x ∈ l, 0 ≤ x.round ∧ x.round < 6
  szs : ∀ x ∈ l, x.id.size ≤ maxLen

theorem RSt.below {W : World} {tb mb : Nat} {S : Nat → Prop} {l : List ThingD} {w w' : World} (h : RSt W tb mb S l w) (hb : Below w.heap.size w w') : RSt W tb mb S l w' :=
  ⟨h.p.below hb, h.m.below hb, h.off, h.gp, h.gm, h.bel.trans (hb.mono h.bel.size), h.rds, h.szs⟩

/-- Behind an act of the table. -/
theorem RSt.act {W : World} {tb mb : Nat} {S S' : Nat → Prop} {l l' : List ThingD} {low : Int} {w w' : World} (h : RSt W tb mb S l w) (hA : PT w' tb S' 50 low l') (hf : FreshS w S S') (hk : Kept S w w') :
    SMap w' mb (inF l) l.length ∧ ¬ S' mb ∧ (∀ k, S' k → W.heap.size ≤ k) ∧ Below W.heap.size W w' := by
  refine ⟨h.m.kept hk h.off, fun e => ?_, fun k e => ?_, h.bel.trans (hk.below h.bel.size h.gp)⟩
  · rcases hf mb e with e | e
    · exact h.off e
    · have := h.m.lt; omega
  · rcases hf k e with e | e
    · exact h.gp k e
    · have := h.bel.size; omega

theorem inF_put {l : List ThingD} {x : ThingD} (hx : x.id ∉ l.map (·.id)) (i : ByteArray) : inF (putL l x) i = putF (inF l) x.id (.bool true) i := by
  unfold inF putF
  rw [getR_put hx]
  by_cases h : x.id = i
  · rw [if_pos h, if_pos h.symm]
    rfl
  · rw [if_neg h, if_neg (fun e => h e.symm)]

theorem inF_none {l : List ThingD} {i : ByteArray} (h : i ∉ l.map (·.id)) : inF l i = none := by
  unfold inF
  rw [getR_none h]
  rfl

theorem putEP_zero {most low : Int} {l : List ThingD} {id : ByteArray} {round : Int} (h : putEP most l low id round = 0) : id ∉ l.map (·.id) := by
  intro hm
  have : (getR l id).isSome = true := by
    obtain ⟨y, hy, e⟩ := List.mem_map.1 hm
    unfold getR
    rw [List.find?_isSome]
    exact ⟨y, hy, by rw [bytes_eq]; exact decide_eq_true e⟩
  unfold putEP at h
  rw [if_pos this] at h
  cases h

theorem RSt.put {W : World} {tb mb : Nat} {S S' : Nat → Prop} {l : List ThingD} {x : ThingD} {w w1 w2 : World} (h : RSt W tb mb S l w) (hx : x.id ∉ l.map (·.id)) (hr : 0 ≤ x.round ∧ x.round < 6) (hz : x.id.size ≤ maxLen) (hA : PT w1 tb S' 50 (-9223372036854775808) (putL l x)) (hf : FreshS w S S') (hk : Kept S w w1)
    (hM : SMap w2 mb (putF (inF l) x.id (.bool true)) (putN (inF l) x.id l.length)) (hk2 : Kept (fun k => k = mb) w1 w2) : RSt W tb mb S' (putL l x) w2 := by
  obtain ⟨h1, h2, h3, h4⟩ := h.act hA hf hk
  refine ⟨hA.kept hk2 (fun k e e' => h2 (by rw [← show k = mb from e']; exact e)), ?_, h2, h3, h.gm, h4.trans (hk2.below h4.size (fun k e => by have : k = mb := e; have := h.gm; omega)), fun y hy => ?_, fun y hy => ?_⟩
  · have e1 : putN (inF l) x.id l.length = (putL l x).length := by
      unfold putN
      rw [inF_none hx, putL_length]
      rfl
    rw [e1] at hM
    exact hM.congr (fun i => inF_put hx i)
  · rcases putL_mem.1 hy with rfl | hy
    · exact hr
    · exact h.rds y hy
  · rcases putL_mem.1 hy with rfl | hy
    · exact hz
    · exact h.szs y hy

theorem idsL_cons (x : ThingD) (l : List ThingD) (r : Int) : (idsL (x :: l) r).length = (if x.round = r then 1 else 0) + (idsL l r).length := by
  unfold idsL
  rw [List.filter_cons]
  by_cases h : x.round = r
  · rw [if_pos (by simpa using h), if_pos h, List.map_cons, List.length_cons]
    omega
  · rw [if_neg (by simpa using h), if_neg h]
    omega

/-- How many there are of the first rounds. -/
def cntR (l : List ThingD) : Nat → Nat
  | 0 => 0
  | r + 1 => cntR l r + (idsL l (r : Int)).length

theorem cnt6 {l : List ThingD} (h : ∀ x ∈ l, 0 ≤ x.round ∧ x.round < 6) : cntR l 6 = l.length := by
  induction l with
  | nil => rfl
  | cons x l ih =>
    have ih := ih (fun y hy => h y (List.mem_cons_of_mem _ hy))
    have hx := h x List.mem_cons_self
    simp only [cntR, idsL_cons, List.length_cons] at ih ⊢
    have : x.round = 0 ∨ x.round = 1 ∨ x.round = 2 ∨ x.round = 3 ∨ x.round = 4 ∨ x.round = 5 := by omega
    rcases this with e | e | e | e | e | e <;> rw [e] <;> simp at ih ⊢ <;> omega

/-- .. behind the fourth. -/
def cntB (l : List ThingD) : Nat → Nat
  | 0 => 0
  | r + 1 => cntB l r + (idsL l ((r + 3 : Nat) : Int)).length

theorem cntB_eq (l : List ThingD) : cntB l 3 = (idsL l 3).length + (idsL l 4).length + (idsL l 5).length := by
  show 0 + (idsL l 3).length + (idsL l 4).length + (idsL l 5).length = _
  omega

theorem cnt3 {l : List ThingD} (h : ∀ x ∈ l, 3 ≤ x.round ∧ x.round < 6) : cntB l 3 = l.length ∧ (idsL l 2).length = 0 := by
  rw [cntB_eq]
  induction l with
  | nil => exact ⟨rfl, rfl⟩
  | cons x l ih =>
    obtain ⟨i1, i2⟩ := ih (fun y hy => h y (List.mem_cons_of_mem _ hy))
    have hx := h x List.mem_cons_self
    rw [idsL_cons, idsL_cons, idsL_cons, idsL_cons, List.length_cons]
    have : x.round = 3 ∨ x.round = 4 ∨ x.round = 5 := by omega
    rcases this with e | e | e <;> rw [e] <;> constructor <;> simp <;> first | omega | (simpa using i2)

/-- 'm[k]' where the order is drawn. -/
theorem SMap.looks {w : World} {b : Nat} {f : ByteArray → Option Value} {n : Nat} (h : SMap w b f n) {t e : TypeId} (ht : Try.prog.underlying t = some (.map 9 e)) {z : Value} (hz : ∀ w, (zeroValue e).run Try.prog w = .ok z w) {id : ByteArray} (hid : id.size ≤ maxLen) (m : Nat) : (Instr.lookup t (.map (some b)) (.string id) false).run Try.prog (w.drewN m) = .ok ((f id).getD z) (w.drewN m) := by
  obtain ⟨D, ho, h1, h2, h3⟩ := h.keep (w' := w.drewN m) rfl
  obtain ⟨v, ps, hrun, hv⟩ := ho.lookup lawStr ht (hz _) (zd := .held z) (zp := []) rfl (keyS_of hid)
  have e1 : v = (f id).getD z := by
    have := h3 id (.held z)
    unfold heldElem at hv
    simp only [Option.some.injEq, Prod.mk.injEq] at hv
    rw [this] at hv
    cases hf : f id with
    | none => rw [hf] at hv; simpa using hv.1
    | some u => rw [hf] at hv; simpa using hv.1
  subst e1
  exact hrun

theorem drop3 {l : List ThingD} (h : ∀ x ∈ l, 0 ≤ x.round ∧ x.round < 6) : ∀ x ∈ dropL l 3, 3 ≤ x.round ∧ x.round < 6 := by
  intro x hx
  unfold dropL at hx
  obtain ⟨h1, h2⟩ := List.mem_filter.1 hx
  exact ⟨by simpa using h2, (h x h1).2⟩

set_option maxRecDepth 100000 in
set_option maxHeartbeats 4000000 in
theorem tableRounds_walk (ao : Option Addr) (cap : Nat) (ls : List OpD) (W : World) (hR : RowAt opK W ao ls) (hm : ls.length ≤ maxLen) :
    Calls Try.prog 5 #[.slice ao ls.length cap] W fun e w' => e = .returned (.bool true) ∧ Below W.heap.size W w' := by
  have hm' : ls.length ≤ 9223372036854775807 := by unfold maxLen at hm; omega
  clear hm
  have hmm := @run_makeMap Try.prog
  go_enter Try.func5, Try.ntmps5
  go_wp2_with fail
  refine (works11_any W).mono ?_
  rintro e w0 ⟨rfl, hb0⟩
  go_wp2_with fail
  refine (ptNew_any 50 w0).mono ?_
  rintro e w1 ⟨tb, rfl, S0, hp1, hs1, hb1⟩
  rw [show max (0 : Int) 50 = 50 by decide] at hp1
  have hT0 : RSt W tb w1.heap.size S0 [] (w1.alloc (.map #[] 0)) := by
    have hbm := belowNew w1 (.map #[] 0)
    have hbb := hb0.trans (hb1.mono hb0.size)
    exact ⟨hp1.below hbm, SMap.new w1, fun e => by have := hp1.lt e; omega, fun k hk => by have := hs1 k hk; have := hb0.size; omega, by have := hbb.size; omega, hbb.trans (hbm.mono hbb.size), (fun x hx => by cases hx), fun x hx => by cases hx⟩
  clear hb0 hp1 hs1 hb1
  obtain ⟨mb, hmb⟩ : ∃ z, Hid (w1.heap.size = z) := ⟨_, rfl⟩
  rw [hmb.out] at hT0
  go_wp2_with fail
  rw [hmb.out]
  generalize World.alloc _ _ = w2 at hT0 ⊢
  clear hmm
  go_loopw [5] (fun v5 wr => ∃ (i : Nat) (S : Nat → Prop) (l : List ThingD), i ≤ ls.length ∧ i ≤ 60 ∧ v5 = .int .i64 (i : Int) ∧ l.length ≤ i ∧ RSt W tb mb S l wr) (fun v _ => 60 - (intOf v).toNat)
  case atStart => exact ⟨0, _, [], Nat.zero_le _, Nat.zero_le _, rfl, Nat.zero_le _, hT0⟩
  case round =>
    obtain ⟨i, S, l, hil, hi1, rfl, hn, hT⟩ := hrel
    clear hT0
    by_cases hgo : i < ls.length ∧ i < 60
    · have g1 : (i : Int) < (ls.length : Int) := by omega
      have g2 : (i : Int) < 60 := by omega
      obtain ⟨⟨dr, id, rd, s⟩, ho⟩ : ∃ o, ls[i]? = some o := ⟨_, List.getElem?_eq_getElem hgo.1⟩
      obtain ⟨hid, hrd⟩ := hR.at_ _ (List.mem_of_getElem? ho)
      obtain ⟨g, off, rfl, hg, y0, y1, y2, y3⟩ := (hR.below hT.bel).op ho
      have hA := belowNew wr (.cells #[.bool dr, .string id, .int .i64 rd, .string s] 28)
      have hX := Arr.new wr 28 [.bool dr, .string id, .int .i64 rd, .string s]
      have hT2 := hT.below hA
      have hoP : ¬ S wr.heap.size := fun e => by have := hT.p.lt e; omega
      have hom : wr.heap.size ≠ mb := by have := hT.m.lt; omega
      obtain ⟨n, hn6, hne⟩ := pick_atC rd 6 (by omega) (by omega)
      have hne' : Hid (wrap64 ((IntKind.u64.wrap rd).tmod 6) = (n : Int)) := hne
      clear hne ho hT hA
      go_wp2_with fail
      generalize World.alloc _ _ = w3 at hX hT2 ⊢
      rw [hne'.out]
      clear y0 y1 y2 y3 hne'
      generalize wr.heap.size = ob at hX hoP hom ⊢
      have cP := ptPut_any id hid (n : Int) s tb S 50 _ l w3 hT2.p (by omega)
      by_cases he : putEP 50 l (-9223372036854775808) id (n : Int) = 0
      · have hni := putEP_zero he
        have ht : putTP 50 l (-9223372036854775808) ⟨id, (n : Int), s⟩ = putL l ⟨id, (n : Int), s⟩ := by
          unfold putTP
          rw [if_pos he]
        rw [he, ht] at cP
        refine cP.mono ?_
        rintro e w4 ⟨rfl, S4, hp4, hf4, hk4⟩
        obtain ⟨m4, o4, _, _⟩ := hT2.act hp4 hf4 hk4
        have hX4 := hX.kept hk4 hoP
        have j1 := hX4.cell (i := 1) rfl
        have hm9 : l.length < maxLen := by unfold maxLen; omega
        obtain ⟨f0, hf0⟩ : ∃ f, Hid (inF l = f) := ⟨_, rfl⟩
        rw [hf0.out] at m4
        clear hX cP
        go_wp2_with (at_mapUpdate; refine smap_put rfl _ _ _ 47 rfl 4 Try.underlying47 mb f0 _ rfl m4 hm9 id hid rfl _ rfl ?_; intro w5 hM5 hk5)
        rw [← hf0.out] at hM5
        have hT5 := hT2.put (x := ⟨id, (n : Int), s⟩) hni ⟨by show (0 : Int) ≤ (n : Int); omega, by show (n : Int) < 6; omega⟩ hid hp4 hf4 hk4 hM5 hk5
        have hl5 := putL_length l ⟨id, (n : Int), s⟩
        generalize putL l ⟨id, (n : Int), s⟩ = l5 at hT5 hl5
        clear hT2 hp4 hf4 hk4 hM5 hk5 m4 hX4 j1 hf0 ht he
        go_wp2
        go_roundw
        case rel => exact ⟨i + 1, S4, l5, by omega, by omega, by go_num, by omega, hT5⟩
        case measure => simp [intOf]; omega
      · have ht : putTP 50 l (-9223372036854775808) ⟨id, (n : Int), s⟩ = l := by
          unfold putTP
          rw [if_neg he]
        rw [ht] at cP
        obtain ⟨ee, hee⟩ : ∃ z, Hid (putEP 50 l (-9223372036854775808) id (n : Int) = z) := ⟨_, rfl⟩
        rw [hee.out] at cP he
        have he' : ¬ (ee : Int) = 0 := by omega
        refine cP.mono ?_
        rintro e w4 ⟨rfl, S4, hp4, hf4, hk4⟩
        obtain ⟨m4, o4, g4, b4⟩ := hT2.act hp4 hf4 hk4
        have hT5 : RSt W tb mb S4 l w4 := ⟨hp4, m4, o4, g4, hT2.gm, b4, hT2.rds, hT2.szs⟩
        clear hT2 hp4 hf4 hk4 m4 hX ht cP b4 g4
        go_wp2
        go_roundw
        case rel => exact ⟨i + 1, S4, l, by omega, by omega, by go_num, by omega, hT5⟩
        case measure => simp [intOf]; omega
    · rcases (by omega : ls.length ≤ i ∨ ¬ ls.length ≤ i ∧ 60 ≤ i) with g1 | ⟨g0, g1⟩
      · have g1' : (ls.length : Int) ≤ (i : Int) := by omega
        have hlen : l.length ≤ 60 := by omega
        go_wp2_with fail
        go_loopw [7, 8] (fun v7 v8 wq => ∃ r : Nat, r ≤ 6 ∧ v8 = .int .i64 (r : Int) ∧ v7 = .int .i64 ((cntR l r : Nat) : Int) ∧ cntR l r ≤ 60 * r ∧ RSt W tb mb S l wq) (fun _ v _ => 6 - (intOf v).toNat)
        case atStart => exact ⟨0, by omega, rfl, rfl, by simp [cntR], hT⟩
        case round =>
          obtain ⟨r, hr6, rfl, rfl, hcr, hT1⟩ := hrel
          clear hT
          by_cases hrr : r < 6
          · have g2 : (r : Int) < 6 := by omega
            have cI := ptIds_any (r : Int) tb S 50 _ l wr hT1.p
            go_wp2_with fail
            refine cI.mono ?_
            rintro e w3 ⟨vI, rfl, hQI, hbI⟩
            obtain ⟨aoI, capI, rfl, _, hRI⟩ := hQI.form
            have hT3 := hT1.below hbI
            have hle := idsL_le l (r : Int)
            have hcs : cntR l (r + 1) = cntR l r + (idsL l (r : Int)).length := rfl
            have hrise := ids_rise hT1.p.rise (r : Int)
            have hmem : ∀ x ∈ idsL l (r : Int), inF l x = some (.bool true) := fun x hx => by
              obtain ⟨y, hy, _⟩ := (ids_mem hT1.p.rise.nod).1 hx
              unfold inF
              rw [hy]
              rfl
            obtain ⟨li, hli⟩ : ∃ z, Hid (idsL l (r : Int) = z) := ⟨_, rfl⟩
            rw [hli.out] at hQI hRI hle hcs hrise hmem ⊢
            have hsz : ∀ x ∈ li, x.size ≤ maxLen := fun x hx => by
              rw [← hli.out] at hx
              unfold idsL at hx
              obtain ⟨y, hy, rfl⟩ := List.mem_map.1 hx
              exact hT3.szs y (List.mem_filter.1 hy).1
            have hlook : ∀ (wq : World) (x : ByteArray), x ∈ li → RSt W tb mb S l wq → ∀ m, (Instr.lookup 47 (.map (some mb)) (.string x) false).run Try.prog (wq.drewN m) = .ok (.bool true) (wq.drewN m) := fun wq x hx hq m => by
              rw [hq.m.looks Try.underlying47 zeroBool11 (hsz x hx) m, hmem x hx]
              rfl
            have hlook' : Hid _ := hlook
            clear cI hT1 hbI hQI hlook
            go_wp2_with fail
            go_loopw [10] (fun v10 wk => ∃ k : Nat, k ≤ li.length ∧ v10 = .int .i64 (k : Int) ∧ RSt W tb mb S l wk ∧ RowAt textK wk aoI li) (fun v _ => li.length - (intOf v).toNat)
            case atStart => exact ⟨0, by omega, rfl, hT3, hRI⟩
            case round =>
              obtain ⟨k, hkl, rfl, hTk, hRk⟩ := hrel
              clear hT3 hRI
              by_cases hk : k < li.length
              · have g3 : (k : Int) < (li.length : Int) := by omega
                obtain ⟨x, hx⟩ : ∃ x, li[k]? = some x := ⟨_, List.getElem?_eq_getElem hk⟩
                have hlx := hlook'.out wr x (List.mem_of_getElem? hx) hTk
                obtain ⟨gI, offI, rfl, hgI, t0⟩ := hRk.text hx
                rcases Nat.eq_zero_or_pos k with hk0 | hk0
                · have g4 : (0 < k) = False := by simp; omega
                  have g5 : ((0 : Int) < (k : Int)) = False := by simp; omega
                  clear hk0
                  go_wp2_with fail
                  go_quiet (fail)
                  have hTn := hTk.below (below_drewN (Below.refl wr.heap.size wr) nq)
                  have hRn := hRk.below (below_drewN (Below.refl wr.heap.size wr) nq)
                  clear hTk hRk hlx t0
                  go_wp2
                  go_roundw
                  case rel => exact ⟨k + 1, by omega, by go_num, hTn, hRn⟩
                  case measure => simp [intOf]; omega
                · obtain ⟨j, rfl⟩ : ∃ j, k = j + 1 := ⟨k - 1, by omega⟩
                  obtain ⟨y, hy⟩ : ∃ y, li[j]? = some y := ⟨_, List.getElem?_eq_getElem (by omega)⟩
                  obtain ⟨gJ, offJ, eJ, _, t1⟩ := hRk.text hy
                  obtain ⟨rfl, rfl⟩ : gI = gJ ∧ offI = offJ := by simpa using eJ
                  have hlt : Op.bytesLess y.toList x.toList = true := by
                    obtain ⟨a1, b1⟩ := List.getElem?_eq_some_iff.1 hy
                    obtain ⟨a2, b2⟩ := List.getElem?_eq_some_iff.1 hx
                    have := List.pairwise_iff_getElem.1 hrise j (j + 1) a1 a2 (by omega)
                    rw [b1, b2] at this
                    rw [lessT_eq]
                    exact decide_eq_true this
                  have g6 : (0 : Int) ≤ (j : Int) + 1 := by omega
                  have g7 : (j : Int) + 1 < (li.length : Int) := by omega
                  have g8 : (j : Int) < (li.length : Int) := by omega
                  have hli60 : li.length ≤ 60 := by omega
                  have g9 : IntKind.i64.wrap (j : Int) = (j : Int) := by simp [IntKind.wrap, IntKind.bits, IntKind.signed]; omega
                  have hne9 : (x.toList == y.toList) = false := by
                    rw [bytes_eq]
                    refine decide_eq_false (fun e => ?_)
                    rw [e, lessT_eq] at hlt
                    exact List.lt_irrefl _ (of_decide_eq_true hlt)
                  have hge9 : Op.bytesLess x.toList y.toList = false := by
                    rw [lessT_eq] at hlt ⊢
                    exact decide_eq_false (fun e => List.lt_irrefl _ (List.lt_trans e (of_decide_eq_true hlt)))
                  go_wp2_with fail
                  go_quiet (fail)
                  have hTn := hTk.below (below_drewN (Below.refl wr.heap.size wr) nq)
                  have hRn := hRk.below (below_drewN (Below.refl wr.heap.size wr) nq)
                  clear hTk hRk hlx t0 t1
                  go_wp2
                  go_roundw
                  case rel => exact ⟨j + 1 + 1, by omega, by go_num, hTn, hRn⟩
                  case measure => simp [intOf]; omega
              · have g3 : (li.length : Int) ≤ (k : Int) := by omega
                have hadd : IntKind.i64.wrap ((cntR l r : Int) + (li.length : Int)) = ((cntR l (r + 1) : Nat) : Int) := by rw [hcs]; simp [IntKind.wrap, IntKind.bits, IntKind.signed]; omega
                go_wp2
                go_roundw
                case rel => exact ⟨r + 1, by omega, by go_num, by first | rfl | (simp only [hcs]; go_num), by omega, hTk⟩
                case measure => simp [intOf]; omega
          · obtain rfl : r = 6 := by omega
            have c6 := cnt6 hT1.rds
            have g2 : ¬ (((6 : Nat) : Int)) < 6 := by decide
            have hd3 := cnt3 (drop3 hT1.rds)
            have hle3 := dropL_le l 3
            have cD := ptDrop_any 3 tb S 50 _ l wr hT1.p
            rw [show max (-9223372036854775808 : Int) 3 = 3 by decide] at cD
            obtain ⟨lz, hlz⟩ : ∃ z, Hid (dropL l 3 = z) := ⟨_, rfl⟩
            rw [hlz.out] at hd3 hle3 cD
            rw [c6]
            go_wp2_with fail
            refine cD.mono ?_
            rintro e w3 ⟨rfl, S3, hp3, hf3, hk3⟩
            obtain ⟨m3, _, _, b3⟩ := hT1.act hp3 hf3 hk3
            clear cD hT1 hf3 hk3
            go_wp2_with fail
            go_loopw [12, 13] (fun v12 v13 wq => ∃ q : Nat, q ≤ 3 ∧ v13 = .int .i64 ((q + 3 : Nat) : Int) ∧ v12 = .int .i64 ((cntB lz q : Nat) : Int) ∧ cntB lz q ≤ 60 * q ∧ PT wq tb S3 50 3 lz ∧ SMap wq mb (inF l) l.length ∧ Below W.heap.size W wq) (fun _ v _ => 6 - (intOf v).toNat)
            case atStart => exact ⟨0, by omega, rfl, rfl, by simp [cntB], hp3, m3, b3⟩
            case round =>
              obtain ⟨q, hq3, rfl, rfl, hcq, hpq, hmq, hbq⟩ := hrel
              clear hp3 m3 b3
              by_cases hqq : q < 3
              · have g5 : ((q + 3 : Nat) : Int) < 6 := by omega
                have cI := ptIds_any ((q + 3 : Nat) : Int) tb S3 50 _ lz wr hpq
                have hle := idsL_le lz ((q + 3 : Nat) : Int)
                have hcs : cntB lz (q + 1) = cntB lz q + (idsL lz ((q + 3 : Nat) : Int)).length := rfl
                obtain ⟨li, hli⟩ : ∃ z, Hid (idsL lz ((q + 3 : Nat) : Int) = z) := ⟨_, rfl⟩
                rw [hli.out] at cI hle hcs
                obtain ⟨q3, hq3e⟩ : ∃ z : Nat, z = q + 3 := ⟨_, rfl⟩
                rw [← hq3e] at cI g5 ⊢
                have hq9 : Hid (q3 = q + 3) := hq3e
                have hq8 : q3 < 6 := by omega
                clear hq3e
                go_wp2_with fail
                refine cI.mono ?_
                rintro e w4 ⟨vI, rfl, hQI, hbI⟩
                obtain ⟨aoI, capI, rfl, _, hRI⟩ := hQI.form
                have hp4 := hpq.below hbI
                have hm4 := hmq.below hbI
                have hb4 := hbq.trans (hbI.mono hbq.size)
                have hadd : IntKind.i64.wrap ((cntB lz q : Int) + (li.length : Int)) = ((cntB lz (q + 1) : Nat) : Int) := by rw [hcs]; simp [IntKind.wrap, IntKind.bits, IntKind.signed]; omega
                clear cI hpq hmq hbq hQI hbI hRI
                go_wp2
                go_roundw
                case rel => exact ⟨q + 1, by omega, by rw [hq9.out]; go_num, by first | rfl | (simp only [hcs]; go_num), by omega, hp4, hm4, hb4⟩
                case measure => simp [intOf]; omega
              · obtain rfl : q = 3 := by omega
                rw [hd3.1]
                have cL := fun w h => ptLen_any tb S3 50 3 lz w h
                have cI := fun w h => ptIds_any 2 tb S3 50 3 lz w h
                have hd2 := hd3.2
                obtain ⟨li, hli⟩ : ∃ z, Hid (idsL lz 2 = z) := ⟨_, rfl⟩
                rw [hli.out] at hd2
                simp only [hli.out] at cI
                obtain rfl : li = [] := List.eq_nil_of_length_eq_zero hd2
                clear hd2 hli hd3
                obtain ⟨f0, hf0⟩ : ∃ f, Hid (inF l = f) := ⟨_, rfl⟩
                rw [hf0.out] at hmq
                have hsub : IntKind.i64.wrap ((l.length : Int) - (lz.length : Int)) = (l.length : Int) - (lz.length : Int) := by simp [IntKind.wrap, IntKind.bits, IntKind.signed]; omega
                go_wp2_with (first
                  | (at_len; refine smap_len (by rfl) _ 47 rfl 4 Try.underlying47 mb f0 _ rfl hmq ?_)
                  | (go_at_call 14; refine (cL _ hpq).mono ?_; rintro e w5 ⟨rfl, hb5⟩; have hp5 := hpq.below hb5; have hB5 := hbq.trans (hb5.mono hbq.size))
                  | (go_at_call 16; refine (cI _ hp5).mono ?_; rintro e w6 ⟨vI, rfl, hQI, hb6⟩; obtain ⟨aoI, capI, rfl, _, hRI⟩ := hQI.form; have hB6 := hB5.trans (hb6.mono hB5.size)))
                go_ret
                exact ⟨rfl, hB6⟩
      · have g0' : (i : Int) < (ls.length : Int) := by omega
        have g1' : (60 : Int) ≤ (i : Int) := by omega
        have hlen : l.length ≤ 60 := by omega
        go_wp2_with fail
        go_loopw [7, 8] (fun v7 v8 wq => ∃ r : Nat, r ≤ 6 ∧ v8 = .int .i64 (r : Int) ∧ v7 = .int .i64 ((cntR l r : Nat) : Int) ∧ cntR l r ≤ 60 * r ∧ RSt W tb mb S l wq) (fun _ v _ => 6 - (intOf v).toNat)
        case atStart => exact ⟨0, by omega, rfl, rfl, by simp [cntR], hT⟩
        case round =>
          obtain ⟨r, hr6, rfl, rfl, hcr, hT1⟩ := hrel
          clear hT
          by_cases hrr : r < 6
          · have g2 : (r : Int) < 6 := by omega
            have cI := ptIds_any (r : Int) tb S 50 _ l wr hT1.p
            go_wp2_with fail
            refine cI.mono ?_
            rintro e w3 ⟨vI, rfl, hQI, hbI⟩
            obtain ⟨aoI, capI, rfl, _, hRI⟩ := hQI.form
            have hT3 := hT1.below hbI
            have hle := idsL_le l (r : Int)
            have hcs : cntR l (r + 1) = cntR l r + (idsL l (r : Int)).length := rfl
            have hrise := ids_rise hT1.p.rise (r : Int)
            have hmem : ∀ x ∈ idsL l (r : Int), inF l x = some (.bool true) := fun x hx => by
              obtain ⟨y, hy, _⟩ := (ids_mem hT1.p.rise.nod).1 hx
              unfold inF
              rw [hy]
              rfl
            obtain ⟨li, hli⟩ : ∃ z, Hid (idsL l (r : Int) = z) := ⟨_, rfl⟩
            rw [hli.out] at hQI hRI hle hcs hrise hmem ⊢
            have hsz : ∀ x ∈ li, x.size ≤ maxLen := fun x hx => by
              rw [← hli.out] at hx
              unfold idsL at hx
              obtain ⟨y, hy, rfl⟩ := List.mem_map.1 hx
              exact hT3.szs y (List.mem_filter.1 hy).1
            have hlook : ∀ (wq : World) (x : ByteArray), x ∈ li → RSt W tb mb S l wq → ∀ m, (Instr.lookup 47 (.map (some mb)) (.string x) false).run Try.prog (wq.drewN m) = .ok (.bool true) (wq.drewN m) := fun wq x hx hq m => by
              rw [hq.m.looks Try.underlying47 zeroBool11 (hsz x hx) m, hmem x hx]
              rfl
            have hlook' : Hid _ := hlook
            clear cI hT1 hbI hQI hlook
            go_wp2_with fail
            go_loopw [10] (fun v10 wk => ∃ k : Nat, k ≤ li.length ∧ v10 = .int .i64 (k : Int) ∧ RSt W tb mb S l wk ∧ RowAt textK wk aoI li) (fun v _ => li.length - (intOf v).toNat)
            case atStart => exact ⟨0, by omega, rfl, hT3, hRI⟩
            case round =>
              obtain ⟨k, hkl, rfl, hTk, hRk⟩ := hrel
              clear hT3 hRI
              by_cases hk : k < li.length
              · have g3 : (k : Int) < (li.length : Int) := by omega
                obtain ⟨x, hx⟩ : ∃ x, li[k]? = some x := ⟨_, List.getElem?_eq_getElem hk⟩
                have hlx := hlook'.out wr x (List.mem_of_getElem? hx) hTk
                obtain ⟨gI, offI, rfl, hgI, t0⟩ := hRk.text hx
                rcases Nat.eq_zero_or_pos k with hk0 | hk0
                · have g4 : (0 < k) = False := by simp; omega
                  have g5 : ((0 : Int) < (k : Int)) = False := by simp; omega
                  clear hk0
                  go_wp2_with fail
                  go_quiet (fail)
                  have hTn := hTk.below (below_drewN (Below.refl wr.heap.size wr) nq)
                  have hRn := hRk.below (below_drewN (Below.refl wr.heap.size wr) nq)
                  clear hTk hRk hlx t0
                  go_wp2
                  go_roundw
                  case rel => exact ⟨k + 1, by omega, by go_num, hTn, hRn⟩
                  case measure => simp [intOf]; omega
                · obtain ⟨j, rfl⟩ : ∃ j, k = j + 1 := ⟨k - 1, by omega⟩
                  obtain ⟨y, hy⟩ : ∃ y, li[j]? = some y := ⟨_, List.getElem?_eq_getElem (by omega)⟩
                  obtain ⟨gJ, offJ, eJ, _, t1⟩ := hRk.text hy
                  obtain ⟨rfl, rfl⟩ : gI = gJ ∧ offI = offJ := by simpa using eJ
                  have hlt : Op.bytesLess y.toList x.toList = true := by
                    obtain ⟨a1, b1⟩ := List.getElem?_eq_some_iff.1 hy
                    obtain ⟨a2, b2⟩ := List.getElem?_eq_some_iff.1 hx
                    have := List.pairwise_iff_getElem.1 hrise j (j + 1) a1 a2 (by omega)
                    rw [b1, b2] at this
                    rw [lessT_eq]
                    exact decide_eq_true this
                  have g6 : (0 : Int) ≤ (j : Int) + 1 := by omega
                  have g7 : (j : Int) + 1 < (li.length : Int) := by omega
                  have g8 : (j : Int) < (li.length : Int) := by omega
                  have hli60 : li.length ≤ 60 := by omega
                  have g9 : IntKind.i64.wrap (j : Int) = (j : Int) := by simp [IntKind.wrap, IntKind.bits, IntKind.signed]; omega
                  have hne9 : (x.toList == y.toList) = false := by
                    rw [bytes_eq]
                    refine decide_eq_false (fun e => ?_)
                    rw [e, lessT_eq] at hlt
                    exact List.lt_irrefl _ (of_decide_eq_true hlt)
                  have hge9 : Op.bytesLess x.toList y.toList = false := by
                    rw [lessT_eq] at hlt ⊢
                    exact decide_eq_false (fun e => List.lt_irrefl _ (List.lt_trans e (of_decide_eq_true hlt)))
                  go_wp2_with fail
                  go_quiet (fail)
                  have hTn := hTk.below (below_drewN (Below.refl wr.heap.size wr) nq)
                  have hRn := hRk.below (below_drewN (Below.refl wr.heap.size wr) nq)
                  clear hTk hRk hlx t0 t1
                  go_wp2
                  go_roundw
                  case rel => exact ⟨j + 1 + 1, by omega, by go_num, hTn, hRn⟩
                  case measure => simp [intOf]; omega
              · have g3 : (li.length : Int) ≤ (k : Int) := by omega
                have hadd : IntKind.i64.wrap ((cntR l r : Int) + (li.length : Int)) = ((cntR l (r + 1) : Nat) : Int) := by rw [hcs]; simp [IntKind.wrap, IntKind.bits, IntKind.signed]; omega
                go_wp2
                go_roundw
                case rel => exact ⟨r + 1, by omega, by go_num, by first | rfl | (simp only [hcs]; go_num), by omega, hTk⟩
                case measure => simp [intOf]; omega
          · obtain rfl : r = 6 := by omega
            have c6 := cnt6 hT1.rds
            have g2 : ¬ (((6 : Nat) : Int)) < 6 := by decide
            have hd3 := cnt3 (drop3 hT1.rds)
            have hle3 := dropL_le l 3
            have cD := ptDrop_any 3 tb S 50 _ l wr hT1.p
            rw [show max (-9223372036854775808 : Int) 3 = 3 by decide] at cD
            obtain ⟨lz, hlz⟩ : ∃ z, Hid (dropL l 3 = z) := ⟨_, rfl⟩
            rw [hlz.out] at hd3 hle3 cD
            rw [c6]
            go_wp2_with fail
            refine cD.mono ?_
            rintro e w3 ⟨rfl, S3, hp3, hf3, hk3⟩
            obtain ⟨m3, _, _, b3⟩ := hT1.act hp3 hf3 hk3
            clear cD hT1 hf3 hk3
            go_wp2_with fail
            go_loopw [12, 13] (fun v12 v13 wq => ∃ q : Nat, q ≤ 3 ∧ v13 = .int .i64 ((q + 3 : Nat) : Int) ∧ v12 = .int .i64 ((cntB lz q : Nat) : Int) ∧ cntB lz q ≤ 60 * q ∧ PT wq tb S3 50 3 lz ∧ SMap wq mb (inF l) l.length ∧ Below W.heap.size W wq) (fun _ v _ => 6 - (intOf v).toNat)
            case atStart => exact ⟨0, by omega, rfl, rfl, by simp [cntB], hp3, m3, b3⟩
            case round =>
              obtain ⟨q, hq3, rfl, rfl, hcq, hpq, hmq, hbq⟩ := hrel
              clear hp3 m3 b3
              by_cases hqq : q < 3
              · have g5 : ((q + 3 : Nat) : Int) < 6 := by omega
                have cI := ptIds_any ((q + 3 : Nat) : Int) tb S3 50 _ lz wr hpq
                have hle := idsL_le lz ((q + 3 : Nat) : Int)
                have hcs : cntB lz (q + 1) = cntB lz q + (idsL lz ((q + 3 : Nat) : Int)).length := rfl
                obtain ⟨li, hli⟩ : ∃ z, Hid (idsL lz ((q + 3 : Nat) : Int) = z) := ⟨_, rfl⟩
                rw [hli.out] at cI hle hcs
                obtain ⟨q3, hq3e⟩ : ∃ z : Nat, z = q + 3 := ⟨_, rfl⟩
                rw [← hq3e] at cI g5 ⊢
                have hq9 : Hid (q3 = q + 3) := hq3e
                have hq8 : q3 < 6 := by omega
                clear hq3e
                go_wp2_with fail
                refine cI.mono ?_
                rintro e w4 ⟨vI, rfl, hQI, hbI⟩
                obtain ⟨aoI, capI, rfl, _, hRI⟩ := hQI.form
                have hp4 := hpq.below hbI
                have hm4 := hmq.below hbI
                have hb4 := hbq.trans (hbI.mono hbq.size)
                have hadd : IntKind.i64.wrap ((cntB lz q : Int) + (li.length : Int)) = ((cntB lz (q + 1) : Nat) : Int) := by rw [hcs]; simp [IntKind.wrap, IntKind.bits, IntKind.signed]; omega
                clear cI hpq hmq hbq hQI hbI hRI
                go_wp2
                go_roundw
                case rel => exact ⟨q + 1, by omega, by rw [hq9.out]; go_num, by first | rfl | (simp only [hcs]; go_num), by omega, hp4, hm4, hb4⟩
                case measure => simp [intOf]; omega
              · obtain rfl : q = 3 := by omega
                rw [hd3.1]
                have cL := fun w h => ptLen_any tb S3 50 3 lz w h
                have cI := fun w h => ptIds_any 2 tb S3 50 3 lz w h
                have hd2 := hd3.2
                obtain ⟨li, hli⟩ : ∃ z, Hid (idsL lz 2 = z) := ⟨_, rfl⟩
                rw [hli.out] at hd2
                simp only [hli.out] at cI
                obtain rfl : li = [] := List.eq_nil_of_length_eq_zero hd2
                clear hd2 hli hd3
                obtain ⟨f0, hf0⟩ : ∃ f, Hid (inF l = f) := ⟨_, rfl⟩
                rw [hf0.out] at hmq
                have hsub : IntKind.i64.wrap ((l.length : Int) - (lz.length : Int)) = (l.length : Int) - (lz.length : Int) := by simp [IntKind.wrap, IntKind.bits, IntKind.signed]; omega
                go_wp2_with (first
                  | (at_len; refine smap_len (by rfl) _ 47 rfl 4 Try.underlying47 mb f0 _ rfl hmq ?_)
                  | (go_at_call 14; refine (cL _ hpq).mono ?_; rintro e w5 ⟨rfl, hb5⟩; have hp5 := hpq.below hb5; have hB5 := hbq.trans (hb5.mono hbq.size))
                  | (go_at_call 16; refine (cI _ hp5).mono ?_; rintro e w6 ⟨vI, rfl, hQI, hb6⟩; obtain ⟨aoI, capI, rfl, _, hRI⟩ := hQI.form; have hB6 := hB5.trans (hb6.mono hB5.size)))
                go_ret
                exact ⟨rfl, hB6⟩
end Go.Proofs.Ytegahpgokmcjhaa
