/- TableBound: the walk. -/
import Derived.Test.YtegahpgokmcjhaaTabWorks
import Derived.Test.YtegahpgokmcjhaaInts
namespace Go.Proofs.Ytegahpgokmcjhaa
open Go.RowKit Go.Maps
set_option linter.unusedVariables false

/-- What the law keeps of what is in. -/
def opV (x : ThingD) : Value := .agg #[.bool false, .string x.id, .int .i64 x.round, .string x.s]
def opF (l : List ThingD) (id : ByteArray) : Option Value := (getR l id).map opV

theorem zeroOp11 (w : World) : (zeroValue 28).run Try.prog w = .ok (.agg #[.bool false, .string ⟨#[]⟩, .int .i64 0, .string ⟨#[]⟩]) w := by rfl

structure BSt (W : World) (tb mb : Nat) (S : Nat → Prop) (B : Nat) (low : Int) (ks : List ByteArray) (l : List ThingD) (w : World) : Prop where
  p : PT w tb S (B : Int) low l
  m : SMap w mb (opF l) l.length
  off : ¬ S mb
  gp : ∀ k, S k → W.heap.size ≤ k
  gm : W.heap.size ≤ mb
  bel : Below W.heap.size W w
  len : l.length ≤ B
  ids : ∀ x ∈ l, x.id ∈ ks

theorem BSt.below {W : World} {tb mb : Nat} {S : Nat → Prop} {B : Nat} {low : Int} {ks : List ByteArray} {l : List ThingD} {w w' : World} (h : BSt W tb mb S B low ks l w) (hb : Below w.heap.size w w') : BSt W tb mb S B low ks l w' :=
  ⟨h.p.below hb, h.m.below hb, h.off, h.gp, h.gm, h.bel.trans (hb.mono h.bel.size), h.len, h.ids⟩

/-- Behind an act of the table. -/
theorem BSt.act {W : World} {tb mb : Nat} {S S' : Nat → Prop} {B : Nat} {low low' : Int} {ks : List ByteArray} {l l' : List ThingD} {w w' : World} (h : BSt W tb mb S B low ks l w) (hA : PT w' tb S' (B : Int) low' l') (hf : FreshS w S S') (hk : Kept S w w') :
    SMap w' mb (opF l) l.length ∧ ¬ S' mb ∧ (∀ k, S' k → W.heap.size ≤ k) ∧ Below W.heap.size W w' := by
  refine ⟨h.m.kept hk h.off, fun e => ?_, fun k e => ?_, h.bel.trans (hk.below h.bel.size h.gp)⟩
  · rcases hf mb e with e | e
    · exact h.off e
    · have := h.m.lt; omega
  · rcases hf k e with e | e
    · exact h.gp k e
    · have := h.bel.size; omega

theorem opF_put {l : List ThingD} {x : ThingD} (hx : x.id ∉ l.map (·.id)) (i : ByteArray) : opF (putL l x) i = putF (opF l) x.id (opV x) i := by
  unfold opF putF
  rw [getR_put hx]
  by_cases h : x.id = i
  · rw [if_pos h, if_pos h.symm]
    rfl
  · rw [if_neg h, if_neg (fun e => h e.symm)]

theorem opF_none {l : List ThingD} {i : ByteArray} (h : i ∉ l.map (·.id)) : opF l i = none := by
  unfold opF
  rw [getR_none h]
  rfl

theorem putEP_nil {most low : Int} {l : List ThingD} {id : ByteArray} {round : Int} (h : putEP most l low id round = 0) : id ∉ l.map (·.id) ∧ (l.length : Int) < most := by
  unfold putEP at h
  by_cases hm : id ∈ l.map (·.id)
  · have : (getR l id).isSome = true := by
      obtain ⟨y, hy, e⟩ := List.mem_map.1 hm
      unfold getR
      rw [List.find?_isSome]
      exact ⟨y, hy, by rw [bytes_eq]; exact decide_eq_true e⟩
    rw [if_pos this] at h
    cases h
  · refine ⟨hm, ?_⟩
    rw [getR_none hm, if_neg (by decide)] at h
    split at h
    · cases h
    · split at h
      · cases h
      · omega

theorem BSt.put {W : World} {tb mb : Nat} {S S' : Nat → Prop} {B : Nat} {low : Int} {ks : List ByteArray} {l : List ThingD} {x : ThingD} {w w1 w2 : World} (h : BSt W tb mb S B low ks l w) (hx : x.id ∉ l.map (·.id)) (hr : (l.length : Int) < (B : Int)) (hA : PT w1 tb S' (B : Int) low (putL l x)) (hf : FreshS w S S') (hk : Kept S w w1)
    (hM : SMap w2 mb (putF (opF l) x.id (opV x)) (putN (opF l) x.id l.length)) (hk2 : Kept (fun k => k = mb) w1 w2) : BSt W tb mb S' B low (ks ++ [x.id]) (putL l x) w2 := by
  obtain ⟨h1, h2, h3, h4⟩ := h.act hA hf hk
  refine ⟨hA.kept hk2 (fun k e e' => h2 (by rw [← show k = mb from e']; exact e)), ?_, h2, h3, h.gm, h4.trans (hk2.below h4.size (fun k e => by have : k = mb := e; have := h.gm; omega)), by rw [putL_length]; omega, fun y hy => ?_⟩
  · have e1 : putN (opF l) x.id l.length = (putL l x).length := by
      unfold putN
      rw [opF_none hx, putL_length]
      rfl
    rw [e1] at hM
    exact hM.congr (fun i => opF_put hx i)
  · rcases putL_mem.1 hy with rfl | hy
    · exact List.mem_append_right _ List.mem_cons_self
    · exact List.mem_append_left _ (h.ids y hy)

/-- While ids are gone through: what the law has, when all is dropped that is below r. -/
def midF (l : List ThingD) (ks : List ByteArray) (r : Int) (i : ByteArray) : Option Value := if ks.any (fun j => decide (j = i)) = true then opF (dropL l r) i else opF l i

theorem anyK {ks : List ByteArray} {i : ByteArray} : ks.any (fun j => decide (j = i)) = true ↔ i ∈ ks := by
  rw [List.any_eq_true]
  constructor
  · rintro ⟨x, hx, e⟩
    rw [← of_decide_eq_true e]
    exact hx
  · exact fun h => ⟨i, h, decide_eq_true rfl⟩

theorem midF_in {l : List ThingD} {ks : List ByteArray} {r : Int} {i : ByteArray} (h : i ∈ ks) : midF l ks r i = opF (dropL l r) i := if_pos (anyK.2 h)
theorem midF_out {l : List ThingD} {ks : List ByteArray} {r : Int} {i : ByteArray} (h : ¬ i ∈ ks) : midF l ks r i = opF l i := if_neg (fun e => h (anyK.1 e))

theorem opF_drop {l : List ThingD} (hn : (l.map (·.id)).Nodup) (r : Int) (i : ByteArray) : opF (dropL l r) i = match getR l i with | some x => if r ≤ x.round then some (opV x) else none | none => none := by
  unfold opF
  rw [getR_drop r i hn]
  cases getR l i with
  | none => rfl
  | some x =>
    by_cases h : r ≤ x.round
    · simp [h]
    · simp [h]

theorem mid_same {l : List ThingD} {ks : List ByteArray} {r : Int} {id : ByteArray} (h : id ∈ ks ∨ opF (dropL l r) id = opF l id) (i : ByteArray) : midF l (ks ++ [id]) r i = midF l ks r i := by
  by_cases hi : i ∈ ks
  · rw [midF_in hi, midF_in (List.mem_append_left _ hi)]
  · by_cases e : i = id
    · subst e
      rw [midF_out hi, midF_in (List.mem_append_right _ List.mem_cons_self)]
      exact h.resolve_left hi
    · rw [midF_out hi, midF_out (fun hm => by simp [hi, e] at hm)]

theorem mid_gone {l : List ThingD} {ks : List ByteArray} {r : Int} {id : ByteArray} (h : opF (dropL l r) id = none) (i : ByteArray) : midF l (ks ++ [id]) r i = delF (midF l ks r) id i := by
  unfold delF
  by_cases e : i = id
  · subst e
    rw [midF_in (List.mem_append_right _ List.mem_cons_self), if_pos rfl]
    exact h
  · rw [if_neg e]
    by_cases hi : i ∈ ks
    · rw [midF_in hi, midF_in (List.mem_append_left _ hi)]
    · rw [midF_out hi, midF_out (fun hm => by simp [hi, e] at hm)]

theorem mid_look {l : List ThingD} (hn : (l.map (·.id)).Nodup) (ks : List ByteArray) (r : Int) (id : ByteArray) :
    ∃ (xi : ByteArray) (xr : Int) (xs : ByteArray) (ok : Bool), (midF l ks r id).getD (.agg #[.bool false, .string ⟨#[]⟩, .int .i64 0, .string ⟨#[]⟩]) = .agg #[.bool false, .string xi, .int .i64 xr, .string xs] ∧ (midF l ks r id).isSome = ok
      ∧ Hid (ok = true → xr < r → ∀ i, midF l (ks ++ [id]) r i = delF (midF l ks r) id i) ∧ Hid ((ok = false ∨ ¬ xr < r) → ∀ i, midF l (ks ++ [id]) r i = midF l ks r i) := by
  have hd := opF_drop hn r id
  by_cases hi : id ∈ ks
  · have e1 : midF l ks r id = opF (dropL l r) id := midF_in hi
    rw [e1, hd]
    cases hg : getR l id with
    | none => exact ⟨_, _, _, _, rfl, rfl, (fun h => by cases h), fun _ => mid_same (Or.inl hi)⟩
    | some x =>
      simp only
      by_cases hr : r ≤ x.round
      · rw [if_pos hr]
        exact ⟨x.id, x.round, x.s, true, rfl, rfl, (fun _ h => absurd h (by omega)), fun _ => mid_same (Or.inl hi)⟩
      · rw [if_neg hr]
        exact ⟨_, _, _, _, rfl, rfl, (fun h => by cases h), fun _ => mid_same (Or.inl hi)⟩
  · have e1 : midF l ks r id = opF l id := midF_out hi
    rw [e1]
    rw [show opF l id = (getR l id).map opV from rfl]
    cases hg : getR l id with
    | none =>
      rw [hg] at hd
      refine ⟨_, _, _, _, rfl, rfl, (fun h => by cases h), fun _ => mid_same (Or.inr ?_)⟩
      rw [hd]
      unfold opF
      rw [hg]
      rfl
    | some x =>
      rw [hg] at hd
      simp only at hd
      refine ⟨x.id, x.round, x.s, true, rfl, rfl, fun _ hr => mid_gone ?_, fun hr => mid_same (Or.inr ?_)⟩
      · rw [hd, if_neg (by omega)]
      · rcases hr with hr | hr
        · cases hr
        · rw [hd, if_pos (by omega)]
          unfold opF
          rw [hg]
          rfl

/-- While ids are gone through. -/
structure DSt (W : World) (tb mb : Nat) (S : Nat → Prop) (B : Nat) (low : Int) (l : List ThingD) (r : Int) (ks : List ByteArray) (w : World) : Prop where
  p : PT w tb S (B : Int) low (dropL l r)
  m : ∃ n, SMap w mb (midF l ks r) n
  off : ¬ S mb
  gp : ∀ k, S k → W.heap.size ≤ k
  gm : W.heap.size ≤ mb
  bel : Below W.heap.size W w

theorem DSt.below {W : World} {tb mb : Nat} {S : Nat → Prop} {B : Nat} {low : Int} {l : List ThingD} {r : Int} {ks : List ByteArray} {w w' : World} (h : DSt W tb mb S B low l r ks w) (hb : Below w.heap.size w w') : DSt W tb mb S B low l r ks w' := by
  obtain ⟨n, hn⟩ := h.m
  exact ⟨h.p.below hb, ⟨n, hn.below hb⟩, h.off, h.gp, h.gm, h.bel.trans (hb.mono h.bel.size)⟩

theorem DSt.same {W : World} {tb mb : Nat} {S : Nat → Prop} {B : Nat} {low : Int} {l : List ThingD} {r : Int} {ks ks' : List ByteArray} {w : World} (h : DSt W tb mb S B low l r ks w) (e : ∀ i, midF l ks' r i = midF l ks r i) : DSt W tb mb S B low l r ks' w := by
  obtain ⟨n, hn⟩ := h.m
  exact ⟨h.p, ⟨n, hn.congr e⟩, h.off, h.gp, h.gm, h.bel⟩

theorem DSt.gone {W : World} {tb mb : Nat} {S : Nat → Prop} {B : Nat} {low : Int} {l : List ThingD} {r : Int} {ks ks' : List ByteArray} {id : ByteArray} {n : Nat} {w w' : World} (h : DSt W tb mb S B low l r ks w) (hM : SMap w' mb (delF (midF l ks r) id) n) (hk : Kept (fun k => k = mb) w w') (e : ∀ i, midF l ks' r i = delF (midF l ks r) id i) : DSt W tb mb S B low l r ks' w' :=
  ⟨h.p.kept hk (fun k e e' => h.off (by rw [← show k = mb from e']; exact e)), ⟨n, hM.congr e⟩, h.off, h.gp, h.gm, h.bel.trans (hk.below h.bel.size (fun k e => by have : k = mb := e; have := h.gm; omega))⟩

theorem BSt.drops {W : World} {tb mb : Nat} {S S' : Nat → Prop} {B : Nat} {low low' : Int} {ks : List ByteArray} {l : List ThingD} {r : Int} {w w' : World} (h : BSt W tb mb S B low ks l w) (hA : PT w' tb S' (B : Int) low' (dropL l r)) (hf : FreshS w S S') (hk : Kept S w w') : DSt W tb mb S' B low' l r [] w' := by
  obtain ⟨h1, h2, h3, h4⟩ := h.act hA hf hk
  exact ⟨hA, ⟨_, h1.congr (fun i => midF_out (by simp))⟩, h2, h3, h.gm, h4⟩

theorem DSt.fin {W : World} {tb mb : Nat} {S : Nat → Prop} {B : Nat} {low : Int} {l : List ThingD} {r : Int} {ks : List ByteArray} {w : World} (h : DSt W tb mb S B low l r ks w) (hn : (l.map (·.id)).Nodup) (hl : l.length ≤ B) (hi : ∀ x ∈ l, x.id ∈ ks) (id : ByteArray) : BSt W tb mb S B low (ks ++ [id]) (dropL l r) w := by
  obtain ⟨n, hM⟩ := h.m
  have hM2 : SMap w mb (opF (dropL l r)) n := hM.congr (fun i => by
    by_cases hk : i ∈ ks
    · rw [midF_in hk]
    · rw [midF_out hk, opF_drop hn]
      have : getR l i = none := getR_none (fun hm => by
        obtain ⟨x, hx, e⟩ := List.mem_map.1 hm
        exact hk (by rw [← e]; exact hi x hx))
      unfold opF
      rw [this]
      rfl)
  have hc := hM2.count (dropL_nod hn r) (fun i => by
    unfold opF
    rw [Option.isSome_map]
    constructor
    · intro h
      obtain ⟨x, hx⟩ := Option.isSome_iff_exists.1 h
      obtain ⟨h1, h2⟩ := getR_some hx
      exact List.mem_map.2 ⟨x, h1, h2⟩
    · intro h
      obtain ⟨x, hx, e⟩ := List.mem_map.1 h
      unfold getR
      rw [List.find?_isSome]
      exact ⟨x, hx, by rw [bytes_eq]; exact decide_eq_true e⟩)
  rw [List.length_map] at hc
  subst hc
  exact ⟨h.p, hM2, h.off, h.gp, h.gm, h.bel, by have := dropL_le l r; omega, fun x hx => by
    unfold dropL at hx
    exact List.mem_append_left _ (hi x (List.mem_filter.1 hx).1)⟩

theorem ids_next {ls : List OpD} {k : Nat} {o : OpD} (h : ls[k]? = some o) : (ls.take (k + 1)).map (·.id) = (ls.take k).map (·.id) ++ [o.id] := by
  rw [List.take_add_one, h, List.map_append]
  rfl

set_option maxRecDepth 100000 in
set_option maxHeartbeats 4000000 in
theorem tableBound_walk (most : Int) (ao : Option Addr) (cap : Nat) (ls : List OpD) (W : World) (hv : (Lit.int .i64 most).wf = true) (hR : RowAt opK W ao ls) (hm : ls.length ≤ maxLen) :
    Calls Try.prog 4 #[.int .i64 most, .slice ao ls.length cap] W fun e w' => e = .returned (.bool true) ∧ Below W.heap.size W w' := by
  have hm' : ls.length ≤ 9223372036854775807 := by unfold maxLen at hm; omega
  clear hm
  have hmm := @run_makeMap Try.prog
  obtain ⟨B, hB, hBe⟩ := pick_atC most 20 (by omega) (by omega)
  have hBe' : Hid (wrap64 ((IntKind.u64.wrap most).tmod 20) = (B : Int)) := hBe
  clear hBe
  go_enter Try.func4, Try.ntmps4
  go_wp2_with fail
  refine (works11_any W).mono ?_
  rintro e w0 ⟨rfl, hb0⟩
  go_wp2_with fail
  rw [hBe'.out]
  refine (ptNew_any (B : Int) w0).mono ?_
  rintro e w1 ⟨tb, rfl, S0, hp1, hs1, hb1⟩
  rw [show max (0 : Int) (B : Int) = (B : Int) by omega] at hp1
  have hT0 : BSt W tb w1.heap.size S0 B (-9223372036854775808) [] [] (w1.alloc (.map #[] 0)) := by
    have hbm := belowNew w1 (.map #[] 0)
    have hbb := hb0.trans (hb1.mono hb0.size)
    exact ⟨hp1.below hbm, SMap.new w1, fun e => by have := hp1.lt e; omega, fun k hk => by have := hs1 k hk; have := hb0.size; omega, by have := hbb.size; omega, hbb.trans (hbm.mono hbb.size), (Nat.zero_le _), fun x hx => by cases hx⟩
  clear hb0 hp1 hs1 hb1 hBe'
  obtain ⟨mb, hmb⟩ : ∃ z, Hid (w1.heap.size = z) := ⟨_, rfl⟩
  rw [hmb.out] at hT0
  go_wp2_with fail
  rw [hmb.out]
  generalize World.alloc _ _ = w2 at hT0 ⊢
  clear hmm
  go_loopw [7] (fun v7 wr => ∃ (i : Nat) (S : Nat → Prop) (low : Int) (l : List ThingD), i ≤ ls.length ∧ i ≤ 150 ∧ v7 = .int .i64 (i : Int) ∧ BSt W tb mb S B low ((ls.take i).map (·.id)) l wr) (fun v _ => 150 - (intOf v).toNat)
  case atStart => exact ⟨0, _, _, [], Nat.zero_le _, Nat.zero_le _, rfl, hT0⟩
  case round =>
    obtain ⟨i, S, low, l, hil, hi1, rfl, hT⟩ := hrel
    clear hT0
    by_cases hgo : i < ls.length ∧ i < 150
    · have g1 : (i : Int) < (ls.length : Int) := by omega
      have g2 : (i : Int) < 150 := by omega
      obtain ⟨⟨dr, id, rd, s⟩, ho⟩ : ∃ o, ls[i]? = some o := ⟨_, List.getElem?_eq_getElem hgo.1⟩
      have hnx := ids_next ho
      obtain ⟨hid, hrd⟩ := hR.at_ _ (List.mem_of_getElem? ho)
      obtain ⟨g, off, rfl, hg, y0, y1, y2, y3⟩ := (hR.below hT.bel).op ho
      have hA := belowNew wr (.cells #[.bool dr, .string id, .int .i64 rd, .string s] 28)
      have hX := Arr.new wr 28 [.bool dr, .string id, .int .i64 rd, .string s]
      have hT2 := hT.below hA
      have hoP : ¬ S wr.heap.size := fun e => by have := hT.p.lt e; omega
      have hom : wr.heap.size ≠ mb := by have := hT.m.lt; omega
      clear ho hT hA
      simp only at hnx
      cases dr with
      | true =>
        go_wp2_with fail
        generalize World.alloc _ _ = w3 at hX hT2 ⊢
        clear y0 y1 y2 y3
        generalize wr.heap.size = ob at hX hoP hom ⊢
        refine (ptDrop_any rd tb S (B : Int) low l w3 hT2.p).mono ?_
        rintro e w4 ⟨rfl, S5, hp4, hf4, hk4⟩
        have hD4 := hT2.drops hp4 hf4 hk4
        have hX4 := hX.kept hk4 hoP
        have hnod := hT2.p.rise.nod
        have hlB := hT2.len
        have hin := hT2.ids
        clear hX hT2 hp4 hf4 hk4 hoP
        obtain ⟨lw5, hlw⟩ : ∃ z, Hid (max low rd = z) := ⟨_, rfl⟩
        rw [hlw.out] at hD4
        have hnod' : Hid _ := hnod
        have hin' : Hid _ := hin
        have hnx' : Hid _ := hnx
        clear hnod hin hnx
        go_wp2_with fail
        go_loopw [9] (fun v9 wk => ∃ k : Nat, k ≤ i ∧ v9 = .int .i64 (k : Int) ∧ DSt W tb mb S5 B lw5 l rd ((ls.take k).map (·.id)) wk ∧ Arr wk ob 28 [.bool true, .string id, .int .i64 rd, .string s]) (fun v _ => i - (intOf v).toNat)
        case atStart => exact ⟨0, Nat.zero_le _, rfl, hD4, hX4⟩
        case round =>
          obtain ⟨k, hki, rfl, hDk, hXk⟩ := hrel
          clear hD4 hX4
          by_cases hk : k < i
          · have g3 : (k : Int) < (i : Int) := by omega
            obtain ⟨⟨drk, idk, rdk, sk⟩, hok⟩ : ∃ o, ls[k]? = some o := ⟨_, List.getElem?_eq_getElem (by omega)⟩
            have hnk := ids_next hok
            simp only at hnk
            have hidk : idk.size ≤ maxLen := (hR.at_ _ (List.mem_of_getElem? hok)).1
            have g4 : (k : Int) < (ls.length : Int) := by omega
            obtain ⟨gJ, offJ, eJ, hgJ, t0, t1, t2, t3⟩ := (hR.below hDk.bel).op hok
            obtain ⟨rfl, rfl⟩ : g = gJ ∧ off = offJ := by simpa using eJ
            obtain ⟨n, hM⟩ := hDk.m
            obtain ⟨xi, xr, xs, ok, hz1, hz2, hz3, hz4⟩ := mid_look hnod'.out ((ls.take k).map (·.id)) rd idk
            rw [← hnk] at hz3 hz4
            have hz := zeroOp11 wr
            have hb5 := belowNew wr (.cells #[.bool false, .string xi, .int .i64 xr, .string xs] 28)
            have hD5 := hDk.below hb5
            have hX5 := hXk.below hb5 hXk.lt
            have r2 := hXk.cell (i := 2) rfl
            have hxl := hXk.lt
            obtain ⟨f0, hf0⟩ : ∃ f, Hid (midF l ((ls.take k).map (·.id)) rd = f) := ⟨_, rfl⟩
            rw [hf0.out] at hM hz1 hz2
            clear hok eJ hnk t0 t2 t3
            cases ok with
            | false =>
              have hD6 := hD5.same (hz4.out (Or.inl rfl))
              clear hD5 hz3 hz4 hf0
              go_wp2_with (at_lookup; refine smap_look_ok (by rfl) _ _ 44 rfl 28 Try.underlying44 _ hz mb _ _ rfl hM idk hidk rfl ?_; rw [hz1, hz2])
              go_roundw
              case rel => exact ⟨k + 1, by omega, by go_num, hD6, hX5⟩
              case measure => simp [intOf]; omega
            | true =>
              by_cases hlr : xr < rd
              · have hdel := hz3.out rfl hlr
                obtain ⟨n5, hM5⟩ := hD5.m
                rw [hf0.out] at hM5 hdel
                have hdel' : Hid _ := hdel
                clear hz3 hz4 hdel
                go_wp2_with (first
                  | (at_lookup; refine smap_look_ok (by rfl) _ _ 44 rfl 28 Try.underlying44 _ hz mb _ _ rfl hM idk hidk rfl ?_; rw [hz1, hz2])
                  | (at_delete; refine smap_del rfl _ _ 44 rfl 28 Try.underlying44 mb _ _ rfl hM5 idk hidk rfl ?_))
                intro w6 hM6 hk6
                rw [← hf0.out] at hM6 hdel'
                have hD6 := hD5.gone hM6 hk6 hdel'.out
                have hX6 := hX5.kept hk6 (fun e => hom e)
                clear hM6 hk6 hdel' hD5 hX5 hM5
                go_wp2
                go_roundw
                case rel => exact ⟨k + 1, by omega, by go_num, hD6, hX6⟩
                case measure => simp [intOf]; omega
              · have hD6 := hD5.same (hz4.out (Or.inr hlr))
                clear hD5 hz3 hz4 hf0
                go_wp2_with (at_lookup; refine smap_look_ok (by rfl) _ _ 44 rfl 28 Try.underlying44 _ hz mb _ _ rfl hM idk hidk rfl ?_; rw [hz1, hz2])
                go_roundw
                case rel => exact ⟨k + 1, by omega, by go_num, hD6, hX5⟩
                case measure => simp [intOf]; omega
          · obtain rfl : i = k := by omega
            have hT5 := hDk.fin hnod'.out hlB hin'.out id
            rw [← hnx'.out] at hT5
            clear hDk hXk hlB hin' hnod' hnx'
            generalize dropL l rd = l5 at hT5
            have cL := fun w h => ptLen_any tb S5 (B : Int) lw5 l5 w h
            have hlB5 : (((B : Int) < (l5.length : Int)) = False) ∧ ((B < l5.length) = False) := by have := hT5.len; constructor <;> (simp; omega)
            obtain ⟨hlB6, hlB7⟩ := hlB5
            go_wp2_with fail
            refine (cL _ hT5.p).mono ?_
            rintro e w6 ⟨rfl, hb6⟩
            have hT6 := hT5.below hb6
            clear hT5 hb6
            go_wp2_with fail
            refine (cL _ hT6.p).mono ?_
            rintro e w7 ⟨rfl, hb7⟩
            have hT7 := hT6.below hb7
            have m7 := hT7.m
            clear hT6 hb7 cL
            obtain ⟨f7, hf7⟩ : ∃ f, Hid (opF l5 = f) := ⟨_, rfl⟩
            rw [hf7.out] at m7
            go_wp2_with (at_len; refine smap_len (by rfl) _ 44 rfl 28 Try.underlying44 mb f7 _ rfl m7 ?_)
            clear m7 hf7
            go_loopw [12] (fun v12 wk => ∃ k : Nat, k ≤ i + 1 ∧ v12 = .int .i64 (k : Int) ∧ BSt W tb mb S5 B lw5 ((ls.take (i + 1)).map (·.id)) l5 wk) (fun v _ => i + 1 - (intOf v).toNat)
            case atStart => exact ⟨0, Nat.zero_le _, rfl, hT7⟩
            case round =>
              obtain ⟨k, hki, rfl, hTk⟩ := hrel
              clear hT7
              by_cases hk : k ≤ i
              · have g3 : (k : Int) ≤ (i : Int) := by omega
                have g4 : (k : Int) < (ls.length : Int) := by omega
                obtain ⟨⟨drk, idk, rdk, sk⟩, hok⟩ : ∃ o, ls[k]? = some o := ⟨_, List.getElem?_eq_getElem (by omega)⟩
                have hidk : idk.size ≤ maxLen := (hR.at_ _ (List.mem_of_getElem? hok)).1
                obtain ⟨gJ, offJ, eJ, hgJ, t0, t1, t2, t3⟩ := (hR.below hTk.bel).op hok
                obtain ⟨rfl, rfl⟩ : g = gJ ∧ off = offJ := by simpa using eJ
                have cG := ptGet_any idk hidk tb S5 (B : Int) lw5 l5 wr hTk.p
                clear t0 t2 t3 eJ hgJ
                cases hgk : getR l5 idk with
                | none =>
                  rw [hgk] at cG
                  have hz2 : (opF l5 idk) = none := by unfold opF; rw [hgk]; rfl
                  clear hgk
                  simp only [gotS, gotR, Option.isSome_none] at cG
                  go_wp2_with fail
                  refine cG.mono ?_
                  rintro e w8 ⟨rfl, hb8⟩
                  have hT8 := hTk.below hb8
                  obtain ⟨gJ, offJ, eJ, hgJ, t0, t1', t2, t3⟩ := (hR.below hT8.bel).op hok
                  obtain ⟨rfl, rfl⟩ : g = gJ ∧ off = offJ := by simpa using eJ
                  have hz := zeroOp11 w8
                  have hb9 := belowNew w8 (.cells #[.bool false, .string ⟨#[]⟩, .int .i64 0, .string ⟨#[]⟩] 28)
                  have hT9 := hT8.below hb9
                  have m8 := hT8.m
                  obtain ⟨f8, hf8⟩ : ∃ f, Hid (opF l5 = f) := ⟨_, rfl⟩
                  rw [hf8.out] at m8 hz2
                  clear t1 t0 t2 t3 eJ hgJ hTk hb8 hT8 hok cG
                  go_wp2_with (at_lookup; refine smap_look_ok (by rfl) _ _ 44 rfl 28 Try.underlying44 _ hz mb _ _ rfl m8 idk hidk rfl ?_; rw [hz2]; simp only [Option.getD_none, Option.isSome_none])
                  go_roundw
                  case rel => exact ⟨k + 1, by omega, by go_num, hT9⟩
                  case measure => simp [intOf]; omega
                | some x =>
                  obtain ⟨xi, xr, xs⟩ := x
                  rw [hgk] at cG
                  have hz2 : (opF l5 idk) = some (.agg #[.bool false, .string xi, .int .i64 xr, .string xs]) := by unfold opF; rw [hgk]; rfl
                  clear hgk
                  simp only [gotS, gotR, Option.isSome_some] at cG
                  go_wp2_with fail
                  refine cG.mono ?_
                  rintro e w8 ⟨rfl, hb8⟩
                  have hT8 := hTk.below hb8
                  obtain ⟨gJ, offJ, eJ, hgJ, t0, t1', t2, t3⟩ := (hR.below hT8.bel).op hok
                  obtain ⟨rfl, rfl⟩ : g = gJ ∧ off = offJ := by simpa using eJ
                  have hz := zeroOp11 w8
                  have hb9 := belowNew w8 (.cells #[.bool false, .string xi, .int .i64 xr, .string xs] 28)
                  have hT9 := hT8.below hb9
                  have m8 := hT8.m
                  obtain ⟨f8, hf8⟩ : ∃ f, Hid (opF l5 = f) := ⟨_, rfl⟩
                  rw [hf8.out] at m8 hz2
                  clear t1 t0 t2 t3 eJ hgJ hTk hb8 hT8 hok cG
                  go_wp2_with (at_lookup; refine smap_look_ok (by rfl) _ _ 44 rfl 28 Try.underlying44 _ hz mb _ _ rfl m8 idk hidk rfl ?_; rw [hz2]; simp only [Option.getD_some, Option.isSome_some])
                  go_roundw
                  case rel => exact ⟨k + 1, by omega, by go_num, hT9⟩
                  case measure => simp [intOf]; omega
              · have g3 : (i : Int) < (k : Int) := by omega
                go_wp2
                go_roundw
                case rel => exact ⟨i + 1, S5, lw5, l5, by omega, by omega, by go_num, hTk⟩
                case measure => simp [intOf]; omega
      | false =>
        go_wp2_with fail
        generalize World.alloc _ _ = w3 at hX hT2 ⊢
        clear y0 y1 y2 y3
        generalize wr.heap.size = ob at hX hoP hom ⊢
        have cP := ptPut_any id hid rd s tb S (B : Int) low l w3 hT2.p (by have := hT2.len; omega)
        by_cases he : putEP (B : Int) l low id rd = 0
        · obtain ⟨hni, hroom⟩ := putEP_nil he
          have ht : putTP (B : Int) l low ⟨id, rd, s⟩ = putL l ⟨id, rd, s⟩ := by
            unfold putTP
            rw [if_pos he]
          rw [he, ht] at cP
          refine cP.mono ?_
          rintro e w4 ⟨rfl, S5, hp4, hf4, hk4⟩
          obtain ⟨m4, o4, _, _⟩ := hT2.act hp4 hf4 hk4
          have hX4 := hX.kept hk4 hoP
          have j0 := hX4.cell (i := 0) rfl
          have j1 := hX4.cell (i := 1) rfl
          have j2 := hX4.cell (i := 2) rfl
          have j3 := hX4.cell (i := 3) rfl
          have hm9 : l.length < maxLen := by have := hT2.len; unfold maxLen; omega
          obtain ⟨f0, hf0⟩ : ∃ f, Hid (opF l = f) := ⟨_, rfl⟩
          rw [hf0.out] at m4
          clear hX cP
          have hnx' : Hid _ := hnx
          have hni' : Hid _ := hni
          clear hnx hni
          go_wp2_with (at_mapUpdate; refine smap_put rfl _ _ _ 44 rfl 28 Try.underlying44 mb f0 _ rfl m4 hm9 id hid rfl _ rfl ?_; intro w5 hM5 hk5)
          rw [← hf0.out] at hM5
          have hT5 := hT2.put (x := ⟨id, rd, s⟩) hni'.out hroom hp4 hf4 hk4 hM5 hk5
          simp only at hT5
          rw [← hnx'.out] at hT5
          clear hT2 hp4 hf4 hk4 hM5 hk5 m4 hX4 j0 j1 j2 j3 hf0 ht he hnx' hni' hroom
          generalize putL l ⟨id, rd, s⟩ = l5 at hT5
          have cL := fun w h => ptLen_any tb S5 (B : Int) low l5 w h
          have hlB5 : (((B : Int) < (l5.length : Int)) = False) ∧ ((B < l5.length) = False) := by have := hT5.len; constructor <;> (simp; omega)
          obtain ⟨hlB6, hlB7⟩ := hlB5
          go_wp2_with fail
          refine (cL _ hT5.p).mono ?_
          rintro e w6 ⟨rfl, hb6⟩
          have hT6 := hT5.below hb6
          clear hT5 hb6
          go_wp2_with fail
          refine (cL _ hT6.p).mono ?_
          rintro e w7 ⟨rfl, hb7⟩
          have hT7 := hT6.below hb7
          have m7 := hT7.m
          clear hT6 hb7 cL
          obtain ⟨f7, hf7⟩ : ∃ f, Hid (opF l5 = f) := ⟨_, rfl⟩
          rw [hf7.out] at m7
          go_wp2_with (at_len; refine smap_len (by rfl) _ 44 rfl 28 Try.underlying44 mb f7 _ rfl m7 ?_)
          clear m7 hf7
          go_loopw [12] (fun v12 wk => ∃ k : Nat, k ≤ i + 1 ∧ v12 = .int .i64 (k : Int) ∧ BSt W tb mb S5 B low ((ls.take (i + 1)).map (·.id)) l5 wk) (fun v _ => i + 1 - (intOf v).toNat)
          case atStart => exact ⟨0, Nat.zero_le _, rfl, hT7⟩
          case round =>
            obtain ⟨k, hki, rfl, hTk⟩ := hrel
            clear hT7
            by_cases hk : k ≤ i
            · have g3 : (k : Int) ≤ (i : Int) := by omega
              have g4 : (k : Int) < (ls.length : Int) := by omega
              obtain ⟨⟨drk, idk, rdk, sk⟩, hok⟩ : ∃ o, ls[k]? = some o := ⟨_, List.getElem?_eq_getElem (by omega)⟩
              have hidk : idk.size ≤ maxLen := (hR.at_ _ (List.mem_of_getElem? hok)).1
              obtain ⟨gJ, offJ, eJ, hgJ, t0, t1, t2, t3⟩ := (hR.below hTk.bel).op hok
              obtain ⟨rfl, rfl⟩ : g = gJ ∧ off = offJ := by simpa using eJ
              have cG := ptGet_any idk hidk tb S5 (B : Int) low l5 wr hTk.p
              clear t0 t2 t3 eJ hgJ
              cases hgk : getR l5 idk with
              | none =>
                rw [hgk] at cG
                have hz2 : (opF l5 idk) = none := by unfold opF; rw [hgk]; rfl
                clear hgk
                simp only [gotS, gotR, Option.isSome_none] at cG
                go_wp2_with fail
                refine cG.mono ?_
                rintro e w8 ⟨rfl, hb8⟩
                have hT8 := hTk.below hb8
                obtain ⟨gJ, offJ, eJ, hgJ, t0, t1', t2, t3⟩ := (hR.below hT8.bel).op hok
                obtain ⟨rfl, rfl⟩ : g = gJ ∧ off = offJ := by simpa using eJ
                have hz := zeroOp11 w8
                have hb9 := belowNew w8 (.cells #[.bool false, .string ⟨#[]⟩, .int .i64 0, .string ⟨#[]⟩] 28)
                have hT9 := hT8.below hb9
                have m8 := hT8.m
                obtain ⟨f8, hf8⟩ : ∃ f, Hid (opF l5 = f) := ⟨_, rfl⟩
                rw [hf8.out] at m8 hz2
                clear t1 t0 t2 t3 eJ hgJ hTk hb8 hT8 hok cG
                go_wp2_with (at_lookup; refine smap_look_ok (by rfl) _ _ 44 rfl 28 Try.underlying44 _ hz mb _ _ rfl m8 idk hidk rfl ?_; rw [hz2]; simp only [Option.getD_none, Option.isSome_none])
                go_roundw
                case rel => exact ⟨k + 1, by omega, by go_num, hT9⟩
                case measure => simp [intOf]; omega
              | some x =>
                obtain ⟨xi, xr, xs⟩ := x
                rw [hgk] at cG
                have hz2 : (opF l5 idk) = some (.agg #[.bool false, .string xi, .int .i64 xr, .string xs]) := by unfold opF; rw [hgk]; rfl
                clear hgk
                simp only [gotS, gotR, Option.isSome_some] at cG
                go_wp2_with fail
                refine cG.mono ?_
                rintro e w8 ⟨rfl, hb8⟩
                have hT8 := hTk.below hb8
                obtain ⟨gJ, offJ, eJ, hgJ, t0, t1', t2, t3⟩ := (hR.below hT8.bel).op hok
                obtain ⟨rfl, rfl⟩ : g = gJ ∧ off = offJ := by simpa using eJ
                have hz := zeroOp11 w8
                have hb9 := belowNew w8 (.cells #[.bool false, .string xi, .int .i64 xr, .string xs] 28)
                have hT9 := hT8.below hb9
                have m8 := hT8.m
                obtain ⟨f8, hf8⟩ : ∃ f, Hid (opF l5 = f) := ⟨_, rfl⟩
                rw [hf8.out] at m8 hz2
                clear t1 t0 t2 t3 eJ hgJ hTk hb8 hT8 hok cG
                go_wp2_with (at_lookup; refine smap_look_ok (by rfl) _ _ 44 rfl 28 Try.underlying44 _ hz mb _ _ rfl m8 idk hidk rfl ?_; rw [hz2]; simp only [Option.getD_some, Option.isSome_some])
                go_roundw
                case rel => exact ⟨k + 1, by omega, by go_num, hT9⟩
                case measure => simp [intOf]; omega
            · have g3 : (i : Int) < (k : Int) := by omega
              go_wp2
              go_roundw
              case rel => exact ⟨i + 1, S5, low, l5, by omega, by omega, by go_num, hTk⟩
              case measure => simp [intOf]; omega
        · have ht : putTP (B : Int) l low ⟨id, rd, s⟩ = l := by
            unfold putTP
            rw [if_neg he]
          rw [ht] at cP
          obtain ⟨ee, hee⟩ : ∃ z, Hid (putEP (B : Int) l low id rd = z) := ⟨_, rfl⟩
          rw [hee.out] at cP he
          have he' : ¬ (ee : Int) = 0 := by omega
          refine cP.mono ?_
          rintro e w5 ⟨rfl, S5, hp4, hf4, hk4⟩
          obtain ⟨m4, o4, g4, b4⟩ := hT2.act hp4 hf4 hk4
          have hT5 : BSt W tb mb S5 B low ((ls.take (i + 1)).map (·.id)) l w5 := ⟨hp4, m4, o4, g4, hT2.gm, b4, hT2.len, fun x hx => by rw [hnx]; exact List.mem_append_left _ (hT2.ids x hx)⟩
          clear hT2 hp4 hf4 hk4 m4 hX ht cP b4 g4 hnx
          have cL := fun w h => ptLen_any tb S5 (B : Int) low l w h
          have hlB5 : (((B : Int) < (l.length : Int)) = False) ∧ ((B < l.length) = False) := by have := hT5.len; constructor <;> (simp; omega)
          obtain ⟨hlB6, hlB7⟩ := hlB5
          go_wp2_with fail
          refine (cL _ hT5.p).mono ?_
          rintro e w6 ⟨rfl, hb6⟩
          have hT6 := hT5.below hb6
          clear hT5 hb6
          go_wp2_with fail
          refine (cL _ hT6.p).mono ?_
          rintro e w7 ⟨rfl, hb7⟩
          have hT7 := hT6.below hb7
          have m7 := hT7.m
          clear hT6 hb7 cL
          obtain ⟨f7, hf7⟩ : ∃ f, Hid (opF l = f) := ⟨_, rfl⟩
          rw [hf7.out] at m7
          go_wp2_with (at_len; refine smap_len (by rfl) _ 44 rfl 28 Try.underlying44 mb f7 _ rfl m7 ?_)
          clear m7 hf7
          go_loopw [12] (fun v12 wk => ∃ k : Nat, k ≤ i + 1 ∧ v12 = .int .i64 (k : Int) ∧ BSt W tb mb S5 B low ((ls.take (i + 1)).map (·.id)) l wk) (fun v _ => i + 1 - (intOf v).toNat)
          case atStart => exact ⟨0, Nat.zero_le _, rfl, hT7⟩
          case round =>
            obtain ⟨k, hki, rfl, hTk⟩ := hrel
            clear hT7
            by_cases hk : k ≤ i
            · have g3 : (k : Int) ≤ (i : Int) := by omega
              have g4 : (k : Int) < (ls.length : Int) := by omega
              obtain ⟨⟨drk, idk, rdk, sk⟩, hok⟩ : ∃ o, ls[k]? = some o := ⟨_, List.getElem?_eq_getElem (by omega)⟩
              have hidk : idk.size ≤ maxLen := (hR.at_ _ (List.mem_of_getElem? hok)).1
              obtain ⟨gJ, offJ, eJ, hgJ, t0, t1, t2, t3⟩ := (hR.below hTk.bel).op hok
              obtain ⟨rfl, rfl⟩ : g = gJ ∧ off = offJ := by simpa using eJ
              have cG := ptGet_any idk hidk tb S5 (B : Int) low l wr hTk.p
              clear t0 t2 t3 eJ hgJ
              cases hgk : getR l idk with
              | none =>
                rw [hgk] at cG
                have hz2 : (opF l idk) = none := by unfold opF; rw [hgk]; rfl
                clear hgk
                simp only [gotS, gotR, Option.isSome_none] at cG
                go_wp2_with fail
                refine cG.mono ?_
                rintro e w8 ⟨rfl, hb8⟩
                have hT8 := hTk.below hb8
                obtain ⟨gJ, offJ, eJ, hgJ, t0, t1', t2, t3⟩ := (hR.below hT8.bel).op hok
                obtain ⟨rfl, rfl⟩ : g = gJ ∧ off = offJ := by simpa using eJ
                have hz := zeroOp11 w8
                have hb9 := belowNew w8 (.cells #[.bool false, .string ⟨#[]⟩, .int .i64 0, .string ⟨#[]⟩] 28)
                have hT9 := hT8.below hb9
                have m8 := hT8.m
                obtain ⟨f8, hf8⟩ : ∃ f, Hid (opF l = f) := ⟨_, rfl⟩
                rw [hf8.out] at m8 hz2
                clear t1 t0 t2 t3 eJ hgJ hTk hb8 hT8 hok cG
                go_wp2_with (at_lookup; refine smap_look_ok (by rfl) _ _ 44 rfl 28 Try.underlying44 _ hz mb _ _ rfl m8 idk hidk rfl ?_; rw [hz2]; simp only [Option.getD_none, Option.isSome_none])
                go_roundw
                case rel => exact ⟨k + 1, by omega, by go_num, hT9⟩
                case measure => simp [intOf]; omega
              | some x =>
                obtain ⟨xi, xr, xs⟩ := x
                rw [hgk] at cG
                have hz2 : (opF l idk) = some (.agg #[.bool false, .string xi, .int .i64 xr, .string xs]) := by unfold opF; rw [hgk]; rfl
                clear hgk
                simp only [gotS, gotR, Option.isSome_some] at cG
                go_wp2_with fail
                refine cG.mono ?_
                rintro e w8 ⟨rfl, hb8⟩
                have hT8 := hTk.below hb8
                obtain ⟨gJ, offJ, eJ, hgJ, t0, t1', t2, t3⟩ := (hR.below hT8.bel).op hok
                obtain ⟨rfl, rfl⟩ : g = gJ ∧ off = offJ := by simpa using eJ
                have hz := zeroOp11 w8
                have hb9 := belowNew w8 (.cells #[.bool false, .string xi, .int .i64 xr, .string xs] 28)
                have hT9 := hT8.below hb9
                have m8 := hT8.m
                obtain ⟨f8, hf8⟩ : ∃ f, Hid (opF l = f) := ⟨_, rfl⟩
                rw [hf8.out] at m8 hz2
                clear t1 t0 t2 t3 eJ hgJ hTk hb8 hT8 hok cG
                go_wp2_with (at_lookup; refine smap_look_ok (by rfl) _ _ 44 rfl 28 Try.underlying44 _ hz mb _ _ rfl m8 idk hidk rfl ?_; rw [hz2]; simp only [Option.getD_some, Option.isSome_some])
                go_roundw
                case rel => exact ⟨k + 1, by omega, by go_num, hT9⟩
                case measure => simp [intOf]; omega
            · have g3 : (i : Int) < (k : Int) := by omega
              go_wp2
              go_roundw
              case rel => exact ⟨i + 1, S5, low, l, by omega, by omega, by go_num, hTk⟩
              case measure => simp [intOf]; omega
    · have hbe := hT.bel
      rcases (by omega : ls.length ≤ i ∨ ¬ ls.length ≤ i ∧ 150 ≤ i) with g1 | ⟨g0, g1⟩
      · have g1' : (ls.length : Int) ≤ (i : Int) := by omega
        go_wp2
        go_ret
        exact ⟨rfl, hbe⟩
      · have g0' : (i : Int) < (ls.length : Int) := by omega
        have g1' : (150 : Int) ≤ (i : Int) := by omega
        go_wp2
        go_ret
        exact ⟨rfl, hbe⟩
end Go.Proofs.Ytegahpgokmcjhaa
