/- FetchRound: the walk. -/
import Derived.Test.YtblpkfnhfdkacaaFetOne
import Derived.Test.YtblpkfnhfdkacaaFetOpen
import Derived.Test.YtblpkfnhfdkacaaMapInt
namespace Go.Proofs.Ytblpkfnhfdkacaa
open Go Go.RowKit Go.Maps
set_option linter.unusedVariables false

theorem wrapI_small (n : Int) (h0 : 0 ≤ n) (h1 : n < 9223372036854775808) : IntKind.i64.wrap n = n := by
  simp [IntKind.wrap, IntKind.bits, IntKind.signed]
  omega

/-- Behind so many ticks: so often asked, so long ago. -/
def Turn (n i k g : Nat) : Prop := (k = 0 ∧ g = 0 ∧ i = 0) ∨ ∃ j, k = j + 1 ∧ g < n ∧ i = j * n + g + 1

theorem turn_tick {n i k g : Nat} {id : ByteArray} {fr : List Int} (h : Turn n i k g) (hn : 1 ≤ n) : ∃ k' g', tickW n ⟨id, fr, k, g⟩ = ⟨id, fr, k', g'⟩ ∧ Turn n (i + 1) k' g' ∧ ((dueW n ⟨id, fr, k, g⟩ = true ∧ k' = k + 1) ∨ (dueW n ⟨id, fr, k, g⟩ = false ∧ k' = k)) := by
  unfold tickW
  rcases h with ⟨rfl, rfl, rfl⟩ | ⟨j, rfl, hg, rfl⟩
  · have hd : dueW n ⟨id, fr, 0, 0⟩ = true := by unfold dueW; simp
    rw [if_pos hd]
    exact ⟨1, 0, rfl, Or.inr ⟨0, rfl, by omega, by omega⟩, Or.inl ⟨hd, rfl⟩⟩
  · by_cases hl : n ≤ g + 1
    · have hd : dueW n ⟨id, fr, j + 1, g⟩ = true := by unfold dueW; simp; omega
      rw [if_pos hd]
      exact ⟨j + 2, 0, rfl, Or.inr ⟨j + 1, rfl, by omega, by rw [Nat.add_mul]; omega⟩, Or.inl ⟨hd, rfl⟩⟩
    · have hd : dueW n ⟨id, fr, j + 1, g⟩ = false := by unfold dueW; simp; omega
      rw [if_neg (by rw [hd]; decide)]
      exact ⟨j + 1, g + 1, rfl, Or.inr ⟨j, rfl, by omega, by omega⟩, Or.inr ⟨hd, rfl⟩⟩

theorem turn_end {n k g len : Nat} (h : Turn n (n * len) k g) (hn : 1 ≤ n) : len ≤ k := by
  rcases h with ⟨rfl, _, h⟩ | ⟨j, rfl, hg, h⟩
  · rcases Nat.mul_eq_zero.1 h with h | h <;> omega
  · refine Nat.le_of_not_lt fun hl => ?_
    have h1 : n * (j + 1) ≤ n * len - n := by
      have : n * (j + 1 + 1) ≤ n * len := Nat.mul_le_mul_left n hl
      rw [Nat.mul_add n (j + 1) 1] at this
      omega
    rw [Nat.mul_add, Nat.mul_comm n j] at h1
    omega

/-- Who was asked. -/
def AskedF (fr : List Int) (k : Nat) (f : Int → Option Value) : Prop := ∀ j v, j < k → fr[j]? = some v → f v = some (.bool true)

theorem AskedF.next {fr : List Int} {k : Nat} {f f' : Int → Option Value} {id : ByteArray} {g : Nat} (h : AskedF fr k f) (hm : ∀ v, f v = some (.bool true) → f' v = some (.bool true)) (ha : f' (askW ⟨id, fr, k, g⟩).to = some (.bool true)) : AskedF fr (k + 1) f' := by
  intro j v hj hv
  by_cases hjk : j < k
  · exact hm v (h j v hjk hv)
  · obtain rfl : j = k := by omega
    have hl := (List.getElem?_eq_some_iff.1 hv).1
    have e : (askW ⟨id, fr, j, g⟩).to = v := by
      unfold askW
      show (fr[j % fr.length]?).getD 0 = v
      rw [Nat.mod_eq_of_lt hl, hv]
      rfl
    rw [e] at ha
    exact ha

set_option maxRecDepth 100000 in
set_option maxHeartbeats 4000000 in
theorem fetchRound_walk (retry : Int) (ao : Option Addr) (cap : Nat) (fr : List Int) (W : World) (_ : (Lit.int .i64 retry).wf = true) (hR0 : RowAt intwK W ao fr) (hl : fr.length ≤ maxLen) (hl8 : fr.length * 8 ≤ 140737488351232) :
    Calls Try.prog 4 #[.int .i64 retry, .slice ao fr.length cap] W fun e w' => e = .returned (.bool true) ∧ Below W.heap.size W w' := by
  have hwf : Hid (∀ v ∈ fr, (Lit.int .i64 v).wf = true) := fun v hv => hR0.at_ v hv
  have hR := hR0.ints
  clear hR0
  obtain ⟨m, hm, hme⟩ := pick_atC retry 20 (by omega) (by omega)
  have hme' : Hid (wrap64 ((IntKind.u64.wrap retry).tmod 20) = (m : Int)) := hme
  have hme2 : Hid (wrap64 (1 + wrap64 ((IntKind.u64.wrap retry).tmod 20)) = ((1 + m : Nat) : Int)) := by
    show _ = _
    rw [hme'.out, Mx.wrap64_small _ (by omega) (by omega)]
    omega
  clear hme hme'
  obtain ⟨n, hn⟩ : ∃ N : Nat, N = 1 + m := ⟨_, rfl⟩
  rw [← hn] at hme2
  have hn1 : 1 ≤ n := by omega
  have hn2 : n ≤ 20 := by omega
  clear hn hm
  have cW := works19_any W
  have cN := fun w => pdNew_yes n w hn1 (by omega)
  go_enter Try.func4, Try.ntmps4
  go_wp2_with fail
  refine cW.mono ?_
  rintro e w0 ⟨rfl, hb0⟩
  clear cW
  by_cases hsz : 0 < fr.length ∧ fr.length ≤ 20
  · obtain ⟨hp, h20⟩ := hsz
    have g1 : ¬ fr = [] := fun e => by rw [e] at hp; simp at hp
    have g2 : ¬ (20 : Int) < (fr.length : Int) := by omega
    have g3 : ((fr.length : Int) == 0) = false := by rw [beq_eq_false_iff_ne]; omega
    have g4 : decide ((20 : Int) < (fr.length : Int)) = false := decide_eq_false g2
    go_wp2_with fail
    rw [hme2.out]
    refine (cN w0).mono ?_
    rintro e w1 ⟨rfl, h1, hb1⟩
    have hO : One19 W w1 w0.heap.size (fun k => k = w0.heap.size) n [] := ⟨h1, hb0.size, hb0.trans (hb1.mono hb0.size)⟩
    clear cN h1 hb1 hme2
    generalize w0.heap.size = db at hO ⊢
    obtain ⟨i0, z0, hi0, hz0, hz1, hz2, hz3⟩ := intInfo19
    have hbx := belowNew w1 (.cells #[] 3)
    have hO1 := hO.below hbx
    have hR2 := hR.below hO1.bel
    have hQ : KQ intK 3 (w1.alloc (.cells #[] 3)) w1.heap.size (.slice (some ⟨w1.heap.size, 0, none⟩) 0 0) [] := KQ.made w1 _ (Nat.le_refl _)
    have m2 : fr.length * 8 ≤ 140737488355328 := by omega
    have hbs := hbx.size
    go_wp2_with (at_builtin; refine wpList_joinsG (K := intK) (by rfl) _ _ 30 rfl w1.heap.size 3 i0 _ 8 Try.underlying30 hi0 hz0 hz1 hz2 hz3 _ fr rfl hQ (fun _ _ h => h.elim) ao cap rfl hR2 hl m2 hbs ?_)
    intro ao3 cap3 w3 hI3 hk3
    have hB13 := hbx.trans (hk3.below hbs (fun k e => (hQ.lt k e).1))
    have hO3 := hO.below hB13
    have hRI := (hI3.rowOf).1
    have hE : wantE [] ⟨#[97]⟩ fr.length = 0 := wantE_ok.2 ⟨hp, rfl, by decide⟩
    have cK := pdWant_any ⟨#[97]⟩ ao3 cap3 fr hO3.pd hRI (by omega)
    have hL : wantL [] ⟨#[97]⟩ fr = [⟨⟨#[97]⟩, fr, 0, 0⟩] := by unfold wantL; rw [if_pos hE]; rfl
    rw [hE, hL] at cK
    clear hI3 hk3 hQ hbx hO hO1 hR2 hB13 hE hL
    go_wp2_with fail
    refine cK.mono ?_
    rintro e w4 ⟨S4, rfl, h4, _, hk4⟩
    have hO4 := hO3.step h4 hk4
    clear cK h4 hk4 hO3 hRI
    have hmm := @run_makeMap Try.prog
    have hM0 := IMap.new w4
    have hbM := belowNew w4 (.map #[] 0)
    have hO5 := hO4.below hbM
    have hmS : ¬ S4 w4.heap.size := fun e => by have := hO4.pd.lt _ e; omega
    have hmW : W.heap.size ≤ w4.heap.size := hO4.bel.size
    have h400 : n * fr.length ≤ 400 := by
      have : n * fr.length ≤ 20 * 20 := Nat.mul_le_mul hn2 h20
      omega
    have hcast : Hid (((n : Int)) * (fr.length : Int) = ((n * fr.length : Nat) : Int)) := by show _ = _; simp
    clear hO4 hbM
    go_wp2_with fail
    generalize w4.heap.size = mb at hM0 hmS hmW ⊢
    generalize w4.alloc (.map #[] 0) = w5 at hM0 hO5 ⊢
    clear hmm
    go_loopw [8] (fun v8 wr => ∃ (i k g N : Nat) (f : Int → Option Value), i ≤ n * fr.length ∧ v8 = .int .i64 (i : Int) ∧ Turn n i k g ∧ One19 W wr db S4 n [⟨⟨#[97]⟩, fr, k, g⟩] ∧ IMap wr mb f N ∧ N ≤ i ∧ AskedF fr k f) (fun v _ => n * fr.length - (intOf v).toNat)
    case atStart => exact ⟨0, 0, 0, 0, _, Nat.zero_le _, rfl, Or.inl ⟨rfl, rfl, rfl⟩, hO5, hM0, Nat.le_refl _, fun j v hj => (by omega)⟩
    case round =>
      obtain ⟨i, k, g, N, f, hi, rfl, hT, hO, hM, hN, hF⟩ := hrel
      clear hO5 hM0
      have hw0 : Hid (wrap64 ((n : Int) * (fr.length : Int)) = (n : Int) * (fr.length : Int)) := Mx.wrap64_small ((n : Int) * (fr.length : Int)) (by rw [hcast.out]; omega) (by rw [hcast.out]; omega)
      by_cases hlt : i < n * fr.length
      · have g5 : (i : Int) < (n : Int) * (fr.length : Int) := by rw [hcast.out]; omega
        have cT := pdTick_any hO.pd
        obtain ⟨k', g', t1, t2, t3⟩ := turn_tick (id := ⟨#[97]⟩) (fr := fr) hT hn1
        have t4 : [(⟨⟨#[97]⟩, fr, k, g⟩ : WiD)].map (tickW n) = [⟨⟨#[97]⟩, fr, k', g'⟩] := by rw [List.map_singleton, t1]
        rw [t4] at cT
        have hwA : Hid (∀ y ∈ asksL n [⟨⟨#[97]⟩, fr, k, g⟩], (Lit.int .i64 y.to).wf = true) := fun y hy => by
          unfold asksL at hy
          obtain ⟨x, hx, rfl⟩ := List.mem_map.1 hy
          have hx' := (List.mem_filter.1 hx).1
          simp at hx'
          subst hx'
          obtain ⟨v, hv⟩ : ∃ v, fr[k % fr.length]? = some v := ⟨_, List.getElem?_eq_getElem (Nat.mod_lt _ hp)⟩
          have e : (askW ⟨⟨#[97]⟩, fr, k, g⟩).to = v := by
            unfold askW
            show (fr[k % fr.length]?).getD 0 = v
            rw [hv]
            rfl
          rw [e]
          exact hwf.out v (List.mem_of_getElem? hv)
        have hlA : (asksL n [⟨⟨#[97]⟩, fr, k, g⟩]).length ≤ 1 := by
          unfold asksL
          rw [List.length_map]
          exact List.length_filter_le _ _
        have hF' : Hid (∀ f' : Int → Option Value, (∀ v, f v = some (.bool true) → f' v = some (.bool true)) → (∀ y ∈ asksL n [⟨⟨#[97]⟩, fr, k, g⟩], f' y.to = some (.bool true)) → AskedF fr k' f') := fun f' q1 q2 => by
          rcases t3 with ⟨d, rfl⟩ | ⟨d, rfl⟩
          · refine hF.next (id := ⟨#[97]⟩) (g := g) q1 (q2 _ ?_)
            unfold asksL
            rw [List.filter_cons_of_pos d]
            simp
          · exact fun j v hj hv => q1 v (hF j v hj hv)
        obtain ⟨A, hA⟩ : ∃ A, Hid (asksL n [⟨⟨#[97]⟩, fr, k, g⟩] = A) := ⟨_, rfl⟩
        rw [hA.out] at cT hwA hlA hF'
        clear t1 t3 t4 hF hT hA
        have hw : ∀ m : Int, m = (fr.length : Int) → wrap64 ((n : Int) * m) = (n : Int) * m := fun m e => by rw [e]; exact hw0.out
        go_wp2_with fail
        clear hw
        refine cT.mono ?_
        rintro e w6 ⟨aA, cA, rfl, hKA, h6, hk6⟩
        have hO6 := hO.step h6 hk6
        have hM6 := hM.kept hk6 hmS
        have hRA := (hKA.rowOf).1
        have hAg : ∀ b, rowFoot askK aA A b → b ≠ mb := fun b hb e => by
          have := KQ.foot_ge hKA (Nat.le_refl _) (fun _ _ _ h => h.elim) b hb
          have := hM.lt
          omega
        clear cT h6 hk6 hKA hO hM
        go_wp2_with fail
        go_loopw [10] (fun v10 wz => ∃ (q N' : Nat) (f' : Int → Option Value), q ≤ A.length ∧ v10 = .int .i64 (q : Int) ∧ One19 W wz db S4 n [⟨⟨#[97]⟩, fr, k', g'⟩] ∧ IMap wz mb f' N' ∧ N' ≤ N + q ∧ RowAt askK wz aA A ∧ (∀ v, f v = some (.bool true) → f' v = some (.bool true)) ∧ (∀ y ∈ A.take q, f' y.to = some (.bool true))) (fun v _ => A.length - (intOf v).toNat)
        case atStart => exact ⟨0, N, f, Nat.zero_le _, rfl, hO6, hM6, Nat.le_refl _, hRA, fun _ h => h, fun y hy => by simp at hy⟩
        case round =>
          obtain ⟨q, N', f', hq, rfl, hO7, hM7, hN7, hR7, p1, p2⟩ := hrel
          clear hO6 hM6 hRA
          by_cases hqA : q < A.length
          · have g6 : (q : Int) < (A.length : Int) := by omega
            obtain ⟨y, hy⟩ : ∃ y, A[q]? = some y := ⟨_, List.getElem?_eq_getElem hqA⟩
            have hyw := hwA.out y (List.mem_of_getElem? hy)
            obtain ⟨b, off, rfl, _, y0, y1⟩ := hR7.ask hy
            have hmx : N' < maxLen := by unfold maxLen; omega
            go_wp2_with (refine imap_put rfl _ _ _ 48 rfl 4 Try.underlying48 mb f' N' rfl hM7 hmx y.to hyw rfl (.bool true) rfl ?_)
            intro w8 hM8 hk8
            have hO8 := hO7.kept hk8 (fun k e => by rw [show k = mb from e]; exact hmW) (fun k e e' => hmS (by rw [← show k = mb from e']; exact e))
            have hR8 := hR7.kept hk8 (fun b hb e => hAg b hb e)
            have hN8 : putNI f' y.to N' ≤ N + (q + 1) := by unfold putNI; split <;> omega
            have p1' : ∀ v, f v = some (.bool true) → putFI f' y.to (.bool true) v = some (.bool true) := fun v hv => by
              unfold putFI
              split
              · rfl
              · exact p1 v hv
            have p2' : ∀ z ∈ A.take (q + 1), putFI f' y.to (.bool true) z.to = some (.bool true) := fun z hz => by
              unfold putFI
              split
              · rfl
              · rename_i hne
                rw [List.take_add_one, hy] at hz
                rcases List.mem_append.1 hz with hz | hz
                · exact p2 z hz
                · simp at hz
                  rw [hz] at hne
                  exact absurd rfl hne
            clear hO7 hM7 hR7 hk8 y0 y1 p1 p2
            go_wp2
            go_roundw
            case rel => exact ⟨q + 1, _, _, by omega, by go_num, hO8, hM8, hN8, hR8, p1', p2'⟩
            case measure => simp [intOf]; omega
          · obtain rfl : q = A.length := by omega
            have g6 : ¬ ((A.length : Nat) : Int) < (A.length : Int) := by omega
            rw [List.take_length] at p2
            have hF2 := hF'.out f' p1 p2
            clear hR7 p1 p2
            go_wp2
            go_roundw
            case rel => exact ⟨i + 1, k', g', N', f', by omega, by go_num, t2, hO7, hM7, by omega, hF2⟩
            case measure => simp [intOf]; omega
      · obtain rfl : i = n * fr.length := by omega
        have g5 : ¬ ((n * fr.length : Nat) : Int) < (n : Int) * (fr.length : Int) := by rw [hcast.out]; omega
        have hlk := turn_end hT hn1
        have hall : Hid (∀ v ∈ fr, f v = some (.bool true)) := fun v hv => by
          obtain ⟨j, hj⟩ := List.getElem?_of_mem hv
          exact hF j v (Nat.lt_of_lt_of_le (List.getElem?_eq_some_iff.1 hj).1 hlk) hj
        clear hT hF
        have hzb : ∀ w : World, (zeroValue 4).run Try.prog w = .ok (.bool false) w := fun w => rfl
        have hw : ∀ m : Int, m = (fr.length : Int) → wrap64 ((n : Int) * m) = (n : Int) * m := fun m e => by rw [e]; exact hw0.out
        go_wp2_with fail
        clear hw
        go_loopw [11] (fun v11 wz => ∃ q : Nat, q ≤ fr.length ∧ v11 = .int .i64 (q : Int) ∧ wz = wr) (fun v _ => fr.length - (intOf v).toNat)
        case atStart => exact ⟨0, Nat.zero_le _, rfl, rfl⟩
        case round =>
          obtain ⟨q, hq, rfl, rfl⟩ := hrel
          by_cases hqf : q < fr.length
          · have g6 : (q : Int) < (fr.length : Int) := by omega
            obtain ⟨v, hv⟩ : ∃ v, fr[q]? = some v := ⟨_, List.getElem?_eq_getElem hqf⟩
            have hvm := List.mem_of_getElem? hv
            have hvw := hwf.out v hvm
            have hvf : Hid ((f v).getD (.bool false) = .bool true) := by show _ = _; rw [hall.out v hvm]; rfl
            obtain ⟨b, off, rfl, _, y0⟩ := (hR.below hO.bel).int hv
            have hz := hzb wr
            go_wp2_with (at_lookup; refine imap_look (by rfl) _ _ 48 rfl 4 Try.underlying48 _ hz mb _ _ rfl hM v hvw rfl ?_; rw [hvf.out])
            go_roundw
            case rel => exact ⟨q + 1, by omega, by simp⟩
            case measure => simp [intOf]; omega
          · obtain rfl : q = fr.length := by omega
            have g6 : ¬ ((fr.length : Nat) : Int) < (fr.length : Int) := by omega
            have cG := pdGot_any ⟨#[97]⟩ hO.pd
            have e1 : hasL [(⟨⟨#[97]⟩, fr, k, g⟩ : WiD)] ⟨#[97]⟩ = true := hasL_iff.2 ⟨_, List.mem_singleton.2 rfl, rfl⟩
            have e2 : gotL [(⟨⟨#[97]⟩, fr, k, g⟩ : WiD)] ⟨#[97]⟩ = [] := by unfold gotL; simp
            rw [e1, e2] at cG
            clear e1 e2 hM hall hzb
            go_wp2_with fail
            refine cG.mono ?_
            rintro e wa ⟨rfl, ha, hka⟩
            have hOa := hO.step ha hka
            have cG2 := pdGot_any ⟨#[97]⟩ hOa.pd
            have e1 : hasL [] ⟨#[97]⟩ = false := rfl
            have e2 : gotL [] ⟨#[97]⟩ = [] := rfl
            rw [e1, e2] at cG2
            clear e1 e2 cG ha hka hO
            go_wp2_with fail
            refine cG2.mono ?_
            rintro e wb ⟨rfl, hb, hkb⟩
            have hOb := hOa.step hb hkb
            clear cG2 hb hkb hOa
            go_wp2_with fail
            go_loopw [12] (fun v12 wz => ∃ q : Nat, q ≤ n ∧ v12 = .int .i64 (q : Int) ∧ One19 W wz db S4 n []) (fun v _ => n - (intOf v).toNat)
            case atStart => exact ⟨0, Nat.zero_le _, rfl, hOb⟩
            case round =>
              obtain ⟨q, hq, rfl, hOc⟩ := hrel
              clear hOb
              by_cases hqn : q < n
              · have g7 : (q : Int) < (n : Int) := by omega
                have cT := pdTick_any hOc.pd
                have e1 : asksL n [] = [] := rfl
                have e2 : ([] : List WiD).map (tickW n) = [] := rfl
                rw [e1, e2] at cT
                clear e1 e2
                go_wp2_with fail
                refine cT.mono ?_
                rintro e wd ⟨ad, cd, rfl, _, hd, hkd⟩
                have hOd := hOc.step hd hkd
                clear cT hd hkd hOc
                go_wp2
                go_roundw
                case rel => exact ⟨q + 1, by omega, by go_num, hOd⟩
                case measure => simp [intOf]; omega
              · obtain rfl : q = n := by omega
                have g7 : ¬ (q : Int) < (q : Int) := by omega
                have cX := pdWants_any hOc.pd
                go_wp2_with fail
                refine cX.mono ?_
                rintro e we ⟨ae, ce, rfl, _, hbe⟩
                have hbF := hOc.bel.trans (hbe.mono hOc.bel.size)
                clear cX hbe hOc
                go_wp2
                go_ret
                exact ⟨rfl, hbF⟩
  · clear cN hme2
    by_cases g1 : fr = []
    · subst g1
      go_wp2
      go_ret
      exact ⟨rfl, hb0⟩
    · have hp := List.length_pos_iff.2 g1
      have g2 : (20 : Int) < (fr.length : Int) := by omega
      clear hp
      go_wp2
      go_ret
      exact ⟨rfl, hb0⟩
end Go.Proofs.Ytblpkfnhfdkacaa
