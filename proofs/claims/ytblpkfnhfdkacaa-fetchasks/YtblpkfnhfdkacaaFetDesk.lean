/- Something is wanted; something is got (slices.DeleteFunc over a closure). -/
import Derived.Test.YtblpkfnhfdkacaaFetTick
import Derived.Lib.SliceRun
namespace Go.Proofs.Ytblpkfnhfdkacaa
open Go Go.RowKit
set_option linter.unusedVariables false

/-- A wish more, as it lies newly. -/
theorem new_wish (n : Nat) (w : World) (id : ByteArray) (fr : List Int) (fa : Option Addr) (fc : Nat) : ∀ j u, ((wishK n).c ⟨⟨id, fr, 0, 0⟩, fa, fc⟩)[j]? = some u → (w.alloc (.cells #[.string id, .slice fa fr.length fc, .int .i64 0, .int .i64 0] 67)).cell? ((⟨w.heap.size, 0, none⟩ : Addr).add j) = some u := by
  have e : (wishK n).c ⟨⟨id, fr, 0, 0⟩, fa, fc⟩ = [.string id, .slice fa fr.length fc, .int .i64 0, .int .i64 0] := by
    show [_, _, _, _] = _
    simp [nextW, leftW]
  intro j u hu
  rw [Go.WideShapes.add_plain, Nat.zero_add]
  rw [e] at hu
  exact (Arr.new w 67 [.string id, .slice fa fr.length fc, .int .i64 0, .int .i64 0]).cell hu

/-- Behind all of it: the desk wants one more. -/
theorem PDk.more {w w2 w3 w8 : World} {db n : Nat} {q : Value} {ms : List WiM} {id : ByteArray} {fr : List Int} {fa : Option Addr} {fc : Nat} (h : PDk w db q n ms) (hb2 : Below w.heap.size w w2) (hI : KQ intK 3 w2 w.heap.size (.slice fa fr.length fc) fr) (hl : fr.length ≤ maxLen) (hb3 : Below w2.heap.size w2 w3)
    {a8 : Option Addr} {c8 : Nat} (hQ : KQ (wishK n) 67 w8 (db + 1) (.slice a8 (ms.length + 1) c8) (ms ++ [⟨⟨id, fr, 0, 0⟩, fa, fc⟩])) (hk : Kept (fun k => q.ownBlock = some k) w3 w8) (hf : Fresh w3 q (.slice a8 (ms.length + 1) c8)) (he : wantE (ms.map (·.d)) id fr.length = 0) :
    PDk (w8.setCell ⟨db, 1, none⟩ (.slice a8 (ms.length + 1) c8)) db (.slice a8 (ms.length + 1) c8) n (ms ++ [⟨⟨id, fr, 0, 0⟩, fa, fc⟩]) ∧ Kept (fun k => k = db ∨ q.ownBlock = some k) w (w8.setCell ⟨db, 1, none⟩ (.slice a8 (ms.length + 1) c8)) ∧ ∀ k, rowFoot intK fa fr k → w.heap.size ≤ k := by
  have hfoot : ∀ k, rowFoot intK fa fr k → w.heap.size ≤ k := fun k hk => KQ.foot_ge hI (Nat.le_refl _) (fun _ _ _ h => h.elim) k hk
  have h3 := (h.below hb2).below hb3
  have kS := Kept.setCell w8 ⟨db, 1, none⟩ (.slice a8 (ms.length + 1) c8)
  have hdb := h.box.lt
  have hqne : (Value.slice a8 (ms.length + 1) c8).ownBlock ≠ some db := fun e => by
    have := (hQ.lt db e).1
    omega
  refine ⟨⟨(h3.box.kept hk h3.ne).set 1 _, hQ.kept kS (fun k hk' e => hqne (by rw [← show k = db from e]; exact hk')) (fun x hx b hb e => ?_), ?_, ?_⟩, ?_, hfoot⟩
  · have e' : b = db := e
    rcases List.mem_append.1 hx with hx | hx
    · have := h.far x hx b hb; omega
    · simp at hx
      subst hx
      have := hfoot b hb
      omega
  · rw [List.map_append]
    have := h.ok.want id fr
    unfold wantL at this
    rw [if_pos he] at this
    exact this
  · intro x hx k hf'
    rcases List.mem_append.1 hx with hx | hx
    · exact h.far x hx k hf'
    · simp at hx
      subst hx
      have := hfoot k hf'
      omega
  · have b23 : Below w.heap.size w w3 := hb2.trans (hb3.mono hb2.size)
    exact ((Kept.of_below b23).trans (hk.mono (fun k _ e => Or.inr e))).trans (kS.mono (fun k _ e => Or.inl e))

theorem pd_more {w wC wK w3 w8 : World} {db n : Nat} {S : Nat → Prop} {q : Value} {ms : List WiM} {id : ByteArray} {fr : List Int} {fa : Option Addr} {fc : Nat} (h : PD w db S n (ms.map (·.d))) (h1 : PDk w db q n ms) (h3 : S db) (h4 : ∀ k, q.ownBlock = some k → S k) (h5 : ∀ x ∈ ms, ∀ k, (wishK n).foot x k → S k) (hb1 : Below w.heap.size w wC) (hb2 : Below wC.heap.size wC wK) (hI : KQ intK 3 wK wC.heap.size (.slice fa fr.length fc) fr) (hl : fr.length ≤ maxLen) (hb3 : Below wK.heap.size wK w3)
    {a8 : Option Addr} {c8 : Nat} (hQ : KQ (wishK n) 67 w8 (db + 1) (.slice a8 (ms.length + 1) c8) (ms ++ [⟨⟨id, fr, 0, 0⟩, fa, fc⟩])) (hk : Kept (fun k => q.ownBlock = some k) w3 w8) (hf : Fresh w3 q (.slice a8 (ms.length + 1) c8)) (he : wantE (ms.map (·.d)) id fr.length = 0) :
    ∃ S', PD (w8.setCell ⟨db, 1, none⟩ (.slice a8 (ms.length + 1) c8)) db S' n (ms.map (·.d) ++ [⟨id, fr, 0, 0⟩]) ∧ FreshS w S S' ∧ Kept S w (w8.setCell ⟨db, 1, none⟩ (.slice a8 (ms.length + 1) c8)) := by
  obtain ⟨p1, p2, p3⟩ := (h1.below hb1).more hb2 hI hl hb3 hQ hk hf he
  have hdb := h1.box.lt
  have z1 := hb1.size
  have z2 := hb2.size
  have z3 := hb3.size
  have hfr : FreshS w S (fun k => S k ∨ (Value.slice a8 (ms.length + 1) c8).ownBlock = some k ∨ rowFoot intK fa fr k) := by
    rintro k (e | e | e)
    · exact Or.inl e
    · rcases hf k e with e | e
      · exact Or.inl (h4 k e)
      · exact Or.inr (by omega)
    · have := p3 k e
      exact Or.inr (by omega)
  have hK : Kept S w (w8.setCell ⟨db, 1, none⟩ (.slice a8 (ms.length + 1) c8)) := (Kept.of_below hb1).trans (p2.mono (fun k _ e => e.elim (fun e => by rw [e]; exact h3) (fun e => h4 k e)))
  refine ⟨_, ⟨⟨_, _, p1, by rw [List.map_append]; rfl, Or.inl h3, fun k e => Or.inr (Or.inl e), fun x hx k e => ?_⟩, ?_, ?_⟩, hfr, hK⟩
  · rcases List.mem_append.1 hx with hx | hx
    · exact Or.inl (h5 x hx k e)
    · simp at hx
      subst hx
      exact Or.inr (Or.inr e)
  · rintro k (e | e | e)
    · exact Nat.lt_of_lt_of_le (h.lt k e) hK.size
    · exact (p1.row.lt k e).2
    · exact (wishK n).lt (p1.row.at_ ⟨⟨id, fr, 0, 0⟩, fa, fc⟩ (by simp)) e
  · rintro k (e | e | e)
    · exact h.ge k e
    · have := (hQ.lt k e).1; omega
    · have := p3 k e; omega

set_option maxRecDepth 100000 in
set_option maxHeartbeats 2000000 in
theorem pdWant_any (id : ByteArray) (fa : Option Addr) (fc : Nat) (fr : List Int) {w : World} {db : Nat} {S : Nat → Prop} {n : Nat} {L : List WiD} (h : PD w db S n L) (hR : RowAt intK w fa fr) (hl : fr.length * 8 ≤ 140737488355328) :
    Calls Try.prog 9 #[.pointer (some ⟨db, 0, none⟩), .string id, .slice fa fr.length fc] w fun e w' => ∃ S', e = .returned (.int .i64 (wantE L id fr.length : Nat)) ∧ PD w' db S' n (wantL L id fr) ∧ FreshS w S S' ∧ Kept S w w' := by
  obtain ⟨q, ms, h1, rfl, h3, h4, h5⟩ := h.ex
  have hrefl : FreshS w S S := fun k hk => Or.inl hk
  have hfew : ms.length ≤ 64 := by have := h1.ok.few; rw [List.length_map] at this; exact this
  by_cases hf0 : fr.length = 0
  · have hE : wantE (ms.map (·.d)) id fr.length = 12 := by unfold wantE; rw [if_pos hf0]
    have hL : wantL (ms.map (·.d)) id fr = ms.map (·.d) := by unfold wantL; rw [if_neg (by rw [hE]; decide)]
    rw [hE, hL]
    have g0 : (fr.length : Int) = 0 := by omega
    go_enter Try.func9, Try.ntmps9
    go_wp2
    go_ret
    exact ⟨rfl, S, h, hrefl, Kept.refl _ _⟩
  · have g0 : ¬ (fr.length : Int) = 0 := by omega
    obtain ⟨ao, cap, rfl, _, hQR⟩ := h1.row.form
    have c1 := h1.box.cell (i := 1) rfl
    have cF := isFor_any id w.drew
    have hbd : Below w.heap.size w w.drew := below_drewN (Below.refl _ _) 1
    have hrow0 := h1.row
    cases hB : hasL (ms.map (·.d)) id with
    | true =>
      have hE : wantE (ms.map (·.d)) id fr.length = 13 := by unfold wantE; rw [if_neg hf0, if_pos hB]
      have hL : wantL (ms.map (·.d)) id fr = ms.map (·.d) := by unfold wantL; rw [if_neg (by rw [hE]; decide)]
      rw [hE, hL]
      go_enter Try.func9, Try.ntmps9
      go_wp2_with fail
      go_region_law (first
        | (go_simp; go_at_call 26; refine cF.mono ?_; rintro e wF ⟨cb, rfl, hcb, hge, hcl, hbF⟩
           have h1F := (h1.below hbd).below hbF
           have c1F := h1F.box.cell (i := 1) rfl
           have cC := containsF_any n ao cap ms id cb wF (h1F.row.rowOf).1 hfew hcb hcl
           rw [hB] at cC)
        | (go_simp; go_at_call 25; refine cC.mono ?_; rintro e wC ⟨rfl, hbC⟩))
      all_goals
        have hbAll := hbd.trans ((hbF.trans (hbC.mono hbF.size)).mono hbd.size)
        have hPD := h.below hbAll
        have hKp := Kept.of_below (S := S) hbAll
        clear cC c1F h1F hcb cF h1 hrow0
        go_wp2
        go_ret
        exact ⟨S, rfl, hPD, hrefl, hKp⟩
    | false =>
      by_cases hfull : 64 ≤ ms.length
      · have hE : wantE (ms.map (·.d)) id fr.length = 4 := by unfold wantE; rw [if_neg hf0, if_neg (by rw [hB]; decide), if_pos (by rw [List.length_map]; exact hfull)]
        have hL : wantL (ms.map (·.d)) id fr = ms.map (·.d) := by unfold wantL; rw [if_neg (by rw [hE]; decide)]
        rw [hE, hL]
        have g64 : (64 : Int) ≤ (ms.length : Int) := by omega
        go_enter Try.func9, Try.ntmps9
        go_wp2_with fail
        go_region_law (first
          | (go_simp; go_at_call 26; refine cF.mono ?_; rintro e wF ⟨cb, rfl, hcb, hge, hcl, hbF⟩
             have h1F := (h1.below hbd).below hbF
             have c1F := h1F.box.cell (i := 1) rfl
             have cC := containsF_any n ao cap ms id cb wF (h1F.row.rowOf).1 hfew hcb hcl
             rw [hB] at cC)
          | (go_simp; go_at_call 25; refine cC.mono ?_; rintro e wC ⟨rfl, hbC⟩))
        all_goals
          have hbAll := hbd.trans ((hbF.trans (hbC.mono hbF.size)).mono hbd.size)
          have hPD := h.below hbAll
          have hKp := Kept.of_below (S := S) hbAll
          have c1C := (h1.below hbAll).box.cell (i := 1) rfl
          clear cC c1F h1F hcb cF h1 hrow0
          go_wp2
          go_ret
          exact ⟨S, rfl, hPD, hrefl, hKp⟩
      · have hE : wantE (ms.map (·.d)) id fr.length = 0 := wantE_ok.2 ⟨by omega, hB, by rw [List.length_map]; omega⟩
        have hL : wantL (ms.map (·.d)) id fr = ms.map (·.d) ++ [⟨id, fr, 0, 0⟩] := by unfold wantL; rw [if_pos hE]
        rw [hE, hL]
        have g64 : ¬ (64 : Int) ≤ (ms.length : Int) := by omega
        obtain ⟨i0, z0, hi0, hz0, hz1, hz2, hz3⟩ := wishInfo
        have hm1 : ms.length + 1 ≤ maxLen := by unfold maxLen; omega
        have hm2 : (ms.length + 1) * 56 ≤ 140737488355328 := by omega
        have hfl : fr.length ≤ maxLen := by unfold maxLen; omega
        have hE' : Hid _ := hE
        go_enter Try.func9, Try.ntmps9
        go_wp2_with fail
        go_region_law (first
          | (go_simp; go_at_call 26; refine cF.mono ?_; rintro e wF ⟨cb, rfl, hcb, hge, hcl, hbF⟩
             have h1F := (h1.below hbd).below hbF
             have c1F := h1F.box.cell (i := 1) rfl
             have cC := containsF_any n ao cap ms id cb wF (h1F.row.rowOf).1 hfew hcb hcl
             rw [hB] at cC)
          | (go_simp; go_at_call 25; refine cC.mono ?_; rintro e wC ⟨rfl, hbC⟩))
        all_goals
          have hbAll := hbd.trans ((hbF.trans (hbC.mono hbF.size)).mono hbd.size)
          have h1C := h1.below hbAll
          have hRC := hR.below hbAll
          have c1C := h1C.box.cell (i := 1) rfl
          have hPC : ∀ k, S k → k < w.heap.size := h.lt
          clear cC c1F h1F hcb cF c1 hE hge hcl hbF hbC hbd
          go_wp2_with fail
          have cK := cloneI_any fa fc fr wC.drew (hRC.below (below_drewN (Below.refl _ _) 1)) (by omega) hl
          have hbd2 : Below wC.heap.size wC wC.drew := below_drewN (Below.refl _ _) 1
          go_region_law (first
            | (go_simp; go_at_call 27; refine cK.mono ?_; rintro e wK ⟨fa', fc', rfl, hI, hbK⟩
               have h1K := (h1C.below hbd2).below hbK
               have c1K := h1K.box.cell (i := 1) rfl
               have hbX := belowNew wK (.cells #[.string id, .slice fa' fr.length fc', .int .i64 0, .int .i64 0] 67)
               have h1X := h1K.below hbX
               have c1X := h1X.box.cell (i := 1) rfl
               have hN1 := new_wish n wK id fr fa' fc'
               have hIX := hI.below hbX
               have hN3 : db + 1 ≤ (wK.alloc (.cells #[.string id, .slice fa' fr.length fc', .int .i64 0, .int .i64 0] 67)).heap.size := h1X.box.lt)
            | (refine step_pushF (K := wishK n) _ (by rfl) _ _ 59 (by rfl) (db + 1) 67 i0 _ 56 Try.underlying59 hi0 hz0 hz1 hz2 hz3 _ ms (by rfl) h1X.row ⟨⟨id, fr, 0, 0⟩, fa', fc'⟩ ⟨(hIX.rowOf).1, hfl, by show 0 < fr.length; omega⟩ (fun b hb e => by
                 have := KQ.foot_ge hIX (Nat.le_refl _) (fun _ _ _ h => h.elim) b hb
                 have := (h1C.row.lt b e).2
                 have hsz : wC.drew.heap.size = wC.heap.size := rfl
                 omega) ⟨wK.heap.size, 0, none⟩ 1 (by rfl) hN1 hm1 hm2 hN3 ?_
               intro ao8 cap8 w8 hQ8 hk8 hf8
               have hX8 := h1X.box.kept hk8 h1X.ne
               have c1c := hX8.cell (i := 1) rfl
               have f1c := hX8.frozen 1))
          all_goals
            have hbK2 := hbd2.trans (hbK.mono hbd2.size)
            obtain ⟨S', f1, f2, f3⟩ := pd_more h h1 h3 h4 h5 hbAll hbK2 hI hfl hbX hQ8 hk8 hf8 hE'.out
            generalize w8.setCell _ _ = w9 at f1 f3 ⊢
            clear hQ8 hk8 hf8 hX8 c1c f1c h1X c1X hN1 hIX hN3 h1K c1K hI hbK hbX cK hRC h1C c1C h1 hrow0
            go_wp2
            go_ret
            exact ⟨S', rfl, f1, f2, f3⟩
end Go.Proofs.Ytblpkfnhfdkacaa
