/- Texts as one: AuthRefWire, RefAuthNew, RefAuthSign, RefAuthCheck, RefAuthEnough. -/
import Derived.Test.YtbikabjogacfkaaDoorAuthAll
import Derived.Deep.RegionWith
import Derived.Test.YtbikabjogacfkaaDoorRefMixAll
/- What tuskref01.Int does: the same bytes of a number; nothing old in memory is turned. -/
namespace Go.Proofs.YtbikabjogacfkaaDoor.Mx
open Go.RowKit

theorem bcell {W w1 : World} (hb : Below W.heap.size W w1) : ∀ b o, b < W.heap.size → w1.cell? ⟨b, o, none⟩ = W.cell? ⟨b, o, none⟩ :=
  fun b o h => hb.cell (p := ⟨b, o, none⟩) h

theorem conv_byte {w : World} {b : Nat} {x : Nat} (hx : x < 256) (h : w.cell? ⟨b, 0, none⟩ = some (.int .u8 (x : Int))) :
    (convert 92 9 (.slice (some ⟨b, 0, none⟩) 1 1)).run Tryd.prog w = .ok (.string ⟨#[UInt8.ofNat x]⟩) w := by
  have := run_convert_bytes_back w 92 9 5 ⟨b, 0, none⟩ 1 [UInt8.ofNat x] Tryd.underlying92 Tryd.underlying5 Tryd.underlying9 (fun j hj => by
    have : j = 0 := by simp at hj; omega
    subst this
    have e : (UInt8.ofNat x).toNat = x := by simp; omega
    simp only [List.getElem_cons_zero, e]
    simpa [Addr.add] using h)
  exact this

set_option maxRecDepth 100000 in
set_option maxHeartbeats 1000000 in
theorem refInt_no (n : Int) (w : World) (h : n < 0 ∨ 4611686018427387903 < n) :
    Calls Tryd.prog 44 #[.int .i64 n] w fun e w' => e = .returned (.string ⟨#[]⟩) ∧ w' = w := by
  rcases h with h | h
  · go_enter Tryd.func44, Tryd.ntmps44
    go_wp2
    go_ret
    exact ⟨rfl, rfl⟩
  · have h0 : ¬ n < 0 := by omega
    go_enter Tryd.func44, Tryd.ntmps44
    go_wp2
    go_ret
    exact ⟨rfl, rfl⟩

set_option maxRecDepth 100000 in
set_option maxHeartbeats 1000000 in
theorem refInt_small (n : Nat) (w : World) (h : n < 128) :
    Calls Tryd.prog 44 #[.int .i64 n] w fun e w' => e = .returned (.string ⟨(enc n).toArray⟩) ∧ Below w.heap.size w w' := by
  have h0 : ¬ (n : Int) < 0 := by omega
  have h1 : ¬ (4611686018427387903 : Int) < n := by omega
  have h2 : (n : Int) < 128 := by omega
  have hcv : ∀ (w : World) (b : Nat), w.cell? ⟨b, 0, none⟩ = some (.int .u8 (n : Int)) → (convert 92 9 (.slice (some ⟨b, 0, none⟩) 1 1)).run Tryd.prog w = .ok (.string ⟨#[UInt8.ofNat n]⟩) w := fun w b hc => conv_byte (by omega) hc
  have HE : Hid (enc n = [UInt8.ofNat n]) := enc_small n h
  go_enter Tryd.func44, Tryd.ntmps44
  go_wp2
  go_ret
  exact ⟨by rw [HE.out]; rfl, (Below.refl _ _).alloc (Nat.le_refl _) _⟩

set_option maxRecDepth 100000 in
set_option maxHeartbeats 1000000 in
theorem refInt_big (n : Nat) (w : World) (h : 128 ≤ n) (hn : n ≤ 4611686018427387903)
    (ih : ∀ w, Calls Tryd.prog 44 #[.int .i64 ((n / 128 : Nat) : Int)] w fun e w' => e = .returned (.string ⟨(enc (n / 128)).toArray⟩) ∧ Below w.heap.size w w') :
    Calls Tryd.prog 44 #[.int .i64 n] w fun e w' => e = .returned (.string ⟨(enc n).toArray⟩) ∧ Below w.heap.size w w' := by
  have h0 : ¬ (n : Int) < 0 := by omega
  have h1 : ¬ (4611686018427387903 : Int) < n := by omega
  have h2 : ¬ (n : Int) < 128 := by omega
  obtain ⟨r, hr⟩ : ∃ r, r = n % 128 := ⟨_, rfl⟩
  obtain ⟨c, hc⟩ : ∃ c, c = 128 + r := ⟨_, rfl⟩
  obtain ⟨m, hm⟩ : ∃ m, m = n / 128 := ⟨_, rfl⟩
  have e1 : (n : Int).tmod 128 = (r : Int) := by rw [Int.tmod_eq_emod_of_nonneg (by omega)]; omega
  have e2 : IntKind.i64.wrap (128 + (r : Int)) = (c : Int) := by simp [IntKind.wrap, IntKind.bits, IntKind.signed]; omega
  have e3 : IntKind.u8.wrap (c : Int) = (c : Int) := by rw [IntKind.wrap_u8']; omega
  have e4 : IntKind.i64.wrap ((n : Int) / 128) = (m : Int) := by simp [IntKind.wrap, IntKind.bits, IntKind.signed]; omega
  have hcv : ∀ (w : World) (b : Nat), w.cell? ⟨b, 0, none⟩ = some (.int .u8 (c : Int)) → (convert 92 9 (.slice (some ⟨b, 0, none⟩) 1 1)).run Tryd.prog w = .ok (.string ⟨#[UInt8.ofNat c]⟩) w := fun w b hc => conv_byte (by omega) hc
  have HE : Hid (enc n = UInt8.ofNat c :: enc m) := by
    show _ = _
    rw [hc, hr, hm]; exact enc_big n h
  have IH : Hid (∀ w, Calls Tryd.prog 44 #[.int .i64 (m : Int)] w fun e w' => e = .returned (.string ⟨(enc m).toArray⟩) ∧ Below w.heap.size w w') := by
    rw [hm]; exact ih
  have hl := enc_length_nine m (by omega)
  clear ih hr hc hm
  generalize enc m = tl at *
  have e5 : (⟨#[UInt8.ofNat c]⟩ ++ ⟨tl.toArray⟩ : ByteArray) = ⟨(enc n).toArray⟩ := by
    rw [HE.out]; exact ByteArray.mk_append_mk [UInt8.ofNat c] tl
  go_enter Tryd.func44, Tryd.ntmps44
  go_wp2_with fail
  go_region_with (go_at_call 44; refine (IH.out _).mono ?_; rintro e w' ⟨rfl, hb⟩; have hcl := bcell hb)
  · have hbw : Below w.heap.size w w' := (((Below.refl _ w).alloc (Nat.le_refl _) _).drew).trans (hb.mono (by simp))
    clear hb hcl
    go_wp2
    go_ret
    exact ⟨rfl, hbw⟩
  · have hbw : Below w.heap.size w w' := (((Below.refl _ w).alloc (Nat.le_refl _) _).drew).trans (hb.mono (by simp))
    clear hb hcl
    go_wp2
    go_ret
    exact ⟨rfl, hbw⟩
  · have hbw : Below w.heap.size w w' := ((Below.refl _ w).drew).trans hb
    clear hb hcl
    go_wp2
    go_ret
    exact ⟨rfl, hbw.alloc hbw.size _⟩

theorem refInt_yes : ∀ (n : Nat) (w : World), n ≤ 4611686018427387903 →
    Calls Tryd.prog 44 #[.int .i64 n] w fun e w' => e = .returned (.string ⟨(enc n).toArray⟩) ∧ Below w.heap.size w w' := by
  intro n
  induction n using Nat.strongRecOn with
  | _ n ih =>
    intro w hn
    by_cases h : n < 128
    · exact refInt_small n w h
    · exact refInt_big n w (by omega) hn (fun w => ih (n / 128) (by omega) w (by omega))

theorem refInt_any (n : Int) (w : World) :
    Calls Tryd.prog 44 #[.int .i64 n] w fun e w' => e = .returned (.string ⟨(goInt n).toArray⟩) ∧ Below w.heap.size w w' := by
  by_cases h : 0 ≤ n ∧ n ≤ 4611686018427387903
  · obtain ⟨m, rfl⟩ := Int.eq_ofNat_of_zero_le h.1
    have e : goInt (m : Int) = enc m := by rw [goInt, if_pos h]; simp
    rw [e]
    exact refInt_yes m w (by omega)
  · have e : goInt n = [] := by rw [goInt, if_neg h]
    rw [e]
    refine (refInt_no n w (by omega)).mono ?_
    rintro e w' ⟨rfl, rfl⟩
    exact ⟨rfl, Below.refl _ _⟩
set_option maxRecDepth 100000 in
set_option maxHeartbeats 400000 in
theorem refText_any (s : ByteArray) (w : World) (hs : s.size ≤ 140737488351232000) :
    Calls Tryd.prog 62 #[.string s] w fun e w' => e = .returned (.string ⟨(txt s.data.toList).toArray⟩) ∧ Below w.heap.size w w' := by
  have hg := goInt_length s.size
  have e1 : ∀ l : List UInt8, l = goInt s.size → Value.string (⟨l.toArray⟩ ++ s) = Value.string ⟨(txt s.data.toList).toArray⟩ := by
    rintro l rfl
    rw [append_list, txt]
    simp
  go_enter Tryd.func62, Tryd.ntmps62
  go_wp2_with fail
  refine (refInt_any _ _).mono ?_
  rintro e w' ⟨rfl, hb⟩
  obtain ⟨l, hl⟩ : ∃ l, l = goInt s.size := ⟨_, rfl⟩
  rw [← hl] at hg ⊢
  have E := e1 l hl
  clear e1 hl
  go_wp2
  go_ret
  exact ⟨rfl, hb⟩

end Go.Proofs.YtbikabjogacfkaaDoor.Mx

/- What tuskref03.New does: a table in new memory, or none; nothing old in memory is turned. -/
namespace Go.Proofs.YtbikabjogacfkaaDoor.Mx
open Go.RowKit Go.Sort
set_option linter.unusedVariables false

set_option maxRecDepth 100000 in
theorem refNew_range (f : Int) (seed : ByteArray) (w : World) (h : f < 1 ∨ 2 < f) :
    Calls Tryd.prog 25 #[.int .i64 f, .string seed] w fun e w' => e = .returned (.tuple #[.pointer none, .int .i64 2]) ∧ w' = w := by
  by_cases h1 : f < 1
  · go_enter Tryd.func25, Tryd.ntmps25
    go_wp2
    go_ret2
    exact ⟨rfl, rfl⟩
  · have h2 : 2 < f := by omega
    go_enter Tryd.func25, Tryd.ntmps25
    go_wp2
    go_ret2
    exact ⟨rfl, rfl⟩

set_option maxRecDepth 100000 in
theorem refNew_long (f : Int) (seed : ByteArray) (w : World) (h1 : ¬ f < 1) (h2 : ¬ 2 < f) (hs : (32 : Int) < (seed.size : Int)) :
    Calls Tryd.prog 25 #[.int .i64 f, .string seed] w fun e w' => e = .returned (.tuple #[.pointer none, .int .i64 8]) ∧ w' = w := by
  go_enter Tryd.func25, Tryd.ntmps25
  go_wp2
  go_ret2
  exact ⟨rfl, rfl⟩

set_option maxRecDepth 100000 in
set_option maxHeartbeats 400000 in
theorem refNew_yes (f : Nat) (seed : ByteArray) (w : World) (h1 : 1 ≤ f) (h2 : f ≤ 2) (hs : seed.size ≤ 32) (hG : Glob w) :
    Calls Tryd.prog 25 #[.int .i64 (f : Int), .string seed] w fun e w' => ∃ b, e = .returned (.tuple #[.pointer (some ⟨b, 0, none⟩), .int .i64 0]) ∧ w.heap.size ≤ b ∧ TabAt w' b f (keysL seed (3 * f + 1)) ∧ Below w.heap.size w w' := by
  obtain ⟨i0, hi, hz0, hz1, hz2⟩ := info_parts infoStr
  have h1' : ¬ (f : Int) < 1 := by omega
  have h2' : ¬ (2 : Int) < (f : Int) := by omega
  have hs' : ¬ (32 : Int) < (seed.size : Int) := by omega
  go_enter Tryd.func25, Tryd.ntmps25
  have hA := Arr.new w 86 [.int .i64 (f : Int), .slice none 0 0]
  have hB := (Below.refl w.heap.size w).alloc (Nat.le_refl _) (.cells #[.int .i64 (f : Int), .slice none 0 0] 86)
  obtain ⟨n, hn⟩ : ∃ n, Hid (n = 3 * f + 1) := ⟨_, rfl⟩
  have hn7 : n ≤ 7 := by have := hn.out; omega
  go_wp2
  go_loopw [7] (fun v22 wr => ∃ (i : Nat) (v : Value), i ≤ n ∧ v22 = .int .i64 (i : Int) ∧ Arr wr w.heap.size 86 [.int .i64 (f : Int), v] ∧ wr.ownsRow (w.heap.size + 1) 9 1 v i ((keysL seed i).map Value.string) ∧ Below w.heap.size w wr) (fun v22 _ => n - (intOf v22).toNat)
  case atStart => exact ⟨0, .slice none 0 0, Nat.zero_le _, rfl, hA, World.ownsRow_nil _ _ _ _, hB⟩
  case round =>
    clear hA hB
    obtain ⟨i, v, hin, rfl, hA, hown, hB⟩ := hrel
    by_cases hlt : i < n
    · have h1 : (i : Int) ≤ 3 * (f : Int) := by have := hn.out; omega
      have c1 := hA.cell (i := 1) (v := v) rfl
      have f1 := hA.frozen 1
      obtain ⟨nb, hnb⟩ : ∃ z, Hid (z = (⟨(goInt (i : Int)).toArray⟩ : ByteArray)) := ⟨_, rfl⟩
      obtain ⟨kk, hkk⟩ : ∃ z, Hid (z = keyOf seed i) := ⟨_, rfl⟩
      have hnl : nb.size ≤ 9 := by rw [hnb.out, ByteArray.size_mk']; exact goInt_length _
      have cI : Hid (∀ w1, Calls Tryd.prog 44 #[.int .i64 (i : Int)] w1 fun e w2 => e = .returned (.string nb) ∧ Below w1.heap.size w1 w2) := by
        intro w1
        rw [hnb.out]
        exact refInt_any _ _
      have cK : Hid (∀ w1, Glob w1 → Calls Tryd.prog 43 #[.string seed, .string nb] w1 fun e w2 => e = .returned (.string kk) ∧ Below w1.heap.size w1 w2) := by
        intro w1 hg
        have h := refKeyed_any seed nb w1 (by omega) (by omega)
        have he : bytes (keyedL seed.data.toList nb.data.toList) = kk := by rw [hkk.out, hnb.out]; rfl
        rw [he] at h
        exact h
      have hN5 : i + 1 ≤ maxLen := by unfold maxLen; omega
      have hN6 : (i + 1) * 16 ≤ 140737488355328 := by omega
      have hGd : Glob wr.drew := ⟨(Glob.below2 hG hB).first, (Glob.below2 hG hB).rows⟩
      go_wp2_with fail
      go_region_law (first
        | (go_simp; go_at_call 44; refine (cI.out _).mono ?_; rintro e w1 ⟨rfl, hb1⟩; have c1a : w1.cell? ⟨w.heap.size, 1, none⟩ = some v := (hb1.cell (p := ⟨w.heap.size, 1, none⟩) hA.lt).trans c1; have hG1 := hGd.below hb1)
        | (go_simp; go_at_call 43; refine (cK.out _ hG1).mono ?_; rintro e w2 ⟨rfl, hb2⟩; have hb3 : Below wr.heap.size wr w2 := ((Below.refl _ wr).drew).trans (hb1.trans (hb2.mono hb1.size)); have c1b : w2.cell? ⟨w.heap.size, 1, none⟩ = some v := (hb3.cell (p := ⟨w.heap.size, 1, none⟩) hA.lt).trans c1; have c1d : (w2.alloc (.cells #[.string kk] 9)).cell? ⟨w.heap.size, 1, none⟩ = some v := ((hb3.alloc hb3.size (.cells #[.string kk] 9)).cell (p := ⟨w.heap.size, 1, none⟩) hA.lt).trans c1; have hO1 := (own_below hown hb3).alloc (.cells #[.string kk] 9); have hN1 := new_cell w2 kk; have hN3 : w.heap.size + 1 ≤ (w2.alloc (.cells #[.string kk] 9)).heap.size := (by rw [alloc_size]; have := hb3.size; have := hA.lt; omega); have hN4 := alloc_size w2 (.cells #[.string kk] 9))
        | (refine step_append_lies _ (by rfl) _ _ 43 (by rfl) (w.heap.size + 1) 9 i0 (.string ⟨#[]⟩) 1 16 Tryd.underlying43 hi hz0 hz1 hz2 rfl (by decide) _ i ((keysL seed i).map Value.string) (by rfl) hO1 ⟨w2.heap.size, 0, none⟩ 1 1 [.string kk] (by rfl) (by rfl) hN1 (one_str kk) (by decide) hN5 hN6 hN3 (w2.heap.size + 1) hN4 ?_; intro g2 cap2 w3 hown3 hgrow3 hat3 hlt3; have hbw := tab_below hA hb3 hN3 hO1 hgrow3; have hA3 := hA.below hbw (Nat.lt_succ_self _); have c1c := hA3.cell (i := 1) (v := v) rfl; have f1c := hA3.frozen 1))
      all_goals
        have hA4 := hA3.set 1 (.slice (some ⟨g2, 0, none⟩) (i + 1) cap2)
        have hown4 := ownsRow_setCell_below hown3 (a := ⟨w.heap.size, 1, none⟩) (Nat.lt_succ_self _) (.slice (some ⟨g2, 0, none⟩) (i + 1) cap2)
        have hB4 : Below w.heap.size w (w3.setCell ⟨w.heap.size, 1, none⟩ (.slice (some ⟨g2, 0, none⟩) (i + 1) cap2)) := (hB.trans (hbw.mono (Nat.le_succ _))).setCell (Nat.le_refl _) _
        rw [hkk.out, show ([.string (keyOf seed i)] : List Value) = [keyOf seed i].map Value.string from rfl, ← List.map_append, ← keysL_succ] at hown4
        generalize w3.setCell _ _ = w4 at hA4 hown4 hB4 ⊢
        go_wp2
        go_roundw
        case rel => exact ⟨i + 1, _, by omega, by go_num, hA4, hown4, hB4⟩
        case measure => simp [intOf]; omega
    · have h1 : ¬ (i : Int) ≤ 3 * (f : Int) := by have := hn.out; omega
      have hie : i = n := by omega
      rw [hie] at hown
      have hown' : wr.ownsRow (w.heap.size + 1) 9 1 v (keysL seed n).length ((keysL seed n).map Value.string) := by rw [keysL_len]; exact hown
      obtain ⟨a, cap, hv, hst⟩ := own_strs hown'
      have hT : Hid (TabAt wr w.heap.size f (keysL seed (3 * f + 1))) := by
        rw [← hn.out]
        exact ⟨hA.lt, hA.cell rfl, a, cap, by rw [← hv]; exact hA.cell rfl, hst⟩
      go_wp2
      go_ret2
      exact ⟨_, rfl, Nat.le_refl _, hT.out, hB⟩
end Go.Proofs.YtbikabjogacfkaaDoor.Mx

/- What the reference's N, Need and Sign do; nothing old in memory is turned. -/
namespace Go.Proofs.YtbikabjogacfkaaDoor.Mx
open Go.RowKit Go.Sort
set_option linter.unusedVariables false

set_option maxRecDepth 100000 in
theorem refN_any (b f : Nat) (ks : List ByteArray) (w : World) (h : TabAt w b f ks) (hf : f ≤ 2) :
    Calls Tryd.prog 60 #[.pointer (some ⟨b, 0, none⟩)] w fun e w' => e = .returned (.int .i64 ((3 * f + 1 : Nat) : Int)) ∧ w' = w := by
  have c0 := h.c0
  go_enter Tryd.func60, Tryd.ntmps60
  go_wp2
  go_ret
  exact ⟨by go_num, rfl⟩

set_option maxRecDepth 100000 in
theorem refNeed_any (b f : Nat) (ks : List ByteArray) (w : World) (h : TabAt w b f ks) (hf : f ≤ 2) :
    Calls Tryd.prog 46 #[.pointer (some ⟨b, 0, none⟩)] w fun e w' => e = .returned (.int .i64 ((2 * f + 1 : Nat) : Int)) ∧ w' = w := by
  have c0 := h.c0
  go_enter Tryd.func46, Tryd.ntmps46
  go_wp2
  go_ret
  exact ⟨by go_num, rfl⟩

set_option maxRecDepth 100000 in
set_option maxHeartbeats 400000 in
theorem refSign_no (b f : Nat) (ks : List ByteArray) (who : Int) (kind word : ByteArray) (w : World) (h : TabAt w b f ks) (hf : f ≤ 2) (hl : ks.length = 3 * f + 1) (hn : who < 0 ∨ (ks.length : Int) ≤ who) :
    Calls Tryd.prog 51 #[.pointer (some ⟨b, 0, none⟩), .int .i64 who, .string kind, .string word] w fun e w' => e = .returned (.tuple #[tagV 0 ⟨#[]⟩, .int .i64 2]) ∧ Below w.heap.size w w' := by
  have hA := Arr.new w 32 [.int .i64 0, .string ⟨#[]⟩]
  have hB := (Below.refl w.heap.size w).alloc (Nat.le_refl _) (.cells #[.int .i64 0, .string ⟨#[]⟩] 32)
  by_cases h0 : who < 0
  · go_enter Tryd.func51, Tryd.ntmps51
    go_wp2
    refine bodyPost_ret (v := .tuple #[tagV 0 ⟨#[]⟩, .int .i64 2]) ?r1 ?r2 ?r3
    case r1 => exact results_tag (p := 8) (u := 9) rfl _ _ w.heap.size 32 0 ⟨#[]⟩ rfl hA _ rfl
    case r2 => rfl
    exact ⟨rfl, hB⟩
  · have h1 : ((3 * f + 1 : Nat) : Int) ≤ who := by omega
    go_enter Tryd.func51, Tryd.ntmps51
    go_wp2_with fail
    refine (refN_any b f ks _ (h.below hB) hf).mono ?_
    rintro e w1 ⟨rfl, rfl⟩
    go_wp2
    refine bodyPost_ret (v := .tuple #[tagV 0 ⟨#[]⟩, .int .i64 2]) ?r1 ?r2 ?r3
    case r1 => exact results_tag (p := 8) (u := 9) rfl _ _ w.heap.size 32 0 ⟨#[]⟩ rfl hA _ rfl
    case r2 => rfl
    all_goals exact ⟨rfl, hB⟩

set_option maxRecDepth 100000 in
set_option maxHeartbeats 400000 in
theorem refSign_yes (b f : Nat) (ks : List ByteArray) (j : Nat) (kind word : ByteArray) (w : World) (h : TabAt w b f ks) (kj : ByteArray) (hkj : ks[j]? = some kj) (hks : ∀ k ∈ ks, k.size ≤ 32) (hf : f ≤ 2) (hl : ks.length = 3 * f + 1) (hkd : kind.size ≤ 1000) (hwd : word.size ≤ 2000) (hG : Glob w) :
    Calls Tryd.prog 51 #[.pointer (some ⟨b, 0, none⟩), .int .i64 (j : Int), .string kind, .string word] w fun e w' => e = .returned (.tuple #[tagV (j : Int) (macOf kj kind word), .int .i64 0]) ∧ Below w.heap.size w w' := by
  obtain ⟨hj, hkg⟩ := List.getElem?_eq_some_iff.1 hkj
  obtain ⟨mc, hmc⟩ : ∃ z, Hid (z = macOf kj kind word) := ⟨_, rfl⟩
  rw [← hmc.out]
  have hA := Arr.new w 32 [.int .i64 0, .string ⟨#[]⟩]
  have hB := (Below.refl w.heap.size w).alloc (Nat.le_refl _) (.cells #[.int .i64 0, .string ⟨#[]⟩] 32)
  have hjn : ¬ ((3 * f + 1 : Nat) : Int) ≤ (j : Int) := by omega
  have hjz : ¬ (j : Int) < 0 := by omega
  go_enter Tryd.func51, Tryd.ntmps51
  go_wp2_with fail
  refine (refN_any b f ks _ (h.below hB) hf).mono ?_
  rintro e w1 ⟨rfl, rfl⟩
  have hT := h.below hB
  have hG0 := hG.below hB
  generalize w.alloc (.cells #[.int .i64 0, .string ⟨#[]⟩] 32) = w0 at hA hB hT hG0 ⊢
  obtain ⟨a, cap, c1, hst⟩ := hT.c1
  obtain ⟨bs, off, rfl, hbs, cj⟩ := hst j hj
  have hks32 : kj.size ≤ 32 := hks _ (List.mem_of_getElem? hkj)
  rw [hkg] at cj
  have C1 : ∀ d os, (grow (redrawn w0 d) os).cell? ⟨b, 1, none⟩ = some (.slice (some ⟨bs, off, none⟩) ks.length cap) := fun d os => cell_regrown c1 d os
  have CJ : ∀ d os, (grow (redrawn w0 d) os).cell? ⟨bs, off + j, none⟩ = some (.string kj) := fun d os => cell_regrown cj d os
  have hG' : ∀ p : Regrown, Glob (grow (redrawn w0 p.d) p.os) := fun p => hG0.below (below_regrown w0 p.d p.os)
  have hj0 : (0 : Int) ≤ (j : Int) := by omega
  have hj1 : (j : Int) < (ks.length : Int) := by omega
  obtain ⟨tk, htk⟩ : ∃ z, Hid (z = (⟨(txt kind.data.toList).toArray⟩ : ByteArray)) := ⟨_, rfl⟩
  obtain ⟨u, hu⟩ : ∃ z, Hid (z = tk ++ word) := ⟨_, rfl⟩
  have huc : tk ++ word = u := hu.out.symm
  have htks : tk.size ≤ 1009 := by
    rw [htk.out, ByteArray.size_mk']
    have := txt_size kind.data.toList
    have hl : kind.data.toList.length = kind.size := by simp
    simp only [List.size_toArray]
    omega
  have hus : u.size ≤ 3009 := by rw [hu.out, ByteArray.size_append]; omega
  have hmx : ¬ (maxLen < tk.size + word.size) := by unfold maxLen; omega
  have cT : ∀ w1, Calls Tryd.prog 62 #[.string kind] w1 fun e w2 => e = .returned (.string tk) ∧ Below w1.heap.size w1 w2 := by
    intro w1
    rw [htk.out]
    exact refText_any _ _ (by omega)
  have cS : ∀ w1, Glob w1 → Calls Tryd.prog 61 #[.string kj, .string u] w1 fun e w2 => e = .returned (.string mc) ∧ Below w1.heap.size w1 w2 := by
    intro w1 hg
    have h := refShort_any kj u w1 (by omega) (by omega)
    have he : (bytes (keyedL kj.data.toList u.data.toList)).extract 0 16 = mc := by rw [hmc.out, hu.out, htk.out]; exact mac_spell _ _ _
    rw [he] at h
    exact h
  go_wp2_with fail
  refine wp_region_head_below 14 0 (by kernel_rfl) (by kernel_rfl) (fun c a d v w h => by cases d <;> exact h) ?_
  simp only [List.take_succ_cons, List.take_zero, List.drop_succ_cons, List.drop_zero]
  iterate 9 (go_big_quiet_step (fail))
  go_big_quiet_step (exact Calls.regrown_of (cT _))
  iterate 2 (go_big_quiet_step (fail))
  go_big_quiet_step (exact Calls.regrown_of (cS _ (hG' _)))
  go_big_quiet_step (fail)
  refine wpQuiet_nil ?_
  rintro w' ⟨p, rfl⟩
  have hb' := below_regrown w0 p.d p.os
  have hA1 := hA.below hb' hA.lt
  have hB1 := hB.trans (hb'.mono hB.size)
  generalize grow (redrawn w0 p.d) p.os = w2 at hA1 hB1 ⊢
  have t0 := hA1.cell (i := 0) (v := .int .i64 0) rfl
  have t1 := hA1.cell (i := 1) (v := .string ⟨#[]⟩) rfl
  have z0 := hA1.frozen 0
  have z1 := hA1.frozen 1
  try simp only [Act.put]
  go_wp2
  have hA2 := (hA1.set 0 (.int .i64 (j : Int))).set 1 (.string mc)
  have hB2 := (hB1.setCell (p := ⟨w.heap.size, 0, none⟩) (Nat.le_refl _) (.int .i64 (j : Int))).setCell (p := ⟨w.heap.size, 1, none⟩) (Nat.le_refl _) (.string mc)
  refine bodyPost_ret (v := .tuple #[tagV (j : Int) mc, .int .i64 0]) ?r1 ?r2 ?r3
  case r1 => exact results_tag (p := 8) (u := 9) rfl _ _ w.heap.size 32 (j : Int) mc rfl hA2 _ rfl
  case r2 => rfl
  exact ⟨rfl, hB2⟩

end Go.Proofs.YtbikabjogacfkaaDoor.Mx

/- What the reference's Check does; nothing old in memory is turned. -/
namespace Go.Proofs.YtbikabjogacfkaaDoor.Mx
open Go.RowKit Go.Sort
set_option linter.unusedVariables false

set_option maxRecDepth 100000 in
set_option maxHeartbeats 400000 in
theorem refCheck_no (b f : Nat) (ks : List ByteArray) (who : Int) (mac kind word : ByteArray) (w : World) (h : TabAt w b f ks) (hf : f ≤ 2) (hl : ks.length = 3 * f + 1) (hn : who < 0 ∨ (ks.length : Int) ≤ who) :
    Calls Tryd.prog 45 #[.pointer (some ⟨b, 0, none⟩), tagV who mac, .string kind, .string word] w fun e w' => e = .returned (.int .i64 2) ∧ Below w.heap.size w w' := by
  have hA := Arr.new w 32 [.int .i64 who, .string mac]
  have hB := (Below.refl w.heap.size w).alloc (Nat.le_refl _) (.cells #[.int .i64 who, .string mac] 32)
  unfold tagV
  go_enter Tryd.func45, Tryd.ntmps45
  go_wp2_with fail
  refine (refSign_no b f ks who kind word _ (h.below hB) hf hl hn).mono ?_
  rintro e w1 ⟨rfl, hb1⟩
  have hB1 := hB.trans (hb1.mono hB.size)
  clear hb1 hA hB
  unfold tagV
  have hsz := hB1.size
  go_wp2
  go_ret
  exact ⟨rfl, hB1.alloc hsz _⟩

set_option maxRecDepth 100000 in
set_option maxHeartbeats 400000 in
theorem refCheck_yes (b f : Nat) (ks : List ByteArray) (j : Nat) (mac kind word : ByteArray) (w : World) (h : TabAt w b f ks) (kj : ByteArray) (hkj : ks[j]? = some kj) (hks : ∀ k ∈ ks, k.size ≤ 32) (hf : f ≤ 2) (hl : ks.length = 3 * f + 1) (hkd : kind.size ≤ 1000) (hwd : word.size ≤ 2000) (hG : Glob w) :
    Calls Tryd.prog 45 #[.pointer (some ⟨b, 0, none⟩), tagV (j : Int) mac, .string kind, .string word] w fun e w' => e = .returned (.int .i64 (if mac = macOf kj kind word then 0 else 10)) ∧ Below w.heap.size w w' := by
  have hA := Arr.new w 32 [.int .i64 (j : Int), .string mac]
  have hB := (Below.refl w.heap.size w).alloc (Nat.le_refl _) (.cells #[.int .i64 (j : Int), .string mac] 32)
  have cs := refSign_yes b f ks j kind word _ (h.below hB) kj hkj hks hf hl hkd hwd (hG.below hB)
  generalize macOf kj kind word = mc at cs ⊢
  unfold tagV at cs ⊢
  go_enter Tryd.func45, Tryd.ntmps45
  go_wp2_with fail
  refine cs.mono ?_
  rintro e w1 ⟨rfl, hb1⟩
  have hA1 := hA.below hb1 hA.lt
  have hB1 := hB.trans (hb1.mono hB.size)
  clear hb1 hA hB cs
  have hsz := hB1.size
  have t0 := (hA1.alloc (.cells #[.int .i64 (j : Int), .string mc] 32)).cell (i := 0) (v := .int .i64 (j : Int)) rfl
  have t1 := (hA1.alloc (.cells #[.int .i64 (j : Int), .string mc] 32)).cell (i := 1) (v := .string mac) rfl
  by_cases hm : mac = mc
  · subst hm
    go_wp2
    go_ret
    exact ⟨by simp, hB1.alloc hsz _⟩
  · have hm1 := toList_ne hm
    go_wp2
    go_ret
    exact ⟨by simp, hB1.alloc hsz _⟩

theorem refCheck_ok (b f : Nat) (ks : List ByteArray) (j : Nat) (kind word : ByteArray) (w : World) (h : TabAt w b f ks) (kj : ByteArray) (hkj : ks[j]? = some kj) (hks : ∀ k ∈ ks, k.size ≤ 32) (hf : f ≤ 2) (hl : ks.length = 3 * f + 1) (hkd : kind.size ≤ 1000) (hwd : word.size ≤ 2000) (hG : Glob w) (mac : ByteArray) (hm : mac = macOf kj kind word) :
    Calls Tryd.prog 45 #[.pointer (some ⟨b, 0, none⟩), tagV (j : Int) mac, .string kind, .string word] w fun e w' => e = .returned (.int .i64 0) ∧ Below w.heap.size w w' := by
  have h := refCheck_yes b f ks j mac kind word w h kj hkj hks hf hl hkd hwd hG
  rw [if_pos hm] at h
  exact h

theorem refCheck_bad (b f : Nat) (ks : List ByteArray) (j : Nat) (kind word : ByteArray) (w : World) (h : TabAt w b f ks) (kj : ByteArray) (hkj : ks[j]? = some kj) (hks : ∀ k ∈ ks, k.size ≤ 32) (hf : f ≤ 2) (hl : ks.length = 3 * f + 1) (hkd : kind.size ≤ 1000) (hwd : word.size ≤ 2000) (hG : Glob w) (mac : ByteArray) (hm : ¬ mac = macOf kj kind word) :
    Calls Tryd.prog 45 #[.pointer (some ⟨b, 0, none⟩), tagV (j : Int) mac, .string kind, .string word] w fun e w' => e = .returned (.int .i64 10) ∧ Below w.heap.size w w' := by
  have h := refCheck_yes b f ks j mac kind word w h kj hkj hks hf hl hkd hwd hG
  rw [if_neg hm] at h
  exact h

theorem refSign_any (b f : Nat) (ks : List ByteArray) (who : Int) (kind word : ByteArray) (w : World) (h : TabAt w b f ks) (hks : ∀ k ∈ ks, k.size ≤ 32) (hf : f ≤ 2) (hl : ks.length = 3 * f + 1) (hkd : kind.size ≤ 1000) (hwd : word.size ≤ 2000) (hG : Glob w) :
    Calls Tryd.prog 51 #[.pointer (some ⟨b, 0, none⟩), .int .i64 who, .string kind, .string word] w fun e w' => e = .returned (.tuple #[tagV (signR ks who kind word).1 (signR ks who kind word).2.1, .int .i64 ((signR ks who kind word).2.2 : Int)]) ∧ Below w.heap.size w w' := by
  unfold signR
  by_cases hn : who < 0 ∨ (ks.length : Int) ≤ who
  · rw [if_pos hn]
    exact refSign_no b f ks who kind word w h hf hl hn
  · rw [if_neg hn]
    obtain ⟨j, rfl⟩ := Int.eq_ofNat_of_zero_le (a := who) (by omega)
    obtain ⟨kj, hkj⟩ : ∃ k, ks[j]? = some k := ⟨_, List.getElem?_eq_getElem (by omega)⟩
    have e : ks.getD (j : Int).toNat ⟨#[]⟩ = kj := by simp [List.getD, hkj]
    rw [e]
    exact refSign_yes b f ks j kind word w h kj hkj hks hf hl hkd hwd hG

theorem refCheck_any (b f : Nat) (ks : List ByteArray) (who : Int) (mac kind word : ByteArray) (w : World) (h : TabAt w b f ks) (hks : ∀ k ∈ ks, k.size ≤ 32) (hf : f ≤ 2) (hl : ks.length = 3 * f + 1) (hkd : kind.size ≤ 1000) (hwd : word.size ≤ 2000) (hG : Glob w) :
    Calls Tryd.prog 45 #[.pointer (some ⟨b, 0, none⟩), tagV who mac, .string kind, .string word] w fun e w' => e = .returned (.int .i64 (checkR ks who mac kind word : Int)) ∧ Below w.heap.size w w' := by
  unfold checkR
  by_cases hn : who < 0 ∨ (ks.length : Int) ≤ who
  · rw [if_pos hn]
    exact refCheck_no b f ks who mac kind word w h hf hl hn
  · rw [if_neg hn]
    obtain ⟨j, rfl⟩ := Int.eq_ofNat_of_zero_le (a := who) (by omega)
    obtain ⟨kj, hkj⟩ : ∃ k, ks[j]? = some k := ⟨_, List.getElem?_eq_getElem (by omega)⟩
    have e : ks.getD (j : Int).toNat ⟨#[]⟩ = kj := by simp [List.getD, hkj]
    rw [e]
    by_cases hm : mac = macOf kj kind word
    · rw [if_pos hm]
      exact refCheck_ok b f ks j kind word w h kj hkj hks hf hl hkd hwd hG mac hm
    · rw [if_neg hm]
      exact refCheck_bad b f ks j kind word w h kj hkj hks hf hl hkd hwd hG mac hm
end Go.Proofs.YtbikabjogacfkaaDoor.Mx

/- What the reference's Enough does; nothing old in memory is turned. -/
namespace Go.Proofs.YtbikabjogacfkaaDoor.Mx
open Go.RowKit Go.Sort
set_option linter.unusedVariables false

/-- The Who of the one ahead. -/
def aheadAt (l : List (Int × ByteArray)) (i : Nat) : Int := if i = 0 then -1 else (l.getD (i - 1) (0, ⟨#[]⟩)).1

theorem aheadAt_succ {l : List (Int × ByteArray)} {i : Nat} {x : Int × ByteArray} (h : l[i]? = some x) : aheadAt l (i + 1) = x.1 := by
  unfold aheadAt
  rw [if_neg (by omega)]
  simp [List.getD, h]
end Go.Proofs.YtbikabjogacfkaaDoor.Mx
