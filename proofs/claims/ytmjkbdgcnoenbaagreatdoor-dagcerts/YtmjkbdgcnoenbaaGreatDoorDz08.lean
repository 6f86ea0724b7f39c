/- Texts as one: RefAuthAll, HdrWorks, CertCheck, PlayMath, DagLaws, DagIds, DagRight, DagRoundMath, KindsCopy. -/
import Derived.Test.YtmjkbdgcnoenbaaGreatDoorDz05
import Derived.Deep.RegionWith
import Derived.Test.YtmjkbdgcnoenbaaGreatDoorDz07
import Derived.Test.YtmjkbdgcnoenbaaGreatDoorDz06
import Derived.Test.YtmjkbdgcnoenbaaGreatDoorDz03
import Derived.Lib.QuietBelow
import Derived.BigQuiet
import Derived.Test.YtmjkbdgcnoenbaaGreatDoorDz02
/- Texts as one: AuthRefWire, RefAuthNew, RefAuthSign, RefAuthCheck, RefAuthEnough. -/
/- What tuskref01.Int does: the same bytes of a number; nothing old in memory is turned. -/
namespace Go.Proofs.YtmjkbdgcnoenbaaGreatDoor.Mx
open Go.RowKit

theorem bcell {W w1 : World} (hb : Below W.heap.size W w1) : ∀ b o, b < W.heap.size → w1.cell? ⟨b, o, none⟩ = W.cell? ⟨b, o, none⟩ :=
  fun b o h => hb.cell (p := ⟨b, o, none⟩) h

theorem conv_byte {w : World} {b : Nat} {x : Nat} (hx : x < 256) (h : w.cell? ⟨b, 0, none⟩ = some (.int .u8 (x : Int))) :
    (convert 181 9 (.slice (some ⟨b, 0, none⟩) 1 1)).run Tryz.prog w = .ok (.string ⟨#[UInt8.ofNat x]⟩) w := by
  have := run_convert_bytes_back w 181 9 5 ⟨b, 0, none⟩ 1 [UInt8.ofNat x] Tryz.underlying181 Tryz.underlying5 Tryz.underlying9 (fun j hj => by
    have : j = 0 := by simp at hj; omega
    subst this
    have e : (UInt8.ofNat x).toNat = x := by simp; omega
    simp only [List.getElem_cons_zero, e]
    simpa [Addr.add] using h)
  exact this

set_option maxRecDepth 100000 in
set_option maxHeartbeats 1000000 in
theorem refInt_no (n : Int) (w : World) (h : n < 0 ∨ 4611686018427387903 < n) :
    Calls Tryz.prog 92 #[.int .i64 n] w fun e w' => e = .returned (.string ⟨#[]⟩) ∧ w' = w := by
  rcases h with h | h
  · go_enter Tryz.func92, Tryz.ntmps92
    go_wp2
    go_ret
    exact ⟨rfl, rfl⟩
  · have h0 : ¬ n < 0 := by omega
    go_enter Tryz.func92, Tryz.ntmps92
    go_wp2
    go_ret
    exact ⟨rfl, rfl⟩

set_option maxRecDepth 100000 in
set_option maxHeartbeats 1000000 in
theorem refInt_small (n : Nat) (w : World) (h : n < 128) :
    Calls Tryz.prog 92 #[.int .i64 n] w fun e w' => e = .returned (.string ⟨(enc n).toArray⟩) ∧ Below w.heap.size w w' := by
  have h0 : ¬ (n : Int) < 0 := by omega
  have h1 : ¬ (4611686018427387903 : Int) < n := by omega
  have h2 : (n : Int) < 128 := by omega
  have hcv : ∀ (w : World) (b : Nat), w.cell? ⟨b, 0, none⟩ = some (.int .u8 (n : Int)) → (convert 181 9 (.slice (some ⟨b, 0, none⟩) 1 1)).run Tryz.prog w = .ok (.string ⟨#[UInt8.ofNat n]⟩) w := fun w b hc => conv_byte (by omega) hc
  have HE : Hid (enc n = [UInt8.ofNat n]) := enc_small n h
  go_enter Tryz.func92, Tryz.ntmps92
  go_wp2
  go_ret
  exact ⟨by rw [HE.out]; rfl, (Below.refl _ _).alloc (Nat.le_refl _) _⟩

set_option maxRecDepth 100000 in
set_option maxHeartbeats 1000000 in
theorem refInt_big (n : Nat) (w : World) (h : 128 ≤ n) (hn : n ≤ 4611686018427387903)
    (ih : ∀ w, Calls Tryz.prog 92 #[.int .i64 ((n / 128 : Nat) : Int)] w fun e w' => e = .returned (.string ⟨(enc (n / 128)).toArray⟩) ∧ Below w.heap.size w w') :
    Calls Tryz.prog 92 #[.int .i64 n] w fun e w' => e = .returned (.string ⟨(enc n).toArray⟩) ∧ Below w.heap.size w w' := by
  have h0 : ¬ (n : Int) < 0 := by omega
  have h1 : ¬ (4611686018427387903 : Int) < n := by omega
  have h2 : ¬ (n : Int) < 128 := by omega
  obtain ⟨r, hr⟩ : ∃ r, r = n % 128 := ⟨_, rfl⟩
  obtain ⟨c, hc⟩ : ∃ c, c = 128 + r := ⟨_, rfl⟩
  obtain ⟨m, hm⟩ : ∃ m, m = n / 128 := ⟨_, rfl⟩
  have e1 : (n : Int).tmod 128 = (r : Int) := by rw [Int.tmod_eq_emod_of_nonneg (by omega)]; omega
  have e2 : IntKind.i64.wrap (128 + (r : Int)) = (c : Int) := by simp [IntKind.wrap, IntKind.bits, IntKind.signed]; omega
  have e3 : IntKind.u8.wrap (c : Int) = (c : Int) := by rw [IntKind.wrap_u8']; omega
  have e4 : IntKind.i64.wrap ((n : Int) / 128) = (m : Int) := by simp [IntKind.wrap, IntKind.bits, IntKind.signed]; omega
  have hcv : ∀ (w : World) (b : Nat), w.cell? ⟨b, 0, none⟩ = some (.int .u8 (c : Int)) → (convert 181 9 (.slice (some ⟨b, 0, none⟩) 1 1)).run Tryz.prog w = .ok (.string ⟨#[UInt8.ofNat c]⟩) w := fun w b hc => conv_byte (by omega) hc
  have HE : Hid (enc n = UInt8.ofNat c :: enc m) := by
    show _ = _
    rw [hc, hr, hm]; exact enc_big n h
  have IH : Hid (∀ w, Calls Tryz.prog 92 #[.int .i64 (m : Int)] w fun e w' => e = .returned (.string ⟨(enc m).toArray⟩) ∧ Below w.heap.size w w') := by
    rw [hm]; exact ih
  have hl := enc_length_nine m (by omega)
  clear ih hr hc hm
  generalize enc m = tl at *
  have e5 : (⟨#[UInt8.ofNat c]⟩ ++ ⟨tl.toArray⟩ : ByteArray) = ⟨(enc n).toArray⟩ := by
    rw [HE.out]; exact ByteArray.mk_append_mk [UInt8.ofNat c] tl
  go_enter Tryz.func92, Tryz.ntmps92
  go_wp2_with fail
  go_region_with (go_at_call 92; refine (IH.out _).mono ?_; rintro e w' ⟨rfl, hb⟩; have hcl := bcell hb)
  · have hbw : Below w.heap.size w w' := (((Below.refl _ w).alloc (Nat.le_refl _) _).drew).trans (hb.mono (by simp))
    clear hb hcl
    go_wp2
    go_ret
    exact ⟨rfl, hbw⟩
  · have hbw : Below w.heap.size w w' := (((Below.refl _ w).alloc (Nat.le_refl _) _).drew).trans (hb.mono (by simp))
    clear hb hcl
    go_wp2
    go_ret
    exact ⟨rfl, hbw⟩
  · have hbw : Below w.heap.size w w' := ((Below.refl _ w).drew).trans hb
    clear hb hcl
    go_wp2
    go_ret
    exact ⟨rfl, hbw.alloc hbw.size _⟩

theorem refInt_yes : ∀ (n : Nat) (w : World), n ≤ 4611686018427387903 →
    Calls Tryz.prog 92 #[.int .i64 n] w fun e w' => e = .returned (.string ⟨(enc n).toArray⟩) ∧ Below w.heap.size w w' := by
  intro n
  induction n using Nat.strongRecOn with
  | _ n ih =>
    intro w hn
    by_cases h : n < 128
    · exact refInt_small n w h
    · exact refInt_big n w (by omega) hn (fun w => ih (n / 128) (by omega) w (by omega))

theorem refInt_any (n : Int) (w : World) :
    Calls Tryz.prog 92 #[.int .i64 n] w fun e w' => e = .returned (.string ⟨(goInt n).toArray⟩) ∧ Below w.heap.size w w' := by
  by_cases h : 0 ≤ n ∧ n ≤ 4611686018427387903
  · obtain ⟨m, rfl⟩ := Int.eq_ofNat_of_zero_le h.1
    have e : goInt (m : Int) = enc m := by rw [goInt, if_pos h]; simp
    rw [e]
    exact refInt_yes m w (by omega)
  · have e : goInt n = [] := by rw [goInt, if_neg h]
    rw [e]
    refine (refInt_no n w (by omega)).mono ?_
    rintro e w' ⟨rfl, rfl⟩
    exact ⟨rfl, Below.refl _ _⟩
set_option maxRecDepth 100000 in
set_option maxHeartbeats 400000 in
theorem refText_any (s : ByteArray) (w : World) (hs : s.size ≤ 140737488351232000) :
    Calls Tryz.prog 85 #[.string s] w fun e w' => e = .returned (.string ⟨(txt s.data.toList).toArray⟩) ∧ Below w.heap.size w w' := by
  have hg := goInt_length s.size
  have e1 : ∀ l : List UInt8, l = goInt s.size → Value.string (⟨l.toArray⟩ ++ s) = Value.string ⟨(txt s.data.toList).toArray⟩ := by
    rintro l rfl
    rw [append_list, txt]
    simp
  go_enter Tryz.func85, Tryz.ntmps85
  go_wp2_with fail
  refine (refInt_any _ _).mono ?_
  rintro e w' ⟨rfl, hb⟩
  obtain ⟨l, hl⟩ : ∃ l, l = goInt s.size := ⟨_, rfl⟩
  rw [← hl] at hg ⊢
  have E := e1 l hl
  clear e1 hl
  go_wp2
  go_ret
  exact ⟨rfl, hb⟩
end Go.Proofs.YtmjkbdgcnoenbaaGreatDoor.Mx

/- What tuskref03.New does: a table in new memory, or none; nothing old in memory is turned. -/
namespace Go.Proofs.YtmjkbdgcnoenbaaGreatDoor.Mx
open Go.RowKit Go.Sort
set_option linter.unusedVariables false

set_option maxRecDepth 100000 in
set_option maxHeartbeats 400000 in
theorem refNew_yes (f : Nat) (seed : ByteArray) (w : World) (h1 : 1 ≤ f) (h2 : f ≤ 2) (hs : seed.size ≤ 32) (hG : Glob w) :
    Calls Tryz.prog 73 #[.int .i64 (f : Int), .string seed] w fun e w' => ∃ b, e = .returned (.tuple #[.pointer (some ⟨b, 0, none⟩), .int .i64 0]) ∧ w.heap.size ≤ b ∧ TabAt w' b f (keysL seed (3 * f + 1)) ∧ Below w.heap.size w w' := by
  obtain ⟨i0, hi, hz0, hz1, hz2⟩ := info_parts infoStr
  have h1' : ¬ (f : Int) < 1 := by omega
  have h2' : ¬ (2 : Int) < (f : Int) := by omega
  have hs' : ¬ (32 : Int) < (seed.size : Int) := by omega
  go_enter Tryz.func73, Tryz.ntmps73
  have hA := Arr.new w 140 [.int .i64 (f : Int), .slice none 0 0]
  have hB := (Below.refl w.heap.size w).alloc (Nat.le_refl _) (.cells #[.int .i64 (f : Int), .slice none 0 0] 140)
  obtain ⟨n, hn⟩ : ∃ n, Hid (n = 3 * f + 1) := ⟨_, rfl⟩
  have hn7 : n ≤ 7 := by have := hn.out; omega
  go_wp2
  go_loopw [7] (fun v22 wr => ∃ (i : Nat) (v : Value), i ≤ n ∧ v22 = .int .i64 (i : Int) ∧ Arr wr w.heap.size 140 [.int .i64 (f : Int), v] ∧ wr.ownsRow (w.heap.size + 1) 9 1 v i ((keysL seed i).map Value.string) ∧ Below w.heap.size w wr) (fun v22 _ => n - (intOf v22).toNat)
  case atStart => exact ⟨0, .slice none 0 0, Nat.zero_le _, rfl, hA, World.ownsRow_nil _ _ _ _, hB⟩
  case round =>
    clear hA hB
    obtain ⟨i, v, hin, rfl, hA, hown, hB⟩ := hrel
    by_cases hlt : i < n
    · have h1 : (i : Int) ≤ 3 * (f : Int) := by have := hn.out; omega
      have c1 := hA.cell (i := 1) (v := v) rfl
      have f1 := hA.frozen 1
      obtain ⟨nb, hnb⟩ : ∃ z, Hid (z = (⟨(goInt (i : Int)).toArray⟩ : ByteArray)) := ⟨_, rfl⟩
      obtain ⟨kk, hkk⟩ : ∃ z, Hid (z = keyOf seed i) := ⟨_, rfl⟩
      have hnl : nb.size ≤ 9 := by rw [hnb.out, ByteArray.size_mk']; exact goInt_length _
      have cI : Hid (∀ w1, Calls Tryz.prog 92 #[.int .i64 (i : Int)] w1 fun e w2 => e = .returned (.string nb) ∧ Below w1.heap.size w1 w2) := by
        intro w1
        rw [hnb.out]
        exact refInt_any _ _
      have cK : Hid (∀ w1, Glob w1 → Calls Tryz.prog 101 #[.string seed, .string nb] w1 fun e w2 => e = .returned (.string kk) ∧ Below w1.heap.size w1 w2) := by
        intro w1 hg
        have h := refKeyed_any seed nb w1 (by omega) (by omega)
        have he : bytes (keyedL seed.data.toList nb.data.toList) = kk := by rw [hkk.out, hnb.out]; rfl
        rw [he] at h
        exact h
      have hN5 : i + 1 ≤ maxLen := by unfold maxLen; omega
      have hN6 : (i + 1) * 16 ≤ 140737488355328 := by omega
      have hGd : Glob wr.drew := ⟨(Glob.below2 hG hB).first, (Glob.below2 hG hB).rows⟩
      go_wp2_with fail
      go_region_law (first
        | (go_simp; go_at_call 92; refine (cI.out _).mono ?_; rintro e w1 ⟨rfl, hb1⟩; have c1a : w1.cell? ⟨w.heap.size, 1, none⟩ = some v := (hb1.cell (p := ⟨w.heap.size, 1, none⟩) hA.lt).trans c1; have hG1 := hGd.below hb1)
        | (go_simp; go_at_call 101; refine (cK.out _ hG1).mono ?_; rintro e w2 ⟨rfl, hb2⟩; have hb3 : Below wr.heap.size wr w2 := ((Below.refl _ wr).drew).trans (hb1.trans (hb2.mono hb1.size)); have c1b : w2.cell? ⟨w.heap.size, 1, none⟩ = some v := (hb3.cell (p := ⟨w.heap.size, 1, none⟩) hA.lt).trans c1; have c1d : (w2.alloc (.cells #[.string kk] 9)).cell? ⟨w.heap.size, 1, none⟩ = some v := ((hb3.alloc hb3.size (.cells #[.string kk] 9)).cell (p := ⟨w.heap.size, 1, none⟩) hA.lt).trans c1; have hO1 := (own_below hown hb3).alloc (.cells #[.string kk] 9); have hN1 := new_cell w2 kk; have hN3 : w.heap.size + 1 ≤ (w2.alloc (.cells #[.string kk] 9)).heap.size := (by rw [alloc_size]; have := hb3.size; have := hA.lt; omega); have hN4 := alloc_size w2 (.cells #[.string kk] 9))
        | (refine step_append_lies _ (by rfl) _ _ 31 (by rfl) (w.heap.size + 1) 9 i0 (.string ⟨#[]⟩) 1 16 Tryz.underlying31 hi hz0 hz1 hz2 rfl (by decide) _ i ((keysL seed i).map Value.string) (by rfl) hO1 ⟨w2.heap.size, 0, none⟩ 1 1 [.string kk] (by rfl) (by rfl) hN1 (one_str kk) (by decide) hN5 hN6 hN3 (w2.heap.size + 1) hN4 ?_; intro g2 cap2 w3 hown3 hgrow3 hat3 hlt3; have hbw := tab_below hA hb3 hN3 hO1 hgrow3; have hA3 := hA.below hbw (Nat.lt_succ_self _); have c1c := hA3.cell (i := 1) (v := v) rfl; have f1c := hA3.frozen 1))
      all_goals
        have hA4 := hA3.set 1 (.slice (some ⟨g2, 0, none⟩) (i + 1) cap2)
        have hown4 := ownsRow_setCell_below hown3 (a := ⟨w.heap.size, 1, none⟩) (Nat.lt_succ_self _) (.slice (some ⟨g2, 0, none⟩) (i + 1) cap2)
        have hB4 : Below w.heap.size w (w3.setCell ⟨w.heap.size, 1, none⟩ (.slice (some ⟨g2, 0, none⟩) (i + 1) cap2)) := (hB.trans (hbw.mono (Nat.le_succ _))).setCell (Nat.le_refl _) _
        rw [hkk.out, show ([.string (keyOf seed i)] : List Value) = [keyOf seed i].map Value.string from rfl, ← List.map_append, ← keysL_succ] at hown4
        generalize w3.setCell _ _ = w4 at hA4 hown4 hB4 ⊢
        go_wp2
        go_roundw
        case rel => exact ⟨i + 1, _, by omega, by go_num, hA4, hown4, hB4⟩
        case measure => simp [intOf]; omega
    · have h1 : ¬ (i : Int) ≤ 3 * (f : Int) := by have := hn.out; omega
      have hie : i = n := by omega
      rw [hie] at hown
      have hown' : wr.ownsRow (w.heap.size + 1) 9 1 v (keysL seed n).length ((keysL seed n).map Value.string) := by rw [keysL_len]; exact hown
      obtain ⟨a, cap, hv, hst⟩ := own_strs hown'
      have hT : Hid (TabAt wr w.heap.size f (keysL seed (3 * f + 1))) := by
        rw [← hn.out]
        exact ⟨hA.lt, hA.cell rfl, a, cap, by rw [← hv]; exact hA.cell rfl, hst⟩
      go_wp2
      go_ret2
      exact ⟨_, rfl, Nat.le_refl _, hT.out, hB⟩
end Go.Proofs.YtmjkbdgcnoenbaaGreatDoor.Mx

/- What the reference's N, Need and Sign do; nothing old in memory is turned. -/
namespace Go.Proofs.YtmjkbdgcnoenbaaGreatDoor.Mx
open Go.RowKit Go.Sort
set_option linter.unusedVariables false

set_option maxRecDepth 100000 in
theorem refN_any (b f : Nat) (ks : List ByteArray) (w : World) (h : TabAt w b f ks) (hf : f ≤ 2) :
    Calls Tryz.prog 43 #[.pointer (some ⟨b, 0, none⟩)] w fun e w' => e = .returned (.int .i64 ((3 * f + 1 : Nat) : Int)) ∧ w' = w := by
  have c0 := h.c0
  go_enter Tryz.func43, Tryz.ntmps43
  go_wp2
  go_ret
  exact ⟨by go_num, rfl⟩

set_option maxRecDepth 100000 in
theorem refNeed_any (b f : Nat) (ks : List ByteArray) (w : World) (h : TabAt w b f ks) (hf : f ≤ 2) :
    Calls Tryz.prog 45 #[.pointer (some ⟨b, 0, none⟩)] w fun e w' => e = .returned (.int .i64 ((2 * f + 1 : Nat) : Int)) ∧ w' = w := by
  have c0 := h.c0
  go_enter Tryz.func45, Tryz.ntmps45
  go_wp2
  go_ret
  exact ⟨by go_num, rfl⟩

set_option maxRecDepth 100000 in
set_option maxHeartbeats 400000 in
theorem refSign_yes (b f : Nat) (ks : List ByteArray) (j : Nat) (kind word : ByteArray) (w : World) (h : TabAt w b f ks) (kj : ByteArray) (hkj : ks[j]? = some kj) (hks : ∀ k ∈ ks, k.size ≤ 32) (hf : f ≤ 2) (hl : ks.length = 3 * f + 1) (hkd : kind.size ≤ 1000) (hwd : word.size ≤ 2000) (hG : Glob w) :
    Calls Tryz.prog 56 #[.pointer (some ⟨b, 0, none⟩), .int .i64 (j : Int), .string kind, .string word] w fun e w' => e = .returned (.tuple #[tagV (j : Int) (macOf kj kind word), .int .i64 0]) ∧ Below w.heap.size w w' := by
  obtain ⟨hj, hkg⟩ := List.getElem?_eq_some_iff.1 hkj
  obtain ⟨mc, hmc⟩ : ∃ z, Hid (z = macOf kj kind word) := ⟨_, rfl⟩
  rw [← hmc.out]
  have hA := Arr.new w 42 [.int .i64 0, .string ⟨#[]⟩]
  have hB := (Below.refl w.heap.size w).alloc (Nat.le_refl _) (.cells #[.int .i64 0, .string ⟨#[]⟩] 42)
  have hjn : ¬ ((3 * f + 1 : Nat) : Int) ≤ (j : Int) := by omega
  have hjz : ¬ (j : Int) < 0 := by omega
  go_enter Tryz.func56, Tryz.ntmps56
  go_wp2_with fail
  refine (refN_any b f ks _ (h.below hB) hf).mono ?_
  rintro e w1 ⟨rfl, rfl⟩
  have hT := h.below hB
  have hG0 := hG.below hB
  generalize w.alloc (.cells #[.int .i64 0, .string ⟨#[]⟩] 42) = w0 at hA hB hT hG0 ⊢
  obtain ⟨a, cap, c1, hst⟩ := hT.c1
  obtain ⟨bs, off, rfl, hbs, cj⟩ := hst j hj
  have hks32 : kj.size ≤ 32 := hks _ (List.mem_of_getElem? hkj)
  rw [hkg] at cj
  have C1 : ∀ d os, (grow (redrawn w0 d) os).cell? ⟨b, 1, none⟩ = some (.slice (some ⟨bs, off, none⟩) ks.length cap) := fun d os => cell_regrown c1 d os
  have CJ : ∀ d os, (grow (redrawn w0 d) os).cell? ⟨bs, off + j, none⟩ = some (.string kj) := fun d os => cell_regrown cj d os
  have hG' : ∀ p : Regrown, Glob (grow (redrawn w0 p.d) p.os) := fun p => hG0.below (below_regrown w0 p.d p.os)
  have hj0 : (0 : Int) ≤ (j : Int) := by omega
  have hj1 : (j : Int) < (ks.length : Int) := by omega
  obtain ⟨tk, htk⟩ : ∃ z, Hid (z = (⟨(txt kind.data.toList).toArray⟩ : ByteArray)) := ⟨_, rfl⟩
  obtain ⟨u, hu⟩ : ∃ z, Hid (z = tk ++ word) := ⟨_, rfl⟩
  have huc : tk ++ word = u := hu.out.symm
  have htks : tk.size ≤ 1009 := by
    rw [htk.out, ByteArray.size_mk']
    have := txt_size kind.data.toList
    have hl : kind.data.toList.length = kind.size := by simp
    simp only [List.size_toArray]
    omega
  have hus : u.size ≤ 3009 := by rw [hu.out, ByteArray.size_append]; omega
  have hmx : ¬ (maxLen < tk.size + word.size) := by unfold maxLen; omega
  have cT : ∀ w1, Calls Tryz.prog 85 #[.string kind] w1 fun e w2 => e = .returned (.string tk) ∧ Below w1.heap.size w1 w2 := by
    intro w1
    rw [htk.out]
    exact refText_any _ _ (by omega)
  have cS : ∀ w1, Glob w1 → Calls Tryz.prog 84 #[.string kj, .string u] w1 fun e w2 => e = .returned (.string mc) ∧ Below w1.heap.size w1 w2 := by
    intro w1 hg
    have h := refShort_any kj u w1 (by omega) (by omega)
    have he : (bytes (keyedL kj.data.toList u.data.toList)).extract 0 16 = mc := by rw [hmc.out, hu.out, htk.out]; exact mac_spell _ _ _
    rw [he] at h
    exact h
  go_wp2_with fail
  refine wp_region_head_below 14 0 (by kernel_rfl) (by kernel_rfl) (fun c a d v w h => by cases d <;> exact h) ?_
  simp only [List.take_succ_cons, List.take_zero, List.drop_succ_cons, List.drop_zero]
  iterate 9 (go_big_quiet_step (fail))
  go_big_quiet_step (exact Calls.regrown_of (cT _))
  iterate 2 (go_big_quiet_step (fail))
  go_big_quiet_step (exact Calls.regrown_of (cS _ (hG' _)))
  go_big_quiet_step (fail)
  refine wpQuiet_nil ?_
  rintro w' ⟨p, rfl⟩
  have hb' := below_regrown w0 p.d p.os
  have hA1 := hA.below hb' hA.lt
  have hB1 := hB.trans (hb'.mono hB.size)
  generalize grow (redrawn w0 p.d) p.os = w2 at hA1 hB1 ⊢
  have t0 := hA1.cell (i := 0) (v := .int .i64 0) rfl
  have t1 := hA1.cell (i := 1) (v := .string ⟨#[]⟩) rfl
  have z0 := hA1.frozen 0
  have z1 := hA1.frozen 1
  try simp only [Act.put]
  go_wp2
  have hA2 := (hA1.set 0 (.int .i64 (j : Int))).set 1 (.string mc)
  have hB2 := (hB1.setCell (p := ⟨w.heap.size, 0, none⟩) (Nat.le_refl _) (.int .i64 (j : Int))).setCell (p := ⟨w.heap.size, 1, none⟩) (Nat.le_refl _) (.string mc)
  refine bodyPost_ret (v := .tuple #[tagV (j : Int) mc, .int .i64 0]) ?r1 ?r2 ?r3
  case r1 => exact results_tag (p := 8) (u := 9) rfl _ _ w.heap.size 42 (j : Int) mc rfl hA2 _ rfl
  case r2 => rfl
  exact ⟨rfl, hB2⟩
end Go.Proofs.YtmjkbdgcnoenbaaGreatDoor.Mx

/- What the reference's Check does; nothing old in memory is turned. -/
namespace Go.Proofs.YtmjkbdgcnoenbaaGreatDoor.Mx
open Go.RowKit Go.Sort
set_option linter.unusedVariables false
end Go.Proofs.YtmjkbdgcnoenbaaGreatDoor.Mx

/- What the reference's Enough does; nothing old in memory is turned. -/
namespace Go.Proofs.YtmjkbdgcnoenbaaGreatDoor.Mx
open Go.RowKit Go.Sort
set_option linter.unusedVariables false

/-- The Who of the one ahead. -/
def aheadAt (l : List (Int × ByteArray)) (i : Nat) : Int := if i = 0 then -1 else (l.getD (i - 1) (0, ⟨#[]⟩)).1
end Go.Proofs.YtmjkbdgcnoenbaaGreatDoor.Mx

/- What tusklaw06.Both and tusklaw06.works do; nothing old in memory is turned. -/
namespace Go.Proofs.YtmjkbdgcnoenbaaGreatDoor
open Go.RowKit
set_option linter.unusedVariables false

def seedW : ByteArray := ⟨#[115, 101, 101, 100]⟩

/-- The header of the chapter's example. -/
def exH : HdrM := ⟨1, 1, none, [], 0, none, [], 0⟩

/-- Thirty-two zero bytes in memory. -/
def zeroC32 : List Value := List.replicate 32 (.int .u8 0)

def zero32 : ByteArray := ⟨(List.replicate 32 0).toArray⟩

/-- With a parent. -/
def exH2 (b : Nat) : HdrM := ⟨1, 1, none, [], 0, some ⟨b, 0, none⟩, [zero32], 1⟩
end Go.Proofs.YtmjkbdgcnoenbaaGreatDoor

/- What cert.Check does; nothing old in memory is turned. -/
namespace Go.Proofs.YtmjkbdgcnoenbaaGreatDoor
open Go.RowKit Go.Sort
set_option linter.unusedVariables false

def voteW : ByteArray := ⟨#[118, 111, 116, 101]⟩

/-- A header's id. -/
def idB (h : HdrD) : ByteArray := Mx.bytes (Mx.sumL (encH h))

theorem idB_size (h : HdrD) : (idB h).size = 32 := by unfold idB; rw [Mx.bytes_size]; exact Mx.keyedL_len [] _

/-- What is wrong with a certificate's votes. -/
def enV (ks : List ByteArray) (f : Nat) (h : HdrD) (l : List TagD) : Nat := Mx.enoughL ks f voteW (idB h) (pairT l)

/-- What is wrong with a certificate. -/
def chkC (ks : List ByteArray) (f : Nat) (c : CertD) : Nat := if chkH (3 * f + 1) (2 * f + 1) (enT ks f) c.header ≠ 0 then chkH (3 * f + 1) (2 * f + 1) (enT ks f) c.header else enV ks f c.header c.votes

set_option maxRecDepth 100000 in
set_option maxHeartbeats 2000000 in
theorem certCheck_any (tb f : Nat) (ks : List ByteArray) (x : CertM) (w : World) (hT : Mx.TabAt w tb f ks) (hf : f ≤ 2) (hks : ∀ k ∈ ks, k.size ≤ 32) (hA : x.At w) (hlm : ∀ r ∈ x.hdr.refs, r.acks.length ≤ maxLen) (hpm : x.hdr.parents.length ≤ maxLen) (hvm : x.votes.length ≤ maxLen) (hfit : x.hdr.Fit) (hl : (encH x.hdr.d).length ≤ 140737488351232) (hG : Mx.Glob w) :
    Calls Tryz.prog 57 #[.pointer (some ⟨tb, 0, none⟩), x.v] w fun e w' => e = .returned (.int .i64 (chkC ks f x.d : Int)) ∧ Below w.heap.size w w' := by
  have hX := Arr.new w 48 x.c
  have hB := belowNew w (.cells x.c.toArray 48)
  have hA1 := hA.below hB
  have hT1 := hT.below hB
  have hG1 := hG.below hB
  obtain ⟨w1, hw1⟩ : ∃ q, w.alloc (.cells x.c.toArray 48) = q := ⟨_, rfl⟩
  rw [hw1] at hX hB hA1 hT1 hG1
  have hX0 : Arr w1 w.heap.size 48 [.int .i64 x.hdr.author, .int .i64 x.hdr.round, .slice x.hdr.ra x.hdr.refs.length x.hdr.rc, .slice x.hdr.pa x.hdr.parents.length x.hdr.pc, .slice x.va x.votes.length x.vc] := hX
  have cC := hdrCheck_any tb f ks x.hdr w1 hT1 hf hks hA1.hdr hlm hpm hG1
  obtain ⟨er, her⟩ : ∃ q, Hid (q = chkH (3 * f + 1) (2 * f + 1) (enT ks f) x.hdr.d) := ⟨_, rfl⟩
  obtain ⟨ev, hev⟩ : ∃ q, Hid (q = enV ks f x.hdr.d x.votes) := ⟨_, rfl⟩
  have HC : Hid (chkC ks f x.d = if er ≠ 0 then er else ev) := by rw [her.out, hev.out]; rfl
  rw [← her.out] at cC
  obtain ⟨out, hout⟩ : ∃ q, Hid (q = chkC ks f x.d) := ⟨_, rfl⟩
  rw [← hout.out]
  have x0 := hX0.cell (i := 0) rfl
  have x1 := hX0.cell (i := 1) rfl
  have x2 := hX0.cell (i := 2) rfl
  have x3 := hX0.cell (i := 3) rfl
  unfold CertM.c at hw1
  unfold HdrM.v at cC
  unfold CertM.v
  go_enter Tryz.func57, Tryz.ntmps57
  go_wp2_with fail
  refine cC.mono ?_
  rintro e w2 ⟨rfl, hb2⟩
  have hX2 := hX0.below hb2 hX0.lt
  have hA2 := hA1.below hb2
  have hT2 := hT1.below hb2
  have hG2 := hG1.below hb2
  have hB2 := hB.trans (hb2.mono hB.size)
  clear cC hX hX0 hA1 hT1 hG1 hB hb2 x0 x1 x2 x3 hw1
  by_cases he : er ≠ 0
  · have hne : ((er : Int) != 0) = true := by rw [bne_iff_ne]; omega
    have HF : Hid (out = er) := hout.out.trans (HC.out.trans (if_pos he))
    go_wp2
    go_ret
    exact ⟨by rw [HF.out]; rfl, hB2⟩
  have HF : Hid (out = ev) := hout.out.trans (HC.out.trans (if_neg he))
  have he0 : er = 0 := by omega
  subst he0
  have bl := fun d os => below_regrown w2 d os
  obtain ⟨ib, hib⟩ : ∃ q, Hid (q = idB x.hdr.d) := ⟨_, rfl⟩
  have hibs : ib.size = 32 := by rw [hib.out]; exact idB_size _
  have k1 : ∀ d os, Calls Tryz.prog 53 #[x.hdr.v] (grow (redrawn w2 d) os) fun e w'' => e = .returned (.string ib) ∧ ∃ p : Regrown, w'' = grow (redrawn w2 p.d) p.os := fun d os => Calls.regrown_of (by
    rw [hib.out]
    exact hdrId_any x.hdr _ (hA2.below (bl d os)).hdr hfit hl (hG2.below (bl d os)))
  have k2 : ∀ d os, Calls Tryz.prog 86 #[.pointer (some ⟨tb, 0, none⟩), .slice x.va x.votes.length x.vc, .string voteW, .string ib] (grow (redrawn w2 d) os) fun e w'' => e = .returned (.int .i64 (ev : Int)) ∧ ∃ p : Regrown, w'' = grow (redrawn w2 p.d) p.os := fun d os => Calls.regrown_of (by
    have := Mx.enough_any tb f ks x.va x.vc (pairT x.votes) voteW ib _ (hT2.below (bl d os)) hf hks (hA2.below (bl d os)).votes.pairs (by rw [pairT_length]; exact hvm) (by decide) (by omega) (hG2.below (bl d os))
    rw [pairT_length, hib.out] at this
    rw [hib.out, hev.out]
    exact this)
  have A0 := cell_regrown (hX2.cell (i := 0) rfl)
  have A1 := cell_regrown (hX2.cell (i := 1) rfl)
  have A2 := cell_regrown (hX2.cell (i := 2) rfl)
  have A3 := cell_regrown (hX2.cell (i := 3) rfl)
  have A4 := cell_regrown (hX2.cell (i := 4) rfl)
  have HBF : Hid (∀ d os, Below w.heap.size w (grow (redrawn w2 d) os)) := fun d os => hB2.trans ((bl d os).mono hB2.size)
  unfold HdrM.v at k1
  unfold voteW at k2
  clear hX2 hA2 hT2 hG2 hB2 bl hA hT hG hfit hl hlm hpm hvm
  go_wp2_with fail
  refine wp_region_quiet_below (by kernel_rfl) (by kernel_rfl) ?_
  iterate 5 (go_big_quiet_step (fail))
  go_big_quiet_step (exact k1 _ _)
  go_big_quiet_step (exact k2 _ _)
  go_big_quiet_step (fail)
  refine wpQuiet_nil ?_
  rintro w' ⟨p, rfl⟩
  have hBF := HBF.out p.d p.os
  generalize grow (redrawn w2 p.d) p.os = w6 at hBF ⊢
  clear k1 k2 A0 A1 A2 A3 A4 HBF
  go_wp2
  go_ret
  exact ⟨by rw [HF.out]; rfl, hBF⟩
end Go.Proofs.YtmjkbdgcnoenbaaGreatDoor

/- The pure side of what acts make: headers, tags, certificates, and the ids that are in. -/
namespace Go.Proofs.YtmjkbdgcnoenbaaGreatDoor
open Go Go.RowKit
set_option linter.unusedVariables false

/-- Does this one vote? (Behind the list's end all do.) -/
def votes (who : List Bool) (i : Nat) : Bool := who.getD i true

/-- The tags of a word, of those who vote. -/
def tagsP (ks : List ByteArray) (kind word : ByteArray) (who : List Bool) (n : Nat) : List TagD := ((List.range n).filter (votes who)).map (fun i : Nat => ⟨(i : Int), Mx.macOf (ks.getD i ⟨#[]⟩) kind word⟩)

theorem tagsP_succ (ks : List ByteArray) (kind word : ByteArray) (who : List Bool) (i : Nat) : tagsP ks kind word who (i + 1) = tagsP ks kind word who i ++ (if votes who i = true then [⟨(i : Int), Mx.macOf (ks.getD i ⟨#[]⟩) kind word⟩] else []) := by
  unfold tagsP
  rw [List.range_succ, List.filter_append, List.map_append]
  congr 1
  simp only [List.filter_cons, List.filter_nil]
  split <;> rfl

theorem tagsP_length (ks : List ByteArray) (kind word : ByteArray) (who : List Bool) (n : Nat) : (tagsP ks kind word who n).length ≤ n := by
  unfold tagsP
  rw [List.length_map]
  have := List.length_filter_le (votes who) (List.range n)
  rw [List.length_range] at this
  exact this

/-- An act, as far as it makes headers. -/
structure OpP where
  author : Int
  back : Int
  odd : Int

/-- The round that is gone upon. -/
def backR (ids : List (List ByteArray)) (back : Nat) : Nat := ids.length - back

def parP (need : Nat) (ids : List (List ByteArray)) (r : Nat) (odd : Int) : List ByteArray :=
  if r = 0 then [] else if need < (ids.getD (r - 1) []).length ∧ ¬ odd.tmod 2 = 0 then (ids.getD (r - 1) []).drop 1 else ids.getD (r - 1) []

/-- The header ahead of its Refs. -/
def hdrP0 (need : Nat) (ids : List (List ByteArray)) (a r : Nat) (odd : Int) : HdrD := ⟨(a : Int), (r : Int) + 1, [], parP need ids r odd⟩

/-- With a Ref, or without. -/
def hdrP (ks : List ByteArray) (need : Nat) (ids : List (List ByteArray)) (a r : Nat) (odd : Int) (ref : Bool) : HdrD :=
  if ref = true then { hdrP0 need ids a r odd with refs := [⟨idB (hdrP0 need ids a r odd), tagsP ks ackW (idB (hdrP0 need ids a r odd)) [] ks.length⟩] } else hdrP0 need ids a r odd

/-- A certificate is in. -/
def inP (need : Nat) (ids : List (List ByteArray)) (r : Nat) : List (List ByteArray) := if r = ids.length + 1 ∧ (r = 1 ∨ need ≤ (ids.getD (r - 2) []).length) then ids ++ [[]] else ids

def inI (need : Nat) (ids : List (List ByteArray)) (r : Nat) (id : ByteArray) : List (List ByteArray) :=
  if (inP need ids r).length < r then inP need ids r else (inP need ids r).set (r - 1) (insT ((inP need ids r).getD (r - 1) []) id)
end Go.Proofs.YtmjkbdgcnoenbaaGreatDoor

/- What holds of whatever a validator knows, and stays so. -/
namespace Go.Proofs.YtmjkbdgcnoenbaaGreatDoor
open Go Go.RowKit
set_option linter.unusedVariables false

theorem getC_none {L : List RowC} {id : ByteArray} : getC L id = none ↔ ∀ x ∈ L, x.id ≠ id := by
  unfold getC
  rw [List.find?_eq_none]
  constructor
  · intro h x hx e
    have := h x hx
    rw [bytes_eq] at this
    simp [e] at this
  · intro h x hx
    rw [bytes_eq]
    simpa using h x hx

theorem getC_some {L : List RowC} {id : ByteArray} {x : RowC} (h : getC L id = some x) : x ∈ L ∧ x.id = id := by
  unfold getC at h
  have h1 := List.mem_of_find?_eq_some h
  have h2 := List.find?_some h
  rw [bytes_eq] at h2
  exact ⟨h1, of_decide_eq_true h2⟩

/-- The rows stand by rising ids. -/
def RiseC (L : List RowC) : Prop := L.Pairwise (fun x y => x.id.toList < y.id.toList)

theorem RiseC.get {L : List RowC} (h : RiseC L) {x : RowC} (hx : x ∈ L) : getC L x.id = some x := by
  cases hg : getC L x.id with
  | none => exact (getC_none.1 hg x hx rfl).elim
  | some y =>
    obtain ⟨hy, e⟩ := getC_some hg
    have hn : ∀ {l : List RowC}, l.Pairwise (fun x y => x.id.toList < y.id.toList) → x ∈ l → y ∈ l → y = x := by
      intro l hl hx hy
      induction l with
      | nil => cases hx
      | cons z l ih =>
        obtain ⟨h1, h2⟩ := List.pairwise_cons.1 hl
        rcases List.mem_cons.1 hx with rfl | hx' <;> rcases List.mem_cons.1 hy with rfl | hy'
        · rfl
        · have := h1 y hy'
          rw [e] at this
          exact (List.lt_irrefl _ this).elim
        · have := h1 x hx'
          rw [e] at this
          exact (List.lt_irrefl _ this).elim
        · exact ih h2 hx' hy'
    rw [hn h hx hy]

theorem insC_cons (y : RowC) (l : List RowC) (x : RowC) : insC (y :: l) x = if y.id.toList < x.id.toList then y :: insC l x else x :: y :: l := by
  unfold insC rowAtC
  rw [List.takeWhile_cons, lessT_eq]
  by_cases h : y.id.toList < x.id.toList
  · rw [decide_eq_true h, if_pos h]
    simp
  · rw [decide_eq_false h, if_neg h]
    simp

theorem insC_mem {l : List RowC} {x y : RowC} : y ∈ insC l x ↔ y = x ∨ y ∈ l := by
  induction l with
  | nil => simp [insC]
  | cons z l ih =>
    rw [insC_cons]
    split
    · rw [List.mem_cons, ih, List.mem_cons]
      constructor
      · rintro (h | h | h)
        · exact Or.inr (Or.inl h)
        · exact Or.inl h
        · exact Or.inr (Or.inr h)
      · rintro (h | h | h)
        · exact Or.inr (Or.inl h)
        · exact Or.inl h
        · exact Or.inr (Or.inr h)
    · exact List.mem_cons

theorem RiseC.ins {l : List RowC} (h : RiseC l) {x : RowC} (hx : getC l x.id = none) : RiseC (insC l x) := by
  replace hx := getC_none.1 hx
  induction l with
  | nil => exact List.pairwise_singleton _ _
  | cons z l ih =>
    obtain ⟨h1, h2⟩ := List.pairwise_cons.1 h
    rw [insC_cons]
    split
    · next hlt =>
      refine List.pairwise_cons.2 ⟨fun y hy => ?_, ih h2 (fun y hy => hx y (List.mem_cons_of_mem _ hy))⟩
      rcases insC_mem.1 hy with rfl | hy
      · exact hlt
      · exact h1 y hy
    · next hge =>
      have hlt : x.id.toList < z.id.toList := by
        rcases Std.lt_trichotomy x.id.toList z.id.toList with h | h | h
        · exact h
        · exact (hx z List.mem_cons_self (bytes_inj h).symm).elim
        · exact (hge h).elim
      refine List.pairwise_cons.2 ⟨fun y hy => ?_, h⟩
      rcases List.mem_cons.1 hy with rfl | hy
      · exact hlt
      · exact List.lt_trans hlt (h1 y hy)

/-- One of an author and a round. -/
def ApartC (L : List RowC) : Prop := L.Pairwise (fun x y => ¬ (x.c.header.author = y.c.header.author ∧ x.c.header.round = y.c.header.round))

theorem sameP_false {L : List RowC} {h : HdrD} : sameP L h = false ↔ ∀ x ∈ L, ¬ (x.c.header.author = h.author ∧ x.c.header.round = h.round) := by
  unfold sameP
  rw [List.any_eq_false]
  simp

theorem insC_perm (l : List RowC) (x : RowC) : (insC l x).Perm (x :: l) := by
  induction l with
  | nil => exact List.Perm.refl _
  | cons z l ih =>
    rw [insC_cons]
    split
    · exact ((List.Perm.cons z ih).trans (List.Perm.swap x z l))
    · exact List.Perm.refl _

theorem ApartC.ins {L : List RowC} (h : ApartC L) {x : RowC} (hx : sameP L x.c.header = false) : ApartC (insC L x) := by
  have hx := sameP_false.1 hx
  refine ((insC_perm L x).pairwise_iff (fun {a b} hab h => hab ⟨h.1.symm, h.2.symm⟩)).2 (List.pairwise_cons.2 ⟨fun y hy h => hx y hy ⟨h.1.symm, h.2.symm⟩, h⟩)

/-- What holds of what a validator knows. -/
structure DagOk (ks : List ByteArray) (f : Nat) (d : DagD) : Prop where
  rise : RiseC d.L
  id : ∀ x ∈ d.L, x.id = idB x.c.header
  chk : ∀ x ∈ d.L, chkC ks f x.c = 0
  low : ∀ x ∈ d.L, d.low ≤ x.c.header.round
  apart : ApartC d.L
  few : d.L.length ≤ 32 * (3 * f + 1)
  vkey : d.V.Pairwise (fun x y => ¬ (x.author = y.author ∧ x.round = y.round))
  vlow : ∀ v ∈ d.V, d.low ≤ v.round
  vfit : ∀ v ∈ d.V, 0 ≤ v.author ∧ v.author < ((3 * f + 1 : Nat) : Int) ∧ 1 ≤ v.round ∧ v.round ≤ 4611686018427387903
  low1 : 1 ≤ d.low

theorem chkC_hdr {ks : List ByteArray} {f : Nat} {c : CertD} (h : chkC ks f c = 0) : chkH (3 * f + 1) (2 * f + 1) (enT ks f) c.header = 0 ∧ enV ks f c.header c.votes = 0 := by
  unfold chkC at h
  split at h
  · next h1 => exact (h1 h).elim
  · next h1 => exact ⟨by simpa using h1, h⟩

theorem chkH_range {n need : Nat} {en : List TagD → ByteArray → Nat} {h : HdrD} (hc : chkH n need en h = 0) : 0 ≤ h.author ∧ h.author < (n : Int) ∧ 1 ≤ h.round ∧ h.round ≤ 4611686018427387903 := by
  unfold chkH at hc
  split at hc
  · cases hc
  · next h1 => omega

theorem dag0_ok (ks : List ByteArray) (f : Nat) : DagOk ks f dag0 :=
  ⟨List.Pairwise.nil, (fun x hx => by cases hx), (fun x hx => by cases hx), (fun x hx => by cases hx), List.Pairwise.nil, Nat.zero_le _, List.Pairwise.nil, (fun x hx => by cases hx), (fun x hx => by cases hx), by decide⟩

theorem addE_ok {chk n : Nat} {d : DagD} {h : HdrD} {id : ByteArray} (e : addE chk n d h id = 0) : chk = 0 ∧ d.low ≤ h.round ∧ getC d.L id = none ∧ parE d h = 0 ∧ sameP d.L h = false ∧ d.L.length < 32 * n := by
  unfold addE at e
  split at e
  · next h1 => exact (h1 e).elim
  next h1 =>
  split at e
  · cases e
  next h2 =>
  split at e
  · cases e
  next h3 =>
  split at e
  · next h4 => exact (h4 e).elim
  next h4 =>
  split at e
  · cases e
  next h5 =>
  split at e
  · cases e
  next h6 =>
  exact ⟨by simpa using h1, by omega, by simpa using h3, by simpa using h4, by simpa using h5, by omega⟩

theorem DagOk.add {ks : List ByteArray} {f : Nat} {d : DagD} (h : DagOk ks f d) (c : CertD) : DagOk ks f (addD (chkC ks f c) (3 * f + 1) d c (idB c.header)) := by
  unfold addD
  split
  · next he =>
    obtain ⟨h1, h2, h3, h4, h5, h6⟩ := addE_ok he
    refine ⟨h.rise.ins h3, fun x hx => ?_, fun x hx => ?_, fun x hx => ?_, h.apart.ins h5, by show (insC d.L _).length ≤ _; rw [insC_length]; omega, h.vkey, h.vlow, h.vfit, h.low1⟩
    all_goals
      rcases insC_mem.1 hx with rfl | hx
    · rfl
    · exact h.id x hx
    · exact h1
    · exact h.chk x hx
    · exact h2
    · exact h.low x hx
  · exact h

theorem voteE_ok {chk : Nat} {d : DagD} {h : HdrD} {id : ByteArray} (e : voteE chk d h id = 0) : chk = 0 ∧ d.low ≤ h.round ∧ parE d h = 0 ∧ clashV d.V h.author h.round id = false := by
  unfold voteE at e
  split at e
  · next h1 => exact (h1 e).elim
  next h1 =>
  split at e
  · cases e
  next h2 =>
  split at e
  · next h3 => exact (h3 e).elim
  next h3 =>
  split at e
  · cases e
  next h4 =>
  exact ⟨by simpa using h1, by omega, by simpa using h3, by simpa using h4⟩

theorem votP_true {a r : Int} {v : VoteD} : votP a r v = true ↔ v.author = a ∧ v.round = r := by
  unfold votP
  simp

theorem foundV_false {V : List VoteD} {a r : Int} : foundV V a r = false ↔ ∀ v ∈ V, ¬ (v.author = a ∧ v.round = r) := by
  unfold foundV
  rw [List.any_eq_false]
  simp only [votP_true]

theorem clashV_false {V : List VoteD} {a r : Int} {id : ByteArray} : clashV V a r id = false ↔ ∀ v ∈ V, v.author = a → v.round = r → v.id = id := by
  unfold clashV
  rw [List.any_eq_false]
  simp only [bytes_eq, Bool.and_eq_true, votP_true, Bool.not_eq_true', decide_eq_false_iff_not]
  constructor
  · intro h v hv h1 h2
    by_cases e : v.id = id
    · exact e
    · exact (h v hv ⟨⟨h1, h2⟩, e⟩).elim
  · rintro h v hv ⟨⟨h1, h2⟩, e⟩
    exact e (h v hv h1 h2)

theorem DagOk.vote {ks : List ByteArray} {f : Nat} {d : DagD} (h : DagOk ks f d) (x : HdrD) : DagOk ks f (voteD (chkH (3 * f + 1) (2 * f + 1) (enT ks f) x) d x (idB x)) := by
  unfold voteD
  split
  · next he =>
    obtain ⟨h1, h2, h3, h4⟩ := voteE_ok he
    have hr := chkH_range h1
    refine ⟨h.rise, h.id, h.chk, h.low, h.apart, h.few, ?_, fun v hv => ?_, fun v hv => ?_, h.low1⟩
    all_goals
      simp only [voteV] at *
    · split
      · exact h.vkey
      · next hf =>
        have hf := foundV_false.1 (by simpa using hf)
        rw [List.pairwise_append]
        refine ⟨h.vkey, List.pairwise_singleton _ _, fun v hv u hu => ?_⟩
        rw [List.mem_singleton.1 hu]
        exact hf v hv
    · split at hv
      · exact h.vlow v hv
      · rcases List.mem_append.1 hv with hv | hv
        · exact h.vlow v hv
        · rw [List.mem_singleton.1 hv]; exact h2
    · split at hv
      · exact h.vfit v hv
      · rcases List.mem_append.1 hv with hv | hv
        · exact h.vfit v hv
        · rw [List.mem_singleton.1 hv]; exact hr
  · exact h

theorem DagOk.next {ks : List ByteArray} {f need : Nat} {d : DagD} (h : DagOk ks f d) : DagOk ks f (nextD need d) := by
  unfold nextD
  split
  · exact ⟨h.rise, h.id, h.chk, h.low, h.apart, h.few, h.vkey, h.vlow, h.vfit, h.low1⟩
  · exact h

theorem keepC_mem {L : List RowC} {r : Int} {x : RowC} : x ∈ keepC L r ↔ x ∈ L ∧ r ≤ x.c.header.round := by
  unfold keepC
  rw [List.mem_filter, decide_eq_true_eq]

theorem keepV_mem {V : List VoteD} {r : Int} {v : VoteD} : v ∈ keepV V r ↔ v ∈ V ∧ r ≤ v.round := by
  unfold keepV
  rw [List.mem_filter, decide_eq_true_eq]

theorem DagOk.lows {ks : List ByteArray} {f : Nat} {d : DagD} (h : DagOk ks f d) (r : Int) : DagOk ks f (lowD d r) := by
  unfold lowD
  split
  · exact h
  · next hr =>
    exact ⟨List.Pairwise.filter _ h.rise, fun x hx => h.id x (keepC_mem.1 hx).1, fun x hx => h.chk x (keepC_mem.1 hx).1, fun x hx => (keepC_mem.1 hx).2, List.Pairwise.filter _ h.apart, Nat.le_trans (List.length_filter_le _ _) h.few, List.Pairwise.filter _ h.vkey, fun v hv => (keepV_mem.1 hv).2, fun v hv => h.vfit v (keepV_mem.1 hv).1, by have := h.low1; show 1 ≤ r; omega⟩

/-- ONE VOTE: what was voted for is in, until the low is above it. -/
def VotedOk (d : DagD) (F : Int → Int → Option ByteArray) : Prop := ∀ a r id, F a r = some id → r < d.low ∨ (⟨a, r, id⟩ : VoteD) ∈ d.V

theorem VotedOk.same {d : DagD} {F : Int → Int → Option ByteArray} (h : VotedOk d F) {chk : Nat} {x : HdrD} {id : ByteArray} (he : voteE chk d x id = 0) {was : ByteArray} (hw : F x.author x.round = some was) : was = id := by
  obtain ⟨_, h2, _, h4⟩ := voteE_ok he
  rcases h _ _ _ hw with h1 | h1
  · omega
  · exact clashV_false.1 h4 _ h1 rfl rfl

theorem VotedOk.put {d : DagD} {F : Int → Int → Option ByteArray} (h : VotedOk d F) {chk : Nat} {x : HdrD} {id : ByteArray} (he : voteE chk d x id = 0) : VotedOk (voteD chk d x id) (fun a r => if a = x.author ∧ r = x.round then some id else F a r) := by
  obtain ⟨_, h2, _, h4⟩ := voteE_ok he
  have hV : (⟨x.author, x.round, id⟩ : VoteD) ∈ voteV d x id := by
    unfold voteV
    by_cases hf : foundV d.V x.author x.round = true
    · rw [if_pos hf]
      unfold foundV at hf
      obtain ⟨v, hv, hp⟩ := List.any_eq_true.1 hf
      obtain ⟨e1, e2⟩ := votP_true.1 hp
      have e3 := clashV_false.1 h4 v hv e1 e2
      cases v
      simp only at e1 e2 e3
      subst e1; subst e2; subst e3
      exact hv
    · rw [if_neg hf]
      exact List.mem_append_right _ (List.mem_singleton.2 rfl)
  have hsub : ∀ v ∈ d.V, v ∈ voteV d x id := fun v hv => by
    unfold voteV
    split
    · exact hv
    · exact List.mem_append_left _ hv
  intro a r i hi
  simp only at hi
  unfold voteD
  rw [if_pos he]
  split at hi
  · next e =>
    obtain ⟨rfl, rfl⟩ := e
    simp only [Option.some.injEq] at hi
    subst hi
    exact Or.inr hV
  · exact (h a r i hi).imp (fun e => e) (hsub _)

theorem VotedOk.add {d : DagD} {F : Int → Int → Option ByteArray} (h : VotedOk d F) (chk n : Nat) (c : CertD) (id : ByteArray) : VotedOk (addD chk n d c id) F := by
  unfold addD
  split
  · exact h
  · exact h

theorem VotedOk.next {d : DagD} {F : Int → Int → Option ByteArray} (h : VotedOk d F) (need : Nat) : VotedOk (nextD need d) F := by
  unfold nextD
  split
  · exact h
  · exact h

theorem VotedOk.vote {d : DagD} {F : Int → Int → Option ByteArray} (h : VotedOk d F) {chk : Nat} {x : HdrD} {id : ByteArray} (he : voteE chk d x id ≠ 0) : VotedOk (voteD chk d x id) F := by
  unfold voteD
  rw [if_neg he]
  exact h

theorem VotedOk.lows {d : DagD} {F : Int → Int → Option ByteArray} (h : VotedOk d F) (r : Int) : VotedOk (lowD d r) F := by
  unfold lowD
  split
  · exact h
  · intro a q i hi
    rcases h a q i hi with e | e
    · exact Or.inl (by show q < r; omega)
    · by_cases hq : r ≤ q
      · exact Or.inr (keepV_mem.2 ⟨e, hq⟩)
      · exact Or.inl (by show q < r; omega)
end Go.Proofs.YtmjkbdgcnoenbaaGreatDoor

/- The ids of the first round's headers differ. -/
namespace Go.Proofs.YtmjkbdgcnoenbaaGreatDoor
open Go Go.RowKit
set_option linter.unusedVariables false

/-- The header of an author in the round 1, with nothing in it. -/
def hdr1 (a : Nat) : HdrD := ⟨(a : Int), 1, [], []⟩

def ids1 : List ByteArray := (List.range 7).map (fun a => idB (hdr1 a))

set_option maxRecDepth 100000 in
theorem ids1_nodup : (ids1.map (fun x => x.data.toList)).Nodup := by decide +kernel
end Go.Proofs.YtmjkbdgcnoenbaaGreatDoor

/- Certificates that acts make are right; the first round, certificate by certificate. -/
namespace Go.Proofs.YtmjkbdgcnoenbaaGreatDoor
open Go Go.RowKit
set_option linter.unusedVariables false

theorem pairT_tagsP (ks : List ByteArray) (kind word : ByteArray) (who : List Bool) (n : Nat) : pairT (tagsP ks kind word who n) = ((List.range n).filter (votes who)).map (Mx.tagOf ks kind word) := by
  unfold pairT tagsP
  rw [List.map_map]
  rfl

theorem enough_tagsP {ks : List ByteArray} {f : Nat} (hk : ks.length = 3 * f + 1) (kind word : ByteArray) (who : List Bool) : Mx.enoughL ks f kind word (pairT (tagsP ks kind word who (3 * f + 1))) = if ((List.range (3 * f + 1)).filter (votes who)).length < 2 * f + 1 then 12 else 0 := by
  rw [pairT_tagsP]
  refine Mx.enough_rising f _ (fun i hi => ?_) (List.Pairwise.filter _ List.pairwise_lt_range)
  have := List.mem_range.1 (List.mem_filter.1 hi).1
  omega

theorem votes_nil (i : Nat) : votes [] i = true := by unfold votes; simp

theorem enough_all {ks : List ByteArray} {f : Nat} (hk : ks.length = 3 * f + 1) (kind word : ByteArray) : Mx.enoughL ks f kind word (pairT (tagsP ks kind word [] (3 * f + 1))) = 0 := by
  rw [enough_tagsP hk, List.filter_eq_self.2 (fun i _ => votes_nil i), List.length_range, if_neg (by omega)]

/-- A certificate of the first round. -/
def certA (ks : List ByteArray) (n a : Nat) : CertD := ⟨hdr1 a, tagsP ks voteW (idB (hdr1 a)) [] (3 * n + 1)⟩

def rowA (ks : List ByteArray) (n a : Nat) : RowC := ⟨idB (hdr1 a), certA ks n a⟩

theorem chk_hdr1 {n a : Nat} (need : Nat) (en : List TagD → ByteArray → Nat) (ha : a < n) : chkH n need en (hdr1 a) = 0 := by
  unfold chkH hdr1
  simp only [List.length_nil]
  rw [if_neg (by omega), if_neg (by omega)]
  simp [refP, risP, countE]

theorem chk_certA {ks : List ByteArray} {n a : Nat} (hk : ks.length = 3 * n + 1) (ha : a < 3 * n + 1) : chkC ks n (certA ks n a) = 0 := by
  unfold chkC
  have h1 : chkH (3 * n + 1) (2 * n + 1) (enT ks n) (certA ks n a).header = 0 := chk_hdr1 _ _ ha
  rw [h1, if_neg (by simp)]
  exact enough_all hk voteW (idB (hdr1 a))

theorem ids1_inj {a b : Nat} (ha : a < 7) (hb : b < 7) (h : idB (hdr1 a) = idB (hdr1 b)) : a = b := by
  have hn := ids1_nodup
  have e : ∀ i, i < 7 → (ids1.map (fun x => x.data.toList))[i]? = some (idB (hdr1 i)).data.toList := fun i hi => by
    unfold ids1
    rw [List.map_map, List.getElem?_map, List.getElem?_range hi]
    rfl
  have hl : (ids1.map (fun x => x.data.toList)).length = 7 := by unfold ids1; simp
  have h1 := e a ha
  have h2 := e b hb
  rw [h] at h1
  obtain ⟨p1, q1⟩ := List.getElem?_eq_some_iff.1 h1
  obtain ⟨p2, q2⟩ := List.getElem?_eq_some_iff.1 h2
  have hp := List.pairwise_iff_getElem.1 hn
  rcases Nat.lt_trichotomy a b with h | h | h
  · exact (hp a b p1 p2 h (q1.trans q2.symm)).elim
  · exact h
  · exact (hp b a p2 p1 h (q2.trans q1.symm)).elim

/-- What is known is certificates of the first round alone, each author's at most once. -/
structure First (ks : List ByteArray) (n : Nat) (qs : List Nat) (d : DagD) : Prop where
  mem : ∀ x, x ∈ d.L ↔ ∃ a ∈ qs, x = rowA ks n a
  len : d.L.length = qs.length
  low : d.low = 1
  nod : qs.Nodup
  lt : ∀ a ∈ qs, a < 3 * n + 1

theorem parE_first {d : DagD} {h : HdrD} (hl : d.low = 1) (hr : h.round = 1) : parE d h = 0 := by
  have hm : missD d h = [] := by unfold missD; rw [if_pos (by omega)]
  unfold parE
  rw [hm, if_neg (by simp), if_neg (by omega)]

theorem First.addE {ks : List ByteArray} {n : Nat} {qs : List Nat} {d : DagD} (h : First ks n qs d) (hn : n ≤ 2) (hk : ks.length = 3 * n + 1) {a : Nat} (ha : a < 3 * n + 1) (hna : a ∉ qs) (hq : qs.length < 32) : Proofs.YtmjkbdgcnoenbaaGreatDoor.addE (chkC ks n (certA ks n a)) (3 * n + 1) d (hdr1 a) (idB (hdr1 a)) = 0 := by
  have h3 : getC d.L (idB (hdr1 a)) = none := getC_none.2 (fun x hx e => by
    obtain ⟨b, hb, rfl⟩ := (h.mem x).1 hx
    have := h.lt b hb
    exact hna (by rw [← ids1_inj (by omega) (by omega) e]; exact hb))
  have h5 : sameP d.L (hdr1 a) = false := sameP_false.2 (fun x hx e => by
    obtain ⟨b, hb, rfl⟩ := (h.mem x).1 hx
    have e1 : (b : Int) = (a : Int) := e.1
    have : b = a := by omega
    exact hna (by rw [← this]; exact hb))
  unfold Proofs.YtmjkbdgcnoenbaaGreatDoor.addE
  rw [chk_certA hk ha, if_neg (by simp), if_neg (by rw [h.low]; show ¬ (1 : Int) < 1; omega), h3, if_neg (by simp), parE_first h.low rfl, if_neg (by simp), h5, if_neg (by simp), if_neg (by rw [h.len]; omega)]

theorem First.add {ks : List ByteArray} {n : Nat} {qs : List Nat} {d : DagD} (h : First ks n qs d) (hn : n ≤ 2) (hk : ks.length = 3 * n + 1) {a : Nat} (ha : a < 3 * n + 1) (hna : a ∉ qs) (hq : qs.length < 32) : First ks n (a :: qs) (addD (chkC ks n (certA ks n a)) (3 * n + 1) d (certA ks n a) (idB (hdr1 a))) := by
  have e : Proofs.YtmjkbdgcnoenbaaGreatDoor.addE (chkC ks n (certA ks n a)) (3 * n + 1) d (certA ks n a).header (idB (hdr1 a)) = 0 := h.addE hn hk ha hna hq
  unfold addD
  rw [if_pos e]
  refine ⟨fun x => ?_, ?_, h.low, List.nodup_cons.2 ⟨hna, h.nod⟩, fun b hb => ?_⟩
  · show x ∈ insC d.L _ ↔ _
    rw [insC_mem, h.mem]
    constructor
    · rintro (rfl | ⟨b, hb, rfl⟩)
      · exact ⟨a, List.mem_cons_self, rfl⟩
      · exact ⟨b, List.mem_cons_of_mem _ hb, rfl⟩
    · rintro ⟨b, hb, rfl⟩
      rcases List.mem_cons.1 hb with rfl | hb
      · exact Or.inl rfl
      · exact Or.inr ⟨b, hb, rfl⟩
  · show (insC d.L _).length = _
    rw [insC_length, h.len, List.length_cons]
  · rcases List.mem_cons.1 hb with rfl | hb
    · exact ha
    · exact h.lt b hb

theorem First.ids {ks : List ByteArray} {n : Nat} {qs : List Nat} {d : DagD} (h : First ks n qs d) : (idsC d.L 1).length = qs.length := by
  unfold idsC
  rw [List.length_map, List.filter_eq_self.2 (fun x hx => ?_), h.len]
  obtain ⟨b, hb, rfl⟩ := (h.mem x).1 hx
  rfl

theorem topStep_first {need : Nat} {L : List RowC} (hneed : need ≤ (idsC L 1).length) : ∀ (M : List RowC), (∀ x ∈ M, x.c.header.round = 1) → M.foldl (topStep need L) 1 = 1
  | [], _ => rfl
  | x :: M, h => by
    rw [List.foldl_cons]
    have hx := h x List.mem_cons_self
    have : topStep need L 1 x = 1 := by unfold topStep; rw [hx, if_neg (by omega)]
    rw [this]
    exact topStep_first hneed M (fun y hy => h y (List.mem_cons_of_mem _ hy))

theorem First.round {ks : List ByteArray} {n need : Nat} {qs : List Nat} {d : DagD} (h : First ks n qs d) (h1 : 0 < qs.length) (h2 : need ≤ qs.length) : roundC need d.L = 1 := by
  have hr : ∀ x ∈ d.L, x.c.header.round = 1 := fun x hx => by
    obtain ⟨b, hb, rfl⟩ := (h.mem x).1 hx
    rfl
  have hid := h.ids
  unfold roundC
  have hlen := h.len
  generalize hL : d.L = L at *
  cases L with
  | nil => simp at hlen; omega
  | cons x M =>
    rw [List.foldl_cons]
    have hx := hr x List.mem_cons_self
    have : topStep need (x :: M) 0 x = 1 := by unfold topStep; rw [hx, if_pos ⟨by omega, by rw [hid]; exact h2⟩]
    rw [this]
    exact topStep_first (by rw [hid]; exact h2) M (fun y hy => hr y (List.mem_cons_of_mem _ hy))
end Go.Proofs.YtmjkbdgcnoenbaaGreatDoor

/- Rounds: the greatest of which enough are in rises only; the header upon it is right. -/
namespace Go.Proofs.YtmjkbdgcnoenbaaGreatDoor
open Go Go.RowKit
set_option linter.unusedVariables false

theorem topStep_ge (need : Nat) (L : List RowC) (top : Int) (x : RowC) : top ≤ topStep need L top x := by
  unfold topStep
  split <;> omega

theorem fold_ge (need : Nat) (L : List RowC) : ∀ (M : List RowC) (top : Int), top ≤ M.foldl (topStep need L) top
  | [], top => Int.le_refl _
  | x :: M, top => by
    rw [List.foldl_cons]
    exact Int.le_trans (topStep_ge need L top x) (fold_ge need L M _)

/-- What has enough is not above it. -/
theorem fold_max (need : Nat) (L : List RowC) : ∀ (M : List RowC) (top : Int) (x : RowC), x ∈ M → need ≤ (idsC L x.c.header.round).length → x.c.header.round ≤ M.foldl (topStep need L) top
  | y :: M, top, x, hx, hn => by
    rw [List.foldl_cons]
    rcases List.mem_cons.1 hx with rfl | hx
    · refine Int.le_trans ?_ (fold_ge need L M _)
      unfold topStep
      split
      · exact Int.le_refl _
      · next h => omega
    · exact fold_max need L M _ x hx hn

theorem fold_is (need : Nat) (L : List RowC) : ∀ (M : List RowC) (top : Int), M.foldl (topStep need L) top = top ∨ ∃ x ∈ M, x.c.header.round = M.foldl (topStep need L) top ∧ need ≤ (idsC L (M.foldl (topStep need L) top)).length
  | [], top => Or.inl rfl
  | y :: M, top => by
    rw [List.foldl_cons]
    rcases fold_is need L M (topStep need L top y) with h | ⟨x, hx, h1, h2⟩
    · rw [h]
      unfold topStep
      split
      · next hc => exact Or.inr ⟨y, List.mem_cons_self, rfl, hc.2⟩
      · exact Or.inl rfl
    · exact Or.inr ⟨x, List.mem_cons_of_mem _ hx, h1, h2⟩

theorem roundC_ge0 (need : Nat) (L : List RowC) : 0 ≤ roundC need L := fold_ge need L L 0

theorem roundC_is (need : Nat) (L : List RowC) : roundC need L = 0 ∨ ∃ x ∈ L, x.c.header.round = roundC need L ∧ need ≤ (idsC L (roundC need L)).length := fold_is need L L 0

theorem roundC_max {need : Nat} {L : List RowC} {x : RowC} (hx : x ∈ L) (h : need ≤ (idsC L x.c.header.round).length) : x.c.header.round ≤ roundC need L := fold_max need L L 0 x hx h

theorem idsC_ins (L : List RowC) (x : RowC) (r : Int) : (idsC L r).length ≤ (idsC (insC L x) r).length := by
  unfold idsC
  rw [List.length_map, List.length_map, ((insC_perm L x).filter _).length_eq, List.filter_cons]
  split
  · rw [List.length_cons]; omega
  · exact Nat.le_refl _

theorem nextD_L (need : Nat) (d : DagD) : (nextD need d).L = d.L := by
  unfold nextD
  split <;> rfl

theorem leB_lt {a b : ByteArray} (h : a.toList < b.toList) : leB b a = false := by
  unfold leB
  rw [lessT_eq, bytes_eq, decide_eq_false (fun e => List.lt_irrefl _ (List.lt_trans h e)), decide_eq_false (fun e => by rw [e] at h; exact List.lt_irrefl _ h)]
  rfl

theorem risP_rise : ∀ (l : List ByteArray) (a : ByteArray), (∀ p ∈ l, p.size = 32) → (∀ p ∈ l, a.toList < p.toList) → l.Pairwise (fun x y => x.toList < y.toList) → risP a l = 0
  | [], _, _, _, _ => rfl
  | k :: l, a, h1, h2, h3 => by
    obtain ⟨h4, h5⟩ := List.pairwise_cons.1 h3
    have hd : digE k a = 0 := by
      unfold digE
      rw [if_neg (by simpa using h1 k List.mem_cons_self), leB_lt (h2 k List.mem_cons_self)]
      rfl
    unfold risP
    rw [hd, if_neg (by simp)]
    exact risP_rise l k (fun p hp => h1 p (List.mem_cons_of_mem _ hp)) h4 h5
end Go.Proofs.YtmjkbdgcnoenbaaGreatDoor

/- append(q, xs...) of a row's elements, q an empty row of the call's own: nothing but q's block and new ones is turned. -/
namespace Go.Proofs.YtmjkbdgcnoenbaaGreatDoor
open Go.RowKit
set_option linter.unusedVariables false

section
variable {α : Type} {K : Kind α}

/-- As an equation of the run. -/
theorem run_copyK {P : Program} (w : World) (t ty : TypeId) (base : Nat) (e : TypeId) (i : TypeInfo) (z : Value) (bytes : Nat) (ht : P.underlying t = some (.slice e)) (hi : P.info? e = some i) (hz : i.zero = some z)
    (hsize : i.size = K.n) (hby : i.bytes = bytes) (hzs : z.cells.size = K.n)
    (v : Value) (hown : w.ownsRow base e K.n v 0 []) (ao : Option Addr) (cap : Nat) (l : List α)
    (hS : RowAt K w ao l) (hf : ∀ x b, ¬ K.foot x b) (hnil : ao = none → cap = 0) (hm : l.length ≤ maxLen) (hlen : l.length * bytes ≤ 140737488355328) (hbase : base ≤ w.heap.size) :
    ∃ ao' cap' w', (Builtin.append_ #[t, t] ty #[v, .slice ao l.length cap]).run P w = .ok (.slice ao' l.length cap') w' ∧ KQ K e w' base (.slice ao' l.length cap') l ∧ Kept (fun k => v.ownBlock = some k) w w' := by
  cases ao with
  | none =>
    have hc0 := hnil rfl
    subst hc0
    have hss : l = [] := by
      cases l with
      | nil => rfl
      | cons y r => obtain ⟨_, _, e, _⟩ := hS.cell 0 y rfl; cases e
    subst hss
    have hrun := run_append_owned_none (P := P) (w := w) base t ty e i K.n ht hi v 0 [] hown
    have hq := QRow.of_own hown
    rcases hown.2 with ⟨hv, _⟩ | ⟨g, c, cur, hv, _⟩
    · rw [hv] at hrun ⊢
      exact ⟨none, 0, w, hrun, KQ.empty K e w base, Kept.refl _ _⟩
    · rw [hv] at hrun hq hown ⊢
      exact ⟨_, c, w, hrun, ⟨hq, (fun x hx => by cases hx), (fun x hx => by cases hx), (fun k hk => ⟨(hown.lt k hk).1, (hown.lt k hk).2⟩), (fun n cap e => by cases e)⟩, Kept.refl _ _⟩
  | some ad =>
    obtain ⟨v', w', hrun, hown', hgrow, _⟩ := run_append_own (P := P) w base t ty e i z K.n bytes ht hi hz hsize hby hzs K.pos v 0 [] hown ad l.length cap (flatK K l) (flatK_length K l) hS.news (flatK_one K l) (by omega) (by rw [Nat.zero_add]; exact hlen) hbase
    rw [Nat.zero_add, List.nil_append] at hown'
    have hk := Kept.of_grown hgrow
    have hA : ∀ x ∈ l, K.At w' x := fun x hx => K.kept (hS.at_ x hx) hk (fun b hb' => absurd hb' (hf x b))
    have hq := QRow.of_own hown'
    obtain ⟨ao', cap', rfl, hlc, _⟩ := hq.form
    refine ⟨ao', cap', w', hrun, ⟨hq, hA, fun x hx b hb => absurd hb (hf x b), fun k hk => ⟨(hown'.lt k hk).1, (hown'.lt k hk).2⟩, ?_⟩, hk⟩
    intro n c he
    rcases hown'.2 with ⟨hv, _⟩ | ⟨g, c', cur, hv, _⟩
    · rw [hv] at he
      simp at he
      omega
    · rw [hv] at he
      cases he

/-- The same, at a step of a region that draws its order. -/
theorem step_copyK {P : Program} (w : World) {ops : Array Oper} {o : Oper} {a : Act} {C : Act → World → Prop} {Q : Exit → Act → World → Prop} {E : Prop} (hgd : o.guard = none) (s x : Operand) (t : TypeId)
    (ho : o.op = .call { callee := .builtin .append, args := #[s, x], argTypes := #[t, t] })
    (base : Nat) (e : TypeId) (i : TypeInfo) (z : Value) (bytes : Nat) (ht : P.underlying t = some (.slice e)) (hi : P.info? e = some i) (hz : i.zero = some z)
    (hsize : i.size = K.n) (hby : i.bytes = bytes) (hzs : z.cells.size = K.n)
    (v : Value) (hs : a.eval s = v) (hown : w.ownsRow base e K.n v 0 []) (ao : Option Addr) (cap : Nat) (l : List α) (hx : a.eval x = .slice ao l.length cap)
    (hS : RowAt K w ao l) (hf : ∀ x b, ¬ K.foot x b) (hnil : ao = none → cap = 0) (hm : l.length ≤ maxLen) (hlen : l.length * bytes ≤ 140737488355328) (hbase : base ≤ w.heap.size)
    (h : ∀ ao' cap' w', KQ K e w' base (.slice ao' l.length cap') l → Kept (fun k => v.ownBlock = some k) w w' → C (a.put o.dst (.slice ao' l.length cap')) w') : if Region.wanted o (yielded ops a.tmps) = true then Oper.wp P o a w C Q else E := by
  rw [if_pos (by simp [Region.wanted, hgd])]
  obtain ⟨ao', cap', w', hrun, r1, r2⟩ := run_copyK (K := K) (P := P) w t o.type base e i z bytes ht hi hz hsize hby hzs v hown ao cap l hS hf hnil hm hlen hbase
  unfold Oper.wp
  simp [execOp, ho, resolve, invoke, builtin, hs, hx, hrun, Result.andThen]
  exact h ao' cap' w' r1 r2
end
end Go.Proofs.YtmjkbdgcnoenbaaGreatDoor
