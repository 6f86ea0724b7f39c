/- What Enough does; nothing old in memory is turned. -/
import Derived.Test.YtlbibhngfnllbaaDoorAuthCheck
namespace Go.Proofs.YtlbibhngfnllbaaDoor
open Go.RowKit Go.Sort
set_option linter.unusedVariables false

/-- A row of tags lies at an address (of no tags: whatever the address). -/
def TagsAt (w : World) (ao : Option Addr) (l : List (Int × ByteArray)) : Prop :=
  ∀ j x, l[j]? = some x → ∃ b off, ao = some ⟨b, off, none⟩ ∧ b < w.heap.size ∧ w.cell? ⟨b, off + j * 2, none⟩ = some (.int .i64 x.1) ∧ w.cell? ⟨b, off + j * 2 + 1, none⟩ = some (.string x.2)

theorem TagsAt.below {w w' : World} {ao : Option Addr} {l : List (Int × ByteArray)} (h : TagsAt w ao l) (hb : Below w.heap.size w w') : TagsAt w' ao l := by
  intro j x hj
  obtain ⟨b, off, h1, h2, h3, h4⟩ := h j x hj
  exact ⟨b, off, h1, Nat.lt_of_lt_of_le h2 hb.size, by rw [hb.cell (p := ⟨b, off + j * 2, none⟩) h2]; exact h3, by rw [hb.cell (p := ⟨b, off + j * 2 + 1, none⟩) h2]; exact h4⟩

/-- What is wrong with a tag behind another one. -/
def tagErr (ks : List ByteArray) (kind word : ByteArray) (ahead : Int) (x : Int × ByteArray) : Nat :=
  if x.1 < 0 ∨ (ks.length : Int) ≤ x.1 then 2 else if x.1 ≤ ahead then 9 else if x.2 = macOf (ks.getD x.1.toNat ⟨#[]⟩) kind word then 0 else 10

def enoughGo (ks : List ByteArray) (kind word : ByteArray) : Int → List (Int × ByteArray) → Nat
  | _, [] => 0
  | ahead, x :: l => if tagErr ks kind word ahead x = 0 then enoughGo ks kind word x.1 l else tagErr ks kind word ahead x

def enoughL (ks : List ByteArray) (f : Nat) (kind word : ByteArray) (l : List (Int × ByteArray)) : Nat :=
  if enoughGo ks kind word (-1) l = 0 then (if l.length < 2 * f + 1 then 12 else 0) else enoughGo ks kind word (-1) l

theorem drop_cons {α : Type} {l : List α} {i : Nat} {x : α} (h : l[i]? = some x) : l.drop i = x :: l.drop (i + 1) := by
  obtain ⟨hi, hx⟩ := List.getElem?_eq_some_iff.1 h
  rw [← hx]
  exact List.drop_eq_getElem_cons hi

theorem enough_stop {ks : List ByteArray} {f : Nat} {kind word : ByteArray} {l : List (Int × ByteArray)} {i : Nat} {ahead : Int} {x : Int × ByteArray} (he : enoughGo ks kind word (-1) l = enoughGo ks kind word ahead (l.drop i))
    (hx : l[i]? = some x) (n : Nat) (ht : tagErr ks kind word ahead x = n) (hn : n ≠ 0) : enoughL ks f kind word l = n := by
  unfold enoughL
  rw [he, drop_cons hx]
  unfold enoughGo
  rw [ht, if_neg hn, if_neg hn]

theorem enough_next {ks : List ByteArray} {kind word : ByteArray} {l : List (Int × ByteArray)} {i : Nat} {ahead : Int} {x : Int × ByteArray} (he : enoughGo ks kind word (-1) l = enoughGo ks kind word ahead (l.drop i))
    (hx : l[i]? = some x) (ht : tagErr ks kind word ahead x = 0) : enoughGo ks kind word (-1) l = enoughGo ks kind word x.1 (l.drop (i + 1)) := by
  rw [he, drop_cons hx]
  rw [enoughGo, if_pos ht]

theorem enough_end {ks : List ByteArray} {f : Nat} {kind word : ByteArray} {l : List (Int × ByteArray)} {i : Nat} {ahead : Int} (he : enoughGo ks kind word (-1) l = enoughGo ks kind word ahead (l.drop i))
    (hi : l.length ≤ i) : enoughL ks f kind word l = if l.length < 2 * f + 1 then 12 else 0 := by
  unfold enoughL
  rw [he, List.drop_eq_nil_of_le hi, enoughGo, if_pos rfl]

set_option maxRecDepth 100000 in
set_option maxHeartbeats 400000 in
theorem enough_any (b f : Nat) (ks : List ByteArray) (ao : Option Addr) (cap : Nat) (l : List (Int × ByteArray)) (kind word : ByteArray) (w : World) (h : TabAt w b f ks) (hf : f ≤ 2) (hks : ∀ k ∈ ks, k.size ≤ 32) (hl : TagsAt w ao l) (hlm : l.length ≤ maxLen) (hkd : kind.size ≤ 1000000) (hwd : word.size ≤ 1000000) (hG : Glob w) :
    Calls Tryd.prog 19 #[.pointer (some ⟨b, 0, none⟩), .slice ao l.length cap, .string kind, .string word] w fun e w' => e = .returned (.int .i64 (enoughL ks f kind word l : Int)) ∧ Below w.heap.size w w' := by
  obtain ⟨res, hres⟩ : ∃ z, Hid (z = enoughL ks f kind word l) := ⟨_, rfl⟩
  rw [← hres.out]
  unfold maxLen at hlm
  go_enter Tryd.func19, Tryd.ntmps19
  go_wp2
  go_loopw [9, 11, 12, 15] (fun v9 v11 v12 v15 wr => ∃ (i : Nat) (ahead : Int), i ≤ l.length ∧ v15 = .int .i64 (i : Int) ∧ v9 = .int .i64 ahead ∧ Below w.heap.size w wr ∧ Hid (enoughGo ks kind word (-1) l = enoughGo ks kind word ahead (l.drop i))) (fun _ _ _ v15 _ => l.length - (intOf v15).toNat)
  case atStart => exact ⟨0, -1, Nat.zero_le _, rfl, rfl, Below.refl _ _, rfl⟩
  case round =>
    obtain ⟨i, ahead, hil, rfl, rfl, hB, he⟩ := hrel
    by_cases hlt : i < l.length
    · have h1 : (i : Int) < (l.length : Int) := by omega
      have h0 : (0 : Int) ≤ (i : Int) := by omega
      obtain ⟨⟨who, mac⟩, hx⟩ : ∃ x, l[i]? = some x := ⟨_, List.getElem?_eq_getElem hlt⟩
      obtain ⟨bl, off, rfl, hbl, c0, c1⟩ := (hl.below hB) i _ hx
      have hT := h.below hB
      have hGr := hG.below hB
      have hB0 := hB.alloc hB.size (.cells #[.int .i64 who, .string mac] 32)
      have hbA := (Below.refl wr.heap.size wr).alloc (Nat.le_refl _) (.cells #[.int .i64 who, .string mac] 32)
      have hT0 := hT.below hbA
      have hG0 := hGr.below hbA
      have hA0 := Arr.new wr 32 [.int .i64 who, .string mac]
      go_wp2_with fail
      by_cases hr : who < 0 ∨ (ks.length : Int) ≤ who
      · refine (has_no b f ks who _ hT0 hr).mono ?_
        rintro e w1 ⟨rfl, rfl⟩
        have hr2 : res = 2 := hres.out.trans (enough_stop he.out hx 2 (by unfold tagErr; rw [if_pos hr]) (by decide))
        clear hA0 hT0 hG0
        go_wp2
        go_ret
        exact ⟨by rw [hr2]; rfl, hB0⟩
      · refine (has_yes b f ks who _ hT0 (by omega) (by omega)).mono ?_
        rintro e w1 ⟨rfl, rfl⟩
        by_cases ha : who ≤ ahead
        · have hr2 : res = 9 := hres.out.trans (enough_stop he.out hx 9 (by unfold tagErr; rw [if_neg hr, if_pos ha]) (by decide))
          clear hA0 hT0 hG0
          go_wp2
          go_ret
          exact ⟨by rw [hr2]; rfl, hB0⟩
        · obtain ⟨j, rfl⟩ := Int.eq_ofNat_of_zero_le (a := who) (by omega)
          obtain ⟨kj, hkj⟩ : ∃ k, ks[j]? = some k := ⟨_, List.getElem?_eq_getElem (by omega)⟩
          have hkd' : ks.getD (j : Int).toNat ⟨#[]⟩ = kj := by simp [List.getD, hkj]
          generalize wr.alloc (.cells #[.int .i64 (j : Int), .string mac] 32) = w0 at hB0 hT0 hG0 hA0 ⊢
          have t0 := hA0.cell (i := 0) (v := .int .i64 (j : Int)) rfl
          have t1 := hA0.cell (i := 1) (v := .string mac) rfl
          go_wp2_with fail
          by_cases hm : mac = macOf kj kind word
          · refine (check_ok b f ks j kind word _ hT0 kj hkj hks hkd hwd hG0 mac hm).mono ?_
            rintro e w1 ⟨rfl, hb1⟩
            have hB1 := hB0.trans (hb1.mono hB0.size)
            have hA1 := hA0.below hb1 hA0.lt
            have hnx : Hid (enoughGo ks kind word (-1) l = enoughGo ks kind word (j : Int) (l.drop (i + 1))) := enough_next he.out hx (by unfold tagErr; rw [if_neg hr, if_neg (show ¬ (j : Int) ≤ ahead by omega), if_pos (by rw [hkd']; exact hm)])
            have s0 := hA1.cell (i := 0) (v := .int .i64 (j : Int)) rfl
            clear hA0 hT0 hG0 hb1 hA1 t0 t1 hB0
            go_wp2
            go_roundw
            case rel => exact ⟨i + 1, (j : Int), by omega, by go_num, rfl, hB1, hnx⟩
            case measure => simp [intOf]; omega
          · refine (check_bad b f ks j kind word _ hT0 kj hkj hks hkd hwd hG0 mac hm).mono ?_
            rintro e w1 ⟨rfl, hb1⟩
            have hB1 := hB0.trans (hb1.mono hB0.size)
            have hr2 : res = 10 := hres.out.trans (enough_stop he.out hx 10 (by unfold tagErr; rw [if_neg hr, if_neg (show ¬ (j : Int) ≤ ahead by omega), if_neg (by rw [hkd']; exact hm)]) (by decide))
            clear hA0 hT0 hG0 hb1 t0 t1 hB0
            go_wp2
            go_ret
            exact ⟨by rw [hr2]; rfl, hB1⟩
    · have h1 : ¬ (i : Int) < (l.length : Int) := by omega
      have hend := hres.out.trans (enough_end he.out (by omega))
      have hT := h.below hB
      have hB1 := hB
      clear he hB
      go_wp2_with fail
      refine (need_any b f ks _ hT hf).mono ?_
      rintro e w1 ⟨rfl, rfl⟩
      by_cases hfew : l.length < 2 * f + 1
      · rw [if_pos hfew] at hend
        have h2 : (l.length : Int) < ((2 * f + 1 : Nat) : Int) := by omega
        clear hfew
        go_wp2
        go_ret
        exact ⟨by rw [hend]; rfl, hB1⟩
      · rw [if_neg hfew] at hend
        have h2 : ¬ (l.length : Int) < ((2 * f + 1 : Nat) : Int) := by omega
        clear hfew
        go_wp2
        go_ret
        exact ⟨by rw [hend]; rfl, hB1⟩
end Go.Proofs.YtlbibhngfnllbaaDoor
