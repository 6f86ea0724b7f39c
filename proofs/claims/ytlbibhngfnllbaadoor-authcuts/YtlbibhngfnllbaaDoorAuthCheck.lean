/- What Check does; nothing old in memory is turned. -/
import Derived.Test.YtlbibhngfnllbaaDoorAuthSign
namespace Go.Proofs.YtlbibhngfnllbaaDoor
open Go.RowKit Go.Sort
set_option linter.unusedVariables false

theorem toList_ne {a b : ByteArray} (h : ¬ a = b) : ¬ a.toList = b.toList := by
  intro e
  rw [ByteArray.toList_eq, ByteArray.toList_eq] at e
  exact h (ByteArray.ext (Array.ext' e))

set_option maxRecDepth 100000 in
set_option maxHeartbeats 400000 in
theorem check_no (b f : Nat) (ks : List ByteArray) (who : Int) (mac kind word : ByteArray) (w : World) (h : TabAt w b f ks) (hn : who < 0 ∨ (ks.length : Int) ≤ who) :
    Calls Tryd.prog 17 #[.pointer (some ⟨b, 0, none⟩), tagV who mac, .string kind, .string word] w fun e w' => e = .returned (.int .i64 2) ∧ Below w.heap.size w w' := by
  have hA := Arr.new w 32 [.int .i64 who, .string mac]
  have hB := (Below.refl w.heap.size w).alloc (Nat.le_refl _) (.cells #[.int .i64 who, .string mac] 32)
  unfold tagV
  go_enter Tryd.func17, Tryd.ntmps17
  go_wp2_with fail
  refine (sign_no b f ks who kind word _ (h.below hB) hn).mono ?_
  rintro e w1 ⟨rfl, hb1⟩
  have hB1 := hB.trans (hb1.mono hB.size)
  clear hb1 hA hB
  unfold tagV
  have hsz := hB1.size
  go_wp2
  go_ret
  exact ⟨rfl, hB1.alloc hsz _⟩

set_option maxRecDepth 100000 in
set_option maxHeartbeats 400000 in
theorem check_yes (b f : Nat) (ks : List ByteArray) (j : Nat) (mac kind word : ByteArray) (w : World) (h : TabAt w b f ks) (kj : ByteArray) (hkj : ks[j]? = some kj) (hks : ∀ k ∈ ks, k.size ≤ 32) (hkd : kind.size ≤ 1000000) (hwd : word.size ≤ 1000000) (hG : Glob w) :
    Calls Tryd.prog 17 #[.pointer (some ⟨b, 0, none⟩), tagV (j : Int) mac, .string kind, .string word] w fun e w' => e = .returned (.int .i64 (if mac = macOf kj kind word then 0 else 10)) ∧ Below w.heap.size w w' := by
  have hA := Arr.new w 32 [.int .i64 (j : Int), .string mac]
  have hB := (Below.refl w.heap.size w).alloc (Nat.le_refl _) (.cells #[.int .i64 (j : Int), .string mac] 32)
  have cs := sign_yes b f ks j kind word _ (h.below hB) kj hkj hks hkd hwd (hG.below hB)
  generalize macOf kj kind word = mc at cs ⊢
  unfold tagV at cs ⊢
  go_enter Tryd.func17, Tryd.ntmps17
  go_wp2_with fail
  refine cs.mono ?_
  rintro e w1 ⟨rfl, hb1⟩
  have hA1 := hA.below hb1 hA.lt
  have hB1 := hB.trans (hb1.mono hB.size)
  clear hb1 hA hB cs
  have hsz := hB1.size
  have t0 := (hA1.alloc (.cells #[.int .i64 (j : Int), .string mc] 32)).cell (i := 0) (v := .int .i64 (j : Int)) rfl
  have t1 := (hA1.alloc (.cells #[.int .i64 (j : Int), .string mc] 32)).cell (i := 1) (v := .string mac) rfl
  by_cases hm : mac = mc
  · subst hm
    go_wp2
    go_ret
    exact ⟨by simp, hB1.alloc hsz _⟩
  · have hm1 := toList_ne hm
    go_wp2
    go_ret
    exact ⟨by simp, hB1.alloc hsz _⟩

theorem check_ok (b f : Nat) (ks : List ByteArray) (j : Nat) (kind word : ByteArray) (w : World) (h : TabAt w b f ks) (kj : ByteArray) (hkj : ks[j]? = some kj) (hks : ∀ k ∈ ks, k.size ≤ 32) (hkd : kind.size ≤ 1000000) (hwd : word.size ≤ 1000000) (hG : Glob w) (mac : ByteArray) (hm : mac = macOf kj kind word) :
    Calls Tryd.prog 17 #[.pointer (some ⟨b, 0, none⟩), tagV (j : Int) mac, .string kind, .string word] w fun e w' => e = .returned (.int .i64 0) ∧ Below w.heap.size w w' := by
  have h := check_yes b f ks j mac kind word w h kj hkj hks hkd hwd hG
  rw [if_pos hm] at h
  exact h

theorem check_bad (b f : Nat) (ks : List ByteArray) (j : Nat) (kind word : ByteArray) (w : World) (h : TabAt w b f ks) (kj : ByteArray) (hkj : ks[j]? = some kj) (hks : ∀ k ∈ ks, k.size ≤ 32) (hkd : kind.size ≤ 1000000) (hwd : word.size ≤ 1000000) (hG : Glob w) (mac : ByteArray) (hm : ¬ mac = macOf kj kind word) :
    Calls Tryd.prog 17 #[.pointer (some ⟨b, 0, none⟩), tagV (j : Int) mac, .string kind, .string word] w fun e w' => e = .returned (.int .i64 10) ∧ Below w.heap.size w w' := by
  have h := check_yes b f ks j mac kind word w h kj hkj hks hkd hwd hG
  rw [if_neg hm] at h
  exact h

/-- A validator's tag of a word, and the error. -/
def signR (ks : List ByteArray) (who : Int) (kind word : ByteArray) : Int × ByteArray × Nat :=
  if who < 0 ∨ (ks.length : Int) ≤ who then (0, ⟨#[]⟩, 2) else (who, macOf (ks.getD who.toNat ⟨#[]⟩) kind word, 0)

/-- What is wrong with a tag. -/
def checkR (ks : List ByteArray) (who : Int) (mac kind word : ByteArray) : Nat :=
  if who < 0 ∨ (ks.length : Int) ≤ who then 2 else if mac = macOf (ks.getD who.toNat ⟨#[]⟩) kind word then 0 else 10

theorem sign_any (b f : Nat) (ks : List ByteArray) (who : Int) (kind word : ByteArray) (w : World) (h : TabAt w b f ks) (hks : ∀ k ∈ ks, k.size ≤ 32) (hkd : kind.size ≤ 1000000) (hwd : word.size ≤ 1000000) (hG : Glob w) :
    Calls Tryd.prog 15 #[.pointer (some ⟨b, 0, none⟩), .int .i64 who, .string kind, .string word] w fun e w' => e = .returned (.tuple #[tagV (signR ks who kind word).1 (signR ks who kind word).2.1, .int .i64 ((signR ks who kind word).2.2 : Int)]) ∧ Below w.heap.size w w' := by
  unfold signR
  by_cases hn : who < 0 ∨ (ks.length : Int) ≤ who
  · rw [if_pos hn]
    exact sign_no b f ks who kind word w h hn
  · rw [if_neg hn]
    obtain ⟨j, rfl⟩ := Int.eq_ofNat_of_zero_le (a := who) (by omega)
    obtain ⟨kj, hkj⟩ : ∃ k, ks[j]? = some k := ⟨_, List.getElem?_eq_getElem (by omega)⟩
    have e : ks.getD (j : Int).toNat ⟨#[]⟩ = kj := by simp [List.getD, hkj]
    rw [e]
    exact sign_yes b f ks j kind word w h kj hkj hks hkd hwd hG

theorem check_any (b f : Nat) (ks : List ByteArray) (who : Int) (mac kind word : ByteArray) (w : World) (h : TabAt w b f ks) (hks : ∀ k ∈ ks, k.size ≤ 32) (hkd : kind.size ≤ 1000000) (hwd : word.size ≤ 1000000) (hG : Glob w) :
    Calls Tryd.prog 17 #[.pointer (some ⟨b, 0, none⟩), tagV who mac, .string kind, .string word] w fun e w' => e = .returned (.int .i64 (checkR ks who mac kind word : Int)) ∧ Below w.heap.size w w' := by
  unfold checkR
  by_cases hn : who < 0 ∨ (ks.length : Int) ≤ who
  · rw [if_pos hn]
    exact check_no b f ks who mac kind word w h hn
  · rw [if_neg hn]
    obtain ⟨j, rfl⟩ := Int.eq_ofNat_of_zero_le (a := who) (by omega)
    obtain ⟨kj, hkj⟩ : ∃ k, ks[j]? = some k := ⟨_, List.getElem?_eq_getElem (by omega)⟩
    have e : ks.getD (j : Int).toNat ⟨#[]⟩ = kj := by simp [List.getD, hkj]
    rw [e]
    by_cases hm : mac = macOf kj kind word
    · rw [if_pos hm]
      exact check_ok b f ks j kind word w h kj hkj hks hkd hwd hG mac hm
    · rw [if_neg hm]
      exact check_bad b f ks j kind word w h kj hkj hks hkd hwd hG mac hm
end Go.Proofs.YtlbibhngfnllbaaDoor
