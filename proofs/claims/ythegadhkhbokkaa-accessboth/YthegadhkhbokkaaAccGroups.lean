/- What (access.groups).joinBy, access.lastWriters and access.Groups do. -/
import Derived.Test.YthegadhkhbokkaaAccLeast
import Derived.Test.YthegadhkhbokkaaMapStr
import Derived.Test.YthegadhkhbokkaaAccClash
namespace Go.Proofs.Ythegadhkhbokkaa
open Go Go.RowKit
set_option linter.unusedVariables false

/-- The last writers, as a map tells them. -/
def lastF (l : List RwD) (key : ByteArray) : Option Value := (lastN l key l.length).map (fun w => .int .i64 ((w : Nat) : Int))

/-- All these keys' last writers are joined with member i. -/
def JnK (l : List RwD) (g : List Nat) (i : Nat) (ks : List ByteArray) : Prop := ∀ key ∈ ks, ∀ w, lastN l key l.length = some w → Same2 g i w

theorem JnK.mono {l : List RwD} {g g' : List Nat} {i : Nat} {ks : List ByteArray} (h : JnK l g i ks) (hs : ∀ x y, Same2 g x y → Same2 g' x y) : JnK l g' i ks := fun key hk w hw => hs _ _ (h key hk w hw)

theorem JnK.more {l : List RwD} {g : List Nat} {i j : Nat} {ks : List ByteArray} {y : ByteArray} (hy : ks[j]? = some y) (h : JnK l g i (ks.take j)) (hn : ∀ w, lastN l y l.length = some w → Same2 g i w) : JnK l g i (ks.take (j + 1)) := by
  intro key hk w hw
  rw [List.take_add_one, hy, List.mem_append] at hk
  rcases hk with hk | hk
  · exact h key hk w hw
  · simp only [Option.toList_some, List.mem_singleton] at hk
    subst hk
    exact hn w hw

/-- A member is joined with the last writers of its keys. -/
def GotJoinBy (l : List RwD) (W : World) (B g : Nat) (q : Value) (gl : List Nat) (i : Nat) (ks : List ByteArray) (e : Ending) (w : World) : Prop :=
  e = .returned (.tuple #[]) ∧ ∃ gl', KQ natK 3 w B q gl' ∧ UF l gl' ∧ (∀ x y, Same2 gl x y → Same2 gl' x y) ∧ JnK l gl' i ks ∧ Kept (fun k => k = g) W w

set_option maxRecDepth 100000 in
set_option maxHeartbeats 1000000 in
theorem joinBy_any (l : List RwD) (hl : l.length ≤ 1000000) (B g off cap : Nat) (gl : List Nat) (i : Nat) (w : World) (hq : KQ natK 3 w B (.slice (some ⟨g, off, none⟩) l.length cap) gl) (hu : UF l gl) (hi : i < l.length)
    (ks : List ByteArray) (ka : Option Addr) (kc : Nat) (hks : RowAt textK w ka ks) (hko : ∀ b, rowFoot textK ka ks b → b ≠ g) (hkl : ks.length ≤ 1000000) (hkz : ∀ s ∈ ks, s.size ≤ maxLen) (mb mn : Nat) (hM : SMap w mb (lastF l) mn) (hmg : mb ≠ g)
    (hc : ∀ key ∈ ks, ∀ w, lastN l key l.length = some w → Conn l i w) :
    Calls Try.prog 20 #[.slice (some ⟨g, off, none⟩) l.length cap, .int .i64 (i : Int), .slice ka ks.length kc, .map (some mb)] w fun e w' => GotJoinBy l w B g (.slice (some ⟨g, off, none⟩) l.length cap) gl i ks e w' := by
  have hc' : Hid (∀ key ∈ ks, ∀ w, lastN l key l.length = some w → Conn l i w) := hc
  clear hc
  generalize hGOT : (fun e w' => GotJoinBy l w B g (.slice (some ⟨g, off, none⟩) l.length cap) gl i ks e w') = GOT
  have hG : Hid (∀ w', (∃ gl', KQ natK 3 w' B (.slice (some ⟨g, off, none⟩) l.length cap) gl' ∧ UF l gl' ∧ (∀ x y, Same2 gl x y → Same2 gl' x y) ∧ JnK l gl' i ks ∧ Kept (fun k => k = g) w w') → GOT (.returned (.tuple #[])) w') := by
    intro w' h
    rw [← hGOT]
    exact ⟨rfl, h⟩
  clear hGOT
  go_enter Try.func20, Try.ntmps20
  go_wp2_with fail
  go_loopw [14] (fun v14 wr => ∃ (j : Nat) (gl' : List Nat), j ≤ ks.length ∧ v14 = .int .i64 (j : Int) ∧ KQ natK 3 wr B (.slice (some ⟨g, off, none⟩) l.length cap) gl' ∧ UF l gl' ∧ Hid (∀ x y, Same2 gl x y → Same2 gl' x y) ∧ Hid (JnK l gl' i (ks.take j)) ∧ Kept (fun k => k = g) w wr) (fun v _ => ks.length - (intOf v).toNat)
  case atStart => exact ⟨0, gl, Nat.zero_le _, rfl, hq, hu, fun _ _ h => h, fun key hk => by simp at hk, Kept.refl _ _⟩
  case round =>
    obtain ⟨j, gl', hj, rfl, hq1, hu1, hs1, hj1, hk1⟩ := hrel
    have hM1 := hM.kept hk1 hmg
    clear hq hu
    by_cases hil : j < ks.length
    · have g1 : (j : Int) < (ks.length : Int) := by omega
      obtain ⟨y, hy⟩ : ∃ p, ks[j]? = some p := ⟨_, List.getElem?_eq_getElem hil⟩
      obtain ⟨b, o2, rfl, hbl, hcell⟩ := (hks.kept hk1 (fun b hb => hko b hb)).txt hy
      have hid := hkz y (List.mem_of_getElem? hy)
      cases hln : lastN l y l.length with
      | none =>
        have hjn : Hid (JnK l gl' i (ks.take (j + 1))) := hj1.out.more hy (fun w hw => by rw [hln] at hw; cases hw)
        have hlf : Hid (lastF l y = none) := by unfold Hid lastF; rw [hln]; rfl
        clear hln hj1
        go_wp2_with (at_lookup; refine smap_look_ok (by rfl) _ _ 47 rfl 3 Try.underlying47 _ (zeroIntA _) mb _ _ rfl hM1 y hid rfl ?_; rw [hlf.out]; simp only [Option.getD_none, Option.isSome_none])
        go_roundw
        case rel => exact ⟨j + 1, gl', by omega, by go_num, hq1, hu1, hs1, hjn, hk1⟩
        case measure => simp [intOf]; omega
      | some v =>
        have hlf : Hid (lastF l y = some (.int .i64 (v : Int))) := by unfold Hid lastF; rw [hln]; rfl
        have hvl := (lastN_some hln).1
        have hcv := hc'.out y (List.mem_of_getElem? hy) v hln
        have hln' : Hid _ := hln
        have cJ := fun w' (hk : w' = wr) => join_any l hl B g off cap gl' i v w' (hk ▸ hq1) hu1 hi hvl hcv
        clear hln hcv
        go_wp2_with (first | (at_lookup; refine smap_look_ok (by rfl) _ _ 47 rfl 3 Try.underlying47 _ (zeroIntA _) mb _ _ rfl hM1 y hid rfl ?_; rw [hlf.out]; simp only [Option.getD_some, Option.isSome_some]) | (go_at_call 27; refine (cJ _ rfl).mono ?_; rintro _ w2 ⟨rfl, gl2, hq2, hu2, hs2, hsv, hk2⟩))
        have hS : Hid (∀ x y, Same2 gl x y → Same2 gl2 x y) := fun x y h => hs2 x y (hs1.out x y h)
        have hjn : Hid (JnK l gl2 i (ks.take (j + 1))) := (hj1.out.mono hs2).more hy (fun w hw => by rw [hln'.out] at hw; cases hw; exact hsv)
        have hk3 := hk1.trans hk2
        go_roundw
        case rel => exact ⟨j + 1, gl2, by omega, by go_num, hq2, hu2, hS, hjn, hk3⟩
        case measure => simp [intOf]; omega
    · have g1 : ¬ (j : Int) < (ks.length : Int) := by omega
      have hir : j = ks.length := by omega
      have hjn : JnK l gl' i ks := by
        have := hj1.out
        rw [hir, List.take_length] at this
        exact this
      have hfin := hG.out wr ⟨gl', hq1, hu1, hs1.out, hjn, hk1⟩
      clear hir hj1
      go_wp2
      go_end0
      exact hfin
end Go.Proofs.Ythegadhkhbokkaa
