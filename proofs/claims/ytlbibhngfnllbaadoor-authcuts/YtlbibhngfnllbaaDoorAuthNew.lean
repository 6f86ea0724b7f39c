/- What auth.New does: a table in new memory, or none; nothing old in memory is turned. -/
import Derived.Test.YtlbibhngfnllbaaDoorAuthBase
import Derived.Test.YtlbibhngfnllbaaDoorMixFace
import Derived.Deep.RegionLaw
import Derived.Deep.AppendLies
namespace Go.Proofs.YtlbibhngfnllbaaDoor
open Go.RowKit Go.Sort
set_option linter.unusedVariables false

/-- A validator's key. -/
def keyOf (seed : ByteArray) (i : Nat) : ByteArray := bytes (keyedL seed.data.toList (goInt i))
def keysL (seed : ByteArray) (n : Nat) : List ByteArray := (List.range n).map (keyOf seed)
theorem keysL_len (seed : ByteArray) (n : Nat) : (keysL seed n).length = n := by simp [keysL]
theorem keysL_succ (seed : ByteArray) (n : Nat) : keysL seed (n + 1) = keysL seed n ++ [keyOf seed n] := by simp [keysL, List.range_succ]

theorem infoStr : (Tryd.prog.info? 9).map (fun i => (i.zero, i.size, i.bytes)) = some (some (.string ⟨#[]⟩), 1, 16) := by kernel_rfl

theorem own_strs {w : World} {B : Nat} {v : Value} {l : List ByteArray} (h : w.ownsRow B 9 1 v l.length (l.map Value.string)) :
    ∃ a cap, v = .slice a l.length cap ∧ StrsAt w a l := by
  rcases h.2 with ⟨rfl, hn⟩ | ⟨g, cap, cur, rfl, _⟩
  · refine ⟨none, 0, by rw [hn], fun j hj => by omega⟩
  · refine ⟨_, cap, rfl, fun j hj => ⟨g, 0, rfl, ?_, ?_⟩⟩
    · exact (h.lt g rfl).2
    · have := h.cells rfl j (.string l[j]) (by simp [hj])
      rw [Addr.add_mid] at this
      exact this

theorem own_below {B : Nat} {e : TypeId} {k : Nat} {v : Value} {n : Nat} {xs : List Value} {w w' : World} (h : w.ownsRow B e k v n xs) (hb : Below w.heap.size w w') : w'.ownsRow B e k v n xs := by
  refine ⟨h.1, h.2.imp id ?_⟩
  rintro ⟨g, cap, cur, hv, h1, hg, h2⟩
  refine ⟨g, cap, cur, hv, h1, ?_, h2⟩
  rw [hb.block g ((Array.getElem?_eq_some_iff.1 hg).1), hg]

theorem new_cell (w : World) (k : ByteArray) : ∀ j u, ([.string k] : List Value)[j]? = some u → (w.alloc (.cells #[.string k] 9)).cell? ((⟨w.heap.size, 0, none⟩ : Addr).add j) = some u := by
  intro j u hj
  rw [Addr.add_mid]
  exact (Arr.new w 9 [.string k]).cell (by simpa using hj)

theorem one_str (k : ByteArray) : ∀ u ∈ ([.string k] : List Value), u.oneCell' = true := by
  intro u hu
  simp at hu
  subst hu
  rfl

theorem tab_below {wr w2 w3 : World} {B : Nat} {t : TypeId} {cs : List Value} {o : Obj} {e : TypeId} {size : Nat} {v : Value} {n : Nat} {xs : List Value} (hA : Arr wr B t cs) (hb : Below wr.heap.size wr w2) (hN : B + 1 ≤ (w2.alloc o).heap.size)
    (hO : (w2.alloc o).ownsRow (B + 1) e size v n xs) (hg : (w2.alloc o).grownBy w3 v.ownBlock) : Below (B + 1) wr w3 :=
  ((hb.mono hA.lt).alloc (Nat.le_trans hA.lt hb.size) o).grown hg hN (fun k hk => (hO.lt k hk).1)

set_option maxRecDepth 100000 in
theorem new_range (f : Int) (seed : ByteArray) (w : World) (h : f < 1 ∨ 2 < f) :
    Calls Tryd.prog 9 #[.int .i64 f, .string seed] w fun e w' => e = .returned (.tuple #[.pointer none, .int .i64 2]) ∧ w' = w := by
  by_cases h1 : f < 1
  · go_enter Tryd.func9, Tryd.ntmps9
    go_wp2
    go_ret2
    exact ⟨rfl, rfl⟩
  · have h2 : 2 < f := by omega
    go_enter Tryd.func9, Tryd.ntmps9
    go_wp2
    go_ret2
    exact ⟨rfl, rfl⟩

set_option maxRecDepth 100000 in
theorem new_long (f : Int) (seed : ByteArray) (w : World) (h1 : ¬ f < 1) (h2 : ¬ 2 < f) (hs : (32 : Int) < (seed.size : Int)) :
    Calls Tryd.prog 9 #[.int .i64 f, .string seed] w fun e w' => e = .returned (.tuple #[.pointer none, .int .i64 8]) ∧ w' = w := by
  go_enter Tryd.func9, Tryd.ntmps9
  go_wp2
  go_ret2
  exact ⟨rfl, rfl⟩

set_option maxRecDepth 100000 in
set_option maxHeartbeats 400000 in
theorem new_yes (f : Nat) (seed : ByteArray) (w : World) (h1 : 1 ≤ f) (h2 : f ≤ 2) (hs : seed.size ≤ 32) (hG : Glob w) :
    Calls Tryd.prog 9 #[.int .i64 (f : Int), .string seed] w fun e w' => ∃ b, e = .returned (.tuple #[.pointer (some ⟨b, 0, none⟩), .int .i64 0]) ∧ w.heap.size ≤ b ∧ TabAt w' b f (keysL seed (3 * f + 1)) ∧ Below w.heap.size w w' := by
  obtain ⟨i0, hi, hz0, hz1, hz2⟩ := info_parts infoStr
  have h1' : ¬ (f : Int) < 1 := by omega
  have h2' : ¬ (2 : Int) < (f : Int) := by omega
  have hs' : ¬ (32 : Int) < (seed.size : Int) := by omega
  go_enter Tryd.func9, Tryd.ntmps9
  go_wp2_with fail
  have hA := Arr.new w 48 [.int .i64 (f : Int), .slice none 0 0]
  have hB := (Below.refl w.heap.size w).alloc (Nat.le_refl _) (.cells #[.int .i64 (f : Int), .slice none 0 0] 48)
  have hT : TabAt (w.alloc (.cells #[.int .i64 (f : Int), .slice none 0 0] 48)) w.heap.size f [] :=
    ⟨by rw [alloc_size]; omega, hA.cell rfl, none, 0, hA.cell rfl, fun j hj => absurd hj (by simp)⟩
  refine (n_any w.heap.size f [] _ hT h2).mono ?_
  rintro e w1 ⟨rfl, rfl⟩
  clear hT
  have hnn : ((3 * f + 1 : Nat) : Int) = 3 * (f : Int) + 1 := by omega
  obtain ⟨n, hn⟩ : ∃ n, Hid (n = 3 * f + 1) := ⟨_, rfl⟩
  have hn7 : n ≤ 7 := by have := hn.out; omega
  rw [← hn.out]
  clear hnn
  go_wp2
  go_loopw [7, 22] (fun v7 v22 wr => ∃ (i : Nat) (v : Value), i ≤ n ∧ v22 = .int .i64 (i : Int) ∧ Arr wr w.heap.size 48 [.int .i64 (f : Int), v] ∧ wr.ownsRow (w.heap.size + 1) 9 1 v i ((keysL seed i).map Value.string) ∧ Below w.heap.size w wr) (fun _ v22 _ => n - (intOf v22).toNat)
  case atStart => exact ⟨0, .slice none 0 0, Nat.zero_le _, rfl, hA, World.ownsRow_nil _ _ _ _, hB⟩
  case round =>
    clear hA hB
    obtain ⟨i, v, hin, rfl, hA, hown, hB⟩ := hrel
    by_cases hlt : i < n
    · have h1 : (i : Int) < (n : Int) := by omega
      have c1 := hA.cell (i := 1) (v := v) rfl
      have f1 := hA.frozen 1
      obtain ⟨nb, hnb⟩ : ∃ z, Hid (z = (⟨(goInt (i : Int)).toArray⟩ : ByteArray)) := ⟨_, rfl⟩
      obtain ⟨kk, hkk⟩ : ∃ z, Hid (z = keyOf seed i) := ⟨_, rfl⟩
      have hnl : nb.size ≤ 9 := by rw [hnb.out, ByteArray.size_mk']; exact goInt_length _
      have cI : Hid (∀ w1, Calls Tryd.prog 23 #[.int .i64 (i : Int)] w1 fun e w2 => e = .returned (.string nb) ∧ Below w1.heap.size w1 w2) := by
        intro w1
        rw [hnb.out]
        exact int_any _ _
      have cK : Hid (∀ w1, Glob w1 → Calls Tryd.prog 22 #[.string seed, .string nb] w1 fun e w2 => e = .returned (.string kk) ∧ Below w1.heap.size w1 w2) := by
        intro w1 hg
        have h := keyed_any seed nb w1 (by omega) (by omega) hg
        have he : bytes (keyedL seed.data.toList nb.data.toList) = kk := by rw [hkk.out, hnb.out]; rfl
        rw [he] at h
        exact h
      have hN5 : i + 1 ≤ maxLen := by unfold maxLen; omega
      have hN6 : (i + 1) * 16 ≤ 140737488355328 := by omega
      have hGd : Glob wr.drew := ⟨(Glob.below2 hG hB).first, (Glob.below2 hG hB).rows⟩
      go_wp2_with fail
      go_region_law (first
        | (go_simp; go_at_call 23; refine (cI.out _).mono ?_; rintro e w1 ⟨rfl, hb1⟩; have c1a : w1.cell? ⟨w.heap.size, 1, none⟩ = some v := (hb1.cell (p := ⟨w.heap.size, 1, none⟩) hA.lt).trans c1; have hG1 := hGd.below hb1)
        | (go_simp; go_at_call 22; refine (cK.out _ hG1).mono ?_; rintro e w2 ⟨rfl, hb2⟩; have hb3 : Below wr.heap.size wr w2 := ((Below.refl _ wr).drew).trans (hb1.trans (hb2.mono hb1.size)); have c1b : w2.cell? ⟨w.heap.size, 1, none⟩ = some v := (hb3.cell (p := ⟨w.heap.size, 1, none⟩) hA.lt).trans c1; have c1d : (w2.alloc (.cells #[.string kk] 9)).cell? ⟨w.heap.size, 1, none⟩ = some v := ((hb3.alloc hb3.size (.cells #[.string kk] 9)).cell (p := ⟨w.heap.size, 1, none⟩) hA.lt).trans c1; have hO1 := (own_below hown hb3).alloc (.cells #[.string kk] 9); have hN1 := new_cell w2 kk; have hN3 : w.heap.size + 1 ≤ (w2.alloc (.cells #[.string kk] 9)).heap.size := (by rw [alloc_size]; have := hb3.size; have := hA.lt; omega); have hN4 := alloc_size w2 (.cells #[.string kk] 9))
        | (refine step_append_lies _ (by rfl) _ _ 46 (by rfl) (w.heap.size + 1) 9 i0 (.string ⟨#[]⟩) 1 16 Tryd.underlying46 hi hz0 hz1 hz2 rfl (by decide) _ i ((keysL seed i).map Value.string) (by rfl) hO1 ⟨w2.heap.size, 0, none⟩ 1 1 [.string kk] (by rfl) (by rfl) hN1 (one_str kk) (by decide) hN5 hN6 hN3 (w2.heap.size + 1) hN4 ?_; intro g2 cap2 w3 hown3 hgrow3 hat3 hlt3; have hbw := tab_below hA hb3 hN3 hO1 hgrow3; have hA3 := hA.below hbw (Nat.lt_succ_self _); have c1c := hA3.cell (i := 1) (v := v) rfl; have f1c := hA3.frozen 1))
      all_goals
        have hA4 := hA3.set 1 (.slice (some ⟨g2, 0, none⟩) (i + 1) cap2)
        have hown4 := ownsRow_setCell_below hown3 (a := ⟨w.heap.size, 1, none⟩) (Nat.lt_succ_self _) (.slice (some ⟨g2, 0, none⟩) (i + 1) cap2)
        have hB4 : Below w.heap.size w (w3.setCell ⟨w.heap.size, 1, none⟩ (.slice (some ⟨g2, 0, none⟩) (i + 1) cap2)) := (hB.trans (hbw.mono (Nat.le_succ _))).setCell (Nat.le_refl _) _
        rw [hkk.out, show ([.string (keyOf seed i)] : List Value) = [keyOf seed i].map Value.string from rfl, ← List.map_append, ← keysL_succ] at hown4
        generalize w3.setCell _ _ = w4 at hA4 hown4 hB4 ⊢
        go_wp2
        go_roundw
        case rel => exact ⟨i + 1, _, by omega, by go_num, hA4, hown4, hB4⟩
        case measure => simp [intOf]; omega
    · have h1 : ¬ (i : Int) < (n : Int) := by omega
      have hie : i = n := by omega
      rw [hie] at hown
      have hown' : wr.ownsRow (w.heap.size + 1) 9 1 v (keysL seed n).length ((keysL seed n).map Value.string) := by rw [keysL_len]; exact hown
      obtain ⟨a, cap, hv, hst⟩ := own_strs hown'
      have hT : Hid (TabAt wr w.heap.size f (keysL seed (3 * f + 1))) := by
        rw [← hn.out]
        exact ⟨hA.lt, hA.cell rfl, a, cap, by rw [← hv]; exact hA.cell rfl, hst⟩
      go_wp2
      go_ret2
      exact ⟨_, rfl, Nat.le_refl _, hT.out, hB⟩
end Go.Proofs.YtlbibhngfnllbaaDoor
