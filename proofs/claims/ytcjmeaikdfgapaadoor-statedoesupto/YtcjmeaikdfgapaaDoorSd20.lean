/- Texts as one: StaLay, StaKeys, StaCopy, StaBld, StaDigest, RefStaDig. -/
import Derived.Test.YtcjmeaikdfgapaaDoorRows
import Derived.Shelf.SlIter.Nil
import Derived.Shelf.SortM.Plain
import Derived.Shelf.SortM.SortNone
import Derived.Shelf.SlMaps.Clone
import Derived.Ground.GgzProg
import Derived.Ground.SlgmProg
import Derived.Ground.SlmcProg
import Derived.Test.YtcjmeaikdfgapaaDoorSd07
import Derived.Test.YtcjmeaikdfgapaaDoorSd08
import Derived.Test.YtcjmeaikdfgapaaDoorSd03
import Derived.Test.YtcjmeaikdfgapaaDoorSd04
import Derived.BigRegion
import Derived.Test.YtcjmeaikdfgapaaDoorSd18
import Derived.Test.YtcjmeaikdfgapaaDoorSd15
import Derived.Test.YtcjmeaikdfgapaaDoorSd19
import Derived.Lib.QuietBelow
import Derived.BigQuiet
import Derived.Deep.QuietTactic
/- The library's contracts on maps.Keys, slices.Sorted, slices.Sort and maps.Clone, laid over this program in plain words. -/
namespace Go.Proofs.YtcjmeaikdfgapaaDoor
open Go Go.Shelf
set_option linter.unusedVariables false

def keysA_ren : Go.Shelf.Ren := ⟨fun | 7 => 29 | 10 => 48 | n => n, fun | 23 => 50 | 26 => 9 | 3 => 55 | 28 => 69 | 0 => 0 | 27 => 68 | 33 => 43 | 4 => 4 | n => n, fun | n => n⟩

theorem keysA : Go.Proofs.SlLaysZ.n7 Tryd.prog keysA_ren := {
  mixed := by kernel_rfl
  f7 := ⟨Tryd.f29.name, by decide, Tryd.func29.trans (congrArg some (by kernel_rfl))⟩
  f10 := ⟨Tryd.f48.name, by decide, Tryd.func48.trans (congrArg some (by kernel_rfl))⟩
  t0 := Tryd.underlying0
  a0 := Tryd.isAgg0
  z0 := Tryd.sizeOf0
  v0 := Tryd.zeroValue0
  t4 := Tryd.underlying4
  a4 := Tryd.isAgg4
  z4 := Tryd.sizeOf4
  v4 := Tryd.zeroValue4
  t23 := Tryd.underlying50
  a23 := Tryd.isAgg50
  z23 := Tryd.sizeOf50
  v23 := Tryd.zeroValue50
  t26 := Tryd.underlying9
  a26 := Tryd.isAgg9
  z26 := Tryd.sizeOf9
  v26 := Tryd.zeroValue9
  t27 := Tryd.underlying68
  a27 := Tryd.isAgg68
  z27 := Tryd.sizeOf68
  v27 := Tryd.zeroValue68
  t28 := Tryd.underlying69
  a28 := Tryd.isAgg69
  z28 := Tryd.sizeOf69
  v28 := Tryd.zeroValue69
  t33 := Tryd.underlying43
  a33 := Tryd.isAgg43
  z33 := Tryd.sizeOf43
  v33 := Tryd.zeroValue43 }

def keysV_ren : Go.Shelf.Ren := ⟨fun | 7 => 33 | 10 => 50 | n => n, fun | 23 => 51 | 26 => 9 | 3 => 79 | 28 => 69 | 0 => 0 | 27 => 68 | 33 => 43 | 4 => 4 | n => n, fun | n => n⟩

theorem keysV : Go.Proofs.SlLaysZ.n7 Tryd.prog keysV_ren := {
  mixed := by kernel_rfl
  f7 := ⟨Tryd.f33.name, by decide, Tryd.func33.trans (congrArg some (by kernel_rfl))⟩
  f10 := ⟨Tryd.f50.name, by decide, Tryd.func50.trans (congrArg some (by kernel_rfl))⟩
  t0 := Tryd.underlying0
  a0 := Tryd.isAgg0
  z0 := Tryd.sizeOf0
  v0 := Tryd.zeroValue0
  t4 := Tryd.underlying4
  a4 := Tryd.isAgg4
  z4 := Tryd.sizeOf4
  v4 := Tryd.zeroValue4
  t23 := Tryd.underlying51
  a23 := Tryd.isAgg51
  z23 := Tryd.sizeOf51
  v23 := Tryd.zeroValue51
  t26 := Tryd.underlying9
  a26 := Tryd.isAgg9
  z26 := Tryd.sizeOf9
  v26 := Tryd.zeroValue9
  t27 := Tryd.underlying68
  a27 := Tryd.isAgg68
  z27 := Tryd.sizeOf68
  v27 := Tryd.zeroValue68
  t28 := Tryd.underlying69
  a28 := Tryd.isAgg69
  z28 := Tryd.sizeOf69
  v28 := Tryd.zeroValue69
  t33 := Tryd.underlying43
  a33 := Tryd.isAgg43
  z33 := Tryd.sizeOf43
  v33 := Tryd.zeroValue43 }

def sortedS_ren : Go.Shelf.Ren := ⟨fun | 6 => 28 | 8 => 46 | 9 => 47 | 11 => 58 | 13 => 60 | 12 => 59 | 23 => 84 | 24 => 85 | 14 => 75 | 15 => 76 | 16 => 77 | 17 => 78 | 18 => 79 | 19 => 80 | 20 => 81 | 21 => 82 | 22 => 83 | 25 => 92 | 26 => 93 | 27 => 94 | 28 => 95 | 29 => 96 | 30 => 97 | 31 => 101 | n => n, fun | 26 => 9 | 28 => 69 | 24 => 22 | 0 => 0 | 3 => 3 | 37 => 92 | 48 => 103 | 50 => 23 | 4 => 4 | 40 => 120 | 39 => 119 | 45 => 125 | 5 => 5 | 9 => 9 | 51 => 138 | 55 => 142 | 57 => 145 | 58 => 146 | 33 => 43 | n => n, fun | n => n⟩

theorem sortedS : Go.Proofs.SlLaysZ.n6 Tryd.prog sortedS_ren := {
  mixed := by kernel_rfl
  f6 := ⟨Tryd.f28.name, by decide, Tryd.func28.trans (congrArg some (by kernel_rfl))⟩
  f8 := ⟨Tryd.f46.name, by decide, Tryd.func46.trans (congrArg some (by kernel_rfl))⟩
  f11 := ⟨Tryd.f58.name, by decide, Tryd.func58.trans (congrArg some (by kernel_rfl))⟩
  t0 := Tryd.underlying0
  a0 := Tryd.isAgg0
  z0 := Tryd.sizeOf0
  v0 := Tryd.zeroValue0
  t24 := Tryd.underlying22
  a24 := Tryd.isAgg22
  z24 := Tryd.sizeOf22
  v24 := Tryd.zeroValue22
  t26 := Tryd.underlying9
  a26 := Tryd.isAgg9
  z26 := Tryd.sizeOf9
  v26 := Tryd.zeroValue9
  t28 := Tryd.underlying69
  a28 := Tryd.isAgg69
  z28 := Tryd.sizeOf69
  v28 := Tryd.zeroValue69
  i26 := by kernel_rfl }

def sortS_ren : Go.Shelf.Ren := ⟨fun | 6 => 47 | 8 => 60 | 9 => 59 | 19 => 84 | 20 => 85 | 21 => 75 | 22 => 76 | 23 => 77 | 24 => 78 | 25 => 79 | 26 => 80 | 27 => 81 | 28 => 82 | 29 => 83 | 36 => 92 | 31 => 93 | 32 => 94 | 37 => 95 | 38 => 96 | 39 => 97 | 41 => 101 | n => n, fun | 27 => 22 | 29 => 9 | 3 => 3 | 32 => 92 | 26 => 22 | 0 => 0 | 44 => 103 | 46 => 23 | 4 => 4 | 36 => 120 | 35 => 119 | 41 => 125 | 5 => 5 | 9 => 9 | 53 => 138 | 57 => 142 | 63 => 145 | 64 => 146 | n => n, fun | n => n⟩

theorem sortS : Go.Proofs.SlLaysM.n6 Tryd.prog sortS_ren := {
  mixed := by kernel_rfl
  f6 := ⟨Tryd.f47.name, by decide, Tryd.func47.trans (congrArg some (by kernel_rfl))⟩
  f8 := Tryd.func60.trans (congrArg some (by kernel_rfl))
  f9 := ⟨Tryd.f59.name, by decide, Tryd.func59.trans (congrArg some (by kernel_rfl))⟩
  f19 := Tryd.func84.trans (congrArg some (by kernel_rfl))
  f20 := Tryd.func85.trans (congrArg some (by kernel_rfl))
  f21 := ⟨Tryd.f75.name, by decide, Tryd.func75.trans (congrArg some (by kernel_rfl))⟩
  f22 := ⟨Tryd.f76.name, by decide, Tryd.func76.trans (congrArg some (by kernel_rfl))⟩
  f23 := ⟨Tryd.f77.name, by decide, Tryd.func77.trans (congrArg some (by kernel_rfl))⟩
  f24 := ⟨Tryd.f78.name, by decide, Tryd.func78.trans (congrArg some (by kernel_rfl))⟩
  f25 := ⟨Tryd.f79.name, by decide, Tryd.func79.trans (congrArg some (by kernel_rfl))⟩
  f26 := ⟨Tryd.f80.name, by decide, Tryd.func80.trans (congrArg some (by kernel_rfl))⟩
  f27 := ⟨Tryd.f81.name, by decide, Tryd.func81.trans (congrArg some (by kernel_rfl))⟩
  f28 := ⟨Tryd.f82.name, by decide, Tryd.func82.trans (congrArg some (by kernel_rfl))⟩
  f29 := ⟨Tryd.f83.name, by decide, Tryd.func83.trans (congrArg some (by kernel_rfl))⟩
  f31 := Tryd.func93.trans (congrArg some (by kernel_rfl))
  f32 := Tryd.func94.trans (congrArg some (by kernel_rfl))
  f36 := ⟨Tryd.f92.name, by decide, Tryd.func92.trans (congrArg some (by kernel_rfl))⟩
  f37 := ⟨Tryd.f95.name, by decide, Tryd.func95.trans (congrArg some (by kernel_rfl))⟩
  f38 := ⟨Tryd.f96.name, by decide, Tryd.func96.trans (congrArg some (by kernel_rfl))⟩
  f39 := ⟨Tryd.f97.name, by decide, Tryd.func97.trans (congrArg some (by kernel_rfl))⟩
  f41 := ⟨Tryd.f101.name, by decide, Tryd.func101.trans (congrArg some (by kernel_rfl))⟩
  t0 := Tryd.underlying0
  a0 := Tryd.isAgg0
  z0 := Tryd.sizeOf0
  v0 := Tryd.zeroValue0
  t3 := Tryd.underlying3
  a3 := Tryd.isAgg3
  z3 := Tryd.sizeOf3
  v3 := Tryd.zeroValue3
  t4 := Tryd.underlying4
  a4 := Tryd.isAgg4
  z4 := Tryd.sizeOf4
  v4 := Tryd.zeroValue4
  t5 := Tryd.underlying5
  a5 := Tryd.isAgg5
  z5 := Tryd.sizeOf5
  v5 := Tryd.zeroValue5
  t9 := Tryd.underlying9
  a9 := Tryd.isAgg9
  z9 := Tryd.sizeOf9
  v9 := Tryd.zeroValue9
  t26 := Tryd.underlying22
  a26 := Tryd.isAgg22
  z26 := Tryd.sizeOf22
  v26 := Tryd.zeroValue22
  t27 := Tryd.underlying22
  a27 := Tryd.isAgg22
  z27 := Tryd.sizeOf22
  v27 := Tryd.zeroValue22
  t29 := Tryd.underlying9
  a29 := Tryd.isAgg9
  z29 := Tryd.sizeOf9
  v29 := Tryd.zeroValue9
  t32 := Tryd.underlying92
  a32 := Tryd.isAgg92
  z32 := Tryd.sizeOf92
  v32 := Tryd.zeroValue92
  t35 := Tryd.underlying119
  a35 := Tryd.isAgg119
  z35 := Tryd.sizeOf119
  v35 := Tryd.zeroValue119
  t36 := Tryd.underlying120
  a36 := Tryd.isAgg120
  z36 := Tryd.sizeOf120
  v36 := Tryd.zeroValue120
  t41 := Tryd.underlying125
  a41 := Tryd.isAgg125
  z41 := Tryd.sizeOf125
  v41 := Tryd.zeroValue125
  t44 := Tryd.underlying103
  a44 := Tryd.isAgg103
  z44 := Tryd.sizeOf103
  v44 := Tryd.zeroValue103
  t46 := Tryd.underlying23
  a46 := Tryd.isAgg23
  z46 := Tryd.sizeOf23
  v46 := Tryd.zeroValue23
  t53 := Tryd.underlying138
  a53 := Tryd.isAgg138
  z53 := Tryd.sizeOf138
  v53 := Tryd.zeroValue138
  t57 := Tryd.underlying142
  a57 := Tryd.isAgg142
  z57 := Tryd.sizeOf142
  v57 := Tryd.zeroValue142
  t63 := Tryd.underlying145
  a63 := Tryd.isAgg145
  z63 := Tryd.sizeOf145
  v63 := Tryd.zeroValue145
  t64 := Tryd.underlying146
  a64 := Tryd.isAgg146
  z64 := Tryd.sizeOf146
  v64 := Tryd.zeroValue146 }

def cloneA_ren : Go.Shelf.Ren := ⟨fun | 5 => 43 | 7 => 55 | n => n, fun | 23 => 50 | 25 => 9 | 3 => 55 | 4 => 4 | 20 => 20 | n => n, fun | n => n⟩

theorem cloneA : Go.Proofs.SlLaysW.n5 Tryd.prog cloneA_ren := {
  mixed := by kernel_rfl
  f5 := ⟨Tryd.f43.name, by decide, Tryd.func43.trans (congrArg some (by kernel_rfl))⟩
  f7 := Tryd.func55.trans (congrArg some (by kernel_rfl))
  t4 := Tryd.underlying4
  a4 := Tryd.isAgg4
  z4 := Tryd.sizeOf4
  v4 := Tryd.zeroValue4
  t20 := Tryd.underlying20
  a20 := Tryd.isAgg20
  z20 := Tryd.sizeOf20
  v20 := Tryd.zeroValue20
  t23 := Tryd.underlying50
  a23 := Tryd.isAgg50
  z23 := Tryd.sizeOf50
  v23 := Tryd.zeroValue50 }

def cloneV_ren : Go.Shelf.Ren := ⟨fun | 5 => 44 | 7 => 55 | n => n, fun | 23 => 51 | 25 => 9 | 3 => 79 | 4 => 4 | 20 => 20 | n => n, fun | n => n⟩

theorem cloneV : Go.Proofs.SlLaysW.n5 Tryd.prog cloneV_ren := {
  mixed := by kernel_rfl
  f5 := ⟨Tryd.f44.name, by decide, Tryd.func44.trans (congrArg some (by kernel_rfl))⟩
  f7 := Tryd.func55.trans (congrArg some (by kernel_rfl))
  t4 := Tryd.underlying4
  a4 := Tryd.isAgg4
  z4 := Tryd.sizeOf4
  v4 := Tryd.zeroValue4
  t20 := Tryd.underlying20
  a20 := Tryd.isAgg20
  z20 := Tryd.sizeOf20
  v20 := Tryd.zeroValue20
  t23 := Tryd.underlying51
  a23 := Tryd.isAgg51
  z23 := Tryd.sizeOf51
  v23 := Tryd.zeroValue51 }
end Go.Proofs.YtcjmeaikdfgapaaDoor

/- slices.Sorted(maps.Keys(m)) of the state's two maps: all their names, rising; maps.Clone of them. -/
namespace Go.Proofs.YtcjmeaikdfgapaaDoor
open Go Go.RowKit Go.Maps Go.Sort
set_option linter.unusedVariables false

theorem keysA_any (mb : Option Nat) (W : World) : Calls Tryd.prog 29 #[.map mb] W fun e w' => e = .returned (.func (.func 48) #[] #[.pointer (some ⟨W.heap.size, 0, none⟩)]) ∧ w' = W.alloc (.cells #[.map mb] 50) :=
  callsIn_wide.1 (AnyZ.keys_in keysA Fence.wide 5 trivial rfl mb W)

theorem keysV_any (mb : Option Nat) (W : World) : Calls Tryd.prog 33 #[.map mb] W fun e w' => e = .returned (.func (.func 50) #[] #[.pointer (some ⟨W.heap.size, 0, none⟩)]) ∧ w' = W.alloc (.cells #[.map mb] 51) :=
  callsIn_wide.1 (AnyZ.keys_in keysV Fence.wide 5 trivial rfl mb W)

theorem sortsS (m : Nat) : AnyZ.SortsIn Tryd.prog sortedS_ren Fence.wide m :=
  ⟨fun blk off cap ss W hH hblk hsz => callsIn_wide.2 (AnyM.slices_Sort_string sortS blk off cap ss W hH hblk hsz),
   fun p cap W => callsIn_wide.2 (AnyM.slices_Sort_string_none sortS p cap W)⟩

/-- A row of texts of the call's own. -/
def NamesAt (w : World) (ao : Option Addr) (cap : Nat) (L : List ByteArray) : Prop := ∃ B, w.ownsRow B 9 1 (.slice ao L.length cap) L.length (flatK strK L)

theorem NamesAt.kept {S : Nat → Prop} {w w' : World} {ao : Option Addr} {cap : Nat} {L : List ByteArray} (h : NamesAt w ao cap L) (hk : Kept S w w') (hn : ∀ k cur, w.heap[k]? = some (.cells cur 9 (0, 0)) → ¬ S k) : NamesAt w' ao cap L := by
  obtain ⟨B, h1, h2⟩ := h
  refine ⟨B, h1, h2.imp id ?_⟩
  rintro ⟨g, c, cur, e1, e2, e3, e4⟩
  exact ⟨g, c, cur, e1, e2, (hk.block g (Array.getElem?_eq_some_iff.1 e3).1 (hn g cur e3)).trans e3, e4⟩

theorem NamesAt.below {w w' : World} {ao : Option Addr} {cap : Nat} {L : List ByteArray} (h : NamesAt w ao cap L) (hb : Below w.heap.size w w') : NamesAt w' ao cap L :=
  h.kept (S := fun _ => False) (Kept.of_below hb) (fun _ _ _ => id)

theorem NamesAt.row {w : World} {ao : Option Addr} {cap : Nat} {L : List ByteArray} (h : NamesAt w ao cap L) : RowAt strK w ao L := by
  obtain ⟨B, h1⟩ := h
  have hQ : KQ strK 9 w B (.slice ao L.length cap) L := KQ.of_own (K := strK) (T := 9) (fun x b h => h.elim) (fun x _ => trivial) rfl h1
  obtain ⟨ao', cap', e1, _, hr⟩ := hQ.form
  simp only [Value.slice.injEq, true_and] at e1
  rw [e1.1]
  exact hr

theorem NamesAt.few {w : World} {ao : Option Addr} {cap : Nat} {L : List ByteArray} (h : NamesAt w ao cap L) : L.length ≤ cap := by
  obtain ⟨B, _, h2⟩ := h
  rcases h2 with ⟨_, hz⟩ | ⟨g, c, cur, e1, e2, e3, e4, _⟩
  · omega
  · simp only [Value.slice.injEq] at e1
    omega

/-- What is handed back: all names of the map, rising. -/
def GotNames (f : ByteArray → Option Value) (n : Nat) (W : World) (e : Ending) (w : World) : Prop :=
  ∃ (L : List ByteArray) (ao : Option Addr) (cap : Nat), e = .returned (.slice ao L.length cap) ∧ NamesAt w ao cap L ∧ L.length = n ∧ RiseN L ∧ (∀ k, k ∈ L ↔ (f k).isSome = true) ∧ Below W.heap.size W w

theorem names_of {w W w' : World} {b n : Nat} {f : ByteArray → Option Value} (D : DataW Value) (hown : w.ownsMap Tryd.prog 9 heldElem b n D) (hsz : Maps.size D = n) (hf : ∀ id, Maps.has D (keyS id) = (f id).isSome) {v : Value} {ss : List (List UInt8)} (hp : ss.Perm (strKeys D))
    (hrow : w'.ownsRow W.heap.size 9 1 v ss.length ((ss.mergeSort (fun x y => decide (x ≤ y))).map encStr)) (hb : Below W.heap.size W w') : GotNames f n W (.returned v) w' := by
  obtain ⟨es, hD, hpw, _⟩ := hown.entries lawStr
  obtain ⟨es', hD', hko⟩ := hown.keysOf
  obtain rfl : es = es' := by rw [hD] at hD'; simpa using hD'
  subst hD
  have hk : ∀ p ∈ es, ∃ x, p.1 = .string x := fun p hp => by
    obtain ⟨v, hv⟩ := hko p hp
    obtain ⟨x, _, hx, _⟩ := Maps.keyOf_str Tryd.underlying9 hv
    exact ⟨x, hx⟩
  have hnd : (strKeys (.map es)).Nodup := by
    show (es.map fun p => strOf p.1).Nodup
    refine List.pairwise_map.2 (hpw.imp_of_mem fun {p q} hp' hq' hne e => hne ?_)
    obtain ⟨a, ha⟩ := hk p hp'
    obtain ⟨b, hb⟩ := hk q hq'
    rw [ha, hb] at e ⊢
    exact congrArg _ e
  have hmem : ∀ x, x ∈ strKeys (.map es) ↔ has (.map es) (.string x) = true := fun x => by
    rw [has_eq, List.any_eq_true]
    show x ∈ es.map (fun p => strOf p.1) ↔ _
    rw [List.mem_map]
    constructor
    · rintro ⟨p, hp', rfl⟩
      obtain ⟨a, ha⟩ := hk p hp'
      exact ⟨p, hp', by rw [ha]; simp [Lit.sameKey, strOf]⟩
    · rintro ⟨p, hp', hs⟩
      obtain ⟨a, ha⟩ := hk p hp'
      rw [ha] at hs
      exact ⟨p, hp', by rw [ha]; simpa [Lit.sameKey, strOf] using hs⟩
  have hP2 : (ss.mergeSort (fun x y => decide (x ≤ y))).Perm (strKeys (.map es)) := (List.mergeSort_perm ss _).trans hp
  have hlen : ss.length = n := by
    rw [hp.length_eq, ← hsz, size_eq]
    show (es.map _).length = _
    rw [List.length_map]
  have hsort : (ss.mergeSort (fun x y => decide (x ≤ y))).Pairwise (fun a b => decide (a ≤ b) = true) :=
    List.pairwise_mergeSort (fun a b c h1 h2 => by simp only [decide_eq_true_eq] at *; exact List.le_trans h1 h2) (fun a b => by simp only [Bool.or_eq_true, decide_eq_true_eq]; exact List.le_total a b) ss
  have hnd2 : (ss.mergeSort (fun x y => decide (x ≤ y))).Nodup := hP2.nodup_iff.2 hnd
  generalize hm : ss.mergeSort (fun x y => decide (x ≤ y)) = m at *
  have hml : m.length = ss.length := by rw [← hm, List.length_mergeSort]
  have hstrict : m.Pairwise (fun a b => a < b) := by
    refine (hsort.and hnd2).imp (fun {a b} h => ?_)
    have h1 : a ≤ b := of_decide_eq_true h.1
    rcases List.le_iff_lt_or_eq.1 h1 with h2 | h2
    · exact h2
    · exact absurd h2 h.2
  have tl : ∀ x : List UInt8, (⟨x.toArray⟩ : ByteArray).toList = x := fun x => by rw [ByteArray.toList_eq]
  have eF : m.map encStr = flatK strK (m.map (fun x => (⟨x.toArray⟩ : ByteArray))) := by
    clear hm hsort hnd2 hstrict hml hP2 hrow
    induction m with
    | nil => rfl
    | cons x r ih =>
      rw [List.map_cons, List.map_cons, ih]
      rfl
  rw [eF] at hrow
  obtain ⟨ao, cap, rfl⟩ : ∃ ao cap, v = .slice ao ss.length cap := by
    rcases hrow.2 with ⟨rfl, hz⟩ | ⟨g, cap, cur, rfl, _⟩
    · exact ⟨none, 0, by rw [hz]⟩
    · exact ⟨_, _, rfl⟩
  have hl2 : ss.length = (m.map (fun x => (⟨x.toArray⟩ : ByteArray))).length := by rw [List.length_map, hml]
  rw [hl2] at hrow
  refine ⟨m.map (fun x => (⟨x.toArray⟩ : ByteArray)), ao, cap, by rw [← hl2], ⟨W.heap.size, hrow⟩, by rw [← hl2]; exact hlen, ?_, ?_, hb⟩
  · refine List.pairwise_map.2 (hstrict.imp (fun {a b} h => ?_))
    rw [tl, tl]
    exact h
  · intro k
    rw [← hf k, List.mem_map]
    have : Maps.has (DataW.map es) (keyS k) = true ↔ k.data.toList ∈ m := by
      rw [hP2.mem_iff, hmem]
      rfl
    rw [this]
    constructor
    · rintro ⟨x, hx, rfl⟩
      simpa using hx
    · intro h
      exact ⟨k.data.toList, h, by simp⟩

set_option maxHeartbeats 1000000 in
theorem sortedA_any (b n : Nat) (f : ByteArray → Option Value) (w : World) (h : SMap w b f n) (hn : n ≤ 1000000) :
    Calls Tryd.prog 28 #[.func (.func 48) #[] #[.pointer (some ⟨w.heap.size, 0, none⟩)]] (w.alloc (.cells #[.map (some b)] 50)) fun e w' => GotNames f n (w.alloc (.cells #[.map (some b)] 50)) e w' := by
  obtain ⟨D, hown, hsz, hf, _⟩ := h
  have hbl := hown.lt
  have hmax : Maps.size D ≤ maxLen := by rw [hsz]; unfold maxLen; omega
  have hbytes : Maps.size D * 16 ≤ 140737488355328 := by rw [hsz]; omega
  have hseq : SeqGives Fence.wide 2 Tryd.prog 48 #[.pointer (some ⟨w.heap.size, 0, none⟩)] encStr (fun ss => ss.Perm (strKeys D)) (Maps.size D) (w.alloc (.cells #[.map (some b)] 50)) :=
    AnyZ.keys_gives (ρ := keysA_ren) { keysA with } Fence.wide _ trivial rfl (by omega) w.heap.size b n D _ (by simp) (by simp) (by
      obtain ⟨es, clock, hb, Ft, hs, hD⟩ := hown
      exact ⟨es, clock, (Below.heap_alloc _ _ b hbl).trans hb, Ft, hs, hD⟩)
  have cS := AnyZ.sorted_in sortedS Fence.wide 5 trivial trivial trivial trivial rfl (by omega) (sortsS _) (enters_of Tryd.func47 (by kernel_rfl) rfl) 48 #[.pointer (some ⟨w.heap.size, 0, none⟩)] trivial (enters_of Tryd.func48 (by kernel_rfl) rfl) _ _ hmax hbytes _ hseq
  refine (callsIn_wide.1 cS).mono ?_
  rintro e w' ⟨v, ss, rfl, hp, hrow, _, hb⟩
  exact names_of D hown hsz hf hp hrow hb

set_option maxHeartbeats 1000000 in
theorem sortedV_any (b n : Nat) (f : ByteArray → Option Value) (w : World) (h : SMap w b f n) (hn : n ≤ 1000000) :
    Calls Tryd.prog 28 #[.func (.func 50) #[] #[.pointer (some ⟨w.heap.size, 0, none⟩)]] (w.alloc (.cells #[.map (some b)] 51)) fun e w' => GotNames f n (w.alloc (.cells #[.map (some b)] 51)) e w' := by
  obtain ⟨D, hown, hsz, hf, _⟩ := h
  have hbl := hown.lt
  have hmax : Maps.size D ≤ maxLen := by rw [hsz]; unfold maxLen; omega
  have hbytes : Maps.size D * 16 ≤ 140737488355328 := by rw [hsz]; omega
  have hseq : SeqGives Fence.wide 2 Tryd.prog 50 #[.pointer (some ⟨w.heap.size, 0, none⟩)] encStr (fun ss => ss.Perm (strKeys D)) (Maps.size D) (w.alloc (.cells #[.map (some b)] 51)) :=
    AnyZ.keys_gives (ρ := keysV_ren) { keysV with } Fence.wide _ trivial rfl (by omega) w.heap.size b n D _ (by simp) (by simp) (by
      obtain ⟨es, clock, hb, Ft, hs, hD⟩ := hown
      exact ⟨es, clock, (Below.heap_alloc _ _ b hbl).trans hb, Ft, hs, hD⟩)
  have cS := AnyZ.sorted_in sortedS Fence.wide 5 trivial trivial trivial trivial rfl (by omega) (sortsS _) (enters_of Tryd.func47 (by kernel_rfl) rfl) 50 #[.pointer (some ⟨w.heap.size, 0, none⟩)] trivial (enters_of Tryd.func50 (by kernel_rfl) rfl) _ _ hmax hbytes _ hseq
  refine (callsIn_wide.1 cS).mono ?_
  rintro e w' ⟨v, ss, rfl, hp, hrow, _, hb⟩
  exact names_of D hown hsz hf hp hrow hb

/-- A map copied: a new block that holds the same. -/
theorem cloneA_any (b n : Nat) (f : ByteArray → Option Value) (w : World) (h : SMap w b f n) :
    Calls Tryd.prog 43 #[.map (some b)] w fun e w' => e = .returned (.map (some w.heap.size)) ∧ SMap w' w.heap.size f n ∧ Below w.heap.size w w' := by
  obtain ⟨D, hown, hsz, hf, hg⟩ := h
  refine (AnyW.maps_Clone_owns cloneA 9 heldElem b n D w hown).mono ?_
  rintro e w' ⟨h1, h2, _, h4⟩
  exact ⟨h1, ⟨D, h2, hsz, hf, hg⟩, h4⟩

theorem cloneV_any (b n : Nat) (f : ByteArray → Option Value) (w : World) (h : SMap w b f n) :
    Calls Tryd.prog 44 #[.map (some b)] w fun e w' => e = .returned (.map (some w.heap.size)) ∧ SMap w' w.heap.size f n ∧ Below w.heap.size w w' := by
  obtain ⟨D, hown, hsz, hf, hg⟩ := h
  refine (AnyW.maps_Clone_owns cloneV 9 heldElem b n D w hown).mono ?_
  rintro e w' ⟨h1, h2, _, h4⟩
  exact ⟨h1, ⟨D, h2, hsz, hf, hg⟩, h4⟩
end Go.Proofs.YtcjmeaikdfgapaaDoor

/- What Copy does. -/
namespace Go.Proofs.YtcjmeaikdfgapaaDoor
open Go Go.RowKit
set_option linter.unusedVariables false

set_option maxRecDepth 100000 in
set_option maxHeartbeats 1000000 in
theorem copy22_any (w : World) (p : Nat) (S : Nat → Prop) (s : StF) (N : Nat) (h : PS w p S s N) :
    Calls Tryd.prog 25 #[.pointer (some ⟨p, 0, none⟩)] w fun e w' => GotState w s N e w' := by
  obtain ⟨a, v, -, hP⟩ := h
  obtain ⟨n1, hn1, hM⟩ := hP.acc
  obtain ⟨n2, hn2, hV⟩ := hP.val
  have hok := hP.ok
  have c0 := hP.box.cell (i := 0) rfl
  have c1 := hP.box.cell (i := 1) rfl
  have lp := hP.box.lt
  have hbd : Below w.heap.size w w.drew := below_drewN (Below.refl _ w) 1
  have cA := fun w1 (hb : Below w.heap.size w w1) => cloneA_any a n1 _ w1 (hM.below hb)
  have cV := fun w1 (hb : Below w.heap.size w w1) => cloneV_any v n2 _ w1 (hV.below hb)
  have hc := fun w1 (hb : Below w.heap.size w w1) => cell_same (hb.block _ lp)
  have hG : ∀ (w1 : World) (a' v' : Nat), Below w.heap.size w w1 → SMap w1 a' (accM s.acc) n1 → SMap w1 v' (valM s.val) n2 → w.heap.size ≤ a' → w.heap.size ≤ v' → a' ≠ v' → GotState w s N (.returned (.pointer (some ⟨w1.heap.size, 0, none⟩))) (w1.alloc (.cells #[.map (some a'), .map (some v')] 53)) := by
    intro w1 a' v' hb hA hV' e1 e2 e3
    have l1 := hA.lt
    have l2 := hV'.lt
    have hb2 := belowNew w1 (.cells #[.map (some a'), .map (some v')] 53)
    exact ⟨w1.heap.size, fun b => b = w1.heap.size ∨ b = a' ∨ b = v', rfl, ⟨a', v', fun b => Iff.rfl, ⟨Arr.new w1 53 [.map (some a'), .map (some v')], ⟨n1, hn1, hA.below hb2⟩, ⟨n2, hn2, hV'.below hb2⟩, by omega, by omega, e3, hok⟩⟩, fun b hb' => by have := hb.size; omega, hb.alloc hb.size _⟩
  have hd0 := hc _ hbd 0
  have hd1 := hc _ hbd 1
  rw [c0] at hd0
  rw [c1] at hd1
  clear hM hV hok hP
  generalize accM s.acc = f at *
  generalize valM s.val = g at *
  generalize hGG : GotState w s N = GG at *
  clear hGG
  go_enter Tryd.func25, Tryd.ntmps25
  go_wp2_with fail
  go_region_law (first
    | (go_simp; go_at_call 43; refine (cA _ hbd).mono ?_; rintro e wA ⟨rfl, hA, hbA⟩; have hbA2 := hbd.trans (hbA.mono hbd.size); have kA1 := (hc _ hbA2 1).trans c1; have lA := hA.lt)
    | (go_simp; go_at_call 44; refine (cV _ hbA2).mono ?_; rintro e wV ⟨rfl, hV, hbV⟩; have hbV2 := hbA2.trans (hbV.mono hbA2.size); have hA2 := hA.below hbV; have hfin := hG wV _ _ hbV2 hA2 hV))
  all_goals (
    have lA' : w.heap.size < wA.heap.size := lA
    have hfin' := hfin (Nat.le_refl _) (Nat.le_of_lt lA') (Nat.ne_of_lt lA')
    clear hfin hA2 hA hV hbV hbA hG cA cV hc kA1 lA hd0 hd1
    rename_i K hK
    refine hK _ _ ?_
    clear hK
    go_wp2
    go_ret
    exact hfin')
end Go.Proofs.YtcjmeaikdfgapaaDoor

/- A strings.Builder of the call's own: what WriteString turns is told block by block; String of nothing. -/
namespace Go.Proofs.YtcjmeaikdfgapaaDoor
open Go.RowKit
set_option linter.unusedVariables false

theorem copyCheck_kept (B b : Nat) (bs : List Value) (w : World) (h : Lib.IsBuilder 66 5 B b bs w) :
    Calls Tryd.prog 49 #[.pointer (some ⟨b, 0, none⟩)] w fun e w' => e = .returned (.tuple #[]) ∧ (Lib.BuilderAt 66 5 B b (.pointer (some ⟨b, 0, none⟩)) bs w' ∧ Kept (fun k => k = b) w w' ∧ w'.heap.size = w.heap.size) := by
  rcases h with h | h
  · refine (copyCheck_fresh b w h.cell0 h.shape h.frozen0).mono ?_
    rintro e w' ⟨rfl, rfl⟩
    exact ⟨rfl, h.used _, Kept.setCell w ⟨b, 0, none⟩ _, by show (w.heap.modify b _).size = _; simp⟩
  · refine (copyCheck_used b w h.cell0).mono ?_
    rintro e w' ⟨rfl, rfl⟩
    exact ⟨rfl, h, Kept.refl _ _, rfl⟩

/-- What is turned: the builder, and a row of bytes behind B. -/
def ByteS (w : World) (B b k : Nat) : Prop := k = b ∨ (B ≤ k ∧ ∃ cur, w.heap[k]? = some (.cells cur 5 (0, 0)))

set_option maxRecDepth 100000 in
set_option maxHeartbeats 400000 in
theorem write_kept (B b : Nat) (bs : List Value) (s : ByteArray) (w : World) (h : Lib.IsBuilder 66 5 B b bs w) (hlen : bs.length + s.size ≤ 140737488355328) (hBw : B ≤ w.heap.size) :
    Calls Tryd.prog 30 #[.pointer (some ⟨b, 0, none⟩), .string s] w fun e w' => e = .returned (.tuple #[.int .i64 s.size, .nilIface]) ∧ (Lib.BuilderAt 66 5 B b (.pointer (some ⟨b, 0, none⟩)) (bs ++ Lib.strCells s) w' ∧ Kept (ByteS w B b) w w') := by
  obtain ⟨i0, hi, hz0, hz1, hz2⟩ := info_parts infoByte
  go_enter Tryd.func30, Tryd.ntmps30
  go_wp2_with fail
  refine (copyCheck_kept B b bs _ h).mono ?_
  rintro e w1 ⟨rfl, h1, hb1, hs1⟩
  obtain ⟨hB, v, hbk, hown, hne⟩ := h1
  have c1 : w1.cell? ⟨b, 1, none⟩ = some v := by rw [Lib.cell_of_heap hbk]; rfl
  have hv : ∀ k, v.ownBlock = some k → ByteS w B b k := by
    intro k hk
    rcases hown.2 with ⟨rfl, _⟩ | ⟨g, cap, cur, rfl, e2, e3, _⟩
    · cases hk
    · have e : g = k := by simpa [Value.ownBlock] using hk
      subst e
      have hgb : ¬ g = b := fun e => hne (by rw [← e]; rfl)
      refine Or.inr ⟨e2, cur, ?_⟩
      have hlt : g < w.heap.size := by
        rcases Nat.lt_or_ge g w.heap.size with q | q
        · exact q
        · exfalso
          have := (Array.getElem?_eq_some_iff.1 e3).1
          omega
      rw [← hb1.block g hlt hgb]
      exact e3
  clear hs1
  go_wp2_with (at_builtin; refine Lib.wpList_append_own_string _ rfl _ _ 64 9 rfl B 5 i0 Tryd.underlying64 Tryd.underlying9 hi hz0 hz1 hz2 _ _ _ rfl hown s rfl ?c3 ?c4 ?c5 ?_)
  case c3 => unfold maxLen; omega
  case c4 => omega
  case c5 => have := hb1.size; omega
  intro v' w2 hown' hgrow _
  have hlt : b < w1.heap.size := (Array.getElem?_eq_some_iff.1 hbk).1
  have hb2 : w2.heap[b]? = some (.cells #[.pointer (some ⟨b, 0, none⟩), v] 66 (0, 0)) := by
    rw [hgrow.block b hlt (fun e => hne e.symm)]
    exact hbk
  have d1 : w2.cell? ⟨b, 1, none⟩ = some v := by rw [Lib.cell_of_heap hb2]; rfl
  have f1 : w2.frozen? ⟨b, 1, none⟩ = false := Lib.frozen_of_heap hb2 1
  obtain ⟨ao, n', cap, rfl⟩ : ∃ ao n' cap, v' = .slice ao n' cap := by
    rcases hown'.2 with ⟨hv, _⟩ | ⟨g, cap, cur, hv, _⟩
    · exact ⟨_, _, _, hv⟩
    · exact ⟨_, _, _, hv⟩
  have fin1 : Lib.BuilderAt 66 5 B b (.pointer (some ⟨b, 0, none⟩)) (bs ++ Lib.strCells s) (w2.setCell ⟨b, 1, none⟩ (.slice ao n' cap)) :=
    Lib.BuilderAt.put (T := 66) (e := 5) hB hb2 (bs' := bs ++ Lib.strCells s) (by simpa [Lib.strCells_length] using hown') (by decide)
  have fin2 : Kept (ByteS w B b) w (w2.setCell ⟨b, 1, none⟩ (.slice ao n' cap)) :=
    ((hb1.mono (fun k _ e => Or.inl e)).trans ((Kept.of_grown hgrow).mono (fun k _ e => hv k e))).trans ((Kept.setCell w2 ⟨b, 1, none⟩ _).mono (fun k _ e => Or.inl e))
  clear hown' hgrow hown hbk hb2 hb1 h hne hlt c1 hv
  go_wp2
  go_ret2
  exact ⟨rfl, fin1, fin2⟩

set_option maxRecDepth 100000 in
set_option maxHeartbeats 400000 in
/-- String of a builder that was never written. -/
theorem string_none (b : Nat) (w : World) (hbk : w.heap[b]? = some (.cells #[.pointer none, .slice none 0 0] 66 (0, 0))) :
    Calls Tryd.prog 35 #[.pointer (some ⟨b, 0, none⟩)] w fun e w' => e = .returned (.string ⟨#[]⟩) ∧ Below w.heap.size w w' := by
  have fin := Below.drew (Below.refl w.heap.size w)
  have hSt : (Builtin.unsafeString_ #[94, 3] 9 #[.pointer none, .int .i64 0]).run Tryd.prog w.drew = .ok (.string ⟨#[]⟩) w.drew := Lib.run_unsafeString_none _ _ _ _ _
  have hSD : (Builtin.unsafeSliceData_ #[64] 94 #[.slice none 0 0]).run Tryd.prog w.drew = .ok (.pointer none) w.drew := rfl
  have c1 : w.cell? ⟨b, 1, none⟩ = some (.slice none 0 0) := by rw [Lib.cell_of_heap hbk]; rfl
  clear hbk
  go_enter Tryd.func35, Tryd.ntmps35
  go_wp2
  go_region
  all_goals (go_wp2; go_ret; exact ⟨rfl, fin⟩)

/-- Block b is a builder of the call's own that holds l; nothing that is older than W has turned. -/
structure DgS (W : World) (b : Nat) (w : World) (l : List UInt8) : Prop where
  bld : Lib.IsBuilder 66 5 W.heap.size b (Lib.byteCells l) w
  emp : l = [] → w.heap[b]? = some (.cells #[.pointer none, .slice none 0 0] 66 (0, 0))
  bel : Below W.heap.size W w
  low : W.heap.size ≤ b

theorem DgS.new (W : World) : DgS W W.heap.size (W.alloc (.cells #[.pointer none, .slice none 0 0] 66)) [] :=
  ⟨Lib.fresh_isBuilder 66 5 W, fun _ => heap_alloc_new W _, belowNew W _, Nat.le_refl _⟩

theorem DgS.lt {W w : World} {b : Nat} {l : List UInt8} (h : DgS W b w l) : b < w.heap.size := by
  rcases h.bld with h1 | h1 <;> exact Lib.BuilderAt.lt h1

theorem DgS.call {W w w1 : World} {b : Nat} {l : List UInt8} (h : DgS W b w l) (hb : Below w.heap.size w w1) : DgS W b w1 l :=
  ⟨builder_keep h.bld hb, fun e => (hb.block b h.lt).trans (h.emp e), h.bel.trans (hb.mono h.bel.size), h.low⟩

theorem DgS.write {W w : World} {b : Nat} {l : List UInt8} (h : DgS W b w l) (m : List UInt8) (hm : l.length + m.length ≤ 140737488355328) (h0 : m ≠ []) :
    Calls Tryd.prog 30 #[.pointer (some ⟨b, 0, none⟩), .string ⟨m.toArray⟩] w fun e w' => e = .returned (.tuple #[.int .i64 m.length, .nilIface]) ∧ DgS W b w' (l ++ m) ∧ Kept (ByteS w W.heap.size b) w w' := by
  refine (write_kept W.heap.size b _ ⟨m.toArray⟩ w h.bld (by rw [Lib.byteCells_length, size_mk]; exact hm) h.bel.size).mono ?_
  rintro e w' ⟨rfl, h2, hk⟩
  have hbw : Below W.heap.size W w' := h.bel.trans (hk.below h.bel.size (fun k hk => by
    rcases hk with e | ⟨e, _⟩
    · rw [e]; exact h.low
    · exact e))
  refine ⟨by rw [size_mk], ⟨Or.inr ?_, fun e => ?_, hbw, h.low⟩, hk⟩
  · rw [Lib.byteCells_append]
    rw [Lib.strCells_eq] at h2
    exact h2
  · exact absurd (List.append_eq_nil_iff.1 e).2 h0

theorem DgS.read {W w : World} {b : Nat} {l : List UInt8} (h : DgS W b w l) :
    Calls Tryd.prog 35 #[.pointer (some ⟨b, 0, none⟩)] w fun e w' => e = .returned (.string ⟨l.toArray⟩) ∧ Below W.heap.size W w' := by
  by_cases h0 : l = []
  · refine (string_none b w (h.emp h0)).mono ?_
    rintro e w' ⟨rfl, hb⟩
    exact ⟨by rw [h0], h.bel.trans (hb.mono h.bel.size)⟩
  · refine (string_any W.heap.size b l w h.bld h0).mono ?_
    rintro e w' ⟨rfl, hb⟩
    exact ⟨rfl, h.bel.trans hb⟩

/-- A block of another type is no row of bytes, and no builder. -/
theorem DgS.other {W w : World} {b : Nat} {l : List UInt8} (h : DgS W b w l) {T : TypeId} (h1 : T ≠ 5) (h2 : T ≠ 66) (k : Nat) (cur : Array Value) (hk : w.heap[k]? = some (.cells cur T (0, 0))) : ¬ ByteS w W.heap.size b k := by
  rintro (e | ⟨_, c, e⟩)
  · subst e
    rcases h.bld with ⟨_, v, h3, _⟩ | ⟨_, v, h3, _⟩ <;> (rw [hk] at h3; simp at h3; exact h2 h3.2)
  · rw [hk] at e
    simp at e
    exact h1 e.2

theorem DgS.arr {W w w' : World} {b : Nat} {l : List UInt8} (h : DgS W b w l) (hk : Kept (ByteS w W.heap.size b) w w') {g : Nat} {T : TypeId} {cs : List Value} (hA : Arr w g T cs) (h1 : T ≠ 5) (h2 : T ≠ 66) : Arr w' g T cs :=
  hA.kept hk (h.other h1 h2 g _ hA)
end Go.Proofs.YtcjmeaikdfgapaaDoor

/- What Digest does. -/
namespace Go.Proofs.YtcjmeaikdfgapaaDoor
open Go Go.RowKit
set_option linter.unusedVariables false

/-- A state's digest is handed back. -/
def GotDig (W : World) (s : StF) (e : Ending) (w : World) : Prop := ∃ t, IsDig s t ∧ e = .returned (.string (Mx.bytes (Mx.sumL t))) ∧ Below W.heap.size W w

theorem accM_is (f : ByteArray → Nat × Nat) (n : ByteArray) : (accM f n).isSome = true ↔ f n ≠ (0, 0) := by
  unfold accM
  by_cases h : f n = (0, 0)
  · rw [if_pos h]; simp [h]
  · rw [if_neg h]; simp [h]

theorem wrap64i (n : Nat) (h : n ≤ 4611686018427387903) : IntKind.i64.wrap (n : Int) = (n : Int) := by
  simp [IntKind.wrap, IntKind.bits, IntKind.signed]
  omega

set_option maxRecDepth 100000 in
set_option maxHeartbeats 4000000 in
theorem digest22_any (w : World) (p : Nat) (S : Nat → Prop) (s : StF) (N : Nat) (h : PS w p S s N) (hN : N ≤ 100000) (hG : Mx.Glob w) :
    Calls Tryd.prog 11 #[.pointer (some ⟨p, 0, none⟩)] w fun e w' => GotDig w s e w' := by
  obtain ⟨a, v, -, hP⟩ := h
  obtain ⟨n1, hn1, hM⟩ := hP.acc
  obtain ⟨n2, hn2, hV⟩ := hP.val
  have hok := hP.ok
  have lp := hP.box.lt
  have hbx := hP.box
  clear hP
  have c0 := hbx.cell (i := 0) rfl
  have D1 := DgS.new w
  have hM1 := hM.below D1.bel
  have hV1 := hV.below D1.bel
  have cK := keysA_any (some a) (w.alloc (.cells #[.pointer none, .slice none 0 0] 66))
  have cS := sortedA_any a n1 _ _ hM1 (by omega)
  have hk2 := belowNew (w.alloc (.cells #[.pointer none, .slice none 0 0] 66)) (.cells #[.map (some a)] 50)
  obtain ⟨w1, hw1⟩ : ∃ q, w.alloc (.cells #[.pointer none, .slice none 0 0] 66) = q := ⟨_, rfl⟩
  rw [hw1] at D1 hM1 hV1 cK cS hk2
  obtain ⟨w2, hw2⟩ : ∃ q, w1.alloc (.cells #[.map (some a)] 50) = q := ⟨_, rfl⟩
  rw [hw2] at cK cS hk2
  have c01 : w1.cell? ⟨p, 0, none⟩ = some (.map (some a)) := by rw [cell_same (D1.bel.block _ lp)]; exact c0
  generalize hGG : GotDig w s = GG
  go_enter Tryd.func11, Tryd.ntmps11
  go_wp2_with fail
  refine cK.mono ?_
  rintro e w' ⟨rfl, rfl⟩
  clear cK
  go_wp2_with fail
  refine cS.mono ?_
  rintro e w3 ⟨L, ao, cap, rfl, hNm, hLn, hLr, hLm, hb3⟩
  have D3 := (D1.call hk2).call hb3
  clear cS hw1 hw2 hk2 hM1 D1 c01 hb3
  have hLs : ∀ x ∈ L, s.acc x ≠ (0, 0) := fun x hx => (accM_is _ _).1 ((hLm x).1 hx)
  have hLen : Hid (∀ i, ((L.take i).flatMap (accT s.acc)).length ≤ 10000000) := by
    intro i
    have h1 := flat_len (accT s.acc) 100 (L.take i) (fun x hx => accT_len hok (hLs x (List.mem_of_mem_take hx)))
    have h2 : (L.take i).length ≤ L.length := by rw [List.length_take]; omega
    omega
  have lL : L.length ≤ 100000 := by omega
  replace hLn : Hid _ := hLn
  go_wp2_with fail
  go_loopw [16] (fun v16 wr => ∃ i : Nat, i ≤ L.length ∧ v16 = .int .i64 (i : Int) ∧ DgS w w.heap.size wr ((L.take i).flatMap (accT s.acc)) ∧ NamesAt wr ao cap L) (fun v _ => L.length - (intOf v).toNat)
  case atStart => exact ⟨0, Nat.zero_le _, rfl, by rw [List.take_zero]; exact D3, hNm⟩
  case round =>
    obtain ⟨i, hi, rfl, D, hNr⟩ := hrel
    clear D3 hNm
    by_cases hil : i < L.length
    · have g1 : (i : Int) < (L.length : Int) := by omega
      obtain ⟨x, hx⟩ : ∃ q, L[i]? = some q := ⟨_, List.getElem?_eq_getElem hil⟩
      have hxm := List.mem_of_getElem? hx
      obtain ⟨b2, off, hao, hbl, hcell⟩ := hNr.row.cell i x hx
      subst hao
      have hc2 := hcell 0 _ rfl
      have eo : off + i * strK.n + 0 = off + i := by show off + i * 1 + 0 = _; omega
      rw [eo] at hc2
      clear hcell eo
      have hxn := hok.nm x (hLs x hxm)
      have hxz := isNm_size hxn
      have hid : x.size ≤ maxLen := by unfold maxLen; omega
      have hMr := hM.below D.bel
      have hg := accM_get s.acc x
      have ha1 := hok.amt x
      have ha2 := hok.num x
      have hnx : Hid ((L.take i).flatMap (accT s.acc) ++ txt (aP ++ x).data.toList ++ goInt ((s.acc x).1 : Nat) ++ goInt ((s.acc x).2 : Nat) = (L.take (i + 1)).flatMap (accT s.acc)) := by
        show _ = _
        rw [List.take_add_one, hx, List.flatMap_append]
        simp [accT]
      have c0r : wr.cell? ⟨p, 0, none⟩ = some (.map (some a)) := by rw [cell_same (D.bel.block _ lp)]; exact c0
      obtain ⟨x1, hx1⟩ : ∃ q, Hid ((s.acc x).1 = q) := ⟨_, rfl⟩
      obtain ⟨x2, hx2⟩ : ∃ q, Hid ((s.acc x).2 = q) := ⟨_, rfl⟩
      rw [hx1.out] at hg ha1 hnx
      rw [hx2.out] at hg ha2 hnx
      have hnb := belowNew wr (.cells #[.int .u64 (x1 : Int), .int .u64 (x2 : Int)] 55)
      have hA4 : Arr (wr.alloc (.cells #[.int .u64 (x1 : Int), .int .u64 (x2 : Int)] 55)) wr.heap.size 55 [.int .u64 (x1 : Int), .int .u64 (x2 : Int)] := Arr.new wr 55 _
      have D4 := D.call hnb
      have hN4 := hNr.below hnb
      have hsz1 : (⟨#[97, 58]⟩ : ByteArray).size + x.size ≤ 9223372036854775807 := by
        have : (⟨#[97, 58]⟩ : ByteArray).size = 2 := rfl
        omega
      have cT := fun wx => text_any (⟨#[97, 58]⟩ ++ x) wx (by have := apP_size x; unfold aP at this; omega)
      have cI1 := fun wx => int_any (x1 : Int) wx
      have cI2 := fun wx => int_any (x2 : Int) wx
      have hw1 := wrap64i x1 ha1
      have hw2 := wrap64i x2 (by omega)
      have e1 := txt_le (aP ++ x).data.toList
      have e2 := goInt_length (x1 : Int)
      have e3 := goInt_length (x2 : Int)
      have e4 := dlen (aP ++ x)
      have e5 := apP_size x
      have n1' := goInt_ne x1 (by omega)
      have n2' := goInt_ne x2 (by omega)
      have n0' : txt (aP ++ x).data.toList ≠ [] := by
        unfold txt
        intro e
        exact goInt_ne _ (by omega) (List.append_eq_nil_iff.1 e).1
      change ∀ wx, Calls _ _ _ _ (fun e w' => e = .returned (.string ⟨(txt (aP ++ x).data.toList).toArray⟩) ∧ _) at cT
      generalize txt (aP ++ x).data.toList = T0 at *
      generalize goInt (x1 : Int) = T1 at *
      generalize goInt (x2 : Int) = T2 at *
      have hl0 := hLen.out i
      generalize (L.take i).flatMap (accT s.acc) = l0 at *
      have hsz : Hid (l0.length ≤ 10000000 ∧ T0.length ≤ 100 ∧ T1.length ≤ 10 ∧ T2.length ≤ 10) := ⟨hl0, by omega, by omega, by omega⟩
      clear e1 e2 e3 e4 e5 hl0 hNr hnb
      go_wp2_with (first
        | (at_lookup; refine smap_look (by rfl) _ _ 50 rfl 55 Tryd.underlying50 _ (zeroAcc _) a _ _ rfl hMr x hid rfl ?_; rw [hg]))
      refine (cT _).mono ?_
      rintro e w5 ⟨rfl, hb5⟩
      have D5 := D4.call hb5
      have hA5 := hA4.below hb5 hA4.lt
      have hN5 := hN4.below hb5
      clear cT D4 hA4 hN4 hb5 c0r hMr hc2 hbl hsz1
      go_wp2_with fail
      refine (D5.write T0 (by have := hsz.out; omega) n0').mono ?_
      rintro e w6 ⟨rfl, D6, hk6⟩
      have hA6 := D5.arr hk6 hA5 (by decide) (by decide)
      have hN6 := hN5.kept hk6 (D5.other (by decide) (by decide))
      have k0 := hA6.cell (i := 0) rfl
      clear D5 hA5 hN5 hk6
      go_wp2_with fail
      refine (cI1 _).mono ?_
      rintro e w7 ⟨rfl, hb7⟩
      have D7 := D6.call hb7
      have hA7 := hA6.below hb7 hA6.lt
      have hN7 := hN6.below hb7
      clear cI1 D6 hA6 hN6 hb7 k0 hw1
      go_wp2_with fail
      refine (D7.write T1 (by have := hsz.out; rw [List.length_append]; omega) n1').mono ?_
      rintro e w8 ⟨rfl, D8, hk8⟩
      have hA8 := D7.arr hk8 hA7 (by decide) (by decide)
      have hN8 := hN7.kept hk8 (D7.other (by decide) (by decide))
      have k1 := hA8.cell (i := 1) rfl
      clear D7 hA7 hN7 hk8
      go_wp2_with fail
      refine (cI2 _).mono ?_
      rintro e w9 ⟨rfl, hb9⟩
      have D9 := D8.call hb9
      have hN9 := hN8.below hb9
      clear cI2 D8 hA8 hN8 hb9 k1 hw2
      go_wp2_with fail
      refine (D9.write T2 (by have := hsz.out; rw [List.length_append, List.length_append]; omega) n2').mono ?_
      rintro e w10 ⟨rfl, D10, hk10⟩
      have hN10 := hN9.kept hk10 (D9.other (by decide) (by decide))
      rw [hnx.out] at D10
      clear D9 hN9 hk10 hnx hsz
      go_wp2
      go_roundw
      case rel => exact ⟨i + 1, by omega, by go_num, D10, hN10⟩
      case measure => simp [intOf]; omega
    · have g1 : ¬ (i : Int) < (L.length : Int) := by omega
      have hir : i = L.length := by omega
      rw [hir, List.take_length] at D
      clear hir hi hil hNr
      have hV2 := hV.below D.bel
      have c1r : wr.cell? ⟨p, 1, none⟩ = some (.map (some v)) := by rw [cell_same (D.bel.block _ lp)]; exact hbx.cell (i := 1) rfl
      have cK := keysV_any (some v) wr
      have cS := sortedV_any v n2 _ _ hV2 (by omega)
      have hk2 := belowNew wr (.cells #[.map (some v)] 51)
      obtain ⟨w2, hw2⟩ : ∃ q, wr.alloc (.cells #[.map (some v)] 51) = q := ⟨_, rfl⟩
      rw [hw2] at cK cS hk2
      have hl1 := flat_len (accT s.acc) 100 L (fun x hx => accT_len hok (hLs x hx))
      obtain ⟨l1, hl1'⟩ : ∃ q, Hid (L.flatMap (accT s.acc) = q) := ⟨_, rfl⟩
      rw [hl1'.out] at D hl1
      clear hV1 hLen
      go_wp2_with fail
      refine cK.mono ?_
      rintro e w3 ⟨rfl, rfl⟩
      clear cK
      go_wp2_with fail
      refine cS.mono ?_
      rintro e w4 ⟨M, bo, bcap, rfl, hNm, hMn, hMr, hMm, hb3⟩
      have D4 := (D.call hk2).call hb3
      clear cS hw2 hk2 hV2 D c1r hb3
      have hMs : ∀ x ∈ M, s.val x ≠ none := fun x hx => by
        have := (hMm x).1 hx
        rw [valM_is] at this
        intro e
        rw [e] at this
        cases this
      have hMen : Hid (∀ i, ((M.take i).flatMap (valT s.val)).length ≤ 20000000) := by
        intro i
        have h1 := flat_len (valT s.val) 200 (M.take i) (fun x hx => valT_len hok (hMs x (List.mem_of_mem_take hx)))
        have h2 : (M.take i).length ≤ M.length := by rw [List.length_take]; omega
        omega
      have lM : M.length ≤ 100000 := by omega
      have ll1 : Hid (l1.length ≤ 10000000) := by show l1.length ≤ _; omega
      have hdig : Hid (IsDig s (l1 ++ M.flatMap (valT s.val))) := by
        refine ⟨L, M, hLr, hMr, fun n => (hLm n).trans (accM_is _ _), fun n => (hMm n).trans ?_, by rw [hl1'.out]⟩
        rw [valM_is]
        cases s.val n <;> simp
      clear hl1 hLm hLr hMm hMr hLs hl1'
      replace hMn : Hid _ := hMn
      go_wp2_with fail
      go_loopw [48] (fun v48 wr => ∃ i : Nat, i ≤ M.length ∧ v48 = .int .i64 (i : Int) ∧ DgS w w.heap.size wr (l1 ++ (M.take i).flatMap (valT s.val)) ∧ NamesAt wr bo bcap M) (fun v _ => M.length - (intOf v).toNat)
      case atStart => exact ⟨0, Nat.zero_le _, rfl, by rw [List.take_zero, List.flatMap_nil, List.append_nil]; exact D4, hNm⟩
      case round =>
        obtain ⟨i, hi, rfl, D, hNr⟩ := hrel
        clear D4 hNm
        by_cases hil : i < M.length
        · have g2 : (i : Int) < (M.length : Int) := by omega
          obtain ⟨x, hx⟩ : ∃ q, M[i]? = some q := ⟨_, List.getElem?_eq_getElem hil⟩
          have hxm := List.mem_of_getElem? hx
          obtain ⟨b3, off3, hao, hbl, hcell⟩ := hNr.row.cell i x hx
          subst hao
          have hc2 := hcell 0 _ rfl
          have eo : off3 + i * strK.n + 0 = off3 + i := by show off3 + i * 1 + 0 = _; omega
          rw [eo] at hc2
          clear hcell eo
          obtain ⟨y, hy⟩ := Option.ne_none_iff_exists'.1 (hMs x hxm)
          obtain ⟨hxn, hys⟩ := hok.vnm x y hy
          have hxz := isNm_size hxn
          have hid : x.size ≤ maxLen := by unfold maxLen; omega
          have hVr := hV.below D.bel
          have hg := valM_get s.val x
          have hnx : Hid (l1 ++ (M.take i).flatMap (valT s.val) ++ txt (kP ++ x).data.toList ++ txt ((s.val x).getD ⟨#[]⟩).data.toList = l1 ++ (M.take (i + 1)).flatMap (valT s.val)) := by
            show _ = _
            rw [List.take_add_one, hx, List.flatMap_append]
            simp [valT]
          rw [hy] at hg hnx
          simp only [Option.getD_some] at hg hnx
          have hsz1 : (⟨#[107, 58]⟩ : ByteArray).size + x.size ≤ 9223372036854775807 := by
            have : (⟨#[107, 58]⟩ : ByteArray).size = 2 := rfl
            omega
          have cT := fun wx => text_any (⟨#[107, 58]⟩ ++ x) wx (by have := kpP_size x; unfold kP at this; omega)
          have cY := fun wx => text_any y wx (by omega)
          have e1 := txt_le (kP ++ x).data.toList
          have e2 := txt_le y.data.toList
          have e4 := dlen (kP ++ x)
          have e5 := kpP_size x
          have e6 := dlen y
          have n0' : txt (kP ++ x).data.toList ≠ [] := by
            unfold txt
            intro e
            exact goInt_ne _ (by omega) (List.append_eq_nil_iff.1 e).1
          have n1' : txt y.data.toList ≠ [] := by
            unfold txt
            intro e
            exact goInt_ne _ (by omega) (List.append_eq_nil_iff.1 e).1
          change ∀ wx, Calls _ _ _ _ (fun e w' => e = .returned (.string ⟨(txt (kP ++ x).data.toList).toArray⟩) ∧ _) at cT
          generalize txt (kP ++ x).data.toList = T0 at *
          generalize txt y.data.toList = T1 at *
          have hl0 := hMen.out i
          generalize (M.take i).flatMap (valT s.val) = l0 at *
          have hsz : Hid (l0.length ≤ 20000000 ∧ T0.length ≤ 100 ∧ T1.length ≤ 100) := ⟨hl0, by omega, by omega⟩
          have hlq : Hid ((l1 ++ l0).length = l1.length + l0.length) := List.length_append
          obtain ⟨l2, hl2⟩ : ∃ q, Hid (l1 ++ l0 = q) := ⟨_, rfl⟩
          rw [hl2.out] at D hnx hlq
          clear e1 e2 e4 e5 e6 hl0 hy
          go_wp2_with fail
          refine (cT _).mono ?_
          rintro e w5 ⟨rfl, hb5⟩
          have D5 := D.call hb5
          have hN5 := hNr.below hb5
          clear cT D hNr hb5 hVr hc2 hbl hsz1
          go_wp2_with fail
          refine (D5.write T0 (by have h1 := hsz.out; have h2 := hlq.out; have h3 := ll1.out; omega) n0').mono ?_
          rintro e w6 ⟨rfl, D6, hk6⟩
          have hN6 := hN5.kept hk6 (D5.other (by decide) (by decide))
          have hV6 := hV.below D6.bel
          have c16 : w6.cell? ⟨p, 1, none⟩ = some (.map (some v)) := by rw [cell_same (D6.bel.block _ lp)]; exact hbx.cell (i := 1) rfl
          clear D5 hN5 hk6
          go_wp2_with (at_lookup; refine smap_look (by rfl) _ _ 51 rfl 79 Tryd.underlying51 _ (zeroVal _) v _ _ rfl hV6 x hid rfl ?_; rw [hg])
          rename_i K hK
          refine hK _ _ ?_
          clear hK
          go_wp2_with fail
          refine (cY _).mono ?_
          rintro e w7 ⟨rfl, hb7⟩
          have D7 := D6.call hb7
          have hN7 := hN6.below hb7
          clear cY D6 hN6 hb7 hV6 c16
          go_wp2_with fail
          refine (D7.write T1 (by have h1 := hsz.out; have h2 := hlq.out; have h3 := ll1.out; rw [List.length_append]; omega) n1').mono ?_
          rintro e w8 ⟨rfl, D8, hk8⟩
          have hN8 := hN7.kept hk8 (D7.other (by decide) (by decide))
          rw [hnx.out] at D8
          clear D7 hN7 hk8 hnx hsz hlq hl2
          go_wp2
          go_roundw
          case rel => exact ⟨i + 1, by omega, by go_num, D8, hN8⟩
          case measure => simp [intOf]; omega
        · have g2 : ¬ (i : Int) < (M.length : Int) := by omega
          have hir : i = M.length := by omega
          have hm2 := hMen.out M.length
          rw [List.take_length] at hm2
          rw [hir, List.take_length] at D
          clear hir hi hil hNr hMen hMs
          obtain ⟨t, ht⟩ : ∃ q, Hid (l1 ++ M.flatMap (valT s.val) = q) := ⟨_, rfl⟩
          have hts : Hid (t.length ≤ 30000000) := by
            show t.length ≤ _
            rw [← ht.out, List.length_append]
            have := ll1.out
            omega
          rw [ht.out] at D hdig
          clear ht hm2 ll1
          go_wp2_with fail
          refine D.read.mono ?_
          rintro e w5 ⟨rfl, hb5⟩
          have cM := Mx.sum_any ⟨t.toArray⟩ w5 (by rw [size_mk]; have := hts.out; omega) (hG.below hb5)
          go_wp2_with fail
          refine cM.mono ?_
          rintro e w6 ⟨rfl, hb6⟩
          have hfin : GG (.returned (.string (Mx.bytes (Mx.sumL t)))) w6 := by
            rw [← hGG]
            exact ⟨t, hdig.out, rfl, hb5.trans (hb6.mono hb5.size)⟩
          clear cM D hdig hGG
          go_wp2
          exact hfin
end Go.Proofs.YtcjmeaikdfgapaaDoor

/- What the reference's Digest does. -/
namespace Go.Proofs.YtcjmeaikdfgapaaDoor
open Go Go.RowKit Go.Sort
set_option linter.unusedVariables false

/-- What is written of accounts that stand in a row. -/
def digA (f : ByteArray → Nat × Nat) (l : List (ByteArray × (Nat × Nat))) : List UInt8 := l.flatMap (fun z => if z.2 = (0, 0) then [] else accT f z.1)

def digV (g : ByteArray → Option ByteArray) (l : List (ByteArray × ByteArray)) : List UInt8 := l.flatMap (fun z => valT g z.1)

theorem digA_eq (f : ByteArray → Nat × Nat) : ∀ l : List (ByteArray × (Nat × Nat)), digA f l = ((l.filter (fun z => decide (z.2 ≠ (0, 0)))).map (·.1)).flatMap (accT f)
  | [] => rfl
  | z :: r => by
    have ih := digA_eq f r
    unfold digA at ih ⊢
    rw [List.flatMap_cons, ih]
    by_cases h : z.2 = (0, 0)
    · rw [if_pos h, List.filter_cons_of_neg (by simp [h])]
      rfl
    · rw [if_neg h, List.filter_cons_of_pos (by simp [h]), List.map_cons, List.flatMap_cons]

theorem digV_eq (g : ByteArray → Option ByteArray) (l : List (ByteArray × ByteArray)) : digV g l = (l.map (·.1)).flatMap (valT g) := by
  unfold digV
  rw [List.flatMap_map]

theorem digA_next {f : ByteArray → Nat × Nat} {l : List (ByteArray × (Nat × Nat))} {i : Nat} {x : ByteArray × (Nat × Nat)} (hx : l[i]? = some x) : digA f (l.take (i + 1)) = digA f (l.take i) ++ if x.2 = (0, 0) then [] else accT f x.1 := by
  unfold digA
  rw [List.take_add_one, hx, List.flatMap_append]
  simp

theorem digV_next {g : ByteArray → Option ByteArray} {l : List (ByteArray × ByteArray)} {i : Nat} {x : ByteArray × ByteArray} (hx : l[i]? = some x) : digV g (l.take (i + 1)) = digV g (l.take i) ++ valT g x.1 := by
  unfold digV
  rw [List.take_add_one, hx, List.flatMap_append]
  simp

section
variable {A : List (ByteArray × (Nat × Nat))} {V : List (ByteArray × ByteArray)} {s : StF} {N : Nat}

theorem RM.at (h : RM A V s N) {z : ByteArray × (Nat × Nat)} (hz : z ∈ A) : s.acc z.1 = z.2 := by
  have := (kGet_iff h.ra (m := z.1) (x := z.2)).2 hz
  rw [← h.acc z.1, this]
  rfl

theorem RM.atV (h : RM A V s N) {z : ByteArray × ByteArray} (hz : z ∈ V) : s.val z.1 = some z.2 := by
  rw [← h.val z.1]
  exact (kGet_iff h.rv (m := z.1) (x := z.2)).2 hz

theorem RM.isDig (h : RM A V s N) : IsDig s (digA s.acc A ++ digV s.val V) := by
  refine ⟨(A.filter (fun z => decide (z.2 ≠ (0, 0)))).map (·.1), V.map (·.1), ?_, ?_, fun n => ?_, fun n => ?_, by rw [digA_eq, digV_eq]⟩
  · have := h.ra.sublist (List.filter_sublist (p := fun z => decide (z.2 ≠ (0, 0))))
    exact List.pairwise_map.2 this
  · exact List.pairwise_map.2 h.rv
  · rw [List.mem_map]
    constructor
    · rintro ⟨z, hz, rfl⟩
      obtain ⟨h1, h2⟩ := List.mem_filter.1 hz
      rw [h.at h1]
      exact of_decide_eq_true h2
    · intro hn
      cases hg : kGet A n with
      | none =>
        have := h.acc n
        rw [hg] at this
        exact absurd this.symm hn
      | some v =>
        have hv := h.acc n
        rw [hg] at hv
        have hv' : v = s.acc n := hv
        refine ⟨(n, v), List.mem_filter.2 ⟨kGet_some hg, ?_⟩, rfl⟩
        rw [hv']
        exact decide_eq_true hn
  · rw [List.mem_map]
    constructor
    · rintro ⟨z, hz, rfl⟩
      rw [h.atV hz]
      simp
    · intro hn
      obtain ⟨v, hv⟩ := Option.ne_none_iff_exists'.1 hn
      rw [← h.val n] at hv
      exact ⟨(n, v), kGet_some hv, rfl⟩

theorem RM.lenA (h : RM A V s N) (i : Nat) : (digA s.acc (A.take i)).length ≤ N * 100 := by
  have h1 : (digA s.acc (A.take i)).length ≤ (A.take i).length * 100 := flat_len _ 100 _ (fun z hz => by
    split
    · exact Nat.zero_le _
    · rename_i hne
      refine accT_len h.ok ?_
      rw [h.at (List.mem_of_mem_take hz)]
      exact hne)
  have h2 : (A.take i).length ≤ N := by rw [List.length_take]; have := h.la; omega
  omega

theorem RM.lenV (h : RM A V s N) (i : Nat) : (digV s.val (V.take i)).length ≤ N * 200 := by
  have h1 : (digV s.val (V.take i)).length ≤ (V.take i).length * 200 := flat_len _ 200 _ (fun z hz => valT_len h.ok (by rw [h.atV (List.mem_of_mem_take hz)]; simp))
  have h2 : (V.take i).length ≤ N := by rw [List.length_take]; have := h.lv; omega
  omega
end

theorem joinsR (l m : List UInt8) : (⟨l.toArray⟩ ++ ⟨m.toArray⟩ : ByteArray) = ⟨(l ++ m).toArray⟩ := ByteArray.mk_append_mk l m

section
variable {w : World} {rb : Nat} {S : Nat → Prop} {s : StF} {N : Nat}

set_option maxRecDepth 100000 in
set_option maxHeartbeats 8000000 in
theorem rsDigest_any (h : RS w rb S s N) (hN : N ≤ 100000) :
    Calls Tryd.prog 12 #[.pointer (some ⟨rb, 0, none⟩)] w fun e w' => GotDig w s e w' := by
  obtain ⟨qa, qv, A, V, h1, hM, -⟩ := h.ex
  have hlA := hM.la
  have hlV := hM.lv
  obtain ⟨ao, cap, rfl, -, hRow0⟩ := h1.ra.form
  obtain ⟨vo, vcap, rfl, -, hRowV0⟩ := h1.rv.form
  have hbx0 := h1.box
  have hdig := hM.isDig
  have hsA : Hid (∀ i, (digA s.acc (A.take i)).length ≤ 10000000) := fun i => by have := hM.lenA i; omega
  have hsV : Hid (∀ i, (digV s.val (V.take i)).length ≤ 20000000) := fun i => by have := hM.lenV i; omega
  have hendA : Hid (digA s.acc (A.take A.length) = digA s.acc A) := by show _ = _; rw [List.take_length]
  have hendV : Hid (digV s.val (V.take V.length) = digV s.val V) := by show _ = _; rw [List.take_length]
  replace hdig : Hid _ := hdig
  clear h h1
  generalize hGG : GotDig w s = GG
  replace hGG : Hid _ := hGG
  go_enter Tryd.func12, Tryd.ntmps12
  go_wp2_with fail
  go_loopw [3, 4, 5] (fun v3 v4 _ wr => ∃ i : Nat, i ≤ A.length ∧ v4 = .int .i64 (i : Int) ∧ v3 = .string ⟨(digA s.acc (A.take i)).toArray⟩ ∧ Below w.heap.size w wr) (fun _ v _ _ => A.length - (intOf v).toNat)
  case atStart => exact ⟨0, Nat.zero_le _, rfl, rfl, Below.refl _ _⟩
  case round =>
    obtain ⟨i, hi, rfl, rfl, hb⟩ := hrel
    have c0 := (hbx0.below hb hbx0.lt).cell (i := 0) rfl
    by_cases hil : i < A.length
    · have g1 : (i : Int) < (A.length : Int) := by omega
      obtain ⟨x, hx⟩ : ∃ x, A[i]? = some x := ⟨_, List.getElem?_eq_getElem hil⟩
      obtain ⟨b, off, hao, hbl, y0, y1, y2⟩ := (hRow0.below hb).acc hx
      subst hao
      have hat := hM.at (List.mem_of_getElem? hx)
      have hst := digA_next (f := s.acc) hx
      have hs1 := hsA.out i
      have hnm := hM.ok.nm x.1
      have hX := Arr.new wr 62 [.string x.1, .int .u64 (x.2.1 : Int), .int .u64 (x.2.2 : Int)]
      have hnb := belowNew wr (.cells #[.string x.1, .int .u64 (x.2.1 : Int), .int .u64 (x.2.2 : Int)] 62)
      have hb2 := hb.trans (hnb.mono hb.size)
      have ho1 := hM.ok.amt x.1
      have ho2 := hM.ok.num x.1
      rw [hat] at ho1 ho2 hnm
      obtain ⟨n, u1, u2⟩ := x
      replace ho1 : u1 ≤ 4611686018427387903 := ho1
      replace ho2 : u2 ≤ N := ho2
      replace hX : Arr (wr.alloc (.cells #[.string n, .int .u64 (u1 : Int), .int .u64 (u2 : Int)] 62)) wr.heap.size 62 [.string n, .int .u64 (u1 : Int), .int .u64 (u2 : Int)] := hX
      replace y0 : wr.cell? ⟨b, off + i * 3, none⟩ = some (.string n) := y0
      replace y1 : wr.cell? ⟨b, off + i * 3 + 1, none⟩ = some (.int .u64 (u1 : Int)) := y1
      replace y2 : wr.cell? ⟨b, off + i * 3 + 2, none⟩ = some (.int .u64 (u2 : Int)) := y2
      have hat' : Hid (s.acc n = (u1, u2)) := hat
      have hst' : Hid (digA s.acc (A.take (i + 1)) = digA s.acc (A.take i) ++ if ((u1, u2) : Nat × Nat) = (0, 0) then [] else accT s.acc n) := hst
      have hnm' : Hid ((u1, u2) ≠ ((0, 0) : Nat × Nat) → isNm n = true) := hnm
      obtain ⟨l0, hl0⟩ : ∃ q, Hid (digA s.acc (A.take i) = q) := ⟨_, rfl⟩
      obtain ⟨l9, hl9⟩ : ∃ q, Hid (digA s.acc (A.take (i + 1)) = q) := ⟨_, rfl⟩
      rw [hl0.out] at hst' hs1 ⊢
      rw [hl9.out] at hst'
      clear hat hst hnm hx hnb
      go_upto_region 6 with fail
      clear y0 y1 y2 c0 hbl hb
      generalize wr.alloc (.cells #[.string n, .int .u64 (u1 : Int), .int .u64 (u2 : Int)] 62) = w4 at *
      generalize wr.heap.size = xb at *
      have z0 := hX.cell (i := 0) rfl
      have z1 := hX.cell (i := 1) rfl
      have z2 := hX.cell (i := 2) rfl
      by_cases hzz : u1 = 0 ∧ u2 = 0
      · obtain ⟨rfl, rfl⟩ := hzz
        have he : Hid (l9 = l0) := by show _ = _; rw [hst'.out, if_pos rfl, List.append_nil]
        clear hst' hnm'
        go_wp2
        go_roundw
        case rel => exact ⟨i + 1, by omega, by go_num, by rw [hl9.out, he.out], hb2⟩
        case measure => simp [intOf]; omega
      · have hne : ((u1, u2) : Nat × Nat) ≠ (0, 0) := fun e => hzz ⟨congrArg Prod.fst e, congrArg Prod.snd e⟩
        have hnn := hnm'.out hne
        have hn32 := isNm_size hnn
        have he : Hid (l9 = l0 ++ txt (aP ++ n).data.toList ++ goInt (u1 : Nat) ++ goInt (u2 : Nat)) := by
          show _ = _
          rw [hst'.out, if_neg hne]
          unfold accT
          rw [hat'.out, List.append_assoc, List.append_assoc, List.append_assoc]
        have hsz1 : (⟨#[97, 58]⟩ : ByteArray).size + n.size ≤ 9223372036854775807 := by
          have : (⟨#[97, 58]⟩ : ByteArray).size = 2 := rfl
          omega
        have e1 := txt_le (aP ++ n).data.toList
        have e2 := goInt_length (u1 : Int)
        have e3 := goInt_length (u2 : Int)
        have e4 := dlen (aP ++ n)
        have e5 := apP_size n
        have kT : ∀ d os, Calls Tryd.prog 36 #[.string (⟨#[97, 58]⟩ ++ n)] (grow (redrawn w4 d) os) fun e w'' => e = .returned (.string ⟨(txt (aP ++ n).data.toList).toArray⟩) ∧ ∃ p : Regrown, w'' = grow (redrawn w4 p.d) p.os := fun d os => Calls.regrown_of (refText_any (aP ++ n) _ (by omega))
        have kI1 : ∀ d os, Calls Tryd.prog 37 #[.int .i64 (u1 : Int)] (grow (redrawn w4 d) os) fun e w'' => e = .returned (.string ⟨(goInt (u1 : Int)).toArray⟩) ∧ ∃ p : Regrown, w'' = grow (redrawn w4 p.d) p.os := fun d os => Calls.regrown_of (refInt_any (u1 : Int) _)
        have kI2 : ∀ d os, Calls Tryd.prog 37 #[.int .i64 (u2 : Int)] (grow (redrawn w4 d) os) fun e w'' => e = .returned (.string ⟨(goInt (u2 : Int)).toArray⟩) ∧ ∃ p : Regrown, w'' = grow (redrawn w4 p.d) p.os := fun d os => Calls.regrown_of (refInt_any (u2 : Int) _)
        have hw1 := wrap64i u1 ho1
        have hw2 := wrap64i u2 (by omega)
        generalize txt (aP ++ n).data.toList = T0 at *
        generalize goInt (u1 : Int) = T1 at *
        generalize goInt (u2 : Int) = T2 at *
        have j0 := joinsR l0 T0
        have j1 := joinsR (l0 ++ T0) T1
        have j2 := joinsR (l0 ++ T0 ++ T1) T2
        have m1 : (l0 ++ T0).length ≤ 20000000 := by rw [List.length_append]; omega
        have m2 : (l0 ++ T0 ++ T1).length ≤ 30000000 := by rw [List.length_append, List.length_append]; omega
        obtain ⟨l3, hl3⟩ : ∃ q, Hid (l0 ++ T0 ++ T1 ++ T2 = q) := ⟨_, rfl⟩
        rw [hl3.out] at j2 he
        obtain ⟨l2, hl2⟩ : ∃ q, Hid (l0 ++ T0 ++ T1 = q) := ⟨_, rfl⟩
        rw [hl2.out] at j1 j2 m2
        obtain ⟨l1, hl1⟩ : ∃ q, Hid (l0 ++ T0 = q) := ⟨_, rfl⟩
        rw [hl1.out] at j0 j1 m1
        clear hl1 hl2 hl3
        have hq0 : (⟨l0.toArray⟩ : ByteArray).size + (⟨T0.toArray⟩ : ByteArray).size ≤ 9223372036854775807 := by rw [size_mk, size_mk]; omega
        have hq1 : (⟨l1.toArray⟩ : ByteArray).size + (⟨T1.toArray⟩ : ByteArray).size ≤ 9223372036854775807 := by rw [size_mk, size_mk]; omega
        have hq2 : (⟨l2.toArray⟩ : ByteArray).size + (⟨T2.toArray⟩ : ByteArray).size ≤ 9223372036854775807 := by rw [size_mk, size_mk]; omega
        have Z0 := cell_regrown z0
        have Z1 := cell_regrown z1
        have Z2 := cell_regrown z2
        have HBF : Hid (∀ d os, Below w.heap.size w (grow (redrawn w4 d) os)) := fun d os => hb2.trans ((below_regrown w4 d os).mono hb2.size)
        have g6 : ((u1 : Int) != 0) = true ∨ (((u1 : Int) != 0) = false ∧ ((u2 : Int) != 0) = true) := by
          by_cases hu : u1 = 0
          · right
            have : u2 ≠ 0 := fun e => hzz ⟨hu, e⟩
            exact ⟨by rw [hu]; rfl, by rw [bne_iff_ne]; omega⟩
          · left
            rw [bne_iff_ne]; omega
        clear hnn hn32 hnm' hst' e1 e2 e3 e4 e5 hne hat' hzz
        rcases g6 with g6 | ⟨g6, g7⟩
        all_goals
          go_wp2_with fail
          clear z0 z1 z2
          refine wp_region_quiet_below (by kernel_rfl) (by kernel_rfl) ?_
          iterate 4 (go_big_quiet_step (fail))
          go_big_quiet_step (exact kT _ _)
          iterate 4 (go_big_quiet_step (fail))
          go_big_quiet_step (exact kI1 _ _)
          iterate 4 (go_big_quiet_step (fail))
          go_big_quiet_step (exact kI2 _ _)
          iterate 2 (go_big_quiet_step (fail))
          refine wpQuiet_nil ?_
          rintro w' ⟨pp, rfl⟩
          have hBF := HBF.out pp.d pp.os
          generalize grow (redrawn w4 pp.d) pp.os = w6 at hBF ⊢
          clear kT kI1 kI2 HBF Z0 Z1 Z2 hb2 hX
          go_wp2
          go_roundw
          case rel => exact ⟨i + 1, by omega, by go_num, by rw [hl9.out, he.out], hBF⟩
          case measure => simp [intOf]; omega
    · have g1 : ¬ (i : Int) < (A.length : Int) := by omega
      have hir : i = A.length := by omega
      subst hir
      have hsA2 := hsA.out A.length
      rw [hendA.out] at hsA2 ⊢
      obtain ⟨la, hla⟩ : ∃ q, Hid (digA s.acc A = q) := ⟨_, rfl⟩
      rw [hla.out] at hsA2 hdig ⊢
      clear hsA hendA hi hil hla
      go_wp2_with fail
      clear c0
      go_loopw [3, 6] (fun v3 v6 wr => ∃ i : Nat, i ≤ V.length ∧ v6 = .int .i64 (i : Int) ∧ v3 = .string ⟨(la ++ digV s.val (V.take i)).toArray⟩ ∧ Below w.heap.size w wr) (fun _ v _ => V.length - (intOf v).toNat)
      case atStart => exact ⟨0, Nat.zero_le _, rfl, by rw [List.take_zero]; unfold digV; rw [List.flatMap_nil, List.append_nil], hb⟩
      case round =>
        clear hb
        obtain ⟨i, hi, rfl, rfl, hb⟩ := hrel
        have c1 := (hbx0.below hb hbx0.lt).cell (i := 1) rfl
        by_cases hil : i < V.length
        · have g1 : (i : Int) < (V.length : Int) := by omega
          have g0 : (0 : Int) ≤ (i : Int) := by omega
          obtain ⟨x, hx⟩ : ∃ x, V[i]? = some x := ⟨_, List.getElem?_eq_getElem hil⟩
          obtain ⟨b, off, hao, hbl, y0, y1⟩ := (hRowV0.below hb).val hx
          subst hao
          have hat := hM.atV (List.mem_of_getElem? hx)
          have hst := digV_next (g := s.val) hx
          have hs1 := hsV.out i
          obtain ⟨hnm, hvz⟩ := hM.ok.vnm x.1 x.2 hat
          have hn32 := isNm_size hnm
          obtain ⟨n, t⟩ := x
          replace hn32 : n.size ≤ 32 := hn32
          replace hvz : t.size ≤ 64 := hvz
          replace y0 : wr.cell? ⟨b, off + i * 2, none⟩ = some (.string n) := y0
          replace y1 : wr.cell? ⟨b, off + i * 2 + 1, none⟩ = some (.string t) := y1
          have he : Hid (la ++ digV s.val (V.take (i + 1)) = la ++ digV s.val (V.take i) ++ txt (kP ++ n).data.toList ++ txt t.data.toList) := by
            show _ = _
            have hat' : s.val n = some t := hat
            rw [hst]
            unfold valT
            rw [hat', List.append_assoc, List.append_assoc]
            rfl
          have hll : (la ++ digV s.val (V.take i)).length ≤ 30000000 := by rw [List.length_append]; omega
          obtain ⟨l0, hl0⟩ : ∃ q, Hid (la ++ digV s.val (V.take i) = q) := ⟨_, rfl⟩
          obtain ⟨l9, hl9⟩ : ∃ q, Hid (la ++ digV s.val (V.take (i + 1)) = q) := ⟨_, rfl⟩
          rw [hl0.out] at he hll ⊢
          rw [hl9.out] at he
          have hsz1 : (⟨#[107, 58]⟩ : ByteArray).size + n.size ≤ 9223372036854775807 := by
            have : (⟨#[107, 58]⟩ : ByteArray).size = 2 := rfl
            omega
          have e1 := txt_le (kP ++ n).data.toList
          have e2 := txt_le t.data.toList
          have e4 := dlen (kP ++ n)
          have e5 := kpP_size n
          have e6 := dlen t
          have kT : ∀ d os, Calls Tryd.prog 36 #[.string (⟨#[107, 58]⟩ ++ n)] (grow (redrawn wr d) os) fun e w'' => e = .returned (.string ⟨(txt (kP ++ n).data.toList).toArray⟩) ∧ ∃ p : Regrown, w'' = grow (redrawn wr p.d) p.os := fun d os => Calls.regrown_of (refText_any (kP ++ n) _ (by omega))
          have kY : ∀ d os, Calls Tryd.prog 36 #[.string t] (grow (redrawn wr d) os) fun e w'' => e = .returned (.string ⟨(txt t.data.toList).toArray⟩) ∧ ∃ p : Regrown, w'' = grow (redrawn wr p.d) p.os := fun d os => Calls.regrown_of (refText_any t _ (by omega))
          generalize txt (kP ++ n).data.toList = T0 at *
          generalize txt t.data.toList = T1 at *
          have j0 := joinsR l0 T0
          have j1 := joinsR (l0 ++ T0) T1
          have m1 : (l0 ++ T0).length ≤ 40000000 := by rw [List.length_append]; omega
          obtain ⟨l2, hl2⟩ : ∃ q, Hid (l0 ++ T0 ++ T1 = q) := ⟨_, rfl⟩
          rw [hl2.out] at j1 he
          obtain ⟨l1, hl1⟩ : ∃ q, Hid (l0 ++ T0 = q) := ⟨_, rfl⟩
          rw [hl1.out] at j0 j1 m1
          clear hl1 hl2
          have hq0 : (⟨l0.toArray⟩ : ByteArray).size + (⟨T0.toArray⟩ : ByteArray).size ≤ 9223372036854775807 := by rw [size_mk, size_mk]; omega
          have hq1 : (⟨l1.toArray⟩ : ByteArray).size + (⟨T1.toArray⟩ : ByteArray).size ≤ 9223372036854775807 := by rw [size_mk, size_mk]; omega
          have Z0 := cell_regrown y0
          have Z1 := cell_regrown y1
          have ZC := cell_regrown c1
          have HBF : Hid (∀ d os, Below w.heap.size w (grow (redrawn wr d) os)) := fun d os => hb.trans ((below_regrown wr d os).mono hb.size)
          clear hat hst hs1 hnm hvz hn32 hx e1 e2 e4 e5 e6 hl0
          go_wp2_with fail
          clear y0 y1 c1
          refine wp_region_quiet_below (by kernel_rfl) (by kernel_rfl) ?_
          iterate 10 (go_big_quiet_step (fail))
          go_big_quiet_step (exact kT _ _)
          iterate 9 (go_big_quiet_step (fail))
          go_big_quiet_step (exact kY _ _)
          iterate 2 (go_big_quiet_step (fail))
          refine wpQuiet_nil ?_
          rintro w' ⟨pp, rfl⟩
          have hBF := HBF.out pp.d pp.os
          generalize grow (redrawn wr pp.d) pp.os = w6 at hBF ⊢
          clear kT kY HBF Z0 Z1 ZC hb
          go_wp2
          go_roundw
          case rel => exact ⟨i + 1, by omega, by go_num, by rw [hl9.out, he.out], hBF⟩
          case measure => simp [intOf]; omega
        · have g1 : ¬ (i : Int) < (V.length : Int) := by omega
          have hir : i = V.length := by omega
          subst hir
          have hsV2 := hsV.out V.length
          rw [hendV.out] at hsV2 ⊢
          have hll : (la ++ digV s.val V).length ≤ 30000000 := by rw [List.length_append]; omega
          obtain ⟨t, ht⟩ : ∃ q, Hid (la ++ digV s.val V = q) := ⟨_, rfl⟩
          rw [ht.out] at hll hdig ⊢
          have cM := Mx.refSum_any ⟨t.toArray⟩ wr (by rw [size_mk]; omega)
          clear hsV hendV hi hil hsV2 ht
          go_wp2_with fail
          refine cM.mono ?_
          rintro e w6 ⟨rfl, hb6⟩
          have hfin : GG (.returned (.string (Mx.bytes (Mx.sumL t)))) w6 := by
            rw [← hGG.out]
            exact ⟨t, hdig.out, rfl, hb.trans (hb6.mono hb.size)⟩
          clear cM hdig hGG
          go_wp2
          exact hfin
end
end Go.Proofs.YtcjmeaikdfgapaaDoor
