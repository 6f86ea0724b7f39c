/- Texts as one: StaLay, StaKeys, StaCopy, ExeProg. -/
import Derived.Test.YtajpfkenhchafaaGreatDoorRows
import Derived.Shelf.SlIter.Nil
import Derived.Shelf.SortM.Plain
import Derived.Shelf.SortM.SortNone
import Derived.Shelf.SlMaps.Clone
import Derived.Ground.GgzProg
import Derived.Ground.SlgmProg
import Derived.Ground.SlmcProg
import Derived.Test.YtajpfkenhchafaaGreatDoorEz08
import Derived.Test.YtajpfkenhchafaaGreatDoorEz05
/- The library's contracts on maps.Keys, slices.Sorted, slices.Sort and maps.Clone, laid over this program in plain words. -/
namespace Go.Proofs.YtajpfkenhchafaaGreatDoor
open Go Go.Shelf
set_option linter.unusedVariables false

def keysA_ren : Go.Shelf.Ren := ⟨fun | 7 => 33 | 10 => 60 | n => n, fun | 23 => 72 | 26 => 9 | 3 => 74 | 28 => 70 | 0 => 0 | 27 => 69 | 33 => 99 | 4 => 4 | n => n, fun | n => n⟩

theorem keysA : Go.Proofs.SlLaysZ.n7 Tryz.prog keysA_ren := {
  mixed := by kernel_rfl
  f7 := ⟨Tryz.f33.name, by decide, Tryz.func33.trans (congrArg some (by kernel_rfl))⟩
  f10 := ⟨Tryz.f60.name, by decide, Tryz.func60.trans (congrArg some (by kernel_rfl))⟩
  t0 := Tryz.underlying0
  a0 := Tryz.isAgg0
  z0 := Tryz.sizeOf0
  v0 := Tryz.zeroValue0
  t4 := Tryz.underlying4
  a4 := Tryz.isAgg4
  z4 := Tryz.sizeOf4
  v4 := Tryz.zeroValue4
  t23 := Tryz.underlying72
  a23 := Tryz.isAgg72
  z23 := Tryz.sizeOf72
  v23 := Tryz.zeroValue72
  t26 := Tryz.underlying9
  a26 := Tryz.isAgg9
  z26 := Tryz.sizeOf9
  v26 := Tryz.zeroValue9
  t27 := Tryz.underlying69
  a27 := Tryz.isAgg69
  z27 := Tryz.sizeOf69
  v27 := Tryz.zeroValue69
  t28 := Tryz.underlying70
  a28 := Tryz.isAgg70
  z28 := Tryz.sizeOf70
  v28 := Tryz.zeroValue70
  t33 := Tryz.underlying99
  a33 := Tryz.isAgg99
  z33 := Tryz.sizeOf99
  v33 := Tryz.zeroValue99 }

def keysV_ren : Go.Shelf.Ren := ⟨fun | 7 => 37 | 10 => 62 | n => n, fun | 23 => 75 | 26 => 9 | 3 => 86 | 28 => 70 | 0 => 0 | 27 => 69 | 33 => 99 | 4 => 4 | n => n, fun | n => n⟩

theorem keysV : Go.Proofs.SlLaysZ.n7 Tryz.prog keysV_ren := {
  mixed := by kernel_rfl
  f7 := ⟨Tryz.f37.name, by decide, Tryz.func37.trans (congrArg some (by kernel_rfl))⟩
  f10 := ⟨Tryz.f62.name, by decide, Tryz.func62.trans (congrArg some (by kernel_rfl))⟩
  t0 := Tryz.underlying0
  a0 := Tryz.isAgg0
  z0 := Tryz.sizeOf0
  v0 := Tryz.zeroValue0
  t4 := Tryz.underlying4
  a4 := Tryz.isAgg4
  z4 := Tryz.sizeOf4
  v4 := Tryz.zeroValue4
  t23 := Tryz.underlying75
  a23 := Tryz.isAgg75
  z23 := Tryz.sizeOf75
  v23 := Tryz.zeroValue75
  t26 := Tryz.underlying9
  a26 := Tryz.isAgg9
  z26 := Tryz.sizeOf9
  v26 := Tryz.zeroValue9
  t27 := Tryz.underlying69
  a27 := Tryz.isAgg69
  z27 := Tryz.sizeOf69
  v27 := Tryz.zeroValue69
  t28 := Tryz.underlying70
  a28 := Tryz.isAgg70
  z28 := Tryz.sizeOf70
  v28 := Tryz.zeroValue70
  t33 := Tryz.underlying99
  a33 := Tryz.isAgg99
  z33 := Tryz.sizeOf99
  v33 := Tryz.zeroValue99 }

def sortedS_ren : Go.Shelf.Ren := ⟨fun | 6 => 32 | 8 => 58 | 9 => 59 | 11 => 77 | 13 => 79 | 12 => 78 | 23 => 102 | 24 => 103 | 14 => 93 | 15 => 94 | 16 => 95 | 17 => 96 | 18 => 97 | 19 => 98 | 20 => 99 | 21 => 100 | 22 => 101 | 25 => 112 | 26 => 113 | 27 => 114 | 28 => 115 | 29 => 116 | 30 => 117 | 31 => 123 | n => n, fun | 26 => 9 | 28 => 70 | 24 => 22 | 0 => 0 | 3 => 3 | 37 => 108 | 48 => 132 | 50 => 23 | 4 => 4 | 40 => 150 | 39 => 149 | 45 => 155 | 5 => 5 | 9 => 9 | 51 => 166 | 55 => 170 | 57 => 176 | 58 => 177 | 33 => 99 | n => n, fun | n => n⟩

theorem sortedS : Go.Proofs.SlLaysZ.n6 Tryz.prog sortedS_ren := {
  mixed := by kernel_rfl
  f6 := ⟨Tryz.f32.name, by decide, Tryz.func32.trans (congrArg some (by kernel_rfl))⟩
  f8 := ⟨Tryz.f58.name, by decide, Tryz.func58.trans (congrArg some (by kernel_rfl))⟩
  f11 := ⟨Tryz.f77.name, by decide, Tryz.func77.trans (congrArg some (by kernel_rfl))⟩
  t0 := Tryz.underlying0
  a0 := Tryz.isAgg0
  z0 := Tryz.sizeOf0
  v0 := Tryz.zeroValue0
  t24 := Tryz.underlying22
  a24 := Tryz.isAgg22
  z24 := Tryz.sizeOf22
  v24 := Tryz.zeroValue22
  t26 := Tryz.underlying9
  a26 := Tryz.isAgg9
  z26 := Tryz.sizeOf9
  v26 := Tryz.zeroValue9
  t28 := Tryz.underlying70
  a28 := Tryz.isAgg70
  z28 := Tryz.sizeOf70
  v28 := Tryz.zeroValue70
  i26 := by kernel_rfl }

def sortS_ren : Go.Shelf.Ren := ⟨fun | 6 => 59 | 8 => 79 | 9 => 78 | 19 => 102 | 20 => 103 | 21 => 93 | 22 => 94 | 23 => 95 | 24 => 96 | 25 => 97 | 26 => 98 | 27 => 99 | 28 => 100 | 29 => 101 | 36 => 112 | 31 => 113 | 32 => 114 | 37 => 115 | 38 => 116 | 39 => 117 | 41 => 123 | n => n, fun | 27 => 22 | 29 => 9 | 3 => 3 | 32 => 108 | 26 => 22 | 0 => 0 | 44 => 132 | 46 => 23 | 4 => 4 | 36 => 150 | 35 => 149 | 41 => 155 | 5 => 5 | 9 => 9 | 53 => 166 | 57 => 170 | 63 => 176 | 64 => 177 | n => n, fun | n => n⟩

theorem sortS : Go.Proofs.SlLaysM.n6 Tryz.prog sortS_ren := {
  mixed := by kernel_rfl
  f6 := ⟨Tryz.f59.name, by decide, Tryz.func59.trans (congrArg some (by kernel_rfl))⟩
  f8 := Tryz.func79.trans (congrArg some (by kernel_rfl))
  f9 := ⟨Tryz.f78.name, by decide, Tryz.func78.trans (congrArg some (by kernel_rfl))⟩
  f19 := Tryz.func102.trans (congrArg some (by kernel_rfl))
  f20 := Tryz.func103.trans (congrArg some (by kernel_rfl))
  f21 := ⟨Tryz.f93.name, by decide, Tryz.func93.trans (congrArg some (by kernel_rfl))⟩
  f22 := ⟨Tryz.f94.name, by decide, Tryz.func94.trans (congrArg some (by kernel_rfl))⟩
  f23 := ⟨Tryz.f95.name, by decide, Tryz.func95.trans (congrArg some (by kernel_rfl))⟩
  f24 := ⟨Tryz.f96.name, by decide, Tryz.func96.trans (congrArg some (by kernel_rfl))⟩
  f25 := ⟨Tryz.f97.name, by decide, Tryz.func97.trans (congrArg some (by kernel_rfl))⟩
  f26 := ⟨Tryz.f98.name, by decide, Tryz.func98.trans (congrArg some (by kernel_rfl))⟩
  f27 := ⟨Tryz.f99.name, by decide, Tryz.func99.trans (congrArg some (by kernel_rfl))⟩
  f28 := ⟨Tryz.f100.name, by decide, Tryz.func100.trans (congrArg some (by kernel_rfl))⟩
  f29 := ⟨Tryz.f101.name, by decide, Tryz.func101.trans (congrArg some (by kernel_rfl))⟩
  f31 := Tryz.func113.trans (congrArg some (by kernel_rfl))
  f32 := Tryz.func114.trans (congrArg some (by kernel_rfl))
  f36 := ⟨Tryz.f112.name, by decide, Tryz.func112.trans (congrArg some (by kernel_rfl))⟩
  f37 := ⟨Tryz.f115.name, by decide, Tryz.func115.trans (congrArg some (by kernel_rfl))⟩
  f38 := ⟨Tryz.f116.name, by decide, Tryz.func116.trans (congrArg some (by kernel_rfl))⟩
  f39 := ⟨Tryz.f117.name, by decide, Tryz.func117.trans (congrArg some (by kernel_rfl))⟩
  f41 := ⟨Tryz.f123.name, by decide, Tryz.func123.trans (congrArg some (by kernel_rfl))⟩
  t0 := Tryz.underlying0
  a0 := Tryz.isAgg0
  z0 := Tryz.sizeOf0
  v0 := Tryz.zeroValue0
  t3 := Tryz.underlying3
  a3 := Tryz.isAgg3
  z3 := Tryz.sizeOf3
  v3 := Tryz.zeroValue3
  t4 := Tryz.underlying4
  a4 := Tryz.isAgg4
  z4 := Tryz.sizeOf4
  v4 := Tryz.zeroValue4
  t5 := Tryz.underlying5
  a5 := Tryz.isAgg5
  z5 := Tryz.sizeOf5
  v5 := Tryz.zeroValue5
  t9 := Tryz.underlying9
  a9 := Tryz.isAgg9
  z9 := Tryz.sizeOf9
  v9 := Tryz.zeroValue9
  t26 := Tryz.underlying22
  a26 := Tryz.isAgg22
  z26 := Tryz.sizeOf22
  v26 := Tryz.zeroValue22
  t27 := Tryz.underlying22
  a27 := Tryz.isAgg22
  z27 := Tryz.sizeOf22
  v27 := Tryz.zeroValue22
  t29 := Tryz.underlying9
  a29 := Tryz.isAgg9
  z29 := Tryz.sizeOf9
  v29 := Tryz.zeroValue9
  t32 := Tryz.underlying108
  a32 := Tryz.isAgg108
  z32 := Tryz.sizeOf108
  v32 := Tryz.zeroValue108
  t35 := Tryz.underlying149
  a35 := Tryz.isAgg149
  z35 := Tryz.sizeOf149
  v35 := Tryz.zeroValue149
  t36 := Tryz.underlying150
  a36 := Tryz.isAgg150
  z36 := Tryz.sizeOf150
  v36 := Tryz.zeroValue150
  t41 := Tryz.underlying155
  a41 := Tryz.isAgg155
  z41 := Tryz.sizeOf155
  v41 := Tryz.zeroValue155
  t44 := Tryz.underlying132
  a44 := Tryz.isAgg132
  z44 := Tryz.sizeOf132
  v44 := Tryz.zeroValue132
  t46 := Tryz.underlying23
  a46 := Tryz.isAgg23
  z46 := Tryz.sizeOf23
  v46 := Tryz.zeroValue23
  t53 := Tryz.underlying166
  a53 := Tryz.isAgg166
  z53 := Tryz.sizeOf166
  v53 := Tryz.zeroValue166
  t57 := Tryz.underlying170
  a57 := Tryz.isAgg170
  z57 := Tryz.sizeOf170
  v57 := Tryz.zeroValue170
  t63 := Tryz.underlying176
  a63 := Tryz.isAgg176
  z63 := Tryz.sizeOf176
  v63 := Tryz.zeroValue176
  t64 := Tryz.underlying177
  a64 := Tryz.isAgg177
  z64 := Tryz.sizeOf177
  v64 := Tryz.zeroValue177 }

def cloneA_ren : Go.Shelf.Ren := ⟨fun | 5 => 56 | 7 => 76 | n => n, fun | 23 => 72 | 25 => 9 | 3 => 74 | 4 => 4 | 20 => 20 | n => n, fun | n => n⟩

theorem cloneA : Go.Proofs.SlLaysW.n5 Tryz.prog cloneA_ren := {
  mixed := by kernel_rfl
  f5 := ⟨Tryz.f56.name, by decide, Tryz.func56.trans (congrArg some (by kernel_rfl))⟩
  f7 := Tryz.func76.trans (congrArg some (by kernel_rfl))
  t4 := Tryz.underlying4
  a4 := Tryz.isAgg4
  z4 := Tryz.sizeOf4
  v4 := Tryz.zeroValue4
  t20 := Tryz.underlying20
  a20 := Tryz.isAgg20
  z20 := Tryz.sizeOf20
  v20 := Tryz.zeroValue20
  t23 := Tryz.underlying72
  a23 := Tryz.isAgg72
  z23 := Tryz.sizeOf72
  v23 := Tryz.zeroValue72 }

def cloneV_ren : Go.Shelf.Ren := ⟨fun | 5 => 57 | 7 => 76 | n => n, fun | 23 => 75 | 25 => 9 | 3 => 86 | 4 => 4 | 20 => 20 | n => n, fun | n => n⟩

theorem cloneV : Go.Proofs.SlLaysW.n5 Tryz.prog cloneV_ren := {
  mixed := by kernel_rfl
  f5 := ⟨Tryz.f57.name, by decide, Tryz.func57.trans (congrArg some (by kernel_rfl))⟩
  f7 := Tryz.func76.trans (congrArg some (by kernel_rfl))
  t4 := Tryz.underlying4
  a4 := Tryz.isAgg4
  z4 := Tryz.sizeOf4
  v4 := Tryz.zeroValue4
  t20 := Tryz.underlying20
  a20 := Tryz.isAgg20
  z20 := Tryz.sizeOf20
  v20 := Tryz.zeroValue20
  t23 := Tryz.underlying75
  a23 := Tryz.isAgg75
  z23 := Tryz.sizeOf75
  v23 := Tryz.zeroValue75 }
end Go.Proofs.YtajpfkenhchafaaGreatDoor

/- slices.Sorted(maps.Keys(m)) of the state's two maps: all their names, rising; maps.Clone of them. -/
namespace Go.Proofs.YtajpfkenhchafaaGreatDoor
open Go Go.RowKit Go.Maps Go.Sort
set_option linter.unusedVariables false

theorem keysA_any (mb : Option Nat) (W : World) : Calls Tryz.prog 33 #[.map mb] W fun e w' => e = .returned (.func (.func 60) #[] #[.pointer (some ⟨W.heap.size, 0, none⟩)]) ∧ w' = W.alloc (.cells #[.map mb] 72) :=
  callsIn_wide.1 (AnyZ.keys_in keysA Fence.wide 5 trivial rfl mb W)

theorem keysV_any (mb : Option Nat) (W : World) : Calls Tryz.prog 37 #[.map mb] W fun e w' => e = .returned (.func (.func 62) #[] #[.pointer (some ⟨W.heap.size, 0, none⟩)]) ∧ w' = W.alloc (.cells #[.map mb] 75) :=
  callsIn_wide.1 (AnyZ.keys_in keysV Fence.wide 5 trivial rfl mb W)

theorem sortsS (m : Nat) : AnyZ.SortsIn Tryz.prog sortedS_ren Fence.wide m :=
  ⟨fun blk off cap ss W hH hblk hsz => callsIn_wide.2 (AnyM.slices_Sort_string sortS blk off cap ss W hH hblk hsz),
   fun p cap W => callsIn_wide.2 (AnyM.slices_Sort_string_none sortS p cap W)⟩

/-- A row of texts of the call's own. -/
def NamesAt (w : World) (ao : Option Addr) (cap : Nat) (L : List ByteArray) : Prop := ∃ B, w.ownsRow B 9 1 (.slice ao L.length cap) L.length (flatK strK L)

theorem NamesAt.kept {S : Nat → Prop} {w w' : World} {ao : Option Addr} {cap : Nat} {L : List ByteArray} (h : NamesAt w ao cap L) (hk : Kept S w w') (hn : ∀ k cur, w.heap[k]? = some (.cells cur 9 (0, 0)) → ¬ S k) : NamesAt w' ao cap L := by
  obtain ⟨B, h1, h2⟩ := h
  refine ⟨B, h1, h2.imp id ?_⟩
  rintro ⟨g, c, cur, e1, e2, e3, e4⟩
  exact ⟨g, c, cur, e1, e2, (hk.block g (Array.getElem?_eq_some_iff.1 e3).1 (hn g cur e3)).trans e3, e4⟩

theorem NamesAt.below {w w' : World} {ao : Option Addr} {cap : Nat} {L : List ByteArray} (h : NamesAt w ao cap L) (hb : Below w.heap.size w w') : NamesAt w' ao cap L :=
  h.kept (S := fun _ => False) (Kept.of_below hb) (fun _ _ _ => id)

theorem NamesAt.row {w : World} {ao : Option Addr} {cap : Nat} {L : List ByteArray} (h : NamesAt w ao cap L) : RowAt strK w ao L := by
  obtain ⟨B, h1⟩ := h
  have hQ : KQ strK 9 w B (.slice ao L.length cap) L := KQ.of_own (K := strK) (T := 9) (fun x b h => h.elim) (fun x _ => trivial) rfl h1
  obtain ⟨ao', cap', e1, _, hr⟩ := hQ.form
  simp only [Value.slice.injEq, true_and] at e1
  rw [e1.1]
  exact hr

theorem NamesAt.few {w : World} {ao : Option Addr} {cap : Nat} {L : List ByteArray} (h : NamesAt w ao cap L) : L.length ≤ cap := by
  obtain ⟨B, _, h2⟩ := h
  rcases h2 with ⟨_, hz⟩ | ⟨g, c, cur, e1, e2, e3, e4, _⟩
  · omega
  · simp only [Value.slice.injEq] at e1
    omega

/-- What is handed back: all names of the map, rising. -/
def GotNames (f : ByteArray → Option Value) (n : Nat) (W : World) (e : Ending) (w : World) : Prop :=
  ∃ (L : List ByteArray) (ao : Option Addr) (cap : Nat), e = .returned (.slice ao L.length cap) ∧ NamesAt w ao cap L ∧ L.length = n ∧ RiseN L ∧ (∀ k, k ∈ L ↔ (f k).isSome = true) ∧ Below W.heap.size W w

theorem names_of {w W w' : World} {b n : Nat} {f : ByteArray → Option Value} (D : DataW Value) (hown : w.ownsMap Tryz.prog 9 heldElem b n D) (hsz : Maps.size D = n) (hf : ∀ id, Maps.has D (keyS id) = (f id).isSome) {v : Value} {ss : List (List UInt8)} (hp : ss.Perm (strKeys D))
    (hrow : w'.ownsRow W.heap.size 9 1 v ss.length ((ss.mergeSort (fun x y => decide (x ≤ y))).map encStr)) (hb : Below W.heap.size W w') : GotNames f n W (.returned v) w' := by
  obtain ⟨es, hD, hpw, _⟩ := hown.entries lawStr
  obtain ⟨es', hD', hko⟩ := hown.keysOf
  obtain rfl : es = es' := by rw [hD] at hD'; simpa using hD'
  subst hD
  have hk : ∀ p ∈ es, ∃ x, p.1 = .string x := fun p hp => by
    obtain ⟨v, hv⟩ := hko p hp
    obtain ⟨x, _, hx, _⟩ := Maps.keyOf_str Tryz.underlying9 hv
    exact ⟨x, hx⟩
  have hnd : (strKeys (.map es)).Nodup := by
    show (es.map fun p => strOf p.1).Nodup
    refine List.pairwise_map.2 (hpw.imp_of_mem fun {p q} hp' hq' hne e => hne ?_)
    obtain ⟨a, ha⟩ := hk p hp'
    obtain ⟨b, hb⟩ := hk q hq'
    rw [ha, hb] at e ⊢
    exact congrArg _ e
  have hmem : ∀ x, x ∈ strKeys (.map es) ↔ has (.map es) (.string x) = true := fun x => by
    rw [has_eq, List.any_eq_true]
    show x ∈ es.map (fun p => strOf p.1) ↔ _
    rw [List.mem_map]
    constructor
    · rintro ⟨p, hp', rfl⟩
      obtain ⟨a, ha⟩ := hk p hp'
      exact ⟨p, hp', by rw [ha]; simp [Lit.sameKey, strOf]⟩
    · rintro ⟨p, hp', hs⟩
      obtain ⟨a, ha⟩ := hk p hp'
      rw [ha] at hs
      exact ⟨p, hp', by rw [ha]; simpa [Lit.sameKey, strOf] using hs⟩
  have hP2 : (ss.mergeSort (fun x y => decide (x ≤ y))).Perm (strKeys (.map es)) := (List.mergeSort_perm ss _).trans hp
  have hlen : ss.length = n := by
    rw [hp.length_eq, ← hsz, size_eq]
    show (es.map _).length = _
    rw [List.length_map]
  have hsort : (ss.mergeSort (fun x y => decide (x ≤ y))).Pairwise (fun a b => decide (a ≤ b) = true) :=
    List.pairwise_mergeSort (fun a b c h1 h2 => by simp only [decide_eq_true_eq] at *; exact List.le_trans h1 h2) (fun a b => by simp only [Bool.or_eq_true, decide_eq_true_eq]; exact List.le_total a b) ss
  have hnd2 : (ss.mergeSort (fun x y => decide (x ≤ y))).Nodup := hP2.nodup_iff.2 hnd
  generalize hm : ss.mergeSort (fun x y => decide (x ≤ y)) = m at *
  have hml : m.length = ss.length := by rw [← hm, List.length_mergeSort]
  have hstrict : m.Pairwise (fun a b => a < b) := by
    refine (hsort.and hnd2).imp (fun {a b} h => ?_)
    have h1 : a ≤ b := of_decide_eq_true h.1
    rcases List.le_iff_lt_or_eq.1 h1 with h2 | h2
    · exact h2
    · exact absurd h2 h.2
  have tl : ∀ x : List UInt8, (⟨x.toArray⟩ : ByteArray).toList = x := fun x => by rw [ByteArray.toList_eq]
  have eF : m.map encStr = flatK strK (m.map (fun x => (⟨x.toArray⟩ : ByteArray))) := by
    clear hm hsort hnd2 hstrict hml hP2 hrow
    induction m with
    | nil => rfl
    | cons x r ih =>
      rw [List.map_cons, List.map_cons, ih]
      rfl
  rw [eF] at hrow
  obtain ⟨ao, cap, rfl⟩ : ∃ ao cap, v = .slice ao ss.length cap := by
    rcases hrow.2 with ⟨rfl, hz⟩ | ⟨g, cap, cur, rfl, _⟩
    · exact ⟨none, 0, by rw [hz]⟩
    · exact ⟨_, _, rfl⟩
  have hl2 : ss.length = (m.map (fun x => (⟨x.toArray⟩ : ByteArray))).length := by rw [List.length_map, hml]
  rw [hl2] at hrow
  refine ⟨m.map (fun x => (⟨x.toArray⟩ : ByteArray)), ao, cap, by rw [← hl2], ⟨W.heap.size, hrow⟩, by rw [← hl2]; exact hlen, ?_, ?_, hb⟩
  · refine List.pairwise_map.2 (hstrict.imp (fun {a b} h => ?_))
    rw [tl, tl]
    exact h
  · intro k
    rw [← hf k, List.mem_map]
    have : Maps.has (DataW.map es) (keyS k) = true ↔ k.data.toList ∈ m := by
      rw [hP2.mem_iff, hmem]
      rfl
    rw [this]
    constructor
    · rintro ⟨x, hx, rfl⟩
      simpa using hx
    · intro h
      exact ⟨k.data.toList, h, by simp⟩

set_option maxHeartbeats 1000000 in
theorem sortedA_any (b n : Nat) (f : ByteArray → Option Value) (w : World) (h : SMap w b f n) (hn : n ≤ 1000000) :
    Calls Tryz.prog 32 #[.func (.func 60) #[] #[.pointer (some ⟨w.heap.size, 0, none⟩)]] (w.alloc (.cells #[.map (some b)] 72)) fun e w' => GotNames f n (w.alloc (.cells #[.map (some b)] 72)) e w' := by
  obtain ⟨D, hown, hsz, hf, _⟩ := h
  have hbl := hown.lt
  have hmax : Maps.size D ≤ maxLen := by rw [hsz]; unfold maxLen; omega
  have hbytes : Maps.size D * 16 ≤ 140737488355328 := by rw [hsz]; omega
  have hseq : SeqGives Fence.wide 2 Tryz.prog 60 #[.pointer (some ⟨w.heap.size, 0, none⟩)] encStr (fun ss => ss.Perm (strKeys D)) (Maps.size D) (w.alloc (.cells #[.map (some b)] 72)) :=
    AnyZ.keys_gives (ρ := keysA_ren) { keysA with } Fence.wide _ trivial rfl (by omega) w.heap.size b n D _ (by simp) (by simp) (by
      obtain ⟨es, clock, hb, Ft, hs, hD⟩ := hown
      exact ⟨es, clock, (Below.heap_alloc _ _ b hbl).trans hb, Ft, hs, hD⟩)
  have cS := AnyZ.sorted_in sortedS Fence.wide 5 trivial trivial trivial trivial rfl (by omega) (sortsS _) (enters_of Tryz.func59 (by kernel_rfl) rfl) 60 #[.pointer (some ⟨w.heap.size, 0, none⟩)] trivial (enters_of Tryz.func60 (by kernel_rfl) rfl) _ _ hmax hbytes _ hseq
  refine (callsIn_wide.1 cS).mono ?_
  rintro e w' ⟨v, ss, rfl, hp, hrow, _, hb⟩
  exact names_of D hown hsz hf hp hrow hb

set_option maxHeartbeats 1000000 in
theorem sortedV_any (b n : Nat) (f : ByteArray → Option Value) (w : World) (h : SMap w b f n) (hn : n ≤ 1000000) :
    Calls Tryz.prog 32 #[.func (.func 62) #[] #[.pointer (some ⟨w.heap.size, 0, none⟩)]] (w.alloc (.cells #[.map (some b)] 75)) fun e w' => GotNames f n (w.alloc (.cells #[.map (some b)] 75)) e w' := by
  obtain ⟨D, hown, hsz, hf, _⟩ := h
  have hbl := hown.lt
  have hmax : Maps.size D ≤ maxLen := by rw [hsz]; unfold maxLen; omega
  have hbytes : Maps.size D * 16 ≤ 140737488355328 := by rw [hsz]; omega
  have hseq : SeqGives Fence.wide 2 Tryz.prog 62 #[.pointer (some ⟨w.heap.size, 0, none⟩)] encStr (fun ss => ss.Perm (strKeys D)) (Maps.size D) (w.alloc (.cells #[.map (some b)] 75)) :=
    AnyZ.keys_gives (ρ := keysV_ren) { keysV with } Fence.wide _ trivial rfl (by omega) w.heap.size b n D _ (by simp) (by simp) (by
      obtain ⟨es, clock, hb, Ft, hs, hD⟩ := hown
      exact ⟨es, clock, (Below.heap_alloc _ _ b hbl).trans hb, Ft, hs, hD⟩)
  have cS := AnyZ.sorted_in sortedS Fence.wide 5 trivial trivial trivial trivial rfl (by omega) (sortsS _) (enters_of Tryz.func59 (by kernel_rfl) rfl) 62 #[.pointer (some ⟨w.heap.size, 0, none⟩)] trivial (enters_of Tryz.func62 (by kernel_rfl) rfl) _ _ hmax hbytes _ hseq
  refine (callsIn_wide.1 cS).mono ?_
  rintro e w' ⟨v, ss, rfl, hp, hrow, _, hb⟩
  exact names_of D hown hsz hf hp hrow hb

/-- A map copied: a new block that holds the same. -/
theorem cloneA_any (b n : Nat) (f : ByteArray → Option Value) (w : World) (h : SMap w b f n) :
    Calls Tryz.prog 56 #[.map (some b)] w fun e w' => e = .returned (.map (some w.heap.size)) ∧ SMap w' w.heap.size f n ∧ Below w.heap.size w w' := by
  obtain ⟨D, hown, hsz, hf, hg⟩ := h
  refine (AnyW.maps_Clone_owns cloneA 9 heldElem b n D w hown).mono ?_
  rintro e w' ⟨h1, h2, _, h4⟩
  exact ⟨h1, ⟨D, h2, hsz, hf, hg⟩, h4⟩

theorem cloneV_any (b n : Nat) (f : ByteArray → Option Value) (w : World) (h : SMap w b f n) :
    Calls Tryz.prog 57 #[.map (some b)] w fun e w' => e = .returned (.map (some w.heap.size)) ∧ SMap w' w.heap.size f n ∧ Below w.heap.size w w' := by
  obtain ⟨D, hown, hsz, hf, hg⟩ := h
  refine (AnyW.maps_Clone_owns cloneV 9 heldElem b n D w hown).mono ?_
  rintro e w' ⟨h1, h2, _, h4⟩
  exact ⟨h1, ⟨D, h2, hsz, hf, hg⟩, h4⟩
end Go.Proofs.YtajpfkenhchafaaGreatDoor

/- What Copy does. -/
namespace Go.Proofs.YtajpfkenhchafaaGreatDoor
open Go Go.RowKit
set_option linter.unusedVariables false

set_option maxRecDepth 100000 in
set_option maxHeartbeats 1000000 in
theorem copy22_any (w : World) (p : Nat) (S : Nat → Prop) (s : StF) (N : Nat) (h : PS w p S s N) :
    Calls Tryz.prog 31 #[.pointer (some ⟨p, 0, none⟩)] w fun e w' => GotState w s N e w' := by
  obtain ⟨a, v, -, hP⟩ := h
  obtain ⟨n1, hn1, hM⟩ := hP.acc
  obtain ⟨n2, hn2, hV⟩ := hP.val
  have hok := hP.ok
  have c0 := hP.box.cell (i := 0) rfl
  have c1 := hP.box.cell (i := 1) rfl
  have lp := hP.box.lt
  have hbd : Below w.heap.size w w.drew := below_drewN (Below.refl _ w) 1
  have cA := fun w1 (hb : Below w.heap.size w w1) => cloneA_any a n1 _ w1 (hM.below hb)
  have cV := fun w1 (hb : Below w.heap.size w w1) => cloneV_any v n2 _ w1 (hV.below hb)
  have hc := fun w1 (hb : Below w.heap.size w w1) => cell_same (hb.block _ lp)
  have hG : ∀ (w1 : World) (a' v' : Nat), Below w.heap.size w w1 → SMap w1 a' (accM s.acc) n1 → SMap w1 v' (valM s.val) n2 → w.heap.size ≤ a' → w.heap.size ≤ v' → a' ≠ v' → GotState w s N (.returned (.pointer (some ⟨w1.heap.size, 0, none⟩))) (w1.alloc (.cells #[.map (some a'), .map (some v')] 77)) := by
    intro w1 a' v' hb hA hV' e1 e2 e3
    have l1 := hA.lt
    have l2 := hV'.lt
    have hb2 := belowNew w1 (.cells #[.map (some a'), .map (some v')] 77)
    exact ⟨w1.heap.size, fun b => b = w1.heap.size ∨ b = a' ∨ b = v', rfl, ⟨a', v', fun b => Iff.rfl, ⟨Arr.new w1 77 [.map (some a'), .map (some v')], ⟨n1, hn1, hA.below hb2⟩, ⟨n2, hn2, hV'.below hb2⟩, by omega, by omega, e3, hok⟩⟩, fun b hb' => by have := hb.size; omega, hb.alloc hb.size _⟩
  have hd0 := hc _ hbd 0
  have hd1 := hc _ hbd 1
  rw [c0] at hd0
  rw [c1] at hd1
  clear hM hV hok hP
  generalize accM s.acc = f at *
  generalize valM s.val = g at *
  generalize hGG : GotState w s N = GG at *
  clear hGG
  go_enter Tryz.func31, Tryz.ntmps31
  go_wp2_with fail
  go_region_law (first
    | (go_simp; go_at_call 56; refine (cA _ hbd).mono ?_; rintro e wA ⟨rfl, hA, hbA⟩; have hbA2 := hbd.trans (hbA.mono hbd.size); have kA1 := (hc _ hbA2 1).trans c1; have lA := hA.lt)
    | (go_simp; go_at_call 57; refine (cV _ hbA2).mono ?_; rintro e wV ⟨rfl, hV, hbV⟩; have hbV2 := hbA2.trans (hbV.mono hbA2.size); have hA2 := hA.below hbV; have hfin := hG wV _ _ hbV2 hA2 hV))
  all_goals (
    have lA' : w.heap.size < wA.heap.size := lA
    have hfin' := hfin (Nat.le_refl _) (Nat.le_of_lt lA') (Nat.ne_of_lt lA')
    clear hfin hA2 hA hV hbV hbA hG cA cV hc kA1 lA hd0 hd1
    rename_i K hK
    refine hK _ _ ?_
    clear hK
    go_wp2
    go_ret
    exact hfin')
end Go.Proofs.YtajpfkenhchafaaGreatDoor

/- The program's executor: how it lies; what New and State do. -/
namespace Go.Proofs.YtajpfkenhchafaaGreatDoor
open Go Go.RowKit
set_option linter.unusedVariables false

/-- Its box, its state, its results: of the blocks S. -/
structure PX (w : World) (x : Nat) (S : Nat → Prop) (s : StF) (N : Nat) (r : List Nat) (n : Nat) : Prop where
  ex : ∃ p T q, Arr w x 58 [.pointer (some ⟨p, 0, none⟩), q, .int .i64 (n : Int)] ∧ PS w p T s N ∧ KQ natK 3 w 0 q r ∧ ¬ T x ∧ (∀ k, q.ownBlock = some k → k ≠ x ∧ ¬ T k) ∧ ∀ k, (k = x ∨ T k ∨ q.ownBlock = some k) → S k
  lt : ∀ k, S k → k < w.heap.size

theorem PX.kept {w w' : World} {x n N : Nat} {S Z : Nat → Prop} {s : StF} {r : List Nat} (h : PX w x S s N r n) (hk : Kept Z w w') (hd : ∀ k, S k → ¬ Z k) : PX w' x S s N r n := by
  obtain ⟨p, T, q, h1, h2, h3, h4, h5, h6⟩ := h.ex
  exact ⟨⟨p, T, q, h1.kept hk (hd x (h6 x (Or.inl rfl))), h2.kept hk (fun k e => hd k (h6 k (Or.inr (Or.inl e)))), h3.kept hk (fun k e => hd k (h6 k (Or.inr (Or.inr e)))) (fun _ _ _ h => h.elim), h4, h5, h6⟩, fun k e => Nat.lt_of_lt_of_le (h.lt k e) hk.size⟩

theorem PX.below {w w' : World} {x n N : Nat} {S : Nat → Prop} {s : StF} {r : List Nat} (h : PX w x S s N r n) (hb : Below w.heap.size w w') : PX w' x S s N r n := by
  obtain ⟨p, T, q, h1, h2, h3, h4, h5, h6⟩ := h.ex
  exact ⟨⟨p, T, q, h1.below hb h1.lt, h2.below hb, h3.below hb, h4, h5, h6⟩, fun k e => Nat.lt_of_lt_of_le (h.lt k e) hb.size⟩

set_option maxRecDepth 100000 in
set_option maxHeartbeats 2000000 in
theorem exNew_any (rich : List ByteArray) (ao : Option Addr) (cp : Nat) (funds : Nat) (W : World) (hR : RowAt strK W ao rich) (hz : ∀ s ∈ rich, s.size ≤ maxLen) (hl : rich.length ≤ 1000) :
    Calls Tryz.prog 8 #[.slice ao rich.length cp, .int .u64 (funds : Int)] W fun e w' => GotExe PX W (newF rich funds) rich.length e w' := by
  have cN := new22_any rich ao cp funds W hR hz hl
  go_enter Tryz.func8, Tryz.ntmps8
  go_wp2_with (go_at_call 24; refine cN.mono ?_; rintro _ w1 ⟨p, T, rfl, h1, h2, hb1⟩)
  go_ret
  have hX := Arr.new w1 58 [.pointer (some ⟨p, 0, none⟩), .slice none 0 0, .int .i64 ((0 : Nat) : Int)]
  have hbn := belowNew w1 (.cells #[.pointer (some ⟨p, 0, none⟩), .slice none 0 0, .int .i64 ((0 : Nat) : Int)] 58)
  have hT1 : ∀ k, T k → k < w1.heap.size := fun k e => h1.lt e
  refine ⟨w1.heap.size, fun k => k = w1.heap.size ∨ T k, rfl, ⟨⟨p, T, _, hX, h1.below hbn, KQ.empty _ _ _ _, fun e => by have := hT1 _ e; omega, fun k e => by simp [Value.ownBlock] at e, fun k e => ?_⟩, fun k e => ?_⟩, fun k e => ?_, hb1.trans (hbn.mono hb1.size)⟩
  · rcases e with e | e | e
    · exact Or.inl e
    · exact Or.inr e
    · simp [Value.ownBlock] at e
  · rcases e with e | e
    · rw [e]; exact hX.lt
    · exact Nat.lt_of_lt_of_le (hT1 k e) hbn.size
  · rcases e with e | e
    · rw [e]; exact hb1.size
    · exact h2 k e

set_option maxRecDepth 100000 in
set_option maxHeartbeats 2000000 in
theorem exState_any (W : World) (x : Nat) (S : Nat → Prop) (s : StF) (N : Nat) (r : List Nat) (n : Nat) (h : PX W x S s N r n) :
    Calls Tryz.prog 15 #[.pointer (some ⟨x, 0, none⟩)] W fun e w' => GotState W s N e w' := by
  obtain ⟨p, T, q, h1, h2, -⟩ := h.ex
  have c0 := h1.cell (i := 0) rfl
  have cC := copy22_any W p T s N h2
  go_enter Tryz.func15, Tryz.ntmps15
  go_wp2_with (go_at_call 31; refine cC.mono ?_; rintro _ w1 ⟨p2, T2, rfl, g1, g2, hb1⟩)
  go_ret
  exact ⟨p2, T2, rfl, g1, g2, hb1⟩
end Go.Proofs.YtajpfkenhchafaaGreatDoor
