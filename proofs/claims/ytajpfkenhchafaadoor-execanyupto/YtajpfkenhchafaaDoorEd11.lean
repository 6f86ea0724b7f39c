/- Texts as one: StaLay, StaKeys, StaCopy, ExeProg. -/
import Derived.Test.YtajpfkenhchafaaDoorRows
import Derived.Shelf.SlIter.Nil
import Derived.Shelf.SortM.Plain
import Derived.Shelf.SortM.SortNone
import Derived.Shelf.SlMaps.Clone
import Derived.Ground.GgzProg
import Derived.Ground.SlgmProg
import Derived.Ground.SlmcProg
import Derived.Test.YtajpfkenhchafaaDoorEd08
import Derived.Test.YtajpfkenhchafaaDoorEd05
/- The library's contracts on maps.Keys, slices.Sorted, slices.Sort and maps.Clone, laid over this program in plain words. -/
namespace Go.Proofs.YtajpfkenhchafaaDoor
open Go Go.Shelf
set_option linter.unusedVariables false

def keysA_ren : Go.Shelf.Ren := ⟨fun | 7 => 31 | 10 => 52 | n => n, fun | 23 => 69 | 26 => 9 | 3 => 71 | 28 => 67 | 0 => 0 | 27 => 66 | 33 => 86 | 4 => 4 | n => n, fun | n => n⟩

theorem keysA : Go.Proofs.SlLaysZ.n7 Tryd.prog keysA_ren := {
  mixed := by kernel_rfl
  f7 := ⟨Tryd.f31.name, by decide, Tryd.func31.trans (congrArg some (by kernel_rfl))⟩
  f10 := ⟨Tryd.f52.name, by decide, Tryd.func52.trans (congrArg some (by kernel_rfl))⟩
  t0 := Tryd.underlying0
  a0 := Tryd.isAgg0
  z0 := Tryd.sizeOf0
  v0 := Tryd.zeroValue0
  t4 := Tryd.underlying4
  a4 := Tryd.isAgg4
  z4 := Tryd.sizeOf4
  v4 := Tryd.zeroValue4
  t23 := Tryd.underlying69
  a23 := Tryd.isAgg69
  z23 := Tryd.sizeOf69
  v23 := Tryd.zeroValue69
  t26 := Tryd.underlying9
  a26 := Tryd.isAgg9
  z26 := Tryd.sizeOf9
  v26 := Tryd.zeroValue9
  t27 := Tryd.underlying66
  a27 := Tryd.isAgg66
  z27 := Tryd.sizeOf66
  v27 := Tryd.zeroValue66
  t28 := Tryd.underlying67
  a28 := Tryd.isAgg67
  z28 := Tryd.sizeOf67
  v28 := Tryd.zeroValue67
  t33 := Tryd.underlying86
  a33 := Tryd.isAgg86
  z33 := Tryd.sizeOf86
  v33 := Tryd.zeroValue86 }

def keysV_ren : Go.Shelf.Ren := ⟨fun | 7 => 35 | 10 => 54 | n => n, fun | 23 => 72 | 26 => 9 | 3 => 83 | 28 => 67 | 0 => 0 | 27 => 66 | 33 => 86 | 4 => 4 | n => n, fun | n => n⟩

theorem keysV : Go.Proofs.SlLaysZ.n7 Tryd.prog keysV_ren := {
  mixed := by kernel_rfl
  f7 := ⟨Tryd.f35.name, by decide, Tryd.func35.trans (congrArg some (by kernel_rfl))⟩
  f10 := ⟨Tryd.f54.name, by decide, Tryd.func54.trans (congrArg some (by kernel_rfl))⟩
  t0 := Tryd.underlying0
  a0 := Tryd.isAgg0
  z0 := Tryd.sizeOf0
  v0 := Tryd.zeroValue0
  t4 := Tryd.underlying4
  a4 := Tryd.isAgg4
  z4 := Tryd.sizeOf4
  v4 := Tryd.zeroValue4
  t23 := Tryd.underlying72
  a23 := Tryd.isAgg72
  z23 := Tryd.sizeOf72
  v23 := Tryd.zeroValue72
  t26 := Tryd.underlying9
  a26 := Tryd.isAgg9
  z26 := Tryd.sizeOf9
  v26 := Tryd.zeroValue9
  t27 := Tryd.underlying66
  a27 := Tryd.isAgg66
  z27 := Tryd.sizeOf66
  v27 := Tryd.zeroValue66
  t28 := Tryd.underlying67
  a28 := Tryd.isAgg67
  z28 := Tryd.sizeOf67
  v28 := Tryd.zeroValue67
  t33 := Tryd.underlying86
  a33 := Tryd.isAgg86
  z33 := Tryd.sizeOf86
  v33 := Tryd.zeroValue86 }

def sortedS_ren : Go.Shelf.Ren := ⟨fun | 6 => 30 | 8 => 50 | 9 => 51 | 11 => 61 | 13 => 63 | 12 => 62 | 23 => 82 | 24 => 83 | 14 => 73 | 15 => 74 | 16 => 75 | 17 => 76 | 18 => 77 | 19 => 78 | 20 => 79 | 21 => 80 | 22 => 81 | 25 => 88 | 26 => 89 | 27 => 90 | 28 => 91 | 29 => 92 | 30 => 93 | 31 => 96 | n => n, fun | 26 => 9 | 28 => 67 | 24 => 22 | 0 => 0 | 3 => 3 | 37 => 98 | 48 => 113 | 50 => 23 | 4 => 4 | 40 => 125 | 39 => 124 | 45 => 130 | 5 => 5 | 9 => 9 | 51 => 139 | 55 => 143 | 57 => 149 | 58 => 150 | 33 => 86 | n => n, fun | n => n⟩

theorem sortedS : Go.Proofs.SlLaysZ.n6 Tryd.prog sortedS_ren := {
  mixed := by kernel_rfl
  f6 := ⟨Tryd.f30.name, by decide, Tryd.func30.trans (congrArg some (by kernel_rfl))⟩
  f8 := ⟨Tryd.f50.name, by decide, Tryd.func50.trans (congrArg some (by kernel_rfl))⟩
  f11 := ⟨Tryd.f61.name, by decide, Tryd.func61.trans (congrArg some (by kernel_rfl))⟩
  t0 := Tryd.underlying0
  a0 := Tryd.isAgg0
  z0 := Tryd.sizeOf0
  v0 := Tryd.zeroValue0
  t24 := Tryd.underlying22
  a24 := Tryd.isAgg22
  z24 := Tryd.sizeOf22
  v24 := Tryd.zeroValue22
  t26 := Tryd.underlying9
  a26 := Tryd.isAgg9
  z26 := Tryd.sizeOf9
  v26 := Tryd.zeroValue9
  t28 := Tryd.underlying67
  a28 := Tryd.isAgg67
  z28 := Tryd.sizeOf67
  v28 := Tryd.zeroValue67
  i26 := by kernel_rfl }

def sortS_ren : Go.Shelf.Ren := ⟨fun | 6 => 51 | 8 => 63 | 9 => 62 | 19 => 82 | 20 => 83 | 21 => 73 | 22 => 74 | 23 => 75 | 24 => 76 | 25 => 77 | 26 => 78 | 27 => 79 | 28 => 80 | 29 => 81 | 36 => 88 | 31 => 89 | 32 => 90 | 37 => 91 | 38 => 92 | 39 => 93 | 41 => 96 | n => n, fun | 27 => 22 | 29 => 9 | 3 => 3 | 32 => 98 | 26 => 22 | 0 => 0 | 44 => 113 | 46 => 23 | 4 => 4 | 36 => 125 | 35 => 124 | 41 => 130 | 5 => 5 | 9 => 9 | 53 => 139 | 57 => 143 | 63 => 149 | 64 => 150 | n => n, fun | n => n⟩

theorem sortS : Go.Proofs.SlLaysM.n6 Tryd.prog sortS_ren := {
  mixed := by kernel_rfl
  f6 := ⟨Tryd.f51.name, by decide, Tryd.func51.trans (congrArg some (by kernel_rfl))⟩
  f8 := Tryd.func63.trans (congrArg some (by kernel_rfl))
  f9 := ⟨Tryd.f62.name, by decide, Tryd.func62.trans (congrArg some (by kernel_rfl))⟩
  f19 := Tryd.func82.trans (congrArg some (by kernel_rfl))
  f20 := Tryd.func83.trans (congrArg some (by kernel_rfl))
  f21 := ⟨Tryd.f73.name, by decide, Tryd.func73.trans (congrArg some (by kernel_rfl))⟩
  f22 := ⟨Tryd.f74.name, by decide, Tryd.func74.trans (congrArg some (by kernel_rfl))⟩
  f23 := ⟨Tryd.f75.name, by decide, Tryd.func75.trans (congrArg some (by kernel_rfl))⟩
  f24 := ⟨Tryd.f76.name, by decide, Tryd.func76.trans (congrArg some (by kernel_rfl))⟩
  f25 := ⟨Tryd.f77.name, by decide, Tryd.func77.trans (congrArg some (by kernel_rfl))⟩
  f26 := ⟨Tryd.f78.name, by decide, Tryd.func78.trans (congrArg some (by kernel_rfl))⟩
  f27 := ⟨Tryd.f79.name, by decide, Tryd.func79.trans (congrArg some (by kernel_rfl))⟩
  f28 := ⟨Tryd.f80.name, by decide, Tryd.func80.trans (congrArg some (by kernel_rfl))⟩
  f29 := ⟨Tryd.f81.name, by decide, Tryd.func81.trans (congrArg some (by kernel_rfl))⟩
  f31 := Tryd.func89.trans (congrArg some (by kernel_rfl))
  f32 := Tryd.func90.trans (congrArg some (by kernel_rfl))
  f36 := ⟨Tryd.f88.name, by decide, Tryd.func88.trans (congrArg some (by kernel_rfl))⟩
  f37 := ⟨Tryd.f91.name, by decide, Tryd.func91.trans (congrArg some (by kernel_rfl))⟩
  f38 := ⟨Tryd.f92.name, by decide, Tryd.func92.trans (congrArg some (by kernel_rfl))⟩
  f39 := ⟨Tryd.f93.name, by decide, Tryd.func93.trans (congrArg some (by kernel_rfl))⟩
  f41 := ⟨Tryd.f96.name, by decide, Tryd.func96.trans (congrArg some (by kernel_rfl))⟩
  t0 := Tryd.underlying0
  a0 := Tryd.isAgg0
  z0 := Tryd.sizeOf0
  v0 := Tryd.zeroValue0
  t3 := Tryd.underlying3
  a3 := Tryd.isAgg3
  z3 := Tryd.sizeOf3
  v3 := Tryd.zeroValue3
  t4 := Tryd.underlying4
  a4 := Tryd.isAgg4
  z4 := Tryd.sizeOf4
  v4 := Tryd.zeroValue4
  t5 := Tryd.underlying5
  a5 := Tryd.isAgg5
  z5 := Tryd.sizeOf5
  v5 := Tryd.zeroValue5
  t9 := Tryd.underlying9
  a9 := Tryd.isAgg9
  z9 := Tryd.sizeOf9
  v9 := Tryd.zeroValue9
  t26 := Tryd.underlying22
  a26 := Tryd.isAgg22
  z26 := Tryd.sizeOf22
  v26 := Tryd.zeroValue22
  t27 := Tryd.underlying22
  a27 := Tryd.isAgg22
  z27 := Tryd.sizeOf22
  v27 := Tryd.zeroValue22
  t29 := Tryd.underlying9
  a29 := Tryd.isAgg9
  z29 := Tryd.sizeOf9
  v29 := Tryd.zeroValue9
  t32 := Tryd.underlying98
  a32 := Tryd.isAgg98
  z32 := Tryd.sizeOf98
  v32 := Tryd.zeroValue98
  t35 := Tryd.underlying124
  a35 := Tryd.isAgg124
  z35 := Tryd.sizeOf124
  v35 := Tryd.zeroValue124
  t36 := Tryd.underlying125
  a36 := Tryd.isAgg125
  z36 := Tryd.sizeOf125
  v36 := Tryd.zeroValue125
  t41 := Tryd.underlying130
  a41 := Tryd.isAgg130
  z41 := Tryd.sizeOf130
  v41 := Tryd.zeroValue130
  t44 := Tryd.underlying113
  a44 := Tryd.isAgg113
  z44 := Tryd.sizeOf113
  v44 := Tryd.zeroValue113
  t46 := Tryd.underlying23
  a46 := Tryd.isAgg23
  z46 := Tryd.sizeOf23
  v46 := Tryd.zeroValue23
  t53 := Tryd.underlying139
  a53 := Tryd.isAgg139
  z53 := Tryd.sizeOf139
  v53 := Tryd.zeroValue139
  t57 := Tryd.underlying143
  a57 := Tryd.isAgg143
  z57 := Tryd.sizeOf143
  v57 := Tryd.zeroValue143
  t63 := Tryd.underlying149
  a63 := Tryd.isAgg149
  z63 := Tryd.sizeOf149
  v63 := Tryd.zeroValue149
  t64 := Tryd.underlying150
  a64 := Tryd.isAgg150
  z64 := Tryd.sizeOf150
  v64 := Tryd.zeroValue150 }

def cloneA_ren : Go.Shelf.Ren := ⟨fun | 5 => 48 | 7 => 60 | n => n, fun | 23 => 69 | 25 => 9 | 3 => 71 | 4 => 4 | 20 => 20 | n => n, fun | n => n⟩

theorem cloneA : Go.Proofs.SlLaysW.n5 Tryd.prog cloneA_ren := {
  mixed := by kernel_rfl
  f5 := ⟨Tryd.f48.name, by decide, Tryd.func48.trans (congrArg some (by kernel_rfl))⟩
  f7 := Tryd.func60.trans (congrArg some (by kernel_rfl))
  t4 := Tryd.underlying4
  a4 := Tryd.isAgg4
  z4 := Tryd.sizeOf4
  v4 := Tryd.zeroValue4
  t20 := Tryd.underlying20
  a20 := Tryd.isAgg20
  z20 := Tryd.sizeOf20
  v20 := Tryd.zeroValue20
  t23 := Tryd.underlying69
  a23 := Tryd.isAgg69
  z23 := Tryd.sizeOf69
  v23 := Tryd.zeroValue69 }

def cloneV_ren : Go.Shelf.Ren := ⟨fun | 5 => 49 | 7 => 60 | n => n, fun | 23 => 72 | 25 => 9 | 3 => 83 | 4 => 4 | 20 => 20 | n => n, fun | n => n⟩

theorem cloneV : Go.Proofs.SlLaysW.n5 Tryd.prog cloneV_ren := {
  mixed := by kernel_rfl
  f5 := ⟨Tryd.f49.name, by decide, Tryd.func49.trans (congrArg some (by kernel_rfl))⟩
  f7 := Tryd.func60.trans (congrArg some (by kernel_rfl))
  t4 := Tryd.underlying4
  a4 := Tryd.isAgg4
  z4 := Tryd.sizeOf4
  v4 := Tryd.zeroValue4
  t20 := Tryd.underlying20
  a20 := Tryd.isAgg20
  z20 := Tryd.sizeOf20
  v20 := Tryd.zeroValue20
  t23 := Tryd.underlying72
  a23 := Tryd.isAgg72
  z23 := Tryd.sizeOf72
  v23 := Tryd.zeroValue72 }
end Go.Proofs.YtajpfkenhchafaaDoor

/- slices.Sorted(maps.Keys(m)) of the state's two maps: all their names, rising; maps.Clone of them. -/
namespace Go.Proofs.YtajpfkenhchafaaDoor
open Go Go.RowKit Go.Maps Go.Sort
set_option linter.unusedVariables false

theorem keysA_any (mb : Option Nat) (W : World) : Calls Tryd.prog 31 #[.map mb] W fun e w' => e = .returned (.func (.func 52) #[] #[.pointer (some ⟨W.heap.size, 0, none⟩)]) ∧ w' = W.alloc (.cells #[.map mb] 69) :=
  callsIn_wide.1 (AnyZ.keys_in keysA Fence.wide 5 trivial rfl mb W)

theorem keysV_any (mb : Option Nat) (W : World) : Calls Tryd.prog 35 #[.map mb] W fun e w' => e = .returned (.func (.func 54) #[] #[.pointer (some ⟨W.heap.size, 0, none⟩)]) ∧ w' = W.alloc (.cells #[.map mb] 72) :=
  callsIn_wide.1 (AnyZ.keys_in keysV Fence.wide 5 trivial rfl mb W)

theorem sortsS (m : Nat) : AnyZ.SortsIn Tryd.prog sortedS_ren Fence.wide m :=
  ⟨fun blk off cap ss W hH hblk hsz => callsIn_wide.2 (AnyM.slices_Sort_string sortS blk off cap ss W hH hblk hsz),
   fun p cap W => callsIn_wide.2 (AnyM.slices_Sort_string_none sortS p cap W)⟩

/-- A row of texts of the call's own. -/
def NamesAt (w : World) (ao : Option Addr) (cap : Nat) (L : List ByteArray) : Prop := ∃ B, w.ownsRow B 9 1 (.slice ao L.length cap) L.length (flatK strK L)

theorem NamesAt.kept {S : Nat → Prop} {w w' : World} {ao : Option Addr} {cap : Nat} {L : List ByteArray} (h : NamesAt w ao cap L) (hk : Kept S w w') (hn : ∀ k cur, w.heap[k]? = some (.cells cur 9 (0, 0)) → ¬ S k) : NamesAt w' ao cap L := by
  obtain ⟨B, h1, h2⟩ := h
  refine ⟨B, h1, h2.imp id ?_⟩
  rintro ⟨g, c, cur, e1, e2, e3, e4⟩
  exact ⟨g, c, cur, e1, e2, (hk.block g (Array.getElem?_eq_some_iff.1 e3).1 (hn g cur e3)).trans e3, e4⟩

theorem NamesAt.below {w w' : World} {ao : Option Addr} {cap : Nat} {L : List ByteArray} (h : NamesAt w ao cap L) (hb : Below w.heap.size w w') : NamesAt w' ao cap L :=
  h.kept (S := fun _ => False) (Kept.of_below hb) (fun _ _ _ => id)

theorem NamesAt.row {w : World} {ao : Option Addr} {cap : Nat} {L : List ByteArray} (h : NamesAt w ao cap L) : RowAt strK w ao L := by
  obtain ⟨B, h1⟩ := h
  have hQ : KQ strK 9 w B (.slice ao L.length cap) L := KQ.of_own (K := strK) (T := 9) (fun x b h => h.elim) (fun x _ => trivial) rfl h1
  obtain ⟨ao', cap', e1, _, hr⟩ := hQ.form
  simp only [Value.slice.injEq, true_and] at e1
  rw [e1.1]
  exact hr

theorem NamesAt.few {w : World} {ao : Option Addr} {cap : Nat} {L : List ByteArray} (h : NamesAt w ao cap L) : L.length ≤ cap := by
  obtain ⟨B, _, h2⟩ := h
  rcases h2 with ⟨_, hz⟩ | ⟨g, c, cur, e1, e2, e3, e4, _⟩
  · omega
  · simp only [Value.slice.injEq] at e1
    omega

/-- What is handed back: all names of the map, rising. -/
def GotNames (f : ByteArray → Option Value) (n : Nat) (W : World) (e : Ending) (w : World) : Prop :=
  ∃ (L : List ByteArray) (ao : Option Addr) (cap : Nat), e = .returned (.slice ao L.length cap) ∧ NamesAt w ao cap L ∧ L.length = n ∧ RiseN L ∧ (∀ k, k ∈ L ↔ (f k).isSome = true) ∧ Below W.heap.size W w

theorem names_of {w W w' : World} {b n : Nat} {f : ByteArray → Option Value} (D : DataW Value) (hown : w.ownsMap Tryd.prog 9 heldElem b n D) (hsz : Maps.size D = n) (hf : ∀ id, Maps.has D (keyS id) = (f id).isSome) {v : Value} {ss : List (List UInt8)} (hp : ss.Perm (strKeys D))
    (hrow : w'.ownsRow W.heap.size 9 1 v ss.length ((ss.mergeSort (fun x y => decide (x ≤ y))).map encStr)) (hb : Below W.heap.size W w') : GotNames f n W (.returned v) w' := by
  obtain ⟨es, hD, hpw, _⟩ := hown.entries lawStr
  obtain ⟨es', hD', hko⟩ := hown.keysOf
  obtain rfl : es = es' := by rw [hD] at hD'; simpa using hD'
  subst hD
  have hk : ∀ p ∈ es, ∃ x, p.1 = .string x := fun p hp => by
    obtain ⟨v, hv⟩ := hko p hp
    obtain ⟨x, _, hx, _⟩ := Maps.keyOf_str Tryd.underlying9 hv
    exact ⟨x, hx⟩
  have hnd : (strKeys (.map es)).Nodup := by
    show (es.map fun p => strOf p.1).Nodup
    refine List.pairwise_map.2 (hpw.imp_of_mem fun {p q} hp' hq' hne e => hne ?_)
    obtain ⟨a, ha⟩ := hk p hp'
    obtain ⟨b, hb⟩ := hk q hq'
    rw [ha, hb] at e ⊢
    exact congrArg _ e
  have hmem : ∀ x, x ∈ strKeys (.map es) ↔ has (.map es) (.string x) = true := fun x => by
    rw [has_eq, List.any_eq_true]
    show x ∈ es.map (fun p => strOf p.1) ↔ _
    rw [List.mem_map]
    constructor
    · rintro ⟨p, hp', rfl⟩
      obtain ⟨a, ha⟩ := hk p hp'
      exact ⟨p, hp', by rw [ha]; simp [Lit.sameKey, strOf]⟩
    · rintro ⟨p, hp', hs⟩
      obtain ⟨a, ha⟩ := hk p hp'
      rw [ha] at hs
      exact ⟨p, hp', by rw [ha]; simpa [Lit.sameKey, strOf] using hs⟩
  have hP2 : (ss.mergeSort (fun x y => decide (x ≤ y))).Perm (strKeys (.map es)) := (List.mergeSort_perm ss _).trans hp
  have hlen : ss.length = n := by
    rw [hp.length_eq, ← hsz, size_eq]
    show (es.map _).length = _
    rw [List.length_map]
  have hsort : (ss.mergeSort (fun x y => decide (x ≤ y))).Pairwise (fun a b => decide (a ≤ b) = true) :=
    List.pairwise_mergeSort (fun a b c h1 h2 => by simp only [decide_eq_true_eq] at *; exact List.le_trans h1 h2) (fun a b => by simp only [Bool.or_eq_true, decide_eq_true_eq]; exact List.le_total a b) ss
  have hnd2 : (ss.mergeSort (fun x y => decide (x ≤ y))).Nodup := hP2.nodup_iff.2 hnd
  generalize hm : ss.mergeSort (fun x y => decide (x ≤ y)) = m at *
  have hml : m.length = ss.length := by rw [← hm, List.length_mergeSort]
  have hstrict : m.Pairwise (fun a b => a < b) := by
    refine (hsort.and hnd2).imp (fun {a b} h => ?_)
    have h1 : a ≤ b := of_decide_eq_true h.1
    rcases List.le_iff_lt_or_eq.1 h1 with h2 | h2
    · exact h2
    · exact absurd h2 h.2
  have tl : ∀ x : List UInt8, (⟨x.toArray⟩ : ByteArray).toList = x := fun x => by rw [ByteArray.toList_eq]
  have eF : m.map encStr = flatK strK (m.map (fun x => (⟨x.toArray⟩ : ByteArray))) := by
    clear hm hsort hnd2 hstrict hml hP2 hrow
    induction m with
    | nil => rfl
    | cons x r ih =>
      rw [List.map_cons, List.map_cons, ih]
      rfl
  rw [eF] at hrow
  obtain ⟨ao, cap, rfl⟩ : ∃ ao cap, v = .slice ao ss.length cap := by
    rcases hrow.2 with ⟨rfl, hz⟩ | ⟨g, cap, cur, rfl, _⟩
    · exact ⟨none, 0, by rw [hz]⟩
    · exact ⟨_, _, rfl⟩
  have hl2 : ss.length = (m.map (fun x => (⟨x.toArray⟩ : ByteArray))).length := by rw [List.length_map, hml]
  rw [hl2] at hrow
  refine ⟨m.map (fun x => (⟨x.toArray⟩ : ByteArray)), ao, cap, by rw [← hl2], ⟨W.heap.size, hrow⟩, by rw [← hl2]; exact hlen, ?_, ?_, hb⟩
  · refine List.pairwise_map.2 (hstrict.imp (fun {a b} h => ?_))
    rw [tl, tl]
    exact h
  · intro k
    rw [← hf k, List.mem_map]
    have : Maps.has (DataW.map es) (keyS k) = true ↔ k.data.toList ∈ m := by
      rw [hP2.mem_iff, hmem]
      rfl
    rw [this]
    constructor
    · rintro ⟨x, hx, rfl⟩
      simpa using hx
    · intro h
      exact ⟨k.data.toList, h, by simp⟩

set_option maxHeartbeats 1000000 in
theorem sortedA_any (b n : Nat) (f : ByteArray → Option Value) (w : World) (h : SMap w b f n) (hn : n ≤ 1000000) :
    Calls Tryd.prog 30 #[.func (.func 52) #[] #[.pointer (some ⟨w.heap.size, 0, none⟩)]] (w.alloc (.cells #[.map (some b)] 69)) fun e w' => GotNames f n (w.alloc (.cells #[.map (some b)] 69)) e w' := by
  obtain ⟨D, hown, hsz, hf, _⟩ := h
  have hbl := hown.lt
  have hmax : Maps.size D ≤ maxLen := by rw [hsz]; unfold maxLen; omega
  have hbytes : Maps.size D * 16 ≤ 140737488355328 := by rw [hsz]; omega
  have hseq : SeqGives Fence.wide 2 Tryd.prog 52 #[.pointer (some ⟨w.heap.size, 0, none⟩)] encStr (fun ss => ss.Perm (strKeys D)) (Maps.size D) (w.alloc (.cells #[.map (some b)] 69)) :=
    AnyZ.keys_gives (ρ := keysA_ren) { keysA with } Fence.wide _ trivial rfl (by omega) w.heap.size b n D _ (by simp) (by simp) (by
      obtain ⟨es, clock, hb, Ft, hs, hD⟩ := hown
      exact ⟨es, clock, (Below.heap_alloc _ _ b hbl).trans hb, Ft, hs, hD⟩)
  have cS := AnyZ.sorted_in sortedS Fence.wide 5 trivial trivial trivial trivial rfl (by omega) (sortsS _) (enters_of Tryd.func51 (by kernel_rfl) rfl) 52 #[.pointer (some ⟨w.heap.size, 0, none⟩)] trivial (enters_of Tryd.func52 (by kernel_rfl) rfl) _ _ hmax hbytes _ hseq
  refine (callsIn_wide.1 cS).mono ?_
  rintro e w' ⟨v, ss, rfl, hp, hrow, _, hb⟩
  exact names_of D hown hsz hf hp hrow hb

set_option maxHeartbeats 1000000 in
theorem sortedV_any (b n : Nat) (f : ByteArray → Option Value) (w : World) (h : SMap w b f n) (hn : n ≤ 1000000) :
    Calls Tryd.prog 30 #[.func (.func 54) #[] #[.pointer (some ⟨w.heap.size, 0, none⟩)]] (w.alloc (.cells #[.map (some b)] 72)) fun e w' => GotNames f n (w.alloc (.cells #[.map (some b)] 72)) e w' := by
  obtain ⟨D, hown, hsz, hf, _⟩ := h
  have hbl := hown.lt
  have hmax : Maps.size D ≤ maxLen := by rw [hsz]; unfold maxLen; omega
  have hbytes : Maps.size D * 16 ≤ 140737488355328 := by rw [hsz]; omega
  have hseq : SeqGives Fence.wide 2 Tryd.prog 54 #[.pointer (some ⟨w.heap.size, 0, none⟩)] encStr (fun ss => ss.Perm (strKeys D)) (Maps.size D) (w.alloc (.cells #[.map (some b)] 72)) :=
    AnyZ.keys_gives (ρ := keysV_ren) { keysV with } Fence.wide _ trivial rfl (by omega) w.heap.size b n D _ (by simp) (by simp) (by
      obtain ⟨es, clock, hb, Ft, hs, hD⟩ := hown
      exact ⟨es, clock, (Below.heap_alloc _ _ b hbl).trans hb, Ft, hs, hD⟩)
  have cS := AnyZ.sorted_in sortedS Fence.wide 5 trivial trivial trivial trivial rfl (by omega) (sortsS _) (enters_of Tryd.func51 (by kernel_rfl) rfl) 54 #[.pointer (some ⟨w.heap.size, 0, none⟩)] trivial (enters_of Tryd.func54 (by kernel_rfl) rfl) _ _ hmax hbytes _ hseq
  refine (callsIn_wide.1 cS).mono ?_
  rintro e w' ⟨v, ss, rfl, hp, hrow, _, hb⟩
  exact names_of D hown hsz hf hp hrow hb

/-- A map copied: a new block that holds the same. -/
theorem cloneA_any (b n : Nat) (f : ByteArray → Option Value) (w : World) (h : SMap w b f n) :
    Calls Tryd.prog 48 #[.map (some b)] w fun e w' => e = .returned (.map (some w.heap.size)) ∧ SMap w' w.heap.size f n ∧ Below w.heap.size w w' := by
  obtain ⟨D, hown, hsz, hf, hg⟩ := h
  refine (AnyW.maps_Clone_owns cloneA 9 heldElem b n D w hown).mono ?_
  rintro e w' ⟨h1, h2, _, h4⟩
  exact ⟨h1, ⟨D, h2, hsz, hf, hg⟩, h4⟩

theorem cloneV_any (b n : Nat) (f : ByteArray → Option Value) (w : World) (h : SMap w b f n) :
    Calls Tryd.prog 49 #[.map (some b)] w fun e w' => e = .returned (.map (some w.heap.size)) ∧ SMap w' w.heap.size f n ∧ Below w.heap.size w w' := by
  obtain ⟨D, hown, hsz, hf, hg⟩ := h
  refine (AnyW.maps_Clone_owns cloneV 9 heldElem b n D w hown).mono ?_
  rintro e w' ⟨h1, h2, _, h4⟩
  exact ⟨h1, ⟨D, h2, hsz, hf, hg⟩, h4⟩
end Go.Proofs.YtajpfkenhchafaaDoor

/- What Copy does. -/
namespace Go.Proofs.YtajpfkenhchafaaDoor
open Go Go.RowKit
set_option linter.unusedVariables false

set_option maxRecDepth 100000 in
set_option maxHeartbeats 1000000 in
theorem copy22_any (w : World) (p : Nat) (S : Nat → Prop) (s : StF) (N : Nat) (h : PS w p S s N) :
    Calls Tryd.prog 28 #[.pointer (some ⟨p, 0, none⟩)] w fun e w' => GotState w s N e w' := by
  obtain ⟨a, v, -, hP⟩ := h
  obtain ⟨n1, hn1, hM⟩ := hP.acc
  obtain ⟨n2, hn2, hV⟩ := hP.val
  have hok := hP.ok
  have c0 := hP.box.cell (i := 0) rfl
  have c1 := hP.box.cell (i := 1) rfl
  have lp := hP.box.lt
  have hbd : Below w.heap.size w w.drew := below_drewN (Below.refl _ w) 1
  have cA := fun w1 (hb : Below w.heap.size w w1) => cloneA_any a n1 _ w1 (hM.below hb)
  have cV := fun w1 (hb : Below w.heap.size w w1) => cloneV_any v n2 _ w1 (hV.below hb)
  have hc := fun w1 (hb : Below w.heap.size w w1) => cell_same (hb.block _ lp)
  have hG : ∀ (w1 : World) (a' v' : Nat), Below w.heap.size w w1 → SMap w1 a' (accM s.acc) n1 → SMap w1 v' (valM s.val) n2 → w.heap.size ≤ a' → w.heap.size ≤ v' → a' ≠ v' → GotState w s N (.returned (.pointer (some ⟨w1.heap.size, 0, none⟩))) (w1.alloc (.cells #[.map (some a'), .map (some v')] 74)) := by
    intro w1 a' v' hb hA hV' e1 e2 e3
    have l1 := hA.lt
    have l2 := hV'.lt
    have hb2 := belowNew w1 (.cells #[.map (some a'), .map (some v')] 74)
    exact ⟨w1.heap.size, fun b => b = w1.heap.size ∨ b = a' ∨ b = v', rfl, ⟨a', v', fun b => Iff.rfl, ⟨Arr.new w1 74 [.map (some a'), .map (some v')], ⟨n1, hn1, hA.below hb2⟩, ⟨n2, hn2, hV'.below hb2⟩, by omega, by omega, e3, hok⟩⟩, fun b hb' => by have := hb.size; omega, hb.alloc hb.size _⟩
  have hd0 := hc _ hbd 0
  have hd1 := hc _ hbd 1
  rw [c0] at hd0
  rw [c1] at hd1
  clear hM hV hok hP
  generalize accM s.acc = f at *
  generalize valM s.val = g at *
  generalize hGG : GotState w s N = GG at *
  clear hGG
  go_enter Tryd.func28, Tryd.ntmps28
  go_wp2_with fail
  go_region_law (first
    | (go_simp; go_at_call 48; refine (cA _ hbd).mono ?_; rintro e wA ⟨rfl, hA, hbA⟩; have hbA2 := hbd.trans (hbA.mono hbd.size); have kA1 := (hc _ hbA2 1).trans c1; have lA := hA.lt)
    | (go_simp; go_at_call 49; refine (cV _ hbA2).mono ?_; rintro e wV ⟨rfl, hV, hbV⟩; have hbV2 := hbA2.trans (hbV.mono hbA2.size); have hA2 := hA.below hbV; have hfin := hG wV _ _ hbV2 hA2 hV))
  all_goals (
    have lA' : w.heap.size < wA.heap.size := lA
    have hfin' := hfin (Nat.le_refl _) (Nat.le_of_lt lA') (Nat.ne_of_lt lA')
    clear hfin hA2 hA hV hbV hbA hG cA cV hc kA1 lA hd0 hd1
    rename_i K hK
    refine hK _ _ ?_
    clear hK
    go_wp2
    go_ret
    exact hfin')
end Go.Proofs.YtajpfkenhchafaaDoor

/- The program's executor: how it lies; what New and State do. -/
namespace Go.Proofs.YtajpfkenhchafaaDoor
open Go Go.RowKit
set_option linter.unusedVariables false

/-- Its box, its state, its results: of the blocks S. -/
structure PX (w : World) (x : Nat) (S : Nat → Prop) (s : StF) (N : Nat) (r : List Nat) (n : Nat) : Prop where
  ex : ∃ p T q, Arr w x 56 [.pointer (some ⟨p, 0, none⟩), q, .int .i64 (n : Int)] ∧ PS w p T s N ∧ KQ natK 3 w 0 q r ∧ ¬ T x ∧ (∀ k, q.ownBlock = some k → k ≠ x ∧ ¬ T k) ∧ ∀ k, (k = x ∨ T k ∨ q.ownBlock = some k) → S k
  lt : ∀ k, S k → k < w.heap.size

theorem PX.kept {w w' : World} {x n N : Nat} {S Z : Nat → Prop} {s : StF} {r : List Nat} (h : PX w x S s N r n) (hk : Kept Z w w') (hd : ∀ k, S k → ¬ Z k) : PX w' x S s N r n := by
  obtain ⟨p, T, q, h1, h2, h3, h4, h5, h6⟩ := h.ex
  exact ⟨⟨p, T, q, h1.kept hk (hd x (h6 x (Or.inl rfl))), h2.kept hk (fun k e => hd k (h6 k (Or.inr (Or.inl e)))), h3.kept hk (fun k e => hd k (h6 k (Or.inr (Or.inr e)))) (fun _ _ _ h => h.elim), h4, h5, h6⟩, fun k e => Nat.lt_of_lt_of_le (h.lt k e) hk.size⟩

theorem PX.below {w w' : World} {x n N : Nat} {S : Nat → Prop} {s : StF} {r : List Nat} (h : PX w x S s N r n) (hb : Below w.heap.size w w') : PX w' x S s N r n := by
  obtain ⟨p, T, q, h1, h2, h3, h4, h5, h6⟩ := h.ex
  exact ⟨⟨p, T, q, h1.below hb h1.lt, h2.below hb, h3.below hb, h4, h5, h6⟩, fun k e => Nat.lt_of_lt_of_le (h.lt k e) hb.size⟩

set_option maxRecDepth 100000 in
set_option maxHeartbeats 2000000 in
theorem exNew_any (rich : List ByteArray) (ao : Option Addr) (cp : Nat) (funds : Nat) (W : World) (hR : RowAt strK W ao rich) (hz : ∀ s ∈ rich, s.size ≤ maxLen) (hl : rich.length ≤ 1000) :
    Calls Tryd.prog 10 #[.slice ao rich.length cp, .int .u64 (funds : Int)] W fun e w' => GotExe PX W (newF rich funds) rich.length e w' := by
  have cN := new22_any rich ao cp funds W hR hz hl
  go_enter Tryd.func10, Tryd.ntmps10
  go_wp2_with (go_at_call 23; refine cN.mono ?_; rintro _ w1 ⟨p, T, rfl, h1, h2, hb1⟩)
  go_ret
  have hX := Arr.new w1 56 [.pointer (some ⟨p, 0, none⟩), .slice none 0 0, .int .i64 ((0 : Nat) : Int)]
  have hbn := belowNew w1 (.cells #[.pointer (some ⟨p, 0, none⟩), .slice none 0 0, .int .i64 ((0 : Nat) : Int)] 56)
  have hT1 : ∀ k, T k → k < w1.heap.size := fun k e => h1.lt e
  refine ⟨w1.heap.size, fun k => k = w1.heap.size ∨ T k, rfl, ⟨⟨p, T, _, hX, h1.below hbn, KQ.empty _ _ _ _, fun e => by have := hT1 _ e; omega, fun k e => by simp [Value.ownBlock] at e, fun k e => ?_⟩, fun k e => ?_⟩, fun k e => ?_, hb1.trans (hbn.mono hb1.size)⟩
  · rcases e with e | e | e
    · exact Or.inl e
    · exact Or.inr e
    · simp [Value.ownBlock] at e
  · rcases e with e | e
    · rw [e]; exact hX.lt
    · exact Nat.lt_of_lt_of_le (hT1 k e) hbn.size
  · rcases e with e | e
    · rw [e]; exact hb1.size
    · exact h2 k e

set_option maxRecDepth 100000 in
set_option maxHeartbeats 2000000 in
theorem exState_any (W : World) (x : Nat) (S : Nat → Prop) (s : StF) (N : Nat) (r : List Nat) (n : Nat) (h : PX W x S s N r n) :
    Calls Tryd.prog 14 #[.pointer (some ⟨x, 0, none⟩)] W fun e w' => GotState W s N e w' := by
  obtain ⟨p, T, q, h1, h2, -⟩ := h.ex
  have c0 := h1.cell (i := 0) rfl
  have cC := copy22_any W p T s N h2
  go_enter Tryd.func14, Tryd.ntmps14
  go_wp2_with (go_at_call 28; refine cC.mono ?_; rintro _ w1 ⟨p2, T2, rfl, g1, g2, hb1⟩)
  go_ret
  exact ⟨p2, T2, rfl, g1, g2, hb1⟩
end Go.Proofs.YtajpfkenhchafaaDoor
