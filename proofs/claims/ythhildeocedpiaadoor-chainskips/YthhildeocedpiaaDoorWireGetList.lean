/- What wire.GetList does: the texts at the front of bytes, in new memory, in how many bytes, and the error; nothing old in memory is turned. -/
import Derived.Test.YthhildeocedpiaaDoorWireList
namespace Go.Proofs.YthhildeocedpiaaDoor
open Go.RowKit

/-- m texts more, from a place on, behind those that are got. -/
def glGo (l : List UInt8) : Nat → Nat → List (List UInt8) → List (List UInt8) × Nat × Nat
  | 0, at_, acc => (acc, at_, 0)
  | m + 1, at_, acc => if (getText (l.drop at_)).2.2 ≠ 0 then ([], 0, (getText (l.drop at_)).2.2) else glGo l m (at_ + (getText (l.drop at_)).2.1) (acc ++ [(getText (l.drop at_)).1])

def getList (l : List UInt8) (most : Int) : List (List UInt8) × Nat × Nat :=
  if (getInt l).2.2 ≠ 0 then ([], 0, (getInt l).2.2)
  else if most < (getInt l).1 then ([], 0, 8)
  else glGo l (getInt l).1 (getInt l).2.1 []

def strVal (t : List UInt8) : Value := .string ⟨t.toArray⟩

def slLen : Value → Nat | .slice _ n _ => n | _ => 0

theorem infoString : (Tryd.prog.info? 9).map (fun i => (i.zero, i.size, i.bytes)) = some (some (.string ⟨#[]⟩), 1, 16) := by kernel_rfl

theorem strVal_one (l : List (List UInt8)) : ∀ u ∈ l.map strVal, u.oneCell' = true := by
  intro u hu
  obtain ⟨b, _, rfl⟩ := List.mem_map.1 hu
  rfl

theorem extract_drop (s : ByteArray) (a : Nat) : (s.extract a s.size).data.toList = s.data.toList.drop a := by
  rw [extract_list]
  rw [List.take_of_length_le (by simp)]

theorem own_slice {w : World} {B : Nat} {e : TypeId} {v : Value} {n : Nat} {xs : List Value} (h : w.ownsRow B e 1 v n xs) : ∃ ao cap, v = .slice ao n cap := by
  rcases h.2 with ⟨rfl, rfl⟩ | ⟨g, cap, cur, rfl, _⟩
  · exact ⟨_, _, rfl⟩
  · exact ⟨_, _, rfl⟩

theorem getText_at (s : ByteArray) (w : World) (t : List UInt8) (k er : Nat) (hs : s.size ≤ maxLen) (hr : getText s.data.toList = (t, k, er)) :
    Calls Tryd.prog 58 #[.string s] w fun e w' => e = .returned (.tuple #[.string ⟨t.toArray⟩, .int .i64 k, .int .i64 er]) ∧ w' = w := by
  have h := getText_any s w hs
  rw [hr] at h
  exact h

def GotList (w w' : World) (r : List (List UInt8) × Nat × Nat) (v : Value) : Prop :=
  ∃ ao cap, v = .tuple #[.slice ao r.1.length cap, .int .i64 r.2.1, .int .i64 r.2.2] ∧ w'.ownsRow w.heap.size 9 1 (.slice ao r.1.length cap) r.1.length (r.1.map strVal)

set_option maxRecDepth 100000 in
set_option maxHeartbeats 1000000 in
theorem getList_any (s : ByteArray) (most : Int) (w : World) (R : Nat) (hs : s.size ≤ maxLen) (hR : s.size ≤ R ∨ most ≤ R) (hroom : R * 16 ≤ 140737488355328) :
    Calls Tryd.prog 59 #[.string s, .int .i64 most] w fun e w' => ∃ v, e = .returned v ∧ GotList w w' (getList s.data.toList most) v ∧ Below w.heap.size w w' := by
  obtain ⟨i0, hi, hz0, hz1, hz2⟩ := info_parts infoString
  have hs0 : Hid (s.size ≤ maxLen) := hs
  unfold maxLen at hs
  rcases hr : getInt s.data.toList with ⟨n, k, er⟩
  have HR : Hid (getInt s.data.toList = (n, k, er)) := hr
  by_cases h1 : er = 0
  · subst h1
    have hb := getInt_bounds _ n k hr
    have hsz : s.data.toList.length = s.size := by simp
    rw [hsz] at hb
    have hb1 := hb.1
    have hb2 := hb.2.1
    have hb3 := hb.2.2
    by_cases h2 : most < (n : Int)
    · have H : Hid (getList s.data.toList most = ([], 0, 8)) := by
        show _ = _
        simp [getList, hr, h2]
      clear hr hb hsz
      go_enter Tryd.func59, Tryd.ntmps59
      go_wp2_with fail
      refine (getInt_at s _ n k _ hs0.out HR.out).mono ?_
      rintro e w' ⟨rfl, rfl⟩
      go_wp2
      go_ret3
      refine ⟨_, rfl, ?_, Below.refl _ _⟩
      rw [H.out]
      exact ⟨none, 0, rfl, World.ownsRow_nil _ _ _ _⟩
    · have H : Hid (getList s.data.toList most = glGo s.data.toList n k []) := by
        show _ = _
        simp [getList, hr, h2]
      clear hr hb hsz
      go_enter Tryd.func59, Tryd.ntmps59
      go_wp2_with fail
      refine (getInt_at s _ n k _ hs0.out HR.out).mono ?_
      rintro e w' ⟨rfl, rfl⟩
      go_wp2
      go_loopw [8, 10] (fun v8 v10 wr => ∃ (ts : List (List UInt8)) (p : Nat) (ao : Option Addr) (cap : Nat), v8 = .int .i64 p ∧ v10 = .slice ao ts.length cap ∧ wr.ownsRow w'.heap.size 9 1 (.slice ao ts.length cap) ts.length (ts.map strVal) ∧ Below w'.heap.size w' wr ∧ p ≤ s.size ∧ ts.length + 1 ≤ p ∧ ts.length ≤ n ∧ Hid (getList s.data.toList most = glGo s.data.toList (n - ts.length) p ts)) (fun _ v10 _ => n - slLen v10)
      case atStart => exact ⟨[], k, none, 0, rfl, rfl, World.ownsRow_nil _ _ _ _, Below.refl _ _, hb3, by simpa using hb2, Nat.zero_le _, H⟩
      case round =>
        clear H
        obtain ⟨ts, p, ao, cap, rfl, rfl, hown, hbel, hp, htp, htn, HG⟩ := hrel
        by_cases hlt : ts.length < n
        · rcases ht : getText (s.data.toList.drop p) with ⟨t, j, et⟩
          obtain ⟨m, hm⟩ : ∃ m, n - ts.length = m + 1 := ⟨n - ts.length - 1, by omega⟩
          have HT : Hid (getText (s.extract p s.size).data.toList = (t, j, et)) := by
            show _ = _
            rw [extract_drop]; exact ht
          have hsl : Hid ((s.extract p s.size).size ≤ maxLen) := by
            show _ ≤ _
            rw [ByteArray.size_extract]
            unfold maxLen
            omega
          by_cases h3 : et = 0
          · subst h3
            have hj := getText_bounds _ t j ht
            have hjl : (s.data.toList.drop p).length = s.size - p := by simp
            rw [hjl] at hj
            have HG' : Hid (getList s.data.toList most = glGo s.data.toList (n - (ts ++ [t]).length) (p + j) (ts ++ [t])) := by
              have h := HG.out
              rw [hm, glGo, ht] at h
              have e1 : n - (ts ++ [t]).length = m := by simp; omega
              rw [e1]
              show _ = _
              simpa using h
            have hj1 := hj.1
            have hj2 := hj.2.1
            have hRt : (ts.length + 1) * 16 ≤ 140737488355328 := by
              have : ts.length + 1 ≤ R := by rcases hR with h | h <;> omega
              omega
            have hszw := hbel.size
            clear hj hjl ht HG hm
            go_wp2_with fail
            refine (getText_at _ _ t j 0 hsl.out HT.out).mono ?_
            rintro e w1 ⟨rfl, rfl⟩
            go_wp2_with (at_builtin; refine wpList_append_own _ rfl _ _ 23 rfl w'.heap.size 9 i0 (.string ⟨#[]⟩) 1 16 Tryd.underlying23 hi hz0 hz1 hz2 rfl (by decide) _ _ _ rfl (hown.alloc _) ⟨w1.heap.size, 0, none⟩ 1 1 [strVal t] rfl rfl ?c1 ?c2 ?c3 ?c4 ?c5 ?_)
            case c1 =>
              intro i u hj
              match i, hj with
              | 0, hj => simp at hj; subst hj; simp [Addr.add, strVal]
            case c2 => intro u hu; simp at hu; subst hu; rfl
            case c3 => unfold maxLen; omega
            case c4 => exact hRt
            case c5 => simp; omega
            · intro v' w2 hown' hgrow _
              have hb2 : Below w'.heap.size w' w2 := (hbel.alloc hszw _).grown hgrow (by simp; omega) (fun q hq => (hown.lt q hq).1)
              obtain ⟨ao', cap', rfl⟩ := own_slice hown'
              have hlt1 : (ts ++ [t]).length = ts.length + 1 := by simp
              have hown2 : w2.ownsRow w'.heap.size 9 1 (.slice ao' (ts ++ [t]).length cap') (ts ++ [t]).length ((ts ++ [t]).map strVal) := by
                rw [hlt1]
                simpa using hown'
              clear hown' hgrow hown hbel
              go_wp2
              go_roundw
              case rel => exact ⟨ts ++ [t], p + j, ao', cap', by go_num, by rw [hlt1], hown2, hb2, by omega, by omega, by omega, HG'⟩
              case measure => simp [slLen]; omega
          · have hne : ((et : Int) != 0) = true := by rw [bne_iff_ne]; omega
            have HE : Hid (getList s.data.toList most = ([], 0, et)) := by
              have h := HG.out
              rw [hm, glGo, ht] at h
              show _ = _
              simpa [h3] using h
            clear HG ht hm hown
            go_wp2_with fail
            refine (getText_at _ _ t j et hsl.out HT.out).mono ?_
            rintro e w1 ⟨rfl, rfl⟩
            go_wp2
            go_ret3
            refine ⟨_, rfl, ?_, hbel⟩
            rw [HE.out]
            exact ⟨none, 0, rfl, World.ownsRow_nil _ _ _ _⟩
        · have HE : Hid (getList s.data.toList most = (ts, p, 0)) := by
            have h := HG.out
            have e1 : n - ts.length = 0 := by omega
            rw [e1, glGo] at h
            exact h
          clear HG
          go_wp2
          go_ret3
          refine ⟨_, rfl, ?_, hbel⟩
          rw [HE.out]
          exact ⟨ao, cap, rfl, hown⟩
  · have hne : ((er : Int) != 0) = true := by rw [bne_iff_ne]; omega
    have H : Hid (getList s.data.toList most = ([], 0, er)) := by
      show _ = _
      simp [getList, hr, h1]
    clear hr
    go_enter Tryd.func59, Tryd.ntmps59
    go_wp2_with fail
    refine (getInt_at s _ n k _ hs0.out HR.out).mono ?_
    rintro e w' ⟨rfl, rfl⟩
    go_wp2
    go_ret3
    refine ⟨_, rfl, ?_, Below.refl _ _⟩
    rw [H.out]
    exact ⟨none, 0, rfl, World.ownsRow_nil _ _ _ _⟩
end Go.Proofs.YthhildeocedpiaaDoor
