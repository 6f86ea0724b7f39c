/- Texts as one: AuthWire, AuthBase, AuthNew, AuthSign, AuthCheck, AuthEnough, AuthTagList, AuthMath, AuthWorks. -/
import Derived.Test.YthhildeocedpiaaDoorWireMath
import Derived.Test.YthhildeocedpiaaDoorRows
import Derived.WalkKit
import Derived.WalkSpells
import Derived.WalkLawsBesides
import Derived.Below
import Derived.Test.YthhildeocedpiaaDoorMixAll
import Derived.Deep.RegionLaw
import Derived.Deep.AppendLies
import Derived.Laws.ResultCell
/- What wire.Int does: the bytes of a number, or nothing; nothing old in memory is turned. -/
namespace Go.Proofs.YthhildeocedpiaaDoor.Mx
open Go.RowKit

theorem w_infoByte : (Tryd.prog.info? 5).map (fun i => (i.zero, i.size, i.bytes)) = some (some (.int .u8 0), 1, 1) := by kernel_rfl

def w_byteVal (b : UInt8) : Value := .int .u8 (b.toNat : Int)

theorem w_byteVal_one (l : List UInt8) : ∀ u ∈ l.map w_byteVal, u.oneCell' = true := by
  intro u hu
  obtain ⟨b, _, rfl⟩ := List.mem_map.1 hu
  rfl

theorem or_128 : ∀ a : Nat, a < 256 → a ||| 128 = 128 + a % 128 := by decide +kernel

theorem byte_more (m : Nat) : Value.int .u8 (bits .or .u8 ((m : Int) % 256) 128) = w_byteVal (UInt8.ofNat (128 + m % 128)) := by
  have h := u8_or_nat (m % 256) 128 (by omega) (by omega)
  have e : ((m : Int) % 256) = ((m % 256 : Nat) : Int) := by omega
  unfold w_byteVal
  rw [e]
  rw [show ((128 : Int)) = ((128 : Nat) : Int) from rfl, h, or_128 _ (by omega)]
  congr 1
  simp
  omega

theorem byte_last (m : Nat) (h : m < 128) : Value.int .u8 (m : Int) = w_byteVal (UInt8.ofNat m) := by
  unfold w_byteVal
  congr 1
  simp
  omega

/-- An owned row of bytes, made a string. -/
theorem w_own_string {w : World} {B : Nat} {v : Value} {l : List UInt8} (h : w.ownsRow B 5 1 v l.length (l.map w_byteVal)) :
    (convert 72 9 v).run Tryd.prog w = .ok (.string ⟨l.toArray⟩) w := by
  rcases h.2 with ⟨rfl, hn⟩ | ⟨g, cap, cur, rfl, _⟩
  · rw [List.length_eq_zero_iff] at hn
    subst hn
    exact run_convert_bytes_nil w 72 5 Tryd.underlying72 Tryd.underlying5 0 0 9 Tryd.underlying9
  · refine run_convert_bytes_back w 72 9 5 ⟨g, 0, none⟩ cap l Tryd.underlying72 Tryd.underlying5 Tryd.underlying9 (fun j hj => ?_)
    exact h.cells rfl j _ (by simp [List.getElem?_eq_getElem hj, w_byteVal])

set_option maxRecDepth 100000 in
set_option maxHeartbeats 400000 in
theorem int_yes (n : Nat) (w : World) (hn : n ≤ 4611686018427387903) :
    Calls Tryd.prog 47 #[.int .i64 n] w fun e w' => e = .returned (.string ⟨(enc n).toArray⟩) ∧ Below w.heap.size w w' := by
  obtain ⟨i0, hi, hz0, hz1, hz2⟩ := info_parts w_infoByte
  have h0 : ¬ ((n : Int) < 0) := by omega
  have h1 : ¬ ((4611686018427387903 : Int) < n) := by omega
  go_enter Tryd.func47, Tryd.ntmps47
  go_wp2
  go_loopw [0, 3] (fun v0 v3 wr => ∃ (m : Nat) (pre : List UInt8), m ≤ n ∧ v0 = .int .i64 m ∧ wr.ownsRow w.heap.size 5 1 v3 pre.length (pre.map w_byteVal) ∧ Below w.heap.size w wr ∧ Hid (pre ++ enc m = enc n)) (fun v0 _ _ => (intOf v0).toNat)
  case atStart => exact ⟨n, [], Nat.le_refl _, rfl, World.ownsRow_nil _ _ _ _, Below.refl _ _, rfl⟩
  case round =>
    obtain ⟨m, pre, hm, rfl, hown, hb, hpre⟩ := hrel
    have hlen : pre.length ≤ 9 := by
      have h9 := enc_length_nine n hn
      have h8 := congrArg List.length hpre.out
      simp at h8; omega
    have hsz := hb.size
    by_cases hlt : 128 ≤ m
    · go_wp2_with (at_builtin; refine wpList_append_own _ rfl _ _ 72 rfl w.heap.size 5 i0 (.int .u8 0) 1 1 Tryd.underlying72 hi hz0 hz1 hz2 rfl (by decide) _ _ _ rfl (hown.alloc _) ⟨wr.heap.size, 0, none⟩ 1 1 [w_byteVal (UInt8.ofNat (128 + m % 128))] rfl rfl ?c1 ?c2 ?c3 ?c4 ?c5 ?_)
      case c1 =>
        intro j u hj
        match j, hj with
        | 0, hj => simp at hj; subst hj; simp [Addr.add, byte_more]
      case c2 => intro u hu; simp at hu; subst hu; rfl
      case c3 => unfold maxLen; omega
      case c4 => omega
      case c5 => simp; omega
      · intro v' w1 hown' hgrow _
        have hb1 : Below w.heap.size w w1 := (hb.alloc hsz _).grown hgrow (by simp; omega) (fun k hk => (hown.lt k hk).1)
        have hown1 : w1.ownsRow w.heap.size 5 1 v' (pre ++ [UInt8.ofNat (128 + m % 128)]).length ((pre ++ [UInt8.ofNat (128 + m % 128)]).map w_byteVal) := by
          simpa using hown'
        have hp1 : Hid ((pre ++ [UInt8.ofNat (128 + m % 128)]) ++ enc (m / 128) = enc n) := by
          have := hpre.out
          rw [enc_big m hlt] at this
          show _ = _
          simpa using this
        clear hown' hgrow hown hpre hb
        go_wp2
        go_roundw
        case rel => exact ⟨m / 128, _, by omega, by go_num, hown1, hb1, hp1⟩
        case measure => simp [intOf]; omega
    · go_wp2_with (at_builtin; refine wpList_append_own _ rfl _ _ 72 rfl w.heap.size 5 i0 (.int .u8 0) 1 1 Tryd.underlying72 hi hz0 hz1 hz2 rfl (by decide) _ _ _ rfl (hown.alloc _) ⟨wr.heap.size, 0, none⟩ 1 1 [w_byteVal (UInt8.ofNat m)] rfl rfl ?d1 ?d2 ?d3 ?d4 ?d5 ?_)
      case d1 =>
        intro j u hj
        match j, hj with
        | 0, hj => simp at hj; subst hj; simp [Addr.add, byte_last m (by omega)]
      case d2 => intro u hu; simp at hu; subst hu; rfl
      case d3 => unfold maxLen; omega
      case d4 => omega
      case d5 => simp; omega
      · intro v' w1 hown' hgrow _
        have hb1 : Below w.heap.size w w1 := (hb.alloc hsz _).grown hgrow (by simp; omega) (fun k hk => (hown.lt k hk).1)
        have hown1 : w1.ownsRow w.heap.size 5 1 v' (pre ++ [UInt8.ofNat m]).length ((pre ++ [UInt8.ofNat m]).map w_byteVal) := by
          simpa using hown'
        have hp1 : pre ++ [UInt8.ofNat m] = enc n := by
          have := hpre.out
          rw [enc_small m (by omega)] at this
          exact this
        rw [hp1] at hown1
        have hcv := w_own_string hown1
        clear hown' hgrow hown hpre hb hp1 hown1
        go_wp2
        go_ret
        exact ⟨rfl, hb1⟩

set_option maxRecDepth 100000 in
set_option maxHeartbeats 400000 in
theorem int_no (n : Int) (w : World) (h : n < 0 ∨ 4611686018427387903 < n) :
    Calls Tryd.prog 47 #[.int .i64 n] w fun e w' => e = .returned (.string ⟨#[]⟩) ∧ w' = w := by
  rcases h with h | h
  · go_enter Tryd.func47, Tryd.ntmps47
    go_wp2
    go_ret
    exact ⟨rfl, rfl⟩
  · have h0 : ¬ n < 0 := by omega
    go_enter Tryd.func47, Tryd.ntmps47
    go_wp2
    go_ret
    exact ⟨rfl, rfl⟩

theorem int_any (n : Int) (w : World) :
    Calls Tryd.prog 47 #[.int .i64 n] w fun e w' => e = .returned (.string ⟨(goInt n).toArray⟩) ∧ Below w.heap.size w w' := by
  by_cases h : 0 ≤ n ∧ n ≤ 4611686018427387903
  · obtain ⟨m, rfl⟩ := Int.eq_ofNat_of_zero_le h.1
    have e : goInt (m : Int) = enc m := by rw [goInt, if_pos h]; simp
    rw [e]
    exact int_yes m w (by omega)
  · have e : goInt n = [] := by rw [goInt, if_neg h]
    rw [e]
    refine (int_no n w (by omega)).mono ?_
    rintro e w' ⟨rfl, rfl⟩
    exact ⟨rfl, Below.refl _ _⟩
theorem mk_list (s : ByteArray) : (⟨s.data.toList.toArray⟩ : ByteArray) = s := by simp

theorem append_list (l : List UInt8) (s : ByteArray) : (⟨l.toArray⟩ ++ s : ByteArray) = ⟨(l ++ s.data.toList).toArray⟩ := by
  have := ByteArray.mk_append_mk l s.data.toList
  rw [mk_list] at this
  exact this

theorem goInt_length (n : Int) : (goInt n).length ≤ 9 := by
  unfold goInt
  split
  · exact enc_length_nine _ (by omega)
  · simp

theorem extract_list (s : ByteArray) (a b : Nat) : s.extract a b = ⟨((s.data.toList.drop a).take (b - a)).toArray⟩ := by
  apply ByteArray.ext
  rw [ByteArray.data_extract]
  apply Array.ext'
  simp [List.extract]

set_option maxRecDepth 100000 in
set_option maxHeartbeats 400000 in
theorem w_text_any (s : ByteArray) (w : World) (hs : s.size ≤ 140737488351232000) :
    Calls Tryd.prog 48 #[.string s] w fun e w' => e = .returned (.string ⟨(txt s.data.toList).toArray⟩) ∧ Below w.heap.size w w' := by
  have hg := goInt_length s.size
  have e1 : ∀ l : List UInt8, l = goInt s.size → Value.string (⟨l.toArray⟩ ++ s) = Value.string ⟨(txt s.data.toList).toArray⟩ := by
    rintro l rfl
    rw [append_list, txt]
    simp
  go_enter Tryd.func48, Tryd.ntmps48
  go_wp2_with fail
  refine (int_any _ _).mono ?_
  rintro e w' ⟨rfl, hb⟩
  obtain ⟨l, hl⟩ : ∃ l, l = goInt s.size := ⟨_, rfl⟩
  rw [← hl] at hg ⊢
  have E := e1 l hl
  clear e1 hl
  go_wp2
  go_ret
  exact ⟨rfl, hb⟩

end Go.Proofs.YthhildeocedpiaaDoor.Mx

/- A table of keys in memory; N, Need and has. -/
namespace Go.Proofs.YthhildeocedpiaaDoor.Mx
open Go.RowKit
set_option linter.unusedVariables false

/-- A row of strings lies at an address (of no strings: whatever the address). -/
def StrsAt (w : World) (ao : Option Addr) (ss : List ByteArray) : Prop :=
  ∀ j (h : j < ss.length), ∃ b off, ao = some ⟨b, off, none⟩ ∧ b < w.heap.size ∧ w.cell? ⟨b, off + j, none⟩ = some (.string ss[j])

theorem StrsAt.below {w w' : World} {ao : Option Addr} {ss : List ByteArray} (h : StrsAt w ao ss) (hb : Below w.heap.size w w') : StrsAt w' ao ss := by
  intro j hj
  obtain ⟨b, off, h1, h2, h3⟩ := h j hj
  exact ⟨b, off, h1, Nat.lt_of_lt_of_le h2 hb.size, by rw [hb.cell (p := ⟨b, off + j, none⟩) h2]; exact h3⟩

/-- A table in memory: f, and the keys. -/
structure TabAt (w : World) (b : Nat) (f : Nat) (ks : List ByteArray) : Prop where
  lt : b < w.heap.size
  c0 : w.cell? ⟨b, 0, none⟩ = some (.int .i64 (f : Int))
  c1 : ∃ a cap, w.cell? ⟨b, 1, none⟩ = some (.slice a ks.length cap) ∧ StrsAt w a ks

theorem TabAt.below {w w' : World} {b f : Nat} {ks : List ByteArray} (h : TabAt w b f ks) (hb : Below w.heap.size w w') : TabAt w' b f ks := by
  obtain ⟨a, cap, h1, h2⟩ := h.c1
  refine ⟨Nat.lt_of_lt_of_le h.lt hb.size, ?_, a, cap, ?_, h2.below hb⟩
  · rw [hb.cell (p := ⟨b, 0, none⟩) h.lt]; exact h.c0
  · rw [hb.cell (p := ⟨b, 1, none⟩) h.lt]; exact h1

set_option maxRecDepth 100000 in
theorem n_any (b f : Nat) (ks : List ByteArray) (w : World) (h : TabAt w b f ks) (hf : f ≤ 2) :
    Calls Tryd.prog 68 #[.pointer (some ⟨b, 0, none⟩)] w fun e w' => e = .returned (.int .i64 ((3 * f + 1 : Nat) : Int)) ∧ w' = w := by
  have c0 := h.c0
  go_enter Tryd.func68, Tryd.ntmps68
  go_wp2
  go_ret
  exact ⟨by go_num, rfl⟩

set_option maxRecDepth 100000 in
theorem need_any (b f : Nat) (ks : List ByteArray) (w : World) (h : TabAt w b f ks) (hf : f ≤ 2) :
    Calls Tryd.prog 90 #[.pointer (some ⟨b, 0, none⟩)] w fun e w' => e = .returned (.int .i64 ((2 * f + 1 : Nat) : Int)) ∧ w' = w := by
  have c0 := h.c0
  go_enter Tryd.func90, Tryd.ntmps90
  go_wp2
  go_ret
  exact ⟨by go_num, rfl⟩

set_option maxRecDepth 100000 in
theorem has_yes (b f : Nat) (ks : List ByteArray) (who : Int) (w : World) (h : TabAt w b f ks) (h0 : 0 ≤ who) (h1 : who < (ks.length : Int)) :
    Calls Tryd.prog 100 #[.pointer (some ⟨b, 0, none⟩), .int .i64 who] w fun e w' => e = .returned (.bool true) ∧ w' = w := by
  obtain ⟨a, cap, c1, _⟩ := h.c1
  go_enter Tryd.func100, Tryd.ntmps100
  go_wp2
  go_ret
  exact ⟨rfl, rfl⟩

set_option maxRecDepth 100000 in
theorem has_no (b f : Nat) (ks : List ByteArray) (who : Int) (w : World) (h : TabAt w b f ks) (hn : who < 0 ∨ (ks.length : Int) ≤ who) :
    Calls Tryd.prog 100 #[.pointer (some ⟨b, 0, none⟩), .int .i64 who] w fun e w' => e = .returned (.bool false) ∧ w' = w := by
  obtain ⟨a, cap, c1, _⟩ := h.c1
  by_cases h0 : 0 ≤ who
  · have h1 : ¬ who < (ks.length : Int) := by omega
    go_enter Tryd.func100, Tryd.ntmps100
    go_wp2
    go_ret
    exact ⟨rfl, rfl⟩
  · go_enter Tryd.func100, Tryd.ntmps100
    go_wp2
    go_ret
    exact ⟨rfl, rfl⟩
end Go.Proofs.YthhildeocedpiaaDoor.Mx

/- What auth.New does: a table in new memory, or none; nothing old in memory is turned. -/
namespace Go.Proofs.YthhildeocedpiaaDoor.Mx
open Go.RowKit Go.Sort
set_option linter.unusedVariables false

/-- A validator's key. -/
def keyOf (seed : ByteArray) (i : Nat) : ByteArray := bytes (keyedL seed.data.toList (goInt i))
def keysL (seed : ByteArray) (n : Nat) : List ByteArray := (List.range n).map (keyOf seed)
theorem keysL_len (seed : ByteArray) (n : Nat) : (keysL seed n).length = n := by simp [keysL]
theorem keysL_succ (seed : ByteArray) (n : Nat) : keysL seed (n + 1) = keysL seed n ++ [keyOf seed n] := by simp [keysL, List.range_succ]

theorem infoStr : (Tryd.prog.info? 9).map (fun i => (i.zero, i.size, i.bytes)) = some (some (.string ⟨#[]⟩), 1, 16) := by kernel_rfl

theorem own_strs {w : World} {B : Nat} {v : Value} {l : List ByteArray} (h : w.ownsRow B 9 1 v l.length (l.map Value.string)) :
    ∃ a cap, v = .slice a l.length cap ∧ StrsAt w a l := by
  rcases h.2 with ⟨rfl, hn⟩ | ⟨g, cap, cur, rfl, _⟩
  · refine ⟨none, 0, by rw [hn], fun j hj => by omega⟩
  · refine ⟨_, cap, rfl, fun j hj => ⟨g, 0, rfl, ?_, ?_⟩⟩
    · exact (h.lt g rfl).2
    · have := h.cells rfl j (.string l[j]) (by simp [hj])
      rw [Addr.add_mid] at this
      exact this

theorem own_below {B : Nat} {e : TypeId} {k : Nat} {v : Value} {n : Nat} {xs : List Value} {w w' : World} (h : w.ownsRow B e k v n xs) (hb : Below w.heap.size w w') : w'.ownsRow B e k v n xs := by
  refine ⟨h.1, h.2.imp id ?_⟩
  rintro ⟨g, cap, cur, hv, h1, hg, h2⟩
  refine ⟨g, cap, cur, hv, h1, ?_, h2⟩
  rw [hb.block g ((Array.getElem?_eq_some_iff.1 hg).1), hg]

theorem new_cell (w : World) (k : ByteArray) : ∀ j u, ([.string k] : List Value)[j]? = some u → (w.alloc (.cells #[.string k] 9)).cell? ((⟨w.heap.size, 0, none⟩ : Addr).add j) = some u := by
  intro j u hj
  rw [Addr.add_mid]
  exact (Arr.new w 9 [.string k]).cell (by simpa using hj)

theorem one_str (k : ByteArray) : ∀ u ∈ ([.string k] : List Value), u.oneCell' = true := by
  intro u hu
  simp at hu
  subst hu
  rfl

theorem tab_below {wr w2 w3 : World} {B : Nat} {t : TypeId} {cs : List Value} {o : Obj} {e : TypeId} {size : Nat} {v : Value} {n : Nat} {xs : List Value} (hA : Arr wr B t cs) (hb : Below wr.heap.size wr w2) (hN : B + 1 ≤ (w2.alloc o).heap.size)
    (hO : (w2.alloc o).ownsRow (B + 1) e size v n xs) (hg : (w2.alloc o).grownBy w3 v.ownBlock) : Below (B + 1) wr w3 :=
  ((hb.mono hA.lt).alloc (Nat.le_trans hA.lt hb.size) o).grown hg hN (fun k hk => (hO.lt k hk).1)

set_option maxRecDepth 100000 in
theorem new_range (f : Int) (seed : ByteArray) (w : World) (h : f < 1 ∨ 2 < f) :
    Calls Tryd.prog 54 #[.int .i64 f, .string seed] w fun e w' => e = .returned (.tuple #[.pointer none, .int .i64 2]) ∧ w' = w := by
  by_cases h1 : f < 1
  · go_enter Tryd.func54, Tryd.ntmps54
    go_wp2
    go_ret2
    exact ⟨rfl, rfl⟩
  · have h2 : 2 < f := by omega
    go_enter Tryd.func54, Tryd.ntmps54
    go_wp2
    go_ret2
    exact ⟨rfl, rfl⟩

set_option maxRecDepth 100000 in
theorem new_long (f : Int) (seed : ByteArray) (w : World) (h1 : ¬ f < 1) (h2 : ¬ 2 < f) (hs : (32 : Int) < (seed.size : Int)) :
    Calls Tryd.prog 54 #[.int .i64 f, .string seed] w fun e w' => e = .returned (.tuple #[.pointer none, .int .i64 8]) ∧ w' = w := by
  go_enter Tryd.func54, Tryd.ntmps54
  go_wp2
  go_ret2
  exact ⟨rfl, rfl⟩

set_option maxRecDepth 100000 in
set_option maxHeartbeats 400000 in
theorem new_yes (f : Nat) (seed : ByteArray) (w : World) (h1 : 1 ≤ f) (h2 : f ≤ 2) (hs : seed.size ≤ 32) (hG : Glob w) :
    Calls Tryd.prog 54 #[.int .i64 (f : Int), .string seed] w fun e w' => ∃ b, e = .returned (.tuple #[.pointer (some ⟨b, 0, none⟩), .int .i64 0]) ∧ w.heap.size ≤ b ∧ TabAt w' b f (keysL seed (3 * f + 1)) ∧ Below w.heap.size w w' := by
  obtain ⟨i0, hi, hz0, hz1, hz2⟩ := info_parts infoStr
  have h1' : ¬ (f : Int) < 1 := by omega
  have h2' : ¬ (2 : Int) < (f : Int) := by omega
  have hs' : ¬ (32 : Int) < (seed.size : Int) := by omega
  go_enter Tryd.func54, Tryd.ntmps54
  go_wp2_with fail
  have hA := Arr.new w 130 [.int .i64 (f : Int), .slice none 0 0]
  have hB := (Below.refl w.heap.size w).alloc (Nat.le_refl _) (.cells #[.int .i64 (f : Int), .slice none 0 0] 130)
  have hT : TabAt (w.alloc (.cells #[.int .i64 (f : Int), .slice none 0 0] 130)) w.heap.size f [] :=
    ⟨by rw [alloc_size]; omega, hA.cell rfl, none, 0, hA.cell rfl, fun j hj => absurd hj (by simp)⟩
  refine (n_any w.heap.size f [] _ hT h2).mono ?_
  rintro e w1 ⟨rfl, rfl⟩
  clear hT
  have hnn : ((3 * f + 1 : Nat) : Int) = 3 * (f : Int) + 1 := by omega
  obtain ⟨n, hn⟩ : ∃ n, Hid (n = 3 * f + 1) := ⟨_, rfl⟩
  have hn7 : n ≤ 7 := by have := hn.out; omega
  rw [← hn.out]
  clear hnn
  go_wp2
  go_loopw [7, 22] (fun v7 v22 wr => ∃ (i : Nat) (v : Value), i ≤ n ∧ v22 = .int .i64 (i : Int) ∧ Arr wr w.heap.size 130 [.int .i64 (f : Int), v] ∧ wr.ownsRow (w.heap.size + 1) 9 1 v i ((keysL seed i).map Value.string) ∧ Below w.heap.size w wr) (fun _ v22 _ => n - (intOf v22).toNat)
  case atStart => exact ⟨0, .slice none 0 0, Nat.zero_le _, rfl, hA, World.ownsRow_nil _ _ _ _, hB⟩
  case round =>
    clear hA hB
    obtain ⟨i, v, hin, rfl, hA, hown, hB⟩ := hrel
    by_cases hlt : i < n
    · have h1 : (i : Int) < (n : Int) := by omega
      have c1 := hA.cell (i := 1) (v := v) rfl
      have f1 := hA.frozen 1
      obtain ⟨nb, hnb⟩ : ∃ z, Hid (z = (⟨(goInt (i : Int)).toArray⟩ : ByteArray)) := ⟨_, rfl⟩
      obtain ⟨kk, hkk⟩ : ∃ z, Hid (z = keyOf seed i) := ⟨_, rfl⟩
      have hnl : nb.size ≤ 9 := by rw [hnb.out, ByteArray.size_mk']; exact goInt_length _
      have cI : Hid (∀ w1, Calls Tryd.prog 47 #[.int .i64 (i : Int)] w1 fun e w2 => e = .returned (.string nb) ∧ Below w1.heap.size w1 w2) := by
        intro w1
        rw [hnb.out]
        exact int_any _ _
      have cK : Hid (∀ w1, Glob w1 → Calls Tryd.prog 76 #[.string seed, .string nb] w1 fun e w2 => e = .returned (.string kk) ∧ Below w1.heap.size w1 w2) := by
        intro w1 hg
        have h := keyed_any seed nb w1 (by omega) (by omega) hg
        have he : bytes (keyedL seed.data.toList nb.data.toList) = kk := by rw [hkk.out, hnb.out]; rfl
        rw [he] at h
        exact h
      have hN5 : i + 1 ≤ maxLen := by unfold maxLen; omega
      have hN6 : (i + 1) * 16 ≤ 140737488355328 := by omega
      have hGd : Glob wr.drew := ⟨(Glob.below2 hG hB).first, (Glob.below2 hG hB).rows⟩
      go_wp2_with fail
      go_region_law (first
        | (go_simp; go_at_call 47; refine (cI.out _).mono ?_; rintro e w1 ⟨rfl, hb1⟩; have c1a : w1.cell? ⟨w.heap.size, 1, none⟩ = some v := (hb1.cell (p := ⟨w.heap.size, 1, none⟩) hA.lt).trans c1; have hG1 := hGd.below hb1)
        | (go_simp; go_at_call 76; refine (cK.out _ hG1).mono ?_; rintro e w2 ⟨rfl, hb2⟩; have hb3 : Below wr.heap.size wr w2 := ((Below.refl _ wr).drew).trans (hb1.trans (hb2.mono hb1.size)); have c1b : w2.cell? ⟨w.heap.size, 1, none⟩ = some v := (hb3.cell (p := ⟨w.heap.size, 1, none⟩) hA.lt).trans c1; have c1d : (w2.alloc (.cells #[.string kk] 9)).cell? ⟨w.heap.size, 1, none⟩ = some v := ((hb3.alloc hb3.size (.cells #[.string kk] 9)).cell (p := ⟨w.heap.size, 1, none⟩) hA.lt).trans c1; have hO1 := (own_below hown hb3).alloc (.cells #[.string kk] 9); have hN1 := new_cell w2 kk; have hN3 : w.heap.size + 1 ≤ (w2.alloc (.cells #[.string kk] 9)).heap.size := (by rw [alloc_size]; have := hb3.size; have := hA.lt; omega); have hN4 := alloc_size w2 (.cells #[.string kk] 9))
        | (refine step_append_lies _ (by rfl) _ _ 23 (by rfl) (w.heap.size + 1) 9 i0 (.string ⟨#[]⟩) 1 16 Tryd.underlying23 hi hz0 hz1 hz2 rfl (by decide) _ i ((keysL seed i).map Value.string) (by rfl) hO1 ⟨w2.heap.size, 0, none⟩ 1 1 [.string kk] (by rfl) (by rfl) hN1 (one_str kk) (by decide) hN5 hN6 hN3 (w2.heap.size + 1) hN4 ?_; intro g2 cap2 w3 hown3 hgrow3 hat3 hlt3; have hbw := tab_below hA hb3 hN3 hO1 hgrow3; have hA3 := hA.below hbw (Nat.lt_succ_self _); have c1c := hA3.cell (i := 1) (v := v) rfl; have f1c := hA3.frozen 1))
      all_goals
        have hA4 := hA3.set 1 (.slice (some ⟨g2, 0, none⟩) (i + 1) cap2)
        have hown4 := ownsRow_setCell_below hown3 (a := ⟨w.heap.size, 1, none⟩) (Nat.lt_succ_self _) (.slice (some ⟨g2, 0, none⟩) (i + 1) cap2)
        have hB4 : Below w.heap.size w (w3.setCell ⟨w.heap.size, 1, none⟩ (.slice (some ⟨g2, 0, none⟩) (i + 1) cap2)) := (hB.trans (hbw.mono (Nat.le_succ _))).setCell (Nat.le_refl _) _
        rw [hkk.out, show ([.string (keyOf seed i)] : List Value) = [keyOf seed i].map Value.string from rfl, ← List.map_append, ← keysL_succ] at hown4
        generalize w3.setCell _ _ = w4 at hA4 hown4 hB4 ⊢
        go_wp2
        go_roundw
        case rel => exact ⟨i + 1, _, by omega, by go_num, hA4, hown4, hB4⟩
        case measure => simp [intOf]; omega
    · have h1 : ¬ (i : Int) < (n : Int) := by omega
      have hie : i = n := by omega
      rw [hie] at hown
      have hown' : wr.ownsRow (w.heap.size + 1) 9 1 v (keysL seed n).length ((keysL seed n).map Value.string) := by rw [keysL_len]; exact hown
      obtain ⟨a, cap, hv, hst⟩ := own_strs hown'
      have hT : Hid (TabAt wr w.heap.size f (keysL seed (3 * f + 1))) := by
        rw [← hn.out]
        exact ⟨hA.lt, hA.cell rfl, a, cap, by rw [← hv]; exact hA.cell rfl, hst⟩
      go_wp2
      go_ret2
      exact ⟨_, rfl, Nat.le_refl _, hT.out, hB⟩
end Go.Proofs.YthhildeocedpiaaDoor.Mx

/- What Sign does; nothing old in memory is turned. -/
namespace Go.Proofs.YthhildeocedpiaaDoor.Mx
open Go.RowKit Go.Sort
set_option linter.unusedVariables false

/-- A validator's tag of a word. -/
def macOf (key kind word : ByteArray) : ByteArray := (bytes (keyedL key.data.toList (txt kind.data.toList ++ word.data.toList))).extract 0 16

theorem macOf_size (key kind word : ByteArray) : (macOf key kind word).size = 16 := by
  unfold macOf
  rw [ByteArray.size_extract, bytes_size, keyedL_len]
  rfl

theorem keyOf_size (seed : ByteArray) (i : Nat) : (keyOf seed i).size = 32 := by unfold keyOf; rw [bytes_size, keyedL_len]

theorem keysL_size (seed : ByteArray) (n : Nat) : ∀ k ∈ keysL seed n, k.size ≤ 32 := by
  intro k hk
  obtain ⟨i, _, rfl⟩ := List.mem_map.1 hk
  rw [keyOf_size]
  exact Nat.le_refl _

/-- A tag in a value. -/
def tagV (who : Int) (mac : ByteArray) : Value := .agg #[.int .i64 who, .string mac]

theorem infoTag : (Tryd.prog.info? 123).map (·.size) = some 2 := by kernel_rfl

theorem results_tag {fn : Func} {p u : Tmp} (h : fn.results = #[.cell p 123, .tmp u]) (tmps : Array Value) (w : World) (g : Nat) (t : TypeId) (who : Int) (mac : ByteArray)
    (hp : tmps.getD p undef = .pointer (some ⟨g, 0, none⟩)) (hg : Arr w g t [.int .i64 who, .string mac]) (v : Value) (hv : tmps.getD u undef = v) :
    (results fn tmps).run Tryd.prog w = .ok (.tuple #[tagV who mac, v]) w := by
  rw [results_cell_tmp h, hp, hv]
  have hl := run_loadVar_row w g t 123 #[.int .i64 who, .string mac] (0, 0) _ hg Tryd.underlying123 rfl infoTag
  simp [asAddr, hl, tagV, Result.andThen]

set_option maxRecDepth 100000 in
set_option maxHeartbeats 400000 in
theorem sign_no (b f : Nat) (ks : List ByteArray) (who : Int) (kind word : ByteArray) (w : World) (h : TabAt w b f ks) (hn : who < 0 ∨ (ks.length : Int) ≤ who) :
    Calls Tryd.prog 115 #[.pointer (some ⟨b, 0, none⟩), .int .i64 who, .string kind, .string word] w fun e w' => e = .returned (.tuple #[tagV 0 ⟨#[]⟩, .int .i64 2]) ∧ Below w.heap.size w w' := by
  have hA := Arr.new w 123 [.int .i64 0, .string ⟨#[]⟩]
  have hB := (Below.refl w.heap.size w).alloc (Nat.le_refl _) (.cells #[.int .i64 0, .string ⟨#[]⟩] 123)
  go_enter Tryd.func115, Tryd.ntmps115
  go_wp2_with fail
  refine (has_no b f ks who _ (h.below hB) hn).mono ?_
  rintro e w1 ⟨rfl, rfl⟩
  go_wp2
  refine bodyPost_ret (v := .tuple #[tagV 0 ⟨#[]⟩, .int .i64 2]) ?r1 ?r2 ?r3
  case r1 => exact results_tag (p := 8) (u := 9) rfl _ _ w.heap.size 123 0 ⟨#[]⟩ rfl hA _ rfl
  case r2 => rfl
  exact ⟨rfl, hB⟩

theorem txt_size (l : List UInt8) : (txt l).length ≤ l.length + 9 := by
  unfold txt
  have := goInt_length l.length
  simp
  omega

theorem mac_spell (key kind word : ByteArray) : (bytes (keyedL key.data.toList ((⟨(txt kind.data.toList).toArray⟩ ++ word : ByteArray)).data.toList)).extract 0 16 = macOf key kind word := by
  rw [append_list]
  rfl

set_option maxRecDepth 100000 in
set_option maxHeartbeats 400000 in
theorem sign_yes (b f : Nat) (ks : List ByteArray) (j : Nat) (kind word : ByteArray) (w : World) (h : TabAt w b f ks) (kj : ByteArray) (hkj : ks[j]? = some kj) (hks : ∀ k ∈ ks, k.size ≤ 32) (hkd : kind.size ≤ 1000000) (hwd : word.size ≤ 1000000) (hG : Glob w) :
    Calls Tryd.prog 115 #[.pointer (some ⟨b, 0, none⟩), .int .i64 (j : Int), .string kind, .string word] w fun e w' => e = .returned (.tuple #[tagV (j : Int) (macOf kj kind word), .int .i64 0]) ∧ Below w.heap.size w w' := by
  obtain ⟨hj, hkg⟩ := List.getElem?_eq_some_iff.1 hkj
  obtain ⟨mc, hmc⟩ : ∃ z, Hid (z = macOf kj kind word) := ⟨_, rfl⟩
  rw [← hmc.out]
  have hA := Arr.new w 123 [.int .i64 0, .string ⟨#[]⟩]
  have hB := (Below.refl w.heap.size w).alloc (Nat.le_refl _) (.cells #[.int .i64 0, .string ⟨#[]⟩] 123)
  go_enter Tryd.func115, Tryd.ntmps115
  go_wp2_with fail
  refine (has_yes b f ks j _ (h.below hB) (by omega) (by omega)).mono ?_
  rintro e w1 ⟨rfl, rfl⟩
  have hT := h.below hB
  have hG0 := hG.below hB
  generalize w.alloc (.cells #[.int .i64 0, .string ⟨#[]⟩] 123) = w0 at hA hB hT hG0 ⊢
  obtain ⟨a, cap, c1, hst⟩ := hT.c1
  obtain ⟨bs, off, rfl, hbs, cj⟩ := hst j hj
  have hks32 : kj.size ≤ 32 := hks _ (List.mem_of_getElem? hkj)
  rw [hkg] at cj
  have C1 : ∀ d os, (grow (redrawn w0 d) os).cell? ⟨b, 1, none⟩ = some (.slice (some ⟨bs, off, none⟩) ks.length cap) := fun d os => cell_regrown c1 d os
  have CJ : ∀ d os, (grow (redrawn w0 d) os).cell? ⟨bs, off + j, none⟩ = some (.string kj) := fun d os => cell_regrown cj d os
  have hG' : ∀ p : Regrown, Glob (grow (redrawn w0 p.d) p.os) := fun p => hG0.below (below_regrown w0 p.d p.os)
  have hj0 : (0 : Int) ≤ (j : Int) := by omega
  have hj1 : (j : Int) < (ks.length : Int) := by omega
  obtain ⟨tk, htk⟩ : ∃ z, Hid (z = (⟨(txt kind.data.toList).toArray⟩ : ByteArray)) := ⟨_, rfl⟩
  obtain ⟨u, hu⟩ : ∃ z, Hid (z = tk ++ word) := ⟨_, rfl⟩
  have huc : tk ++ word = u := hu.out.symm
  have htks : tk.size ≤ 1000009 := by
    rw [htk.out, ByteArray.size_mk']
    have := txt_size kind.data.toList
    have hl : kind.data.toList.length = kind.size := by simp
    simp only [List.size_toArray]
    omega
  have hus : u.size ≤ 2000009 := by rw [hu.out, ByteArray.size_append]; omega
  have hmx : ¬ (maxLen < tk.size + word.size) := by unfold maxLen; omega
  have cT : ∀ w1, Calls Tryd.prog 48 #[.string kind] w1 fun e w2 => e = .returned (.string tk) ∧ Below w1.heap.size w1 w2 := by
    intro w1
    rw [htk.out]
    exact w_text_any _ _ (by omega)
  have cS : ∀ w1, Glob w1 → Calls Tryd.prog 120 #[.string kj, .string u] w1 fun e w2 => e = .returned (.string mc) ∧ Below w1.heap.size w1 w2 := by
    intro w1 hg
    have h := short_any kj u w1 (by omega) (by omega) hg
    have he : (bytes (keyedL kj.data.toList u.data.toList)).extract 0 16 = mc := by rw [hmc.out, hu.out, htk.out]; exact mac_spell _ _ _
    rw [he] at h
    exact h
  go_wp2_with fail
  refine wp_region_head_below 14 0 (by kernel_rfl) (by kernel_rfl) (fun c a d v w h => by cases d <;> exact h) ?_
  simp only [List.take_succ_cons, List.take_zero, List.drop_succ_cons, List.drop_zero]
  iterate 9 (go_big_quiet_step (fail))
  go_big_quiet_step (exact Calls.regrown_of (cT _))
  iterate 2 (go_big_quiet_step (fail))
  go_big_quiet_step (exact Calls.regrown_of (cS _ (hG' _)))
  go_big_quiet_step (fail)
  refine wpQuiet_nil ?_
  rintro w' ⟨p, rfl⟩
  have hb' := below_regrown w0 p.d p.os
  have hA1 := hA.below hb' hA.lt
  have hB1 := hB.trans (hb'.mono hB.size)
  generalize grow (redrawn w0 p.d) p.os = w2 at hA1 hB1 ⊢
  have t0 := hA1.cell (i := 0) (v := .int .i64 0) rfl
  have t1 := hA1.cell (i := 1) (v := .string ⟨#[]⟩) rfl
  have z0 := hA1.frozen 0
  have z1 := hA1.frozen 1
  try simp only [Act.put]
  go_wp2
  have hA2 := (hA1.set 0 (.int .i64 (j : Int))).set 1 (.string mc)
  have hB2 := (hB1.setCell (p := ⟨w.heap.size, 0, none⟩) (Nat.le_refl _) (.int .i64 (j : Int))).setCell (p := ⟨w.heap.size, 1, none⟩) (Nat.le_refl _) (.string mc)
  refine bodyPost_ret (v := .tuple #[tagV (j : Int) mc, .int .i64 0]) ?r1 ?r2 ?r3
  case r1 => exact results_tag (p := 8) (u := 9) rfl _ _ w.heap.size 123 (j : Int) mc rfl hA2 _ rfl
  case r2 => rfl
  exact ⟨rfl, hB2⟩

end Go.Proofs.YthhildeocedpiaaDoor.Mx

/- What Check does; nothing old in memory is turned. -/
namespace Go.Proofs.YthhildeocedpiaaDoor.Mx
open Go.RowKit Go.Sort
set_option linter.unusedVariables false

theorem toList_ne {a b : ByteArray} (h : ¬ a = b) : ¬ a.toList = b.toList := by
  intro e
  rw [ByteArray.toList_eq, ByteArray.toList_eq] at e
  exact h (ByteArray.ext (Array.ext' e))

set_option maxRecDepth 100000 in
set_option maxHeartbeats 400000 in
theorem check_no (b f : Nat) (ks : List ByteArray) (who : Int) (mac kind word : ByteArray) (w : World) (h : TabAt w b f ks) (hn : who < 0 ∨ (ks.length : Int) ≤ who) :
    Calls Tryd.prog 101 #[.pointer (some ⟨b, 0, none⟩), tagV who mac, .string kind, .string word] w fun e w' => e = .returned (.int .i64 2) ∧ Below w.heap.size w w' := by
  have hA := Arr.new w 123 [.int .i64 who, .string mac]
  have hB := (Below.refl w.heap.size w).alloc (Nat.le_refl _) (.cells #[.int .i64 who, .string mac] 123)
  unfold tagV
  go_enter Tryd.func101, Tryd.ntmps101
  go_wp2_with fail
  refine (sign_no b f ks who kind word _ (h.below hB) hn).mono ?_
  rintro e w1 ⟨rfl, hb1⟩
  have hB1 := hB.trans (hb1.mono hB.size)
  clear hb1 hA hB
  unfold tagV
  have hsz := hB1.size
  go_wp2
  go_ret
  exact ⟨rfl, hB1.alloc hsz _⟩

set_option maxRecDepth 100000 in
set_option maxHeartbeats 400000 in
theorem check_yes (b f : Nat) (ks : List ByteArray) (j : Nat) (mac kind word : ByteArray) (w : World) (h : TabAt w b f ks) (kj : ByteArray) (hkj : ks[j]? = some kj) (hks : ∀ k ∈ ks, k.size ≤ 32) (hkd : kind.size ≤ 1000000) (hwd : word.size ≤ 1000000) (hG : Glob w) :
    Calls Tryd.prog 101 #[.pointer (some ⟨b, 0, none⟩), tagV (j : Int) mac, .string kind, .string word] w fun e w' => e = .returned (.int .i64 (if mac = macOf kj kind word then 0 else 10)) ∧ Below w.heap.size w w' := by
  have hA := Arr.new w 123 [.int .i64 (j : Int), .string mac]
  have hB := (Below.refl w.heap.size w).alloc (Nat.le_refl _) (.cells #[.int .i64 (j : Int), .string mac] 123)
  have cs := sign_yes b f ks j kind word _ (h.below hB) kj hkj hks hkd hwd (hG.below hB)
  generalize macOf kj kind word = mc at cs ⊢
  unfold tagV at cs ⊢
  go_enter Tryd.func101, Tryd.ntmps101
  go_wp2_with fail
  refine cs.mono ?_
  rintro e w1 ⟨rfl, hb1⟩
  have hA1 := hA.below hb1 hA.lt
  have hB1 := hB.trans (hb1.mono hB.size)
  clear hb1 hA hB cs
  have hsz := hB1.size
  have t0 := (hA1.alloc (.cells #[.int .i64 (j : Int), .string mc] 123)).cell (i := 0) (v := .int .i64 (j : Int)) rfl
  have t1 := (hA1.alloc (.cells #[.int .i64 (j : Int), .string mc] 123)).cell (i := 1) (v := .string mac) rfl
  by_cases hm : mac = mc
  · subst hm
    go_wp2
    go_ret
    exact ⟨by simp, hB1.alloc hsz _⟩
  · have hm1 := toList_ne hm
    go_wp2
    go_ret
    exact ⟨by simp, hB1.alloc hsz _⟩

theorem check_ok (b f : Nat) (ks : List ByteArray) (j : Nat) (kind word : ByteArray) (w : World) (h : TabAt w b f ks) (kj : ByteArray) (hkj : ks[j]? = some kj) (hks : ∀ k ∈ ks, k.size ≤ 32) (hkd : kind.size ≤ 1000000) (hwd : word.size ≤ 1000000) (hG : Glob w) (mac : ByteArray) (hm : mac = macOf kj kind word) :
    Calls Tryd.prog 101 #[.pointer (some ⟨b, 0, none⟩), tagV (j : Int) mac, .string kind, .string word] w fun e w' => e = .returned (.int .i64 0) ∧ Below w.heap.size w w' := by
  have h := check_yes b f ks j mac kind word w h kj hkj hks hkd hwd hG
  rw [if_pos hm] at h
  exact h

theorem check_bad (b f : Nat) (ks : List ByteArray) (j : Nat) (kind word : ByteArray) (w : World) (h : TabAt w b f ks) (kj : ByteArray) (hkj : ks[j]? = some kj) (hks : ∀ k ∈ ks, k.size ≤ 32) (hkd : kind.size ≤ 1000000) (hwd : word.size ≤ 1000000) (hG : Glob w) (mac : ByteArray) (hm : ¬ mac = macOf kj kind word) :
    Calls Tryd.prog 101 #[.pointer (some ⟨b, 0, none⟩), tagV (j : Int) mac, .string kind, .string word] w fun e w' => e = .returned (.int .i64 10) ∧ Below w.heap.size w w' := by
  have h := check_yes b f ks j mac kind word w h kj hkj hks hkd hwd hG
  rw [if_neg hm] at h
  exact h

/-- A validator's tag of a word, and the error. -/
def signR (ks : List ByteArray) (who : Int) (kind word : ByteArray) : Int × ByteArray × Nat :=
  if who < 0 ∨ (ks.length : Int) ≤ who then (0, ⟨#[]⟩, 2) else (who, macOf (ks.getD who.toNat ⟨#[]⟩) kind word, 0)

/-- What is wrong with a tag. -/
def checkR (ks : List ByteArray) (who : Int) (mac kind word : ByteArray) : Nat :=
  if who < 0 ∨ (ks.length : Int) ≤ who then 2 else if mac = macOf (ks.getD who.toNat ⟨#[]⟩) kind word then 0 else 10

theorem sign_any (b f : Nat) (ks : List ByteArray) (who : Int) (kind word : ByteArray) (w : World) (h : TabAt w b f ks) (hks : ∀ k ∈ ks, k.size ≤ 32) (hkd : kind.size ≤ 1000000) (hwd : word.size ≤ 1000000) (hG : Glob w) :
    Calls Tryd.prog 115 #[.pointer (some ⟨b, 0, none⟩), .int .i64 who, .string kind, .string word] w fun e w' => e = .returned (.tuple #[tagV (signR ks who kind word).1 (signR ks who kind word).2.1, .int .i64 ((signR ks who kind word).2.2 : Int)]) ∧ Below w.heap.size w w' := by
  unfold signR
  by_cases hn : who < 0 ∨ (ks.length : Int) ≤ who
  · rw [if_pos hn]
    exact sign_no b f ks who kind word w h hn
  · rw [if_neg hn]
    obtain ⟨j, rfl⟩ := Int.eq_ofNat_of_zero_le (a := who) (by omega)
    obtain ⟨kj, hkj⟩ : ∃ k, ks[j]? = some k := ⟨_, List.getElem?_eq_getElem (by omega)⟩
    have e : ks.getD (j : Int).toNat ⟨#[]⟩ = kj := by simp [List.getD, hkj]
    rw [e]
    exact sign_yes b f ks j kind word w h kj hkj hks hkd hwd hG

theorem check_any (b f : Nat) (ks : List ByteArray) (who : Int) (mac kind word : ByteArray) (w : World) (h : TabAt w b f ks) (hks : ∀ k ∈ ks, k.size ≤ 32) (hkd : kind.size ≤ 1000000) (hwd : word.size ≤ 1000000) (hG : Glob w) :
    Calls Tryd.prog 101 #[.pointer (some ⟨b, 0, none⟩), tagV who mac, .string kind, .string word] w fun e w' => e = .returned (.int .i64 (checkR ks who mac kind word : Int)) ∧ Below w.heap.size w w' := by
  unfold checkR
  by_cases hn : who < 0 ∨ (ks.length : Int) ≤ who
  · rw [if_pos hn]
    exact check_no b f ks who mac kind word w h hn
  · rw [if_neg hn]
    obtain ⟨j, rfl⟩ := Int.eq_ofNat_of_zero_le (a := who) (by omega)
    obtain ⟨kj, hkj⟩ : ∃ k, ks[j]? = some k := ⟨_, List.getElem?_eq_getElem (by omega)⟩
    have e : ks.getD (j : Int).toNat ⟨#[]⟩ = kj := by simp [List.getD, hkj]
    rw [e]
    by_cases hm : mac = macOf kj kind word
    · rw [if_pos hm]
      exact check_ok b f ks j kind word w h kj hkj hks hkd hwd hG mac hm
    · rw [if_neg hm]
      exact check_bad b f ks j kind word w h kj hkj hks hkd hwd hG mac hm
end Go.Proofs.YthhildeocedpiaaDoor.Mx

/- What Enough does; nothing old in memory is turned. -/
namespace Go.Proofs.YthhildeocedpiaaDoor.Mx
open Go.RowKit Go.Sort
set_option linter.unusedVariables false

/-- A row of tags lies at an address (of no tags: whatever the address). -/
def TagsAt (w : World) (ao : Option Addr) (l : List (Int × ByteArray)) : Prop :=
  ∀ j x, l[j]? = some x → ∃ b off, ao = some ⟨b, off, none⟩ ∧ b < w.heap.size ∧ w.cell? ⟨b, off + j * 2, none⟩ = some (.int .i64 x.1) ∧ w.cell? ⟨b, off + j * 2 + 1, none⟩ = some (.string x.2)

theorem TagsAt.below {w w' : World} {ao : Option Addr} {l : List (Int × ByteArray)} (h : TagsAt w ao l) (hb : Below w.heap.size w w') : TagsAt w' ao l := by
  intro j x hj
  obtain ⟨b, off, h1, h2, h3, h4⟩ := h j x hj
  exact ⟨b, off, h1, Nat.lt_of_lt_of_le h2 hb.size, by rw [hb.cell (p := ⟨b, off + j * 2, none⟩) h2]; exact h3, by rw [hb.cell (p := ⟨b, off + j * 2 + 1, none⟩) h2]; exact h4⟩

/-- What is wrong with a tag behind another one. -/
def tagErr (ks : List ByteArray) (kind word : ByteArray) (ahead : Int) (x : Int × ByteArray) : Nat :=
  if x.1 < 0 ∨ (ks.length : Int) ≤ x.1 then 2 else if x.1 ≤ ahead then 9 else if x.2 = macOf (ks.getD x.1.toNat ⟨#[]⟩) kind word then 0 else 10

def enoughGo (ks : List ByteArray) (kind word : ByteArray) : Int → List (Int × ByteArray) → Nat
  | _, [] => 0
  | ahead, x :: l => if tagErr ks kind word ahead x = 0 then enoughGo ks kind word x.1 l else tagErr ks kind word ahead x

def enoughL (ks : List ByteArray) (f : Nat) (kind word : ByteArray) (l : List (Int × ByteArray)) : Nat :=
  if enoughGo ks kind word (-1) l = 0 then (if l.length < 2 * f + 1 then 12 else 0) else enoughGo ks kind word (-1) l

theorem drop_cons {α : Type} {l : List α} {i : Nat} {x : α} (h : l[i]? = some x) : l.drop i = x :: l.drop (i + 1) := by
  obtain ⟨hi, hx⟩ := List.getElem?_eq_some_iff.1 h
  rw [← hx]
  exact List.drop_eq_getElem_cons hi

theorem enough_stop {ks : List ByteArray} {f : Nat} {kind word : ByteArray} {l : List (Int × ByteArray)} {i : Nat} {ahead : Int} {x : Int × ByteArray} (he : enoughGo ks kind word (-1) l = enoughGo ks kind word ahead (l.drop i))
    (hx : l[i]? = some x) (n : Nat) (ht : tagErr ks kind word ahead x = n) (hn : n ≠ 0) : enoughL ks f kind word l = n := by
  unfold enoughL
  rw [he, drop_cons hx]
  unfold enoughGo
  rw [ht, if_neg hn, if_neg hn]

theorem enough_next {ks : List ByteArray} {kind word : ByteArray} {l : List (Int × ByteArray)} {i : Nat} {ahead : Int} {x : Int × ByteArray} (he : enoughGo ks kind word (-1) l = enoughGo ks kind word ahead (l.drop i))
    (hx : l[i]? = some x) (ht : tagErr ks kind word ahead x = 0) : enoughGo ks kind word (-1) l = enoughGo ks kind word x.1 (l.drop (i + 1)) := by
  rw [he, drop_cons hx]
  rw [enoughGo, if_pos ht]

theorem enough_end {ks : List ByteArray} {f : Nat} {kind word : ByteArray} {l : List (Int × ByteArray)} {i : Nat} {ahead : Int} (he : enoughGo ks kind word (-1) l = enoughGo ks kind word ahead (l.drop i))
    (hi : l.length ≤ i) : enoughL ks f kind word l = if l.length < 2 * f + 1 then 12 else 0 := by
  unfold enoughL
  rw [he, List.drop_eq_nil_of_le hi, enoughGo, if_pos rfl]

set_option maxRecDepth 100000 in
set_option maxHeartbeats 400000 in
theorem enough_any (b f : Nat) (ks : List ByteArray) (ao : Option Addr) (cap : Nat) (l : List (Int × ByteArray)) (kind word : ByteArray) (w : World) (h : TabAt w b f ks) (hf : f ≤ 2) (hks : ∀ k ∈ ks, k.size ≤ 32) (hl : TagsAt w ao l) (hlm : l.length ≤ maxLen) (hkd : kind.size ≤ 1000000) (hwd : word.size ≤ 1000000) (hG : Glob w) :
    Calls Tryd.prog 80 #[.pointer (some ⟨b, 0, none⟩), .slice ao l.length cap, .string kind, .string word] w fun e w' => e = .returned (.int .i64 (enoughL ks f kind word l : Int)) ∧ Below w.heap.size w w' := by
  obtain ⟨res, hres⟩ : ∃ z, Hid (z = enoughL ks f kind word l) := ⟨_, rfl⟩
  rw [← hres.out]
  unfold maxLen at hlm
  go_enter Tryd.func80, Tryd.ntmps80
  go_wp2
  go_loopw [9, 11, 12, 15] (fun v9 v11 v12 v15 wr => ∃ (i : Nat) (ahead : Int), i ≤ l.length ∧ v15 = .int .i64 (i : Int) ∧ v9 = .int .i64 ahead ∧ Below w.heap.size w wr ∧ Hid (enoughGo ks kind word (-1) l = enoughGo ks kind word ahead (l.drop i))) (fun _ _ _ v15 _ => l.length - (intOf v15).toNat)
  case atStart => exact ⟨0, -1, Nat.zero_le _, rfl, rfl, Below.refl _ _, rfl⟩
  case round =>
    obtain ⟨i, ahead, hil, rfl, rfl, hB, he⟩ := hrel
    by_cases hlt : i < l.length
    · have h1 : (i : Int) < (l.length : Int) := by omega
      have h0 : (0 : Int) ≤ (i : Int) := by omega
      obtain ⟨⟨who, mac⟩, hx⟩ : ∃ x, l[i]? = some x := ⟨_, List.getElem?_eq_getElem hlt⟩
      obtain ⟨bl, off, rfl, hbl, c0, c1⟩ := (hl.below hB) i _ hx
      have hT := h.below hB
      have hGr := hG.below hB
      have hB0 := hB.alloc hB.size (.cells #[.int .i64 who, .string mac] 123)
      have hbA := (Below.refl wr.heap.size wr).alloc (Nat.le_refl _) (.cells #[.int .i64 who, .string mac] 123)
      have hT0 := hT.below hbA
      have hG0 := hGr.below hbA
      have hA0 := Arr.new wr 123 [.int .i64 who, .string mac]
      go_wp2_with fail
      by_cases hr : who < 0 ∨ (ks.length : Int) ≤ who
      · refine (has_no b f ks who _ hT0 hr).mono ?_
        rintro e w1 ⟨rfl, rfl⟩
        have hr2 : res = 2 := hres.out.trans (enough_stop he.out hx 2 (by unfold tagErr; rw [if_pos hr]) (by decide))
        clear hA0 hT0 hG0
        go_wp2
        go_ret
        exact ⟨by rw [hr2]; rfl, hB0⟩
      · refine (has_yes b f ks who _ hT0 (by omega) (by omega)).mono ?_
        rintro e w1 ⟨rfl, rfl⟩
        by_cases ha : who ≤ ahead
        · have hr2 : res = 9 := hres.out.trans (enough_stop he.out hx 9 (by unfold tagErr; rw [if_neg hr, if_pos ha]) (by decide))
          clear hA0 hT0 hG0
          go_wp2
          go_ret
          exact ⟨by rw [hr2]; rfl, hB0⟩
        · obtain ⟨j, rfl⟩ := Int.eq_ofNat_of_zero_le (a := who) (by omega)
          obtain ⟨kj, hkj⟩ : ∃ k, ks[j]? = some k := ⟨_, List.getElem?_eq_getElem (by omega)⟩
          have hkd' : ks.getD (j : Int).toNat ⟨#[]⟩ = kj := by simp [List.getD, hkj]
          generalize wr.alloc (.cells #[.int .i64 (j : Int), .string mac] 123) = w0 at hB0 hT0 hG0 hA0 ⊢
          have t0 := hA0.cell (i := 0) (v := .int .i64 (j : Int)) rfl
          have t1 := hA0.cell (i := 1) (v := .string mac) rfl
          go_wp2_with fail
          by_cases hm : mac = macOf kj kind word
          · refine (check_ok b f ks j kind word _ hT0 kj hkj hks hkd hwd hG0 mac hm).mono ?_
            rintro e w1 ⟨rfl, hb1⟩
            have hB1 := hB0.trans (hb1.mono hB0.size)
            have hA1 := hA0.below hb1 hA0.lt
            have hnx : Hid (enoughGo ks kind word (-1) l = enoughGo ks kind word (j : Int) (l.drop (i + 1))) := enough_next he.out hx (by unfold tagErr; rw [if_neg hr, if_neg (show ¬ (j : Int) ≤ ahead by omega), if_pos (by rw [hkd']; exact hm)])
            have s0 := hA1.cell (i := 0) (v := .int .i64 (j : Int)) rfl
            clear hA0 hT0 hG0 hb1 hA1 t0 t1 hB0
            go_wp2
            go_roundw
            case rel => exact ⟨i + 1, (j : Int), by omega, by go_num, rfl, hB1, hnx⟩
            case measure => simp [intOf]; omega
          · refine (check_bad b f ks j kind word _ hT0 kj hkj hks hkd hwd hG0 mac hm).mono ?_
            rintro e w1 ⟨rfl, hb1⟩
            have hB1 := hB0.trans (hb1.mono hB0.size)
            have hr2 : res = 10 := hres.out.trans (enough_stop he.out hx 10 (by unfold tagErr; rw [if_neg hr, if_neg (show ¬ (j : Int) ≤ ahead by omega), if_neg (by rw [hkd']; exact hm)]) (by decide))
            clear hA0 hT0 hG0 hb1 t0 t1 hB0
            go_wp2
            go_ret
            exact ⟨by rw [hr2]; rfl, hB1⟩
    · have h1 : ¬ (i : Int) < (l.length : Int) := by omega
      have hend := hres.out.trans (enough_end he.out (by omega))
      have hT := h.below hB
      have hB1 := hB
      clear he hB
      go_wp2_with fail
      refine (need_any b f ks _ hT hf).mono ?_
      rintro e w1 ⟨rfl, rfl⟩
      by_cases hfew : l.length < 2 * f + 1
      · rw [if_pos hfew] at hend
        have h2 : (l.length : Int) < ((2 * f + 1 : Nat) : Int) := by omega
        clear hfew
        go_wp2
        go_ret
        exact ⟨by rw [hend]; rfl, hB1⟩
      · rw [if_neg hfew] at hend
        have h2 : ¬ (l.length : Int) < ((2 * f + 1 : Nat) : Int) := by omega
        clear hfew
        go_wp2
        go_ret
        exact ⟨by rw [hend]; rfl, hB1⟩
end Go.Proofs.YthhildeocedpiaaDoor.Mx

/- Rows of tags that the call itself makes. -/
namespace Go.Proofs.YthhildeocedpiaaDoor.Mx
open Go.RowKit Go.Sort
set_option linter.unusedVariables false

/-- The cells of a row of tags. -/
def flatT : List (Int × ByteArray) → List Value
  | [] => []
  | x :: l => .int .i64 x.1 :: .string x.2 :: flatT l

theorem flatT_append : ∀ (a b : List (Int × ByteArray)), flatT (a ++ b) = flatT a ++ flatT b
  | [], _ => rfl
  | x :: a, b => by simp [flatT, flatT_append a b]

theorem flatT_length : ∀ l : List (Int × ByteArray), (flatT l).length = l.length * 2
  | [] => rfl
  | x :: l => by simp only [flatT, List.length_cons, flatT_length l]; omega

theorem flatT_one : ∀ l : List (Int × ByteArray), ∀ u ∈ flatT l, u.oneCell' = true
  | [], u, hu => by simp [flatT] at hu
  | x :: l, u, hu => by
    simp only [flatT, List.mem_cons] at hu
    rcases hu with rfl | rfl | hu
    · rfl
    · rfl
    · exact flatT_one l u hu

theorem flatT_get : ∀ (l : List (Int × ByteArray)) (j : Nat) (x : Int × ByteArray), l[j]? = some x → (flatT l)[j * 2]? = some (.int .i64 x.1) ∧ (flatT l)[j * 2 + 1]? = some (.string x.2)
  | [], j, x, h => by simp at h
  | y :: l, 0, x, h => by
    simp at h
    subst h
    exact ⟨rfl, rfl⟩
  | y :: l, j + 1, x, h => by
    have := flatT_get l j x (by simpa using h)
    rw [show (j + 1) * 2 = j * 2 + 2 by omega]
    exact this

theorem infoTagAll : (Tryd.prog.info? 123).map (fun i => (i.zero, i.size, i.bytes)) = some (some (.agg #[.int .i64 0, .string ⟨#[]⟩]), 2, 24) := by kernel_rfl

theorem own_tags {w : World} {B : Nat} {v : Value} {l : List (Int × ByteArray)} (h : w.ownsRow B 123 2 v l.length (flatT l)) :
    ∃ a cap, v = .slice a l.length cap ∧ TagsAt w a l := by
  rcases h.2 with ⟨rfl, hn⟩ | ⟨g, cap, cur, rfl, _⟩
  · rw [List.length_eq_zero_iff] at hn
    subst hn
    exact ⟨none, 0, rfl, fun j x hj => by simp at hj⟩
  · refine ⟨_, cap, rfl, fun j x hj => ⟨g, 0, rfl, (h.lt g rfl).2, ?_, ?_⟩⟩
    · have := h.cells rfl (j * 2) _ (flatT_get l j x hj).1
      rw [Addr.add_mid] at this
      exact this
    · have := h.cells rfl (j * 2 + 1) _ (flatT_get l j x hj).2
      rw [Addr.add_mid, Nat.zero_add] at this
      rw [Nat.zero_add]
      exact this

/-- The cells of a row that came in. -/
theorem tags_news {w : World} {ad : Addr} {l : List (Int × ByteArray)} (h : TagsAt w (some ad) l) :
    ∀ j u, (flatT l)[j]? = some u → w.cell? (ad.add j) = some u := by
  intro j u hj
  have hlt : j < (flatT l).length := (List.getElem?_eq_some_iff.1 hj).1
  rw [flatT_length] at hlt
  obtain ⟨x, hx⟩ : ∃ x, l[j / 2]? = some x := ⟨_, List.getElem?_eq_getElem (by omega)⟩
  obtain ⟨b, off, hb, _, c0, c1⟩ := h _ x hx
  obtain rfl : ad = ⟨b, off, none⟩ := by simpa using hb
  obtain ⟨g0, g1⟩ := flatT_get l _ x hx
  rw [Addr.add_mid]
  rcases Nat.mod_two_eq_zero_or_one j with hm | hm
  · have e : j = j / 2 * 2 := by omega
    rw [← e] at g0 c0
    rw [hj] at g0
    cases g0
    exact c0
  · have e : j = j / 2 * 2 + 1 := by omega
    rw [← e] at g1
    rw [hj] at g1
    cases g1
    rw [Nat.add_assoc, ← e] at c1
    exact c1
end Go.Proofs.YthhildeocedpiaaDoor.Mx

/- Which rows of tags are enough, in plain mathematics. -/
namespace Go.Proofs.YthhildeocedpiaaDoor.Mx

/-- A validator's own tag. -/
def tagOf (ks : List ByteArray) (kind word : ByteArray) (i : Nat) : Int × ByteArray := ((i : Int), macOf (ks.getD i ⟨#[]⟩) kind word)

theorem tagErr_own {ks : List ByteArray} {kind word : ByteArray} {ahead : Int} {i : Nat} (hi : i < ks.length) (ha : ahead < (i : Int)) : tagErr ks kind word ahead (tagOf ks kind word i) = 0 := by
  unfold tagErr tagOf
  simp only
  rw [if_neg (by omega), if_neg (by omega), Int.toNat_natCast, if_pos rfl]

theorem go_rising {ks : List ByteArray} {kind word : ByteArray} : ∀ (l : List Nat) (ahead : Int), (∀ i ∈ l, i < ks.length) → (∀ i ∈ l, ahead < (i : Int)) → l.Pairwise (· < ·) → enoughGo ks kind word ahead (l.map (tagOf ks kind word)) = 0
  | [], _, _, _, _ => rfl
  | i :: l, ahead, h1, h2, h3 => by
    rw [List.map_cons, enoughGo, if_pos (tagErr_own (h1 i (by simp)) (h2 i (by simp)))]
    rw [List.pairwise_cons] at h3
    exact go_rising l _ (fun j hj => h1 j (by simp [hj])) (fun j hj => by have := h3.1 j hj; show (i : Int) < (j : Int); omega) h3.2

theorem enough_rising {ks : List ByteArray} {kind word : ByteArray} (f : Nat) (l : List Nat) (h1 : ∀ i ∈ l, i < ks.length) (h3 : l.Pairwise (· < ·)) : enoughL ks f kind word (l.map (tagOf ks kind word)) = if l.length < 2 * f + 1 then 12 else 0 := by
  unfold enoughL
  rw [go_rising l (-1) h1 (fun i _ => by omega) h3, if_pos rfl, List.length_map]

/-- Behind a row that rises, a tag that doesn't. -/
theorem go_breaks {ks : List ByteArray} {kind word : ByteArray} (x : Int × ByteArray) (rest : List (Int × ByteArray)) (hx : 0 ≤ x.1 ∧ x.1 < (ks.length : Int)) : ∀ (l : List Nat) (ahead : Int) (z : Nat), (∀ i ∈ l, i < ks.length) → (∀ i ∈ l, ahead < (i : Int)) → l.Pairwise (· < ·) → (l.getLast? = some z ∧ x.1 ≤ (z : Int)) → enoughGo ks kind word ahead (l.map (tagOf ks kind word) ++ x :: rest) = 9
  | [], _, _, _, _, _, h => by simp at h
  | [i], ahead, z, h1, h2, h3, h => by
    obtain ⟨hz, hxz⟩ := h
    simp at hz
    subst hz
    rw [List.map_cons, List.map_nil, List.cons_append, enoughGo, if_pos (tagErr_own (h1 i (by simp)) (h2 i (by simp))), List.nil_append, enoughGo]
    have : tagErr ks kind word (tagOf ks kind word i).1 x = 9 := by
      unfold tagErr
      rw [if_neg (by omega), if_pos (by exact hxz)]
    rw [this, if_neg (by decide)]
  | i :: j :: l, ahead, z, h1, h2, h3, h => by
    rw [List.map_cons, List.cons_append, enoughGo, if_pos (tagErr_own (h1 i (by simp)) (h2 i (by simp)))]
    rw [List.pairwise_cons] at h3
    exact go_breaks x rest hx (j :: l) _ z (fun k hk => h1 k (by simp [hk])) (fun k hk => by have := h3.1 k hk; show (i : Int) < (k : Int); omega) h3.2 ⟨by simpa using h.1, h.2⟩

theorem enough_breaks {ks : List ByteArray} {kind word : ByteArray} (f : Nat) (l : List Nat) (z : Nat) (x : Int × ByteArray) (rest : List (Int × ByteArray)) (hx : 0 ≤ x.1 ∧ x.1 < (ks.length : Int)) (h1 : ∀ i ∈ l, i < ks.length) (h3 : l.Pairwise (· < ·)) (h : l.getLast? = some z ∧ x.1 ≤ (z : Int)) :
    enoughL ks f kind word (l.map (tagOf ks kind word) ++ x :: rest) = 9 := by
  unfold enoughL
  rw [go_breaks x rest hx l (-1) z h1 (fun i _ => by omega) h3 h, if_neg (by decide)]

/-- The first tag is of another word. -/
theorem enough_wrong {ks : List ByteArray} {kind word : ByteArray} (f i : Nat) (mac : ByteArray) (rest : List (Int × ByteArray)) (hi : i < ks.length) (hm : ¬ mac = macOf (ks.getD i ⟨#[]⟩) kind word) :
    enoughL ks f kind word (((i : Int), mac) :: rest) = 10 := by
  have ht : tagErr ks kind word (-1) ((i : Int), mac) = 10 := by
    unfold tagErr
    simp only
    rw [if_neg (by omega), if_neg (by omega), Int.toNat_natCast, if_neg hm]
  have hgo : enoughGo ks kind word (-1) (((i : Int), mac) :: rest) = 10 := by rw [enoughGo, ht, if_neg (by decide)]
  unfold enoughL
  rw [hgo, if_neg (by decide)]

theorem range_rising (n : Nat) : (List.range n).Pairwise (· < ·) := List.pairwise_lt_range

theorem keysL_getD (seed : ByteArray) (n i : Nat) (h : i < n) : (keysL seed n).getD i ⟨#[]⟩ = keyOf seed i := by simp [keysL, List.getD, h]

set_option maxRecDepth 100000 in
/-- The example's two words: their tags are not the same. -/
theorem other_word : ¬ macOf (keyOf ⟨#[115, 101, 101, 100]⟩ 0) ⟨#[107]⟩ ⟨#[119]⟩ = macOf (keyOf ⟨#[115, 101, 101, 100]⟩ 0) ⟨#[107]⟩ ⟨#[120]⟩ := by
  have h : ¬ (keyedL (keyedL [115, 101, 101, 100] [0]) [1, 107, 119]).take 16 = (keyedL (keyedL [115, 101, 101, 100] [0]) [1, 107, 120]).take 16 := by decide +kernel
  intro e
  apply h
  have e2 := congrArg (fun b : ByteArray => b.data.toList) e
  simp only [macOf, keyOf, bytes, ByteArray.data_extract, Array.toList_extract, List.extract_eq_take_drop] at e2
  exact e2

/-- Two parts of a row. -/
theorem both_le {α : Type} (p q : α → Bool) : ∀ l : List α, (l.filter p).length + (l.filter q).length ≤ (l.filter fun x => p x && q x).length + l.length
  | [] => by simp
  | x :: l => by
    have := both_le p q l
    cases hp : p x <;> cases hq : q x <;> simp [hp, hq] <;> omega
end Go.Proofs.YthhildeocedpiaaDoor.Mx

/- tusklaw03.works answers true; nothing old in memory is turned. -/
namespace Go.Proofs.YthhildeocedpiaaDoor.Mx
open Go.RowKit Go.Sort
set_option linter.unusedVariables false

def seedB : ByteArray := ⟨#[115, 101, 101, 100]⟩

theorem new_tag (w : World) (x : Int × ByteArray) : ∀ j u, (flatT [x])[j]? = some u → (w.alloc (.cells #[.int .i64 x.1, .string x.2] 123)).cell? ((⟨w.heap.size, 0, none⟩ : Addr).add j) = some u := by
  intro j u hj
  rw [Addr.add_mid, Nat.zero_add]
  exact (Arr.new w 123 [.int .i64 x.1, .string x.2]).cell (by simpa [flatT] using hj)

theorem own_form {w : World} {B : Nat} {e : TypeId} {s : Nat} {v : Value} {n : Nat} {xs : List Value} (h : w.ownsRow B e s v n xs) : ∃ ao cap, v = .slice ao n cap := by
  rcases h.2 with ⟨rfl, rfl⟩ | ⟨g, cap, cur, rfl, _⟩
  · exact ⟨_, _, rfl⟩
  · exact ⟨_, _, rfl⟩

theorem own_tags_at {w : World} {B : Nat} {ao : Option Addr} {n cap : Nat} {l : List (Int × ByteArray)} (hl : l.length = n) (h : w.ownsRow B 123 2 (.slice ao n cap) n (flatT l)) : TagsAt w ao l := by
  subst hl
  obtain ⟨a, c, he, ht⟩ := own_tags h
  obtain ⟨rfl, _⟩ : ao = a ∧ cap = c := by simpa using he
  exact ht

theorem own_cap {w : World} {B : Nat} {e : TypeId} {s : Nat} {ao : Option Addr} {n cap : Nat} {xs : List Value} (h : w.ownsRow B e s (.slice ao n cap) n xs) : n ≤ cap := by
  rcases h.2 with ⟨hv, rfl⟩ | ⟨g, c, cur, hv, _, _, hc, _⟩
  · exact Nat.zero_le _
  · obtain ⟨_, rfl⟩ : ao = some ⟨g, 0, none⟩ ∧ cap = c := by simpa using hv
    exact hc

theorem TagsAt.take {w : World} {ao : Option Addr} {l : List (Int × ByteArray)} (h : TagsAt w ao l) (n : Nat) : TagsAt w ao (l.take n) := by
  intro j x hj
  rw [List.getElem?_take] at hj
  split at hj
  · exact h j x hj
  · cases hj

theorem getD_some {ks : List ByteArray} {i : Nat} (h : i < ks.length) : ks[i]? = some (ks.getD i ⟨#[]⟩) := by simp [List.getD, h]

theorem wrap64_small (n : Int) (h0 : 0 ≤ n) (h1 : n < 9223372036854775808) : wrap64 n = n := by unfold wrap64; omega

theorem wrap_u64 (f : Int) : IntKind.u64.wrap f = f % 18446744073709551616 := by simp [IntKind.wrap, IntKind.bits, IntKind.signed]

theorem u64_range (f : Int) : 0 ≤ IntKind.u64.wrap f ∧ IntKind.u64.wrap f < 18446744073709551616 := by
  rw [wrap_u64]; omega

/-- One or two. -/
theorem pick_f (f : Int) : ∃ n : Nat, 1 ≤ n ∧ n ≤ 2 ∧ wrap64 (1 + wrap64 ((IntKind.u64.wrap f).tmod 2)) = (n : Int) := by
  obtain ⟨h0, h1⟩ := u64_range f
  rw [Int.tmod_eq_emod_of_nonneg h0]
  generalize IntKind.u64.wrap f = m at h0 h1
  refine ⟨1 + (m % 2).toNat, by omega, by omega, ?_⟩
  rw [wrap64_small (m % 2) (by omega) (by omega), wrap64_small _ (by omega) (by omega)]
  omega

/-- A place below k. -/
theorem pick_j (f : Int) (k : Nat) (hk : 0 < k) (hk2 : k < 1000) : ∃ j : Nat, j < k ∧ wrap64 ((IntKind.u64.wrap f).tmod (k : Int)) = (j : Int) := by
  obtain ⟨h0, h1⟩ := u64_range f
  rw [Int.tmod_eq_emod_of_nonneg h0]
  generalize IntKind.u64.wrap f = m at h0 h1
  have hlt := Int.emod_lt_of_pos m (show (0 : Int) < (k : Int) by omega)
  have hge := Int.emod_nonneg m (show (k : Int) ≠ 0 by omega)
  refine ⟨(m % (k : Int)).toNat, by omega, ?_⟩
  rw [wrap64_small _ hge (by omega)]
  omega
end Go.Proofs.YthhildeocedpiaaDoor.Mx
