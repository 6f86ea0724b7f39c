/- What block.Mark, block.Unmark and the reference's do; nothing old in memory is turned. -/
import Derived.Test.YtoodapbmpbaogaaDoorBlkMath
import Derived.Test.YtoodapbmpbaogaaDoorTxArr
import Derived.Laws.BitsAllLaws
namespace Go.Proofs.YtoodapbmpbaogaaDoor
open Go.RowKit
set_option linter.unusedVariables false

theorem valL_take {l : List UInt8} {m : Nat} {b : UInt8} (h : l[m]? = some b) : valL (l.take (m + 1)) = 256 * valL (l.take m) + b.toNat := by
  obtain ⟨hm, rfl⟩ := List.getElem?_eq_some_iff.1 h
  rw [← List.take_append_getElem hm, valL_snoc]

theorem valL_take_lt {l : List UInt8} {m : Nat} (hm : m ≤ 7) : valL (l.take m) < 72057594037927936 := by
  have h1 := valL_lt (l.take m)
  have h2 : (l.take m).length ≤ 7 := by rw [List.length_take]; omega
  have h3 : (256 : Nat) ^ (l.take m).length ≤ 256 ^ 7 := Nat.pow_le_pow_right (by decide) h2
  have h4 : (256 : Nat) ^ 7 = 72057594037927936 := by decide
  omega

theorem valL_take8 (l : List UInt8) : valL (l.take 8) < 18446744073709551616 := by
  have h1 := valL_lt (l.take 8)
  have h2 : (l.take 8).length ≤ 8 := by rw [List.length_take]; omega
  have h3 : (256 : Nat) ^ (l.take 8).length ≤ 256 ^ 8 := Nat.pow_le_pow_right (by decide) h2
  have h4 : (256 : Nat) ^ 8 = 18446744073709551616 := by decide
  omega

/-- A byte behind a number. -/
theorem or_byte (a : Nat) (b : UInt8) (ha : a < 72057594037927936) : bits .or .u64 ((a : Int) * 256) (IntKind.u64.wrap (b.toNat : Int)) = ((256 * a + b.toNat : Nat) : Int) := by
  have hb := b.toNat_lt
  have e1 : IntKind.u64.wrap (b.toNat : Int) = (b.toNat : Int) := by
    simp [IntKind.wrap, IntKind.bits, IntKind.signed]
    omega
  have e4 : a * 256 ||| b.toNat = 256 * a + b.toNat := by
    have := Nat.two_pow_add_eq_or_of_lt (i := 8) (by simpa using hb : b.toNat < 2 ^ 8) a
    rw [Nat.mul_comm a 256]
    exact this.symm
  have e2 : (a : Int) * 256 = ((a * 256 : Nat) : Int) := by omega
  rw [e1, e2, u64_or_nat _ _ (by omega) (by omega), e4]

theorem byte_at (s : ByteArray) (m : Nat) (h : m < s.size) : s.data.toList[m]? = some s[m] := by
  have hl : s.data.toList.length = s.size := by simp
  rw [List.getElem?_eq_getElem (by omega)]
  rfl

set_option maxRecDepth 100000 in
set_option maxHeartbeats 2000000 in
theorem unmark_any (s : ByteArray) (w : World) :
    Calls Tryd.prog 81 #[.string s] w fun e w' => e = .returned (.tuple #[.int .i64 (unR s : Int), .string (unI s), .bool (decide (isMark s))]) ∧ Below w.heap.size w w' := by
  obtain ⟨out, hout⟩ : ∃ q, Hid (q = Value.tuple #[.int .i64 (unR s : Int), .string (unI s), .bool (decide (isMark s))]) := ⟨_, rfl⟩
  rw [← hout.out]
  have hno : Hid (¬ isMark s → out = .tuple #[.int .i64 0, .string ⟨#[]⟩, .bool false]) := fun h => by
    rw [hout.out, unR, unI, if_neg h, if_neg h, decide_eq_false h]
    rfl
  by_cases h40 : s.size = 40
  · have h40' : (s.size : Int) = 40 := by omega
    have H40 : Hid (s.size = 40) := h40
    have hyes : Hid (isMark s → out = .tuple #[.int .i64 (roundOf s : Int), .string (s.extract 8 s.size), .bool true]) := fun h => by
      rw [hout.out, unR, unI, if_pos h, if_pos h, decide_eq_true h]
    have HM : Hid (isMark s ↔ 1 ≤ roundOf s ∧ roundOf s ≤ 4611686018427387903) := ⟨fun h => h.2, fun h => ⟨h40, h⟩⟩
    have HR : Hid (valL (s.data.toList.take 8) = roundOf s) := rfl
    clear hout h40
    go_enter Tryd.func81, Tryd.ntmps81
    go_wp2
    go_loopw [5, 6, 10] (fun v5 v6 v10 wr => ∃ m : Nat, m ≤ 8 ∧ v10 = .int .i64 (m : Int) ∧ v5 = .int .u64 (valL (s.data.toList.take m) : Int) ∧ wr = w) (fun _ _ v _ => 8 - (intOf v).toNat)
    case atStart => exact ⟨0, by omega, rfl, rfl, rfl⟩
    case round =>
      obtain ⟨m, hm, rfl, rfl, rfl⟩ := hrel
      by_cases hlt : m < 8
      · have HS : Hid (∀ h : m < s.size, bits .or .u64 ((valL (s.data.toList.take m) : Int) * 256) (IntKind.u64.wrap (s[m].toNat : Int)) = (valL (s.data.toList.take (m + 1)) : Int)) := fun h => by
          rw [or_byte _ _ (valL_take_lt (by omega)), ← valL_take (byte_at s m h)]
        have hlt7 := valL_take_lt (l := s.data.toList) (m := m) (by omega)
        go_wp2
        go_roundw
        case rel => exact ⟨m + 1, by omega, by go_num, by rw [HS.out], trivial⟩
        case measure => simp [intOf]; omega
      · obtain rfl : m = 8 := by omega
        have hr8 := valL_take8 s.data.toList
        rw [HR.out] at hr8
        simp only [HR.out]
        generalize hrr : roundOf s = rr at *
        by_cases h1 : rr < 1
        · have hf : Hid _ := hno.out (fun h => by have := HM.out.1 h; omega)
          have h1' : (rr : Int) < 1 := by omega
          clear HM hyes hno hrr HR
          go_wp2
          go_ret3
          exact ⟨by rw [hf.out]; rfl, Below.refl _ _⟩
        by_cases h2 : 4611686018427387903 < rr
        · have hf : Hid _ := hno.out (fun h => by have := HM.out.1 h; omega)
          have h1' : ¬ (rr : Int) < 1 := by omega
          have h2' : (4611686018427387903 : Int) < (rr : Int) := by omega
          clear HM hyes hno hrr HR
          go_wp2
          go_ret3
          exact ⟨by rw [hf.out]; rfl, Below.refl _ _⟩
        have hf : Hid _ := hyes.out (HM.out.2 (by omega))
        have h1' : ¬ (rr : Int) < 1 := by omega
        have h2' : ¬ (4611686018427387903 : Int) < (rr : Int) := by omega
        clear HM hyes hno hrr HR
        go_wp2
        go_region
        go_wp2
        go_ret3
        exact ⟨by rw [hf.out]; rfl, Below.drew (Below.refl _ _)⟩
  · have h40' : (s.size : Int) ≠ 40 := by omega
    have hf : Hid _ := hno.out (fun h => h40 h.1)
    go_enter Tryd.func81, Tryd.ntmps81
    go_wp2
    go_ret3
    exact ⟨by rw [hf.out]; rfl, Below.refl _ _⟩

theorem valL_foldl (l : List UInt8) : ∀ a : Nat, l.foldl (fun a b => 256 * a + b.toNat) a = a * 256 ^ l.length + valL l := by
  induction l with
  | nil => intro a; simp [valL]
  | cons b r ih =>
    intro a
    have e : valL (b :: r) = r.foldl (fun a b => 256 * a + b.toNat) (256 * 0 + b.toNat) := rfl
    rw [e, List.foldl_cons, ih, ih, List.length_cons, Nat.pow_succ, Nat.mul_zero, Nat.zero_add, Nat.add_mul, ← Nat.add_assoc, Nat.mul_comm 256 a, Nat.mul_assoc, Nat.mul_comm 256]

theorem valL_cons (b : UInt8) (r : List UInt8) : valL (b :: r) = b.toNat * 256 ^ r.length + valL r := by
  rw [valL, List.foldl_cons, valL_foldl, Nat.mul_zero, Nat.zero_add]

theorem valL_mono (l : List UInt8) (m : Nat) : ∀ k, valL (l.take m) ≤ valL (l.take (m + k)) := by
  intro k
  induction k with
  | zero => exact Nat.le_refl _
  | succ k ih =>
    by_cases h : m + k < l.length
    · have := valL_take (List.getElem?_eq_getElem h)
      rw [← Nat.add_assoc, this]
      omega
    · rw [List.take_of_length_le (by omega : l.length ≤ m + k)] at ih
      rw [List.take_of_length_le (by omega : l.length ≤ m + (k + 1))]
      exact ih

theorem head_round {s : ByteArray} (h40 : s.size = 40) (h0 : 0 < s.size) : (s[0].toNat < 64 ↔ roundOf s ≤ 4611686018427387903) := by
  have hl : s.data.toList.length = 40 := by
    have : s.data.toList.length = s.size := by simp
    omega
  have hb := byte_at s 0 h0
  obtain ⟨r, hr⟩ : ∃ r, s.data.toList = s[0] :: r := by
    match hs : s.data.toList, hl with
    | b :: r, _ =>
      rw [hs] at hb
      simp at hb
      exact ⟨r, by rw [hb]⟩
  have h7 : (r.take 7).length = 7 := by
    rw [List.length_take]
    have := congrArg List.length hr
    rw [hl, List.length_cons] at this
    omega
  have hlt := valL_lt (r.take 7)
  rw [roundOf, hr, show (8 : Nat) = 7 + 1 by rfl, List.take_succ_cons, valL_cons, h7]
  rw [h7] at hlt
  have h4 : (256 : Nat) ^ 7 = 72057594037927936 := by decide
  rw [h4] at hlt ⊢
  omega

set_option maxRecDepth 100000 in
set_option maxHeartbeats 2000000 in
theorem refUnmark_any (s : ByteArray) (w : World) :
    Calls Tryd.prog 45 #[.string s] w fun e w' => e = .returned (.tuple #[.int .i64 (unR s : Int), .string (unI s), .bool (decide (isMark s))]) ∧ Below w.heap.size w w' := by
  obtain ⟨out, hout⟩ : ∃ q, Hid (q = Value.tuple #[.int .i64 (unR s : Int), .string (unI s), .bool (decide (isMark s))]) := ⟨_, rfl⟩
  rw [← hout.out]
  have hno : Hid (¬ isMark s → out = .tuple #[.int .i64 0, .string ⟨#[]⟩, .bool false]) := fun h => by
    rw [hout.out, unR, unI, if_neg h, if_neg h, decide_eq_false h]
    rfl
  by_cases h40 : s.size = 40
  · have h40' : (s.size : Int) = 40 := by omega
    have h0 : 0 < s.size := by omega
    have HH := head_round h40 h0
    have hyes : Hid (isMark s → out = .tuple #[.int .i64 (roundOf s : Int), .string (s.extract 8 s.size), .bool true]) := fun h => by
      rw [hout.out, unR, unI, if_pos h, if_pos h, decide_eq_true h]
    by_cases h64 : 64 ≤ s[0].toNat
    · have hf : Hid _ := hno.out (fun h => by have := HH.2 h.2.2; omega)
      have h64' : (64 : Int) ≤ (s[0].toNat : Int) := by omega
      clear HH hyes hno hout h40
      go_enter Tryd.func45, Tryd.ntmps45
      go_wp2
      go_ret3
      exact ⟨by rw [hf.out]; rfl, Below.refl _ _⟩
    have hle := HH.1 (by omega)
    have HM : Hid (isMark s ↔ 1 ≤ roundOf s) := ⟨fun h => h.2.1, fun h => ⟨h40, h, hle⟩⟩
    have HR : Hid (valL (s.data.toList.take 8) = roundOf s) := rfl
    have HB : Hid (∀ m, m ≤ 8 → valL (s.data.toList.take m) ≤ 4611686018427387903) := fun m hm => by
      have := valL_mono s.data.toList m (8 - m)
      rw [show m + (8 - m) = 8 by omega] at this
      exact Nat.le_trans this hle
    have h64' : ¬ (64 : Int) ≤ (s[0].toNat : Int) := by omega
    clear hout h40 HH
    have Hle : Hid (roundOf s ≤ 4611686018427387903) := hle
    clear hle
    go_enter Tryd.func45, Tryd.ntmps45
    go_wp2
    go_loopw [5, 6] (fun v5 v6 wr => ∃ m : Nat, m ≤ 8 ∧ v6 = .int .i64 (m : Int) ∧ v5 = .int .i64 (valL (s.data.toList.take m) : Int) ∧ wr = w) (fun _ v _ => 8 - (intOf v).toNat)
    case atStart => exact ⟨0, by omega, rfl, rfl, rfl⟩
    case round =>
      obtain ⟨m, hm, rfl, rfl, rfl⟩ := hrel
      by_cases hlt : m < 8
      · have HS : Hid (∀ h : m < s.size, (256 : Int) * (valL (s.data.toList.take m) : Int) + (s[m].toNat : Int) = (valL (s.data.toList.take (m + 1)) : Int)) := fun h => by
          rw [valL_take (byte_at s m h)]
          omega
        have hb1 := HB.out (m + 1) (by omega)
        have hb2 : 256 * valL (s.data.toList.take m) ≤ 4611686018427387903 := by
          by_cases h : m < s.size
          · have := valL_take (byte_at s m h)
            omega
          · omega
        clear hb1
        have HW : Hid (∀ h : m < s.size, wrap64 (256 * (valL (s.data.toList.take m) : Int) + wrap64 (s[m].toNat : Int)) = (valL (s.data.toList.take (m + 1)) : Int)) := fun h => by
          rw [← HS.out h]
          have := s[m].toNat_lt
          generalize (s[m].toNat) = q at *
          unfold wrap64
          omega
        clear HS
        generalize valL (s.data.toList.take m) = vm at *
        go_wp2
        go_roundw
        case rel => exact ⟨m + 1, by omega, by go_num, by rw [HW.out], trivial⟩
        case measure => simp [intOf]; omega
      · obtain rfl : m = 8 := by omega
        simp only [HR.out]
        have Hle' := Hle.out
        generalize hrr : roundOf s = rr at *
        by_cases h1 : rr < 1
        · have hf : Hid _ := hno.out (fun h => by have := HM.out.1 h; omega)
          have h1' : (rr : Int) < 1 := by omega
          clear HM hyes hno hrr HR HB
          go_wp2
          go_ret3
          exact ⟨by rw [hf.out]; rfl, Below.refl _ _⟩
        have hf : Hid _ := hyes.out (HM.out.2 (by omega))
        have h1' : ¬ (rr : Int) < 1 := by omega
        clear HM hyes hno hrr HR HB
        go_wp2
        go_region
        go_wp2
        go_ret3
        exact ⟨by rw [hf.out]; rfl, Below.drew (Below.refl _ _)⟩
  · have h40' : (s.size : Int) ≠ 40 := by omega
    have hf : Hid _ := hno.out (fun h => h40 h.1)
    go_enter Tryd.func45, Tryd.ntmps45
    go_wp2
    go_ret3
    exact ⟨by rw [hf.out]; rfl, Below.refl _ _⟩

theorem be_cons : ∀ (j n : Nat), beN (j + 1) n = UInt8.ofNat (n / 256 ^ j) :: beN j n
  | 0, n => by simp [beN]
  | j + 1, n => by
    rw [beN, be_cons j (n / 256), Nat.div_div_eq_div_mul, Nat.pow_succ, Nat.mul_comm 256]
    rfl

/-- Bytes as they lie in memory. -/
def u8C (l : List UInt8) : List Value := l.map fun b => .int .u8 (b.toNat : Int)

/-- The eight bytes of a round, of which j are written. -/
def mkC (R j : Nat) : List Value := List.replicate (8 - j) (.int .u8 0) ++ u8C (beN j R)

theorem mkC_set {R j : Nat} (hj : j < 8) : (mkC R j).set (7 - j) (.int .u8 ((UInt8.ofNat (R / 256 ^ j)).toNat : Int)) = mkC R (j + 1) := by
  have e : 8 - j = (7 - j) + 1 := by omega
  have e2 : 8 - (j + 1) = 7 - j := by omega
  unfold mkC
  rw [be_cons, e2, e, List.replicate_succ', List.append_assoc, List.set_append_right _ _ (by simp)]
  simp [u8C]

theorem mkC_8 (R : Nat) : mkC R 8 = u8C (beN 8 R) := by simp [mkC]

theorem mkC_get (R : Nat) (j : Nat) (hj : j < (beN 8 R).length) : (mkC R 8)[j]? = some (.int .u8 ((beN 8 R)[j].toNat : Int)) := by
  rw [mkC_8]
  simp [u8C, List.getElem?_eq_getElem hj]

set_option maxRecDepth 100000 in
set_option maxHeartbeats 2000000 in
theorem mark_any (r : Int) (id : ByteArray) (w : World) (hid : id.size ≤ 140737488351232) :
    Calls Tryd.prog 32 #[.int .i64 r, .string id] w fun e w' => e = .returned (.string (markB r id)) ∧ Below w.heap.size w w' := by
  obtain ⟨out, hout⟩ : ∃ q, Hid (q = markB r id) := ⟨_, rfl⟩
  rw [← hout.out]
  by_cases h1 : r < 1
  · have hf : Hid (out = ⟨#[]⟩) := hout.out.trans (if_pos (Or.inl h1))
    clear hout
    go_enter Tryd.func32, Tryd.ntmps32
    go_wp2
    go_ret
    exact ⟨by rw [hf.out]; rfl, Below.refl _ _⟩
  by_cases h2 : 4611686018427387903 < r
  · have hf : Hid (out = ⟨#[]⟩) := hout.out.trans (if_pos (Or.inr (Or.inl h2)))
    clear hout
    go_enter Tryd.func32, Tryd.ntmps32
    go_wp2
    go_ret
    exact ⟨by rw [hf.out]; rfl, Below.refl _ _⟩
  by_cases h3 : id.size ≠ 32
  · have hf : Hid (out = ⟨#[]⟩) := hout.out.trans (if_pos (Or.inr (Or.inr h3)))
    have h3' : (id.size : Int) ≠ 32 := by omega
    clear hout
    go_enter Tryd.func32, Tryd.ntmps32
    go_wp2
    go_ret
    exact ⟨by rw [hf.out]; rfl, Below.refl _ _⟩
  have hf : Hid (out = ⟨(beN 8 r.toNat ++ id.data.toList).toArray⟩) := hout.out.trans (if_neg (fun h => h.elim h1 (fun h => h.elim h2 h3)))
  have h3' : (id.size : Int) = 32 := by omega
  obtain ⟨R, rfl⟩ := Int.eq_ofNat_of_zero_le (show 0 ≤ r by omega)
  rw [Int.toNat_natCast] at hf
  have hX := Arr.new w 103 (mkC R 0)
  have hB := belowNew w (.cells (mkC R 0).toArray 103)
  have e0 : mkC R 0 = [.int .u8 0, .int .u8 0, .int .u8 0, .int .u8 0, .int .u8 0, .int .u8 0, .int .u8 0, .int .u8 0] := rfl
  have hR62 : R ≤ 4611686018427387903 := by omega
  rw [e0] at hB
  have hX0 := hX
  rw [e0] at hX0
  clear hout h3
  go_enter Tryd.func32, Tryd.ntmps32
  go_wp2
  go_loopw [0, 6] (fun v0 v6 wr => ∃ j : Nat, j ≤ 8 ∧ v6 = .int .i64 (7 - (j : Int)) ∧ v0 = .int .i64 ((R / 256 ^ j : Nat) : Int) ∧ Arr wr w.heap.size 103 (mkC R j) ∧ Below w.heap.size w wr) (fun _ v _ => (intOf v + 1).toNat)
  case atStart => exact ⟨0, by omega, rfl, by simp, by rw [e0]; exact hX0, hB⟩
  case round =>
    clear hX hB hX0
    obtain ⟨j, hj, rfl, rfl, hX, hB⟩ := hrel
    by_cases hlt : j < 8
    · have hRj : R / 256 ^ j ≤ R := Nat.div_le_self _ _
      have c := hX.cell (i := 7 - j) (v := .int .u8 0) (by rw [mkC, List.getElem?_append_left (by simp; omega), List.getElem?_replicate, if_pos (by omega)])
      have fz := hX.frozen (7 - j)
      have hX2 := hX.set (7 - j) (.int .u8 ((UInt8.ofNat (R / 256 ^ j)).toNat : Int))
      rw [mkC_set hlt, ofNat_toNat8] at hX2
      have hB2 := hB.setCell (p := ⟨w.heap.size, 7 - j, none⟩) (Nat.le_refl _) (.int .u8 ((R / 256 ^ j % 256 : Nat) : Int))
      have hnx : Hid (R / 256 ^ j / 256 = R / 256 ^ (j + 1)) := by show _ = _; rw [Nat.pow_succ, Nat.div_div_eq_div_mul]
      generalize R / 256 ^ j = q at *
      have hq : ((q % 256 : Nat) : Int) = (q : Int) % 256 := by omega
      rw [hq] at hX2 hB2
      clear hX hB hq
      go_wp2
      go_roundw
      case rel => exact ⟨j + 1, by omega, by go_num, by rw [← hnx.out]; go_num, hX2, hB2⟩
      case measure => simp [intOf]; omega
    · obtain rfl : j = 8 := by omega
      have hcv : ∀ wq, Arr wq w.heap.size 103 (mkC R 8) → (convert 62 9 (.slice (some ⟨w.heap.size, 0, none⟩) 8 8)).run Tryd.prog wq = .ok (.string ⟨(beN 8 R).toArray⟩) wq := fun wq hq => by
        have hl8 : (beN 8 R).length = 8 := beN_length 8 R
        have := run_convert_bytes_back (P := Tryd.prog) wq 62 9 5 ⟨w.heap.size, 0, none⟩ 8 (beN 8 R) Tryd.underlying62 Tryd.underlying5 Tryd.underlying9 (fun j hj => by
          rw [Go.WideShapes.add_plain, Nat.zero_add]
          exact hq.cell (mkC_get R j hj))
        rw [hl8] at this
        exact this
      have hcv1 := hcv _ hX
      have hjo : Hid ((⟨(beN 8 R).toArray⟩ : ByteArray) ++ id = out) := by
        show _ = _
        rw [hf.out]
        exact append_list _ _
      have hz : (⟨(beN 8 R).toArray⟩ : ByteArray).size = 8 := by rw [size_mk, beN_length]
      generalize (⟨(beN 8 R).toArray⟩ : ByteArray) = mb at *
      clear hcv hX
      go_wp2
      go_ret
      exact ⟨by rw [← hjo.out]; rfl, hB⟩
end Go.Proofs.YtoodapbmpbaogaaDoor
