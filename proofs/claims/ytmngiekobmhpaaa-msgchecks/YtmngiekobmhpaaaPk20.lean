/- Texts as one: RefInt, RefGetInt, WireIntsWalk, RefText, RefList, RefTxNeeds. -/
import Derived.Test.YtmngiekobmhpaaaPk01
import Derived.Deep.RegionWith
import Derived.Test.YtmngiekobmhpaaaPk04
import Derived.Test.YtmngiekobmhpaaaPk18
import Derived.Lib.QuietBelow
/- What tuskref01.Int does: the same bytes of a number; nothing old in memory is turned. -/
namespace Go.Proofs.Ytmngiekobmhpaaa
open Go.RowKit

theorem bcell {W w1 : World} (hb : Below W.heap.size W w1) : ∀ b o, b < W.heap.size → w1.cell? ⟨b, o, none⟩ = W.cell? ⟨b, o, none⟩ :=
  fun b o h => hb.cell (p := ⟨b, o, none⟩) h

theorem conv_byte {w : World} {b : Nat} {x : Nat} (hx : x < 256) (h : w.cell? ⟨b, 0, none⟩ = some (.int .u8 (x : Int))) :
    (convert 57 9 (.slice (some ⟨b, 0, none⟩) 1 1)).run Try.prog w = .ok (.string ⟨#[UInt8.ofNat x]⟩) w := by
  have := run_convert_bytes_back w 57 9 5 ⟨b, 0, none⟩ 1 [UInt8.ofNat x] Try.underlying57 Try.underlying5 Try.underlying9 (fun j hj => by
    have : j = 0 := by simp at hj; omega
    subst this
    have e : (UInt8.ofNat x).toNat = x := by simp; omega
    simp only [List.getElem_cons_zero, e]
    simpa [Addr.add] using h)
  exact this

set_option maxRecDepth 100000 in
set_option maxHeartbeats 1000000 in
theorem refInt_no (n : Int) (w : World) (h : n < 0 ∨ 4611686018427387903 < n) :
    Calls Try.prog 26 #[.int .i64 n] w fun e w' => e = .returned (.string ⟨#[]⟩) ∧ w' = w := by
  rcases h with h | h
  · go_enter Try.func26, Try.ntmps26
    go_wp2
    go_ret
    exact ⟨rfl, rfl⟩
  · have h0 : ¬ n < 0 := by omega
    go_enter Try.func26, Try.ntmps26
    go_wp2
    go_ret
    exact ⟨rfl, rfl⟩

set_option maxRecDepth 100000 in
set_option maxHeartbeats 1000000 in
theorem refInt_small (n : Nat) (w : World) (h : n < 128) :
    Calls Try.prog 26 #[.int .i64 n] w fun e w' => e = .returned (.string ⟨(enc n).toArray⟩) ∧ Below w.heap.size w w' := by
  have h0 : ¬ (n : Int) < 0 := by omega
  have h1 : ¬ (4611686018427387903 : Int) < n := by omega
  have h2 : (n : Int) < 128 := by omega
  have hcv : ∀ (w : World) (b : Nat), w.cell? ⟨b, 0, none⟩ = some (.int .u8 (n : Int)) → (convert 57 9 (.slice (some ⟨b, 0, none⟩) 1 1)).run Try.prog w = .ok (.string ⟨#[UInt8.ofNat n]⟩) w := fun w b hc => conv_byte (by omega) hc
  have HE : Hid (enc n = [UInt8.ofNat n]) := enc_small n h
  go_enter Try.func26, Try.ntmps26
  go_wp2
  go_ret
  exact ⟨by rw [HE.out]; rfl, (Below.refl _ _).alloc (Nat.le_refl _) _⟩

set_option maxRecDepth 100000 in
set_option maxHeartbeats 1000000 in
theorem refInt_big (n : Nat) (w : World) (h : 128 ≤ n) (hn : n ≤ 4611686018427387903)
    (ih : ∀ w, Calls Try.prog 26 #[.int .i64 ((n / 128 : Nat) : Int)] w fun e w' => e = .returned (.string ⟨(enc (n / 128)).toArray⟩) ∧ Below w.heap.size w w') :
    Calls Try.prog 26 #[.int .i64 n] w fun e w' => e = .returned (.string ⟨(enc n).toArray⟩) ∧ Below w.heap.size w w' := by
  have h0 : ¬ (n : Int) < 0 := by omega
  have h1 : ¬ (4611686018427387903 : Int) < n := by omega
  have h2 : ¬ (n : Int) < 128 := by omega
  obtain ⟨r, hr⟩ : ∃ r, r = n % 128 := ⟨_, rfl⟩
  obtain ⟨c, hc⟩ : ∃ c, c = 128 + r := ⟨_, rfl⟩
  obtain ⟨m, hm⟩ : ∃ m, m = n / 128 := ⟨_, rfl⟩
  have e1 : (n : Int).tmod 128 = (r : Int) := by rw [Int.tmod_eq_emod_of_nonneg (by omega)]; omega
  have e2 : IntKind.i64.wrap (128 + (r : Int)) = (c : Int) := by simp [IntKind.wrap, IntKind.bits, IntKind.signed]; omega
  have e3 : IntKind.u8.wrap (c : Int) = (c : Int) := by rw [IntKind.wrap_u8']; omega
  have e4 : IntKind.i64.wrap ((n : Int) / 128) = (m : Int) := by simp [IntKind.wrap, IntKind.bits, IntKind.signed]; omega
  have hcv : ∀ (w : World) (b : Nat), w.cell? ⟨b, 0, none⟩ = some (.int .u8 (c : Int)) → (convert 57 9 (.slice (some ⟨b, 0, none⟩) 1 1)).run Try.prog w = .ok (.string ⟨#[UInt8.ofNat c]⟩) w := fun w b hc => conv_byte (by omega) hc
  have HE : Hid (enc n = UInt8.ofNat c :: enc m) := by
    show _ = _
    rw [hc, hr, hm]; exact enc_big n h
  have IH : Hid (∀ w, Calls Try.prog 26 #[.int .i64 (m : Int)] w fun e w' => e = .returned (.string ⟨(enc m).toArray⟩) ∧ Below w.heap.size w w') := by
    rw [hm]; exact ih
  have hl := enc_length_nine m (by omega)
  clear ih hr hc hm
  generalize enc m = tl at *
  have e5 : (⟨#[UInt8.ofNat c]⟩ ++ ⟨tl.toArray⟩ : ByteArray) = ⟨(enc n).toArray⟩ := by
    rw [HE.out]; exact ByteArray.mk_append_mk [UInt8.ofNat c] tl
  go_enter Try.func26, Try.ntmps26
  go_wp2_with fail
  go_region_with (go_at_call 26; refine (IH.out _).mono ?_; rintro e w' ⟨rfl, hb⟩; have hcl := bcell hb)
  · have hbw : Below w.heap.size w w' := (((Below.refl _ w).alloc (Nat.le_refl _) _).drew).trans (hb.mono (by simp))
    clear hb hcl
    go_wp2
    go_ret
    exact ⟨rfl, hbw⟩
  · have hbw : Below w.heap.size w w' := (((Below.refl _ w).alloc (Nat.le_refl _) _).drew).trans (hb.mono (by simp))
    clear hb hcl
    go_wp2
    go_ret
    exact ⟨rfl, hbw⟩
  · have hbw : Below w.heap.size w w' := ((Below.refl _ w).drew).trans hb
    clear hb hcl
    go_wp2
    go_ret
    exact ⟨rfl, hbw.alloc hbw.size _⟩

theorem refInt_yes : ∀ (n : Nat) (w : World), n ≤ 4611686018427387903 →
    Calls Try.prog 26 #[.int .i64 n] w fun e w' => e = .returned (.string ⟨(enc n).toArray⟩) ∧ Below w.heap.size w w' := by
  intro n
  induction n using Nat.strongRecOn with
  | _ n ih =>
    intro w hn
    by_cases h : n < 128
    · exact refInt_small n w h
    · exact refInt_big n w (by omega) hn (fun w => ih (n / 128) (by omega) w (by omega))

theorem refInt_any (n : Int) (w : World) :
    Calls Try.prog 26 #[.int .i64 n] w fun e w' => e = .returned (.string ⟨(goInt n).toArray⟩) ∧ Below w.heap.size w w' := by
  by_cases h : 0 ≤ n ∧ n ≤ 4611686018427387903
  · obtain ⟨m, rfl⟩ := Int.eq_ofNat_of_zero_le h.1
    have e : goInt (m : Int) = enc m := by rw [goInt, if_pos h]; simp
    rw [e]
    exact refInt_yes m w (by omega)
  · have e : goInt n = [] := by rw [goInt, if_neg h]
    rw [e]
    refine (refInt_no n w (by omega)).mono ?_
    rintro e w' ⟨rfl, rfl⟩
    exact ⟨rfl, Below.refl _ _⟩
end Go.Proofs.Ytmngiekobmhpaaa

/- What tuskref01.GetInt does: it answers as the number at the front of bytes is defined; memory stands. -/
namespace Go.Proofs.Ytmngiekobmhpaaa
open Go.RowKit

def val : List UInt8 → Nat
  | [] => 0
  | c :: r => c.toNat % 128 + 128 * val r

theorem val_drop_le : ∀ (l : List UInt8) (j : Nat), val (l.drop j) ≤ val l
  | [], j => by simp
  | c :: r, 0 => by simp
  | c :: r, j + 1 => by
    have := val_drop_le r j
    simp only [List.drop_succ_cons, val]
    omega

theorem giGo_val : ∀ (k : Nat) (l : List UInt8) (acc i : Nat) (hk : k < l.length), (∀ j (hj : j < l.length), j < k → 128 ≤ l[j].toNat) → l[k].toNat < 128 → i + k ≤ 8 →
    giGo l acc i = if 4611686018427387903 < acc + val (l.take (k + 1)) * 128 ^ i then (0, 0, 2) else if l[k].toNat = 0 ∧ 1 < i + k + 1 then (0, 0, 3) else (acc + val (l.take (k + 1)) * 128 ^ i, i + k + 1, 0)
  | 0, c :: r, acc, i, hk, _, h2, _ => by
    simp only [List.getElem_cons_zero] at h2
    rw [giGo, if_neg (by omega)]
    simp [val]
  | k + 1, c :: r, acc, i, hk, h1, h2, h3 => by
    have hc : 128 ≤ c.toNat := h1 0 (by simp) (by omega)
    simp only [List.length_cons] at hk
    rw [giGo, if_pos hc, if_neg (by omega)]
    rw [giGo_val k r _ (i + 1) (by omega) (fun j hj hjk => h1 (j + 1) (by simp; omega) (by omega)) (by simpa using h2) (by omega)]
    have e : acc + c.toNat % 128 * 128 ^ i + val (r.take (k + 1)) * 128 ^ (i + 1) = acc + val ((c :: r).take (k + 1 + 1)) * 128 ^ i := by
      rw [List.take_succ_cons, val, Nat.pow_succ, Nat.add_mul, Nat.mul_comm (128 ^ i) 128, ← Nat.mul_assoc, Nat.mul_comm (val _) 128]
      omega
    rw [e]
    simp only [List.getElem_cons_succ]
    have e2 : i + 1 + k + 1 = i + (k + 1) + 1 := by omega
    rw [e2]
  | 0, [], _, _, hk, _, _, _ => by simp at hk
  | k + 1, [], _, _, hk, _, _, _ => by simp at hk

theorem giGo_high : ∀ (l : List UInt8) (acc i : Nat), (∀ c ∈ l, 128 ≤ c.toNat) → i + l.length ≤ 8 → giGo l acc i = (0, 0, 1)
  | [], _, _, _, _ => by simp [giGo]
  | c :: r, acc, i, h, h2 => by
    simp only [List.length_cons] at h2
    rw [giGo, if_pos (h c (by simp)), if_neg (by omega)]
    exact giGo_high r _ _ (fun x hx => h x (by simp [hx])) (by omega)

theorem giGo_nine : ∀ (k : Nat) (l : List UInt8) (acc i : Nat), i + k = 9 → 0 < k → k ≤ l.length → (∀ j (hj : j < l.length), j < k → 128 ≤ l[j].toNat) → giGo l acc i = (0, 0, 2)
  | 0, _, _, _, _, h, _, _ => by omega
  | k + 1, [], _, _, _, _, h, _ => by simp at h
  | k + 1, c :: r, acc, i, h1, _, h3, h4 => by
    have hc : 128 ≤ c.toNat := h4 0 (by simp) (by omega)
    rw [giGo, if_pos hc]
    by_cases h : i + 1 = 9
    · rw [if_pos h]
    · rw [if_neg h]
      exact giGo_nine k r _ _ (by omega) (by omega) (by simp at h3; omega) (fun j hj hjk => h4 (j + 1) (by simp; omega) (by omega))

theorem val_step (s : ByteArray) (k j : Nat) (hk : k < s.size) (hj : j ≤ k) : val ((s.data.toList.take (k + 1)).drop j) = s[j].toNat % 128 + 128 * val ((s.data.toList.take (k + 1)).drop (j + 1)) := by
  have h1 : j < (s.data.toList.take (k + 1)).length := by simp; omega
  rw [List.drop_eq_getElem_cons h1, val]
  simp
  rfl

theorem getElem_list (s : ByteArray) (j : Nat) (h : j < s.data.toList.length) : s.data.toList[j] = s[j]'(by simpa using h) := by
  simp
  rfl
end Go.Proofs.Ytmngiekobmhpaaa

/- tusklaw01.WireInts answers true at every number and every string; nothing old in memory is turned. -/
namespace Go.Proofs.Ytmngiekobmhpaaa
open Go.RowKit
end Go.Proofs.Ytmngiekobmhpaaa

/- What tuskref01.Text and tuskref01.GetText do. -/
namespace Go.Proofs.Ytmngiekobmhpaaa
open Go.RowKit

set_option maxRecDepth 100000 in
set_option maxHeartbeats 400000 in
theorem refText_any (s : ByteArray) (w : World) (hs : s.size ≤ 140737488351232000) :
    Calls Try.prog 28 #[.string s] w fun e w' => e = .returned (.string ⟨(txt s.data.toList).toArray⟩) ∧ Below w.heap.size w w' := by
  have hg := goInt_length s.size
  have e1 : ∀ l : List UInt8, l = goInt s.size → Value.string (⟨l.toArray⟩ ++ s) = Value.string ⟨(txt s.data.toList).toArray⟩ := by
    rintro l rfl
    rw [append_list, txt]
    simp
  go_enter Try.func28, Try.ntmps28
  go_wp2_with fail
  refine (refInt_any _ _).mono ?_
  rintro e w' ⟨rfl, hb⟩
  obtain ⟨l, hl⟩ : ∃ l, l = goInt s.size := ⟨_, rfl⟩
  rw [← hl] at hg ⊢
  have E := e1 l hl
  clear e1 hl
  go_wp2
  go_ret
  exact ⟨rfl, hb⟩

theorem getText_at' (s : ByteArray) (w : World) (t : List UInt8) (k er : Nat) (hs : s.size ≤ maxLen) (hr : getText s.data.toList = (t, k, er)) :
    Calls Try.prog 110 #[.string s] w fun e w' => e = .returned (.tuple #[.string ⟨t.toArray⟩, .int .i64 k, .int .i64 er]) ∧ w' = w := by
  have h := getText_any s w hs
  rw [hr] at h
  exact h
end Go.Proofs.Ytmngiekobmhpaaa

/- What tuskref01.List and tuskref01.GetList do. -/
namespace Go.Proofs.Ytmngiekobmhpaaa
open Go.RowKit

set_option maxRecDepth 100000 in
set_option maxHeartbeats 1000000 in
theorem refList_any (ao : Option Addr) (cap : Nat) (ss : List ByteArray) (w : World) (hc : StrsAt w ao ss) (hlen : (lst (bl ss)).length ≤ 140737488355328) (hn : ss.length ≤ 4611686018427387903) :
    Calls Try.prog 62 #[.slice ao ss.length cap] w fun e w' => e = .returned (.string ⟨(lst (bl ss)).toArray⟩) ∧ Below w.heap.size w w' := by
  have hbl : (bl ss).length = ss.length := by simp [bl]
  have HL : Hid (∀ k, k ≤ ss.length → (goInt ss.length ++ ((bl ss).take k).flatMap txt).length ≤ 140737488355328) := by
    intro k _
    have h1 := take_flat_le (bl ss) k
    have h2 : (lst (bl ss)).length = (goInt ss.length).length + ((bl ss).flatMap txt).length := by rw [lst, List.length_append, hbl]
    rw [List.length_append]
    omega
  have Hbl : Hid ((bl ss).length = ss.length) := hbl
  clear hlen hbl
  go_enter Try.func62, Try.ntmps62
  go_wp2_with fail
  refine (refInt_any _ _).mono ?_
  rintro e w1 ⟨rfl, hb1⟩
  go_wp2
  go_loopw [3, 4] (fun v i wr => ∃ k : Nat, k ≤ ss.length ∧ i = .int .i64 k ∧ v = .string ⟨(goInt ss.length ++ ((bl ss).take k).flatMap txt).toArray⟩ ∧ Below w.heap.size w wr) (fun _ i _ => ss.length - (intOf i).toNat)
  case atStart => exact ⟨0, Nat.zero_le _, rfl, by simp, hb1⟩
  case round =>
    clear hb1
    obtain ⟨k, hk, rfl, rfl, hb⟩ := hrel
    by_cases hlt : k < ss.length
    · obtain ⟨b, off, rfl, hbl, hcell⟩ := (hc.below hb) k hlt
      have hkb : k < (bl ss).length := by rw [Hbl.out]; exact hlt
      have hek : (bl ss)[k] = ss[k].data.toList := by simp [bl]
      have hlen1 := HL.out (k + 1) hlt
      have hlen0 := HL.out k hk
      rw [take_flat _ _ hkb, hek, ← List.append_assoc, List.length_append] at hlen1
      have htl : ss[k].size ≤ (txt ss[k].data.toList).length := by simp [txt]
      have hE : (⟨(goInt ss.length ++ ((bl ss).take k).flatMap txt).toArray⟩ ++ ⟨(txt ss[k].data.toList).toArray⟩ : ByteArray) = ⟨(goInt ss.length ++ ((bl ss).take (k + 1)).flatMap txt).toArray⟩ := by
        rw [ByteArray.mk_append_mk, take_flat _ _ hkb, hek, ← List.append_assoc]
      clear hek hkb
      have hl1 : (⟨(goInt ss.length ++ ((bl ss).take k).flatMap txt).toArray⟩ : ByteArray).size + (⟨(txt ss[k].data.toList).toArray⟩ : ByteArray).size ≤ 140737488355328 := by
        rw [size_mk, size_mk]; exact hlen1
      have hss : ss[k].size ≤ 140737488351232000 := by omega
      clear hlen1 hlen0 htl
      generalize (⟨(goInt ss.length ++ ((bl ss).take k).flatMap txt).toArray⟩ : ByteArray) = s0 at *
      obtain ⟨s1, hs1⟩ : ∃ s1, s1 = (⟨(goInt ss.length ++ ((bl ss).take (k + 1)).flatMap txt).toArray⟩ : ByteArray) := ⟨_, rfl⟩
      rw [← hs1] at hE
      have Hs1 : Hid (s1 = (⟨(goInt ss.length ++ ((bl ss).take (k + 1)).flatMap txt).toArray⟩ : ByteArray)) := hs1
      clear hs1
      go_wp2_with fail
      refine (refText_any _ _ hss).mono ?_
      rintro e w3 ⟨rfl, hb3⟩
      have b3 : Below w.heap.size w w3 := hb.trans (hb3.mono hb.size)
      clear hb hb3
      generalize (⟨(txt ss[k].data.toList).toArray⟩ : ByteArray) = s2 at *
      go_wp2
      go_roundw
      case rel => exact ⟨k + 1, by omega, by go_num, by rw [Hs1.out], b3⟩
      case measure => simp [intOf]; omega
    · go_wp2
      go_ret
      refine ⟨ret_str ?_, hb⟩
      have e1 : k = (bl ss).length := by rw [Hbl.out]; omega
      rw [e1, List.take_length, lst, Hbl.out]
end Go.Proofs.Ytmngiekobmhpaaa

/- What tuskref04.Needs, Has, Fits and Encode do; nothing old in memory is turned. -/
namespace Go.Proofs.Ytmngiekobmhpaaa
open Go.RowKit Go.Sort
set_option linter.unusedVariables false

theorem beq_of_less {x y : List UInt8} (h : Op.bytesLess x y = true) : (x == y) = false := beq_eq_false_iff_ne.2 (less_ne h)

theorem eq_of_neither {x y : List UInt8} (h1 : Op.bytesLess x y = false) (h2 : Op.bytesLess y x = false) : x = y := by
  rw [less_eq, decide_eq_false_iff_not] at h1 h2
  exact List.le_antisymm (List.not_lt.1 h2) (List.not_lt.1 h1)

set_option maxRecDepth 100000 in
set_option maxHeartbeats 1000000 in
theorem refEncode_no (d : TxD) (ra : Option Addr) (rc : Nat) (wa : Option Addr) (wc : Nat) (w : World) (hA : TxAt w d ra wa) (hs : TxSizes d) (hz : checkL d ≠ 0) :
    Calls Try.prog 61 #[txV d ra rc wa wc] w fun e w' => e = .returned (.tuple #[.string ⟨#[]⟩, .int .i64 (checkL d : Int)]) ∧ Below w.heap.size w w' := by
  have hB := belowNew w (.cells (txC d ra rc wa wc).toArray 96)
  have cc := refCheck_any d ra rc wa wc _ (hA.below hB) hs
  have hz' : ((checkL d : Int) != 0) = true := by rw [bne_iff_ne]; omega
  generalize checkL d = n at cc hz' ⊢
  clear hz hA
  unfold txV at cc ⊢
  go_enter Try.func61, Try.ntmps61
  go_wp2_with fail
  refine cc.mono ?_
  rintro e w1 ⟨rfl, hb1⟩
  have hB1 := hB.trans (hb1.mono hB.size)
  clear hb1 cc
  go_wp2
  go_ret2
  exact ⟨rfl, hB1⟩

theorem joins (l m : List UInt8) : (⟨l.toArray⟩ ++ ⟨m.toArray⟩ : ByteArray) = ⟨(l ++ m).toArray⟩ := ByteArray.mk_append_mk l m

set_option maxRecDepth 100000 in
set_option maxHeartbeats 4000000 in
theorem refEncode_yes (d : TxD) (ra : Option Addr) (rc : Nat) (wa : Option Addr) (wc : Nat) (w : World) (hA : TxAt w d ra wa) (hs : TxSizes d) (hz : checkL d = 0) :
    Calls Try.prog 61 #[txV d ra rc wa wc] w fun e w' => e = .returned (.tuple #[.string ⟨(encL d).toArray⟩, .int .i64 0]) ∧ Below w.heap.size w w' := by
  have hX : Arr _ _ _ (txC d ra rc wa wc) := TxBox.new w d ra rc wa wc
  have hB := belowNew w (.cells (txC d ra rc wa wc).toArray 96)
  have cc := refCheck_any d ra rc wa wc _ (hA.below hB) hs
  rw [hz] at cc
  obtain ⟨z1, z2, z3, z4, z5, z6⟩ := check_zero hz
  obtain ⟨y1, y2, y3, y4⟩ := fields_sizes z2
  have y5 := lst_le z5
  have y6 := lst_le z6
  have y7 := (keys_sizes z5).1
  have y8 := (keys_sizes z6).1
  have x0 := goInt_length d.kind
  have x1 := txt_le d.frm.data.toList
  have x2 := txt_le d.to.data.toList
  have x3 := goInt_length d.amt
  have x4 := goInt_length d.non
  have x5 := txt_le d.key.data.toList
  have x6 := txt_le d.val.data.toList
  have e1 : d.frm.data.toList.length = d.frm.size := by simp
  have e2 : d.to.data.toList.length = d.to.size := by simp
  have e5 : d.key.data.toList.length = d.key.size := by simp
  have e6 : d.val.data.toList.length = d.val.size := by simp
  have C0 := fun w1 => refInt_any d.kind w1
  have C1 := fun w1 => refText_any d.frm w1 (by omega)
  have C2 := fun w1 => refText_any d.to w1 (by omega)
  have C3 := fun w1 => refInt_any (d.amt : Int) w1
  have C4 := fun w1 => refInt_any (d.non : Int) w1
  have C5 := fun w1 => refText_any d.key w1 (by omega)
  have C6 := fun w1 => refText_any d.val w1 (by omega)
  have C7 := fun w1 (h : StrsAt w1 ra d.rs) => refList_any ra rc d.rs w1 h (by omega) (by omega)
  have C8 := fun w1 (h : StrsAt w1 wa d.ws) => refList_any wa wc d.ws w1 h (by omega) (by omega)
  have E : Hid (encL d = goInt d.kind ++ txt d.frm.data.toList ++ txt d.to.data.toList ++ goInt d.amt ++ goInt d.non ++ txt d.key.data.toList ++ txt d.val.data.toList ++ lst (bl d.rs) ++ lst (bl d.ws)) := (rfl : _ = _)
  obtain ⟨out, hout⟩ : ∃ out, out = (⟨(encL d).toArray⟩ : ByteArray) := ⟨_, rfl⟩
  rw [← hout]
  have Hout : Hid (out = (⟨(encL d).toArray⟩ : ByteArray)) := hout
  clear hout
  replace z3 : (d.amt : Int) ≤ 4611686018427387903 := by omega
  replace z4 : (d.non : Int) ≤ 4611686018427387903 := by omega
  generalize goInt d.kind = l0 at *
  generalize txt d.frm.data.toList = l1 at *
  generalize txt d.to.data.toList = l2 at *
  generalize goInt (d.amt : Int) = l3 at *
  generalize goInt (d.non : Int) = l4 at *
  generalize txt d.key.data.toList = l5 at *
  generalize txt d.val.data.toList = l6 at *
  generalize lst (bl d.rs) = l7 at *
  generalize lst (bl d.ws) = l8 at *
  have hlen : Hid (l0.length ≤ 9 ∧ l1.length ≤ 41 ∧ l2.length ≤ 41 ∧ l3.length ≤ 9 ∧ l4.length ≤ 9 ∧ l5.length ≤ 41 ∧ l6.length ≤ 73 ∧ l7.length ≤ 353 ∧ l8.length ≤ 353) := ⟨by omega, by omega, by omega, by omega, by omega, by omega, by omega, by omega, by omega⟩
  have hAw : ∀ w1, Below w.heap.size w w1 → TxAt w1 d ra wa := fun w1 h => hA.below h
  clear x0 x1 x2 x3 x4 x5 x6 y1 y2 y3 y4 y5 y6 y7 y8 e1 e2 e5 e6 z1 z2 z5 z6 hz hA hs
  obtain ⟨s0, h0⟩ : ∃ q, q = (⟨l0.toArray⟩ : ByteArray) := ⟨_, rfl⟩
  obtain ⟨s1, h1⟩ : ∃ q, q = (⟨l1.toArray⟩ : ByteArray) := ⟨_, rfl⟩
  obtain ⟨s2, h2⟩ : ∃ q, q = (⟨l2.toArray⟩ : ByteArray) := ⟨_, rfl⟩
  obtain ⟨s3, h3⟩ : ∃ q, q = (⟨l3.toArray⟩ : ByteArray) := ⟨_, rfl⟩
  obtain ⟨s4, h4⟩ : ∃ q, q = (⟨l4.toArray⟩ : ByteArray) := ⟨_, rfl⟩
  obtain ⟨s5, h5⟩ : ∃ q, q = (⟨l5.toArray⟩ : ByteArray) := ⟨_, rfl⟩
  obtain ⟨s6, h6⟩ : ∃ q, q = (⟨l6.toArray⟩ : ByteArray) := ⟨_, rfl⟩
  obtain ⟨s7, h7⟩ : ∃ q, q = (⟨l7.toArray⟩ : ByteArray) := ⟨_, rfl⟩
  obtain ⟨s8, h8⟩ : ∃ q, q = (⟨l8.toArray⟩ : ByteArray) := ⟨_, rfl⟩
  have HE : Hid (s0 ++ s1 ++ s2 ++ s3 ++ s4 ++ s5 ++ s6 ++ s7 ++ s8 = out) := by
    show _ = _
    rw [h0, h1, h2, h3, h4, h5, h6, h7, h8, joins, joins, joins, joins, joins, joins, joins, joins, Hout.out, E.out]
  have k0 : s0.size ≤ 9 := by rw [h0, size_mk]; exact hlen.out.1
  have k1 : s1.size ≤ 41 := by rw [h1, size_mk]; exact hlen.out.2.1
  have k2 : s2.size ≤ 41 := by rw [h2, size_mk]; exact hlen.out.2.2.1
  have k3 : s3.size ≤ 9 := by rw [h3, size_mk]; exact hlen.out.2.2.2.1
  have k4 : s4.size ≤ 9 := by rw [h4, size_mk]; exact hlen.out.2.2.2.2.1
  have k5 : s5.size ≤ 41 := by rw [h5, size_mk]; exact hlen.out.2.2.2.2.2.1
  have k6 : s6.size ≤ 73 := by rw [h6, size_mk]; exact hlen.out.2.2.2.2.2.2.1
  have k7 : s7.size ≤ 353 := by rw [h7, size_mk]; exact hlen.out.2.2.2.2.2.2.2.1
  have k8 : s8.size ≤ 353 := by rw [h8, size_mk]; exact hlen.out.2.2.2.2.2.2.2.2
  rw [← h0] at C0
  rw [← h1] at C1
  rw [← h2] at C2
  rw [← h3] at C3
  rw [← h4] at C4
  rw [← h5] at C5
  rw [← h6] at C6
  rw [← h7] at C7
  rw [← h8] at C8
  obtain ⟨t1, q1⟩ : ∃ q, s0 ++ s1 = q := ⟨_, rfl⟩
  have m1 : ¬ (9223372036854775807 < s0.size + s1.size) := by omega
  have g1 : t1.size ≤ 50 := by rw [← q1, ByteArray.size_append]; omega
  obtain ⟨t2, q2⟩ : ∃ q, t1 ++ s2 = q := ⟨_, rfl⟩
  have m2 : ¬ (9223372036854775807 < t1.size + s2.size) := by omega
  have g2 : t2.size ≤ 91 := by rw [← q2, ByteArray.size_append]; omega
  obtain ⟨t3, q3⟩ : ∃ q, t2 ++ s3 = q := ⟨_, rfl⟩
  have m3 : ¬ (9223372036854775807 < t2.size + s3.size) := by omega
  have g3 : t3.size ≤ 100 := by rw [← q3, ByteArray.size_append]; omega
  obtain ⟨t4, q4⟩ : ∃ q, t3 ++ s4 = q := ⟨_, rfl⟩
  have m4 : ¬ (9223372036854775807 < t3.size + s4.size) := by omega
  have g4 : t4.size ≤ 109 := by rw [← q4, ByteArray.size_append]; omega
  obtain ⟨t5, q5⟩ : ∃ q, t4 ++ s5 = q := ⟨_, rfl⟩
  have m5 : ¬ (9223372036854775807 < t4.size + s5.size) := by omega
  have g5 : t5.size ≤ 150 := by rw [← q5, ByteArray.size_append]; omega
  obtain ⟨t6, q6⟩ : ∃ q, t5 ++ s6 = q := ⟨_, rfl⟩
  have m6 : ¬ (9223372036854775807 < t5.size + s6.size) := by omega
  have g6 : t6.size ≤ 223 := by rw [← q6, ByteArray.size_append]; omega
  obtain ⟨t7, q7⟩ : ∃ q, t6 ++ s7 = q := ⟨_, rfl⟩
  have m7 : ¬ (9223372036854775807 < t6.size + s7.size) := by omega
  have g7 : t7.size ≤ 576 := by rw [← q7, ByteArray.size_append]; omega
  obtain ⟨t8, q8⟩ : ∃ q, t7 ++ s8 = q := ⟨_, rfl⟩
  have m8 : ¬ (9223372036854775807 < t7.size + s8.size) := by omega
  have g8 : t8.size ≤ 929 := by rw [← q8, ByteArray.size_append]; omega
  have HE2 := HE.out
  rw [q1, q2, q3, q4, q5, q6, q7, q8] at HE2
  subst HE2
  clear HE
  clear h0 h1 h2 h3 h4 h5 h6 h7 h8 hlen E Hout k0 k1 k2 k3 k4 k5 k6 k7 k8 g1 g2 g3 g4 g5 g6 g7 g8
  unfold txV at cc ⊢
  go_enter Try.func61, Try.ntmps61
  go_wp2_with fail
  refine cc.mono ?_
  rintro e w1 ⟨rfl, hb1⟩
  have hX1 := hX.below hb1 hX.lt
  have hB1 := hB.trans (hb1.mono hB.size)
  clear hb1 cc hX hB
  obtain ⟨x0, x1, x2, x3, x4, x5, x6, x7, x8⟩ := hX1.cells9
  have X0 : ∀ q os, (grow (redrawn w1 q) os).cell? ⟨w.heap.size, 0, none⟩ = some (.int .i64 d.kind) := fun q os => cell_regrown x0 q os
  have X1 : ∀ q os, (grow (redrawn w1 q) os).cell? ⟨w.heap.size, 1, none⟩ = some (.string d.frm) := fun q os => cell_regrown x1 q os
  have X2 : ∀ q os, (grow (redrawn w1 q) os).cell? ⟨w.heap.size, 2, none⟩ = some (.string d.to) := fun q os => cell_regrown x2 q os
  have X3 : ∀ q os, (grow (redrawn w1 q) os).cell? ⟨w.heap.size, 3, none⟩ = some (.int .u64 (d.amt : Int)) := fun q os => cell_regrown x3 q os
  have X4 : ∀ q os, (grow (redrawn w1 q) os).cell? ⟨w.heap.size, 4, none⟩ = some (.int .u64 (d.non : Int)) := fun q os => cell_regrown x4 q os
  have X5 : ∀ q os, (grow (redrawn w1 q) os).cell? ⟨w.heap.size, 5, none⟩ = some (.string d.key) := fun q os => cell_regrown x5 q os
  have X6 : ∀ q os, (grow (redrawn w1 q) os).cell? ⟨w.heap.size, 6, none⟩ = some (.string d.val) := fun q os => cell_regrown x6 q os
  have X7 : ∀ q os, (grow (redrawn w1 q) os).cell? ⟨w.heap.size, 7, none⟩ = some (.slice ra d.rs.length rc) := fun q os => cell_regrown x7 q os
  have X8 : ∀ q os, (grow (redrawn w1 q) os).cell? ⟨w.heap.size, 8, none⟩ = some (.slice wa d.ws.length wc) := fun q os => cell_regrown x8 q os
  have D0 : ∀ q os, Calls Try.prog 26 #[.int .i64 d.kind] (grow (redrawn w1 q) os) fun e w'' => e = .returned (.string s0) ∧ ∃ p : Regrown, w'' = grow (redrawn w1 p.d) p.os := fun q os => Calls.regrown_of (C0 _)
  have D1 : ∀ q os, Calls Try.prog 28 #[.string d.frm] (grow (redrawn w1 q) os) fun e w'' => e = .returned (.string s1) ∧ ∃ p : Regrown, w'' = grow (redrawn w1 p.d) p.os := fun q os => Calls.regrown_of (C1 _)
  have D2 : ∀ q os, Calls Try.prog 28 #[.string d.to] (grow (redrawn w1 q) os) fun e w'' => e = .returned (.string s2) ∧ ∃ p : Regrown, w'' = grow (redrawn w1 p.d) p.os := fun q os => Calls.regrown_of (C2 _)
  have D3 : ∀ q os, Calls Try.prog 26 #[.int .i64 (d.amt : Int)] (grow (redrawn w1 q) os) fun e w'' => e = .returned (.string s3) ∧ ∃ p : Regrown, w'' = grow (redrawn w1 p.d) p.os := fun q os => Calls.regrown_of (C3 _)
  have D4 : ∀ q os, Calls Try.prog 26 #[.int .i64 (d.non : Int)] (grow (redrawn w1 q) os) fun e w'' => e = .returned (.string s4) ∧ ∃ p : Regrown, w'' = grow (redrawn w1 p.d) p.os := fun q os => Calls.regrown_of (C4 _)
  have D5 : ∀ q os, Calls Try.prog 28 #[.string d.key] (grow (redrawn w1 q) os) fun e w'' => e = .returned (.string s5) ∧ ∃ p : Regrown, w'' = grow (redrawn w1 p.d) p.os := fun q os => Calls.regrown_of (C5 _)
  have D6 : ∀ q os, Calls Try.prog 28 #[.string d.val] (grow (redrawn w1 q) os) fun e w'' => e = .returned (.string s6) ∧ ∃ p : Regrown, w'' = grow (redrawn w1 p.d) p.os := fun q os => Calls.regrown_of (C6 _)
  have D7 : ∀ q os, Calls Try.prog 62 #[.slice ra d.rs.length rc] (grow (redrawn w1 q) os) fun e w'' => e = .returned (.string s7) ∧ ∃ p : Regrown, w'' = grow (redrawn w1 p.d) p.os := fun q os => Calls.regrown_of (C7 _ (hAw _ (hB1.trans ((below_regrown w1 q os).mono hB1.size))).rd)
  have D8 : ∀ q os, Calls Try.prog 62 #[.slice wa d.ws.length wc] (grow (redrawn w1 q) os) fun e w'' => e = .returned (.string s8) ∧ ∃ p : Regrown, w'' = grow (redrawn w1 p.d) p.os := fun q os => Calls.regrown_of (C8 _ (hAw _ (hB1.trans ((below_regrown w1 q os).mono hB1.size))).wr)
  clear C0 C1 C2 C3 C4 C5 C6 C7 C8 x0 x1 x2 x3 x4 x5 x6 x7 x8 hX1
  go_wp2_with fail
  refine wp_region_quiet_below (by kernel_rfl) (by kernel_rfl) ?_
  iterate 2 (go_big_quiet_step (fail))
  go_big_quiet_step (exact D0 _ _)
  iterate 2 (go_big_quiet_step (fail))
  go_big_quiet_step (exact D1 _ _)
  go_big_quiet_step (fail)
  iterate 2 (go_big_quiet_step (fail))
  go_big_quiet_step (exact D2 _ _)
  go_big_quiet_step (fail)
  iterate 3 (go_big_quiet_step (fail))
  go_big_quiet_step (exact D3 _ _)
  go_big_quiet_step (fail)
  iterate 3 (go_big_quiet_step (fail))
  go_big_quiet_step (exact D4 _ _)
  go_big_quiet_step (fail)
  iterate 2 (go_big_quiet_step (fail))
  go_big_quiet_step (exact D5 _ _)
  go_big_quiet_step (fail)
  iterate 2 (go_big_quiet_step (fail))
  go_big_quiet_step (exact D6 _ _)
  go_big_quiet_step (fail)
  iterate 2 (go_big_quiet_step (fail))
  go_big_quiet_step (exact D7 _ _)
  go_big_quiet_step (fail)
  iterate 2 (go_big_quiet_step (fail))
  go_big_quiet_step (exact D8 _ _)
  go_big_quiet_step (fail)
  iterate 2 (go_big_quiet_step (fail))
  refine wpQuiet_nil ?_
  rintro w2 ⟨p, rfl⟩
  have hB2 := hB1.trans ((below_regrown w1 p.d p.os).mono hB1.size)
  generalize grow (redrawn w1 p.d) p.os = w2 at hB2 ⊢
  clear D0 D1 D2 D3 D4 D5 D6 D7 D8 X0 X1 X2 X3 X4 X5 X6 X7 X8
  go_wp2
  go_ret2
  exact ⟨rfl, hB2⟩

theorem refEncode_any (d : TxD) (ra : Option Addr) (rc : Nat) (wa : Option Addr) (wc : Nat) (w : World) (hA : TxAt w d ra wa) (hs : TxSizes d) :
    Calls Try.prog 61 #[txV d ra rc wa wc] w fun e w' => e = .returned (.tuple #[.string (encB d), .int .i64 (checkL d : Int)]) ∧ Below w.heap.size w w' := by
  unfold encB
  by_cases hz : checkL d = 0
  · rw [if_pos hz, hz]
    exact refEncode_yes d ra rc wa wc w hA hs hz
  · rw [if_neg hz]
    exact refEncode_no d ra rc wa wc w hA hs hz
end Go.Proofs.Ytmngiekobmhpaaa
