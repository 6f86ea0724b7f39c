/- What access.lastWriters does. -/
import Derived.Test.YthegadhkhbokkaaAccGroups
namespace Go.Proofs.Ythegadhkhbokkaa
open Go Go.RowKit
set_option linter.unusedVariables false

/-- Transactions are few, and their keys. -/
def Few (l : List TxA) : Prop := l.length ≤ 1000 ∧ ∀ x ∈ l, x.rs.length ≤ 1000 ∧ x.ws.length ≤ 1000

/-- The last writers among the first i members, and of member i's first keys. -/
def lastP (l : List RwD) (i : Nat) (ks : List ByteArray) (key : ByteArray) : Option Value :=
  if inK ks key = true then some (.int .i64 ((i : Nat) : Int)) else (lastN l key i).map (fun w => .int .i64 ((w : Nat) : Int))

theorem lastP_put {l : List RwD} {i j : Nat} {ks : List ByteArray} {y : ByteArray} (hy : ks[j]? = some y) (k : ByteArray) : lastP l i (ks.take (j + 1)) k = putF (lastP l i (ks.take j)) y (.int .i64 ((i : Nat) : Int)) k := by
  rw [List.take_add_one, hy]
  unfold lastP putF
  simp only [Option.toList_some, inK_snoc]
  by_cases h : k = y
  · subst h; simp
  · rw [if_neg h]
    have : decide (y = k) = false := decide_eq_false (fun e => h e.symm)
    rw [this, Bool.or_false]

theorem lastP_end {l : List RwD} {i : Nat} {t : RwD} (ht : l[i]? = some t) (k : ByteArray) : lastP l (i + 1) [] k = lastP l i t.ws k := by
  have h1 : lastN l k (i + 1) = match l[i]? with | some t => if inK t.ws k = true then some i else lastN l k i | none => lastN l k i := rfl
  unfold lastP
  have e0 : inK [] k = false := rfl
  rw [e0, h1, ht]
  simp only [Bool.false_eq_true, if_false]
  by_cases h : inK t.ws k = true
  · rw [if_pos h, if_pos h]; rfl
  · rw [if_neg h, if_neg h]

theorem lastP_start (l : List RwD) (k : ByteArray) : lastP l 0 [] k = none := rfl

def GotLast (W : World) (l : List RwD) (e : Ending) (w : World) : Prop :=
  ∃ b n, e = .returned (.map (some b)) ∧ SMap w b (lastF l) n ∧ W.heap.size ≤ b ∧ Below W.heap.size W w

set_option maxRecDepth 100000 in
set_option maxHeartbeats 1000000 in
theorem last_any (l : List TxA) (ao : Option Addr) (cp : Nat) (w : World) (hl : RowAt txA w ao l) (hf : Few l) :
    Calls Try.prog 19 #[.slice ao l.length cp] w fun e w' => GotLast w (rwL l) e w' := by
  have hM := SMap.new w
  have hB := belowNew w (.map #[] 0)
  have mk : ∀ (w : World), (Instr.makeMap 47 none).run Try.prog w = .ok (.map (some w.heap.size)) (w.alloc (.map #[] 0)) := fun w => rfl
  have hl1 := hf.1
  go_enter Try.func19, Try.ntmps19
  go_wp2_with fail
  go_loopw [11] (fun v11 wr => ∃ i m : Nat, i ≤ l.length ∧ v11 = .int .i64 (i : Int) ∧ SMap wr w.heap.size (lastP (rwL l) i []) m ∧ m ≤ i * 1000 ∧ Below w.heap.size w wr) (fun v _ => l.length - (intOf v).toNat)
  case atStart => exact ⟨0, 0, Nat.zero_le _, rfl, hM, by omega, hB⟩
  case round =>
    obtain ⟨i, m, hi, rfl, hm1, hm2, hb⟩ := hrel
    clear hM hB
    by_cases hil : i < l.length
    · have g1 : (i : Int) < (l.length : Int) := by omega
      obtain ⟨x, hx⟩ : ∃ p, l[i]? = some p := ⟨_, List.getElem?_eq_getElem hil⟩
      obtain ⟨b, off, rfl, hbl, x0, x1, x2, x3, x4, x5, x6, x7, x8, hA⟩ := (hl.below hb).tx hx
      have hbn := belowNew wr (.cells x.c.toArray 26)
      have hwr0 := hA.wr.below hbn
      have hzw := hA.zw
      have hf2 := (hf.2 x (List.mem_of_getElem? hx)).2
      have hend : Hid (∀ k, lastP (rwL l) (i + 1) [] k = lastP (rwL l) i x.ws k) := lastP_end (rwL_get hx)
      have hwa : Hid (∀ b, rowFoot textK x.wa x.ws b → b < w.heap.size) := fun b hb => (hl.at_ x (List.mem_of_getElem? hx)).wr.lt hb
      obtain ⟨kind, frm, dst, amt, non, key, val, rs, ws, ra, rc, wa, wc⟩ := x
      replace hbn : Below wr.heap.size wr (wr.alloc (.cells #[.int .i64 kind, .string frm, .string dst, .int .u64 amt, .int .u64 non, .string key, .string val, .slice ra rs.length rc, .slice wa ws.length wc] 26)) := hbn
      replace hwr0 : RowAt textK (wr.alloc (.cells #[.int .i64 kind, .string frm, .string dst, .int .u64 amt, .int .u64 non, .string key, .string val, .slice ra rs.length rc, .slice wa ws.length wc] 26)) wa ws := hwr0
      replace hzw : ∀ s ∈ ws, s.size ≤ maxLen := hzw
      replace hf2 : ws.length ≤ 1000 := hf2
      replace hwa : Hid (∀ b, rowFoot textK wa ws b → b < w.heap.size) := hwa
      replace hend : Hid (∀ k, lastP (rwL l) (i + 1) [] k = lastP (rwL l) i ws k) := hend
      have hm3 := hm1.below hbn
      have hb3 := hb.trans (hbn.mono hb.size)
      have hx' : Hid _ := hx
      clear hA hx hm1
      go_wp2_with fail
      generalize (wr.alloc (.cells #[.int .i64 kind, .string frm, .string dst, .int .u64 amt, .int .u64 non, .string key, .string val, .slice ra rs.length rc, .slice wa ws.length wc] 26)) = w3 at *
      go_loopw [19] (fun v19 wq => ∃ j m2 : Nat, j ≤ ws.length ∧ v19 = .int .i64 (j : Int) ∧ SMap wq w.heap.size (lastP (rwL l) i (ws.take j)) m2 ∧ m2 ≤ i * 1000 + j ∧ Kept (fun k => k = w.heap.size) w3 wq) (fun v _ => ws.length - (intOf v).toNat)
      case atStart => exact ⟨0, m, Nat.zero_le _, rfl, hm3, hm2, Kept.refl _ _⟩
      case round =>
        obtain ⟨j, m2, hj, rfl, hm4, hm5, hk⟩ := hrel
        by_cases hjl : j < ws.length
        · have g2 : (j : Int) < (ws.length : Int) := by omega
          obtain ⟨y, hy⟩ : ∃ p, ws[j]? = some p := ⟨_, List.getElem?_eq_getElem hjl⟩
          have hwk := hwr0.keep (fun b hb => hk.block b (hwr0.lt hb) (fun e => by have := hwa.out b hb; have e' : b = w.heap.size := e; omega))
          obtain ⟨b2, o2, rfl, hbl2, hcell⟩ := hwk.txt hy
          have hid := hzw y (List.mem_of_getElem? hy)
          have hmx : m2 < maxLen := by unfold maxLen; omega
          have hnx : Hid (∀ k, lastP (rwL l) i (ws.take (j + 1)) k = putF (lastP (rwL l) i (ws.take j)) y (.int .i64 ((i : Nat) : Int)) k) := lastP_put hy
          go_wp2_with (at_mapUpdate; refine smap_put rfl _ _ _ 47 rfl 3 Try.underlying47 w.heap.size _ _ rfl hm4 hmx y hid rfl _ rfl ?_; intro w5 hM5 hk5)
          have hp := putN_le (lastP (rwL l) i (ws.take j)) y m2
          have hk6 := hk.trans hk5
          go_roundw
          case rel => exact ⟨j + 1, _, by omega, by go_num, hM5.congr hnx.out, by omega, hk6⟩
          case measure => simp [intOf]; omega
        · have g2 : ¬ (j : Int) < (ws.length : Int) := by omega
          have hjr : j = ws.length := by omega
          rw [hjr, List.take_length] at hm4
          have hm6 : m2 ≤ (i + 1) * 1000 := by omega
          have hb6 := hb3.trans (hk.below hb3.size (fun k e => by have e' : k = w.heap.size := e; omega))
          clear hjr hm5
          go_wp2
          go_roundw
          case rel => exact ⟨i + 1, m2, by omega, by go_num, hm4.congr hend.out, hm6, hb6⟩
          case measure => simp [intOf]; omega
    · have g1 : ¬ (i : Int) < (l.length : Int) := by omega
      have hir : i = l.length := by omega
      have hfin : SMap wr w.heap.size (lastF (rwL l)) m := hm1.congr (fun k => by unfold lastF; rw [rwL_length, hir]; rfl)
      clear hir hm1
      go_wp2
      go_ret
      exact ⟨_, _, rfl, hfin, Nat.le_refl _, hb⟩
end Go.Proofs.Ythegadhkhbokkaa
