/- What tusklaw20.Own does. -/
import Derived.Test.YtkgidmifgfoeiaaAccOwn
import Derived.Test.YtkgidmifgfoeiaaAccLast
namespace Go.Proofs.Ytkgidmifgfoeiaa
open Go Go.RowKit
set_option linter.unusedVariables false

def GotOwnL (W : World) (l : List TxA) (e : Ending) (w : World) : Prop :=
  ∃ ao cap m, e = .returned (.slice ao m.length cap) ∧ m.length = l.length ∧ RowAt txA w ao m ∧ rwL m = rwL l ∧ Below W.heap.size W w

theorem few_same {l m : List TxA} (h : Few l) (e : rwL m = rwL l) : Few m := by
  have hl : m.length = l.length := by rw [← rwL_length m, e, rwL_length]
  refine ⟨by rw [hl]; exact h.1, fun x hx => ?_⟩
  have h1 : x.rw ∈ rwL l := by rw [← e]; exact List.mem_map.2 ⟨x, hx, rfl⟩
  obtain ⟨y, hy, hxy⟩ := List.mem_map.1 h1
  have := h.2 y hy
  have e1 : y.rs = x.rs := congrArg RwD.rs hxy
  have e2 : y.ws = x.ws := congrArg RwD.ws hxy
  rw [← e1, ← e2]
  exact this

theorem new_tx (w : World) (x : TxA) : ∀ j u, (txA.c x)[j]? = some u → (w.alloc (.cells x.c.toArray 38)).cell? ((⟨w.heap.size, 0, none⟩ : Addr).add j) = some u := by
  intro j u hu
  rw [Go.WideShapes.add_plain, Nat.zero_add]
  exact (Arr.new w 38 x.c).cell hu

set_option maxRecDepth 100000 in
set_option maxHeartbeats 2000000 in
theorem ownL_any (l : List TxA) (ao : Option Addr) (cp : Nat) (w : World) (hl : RowAt txA w ao l) (hf : Few l) :
    Calls Try.prog 10 #[.slice ao l.length cp] w fun e w' => GotOwnL w l e w' := by
  have hl1 := hf.1
  obtain ⟨i0, z0, hi0, hz0, hs0, hb0, hzs0⟩ := txInfoA
  have hQ0 := KQ.empty txA 38 w w.heap.size
  go_enter Try.func10, Try.ntmps10
  go_wp2_with fail
  go_loopw [3, 4] (fun v3 v4 wr => ∃ (i : Nat) (pa : Option Addr) (pc : Nat) (m : List TxA), i ≤ l.length ∧ v3 = .slice pa m.length pc ∧ v4 = .int .i64 (i : Int) ∧ KQ txA 38 wr w.heap.size (.slice pa m.length pc) m ∧ Hid (rwL m = rwL (l.take i)) ∧ Hid (m.length = i) ∧ Below w.heap.size w wr) (fun _ v _ => l.length - (intOf v).toNat)
  case atStart => exact ⟨0, none, 0, [], Nat.zero_le _, rfl, rfl, hQ0, rfl, rfl, Below.refl _ _⟩
  case round =>
    obtain ⟨i, pa, pc, m, hi, rfl, rfl, hq, hm, hml, hb⟩ := hrel
    clear hQ0
    by_cases hil : i < l.length
    · have g1 : (i : Int) < (l.length : Int) := by omega
      obtain ⟨x, hx⟩ : ∃ p, l[i]? = some p := ⟨_, List.getElem?_eq_getElem hil⟩
      obtain ⟨b, off, rfl, hbl, x0, x1, x2, x3, x4, x5, x6, x7, x8, hA⟩ := (hl.below hb).tx hx
      obtain ⟨hxr, hxw⟩ := hf.2 x (List.mem_of_getElem? hx)
      have cO := ownA_any x wr hA (by omega) (by omega)
      have hnx : Hid (∀ y : TxA, y.rs = x.rs → y.ws = x.ws → rwL (m ++ [y]) = rwL (l.take (i + 1))) := fun y e1 e2 => by
        rw [List.take_add_one, hx, Option.toList_some]
        show (m ++ [y]).map TxA.rw = (l.take i ++ [x]).map TxA.rw
        rw [List.map_append, List.map_append]
        have := hm.out
        unfold rwL at this
        rw [this]
        simp [TxA.rw, e1, e2]
      have hql : Hid (∀ b, (Value.slice pa m.length pc).ownBlock = some b → w.heap.size ≤ b ∧ b < wr.heap.size) := fun b e => hq.lt b e
      have hml2 : m.length ≤ 1000 := by rw [hml.out]; omega
      have m1 : m.length + 1 ≤ maxLen := by unfold maxLen; omega
      have m2 : (m.length + 1) * 136 ≤ 140737488355328 := by omega
      have hx' : Hid _ := hx
      clear hA hx hm
      obtain ⟨kind, frm, dst, amt, non, key, val, rs, ws, ra, rc, wa, wc⟩ := x
      unfold TxA.v at cO
      go_wp2_with fail
      refine cO.mono ?_
      rintro _ w3 ⟨y, rfl, hy1, hy2, hyA, hyQ, hyf, hb3⟩
      have hnew := belowNew w3 (.cells y.c.toArray 38)
      have hNW := new_tx w3 y
      have hq3 := (hq.below hb3).below hnew
      have hyA3 := hyA.below hnew
      have hb4 := (hb.trans (hb3.mono hb.size)).trans (hnew.mono (by have := hb.size; have := hb3.size; omega))
      have hbs := hb4.size
      have hyo : ∀ b, txA.foot y b → (Value.slice pa m.length pc).ownBlock ≠ some b := fun b hb e => by
        have h1 := hyf b hb
        have h2 := (hql.out b e).2
        omega
      have hnx2 : Hid (rwL (m ++ [y]) = rwL (l.take (i + 1))) := hnx.out y hy1 hy2
      clear cO hnx hyA hyQ hyf hq hy1 hy2
      obtain ⟨Y, hY⟩ : ∃ Y, Y = y := ⟨_, rfl⟩
      rw [← hY] at hNW hq3 hyA3 hb4 hbs hyo hnx2
      have hYc : w3.alloc (.cells y.c.toArray 38) = w3.alloc (.cells Y.c.toArray 38) := by rw [hY]
      obtain ⟨w4, hw4⟩ : ∃ q, w3.alloc (.cells Y.c.toArray 38) = q := ⟨_, rfl⟩
      rw [hw4] at hNW hq3 hyA3 hb4 hbs hYc
      replace hY : Hid _ := hY
      clear hnew hw4
      obtain ⟨kind', frm', dst', amt', non', key', val', rs', ws', ra', rc', wa', wc'⟩ := y
      replace hYc : w3.alloc (.cells #[.int .i64 kind', .string frm', .string dst', .int .u64 amt', .int .u64 non', .string key', .string val', .slice ra' rs'.length rc', .slice wa' ws'.length wc'] 38) = w4 := hYc
      unfold TxA.v
      go_wp2_with (at_builtin; refine wpList_pushN (K := txA) rfl _ _ 22 rfl w.heap.size 38 i0 _ 136 Try.underlying22 hi0 hz0 hs0 hb0 hzs0 _ m rfl hq3 Y hyA3 hyo ⟨w3.heap.size, 0, none⟩ 1 rfl hNW m1 m2 hbs ?_; intro ao3 cap3 w6 hQ6 hk6 hf6)
      have hb8 := hb4.trans (hk6.below hb4.size (fun b e => (hql.out b e).1))
      have hln : Hid ((m ++ [Y]).length = i + 1) := by unfold Hid; rw [List.length_append, List.length_singleton, hml.out]
      have hle : (m ++ [Y]).length = m.length + 1 := by simp
      have hQ7 : KQ txA 38 w6 w.heap.size (.slice ao3 (m ++ [Y]).length cap3) (m ++ [Y]) := by first | exact hQ6 | (rw [hle]; exact hQ6)
      clear hq3 hk6 hf6 hQ6 hYc hNW hyA3 hb4 hyo
      replace hle : Hid _ := hle
      go_roundw
      case rel => exact ⟨i + 1, ao3, cap3, m ++ [Y], by omega, by rw [hle.out], by go_num, hQ7, hnx2, hln, hb8⟩
      case measure => simp [intOf]; omega
    · have g1 : ¬ (i : Int) < (l.length : Int) := by omega
      have hir : i = l.length := by omega
      have hm2 : rwL m = rwL l := by rw [hm.out, hir, List.take_length]
      have hfin : GotOwnL w l (.returned (.slice pa m.length pc)) wr := ⟨pa, pc, m, rfl, by rw [hml.out, hir], hq.rowOf.1, hm2, hb⟩
      clear hir hm2 hq hm
      go_wp2
      go_ret
      exact hfin
end Go.Proofs.Ytkgidmifgfoeiaa
