/- Texts as one: ExeOrd, ExeOpen, ExeSmall, ExeDuo, ExeWorks, ExeRes. -/
import Derived.Test.YtajpfkenhchafaaDoorEd12
import Derived.Test.YtajpfkenhchafaaDoorEd14
import Derived.Test.YtajpfkenhchafaaDoorEd13
import Derived.Test.YtajpfkenhchafaaDoorEd07
import Derived.Test.YtajpfkenhchafaaDoorEd11
import Derived.Test.YtajpfkenhchafaaDoorEd04
import Derived.Test.YtajpfkenhchafaaDoorEd08
import Derived.Lib.Slices
/- The program's executor: what Run and Order do. -/
namespace Go.Proofs.YtajpfkenhchafaaDoor
open Go Go.RowKit
set_option linter.unusedVariables false

set_option maxRecDepth 100000 in
set_option maxHeartbeats 2000000 in
theorem exRun_any (l : List TxM) (lo : Option Addr) (lc : Nat) (W : World) (hl : RowsM W lo l) (x : Nat) (S : Nat → Prop) (s : StF) (N : Nat) (r : List Nat) (n : Nat) (h : PX W x S s N r n)
    (dl : ∀ b, rowFoot txK lo l b → ¬ S b) (hN : N + 2 * l.length ≤ 100000) (hr : r.length ≤ 100000) (hn : n ≤ 100000) :
    Calls Tryd.prog 13 #[.pointer (some ⟨x, 0, none⟩), .slice lo l.length lc] W fun e w' => GotRun PX W x S (l.map TxM.d) s N r n e w' := by
  have cP := plan_any (l.map TxM.a) lo lc W (rows_a hl.row (fun x hx => (hl.fit x hx).1)) hl.few
  rw [List.length_map] at cP
  have hlS := h.lt
  generalize hGOT : (fun e w' => GotRun PX W x S (l.map TxM.d) s N r n e w') = GOT
  have hG : Hid (∀ w1 w', Below W.heap.size W w1 → ∀ ga gc S', KQ natK 3 w' w1.heap.size (.slice ga l.length gc) (execR s (l.map TxM.d)) → PX w' x S' (execS s (l.map TxM.d)) (N + 2 * l.length) (r ++ execR s (l.map TxM.d)) (n + 1) → FreshS w1 S S' → (∀ k, (Value.slice ga l.length gc).ownBlock = some k → ¬ S' k) → Kept S w1 w' → GOT (.returned (.slice ga l.length gc)) w') := by
    intro w1 w' hb ga gc S' h1 h2 h3 h4 h5
    rw [← hGOT]
    refine ⟨ga, gc, S', by rw [List.length_map], by rw [List.length_map]; exact h1.rebase hb.size, by rw [List.length_map]; exact h2, fun k e => ?_, by rw [List.length_map]; exact h4, (Kept.of_below hb).trans h5⟩
    rcases h3 k e with q | q
    · exact Or.inl q
    · exact Or.inr (Nat.le_trans hb.size q)
  clear hGOT
  go_enter Tryd.func13, Tryd.ntmps13
  go_wp2_with (first
    | (go_at_call 27; refine cP.mono ?_; rintro _ w1 ⟨q, p, rfl, hP, hls, hb1⟩
       obtain ⟨qa, qc, rfl, -, hr1⟩ := hP.form
       have hfit := (plan_fit hls (rwL_rows hl)).1
       have hz : chkN ((l.map TxM.d).map TxD.rw) (lsP p) = 0 := by rw [hls, rw_ad]; exact chk_plan _
       have cO := exDo_any l lo lc p qa qc w1 (hl.below hb1) hr1 hfit x S s N r n (h.below hb1) hz dl (fun b hb e => by have := hP.foot_ge b hb; have := hlS b e; omega) hN hr hn
       clear cP)
    | (go_at_call 25; refine cO.mono ?_; rintro _ w2 ⟨ga, gc, S', rfl, h2, h3, h4, h5, h6⟩
       rw [List.length_map] at h2 h3 h5 ⊢))
  exact hG.out w1 w2 hb1 ga gc S' h2 h3 h4 h5 h6

set_option maxRecDepth 100000 in
set_option maxHeartbeats 2000000 in
theorem exOrder_any (l : List TxM) (lo : Option Addr) (lc : Nat) (p : List IRow) (po : Option Addr) (pc : Nat) (W : World) (hl : RowsM W lo l) (hp : RowAt irowK W po p) (hpf : RowsFit p) (x : Nat) (S : Nat → Prop) (s : StF) (N : Nat) (r : List Nat) (n : Nat) (h : PX W x S s N r n)
    (dl : ∀ b, rowFoot txK lo l b → ¬ S b) (dp : ∀ b, rowFoot irowK po p b → ¬ S b) (hN : N + 2 * l.length ≤ 100000) (hr : r.length ≤ 100000) (hn : n ≤ 100000) :
    Calls Tryd.prog 11 #[.pointer (some ⟨x, 0, none⟩), .slice lo l.length lc, .slice po p.length pc] W fun e w' => GotOrder PX W x S (l.map TxM.d) (lsP p) s N r n e w' := by
  have cC := checkP_any (l.map TxM.a) lo lc p po pc W (rows_a hl.row (fun x hx => (hl.fit x hx).1)) hl.few hp hpf
  rw [List.length_map, rw_ad] at cC
  generalize hGOT : (fun e w' => GotOrder PX W x S (l.map TxM.d) (lsP p) s N r n e w') = GOT
  by_cases hz : chkN ((l.map TxM.d).map TxD.rw) (lsP p) = 0
  · have hG : Hid (∀ w1 w', Below W.heap.size W w1 → ∀ ga gc S', KQ natK 3 w' w1.heap.size (.slice ga l.length gc) (execR s (l.map TxM.d)) → PX w' x S' (execS s (l.map TxM.d)) (N + 2 * l.length) (r ++ execR s (l.map TxM.d)) (n + 1) → FreshS w1 S S' → (∀ k, (Value.slice ga l.length gc).ownBlock = some k → ¬ S' k) → Kept S w1 w' → GOT (.returned (.tuple #[.slice ga l.length gc, .int .i64 0])) w') := by
      intro w1 w' hb ga gc S' h1 h2 h3 h4 h5
      rw [← hGOT]
      refine Or.inr ⟨hz, ga, gc, S', by rw [List.length_map], by rw [List.length_map]; exact h1.rebase hb.size, by rw [List.length_map]; exact h2, fun k e => ?_, by rw [List.length_map]; exact h4, (Kept.of_below hb).trans h5⟩
      rcases h3 k e with q | q
      · exact Or.inl q
      · exact Or.inr (Nat.le_trans hb.size q)
    clear hGOT
    rw [hz] at cC
    go_enter Tryd.func11, Tryd.ntmps11
    go_wp2_with (first
      | (go_at_call 24; refine cC.mono ?_; rintro _ w1 ⟨rfl, hb1⟩
         have cO := exDo_any l lo lc p po pc w1 (hl.below hb1) (hp.below hb1) hpf x S s N r n (h.below hb1) hz dl dp hN hr hn
         clear cC)
      | (go_at_call 25; refine cO.mono ?_; rintro _ w2 ⟨ga, gc, S', rfl, h2, h3, h4, h5, h6⟩
         rw [List.length_map] at h2 h3 h5 ⊢))
    exact hG.out w1 w2 hb1 ga gc S' h2 h3 h4 h5 h6
  · have hG : Hid (∀ w', Below W.heap.size W w' → GOT (.returned (.tuple #[.slice none 0 0, .int .i64 (chkN ((l.map TxM.d).map TxD.rw) (lsP p) : Nat)])) w') := fun w' h => by
      rw [← hGOT]
      exact Or.inl ⟨hz, rfl, h⟩
    clear hGOT
    generalize chkN ((l.map TxM.d).map TxD.rw) (lsP p) = c at hz hG cC
    have g0 : ((c : Int) != 0) = true := by simp; omega
    have g1 : ¬ (c : Int) = 0 := by omega
    go_enter Tryd.func11, Tryd.ntmps11
    go_wp2_with (go_at_call 24; refine cC.mono ?_; rintro _ w1 ⟨rfl, hb1⟩)
    exact hG.out _ hb1
end Go.Proofs.YtajpfkenhchafaaDoor

/- How batches that came in are opened: rows of rows of transactions. -/
namespace Go.Proofs.YtajpfkenhchafaaDoor
open Go Go.ChangeShapes Go.WideShapes Go.ChangeAt Go.RowKit Go.Joins Go.Deep
set_option linter.unusedVariables false

/-- A row of transactions, as one of a row. -/
structure TRow where
  l : List TxM
  ao : Option Addr
  cap : Nat

instance : Inhabited TRow := ⟨⟨[], none, 0⟩⟩

/-- Rows of them, with what they reach. -/
def trowK : Kind TRow where
  n := 1
  c x := [.slice x.ao x.l.length x.cap]
  foot x b := rowFoot txK x.ao x.l b
  At w x := RowAt txK w x.ao x.l ∧ (x.ao = none → x.cap = 0)
  pos := by decide
  len _ := rfl
  one x u hu := by
    simp only [List.mem_cons, List.not_mem_nil, or_false] at hu
    rcases hu with rfl; rfl
  lt h hf := h.1.lt hf
  keep h hk := ⟨h.1.keep hk, h.2⟩

theorem RowAt.trow {w : World} {ao : Option Addr} {l : List TRow} (h : RowAt trowK w ao l) {i : Nat} {x : TRow} (hx : l[i]? = some x) :
    ∃ b off, ao = some ⟨b, off, none⟩ ∧ b < w.heap.size ∧ w.cell? ⟨b, off + i, none⟩ = some (.slice x.ao x.l.length x.cap) ∧ RowAt txK w x.ao x.l ∧ (x.ao = none → x.cap = 0) := by
  obtain ⟨b, off, h1, h2, h3⟩ := h.cell i x hx
  have := h3 0 _ rfl
  have e : off + i * trowK.n + 0 = off + i := by show off + i * 1 + 0 = _; omega
  rw [e] at this
  exact ⟨b, off, h1, h2, this, h.at_ x (List.mem_of_getElem? hx)⟩

theorem cellsTxs23 : Tryd.prog.cellsOf 24 = 1 := by kernel_rfl
theorem bytesTxs23 : Tryd.prog.bytesOf 24 = 24 := by kernel_rfl

/-- What a row of transactions weighs. -/
def TRowQ {H : Type} (d : DataW H) (x : TRow) : Prop := (∀ n ∈ d.weights Tryd.prog 24, n ≤ reachBytes) → Wide22 x.l

theorem RowD.txs23 {H : Type} {d : DataW H} {l : List TxM} (hs : RowD TxQs d l) (h : ∀ n ∈ d.weights Tryd.prog 24, n ≤ reachBytes) : Wide22 l := by
  refine txs22_sized (ts := [24]) (ds := [d]) (j := 0) ?_ rfl rfl hs
  rw [List.all_eq_true]
  intro n hn
  have h1 : n ∈ d.weights Tryd.prog 24 := by simpa [DataW.weightsEach] using hn
  exact decide_eq_true (h n h1)

theorem open_trow {H : Type} {enc : TypeId × Value → H} {W : World} {fuel : Nat} {cs : List Value} {y : DataW H × List MemPlace}
    (hf : DataW.trod enc Tryd.prog W 0 (fun _ => true) true fuel 24 cs = some y) : ∃ x : TRow, cs = trowK.c x ∧ trowK.At W x ∧ TRowQ y.1 x := by
  have sl : ∃ a len cap, cs = [.slice a len cap] := by
    rcases open_slice Tryd.underlying24 hf with ⟨hcs, _⟩ | ⟨x, l, c, m, n, D, Pl, hcs, _⟩
    · exact ⟨none, 0, 0, by simpa using hcs⟩
    · exact ⟨some x, _, _, by simpa using hcs⟩
  obtain ⟨a, len, cap, rfl⟩ := sl
  haveI : Inhabited TxM := ⟨⟨.none, none, 0, none, 0⟩⟩
  obtain ⟨l, rfl, h2, h3, _, h5⟩ := open_row txK TxQs Tryd.underlying24 cellsTx open_txk_cells hf
  exact ⟨⟨l, a, cap⟩, rfl, ⟨h2, h3⟩, fun hw => h5.txs23 hw⟩

theorem open_batches23 {H : Type} {enc : TypeId × Value → H} {W : World} {a : Option Addr} {len cap : Nat} {d : DataW H} {p : List MemPlace}
    (h : DataW.Trod enc Tryd.prog W 0 (fun _ => true) true 44 (.slice a len cap) d p) :
    ∃ l : List TRow, l.length = len ∧ RowAt trowK W a l ∧ len ≤ maxLen ∧ RowD TRowQ d l := by
  obtain ⟨fuel, hf⟩ := h
  obtain ⟨l, h1, h2, _, h4, h5⟩ := open_row trowK TRowQ Tryd.underlying44 cellsTxs23 open_trow hf
  exact ⟨l, h1, h2, h4, h5⟩

/-- What a machine has at most, of batches. -/
def Wide23 (l : List TRow) : Prop := l.length ≤ 17592186044416 ∧ ∀ x ∈ l, Wide22 x.l

theorem batches23_sized {H : Type} {ts : List TypeId} {ds : List (DataW H)} (h : (DataW.weightsEach Tryd.prog ts ds).all (· ≤ reachBytes) = true) {j : Nat} {d : DataW H} {l : List TRow} (ht : ts[j]? = some 44) (hd : ds[j]? = some d) (hs : RowD TRowQ d l) : Wide23 l := by
  have hw := weights_of h ht hd
  obtain ⟨h1, h2⟩ := hs.fit Tryd.underlying44 hw
  rw [bytesTxs23] at h1
  simp [reachBytes] at h1
  refine ⟨by omega, fun x hx => ?_⟩
  obtain ⟨y, q1, q2⟩ := h2 x hx
  exact q1 q2
end Go.Proofs.YtajpfkenhchafaaDoor

/- Two rows of results, held against each other; batches: too many? -/
namespace Go.Proofs.YtajpfkenhchafaaDoor
open Go Go.RowKit
set_option linter.unusedVariables false

set_option maxRecDepth 100000 in
theorem ints23_any (w : World) (B B' : Nat) (a1 a2 : Option Addr) (c1 c2 n1 n2 : Nat) (q1 q2 : List Nat) (h1 : KQ natK 3 w B (.slice a1 n1 c1) q1) (h2 : KQ natK 3 w B' (.slice a2 n2 c2) q2) (hn1 : n1 ≤ 1000) (hn2 : n2 ≤ 1000) :
    Calls Tryd.prog 15 #[.slice a1 n1 c1, .slice a2 n2 c2] w fun e w' => e = .returned (.bool (decide (q1 = q2))) ∧ Below w.heap.size w w' := by
  have cS := same_rows w B B' a1 a2 c1 c2 n1 n2 q1 q2 h1 h2 hn1 hn2
  go_enter Tryd.func15, Tryd.ntmps15
  go_wp2_with (go_at_call 29; refine cS.mono ?_; rintro _ w3 ⟨rfl, hb3⟩)
  go_ret
  exact ⟨rfl, hb3⟩

/-- How many they are. -/
def sumR (l : List TRow) : Nat := (l.map (fun x => x.l.length)).sum

/-- Are there too many? -/
def greatR (l : List TRow) : Bool := l.any (fun x => greatM x.l) || decide (200 < sumR l)

theorem sumR_step {l : List TRow} {i : Nat} {x : TRow} (h : l[i]? = some x) : sumR (l.take (i + 1)) = sumR (l.take i) + x.l.length := by
  unfold sumR
  rw [List.take_add_one, h, Option.toList_some, List.map_append, List.sum_append]
  simp

theorem sumR_mem {l : List TRow} {x : TRow} (h : x ∈ l) : x.l.length ≤ sumR l := by
  induction l with
  | nil => cases h
  | cons y l ih =>
    have e : sumR (y :: l) = y.l.length + sumR l := by simp [sumR]
    rcases List.mem_cons.1 h with q | q
    · rw [q, e]; omega
    · have := ih q; omega

/-- Where they are not too many. -/
theorem fewR {l : List TRow} (h : greatR l = false) : (∀ x ∈ l, greatM x.l = false) ∧ sumR l ≤ 200 := by
  unfold greatR at h
  rw [Bool.or_eq_false_iff] at h
  refine ⟨fun x hx => ?_, by have := of_decide_eq_false h.2; omega⟩
  cases hg : greatM x.l with
  | false => rfl
  | true =>
    have h2 : l.any (fun x => greatM x.l) = true := List.any_eq_true.2 ⟨x, hx, hg⟩
    rw [h.1] at h2
    cases h2

set_option maxRecDepth 100000 in
set_option maxHeartbeats 2000000 in
theorem great23_any (l : List TRow) (ao : Option Addr) (cp : Nat) (w : World) (hl : RowAt trowK w ao l) (hw : Wide23 l) :
    Calls Tryd.prog 17 #[.slice ao l.length cp] w fun e w' => e = .returned (.bool (greatR l)) ∧ Below w.heap.size w w' := by
  obtain ⟨hn, hx⟩ := hw
  go_enter Tryd.func17, Tryd.ntmps17
  go_wp2_with fail
  go_loopw [3, 4] (fun v3 v4 wr => ∃ i n : Nat, i ≤ l.length ∧ v3 = .int .i64 (n : Int) ∧ v4 = .int .i64 (i : Int) ∧ Hid (n = sumR (l.take i)) ∧ n ≤ 500 * i ∧ Hid ((l.take i).any (fun x => greatM x.l) = false) ∧ Below w.heap.size w wr) (fun _ v _ => l.length - (intOf v).toNat)
  case atStart => exact ⟨0, 0, Nat.zero_le _, rfl, rfl, rfl, by omega, rfl, Below.refl _ _⟩
  case round =>
    obtain ⟨i, n, hi, rfl, rfl, hnt, hnm, hng, hb⟩ := hrel
    by_cases hil : i < l.length
    · have g1 : (i : Int) < (l.length : Int) := by omega
      obtain ⟨x, hx1⟩ : ∃ p, l[i]? = some p := ⟨_, List.getElem?_eq_getElem hil⟩
      obtain ⟨b, off, hao, hbl, cx, hxr, _⟩ := (hl.below hb).trow hx1
      have hxm := List.mem_of_getElem? hx1
      have cG := greatM_any x.l x.ao x.cap wr hxr (hx x hxm)
      have hcW : ∀ w', Below wr.heap.size wr w' → w'.cell? ⟨b, off + i, none⟩ = some (.slice x.ao x.l.length x.cap) := fun w' hw' => by rw [cell_same (hw'.block _ hbl)]; exact cx
      cases hgx : greatM x.l with
      | true =>
        have hfin : Hid (greatR l = true) := by
          unfold Hid greatR
          rw [Bool.or_eq_true]
          exact Or.inl (List.any_eq_true.2 ⟨x, hxm, hgx⟩)
        rw [hgx] at cG
        clear hnt hng hx1 hxr
        subst hao
        go_wp2_with (go_at_call 8; refine cG.mono ?_; rintro _ w3 ⟨rfl, hb3⟩)
        go_ret
        exact ⟨by rw [hfin.out]; rfl, hb.trans (hb3.mono hb.size)⟩
      | false =>
        have hl5 := (fewM_of hgx).1
        have hnx : Hid (n + x.l.length = sumR (l.take (i + 1))) := by unfold Hid; rw [sumR_step hx1, ← hnt.out]
        have hnf : Hid ((l.take (i + 1)).any (fun x => greatM x.l) = false) := by
          unfold Hid
          rw [List.take_add_one, hx1, Option.toList_some, List.any_append, hng.out]
          simp [hgx]
        rw [hgx] at cG
        clear hnt hng hx1 hxr
        subst hao
        go_wp2_with (go_at_call 8; refine cG.mono ?_; rintro _ w3 ⟨rfl, hb3⟩; have cx3 := hcW w3 hb3)
        go_roundw
        case rel => exact ⟨i + 1, n + x.l.length, by omega, by go_num, by go_num, hnx, by omega, hnf, hb.trans (hb3.mono hb.size)⟩
        case measure => simp [intOf]; omega
    · have g1 : ¬ (i : Int) < (l.length : Int) := by omega
      have hir : i = l.length := by omega
      have h1 := hnt.out
      have h2 := hng.out
      rw [hir, List.take_length] at h1 h2
      have hfin : Hid (greatR l = decide (200 < (n : Int))) := by
        unfold Hid greatR
        rw [h2, Bool.false_or, ← h1]
        exact decide_eq_decide.2 (by omega)
      clear hnt hng h1 h2 hir
      by_cases h20 : 200 < n
      · have g2 : (200 : Int) < (n : Int) := by omega
        rw [decide_eq_true g2] at hfin
        go_wp2
        go_ret
        exact ⟨by rw [hfin.out]; rfl, hb⟩
      · have g2 : ¬ (200 : Int) < (n : Int) := by omega
        rw [decide_eq_false g2] at hfin
        go_wp2
        go_ret
        exact ⟨by rw [hfin.out]; rfl, hb⟩
end Go.Proofs.YtajpfkenhchafaaDoor

/- Two executors (or an executor and a state), side by side. -/
namespace Go.Proofs.YtajpfkenhchafaaDoor
open Go Go.RowKit
set_option linter.unusedVariables false

/-- How a thing lies that has a state. -/
abbrev LieK := World → Nat → (Nat → Prop) → StF → Nat → List Nat → Nat → Prop

structure Lies (X : LieK) : Prop where
  kept : ∀ {w w' : World} {x n N : Nat} {S Z : Nat → Prop} {s : StF} {r : List Nat}, X w x S s N r n → Kept Z w w' → (∀ k, S k → ¬ Z k) → X w' x S s N r n
  lt : ∀ {w : World} {x n N : Nat} {S : Nat → Prop} {s : StF} {r : List Nat}, X w x S s N r n → ∀ k, S k → k < w.heap.size

theorem Lies.below {X : LieK} (hX : Lies X) {w w' : World} {x n N : Nat} {S : Nat → Prop} {s : StF} {r : List Nat} (h : X w x S s N r n) (hb : Below w.heap.size w w') : X w' x S s N r n := hX.kept (Z := fun _ => False) h (Kept.of_below hb) (fun _ _ h => h)

theorem lies_PX : Lies PX := ⟨fun h => h.kept, fun h => h.lt⟩

/-- A state alone. -/
def PSX : LieK := fun w x S s N _ _ => PS w x S s N

theorem lies_PSX : Lies PSX := ⟨fun h hk hd => PS.kept h hk hd, fun h k e => PS.lt h e⟩

structure Duo23 (X Y : LieK) (W w : World) (x y : Nat) (A B : Nat → Prop) (s : StF) (N : Nat) (r : List Nat) (n : Nat) (s' : StF) (N' : Nat) (r' : List Nat) (n' : Nat) : Prop where
  a : X w x A s N r n
  b : Y w y B s' N' r' n'
  ap : ∀ k, A k → ¬ B k
  na : ∀ k, A k → W.heap.size ≤ k
  nb : ∀ k, B k → W.heap.size ≤ k
  bl : Below W.heap.size W w

section
variable {X Y : LieK} {W w w' : World} {x y : Nat} {A A' B : Nat → Prop} {s s' s2 : StF} {N N' N2 n n' n2 : Nat} {r r' r2 : List Nat}

theorem Duo23.swap (h : Duo23 X Y W w x y A B s N r n s' N' r' n') : Duo23 Y X W w y x B A s' N' r' n' s N r n := ⟨h.b, h.a, fun k h1 h2 => h.ap k h2 h1, h.nb, h.na, h.bl⟩

theorem Duo23.below (h : Duo23 X Y W w x y A B s N r n s' N' r' n') (hX : Lies X) (hY : Lies Y) (hb : Below w.heap.size w w') : Duo23 X Y W w' x y A B s N r n s' N' r' n' :=
  ⟨hX.below h.a hb, hY.below h.b hb, h.ap, h.na, h.nb, h.bl.trans (hb.mono h.bl.size)⟩

/-- The first has done something. -/
theorem Duo23.step (h : Duo23 X Y W w x y A B s N r n s' N' r' n') (hX : Lies X) (hY : Lies Y) (ha : X w' x A' s2 N2 r2 n2) (hf : FreshS w A A') (hk : Kept A w w') : Duo23 X Y W w' x y A' B s2 N2 r2 n2 s' N' r' n' := by
  have hs := h.bl.size
  refine ⟨ha, hY.kept h.b hk (fun k h1 h2 => h.ap k h2 h1), fun k h1 h2 => ?_, fun k h1 => ?_, h.nb, h.bl.trans (hk.below hs h.na)⟩
  · rcases hf k h1 with e | e
    · exact h.ap k e h2
    · have := hY.lt h.b k h2; omega
  · rcases hf k h1 with e | e
    · exact h.na k e
    · omega

/-- Made one behind the other. -/
theorem Duo23.made (hX : Lies X) (hb : Below W.heap.size W w) (ha : X w x A s N r n) (hA : ∀ k, A k → W.heap.size ≤ k) (hb2 : Below w.heap.size w w') (hy : Y w' y B s' N' r' n') (hB : ∀ k, B k → w.heap.size ≤ k) : Duo23 X Y W w' x y A B s N r n s' N' r' n' := by
  have hs := hb.size
  refine ⟨hX.below ha hb2, hy, fun k h1 h2 => ?_, hA, fun k h1 => ?_, hb.trans (hb2.mono hb.size)⟩
  · have := hX.lt ha k h1
    have := hB k h2
    omega
  · have := hB k h1; omega
end

/-- What Results tells. -/
def GotRes (W : World) (r : List Nat) (n : Nat) (e : Ending) (w : World) : Prop :=
  ∃ ga gc, e = .returned (.tuple #[.slice ga r.length gc, .int .i64 (n : Int)]) ∧ KQ natK 3 w 0 (.slice ga r.length gc) r ∧ Below W.heap.size W w
end Go.Proofs.YtajpfkenhchafaaDoor

/- What tusklaw23.works does: the chapter's example. -/
namespace Go.Proofs.YtajpfkenhchafaaDoor
open Go Go.RowKit
set_option linter.unusedVariables false

/-- A transaction that pays, of the call's own. -/
def GotPay (W : World) (f t : ByteArray) (m n : Nat) (e : Ending) (w : World) : Prop := ∃ y : TxM, e = .returned y.v ∧ y.d = pay3D f t m n ∧ y.At w ∧ (∀ b, txK.foot y b → W.heap.size ≤ b) ∧ Below W.heap.size W w

set_option maxRecDepth 100000 in
set_option maxHeartbeats 1000000 in
theorem pay23_any (f t : ByteArray) (m n : Nat) (hf : f.size ≤ 1000) (ht : t.size ≤ 1000) (hm : m ≤ 4611686018427387903) (hn : n ≤ 4611686018427387903) (w : World) :
    Calls Tryd.prog 20 #[.string f, .string t, .int .i64 (m : Int), .int .i64 (n : Int)] w fun e w' => GotPay w f t m n e w' := by
  have cm := wrap64u (m : Int) (by omega) (by omega)
  have cn := wrap64u (n : Int) (by omega) (by omega)
  have ha : aP.size = 2 := rfl
  obtain ⟨h1, h2, hb⟩ := two_new w 50 9 (txC (pay3D f t m n) none 0 (some ⟨w.heap.size + 1, 0, none⟩) 2) [.string (aP ++ f), .string (aP ++ t)]
  go_enter Tryd.func20, Tryd.ntmps20
  go_wp2
  refine bodyPost_ret (v := txV (pay3D f t m n) none 0 (some ⟨w.heap.size + 1, 0, none⟩) 2) ?r1 ?r2 ?r3
  case r1 => exact results_tx rfl _ _ w.heap.size 50 (pay3D f t m n) _ _ _ _ rfl h1
  case r2 => rfl
  refine ⟨⟨pay3D f t m n, none, 0, some ⟨w.heap.size + 1, 0, none⟩, 2⟩, rfl, rfl, ⟨⟨nil_strs _ _, strs_two h2⟩, fun _ => rfl, fun e => by cases e⟩, fun b hb => ?_, hb⟩
  rcases hb with hb | hb
  · rcases hb with ⟨h, _⟩ | ⟨x, hx, _⟩
    · exact absurd rfl h
    · cases hx
  · rcases hb with ⟨_, off, h⟩ | ⟨x, hx, h⟩
    · simp only [Option.some.injEq, Addr.mk.injEq, and_true] at h
      omega
    · exact h.elim

/-- A new row of numbers, written out. -/
theorem natLit (w : World) (l : List Nat) (n : Nat) (hn : n = l.length) (hm : n ≤ 1000) : KQ natK 3 (w.alloc (.cells (flatK natK l).toArray 3)) w.heap.size (.slice (some ⟨w.heap.size, 0, none⟩) n n) l := by
  have h : Arr (w.alloc (.cells (flatK natK l).toArray 3)) w.heap.size 3 (flatK natK l) := Arr.new w 3 (flatK natK l)
  subst hn
  have hl : (flatK natK l).length = l.length * 1 := flatK_length natK l
  refine ⟨⟨hl, Or.inr ⟨w.heap.size, [], [], l.length, rfl, Nat.le_refl _, by simpa using h, Nat.le_refl _, by unfold maxLen; omega, by simp⟩⟩, fun _ _ => trivial, fun _ _ _ h => h.elim, fun k hk => ?_, fun n cap e => by simp at e⟩
  simp only [Value.ownBlock, Option.some.injEq] at hk
  rw [alloc_size]
  omega

/-- A new row of transactions, written out. -/
theorem txLit {w : World} {l : List TxM} (hA : ∀ x ∈ l, x.At w) (hl : l.length ≤ 500) (hs : ∀ x ∈ l, TxSizes x.d ∧ x.d.rs.length ≤ 500 ∧ x.d.ws.length ≤ 500) : RowsM (w.alloc (.cells (flatK txK l).toArray 50)) (some ⟨w.heap.size, 0, none⟩) l :=
  ⟨Arr.rowW (Arr.new w 50 (flatK txK l)) rfl (fun x hx => txK.kept (S := fun _ => False) (hA x hx) (Kept.of_below (belowNew w _)) (fun _ _ h => h)), hl, hs⟩

theorem pay3_fit {y : TxM} {f t : ByteArray} {m n : Nat} (h : y.d = pay3D f t m n) (hf : f.size ≤ 1000) (ht : t.size ≤ 1000) : TxSizes y.d ∧ y.d.rs.length ≤ 500 ∧ y.d.ws.length ≤ 500 := by
  rw [h]
  exact ⟨pay_sizes hf ht m n, by show 0 ≤ 500; decide, by show 2 ≤ 500; decide⟩

set_option maxRecDepth 100000 in
set_option maxHeartbeats 4000000 in
theorem works23_any (w : World) : Calls Tryd.prog 6 #[] w fun e w' => e = .returned (.bool true) ∧ Below w.heap.size w w' := by
  have cN := exNew_any [nA] (some ⟨w.heap.size, 0, none⟩) 1 10 _ (row_one w nA) (fun s hs => by rw [List.mem_singleton.1 hs]; unfold maxLen; decide) (by decide)
  have hb0 := belowNew w (.cells #[.string nA] 9)
  have zA : nA.size ≤ 1000 := by decide
  have zB : nB.size ≤ 1000 := by decide
  have zC : nC.size ≤ 1000 := by decide
  have z4 : (4 : Nat) ≤ 4611686018427387903 := by decide
  have z0 : (0 : Nat) ≤ 4611686018427387903 := by decide
  have z1 : (1 : Nat) ≤ 4611686018427387903 := by decide
  have hER := ex_R
  have hES := ex_S
  generalize newF [nA] 10 = s0 at *
  go_enter Tryd.func6, Tryd.ntmps6
  go_wp2_with fail
  refine cN.mono ?_
  rintro e w1 ⟨x, S, rfl, h0, hS, hb1⟩
  have hbA := hb0.trans (hb1.mono hb0.size)
  have hge : ∀ k, S k → w.heap.size ≤ k := fun k hk => Nat.le_trans hb0.size (hS k hk)
  have hlt : ∀ k, S k → k < w1.heap.size := h0.lt
  clear cN hb0 hb1 hS
  go_wp2_with fail
  refine (pay23_any nA nB 4 0 zA zB z4 z0 w1).mono ?_
  rintro e w2 ⟨y1, rfl, q1, t1, f1, hb2⟩
  have hP := h0.below hb2
  clear h0
  have hbB := hbA.trans (hb2.mono hbA.size)
  go_wp2_with fail
  refine (pay23_any nB nC 4 0 zB zC z4 z0 w2).mono ?_
  rintro e w3 ⟨y2, rfl, q2, t2, f2, hb3⟩
  replace hP := hP.below hb3
  have hb13 := hb2.trans (hb3.mono hb2.size)
  go_wp2_with fail
  refine (pay23_any nA nC 1 1 zA zC z1 z1 w3).mono ?_
  rintro e w4 ⟨y3, rfl, q3, t3, f3, hb4⟩
  replace hP := hP.below hb4
  have hb14 := hb13.trans (hb4.mono hb13.size)
  go_wp2_with fail
  refine (pay23_any nA nB 1 1 zA zB z1 z1 w4).mono ?_
  rintro e w5 ⟨y4, rfl, q4, t4, f4, hb5⟩
  replace hP := hP.below hb5
  have hb15 := hb14.trans (hb5.mono hb14.size)
  have hk : ∀ {a b : World} {y : TxM}, y.At a → Below a.heap.size a b → y.At b := fun h hb => txK.kept (S := fun _ => False) h (Kept.of_below hb) (fun _ _ h => h)
  have u1 := hk t1 (hb3.trans ((hb4.trans (hb5.mono hb4.size)).mono hb3.size))
  have u2 := hk t2 (hb4.trans (hb5.mono hb4.size))
  have u3 := hk t3 hb5
  have hrow := txLit (w := w5) (l := [y1, y2, y3, y4]) (fun x hx => by
    simp only [List.mem_cons, List.not_mem_nil, or_false] at hx
    rcases hx with rfl | rfl | rfl | rfl <;> assumption) (by show 4 ≤ 500; decide) (fun x hx => by
    simp only [List.mem_cons, List.not_mem_nil, or_false] at hx
    rcases hx with rfl | rfl | rfl | rfl
    · exact pay3_fit q1 zA zB
    · exact pay3_fit q2 zB zC
    · exact pay3_fit q3 zA zC
    · exact pay3_fit q4 zA zB)
  have hl4 : [y1, y2, y3, y4].map TxM.d = exL := by
    show [y1.d, y2.d, y3.d, y4.d] = exL
    rw [q1, q2, q3, q4]
    rfl
  have hbn := belowNew w5 (.cells (flatK txK [y1, y2, y3, y4]).toArray 50)
  have s2 := hb2.size
  have s3 := hb3.size
  have s4 := hb4.size
  have s5 := hb5.size
  have cR := exRun_any [y1, y2, y3, y4] (some ⟨w5.heap.size, 0, none⟩) 4 _ hrow x S s0 1 [] 0 (hP.below hbn) (fun b hb e => by
    have h1 := hlt b e
    rcases hb with ⟨_, off, h⟩ | ⟨y, hy, h⟩
    · simp only [Option.some.injEq, Addr.mk.injEq, and_true] at h
      omega
    · simp only [List.mem_cons, List.not_mem_nil, or_false] at hy
      rcases hy with rfl | rfl | rfl | rfl
      · have := f1 b h; omega
      · have := f2 b h; omega
      · have := f3 b h; omega
      · have := f4 b h; omega) (by show 1 + 2 * 4 ≤ 100000; decide) (by show 0 ≤ 100000; decide) (by decide)
  rw [hl4] at cR
  have hb16 := hb15.trans (hbn.mono hb15.size)
  have hbC := hbA.trans (hb16.mono hbA.size)
  clear hrow hP u1 u2 u3 t1 t2 t3 t4 f1 f2 f3 f4 hk hl4 hbn hb2 hb3 hb4 hb5 hb13 hb14 hb15 hb16 hbA hbB
  obtain ⟨d1, ra1, rc1, wa1, wc1⟩ := y1
  obtain ⟨d2, ra2, rc2, wa2, wc2⟩ := y2
  obtain ⟨d3, ra3, rc3, wa3, wc3⟩ := y3
  obtain ⟨d4, ra4, rc4, wa4, wc4⟩ := y4
  clear q1 q2 q3 q4
  unfold TxM.v txV
  go_wp2_with fail
  refine cR.mono ?_
  rintro e w6 ⟨ga, gc, S', rfl, hQ6, hX6, hf6, hap6, hk6⟩
  rw [hER] at hQ6
  have h4 : exL.length = 4 := rfl
  rw [h4] at hQ6 ⊢
  have hbD := hbC.trans (hk6.below hbC.size hge)
  have cS := exState_any w6 x S' _ _ _ _ hX6
  clear cR hk6 hap6 hf6 hbC
  go_wp2_with fail
  refine cS.mono ?_
  rintro e w7 ⟨p, T, rfl, h7, hT7, hb7⟩
  have hbE := hbD.trans (hb7.mono hbD.size)
  have cC := accountS_any nC (by unfold maxLen; decide) w7 p T _ _ h7
  rw [hES] at cC
  have hQ7 := hQ6.below hb7
  clear cS hQ6 hX6 hb7 hbD
  go_wp2_with fail
  refine cC.mono ?_
  rintro e w8 ⟨rfl, hb8⟩
  have hbF := hbE.trans (hb8.mono hbE.size)
  have hbn := belowNew w8 (.cells (flatK natK [0, 0, 0, 2]).toArray 3)
  have hQ8 := (hQ7.below hb8).below hbn
  have cI := ints23_any _ _ _ ga _ gc 4 4 4 [0, 0, 0, 2] [0, 0, 0, 2] hQ8 (natLit w8 [0, 0, 0, 2] 4 rfl (by decide)) (by decide) (by decide)
  have hbG := hbF.trans (hbn.mono hbF.size)
  clear cC hQ7 hb8 hbE hbF hbn hQ8 h7 hT7
  go_wp2_with (first | (go_at_call 15; refine cI.mono ?_; rintro e w9 ⟨rfl, hb9⟩))
  go_ret
  exact ⟨rfl, hbG.trans (hb9.mono hbG.size)⟩
end Go.Proofs.YtajpfkenhchafaaDoor

/- The program's executor: what Results tells. -/
namespace Go.Proofs.YtajpfkenhchafaaDoor
open Go Go.RowKit
set_option linter.unusedVariables false

set_option maxRecDepth 100000 in
set_option maxHeartbeats 1000000 in
theorem cloneN_any (q : Value) (r : List Nat) (w : World) (h : KQ natK 3 w 0 q r) (hl : r.length ≤ 100000) :
    Calls Tryd.prog 38 #[q] w fun e w' => ∃ ga gc, e = .returned (.slice ga r.length gc) ∧ KQ natK 3 w' 0 (.slice ga r.length gc) r ∧ Below w.heap.size w w' := by
  obtain ⟨i0, z0, hi0, hz0, hz1, hz2, hz3⟩ := intInfoA
  obtain ⟨ao, cap, rfl, hnil, hR⟩ := h.form
  have q24 : ∀ (w : World) (a : Option Addr) (n c n' c' : Nat), (binOp .eql 25 (.slice a n c) (.slice none n' c')).run Tryd.prog w = .ok (.bool a.isNone) w := fun w a n c n' c' => Lib.run_eql_slice_nil w _ _ a n c n' c' Tryd.underlying25
  have hbx := belowNew w (.cells #[] 3)
  have hR2 := hR.below hbx
  have hQ : KQ natK 3 (w.alloc (.cells #[] 3)) w.heap.size (.slice (some ⟨w.heap.size, 0, none⟩) 0 0) [] := KQ.madeA w w.heap.size (Nat.le_refl _)
  have m1 : ([] : List Nat).length + r.length ≤ maxLen := by unfold maxLen; simp; omega
  have m2 : (([] : List Nat).length + r.length) * 8 ≤ 140737488355328 := by simp; omega
  have hbs := hbx.size
  cases ao with
  | none =>
    have hr0 : r = [] := by
      cases r with
      | nil => rfl
      | cons y t => obtain ⟨b, off, e, _⟩ := hR.cell 0 y rfl; cases e
    subst hr0
    go_enter Tryd.func38, Tryd.ntmps38
    go_wp2
    go_ret
    exact ⟨_, _, rfl, KQ.empty _ _ _ _, Below.refl _ _⟩
  | some ad =>
    clear hR h
    go_enter Tryd.func38, Tryd.ntmps38
    go_wp2_with (at_builtin; refine wpList_joins (K := natK) rfl _ _ 25 rfl w.heap.size 3 i0 _ 8 Tryd.underlying25 hi0 hz0 hz1 hz2 hz3 _ [] r rfl hQ (fun _ _ h => h.elim) (some ad) cap rfl hR2 m1 m2 hbs ?_)
    intro ao3 cap3 w3 hQ3 hk3 hf3
    have hB := hbx.trans (hk3.below hbs (fun k e => (hQ.lt k e).1))
    clear hQ hk3 hf3 hR2 hbx m1 m2 hbs
    go_wp2
    go_ret
    exact ⟨_, _, rfl, hQ3.rebase (Nat.zero_le _), hB⟩

set_option maxRecDepth 100000 in
set_option maxHeartbeats 2000000 in
theorem exResults_any (W : World) (x : Nat) (S : Nat → Prop) (s : StF) (N : Nat) (r : List Nat) (n : Nat) (h : PX W x S s N r n) (hr : r.length ≤ 100000) :
    Calls Tryd.prog 18 #[.pointer (some ⟨x, 0, none⟩)] W fun e w' => GotRes W r n e w' := by
  obtain ⟨p, T, q, h1, -, h3, -⟩ := h.ex
  have hb0 := below_drewN (Below.refl W.heap.size W) 1
  have h1D : Arr W.drew x 56 [.pointer (some ⟨p, 0, none⟩), q, .int .i64 (n : Int)] := h1.below hb0 h1.lt
  have cC := cloneN_any q r W.drew (h3.below hb0) hr
  have hK0 : Below W.heap.size W W.drew := hb0
  have hkp : ∀ w', Below W.heap.size W w' → (w'.cell? ⟨x, 1, none⟩ = some q ∧ w'.cell? ⟨x, 2, none⟩ = some (.int .i64 (n : Int))) := fun w' hb => ⟨(h1.below hb h1.lt).cell (i := 1) rfl, (h1.below hb h1.lt).cell (i := 2) rfl⟩
  go_enter Tryd.func18, Tryd.ntmps18
  go_wp2_with fail
  go_region_held3 (fun w' => (w'.cell? ⟨x, 1, none⟩ = some q ∧ w'.cell? ⟨x, 2, none⟩ = some (.int .i64 (n : Int)))) (exact hkp _ (by assumption))
    (first | (go_at_call 38; refine cC.mono ?_; rintro e w5 ⟨ga, gc, rfl, hQ5, hb5⟩; have hK5 : Below W.heap.size W w5 := hb0.trans (hb5.mono hb0.size)))
  all_goals (
    go_wp2
    refine bodyPost_ret (results_tmp2 rfl _ _ _) rfl ?_
    exact ⟨ga, gc, rfl, hQ5, hK5⟩)
end Go.Proofs.YtajpfkenhchafaaDoor
