/- Texts as one: AccLast, AccGreat, TxRowsOpen, KindsOpen, StaOpen, StaTx. -/
import Derived.Test.YtcjmeaikdfgapaaDoorSd09
import Derived.BigQuiet
import Derived.Deep.QuietTactic
import Derived.Test.YtcjmeaikdfgapaaDoorSd06
import Derived.Test.YtcjmeaikdfgapaaDoorSd05
import Derived.Deep.Slices
import Derived.Lib.SmallJoins
/- What access.lastWriters does. -/
namespace Go.Proofs.YtcjmeaikdfgapaaDoor
open Go Go.RowKit
set_option linter.unusedVariables false

/-- Transactions are few, and their keys. -/
def Few (l : List TxA) : Prop := l.length ≤ 1000 ∧ ∀ x ∈ l, x.rs.length ≤ 1000 ∧ x.ws.length ≤ 1000

/-- The last writers among the first i members, and of member i's first keys. -/
def lastP (l : List RwD) (i : Nat) (ks : List ByteArray) (key : ByteArray) : Option Value :=
  if inK ks key = true then some (.int .i64 ((i : Nat) : Int)) else (lastN l key i).map (fun w => .int .i64 ((w : Nat) : Int))

theorem lastP_put {l : List RwD} {i j : Nat} {ks : List ByteArray} {y : ByteArray} (hy : ks[j]? = some y) (k : ByteArray) : lastP l i (ks.take (j + 1)) k = putF (lastP l i (ks.take j)) y (.int .i64 ((i : Nat) : Int)) k := by
  rw [List.take_add_one, hy]
  unfold lastP putF
  simp only [Option.toList_some, inK_snoc]
  by_cases h : k = y
  · subst h; simp
  · rw [if_neg h]
    have : decide (y = k) = false := decide_eq_false (fun e => h e.symm)
    rw [this, Bool.or_false]

theorem lastP_end {l : List RwD} {i : Nat} {t : RwD} (ht : l[i]? = some t) (k : ByteArray) : lastP l (i + 1) [] k = lastP l i t.ws k := by
  have h1 : lastN l k (i + 1) = match l[i]? with | some t => if inK t.ws k = true then some i else lastN l k i | none => lastN l k i := rfl
  unfold lastP
  have e0 : inK [] k = false := rfl
  rw [e0, h1, ht]
  simp only [Bool.false_eq_true, if_false]
  by_cases h : inK t.ws k = true
  · rw [if_pos h, if_pos h]; rfl
  · rw [if_neg h, if_neg h]

theorem lastP_start (l : List RwD) (k : ByteArray) : lastP l 0 [] k = none := rfl

def GotLast (W : World) (l : List RwD) (e : Ending) (w : World) : Prop :=
  ∃ b n, e = .returned (.map (some b)) ∧ SMap w b (lastF l) n ∧ W.heap.size ≤ b ∧ Below W.heap.size W w
end Go.Proofs.YtcjmeaikdfgapaaDoor

/- What tusklaw20.Great does. -/
namespace Go.Proofs.YtcjmeaikdfgapaaDoor
open Go Go.RowKit
set_option linter.unusedVariables false

/-- How much transactions are, with their keys. -/
def totA (l : List TxA) : Nat := (l.map (fun x => 1 + x.rs.length + x.ws.length)).sum

theorem totA_next {l : List TxA} {i : Nat} {x : TxA} (h : l[i]? = some x) : totA (l.take (i + 1)) = totA (l.take i) + (1 + x.rs.length + x.ws.length) := by
  unfold totA
  rw [List.take_add_one, h, Option.toList_some, List.map_append, List.sum_append]
  simp

theorem totA_le (l : List TxA) (i : Nat) : totA (l.take i) ≤ totA l := by
  have h : totA l = totA (l.take i) + totA (l.drop i) := by
    conv => lhs; rw [← List.take_append_drop i l]
    unfold totA
    rw [List.map_append, List.sum_append]
  omega

theorem totA_mem {l : List TxA} {x : TxA} (h : x ∈ l) : 1 + x.rs.length + x.ws.length ≤ totA l := by
  obtain ⟨i, hi⟩ := List.mem_iff_getElem?.1 h
  have h1 := totA_next hi
  have h2 := totA_le l (i + 1)
  omega

theorem totA_length : ∀ (l : List TxA), l.length ≤ totA l
  | [] => Nat.le_refl _
  | x :: l => by
    have := totA_length l
    have e : totA (x :: l) = (1 + x.rs.length + x.ws.length) + totA l := by simp [totA]
    rw [List.length_cons, e]
    omega

/-- Are they too many? -/
def greatA (l : List TxA) : Bool := decide (500 < totA l)

theorem few_of {l : List TxA} (h : greatA l = false) : Few l := by
  have h1 := of_decide_eq_false h
  have h2 := totA_length l
  refine ⟨by omega, fun x hx => ?_⟩
  have := totA_mem hx
  omega

/-- What a machine has at most. -/
def Wide (l : List TxA) : Prop := l.length ≤ 17592186044416 ∧ ∀ x ∈ l, x.rs.length ≤ 17592186044416 ∧ x.ws.length ≤ 17592186044416

set_option maxRecDepth 100000 in
set_option maxHeartbeats 2000000 in
theorem great_any (l : List TxA) (ao : Option Addr) (cp : Nat) (w : World) (hl : RowAt txA w ao l) (hw : Wide l) :
    Calls Tryd.prog 8 #[.slice ao l.length cp] w fun e w' => e = .returned (.bool (greatA l)) ∧ Below w.heap.size w w' := by
  obtain ⟨hn, hx⟩ := hw
  go_enter Tryd.func8, Tryd.ntmps8
  go_wp2_with fail
  go_loopw [3, 4] (fun v3 v4 wr => ∃ i n : Nat, i ≤ l.length ∧ v3 = .int .i64 (n : Int) ∧ v4 = .int .i64 (i : Int) ∧ Hid (n = totA (l.take i)) ∧ n ≤ 140737488355328 ∧ Below w.heap.size w wr) (fun _ v _ => l.length - (intOf v).toNat)
  case atStart => exact ⟨0, 0, Nat.zero_le _, rfl, rfl, rfl, by omega, Below.refl _ _⟩
  case round =>
    obtain ⟨i, n, hi, rfl, rfl, hnt, hnm, hb⟩ := hrel
    by_cases hil : i < l.length
    · have g1 : (i : Int) < (l.length : Int) := by omega
      by_cases hn5 : n ≤ 500
      · have g2 : (n : Int) ≤ 500 := by omega
        obtain ⟨x, hx1⟩ : ∃ p, l[i]? = some p := ⟨_, List.getElem?_eq_getElem hil⟩
        obtain ⟨b, off, rfl, hbl, x0, x1, x2, x3, x4, x5, x6, x7, x8, hA⟩ := (hl.below hb).tx hx1
        obtain ⟨hxr, hxw⟩ := hx x (List.mem_of_getElem? hx1)
        have hnx : Hid (n + 1 + x.rs.length + x.ws.length = totA (l.take (i + 1))) := by unfold Hid; rw [totA_next hx1, ← hnt.out]; omega
        have hx' : Hid _ := hx1
        clear hnt hx1 hA hx
        go_wp2_with fail
        go_quiet (fail)
        go_wp2
        go_roundw
        case rel => exact ⟨i + 1, n + 1 + x.rs.length + x.ws.length, by omega, by go_num, by go_num, hnx, by omega, below_drewN hb _⟩
        case measure => simp [intOf]; omega
      · have g2 : ¬ (n : Int) ≤ 500 := by omega
        have g3 : (500 : Int) < (n : Int) := by omega
        have hfin : Hid (greatA l = true) := by
          unfold Hid greatA
          refine decide_eq_true ?_
          have := totA_le l i
          rw [← hnt.out] at this
          omega
        clear hnt
        go_wp2
        go_ret
        exact ⟨by rw [hfin.out]; rfl, hb⟩
    · have g1 : ¬ (i : Int) < (l.length : Int) := by omega
      have hnt2 : n = totA l := by
        have := hnt.out
        rw [show i = l.length by omega, List.take_length] at this
        exact this
      clear hnt
      by_cases hn5 : n ≤ 500
      · have g3 : ¬ (500 : Int) < (n : Int) := by omega
        have hfin : Hid (greatA l = false) := by
          unfold Hid greatA
          exact decide_eq_false (by omega)
        clear hnt2
        go_wp2
        go_ret
        exact ⟨by rw [hfin.out]; rfl, hb⟩
      · have g3 : (500 : Int) < (n : Int) := by omega
        have hfin : Hid (greatA l = true) := by
          unfold Hid greatA
          exact decide_eq_true (by omega)
        clear hnt2
        go_wp2
        go_ret
        exact ⟨by rw [hfin.out]; rfl, hb⟩
end Go.Proofs.YtcjmeaikdfgapaaDoor

/- How a row of transactions that came in is opened. (Laid only where the dump has []api.Tx: not yet built.) -/
namespace Go.Proofs.YtcjmeaikdfgapaaDoor
open Go.ChangeShapes Go.WideShapes Go.ChangeAt Go.RowKit Go.Joins Go.Deep
set_option linter.unusedVariables false

/-- How a row of transactions reads. -/
def TxsDatum {H : Type} (d : DataW H) (l : List TxM) : Prop :=
  (d = .nil ∧ l = []) ∨ ∃ (ds rest : List (DataW H)), d = .slice ds rest ∧ ds.length = l.length ∧ ∀ (i : Nat) (y : DataW H) (x : TxM), ds[i]? = some y → l[i]? = some x → TxDatum y x.d

set_option maxRecDepth 100000 in
/-- A row of transactions that came in. -/
theorem open_txs {H : Type} {enc : TypeId × Value → H} {W : World} {fuel : Nat} {a : Option Addr} {len cap : Nat} {y : DataW H × List MemPlace}
    (hf : DataW.trod enc Tryd.prog W 0 (fun _ => true) true fuel 24 [.slice a len cap] = some y) :
    ∃ l : List TxM, l.length = len ∧ TxsAt W a l ∧ (∀ x ∈ l, TxSizes x.d) ∧ (a = none → cap = 0) ∧ len ≤ maxLen ∧ TxsDatum y.1 l := by
  rcases open_slice Tryd.underlying24 hf with ⟨hcs, hx⟩ | ⟨x, l, c, m, n, D, Pl, hcs, _, hl, hm, hmm, hx, hc⟩
  · simp at hcs
    obtain ⟨rfl, rfl, rfl⟩ := hcs
    exact ⟨[], rfl, nil_txs _ _, by simp, fun _ => rfl, Nat.zero_le _, Or.inl ⟨by rw [hx], rfl⟩⟩
  · simp at hcs
    obtain ⟨rfl, rfl, rfl⟩ := hcs
    simp at hmm
    subst hmm
    have hall : ∀ i : Nat, ∃ q : TxM, i < len → (∀ j v, q.c[j]? = some v → W.cell? (x.add (i * 9 + j)) = some v) ∧ q.At W ∧ TxSizes q.d ∧ TxDatum (D i) q.d := by
      intro i
      by_cases hi : i < len
      · obtain ⟨cs', h1, h2⟩ := hc i (by omega)
        rw [cellsTx] at h1
        obtain ⟨_, hlen, hcell⟩ := World.cells?_some h1
        obtain ⟨q, rfl, q2, q3, q4⟩ := open_tx_cells h2
        refine ⟨q, fun _ => ⟨fun j v hv => ?_, q2, q3, q4⟩⟩
        have hj : j < q.c.length := (List.getElem?_eq_some_iff.1 hv).1
        have := hcell j (by rw [TxM.c_length] at hj; exact hj)
        rw [add_add] at this
        rw [this, hv]
      · exact ⟨⟨.none, none, 0, none, 0⟩, fun h => absurd h hi⟩
    obtain ⟨Y, hY⟩ := Classical.axiomOfChoice hall
    refine ⟨(List.range len).map Y, by simp, ?_, ?_, (fun h => by cases h), by omega, Or.inr ⟨_, _, by rw [hx], by simp, ?_⟩⟩
    · intro i q hq
      have hi : i < len := by
        by_cases hi : i < len
        · exact hi
        · rw [List.getElem?_eq_none (by simp; omega)] at hq
          cases hq
      obtain rfl : Y i = q := by simpa [hi] using hq
      obtain ⟨c0, q2, _, _⟩ := hY i hi
      obtain ⟨b, off, spot⟩ := x
      have hz := (hY 0 (by omega)).1 0 _ rfl
      have hspot : spot = none := by simpa [Addr.add] using World.cell?_spot hz
      subst hspot
      have hb0 := c0 0 _ rfl
      rw [Go.WideShapes.add_plain] at hb0
      refine ⟨⟨b, off, rfl, World.block_lt_of_cell? W _ hb0, fun j v hv => ?_⟩, q2⟩
      have := c0 j v hv
      rw [Go.WideShapes.add_plain] at this
      rw [← this, Nat.add_assoc]
    · intro q hq
      obtain ⟨i, hi, rfl⟩ := List.mem_map.1 hq
      exact (hY i (by simpa using hi)).2.2.1
    · intro i y' q hy hq
      have hi : i < len := by
        by_cases hi : i < len
        · exact hi
        · rw [List.getElem?_eq_none (by simp; omega)] at hq
          cases hq
      obtain rfl : Y i = q := by simpa [hi] using hq
      obtain rfl : D i = y' := by simpa [hi] using hy
      exact (hY i hi).2.2.2
end Go.Proofs.YtcjmeaikdfgapaaDoor

/- How a row of whatever elements that came in is opened. -/
namespace Go.Proofs.YtcjmeaikdfgapaaDoor
open Go.ChangeShapes Go.WideShapes Go.ChangeAt Go.RowKit Go.Joins Go.Deep
set_option linter.unusedVariables false

/-- How a row reads, its elements as Q says. -/
def RowD {H α : Type} (Q : DataW H → α → Prop) (d : DataW H) (l : List α) : Prop :=
  (d = .nil ∧ l = []) ∨ ∃ (ds rest : List (DataW H)), d = .slice ds rest ∧ ds.length = l.length ∧ ∀ (i : Nat) (y : DataW H) (x : α), ds[i]? = some y → l[i]? = some x → Q y x

set_option maxRecDepth 100000 in
theorem open_row {α : Type} [Inhabited α] (K : Kind α) {H : Type} {enc : TypeId × Value → H} {W : World} {T E : TypeId} (Q : DataW H → α → Prop) (hT : Tryd.prog.underlying T = some (.slice E)) (hE : Tryd.prog.cellsOf E = K.n)
    (opens : ∀ {fuel cs y}, DataW.trod enc Tryd.prog W 0 (fun _ => true) true fuel E cs = some y → ∃ x : α, cs = K.c x ∧ K.At W x ∧ Q y.1 x)
    {fuel : Nat} {a : Option Addr} {len cap : Nat} {y : DataW H × List MemPlace} (hf : DataW.trod enc Tryd.prog W 0 (fun _ => true) true fuel T [.slice a len cap] = some y) :
    ∃ l : List α, l.length = len ∧ RowAt K W a l ∧ (a = none → cap = 0) ∧ len ≤ maxLen ∧ RowD Q y.1 l := by
  rcases open_slice hT hf with ⟨hcs, hx⟩ | ⟨x, l, c, m, n, D, Pl, hcs, _, hl, hm, hmm, hx, hc⟩
  · simp at hcs
    obtain ⟨rfl, rfl, rfl⟩ := hcs
    exact ⟨[], rfl, nil_row _ _, fun _ => rfl, Nat.zero_le _, Or.inl ⟨by rw [hx], rfl⟩⟩
  · simp at hcs
    obtain ⟨rfl, rfl, rfl⟩ := hcs
    simp at hmm
    subst hmm
    have hall : ∀ i : Nat, ∃ q : α, i < len → (∀ j v, (K.c q)[j]? = some v → W.cell? (x.add (i * K.n + j)) = some v) ∧ K.At W q ∧ Q (D i) q := by
      intro i
      by_cases hi : i < len
      · obtain ⟨cs', h1, h2⟩ := hc i (by omega)
        rw [hE] at h1
        obtain ⟨_, hlen, hcell⟩ := World.cells?_some h1
        obtain ⟨q, rfl, q2, q3⟩ := opens h2
        refine ⟨q, fun _ => ⟨fun j v hv => ?_, q2, q3⟩⟩
        have hj : j < (K.c q).length := (List.getElem?_eq_some_iff.1 hv).1
        have := hcell j (by rw [K.len] at hj; exact hj)
        rw [add_add] at this
        rw [this, hv]
      · exact ⟨default, fun h => absurd h hi⟩
    obtain ⟨Y, hY⟩ := Classical.axiomOfChoice hall
    have hc0 : ∀ q : α, ∃ v, (K.c q)[0]? = some v := fun q => ⟨(K.c q)[0]'(by rw [K.len]; exact K.pos), List.getElem?_eq_getElem _⟩
    refine ⟨(List.range len).map Y, by simp, ⟨?_, ?_⟩, (fun h => by cases h), by omega, Or.inr ⟨_, _, by rw [hx], by simp, ?_⟩⟩
    · intro i q hq
      have hi : i < len := by
        by_cases hi : i < len
        · exact hi
        · rw [List.getElem?_eq_none (by simp; omega)] at hq
          cases hq
      obtain rfl : Y i = q := by simpa [hi] using hq
      obtain ⟨c0, q2, _⟩ := hY i hi
      obtain ⟨b, off, spot⟩ := x
      obtain ⟨v0, hv0⟩ := hc0 (Y 0)
      have hz := (hY 0 (by omega)).1 0 _ hv0
      have hspot : spot = none := by simpa [Addr.add] using World.cell?_spot hz
      subst hspot
      obtain ⟨v1, hv1⟩ := hc0 (Y i)
      have hb0 := c0 0 _ hv1
      rw [Go.WideShapes.add_plain] at hb0
      refine ⟨b, off, rfl, World.block_lt_of_cell? W _ hb0, fun j v hv => ?_⟩
      have := c0 j v hv
      rw [Go.WideShapes.add_plain] at this
      rw [← this, Nat.add_assoc]
    · intro q hq
      obtain ⟨i, hi, rfl⟩ := List.mem_map.1 hq
      exact (hY i (by simpa using hi)).2.1
    · intro i y' q hy hq
      have hi : i < len := by
        by_cases hi : i < len
        · exact hi
        · rw [List.getElem?_eq_none (by simp; omega)] at hq
          cases hq
      obtain rfl : Y i = q := by simpa [hi] using hq
      obtain rfl : D i = y' := by simpa [hi] using hy
      exact (hY i hi).2.2

theorem weightsAll_of {H : Type} {P : Program} {e : TypeId} : ∀ {l : List (DataW H)} {d : DataW H}, d ∈ l → ∀ n ∈ d.weights P e, n ∈ DataW.weightsAll P e l
  | [], d, h, _, _ => by cases h
  | x :: r, d, h, n, hn => by
    rw [List.mem_cons] at h
    rw [DataW.weightsAll, List.mem_append]
    rcases h with rfl | h
    · exact Or.inl hn
    · exact Or.inr (weightsAll_of h n hn)

theorem weights_of {H : Type} {P : Program} {ts : List TypeId} {ds : List (DataW H)} (h : (DataW.weightsEach P ts ds).all (· ≤ reachBytes) = true) {j : Nat} {t : TypeId} {d : DataW H} (ht : ts[j]? = some t) (hd : ds[j]? = some d) : ∀ n ∈ d.weights P t, n ≤ reachBytes :=
  fun n hn => by simpa using List.all_eq_true.1 h n (DataW.weights_mem_each ht hd n hn)

/-- The sizes of a row's elements, and of the row. -/
theorem RowD.fit {H α : Type} {Q : DataW H → α → Prop} {d : DataW H} {l : List α} (hd : RowD Q d l) {T E : TypeId} (hT : Tryd.prog.underlying T = some (.slice E)) (h : ∀ n ∈ d.weights Tryd.prog T, n ≤ reachBytes) :
    l.length * Tryd.prog.bytesOf E ≤ reachBytes ∧ ∀ x ∈ l, ∃ y, Q y x ∧ ∀ n ∈ y.weights Tryd.prog E, n ≤ reachBytes := by
  rcases hd with ⟨rfl, rfl⟩ | ⟨ds, rest, rfl, hl, hq⟩
  · simp
  · refine ⟨?_, fun x hx => ?_⟩
    · have := h ((ds.length + rest.length) * Tryd.prog.bytesOf E) (by simp [DataW.weights, hT])
      rw [← hl]
      exact Nat.le_trans (Nat.mul_le_mul_right _ (by omega)) this
    · obtain ⟨i, hi⟩ := List.getElem?_of_mem hx
      have hi' : i < ds.length := by have := (List.getElem?_eq_some_iff.1 hi).1; omega
      refine ⟨ds[i], hq i ds[i] x (List.getElem?_eq_getElem hi') hi, fun n hn => h n ?_⟩
      rw [DataW.weights, hT]
      simp only [List.mem_cons, List.mem_append]
      exact Or.inr (Or.inl (weightsAll_of (List.getElem_mem hi') n hn))

theorem bulk_part {H : Type} {d : DataW H} : ∀ {l : List (DataW H)}, d ∈ l → Rows.uptoBulk d ≤ Rows.uptoBulkAll l
  | [], h => by cases h
  | x :: r, h => by
    simp only [Rows.uptoBulkAll]
    rcases List.mem_cons.1 h with e | e
    · subst e; omega
    · have := bulk_part e; omega

theorem bulk_all {H α : Type} {Q : DataW H → α → Prop} {size : α → Nat} (hq : ∀ y x, Q y x → size x ≤ Rows.uptoBulk y) : ∀ (ds : List (DataW H)) (l : List α), ds.length = l.length → (∀ (i : Nat) (y : DataW H) (x : α), ds[i]? = some y → l[i]? = some x → Q y x) → (l.map size).sum ≤ Rows.uptoBulkAll ds
  | [], [], _, _ => by simp
  | [], x :: l, h, _ => by simp at h
  | d :: ds, [], h, _ => by simp at h
  | d :: ds, x :: l, h, hQ => by
    have ih := bulk_all hq ds l (by simpa using h) (fun i y z hy hz => hQ (i + 1) y z (by simpa using hy) (by simpa using hz))
    have h0 := hq d x (hQ 0 d x rfl rfl)
    simp only [List.map_cons, List.sum_cons, Rows.uptoBulkAll]
    omega

/-- The bulk of a row. -/
theorem RowD.bulk {H α : Type} {Q : DataW H → α → Prop} {d : DataW H} {l : List α} (hd : RowD Q d l) {size : α → Nat} (hq : ∀ y x, Q y x → size x ≤ Rows.uptoBulk y) : (l.map size).sum + 1 ≤ Rows.uptoBulk d := by
  rcases hd with ⟨rfl, rfl⟩ | ⟨ds, rest, rfl, hl, hQ⟩
  · simp [Rows.uptoBulk]
  · have := bulk_all hq ds l hl hQ
    simp only [Rows.uptoBulk]
    omega
end Go.Proofs.YtcjmeaikdfgapaaDoor

/- How rows of transactions that came in are opened, with what they weigh. -/
namespace Go.Proofs.YtcjmeaikdfgapaaDoor
open Go.ChangeShapes Go.WideShapes Go.ChangeAt Go.RowKit Go.Joins Go.Deep
set_option linter.unusedVariables false

def TxQs {H : Type} (d : DataW H) (x : TxM) : Prop := TxSizes x.d ∧ TxDatum d x.d

theorem open_txk_cells {H : Type} {enc : TypeId × Value → H} {W : World} {fuel : Nat} {cs : List Value} {y : DataW H × List MemPlace}
    (hf : DataW.trod enc Tryd.prog W 0 (fun _ => true) true fuel 33 cs = some y) : ∃ x : TxM, cs = txK.c x ∧ txK.At W x ∧ TxQs y.1 x := by
  obtain ⟨x, h1, h2, h3, h4⟩ := open_tx_cells hf
  exact ⟨x, h1, h2, h3, h4⟩

theorem open_txs22 {H : Type} {enc : TypeId × Value → H} {W : World} {a : Option Addr} {len cap : Nat} {d : DataW H} {p : List MemPlace}
    (h : DataW.Trod enc Tryd.prog W 0 (fun _ => true) true 24 (.slice a len cap) d p) :
    ∃ l : List TxM, l.length = len ∧ RowAt txK W a l ∧ len ≤ maxLen ∧ RowD TxQs d l := by
  obtain ⟨fuel, hf⟩ := h
  haveI : Inhabited TxM := ⟨⟨.none, none, 0, none, 0⟩⟩
  obtain ⟨l, h1, h2, _, h4, h5⟩ := open_row txK TxQs Tryd.underlying24 cellsTx open_txk_cells hf
  exact ⟨l, h1, h2, h4, h5⟩

theorem bytesTx22 : Tryd.prog.bytesOf 33 = 136 := by kernel_rfl

/-- What a machine has at most. -/
def Wide22 (l : List TxM) : Prop := l.length ≤ 17592186044416 ∧ ∀ x ∈ l, TxSizes x.d ∧ x.d.rs.length * 16 ≤ 140737488351232 ∧ x.d.ws.length * 16 ≤ 140737488351232

theorem weights_mem_all22 {H : Type} {P : Program} {e : TypeId} : ∀ {ds : List (DataW H)} {d : DataW H}, d ∈ ds → ∀ n ∈ d.weights P e, n ∈ DataW.weightsAll P e ds
  | [], _, h, _, _ => by cases h
  | d0 :: ds, d, h, n, hn => by
    simp only [DataW.weightsAll, List.mem_append]
    rcases List.mem_cons.1 h with rfl | h
    · exact Or.inl hn
    · exact Or.inr (weights_mem_all22 h n hn)

theorem txs22_sized {H : Type} {ts : List TypeId} {ds : List (DataW H)} (h : (DataW.weightsEach Tryd.prog ts ds).all (· ≤ reachBytes) = true) {j : Nat} {d : DataW H} {l : List TxM} (ht : ts[j]? = some 24) (hd : ds[j]? = some d) (hs : RowD TxQs d l) : Wide22 l := by
  rcases hs with ⟨rfl, rfl⟩ | ⟨es, rest, rfl, hl, ha⟩
  · exact ⟨Nat.zero_le _, fun x hx => by cases hx⟩
  · refine ⟨?_, fun x hx => ?_⟩
    · have := sized_slice h ht hd Tryd.underlying24
      rw [bytesTx22] at this
      simp [reachBytes] at this
      omega
    · obtain ⟨i, hi⟩ := List.getElem?_of_mem hx
      have hil := (List.getElem?_eq_some_iff.1 hi).1
      obtain ⟨q1, q2⟩ := ha i _ x (List.getElem?_eq_getElem (by omega)) hi
      refine ⟨q1, tx_sized (ts := [33]) (ds := [es[i]'(by omega)]) (j := 0) ?_ rfl rfl q2⟩
      rw [List.all_eq_true]
      intro n hn
      have h0 : n ∈ DataW.weights Tryd.prog 33 (es[i]'(by omega)) := by simpa [DataW.weightsEach] using hn
      have h1 : n ∈ DataW.weights Tryd.prog 24 (.slice es rest) := by
        simp only [DataW.weights, Tryd.underlying24]
        exact List.mem_cons_of_mem _ (List.mem_append.2 (Or.inl (weights_mem_all22 (List.getElem_mem _) n h0)))
      exact List.all_eq_true.1 h _ (DataW.weights_mem_each ht hd n h1)
end Go.Proofs.YtcjmeaikdfgapaaDoor

/- Transactions as layer 20's texts have them: too many? in each other's way? Their own copies. -/
namespace Go.Proofs.YtcjmeaikdfgapaaDoor
open Go Go.RowKit
set_option linter.unusedVariables false

def TxM.a (x : TxM) : TxA := ⟨x.d.kind, x.d.frm, x.d.to, x.d.amt, x.d.non, x.d.key, x.d.val, x.d.rs, x.d.ws, x.ra, x.rc, x.wa, x.wc⟩

theorem TxM.a_v (x : TxM) : x.a.v = x.v := rfl
theorem TxM.a_c (x : TxM) : x.a.c = x.c := rfl

theorem TxM.At.a {w : World} {x : TxM} (h : x.At w) (hs : TxSizes x.d) : TxA.At w x.a := ⟨h.at_.rd.row, h.at_.wr.row, h.nr, h.nw, hs.rs, hs.ws⟩

theorem rows_a {w : World} {ao : Option Addr} {l : List TxM} (h : RowAt txK w ao l) (hs : ∀ x ∈ l, TxSizes x.d) : RowAt txA w ao (l.map TxM.a) := by
  refine ⟨fun i y hy => ?_, fun y hy => ?_⟩
  · rw [List.getElem?_map] at hy
    obtain ⟨x, hx, rfl⟩ := Option.map_eq_some_iff.1 hy
    exact h.cell i x hx
  · obtain ⟨x, hx, rfl⟩ := List.mem_map.1 hy
    exact TxM.At.a (h.at_ x hx) (hs x hx)

/-- Are they too many? -/
def greatM (l : List TxM) : Bool := greatA (l.map TxM.a)

theorem greatM_any (l : List TxM) (ao : Option Addr) (cp : Nat) (w : World) (hl : RowAt txK w ao l) (hw : Wide22 l) :
    Calls Tryd.prog 8 #[.slice ao l.length cp] w fun e w' => e = .returned (.bool (greatM l)) ∧ Below w.heap.size w w' := by
  have h := great_any (l.map TxM.a) ao cp w (rows_a hl (fun x hx => (hw.2 x hx).1)) ⟨by rw [List.length_map]; exact hw.1, fun y hy => by
    obtain ⟨x, hx, rfl⟩ := List.mem_map.1 hy
    have := (hw.2 x hx).2
    show x.d.rs.length ≤ _ ∧ x.d.ws.length ≤ _
    omega⟩
  rw [List.length_map] at h
  exact h

theorem fewM_of {l : List TxM} (h : greatM l = false) : l.length ≤ 500 ∧ ∀ x ∈ l, x.d.rs.length ≤ 500 ∧ x.d.ws.length ≤ 500 := by
  have h0 := of_decide_eq_false h
  refine ⟨?_, fun x hx => ?_⟩
  · have := totA_length (l.map TxM.a)
    rw [List.length_map] at this
    omega
  · have := totA_mem (List.mem_map_of_mem (f := TxM.a) hx)
    have h3 : 1 + x.d.rs.length + x.d.ws.length ≤ totA (l.map TxM.a) := this
    omega

theorem clashM_any (x y : TxM) (w : World) (hA : x.At w) (hB : y.At w) (sx : TxSizes x.d) (sy : TxSizes y.d) (xr : x.d.rs.length ≤ 500 ∧ x.d.ws.length ≤ 500) (yr : y.d.rs.length ≤ 500 ∧ y.d.ws.length ≤ 500) :
    Calls Tryd.prog 23 #[x.v, y.v] w fun e w' => e = .returned (.bool (clashB ⟨x.d.rs, x.d.ws⟩ ⟨y.d.rs, y.d.ws⟩)) ∧ Below w.heap.size w w' :=
  clashA_any x.a y.a w (hA.a sx) (hB.a sy) (Nat.le_trans xr.1 (by decide)) (Nat.le_trans xr.2 (by decide)) (Nat.le_trans yr.1 (by decide)) (Nat.le_trans yr.2 (by decide))

/-- A transaction of the call's own is handed back. -/
def GotOwn22 (W : World) (d : TxD) (e : Ending) (w : World) : Prop := ∃ y : TxM, e = .returned y.v ∧ y.d = d ∧ y.At w ∧ Below W.heap.size W w

theorem own22_any (x : TxM) (w : World) (hA : x.At w) (lr : x.d.rs.length ≤ 500 ∧ x.d.ws.length ≤ 500) :
    Calls Tryd.prog 14 #[x.v] w fun e w' => GotOwn22 w x.d e w' := by
  refine (own_any x.d x.ra x.rc x.wa x.wc w hA.at_ hA.nr hA.nw (by omega) (by omega)).mono ?_
  rintro e w' ⟨ra, rc, wa, wc, rfl, h1, h2, h3, hb⟩
  exact ⟨⟨x.d, ra, rc, wa, wc⟩, rfl, rfl, ⟨h1, h2, h3⟩, hb⟩

/-- The nine cells of one of a row. -/
theorem RowAt.tx22 {w : World} {ao : Option Addr} {l : List TxM} (h : RowAt txK w ao l) {i : Nat} {x : TxM} (hx : l[i]? = some x) :
    ∃ b off, ao = some ⟨b, off, none⟩ ∧ b < w.heap.size ∧ w.cell? ⟨b, off + i * 9, none⟩ = some (.int .i64 x.d.kind) ∧ w.cell? ⟨b, off + i * 9 + 1, none⟩ = some (.string x.d.frm) ∧ w.cell? ⟨b, off + i * 9 + 2, none⟩ = some (.string x.d.to) ∧ w.cell? ⟨b, off + i * 9 + 3, none⟩ = some (.int .u64 (x.d.amt : Int)) ∧ w.cell? ⟨b, off + i * 9 + 4, none⟩ = some (.int .u64 (x.d.non : Int)) ∧
      w.cell? ⟨b, off + i * 9 + 5, none⟩ = some (.string x.d.key) ∧ w.cell? ⟨b, off + i * 9 + 6, none⟩ = some (.string x.d.val) ∧ w.cell? ⟨b, off + i * 9 + 7, none⟩ = some (.slice x.ra x.d.rs.length x.rc) ∧ w.cell? ⟨b, off + i * 9 + 8, none⟩ = some (.slice x.wa x.d.ws.length x.wc) ∧ x.At w := by
  obtain ⟨b, off, h1, h2, h3⟩ := h.cell i x hx
  exact ⟨b, off, h1, h2, h3 0 _ rfl, h3 1 _ rfl, h3 2 _ rfl, h3 3 _ rfl, h3 4 _ rfl, h3 5 _ rfl, h3 6 _ rfl, h3 7 _ rfl, h3 8 _ rfl, h.at_ x (List.mem_of_getElem? hx)⟩
end Go.Proofs.YtcjmeaikdfgapaaDoor
