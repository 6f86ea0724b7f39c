/- Texts as one: AccOpen, RefWavSame, WavOpen, RefAcc, RefWavOf, WavTurn, WavMap, WavOf, WavPlan. -/
import Derived.Test.YtajpfkenhchafaaDoorEd07
import Derived.Test.YtajpfkenhchafaaDoorEd04
import Derived.Lib.SmallJoins
import Derived.Test.YtajpfkenhchafaaDoorEd08
import Derived.BigQuiet
import Derived.Deep.QuietTactic
import Derived.Test.YtajpfkenhchafaaDoorEd06
import Derived.Test.YtajpfkenhchafaaDoorEd03
import Derived.Test.YtajpfkenhchafaaDoorEd02
import Derived.Test.YtajpfkenhchafaaDoorEd09
/- How transactions, and rows of them, that came in are opened. -/
namespace Go.Proofs.YtajpfkenhchafaaDoor
open Go Go.ChangeShapes Go.WideShapes Go.ChangeAt Go.RowKit Go.Joins Go.Deep
set_option linter.unusedVariables false

/-- Texts that a machine has. -/
def textzK : Kind ByteArray where
  n := 1
  c v := [.string v]
  foot _ _ := False
  At _ v := v.size ≤ maxLen
  pos := by decide
  len _ := rfl
  one x u hu := by
    simp only [List.mem_cons, List.not_mem_nil, or_false] at hu
    rcases hu with rfl; rfl
  lt _ h := h.elim
  keep h _ := h

theorem RowAt.textz {w : World} {ao : Option Addr} {l : List ByteArray} (h : RowAt textzK w ao l) : RowAt textK w ao l ∧ ∀ s ∈ l, s.size ≤ maxLen :=
  ⟨⟨fun i x hx => h.cell i x hx, fun _ _ => trivial⟩, fun s hs => h.at_ s hs⟩

def Any20 {H α : Type} (d : DataW H) (x : α) : Prop := True

theorem cellsStr20 : Tryd.prog.cellsOf 9 = 1 := by kernel_rfl
theorem cellsInt20 : Tryd.prog.cellsOf 3 = 1 := by kernel_rfl
theorem cellsU20 : Tryd.prog.cellsOf 23 = 1 := by kernel_rfl
theorem cellsStrs20 : Tryd.prog.cellsOf 22 = 1 := by kernel_rfl
theorem cellsTx20 : Tryd.prog.cellsOf 50 = 9 := by kernel_rfl
theorem bytesStr20 : Tryd.prog.bytesOf 9 = 16 := by kernel_rfl
theorem bytesTx20 : Tryd.prog.bytesOf 50 = 136 := by kernel_rfl

theorem open_strz {H : Type} {enc : TypeId × Value → H} {W : World} {fuel : Nat} {cs : List Value} {y : DataW H × List MemPlace}
    (hf : DataW.trod enc Tryd.prog W 0 (fun _ => true) true fuel 9 cs = some y) : ∃ x : ByteArray, cs = textzK.c x ∧ textzK.At W x ∧ Any20 y.1 x := by
  obtain ⟨a, e, hy, s⟩ := DataW.trod_string Tryd.underlying9 hf
  exact ⟨a, e, s, trivial⟩

theorem RowD.strs20 {H : Type} {d : DataW H} {l : List ByteArray} (hs : RowD Any20 d l) (h : ∀ n ∈ d.weights Tryd.prog 22, n ≤ reachBytes) : l.length ≤ 17592186044416 := by
  rcases hs with ⟨rfl, rfl⟩ | ⟨es, rest, rfl, hl, _⟩
  · simp
  · have := h ((es.length + rest.length) * Tryd.prog.bytesOf 9) (by simp [DataW.weights, Tryd.underlying22])
    rw [bytesStr20] at this
    simp [reachBytes] at this
    omega

/-- What a transaction weighs: its rows are no greater than a machine has. -/
def TxQ {H : Type} (d : DataW H) (x : TxA) : Prop := (∀ n ∈ d.weights Tryd.prog 50, n ≤ reachBytes) → x.rs.length ≤ 17592186044416 ∧ x.ws.length ≤ 17592186044416

theorem list9a {α : Type} {l : List α} (h : l.length = 9) : ∃ c0 c1 c2 c3 c4 c5 c6 c7 c8, l = [c0, c1, c2, c3, c4, c5, c6, c7, c8] := by
  match l, h with
  | [c0, c1, c2, c3, c4, c5, c6, c7, c8], _ => exact ⟨c0, c1, c2, c3, c4, c5, c6, c7, c8, rfl⟩

set_option maxRecDepth 100000 in
theorem open_txa_cells {H : Type} {enc : TypeId × Value → H} {W : World} {fuel : Nat} {cs : List Value} {y : DataW H × List MemPlace}
    (hf : DataW.trod enc Tryd.prog W 0 (fun _ => true) true fuel 50 cs = some y) : ∃ x : TxA, cs = txA.c x ∧ txA.At W x ∧ TxQ y.1 x := by
  obtain ⟨xs, n, _, hx, hcl, hl, hg⟩ := DataW.trod_struct Tryd.underlying50 hf
  obtain ⟨c0, c1, c2, c3, c4, c5, c6, c7, c8, rfl⟩ := list9a (hcl.trans cellsTx20)
  obtain ⟨y0, y1, y2, y3, y4, y5, y6, y7, y8, rfl⟩ := list9a hl
  have g0 := hg 0 _ rfl
  have g1 := hg 1 _ rfl
  have g2 := hg 2 _ rfl
  have g3 := hg 3 _ rfl
  have g4 := hg 4 _ rfl
  have g5 := hg 5 _ rfl
  have g6 := hg 6 _ rfl
  have g7 := hg 7 _ rfl
  have g8 := hg 8 _ rfl
  simp [cellsInt20, cellsU20, cellsStr20, cellsStrs20] at g0 g1 g2 g3 g4 g5 g6 g7 g8
  obtain ⟨a0, e0, _, _⟩ := DataW.trod_int Tryd.underlying3 g0
  obtain ⟨a1, e1, _, s1⟩ := DataW.trod_string Tryd.underlying9 g1
  obtain ⟨a2, e2, _, s2⟩ := DataW.trod_string Tryd.underlying9 g2
  obtain ⟨a3, e3, _, u3⟩ := DataW.trod_int Tryd.underlying23 g3
  obtain ⟨a4, e4, _, u4⟩ := DataW.trod_int Tryd.underlying23 g4
  obtain ⟨a5, e5, _, s5⟩ := DataW.trod_string Tryd.underlying9 g5
  obtain ⟨a6, e6, _, s6⟩ := DataW.trod_string Tryd.underlying9 g6
  have sl : ∀ {c : Value} {fu : Nat} {y : DataW H × List MemPlace}, DataW.trod enc Tryd.prog W 0 (fun _ => true) true fu 22 [c] = some y → ∃ a len cap, c = .slice a len cap := by
    intro c fu y g
    rcases open_slice Tryd.underlying22 g with ⟨hcs, _⟩ | ⟨x, l, c, m, n, D, Pl, hcs, _⟩
    · exact ⟨none, 0, 0, by simpa using hcs⟩
    · exact ⟨some x, _, _, by simpa using hcs⟩
  obtain ⟨a7, len7, cap7, rfl⟩ := sl g7
  obtain ⟨a8, len8, cap8, rfl⟩ := sl g8
  obtain ⟨l7, hl7, hr7, hn7, hm7, hd7⟩ := open_row textzK Any20 Tryd.underlying22 cellsStr20 open_strz g7
  obtain ⟨l8, hl8, hr8, hn8, hm8, hd8⟩ := open_row textzK Any20 Tryd.underlying22 cellsStr20 open_strz g8
  simp at e0 e1 e2 e3 e4 e5 e6
  subst e0 e1 e2 e3 e4 e5 e6 hl7 hl8
  refine ⟨⟨a0, a1, a2, a3, a4, a5, a6, l7, l8, a7, cap7, a8, cap8⟩, rfl, ⟨hr7.textz.1, hr8.textz.1, hn7, hn8, hr7.textz.2, hr8.textz.2⟩, fun hw => ?_⟩
  have e : DataW.weights Tryd.prog 50 y.1 = DataW.weightsEach Tryd.prog [3, 9, 9, 23, 23, 9, 9, 22, 22] [y0.1, y1.1, y2.1, y3.1, y4.1, y5.1, y6.1, y7.1, y8.1] := by
    rw [hx]
    show DataW.weights Tryd.prog 50 (.agg [y0.1, y1.1, y2.1, y3.1, y4.1, y5.1, y6.1, y7.1, y8.1]) = _
    simp only [DataW.weights, Tryd.underlying50]
    rfl
  refine ⟨hd7.strs20 (fun k hk => hw k ?_), hd8.strs20 (fun k hk => hw k ?_)⟩
  · rw [e]
    exact DataW.weights_mem_each (j := 7) rfl rfl k hk
  · rw [e]
    exact DataW.weights_mem_each (j := 8) rfl rfl k hk

theorem open_txs20 {H : Type} {enc : TypeId × Value → H} {W : World} {a : Option Addr} {len cap : Nat} {d : DataW H} {p : List MemPlace}
    (h : DataW.Trod enc Tryd.prog W 0 (fun _ => true) true 24 (.slice a len cap) d p) :
    ∃ l : List TxA, l.length = len ∧ RowAt txA W a l ∧ len ≤ maxLen ∧ RowD TxQ d l := by
  obtain ⟨fuel, hf⟩ := h
  obtain ⟨l, h1, h2, _, h4, h5⟩ := open_row txA TxQ Tryd.underlying24 cellsTx20 open_txa_cells hf
  exact ⟨l, h1, h2, h4, h5⟩

/-- The same, and that its length is within what it has room for. -/
theorem open_txs20c {H : Type} {enc : TypeId × Value → H} {W : World} {a : Option Addr} {len cap : Nat} {d : DataW H} {p : List MemPlace}
    (h : DataW.Trod enc Tryd.prog W 0 (fun _ => true) true 24 (.slice a len cap) d p) :
    ∃ l : List TxA, l.length = len ∧ RowAt txA W a l ∧ len ≤ cap ∧ RowD TxQ d l := by
  obtain ⟨l, h1, h2, _, h4⟩ := open_txs20 h
  refine ⟨l, h1, h2, ?_, h4⟩
  obtain ⟨fuel, hf⟩ := h
  rcases open_slice Tryd.underlying24 hf with ⟨hcs, _⟩ | ⟨x, l, c, m, n, D, Pl, hcs, _, hl, _⟩
  · have : Value.slice a len cap = .slice none 0 0 := by simpa [Value.cells] using hcs
    simp only [Value.slice.injEq] at this
    omega
  · have : Value.slice a len cap = .slice (some x) l c := by simpa [Value.cells] using hcs
    simp only [Value.slice.injEq] at this
    omega

theorem weights_mem_all20 {H : Type} {P : Program} {e : TypeId} : ∀ {ds : List (DataW H)} {d : DataW H}, d ∈ ds → ∀ n ∈ d.weights P e, n ∈ DataW.weightsAll P e ds
  | [], _, h, _, _ => by cases h
  | d0 :: ds, d, h, n, hn => by
    simp only [DataW.weightsAll, List.mem_append]
    rcases List.mem_cons.1 h with rfl | h
    · exact Or.inl hn
    · exact Or.inr (weights_mem_all20 h n hn)

theorem txs20_sized {H : Type} {ts : List TypeId} {ds : List (DataW H)} (h : (DataW.weightsEach Tryd.prog ts ds).all (· ≤ reachBytes) = true) {j : Nat} {d : DataW H} {l : List TxA} (ht : ts[j]? = some 24) (hd : ds[j]? = some d) (hs : RowD TxQ d l) : Wide l := by
  rcases hs with ⟨rfl, rfl⟩ | ⟨es, rest, rfl, hl, ha⟩
  · exact ⟨Nat.zero_le _, fun x hx => by cases hx⟩
  · refine ⟨?_, fun x hx => ?_⟩
    · have := sized_slice h ht hd Tryd.underlying24
      rw [bytesTx20] at this
      simp [reachBytes] at this
      omega
    · obtain ⟨i, hi⟩ := List.getElem?_of_mem hx
      have hil := (List.getElem?_eq_some_iff.1 hi).1
      refine ha i _ x (List.getElem?_eq_getElem (by omega)) hi (fun n hn => ?_)
      have h1 : n ∈ DataW.weights Tryd.prog 24 (.slice es rest) := by
        simp only [DataW.weights, Tryd.underlying24]
        exact List.mem_cons_of_mem _ (List.mem_append.2 (Or.inl (weights_mem_all20 (List.getElem_mem _) n hn)))
      have := List.all_eq_true.1 h _ (DataW.weights_mem_each ht hd n h1)
      simpa using this

set_option maxRecDepth 100000 in
theorem open_txa {H : Type} {enc : TypeId × Value → H} {W : World} {r : Reach} {b0 : Nat} {v : Value} {d : DataW H} {p : List MemPlace} (hv : Value.okWide Tryd.prog W r b0 50 v)
    (h : DataW.Trod enc Tryd.prog W 0 (fun _ => true) true 50 v d p) : ∃ x : TxA, v = x.v ∧ TxA.At W x ∧ TxQ d x := by
  obtain ⟨cs, rfl, hsz⟩ := okWide_struct Tryd.underlying50 hv
  obtain ⟨fuel, hf⟩ := h
  obtain ⟨x, hx, h2, h3⟩ := open_txa_cells hf
  refine ⟨x, ?_, h2, h3⟩
  have e : cs.toList = x.c := hx
  show Value.agg cs = Value.agg x.c.toArray
  rw [← e]

theorem txa_sized {H : Type} {ts : List TypeId} {ds : List (DataW H)} (h : (DataW.weightsEach Tryd.prog ts ds).all (· ≤ reachBytes) = true) {j : Nat} {d : DataW H} {x : TxA} (ht : ts[j]? = some 50) (hd : ds[j]? = some d) (hs : TxQ d x) : x.rs.length ≤ 17592186044416 ∧ x.ws.length ≤ 17592186044416 :=
  hs (fun n hn => by
    have := List.all_eq_true.1 h _ (DataW.weights_mem_each ht hd n hn)
    simpa using this)
end Go.Proofs.YtajpfkenhchafaaDoor

/- What tuskref21.Same does. -/
namespace Go.Proofs.YtajpfkenhchafaaDoor
open Go Go.RowKit
set_option linter.unusedVariables false

/-- Lengths that a machine has. -/
def RowsLen (p : List IRow) : Prop := p.length ≤ 140737488355328 ∧ ∀ x ∈ p, x.l.length ≤ 140737488355328

theorem ls_ne {a b : List IRow} {i : Nat} {x y : IRow} (hx : a[i]? = some x) (hy : b[i]? = some y) (h : x.l ≠ y.l) : lsP a ≠ lsP b := by
  intro e
  have h1 : (lsP a)[i]? = some x.l := by unfold lsP; rw [List.getElem?_map, hx]; rfl
  have h2 : (lsP b)[i]? = some y.l := by unfold lsP; rw [List.getElem?_map, hy]; rfl
  rw [e, h2] at h1
  exact h (by simpa using h1.symm)

theorem ls_step {a b : List IRow} {i : Nat} {x y : IRow} (h : (lsP a).take i = (lsP b).take i) (hx : a[i]? = some x) (hy : b[i]? = some y) (e : x.l = y.l) : (lsP a).take (i + 1) = (lsP b).take (i + 1) := by
  have h1 : (lsP a)[i]? = some x.l := by unfold lsP; rw [List.getElem?_map, hx]; rfl
  have h2 : (lsP b)[i]? = some y.l := by unfold lsP; rw [List.getElem?_map, hy]; rfl
  rw [List.take_add_one, List.take_add_one, h, h1, h2, e]

set_option maxRecDepth 100000 in
set_option maxHeartbeats 2000000 in
theorem refSame21_any (a b : List IRow) (pa pb : Option Addr) (ca cb : Nat) (w : World) (ha : RowAt irowK w pa a) (hb : RowAt irowK w pb b) (la : RowsLen a) (lb : RowsLen b) :
    Calls Tryd.prog 29 #[.slice pa a.length ca, .slice pb b.length cb] w fun e w' => e = .returned (.bool (decide (lsP a = lsP b))) ∧ Below w.heap.size w w' := by
  obtain ⟨la1, la2⟩ := la
  obtain ⟨lb1, lb2⟩ := lb
  have hla : (lsP a).length = a.length := by unfold lsP; rw [List.length_map]
  have hlb : (lsP b).length = b.length := by unfold lsP; rw [List.length_map]
  generalize hGOT : (fun e w' => e = Ending.returned (.bool (decide (lsP a = lsP b))) ∧ Below w.heap.size w w') = GOT
  have hN : Hid (∀ w', Below w.heap.size w w' → lsP a ≠ lsP b → GOT (.returned (.bool false)) w') := by
    intro w' h1 h2
    rw [← hGOT]
    exact ⟨by rw [decide_eq_false h2], h1⟩
  have hY : Hid (∀ w', Below w.heap.size w w' → lsP a = lsP b → GOT (.returned (.bool true)) w') := by
    intro w' h1 h2
    rw [← hGOT]
    exact ⟨by rw [decide_eq_true h2], h1⟩
  clear hGOT
  go_enter Tryd.func29, Tryd.ntmps29
  by_cases hab : a.length = b.length
  · have g0 : ((a.length : Int) == (b.length : Int)) = true := by simp; omega
    have hab' : Hid _ := hab
    clear hab
    go_wp2_with fail
    go_loopw [5] (fun v5 wr => ∃ (i : Nat), i ≤ a.length ∧ v5 = .int .i64 (i : Int) ∧ Hid ((lsP a).take i = (lsP b).take i) ∧ Below w.heap.size w wr) (fun v _ => a.length - (intOf v).toNat)
    case atStart => exact ⟨0, Nat.zero_le _, rfl, rfl, Below.refl _ _⟩
    case round =>
      obtain ⟨i, hi, rfl, hls, hbw⟩ := hrel
      by_cases hil : i < a.length
      · have g1 : (i : Int) < (a.length : Int) := by omega
        have g1' : (i : Int) < (b.length : Int) := by have := hab'.out; omega
        obtain ⟨x, hx⟩ : ∃ p, a[i]? = some p := ⟨_, List.getElem?_eq_getElem hil⟩
        obtain ⟨y, hy⟩ : ∃ p, b[i]? = some p := ⟨_, List.getElem?_eq_getElem (by have := hab'.out; omega)⟩
        have hx' : Hid _ := hx
        have hy' : Hid _ := hy
        obtain ⟨b1, o1, rfl, hb1, c1, hr1, _⟩ := (ha.below hbw).irow hx
        obtain ⟨b2, o2, rfl, hb2, c2, hr2, _⟩ := (hb.below hbw).irow hy
        have lx := la2 x (List.mem_of_getElem? hx)
        have ly := lb2 y (List.mem_of_getElem? hy)
        have hne : Hid (x.l ≠ y.l → lsP a ≠ lsP b) := ls_ne hx hy
        have hst : Hid (x.l = y.l → (lsP a).take (i + 1) = (lsP b).take (i + 1)) := ls_step hls.out hx hy
        have hxr := (ha.at_ x (List.mem_of_getElem? hx)).1
        have hyr := (hb.at_ y (List.mem_of_getElem? hy)).1
        clear hx hy hr1 hr2 hls
        by_cases hxy : x.l.length = y.l.length
        · have g2 : ((x.l.length : Int) == (y.l.length : Int)) = true := by simp; omega
          have hxy' : Hid _ := hxy
          clear hxy
          go_wp2_with fail
          go_quiet (fail)
          go_wp2_with fail
          have hbq := below_drewN hbw nq
          generalize wr.drewN nq = wq at *
          clear c1 c2 hb1 hb2
          go_loopw [6] (fun v6 wr => ∃ (k : Nat), k ≤ x.l.length ∧ v6 = .int .i64 (k : Int) ∧ Hid (x.l.take k = y.l.take k) ∧ Below w.heap.size w wr) (fun v _ => x.l.length - (intOf v).toNat)
          case atStart => exact ⟨0, Nat.zero_le _, rfl, rfl, hbq⟩
          case round =>
            obtain ⟨k, hk, rfl, hlk, hbk⟩ := hrel
            obtain ⟨b1', o1', e1, hb1, c1, hr1, _⟩ := (ha.below hbk).irow hx'.out
            obtain ⟨b2', o2', e2, hb2, c2, hr2, _⟩ := (hb.below hbk).irow hy'.out
            simp only [Option.some.injEq, Addr.mk.injEq, and_true] at e1 e2
            obtain ⟨rfl, rfl⟩ := e1
            obtain ⟨rfl, rfl⟩ := e2
            by_cases hkl : k < x.l.length
            · have g3 : (k : Int) < (x.l.length : Int) := by omega
              have g3' : (k : Int) < (y.l.length : Int) := by have := hxy'.out; omega
              obtain ⟨u, hu⟩ : ∃ q, x.l[k]? = some q := ⟨_, List.getElem?_eq_getElem hkl⟩
              obtain ⟨v, hv⟩ : ∃ q, y.l[k]? = some q := ⟨_, List.getElem?_eq_getElem (by have := hxy'.out; omega)⟩
              obtain ⟨b3, o3, h3, hb3, c3⟩ := hr1.int hu
              obtain ⟨b4, o4, h4, hb4, c4⟩ := hr2.int hv
              rw [h3] at c1
              rw [h4] at c2
              have hst2 : Hid (u = v → x.l.take (k + 1) = y.l.take (k + 1)) := fun e => by rw [List.take_add_one, List.take_add_one, hlk.out, hu, hv, e]
              have hne2 : Hid (u ≠ v → x.l ≠ y.l) := fun e e2 => e (by rw [e2, hv] at hu; simpa using hu.symm)
              clear hu hv hr1 hr2 hlk h3 h4
              by_cases huv : u = v
              · have h5 := hst2.out huv
                have h6 : Hid _ := h5
                subst huv
                clear hst2 hne2 h5
                go_wp2_with fail
                go_quiet (fail)
                go_wp2_with fail
                go_roundw
                case rel => exact ⟨k + 1, by omega, by go_num, h6, below_drewN hbk _⟩
                case measure => simp [intOf]; omega
              · have g4 : (u == v) = false := by simp; exact huv
                have hE : Hid (∀ w', Below w.heap.size w w' → GOT (.returned (.bool false)) w') := fun w' h => hN.out w' h (hne.out (hne2.out huv))
                clear hst2 hne2 hst hne huv
                go_wp2_with fail
                go_quiet (fail)
                go_wp2_with fail
                exact hE.out _ (below_drewN hbk _)
            · have g3 : ¬ (k : Int) < (x.l.length : Int) := by omega
              have h5 := hst.out (by
                have h := hlk.out
                rw [List.take_of_length_le (by omega), List.take_of_length_le (by have := hxy'.out; omega)] at h
                exact h)
              have h6 : Hid _ := h5
              clear h5 hlk hr1 hr2
              go_wp2_with fail
              go_roundw
              case rel => exact ⟨i + 1, by omega, by go_num, h6, hbk⟩
              case measure => simp [intOf]; omega
        · have g2 : ((x.l.length : Int) == (y.l.length : Int)) = false := by simp; omega
          have hE : Hid (∀ w', Below w.heap.size w w' → GOT (.returned (.bool false)) w') := fun w' h => hN.out w' h (hne.out (fun e => hxy (by rw [e])))
          clear hxy hne hst
          go_wp2_with fail
          go_quiet (fail)
          go_wp2_with fail
          exact hE.out _ (below_drewN hbw _)
      · have g1 : ¬ (i : Int) < (a.length : Int) := by omega
        have hE := hY.out wr hbw (by
          have h := hls.out
          rw [List.take_of_length_le (by omega), List.take_of_length_le (by have := hab'.out; omega)] at h
          exact h)
        clear hls
        go_wp2_with fail
        exact hE
  · have g0 : ((a.length : Int) == (b.length : Int)) = false := by simp; omega
    have hE := hN.out w (Below.refl _ _) (fun e => hab (by rw [← hla, ← hlb, e]))
    go_wp2_with fail
    exact hE
end Go.Proofs.YtajpfkenhchafaaDoor

/- How a plan that came in is opened. -/
namespace Go.Proofs.YtajpfkenhchafaaDoor
open Go Go.ChangeShapes Go.WideShapes Go.ChangeAt Go.RowKit Go.Joins Go.Deep
set_option linter.unusedVariables false

theorem cellsInts21 : Tryd.prog.cellsOf 25 = 1 := by kernel_rfl
theorem bytesInt21 : Tryd.prog.bytesOf 3 = 8 := by kernel_rfl
theorem bytesInts21 : Tryd.prog.bytesOf 25 = 24 := by kernel_rfl

theorem open_int21 {H : Type} {enc : TypeId × Value → H} {W : World} {fuel : Nat} {cs : List Value} {y : DataW H × List MemPlace}
    (hf : DataW.trod enc Tryd.prog W 0 (fun _ => true) true fuel 3 cs = some y) : ∃ v : Int, cs = intK.c v ∧ intK.At W v ∧ Any20 y.1 v := by
  obtain ⟨a0, e0, _, _⟩ := DataW.trod_int Tryd.underlying3 hf
  exact ⟨a0, e0, trivial, trivial⟩

instance : Inhabited IRow := ⟨⟨[], none, 0⟩⟩

/-- What a row of numbers weighs. -/
def IRowQ {H : Type} (d : DataW H) (x : IRow) : Prop := (∀ n ∈ d.weights Tryd.prog 25, n ≤ reachBytes) → x.l.length ≤ 140737488355328

theorem RowD.ints21 {H : Type} {d : DataW H} {l : List Int} (hs : RowD Any20 d l) (h : ∀ n ∈ d.weights Tryd.prog 25, n ≤ reachBytes) : l.length ≤ 140737488355328 := by
  rcases hs with ⟨rfl, rfl⟩ | ⟨es, rest, rfl, hl, _⟩
  · simp
  · have := h ((es.length + rest.length) * Tryd.prog.bytesOf 3) (by simp [DataW.weights, Tryd.underlying25])
    rw [bytesInt21] at this
    simp [reachBytes] at this
    omega

theorem open_irow {H : Type} {enc : TypeId × Value → H} {W : World} {fuel : Nat} {cs : List Value} {y : DataW H × List MemPlace}
    (hf : DataW.trod enc Tryd.prog W 0 (fun _ => true) true fuel 25 cs = some y) : ∃ x : IRow, cs = irowK.c x ∧ irowK.At W x ∧ IRowQ y.1 x := by
  have sl : ∃ a len cap, cs = [.slice a len cap] := by
    rcases open_slice Tryd.underlying25 hf with ⟨hcs, _⟩ | ⟨x, l, c, m, n, D, Pl, hcs, _⟩
    · exact ⟨none, 0, 0, by simpa using hcs⟩
    · exact ⟨some x, _, _, by simpa using hcs⟩
  obtain ⟨a, len, cap, rfl⟩ := sl
  obtain ⟨l, rfl, h2, h3, _, h5⟩ := open_row intK Any20 Tryd.underlying25 cellsInt20 open_int21 hf
  exact ⟨⟨l, a, cap⟩, rfl, ⟨h2, h3⟩, fun hw => h5.ints21 hw⟩

theorem open_plan21 {H : Type} {enc : TypeId × Value → H} {W : World} {a : Option Addr} {len cap : Nat} {d : DataW H} {p : List MemPlace}
    (h : DataW.Trod enc Tryd.prog W 0 (fun _ => true) true 29 (.slice a len cap) d p) :
    ∃ l : List IRow, l.length = len ∧ RowAt irowK W a l ∧ len ≤ maxLen ∧ RowD IRowQ d l := by
  obtain ⟨fuel, hf⟩ := h
  obtain ⟨l, h1, h2, _, h4, h5⟩ := open_row irowK IRowQ Tryd.underlying29 cellsInts21 open_irow hf
  exact ⟨l, h1, h2, h4, h5⟩

theorem plan21_sized {H : Type} {ts : List TypeId} {ds : List (DataW H)} (h : (DataW.weightsEach Tryd.prog ts ds).all (· ≤ reachBytes) = true) {j : Nat} {d : DataW H} {l : List IRow} (ht : ts[j]? = some 29) (hd : ds[j]? = some d) (hs : RowD IRowQ d l) : RowsLen l := by
  have hw := weights_of h ht hd
  obtain ⟨h1, h2⟩ := hs.fit Tryd.underlying29 hw
  rw [bytesInts21] at h1
  simp [reachBytes] at h1
  refine ⟨by omega, fun x hx => ?_⟩
  obtain ⟨y, q1, q2⟩ := h2 x hx
  exact q1 q2
end Go.Proofs.YtajpfkenhchafaaDoor

/- What tuskref04.Has, tuskref20.Clash and tuskref20.Edges do. -/
namespace Go.Proofs.YtajpfkenhchafaaDoor
open Go Go.RowKit
set_option linter.unusedVariables false

set_option maxRecDepth 100000 in
set_option maxHeartbeats 400000 in
theorem refHasA_any (ao : Option Addr) (cap : Nat) (l : List ByteArray) (v : ByteArray) (w : World) (hc : RowAt textK w ao l) (hn : l.length ≤ 1000000) :
    Calls Tryd.prog 57 #[.slice ao l.length cap, .string v] w fun e w' => e = .returned (.bool (inK l v)) ∧ w' = w := by
  go_enter Tryd.func57, Tryd.ntmps57
  go_wp2
  go_loop [5] (fun u => ∃ k : Nat, k ≤ l.length ∧ u = .int .i64 k ∧ Hid (inK (l.take k) v = false)) (fun u => l.length - (intOf u).toNat)
  case atStart => exact ⟨0, by omega, rfl, rfl⟩
  case round =>
    obtain ⟨k, hk, rfl, hK⟩ := hrel
    by_cases hlt : k < l.length
    · have g1 : (k : Int) < (l.length : Int) := by omega
      obtain ⟨x, hx⟩ : ∃ p, l[k]? = some p := ⟨_, List.getElem?_eq_getElem hlt⟩
      obtain ⟨b, off, rfl, hbl, hcell⟩ := hc.txt hx
      by_cases he : x = v
      · have H : Hid (inK l v = true) := by show _ = _; rw [inK_iff, ← he]; exact List.mem_of_getElem? hx
        have heb : (x.toList == v.toList) = true := by rw [he]; exact beq_self_eq_true _
        clear hK hx
        go_wp2
        go_ret
        exact ⟨by rw [H.out]; rfl, rfl⟩
      · have H : Hid (inK (l.take (k + 1)) v = false) := by
          show _ = _
          rw [List.take_add_one, hx, Option.toList_some, inK_snoc, hK.out, decide_eq_false he]; rfl
        have heb : (x.toList == v.toList) = false := beq_eq_false_iff_ne.2 (fun e => he (bytes_inj e))
        clear hK hx he
        go_wp2
        go_round
        case rel => exact ⟨k + 1, by omega, by go_num, H⟩
        case measure => simp [intOf]; omega
    · have g1 : ¬ (k : Int) < (l.length : Int) := by omega
      have H : Hid (inK l v = false) := by
        have := hK.out
        rw [show k = l.length by omega, List.take_length] at this
        exact this
      clear hK
      go_wp2
      go_ret
      exact ⟨by rw [H.out]; rfl, rfl⟩

set_option maxRecDepth 100000 in
set_option maxHeartbeats 1000000 in
theorem refClash_any (x y : TxA) (w : World) (hA : TxA.At w x) (hB : TxA.At w y) (xr : x.rs.length ≤ 1000000) (xw : x.ws.length ≤ 1000000) (yr : y.rs.length ≤ 1000000) (yw : y.ws.length ≤ 1000000) :
    Calls Tryd.prog 40 #[x.v, y.v] w fun e w' => e = .returned (.bool (clashB x.rw y.rw)) ∧ Below w.heap.size w w' := by
  obtain ⟨w2, hw2, hX, hY, hb2⟩ := two_newA w x y
  have hxr := hA.rd.below hb2
  have hxw := hA.wr.below hb2
  have hyr := hB.rd.below hb2
  have hyw := hB.wr.below hb2
  obtain ⟨kind, frm, dst, amt, non, key, val, rs, ws, ra, rc, wa, wc⟩ := x
  obtain ⟨kind', frm', dst', amt', non', key', val', rs', ws', ra', rc', wa', wc'⟩ := y
  show Calls _ _ _ _ fun e w' => e = .returned (.bool (ws.any (fun k => inK ws' k || inK rs' k) || ws'.any (fun k => inK rs k))) ∧ _
  replace hw2 : (w.alloc (.cells #[.int .i64 kind, .string frm, .string dst, .int .u64 amt, .int .u64 non, .string key, .string val, .slice ra rs.length rc, .slice wa ws.length wc] 50)).alloc (.cells #[.int .i64 kind', .string frm', .string dst', .int .u64 amt', .int .u64 non', .string key', .string val', .slice ra' rs'.length rc', .slice wa' ws'.length wc'] 50) = w2 := hw2.symm
  replace hxr : RowAt textK w2 ra rs := hxr
  replace hxw : RowAt textK w2 wa ws := hxw
  replace hyr : RowAt textK w2 ra' rs' := hyr
  replace hyw : RowAt textK w2 wa' ws' := hyw
  replace xr : rs.length ≤ 1000000 := xr
  replace xw : ws.length ≤ 1000000 := xw
  replace yr : rs'.length ≤ 1000000 := yr
  replace yw : ws'.length ≤ 1000000 := yw
  have x7 := hX.cell (i := 7) rfl
  have x8 := hX.cell (i := 8) rfl
  have y7 := hY.cell (i := 7) rfl
  have y8 := hY.cell (i := 8) rfl
  clear hA hB
  unfold TxA.v
  go_enter Tryd.func40, Tryd.ntmps40
  go_wp2_with fail
  go_loopw [5] (fun v5 wr => ∃ i : Nat, i ≤ ws.length ∧ v5 = .int .i64 (i : Int) ∧ Hid ((ws.take i).any (fun k => inK ws' k || inK rs' k) = false) ∧ Below w2.heap.size w2 wr) (fun v _ => ws.length - (intOf v).toNat)
  case atStart => exact ⟨0, Nat.zero_le _, rfl, rfl, Below.refl _ _⟩
  case round =>
    obtain ⟨i, hi, rfl, hno, hbd⟩ := hrel
    have hXr := hX.below hbd hX.lt
    have hYr := hY.below hbd hY.lt
    have x7 := hXr.cell (i := 7) rfl
    have x8 := hXr.cell (i := 8) rfl
    have y7 := hYr.cell (i := 7) rfl
    have y8 := hYr.cell (i := 8) rfl
    by_cases hil : i < ws.length
    · have g1 : (i : Int) < (ws.length : Int) := by omega
      obtain ⟨z, hz⟩ : ∃ p, ws[i]? = some p := ⟨_, List.getElem?_eq_getElem hil⟩
      obtain ⟨b, off, rfl, hbl, hcell⟩ := (hxw.below hbd).txt hz
      have hrow1 := hyw.below hbd
      have hrow2 := hyr.below hbd
      have cW := fun n => refHasA_any wa' wc' ws' z (wr.drewN n) (hrow1.below (below_drewN (Below.refl _ _) n)) yw
      have cR := fun n => refHasA_any ra' rc' rs' z (wr.drewN n) (hrow2.below (below_drewN (Below.refl _ _) n)) yr
      cases h1 : inK ws' z with
      | true =>
        have hres : Hid (ws.any (fun k => inK ws' k || inK rs' k) = true) := any_hit hz (by rw [h1]; rfl)
        rw [h1] at cW
        clear hno hz
        go_wp2_with fail
        go_quiet (exact Calls.quiet_of_same (cW _))
        go_wp2
        go_ret
        exact ⟨by rw [hres.out]; rfl, hb2.trans ((below_drewN hbd _).mono hb2.size)⟩
      | false =>
        cases h2 : inK rs' z with
        | true =>
          have hres : Hid (ws.any (fun k => inK ws' k || inK rs' k) = true) := any_hit hz (by rw [h1, h2]; rfl)
          rw [h1] at cW
          rw [h2] at cR
          clear hno hz
          go_wp2_with fail
          go_quiet (first | with_reducible exact Calls.quiet_of_same (cW _) | with_reducible exact Calls.quiet_of_same (cR _))
          go_wp2
          go_ret
          exact ⟨by rw [hres.out]; rfl, hb2.trans ((below_drewN hbd _).mono hb2.size)⟩
        | false =>
          have hno' : Hid ((ws.take (i + 1)).any (fun k => inK ws' k || inK rs' k) = false) := take_any hz hno.out (by rw [h1, h2]; rfl)
          rw [h1] at cW
          rw [h2] at cR
          clear hno hz
          go_wp2_with fail
          go_quiet (first | with_reducible exact Calls.quiet_of_same (cW _) | with_reducible exact Calls.quiet_of_same (cR _))
          go_wp2
          go_roundw
          case rel => exact ⟨i + 1, by omega, by go_num, hno', below_drewN hbd _⟩
          case measure => simp [intOf]; omega
    · have g1 : ¬ (i : Int) < (ws.length : Int) := by omega
      have hN : Hid (ws.any (fun k => inK ws' k || inK rs' k) = false) := by
        have := hno.out
        rw [show i = ws.length by omega, List.take_length] at this
        exact this
      clear hno hi hil
      go_wp2_with fail
      go_loopw [6] (fun v6 W2 => ∃ i : Nat, i ≤ ws'.length ∧ v6 = .int .i64 (i : Int) ∧ Hid ((ws'.take i).any (fun k => inK rs k) = false) ∧ Below w2.heap.size w2 W2) (fun v _ => ws'.length - (intOf v).toNat)
      case atStart => exact ⟨0, Nat.zero_le _, rfl, rfl, hbd⟩
      case round =>
        clear hbd hXr hYr x7 x8 y7 y8
        obtain ⟨i, hi, rfl, hno, hbd⟩ := hrel
        have hXr := hX.below hbd hX.lt
        have hYr := hY.below hbd hY.lt
        have x7 := hXr.cell (i := 7) rfl
        have y8 := hYr.cell (i := 8) rfl
        by_cases hil : i < ws'.length
        · have g1 : (i : Int) < (ws'.length : Int) := by omega
          obtain ⟨z, hz⟩ : ∃ p, ws'[i]? = some p := ⟨_, List.getElem?_eq_getElem hil⟩
          obtain ⟨b, off, rfl, hbl, hcell⟩ := (hyw.below hbd).txt hz
          have hrow1 := hxr.below hbd
          have cX := fun n => refHasA_any ra rc rs z (wr.drewN n) (hrow1.below (below_drewN (Below.refl _ _) n)) xr
          cases h1 : inK rs z with
          | true =>
            have hres : Hid (ws'.any (fun k => inK rs k) = true) := any_hit hz h1
            rw [h1] at cX
            clear hno hz
            go_wp2_with fail
            go_quiet (exact Calls.quiet_of_same (cX _))
            go_wp2
            go_ret
            exact ⟨by rw [hres.out, Bool.or_true]; rfl, hb2.trans ((below_drewN hbd _).mono hb2.size)⟩
          | false =>
            have hno' : Hid ((ws'.take (i + 1)).any (fun k => inK rs k) = false) := take_any hz hno.out h1
            rw [h1] at cX
            clear hno hz
            go_wp2_with fail
            go_quiet (exact Calls.quiet_of_same (cX _))
            go_wp2
            go_roundw
            case rel => exact ⟨i + 1, by omega, by go_num, hno', below_drewN hbd _⟩
            case measure => simp [intOf]; omega
        · have g1 : ¬ (i : Int) < (ws'.length : Int) := by omega
          have hN2 : Hid (ws'.any (fun k => inK rs k) = false) := by
            have := hno.out
            rw [show i = ws'.length by omega, List.take_length] at this
            exact this
          clear hno hi hil
          go_wp2
          go_ret
          exact ⟨by rw [hN.out, hN2.out]; rfl, hb2.trans (hbd.mono hb2.size)⟩
end Go.Proofs.YtajpfkenhchafaaDoor

/- What tuskref21.Of does. -/
namespace Go.Proofs.YtajpfkenhchafaaDoor
open Go Go.RowKit
set_option linter.unusedVariables false

def GotOfR (W : World) (l : List RwD) (e : Ending) (w : World) : Prop :=
  ∃ ao cap, e = .returned (.slice ao l.length cap) ∧ KQ natK 3 w W.heap.size (.slice ao l.length cap) (wvN l l.length) ∧ Below W.heap.size W w

theorem new_natR (w : World) (x : Nat) : ∀ j u, (natK.c x)[j]? = some u → (w.alloc (.cells #[.int .i64 ((x : Nat) : Int)] 3)).cell? ((⟨w.heap.size, 0, none⟩ : Addr).add j) = some u := by
  intro j u hu
  rw [Go.WideShapes.add_plain, Nat.zero_add]
  exact (Arr.new w 3 [.int .i64 ((x : Nat) : Int)]).cell hu

theorem maxR (m v : Nat) : Value.int .i64 (if (m : Int) < (v : Int) + 1 then (v : Int) + 1 else (m : Int)) = Value.int .i64 ((max m (v + 1) : Nat) : Int) := by
  split <;> congr 1 <;> omega

theorem nxK_true {l : List RwD} {ws : List Nat} {i k : Nat} (h : adjB l k i = true) : nxK l ws i (k + 1) = max (nxK l ws i k) (ws.getD k 0 + 1) := by
  show (if adjB l k i = true then _ else _) = _
  rw [if_pos h]

theorem nxK_false {l : List RwD} {ws : List Nat} {i k : Nat} (h : adjB l k i = false) : nxK l ws i (k + 1) = nxK l ws i k := by
  show (if adjB l k i = true then _ else _) = _
  rw [if_neg (by rw [h]; simp)]

theorem nxK_wv_le (l : List RwD) (i k : Nat) (h : k ≤ i) : nxK l (wvN l i) i k ≤ k := by
  induction k with
  | zero => exact Nat.le_refl _
  | succ k ih =>
    have h1 := ih (by omega)
    have h2 := wv_le l k
    cases ha : adjB l k i with
    | true => rw [nxK_true ha, wvN_getD l (by omega)]; omega
    | false => rw [nxK_false ha]; omega

set_option maxRecDepth 100000 in
set_option maxHeartbeats 2000000 in
theorem refOf_any (l : List TxA) (ao : Option Addr) (cp : Nat) (w : World) (hl : RowAt txA w ao l) (hf : Few l) :
    Calls Tryd.prog 22 #[.slice ao l.length cp] w fun e w' => GotOfR w (rwL l) e w' := by
  have hl1 := hf.1
  have hlen : Hid _ := rwL_length l
  obtain ⟨i0, z0, hi0, hz0, hs0, hb0, hzs0⟩ := intInfoA
  have hQ0 : KQ natK 3 w w.heap.size (.slice none 0 0) (wvN (rwL l) 0) := KQ.empty natK 3 w w.heap.size
  go_enter Tryd.func22, Tryd.ntmps22
  go_wp2_with fail
  go_loopw [3, 4] (fun v3 v4 wr => ∃ (i : Nat) (pa : Option Addr) (pc : Nat), i ≤ l.length ∧ v3 = .slice pa i pc ∧ v4 = .int .i64 (i : Int) ∧ KQ natK 3 wr w.heap.size (.slice pa i pc) (wvN (rwL l) i) ∧ Below w.heap.size w wr) (fun _ v _ => l.length - (intOf v).toNat)
  case atStart => exact ⟨0, none, 0, Nat.zero_le _, rfl, rfl, hQ0, Below.refl _ _⟩
  case round =>
    obtain ⟨i, pa, pc, hi, rfl, rfl, hq, hb⟩ := hrel
    clear hQ0
    by_cases hil : i < l.length
    · have g1 : (i : Int) < (l.length : Int) := by omega
      obtain ⟨x, hx⟩ : ∃ p, l[i]? = some p := ⟨_, List.getElem?_eq_getElem hil⟩
      have hx' : Hid _ := hx
      go_wp2_with fail
      go_loopw [6, 5] (fun v6 v5 W2 => ∃ (k n : Nat), k ≤ i ∧ v6 = .int .i64 (k : Int) ∧ v5 = .int .i64 (n : Int) ∧ Hid (n = nxK (rwL l) (wvN (rwL l) i) i k) ∧ n ≤ k ∧ KQ natK 3 W2 w.heap.size (.slice pa i pc) (wvN (rwL l) i) ∧ Below w.heap.size w W2) (fun v _ _ => i - (intOf v).toNat)
      case atStart => exact ⟨0, 0, Nat.zero_le _, rfl, rfl, rfl, Nat.le_refl _, hq, hb⟩
      case round =>
        obtain ⟨k, n, hk, rfl, rfl, hn, hnk, hq2, hb2⟩ := hrel
        by_cases hki : k < i
        · have g2 : (k : Int) < (i : Int) := by omega
          have hkl : k < l.length := by omega
          have g3 : (k : Int) < (l.length : Int) := by omega
          obtain ⟨y, hy⟩ : ∃ p, l[k]? = some p := ⟨_, List.getElem?_eq_getElem hkl⟩
          obtain ⟨hxr, hxw⟩ := hf.2 x (List.mem_of_getElem? hx'.out)
          obtain ⟨hyr, hyw⟩ := hf.2 y (List.mem_of_getElem? hy)
          have hbd : Below wr.heap.size wr wr.drew := below_drewN (Below.refl _ _) 1
          have hbw := hb2.trans (hbd.mono hb2.size)
          obtain ⟨b, off, rfl, hbl, x0, x1, x2, x3, x4, x5, x6, x7, x8, hA⟩ := (hl.below hbw).tx hx'.out
          obtain ⟨b', off', e', hbl', y0, y1, y2, y3, y4, y5, y6, y7, y8, hB⟩ := (hl.below hbw).tx hy
          simp only [Option.some.injEq, Addr.mk.injEq, and_true] at e'
          obtain ⟨rfl, rfl⟩ := e'
          have cC := refClash_any y x wr.drew hB hA (by omega) (by omega) (by omega) (by omega)
          rw [← adjB_some (rwL_get hy) (rwL_get hx'.out)] at cC
          have hqd := hq2.below hbd
          have hgk : (wvN (rwL l) i)[k]? = some (wv (rwL l) k) := wvN_get _ hki
          have hgd := wvN_getD (rwL l) hki
          have hvk := wv_le (rwL l) k
          obtain ⟨g, og, rfl, hgB, hgw, -, -⟩ := hqd.spot (by rw [wvN_length]; omega)
          clear hA hB hy hbl hbl' hx hq hb
          obtain ⟨kind', frm', dst', amt', non', key', val', rs', ws', ra', rc', wa', wc'⟩ := y
          have hk8 : Hid _ := hx'
          clear hx'
          obtain ⟨kind, frm, dst, amt, non, key, val, rs, ws, ra, rc, wa, wc⟩ := x
          unfold TxA.v at cC
          cases hadj : adjB (rwL l) k i with
          | true =>
            rw [hadj] at cC
            have hnx : Hid (max n (wv (rwL l) k + 1) = nxK (rwL l) (wvN (rwL l) i) i (k + 1)) := by unfold Hid; rw [nxK_true hadj, ← hn.out, hgd]
            have hgk' : Hid _ := hgk
            generalize wv (rwL l) k = v at *
            clear hadj hn hgd hgk
            go_wp2_with fail
            rename_i K hK
            replace hK : Hid _ := hK
            go_region_law (go_simp; go_at_call 40; refine cC.mono ?_; rintro _ w5 ⟨rfl, hb5⟩)
            all_goals
              refine hK.out _ _ ?_
              have hq5 := hqd.below hb5
              have hb6 := hbw.trans (hb5.mono hbw.size)
              have cv := (hq5.natSet hgk'.out).1
              clear cC hqd x0 x1 x2 x3 x4 x5 x6 x7 x8 y0 y1 y2 y3 y4 y5 y6 y7 y8 hb5
              go_wp2
              go_roundw
              case rel => exact ⟨k + 1, max n (v + 1), by omega, by go_num, maxR _ _, hnx, by omega, hq5, hb6⟩
              case measure => simp [intOf]; omega
          | false =>
            rw [hadj] at cC
            have hnx : Hid (n = nxK (rwL l) (wvN (rwL l) i) i (k + 1)) := by unfold Hid; rw [nxK_false hadj, ← hn.out]
            clear hadj hn hgd hgk
            go_wp2_with fail
            rename_i K hK
            replace hK : Hid _ := hK
            go_region_law (go_simp; go_at_call 40; refine cC.mono ?_; rintro _ w5 ⟨rfl, hb5⟩)
            all_goals
              refine hK.out _ _ ?_
              have hq5 := hqd.below hb5
              have hb6 := hbw.trans (hb5.mono hbw.size)
              clear cC hqd x0 x1 x2 x3 x4 x5 x6 x7 x8 y0 y1 y2 y3 y4 y5 y6 y7 y8 hb5
              go_wp2
              go_roundw
              case rel => exact ⟨k + 1, n, by omega, by go_num, rfl, hnx, by omega, hq5, hb6⟩
              case measure => simp [intOf]; omega
        · have g2 : ¬ (k : Int) < (i : Int) := by omega
          have hki2 : k = i := by omega
          have hnv : Hid (wvN (rwL l) (i + 1) = wvN (rwL l) i ++ [n]) := by
            unfold Hid
            rw [hn.out, hki2]
            rfl
          have hnew := belowNew wr (.cells #[.int .i64 ((n : Nat) : Int)] 3)
          have hNW := new_natR wr n
          have hq6 := hq2.below hnew
          have hb7 := hb2.trans (hnew.mono hb2.size)
          have hbs := hb7.size
          have hwl : Hid ((wvN (rwL l) i).length = i) := wvN_length _ _
          obtain ⟨PL, hPL⟩ : ∃ z, z = wvN (rwL l) i := ⟨_, rfl⟩
          rw [← hPL] at hq6 hnv hwl
          replace hPL : Hid _ := hPL
          have m1 : PL.length + 1 ≤ maxLen := by rw [hwl.out]; unfold maxLen; omega
          have m2 : (PL.length + 1) * 8 ≤ 140737488355328 := by rw [hwl.out]; omega
          have hq7 : KQ natK 3 (wr.alloc (.cells #[.int .i64 ((n : Nat) : Int)] 3)) w.heap.size (.slice pa PL.length pc) PL := by rw [hwl.out]; exact hq6
          clear hki2 hn hq hq2 hq6 hx
          go_wp2_with (at_builtin; refine wpList_pushN (K := natK) rfl _ _ 25 rfl w.heap.size 3 i0 _ 8 Tryd.underlying25 hi0 hz0 hs0 hb0 hzs0 _ PL (by rw [hwl.out]; rfl) hq7 n trivial (fun _ h => h.elim) ⟨wr.heap.size, 0, none⟩ 1 rfl hNW m1 m2 hbs ?_; intro ao3 cap3 w6 hQ6 hk6 hf6)
          have hb8 := hb7.trans (hk6.below hb7.size (fun b e => (hq7.lt b e).1))
          have e1 : Hid ((PL ++ [n]).length = i + 1) := by unfold Hid; rw [List.length_append, hwl.out]; rfl
          have hQ7 : KQ natK 3 w6 w.heap.size (.slice ao3 (i + 1) cap3) (wvN (rwL l) (i + 1)) := by
            rw [hnv.out, ← e1.out]
            exact hQ6
          clear hq7 hb7 hk6 hf6 hQ6 hNW hnv
          go_roundw
          case rel => exact ⟨i + 1, ao3, cap3, by omega, by first | rfl | (rw [← e1.out]; simp), by go_num, hQ7, hb8⟩
          case measure => simp [intOf]; omega
    · have g1 : ¬ (i : Int) < (l.length : Int) := by omega
      have hir : i = l.length := by omega
      have hfin : GotOfR w (rwL l) (.returned (.slice pa i pc)) wr := by
        refine ⟨pa, pc, by rw [hlen.out, hir], ?_, hb⟩
        rw [hlen.out, ← hir]
        exact hq
      clear hir hq
      go_wp2
      go_ret
      exact hfin
end Go.Proofs.YtajpfkenhchafaaDoor

/- Layer 21's mathematics: the first wave behind those that are in, key by key. -/
namespace Go.Proofs.YtajpfkenhchafaaDoor
open Go.RowKit
set_option linter.unusedVariables false

/-- Those that are in, with their waves, the last one first. -/
abbrev InW := List (RwD × Nat)

/-- The first wave in which a key may be read. -/
def rdF : InW → ByteArray → Nat
  | [], _ => 0
  | (u, v) :: L, k => if inK u.ws k = true then max (rdF L k) (v + 1) else rdF L k

/-- The first wave in which it may be written. -/
def wrF : InW → ByteArray → Nat
  | [], _ => 0
  | (u, v) :: L, k => if (inK u.ws k || inK u.rs k) = true then max (wrF L k) (v + 1) else wrF L k

/-- The first wave of a transaction. -/
def fsF : InW → RwD → Nat
  | [], _ => 0
  | (u, v) :: L, t => if clashB u t = true then max (fsF L t) (v + 1) else fsF L t

theorem rdF_le {k : ByteArray} {n : Nat} : ∀ {L : InW}, rdF L k ≤ n ↔ ∀ p ∈ L, k ∈ p.1.ws → p.2 + 1 ≤ n
  | [] => by simp [rdF]
  | (u, v) :: L => by
    unfold rdF
    rw [List.forall_mem_cons, ← rdF_le]
    by_cases h : inK u.ws k = true
    · rw [if_pos h, Nat.max_le]
      have := inK_iff.1 h
      constructor
      · exact fun q => ⟨fun _ => q.2, q.1⟩
      · exact fun q => ⟨q.2, q.1 this⟩
    · rw [if_neg h]
      have : k ∉ u.ws := fun e => h (inK_iff.2 e)
      exact ⟨fun q => ⟨fun e => absurd e this, q⟩, fun q => q.2⟩

theorem wrF_le {k : ByteArray} {n : Nat} : ∀ {L : InW}, wrF L k ≤ n ↔ ∀ p ∈ L, (k ∈ p.1.ws ∨ k ∈ p.1.rs) → p.2 + 1 ≤ n
  | [] => by simp [wrF]
  | (u, v) :: L => by
    unfold wrF
    rw [List.forall_mem_cons, ← wrF_le]
    by_cases h : (inK u.ws k || inK u.rs k) = true
    · rw [if_pos h, Nat.max_le]
      have : k ∈ u.ws ∨ k ∈ u.rs := by rw [Bool.or_eq_true, inK_iff, inK_iff] at h; exact h
      constructor
      · exact fun q => ⟨fun _ => q.2, q.1⟩
      · exact fun q => ⟨q.2, q.1 this⟩
    · rw [if_neg h]
      have : ¬ (k ∈ u.ws ∨ k ∈ u.rs) := fun e => h (by rw [Bool.or_eq_true, inK_iff, inK_iff]; exact e)
      exact ⟨fun q => ⟨fun e => absurd e this, q⟩, fun q => q.2⟩

theorem fsF_le {t : RwD} {n : Nat} : ∀ {L : InW}, fsF L t ≤ n ↔ ∀ p ∈ L, clashB p.1 t = true → p.2 + 1 ≤ n
  | [] => by simp [fsF]
  | (u, v) :: L => by
    unfold fsF
    rw [List.forall_mem_cons, ← fsF_le]
    by_cases h : clashB u t = true
    · rw [if_pos h, Nat.max_le]
      constructor
      · exact fun q => ⟨fun _ => q.2, q.1⟩
      · exact fun q => ⟨q.2, q.1 h⟩
    · rw [if_neg h]
      exact ⟨fun q => ⟨fun e => absurd e h, q⟩, fun q => q.2⟩

theorem rd_wr (L : InW) (k : ByteArray) : rdF L k ≤ wrF L k :=
  rdF_le.2 (fun p hp h => wrF_le.1 (Nat.le_refl _) p hp (Or.inl h))

/-- What first reckons: over the keys that are read, then over those that are written. -/
def foldM (f : ByteArray → Nat) : List ByteArray → Nat → Nat
  | [], a => a
  | k :: r, a => foldM f r (max a (f k))

theorem foldM_append (f : ByteArray → Nat) : ∀ (l m : List ByteArray) (a : Nat), foldM f (l ++ m) a = foldM f m (foldM f l a)
  | [], _, _ => rfl
  | k :: l, m, a => foldM_append f l m _

theorem foldM_step {f : ByteArray → Nat} {l : List ByteArray} {i a : Nat} {k : ByteArray} (h : l[i]? = some k) : foldM f (l.take (i + 1)) a = max (foldM f (l.take i) a) (f k) := by
  rw [List.take_add_one, h, foldM_append]
  rfl

theorem foldM_le {f : ByteArray → Nat} {n : Nat} : ∀ {l : List ByteArray} {a : Nat}, foldM f l a ≤ n ↔ a ≤ n ∧ ∀ k ∈ l, f k ≤ n
  | [], a => by simp [foldM]
  | k :: r, a => by
    unfold foldM
    rw [foldM_le, List.forall_mem_cons, Nat.max_le, and_assoc]

def firstN (g : ByteArray → Nat × Nat) (t : RwD) : Nat := foldM (fun k => (g k).2) t.ws (foldM (fun k => (g k).1) t.rs 0)

/-- What put does with each key. -/
def putR (g : ByteArray → Nat × Nat) (ks : List ByteArray) (n : Nat) (k : ByteArray) : Nat × Nat := if inK ks k = true then ((g k).1, max (g k).2 n) else g k
def putW (g : ByteArray → Nat × Nat) (ks : List ByteArray) (n : Nat) (k : ByteArray) : Nat × Nat := if inK ks k = true then (n, n) else g k
def putG (g : ByteArray → Nat × Nat) (t : RwD) (v : Nat) : ByteArray → Nat × Nat := putW (putR g t.rs (v + 1)) t.ws (v + 1)

def turnF (L : InW) (k : ByteArray) : Nat × Nat := (rdF L k, wrF L k)

theorem first_eq (L : InW) (t : RwD) : firstN (turnF L) t = fsF L t := by
  have key : ∀ n, firstN (turnF L) t ≤ n ↔ fsF L t ≤ n := fun n => by
    unfold firstN
    rw [foldM_le, foldM_le, fsF_le]
    constructor
    · rintro ⟨⟨_, h1⟩, h2⟩ p hp hc
      rcases clashB_iff.1 hc with ⟨k, q1, q2 | q2⟩ | ⟨k, q1, q2⟩
      · exact wrF_le.1 (h2 k q2) p hp (Or.inl q1)
      · exact rdF_le.1 (h1 k q2) p hp q1
      · exact wrF_le.1 (h2 k q1) p hp (Or.inr q2)
    · intro h
      refine ⟨⟨Nat.zero_le _, fun k hk => rdF_le.2 (fun p hp q => h p hp (clashB_iff.2 (Or.inl ⟨k, q, Or.inr hk⟩)))⟩, fun k hk => wrF_le.2 (fun p hp q => h p hp ?_)⟩
      rcases q with q | q
      · exact clashB_iff.2 (Or.inl ⟨k, q, Or.inl hk⟩)
      · exact clashB_iff.2 (Or.inr ⟨k, hk, q⟩)
  exact Nat.le_antisymm ((key _).2 (Nat.le_refl _)) ((key _).1 (Nat.le_refl _))

theorem rdF_cons (t : RwD) (v : Nat) (L : InW) (k : ByteArray) : rdF ((t, v) :: L) k = if inK t.ws k = true then max (rdF L k) (v + 1) else rdF L k := rfl
theorem wrF_cons (t : RwD) (v : Nat) (L : InW) (k : ByteArray) : wrF ((t, v) :: L) k = if (inK t.ws k || inK t.rs k) = true then max (wrF L k) (v + 1) else wrF L k := rfl

theorem put_eq {L : InW} {t : RwD} {v : Nat} (h : fsF L t ≤ v) : ∀ k, turnF ((t, v) :: L) k = putG (turnF L) t v k := by
  intro k
  rw [← first_eq] at h
  unfold firstN at h
  rw [foldM_le] at h
  obtain ⟨_, h2⟩ := h
  unfold putG putW putR turnF
  rw [rdF_cons, wrF_cons]
  by_cases hw : inK t.ws k = true
  · have h3 : wrF L k ≤ v := h2 k (inK_iff.1 hw)
    have h4 := rd_wr L k
    rw [if_pos hw, if_pos hw, if_pos (by rw [hw]; rfl), Nat.max_eq_right (by omega), Nat.max_eq_right (by omega)]
  · rw [if_neg hw, if_neg hw]
    by_cases hr : inK t.rs k = true
    · rw [if_pos hr, if_pos (by rw [hr, Bool.or_true])]
    · rw [if_neg hr, if_neg (by rw [Bool.or_eq_true]; exact fun e => e.elim hw hr)]

theorem turn_nil (k : ByteArray) : turnF [] k = (0, 0) := rfl

theorem putR_nil (g : ByteArray → Nat × Nat) (n : Nat) (k : ByteArray) : putR g [] n k = g k := rfl
theorem putW_nil (g : ByteArray → Nat × Nat) (n : Nat) (k : ByteArray) : putW g [] n k = g k := rfl

theorem inK_next {ks : List ByteArray} {j : Nat} {y : ByteArray} (hy : ks[j]? = some y) (k : ByteArray) : inK (ks.take (j + 1)) k = (inK (ks.take j) k || decide (y = k)) := by
  rw [List.take_add_one, hy]
  unfold inK
  rw [List.any_append]
  simp

theorem putR_next {g : ByteArray → Nat × Nat} {ks : List ByteArray} {n j : Nat} {y : ByteArray} (hy : ks[j]? = some y) (k : ByteArray) :
    putR g (ks.take (j + 1)) n k = if k = y then ((putR g (ks.take j) n y).1, max (putR g (ks.take j) n y).2 n) else putR g (ks.take j) n k := by
  unfold putR
  rw [inK_next hy]
  by_cases e : k = y
  · subst e
    rw [if_pos rfl, if_pos (by simp)]
    split
    · simp
    · rfl
  · rw [if_neg e, decide_eq_false (fun e' => e e'.symm), Bool.or_false]

theorem putW_next {g : ByteArray → Nat × Nat} {ks : List ByteArray} {n j : Nat} {y : ByteArray} (hy : ks[j]? = some y) (k : ByteArray) :
    putW g (ks.take (j + 1)) n k = if k = y then (n, n) else putW g (ks.take j) n k := by
  unfold putW
  rw [inK_next hy]
  by_cases e : k = y
  · subst e
    rw [if_pos rfl, if_pos (by simp)]
  · rw [if_neg e, decide_eq_false (fun e' => e e'.symm), Bool.or_false]

/-- The first m of a list, with waves. -/
def putL (l : List RwD) (vs : Nat → Nat) : Nat → InW
  | 0 => []
  | m + 1 => ((l[m]?).getD ⟨[], []⟩, vs m) :: putL l vs m

theorem putL_mem {l : List RwD} {vs : Nat → Nat} : ∀ {m : Nat} {p : RwD × Nat}, p ∈ putL l vs m ↔ ∃ k, k < m ∧ p = ((l[k]?).getD ⟨[], []⟩, vs k)
  | 0, p => by simp [putL]
  | m + 1, p => by
    unfold putL
    rw [List.mem_cons, putL_mem]
    constructor
    · rintro (rfl | ⟨k, h1, h2⟩)
      · exact ⟨m, by omega, rfl⟩
      · exact ⟨k, by omega, h2⟩
    · rintro ⟨k, h1, h2⟩
      by_cases e : k = m
      · subst e; exact Or.inl h2
      · exact Or.inr ⟨k, by omega, h2⟩

theorem putL_ext {l : List RwD} {vs us : Nat → Nat} : ∀ {m : Nat}, (∀ k, k < m → vs k = us k) → putL l vs m = putL l us m
  | 0, _ => rfl
  | m + 1, h => by
    unfold putL
    rw [h m (by omega), putL_ext (fun k hk => h k (by omega))]

/-- The first wave behind the first m, by their pairs. -/
theorem fsF_putL {l : List RwD} {vs : Nat → Nat} {t : RwD} {i m n : Nat} (ht : l[i]? = some t) (hm : m ≤ l.length) : fsF (putL l vs m) t ≤ n ↔ ∀ k, k < m → adjB l k i = true → vs k + 1 ≤ n := by
  have key : ∀ k, k < m → adjB l k i = clashB ((l[k]?).getD ⟨[], []⟩) t := fun k hk => by
    have : k < l.length := by omega
    rw [adjB_some (List.getElem?_eq_getElem this) ht, List.getElem?_eq_getElem this]
    rfl
  rw [fsF_le]
  constructor
  · intro h k hk ha
    rw [key k hk] at ha
    exact h _ (putL_mem.2 ⟨k, hk, rfl⟩) ha
  · rintro h p hp hc
    obtain ⟨k, hk, rfl⟩ := putL_mem.1 hp
    exact h k hk (by rw [key k hk]; exact hc)

/-- Of's waves. -/
theorem first_wave {l : List RwD} {t : RwD} {i : Nat} (ht : l[i]? = some t) : fsF (putL l (wv l) i) t = wv l i := by
  have hi : i < l.length := (List.getElem?_eq_some_iff.1 ht).1
  refine Nat.le_antisymm ((fsF_putL ht (by omega)).2 (fun k hk ha => ?_)) ?_
  · have := wv_lt hk ha; omega
  · rcases Nat.eq_zero_or_pos (wv l i) with h | h
    · omega
    · obtain ⟨k, h1, h2, h3⟩ := wv_ex h
      have := (fsF_putL (vs := wv l) (n := fsF (putL l (wv l) i) t) ht (by omega)).1 (Nat.le_refl _) k h1 h2
      omega
end Go.Proofs.YtajpfkenhchafaaDoor

/- The map of keys' turns, and what (waves.turns).first and .put do. -/
namespace Go.Proofs.YtajpfkenhchafaaDoor
open Go Go.RowKit
set_option linter.unusedVariables false

def turnV (p : Nat × Nat) : Value := .agg #[.int .i64 (p.1 : Int), .int .i64 (p.2 : Int)]

set_option maxRecDepth 100000 in
theorem zeroTurn (w : World) : (zeroValue 105).run Tryd.prog w = .ok (.agg #[.int .i64 0, .int .i64 0]) w := by rfl

/-- Block b is a map of turns: what it tells of each key. -/
def TurnAt (w : World) (b : Nat) (g : ByteArray → Nat × Nat) (N : Nat) : Prop :=
  ∃ f n, SMap w b f n ∧ n ≤ N ∧ ∀ k, (f k).getD (turnV (0, 0)) = turnV (g k)

theorem TurnAt.lt {w : World} {b : Nat} {g : ByteArray → Nat × Nat} {N : Nat} (h : TurnAt w b g N) : b < w.heap.size := by
  obtain ⟨f, n, h1, _⟩ := h
  exact h1.lt

theorem TurnAt.kept {S : Nat → Prop} {w w' : World} {b : Nat} {g : ByteArray → Nat × Nat} {N : Nat} (h : TurnAt w b g N) (hk : Kept S w w') (hn : ¬ S b) : TurnAt w' b g N := by
  obtain ⟨f, n, h1, h2⟩ := h
  exact ⟨f, n, h1.kept hk hn, h2⟩

theorem TurnAt.below {w w' : World} {b : Nat} {g : ByteArray → Nat × Nat} {N : Nat} (h : TurnAt w b g N) (hb : Below w.heap.size w w') : TurnAt w' b g N := by
  obtain ⟨f, n, h1, h2⟩ := h
  exact ⟨f, n, h1.below hb, h2⟩

theorem TurnAt.congr {w : World} {b : Nat} {g g' : ByteArray → Nat × Nat} {N : Nat} (h : TurnAt w b g N) (e : ∀ k, g' k = g k) : TurnAt w b g' N := by
  have : g' = g := funext e
  rw [this]
  exact h

theorem TurnAt.mono {w : World} {b : Nat} {g : ByteArray → Nat × Nat} {N M : Nat} (h : TurnAt w b g N) (e : N ≤ M) : TurnAt w b g M := by
  obtain ⟨f, n, h1, h2, h3⟩ := h
  exact ⟨f, n, h1, Nat.le_trans h2 e, h3⟩

theorem TurnAt.new (w : World) : TurnAt (w.alloc (.map #[] 0)) w.heap.size (turnF []) 0 :=
  ⟨_, 0, SMap.new w, Nat.le_refl _, fun k => rfl⟩

theorem TurnAt.put {w' : World} {b : Nat} {g g' : ByteArray → Nat × Nat} {N : Nat} {f : ByteArray → Option Value} {n : Nat} {y : ByteArray} {p : Nat × Nat} (h2 : n ≤ N) (h3 : ∀ k, (f k).getD (turnV (0, 0)) = turnV (g k))
    (hM : SMap w' b (putF f y (turnV p)) (putN f y n)) (e : ∀ k, g' k = if k = y then p else g k) : TurnAt w' b g' (N + 1) := by
  refine ⟨_, _, hM, Nat.le_trans (putN_le f y n) (by omega), fun k => ?_⟩
  rw [e k]
  unfold putF
  by_cases hk : k = y
  · rw [if_pos hk, if_pos hk]; rfl
  · rw [if_neg hk, if_neg hk]; exact h3 k

theorem maxV (m p : Nat) : Value.int .i64 (if m < p then (p : Int) else (m : Int)) = Value.int .i64 ((max m p : Nat) : Int) := by
  split <;> congr 1 <;> omega

set_option maxRecDepth 100000 in
set_option maxHeartbeats 1000000 in
theorem first_any (x : TxA) (w : World) (hA : TxA.At w x) (b : Nat) (g : ByteArray → Nat × Nat) (N : Nat) (hT : TurnAt w b g N) (lr : x.rs.length ≤ 1000000) (lw : x.ws.length ≤ 1000000) :
    Calls Tryd.prog 44 #[.map (some b), x.v] w fun e w' => e = .returned (.int .i64 (firstN g x.rw : Nat)) ∧ Below w.heap.size w w' := by
  have hX := Arr.new w 50 x.c
  have hB := belowNew w (.cells x.c.toArray 50)
  have hfin : Hid (firstN g x.rw = foldM (fun k => (g k).2) x.ws (foldM (fun k => (g k).1) x.rs 0)) := rfl
  obtain ⟨hrd, hwr, hnr, hnw, hzr, hzw⟩ := hA
  generalize hres : firstN g x.rw = res at *
  clear hres
  obtain ⟨kind, frm, dst, amt, non, key, val, rs, ws, ra, rc, wa, wc⟩ := x
  replace lr : rs.length ≤ 1000000 := lr
  replace lw : ws.length ≤ 1000000 := lw
  replace hrd : RowAt textK w ra rs := hrd
  replace hwr : RowAt textK w wa ws := hwr
  replace hzr : ∀ s ∈ rs, s.size ≤ maxLen := hzr
  replace hzw : ∀ s ∈ ws, s.size ≤ maxLen := hzw
  replace hfin : Hid (res = foldM (fun k => (g k).2) ws (foldM (fun k => (g k).1) rs 0)) := hfin
  have k7 := hX.cell (i := 7) rfl
  have k8 := hX.cell (i := 8) rfl
  clear hX hnr hnw
  unfold TxA.v
  go_enter Tryd.func44, Tryd.ntmps44
  go_wp2_with fail
  go_loopw [13, 5] (fun v13 v5 wr => ∃ i m : Nat, i ≤ rs.length ∧ v13 = .int .i64 (i : Int) ∧ v5 = .int .i64 (m : Int) ∧ Hid (m = foldM (fun k => (g k).1) (rs.take i) 0) ∧ wr.cell? ⟨w.heap.size, 8, none⟩ = some (.slice wa ws.length wc) ∧ w.heap.size < wr.heap.size ∧ Below w.heap.size w wr) (fun v _ _ => rs.length - (intOf v).toNat)
  case atStart => exact ⟨0, 0, Nat.zero_le _, rfl, rfl, rfl, k8, by rw [alloc_size]; omega, hB⟩
  case round =>
    obtain ⟨i, m, hi, rfl, rfl, hm, hk8, hlt, hb⟩ := hrel
    clear hB k7 k8
    by_cases hil : i < rs.length
    · have g1 : (i : Int) < (rs.length : Int) := by omega
      obtain ⟨y, hy⟩ : ∃ p, rs[i]? = some p := ⟨_, List.getElem?_eq_getElem hil⟩
      obtain ⟨b2, off, rfl, hbl, hcell⟩ := (hrd.below hb).txt hy
      have hid := hzr y (List.mem_of_getElem? hy)
      obtain ⟨f, n, hS, hn, hg⟩ := hT.below hb
      have hgy : (f y).getD (.agg #[.int .i64 0, .int .i64 0]) = .agg #[.int .i64 ((g y).1 : Int), .int .i64 ((g y).2 : Int)] := hg y
      have hnx : Hid (max m (g y).1 = foldM (fun k => (g k).1) (rs.take (i + 1)) 0) := by
        unfold Hid; rw [foldM_step hy, ← hm.out]
      generalize (g y).1 = p1 at *
      generalize (g y).2 = p2 at *
      clear hm
      go_wp2_with (at_lookup; refine smap_look (by rfl) _ _ 90 rfl 105 Tryd.underlying90 _ (zeroTurn _) b _ _ rfl hS y hid rfl ?_; rw [hgy])
      rename_i K hK
      refine hK _ _ ?_
      clear hK
      go_wp2
      go_roundw
      case rel => exact ⟨i + 1, max m p1, by omega, by go_num, maxV _ _, hnx, hk8, hlt, hb⟩
      case measure => simp [intOf]; omega
    · have g1 : ¬ (i : Int) < (rs.length : Int) := by omega
      have hir : i = rs.length := by omega
      have hm1 : Hid (m = foldM (fun k => (g k).1) rs 0) := by
        have := hm.out
        rw [hir, List.take_length] at this
        exact this
      clear hir hm hil hi hrd
      go_wp2_with fail
      go_loopw [27, 5] (fun v27 v5 wr => ∃ i n : Nat, i ≤ ws.length ∧ v27 = .int .i64 (i : Int) ∧ v5 = .int .i64 (n : Int) ∧ Hid (n = foldM (fun k => (g k).2) (ws.take i) m) ∧ Below w.heap.size w wr) (fun v _ _ => ws.length - (intOf v).toNat)
      case atStart => exact ⟨0, m, Nat.zero_le _, rfl, rfl, rfl, hb⟩
      case round =>
        obtain ⟨i, n, hi, rfl, rfl, hn, hb⟩ := hrel
        by_cases hil : i < ws.length
        · have g1 : (i : Int) < (ws.length : Int) := by omega
          obtain ⟨y, hy⟩ : ∃ p, ws[i]? = some p := ⟨_, List.getElem?_eq_getElem hil⟩
          obtain ⟨b2, off, rfl, hbl, hcell⟩ := (hwr.below hb).txt hy
          have hid := hzw y (List.mem_of_getElem? hy)
          obtain ⟨f, n2, hS, hn2, hg⟩ := hT.below hb
          have hgy : (f y).getD (.agg #[.int .i64 0, .int .i64 0]) = .agg #[.int .i64 ((g y).1 : Int), .int .i64 ((g y).2 : Int)] := hg y
          have hnx : Hid (max n (g y).2 = foldM (fun k => (g k).2) (ws.take (i + 1)) m) := by
            unfold Hid; rw [foldM_step hy, ← hn.out]
          generalize (g y).1 = p1 at *
          generalize (g y).2 = p2 at *
          clear hn
          go_wp2_with (at_lookup; refine smap_look (by rfl) _ _ 90 rfl 105 Tryd.underlying90 _ (zeroTurn _) b _ _ rfl hS y hid rfl ?_; rw [hgy])
          rename_i K hK
          refine hK _ _ ?_
          clear hK
          go_wp2
          go_roundw
          case rel => exact ⟨i + 1, max n p2, by omega, by go_num, maxV _ _, hnx, hb⟩
          case measure => simp [intOf]; omega
        · have g1 : ¬ (i : Int) < (ws.length : Int) := by omega
          have hir : i = ws.length := by omega
          have hr : n = res := by
            have := hn.out
            rw [hir, List.take_length, hm1.out] at this
            rw [this, hfin.out]
          clear hir hn hil hi hfin
          subst hr
          go_wp2
          go_ret
          exact ⟨rfl, hb⟩

theorem turnMax (a m v : Nat) : Value.agg #[.int .i64 (a : Int), .int .i64 (if (m : Int) < (v : Int) + 1 then (v : Int) + 1 else (m : Int))] = turnV (a, max m (v + 1)) := by
  have e : (if (m : Int) < (v : Int) + 1 then (v : Int) + 1 else (m : Int)) = ((max m (v + 1) : Nat) : Int) := by split <;> omega
  rw [e]
  rfl

set_option maxRecDepth 100000 in
set_option maxHeartbeats 1000000 in
theorem put_any (x : TxA) (w : World) (hA : TxA.At w x) (hfo : ∀ b, txA.foot x b → b < w.heap.size) (b : Nat) (hxb : ¬ txA.foot x b) (g : ByteArray → Nat × Nat) (N : Nat) (hT : TurnAt w b g N) (hN : N ≤ 1000000000) (v : Nat) (hv : v ≤ 1000000) (lr : x.rs.length ≤ 1000000) (lw : x.ws.length ≤ 1000000) :
    Calls Tryd.prog 45 #[.map (some b), x.v, .int .i64 (v : Int)] w fun e w' => e = .returned (.tuple #[]) ∧ TurnAt w' b (putG g x.rw v) (N + x.rs.length + x.ws.length) ∧ Kept (fun k => k = b) w w' := by
  have hX := Arr.new w 50 x.c
  have hB := belowNew w (.cells x.c.toArray 50)
  have hfr : ∀ b2, rowFoot textK x.ra x.rs b2 → b2 ≠ b := fun b2 h e => hxb (Or.inl (e ▸ h))
  have hfw : ∀ b2, rowFoot textK x.wa x.ws b2 → b2 ≠ b := fun b2 h e => hxb (Or.inr (e ▸ h))
  have hbw := hT.lt
  have hG : Hid (∀ w', TurnAt w' b (putW (putR g x.rs (v + 1)) x.ws (v + 1)) (N + x.rs.length + x.ws.length) → TurnAt w' b (putG g x.rw v) (N + x.rs.length + x.ws.length)) := fun w' h => h
  have hT1 := hT.below hB
  have hK1 : Kept (fun k => k = b) w _ := Kept.of_below hB
  have hbx : b ≠ w.heap.size := by omega
  obtain ⟨hrd, hwr, hnr, hnw, hzr, hzw⟩ := hA
  generalize hGG : putG g x.rw v = GG at *
  clear hGG
  obtain ⟨kind, frm, dst, amt, non, key, val, rs, ws, ra, rc, wa, wc⟩ := x
  replace lr : rs.length ≤ 1000000 := lr
  replace lw : ws.length ≤ 1000000 := lw
  replace hrd : RowAt textK w ra rs := hrd
  replace hwr : RowAt textK w wa ws := hwr
  replace hzr : ∀ s ∈ rs, s.size ≤ maxLen := hzr
  replace hzw : ∀ s ∈ ws, s.size ≤ maxLen := hzw
  replace hfr : ∀ b2, rowFoot textK ra rs b2 → b2 ≠ b := hfr
  replace hfw : ∀ b2, rowFoot textK wa ws b2 → b2 ≠ b := hfw
  replace hG : Hid (∀ w', TurnAt w' b (putW (putR g rs (v + 1)) ws (v + 1)) (N + rs.length + ws.length) → TurnAt w' b GG (N + rs.length + ws.length)) := hG
  have k7 := hX.cell (i := 7) rfl
  have k8 := hX.cell (i := 8) rfl
  have hsz : w.heap.size < (w.alloc (.cells #[.int .i64 kind, .string frm, .string dst, .int .u64 amt, .int .u64 non, .string key, .string val, .slice ra rs.length rc, .slice wa ws.length wc] 50)).heap.size := by rw [alloc_size]; omega
  clear hX hnr hnw hT hfo hxb hB
  unfold TxA.v
  go_enter Tryd.func45, Tryd.ntmps45
  go_wp2_with fail
  go_loopw [17] (fun v17 wr => ∃ i : Nat, i ≤ rs.length ∧ v17 = .int .i64 (i : Int) ∧ TurnAt wr b (putR g (rs.take i) (v + 1)) (N + i) ∧ wr.cell? ⟨w.heap.size, 8, none⟩ = some (.slice wa ws.length wc) ∧ w.heap.size < wr.heap.size ∧ Kept (fun k => k = b) w wr) (fun v _ => rs.length - (intOf v).toNat)
  case atStart => exact ⟨0, Nat.zero_le _, rfl, hT1.congr (fun k => rfl), k8, hsz, hK1⟩
  case round =>
    obtain ⟨i, hi, rfl, hm, hk8, hlt, hk⟩ := hrel
    clear hT1 hK1 k7 k8 hsz
    by_cases hil : i < rs.length
    · have g1 : (i : Int) < (rs.length : Int) := by omega
      obtain ⟨y, hy⟩ : ∃ p, rs[i]? = some p := ⟨_, List.getElem?_eq_getElem hil⟩
      obtain ⟨b2, off, rfl, hbl, hcell⟩ := (hrd.kept hk hfr).txt hy
      have hid := hzr y (List.mem_of_getElem? hy)
      obtain ⟨f, n, hS, hn, hg⟩ := hm
      have hgy : (f y).getD (.agg #[.int .i64 0, .int .i64 0]) = .agg #[.int .i64 ((putR g (rs.take i) (v + 1) y).1 : Int), .int .i64 ((putR g (rs.take i) (v + 1) y).2 : Int)] := hg y
      have hnx : Hid (∀ k, putR g (rs.take (i + 1)) (v + 1) k = if k = y then ((putR g (rs.take i) (v + 1) y).1, max (putR g (rs.take i) (v + 1) y).2 (v + 1)) else putR g (rs.take i) (v + 1) k) := putR_next hy
      have hmx : n < maxLen := by unfold maxLen; omega
      generalize hp1 : (putR g (rs.take i) (v + 1) y).1 = p1 at *
      generalize hp2 : (putR g (rs.take i) (v + 1) y).2 = p2 at *
      clear hp1 hp2
      have hnb := belowNew wr (.cells #[.int .i64 (p1 : Int), .int .i64 (p2 : Int)] 105)
      have hS1 := hS.below hnb
      have hk2 : Kept (fun k => k = b) w (wr.alloc (.cells #[.int .i64 (p1 : Int), .int .i64 (p2 : Int)] 105)) := hk.trans (Kept.of_below hnb)
      have hk82 : (wr.alloc (.cells #[.int .i64 (p1 : Int), .int .i64 (p2 : Int)] 105)).cell? ⟨w.heap.size, 8, none⟩ = some (.slice wa ws.length wc) := by rw [cell_same (hnb.block _ hlt)]; exact hk8
      have hlt2 : w.heap.size < (wr.alloc (.cells #[.int .i64 (p1 : Int), .int .i64 (p2 : Int)] 105)).heap.size := Nat.lt_of_lt_of_le hlt hnb.size
      go_wp2_with (first
        | (at_lookup; refine smap_look (by rfl) _ _ 90 rfl 105 Tryd.underlying90 _ (zeroTurn _) b _ _ rfl hS y hid rfl ?_; rw [hgy])
        | (at_mapUpdate; refine smap_put rfl _ _ _ 90 rfl 105 Tryd.underlying90 b _ _ rfl hS1 hmx y hid rfl _ rfl ?_; intro w5 hM5 hk5))
      have hM6 : SMap w5 b (putF f y (turnV (p1, max p2 (v + 1)))) (putN f y n) := by
        rw [← turnMax]
        exact hM5
      have hT6 : TurnAt w5 b (putR g (rs.take (i + 1)) (v + 1)) (N + i + 1) := TurnAt.put hn hg hM6 hnx.out
      have h8 := (hk5.cell (p := ⟨w.heap.size, 8, none⟩) hlt2 (fun e => hbx (by have e' : w.heap.size = b := e; omega))).trans hk82
      clear hM5 hM6 hnx
      go_roundw
      case rel => exact ⟨i + 1, by omega, by go_num, hT6, h8, Nat.lt_of_lt_of_le hlt2 hk5.size, hk2.trans hk5⟩
      case measure => simp [intOf]; omega
    · have g1 : ¬ (i : Int) < (rs.length : Int) := by omega
      have hir : i = rs.length := by omega
      rw [hir, List.take_length] at hm
      clear hir hil hi hrd
      have hm1 : Hid _ := hm
      clear hm
      go_wp2_with fail
      go_loopw [37] (fun v37 wr => ∃ i : Nat, i ≤ ws.length ∧ v37 = .int .i64 (i : Int) ∧ TurnAt wr b (putW (putR g rs (v + 1)) (ws.take i) (v + 1)) (N + rs.length + i) ∧ Kept (fun k => k = b) w wr) (fun v _ => ws.length - (intOf v).toNat)
      case atStart => exact ⟨0, Nat.zero_le _, rfl, TurnAt.congr hm1.out (fun k => rfl), hk⟩
      case round =>
        obtain ⟨i, hi, rfl, hm, hk⟩ := hrel
        clear hm1
        by_cases hil : i < ws.length
        · have g1 : (i : Int) < (ws.length : Int) := by omega
          obtain ⟨y, hy⟩ : ∃ p, ws[i]? = some p := ⟨_, List.getElem?_eq_getElem hil⟩
          obtain ⟨b2, off, rfl, hbl, hcell⟩ := (hwr.kept hk hfw).txt hy
          have hid := hzw y (List.mem_of_getElem? hy)
          obtain ⟨f, n, hS, hn, hg⟩ := hm
          have hnx : Hid (∀ k, putW (putR g rs (v + 1)) (ws.take (i + 1)) (v + 1) k = if k = y then (v + 1, v + 1) else putW (putR g rs (v + 1)) (ws.take i) (v + 1) k) := putW_next hy
          have hmx : n < maxLen := by unfold maxLen; omega
          go_wp2_with (at_mapUpdate; refine smap_put rfl _ _ _ 90 rfl 105 Tryd.underlying90 b _ _ rfl hS hmx y hid rfl _ rfl ?_; intro w5 hM5 hk5)
          have hM6 : SMap w5 b (putF f y (turnV (v + 1, v + 1))) (putN f y n) := hM5
          have hT6 : TurnAt w5 b (putW (putR g rs (v + 1)) (ws.take (i + 1)) (v + 1)) (N + rs.length + i + 1) := TurnAt.put hn hg hM6 hnx.out
          clear hM5 hM6 hnx
          go_roundw
          case rel => exact ⟨i + 1, by omega, by go_num, hT6, hk.trans hk5⟩
          case measure => simp [intOf]; omega
        · have g1 : ¬ (i : Int) < (ws.length : Int) := by omega
          have hir : i = ws.length := by omega
          rw [hir, List.take_length] at hm
          have hfin := hG.out _ hm
          clear hir hm hil hi hG
          go_wp2
          go_end0
          exact ⟨rfl, hfin, hk⟩
end Go.Proofs.YtajpfkenhchafaaDoor

/- What waves.Of does. -/
namespace Go.Proofs.YtajpfkenhchafaaDoor
open Go Go.RowKit
set_option linter.unusedVariables false

/-- The waves of the first i, nothing of the others yet. -/
def ofL (l : List RwD) (n i : Nat) : List Nat := wvN l i ++ List.replicate (n - i) 0

theorem ofL_get {l : List RwD} {n i : Nat} (h : i < n) : (ofL l n i)[i]? = some 0 := by
  unfold ofL
  rw [List.getElem?_append_right (by rw [wvN_length]; exact Nat.le_refl _), wvN_length, Nat.sub_self, List.getElem?_replicate, if_pos (by omega)]

theorem ofL_set {l : List RwD} {n i : Nat} (h : i < n) : (ofL l n i).set i (wv l i) = ofL l n (i + 1) := by
  unfold ofL
  rw [List.set_append_right _ _ (by rw [wvN_length]; exact Nat.le_refl _), wvN_length, Nat.sub_self, show n - i = (n - (i + 1)) + 1 by omega, List.replicate_succ, List.set_cons_zero]
  show _ = (wvN l i ++ [wv l i]) ++ _
  rw [List.append_assoc]
  rfl

theorem ofL_end (l : List RwD) (n : Nat) : ofL l n n = wvN l n := by
  unfold ofL
  rw [Nat.sub_self]
  simp

def GotOf (W : World) (l : List RwD) (e : Ending) (w : World) : Prop :=
  ∃ g, e = .returned (.slice (some ⟨g, 0, none⟩) l.length l.length) ∧ KQ natK 3 w W.heap.size (.slice (some ⟨g, 0, none⟩) l.length l.length) (wvN l l.length) ∧ Below W.heap.size W w

theorem fsF_next {l : List RwD} {t : RwD} {i : Nat} (ht : l[i]? = some t) : firstN (turnF (putL l (wv l) i)) t = wv l i := by
  rw [first_eq, first_wave ht]

theorem put_next {l : List RwD} {t : RwD} {vs : Nat → Nat} {i : Nat} (ht : l[i]? = some t) (h : firstN (turnF (putL l vs i)) t ≤ vs i) (k : ByteArray) : turnF (putL l vs (i + 1)) k = putG (turnF (putL l vs i)) t (vs i) k := by
  rw [first_eq] at h
  have := put_eq h k
  show turnF (((l[i]?).getD ⟨[], []⟩, vs i) :: putL l vs i) k = _
  rw [ht]
  exact this

set_option maxRecDepth 100000 in
set_option maxHeartbeats 2000000 in
theorem of_any (l : List TxA) (ao : Option Addr) (cp : Nat) (w : World) (hl : RowAt txA w ao l) (hf : Few l) :
    Calls Tryd.prog 47 #[.slice ao l.length cp] w fun e w' => GotOf w (rwL l) e w' := by
  have hl1 := hf.1
  have hlen := rwL_length l
  have mk : (Instr.makeMap 90 none).run Tryd.prog w = .ok (.map (some w.heap.size)) (w.alloc (.map #[] 0)) := rfl
  have hT0 := TurnAt.new w
  have hb0 := belowNew w (.map #[] 0)
  have hs0 : w.heap.size < (w.alloc (.map #[] 0)).heap.size := by rw [alloc_size]; omega
  generalize hw1 : w.alloc (.map #[] 0) = w1 at *
  obtain ⟨w3, hms, hQ, hb3, hs3⟩ := make_nats 25 Tryd.underlying25 l.length (by omega) w1
  have hT3 := hT0.below hb3
  have hB3 := hb0.trans (hb3.mono hb0.size)
  have hgb : w1.heap.size ≠ w.heap.size := by omega
  generalize w1.heap.size = g at *
  generalize hmb : w.heap.size = mb at hT3 hT0 hgb
  have hQ3 : KQ natK 3 w3 w.heap.size (.slice (some ⟨g, 0, none⟩) l.length l.length) (ofL (rwL l) l.length 0) := hQ.rebase (by omega)
  clear hQ hT0 hb0 hb3
  go_enter Tryd.func47, Tryd.ntmps47
  go_wp2_with fail
  go_loopw [13] (fun v13 wr => ∃ (i : Nat), i ≤ l.length ∧ v13 = .int .i64 (i : Int) ∧ TurnAt wr mb (turnF (putL (rwL l) (wv (rwL l)) i)) (i * 2000) ∧ KQ natK 3 wr w.heap.size (.slice (some ⟨g, 0, none⟩) l.length l.length) (ofL (rwL l) l.length i) ∧ Below w.heap.size w wr) (fun v _ => l.length - (intOf v).toNat)
  case atStart => exact ⟨0, Nat.zero_le _, rfl, hT3.congr (fun k => rfl), hQ3, hB3⟩
  case round =>
    obtain ⟨i, hi, rfl, hT, hq, hb⟩ := hrel
    clear hT3 hB3 hQ3
    by_cases hil : i < l.length
    · have g1 : (i : Int) < (l.length : Int) := by omega
      obtain ⟨x, hx⟩ : ∃ p, l[i]? = some p := ⟨_, List.getElem?_eq_getElem hil⟩
      have hfx : ∀ b, txA.foot x b → b < w.heap.size := fun b h => txA.lt (hl.at_ x (List.mem_of_getElem? hx)) h
      obtain ⟨b, off, rfl, hbl, x0, x1, x2, x3, x4, x5, x6, x7, x8, hA⟩ := (hl.below hb).tx hx
      obtain ⟨lr, lw⟩ := hf.2 x (List.mem_of_getElem? hx)
      have hbn := belowNew wr (.cells x.c.toArray 50)
      have hX := Arr.new wr 50 x.c
      have hT5 := TurnAt.below hT hbn
      have hq5 := hq.below hbn
      have hA5 := hA.below hbn
      have hb5 := hb.trans (hbn.mono hb.size)
      have hz5 : wr.heap.size < (wr.alloc (.cells x.c.toArray 50)).heap.size := by rw [alloc_size]; omega
      have hgw := (hq.lt g rfl)
      have hwi := wv_le (rwL l) i
      have hmbf : ¬ txA.foot x mb := fun h => by have := hfx mb h; omega
      have cF := first_any x _ hA5 mb _ _ hT5 (by omega) (by omega)
      have hnx : Hid (∀ k, turnF (putL (rwL l) (wv (rwL l)) (i + 1)) k = putG (turnF (putL (rwL l) (wv (rwL l)) i)) x.rw (wv (rwL l) i) k) := put_next (rwL_get hx) (by rw [fsF_next (rwL_get hx)]; exact Nat.le_refl _)
      have hst : Hid ((ofL (rwL l) l.length i).set i (wv (rwL l) i) = ofL (rwL l) l.length (i + 1)) := ofL_set hil
      rw [fsF_next (rwL_get hx)] at cF
      obtain ⟨w5, hw5⟩ : ∃ q, wr.alloc (.cells x.c.toArray 50) = q := ⟨_, rfl⟩
      rw [hw5] at hX hT5 hq5 hA5 hb5 hz5 cF
      replace hw5 : wr.alloc (.cells #[.int .i64 x.kind, .string x.frm, .string x.dst, .int .u64 x.amt, .int .u64 x.non, .string x.key, .string x.val, .slice x.ra x.rs.length x.rc, .slice x.wa x.ws.length x.wc] 50) = w5 := hw5
      have n0 := hX.cell (i := 0) rfl
      have n1 := hX.cell (i := 1) rfl
      have n2 := hX.cell (i := 2) rfl
      have n3 := hX.cell (i := 3) rfl
      have n4 := hX.cell (i := 4) rfl
      have n5 := hX.cell (i := 5) rfl
      have n6 := hX.cell (i := 6) rfl
      have n7 := hX.cell (i := 7) rfl
      have n8 := hX.cell (i := 8) rfl
      have hx' : Hid _ := hx
      generalize wv (rwL l) i = v at *
      clear hx hT hA hq hbn
      go_wp2_with (go_at_call 44; refine cF.mono ?_; rintro _ w6 ⟨rfl, hb6⟩; obtain ⟨c1, f1, hBg, hgw6, s1⟩ := (hq5.below hb6).natSet (ofL_get hil); simp only [Nat.zero_add] at c1 f1 s1)
      have hgm : g ≠ mb := hgb
      have hK7 : Kept (fun k => k = g) w6 (w6.setCell ⟨g, i, none⟩ (.int .i64 (v : Int))) := Kept.setCell w6 ⟨g, i, none⟩ (.int .i64 (v : Int))
      have hT7 := (TurnAt.below hT5 hb6).kept hK7 (fun e => hgm (by have e' : mb = g := e; omega))
      have hX7 := (hX.below hb6 hz5).kept hK7 (fun e => by have e' : wr.heap.size = g := e; omega)
      have hA7 := txA.kept (TxA.At.below hA5 hb6) hK7 (fun b h e => by have h1 := hfx b h; have e' : b = g := e; omega)
      have hq7 := s1 v
      rw [hst.out] at hq7
      have hb7 : Below w.heap.size w (w6.setCell ⟨g, i, none⟩ (.int .i64 (v : Int))) := (hb5.trans (hb6.mono hb5.size)).trans (hK7.below (by have := hb5.size; have := hb6.size; omega) (fun k e => by have e' : k = g := e; omega))
      generalize w6.setCell ⟨g, i, none⟩ (.int .i64 (v : Int)) = w7 at *
      have hbd : Below w7.heap.size w7 w7.drew := below_drewN (Below.refl _ _) 1
      have hT8 := TurnAt.below hT7 hbd
      have hX8 := hX7.drew
      have hA8 := TxA.At.below hA7 hbd
      have hq8 := hq7.below hbd
      have hb8 := hb7.trans (hbd.mono hb7.size)
      have hvi : (ofL (rwL l) l.length (i + 1))[i]? = some v := by
        rw [← hst.out, List.getElem?_set_self (by unfold ofL; rw [List.length_append, wvN_length, List.length_replicate]; omega)]
      have c8 := (hq8.natSet hvi).1
      simp only [Nat.zero_add] at c8
      have n0 := hX8.cell (i := 0) rfl
      have n1 := hX8.cell (i := 1) rfl
      have n2 := hX8.cell (i := 2) rfl
      have n3 := hX8.cell (i := 3) rfl
      have n4 := hX8.cell (i := 4) rfl
      have n5 := hX8.cell (i := 5) rfl
      have n6 := hX8.cell (i := 6) rfl
      have n7 := hX8.cell (i := 7) rfl
      have n8 := hX8.cell (i := 8) rfl
      have cP := put_any x _ hA8 (fun b h => Nat.lt_of_lt_of_le (hfx b h) hb8.size) mb hmbf _ _ hT8 (by omega) v (by omega) (by omega) (by omega)
      replace hst : Hid _ := hst
      clear hT7 hX7 hA7 hq7 hT5 hX hA5 hq5 s1 c1 f1 hK7 hb7 hbd hvi hst cF
      go_wp2_with fail
      rename_i K hK
      replace hK : Hid _ := hK
      go_region_law (go_simp; go_at_call 45; refine cP.mono ?_; rintro e w9 ⟨rfl, hT9, hk9⟩)
      all_goals
        refine hK.out _ _ ?_
        have hq9 := hq8.kept hk9 (fun k e => by simp only [Value.ownBlock, Option.some.injEq] at e; show ¬ k = mb; omega) (fun _ _ _ h => h.elim)
        have hT10 := (TurnAt.congr hT9 hnx.out).mono (M := (i + 1) * 2000) (by omega)
        have hb9 := hb8.trans (hk9.below hb8.size (fun k e => by have e' : k = mb := e; omega))
        clear cP hT9 hk9 hnx hq8 hT8 hX8
        go_wp2
        go_roundw
        case rel => exact ⟨i + 1, by omega, by go_num, hT10, hq9, hb9⟩
        case measure => simp [intOf]; omega
    · have g1 : ¬ (i : Int) < (l.length : Int) := by omega
      have hil2 : i = l.length := by omega
      have hfin : GotOf w (rwL l) (.returned (.slice (some ⟨g, 0, none⟩) l.length l.length)) wr := by
        rw [hil2, ofL_end] at hq
        refine ⟨g, by rw [hlen], ?_, hb⟩
        rw [hlen]
        exact hq
      clear hq hil2 hT hlen
      go_wp2
      go_ret
      exact hfin
end Go.Proofs.YtajpfkenhchafaaDoor

/- What waves.Plan does. -/
namespace Go.Proofs.YtajpfkenhchafaaDoor
open Go Go.RowKit
set_option linter.unusedVariables false

theorem wv_le_nw (l : List RwD) (i : Nat) : wv l i ≤ nwN l i := by
  rcases Nat.eq_zero_or_pos (wv l i) with h | h
  · omega
  · obtain ⟨k, h1, h2, h3⟩ := wv_ex h
    have := nwN_gt (l := l) h1
    omega

/-- The plan with room for the next one's wave. -/
def roomN (l : List RwD) (i : Nat) : List (List Nat) := if wv l i = nwN l i then planN l i ++ [[]] else planN l i

theorem roomN_get (l : List RwD) (i : Nat) : (roomN l i)[wv l i]? = some (waveL l i (wv l i)) := by
  have h := wv_le_nw l i
  unfold roomN
  by_cases e : wv l i = nwN l i
  · rw [if_pos e, List.getElem?_append_right (by rw [planN_length]; omega), planN_length, e, Nat.sub_self]
    have : waveL l i (nwN l i) = [] := by
      rw [List.eq_nil_iff_forall_not_mem]
      intro x hx
      obtain ⟨q1, q2⟩ := waveL_mem.1 hx
      have := nwN_gt (l := l) q1
      omega
    rw [this]
    rfl
  · rw [if_neg e, planN_get (by omega)]

theorem roomN_set (l : List RwD) (i : Nat) : (roomN l i).set (wv l i) (waveL l i (wv l i) ++ [i]) = planN l (i + 1) := by
  have h := wv_le_nw l i
  rw [planN_succ]
  congr 1
  unfold roomN roomTo
  rw [planN_length]
  by_cases e : wv l i = nwN l i
  · rw [if_pos e, e, show nwN l i + 1 - nwN l i = 1 by omega]; rfl
  · rw [if_neg e, show wv l i + 1 - nwN l i = 0 by omega]; simp

theorem lsP_len {p : List IRow} {P : List (List Nat)} (h : lsP p = planI P) : p.length = P.length := by
  have := congrArg List.length h
  simpa [lsP, planI] using this

theorem lsP_row {p : List IRow} {P : List (List Nat)} (h : lsP p = planI P) {k : Nat} {r : List Nat} (hr : P[k]? = some r) : ∃ x, p[k]? = some x ∧ x.l = rowI r := by
  have h1 : (lsP p)[k]? = some (rowI r) := by rw [h]; unfold planI; rw [List.getElem?_map, hr]; rfl
  unfold lsP at h1
  rw [List.getElem?_map] at h1
  cases hp : p[k]? with
  | none => rw [hp] at h1; cases h1
  | some x => rw [hp] at h1; exact ⟨x, rfl, by simpa using h1⟩

theorem lsP_set {p : List IRow} {P : List (List Nat)} (h : lsP p = planI P) {k : Nat} {y : IRow} {r : List Nat} (hy : y.l = rowI r) : lsP (p.set k y) = planI (P.set k r) := by
  unfold lsP planI at *
  rw [List.map_set, h, List.map_set, hy]

theorem lsP_grow {p : List IRow} {P : List (List Nat)} (h : lsP p = planI P) : lsP (p ++ [⟨[], none, 0⟩]) = planI (P ++ [[]]) := by
  unfold lsP planI at *
  rw [List.map_append, h, List.map_append]
  rfl

theorem rowI_snoc (r : List Nat) (i : Nat) : rowI (r ++ [i]) = rowI r ++ [(i : Int)] := by
  unfold rowI
  rw [List.map_append]
  rfl

theorem intsInfo : ∃ i z, Tryd.prog.info? 25 = some i ∧ i.zero = some z ∧ i.size = 1 ∧ i.bytes = 24 ∧ z.cells.size = 1 := infoParts (by kernel_rfl)

theorem new_slot (w : World) (x : IRow) : ∀ j u, (slotK.c x)[j]? = some u → (w.alloc (.cells #[x.v] 25)).cell? ((⟨w.heap.size, 0, none⟩ : Addr).add j) = some u := by
  intro j u hu
  rw [Go.WideShapes.add_plain, Nat.zero_add]
  exact (Arr.new w 25 [x.v]).cell hu

theorem new_int (w : World) (v : Int) : ∀ j u, (intK.c v)[j]? = some u → (w.alloc (.cells #[.int .i64 v] 3)).cell? ((⟨w.heap.size, 0, none⟩ : Addr).add j) = some u := by
  intro j u hu
  rw [Go.WideShapes.add_plain, Nat.zero_add]
  exact (Arr.new w 3 [.int .i64 v]).cell hu

def GotPlan (W : World) (l : List RwD) (e : Ending) (w : World) : Prop :=
  ∃ q p, e = .returned q ∧ PlanQ w W.heap.size q p ∧ lsP p = planI (planN l l.length) ∧ Below W.heap.size W w

theorem waveL_length (l : List RwD) (m w : Nat) : (waveL l m w).length ≤ m := by
  unfold waveL
  exact Nat.le_trans (List.length_filter_le _ _) (by rw [List.length_range]; exact Nat.le_refl _)

set_option maxRecDepth 100000 in
set_option maxHeartbeats 2000000 in
theorem plan_any (l : List TxA) (ao : Option Addr) (cp : Nat) (w : World) (hl : RowAt txA w ao l) (hf : Few l) :
    Calls Tryd.prog 27 #[.slice ao l.length cp] w fun e w' => GotPlan w (rwL l) e w' := by
  have hl1 := hf.1
  have hlen := rwL_length l
  have cO := of_any l ao cp w hl hf
  obtain ⟨i0, z0, hi0, hz0, hs0, hbb0, hzs0⟩ := intsInfo
  obtain ⟨i1, z1, hi1, hz1, hs1, hbb1, hzs1⟩ := intInfoA
  go_enter Tryd.func27, Tryd.ntmps27
  go_wp2_with (go_at_call 47; refine cO.mono ?_; rintro _ w1 ⟨g, rfl, hq, hb1⟩; rw [hlen] at hq ⊢)
  have hP0 := PlanQ.empty w1 w1.heap.size
  go_loopw [9, 3] (fun v9 v3 wr => ∃ (i : Nat) (qa : Option Addr) (qc : Nat) (p : List IRow), i ≤ l.length ∧ v9 = .int .i64 (i : Int) ∧ v3 = .slice qa p.length qc ∧ PlanQ wr w1.heap.size (.slice qa p.length qc) p ∧ Hid (lsP p = planI (planN (rwL l) i)) ∧ Below w1.heap.size w1 wr) (fun v _ _ => l.length - (intOf v).toNat)
  case atStart => exact ⟨0, none, 0, [], Nat.zero_le _, rfl, rfl, hP0, rfl, Below.refl _ _⟩
  case round =>
    obtain ⟨i, qa, qc, p, hi, rfl, rfl, hP, hls, hb⟩ := hrel
    clear hP0 cO
    by_cases hil : i < l.length
    · have g1 : (i : Int) < (l.length : Int) := by omega
      have hgi : (wvN (rwL l) l.length)[i]? = some (wv (rwL l) i) := wvN_get _ hil
      have cg := ((hq.below hb).natSet hgi).1
      simp only [Nat.zero_add] at cg
      have hpl : p.length = nwN (rwL l) i := by rw [lsP_len hls.out, planN_length]
      have hnw := nwN_le (rwL l) i
      have hle := wv_le_nw (rwL l) i
      have hroom : Hid (∀ p1 : List IRow, lsP p1 = planI (roomN (rwL l) i) → ∃ x, p1[wv (rwL l) i]? = some x ∧ x.l = rowI (waveL (rwL l) i (wv (rwL l) i)) ∧ ∀ y : IRow, y.l = x.l ++ [(i : Int)] → lsP (p1.set (wv (rwL l) i) y) = planI (planN (rwL l) (i + 1))) := by
        intro p1 h1
        obtain ⟨x, q1, q2⟩ := lsP_row h1 (roomN_get (rwL l) i)
        refine ⟨x, q1, q2, fun y hy => ?_⟩
        rw [← roomN_set]
        exact lsP_set h1 (by rw [hy, q2, rowI_snoc])
      have hr1 : Hid (wv (rwL l) i = p.length → lsP (p ++ [⟨[], none, 0⟩]) = planI (roomN (rwL l) i)) := fun e => by
        unfold roomN
        rw [if_pos (by omega)]
        exact lsP_grow hls.out
      have hr2 : Hid (¬ wv (rwL l) i = p.length → lsP p = planI (roomN (rwL l) i)) := fun e => by
        unfold roomN
        rw [if_neg (by omega)]
        exact hls.out
      have hwl : Hid ((waveL (rwL l) i (wv (rwL l) i)).length ≤ i) := waveL_length _ _ _
      have hrl : Hid ((rowI (waveL (rwL l) i (wv (rwL l) i))).length ≤ i) := by unfold rowI Hid; rw [List.length_map]; exact waveL_length _ _ _
      generalize rowI (waveL (rwL l) i (wv (rwL l) i)) = R at *
      generalize hv : wv (rwL l) i = v at *
      replace hv : Hid _ := hv
      clear hgi hls hwl
      have e1 : (p ++ [(⟨[], none, 0⟩ : IRow)]).length = p.length + 1 := by rw [List.length_append]; rfl
      have hBw : w1.heap.size ≤ wr.heap.size := hb.size
      have hpi : p.length ≤ i := by omega
      have hvi : v ≤ p.length := by omega
      clear hpl hnw hle
      by_cases hvp : v = p.length
      · subst hvp
        obtain ⟨⟨L, xa, xc⟩, hx1, hxl, hy1⟩ := hroom.out _ (hr1.out rfl)
        replace hxl : L = R := hxl
        subst hxl
        have hLi := hrl.out
        have hx1' : Hid _ := hx1
        have hy1' : Hid (∀ (a : Option Addr) (c : Nat), lsP ((p ++ [(⟨[], none, 0⟩ : IRow)]).set p.length ⟨L ++ [(i : Int)], a, c⟩) = planI (planN (rwL l) (i + 1))) := fun a c => hy1 ⟨L ++ [(i : Int)], a, c⟩ rfl
        have hb4 := belowNew wr (.cells #[.slice none 0 0] 25)
        have hP4 := hP.below hb4
        have hNW := new_slot wr ⟨[], none, 0⟩
        have hB4 : w1.heap.size ≤ (wr.alloc (.cells #[.slice none 0 0] 25)).heap.size := Nat.le_trans hBw hb4.size
        have hb44 : Below w1.heap.size w1 (wr.alloc (.cells #[.slice none 0 0] 25)) := hb.trans (hb4.mono hBw)
        have m1 : p.length + 1 ≤ maxLen := by unfold maxLen; omega
        have m2 : (p.length + 1) * 24 ≤ 140737488355328 := by omega
        have m3 : L.length + 1 ≤ maxLen := by unfold maxLen; omega
        have m4 : (L.length + 1) * 8 ≤ 140737488355328 := by omega
        have g3 : (p.length : Int) < ((p.length : Int) + 1) := by omega
        clear hx1 hy1 hr1 hr2 hroom hrl hb4
        go_wp2_with (first
          | (at_builtin; refine wpList_pushN (K := slotK) rfl _ _ 29 rfl w1.heap.size 25 i0 _ 24 Tryd.underlying29 hi0 hz0 hs0 hbb0 hzs0 _ p rfl hP4.out ⟨[], none, 0⟩ trivial (fun _ h => h.elim) ⟨wr.heap.size, 0, none⟩ 1 rfl hNW m1 m2 hB4 ?_
             intro ao3 cap3 w5 hQ5 hk5 hf5
             have hP5 := hP4.grow hQ5 hk5 hf5
             have hb5 : Below w1.heap.size w1 w5 := hb44.trans (hk5.below hB4 (fun k e => (hP4.out.lt k e).1))
             obtain ⟨gq, oq, rfl, hgB, hgw, cx, hKx⟩ := hP5.at hx1'.out
             have hb6 := belowNew w5 (.cells #[.int .i64 (i : Int)] 3)
             have hP6 := hP5.below hb6
             have hK6 := hKx.below hb6
             have hNI := new_int w5 (i : Int)
             have hb66 := hb5.trans (hb6.mono hb5.size)
             have hB6 := hb66.size
             clear hP4 hQ5 hk5 hf5 hP5 hKx hb44)
          | (at_builtin; refine wpList_pushN (K := intK) rfl _ _ 25 rfl w1.heap.size 3 i1 _ 8 Tryd.underlying25 hi1 hz1 hs1 hbb1 hzs1 _ L rfl hK6 (i : Int) trivial (fun _ h => h.elim) ⟨w5.heap.size, 0, none⟩ 1 rfl hNI m3 m4 hB6 ?_
             intro ao4 cap4 w7 hQ7 hk7 hf7
             obtain ⟨c7, f7, hP8, hb8⟩ := hP6.puts hx1'.out hQ7 hk7 hf7
             replace hb8 := hb66.trans (hb8 _ (Nat.le_refl _) hB6)
             clear hP6 hQ7 hk7 hf7 hb66))
        have e2 : (L ++ [(i : Int)]).length = L.length + 1 := by rw [List.length_append]; rfl
        rw [e1, e2] at hP8
        rw [e2] at hb8
        have e3 : ((p ++ [(⟨[], none, 0⟩ : IRow)]).set p.length ⟨L ++ [(i : Int)], ao4, cap4⟩).length = p.length + 1 := by rw [List.length_set, e1]
        have h4 := hy1'.out ao4 cap4
        clear hx1' hy1' hNI hNW hK6 c7 f7 cx hB4 hb6 hb5
        go_roundw
        case rel => exact ⟨i + 1, _, cap3, _, by omega, by go_num, by rw [e3], by rw [e3]; exact hP8, h4, hb8⟩
        case measure => simp [intOf]; omega
      · have g2 : ((v : Int) == (p.length : Int)) = false := by simp; omega
        obtain ⟨⟨L, xa, xc⟩, hx1, hxl, hy1⟩ := hroom.out _ (hr2.out hvp)
        replace hxl : L = R := hxl
        subst hxl
        have hLi := hrl.out
        have hx1' : Hid _ := hx1
        have hy1' : Hid (∀ (a : Option Addr) (c : Nat), lsP (p.set v ⟨L ++ [(i : Int)], a, c⟩) = planI (planN (rwL l) (i + 1))) := fun a c => hy1 ⟨L ++ [(i : Int)], a, c⟩ rfl
        obtain ⟨gq, oq, rfl, hgB, hgw, cx, hKx⟩ := hP.at hx1
        have hb6 := belowNew wr (.cells #[.int .i64 (i : Int)] 3)
        have hP6 := hP.below hb6
        have hK6 := hKx.below hb6
        have hNI := new_int wr (i : Int)
        have hb66 := hb.trans (hb6.mono hBw)
        have hB6 := hb66.size
        have m3 : L.length + 1 ≤ maxLen := by unfold maxLen; omega
        have m4 : (L.length + 1) * 8 ≤ 140737488355328 := by omega
        have g3 : (v : Int) < (p.length : Int) := by omega
        clear hx1 hy1 hr1 hr2 hroom hrl hP hKx hb6
        go_wp2_with (at_builtin; refine wpList_pushN (K := intK) rfl _ _ 25 rfl w1.heap.size 3 i1 _ 8 Tryd.underlying25 hi1 hz1 hs1 hbb1 hzs1 _ L rfl hK6 (i : Int) trivial (fun _ h => h.elim) ⟨wr.heap.size, 0, none⟩ 1 rfl hNI m3 m4 hB6 ?_
                     intro ao4 cap4 w7 hQ7 hk7 hf7
                     obtain ⟨c7, f7, hP8, hb8⟩ := hP6.puts hx1'.out hQ7 hk7 hf7
                     replace hb8 := hb66.trans (hb8 _ (Nat.le_refl _) hB6)
                     clear hP6 hQ7 hk7 hf7 hb66)
        have e2 : (L ++ [(i : Int)]).length = L.length + 1 := by rw [List.length_append]; rfl
        rw [e2] at hP8 hb8
        have e3 : (p.set v ⟨L ++ [(i : Int)], ao4, cap4⟩).length = p.length := by rw [List.length_set]
        have h4 := hy1'.out ao4 cap4
        clear hx1' hy1' hNI hK6 c7 f7 cx
        go_roundw
        case rel => exact ⟨i + 1, _, qc, _, by omega, by go_num, by rw [e3], by rw [e3]; exact hP8, h4, hb8⟩
        case measure => simp [intOf]; omega
    · have g1 : ¬ (i : Int) < (l.length : Int) := by omega
      have hil2 : i = l.length := by omega
      have hfin : GotPlan w (rwL l) (.returned (.slice qa p.length qc)) wr := by
        have h4 := hls.out
        rw [hil2] at h4
        exact ⟨_, p, rfl, hP.rebase hb1.size, by rw [hlen]; exact h4, hb1.trans (hb.mono hb1.size)⟩
      clear hP hil2 hls hlen
      go_wp2
      go_ret
      exact hfin
end Go.Proofs.YtajpfkenhchafaaDoor
