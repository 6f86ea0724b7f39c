/- What must does, and the reader's number, text and keys. -/
import Derived.Test.YtibfnefdpbdkoaaTxDecMath
import Derived.Test.YtibfnefdpbdkoaaTxOwn
import Derived.WalkLawsBesides
namespace Go.Proofs.Ytibfnefdpbdkoaa
open Go.RowKit
set_option linter.unusedVariables false

/-- The error er, thrown. -/
def thrown (er : Nat) : List PanicEntry := [{ v := .iface 24 (.int .i64 (er : Int)), recovered := false }]

set_option maxRecDepth 100000 in
theorem must_ok (w : World) : Calls Try.prog 54 #[.int .i64 0] w fun e w' => e = .returned (.tuple #[]) ∧ w' = w := by
  go_enter Try.func54, Try.ntmps54
  go_wp2
  go_end0
  exact ⟨rfl, rfl⟩

set_option maxRecDepth 100000 in
theorem must_err (er : Nat) (he : er ≠ 0) (w : World) : Calls Try.prog 54 #[.int .i64 (er : Int)] w fun e w' => e = .panicked (thrown er) ∧ w' = w := by
  have hne : ((er : Int) != 0) = true := by rw [bne_iff_ne]; omega
  go_enter Try.func54, Try.ntmps54
  go_wp2
  exact ⟨rfl, rfl, rfl⟩

/-- A reader's block, a result's, a transaction's that is being read; rows of the call's own. -/
structure RdSt (W : World) (base rb zb tb top : Nat) (T : TypeId) (R : List (Option Addr × List ByteArray)) (w : World) (rcs cs : List Value) : Prop where
  rd : Arr w rb T rcs
  res : Arr w zb 33 zeroC
  tx : Arr w tb 33 cs
  d1 : rb ≠ zb
  d2 : rb ≠ tb
  d3 : zb ≠ tb
  t1 : rb < top
  t2 : zb < top
  t3 : tb < top
  b1 : base ≤ rb
  b2 : base ≤ zb
  b3 : base ≤ tb
  tw : top ≤ w.heap.size
  rows : ∀ p ∈ R, OwnStrs top w p.1 p.2
  bel : Below base W w

theorem RdSt.below {W : World} {base rb zb tb top : Nat} {T : TypeId} {R : List (Option Addr × List ByteArray)} {w w1 : World} {rcs cs : List Value} (h : RdSt W base rb zb tb top T R w rcs cs) (hb : Below w.heap.size w w1) : RdSt W base rb zb tb top T R w1 rcs cs :=
  ⟨h.rd.below hb h.rd.lt, h.res.below hb h.res.lt, h.tx.below hb h.tx.lt, h.d1, h.d2, h.d3, h.t1, h.t2, h.t3, h.b1, h.b2, h.b3, Nat.le_trans h.tw hb.size, fun p hp => (h.rows p hp).below hb, h.bel.trans (hb.mono (by have := h.rd.lt; have := h.b1; omega))⟩

theorem RdSt.setR {W : World} {base rb zb tb top : Nat} {T : TypeId} {R : List (Option Addr × List ByteArray)} {w : World} {rcs cs : List Value} (h : RdSt W base rb zb tb top T R w rcs cs) (i : Nat) (v : Value) : RdSt W base rb zb tb top T R (w.setCell ⟨rb, i, none⟩ v) (rcs.set i v) cs :=
  ⟨h.rd.set i v, h.res.other (p := ⟨rb, i, none⟩) (fun e => h.d1 e.symm) v, h.tx.other (p := ⟨rb, i, none⟩) (fun e => h.d2 e.symm) v, h.d1, h.d2, h.d3, h.t1, h.t2, h.t3, h.b1, h.b2, h.b3, by rw [setCell_size]; exact h.tw, fun p hp => (h.rows p hp).put (p := ⟨rb, i, none⟩) h.t1 v, h.bel.setCell (p := ⟨rb, i, none⟩) h.b1 v⟩

theorem RdSt.setT {W : World} {base rb zb tb top : Nat} {T : TypeId} {R : List (Option Addr × List ByteArray)} {w : World} {rcs cs : List Value} (h : RdSt W base rb zb tb top T R w rcs cs) (i : Nat) (v : Value) : RdSt W base rb zb tb top T R (w.setCell ⟨tb, i, none⟩ v) rcs (cs.set i v) :=
  ⟨h.rd.other (p := ⟨tb, i, none⟩) h.d2 v, h.res.other (p := ⟨tb, i, none⟩) h.d3 v, h.tx.set i v, h.d1, h.d2, h.d3, h.t1, h.t2, h.t3, h.b1, h.b2, h.b3, by rw [setCell_size]; exact h.tw, fun p hp => (h.rows p hp).put (p := ⟨tb, i, none⟩) h.t3 v, h.bel.setCell (p := ⟨tb, i, none⟩) h.b3 v⟩

theorem RdSt.row {W : World} {base rb zb tb top : Nat} {T : TypeId} {R : List (Option Addr × List ByteArray)} {w : World} {rcs cs : List Value} (h : RdSt W base rb zb tb top T R w rcs cs) {a : Option Addr} {ss : List ByteArray} (hr : OwnStrs top w a ss) : RdSt W base rb zb tb top T ((a, ss) :: R) w rcs cs :=
  ⟨h.rd, h.res, h.tx, h.d1, h.d2, h.d3, h.t1, h.t2, h.t3, h.b1, h.b2, h.b3, h.tw, fun p hp => by
    rw [List.mem_cons] at hp
    rcases hp with rfl | hp
    · exact hr
    · exact h.rows p hp, h.bel⟩

set_option maxRecDepth 100000 in
set_option maxHeartbeats 400000 in
theorem number_ok {W : World} {base rb zb tb top : Nat} {R : List (Option Addr × List ByteArray)} {w : World} {rest : ByteArray} {cs : List Value} (st : RdSt W base rb zb tb top 95 R w [.string rest] cs) (hs : rest.size ≤ maxLen) (n k : Nat) (hr : getInt rest.data.toList = (n, k, 0)) :
    Calls Try.prog 51 #[.pointer (some ⟨rb, 0, none⟩)] w fun e w' => e = .returned (.int .i64 (n : Int)) ∧ RdSt W base rb zb tb top 95 R w' [.string (rest.extract k rest.size)] cs := by
  have c0 := st.rd.cell (i := 0) rfl
  have f0 := st.rd.frozen 0
  have fin := st.setR 0 (.string (rest.extract k rest.size))
  have hb := getInt_bounds _ n k hr
  have hl : rest.data.toList.length = rest.size := by simp
  have hk : (k : Int) ≤ rest.size := by omega
  have cG := fun w1 => getInt_at rest w1 n k 0 hs hr
  clear st hr hb hl hs
  go_enter Try.func51, Try.ntmps51
  go_wp2_with fail
  refine (cG _).mono ?_
  rintro e w1 ⟨rfl, rfl⟩
  go_wp2_with fail
  refine (must_ok _).mono ?_
  rintro e w2 ⟨rfl, rfl⟩
  go_wp2
  go_ret
  exact ⟨rfl, fin⟩

set_option maxRecDepth 100000 in
set_option maxHeartbeats 400000 in
theorem number_err {W : World} {base rb zb tb top : Nat} {R : List (Option Addr × List ByteArray)} {w : World} {rest : ByteArray} {cs : List Value} (st : RdSt W base rb zb tb top 95 R w [.string rest] cs) (hs : rest.size ≤ maxLen) (n k er : Nat) (hr : getInt rest.data.toList = (n, k, er)) (he : er ≠ 0) :
    Calls Try.prog 51 #[.pointer (some ⟨rb, 0, none⟩)] w fun e w' => e = .panicked (thrown er) ∧ w' = w := by
  have c0 := st.rd.cell (i := 0) rfl
  have cG := fun w1 => getInt_at rest w1 n k er hs hr
  have cM := must_err er he
  clear st hr hs
  go_enter Try.func51, Try.ntmps51
  go_wp2_with fail
  refine (cG _).mono ?_
  rintro e w1 ⟨rfl, rfl⟩
  go_wp2_with fail
  refine (cM _).mono ?_
  rintro e w2 ⟨rfl, rfl⟩
  go_wp2
  exact ⟨rfl, rfl, rfl⟩

set_option maxRecDepth 100000 in
set_option maxHeartbeats 400000 in
theorem text_ok {W : World} {base rb zb tb top : Nat} {R : List (Option Addr × List ByteArray)} {w : World} {rest : ByteArray} {cs : List Value} (st : RdSt W base rb zb tb top 95 R w [.string rest] cs) (hs : rest.size ≤ maxLen) (t : List UInt8) (k : Nat) (hr : getText rest.data.toList = (t, k, 0)) :
    Calls Try.prog 52 #[.pointer (some ⟨rb, 0, none⟩)] w fun e w' => e = .returned (.string ⟨t.toArray⟩) ∧ RdSt W base rb zb tb top 95 R w' [.string (rest.extract k rest.size)] cs := by
  have c0 := st.rd.cell (i := 0) rfl
  have f0 := st.rd.frozen 0
  have fin := st.setR 0 (.string (rest.extract k rest.size))
  have hb := getText_bounds _ t k hr
  have hl : rest.data.toList.length = rest.size := by simp
  have hk : (k : Int) ≤ rest.size := by omega
  have cG := fun w1 => getText_at rest w1 t k 0 hs hr
  clear st hr hb hl hs
  generalize (⟨t.toArray⟩ : ByteArray) = tt at *
  go_enter Try.func52, Try.ntmps52
  go_wp2_with fail
  refine (cG _).mono ?_
  rintro e w1 ⟨rfl, rfl⟩
  go_wp2_with fail
  refine (must_ok _).mono ?_
  rintro e w2 ⟨rfl, rfl⟩
  go_wp2
  go_ret
  exact ⟨rfl, fin⟩

set_option maxRecDepth 100000 in
set_option maxHeartbeats 400000 in
theorem text_err {W : World} {base rb zb tb top : Nat} {R : List (Option Addr × List ByteArray)} {w : World} {rest : ByteArray} {cs : List Value} (st : RdSt W base rb zb tb top 95 R w [.string rest] cs) (hs : rest.size ≤ maxLen) (t : List UInt8) (k er : Nat) (hr : getText rest.data.toList = (t, k, er)) (he : er ≠ 0) :
    Calls Try.prog 52 #[.pointer (some ⟨rb, 0, none⟩)] w fun e w' => e = .panicked (thrown er) ∧ w' = w := by
  have c0 := st.rd.cell (i := 0) rfl
  have cG := fun w1 => getText_at rest w1 t k er hs hr
  have cM := must_err er he
  clear st hr hs
  generalize (⟨t.toArray⟩ : ByteArray) = tt at *
  go_enter Try.func52, Try.ntmps52
  go_wp2_with fail
  refine (cG _).mono ?_
  rintro e w1 ⟨rfl, rfl⟩
  go_wp2_with fail
  refine (cM _).mono ?_
  rintro e w2 ⟨rfl, rfl⟩
  go_wp2
  exact ⟨rfl, rfl, rfl⟩

/-- A list of at most eight texts out of bytes. -/
theorem getList8 (s : ByteArray) (w : World) (hs : s.size ≤ maxLen) (ts : List (List UInt8)) (k er : Nat) (hr : getList s.data.toList 8 = (ts, k, er)) :
    Calls Try.prog 35 #[.string s, .int .i64 8] w fun e w' => ∃ ao cap, e = .returned (.tuple #[.slice ao (mks ts).length cap, .int .i64 (k : Int), .int .i64 (er : Int)]) ∧ OwnStrs w.heap.size w' ao (mks ts) ∧ (ao = none → cap = 0) ∧ Below w.heap.size w w' := by
  refine (getList_any s 8 w 8 hs (Or.inr (by omega)) (by omega)).mono ?_
  rintro e w' ⟨v, rfl, hg, hb⟩
  rw [hr] at hg
  obtain ⟨ao, cap, rfl, hown⟩ := hg
  have hml : (mks ts).length = ts.length := by simp [mks]
  refine ⟨ao, cap, by rw [hml], ?_, ?_, hb⟩
  · refine own_far (cap := cap) (n := ts.length) ?_ hml.symm
    rw [bl_mks]
    exact hown
  · intro he
    rcases hown.2 with ⟨hv, _⟩ | ⟨g, c, cur, hv, _⟩
    · simp at hv; exact hv.2.2
    · simp at hv; rw [hv.1] at he; cases he

set_option maxRecDepth 100000 in
set_option maxHeartbeats 400000 in
theorem keys_ok {W : World} {base rb zb tb top : Nat} {R : List (Option Addr × List ByteArray)} {w : World} {rest : ByteArray} {cs : List Value} (st : RdSt W base rb zb tb top 95 R w [.string rest] cs) (hs : rest.size ≤ maxLen) (ts : List (List UInt8)) (k : Nat) (hr : getList rest.data.toList 8 = (ts, k, 0)) (hk : k ≤ rest.size) :
    Calls Try.prog 53 #[.pointer (some ⟨rb, 0, none⟩)] w fun e w' => ∃ ao cap, e = .returned (.slice ao (mks ts).length cap) ∧ (ao = none → cap = 0) ∧ RdSt W base rb zb tb top 95 ((ao, mks ts) :: R) w' [.string (rest.extract k rest.size)] cs := by
  have c0 := st.rd.cell (i := 0) rfl
  replace hk : (k : Int) ≤ rest.size := by omega
  have cG := fun w1 => getList8 rest w1 hs ts k 0 hr
  clear hr hs
  generalize mks ts = ms at *
  go_enter Try.func53, Try.ntmps53
  go_wp2_with fail
  refine (cG _).mono ?_
  rintro e w1 ⟨ao, cap, rfl, hO, hn, hb⟩
  have st1 := (st.below hb).row (hO.mono st.tw)
  have fin := st1.setR 0 (.string (rest.extract k rest.size))
  have c1 := st1.rd.cell (i := 0) rfl
  have f1 := st1.rd.frozen 0
  clear st st1 c0 hO hb cG
  go_wp2_with fail
  refine (must_ok _).mono ?_
  rintro e w2 ⟨rfl, rfl⟩
  go_wp2
  go_ret
  exact ⟨ao, cap, rfl, hn, fin⟩

set_option maxRecDepth 100000 in
set_option maxHeartbeats 400000 in
theorem keys_err {W : World} {base rb zb tb top : Nat} {R : List (Option Addr × List ByteArray)} {w : World} {rest : ByteArray} {cs : List Value} (st : RdSt W base rb zb tb top 95 R w [.string rest] cs) (hs : rest.size ≤ maxLen) (ts : List (List UInt8)) (k er : Nat) (hr : getList rest.data.toList 8 = (ts, k, er)) (he : er ≠ 0) :
    Calls Try.prog 53 #[.pointer (some ⟨rb, 0, none⟩)] w fun e w' => e = .panicked (thrown er) ∧ Below w.heap.size w w' := by
  have c0 := st.rd.cell (i := 0) rfl
  have cG := fun w1 => getList8 rest w1 hs ts k er hr
  have cM := must_err er he
  clear hr hs st
  generalize mks ts = ms at *
  go_enter Try.func53, Try.ntmps53
  go_wp2_with fail
  refine (cG _).mono ?_
  rintro e w1 ⟨ao, cap, rfl, hO, hn, hb⟩
  clear hO hn c0 cG
  go_wp2_with fail
  refine (cM _).mono ?_
  rintro e w2 ⟨rfl, rfl⟩
  go_wp2
  exact ⟨rfl, rfl, hb⟩
end Go.Proofs.Ytibfnefdpbdkoaa
