/- What Decode does: the transaction of bytes, or the first error, caught; nothing old in memory is turned. -/
import Derived.Test.YtibfnefdpbdkoaaTxRead
import Derived.Defers
import Derived.Recover
import Derived.RegionTactic
namespace Go.Proofs.Ytibfnefdpbdkoaa
open Go.RowKit
set_option linter.unusedVariables false

theorem Arr.other9 {w : World} {g g' : Nat} {t : TypeId} {cs : List Value} (h : Arr w g' t cs) (hg : g' ≠ g) (v0 v1 v2 v3 v4 v5 v6 v7 v8 : Value) : Arr (Proofs.Ytibfnefdpbdkoaa.set9 w g v0 v1 v2 v3 v4 v5 v6 v7 v8) g' t cs :=
  ((((((((h.other (p := ⟨g, 0, none⟩) hg v0).other (p := ⟨g, 1, none⟩) hg v1).other (p := ⟨g, 2, none⟩) hg v2).other (p := ⟨g, 3, none⟩) hg v3).other (p := ⟨g, 4, none⟩) hg v4).other (p := ⟨g, 5, none⟩) hg v5).other (p := ⟨g, 6, none⟩) hg v6).other (p := ⟨g, 7, none⟩) hg v7).other (p := ⟨g, 8, none⟩) hg v8

set_option maxRecDepth 100000 in
theorem catch_idle (p q : Addr) (w : World) :
    CallsD Try.prog 47 #[.pointer (some p), .pointer (some q)] .returning w fun e u' w' => e = .returned (.tuple #[]) ∧ u' = .returning ∧ w' = w := by
  have hnil : ∀ w : World, (binOp BinOp.neq 20 .nilIface .nilIface).run Try.prog w = .ok (.bool false) w := fun _ => by kernel_rfl
  refine callsD_of_wpS Try.func47 rfl fun c₀ cs hu => ?_
  apply wpS_seq
  apply wpS_region
  simp [wpOpsS, go_sem, recoverD, hu, Try.ntmps47, Exit.thenS]
  apply wpS_seq
  apply wpS_region
  simp [wpOpsS, go_sem, Exit.thenS]
  refine wpS_cond (t := false) (by simp [Act.eval, Array.replicate]) ?_
  simp only [Bool.false_eq_true, if_false]
  refine wpS_of_wp (wp_skip ?_)
  cases c₀
  simp_all [bodyPostS, results, Try.results47]

set_option maxRecDepth 100000 in
set_option maxHeartbeats 1000000 in
theorem catch_panicking (b0 : Nat) (er : Int) (older : List PanicEntry) (w : World) (hT : Arr w b0 33 zeroC) (hE : Arr w (b0 + 1) 24 [.int .i64 0]) :
    CallsD Try.prog 47 #[.pointer (some ⟨b0, 0, none⟩), .pointer (some ⟨b0 + 1, 0, none⟩)] (.panicking ({ v := .iface 24 (.int .i64 er), recovered := false } :: older)) w fun e u' w' =>
      e = .returned (.tuple #[]) ∧ u' = .panicking ({ v := .iface 24 (.int .i64 er), recovered := true } :: older) ∧ Arr w' b0 33 zeroC ∧ Arr w' (b0 + 1) 24 [.int .i64 er] ∧ Below b0 w w' := by
  refine callsD_of_wpS Try.func47 rfl fun c₀ cs hu => ?_
  apply wpS_seq
  apply wpS_region
  simp [wpOpsS, go_sem, recoverD, hu, Try.ntmps47, Exit.thenS]
  apply wpS_seq
  apply wpS_region
  simp [wpOpsS, go_sem, Exit.thenS]
  refine wpS_cond (t := true) (by simp [Act.eval, Array.replicate]) ?_
  simp only [if_true]
  refine wpS_of_wp ?_
  obtain ⟨y0, y1, y2, y3, y4, y5, y6, y7, y8⟩ := hT.cells9
  have f0 := hT.frozen 0
  have f1 := hT.frozen 1
  have f2 := hT.frozen 2
  have f3 := hT.frozen 3
  have f4 := hT.frozen 4
  have f5 := hT.frozen 5
  have f6 := hT.frozen 6
  have f7 := hT.frozen 7
  have f8 := hT.frozen 8
  have x0 := hE.cell (i := 0) rfl
  have g0 := hE.frozen 0
  have hta : ∀ w : World, (Instr.typeAssert (.iface 24 (.int .i64 er)) 20 24 false).run Try.prog w = .ok (.int .i64 er) w := fun _ => by kernel_rfl
  show Code.wp Try.prog _ _ { tmps := #[.pointer (some ⟨b0, 0, none⟩), .pointer (some ⟨b0 + 1, 0, none⟩), .iface 24 (.int .i64 er), .iface 24 (.int .i64 er), .iface 24 (.int .i64 er), .bool true, undef, undef, undef], defers := [] } w
  go_region
  have a1 : Arr ((set9 w b0 (.int .i64 0) (.string ⟨#[]⟩) (.string ⟨#[]⟩) (.int .u64 0) (.int .u64 0) (.string ⟨#[]⟩) (.string ⟨#[]⟩) (.slice none 0 0) (.slice none 0 0)).setCell ⟨b0 + 1, 0, none⟩ (.int .i64 er)).drew b0 33 zeroC := ((hT.set9 (.int .i64 0) (.string ⟨#[]⟩) (.string ⟨#[]⟩) (.int .u64 0) (.int .u64 0) (.string ⟨#[]⟩) (.string ⟨#[]⟩) (.slice none 0 0) (.slice none 0 0)).other (p := ⟨b0 + 1, 0, none⟩) (by show b0 ≠ b0 + 1; omega) (.int .i64 er)).drew
  have a2 : Arr ((set9 w b0 (.int .i64 0) (.string ⟨#[]⟩) (.string ⟨#[]⟩) (.int .u64 0) (.int .u64 0) (.string ⟨#[]⟩) (.string ⟨#[]⟩) (.slice none 0 0) (.slice none 0 0)).setCell ⟨b0 + 1, 0, none⟩ (.int .i64 er)).drew (b0 + 1) 24 [.int .i64 er] := ((hE.other9 (by omega) (.int .i64 0) (.string ⟨#[]⟩) (.string ⟨#[]⟩) (.int .u64 0) (.int .u64 0) (.string ⟨#[]⟩) (.string ⟨#[]⟩) (.slice none 0 0) (.slice none 0 0)).set 0 (.int .i64 er)).drew
  have a3 : Below b0 w ((set9 w b0 (.int .i64 0) (.string ⟨#[]⟩) (.string ⟨#[]⟩) (.int .u64 0) (.int .u64 0) (.string ⟨#[]⟩) (.string ⟨#[]⟩) (.slice none 0 0) (.slice none 0 0)).setCell ⟨b0 + 1, 0, none⟩ (.int .i64 er)).drew := Below.drew ((below_set9 (Below.refl b0 w) (Nat.le_refl _) (.int .i64 0) (.string ⟨#[]⟩) (.string ⟨#[]⟩) (.int .u64 0) (.int .u64 0) (.string ⟨#[]⟩) (.string ⟨#[]⟩) (.slice none 0 0) (.slice none 0 0)).setCell (p := ⟨b0 + 1, 0, none⟩) (by show b0 ≤ b0 + 1; omega) (.int .i64 er))
  unfold set9 at a1 a2 a3
  have fin := And.intro a1 (And.intro a2 a3)
  clear a1 a2 a3
  revert fin
  generalize (World.setCell _ ⟨b0 + 1, 0, none⟩ (.int .i64 er)).drew = wf
  intro fin
  cases c₀
  simp [bodyPostS, results, Try.results47]
  exact fin

theorem infoErrno : (Try.prog.info? 24).map (·.size) = some 1 := by kernel_rfl

theorem results_dec {fn : Func} {p q : Tmp} (h : fn.results = #[.cell p 33, .cell q 24]) (tmps : Array Value) (w : World) (g g2 : Nat) (d : TxD) (ra : Option Addr) (rc : Nat) (wa : Option Addr) (wc : Nat) (er : Int)
    (hp : tmps.getD p undef = .pointer (some ⟨g, 0, none⟩)) (hg : Arr w g 33 (txC d ra rc wa wc)) (hq : tmps.getD q undef = .pointer (some ⟨g2, 0, none⟩)) (hg2 : Arr w g2 24 [.int .i64 er]) :
    (results fn tmps).run Try.prog w = .ok (.tuple #[txV d ra rc wa wc, .int .i64 er]) w := by
  have hl := run_loadVar_row w g 33 33 (txC d ra rc wa wc).toArray (0, 0) _ hg Try.underlying33 rfl infoTx
  have hc := hg2.cell (i := 0) rfl
  have hp' : tmps[p]?.getD undef = .pointer (some ⟨g, 0, none⟩) := by simpa using hp
  have hq' : tmps[q]?.getD undef = .pointer (some ⟨g2, 0, none⟩) := by simpa using hq
  have hl2 : (loadVar 24 ⟨g2, 0, none⟩).run Try.prog w = .ok (.int .i64 er) w := by
    simp [go_sem, hc]
  simp [results, h, hp', hq', asAddr, hl, hl2]
  rfl

/-- Decode hands back a transaction and an error. -/
def GotDec (W : World) (r : TxD × Nat) (e : Ending) (w : World) : Prop :=
  ∃ ra rc wa wc, e = .returned (.tuple #[txV r.1 ra rc wa wc, .int .i64 (r.2 : Int)]) ∧ TxAt w r.1 ra wa ∧ (ra = none → rc = 0) ∧ (wa = none → wc = 0) ∧ Below W.heap.size W w

/-- The same, and its lists lie in new memory. -/
def GotDecO (W : World) (r : TxD × Nat) (e : Ending) (w : World) : Prop :=
  ∃ ra rc wa wc, e = .returned (.tuple #[txV r.1 ra rc wa wc, .int .i64 (r.2 : Int)]) ∧ OwnStrs W.heap.size w ra r.1.rs ∧ OwnStrs W.heap.size w wa r.1.ws ∧ (ra = none → rc = 0) ∧ (wa = none → wc = 0) ∧ Below W.heap.size W w

theorem GotDecO.got {W : World} {r : TxD × Nat} {e : Ending} {w : World} (h : GotDecO W r e w) : GotDec W r e w := by
  obtain ⟨ra, rc, wa, wc, h1, h2, h3, h4⟩ := h
  exact ⟨ra, rc, wa, wc, h1, ⟨h2.at, h3.at⟩, h4⟩

theorem nil_own (b : Nat) (w : World) (ao : Option Addr) : OwnStrs b w ao [] := fun j hj => absurd hj (by simp)

set_option maxRecDepth 100000 in
set_option maxHeartbeats 1000000 in
theorem decode_own (s : ByteArray) (w : World) (hs : s.size ≤ maxLen) :
    Calls Try.prog 44 #[.string s] w fun e w' => GotDecO w (decL s.data.toList) e w' := by
  have hmf : ∀ (fn : Fn) (first cap : Array Value) (w : World), (Instr.makeFunc fn first cap).run Try.prog w = .ok (.func fn first cap) w := fun _ _ _ _ => rfl
  obtain ⟨hT, hE, hB⟩ := two_new w 33 24 zeroC [.int .i64 0]
  have hR := Arr.new ((w.alloc (.cells zeroC.toArray 33)).alloc (.cells #[.int .i64 0] 24)) 95 [.string s]
  rw [alloc_size, alloc_size] at hR
  have cT := tx_any s (w.heap.size + 1 + 1) _ hR hs
  have hT3 := hT.alloc (.cells #[.string s] 95)
  have hE3 := hE.alloc (.cells #[.string s] 95)
  have hB3 := hB.alloc hB.size (.cells #[.string s] 95)
  clear hT hE hB hR
  go_enter_defers Try.func44, Try.ntmps44
  go_wp2_with fail
  refine cT.mono ?_
  rintro e w1 (⟨hz, ra, rc, wa, wc, rfl, hO1, hO2, hr, hw, hb⟩ | ⟨hz, rfl, hb⟩)
  · have hT1 := hT3.below hb (by omega)
    have hE1 := hE3.below hb (by omega)
    have hB1 := hB3.trans (hb.mono (by omega))
    clear hT3 hE3 hB3 hb cT
    obtain ⟨y0, y1, y2, y3, y4, y5, y6, y7, y8⟩ := hT1.cells9
    have f0 := hT1.frozen 0
    have f1 := hT1.frozen 1
    have f2 := hT1.frozen 2
    have f3 := hT1.frozen 3
    have f4 := hT1.frozen 4
    have f5 := hT1.frozen 5
    have f6 := hT1.frozen 6
    have f7 := hT1.frozen 7
    have f8 := hT1.frozen 8
    have x0 := hE1.cell (i := 0) rfl
    have g0 := hE1.frozen 0
    obtain ⟨d, hd⟩ : ∃ d, d = (decL s.data.toList).1 := ⟨_, rfl⟩
    rw [← hd] at hO1 hO2 ⊢
    have Hd : Hid (decL s.data.toList = (d, 0)) := by show _ = _; rw [hd, ← hz]
    clear hd hz
    unfold txV
    go_wp2
    have aT := (hT1.set9 (.int .i64 d.kind) (.string d.frm) (.string d.to) (.int .u64 (d.amt : Int)) (.int .u64 (d.non : Int)) (.string d.key) (.string d.val) (.slice ra d.rs.length rc) (.slice wa d.ws.length wc)).other (p := ⟨w.heap.size + 1, 0, none⟩) (by show w.heap.size ≠ w.heap.size + 1; omega) (.int .i64 0)
    have aE := (hE1.other9 (g := w.heap.size) (by omega) (.int .i64 d.kind) (.string d.frm) (.string d.to) (.int .u64 (d.amt : Int)) (.int .u64 (d.non : Int)) (.string d.key) (.string d.val) (.slice ra d.rs.length rc) (.slice wa d.ws.length wc)).set 0 (.int .i64 0)
    have aB := (below_set9 hB1 (g := w.heap.size) (Nat.le_refl _) (.int .i64 d.kind) (.string d.frm) (.string d.to) (.int .u64 (d.amt : Int)) (.int .u64 (d.non : Int)) (.string d.key) (.string d.val) (.slice ra d.rs.length rc) (.slice wa d.ws.length wc)).setCell (p := ⟨w.heap.size + 1, 0, none⟩) (by show w.heap.size ≤ w.heap.size + 1; omega) (.int .i64 0)
    have a1 := (hO1.set9 (g := w.heap.size) (by omega) (.int .i64 d.kind) (.string d.frm) (.string d.to) (.int .u64 (d.amt : Int)) (.int .u64 (d.non : Int)) (.string d.key) (.string d.val) (.slice ra d.rs.length rc) (.slice wa d.ws.length wc)).put (p := ⟨w.heap.size + 1, 0, none⟩) (by show w.heap.size + 1 < _; omega) (.int .i64 0)
    have a2 := (hO2.set9 (g := w.heap.size) (by omega) (.int .i64 d.kind) (.string d.frm) (.string d.to) (.int .u64 (d.amt : Int)) (.int .u64 (d.non : Int)) (.string d.key) (.string d.val) (.slice ra d.rs.length rc) (.slice wa d.ws.length wc)).put (p := ⟨w.heap.size + 1, 0, none⟩) (by show w.heap.size + 1 < _; omega) (.int .i64 0)
    unfold set9 at aT aE aB a1 a2
    replace aT : Arr _ w.heap.size 33 (txC d ra rc wa wc) := aT
    clear hT1 hE1 hB1 hO1 hO2 y0 y1 y2 y3 y4 y5 y6 y7 y8 f0 f1 f2 f3 f4 f5 f6 f7 f8 x0 g0
    have fin := And.intro aT (And.intro aE (And.intro aB (And.intro a1 a2)))
    clear aT aE aB a1 a2
    revert fin
    generalize (World.setCell _ ⟨w.heap.size + 1, 0, none⟩ (.int .i64 0)) = wf
    rintro ⟨aT, aE, aB, a1, a2⟩
    refine leaves_cons (f := 47) (args := #[.pointer (some ⟨w.heap.size, 0, none⟩), .pointer (some ⟨w.heap.size + 1, 0, none⟩)]) (by simp) (by simp [go_sem]) ?_
    refine (catch_idle ⟨w.heap.size, 0, none⟩ ⟨w.heap.size + 1, 0, none⟩ _).mono ?_
    rintro e u' w'' ⟨rfl, rfl, rfl⟩
    refine ⟨_, results_dec rfl _ _ w.heap.size (w.heap.size + 1) d ra rc wa wc 0 rfl aT rfl aE, ?_⟩
    rw [Hd.out]
    exact ⟨ra, rc, wa, wc, rfl, a1.mono (by omega), a2.mono (by omega), hr, hw, aB⟩
  · have hT1 := hT3.below hb (by omega)
    have hE1 := hE3.below hb (by omega)
    have hB1 := hB3.trans (hb.mono (by omega))
    clear hT3 hE3 hB3 hb cT
    have hn := dec_none s.data.toList hz
    obtain ⟨er, he⟩ : ∃ er, er = (decL s.data.toList).2 := ⟨_, rfl⟩
    rw [← he]
    have Hd : Hid (decL s.data.toList = (.none, er)) := by show _ = _; rw [he, ← hn]
    clear hn hz he
    go_wp2
    refine leaves_cons (f := 47) (args := #[.pointer (some ⟨w.heap.size, 0, none⟩), .pointer (some ⟨w.heap.size + 1, 0, none⟩)]) (by simp) (by simp [go_sem]) ?_
    refine (catch_panicking w.heap.size er [] _ hT1 hE1).mono ?_
    rintro e u' w'' ⟨rfl, rfl, aT, aE, aB⟩
    refine ⟨_, results_dec rfl _ _ w.heap.size (w.heap.size + 1) .none none 0 none 0 er rfl aT rfl aE, ?_⟩
    rw [Hd.out]
    exact ⟨none, 0, none, 0, rfl, nil_own _ _ _, nil_own _ _ _, fun _ => rfl, fun _ => rfl, hB1.trans aB⟩

theorem decode_any (s : ByteArray) (w : World) (hs : s.size ≤ maxLen) :
    Calls Try.prog 44 #[.string s] w fun e w' => GotDec w (decL s.data.toList) e w' := (decode_own s w hs).mono fun _ _ h => h.got
end Go.Proofs.Ytibfnefdpbdkoaa
