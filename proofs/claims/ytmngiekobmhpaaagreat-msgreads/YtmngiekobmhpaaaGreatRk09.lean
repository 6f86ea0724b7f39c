/- Texts as one: TxDecode, BatDecode, RunX, HdrTake, HdrTags, HdrSets. -/
import Derived.Test.YtmngiekobmhpaaaGreatRk08
import Derived.Defers
import Derived.Recover
import Derived.RegionTactic
import Derived.Test.YtmngiekobmhpaaaGreatRk04
import Derived.Test.YtmngiekobmhpaaaGreatRk07
import Derived.WalkSmall
import Derived.Laws.ResultCell
import Derived.BigRegion
/- What Decode does: the transaction of bytes, or the first error, caught; nothing old in memory is turned. -/
namespace Go.Proofs.YtmngiekobmhpaaaGreat
open Go.RowKit
set_option linter.unusedVariables false

theorem Arr.other9 {w : World} {g g' : Nat} {t : TypeId} {cs : List Value} (h : Arr w g' t cs) (hg : g' ≠ g) (v0 v1 v2 v3 v4 v5 v6 v7 v8 : Value) : Arr (Proofs.YtmngiekobmhpaaaGreat.set9 w g v0 v1 v2 v3 v4 v5 v6 v7 v8) g' t cs :=
  ((((((((h.other (p := ⟨g, 0, none⟩) hg v0).other (p := ⟨g, 1, none⟩) hg v1).other (p := ⟨g, 2, none⟩) hg v2).other (p := ⟨g, 3, none⟩) hg v3).other (p := ⟨g, 4, none⟩) hg v4).other (p := ⟨g, 5, none⟩) hg v5).other (p := ⟨g, 6, none⟩) hg v6).other (p := ⟨g, 7, none⟩) hg v7).other (p := ⟨g, 8, none⟩) hg v8

set_option maxRecDepth 100000 in
theorem catch_idle (p q : Addr) (w : World) :
    CallsD Tryz.prog 131 #[.pointer (some p), .pointer (some q)] .returning w fun e u' w' => e = .returned (.tuple #[]) ∧ u' = .returning ∧ w' = w := by
  have hnil : ∀ w : World, (binOp BinOp.neq 20 .nilIface .nilIface).run Tryz.prog w = .ok (.bool false) w := fun _ => by kernel_rfl
  refine callsD_of_wpS Tryz.func131 rfl fun c₀ cs hu => ?_
  apply wpS_seq
  apply wpS_region
  simp [wpOpsS, go_sem, recoverD, hu, Tryz.ntmps131, Exit.thenS]
  apply wpS_seq
  apply wpS_region
  simp [wpOpsS, go_sem, Exit.thenS]
  refine wpS_cond (t := false) (by simp [Act.eval, Array.replicate]) ?_
  simp only [Bool.false_eq_true, if_false]
  refine wpS_of_wp (wp_skip ?_)
  cases c₀
  simp_all [bodyPostS, results, Tryz.results131]

set_option maxRecDepth 100000 in
set_option maxHeartbeats 1000000 in
theorem catch_panicking (b0 : Nat) (er : Int) (older : List PanicEntry) (w : World) (hT : Arr w b0 123 zeroC) (hE : Arr w (b0 + 1) 40 [.int .i64 0]) :
    CallsD Tryz.prog 131 #[.pointer (some ⟨b0, 0, none⟩), .pointer (some ⟨b0 + 1, 0, none⟩)] (.panicking ({ v := .iface 40 (.int .i64 er), recovered := false } :: older)) w fun e u' w' =>
      e = .returned (.tuple #[]) ∧ u' = .panicking ({ v := .iface 40 (.int .i64 er), recovered := true } :: older) ∧ Arr w' b0 123 zeroC ∧ Arr w' (b0 + 1) 40 [.int .i64 er] ∧ Below b0 w w' := by
  refine callsD_of_wpS Tryz.func131 rfl fun c₀ cs hu => ?_
  apply wpS_seq
  apply wpS_region
  simp [wpOpsS, go_sem, recoverD, hu, Tryz.ntmps131, Exit.thenS]
  apply wpS_seq
  apply wpS_region
  simp [wpOpsS, go_sem, Exit.thenS]
  refine wpS_cond (t := true) (by simp [Act.eval, Array.replicate]) ?_
  simp only [if_true]
  refine wpS_of_wp ?_
  obtain ⟨y0, y1, y2, y3, y4, y5, y6, y7, y8⟩ := hT.cells9
  have f0 := hT.frozen 0
  have f1 := hT.frozen 1
  have f2 := hT.frozen 2
  have f3 := hT.frozen 3
  have f4 := hT.frozen 4
  have f5 := hT.frozen 5
  have f6 := hT.frozen 6
  have f7 := hT.frozen 7
  have f8 := hT.frozen 8
  have x0 := hE.cell (i := 0) rfl
  have g0 := hE.frozen 0
  have hta : ∀ w : World, (Instr.typeAssert (.iface 40 (.int .i64 er)) 20 40 false).run Tryz.prog w = .ok (.int .i64 er) w := fun _ => by kernel_rfl
  show Code.wp Tryz.prog _ _ { tmps := #[.pointer (some ⟨b0, 0, none⟩), .pointer (some ⟨b0 + 1, 0, none⟩), .iface 40 (.int .i64 er), .iface 40 (.int .i64 er), .iface 40 (.int .i64 er), .bool true, undef, undef, undef], defers := [] } w
  go_region
  have a1 : Arr ((set9 w b0 (.int .i64 0) (.string ⟨#[]⟩) (.string ⟨#[]⟩) (.int .u64 0) (.int .u64 0) (.string ⟨#[]⟩) (.string ⟨#[]⟩) (.slice none 0 0) (.slice none 0 0)).setCell ⟨b0 + 1, 0, none⟩ (.int .i64 er)).drew b0 123 zeroC := ((hT.set9 (.int .i64 0) (.string ⟨#[]⟩) (.string ⟨#[]⟩) (.int .u64 0) (.int .u64 0) (.string ⟨#[]⟩) (.string ⟨#[]⟩) (.slice none 0 0) (.slice none 0 0)).other (p := ⟨b0 + 1, 0, none⟩) (by show b0 ≠ b0 + 1; omega) (.int .i64 er)).drew
  have a2 : Arr ((set9 w b0 (.int .i64 0) (.string ⟨#[]⟩) (.string ⟨#[]⟩) (.int .u64 0) (.int .u64 0) (.string ⟨#[]⟩) (.string ⟨#[]⟩) (.slice none 0 0) (.slice none 0 0)).setCell ⟨b0 + 1, 0, none⟩ (.int .i64 er)).drew (b0 + 1) 40 [.int .i64 er] := ((hE.other9 (by omega) (.int .i64 0) (.string ⟨#[]⟩) (.string ⟨#[]⟩) (.int .u64 0) (.int .u64 0) (.string ⟨#[]⟩) (.string ⟨#[]⟩) (.slice none 0 0) (.slice none 0 0)).set 0 (.int .i64 er)).drew
  have a3 : Below b0 w ((set9 w b0 (.int .i64 0) (.string ⟨#[]⟩) (.string ⟨#[]⟩) (.int .u64 0) (.int .u64 0) (.string ⟨#[]⟩) (.string ⟨#[]⟩) (.slice none 0 0) (.slice none 0 0)).setCell ⟨b0 + 1, 0, none⟩ (.int .i64 er)).drew := Below.drew ((below_set9 (Below.refl b0 w) (Nat.le_refl _) (.int .i64 0) (.string ⟨#[]⟩) (.string ⟨#[]⟩) (.int .u64 0) (.int .u64 0) (.string ⟨#[]⟩) (.string ⟨#[]⟩) (.slice none 0 0) (.slice none 0 0)).setCell (p := ⟨b0 + 1, 0, none⟩) (by show b0 ≤ b0 + 1; omega) (.int .i64 er))
  unfold set9 at a1 a2 a3
  have fin := And.intro a1 (And.intro a2 a3)
  clear a1 a2 a3
  revert fin
  generalize (World.setCell _ ⟨b0 + 1, 0, none⟩ (.int .i64 er)).drew = wf
  intro fin
  cases c₀
  simp [bodyPostS, results, Tryz.results131]
  exact fin

theorem results_dec {fn : Func} {p q : Tmp} (h : fn.results = #[.cell p 123, .cell q 40]) (tmps : Array Value) (w : World) (g g2 : Nat) (d : TxD) (ra : Option Addr) (rc : Nat) (wa : Option Addr) (wc : Nat) (er : Int)
    (hp : tmps.getD p undef = .pointer (some ⟨g, 0, none⟩)) (hg : Arr w g 123 (txC d ra rc wa wc)) (hq : tmps.getD q undef = .pointer (some ⟨g2, 0, none⟩)) (hg2 : Arr w g2 40 [.int .i64 er]) :
    (results fn tmps).run Tryz.prog w = .ok (.tuple #[txV d ra rc wa wc, .int .i64 er]) w := by
  have hl := run_loadVar_row w g 123 123 (txC d ra rc wa wc).toArray (0, 0) _ hg Tryz.underlying123 rfl infoTx
  have hc := hg2.cell (i := 0) rfl
  have hp' : tmps[p]?.getD undef = .pointer (some ⟨g, 0, none⟩) := by simpa using hp
  have hq' : tmps[q]?.getD undef = .pointer (some ⟨g2, 0, none⟩) := by simpa using hq
  have hl2 : (loadVar 40 ⟨g2, 0, none⟩).run Tryz.prog w = .ok (.int .i64 er) w := by
    simp [go_sem, hc]
  simp [results, h, hp', hq', asAddr, hl, hl2]
  rfl

/-- Decode hands back a transaction and an error. -/
def GotDec (W : World) (r : TxD × Nat) (e : Ending) (w : World) : Prop :=
  ∃ ra rc wa wc, e = .returned (.tuple #[txV r.1 ra rc wa wc, .int .i64 (r.2 : Int)]) ∧ TxAt w r.1 ra wa ∧ (ra = none → rc = 0) ∧ (wa = none → wc = 0) ∧ Below W.heap.size W w

/-- The same, and its lists lie in new memory. -/
def GotDecO (W : World) (r : TxD × Nat) (e : Ending) (w : World) : Prop :=
  ∃ ra rc wa wc, e = .returned (.tuple #[txV r.1 ra rc wa wc, .int .i64 (r.2 : Int)]) ∧ OwnStrs W.heap.size w ra r.1.rs ∧ OwnStrs W.heap.size w wa r.1.ws ∧ (ra = none → rc = 0) ∧ (wa = none → wc = 0) ∧ Below W.heap.size W w

theorem nil_own (b : Nat) (w : World) (ao : Option Addr) : OwnStrs b w ao [] := fun j hj => absurd hj (by simp)

set_option maxRecDepth 100000 in
set_option maxHeartbeats 1000000 in
theorem decode_own (s : ByteArray) (w : World) (hs : s.size ≤ maxLen) :
    Calls Tryz.prog 122 #[.string s] w fun e w' => GotDecO w (decL s.data.toList) e w' := by
  have hmf : ∀ (fn : Fn) (first cap : Array Value) (w : World), (Instr.makeFunc fn first cap).run Tryz.prog w = .ok (.func fn first cap) w := fun _ _ _ _ => rfl
  obtain ⟨hT, hE, hB⟩ := two_new w 123 40 zeroC [.int .i64 0]
  have hR := Arr.new ((w.alloc (.cells zeroC.toArray 123)).alloc (.cells #[.int .i64 0] 40)) 174 [.string s]
  rw [alloc_size, alloc_size] at hR
  have cT := tx_any s (w.heap.size + 1 + 1) _ hR hs
  have hT3 := hT.alloc (.cells #[.string s] 174)
  have hE3 := hE.alloc (.cells #[.string s] 174)
  have hB3 := hB.alloc hB.size (.cells #[.string s] 174)
  clear hT hE hB hR
  go_enter_defers Tryz.func122, Tryz.ntmps122
  go_wp2_with fail
  refine cT.mono ?_
  rintro e w1 (⟨hz, ra, rc, wa, wc, rfl, hO1, hO2, hr, hw, hb⟩ | ⟨hz, rfl, hb⟩)
  · have hT1 := hT3.below hb (by omega)
    have hE1 := hE3.below hb (by omega)
    have hB1 := hB3.trans (hb.mono (by omega))
    clear hT3 hE3 hB3 hb cT
    obtain ⟨y0, y1, y2, y3, y4, y5, y6, y7, y8⟩ := hT1.cells9
    have f0 := hT1.frozen 0
    have f1 := hT1.frozen 1
    have f2 := hT1.frozen 2
    have f3 := hT1.frozen 3
    have f4 := hT1.frozen 4
    have f5 := hT1.frozen 5
    have f6 := hT1.frozen 6
    have f7 := hT1.frozen 7
    have f8 := hT1.frozen 8
    have x0 := hE1.cell (i := 0) rfl
    have g0 := hE1.frozen 0
    obtain ⟨d, hd⟩ : ∃ d, d = (decL s.data.toList).1 := ⟨_, rfl⟩
    rw [← hd] at hO1 hO2 ⊢
    have Hd : Hid (decL s.data.toList = (d, 0)) := by show _ = _; rw [hd, ← hz]
    clear hd hz
    unfold txV
    go_wp2
    have aT := (hT1.set9 (.int .i64 d.kind) (.string d.frm) (.string d.to) (.int .u64 (d.amt : Int)) (.int .u64 (d.non : Int)) (.string d.key) (.string d.val) (.slice ra d.rs.length rc) (.slice wa d.ws.length wc)).other (p := ⟨w.heap.size + 1, 0, none⟩) (by show w.heap.size ≠ w.heap.size + 1; omega) (.int .i64 0)
    have aE := (hE1.other9 (g := w.heap.size) (by omega) (.int .i64 d.kind) (.string d.frm) (.string d.to) (.int .u64 (d.amt : Int)) (.int .u64 (d.non : Int)) (.string d.key) (.string d.val) (.slice ra d.rs.length rc) (.slice wa d.ws.length wc)).set 0 (.int .i64 0)
    have aB := (below_set9 hB1 (g := w.heap.size) (Nat.le_refl _) (.int .i64 d.kind) (.string d.frm) (.string d.to) (.int .u64 (d.amt : Int)) (.int .u64 (d.non : Int)) (.string d.key) (.string d.val) (.slice ra d.rs.length rc) (.slice wa d.ws.length wc)).setCell (p := ⟨w.heap.size + 1, 0, none⟩) (by show w.heap.size ≤ w.heap.size + 1; omega) (.int .i64 0)
    have a1 := (hO1.set9 (g := w.heap.size) (by omega) (.int .i64 d.kind) (.string d.frm) (.string d.to) (.int .u64 (d.amt : Int)) (.int .u64 (d.non : Int)) (.string d.key) (.string d.val) (.slice ra d.rs.length rc) (.slice wa d.ws.length wc)).put (p := ⟨w.heap.size + 1, 0, none⟩) (by show w.heap.size + 1 < _; omega) (.int .i64 0)
    have a2 := (hO2.set9 (g := w.heap.size) (by omega) (.int .i64 d.kind) (.string d.frm) (.string d.to) (.int .u64 (d.amt : Int)) (.int .u64 (d.non : Int)) (.string d.key) (.string d.val) (.slice ra d.rs.length rc) (.slice wa d.ws.length wc)).put (p := ⟨w.heap.size + 1, 0, none⟩) (by show w.heap.size + 1 < _; omega) (.int .i64 0)
    unfold set9 at aT aE aB a1 a2
    replace aT : Arr _ w.heap.size 123 (txC d ra rc wa wc) := aT
    clear hT1 hE1 hB1 hO1 hO2 y0 y1 y2 y3 y4 y5 y6 y7 y8 f0 f1 f2 f3 f4 f5 f6 f7 f8 x0 g0
    have fin := And.intro aT (And.intro aE (And.intro aB (And.intro a1 a2)))
    clear aT aE aB a1 a2
    revert fin
    generalize (World.setCell _ ⟨w.heap.size + 1, 0, none⟩ (.int .i64 0)) = wf
    rintro ⟨aT, aE, aB, a1, a2⟩
    refine leaves_cons (f := 131) (args := #[.pointer (some ⟨w.heap.size, 0, none⟩), .pointer (some ⟨w.heap.size + 1, 0, none⟩)]) (by simp) (by simp [go_sem]) ?_
    refine (catch_idle ⟨w.heap.size, 0, none⟩ ⟨w.heap.size + 1, 0, none⟩ _).mono ?_
    rintro e u' w'' ⟨rfl, rfl, rfl⟩
    refine ⟨_, results_dec rfl _ _ w.heap.size (w.heap.size + 1) d ra rc wa wc 0 rfl aT rfl aE, ?_⟩
    rw [Hd.out]
    exact ⟨ra, rc, wa, wc, rfl, a1.mono (by omega), a2.mono (by omega), hr, hw, aB⟩
  · have hT1 := hT3.below hb (by omega)
    have hE1 := hE3.below hb (by omega)
    have hB1 := hB3.trans (hb.mono (by omega))
    clear hT3 hE3 hB3 hb cT
    have hn := dec_none s.data.toList hz
    obtain ⟨er, he⟩ : ∃ er, er = (decL s.data.toList).2 := ⟨_, rfl⟩
    rw [← he]
    have Hd : Hid (decL s.data.toList = (.none, er)) := by show _ = _; rw [he, ← hn]
    clear hn hz he
    go_wp2
    refine leaves_cons (f := 131) (args := #[.pointer (some ⟨w.heap.size, 0, none⟩), .pointer (some ⟨w.heap.size + 1, 0, none⟩)]) (by simp) (by simp [go_sem]) ?_
    refine (catch_panicking w.heap.size er [] _ hT1 hE1).mono ?_
    rintro e u' w'' ⟨rfl, rfl, aT, aE, aB⟩
    refine ⟨_, results_dec rfl _ _ w.heap.size (w.heap.size + 1) .none none 0 none 0 er rfl aT rfl aE, ?_⟩
    rw [Hd.out]
    exact ⟨none, 0, none, 0, rfl, nil_own _ _ _, nil_own _ _ _, fun _ => rfl, fun _ => rfl, hB1.trans aB⟩
end Go.Proofs.YtmngiekobmhpaaaGreat

/- What decodeAll and batch.Decode do; nothing old in memory is turned. -/
namespace Go.Proofs.YtmngiekobmhpaaaGreat
open Go.RowKit
set_option linter.unusedVariables false

/-- decodeAll hands back a row and an error. -/
def GotAll (W : World) (r : Except Nat (List TxD)) (e : Ending) (w : World) : Prop :=
  ∃ ao cap l er, e = .returned (.tuple #[.slice ao (l : List TxM).length cap, .int .i64 ((er : Nat) : Int)]) ∧ TxsAt w ao l ∧ (ao = none → cap = 0) ∧ ((er = 0 ∧ r = .ok (dl l)) ∨ (er ≠ 0 ∧ r = .error er ∧ l = [])) ∧ (∀ b o, ao = some ⟨b, o, none⟩ → W.heap.size ≤ b) ∧ (∀ x ∈ l, x.Off (fun k => k < W.heap.size)) ∧ Below W.heap.size W w

theorem decE_of {l : List UInt8} {d : TxD} {er : Nat} (h : decL l = (d, er)) : (er = 0 → decE l = .ok d) ∧ (er ≠ 0 → decE l = .error er) := by
  unfold decE
  rw [h]
  exact ⟨fun e => by rw [if_neg (by simpa using e)], fun e => by rw [if_pos e]⟩

set_option maxRecDepth 100000 in
set_option maxHeartbeats 4000000 in
theorem decodeAll_any (ao : Option Addr) (cap : Nat) (ss : List ByteArray) (w : World) (hS : StrsAt w ao ss) (hsz : ∀ s ∈ ss, s.size ≤ maxLen) (hn : ss.length ≤ 16) :
    Calls Tryz.prog 92 #[.slice ao ss.length cap] w fun e w' => GotAll w (eachE decE (bl ss)) e w' := by
  obtain ⟨i0, hi, hz0, hz1, hz2⟩ := info_parts infoTx4
  go_enter Tryz.func92, Tryz.ntmps92
  go_wp2
  go_loopw [4, 6, 7, 8, 11] (fun v4 v6 v7 v8 v11 wr => ∃ (k : Nat) (l : List TxM), k ≤ ss.length ∧ l.length = k ∧ v11 = .int .i64 (k : Int) ∧ TxQ wr w.heap.size v4 l ∧ Hid (eachE decE ((bl ss).take k) = .ok (dl l)) ∧ (∀ x ∈ l, x.Off (fun k => k < w.heap.size)) ∧ Below w.heap.size w wr) (fun _ _ _ _ v _ => ss.length - (intOf v).toNat)
  case atStart => exact ⟨0, [], Nat.zero_le _, rfl, rfl, TxQ.empty _ _, by show _ = _; rfl, (fun x hx => by cases hx), Below.refl _ _⟩
  case round =>
    obtain ⟨k, l, hk, hlk, rfl, hq, hE, hold, hb⟩ := hrel
    by_cases hlt : k < ss.length
    · obtain ⟨b, off, rfl, hbl, hcell⟩ := (hS.below hb) k hlt
      have hbk : (bl ss)[k]? = some ss[k].data.toList := by simp [bl, hlt]
      have hek := eachE_take (f := decE) (bl ss) k _ hbk (dl l) hE.out
      have hs1 := hsz ss[k] (List.getElem_mem hlt)
      obtain ⟨s, hs⟩ : ∃ s, s = ss[k] := ⟨_, rfl⟩
      rw [← hs] at hcell hek hs1
      rcases hd : decL s.data.toList with ⟨d, er⟩
      have hdE := decE_of hd
      have cD := fun w1 => decode_own s w1 hs1
      rw [hd] at cD
      have hek1 : Hid (∀ a, decE s.data.toList = .ok a → eachE decE ((bl ss).take (k + 1)) = .ok (dl l ++ [a])) := hek.1
      have hek2 : Hid (∀ e, decE s.data.toList = .error e → eachE decE (bl ss) = .error e) := hek.2
      clear hs hbk hek hd hE
      obtain ⟨qa, qc, rfl, hqn, _⟩ := hq.form
      rw [hlk] at hq ⊢
      go_wp2_with fail
      refine (cD _).mono ?_
      rintro e w1 ⟨ra, rc, wa, wc, rfl, hO1, hO2, hr, hw, hb1⟩
      have hq1 := hq.below hb1
      have hb2 := hb.trans (hb1.mono hb.size)
      have hoffx : TxM.Off ⟨d, ra, rc, wa, wc⟩ (fun j => (Value.slice qa k qc).ownBlock = some j) := off_own hO1 hO2 (fun j hj => (hq.lt j hj).2)
      have hold2 : ∀ x ∈ l ++ [⟨d, ra, rc, wa, wc⟩], x.Off (fun k => k < w.heap.size) := by
        intro x hx
        rw [List.mem_append, List.mem_singleton] at hx
        rcases hx with hx | rfl
        · exact hold x hx
        · exact off_own hO1 hO2 (fun j hj => Nat.lt_of_lt_of_le hj hb.size)
      have hx1 : TxM.At ⟨d, ra, rc, wa, wc⟩ w1 := ⟨⟨hO1.at, hO2.at⟩, hr, hw⟩
      clear hb1 cD hcell hO1 hO2 hq hb
      unfold txV
      by_cases he : er = 0
      · subst he
        have hE2 : Hid (eachE decE ((bl ss).take (k + 1)) = .ok (dl l ++ [d])) := hek1.out d (hdE.1 rfl)
        have hbx := belowNew w1 (.cells (TxM.c ⟨d, ra, rc, wa, wc⟩).toArray 123)
        have hq2 := hq1.below hbx
        have hx2 := hx1.below hbx
        have hb3 := hb2.trans (hbx.mono hb2.size)
        clear hek1 hek2 hdE hq1 hx1
        have hby2 := belowNew (w1.alloc (.cells (TxM.c ⟨d, ra, rc, wa, wc⟩).toArray 123)) (.cells (TxM.c ⟨d, ra, rc, wa, wc⟩).toArray 123)
        have hq3 := hq2.below hby2
        have hx3 := hx2.below hby2
        have hb4 := hb3.trans (hby2.mono hb3.size)
        have hnew := new_c (w1.alloc (.cells (TxM.c ⟨d, ra, rc, wa, wc⟩).toArray 123)) ⟨d, ra, rc, wa, wc⟩
        rw [alloc_size] at hnew
        have hrow3 := hq3.row
        rw [hlk] at hrow3
        clear hq2 hx2 hb3 hbx hby2
        go_wp2_with (at_builtin; refine wpList_append_q rfl _ _ 24 rfl w.heap.size 123 i0 _ 9 136 Tryz.underlying24 hi hz0 hz1 hz2 rfl (by decide) _ k (flatX l) rfl hrow3 ⟨w1.heap.size + 1, 0, none⟩ 1 1 (TxM.c ⟨d, ra, rc, wa, wc⟩) rfl (by decide) rfl hnew (c_one _) ?c3 ?c4 hb4.size ?_)
        case c3 => unfold maxLen; omega
        case c4 => omega
        intro q' w3 hrow hgr hfr
        have hq5 := hq3.push (m := [⟨d, ra, rc, wa, wc⟩]) (by intro x hx; simp at hx; rw [hx]; exact hx3) (by intro x hx; simp at hx; rw [hx]; exact hoffx) (by simp) (by rw [flatX_single, hlk]; exact hrow) hgr (fun g hg => by rw [alloc_size, alloc_size]; exact hfr g hg)
        have hb5 : Below w.heap.size w w3 := hb4.trans ((Kept.of_grown hgr).below hb4.size (fun j hj => (hq3.lt j hj).1))
        obtain ⟨qa2, qc2, rfl, _, _⟩ := QRow.form hrow
        clear hrow hgr hfr hq3 hx3 hb4 hnew hrow3
        go_wp2
        go_roundw
        case rel => exact ⟨k + 1, l ++ [⟨d, ra, rc, wa, wc⟩], by omega, by simp [hlk], by go_num, hq5, by show _ = _; rw [hE2.out]; simp [dl], hold2, hb5⟩
        case measure => simp [intOf]; omega
      · have hne : ((er : Int) != 0) = true := by rw [bne_iff_ne]; omega
        have hE2 : Hid (eachE decE (bl ss) = .error er) := hek2.out er (hdE.2 he)
        have hbx := belowNew w1 (.cells (TxM.c ⟨d, ra, rc, wa, wc⟩).toArray 123)
        have hb3 := hb2.trans (hbx.mono hb2.size)
        clear hek1 hek2 hdE hq1 hx1 hbx
        go_wp2
        go_ret2
        exact ⟨none, 0, [], er, rfl, nil_txs _ _, fun _ => rfl, Or.inr ⟨he, hE2.out, rfl⟩, (fun b o e => by cases e), (fun x hx => by cases hx), hb3⟩
    · have hkl : k = ss.length := by omega
      have hE2 : Hid (eachE decE (bl ss) = .ok (dl l)) := by
        have h := hE.out
        rw [List.take_of_length_le (by simp [bl]; omega)] at h
        exact h
      obtain ⟨qa, qc, rfl, hqn, hqt⟩ := hq.form
      clear hE
      go_wp2
      go_ret2
      exact ⟨qa, qc, l, 0, rfl, hqt, hqn, Or.inl ⟨rfl, hE2.out⟩, (fun b o e => (hq.lt b (by rw [e]; rfl)).1), hold, hb⟩

/-- Decode hands back a batch and an error. -/
def GotBat (W : World) (r : Except Nat BatD) (e : Ending) (w : World) : Prop :=
  ∃ (a n : Int) (ao : Option Addr) (l : List TxM) (cap er : Nat), e = .returned (.tuple #[batV a n ao l.length cap, .int .i64 (er : Int)]) ∧ TxsAt w ao l ∧ (ao = none → cap = 0) ∧ ((er = 0 ∧ r = .ok ⟨a, n, dl l⟩) ∨ (er ≠ 0 ∧ r = .error er ∧ a = 0 ∧ n = 0 ∧ l = [])) ∧ Below W.heap.size W w

/-- Decode hands back a batch, all of it new, and an error. -/
def GotBatN (W : World) (r : Except Nat BatD) (e : Ending) (w : World) : Prop :=
  ∃ (a n : Int) (ao : Option Addr) (l : List TxM) (cap er : Nat), e = .returned (.tuple #[batV a n ao l.length cap, .int .i64 (er : Int)]) ∧ TxsAt w ao l ∧ (ao = none → cap = 0) ∧ ((er = 0 ∧ r = .ok ⟨a, n, dl l⟩) ∨ (er ≠ 0 ∧ r = .error er ∧ a = 0 ∧ n = 0 ∧ l = [])) ∧
    (∀ b o, ao = some ⟨b, o, none⟩ → W.heap.size ≤ b) ∧ (∀ x ∈ l, x.Off (fun k => k < W.heap.size)) ∧ Below W.heap.size W w

theorem gotBatN_err {W w : World} {r : Except Nat BatD} {er : Nat} (h : r = .error er) (he : er ≠ 0) (hb : Below W.heap.size W w) (e : Ending) (hv : e = .returned (.tuple #[batV 0 0 none 0 0, .int .i64 (er : Int)])) : GotBatN W r e w :=
  ⟨0, 0, none, [], 0, er, hv, nil_txs _ _, fun _ => rfl, Or.inr ⟨he, h, rfl, rfl, rfl⟩, (fun b o e => by cases e), (fun x hx => by cases hx), hb⟩

set_option maxRecDepth 100000 in
set_option maxHeartbeats 4000000 in
theorem batDecode_new (s : ByteArray) (w : World) (hs : s.size ≤ maxLen) :
    Calls Tryz.prog 55 #[.string s] w fun e w' => GotBatN w (decBat s.data.toList) e w' := by
  have hZ := Arr.new w 26 [.int .i64 0, .int .i64 0, .slice none 0 0]
  have hB := belowNew w (.cells #[.int .i64 0, .int .i64 0, .slice none 0 0] 26)
  obtain ⟨out, hout⟩ : ∃ out, out = decBat s.data.toList := ⟨_, rfl⟩
  rw [← hout]
  unfold decBat at hout
  have hsz : Hid (s.size ≤ maxLen) := hs
  clear hs
  rcases hr0 : getInt s.data.toList with ⟨v0, k0, e0⟩
  have c0 := fun w1 => getInt_at s w1 v0 k0 e0 hsz.out hr0
  have H0 : Hid (out = _) := hout
  clear hout
  have hl0 : s.data.toList.length = s.size := by simp
  go_enter Tryz.func55, Tryz.ntmps55
  go_wp2_with fail
  refine (c0 _).mono ?_
  rintro e w1 ⟨rfl, rfl⟩
  clear c0
  by_cases he0 : e0 ≠ 0
  · have hout := H0.out
    rw [rdI_err hr0 he0] at hout
    have hfin := fun w' e hb hv => gotBatN_err (W := w) (w := w') (e := e) hout he0 hb hv
    have d0 : ((e0 : Int) != 0) = true := by rw [bne_iff_ne]; omega
    clear hout hr0 H0
    go_wp2
    refine bodyPost_ret (v := .tuple #[batV 0 0 none 0 0, .int .i64 (e0 : Int)]) (results_bat_tmp rfl _ _ w.heap.size 0 0 none 0 0 rfl hZ _ rfl) rfl ?_
    exact hfin _ _ hB rfl
  replace he0 : e0 = 0 := by omega
  subst he0
  obtain ⟨hv0, hk0, hk0'⟩ : v0 ≤ 4611686018427387903 ∧ k0 ≤ s.size ∧ (k0 : Int) ≤ s.size := by
    have hb := getInt_bounds _ v0 k0 hr0
    omega
  have hout := H0.out
  rw [rdI_ok hr0, ← extract_drop] at hout
  have hsz1 : Hid ((s.extract k0 s.size).size ≤ maxLen) := by have := hsz.out; show _ ≤ _; rw [ByteArray.size_extract]; omega
  obtain ⟨s1, hs1⟩ : ∃ q, s.extract k0 s.size = q := ⟨_, rfl⟩
  rw [hs1] at hout hsz1
  clear H0 hr0 hl0
  have hl1 : s1.data.toList.length = s1.size := by simp
  rcases hr1 : getInt s1.data.toList with ⟨v1, k1, e1⟩
  have c1 := fun w1 => getInt_at s1 w1 v1 k1 e1 hsz1.out hr1
  have H1 : Hid (out = _) := hout
  clear hout
  go_wp2_with fail
  refine (c1 _).mono ?_
  rintro e w1 ⟨rfl, rfl⟩
  clear c1
  by_cases he1 : e1 ≠ 0
  · have hout := H1.out
    rw [rdI_err hr1 he1] at hout
    have hfin := fun w' e hb hv => gotBatN_err (W := w) (w := w') (e := e) hout he1 hb hv
    have d0 : ((e1 : Int) != 0) = true := by rw [bne_iff_ne]; omega
    clear hout hr1 H1
    go_wp2
    refine bodyPost_ret (v := .tuple #[batV 0 0 none 0 0, .int .i64 (e1 : Int)]) (results_bat_tmp rfl _ _ w.heap.size 0 0 none 0 0 rfl hZ _ rfl) rfl ?_
    exact hfin _ _ hB rfl
  replace he1 : e1 = 0 := by omega
  subst he1
  obtain ⟨hv1, hk1, hk1'⟩ : v1 ≤ 4611686018427387903 ∧ k1 ≤ s1.size ∧ (k1 : Int) ≤ s1.size := by
    have hb := getInt_bounds _ v1 k1 hr1
    omega
  have hout := H1.out
  rw [rdI_ok hr1, ← extract_drop] at hout
  have hsz2 : Hid ((s1.extract k1 s1.size).size ≤ maxLen) := by have := hsz1.out; show _ ≤ _; rw [ByteArray.size_extract]; omega
  obtain ⟨s2, hs2⟩ : ∃ q, s1.extract k1 s1.size = q := ⟨_, rfl⟩
  rw [hs2] at hout hsz2
  clear H1 hr1 hl1
  have hl2 : s2.data.toList.length = s2.size := by simp
  rcases hr2 : getList s2.data.toList 16 with ⟨ts, k2, e2⟩
  have c2 := fun w1 => getListN s2 16 (by omega) w1 hsz2.out ts k2 e2 (by exact hr2)
  have H2 : Hid (out = _) := hout
  clear hout
  have hml : (mks ts).length = ts.length := by simp [mks]
  have hbm : bl (mks ts) = ts := bl_mks ts
  obtain ⟨ms, hms⟩ : ∃ q, q = mks ts := ⟨_, rfl⟩
  rw [← hms] at c2 hml hbm
  go_wp2_with fail
  refine (c2 _).mono ?_
  rintro e w2 ⟨a2, n2, rfl, hO2, hnn2, hb2⟩
  have hZ2 := hZ.below hb2 hZ.lt
  have hB2 := hB.trans (hb2.mono hB.size)
  clear hZ hB hb2 c2
  by_cases he2 : e2 ≠ 0
  · have hout := H2.out
    rw [rdL_err hr2 he2] at hout
    have d0 : ((e2 : Int) != 0) = true := by rw [bne_iff_ne]; omega
    have z0 := hZ2.cell (i := 0) rfl
    have z1 := hZ2.cell (i := 1) rfl
    have z2 := hZ2.cell (i := 2) rfl
    have g0 := hZ2.frozen 0
    have g1 := hZ2.frozen 1
    have g2 := hZ2.frozen 2
    have hZF := hZ2.set3 (.int .i64 0) (.int .i64 0) (.slice none 0 0)
    have hBF := below_set3 hB2 (g := w.heap.size) (Nat.le_refl _) (.int .i64 0) (.int .i64 0) (.slice none 0 0)
    have hfin := fun e hv => gotBatN_err (W := w) (e := e) hout he2 hBF hv
    unfold set3 at hZF hfin
    clear hout hr2 H2 hZ2 hB2 hBF hO2
    go_wp2
    refine bodyPost_ret (v := .tuple #[batV 0 0 none 0 0, .int .i64 (e2 : Int)]) (results_bat_tmp rfl _ _ w.heap.size 0 0 none 0 0 rfl hZF _ rfl) rfl ?_
    exact hfin _ rfl
  replace he2 : e2 = 0 := by omega
  subst he2
  have hgb := getList_back hr2
  have hk2 := hgb.2.2.1
  have hm16 := hgb.2.2.2.1
  have hmsz := hgb.2.2.2.2
  clear hgb
  rw [hl2] at hk2
  have hout := H2.out
  rw [rdL_ok hr2] at hout
  have hdr : Hid (s2.data.toList.drop k2 ≠ [] ↔ k2 < s2.size) := by
    show _ ↔ _
    rw [ne_eq, List.drop_eq_nil_iff, hl2]
    omega
  have c3 := fun w1 (h : StrsAt w1 a2 ms) => decodeAll_any a2 n2 ms w1 h (by rw [hms]; intro x hx; obtain ⟨t, ht, rfl⟩ := List.mem_map.1 hx; rw [size_mk]; have := hmsz t ht; unfold maxLen; omega) (by omega)
  rw [hbm, hml] at c3
  clear hbm hms hmsz hl2
  have H3 : Hid (out = _) := hout
  clear hout H2 hr2
  go_wp2_with fail
  refine (c3 _ hO2.at).mono ?_
  rintro e w3 ⟨a3, n3, l, er, rfl, hT3, hn3, hres, hfr3, hof3, hb3⟩
  have hnew : Hid ((∀ b o, a3 = some ⟨b, o, none⟩ → w.heap.size ≤ b) ∧ ∀ x ∈ l, x.Off (fun k => k < w.heap.size)) := ⟨fun b o e => Nat.le_trans hB2.size (hfr3 b o e), fun x hx => (hof3 x hx).mono (fun k hk => Nat.lt_of_lt_of_le hk hB2.size)⟩
  replace hfr3 : ∀ b o, a3 = some ⟨b, o, none⟩ → b ≠ w.heap.size := fun b o e => by have := hfr3 b o e; have := hZ2.lt; omega
  replace hof3 : ∀ x ∈ l, x.Off (fun k => k = w.heap.size) := fun x hx => (hof3 x hx).mono (fun k hk => by rw [hk]; exact hZ2.lt)
  have hZ3 := hZ2.below hb3 hZ2.lt
  have hB3 := hB2.trans (hb3.mono hB2.size)
  clear hZ2 hB2 hb3 c3 hO2
  have z0 := hZ3.cell (i := 0) rfl
  have z1 := hZ3.cell (i := 1) rfl
  have z2 := hZ3.cell (i := 2) rfl
  have g0 := hZ3.frozen 0
  have g1 := hZ3.frozen 1
  have g2 := hZ3.frozen 2
  have hZF := hZ3.set3 (.int .i64 0) (.int .i64 0) (.slice none 0 0)
  have hBF := below_set3 hB3 (g := w.heap.size) (Nat.le_refl _) (.int .i64 0) (.int .i64 0) (.slice none 0 0)
  rcases hres with ⟨rfl, hres⟩ | ⟨her, hres, rfl⟩
  rotate_left
  · have hout := H3.out
    rw [hres] at hout
    have d0 : ((er : Int) != 0) = true := by rw [bne_iff_ne]; omega
    have hfin := fun e hv => gotBatN_err (W := w) (e := e) hout her hBF hv
    unfold set3 at hZF hfin
    clear hout H3 hZ3 hB3 hBF hres
    go_wp2
    refine bodyPost_ret (v := .tuple #[batV 0 0 none 0 0, .int .i64 (er : Int)]) (results_bat_tmp rfl _ _ w.heap.size 0 0 none 0 0 rfl hZF _ rfl) rfl ?_
    exact hfin _ rfl
  have hout := H3.out
  rw [hres] at hout
  simp only at hout
  unfold finBat at hout
  clear H3
  by_cases hmore : k2 < s2.size
  · have hout2 := hout.trans (if_pos (hdr.out.2 hmore))
    have hfin := fun e hv => gotBatN_err (W := w) (e := e) hout2 (by decide) hBF hv
    have d0 : (k2 : Int) < (s2.size : Int) := by omega
    unfold set3 at hZF hfin
    clear hout hout2 hZ3 hB3 hBF hres
    go_wp2
    refine bodyPost_ret (v := .tuple #[batV 0 0 none 0 0, .int .i64 6]) (results_bat_tmp rfl _ _ w.heap.size 0 0 none 0 0 rfl hZF _ rfl) rfl ?_
    exact hfin _ rfl
  replace hout := hout.trans (if_neg (fun h => hmore (hdr.out.1 h)))
  have d0 : decide ((k2 : Int) < (s2.size : Int)) = false := decide_eq_false (by omega)
  have c4 := fun w1 (h : TxsAt w1 a3 l) => batCheck_any (v0 : Int) (v1 : Int) a3 l n3 w1 h
  have hout2 : out = (if checkB ⟨(v0 : Int), (v1 : Int), dl l⟩ ≠ 0 then .error (checkB ⟨(v0 : Int), (v1 : Int), dl l⟩) else .ok ⟨(v0 : Int), (v1 : Int), dl l⟩) := by
    rw [hout]
    by_cases h6 : (6 : Int) < (v0 : Int)
    · rw [if_pos h6]
      have hc : checkB ⟨(v0 : Int), (v1 : Int), dl l⟩ = 2 := if_pos (by show (v0 : Int) < 0 ∨ 6 < (v0 : Int) ∨ _; omega)
      rw [hc, if_pos (by decide)]
    · rw [if_neg h6]
  have H4 : Hid (out = _) := hout2
  clear hout hout2 hres hdr
  have hZ4 := hZ3.alloc (.cells (batC (v0 : Int) (v1 : Int) a3 l.length n3).toArray 26)
  have hB4 := hB3.alloc hB3.size (.cells (batC (v0 : Int) (v1 : Int) a3 l.length n3).toArray 26)
  have hN4 := Arr.new w3 26 (batC (v0 : Int) (v1 : Int) a3 l.length n3)
  have hT4 := hT3.below (belowNew w3 (.cells (batC (v0 : Int) (v1 : Int) a3 l.length n3).toArray 26))
  unfold batV at c4
  clear z0 z1 z2 g0 g1 g2 hZF hBF
  go_wp2_with fail
  refine (c4 _ hT4).mono ?_
  rintro e w5 ⟨rfl, hb5⟩
  have hZ5 := hZ4.below hb5 hZ4.lt
  have hN5 := hN4.below hb5 hN4.lt
  have hT5 := hT4.below hb5
  have hB5 := hB4.trans (hb5.mono hB4.size)
  clear hZ4 hN4 hT4 hB4 hb5 hZ3 hB3 hT3 c4
  have z0 := hZ5.cell (i := 0) rfl
  have z1 := hZ5.cell (i := 1) rfl
  have z2 := hZ5.cell (i := 2) rfl
  have g0 := hZ5.frozen 0
  have g1 := hZ5.frozen 1
  have g2 := hZ5.frozen 2
  by_cases hc : checkB ⟨(v0 : Int), (v1 : Int), dl l⟩ ≠ 0
  · have hout := H4.out.trans (if_pos hc)
    have hZF := hZ5.set3 (.int .i64 0) (.int .i64 0) (.slice none 0 0)
    have hBF := below_set3 hB5 (g := w.heap.size) (Nat.le_refl _) (.int .i64 0) (.int .i64 0) (.slice none 0 0)
    have hfin := fun e hv => gotBatN_err (W := w) (e := e) hout hc hBF hv
    generalize checkB ⟨(v0 : Int), (v1 : Int), dl l⟩ = er at hc hfin ⊢
    have d1 : ((er : Int) != 0) = true := by rw [bne_iff_ne]; omega
    unfold set3 at hZF hfin
    clear hout H4 hZ5 hB5 hBF
    go_wp2
    refine bodyPost_ret (v := .tuple #[batV 0 0 none 0 0, .int .i64 (er : Int)]) (results_bat_tmp rfl _ _ w.heap.size 0 0 none 0 0 rfl hZF _ rfl) rfl ?_
    exact hfin _ rfl
  have hout := H4.out.trans (if_neg hc)
  replace hc : checkB ⟨(v0 : Int), (v1 : Int), dl l⟩ = 0 := by omega
  rw [hc]
  have x0 := hN5.cell (i := 0) rfl
  have x1 := hN5.cell (i := 1) rfl
  have x2 := hN5.cell (i := 2) rfl
  have hZF := hZ5.set3 (.int .i64 (v0 : Int)) (.int .i64 (v1 : Int)) (.slice a3 l.length n3)
  have hBF := below_set3 hB5 (g := w.heap.size) (Nat.le_refl _) (.int .i64 (v0 : Int)) (.int .i64 (v1 : Int)) (.slice a3 l.length n3)
  have hTF : TxsAt (set3 w5 w.heap.size (.int .i64 (v0 : Int)) (.int .i64 (v1 : Int)) (.slice a3 l.length n3)) a3 l := hT5.set3 hfr3 hof3 _ _ _
  have hfin : ∀ e, e = .returned (.tuple #[batV (v0 : Int) (v1 : Int) a3 l.length n3, .int .i64 0]) → GotBatN w out e _ := fun e hv => ⟨_, _, _, _, _, 0, hv, hTF, hn3, Or.inl ⟨rfl, hout⟩, hnew.out.1, hnew.out.2, hBF⟩
  unfold set3 at hZF hfin
  clear hout H4 hZ5 hB5 hBF hTF hT5
  go_wp2
  refine bodyPost_ret (v := .tuple #[batV (v0 : Int) (v1 : Int) a3 l.length n3, .int .i64 0]) (results_bat_tmp rfl _ _ w.heap.size (v0 : Int) (v1 : Int) a3 l.length n3 rfl hZF _ rfl) rfl ?_
  exact hfin _ rfl
end Go.Proofs.YtmngiekobmhpaaaGreat

/- Behind an error nothing more is read. -/
namespace Go.Proofs.YtmngiekobmhpaaaGreat
open Go.RowKit
set_option linter.unusedVariables false

/-- Behind an error nothing more is read. -/
def runX {α : Type} (E : Nat) (r : Except Nat α) : Except Nat α := if E ≠ 0 then .error E else r

theorem runX_zero {α : Type} (r : Except Nat α) : runX 0 r = r := rfl
theorem runX_err {α : Type} {E : Nat} (h : E ≠ 0) (r : Except Nat α) : runX E r = .error E := if_pos h
end Go.Proofs.YtmngiekobmhpaaaGreat

/- What package header's reader does: each step turns its block alone. -/
namespace Go.Proofs.YtmngiekobmhpaaaGreat
open Go.RowKit
set_option linter.unusedVariables false

/-- A reader's block: what is left, and the error. -/
abbrev RdAt (T : TypeId) (w : World) (rb : Nat) (rest : ByteArray) (E : Nat) : Prop := Arr w rb T [.string rest, .int .i64 (E : Int)]

set_option maxRecDepth 100000 in
set_option maxHeartbeats 400000 in
theorem takeInt_k (rb : Nat) (w : World) (rest : ByteArray) (E : Nat) (hR : Arr w rb 150 [.string rest, .int .i64 (E : Int)]) (hs : rest.size ≤ maxLen) :
    Calls Tryz.prog 93 #[.pointer (some ⟨rb, 0, none⟩), .func (.func 16) #[] #[]] w fun e w' => ∃ (n E' : Nat) (rest' : ByteArray), e = .returned (.int .i64 (n : Int)) ∧ n ≤ 4611686018427387903 ∧ rest'.size ≤ maxLen ∧
      (∀ (α : Type) (f : Nat → List UInt8 → Except Nat α), runX E (rdI rest.data.toList f) = runX E' (f n rest'.data.toList)) ∧ Arr w' rb 150 [.string rest', .int .i64 (E' : Int)] ∧ Kept (fun k => k = rb) w w' := by
  have c0 := hR.cell (i := 0) rfl
  have c1 := hR.cell (i := 1) rfl
  have f0 := hR.frozen 0
  have f1 := hR.frozen 1
  by_cases hE : E = 0
  · subst hE
    rcases hr : getInt rest.data.toList with ⟨n, k, er⟩
    have hl : rest.data.toList.length = rest.size := by simp
    have cG := fun w1 => getInt_at rest w1 n k er hs hr
    by_cases he : er = 0
    · subst he
      have hb := getInt_bounds _ n k hr
      have hk : (k : Int) ≤ rest.size := by omega
      have hstep : Hid (∀ (α : Type) (f : Nat → List UInt8 → Except Nat α), runX 0 (rdI rest.data.toList f) = runX 0 (f n (rest.extract k rest.size).data.toList)) := by
        intro α f
        rw [rdI_ok hr, extract_drop]
      have fin := hR.set 0 (.string (rest.extract k rest.size))
      have kin := (Kept.refl (fun k => k = rb) w).set (p := ⟨rb, 0, none⟩) rfl (.string (rest.extract k rest.size))
      have hsz := rest_le rest k hs
      have hn := hb.1
      clear hR hr hl hs hb
      go_enter Tryz.func93, Tryz.ntmps93
      go_wp2_with fail
      refine (cG _).mono ?_
      rintro e w1 ⟨rfl, rfl⟩
      go_wp2
      go_ret
      exact ⟨n, 0, rest.extract k rest.size, rfl, hn, hsz, hstep.out, fin, kin⟩
    · have hstep : Hid (∀ (α : Type) (f : Nat → List UInt8 → Except Nat α), runX 0 (rdI rest.data.toList f) = runX er (f 0 rest.data.toList)) := by
        intro α f
        rw [rdI_err hr he, runX_err he]
        rfl
      have fin := hR.set 1 (.int .i64 (er : Int))
      have kin := (Kept.refl (fun k => k = rb) w).set (p := ⟨rb, 1, none⟩) rfl (.int .i64 (er : Int))
      have hne : ((er : Int) != 0) = true := by rw [bne_iff_ne]; omega
      clear hR hr hl
      go_enter Tryz.func93, Tryz.ntmps93
      go_wp2_with fail
      refine (cG _).mono ?_
      rintro e w1 ⟨rfl, rfl⟩
      go_wp2
      go_ret
      exact ⟨0, er, rest, rfl, by omega, hs, hstep.out, fin, kin⟩
  · have hE' : ((E : Int) != 0) = true := by rw [bne_iff_ne]; omega
    go_enter Tryz.func93, Tryz.ntmps93
    go_wp2
    go_ret
    exact ⟨0, E, rest, rfl, by omega, hs, fun α f => by rw [runX_err hE, runX_err hE], hR, Kept.refl _ _⟩

set_option maxRecDepth 100000 in
set_option maxHeartbeats 400000 in
theorem takeText_k (rb : Nat) (w : World) (rest : ByteArray) (E : Nat) (hR : Arr w rb 150 [.string rest, .int .i64 (E : Int)]) (hs : rest.size ≤ maxLen) :
    Calls Tryz.prog 133 #[.pointer (some ⟨rb, 0, none⟩), .func (.func 89) #[] #[]] w fun e w' => ∃ (t : List UInt8) (E' : Nat) (rest' : ByteArray), e = .returned (.string ⟨t.toArray⟩) ∧ t.length ≤ 65536 ∧ rest'.size ≤ maxLen ∧
      (∀ (α : Type) (f : List UInt8 → List UInt8 → Except Nat α), runX E (rdT rest.data.toList f) = runX E' (f t rest'.data.toList)) ∧ Arr w' rb 150 [.string rest', .int .i64 (E' : Int)] ∧ Kept (fun k => k = rb) w w' := by
  have c0 := hR.cell (i := 0) rfl
  have c1 := hR.cell (i := 1) rfl
  have f0 := hR.frozen 0
  have f1 := hR.frozen 1
  by_cases hE : E = 0
  · subst hE
    rcases hr : getText rest.data.toList with ⟨t, k, er⟩
    have hl : rest.data.toList.length = rest.size := by simp
    have cG := fun w1 => getText_at rest w1 t k er hs hr
    by_cases he : er = 0
    · subst he
      have hb := getText_bounds _ t k hr
      have hk : (k : Int) ≤ rest.size := by omega
      have hstep : Hid (∀ (α : Type) (f : List UInt8 → List UInt8 → Except Nat α), runX 0 (rdT rest.data.toList f) = runX 0 (f t (rest.extract k rest.size).data.toList)) := by
        intro α f
        rw [rdT_ok hr, extract_drop]
      have fin := hR.set 0 (.string (rest.extract k rest.size))
      have kin := (Kept.refl (fun k => k = rb) w).set (p := ⟨rb, 0, none⟩) rfl (.string (rest.extract k rest.size))
      have hsz := rest_le rest k hs
      have hn : Hid (t.length ≤ 65536) := hb.2.2.1
      clear hR hr hl hs hb
      go_enter Tryz.func133, Tryz.ntmps133
      go_wp2_with fail
      refine (cG _).mono ?_
      rintro e w1 ⟨rfl, rfl⟩
      go_wp2
      go_ret
      exact ⟨t, 0, rest.extract k rest.size, rfl, hn.out, hsz, hstep.out, fin, kin⟩
    · have hstep : Hid (∀ (α : Type) (f : List UInt8 → List UInt8 → Except Nat α), runX 0 (rdT rest.data.toList f) = runX er (f [] rest.data.toList)) := by
        intro α f
        rw [rdT_err hr he, runX_err he]
        rfl
      have fin := hR.set 1 (.int .i64 (er : Int))
      have kin := (Kept.refl (fun k => k = rb) w).set (p := ⟨rb, 1, none⟩) rfl (.int .i64 (er : Int))
      have hne : ((er : Int) != 0) = true := by rw [bne_iff_ne]; omega
      clear hR hr hl
      go_enter Tryz.func133, Tryz.ntmps133
      go_wp2_with fail
      refine (cG _).mono ?_
      rintro e w1 ⟨rfl, rfl⟩
      go_wp2
      go_ret
      exact ⟨[], er, rest, rfl, by simp, hs, hstep.out, fin, kin⟩
  · have hE' : ((E : Int) != 0) = true := by rw [bne_iff_ne]; omega
    go_enter Tryz.func133, Tryz.ntmps133
    go_wp2
    go_ret
    exact ⟨[], E, rest, rfl, by simp, hs, fun α f => by rw [runX_err hE, runX_err hE], hR, Kept.refl _ _⟩

set_option maxRecDepth 100000 in
theorem getParents_any (s : ByteArray) (w : World) (hs : s.size ≤ maxLen) (ts : List (List UInt8)) (k er : Nat) (hr : getList s.data.toList 7 = (ts, k, er)) :
    Calls Tryz.prog 96 #[.string s] w fun e w' => ∃ ao cap, e = .returned (.tuple #[.slice ao (mks ts).length cap, .int .i64 (k : Int), .int .i64 (er : Int)]) ∧ OwnStrs w.heap.size w' ao (mks ts) ∧ (ao = none → cap = 0) ∧ Below w.heap.size w w' := by
  have c2 := getListN s 7 (by omega) w hs ts k er (by exact hr)
  generalize mks ts = ms at c2 ⊢
  go_enter Tryz.func96, Tryz.ntmps96
  go_wp2_with fail
  refine c2.mono ?_
  rintro e w1 ⟨ao, cap, rfl, h1, h2, h3⟩
  go_wp2
  go_ret3
  exact ⟨ao, cap, rfl, h1, h2, h3⟩

set_option maxRecDepth 100000 in
set_option maxHeartbeats 1000000 in
theorem takeList_k (rb : Nat) (w : World) (rest : ByteArray) (E : Nat) (hR : Arr w rb 150 [.string rest, .int .i64 (E : Int)]) (hs : rest.size ≤ maxLen) :
    Calls Tryz.prog 95 #[.pointer (some ⟨rb, 0, none⟩), .func (.func 96) #[] #[]] w fun e w' => ∃ (ts : List (List UInt8)) (E' : Nat) (rest' : ByteArray) (ao : Option Addr) (cap : Nat), e = .returned (.slice ao (mks ts).length cap) ∧ (∀ t ∈ ts, t.length ≤ 65536) ∧ ts.length ≤ 7 ∧ rest'.size ≤ maxLen ∧
      (∀ (α : Type) (f : List (List UInt8) → List UInt8 → Except Nat α), runX E (rdL 7 rest.data.toList f) = runX E' (f ts rest'.data.toList)) ∧ OwnStrs w.heap.size w' ao (mks ts) ∧ (ao = none → cap = 0) ∧ Arr w' rb 150 [.string rest', .int .i64 (E' : Int)] ∧ Kept (fun k => k = rb) w w' := by
  have c0 := hR.cell (i := 0) rfl
  have c1 := hR.cell (i := 1) rfl
  by_cases hE : E = 0
  · subst hE
    rcases hr : getList rest.data.toList 7 with ⟨ts, k, er⟩
    have hl : rest.data.toList.length = rest.size := by simp
    have cG := fun w1 => getParents_any rest w1 hs ts k er hr
    obtain ⟨ms, hms⟩ : ∃ q, q = mks ts := ⟨_, rfl⟩
    simp only [← hms] at cG
    have Hms : Hid (ms = mks ts) := hms
    clear hms
    by_cases he : er = 0
    · subst he
      have hgb := getList_back hr
      have b3 := hgb.2.2.1
      have b4 := hgb.2.2.2.1
      have b5 := hgb.2.2.2.2
      clear hgb
      have hk : (k : Int) ≤ rest.size := by omega
      have hstep : Hid (∀ (α : Type) (f : List (List UInt8) → List UInt8 → Except Nat α), runX 0 (rdL 7 rest.data.toList f) = runX 0 (f ts (rest.extract k rest.size).data.toList)) := by
        intro α f
        rw [rdL_ok hr, extract_drop]
      have hsz := rest_le rest k hs
      have hn : Hid ((∀ t ∈ ts, t.length ≤ 65536) ∧ ts.length ≤ 7) := ⟨b5, by omega⟩
      clear hr hl hs b3 b4 b5
      go_enter Tryz.func95, Tryz.ntmps95
      go_wp2_with fail
      refine (cG _).mono ?_
      rintro e w1 ⟨ao, cap, rfl, hO, hn2, hb⟩
      have hR1 := hR.below hb hR.lt
      have fin := hR1.set 0 (.string (rest.extract k rest.size))
      have kin := (Kept.of_below (S := fun k => k = rb) hb).set (p := ⟨rb, 0, none⟩) rfl (.string (rest.extract k rest.size))
      have hOF := hO.put (p := ⟨rb, 0, none⟩) hR.lt (.string (rest.extract k rest.size))
      have d0 := hR1.cell (i := 0) rfl
      have f0 := hR1.frozen 0
      clear hR hR1 c0 c1 hO hb cG
      go_wp2
      go_ret
      refine ⟨ts, 0, rest.extract k rest.size, ao, cap, by rw [← Hms.out]; rfl, hn.out.1, hn.out.2, hsz, hstep.out, ?_, hn2, fin, kin⟩
      rw [← Hms.out]
      exact hOF
    · have hstep : Hid (∀ (α : Type) (f : List (List UInt8) → List UInt8 → Except Nat α), runX 0 (rdL 7 rest.data.toList f) = runX er (f [] rest.data.toList)) := by
        intro α f
        rw [rdL_err hr he, runX_err he]
        rfl
      have hne : ((er : Int) != 0) = true := by rw [bne_iff_ne]; omega
      clear hr hl
      go_enter Tryz.func95, Tryz.ntmps95
      go_wp2_with fail
      refine (cG _).mono ?_
      rintro e w1 ⟨ao, cap, rfl, hO, hn2, hb⟩
      have hR1 := hR.below hb hR.lt
      have fin := hR1.set 1 (.int .i64 (er : Int))
      have kin := (Kept.of_below (S := fun k => k = rb) hb).set (p := ⟨rb, 1, none⟩) rfl (.int .i64 (er : Int))
      have d1 := hR1.cell (i := 1) rfl
      have f1 := hR1.frozen 1
      clear hR hR1 c0 c1 hO hb cG
      go_wp2
      go_ret
      exact ⟨[], er, rest, none, 0, rfl, by simp, by simp, hs, hstep.out, (fun j hj => absurd hj (by simp [mks])), fun _ => rfl, fin, kin⟩
  · have hE' : ((E : Int) != 0) = true := by rw [bne_iff_ne]; omega
    go_enter Tryz.func95, Tryz.ntmps95
    go_wp2
    go_ret
    exact ⟨[], E, rest, none, 0, rfl, by simp, by simp, hs, fun α f => by rw [runX_err hE, runX_err hE], (fun j hj => absurd hj (by simp [mks])), fun _ => rfl, hR, Kept.refl _ _⟩

set_option maxRecDepth 100000 in
set_option maxHeartbeats 400000 in
theorem refuse_k (rb : Nat) (w : World) (rest : ByteArray) (E : Nat) (b : Bool) (er : Nat) (hR : Arr w rb 150 [.string rest, .int .i64 (E : Int)]) :
    Calls Tryz.prog 97 #[.pointer (some ⟨rb, 0, none⟩), .bool b, .int .i64 (er : Int)] w fun e w' => e = .returned (.tuple #[]) ∧ Arr w' rb 150 [.string rest, .int .i64 ((if b = true ∧ E = 0 then er else E : Nat) : Int)] ∧ Kept (fun k => k = rb) w w' := by
  have c1 := hR.cell (i := 1) rfl
  have f1 := hR.frozen 1
  cases b with
  | false =>
    rw [if_neg (by simp)]
    go_enter Tryz.func97, Tryz.ntmps97
    go_wp2
    go_end0
    exact ⟨rfl, hR, Kept.refl _ _⟩
  | true =>
    by_cases hE : E = 0
    · subst hE
      rw [if_pos ⟨rfl, rfl⟩]
      have fin := hR.set 1 (.int .i64 (er : Int))
      have kin := (Kept.refl (fun k => k = rb) w).set (p := ⟨rb, 1, none⟩) rfl (.int .i64 (er : Int))
      go_enter Tryz.func97, Tryz.ntmps97
      go_wp2
      go_end0
      exact ⟨rfl, fin, kin⟩
    · have hE' : ((E : Int) == 0) = false := beq_eq_false_iff_ne.2 (by omega)
      rw [if_neg (fun h => hE h.2)]
      go_enter Tryz.func97, Tryz.ntmps97
      go_wp2
      go_end0
      exact ⟨rfl, hR, Kept.refl _ _⟩
end Go.Proofs.YtmngiekobmhpaaaGreat

/- What getTag, GetTags and Tags of package header do; nothing old in memory is turned. -/
namespace Go.Proofs.YtmngiekobmhpaaaGreat
open Go.RowKit
set_option linter.unusedVariables false

theorem infoTag1 : (Tryz.prog.info? 23).map (·.size) = some 2 := by kernel_rfl

theorem results_tag_tmp {fn : Func} {p u : Tmp} (h : fn.results = #[.cell p 23, .tmp u]) (tmps : Array Value) (w : World) (g : Nat) (a : Int) (m : ByteArray)
    (hp : tmps.getD p undef = .pointer (some ⟨g, 0, none⟩)) (hg : Arr w g 23 [.int .i64 a, .string m]) (v : Value) (hv : tmps.getD u undef = v) :
    (results fn tmps).run Tryz.prog w = .ok (.tuple #[.agg #[.int .i64 a, .string m], v]) w := by
  rw [results_cell_tmp h, hp, hv]
  have hl := run_loadVar_row w g 23 23 #[Value.int .i64 a, Value.string m] (0, 0) _ hg Tryz.underlying23 rfl infoTag1
  simp [asAddr, hl, Result.andThen]

theorem runX_any {α : Type} {E : Nat} {r out : Except Nat α} (h : out = runX E r) : (E = 0 ∧ out = r) ∨ (E ≠ 0 ∧ out = .error E) := by
  by_cases hE : E = 0
  · subst hE; exact Or.inl ⟨rfl, h⟩
  · exact Or.inr ⟨hE, by rw [h, runX_err hE]⟩

/-- getTag hands back a tag, or the error. -/
def tagOf (r : Except Nat TagD) : TagD × Nat := match r with
  | .ok t => (t, 0)
  | .error e => (⟨0, ⟨#[]⟩⟩, e)

set_option maxRecDepth 100000 in
set_option maxHeartbeats 400000 in
theorem getTag_any (s : ByteArray) (w : World) (hs : s.size ≤ maxLen) :
    Calls Tryz.prog 121 #[.string s] w fun e w' => e = .returned (.tuple #[.agg #[.int .i64 (tagOf (getTag s.data.toList)).1.who, .string (tagOf (getTag s.data.toList)).1.mac], .int .i64 ((tagOf (getTag s.data.toList)).2 : Int)]) ∧ Below w.heap.size w w' := by
  obtain ⟨hZ, hR, hB⟩ := two_new w 23 150 [.int .i64 0, .string ⟨#[]⟩] [.string s, .int .i64 0]
  have c0 := takeInt_k (w.heap.size + 1) _ s 0 hR hs
  obtain ⟨out, hout⟩ : ∃ out, out = getTag s.data.toList := ⟨_, rfl⟩
  rw [← hout]
  unfold getTag at hout
  have H : Hid (out = _) := (hout.trans (runX_zero _).symm : _ = _)
  clear hout
  go_enter Tryz.func121, Tryz.ntmps121
  go_wp2_with fail
  refine c0.mono ?_
  rintro e w1 ⟨n, E1, r1, rfl, hn, hr1, hf, hR1, hk1⟩
  have hZ1 := hZ.kept hk1 (by omega)
  have hB1 := hB.trans (hk1.below hB.size (fun k hk => by rw [hk]; omega))
  have hx := H.out.trans (hf _ _)
  replace H : Hid (out = _) := hx
  clear hx hf c0 hZ hR hB hk1
  have c1 := refuse_k (w.heap.size + 1) w1 r1 E1 (decide ((6 : Int) < (n : Int))) 2 hR1
  obtain ⟨E2, hE2⟩ : ∃ q, Hid (q = (if decide ((6 : Int) < (n : Int)) = true ∧ E1 = 0 then 2 else E1)) := ⟨_, rfl⟩
  rw [← hE2.out] at c1
  go_wp2_with fail
  refine c1.mono ?_
  rintro e w2 ⟨rfl, hR2, hk2⟩
  have hZ2 := hZ1.kept hk2 (by omega)
  have hB2 := hB1.trans (hk2.below hB1.size (fun k hk => by rw [hk]; omega))
  clear hZ1 hR1 hB1 hk2 c1
  have u0 := hR2.cell (i := 0) rfl
  obtain ⟨b3, hb3⟩ : ∃ q, q = ((r1.size : Int) != 16) := ⟨_, rfl⟩
  have c2 := refuse_k (w.heap.size + 1) w2 r1 E2 b3 3 hR2
  obtain ⟨E3, hE3⟩ : ∃ q, Hid (q = (if b3 = true ∧ E2 = 0 then 3 else E2)) := ⟨_, rfl⟩
  rw [← hE3.out] at c2
  rw [hb3] at c2
  go_wp2_with fail
  refine c2.mono ?_
  rintro e w3 ⟨rfl, hR3, hk3⟩
  have hZ3 := hZ2.kept hk3 (by omega)
  have hB3 := hB2.trans (hk3.below hB2.size (fun k hk => by rw [hk]; omega))
  clear hZ2 hR2 hB2 hk3 c2 u0
  have HF : Hid ((E3 = 0 ∧ out = .ok ⟨(n : Int), r1⟩) ∨ (E3 ≠ 0 ∧ out = .error E3)) := by
    have hl : r1.data.toList.length = r1.size := by simp
    rcases runX_any H.out with ⟨h1, h2⟩ | ⟨h1, h2⟩
    · have e2 := hE2.out
      have e3 := hE3.out
      rw [hb3] at e3
      rw [hl, mk_list] at h2
      by_cases h6 : 6 < n
      · rw [if_pos h6] at h2
        rw [if_pos ⟨decide_eq_true (by omega), h1⟩] at e2
        rw [if_neg (fun h => by omega)] at e3
        exact Or.inr ⟨by omega, by rw [h2, e3, e2]⟩
      · rw [if_neg h6] at h2
        rw [if_neg (fun h => by have := of_decide_eq_true h.1; omega)] at e2
        by_cases h16 : r1.size ≠ 16
        · rw [if_pos h16] at h2
          rw [if_pos ⟨by rw [bne_iff_ne]; omega, by omega⟩] at e3
          exact Or.inr ⟨by omega, by rw [h2, e3]⟩
        · rw [if_neg h16] at h2
          rw [if_neg (fun h => by have := bne_iff_ne.1 h.1; omega)] at e3
          exact Or.inl ⟨by omega, h2⟩
    · have e2 := hE2.out
      have e3 := hE3.out
      rw [if_neg (fun h => by omega)] at e2
      rw [if_neg (fun h => by omega)] at e3
      exact Or.inr ⟨by omega, by rw [h2, e3, e2]⟩
  clear H hE2 hE3 hb3
  have u0 := hR3.cell (i := 0) rfl
  have u1 := hR3.cell (i := 1) rfl
  have z0 := hZ3.cell (i := 0) rfl
  have z1 := hZ3.cell (i := 1) rfl
  have g0 := hZ3.frozen 0
  have g1 := hZ3.frozen 1
  by_cases he : E3 = 0
  · subst he
    have ho : out = .ok ⟨(n : Int), r1⟩ := by
      rcases HF.out with ⟨_, h⟩ | ⟨h, _⟩
      · exact h
      · exact absurd rfl h
    have hZF := (hZ3.set 0 (.int .i64 (n : Int))).set 1 (.string r1)
    have hBF := (hB3.setCell (p := ⟨w.heap.size, 0, none⟩) (Nat.le_refl _) (.int .i64 (n : Int))).setCell (p := ⟨w.heap.size, 1, none⟩) (Nat.le_refl _) (.string r1)
    clear hZ3 hB3 HF
    go_wp2
    refine bodyPost_ret (v := .tuple #[.agg #[.int .i64 (n : Int), .string r1], .int .i64 0]) (results_tag_tmp rfl _ _ w.heap.size (n : Int) r1 rfl hZF _ rfl) rfl ?_
    exact ⟨by rw [ho]; rfl, hBF⟩
  · have ho : out = .error E3 := by
      rcases HF.out with ⟨h, _⟩ | ⟨_, h⟩
      · exact absurd h he
      · exact h
    have hne : ((E3 : Int) != 0) = true := by rw [bne_iff_ne]; omega
    have fin : Arr ((w3.setCell ⟨w.heap.size, 0, none⟩ (.int .i64 0)).setCell ⟨w.heap.size, 1, none⟩ (.string ⟨#[]⟩)).drew w.heap.size 23 [.int .i64 0, .string ⟨#[]⟩] ∧ Below w.heap.size w ((w3.setCell ⟨w.heap.size, 0, none⟩ (.int .i64 0)).setCell ⟨w.heap.size, 1, none⟩ (.string ⟨#[]⟩)).drew :=
      ⟨((hZ3.set 0 (.int .i64 0)).set 1 (.string ⟨#[]⟩)).drew, Below.drew ((hB3.setCell (p := ⟨w.heap.size, 0, none⟩) (Nat.le_refl _) (.int .i64 0)).setCell (p := ⟨w.heap.size, 1, none⟩) (Nat.le_refl _) (.string ⟨#[]⟩))⟩
    clear hZ3 hB3 HF
    go_wp2_with fail
    go_region
    revert fin
    generalize (World.setCell _ ⟨w.heap.size, 1, none⟩ (.string ⟨#[]⟩)).drew = wf
    intro fin
    try go_wp2
    refine bodyPost_ret (v := .tuple #[.agg #[.int .i64 0, .string ⟨#[]⟩], .int .i64 (E3 : Int)]) (results_tag_tmp rfl _ _ w.heap.size 0 ⟨#[]⟩ rfl fin.1 _ rfl) rfl ?_
    exact ⟨by rw [ho]; rfl, fin.2⟩

theorem getTags_err {l : List UInt8} {ms : List (List UInt8)} {k er : Nat} (h : getList l 7 = (ms, k, er)) (he : er ≠ 0) : getTagsL l = ([], 0, er) := by
  unfold getTagsL
  rw [h, if_pos he]
theorem getTags_ok {l : List UInt8} {ms : List (List UInt8)} {k : Nat} (h : getList l 7 = (ms, k, 0)) : getTagsL l = match eachE getTag ms with
    | .error e => ([], 0, e)
    | .ok ts => (ts, k, 0) := by
  unfold getTagsL
  rw [h, if_neg (by simp)]
  rfl

/-- GetTags hands back a row, in how many bytes, and the error. -/
def GotTags (W : World) (r : List TagD × Nat × Nat) (e : Ending) (w : World) : Prop :=
  ∃ (ts : List TagD) (k er : Nat) (ao : Option Addr) (cap : Nat), e = .returned (.tuple #[.slice ao ts.length cap, .int .i64 (k : Int), .int .i64 (er : Int)]) ∧ r = (ts, k, er) ∧ RowAt tagK w ao ts ∧ (ao = none → cap = 0) ∧ (∀ b, rowFoot tagK ao ts b → W.heap.size ≤ b) ∧ Below W.heap.size W w

set_option maxRecDepth 100000 in
set_option maxHeartbeats 1000000 in
theorem getTags_any (s : ByteArray) (w : World) (hs : s.size ≤ maxLen) :
    Calls Tryz.prog 90 #[.string s] w fun e w' => GotTags w (getTagsL s.data.toList) e w' := by
  obtain ⟨i0, hi, hz0, hz1, hz2⟩ := info_parts infoTag6
  rcases hr : getList s.data.toList 7 with ⟨ts, k, er⟩
  have c0 := getListN s 7 (by omega) w hs ts k er (by exact hr)
  by_cases he : er ≠ 0
  · have H : Hid (getTagsL s.data.toList = ([], 0, er)) := getTags_err hr he
    have hne : ((er : Int) != 0) = true := by rw [bne_iff_ne]; omega
    generalize mks ts = ms at c0
    clear hr
    go_enter Tryz.func90, Tryz.ntmps90
    go_wp2_with fail
    refine c0.mono ?_
    rintro e w1 ⟨ao, cap, rfl, h1, h2, h3⟩
    clear c0
    go_wp2
    go_ret3
    exact ⟨[], 0, er, none, 0, rfl, H.out, nil_row _ _, fun _ => rfl, fun b hb => (nil_foot hb).elim, h3⟩
  replace he : er = 0 := by omega
  subst he
  have HG : Hid (getTagsL s.data.toList = _) := getTags_ok hr
  have hgb := getList_back hr
  have hm7 := hgb.2.2.2.1
  have hmsz := hgb.2.2.2.2
  have hml : (mks ts).length = ts.length := by simp [mks]
  have hbm : Hid (bl (mks ts) = ts) := bl_mks ts
  have hmz : Hid (∀ x ∈ mks ts, x.size ≤ maxLen) := by
    intro x hx
    obtain ⟨t, ht, rfl⟩ := List.mem_map.1 hx
    rw [size_mk]
    have := hmsz t ht
    unfold maxLen
    omega
  obtain ⟨ms, hms⟩ : ∃ q, q = mks ts := ⟨_, rfl⟩
  rw [← hms] at c0 hml hbm hmz
  have hm7' : ms.length ≤ 7 := by omega
  have Hml : Hid (ms.length = ts.length) := hml
  clear hms hmsz hgb hr hm7 hml
  go_enter Tryz.func90, Tryz.ntmps90
  go_wp2_with fail
  refine c0.mono ?_
  rintro e w1 ⟨ao, cap, rfl, hO, _, hb1⟩
  clear c0
  have hS := hO.at
  clear hO
  go_wp2
  go_loopw [8, 10, 11, 12, 24] (fun v8 v10 v11 v12 v24 wr => ∃ (i : Nat) (l : List TagD), i ≤ ms.length ∧ l.length = i ∧ v24 = .int .i64 (i : Int) ∧ KQ tagK 23 wr w1.heap.size v8 l ∧ Hid (eachE getTag (ts.take i) = .ok l) ∧ Below w1.heap.size w1 wr) (fun _ _ _ _ v _ => ms.length - (intOf v).toNat)
  case atStart => exact ⟨0, [], Nat.zero_le _, rfl, rfl, KQ.empty _ _ _ _, by show _ = _; rfl, Below.refl _ _⟩
  case round =>
    obtain ⟨i, l, hil, hli, rfl, hq, hE, hbb⟩ := hrel
    have hb := hb1.trans (hbb.mono hb1.size)
    by_cases hlt : i < ms.length
    · obtain ⟨b, off, rfl, hbl, hcell⟩ := (hS.below hbb) i hlt
      have hbk : ts[i]? = some ms[i].data.toList := by rw [← hbm.out]; simp [bl, hlt]
      have hek := eachE_take (f := getTag) ts i _ hbk l hE.out
      have hs1 := hmz.out ms[i] (List.getElem_mem hlt)
      obtain ⟨s1, hs1e⟩ : ∃ s, s = ms[i] := ⟨_, rfl⟩
      rw [← hs1e] at hcell hek hs1
      have cD := fun w1 => getTag_any s1 w1 hs1
      clear hs1e hbk hE
      obtain ⟨qa, qc, rfl, hqn, _⟩ := hq.form
      rw [hli] at hq ⊢
      cases hg : getTag s1.data.toList with
      | error er =>
        have H : Hid (getTagsL s.data.toList = ([], 0, er)) := by
          have := HG.out
          rw [hek.2 er hg] at this
          exact this
        have hne0 := getTag_err hg
        have hne : ((er : Int) != 0) = true := by rw [bne_iff_ne]; omega
        rw [hg] at cD
        simp only [tagOf] at cD
        clear hg hek
        go_wp2_with fail
        refine (cD _).mono ?_
        rintro e w2 ⟨rfl, hb2⟩
        have hb3 := hb.trans (hb2.mono hb.size)
        have hb4 := hb3.alloc hb3.size (.cells #[.int .i64 0, .string ⟨#[]⟩] 23)
        clear cD hb2 hb3 hq
        go_wp2
        go_ret3
        exact ⟨[], 0, er, none, 0, rfl, H.out, nil_row _ _, fun _ => rfl, fun b hb => (nil_foot hb).elim, hb4⟩
      | ok t =>
        have HE : Hid (eachE getTag (ts.take (i + 1)) = .ok (l ++ [t])) := hek.1 t hg
        rw [hg] at cD
        simp only [tagOf] at cD
        clear hg hek
        go_wp2_with fail
        refine (cD _).mono ?_
        rintro e w2 ⟨rfl, hb2⟩
        have hb3 := hb.trans (hb2.mono hb.size)
        have hbb3 := hbb.trans (hb2.mono hbb.size)
        have hq3 := hq.below hb2
        have hbx := belowNew w2 (.cells #[.int .i64 t.who, .string t.mac] 23)
        have hby := belowNew (w2.alloc (.cells #[.int .i64 t.who, .string t.mac] 23)) (.cells #[.int .i64 t.who, .string t.mac] 23)
        have hb4 := (hb3.trans (hbx.mono hb3.size))
        have hb5 := (hb4.trans (hby.mono hb4.size))
        have hbb4 := (hbb3.trans (hbx.mono hbb3.size))
        have hbb5 := (hbb4.trans (hby.mono hbb4.size))
        have hq5 := (hq3.below hbx).below hby
        have hN := Arr.new (w2.alloc (.cells #[.int .i64 t.who, .string t.mac] 23)) 23 [.int .i64 t.who, .string t.mac]
        rw [alloc_size] at hN
        have hnews : ∀ j u, (tagK.c t)[j]? = some u → ((w2.alloc (.cells #[.int .i64 t.who, .string t.mac] 23)).alloc (.cells #[.int .i64 t.who, .string t.mac] 23)).cell? ((⟨w2.heap.size + 1, 0, none⟩ : Addr).add j) = some u := by
          intro j u hu
          rw [Go.WideShapes.add_plain, Nat.zero_add]
          exact hN.cell hu
        clear cD hb2 hb3 hq hq3 hbx hby hb4 hbb3 hbb4 hcell
        go_wp2_with (at_builtin; refine wpList_push (K := tagK) rfl _ _ 31 rfl w1.heap.size 23 i0 _ 24 Tryz.underlying31 hi hz0 hz1 hz2 rfl _ l rfl hq5 t trivial (fun _ h => h.elim) ⟨w2.heap.size + 1, 0, none⟩ 1 rfl hnews ?c3 ?c4 hbb5.size ?_)
        case c3 => unfold maxLen; omega
        case c4 => omega
        intro ao' cap' w3 hq6 hk6
        have hbb6 : Below w1.heap.size w1 w3 := hbb5.trans (hk6.below hbb5.size (fun j hj => (hq5.lt j hj).1))
        clear hq5 hk6 hb5 hbb5 hN hnews
        go_wp2
        go_roundw
        case rel => exact ⟨i + 1, l ++ [t], by omega, by simp [hli], by go_num, hq6, HE, hbb6⟩
        case measure => simp [intOf]; omega
    · have hii : i = ms.length := by omega
      have H : Hid (getTagsL s.data.toList = (l, k, 0)) := by
        have h1 := hE.out
        have h2 := Hml.out
        rw [List.take_of_length_le (by omega)] at h1
        have := HG.out
        rw [h1] at this
        exact this
      obtain ⟨qa, qc, rfl, hqn, hqt⟩ := hq.form
      have hff := hq.foot_ge (B := w.heap.size) hb1.size (fun _ _ _ h => h.elim)
      clear hE
      go_wp2
      go_ret3
      exact ⟨l, k, 0, qa, qc, rfl, H.out, hqt, hqn, hff, hb⟩
end Go.Proofs.YtmngiekobmhpaaaGreat

/- A Ref in a new cell; four cells of a block that are written one behind the other. -/
namespace Go.Proofs.YtmngiekobmhpaaaGreat
open Go.RowKit
set_option linter.unusedVariables false

theorem rd_append (l m : List RefM) : rd (l ++ m) = rd l ++ rd m := by simp [rd]

theorem new_ref (w : World) (x : RefM) : ∀ j u, (refK.c x)[j]? = some u → (w.alloc (.cells #[.string x.digest, .slice x.ao x.acks.length x.cap] 126)).cell? ((⟨w.heap.size, 0, none⟩ : Addr).add j) = some u := by
  intro j u hu
  rw [Go.WideShapes.add_plain, Nat.zero_add]
  exact (Arr.new w 126 [.string x.digest, .slice x.ao x.acks.length x.cap]).cell hu

/-- Four cells are written anew. -/
def set4 (w : World) (g : Nat) (v0 v1 v2 v3 : Value) : World := (((w.setCell ⟨g, 0, none⟩ v0).setCell ⟨g, 1, none⟩ v1).setCell ⟨g, 2, none⟩ v2).setCell ⟨g, 3, none⟩ v3

theorem Arr.set4 {w : World} {g : Nat} {t : TypeId} {a0 a1 a2 a3 : Value} (h : Arr w g t [a0, a1, a2, a3]) (v0 v1 v2 v3 : Value) : Arr (Proofs.YtmngiekobmhpaaaGreat.set4 w g v0 v1 v2 v3) g t [v0, v1, v2, v3] := (((h.set 0 v0).set 1 v1).set 2 v2).set 3 v3

theorem below_set4 {B : Nat} {w w' : World} (h : Below B w w') {g : Nat} (hg : B ≤ g) (v0 v1 v2 v3 : Value) : Below B w (set4 w' g v0 v1 v2 v3) :=
  (((h.setCell (p := ⟨g, 0, none⟩) hg v0).setCell (p := ⟨g, 1, none⟩) hg v1).setCell (p := ⟨g, 2, none⟩) hg v2).setCell (p := ⟨g, 3, none⟩) hg v3

theorem kept_set4 (w : World) (g : Nat) (v0 v1 v2 v3 : Value) : Kept (fun k => k = g) w (set4 w g v0 v1 v2 v3) :=
  ((((Kept.refl (fun k => k = g) w).set (p := ⟨g, 0, none⟩) rfl v0).set (p := ⟨g, 1, none⟩) rfl v1).set (p := ⟨g, 2, none⟩) rfl v2).set (p := ⟨g, 3, none⟩) rfl v3
end Go.Proofs.YtmngiekobmhpaaaGreat
