/- Texts as one: RefTxSame, RefBatSame, BatchSealsSt, OpFrame, BatchSealsWalk. -/
import Derived.Test.YtibfnefdpbdkoaaTxOwn
import Derived.Test.YtibfnefdpbdkoaaBatCheck
import Derived.Deep.RegionHeld3
import Derived.Test.YtibfnefdpbdkoaaRefTick
import Derived.Test.YtibfnefdpbdkoaaBatAddNew
import Derived.Test.YtibfnefdpbdkoaaBatOwn
import Derived.Test.YtibfnefdpbdkoaaBatFrame
import Derived.Deep.QuietTactic
/- tuskref04.Same answers true at two transactions that read the same; nothing old in memory is turned. -/
namespace Go.Proofs.Ytibfnefdpbdkoaa
open Go.RowKit
set_option linter.unusedVariables false

set_option maxRecDepth 100000 in
set_option maxHeartbeats 1000000 in
theorem sameTx_any (d : TxD) (ra : Option Addr) (rc : Nat) (wa : Option Addr) (wc : Nat) (ra2 : Option Addr) (rc2 : Nat) (wa2 : Option Addr) (wc2 : Nat) (w : World) (h1 : TxAt w d ra wa) (h2 : TxAt w d ra2 wa2) (l1 : d.rs.length ≤ 9223372036854775807) (l2 : d.ws.length ≤ 9223372036854775807) :
    Calls Try.prog 17 #[txV d ra rc wa wc, txV d ra2 rc2 wa2 wc2] w fun e w' => e = .returned (.bool true) ∧ Below w.heap.size w w' := by
  obtain ⟨hX, hY, hB⟩ := two_new w 33 33 (txC d ra rc wa wc) (txC d ra2 rc2 wa2 wc2)
  have k1 := h1.below hB
  have k2 := h2.below hB
  have cR := fun w1 (g1 : StrsAt w1 ra d.rs) (g2 : StrsAt w1 ra2 d.rs) => same_any ra ra2 rc rc2 d.rs w1 g1 g2 l1
  have cW := fun w1 (g1 : StrsAt w1 wa d.ws) (g2 : StrsAt w1 wa2 d.ws) => same_any wa wa2 wc wc2 d.ws w1 g1 g2 l2
  unfold txV
  go_enter Try.func17, Try.ntmps17
  go_wp2_with fail
  refine (cR _ k1.rd k2.rd).mono ?_
  rintro e w1 ⟨rfl, hb1⟩
  have y8 := (hY.below hb1 hY.lt).cell (i := 8) rfl
  have x8 := (hX.below hb1 hX.lt).cell (i := 8) rfl
  have hB1 := hB.trans (hb1.mono hB.size)
  have j1 := k1.below hb1
  have j2 := k2.below hb1
  clear hb1 hX hY hB k1 k2 h1 h2 cR
  go_wp2_with fail
  refine (cW _ j1.wr j2.wr).mono ?_
  rintro e w2 ⟨rfl, hb2⟩
  have hB2 := hB1.trans (hb2.mono hB1.size)
  clear hb2 hB1 cW j1 j2
  go_wp2
  go_ret
  exact ⟨rfl, hB2⟩
end Go.Proofs.Ytibfnefdpbdkoaa

/- tuskref05.Same answers true at two batches that read the same; nothing old in memory is turned. -/
namespace Go.Proofs.Ytibfnefdpbdkoaa
open Go.RowKit
set_option linter.unusedVariables false

theorem dl_get {l m : List TxM} (h : dl l = dl m) {k : Nat} {x y : TxM} (hx : l[k]? = some x) (hy : m[k]? = some y) : y.d = x.d := by
  have h1 : (dl l)[k]? = some x.d := by simp [dl, hx]
  have h2 : (dl m)[k]? = some y.d := by simp [dl, hy]
  rw [h, h2] at h1
  simpa using h1

set_option maxRecDepth 100000 in
set_option maxHeartbeats 4000000 in
theorem sameB_any (a n : Int) (ao : Option Addr) (l : List TxM) (cap : Nat) (ao2 : Option Addr) (m : List TxM) (cap2 : Nat) (w : World) (hA : TxsAt w ao l) (hA2 : TxsAt w ao2 m) (hd : dl l = dl m) (hn : l.length ≤ 4611686018427387903) (hL : ∀ x ∈ l, x.d.rs.length ≤ 9223372036854775807 ∧ x.d.ws.length ≤ 9223372036854775807) :
    Calls Try.prog 12 #[batV a n ao l.length cap, batV a n ao2 m.length cap2] w fun e w' => e = .returned (.bool true) ∧ Below w.heap.size w w' := by
  have hlm : m.length = l.length := by rw [← dl_length m, ← hd, dl_length]
  rw [hlm]
  obtain ⟨hX, hY, hB⟩ := two_new w 40 40 (batC a n ao l.length cap) (batC a n ao2 l.length cap2)
  have x0 := hX.cell (i := 0) rfl
  have x1 := hX.cell (i := 1) rfl
  have x2 := hX.cell (i := 2) rfl
  have y0 := hY.cell (i := 0) rfl
  have y1 := hY.cell (i := 1) rfl
  have y2 := hY.cell (i := 2) rfl
  unfold batV
  go_enter Try.func12, Try.ntmps12
  go_wp2
  go_loopw [5] (fun v wr => ∃ k : Nat, k ≤ l.length ∧ v = .int .i64 (k : Int) ∧ Arr wr w.heap.size 40 (batC a n ao l.length cap) ∧ Arr wr (w.heap.size + 1) 40 (batC a n ao2 l.length cap2) ∧ Below w.heap.size w wr) (fun v _ => l.length - (intOf v).toNat)
  case atStart => exact ⟨0, Nat.zero_le _, rfl, hX, hY, hB⟩
  case round =>
    obtain ⟨k, hk, rfl, hX1, hY1, hb⟩ := hrel
    clear hX hY hB x0 x1 x2 y0 y1 y2
    have x2 := hX1.cell (i := 2) rfl
    have y2 := hY1.cell (i := 2) rfl
    by_cases hlt : k < l.length
    · obtain ⟨x, hx⟩ : ∃ x, l[k]? = some x := ⟨l[k], List.getElem?_eq_getElem hlt⟩
      obtain ⟨y, hy⟩ : ∃ y, m[k]? = some y := ⟨m[k]'(by omega), List.getElem?_eq_getElem (by omega)⟩
      obtain ⟨b, off, rfl, hbl, p0, p1, p2, p3, p4, p5, p6, p7, p8⟩ := (hA.below hb).cells hx
      obtain ⟨b2, off2, rfl, hbl2, q0, q1, q2, q3, q4, q5, q6, q7, q8⟩ := (hA2.below hb).cells hy
      have hAt := (hA k x hx).2.below hb
      have hAt2 := (hA2 k y hy).2.below hb
      have hxy := dl_get hd hx hy
      have hl1 := hL x (List.mem_of_getElem? hx)
      have hkm : k < m.length := by omega
      have cC := fun w1 (h : TxAt w1 x.d x.ra x.wa) (h2 : TxAt w1 x.d y.ra y.wa) => sameTx_any x.d x.ra x.rc x.wa x.wc y.ra y.rc y.wa y.wc w1 h h2 hl1.1 hl1.2
      have ht2 := hAt2.at_
      rw [hxy] at q0 q1 q2 q3 q4 q5 q6 q7 q8 ht2
      have ht1 := hAt.at_
      have hS : (wr.cell? ⟨b, off + k * 9, none⟩ = some (.int .i64 x.d.kind) ∧ wr.cell? ⟨b, off + k * 9 + 1, none⟩ = some (.string x.d.frm) ∧ wr.cell? ⟨b, off + k * 9 + 2, none⟩ = some (.string x.d.to) ∧ wr.cell? ⟨b, off + k * 9 + 3, none⟩ = some (.int .u64 (x.d.amt : Int)) ∧ wr.cell? ⟨b, off + k * 9 + 4, none⟩ = some (.int .u64 (x.d.non : Int)) ∧ wr.cell? ⟨b, off + k * 9 + 5, none⟩ = some (.string x.d.key) ∧ wr.cell? ⟨b, off + k * 9 + 6, none⟩ = some (.string x.d.val) ∧ wr.cell? ⟨b, off + k * 9 + 7, none⟩ = some (.slice x.ra x.d.rs.length x.rc) ∧ wr.cell? ⟨b, off + k * 9 + 8, none⟩ = some (.slice x.wa x.d.ws.length x.wc)) ∧ (wr.cell? ⟨b2, off2 + k * 9, none⟩ = some (.int .i64 x.d.kind) ∧ wr.cell? ⟨b2, off2 + k * 9 + 1, none⟩ = some (.string x.d.frm) ∧ wr.cell? ⟨b2, off2 + k * 9 + 2, none⟩ = some (.string x.d.to) ∧ wr.cell? ⟨b2, off2 + k * 9 + 3, none⟩ = some (.int .u64 (x.d.amt : Int)) ∧ wr.cell? ⟨b2, off2 + k * 9 + 4, none⟩ = some (.int .u64 (x.d.non : Int)) ∧ wr.cell? ⟨b2, off2 + k * 9 + 5, none⟩ = some (.string x.d.key) ∧ wr.cell? ⟨b2, off2 + k * 9 + 6, none⟩ = some (.string x.d.val) ∧ wr.cell? ⟨b2, off2 + k * 9 + 7, none⟩ = some (.slice y.ra x.d.rs.length y.rc) ∧ wr.cell? ⟨b2, off2 + k * 9 + 8, none⟩ = some (.slice y.wa x.d.ws.length y.wc)) ∧ wr.cell? ⟨w.heap.size, 2, none⟩ = some (.slice (some ⟨b, off, none⟩) l.length cap) ∧ wr.cell? ⟨w.heap.size + 1, 2, none⟩ = some (.slice (some ⟨b2, off2, none⟩) l.length cap2) := ⟨⟨p0, p1, p2, p3, p4, p5, p6, p7, p8⟩, ⟨q0, q1, q2, q3, q4, q5, q6, q7, q8⟩, x2, y2⟩
      have hcs : ∀ w2, Below wr.heap.size wr w2 → ((w2.cell? ⟨b, off + k * 9, none⟩ = some (.int .i64 x.d.kind) ∧ w2.cell? ⟨b, off + k * 9 + 1, none⟩ = some (.string x.d.frm) ∧ w2.cell? ⟨b, off + k * 9 + 2, none⟩ = some (.string x.d.to) ∧ w2.cell? ⟨b, off + k * 9 + 3, none⟩ = some (.int .u64 (x.d.amt : Int)) ∧ w2.cell? ⟨b, off + k * 9 + 4, none⟩ = some (.int .u64 (x.d.non : Int)) ∧ w2.cell? ⟨b, off + k * 9 + 5, none⟩ = some (.string x.d.key) ∧ w2.cell? ⟨b, off + k * 9 + 6, none⟩ = some (.string x.d.val) ∧ w2.cell? ⟨b, off + k * 9 + 7, none⟩ = some (.slice x.ra x.d.rs.length x.rc) ∧ w2.cell? ⟨b, off + k * 9 + 8, none⟩ = some (.slice x.wa x.d.ws.length x.wc)) ∧ (w2.cell? ⟨b2, off2 + k * 9, none⟩ = some (.int .i64 x.d.kind) ∧ w2.cell? ⟨b2, off2 + k * 9 + 1, none⟩ = some (.string x.d.frm) ∧ w2.cell? ⟨b2, off2 + k * 9 + 2, none⟩ = some (.string x.d.to) ∧ w2.cell? ⟨b2, off2 + k * 9 + 3, none⟩ = some (.int .u64 (x.d.amt : Int)) ∧ w2.cell? ⟨b2, off2 + k * 9 + 4, none⟩ = some (.int .u64 (x.d.non : Int)) ∧ w2.cell? ⟨b2, off2 + k * 9 + 5, none⟩ = some (.string x.d.key) ∧ w2.cell? ⟨b2, off2 + k * 9 + 6, none⟩ = some (.string x.d.val) ∧ w2.cell? ⟨b2, off2 + k * 9 + 7, none⟩ = some (.slice y.ra x.d.rs.length y.rc) ∧ w2.cell? ⟨b2, off2 + k * 9 + 8, none⟩ = some (.slice y.wa x.d.ws.length y.wc)) ∧ w2.cell? ⟨w.heap.size, 2, none⟩ = some (.slice (some ⟨b, off, none⟩) l.length cap) ∧ w2.cell? ⟨w.heap.size + 1, 2, none⟩ = some (.slice (some ⟨b2, off2, none⟩) l.length cap2)) := by
        intro w2 hb2
        have c := fun (g o : Nat) (v : Value) (h : g < wr.heap.size) (hc : wr.cell? ⟨g, o, none⟩ = some v) => (hb2.cell (p := ⟨g, o, none⟩) h).trans hc
        exact ⟨⟨c _ _ _ hbl p0, c _ _ _ hbl p1, c _ _ _ hbl p2, c _ _ _ hbl p3, c _ _ _ hbl p4, c _ _ _ hbl p5, c _ _ _ hbl p6, c _ _ _ hbl p7, c _ _ _ hbl p8⟩, ⟨c _ _ _ hbl2 q0, c _ _ _ hbl2 q1, c _ _ _ hbl2 q2, c _ _ _ hbl2 q3, c _ _ _ hbl2 q4, c _ _ _ hbl2 q5, c _ _ _ hbl2 q6, c _ _ _ hbl2 q7, c _ _ _ hbl2 q8⟩, c _ _ _ hX1.lt x2, c _ _ _ hY1.lt y2⟩
      have hbd : Below wr.heap.size wr wr.drew := below_drewN (Below.refl _ _) 1
      clear p0 p1 p2 p3 p4 p5 p6 p7 p8 q0 q1 q2 q3 q4 q5 q6 q7 q8 hAt hAt2 hx hy hl1
      go_wp2_with fail
      go_region_held3 (fun w' => (w'.cell? ⟨b, off + k * 9, none⟩ = some (.int .i64 x.d.kind) ∧ w'.cell? ⟨b, off + k * 9 + 1, none⟩ = some (.string x.d.frm) ∧ w'.cell? ⟨b, off + k * 9 + 2, none⟩ = some (.string x.d.to) ∧ w'.cell? ⟨b, off + k * 9 + 3, none⟩ = some (.int .u64 (x.d.amt : Int)) ∧ w'.cell? ⟨b, off + k * 9 + 4, none⟩ = some (.int .u64 (x.d.non : Int)) ∧ w'.cell? ⟨b, off + k * 9 + 5, none⟩ = some (.string x.d.key) ∧ w'.cell? ⟨b, off + k * 9 + 6, none⟩ = some (.string x.d.val) ∧ w'.cell? ⟨b, off + k * 9 + 7, none⟩ = some (.slice x.ra x.d.rs.length x.rc) ∧ w'.cell? ⟨b, off + k * 9 + 8, none⟩ = some (.slice x.wa x.d.ws.length x.wc)) ∧ (w'.cell? ⟨b2, off2 + k * 9, none⟩ = some (.int .i64 x.d.kind) ∧ w'.cell? ⟨b2, off2 + k * 9 + 1, none⟩ = some (.string x.d.frm) ∧ w'.cell? ⟨b2, off2 + k * 9 + 2, none⟩ = some (.string x.d.to) ∧ w'.cell? ⟨b2, off2 + k * 9 + 3, none⟩ = some (.int .u64 (x.d.amt : Int)) ∧ w'.cell? ⟨b2, off2 + k * 9 + 4, none⟩ = some (.int .u64 (x.d.non : Int)) ∧ w'.cell? ⟨b2, off2 + k * 9 + 5, none⟩ = some (.string x.d.key) ∧ w'.cell? ⟨b2, off2 + k * 9 + 6, none⟩ = some (.string x.d.val) ∧ w'.cell? ⟨b2, off2 + k * 9 + 7, none⟩ = some (.slice y.ra x.d.rs.length y.rc) ∧ w'.cell? ⟨b2, off2 + k * 9 + 8, none⟩ = some (.slice y.wa x.d.ws.length y.wc)) ∧ w'.cell? ⟨w.heap.size, 2, none⟩ = some (.slice (some ⟨b, off, none⟩) l.length cap) ∧ w'.cell? ⟨w.heap.size + 1, 2, none⟩ = some (.slice (some ⟨b2, off2, none⟩) l.length cap2)) (exact hcs _ (by assumption))
        (first
        | (go_at_call 17; refine (cC _ (ht1.below hbd) (ht2.below hbd)).mono ?_; rintro e wA ⟨rfl, hbA⟩; have hbA' := hbd.trans (Below.mono hbA hbd.size)))
      have hX2 := hX1.below hbA' hX1.lt
      have hY2 := hY1.below hbA' hY1.lt
      have hb4 := hb.trans (hbA'.mono hb.size)
      clear hcs hS hbd hbA hbA' hX1 hY1 x2 y2 ht1 ht2
      go_wp2
      go_roundw
      case rel => exact ⟨k + 1, by omega, by go_num, hX2, hY2, hb4⟩
      case measure => simp [intOf]; omega
    · go_wp2
      go_ret
      exact ⟨rfl, hb⟩
end Go.Proofs.Ytibfnefdpbdkoaa

/- Two sealers side by side: the program's and the reference's. -/
namespace Go.Proofs.Ytibfnefdpbdkoaa
open Go.RowKit
set_option linter.unusedVariables false

/-- The same sealer, of what its transactions say. -/
def Seal.mapD (s : Seal TxM) : Seal TxD := ⟨s.size, s.wait, dl s.l, s.ticks, s.number⟩

theorem mapD_nil {s : Seal TxM} : s.mapD.l = [] ↔ s.l = [] := by
  show dl s.l = [] ↔ _
  unfold dl
  exact List.map_eq_nil_iff

theorem mapD_seals (s : Seal TxM) : s.mapD.seals = s.seals := by
  unfold Seal.seals
  have e : s.mapD.l.length = s.l.length := dl_length s.l
  have e2 : s.mapD.l.isEmpty = s.l.isEmpty := by
    show (dl s.l).isEmpty = _
    unfold dl
    exact List.isEmpty_map
  rw [e, e2]
  rfl

theorem mapD_tick (s : Seal TxM) : s.mapD.tick = s.tick.mapD := by
  unfold Seal.tick
  by_cases hl : s.l = []
  · rw [if_pos (mapD_nil.2 hl), if_pos hl]
  · rw [if_neg (fun h => hl (mapD_nil.1 h)), if_neg hl, mapD_seals]
    by_cases hs : s.seals = true
    · rw [if_pos hs, if_pos hs]
      show (⟨s.size, s.wait, (dl s.l).drop s.size, 0, s.number + 1⟩ : Seal TxD) = ⟨s.size, s.wait, dl (s.l.drop s.size), 0, s.number + 1⟩
      unfold dl
      rw [List.map_drop]
    · rw [if_neg hs, if_neg hs]
      rfl

theorem mapD_out (s : Seal TxM) : s.mapD.out = dl s.out := by
  unfold Seal.out
  rw [mapD_seals]
  by_cases hs : s.seals = true
  · rw [if_pos hs, if_pos hs]
    show (dl s.l).take s.size = dl (s.l.take s.size)
    unfold dl
    rw [List.map_take]
  · rw [if_neg hs, if_neg hs]
    rfl

theorem mapD_len {s1 s2 : Seal TxM} (h : s1.mapD = s2.mapD) : s1.l.length = s2.l.length := by
  rw [← dl_length s1.l, ← dl_length s2.l]
  exact congrArg (fun s : Seal TxD => s.l.length) h

theorem mapD_size {s1 s2 : Seal TxM} (h : s1.mapD = s2.mapD) : s1.size = s2.size := congrArg (fun s : Seal TxD => s.size) h
theorem mapD_number {s1 s2 : Seal TxM} (h : s1.mapD = s2.mapD) : s1.number = s2.number := congrArg (fun s : Seal TxD => s.number) h

theorem mapD_addE {s1 s2 : Seal TxM} (h : s1.mapD = s2.mapD) (d : TxD) : addE s1 d = addE s2 d := by
  unfold addE
  rw [mapD_len h, mapD_size h]

theorem mapD_put {s1 s2 : Seal TxM} (h : s1.mapD = s2.mapD) {x y : TxM} (hd : x.d = y.d) : (s1.put x).mapD = (s2.put y).mapD := by
  unfold Seal.put
  rw [hd, mapD_addE h]
  by_cases hE : addE s2 y.d = 0
  · rw [if_pos hE, if_pos hE]
    have e1 : dl (s1.l ++ [x]) = dl (s2.l ++ [y]) := by
      have hl : dl s1.l = dl s2.l := congrArg (fun s : Seal TxD => s.l) h
      unfold dl at hl ⊢
      rw [List.map_append, List.map_append, hl]
      simp [hd]
    show (⟨s1.size, s1.wait, dl (s1.l ++ [x]), s1.ticks, s1.number⟩ : Seal TxD) = ⟨s2.size, s2.wait, dl (s2.l ++ [y]), s2.ticks, s2.number⟩
    rw [e1, mapD_size h, mapD_number h, show s1.wait = s2.wait from congrArg (fun s : Seal TxD => s.wait) h, show s1.ticks = s2.ticks from congrArg (fun s : Seal TxD => s.ticks) h]
  · rw [if_neg hE, if_neg hE]
    exact h

theorem seal_put_ok {s : Seal TxM} (h : s.Ok) (x : TxM) : (s.put x).Ok := by
  unfold Seal.put
  split
  · rename_i hE
    have hr : ¬ 4 * s.size ≤ s.l.length := fun hh => by
      unfold addE at hE
      split at hE
      · omega
      · first | omega | (rw [if_pos hh] at hE; omega)
    exact ⟨h.size1, h.size16, h.wait1, h.wait1000, by simp only [List.length_append, List.length_cons, List.length_nil]; omega, h.less, fun e => by simp at e⟩
  · exact h

theorem put_mem {s : Seal TxM} {x y : TxM} (h : y ∈ (s.put x).l) : y ∈ s.l ∨ (y = x ∧ addE s x.d = 0) := by
  unfold Seal.put at h
  split at h
  · rename_i hE
    simp only [List.mem_append, List.mem_singleton] at h
    exact h.imp id (fun e => ⟨e, hE⟩)
  · exact Or.inl h

theorem addE_right {s : Seal TxM} {d : TxD} (h : addE s d = 0) : checkL d = 0 := by
  unfold addE at h
  split at h
  · assumption
  · rename_i hc
    exact Decidable.not_not.1 hc

theorem tick_mem {s : Seal TxM} {y : TxM} (h : y ∈ s.tick.l) : y ∈ s.l := by
  rw [← Seal.tick_order s]
  exact List.mem_append_right _ h

theorem TxM.At.offOld {x : TxM} {w : World} (h : x.At w) {S : Nat → Prop} (hS : ∀ k, S k → w.heap.size ≤ k) : x.Off S :=
  ⟨fun b off e hl hk => (h.off_new (hS b hk)).r b off e hl rfl, fun b off e hl hk => (h.off_new (hS b hk)).w b off e hl rfl⟩

theorem cell_list {w : World} {g : Nat} {t : TypeId} {cs : List Value} (h : Arr w g t cs) (i : Nat) : w.cell? ⟨g, i, none⟩ = cs[i]? := by
  unfold Arr at h
  simp [World.cell?, h]

theorem lens_rS {d : TxD} (h : checkL d = 0) : d.rs.length ≤ 8 ∧ d.ws.length ≤ 8 := by
  unfold checkL at h
  split at h
  · omega
  split at h
  · omega
  split at h
  · omega
  split at h
  · omega
  rename_i h4
  exact ⟨keysL_le _ (by omega), keysL_le _ h⟩

/-- Both sealers lie in new memory, apart. -/
structure PB (w0 : World) (au : Int) (p r : Nat) (q1 q2 : Value) (s1 s2 : Seal TxM) (w : World) : Prop where
  a : SlAt 55 w w0.heap.size p q1 au s1
  b : SlAt 46 w w0.heap.size r q2 au s2
  ok1 : s1.Ok
  ok2 : s2.Ok
  apart : ∀ k, SlB p q1 k → ¬ SlB r q2 k
  offA : ∀ x ∈ s1.l, x.Off (SlB r q2)
  offB : ∀ x ∈ s2.l, x.Off (SlB p q1)
  bel : Below w0.heap.size w0 w
  right : ∀ x ∈ s1.l, checkL x.d = 0

section
variable {w0 : World} {au : Int} {p r : Nat} {q1 q2 : Value} {s1 s2 : Seal TxM} {w : World}

theorem PB.below (h : PB w0 au p r q1 q2 s1 s2 w) {w' : World} (hb : Below w.heap.size w w') : PB w0 au p r q1 q2 s1 s2 w' :=
  ⟨h.a.below hb, h.b.below hb, h.ok1, h.ok2, h.apart, h.offA, h.offB, h.bel.trans (hb.mono h.bel.size), h.right⟩

theorem slb_lt {T : TypeId} {base p : Nat} {q : Value} {s : Seal TxM} (h : SlAt T w base p q au s) {k : Nat} (hk : SlB p q k) : k < w.heap.size := by
  rcases hk with rfl | hk
  · exact h.own.2
  · exact h.lt k hk

theorem slb_ge {T : TypeId} {base p : Nat} {q : Value} {s : Seal TxM} (h : SlAt T w base p q au s) {k : Nat} (hk : SlB p q k) : base ≤ k := by
  rcases hk with rfl | hk
  · exact h.own.1
  · exact h.lb k hk

theorem PB.stepA (h : PB w0 au p r q1 q2 s1 s2 w) {w' : World} {q' : Value} {s' : Seal TxM} (hA : SlAt 55 w' w0.heap.size p q' au s') (hk : Kept (SlB p q1) w w') (hf : ∀ k, SlB p q' k → SlB p q1 k ∨ w.heap.size ≤ k) (ok : s'.Ok) (hn : ∀ x ∈ s'.l, x ∈ s1.l ∨ (x.Off (SlB r q2) ∧ checkL x.d = 0)) :
    PB w0 au p r q' q2 s' s2 w' := by
  refine ⟨hA, h.b.kept hk (fun k hb ha => h.apart k ha hb) h.offB, ok, h.ok2, fun k ha hb => ?_, fun x hx => ?_, fun x hx => ?_, h.bel.trans (h.a.keptBelow hk (Nat.le_refl _)), fun x hx => ?_⟩
  · rcases hf k ha with h1 | h1
    · exact h.apart k h1 hb
    · have := slb_lt h.b hb
      omega
  · rcases hn x hx with h1 | h1
    · exact h.offA x h1
    · exact h1.1
  · have h1 := h.offB x hx
    have h2 := (h.b.at_ x hx).offOld (S := fun k => w.heap.size ≤ k) (fun _ h => h)
    exact (h1.or h2).mono hf
  · rcases hn x hx with h1 | h1
    · exact h.right x h1
    · exact h1.2

theorem PB.stepB (h : PB w0 au p r q1 q2 s1 s2 w) {w' : World} {q' : Value} {s' : Seal TxM} (hB : SlAt 46 w' w0.heap.size r q' au s') (hk : Kept (SlB r q2) w w') (hf : ∀ k, SlB r q' k → SlB r q2 k ∨ w.heap.size ≤ k) (ok : s'.Ok) (hn : ∀ x ∈ s'.l, x ∈ s2.l ∨ x.Off (SlB p q1)) :
    PB w0 au p r q1 q' s1 s' w' := by
  refine ⟨h.a.kept hk (fun k ha hb => h.apart k ha hb) h.offA, hB, h.ok1, ok, fun k ha hb => ?_, fun x hx => ?_, fun x hx => ?_, h.bel.trans (h.b.keptBelow hk (Nat.le_refl _)), h.right⟩
  · rcases hf k hb with h1 | h1
    · exact h.apart k ha h1
    · have := slb_lt h.a ha
      omega
  · have h1 := h.offA x hx
    have h2 := (h.a.at_ x hx).offOld (S := fun k => w.heap.size ≤ k) (fun _ h => h)
    exact (h1.or h2).mono hf
  · rcases hn x hx with h1 | h1
    · exact h.offB x h1
    · exact h1

theorem PB.add (h : PB w0 au p r q1 q2 s1 s2 w) (x : TxM) (hx : x.At w) (hl1 : x.d.rs.length * 16 ≤ 140737488351232) (hl2 : x.d.ws.length * 16 ≤ 140737488351232) :
    Calls Try.prog 7 #[.pointer (some ⟨p, 0, none⟩), x.v] w fun e w' => e = .returned (.int .i64 (addE s1 x.d : Int)) ∧ ∃ y q', y.d = x.d ∧ PB w0 au p r q' q2 (s1.put y) s2 w' := by
  refine (add_new x w h.a h.ok1 hx hl1 hl2).mono ?_
  rintro e w' ⟨rfl, y, q', hd, ho, hA, hk, hf⟩
  refine ⟨rfl, y, q', hd, h.stepA hA hk hf (seal_put_ok h.ok1 y) (fun z hz => ?_)⟩
  rcases put_mem hz with h1 | ⟨rfl, hE⟩
  · exact Or.inl h1
  · exact Or.inr ⟨(ho (by rw [← hd]; exact hE)).mono (fun k hk => slb_lt h.b hk), addE_right hE⟩

theorem PB.radd (h : PB w0 au p r q1 q2 s1 s2 w) (x : TxM) (hx : x.At w0) (hsz : TxSizes x.d) :
    Calls Try.prog 9 #[.pointer (some ⟨r, 0, none⟩), x.v] w fun e w' => e = .returned (.int .i64 (addE s2 x.d : Int)) ∧ ∃ q', PB w0 au p r q1 q' s1 (s2.put x) w' := by
  refine (refAdd_any x w h.b h.ok2 (hx.below h.bel) (hx.offOld (fun k hk => slb_ge h.b hk)) hsz).mono ?_
  rintro e w' ⟨rfl, q', hB, hk, hf⟩
  refine ⟨rfl, q', h.stepB hB hk hf (seal_put_ok h.ok2 x) (fun z hz => ?_)⟩
  rcases put_mem hz with h1 | ⟨rfl, hE⟩
  · exact Or.inl h1
  · exact Or.inr (hx.offOld (fun k hk => slb_ge h.a hk))

theorem tick_blocks {p : Nat} {q q' : Value} {n : Nat} (hq : ∀ k, q'.ownBlock = some k → q.ownBlock = some k ∨ n ≤ k) : ∀ k, SlB p q' k → SlB p q k ∨ n ≤ k := fun k hk => by
  rcases hk with rfl | hk
  · exact Or.inl (Or.inl rfl)
  · exact (hq k hk).imp (fun h => Or.inr h) id

theorem PB.tick (h : PB w0 au p r q1 q2 s1 s2 w) (hnum : s1.number ≤ 4611686018427387903) :
    Calls Try.prog 10 #[.pointer (some ⟨p, 0, none⟩)] w fun e w' => ∃ fo fc q', e = .returned (.tuple #[batV (if s1.seals = true then au else 0) (if s1.seals = true then (s1.number : Int) + 1 else 0) fo s1.out.length fc, .bool s1.seals]) ∧ TxsAt w' fo s1.out ∧ PB w0 au p r q' q2 s1.tick s2 w' := by
  refine (tick_any w h.a h.ok1 hnum).mono ?_
  rintro e w' ⟨fo, fc, q', rfl, hfn, hT, hA, hk, hq⟩
  have hk' : Kept (SlB p q1) w w' := hk.mono (fun k _ e => Or.inl e)
  have hP := h.stepA hA hk' (tick_blocks hq) (Seal.tick_ok h.ok1) (fun x hx => Or.inl (tick_mem hx))
  exact ⟨fo, fc, q', rfl, hT, hP⟩

theorem PB.rtick (h : PB w0 au p r q1 q2 s1 s2 w) (hnum : s2.number ≤ 4611686018427387903) :
    Calls Try.prog 11 #[.pointer (some ⟨r, 0, none⟩)] w fun e w' => ∃ fo fc q', e = .returned (.tuple #[batV (if s2.seals = true then au else 0) (if s2.seals = true then (s2.number : Int) + 1 else 0) fo s2.out.length fc, .bool s2.seals]) ∧ TxsAt w' fo s2.out ∧ Kept (fun k => k = r) w w' ∧ PB w0 au p r q1 q' s1 s2.tick w' := by
  refine (refTick_any w h.b h.ok2 hnum).mono ?_
  rintro e w' ⟨fo, fc, q', rfl, hfn, hT, hB, hk, hq⟩
  have hk' : Kept (SlB r q2) w w' := hk.mono (fun k _ e => Or.inl e)
  exact ⟨fo, fc, q', rfl, hT, hk, h.stepB hB hk' (tick_blocks hq) (Seal.tick_ok h.ok2) (fun x hx => Or.inl (tick_mem hx))⟩

/-- A sealer's box holds no row of transactions. -/
theorem PB.row_off (h : PB w0 au p r q1 q2 s1 s2 w) {fo : Option Addr} {l : List TxM} (hT : TxsAt w fo l) (hne : l ≠ []) : ∀ b off, fo = some ⟨b, off, none⟩ → b ≠ r := by
  intro b off e hbr
  subst hbr
  obtain ⟨x, rest, rfl⟩ := List.exists_cons_of_ne_nil hne
  obtain ⟨⟨b', off', e', _, hc⟩, _⟩ := hT 0 x rfl
  rw [e] at e'
  simp only [Option.some.injEq, Addr.mk.injEq, and_true] at e'
  obtain ⟨rfl, rfl⟩ := e'
  have h1 := hc 1 (.string x.d.frm) rfl
  obtain ⟨qa, qc, hq, _, _⟩ := h.b.row.form
  have hbox := h.b.box
  rw [hq] at hbox
  have h2 := cell_list hbox (off + 0 * 9 + 1)
  rw [h1] at h2
  have e9 : off + 0 * 9 + 1 = off + 1 := by omega
  rw [e9] at h2
  rcases off with _ | _ | _ | _ | _ | off <;> simp at h2

/-- It stays through the reference's tick. -/
theorem PB.row_kept (h : PB w0 au p r q1 q2 s1 s2 w) {fo : Option Addr} {l : List TxM} (hT : TxsAt w fo l) (ho : ∀ x ∈ l, x.Off (SlB r q2)) {w' : World} (hk : Kept (fun k => k = r) w w') : TxsAt w' fo l := by
  by_cases hne : l = []
  · subst hne
    exact nil_txs _ _
  · exact hT.kept hk (h.row_off hT hne) (fun x hx => (ho x hx).mono (fun k e => Or.inl e))

theorem out_mem {s : Seal TxM} {y : TxM} (h : y ∈ s.out) : y ∈ s.l := by
  rw [← Seal.tick_order s]
  exact List.mem_append_left _ h

theorem PB.waits (h : PB w0 au p r q1 q2 s1 s2 w) :
    Calls Try.prog 13 #[.pointer (some ⟨p, 0, none⟩)] w fun e w' => e = .returned (.int .i64 (s1.l.length : Int)) ∧ w' = w := waits_any w h.a
end
end Go.Proofs.Ytibfnefdpbdkoaa

/- How a row of operations that came in is opened; its sizes. -/
namespace Go.Proofs.Ytibfnefdpbdkoaa
open Go.ChangeShapes Go.WideShapes Go.ChangeAt Go.RowKit Go.Joins Go.Deep
set_option linter.unusedVariables false

/-- An operation: a tick, or a transaction that is added. -/
structure OpM where
  tick : Bool
  x : TxM

def OpM.c (o : OpM) : List Value := .bool o.tick :: o.x.c

theorem OpM.c_length (o : OpM) : o.c.length = 10 := rfl

theorem cellsOp : Try.prog.cellsOf 35 = 10 := by kernel_rfl

/-- A row of operations lies at an address. -/
def OpsAt (w : World) (ao : Option Addr) (l : List OpM) : Prop :=
  ∀ i o, l[i]? = some o → (∃ b off, ao = some ⟨b, off, none⟩ ∧ b < w.heap.size ∧ ∀ j v, o.c[j]? = some v → w.cell? ⟨b, off + i * 10 + j, none⟩ = some v) ∧ o.x.At w

theorem OpsAt.below {w w' : World} {ao : Option Addr} {l : List OpM} {B : Nat} (h : OpsAt w ao l) (hb : Below w.heap.size w w') : OpsAt w' ao l := by
  intro i o ho
  obtain ⟨⟨b, off, h1, h2, h3⟩, h4⟩ := h i o ho
  exact ⟨⟨b, off, h1, Nat.lt_of_lt_of_le h2 hb.size, fun j v hv => by rw [hb.cell (p := ⟨b, off + i * 10 + j, none⟩) h2]; exact h3 j v hv⟩, h4.below hb⟩

/-- The ten cells of one of them. -/
theorem OpsAt.cells {w : World} {ao : Option Addr} {l : List OpM} (h : OpsAt w ao l) {i : Nat} {o : OpM} (hx : l[i]? = some o) :
    ∃ b off, ao = some ⟨b, off, none⟩ ∧ b < w.heap.size ∧ w.cell? ⟨b, off + i * 10, none⟩ = some (.bool o.tick) ∧ w.cell? ⟨b, off + i * 10 + 1, none⟩ = some (.int .i64 o.x.d.kind) ∧ w.cell? ⟨b, off + i * 10 + 2, none⟩ = some (.string o.x.d.frm) ∧ w.cell? ⟨b, off + i * 10 + 3, none⟩ = some (.string o.x.d.to) ∧ w.cell? ⟨b, off + i * 10 + 4, none⟩ = some (.int .u64 (o.x.d.amt : Int)) ∧ w.cell? ⟨b, off + i * 10 + 5, none⟩ = some (.int .u64 (o.x.d.non : Int)) ∧
      w.cell? ⟨b, off + i * 10 + 6, none⟩ = some (.string o.x.d.key) ∧ w.cell? ⟨b, off + i * 10 + 7, none⟩ = some (.string o.x.d.val) ∧ w.cell? ⟨b, off + i * 10 + 8, none⟩ = some (.slice o.x.ra o.x.d.rs.length o.x.rc) ∧ w.cell? ⟨b, off + i * 10 + 9, none⟩ = some (.slice o.x.wa o.x.d.ws.length o.x.wc) := by
  obtain ⟨⟨b, off, h1, h2, h3⟩, _⟩ := h i o hx
  exact ⟨b, off, h1, h2, h3 0 _ rfl, h3 1 _ rfl, h3 2 _ rfl, h3 3 _ rfl, h3 4 _ rfl, h3 5 _ rfl, h3 6 _ rfl, h3 7 _ rfl, h3 8 _ rfl, h3 9 _ rfl⟩

/-- How an operation reads. -/
def OpDatum {H : Type} (d : DataW H) (o : OpM) : Prop := ∃ y0 y1, d = .agg [y0, y1] ∧ TxDatum y1 o.x.d

set_option maxRecDepth 100000 in
theorem open_op_cells {H : Type} {enc : TypeId × Value → H} {W : World} {fuel : Nat} {cs : List Value} {y : DataW H × List MemPlace}
    (hf : DataW.trod enc Try.prog W 0 (fun _ => true) true fuel 35 cs = some y) :
    ∃ o : OpM, cs = o.c ∧ o.x.At W ∧ TxSizes o.x.d ∧ OpDatum y.1 o := by
  obtain ⟨xs, n, _, hx, hcl, hl, hg⟩ := DataW.trod_struct Try.underlying35 hf
  obtain ⟨y0, y1, rfl⟩ := list2 hl
  rw [cellsOp] at hcl
  have g0 := hg 0 _ rfl
  have g1 := hg 1 _ rfl
  have kB : Try.prog.cellsOf 4 = 1 := by kernel_rfl
  match cs, hcl with
  | c0 :: r, hr =>
    simp [kB, cellsTx] at g0 g1
    obtain ⟨b, e0, _⟩ := DataW.trod_bool Try.underlying4 g0
    simp at e0
    subst e0
    have hr9 : r.take 9 = r := List.take_of_length_le (by simp at hr; omega)
    rw [hr9] at g1
    obtain ⟨x, rfl, x1, x2, x3⟩ := open_tx_cells g1
    refine ⟨⟨b, x⟩, rfl, x1, x2, y0.1, y1.1, ?_, x3⟩
    have := congrArg Prod.fst hx
    simpa using this

/-- How a row of operations reads. -/
def OpsDatum {H : Type} (d : DataW H) (l : List OpM) : Prop :=
  (d = .nil ∧ l = []) ∨ ∃ (ds rest : List (DataW H)), d = .slice ds rest ∧ ds.length = l.length ∧ ∀ (i : Nat) (y : DataW H) (o : OpM), ds[i]? = some y → l[i]? = some o → OpDatum y o

theorem nil_ops (w : World) (ao : Option Addr) : OpsAt w ao [] := fun i x hx => by simp at hx

set_option maxRecDepth 100000 in
/-- A row of operations that came in. -/
theorem open_ops {H : Type} {enc : TypeId × Value → H} {W : World} {a : Option Addr} {len cap : Nat} {d : DataW H} {p : List MemPlace}
    (h : DataW.Trod enc Try.prog W 0 (fun _ => true) true 22 (.slice a len cap) d p) :
    ∃ l : List OpM, l.length = len ∧ OpsAt W a l ∧ (∀ o ∈ l, TxSizes o.x.d) ∧ len ≤ maxLen ∧ OpsDatum d l := by
  obtain ⟨fuel, hf⟩ := h
  rcases open_slice Try.underlying22 hf with ⟨hcs, hx⟩ | ⟨x, l, c, m, n, D, Pl, hcs, _, hl, hm, hmm, hx, hc⟩
  · simp [Value.cells] at hcs
    obtain ⟨rfl, rfl, rfl⟩ := hcs
    exact ⟨[], rfl, nil_ops _ _, by simp, Nat.zero_le _, Or.inl ⟨(Prod.mk.inj hx).1, rfl⟩⟩
  · simp [Value.cells] at hcs
    obtain ⟨rfl, rfl, rfl⟩ := hcs
    simp at hmm
    subst hmm
    have hall : ∀ i : Nat, ∃ q : OpM, i < len → (∀ j v, q.c[j]? = some v → W.cell? (x.add (i * 10 + j)) = some v) ∧ q.x.At W ∧ TxSizes q.x.d ∧ OpDatum (D i) q := by
      intro i
      by_cases hi : i < len
      · obtain ⟨cs', h1, h2⟩ := hc i (by omega)
        rw [cellsOp] at h1
        obtain ⟨_, hlen, hcell⟩ := World.cells?_some h1
        obtain ⟨q, rfl, q2, q3, q4⟩ := open_op_cells h2
        refine ⟨q, fun _ => ⟨fun j v hv => ?_, q2, q3, q4⟩⟩
        have hj : j < q.c.length := (List.getElem?_eq_some_iff.1 hv).1
        have := hcell j (by rw [OpM.c_length] at hj; exact hj)
        rw [add_add] at this
        rw [this, hv]
      · exact ⟨⟨false, ⟨.none, none, 0, none, 0⟩⟩, fun h => absurd h hi⟩
    obtain ⟨Y, hY⟩ := Classical.axiomOfChoice hall
    refine ⟨(List.range len).map Y, by simp, ?_, ?_, by omega, Or.inr ⟨_, _, (Prod.mk.inj hx).1, by simp, ?_⟩⟩
    · intro i q hq
      have hi : i < len := by
        by_cases hi : i < len
        · exact hi
        · rw [List.getElem?_eq_none (by simp; omega)] at hq
          cases hq
      obtain rfl : Y i = q := by simpa [hi] using hq
      obtain ⟨c0, q2, _, _⟩ := hY i hi
      obtain ⟨b, off, spot⟩ := x
      have hz := (hY 0 (by omega)).1 0 _ rfl
      have hspot : spot = none := by simpa [Addr.add] using World.cell?_spot hz
      subst hspot
      have hb0 := c0 0 _ rfl
      rw [Go.WideShapes.add_plain] at hb0
      refine ⟨⟨b, off, rfl, World.block_lt_of_cell? W _ hb0, fun j v hv => ?_⟩, q2⟩
      have := c0 j v hv
      rw [Go.WideShapes.add_plain] at this
      rw [← this, Nat.add_assoc]
    · intro q hq
      obtain ⟨i, hi, rfl⟩ := List.mem_map.1 hq
      exact (hY i (by simpa using hi)).2.2.1
    · intro i y' q hy hq
      have hi : i < len := by
        by_cases hi : i < len
        · exact hi
        · rw [List.getElem?_eq_none (by simp; omega)] at hq
          cases hq
      obtain rfl : Y i = q := by simpa [hi] using hq
      obtain rfl : D i = y' := by simpa [hi] using hy
      exact (hY i hi).2.2.2

set_option maxRecDepth 100000 in
theorem ops_fit {H : Type} {d : DataW H} {l : List OpM} (h : ∀ n ∈ d.weights Try.prog 22, n ≤ reachBytes) (hs : OpsDatum d l) : ∀ o ∈ l, TxLens o.x.d := by
  rcases hs with ⟨rfl, rfl⟩ | ⟨ds, rest, rfl, hl, hq⟩
  · simp
  · intro x hx
    obtain ⟨i, hi⟩ := List.getElem?_of_mem hx
    have hi' : i < ds.length := by have := (List.getElem?_eq_some_iff.1 hi).1; omega
    obtain ⟨y0, y1, e, ht⟩ := hq i ds[i] x (List.getElem?_eq_getElem hi') hi
    refine tx_fit (fun n hn => h n ?_) ht
    rw [DataW.weights, Try.underlying22]
    simp only [List.mem_cons, List.mem_append]
    refine Or.inr (Or.inl (weightsAll_mem (List.getElem_mem hi') n ?_))
    rw [e, DataW.weights, Try.underlying35]
    exact DataW.weights_mem_each (ts := [4, 33]) (j := 1) rfl rfl n hn

theorem ops_sized {H : Type} {ts : List TypeId} {ds : List (DataW H)} (h : (DataW.weightsEach Try.prog ts ds).all (· ≤ reachBytes) = true) {j : Nat} {d : DataW H} {l : List OpM} (ht : ts[j]? = some 22) (hd : ds[j]? = some d) (hs : OpsDatum d l) : ∀ o ∈ l, TxLens o.x.d := ops_fit (all_of_weights h ht hd) hs
end Go.Proofs.Ytibfnefdpbdkoaa

/- tusklaw05.BatchSeals answers true; nothing old in memory is turned. -/
namespace Go.Proofs.Ytibfnefdpbdkoaa
open Go.RowKit
set_option linter.unusedVariables false

set_option maxRecDepth 100000 in
set_option maxHeartbeats 4000000 in
theorem batchSeals_walk (a b c : Int) (ao : Option Addr) (cap : Nat) (l : List OpM) (w : World) (ha : (Lit.int .i64 a).wf = true) (hb : (Lit.int .i64 b).wf = true) (hc : (Lit.int .i64 c).wf = true) (hA : OpsAt w ao l) (hL : ∀ o ∈ l, TxLens o.x.d) (hS : ∀ o ∈ l, TxSizes o.x.d) (hln : l.length ≤ maxLen) :
    Calls Try.prog 3 #[.int .i64 a, .int .i64 b, .int .i64 c, .slice ao l.length cap] w fun e w' => e = .returned (.bool true) ∧ Below w.heap.size w w' := by
  by_cases hbad : a < 0 ∨ 6 < a ∨ b < 1 ∨ 16 < b ∨ c < 1 ∨ 1000 < c
  · have cN := newSealer_no a b c w hbad
    have cR := refNewSealer_no a b c w hbad
    clear hbad
    go_enter Try.func3, Try.ntmps3
    go_wp2_with fail
    refine cN.mono ?_
    rintro e w1 ⟨rfl, rfl⟩
    go_wp2_with fail
    refine cR.mono ?_
    rintro e w2 ⟨rfl, rfl⟩
    clear cN cR
    go_wp2
    go_ret
    exact ⟨rfl, Below.refl _ _⟩
  obtain ⟨sz, hsz⟩ := Int.eq_ofNat_of_zero_le (show 0 ≤ b by omega)
  obtain ⟨wt, hwt⟩ := Int.eq_ofNat_of_zero_le (show 0 ≤ c by omega)
  subst hsz
  subst hwt
  have cN := newSealer_yes a sz wt w (by omega) (by omega) (by omega) (by omega) (by omega) (by omega)
  have hok0 : (Seal.new sz wt).Ok := Seal.new_ok (by omega) (by omega) (by omega) (by omega)
  go_enter Try.func3, Try.ntmps3
  go_wp2_with fail
  refine cN.mono ?_
  rintro e w1 ⟨rfl, h1, hb1⟩
  have cR := refNewSealer_yes a sz wt w1 (by omega) (by omega) (by omega) (by omega) (by omega) (by omega)
  clear cN hbad
  go_wp2_with fail
  refine cR.mono ?_
  rintro e w2 ⟨rfl, h2, hb2⟩
  have hp1 := h1.own.2
  have hP2 : PB w a w.heap.size w1.heap.size (.slice none 0 0) (.slice none 0 0) (Seal.new sz wt) (Seal.new sz wt) w2 :=
    ⟨h1.below hb2, h2.mono hb1.size, hok0, hok0, (fun k hk hk2 => by
      rcases hk with rfl | hk
      · rcases hk2 with hk2 | hk2
        · omega
        · simp [Value.ownBlock] at hk2
      · simp [Value.ownBlock] at hk), (fun x hx => by cases hx), (fun x hx => by cases hx), hb1.trans (hb2.mono hb1.size), fun x hx => by cases hx⟩
  clear cR h1 h2 hb1 hb2 hp1 hok0
  generalize w1.heap.size = r at *
  obtain ⟨p, hp⟩ : ∃ q, w.heap.size = q := ⟨_, rfl⟩
  have hP2' : PB w a p r (.slice none 0 0) (.slice none 0 0) (Seal.new sz wt) (Seal.new sz wt) w2 := by rw [← hp]; exact hP2
  rw [hp]
  clear hP2 hp
  go_wp2_with fail
  go_loopw [13] (fun v13 wr => ∃ (i : Nat) (q1 q2 : Value) (s1 s2 : Seal TxM), i ≤ l.length ∧ s1.number ≤ i ∧ i ≤ 150 ∧ v13 = .int .i64 (i : Int) ∧ PB w a p r q1 q2 s1 s2 wr ∧ s1.mapD = s2.mapD) (fun v _ => l.length - (intOf v).toNat)
  case atStart => exact ⟨0, _, _, _, _, Nat.zero_le _, Nat.zero_le _, Nat.zero_le _, rfl, hP2', rfl⟩
  case round =>
    obtain ⟨i, q1, q2, s1, s2, hil, hnum, hi150, rfl, hP, hM⟩ := hrel
    clear hP2'
    by_cases hgo : i < l.length ∧ i < 150
    · have g1 : (i : Int) < (l.length : Int) := by omega
      have g2 : (i : Int) < 150 := by omega
      have g0 : (0 : Int) ≤ (i : Int) := by omega
      obtain ⟨o, ho⟩ : ∃ o, l[i]? = some o := ⟨l[i], List.getElem?_eq_getElem hgo.1⟩
      have hmem : o ∈ l := List.mem_of_getElem? ho
      obtain ⟨bo, oo, rfl, hbo, c0, c1, c2, c3, c4, c5, c6, c7, c8, c9⟩ := (hA.below (B := 0) hP.bel).cells ho
      cases hot : o.tick with
      | true =>
        rw [hot] at c0
        have cT := hP.tick (by omega)
        have hse : s2.seals = s1.seals := by rw [← mapD_seals s1, ← mapD_seals s2, hM]
        have hnn : s2.number = s1.number := (mapD_number hM).symm
        have hdo : dl s1.out = dl s2.out := by rw [← mapD_out s1, ← mapD_out s2, hM]
        have hol : s2.out.length = s1.out.length := by rw [← dl_length s2.out, ← dl_length s1.out, hdo]
        have hMt : s1.tick.mapD = s2.tick.mapD := by rw [← mapD_tick, ← mapD_tick, hM]
        have hnt : s1.tick.number ≤ i + 1 := by
          rw [Seal.tick_number]
          split <;> omega
        have hro : ∀ x ∈ s1.out, x.d.rs.length ≤ 8 ∧ x.d.ws.length ≤ 8 := fun x hx => lens_rS (hP.right x (out_mem hx))
        have hoffO : ∀ x ∈ s1.out, x.Off (SlB r q2) := fun x hx => hP.offA x (out_mem hx)
        have hol16 : s1.out.length ≤ 64 := by
          have h1 := congrArg List.length (Seal.tick_order s1)
          rw [List.length_append] at h1
          have := hP.ok1.room
          have := hP.ok1.size16
          omega
        obtain ⟨A5, hA5⟩ : ∃ q, Hid (q = if s1.seals = true then a else 0) := ⟨_, rfl⟩
        obtain ⟨N5, hN5⟩ : ∃ q, Hid (q = if s1.seals = true then (s1.number : Int) + 1 else 0) := ⟨_, rfl⟩
        obtain ⟨ol, holl⟩ : ∃ q, Hid (q = s1.out.length) := ⟨_, rfl⟩
        obtain ⟨se, hsee⟩ : ∃ q, Hid (q = s1.seals) := ⟨_, rfl⟩
        rw [← hA5.out, ← hN5.out, ← holl.out, ← hsee.out] at cT
        unfold batV at cT
        go_wp2_with fail
        refine cT.mono ?_
        rintro e w5 ⟨fo, fc, q5, rfl, hT5, hP5⟩
        have hbn := belowNew w5 (.cells #[.int .i64 A5, .int .i64 N5, .slice fo ol fc] 40)
        have hX6 := Arr.new w5 40 [.int .i64 A5, .int .i64 N5, .slice fo ol fc]
        have hP6 := hP5.below hbn
        have hT6 := hT5.below hbn
        have hxr : ¬ w5.heap.size = r := by have := hP5.b.own.2; omega
        have cR := hP6.rtick (by omega)
        rw [hse, hnn, hol, ← hA5.out, ← hN5.out, ← holl.out, ← hsee.out] at cR
        unfold batV at cR
        clear cT c0 c1 c2 c3 c4 c5 c6 c7 c8 c9 hP hP5 hT5 hbn
        go_wp2_with fail
        refine cR.mono ?_
        rintro e w7 ⟨fo2, fc2, q7, rfl, hT7, hk7, hP7⟩
        have hX7 := hX6.kept hk7 hxr
        have hTa7 := hP6.row_kept hT6 hoffO hk7
        have hbn := belowNew w7 (.cells #[.int .i64 A5, .int .i64 N5, .slice fo2 ol fc2] 40)
        have hY8 := Arr.new w7 40 [.int .i64 A5, .int .i64 N5, .slice fo2 ol fc2]
        have hX8 := hX7.below hbn hX7.lt
        have hP8 := hP7.below hbn
        have cS := sameB_any A5 N5 fo s1.out fc fo2 s2.out fc2 _ (hTa7.below hbn) (hT7.below hbn) hdo (by omega) (fun x hx => by have := hro x hx; omega)
        rw [hol, ← holl.out] at cS
        unfold batV at cS
        have x0 := hX8.cell (i := 0) rfl
        have x1 := hX8.cell (i := 1) rfl
        have x2 := hX8.cell (i := 2) rfl
        have y0 := hY8.cell (i := 0) rfl
        have y1 := hY8.cell (i := 1) rfl
        have y2 := hY8.cell (i := 2) rfl
        clear cR hX6 hP6 hT6 hxr hk7 hX7 hTa7 hP7 hT7 hX8 hY8 hbn hse hnn hdo hol hro hoffO
        go_wp2_with fail
        refine cS.mono ?_
        rintro e w9 ⟨rfl, hb9⟩
        have hP9 := hP8.below hb9
        have hM9 := hMt
        clear cS hP8 hb9 x0 x1 x2 y0 y1 y2 hM hMt
        obtain ⟨qa9, qc9, hq9, _, _⟩ := hP9.b.row.form
        subst hq9
        have b3 := hP9.b.box.cell (i := 3) rfl
        have hll : (s2.tick).l.length = (s1.tick).l.length := (mapD_len hM9).symm
        obtain ⟨ln, hln9⟩ : ∃ q, Hid (q = (s1.tick).l.length) := ⟨_, rfl⟩
        have cW := fun m => (hP9.below (below_drewN (Below.refl _ w9) m)).waits
        simp only [← hln9.out] at cW
        rw [hll, ← hln9.out] at b3
        go_wp2_with fail
        go_quiet (exact Calls.quiet_of_same (cW _))
        have hbq := below_drewN (Below.refl w9.heap.size w9) nq
        have hP10 := hP9.below hbq
        generalize w9.drewN nq = w10 at hP10 ⊢
        clear cW b3 hbq hP9
        go_wp2
        go_roundw
        case rel => exact ⟨i + 1, _, _, _, _, by omega, hnt, by omega, by go_num, hP10, hM9⟩
        case measure => simp [intOf]; omega
      | false =>
        rw [hot] at c0
        have hAt := (hA i o ho).2
        have hol := hL o hmem
        have hks := hS o hmem
        obtain ⟨E, hE⟩ : ∃ q, Hid (q = addE s1 o.x.d) := ⟨_, rfl⟩
        have hE2 : addE s2 o.x.d = E := by rw [hE.out, mapD_addE hM]
        have cO := fun W (hb : Below w.heap.size w W) => own_any o.x.d o.x.ra o.x.rc o.x.wa o.x.wc W (hAt.below hb).at_ hAt.nr hAt.nw hol.1 hol.2
        have cA := fun W (h : PB w a p r q1 q2 s1 s2 W) ra rc wa wc h1 => h.add ⟨o.x.d, ra, rc, wa, wc⟩ h1 hol.1 hol.2
        have cB := fun W q1 s1 (h : PB w a p r q1 q2 s1 s2 W) => h.radd o.x hAt hks
        simp only [← hE.out] at cA
        simp only [hE2] at cB
        have hkp : ∀ W, Below w.heap.size w W → (W.cell? ⟨bo, oo + i * 10 + 1, none⟩ = some (.int .i64 o.x.d.kind) ∧ W.cell? ⟨bo, oo + i * 10 + 2, none⟩ = some (.string o.x.d.frm) ∧ W.cell? ⟨bo, oo + i * 10 + 3, none⟩ = some (.string o.x.d.to) ∧ W.cell? ⟨bo, oo + i * 10 + 4, none⟩ = some (.int .u64 (o.x.d.amt : Int)) ∧ W.cell? ⟨bo, oo + i * 10 + 5, none⟩ = some (.int .u64 (o.x.d.non : Int)) ∧ W.cell? ⟨bo, oo + i * 10 + 6, none⟩ = some (.string o.x.d.key) ∧ W.cell? ⟨bo, oo + i * 10 + 7, none⟩ = some (.string o.x.d.val) ∧ W.cell? ⟨bo, oo + i * 10 + 8, none⟩ = some (.slice o.x.ra o.x.d.rs.length o.x.rc) ∧ W.cell? ⟨bo, oo + i * 10 + 9, none⟩ = some (.slice o.x.wa o.x.d.ws.length o.x.wc)) := fun W hb => by
          obtain ⟨b', o', e', _, _, z1, z2, z3, z4, z5, z6, z7, z8, z9⟩ := (hA.below (B := 0) hb).cells ho
          simp only [Option.some.injEq, Addr.mk.injEq, and_true] at e'
          obtain ⟨rfl, rfl⟩ := e'
          exact ⟨z1, z2, z3, z4, z5, z6, z7, z8, z9⟩
        simp only [TxM.v, txV] at cO cA cB
        have hP1 := hP.below (below_drewN (Below.refl _ wr) 1)
        have b1 : Below w.heap.size w wr.drew := hP1.bel
        have hS1 := hkp _ b1
        clear hE hE2 hP hA hL hS c1 c2 c3 c4 c5 c6 c7 c8 c9
        go_wp2_with fail
        go_region_held3 (fun W => W.cell? ⟨bo, oo + i * 10 + 1, none⟩ = some (.int .i64 o.x.d.kind) ∧ W.cell? ⟨bo, oo + i * 10 + 2, none⟩ = some (.string o.x.d.frm) ∧ W.cell? ⟨bo, oo + i * 10 + 3, none⟩ = some (.string o.x.d.to) ∧ W.cell? ⟨bo, oo + i * 10 + 4, none⟩ = some (.int .u64 (o.x.d.amt : Int)) ∧ W.cell? ⟨bo, oo + i * 10 + 5, none⟩ = some (.int .u64 (o.x.d.non : Int)) ∧ W.cell? ⟨bo, oo + i * 10 + 6, none⟩ = some (.string o.x.d.key) ∧ W.cell? ⟨bo, oo + i * 10 + 7, none⟩ = some (.string o.x.d.val) ∧ W.cell? ⟨bo, oo + i * 10 + 8, none⟩ = some (.slice o.x.ra o.x.d.rs.length o.x.rc) ∧ W.cell? ⟨bo, oo + i * 10 + 9, none⟩ = some (.slice o.x.wa o.x.d.ws.length o.x.wc)) (exact hkp _ (by assumption))
          (first
          | (go_at_call 8; refine (cO _ b1).mono ?_; rintro e w3 ⟨ra3, rc3, wa3, wc3, rfl, hA3, hr3, hw3, hb3⟩; have hP3 := hP1.below hb3; have b3 := hP3.bel; unfold txV)
          | (go_at_call 7; refine (cA _ hP3 ra3 rc3 wa3 wc3 ⟨hA3, hr3, hw3⟩).mono ?_; rintro e w4 ⟨rfl, y4, q4, hy4, hP4⟩; have b4 := hP4.bel)
          | (go_at_call 9; refine (cB _ _ _ hP4).mono ?_; rintro e w9 ⟨rfl, q9, hP9⟩; have b9 := hP9.bel))
        all_goals
          have hM9 := mapD_put hM hy4
          have hn9 : (s1.put y4).number ≤ i + 1 := by
            unfold Seal.put
            split <;> (show s1.number ≤ i + 1; omega)
          clear cO cA cB hkp b1 b3 b4 b9 hP1 hP3 hP4 hM
          obtain ⟨qa9, qc9, hq9, _, _⟩ := hP9.b.row.form
          subst hq9
          have b3 := hP9.b.box.cell (i := 3) rfl
          have hll : ((s2.put o.x)).l.length = ((s1.put y4)).l.length := (mapD_len hM9).symm
          obtain ⟨ln, hln9⟩ : ∃ q, Hid (q = ((s1.put y4)).l.length) := ⟨_, rfl⟩
          have cW := fun m => (hP9.below (below_drewN (Below.refl _ w9) m)).waits
          simp only [← hln9.out] at cW
          rw [hll, ← hln9.out] at b3
          go_wp2_with fail
          go_quiet (exact Calls.quiet_of_same (cW _))
          have hbq := below_drewN (Below.refl w9.heap.size w9) nq
          have hP10 := hP9.below hbq
          generalize w9.drewN nq = w10 at hP10 ⊢
          clear cW b3 hbq hP9
          go_wp2
          go_roundw
          case rel => exact ⟨i + 1, _, _, _, _, by omega, hn9, by omega, by go_num, hP10, hM9⟩
          case measure => simp [intOf]; omega
    · have hBr := hP.bel
      by_cases hl1 : i < l.length
      · have g1 : (i : Int) < (l.length : Int) := by omega
        have g2 : ¬ (i : Int) < 150 := by omega
        clear hgo hP hM
        go_wp2
        go_ret
        exact ⟨rfl, hBr⟩
      · have g1 : ¬ (i : Int) < (l.length : Int) := by omega
        clear hgo hP hM
        go_wp2
        go_ret
        exact ⟨rfl, hBr⟩
end Go.Proofs.Ytibfnefdpbdkoaa
