/- Texts as one: RefBatSame, RefHdrSame, CertSame, RefBlkSame, MsgSame, HdrPlain. -/
import Derived.Test.YtaoiejgbbmjpkaaGreatDoorCk08
import Derived.Test.YtaoiejgbbmjpkaaGreatDoorCk11
import Derived.Deep.RegionHeld3
import Derived.Test.YtaoiejgbbmjpkaaGreatDoorCk03
import Derived.Test.YtaoiejgbbmjpkaaGreatDoorCk04
import Derived.Deep.QuietTactic
import Derived.BigQuiet
/- tuskref05.Same answers true at two batches that read the same; nothing old in memory is turned. -/
namespace Go.Proofs.YtaoiejgbbmjpkaaGreatDoor
open Go.RowKit
set_option linter.unusedVariables false

theorem dl_get {l m : List TxM} (h : dl l = dl m) {k : Nat} {x y : TxM} (hx : l[k]? = some x) (hy : m[k]? = some y) : y.d = x.d := by
  have h1 : (dl l)[k]? = some x.d := by simp [dl, hx]
  have h2 : (dl m)[k]? = some y.d := by simp [dl, hy]
  rw [h, h2] at h1
  simpa using h1

set_option maxRecDepth 100000 in
set_option maxHeartbeats 4000000 in
theorem sameB_any (a n : Int) (ao : Option Addr) (l : List TxM) (cap : Nat) (ao2 : Option Addr) (m : List TxM) (cap2 : Nat) (w : World) (hA : TxsAt w ao l) (hA2 : TxsAt w ao2 m) (hd : dl l = dl m) (hn : l.length ≤ 4611686018427387903) (hL : ∀ x ∈ l, x.d.rs.length ≤ 9223372036854775807 ∧ x.d.ws.length ≤ 9223372036854775807) :
    Calls Tryz.prog 74 #[batV a n ao l.length cap, batV a n ao2 m.length cap2] w fun e w' => e = .returned (.bool true) ∧ Below w.heap.size w w' := by
  have hlm : m.length = l.length := by rw [← dl_length m, ← hd, dl_length]
  rw [hlm]
  obtain ⟨hX, hY, hB⟩ := two_new w 26 26 (batC a n ao l.length cap) (batC a n ao2 l.length cap2)
  have x0 := hX.cell (i := 0) rfl
  have x1 := hX.cell (i := 1) rfl
  have x2 := hX.cell (i := 2) rfl
  have y0 := hY.cell (i := 0) rfl
  have y1 := hY.cell (i := 1) rfl
  have y2 := hY.cell (i := 2) rfl
  unfold batV
  go_enter Tryz.func74, Tryz.ntmps74
  go_wp2
  go_loopw [5] (fun v wr => ∃ k : Nat, k ≤ l.length ∧ v = .int .i64 (k : Int) ∧ Arr wr w.heap.size 26 (batC a n ao l.length cap) ∧ Arr wr (w.heap.size + 1) 26 (batC a n ao2 l.length cap2) ∧ Below w.heap.size w wr) (fun v _ => l.length - (intOf v).toNat)
  case atStart => exact ⟨0, Nat.zero_le _, rfl, hX, hY, hB⟩
  case round =>
    obtain ⟨k, hk, rfl, hX1, hY1, hb⟩ := hrel
    clear hX hY hB x0 x1 x2 y0 y1 y2
    have x2 := hX1.cell (i := 2) rfl
    have y2 := hY1.cell (i := 2) rfl
    by_cases hlt : k < l.length
    · obtain ⟨x, hx⟩ : ∃ x, l[k]? = some x := ⟨l[k], List.getElem?_eq_getElem hlt⟩
      obtain ⟨y, hy⟩ : ∃ y, m[k]? = some y := ⟨m[k]'(by omega), List.getElem?_eq_getElem (by omega)⟩
      obtain ⟨b, off, rfl, hbl, p0, p1, p2, p3, p4, p5, p6, p7, p8⟩ := (hA.below hb).cells hx
      obtain ⟨b2, off2, rfl, hbl2, q0, q1, q2, q3, q4, q5, q6, q7, q8⟩ := (hA2.below hb).cells hy
      have hAt := (hA k x hx).2.below hb
      have hAt2 := (hA2 k y hy).2.below hb
      have hxy := dl_get hd hx hy
      have hl1 := hL x (List.mem_of_getElem? hx)
      have hkm : k < m.length := by omega
      have cC := fun w1 (h : TxAt w1 x.d x.ra x.wa) (h2 : TxAt w1 x.d y.ra y.wa) => sameTx_any x.d x.ra x.rc x.wa x.wc y.ra y.rc y.wa y.wc w1 h h2 hl1.1 hl1.2
      have ht2 := hAt2.at_
      rw [hxy] at q0 q1 q2 q3 q4 q5 q6 q7 q8 ht2
      have ht1 := hAt.at_
      have hS : (wr.cell? ⟨b, off + k * 9, none⟩ = some (.int .i64 x.d.kind) ∧ wr.cell? ⟨b, off + k * 9 + 1, none⟩ = some (.string x.d.frm) ∧ wr.cell? ⟨b, off + k * 9 + 2, none⟩ = some (.string x.d.to) ∧ wr.cell? ⟨b, off + k * 9 + 3, none⟩ = some (.int .u64 (x.d.amt : Int)) ∧ wr.cell? ⟨b, off + k * 9 + 4, none⟩ = some (.int .u64 (x.d.non : Int)) ∧ wr.cell? ⟨b, off + k * 9 + 5, none⟩ = some (.string x.d.key) ∧ wr.cell? ⟨b, off + k * 9 + 6, none⟩ = some (.string x.d.val) ∧ wr.cell? ⟨b, off + k * 9 + 7, none⟩ = some (.slice x.ra x.d.rs.length x.rc) ∧ wr.cell? ⟨b, off + k * 9 + 8, none⟩ = some (.slice x.wa x.d.ws.length x.wc)) ∧ (wr.cell? ⟨b2, off2 + k * 9, none⟩ = some (.int .i64 x.d.kind) ∧ wr.cell? ⟨b2, off2 + k * 9 + 1, none⟩ = some (.string x.d.frm) ∧ wr.cell? ⟨b2, off2 + k * 9 + 2, none⟩ = some (.string x.d.to) ∧ wr.cell? ⟨b2, off2 + k * 9 + 3, none⟩ = some (.int .u64 (x.d.amt : Int)) ∧ wr.cell? ⟨b2, off2 + k * 9 + 4, none⟩ = some (.int .u64 (x.d.non : Int)) ∧ wr.cell? ⟨b2, off2 + k * 9 + 5, none⟩ = some (.string x.d.key) ∧ wr.cell? ⟨b2, off2 + k * 9 + 6, none⟩ = some (.string x.d.val) ∧ wr.cell? ⟨b2, off2 + k * 9 + 7, none⟩ = some (.slice y.ra x.d.rs.length y.rc) ∧ wr.cell? ⟨b2, off2 + k * 9 + 8, none⟩ = some (.slice y.wa x.d.ws.length y.wc)) ∧ wr.cell? ⟨w.heap.size, 2, none⟩ = some (.slice (some ⟨b, off, none⟩) l.length cap) ∧ wr.cell? ⟨w.heap.size + 1, 2, none⟩ = some (.slice (some ⟨b2, off2, none⟩) l.length cap2) := ⟨⟨p0, p1, p2, p3, p4, p5, p6, p7, p8⟩, ⟨q0, q1, q2, q3, q4, q5, q6, q7, q8⟩, x2, y2⟩
      have hcs : ∀ w2, Below wr.heap.size wr w2 → ((w2.cell? ⟨b, off + k * 9, none⟩ = some (.int .i64 x.d.kind) ∧ w2.cell? ⟨b, off + k * 9 + 1, none⟩ = some (.string x.d.frm) ∧ w2.cell? ⟨b, off + k * 9 + 2, none⟩ = some (.string x.d.to) ∧ w2.cell? ⟨b, off + k * 9 + 3, none⟩ = some (.int .u64 (x.d.amt : Int)) ∧ w2.cell? ⟨b, off + k * 9 + 4, none⟩ = some (.int .u64 (x.d.non : Int)) ∧ w2.cell? ⟨b, off + k * 9 + 5, none⟩ = some (.string x.d.key) ∧ w2.cell? ⟨b, off + k * 9 + 6, none⟩ = some (.string x.d.val) ∧ w2.cell? ⟨b, off + k * 9 + 7, none⟩ = some (.slice x.ra x.d.rs.length x.rc) ∧ w2.cell? ⟨b, off + k * 9 + 8, none⟩ = some (.slice x.wa x.d.ws.length x.wc)) ∧ (w2.cell? ⟨b2, off2 + k * 9, none⟩ = some (.int .i64 x.d.kind) ∧ w2.cell? ⟨b2, off2 + k * 9 + 1, none⟩ = some (.string x.d.frm) ∧ w2.cell? ⟨b2, off2 + k * 9 + 2, none⟩ = some (.string x.d.to) ∧ w2.cell? ⟨b2, off2 + k * 9 + 3, none⟩ = some (.int .u64 (x.d.amt : Int)) ∧ w2.cell? ⟨b2, off2 + k * 9 + 4, none⟩ = some (.int .u64 (x.d.non : Int)) ∧ w2.cell? ⟨b2, off2 + k * 9 + 5, none⟩ = some (.string x.d.key) ∧ w2.cell? ⟨b2, off2 + k * 9 + 6, none⟩ = some (.string x.d.val) ∧ w2.cell? ⟨b2, off2 + k * 9 + 7, none⟩ = some (.slice y.ra x.d.rs.length y.rc) ∧ w2.cell? ⟨b2, off2 + k * 9 + 8, none⟩ = some (.slice y.wa x.d.ws.length y.wc)) ∧ w2.cell? ⟨w.heap.size, 2, none⟩ = some (.slice (some ⟨b, off, none⟩) l.length cap) ∧ w2.cell? ⟨w.heap.size + 1, 2, none⟩ = some (.slice (some ⟨b2, off2, none⟩) l.length cap2)) := by
        intro w2 hb2
        have c := fun (g o : Nat) (v : Value) (h : g < wr.heap.size) (hc : wr.cell? ⟨g, o, none⟩ = some v) => (hb2.cell (p := ⟨g, o, none⟩) h).trans hc
        exact ⟨⟨c _ _ _ hbl p0, c _ _ _ hbl p1, c _ _ _ hbl p2, c _ _ _ hbl p3, c _ _ _ hbl p4, c _ _ _ hbl p5, c _ _ _ hbl p6, c _ _ _ hbl p7, c _ _ _ hbl p8⟩, ⟨c _ _ _ hbl2 q0, c _ _ _ hbl2 q1, c _ _ _ hbl2 q2, c _ _ _ hbl2 q3, c _ _ _ hbl2 q4, c _ _ _ hbl2 q5, c _ _ _ hbl2 q6, c _ _ _ hbl2 q7, c _ _ _ hbl2 q8⟩, c _ _ _ hX1.lt x2, c _ _ _ hY1.lt y2⟩
      have hbd : Below wr.heap.size wr wr.drew := below_drewN (Below.refl _ _) 1
      clear p0 p1 p2 p3 p4 p5 p6 p7 p8 q0 q1 q2 q3 q4 q5 q6 q7 q8 hAt hAt2 hx hy hl1
      go_wp2_with fail
      go_region_held3 (fun w' => (w'.cell? ⟨b, off + k * 9, none⟩ = some (.int .i64 x.d.kind) ∧ w'.cell? ⟨b, off + k * 9 + 1, none⟩ = some (.string x.d.frm) ∧ w'.cell? ⟨b, off + k * 9 + 2, none⟩ = some (.string x.d.to) ∧ w'.cell? ⟨b, off + k * 9 + 3, none⟩ = some (.int .u64 (x.d.amt : Int)) ∧ w'.cell? ⟨b, off + k * 9 + 4, none⟩ = some (.int .u64 (x.d.non : Int)) ∧ w'.cell? ⟨b, off + k * 9 + 5, none⟩ = some (.string x.d.key) ∧ w'.cell? ⟨b, off + k * 9 + 6, none⟩ = some (.string x.d.val) ∧ w'.cell? ⟨b, off + k * 9 + 7, none⟩ = some (.slice x.ra x.d.rs.length x.rc) ∧ w'.cell? ⟨b, off + k * 9 + 8, none⟩ = some (.slice x.wa x.d.ws.length x.wc)) ∧ (w'.cell? ⟨b2, off2 + k * 9, none⟩ = some (.int .i64 x.d.kind) ∧ w'.cell? ⟨b2, off2 + k * 9 + 1, none⟩ = some (.string x.d.frm) ∧ w'.cell? ⟨b2, off2 + k * 9 + 2, none⟩ = some (.string x.d.to) ∧ w'.cell? ⟨b2, off2 + k * 9 + 3, none⟩ = some (.int .u64 (x.d.amt : Int)) ∧ w'.cell? ⟨b2, off2 + k * 9 + 4, none⟩ = some (.int .u64 (x.d.non : Int)) ∧ w'.cell? ⟨b2, off2 + k * 9 + 5, none⟩ = some (.string x.d.key) ∧ w'.cell? ⟨b2, off2 + k * 9 + 6, none⟩ = some (.string x.d.val) ∧ w'.cell? ⟨b2, off2 + k * 9 + 7, none⟩ = some (.slice y.ra x.d.rs.length y.rc) ∧ w'.cell? ⟨b2, off2 + k * 9 + 8, none⟩ = some (.slice y.wa x.d.ws.length y.wc)) ∧ w'.cell? ⟨w.heap.size, 2, none⟩ = some (.slice (some ⟨b, off, none⟩) l.length cap) ∧ w'.cell? ⟨w.heap.size + 1, 2, none⟩ = some (.slice (some ⟨b2, off2, none⟩) l.length cap2)) (exact hcs _ (by assumption))
        (first
        | (go_at_call 115; refine (cC _ (ht1.below hbd) (ht2.below hbd)).mono ?_; rintro e wA ⟨rfl, hbA⟩; have hbA' := hbd.trans (Below.mono hbA hbd.size)))
      have hX2 := hX1.below hbA' hX1.lt
      have hY2 := hY1.below hbA' hY1.lt
      have hb4 := hb.trans (hbA'.mono hb.size)
      clear hcs hS hbd hbA hbA' hX1 hY1 x2 y2 ht1 ht2
      go_wp2
      go_roundw
      case rel => exact ⟨k + 1, by omega, by go_num, hX2, hY2, hb4⟩
      case measure => simp [intOf]; omega
    · go_wp2
      go_ret
      exact ⟨rfl, hb⟩
end Go.Proofs.YtaoiejgbbmjpkaaGreatDoor

/- tuskref06.SameTags and tuskref06.Same answer true at what reads the same; nothing old in memory is turned. -/
namespace Go.Proofs.YtaoiejgbbmjpkaaGreatDoor
open Go.RowKit
set_option linter.unusedVariables false

theorem RowAt.drewN {α : Type} {K : Kind α} {w : World} {ao : Option Addr} {l : List α} (h : RowAt K w ao l) (n : Nat) : RowAt K (w.drewN n) ao l :=
  h.below (below_drewN (Below.refl _ _) n)

set_option maxRecDepth 100000 in
set_option maxHeartbeats 1000000 in
theorem sameTags_any (a0 a1 : Option Addr) (c0 c1 : Nat) (l : List TagD) (w : World) (h0 : RowAt tagK w a0 l) (h1 : RowAt tagK w a1 l) (hn : l.length ≤ 4611686018427387903) :
    Calls Tryz.prog 117 #[.slice a0 l.length c0, .slice a1 l.length c1] w fun e w' => e = .returned (.bool true) ∧ Below w.heap.size w w' := by
  go_enter Tryz.func117, Tryz.ntmps117
  go_wp2
  go_loopw [5] (fun i wr => ∃ m : Nat, m ≤ l.length ∧ i = .int .i64 m ∧ Below w.heap.size w wr ∧ RowAt tagK wr a0 l ∧ RowAt tagK wr a1 l) (fun i _ => l.length - (intOf i).toNat)
  case atStart => exact ⟨0, Nat.zero_le _, rfl, Below.refl _ _, h0, h1⟩
  case round =>
    clear h0 h1
    obtain ⟨m, hm, rfl, hw, k0, k1⟩ := hrel
    by_cases hlt : m < l.length
    · obtain ⟨t, ht⟩ : ∃ t, l[m]? = some t := ⟨l[m], List.getElem?_eq_getElem hlt⟩
      obtain ⟨b0, o0, rfl, _, p0, p1⟩ := k0.tag ht
      obtain ⟨b1, o1, rfl, _, q0, q1⟩ := k1.tag ht
      clear ht
      go_wp2_with fail
      go_quiet (fail)
      have hwf := below_drewN hw nq
      have j0 := k0.drewN nq
      have j1 := k1.drewN nq
      clear hw k0 k1 p0 p1 q0 q1
      go_wp2
      go_roundw
      case rel => exact ⟨m + 1, by omega, by go_num, hwf, j0, j1⟩
      case measure => simp [intOf]; omega
    · go_wp2
      go_ret
      exact ⟨rfl, hw⟩

theorem rd_get {l m : List RefM} (h : rd l = rd m) {k : Nat} {x y : RefM} (hx : l[k]? = some x) (hy : m[k]? = some y) : y.d = x.d := by
  have h1 : (rd l)[k]? = some x.d := by simp [rd, hx]
  have h2 : (rd m)[k]? = some y.d := by simp [rd, hy]
  rw [h, h2] at h1
  simpa using h1

set_option maxRecDepth 100000 in
set_option maxHeartbeats 4000000 in
theorem sameH_any (a b : HdrM) (w : World) (hA : a.At w) (hB : b.At w) (hd : a.d = b.d) (hn : a.refs.length ≤ 4611686018427387903) (hp : a.parents.length ≤ 4611686018427387903) (hL : ∀ x ∈ a.refs, x.acks.length ≤ 4611686018427387903) :
    Calls Tryz.prog 75 #[a.v, b.v] w fun e w' => e = .returned (.bool true) ∧ Below w.heap.size w w' := by
  obtain ⟨au, ro, ra, rs, rc, pa, ps, pc⟩ := a
  obtain ⟨au2, ro2, ra2, rs2, rc2, pa2, ps2, pc2⟩ := b
  simp only [HdrM.d, HdrD.mk.injEq] at hd
  obtain ⟨rfl, rfl, hrd, rfl⟩ := hd
  have hlm : rs2.length = rs.length := by rw [← rd_length rs2, ← hrd, rd_length]
  have hA1 : RowAt refK w ra rs := hA.refs
  have hA2 : RowAt strK w pa ps := hA.ps
  have hB1 : RowAt refK w ra2 rs2 := hB.refs
  have hB2 : RowAt strK w pa2 ps := hB.ps
  unfold HdrM.v
  simp only at hn hp hL ⊢
  rw [hlm]
  have Hlm : Hid (rs2.length = rs.length) := hlm
  clear hlm hA hB
  obtain ⟨hX, hY, hBw⟩ := two_new w 30 30 [.int .i64 au, .int .i64 ro, .slice ra rs.length rc, .slice pa ps.length pc] [.int .i64 au, .int .i64 ro, .slice ra2 rs.length rc2, .slice pa2 ps.length pc2]
  have x0 := hX.cell (i := 0) rfl
  have x1 := hX.cell (i := 1) rfl
  have x2 := hX.cell (i := 2) rfl
  have x3 := hX.cell (i := 3) rfl
  have y0 := hY.cell (i := 0) rfl
  have y1 := hY.cell (i := 1) rfl
  have y2 := hY.cell (i := 2) rfl
  have y3 := hY.cell (i := 3) rfl
  have cP := same_any pa pa2 pc pc2 ps _ (hA2.below hBw).strs (hB2.below hBw).strs (by omega)
  go_enter Tryz.func75, Tryz.ntmps75
  go_wp2_with fail
  refine cP.mono ?_
  rintro e w1 ⟨rfl, hb1⟩
  have hX1 := hX.below hb1 hX.lt
  have hY1 := hY.below hb1 hY.lt
  have hBw1 := hBw.trans (hb1.mono hBw.size)
  clear cP hb1 hX hY hBw x0 x1 x2 x3 y0 y1 y2 y3
  go_wp2
  go_loopw [5] (fun v wr => ∃ k : Nat, k ≤ rs.length ∧ v = .int .i64 (k : Int) ∧ Arr wr w.heap.size 30 [.int .i64 au, .int .i64 ro, .slice ra rs.length rc, .slice pa ps.length pc] ∧ Arr wr (w.heap.size + 1) 30 [.int .i64 au, .int .i64 ro, .slice ra2 rs.length rc2, .slice pa2 ps.length pc2] ∧ Below w.heap.size w wr) (fun v _ => rs.length - (intOf v).toNat)
  case atStart => exact ⟨0, Nat.zero_le _, rfl, hX1, hY1, hBw1⟩
  case round =>
    clear hX1 hY1 hBw1
    obtain ⟨k, hk, rfl, hX1, hY1, hb⟩ := hrel
    have x2 := hX1.cell (i := 2) rfl
    have y2 := hY1.cell (i := 2) rfl
    by_cases hlt : k < rs.length
    · obtain ⟨x, hx⟩ : ∃ x, rs[k]? = some x := ⟨rs[k], List.getElem?_eq_getElem hlt⟩
      obtain ⟨y, hy⟩ : ∃ y, rs2[k]? = some y := ⟨rs2[k]'(by rw [Hlm.out]; exact hlt), List.getElem?_eq_getElem (by rw [Hlm.out]; exact hlt)⟩
      obtain ⟨b, off, rfl, hbl, p0, p1⟩ := (hA1.below hb).ref hx
      obtain ⟨b2, off2, rfl, hbl2, q0, q1⟩ := (hB1.below hb).ref hy
      have hAt := ((hA1.below hb).at_ x (List.mem_of_getElem? hx)).1
      have hAt2 := ((hB1.below hb).at_ y (List.mem_of_getElem? hy)).1
      have hxy := rd_get hrd hx hy
      simp only [RefM.d, RefD.mk.injEq] at hxy
      have hl1 := hL x (List.mem_of_getElem? hx)
      rw [hxy.1] at q0
      rw [hxy.2] at q1 hAt2
      have cC := fun w1 (h : RowAt tagK w1 x.ao x.acks) (h2 : RowAt tagK w1 y.ao x.acks) => sameTags_any x.ao y.ao x.cap y.cap x.acks w1 h h2 hl1
      have hS : (wr.cell? ⟨b, off + k * 2, none⟩ = some (.string x.digest) ∧ wr.cell? ⟨b, off + k * 2 + 1, none⟩ = some (.slice x.ao x.acks.length x.cap)) ∧ (wr.cell? ⟨b2, off2 + k * 2, none⟩ = some (.string x.digest) ∧ wr.cell? ⟨b2, off2 + k * 2 + 1, none⟩ = some (.slice y.ao x.acks.length y.cap)) ∧ wr.cell? ⟨w.heap.size, 2, none⟩ = some (.slice (some ⟨b, off, none⟩) rs.length rc) ∧ wr.cell? ⟨w.heap.size + 1, 2, none⟩ = some (.slice (some ⟨b2, off2, none⟩) rs.length rc2) := ⟨⟨p0, p1⟩, ⟨q0, q1⟩, x2, y2⟩
      have hcs : ∀ w2, Below wr.heap.size wr w2 → ((w2.cell? ⟨b, off + k * 2, none⟩ = some (.string x.digest) ∧ w2.cell? ⟨b, off + k * 2 + 1, none⟩ = some (.slice x.ao x.acks.length x.cap)) ∧ (w2.cell? ⟨b2, off2 + k * 2, none⟩ = some (.string x.digest) ∧ w2.cell? ⟨b2, off2 + k * 2 + 1, none⟩ = some (.slice y.ao x.acks.length y.cap)) ∧ w2.cell? ⟨w.heap.size, 2, none⟩ = some (.slice (some ⟨b, off, none⟩) rs.length rc) ∧ w2.cell? ⟨w.heap.size + 1, 2, none⟩ = some (.slice (some ⟨b2, off2, none⟩) rs.length rc2)) := by
        intro w2 hb2
        have c := fun (g o : Nat) (v : Value) (h : g < wr.heap.size) (hc : wr.cell? ⟨g, o, none⟩ = some v) => (hb2.cell (p := ⟨g, o, none⟩) h).trans hc
        exact ⟨⟨c _ _ _ hbl p0, c _ _ _ hbl p1⟩, ⟨c _ _ _ hbl2 q0, c _ _ _ hbl2 q1⟩, c _ _ _ hX1.lt x2, c _ _ _ hY1.lt y2⟩
      have hbd : Below wr.heap.size wr wr.drew := below_drewN (Below.refl _ _) 1
      clear p0 p1 q0 q1 hx hy hl1 hxy
      go_wp2_with fail
      go_region_held3 (fun w' => (w'.cell? ⟨b, off + k * 2, none⟩ = some (.string x.digest) ∧ w'.cell? ⟨b, off + k * 2 + 1, none⟩ = some (.slice x.ao x.acks.length x.cap)) ∧ (w'.cell? ⟨b2, off2 + k * 2, none⟩ = some (.string x.digest) ∧ w'.cell? ⟨b2, off2 + k * 2 + 1, none⟩ = some (.slice y.ao x.acks.length y.cap)) ∧ w'.cell? ⟨w.heap.size, 2, none⟩ = some (.slice (some ⟨b, off, none⟩) rs.length rc) ∧ w'.cell? ⟨w.heap.size + 1, 2, none⟩ = some (.slice (some ⟨b2, off2, none⟩) rs.length rc2)) (exact hcs _ (by assumption))
        (first
        | (go_at_call 117; refine (cC _ (hAt.below hbd) (hAt2.below hbd)).mono ?_; rintro e wA ⟨rfl, hbA⟩; have hbA' := hbd.trans (Below.mono hbA hbd.size)))
      have hX2 := hX1.below hbA' hX1.lt
      have hY2 := hY1.below hbA' hY1.lt
      have hb4 := hb.trans (hbA'.mono hb.size)
      clear hcs hS hbd hbA hbA' hX1 hY1 x2 y2 hAt hAt2
      go_wp2
      go_roundw
      case rel => exact ⟨k + 1, by omega, by go_num, hX2, hY2, hb4⟩
      case measure => simp [intOf]; omega
    · go_wp2
      go_ret
      exact ⟨rfl, hb⟩
end Go.Proofs.YtaoiejgbbmjpkaaGreatDoor

/- What tuskref07.Same says of two certificates that are the same; nothing old in memory is turned. -/
namespace Go.Proofs.YtaoiejgbbmjpkaaGreatDoor
open Go.RowKit
set_option linter.unusedVariables false

set_option maxRecDepth 100000 in
set_option maxHeartbeats 2000000 in
theorem sameC_any (a b : CertM) (w : World) (hA : a.At w) (hB : b.At w) (hd : a.d = b.d) (hn : a.hdr.refs.length ≤ 4611686018427387903) (hp : a.hdr.parents.length ≤ 4611686018427387903) (hL : ∀ x ∈ a.hdr.refs, x.acks.length ≤ 4611686018427387903) (hv : a.votes.length ≤ 4611686018427387903) :
    Calls Tryz.prog 76 #[a.v, b.v] w fun e w' => e = .returned (.bool true) ∧ Below w.heap.size w w' := by
  have hdh : a.hdr.d = b.hdr.d := congrArg CertD.header hd
  have hdv : a.votes = b.votes := congrArg CertD.votes hd
  obtain ⟨hX, hY, hb⟩ := two_new w 33 33 a.c b.c
  have hA1 := hA.below hb
  have hB1 := hB.below hb
  have cH := sameH_any a.hdr b.hdr _ hA1.hdr hB1.hdr hdh hn hp hL
  have cV := fun w1 h0 h1 => sameTags_any a.va b.va a.vc b.vc a.votes w1 h0 h1 hv
  have hV0 := hA1.votes
  have hV1 := hB1.votes
  rw [← hdv] at hV1
  unfold CertM.c at hX hY hb cH hV0 hV1
  unfold CertM.v
  unfold HdrM.v at cH
  rw [← hdv] at *
  clear hA hB hA1 hB1 hd hdh hdv
  obtain ⟨w1, hw1⟩ : ∃ q, (w.alloc (.cells [.int .i64 a.hdr.author, .int .i64 a.hdr.round, .slice a.hdr.ra a.hdr.refs.length a.hdr.rc, .slice a.hdr.pa a.hdr.parents.length a.hdr.pc, .slice a.va a.votes.length a.vc].toArray 33)).alloc (.cells [.int .i64 b.hdr.author, .int .i64 b.hdr.round, .slice b.hdr.ra b.hdr.refs.length b.hdr.rc, .slice b.hdr.pa b.hdr.parents.length b.hdr.pc, .slice b.va a.votes.length b.vc].toArray 33) = q := ⟨_, rfl⟩
  rw [hw1] at hX hY hb cH hV0 hV1
  have x0 := hX.cell (i := 0) rfl
  have x1 := hX.cell (i := 1) rfl
  have x2 := hX.cell (i := 2) rfl
  have x3 := hX.cell (i := 3) rfl
  have x4 := hX.cell (i := 4) rfl
  have y0 := hY.cell (i := 0) rfl
  have y1 := hY.cell (i := 1) rfl
  have y2 := hY.cell (i := 2) rfl
  have y3 := hY.cell (i := 3) rfl
  have y4 := hY.cell (i := 4) rfl
  go_enter Tryz.func76, Tryz.ntmps76
  go_wp2_with fail
  refine cH.mono ?_
  rintro e w2 ⟨rfl, hb2⟩
  have hX2 := hX.below hb2 hX.lt
  have hY2 := hY.below hb2 hY.lt
  have hV02 := hV0.below hb2
  have hV12 := hV1.below hb2
  have hB2 := hb.trans (hb2.mono hb.size)
  clear cH hX hY hV0 hV1 hb hb2 x0 x1 x2 x3 x4 y0 y1 y2 y3 y4
  have x4 := hX2.cell (i := 4) rfl
  have y4 := hY2.cell (i := 4) rfl
  go_wp2_with fail
  refine (cV _ hV02 hV12).mono ?_
  rintro e w3 ⟨rfl, hb3⟩
  have hB3 := hB2.trans (hb3.mono hB2.size)
  clear cV hX2 hY2 hV02 hV12 hB2 hb3 x4 y4
  go_wp2
  go_ret
  exact ⟨rfl, hB3⟩
end Go.Proofs.YtaoiejgbbmjpkaaGreatDoor

/- What tuskref08.SameQc and tuskref08.Same say of two that are the same; nothing old in memory is turned. -/
namespace Go.Proofs.YtaoiejgbbmjpkaaGreatDoor
open Go.RowKit
set_option linter.unusedVariables false

set_option maxRecDepth 100000 in
set_option maxHeartbeats 2000000 in
theorem sameQ_any (a b : QcM) (w : World) (hA : a.At w) (hB : b.At w) (hd : a.d = b.d) (hv : a.votes.length ≤ 4611686018427387903) :
    Calls Tryz.prog 78 #[a.v, b.v] w fun e w' => e = .returned (.bool true) ∧ Below w.heap.size w w' := by
  obtain ⟨v0, k0, a0, l0, c0⟩ := a
  obtain ⟨v1, k1, a1, l1, c1⟩ := b
  simp only [QcM.d, QcD.mk.injEq] at hd
  obtain ⟨rfl, rfl, rfl⟩ := hd
  have hA1 : RowAt tagK w a0 l0 := hA.votes
  have hB1 : RowAt tagK w a1 l0 := hB.votes
  obtain ⟨hX, hY, hb⟩ := two_new w 35 35 [.int .i64 v0, .string k0, .slice a0 l0.length c0] [.int .i64 v0, .string k0, .slice a1 l0.length c1]
  have cV := sameTags_any a0 a1 c0 c1 l0 _ (hA1.below hb) (hB1.below hb) hv
  unfold QcM.v
  simp only
  clear hA hB hA1 hB1 hv
  obtain ⟨w1, hw1⟩ : ∃ q, (w.alloc (.cells [.int .i64 v0, .string k0, .slice a0 l0.length c0].toArray 35)).alloc (.cells [.int .i64 v0, .string k0, .slice a1 l0.length c1].toArray 35) = q := ⟨_, rfl⟩
  rw [hw1] at hX hY hb cV
  have x0 := hX.cell (i := 0) rfl
  have x1 := hX.cell (i := 1) rfl
  have x2 := hX.cell (i := 2) rfl
  have y0 := hY.cell (i := 0) rfl
  have y1 := hY.cell (i := 1) rfl
  have y2 := hY.cell (i := 2) rfl
  go_enter Tryz.func78, Tryz.ntmps78
  go_wp2_with fail
  refine cV.mono ?_
  rintro e w2 ⟨rfl, hb2⟩
  have hB2 := hb.trans (hb2.mono hb.size)
  clear cV hX hY hb hb2 x0 x1 x2 y0 y1 y2
  go_wp2
  go_ret
  exact ⟨rfl, hB2⟩

set_option maxRecDepth 100000 in
set_option maxHeartbeats 2000000 in
theorem sameK_any (a b : BlkM) (w : World) (hA : a.At w) (hB : b.At w) (hd : a.d = b.d) (hv : a.qc.votes.length ≤ 4611686018427387903) (hc : a.certs.length ≤ 4611686018427387903) :
    Calls Tryz.prog 77 #[a.v, b.v] w fun e w' => e = .returned (.bool true) ∧ Below w.heap.size w w' := by
  obtain ⟨v0, q0, a0, l0, c0⟩ := a
  obtain ⟨v1, q1, a1, l1, c1⟩ := b
  simp only [BlkM.d, BlkD.mk.injEq] at hd
  obtain ⟨rfl, hq, rfl⟩ := hd
  have hA1 : RowAt strK w a0 l0 := hA.certs
  have hB1 : RowAt strK w a1 l0 := hB.certs
  have hAq : q0.At w := hA.qc
  have hBq : q1.At w := hB.qc
  obtain ⟨hX, hY, hb⟩ := two_new w 37 37 [.int .i64 v0, .int .i64 q0.view, .string q0.block, .slice q0.va q0.votes.length q0.vc, .slice a0 l0.length c0] [.int .i64 v0, .int .i64 q1.view, .string q1.block, .slice q1.va q1.votes.length q1.vc, .slice a1 l0.length c1]
  have cQ := sameQ_any q0 q1 _ (hAq.below hb) (hBq.below hb) hq hv
  have cS := fun w1 h0 h1 => same_any a0 a1 c0 c1 l0 w1 h0 h1 (by have := hc; simp only at this; omega)
  have hS0 := hA1.below hb
  have hS1 := hB1.below hb
  unfold QcM.v at cQ
  unfold BlkM.v
  simp only
  clear hA hB hA1 hB1 hv hc hAq hBq hq
  obtain ⟨w1, hw1⟩ : ∃ q, (w.alloc (.cells [.int .i64 v0, .int .i64 q0.view, .string q0.block, .slice q0.va q0.votes.length q0.vc, .slice a0 l0.length c0].toArray 37)).alloc (.cells [.int .i64 v0, .int .i64 q1.view, .string q1.block, .slice q1.va q1.votes.length q1.vc, .slice a1 l0.length c1].toArray 37) = q := ⟨_, rfl⟩
  rw [hw1] at hX hY hb cQ hS0 hS1
  have x0 := hX.cell (i := 0) rfl
  have x1 := hX.cell (i := 1) rfl
  have x2 := hX.cell (i := 2) rfl
  have x3 := hX.cell (i := 3) rfl
  have y0 := hY.cell (i := 0) rfl
  have y1 := hY.cell (i := 1) rfl
  have y2 := hY.cell (i := 2) rfl
  have y3 := hY.cell (i := 3) rfl
  go_enter Tryz.func77, Tryz.ntmps77
  go_wp2_with fail
  refine cQ.mono ?_
  rintro e w2 ⟨rfl, hb2⟩
  have hX2 := hX.below hb2 hX.lt
  have hY2 := hY.below hb2 hY.lt
  have hS02 := hS0.below hb2
  have hS12 := hS1.below hb2
  have hB2 := hb.trans (hb2.mono hb.size)
  clear cQ hX hY hS0 hS1 hb hb2 x0 x1 x2 x3 y0 y1 y2 y3
  have x4 := hX2.cell (i := 4) rfl
  have y4 := hY2.cell (i := 4) rfl
  go_wp2_with fail
  refine (cS _ hS02.strs hS12.strs).mono ?_
  rintro e w3 ⟨rfl, hb3⟩
  have hB3 := hB2.trans (hb3.mono hB2.size)
  clear cS hX2 hY2 hS02 hS12 hB2 hb3 x4 y4
  go_wp2
  go_ret
  exact ⟨rfl, hB3⟩
end Go.Proofs.YtaoiejgbbmjpkaaGreatDoor

/- What tuskref09.Same says of two messages that are the same; nothing old in memory is turned. -/
namespace Go.Proofs.YtaoiejgbbmjpkaaGreatDoor
open Go.RowKit
set_option linter.unusedVariables false

/-- A message's lists are no longer than a machine's numbers tell. -/
structure MsgM.Num (x : MsgM) : Prop where
  txs : x.bat.txs.length ≤ 4611686018427387903
  keys : ∀ t ∈ x.bat.txs, t.d.rs.length ≤ 9223372036854775807 ∧ t.d.ws.length ≤ 9223372036854775807
  refs : x.hdr.refs.length ≤ 4611686018427387903
  ps : x.hdr.parents.length ≤ 4611686018427387903
  acks : ∀ r ∈ x.hdr.refs, r.acks.length ≤ 4611686018427387903
  crefs : x.cert.hdr.refs.length ≤ 4611686018427387903
  cps : x.cert.hdr.parents.length ≤ 4611686018427387903
  cacks : ∀ r ∈ x.cert.hdr.refs, r.acks.length ≤ 4611686018427387903
  votes : x.cert.votes.length ≤ 4611686018427387903
  bvotes : x.blk.qc.votes.length ≤ 4611686018427387903
  certs : x.blk.certs.length ≤ 4611686018427387903
  qvotes : x.qc.votes.length ≤ 4611686018427387903

set_option maxRecDepth 100000 in
set_option maxHeartbeats 4000000 in
theorem sameM_any (a b : MsgM) (w : World) (hA : a.At w) (hB : b.At w) (hd : a.d = b.d) (hn : a.Num) :
    Calls Tryz.prog 44 #[a.v, b.v] w fun e w' => e = .returned (.bool true) ∧ Below w.heap.size w w' := by
  have d1 : b.kind = a.kind := (congrArg MsgD.kind hd).symm
  have d2 : b.digest = a.digest := (congrArg MsgD.digest hd).symm
  have d3 : b.view = a.view := (congrArg MsgD.view hd).symm
  have d4 : b.tag = a.tag := (congrArg MsgD.tag hd).symm
  have d5 : a.bat.d = b.bat.d := congrArg MsgD.batch hd
  have d6 : a.hdr.d = b.hdr.d := congrArg MsgD.header hd
  have d7 : a.cert.d = b.cert.d := congrArg MsgD.cert hd
  have d8 : a.blk.d = b.blk.d := congrArg MsgD.block hd
  have d9 : a.qc.d = b.qc.d := congrArg MsgD.qc hd
  have e1 : b.bat.author = a.bat.author := (congrArg BatD.author d5).symm
  have e2 : b.bat.number = a.bat.number := (congrArg BatD.number d5).symm
  have e3 : dl a.bat.txs = dl b.bat.txs := congrArg BatD.txs d5
  obtain ⟨hX, hY, hb⟩ := two_new w 39 39 a.c b.c
  have c1 := fun w1 h1 h2 => sameB_any a.bat.author a.bat.number a.bat.ta a.bat.txs a.bat.tc b.bat.ta b.bat.txs b.bat.tc w1 h1 h2 e3 hn.txs hn.keys
  have c2 := fun w1 h1 h2 => sameH_any a.hdr b.hdr w1 h1 h2 d6 hn.refs hn.ps hn.acks
  have c3 := fun w1 h1 h2 => sameC_any a.cert b.cert w1 h1 h2 d7 hn.crefs hn.cps hn.cacks hn.votes
  have c4 := fun w1 h1 h2 => sameK_any a.blk b.blk w1 h1 h2 d8 hn.bvotes hn.certs
  have c5 := fun w1 h1 h2 => sameQ_any a.qc b.qc w1 h1 h2 d9 hn.qvotes
  have hA1 := hA.below hb
  have hB1 := hB.below hb
  unfold MsgM.v
  unfold MsgM.c at hX hY hb hA1 hB1 ⊢
  unfold batV at c1
  unfold HdrM.v at c2
  unfold CertM.v at c3
  unfold BlkM.v at c4
  unfold QcM.v at c5
  rw [d1, d2, d3, d4, e1, e2] at *
  clear hA hB hd hn d1 d2 d3 d4 d5 d6 d7 d8 d9 e1 e2 e3
  generalize hw1 : (w.alloc _).alloc _ = w1 at hX hY hb hA1 hB1
  have x0 := hX.cell (i := 0) rfl
  have x1 := hX.cell (i := 1) rfl
  have x2 := hX.cell (i := 2) rfl
  have x3 := hX.cell (i := 3) rfl
  have x4 := hX.cell (i := 4) rfl
  have x5 := hX.cell (i := 5) rfl
  have x6 := hX.cell (i := 6) rfl
  have x7 := hX.cell (i := 7) rfl
  have y0 := hY.cell (i := 0) rfl
  have y1 := hY.cell (i := 1) rfl
  have y2 := hY.cell (i := 2) rfl
  have y3 := hY.cell (i := 3) rfl
  have y4 := hY.cell (i := 4) rfl
  have y5 := hY.cell (i := 5) rfl
  have y6 := hY.cell (i := 6) rfl
  have y7 := hY.cell (i := 7) rfl
  go_enter Tryz.func44, Tryz.ntmps44
  go_wp2_with fail
  refine (c1 _ hA1.bat.txs.txs hB1.bat.txs.txs).mono ?_
  rintro e w2 ⟨rfl, hb2⟩
  have hB02 := hb.trans (hb2.mono hb.size)
  have hX2 := hX.below hb2 hX.lt
  have hY2 := hY.below hb2 hY.lt
  have hA2 := hA1.below hb2
  have hB2 := hB1.below hb2
  clear c1 hX hY hA1 hB1 hb hb2 x0 x1 x2 x3 x4 x5 x6 x7 y0 y1 y2 y3 y4 y5 y6 y7
  have x8 := hX2.cell (i := 8) rfl
  have x9 := hX2.cell (i := 9) rfl
  have x10 := hX2.cell (i := 10) rfl
  have x11 := hX2.cell (i := 11) rfl
  have y8 := hY2.cell (i := 8) rfl
  have y9 := hY2.cell (i := 9) rfl
  have y10 := hY2.cell (i := 10) rfl
  have y11 := hY2.cell (i := 11) rfl
  go_wp2_with fail
  refine (c2 _ hA2.hdr hB2.hdr).mono ?_
  rintro e w3 ⟨rfl, hb3⟩
  have hB03 := hB02.trans (hb3.mono hB02.size)
  have hX3 := hX2.below hb3 hX2.lt
  have hY3 := hY2.below hb3 hY2.lt
  have hA3 := hA2.below hb3
  have hB3 := hB2.below hb3
  clear c2 hX2 hY2 hA2 hB2 hB02 hb3 x8 x9 x10 x11 y8 y9 y10 y11
  have x12 := hX3.cell (i := 12) rfl
  have x13 := hX3.cell (i := 13) rfl
  have x14 := hX3.cell (i := 14) rfl
  have x15 := hX3.cell (i := 15) rfl
  have x16 := hX3.cell (i := 16) rfl
  have y12 := hY3.cell (i := 12) rfl
  have y13 := hY3.cell (i := 13) rfl
  have y14 := hY3.cell (i := 14) rfl
  have y15 := hY3.cell (i := 15) rfl
  have y16 := hY3.cell (i := 16) rfl
  go_wp2_with fail
  refine (c3 _ hA3.cert hB3.cert).mono ?_
  rintro e w4 ⟨rfl, hb4⟩
  have hB04 := hB03.trans (hb4.mono hB03.size)
  have hX4 := hX3.below hb4 hX3.lt
  have hY4 := hY3.below hb4 hY3.lt
  have hA4 := hA3.below hb4
  have hB4 := hB3.below hb4
  clear c3 hX3 hY3 hA3 hB3 hB03 hb4 x12 x13 x14 x15 x16 y12 y13 y14 y15 y16
  have x17 := hX4.cell (i := 17) rfl
  have x18 := hX4.cell (i := 18) rfl
  have x19 := hX4.cell (i := 19) rfl
  have x20 := hX4.cell (i := 20) rfl
  have x21 := hX4.cell (i := 21) rfl
  have y17 := hY4.cell (i := 17) rfl
  have y18 := hY4.cell (i := 18) rfl
  have y19 := hY4.cell (i := 19) rfl
  have y20 := hY4.cell (i := 20) rfl
  have y21 := hY4.cell (i := 21) rfl
  go_wp2_with fail
  refine (c4 _ hA4.blk hB4.blk).mono ?_
  rintro e w5 ⟨rfl, hb5⟩
  have hB05 := hB04.trans (hb5.mono hB04.size)
  have hX5 := hX4.below hb5 hX4.lt
  have hY5 := hY4.below hb5 hY4.lt
  have hA5 := hA4.below hb5
  have hB5 := hB4.below hb5
  clear c4 hX4 hY4 hA4 hB4 hB04 hb5 x17 x18 x19 x20 x21 y17 y18 y19 y20 y21
  have x22 := hX5.cell (i := 22) rfl
  have x23 := hX5.cell (i := 23) rfl
  have x24 := hX5.cell (i := 24) rfl
  have y22 := hY5.cell (i := 22) rfl
  have y23 := hY5.cell (i := 23) rfl
  have y24 := hY5.cell (i := 24) rfl
  go_wp2_with fail
  refine (c5 _ hA5.qc hB5.qc).mono ?_
  rintro e w6 ⟨rfl, hb6⟩
  have hB06 := hB05.trans (hb6.mono hB05.size)
  clear c5 hX5 hY5 hA5 hB5 hB05 hb6 x22 x23 x24 y22 y23 y24
  go_wp2
  go_ret
  exact ⟨rfl, hB06⟩
end Go.Proofs.YtaoiejgbbmjpkaaGreatDoor

/- What tusklaw06.Great, PlainTags and Plain do; nothing in memory is turned. -/
namespace Go.Proofs.YtaoiejgbbmjpkaaGreatDoor
open Go.RowKit
set_option linter.unusedVariables false

/-- A bool is handed back that says whether P. -/
def GotBool (P : Prop) (e : Ending) : Prop := ∃ p : Bool, e = .returned (.bool p) ∧ (p = true ↔ P)

theorem gotB_no {P : Prop} (h : ¬ P) {e : Ending} (he : e = .returned (.bool false)) : GotBool P e := ⟨false, he, (fun h => by cases h), fun h' => absurd h' h⟩
theorem gotB_yes {P : Prop} (h : P) {e : Ending} (he : e = .returned (.bool true)) : GotBool P e := ⟨true, he, fun _ => h, fun _ => rfl⟩

set_option maxRecDepth 100000 in
set_option maxHeartbeats 1000000 in
theorem great_any (x : HdrM) (w : World) (hA : x.At w) (hn : x.refs.length ≤ maxLen) (hp : x.parents.length ≤ maxLen) :
    Calls Tryz.prog 11 #[x.v] w fun e w' => (∃ g, e = .returned (.bool g)) ∧ Below w.heap.size w w' := by
  obtain ⟨au, ro, ra, rs, rc, pa, ps, pc⟩ := x
  have hA1 : RowAt refK w ra rs := hA.refs
  have hA2 : RowAt strK w pa ps := hA.ps
  have hn' : rs.length ≤ maxLen := hn
  have hp' : ps.length ≤ maxLen := hp
  have hX := Arr.new w 30 [.int .i64 au, .int .i64 ro, .slice ra rs.length rc, .slice pa ps.length pc]
  have hB := belowNew w (.cells #[.int .i64 au, .int .i64 ro, .slice ra rs.length rc, .slice pa ps.length pc] 30)
  clear hA hn hp
  unfold maxLen at hn' hp'
  unfold HdrM.v
  simp only
  have x3 := hX.cell (i := 3) rfl
  go_enter Tryz.func11, Tryz.ntmps11
  go_wp2
  go_loopw [3, 4] (fun v3 v4 wr => ∃ (k : Nat) (n : Int), k ≤ rs.length ∧ v4 = .int .i64 (k : Int) ∧ v3 = .int .i64 n ∧ Arr wr w.heap.size 30 [.int .i64 au, .int .i64 ro, .slice ra rs.length rc, .slice pa ps.length pc] ∧ Below w.heap.size w wr) (fun _ v _ => rs.length - (intOf v).toNat)
  case atStart => exact ⟨0, _, Nat.zero_le _, rfl, rfl, hX, hB⟩
  case round =>
    clear hX hB x3
    obtain ⟨k, n, hk, rfl, rfl, hX, hb⟩ := hrel
    have x2 := hX.cell (i := 2) rfl
    by_cases hlt : k < rs.length
    · obtain ⟨r, hr⟩ : ∃ r, rs[k]? = some r := ⟨rs[k], List.getElem?_eq_getElem hlt⟩
      obtain ⟨b, off, rfl, hbl, y0, y1⟩ := (hA1.below hb).ref hr
      clear hr
      go_wp2_with fail
      go_big_quiet (fail)
      have hb2 := below_drewN hb nq
      have hX2 := hX.drewN nq
      clear hX hb x2 y0 y1
      generalize wr.drewN nq = w1 at *
      go_wp2
      go_roundw
      case rel => exact ⟨k + 1, _, by omega, by go_num, rfl, hX2, hb2⟩
      case measure => simp [intOf]; omega
    · go_wp2
      go_loopw [3, 5] (fun v3 v5 wr => ∃ (k : Nat) (n : Int), k ≤ ps.length ∧ v5 = .int .i64 (k : Int) ∧ v3 = .int .i64 n ∧ Arr wr w.heap.size 30 [.int .i64 au, .int .i64 ro, .slice ra rs.length rc, .slice pa ps.length pc] ∧ Below w.heap.size w wr) (fun _ v _ => ps.length - (intOf v).toNat)
      case atStart => exact ⟨0, _, Nat.zero_le _, rfl, rfl, hX, hb⟩
      case round =>
        clear hX hb x2
        obtain ⟨j, n, hj, rfl, rfl, hX, hb⟩ := hrel
        have x3 := hX.cell (i := 3) rfl
        by_cases hlt2 : j < ps.length
        · obtain ⟨b, off, rfl, hbl, hc⟩ := (hA2.below hb).strs j hlt2
          go_wp2
          go_roundw
          case rel => exact ⟨j + 1, _, by omega, by go_num, rfl, hX, hb⟩
          case measure => simp [intOf]; omega
        · go_wp2
          go_ret
          exact ⟨⟨_, rfl⟩, hb⟩
end Go.Proofs.YtaoiejgbbmjpkaaGreatDoor
