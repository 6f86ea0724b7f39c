/- Texts as one: CertSame, RefBlkSame, MsgSame, HdrPlain, MsgNone, MsgRef, MsgSmall, MsgRefOk. -/
import Derived.Test.YtaoiejgbbmjpkaaGreatDoorWk06
import Derived.Test.YtaoiejgbbmjpkaaGreatDoorWk09
import Derived.Test.YtaoiejgbbmjpkaaGreatDoorWk03
import Derived.Deep.QuietTactic
import Derived.BigQuiet
/- What tuskref07.Same says of two certificates that are the same; nothing old in memory is turned. -/
namespace Go.Proofs.YtaoiejgbbmjpkaaGreatDoor
open Go.RowKit
set_option linter.unusedVariables false

set_option maxRecDepth 100000 in
set_option maxHeartbeats 2000000 in
theorem sameC_any (a b : CertM) (w : World) (hA : a.At w) (hB : b.At w) (hd : a.d = b.d) (hn : a.hdr.refs.length ≤ 4611686018427387903) (hp : a.hdr.parents.length ≤ 4611686018427387903) (hL : ∀ x ∈ a.hdr.refs, x.acks.length ≤ 4611686018427387903) (hv : a.votes.length ≤ 4611686018427387903) :
    Calls Tryz.prog 76 #[a.v, b.v] w fun e w' => e = .returned (.bool true) ∧ Below w.heap.size w w' := by
  have hdh : a.hdr.d = b.hdr.d := congrArg CertD.header hd
  have hdv : a.votes = b.votes := congrArg CertD.votes hd
  obtain ⟨hX, hY, hb⟩ := two_new w 33 33 a.c b.c
  have hA1 := hA.below hb
  have hB1 := hB.below hb
  have cH := sameH_any a.hdr b.hdr _ hA1.hdr hB1.hdr hdh hn hp hL
  have cV := fun w1 h0 h1 => sameTags_any a.va b.va a.vc b.vc a.votes w1 h0 h1 hv
  have hV0 := hA1.votes
  have hV1 := hB1.votes
  rw [← hdv] at hV1
  unfold CertM.c at hX hY hb cH hV0 hV1
  unfold CertM.v
  unfold HdrM.v at cH
  rw [← hdv] at *
  clear hA hB hA1 hB1 hd hdh hdv
  obtain ⟨w1, hw1⟩ : ∃ q, (w.alloc (.cells [.int .i64 a.hdr.author, .int .i64 a.hdr.round, .slice a.hdr.ra a.hdr.refs.length a.hdr.rc, .slice a.hdr.pa a.hdr.parents.length a.hdr.pc, .slice a.va a.votes.length a.vc].toArray 33)).alloc (.cells [.int .i64 b.hdr.author, .int .i64 b.hdr.round, .slice b.hdr.ra b.hdr.refs.length b.hdr.rc, .slice b.hdr.pa b.hdr.parents.length b.hdr.pc, .slice b.va a.votes.length b.vc].toArray 33) = q := ⟨_, rfl⟩
  rw [hw1] at hX hY hb cH hV0 hV1
  have x0 := hX.cell (i := 0) rfl
  have x1 := hX.cell (i := 1) rfl
  have x2 := hX.cell (i := 2) rfl
  have x3 := hX.cell (i := 3) rfl
  have x4 := hX.cell (i := 4) rfl
  have y0 := hY.cell (i := 0) rfl
  have y1 := hY.cell (i := 1) rfl
  have y2 := hY.cell (i := 2) rfl
  have y3 := hY.cell (i := 3) rfl
  have y4 := hY.cell (i := 4) rfl
  go_enter Tryz.func76, Tryz.ntmps76
  go_wp2_with fail
  refine cH.mono ?_
  rintro e w2 ⟨rfl, hb2⟩
  have hX2 := hX.below hb2 hX.lt
  have hY2 := hY.below hb2 hY.lt
  have hV02 := hV0.below hb2
  have hV12 := hV1.below hb2
  have hB2 := hb.trans (hb2.mono hb.size)
  clear cH hX hY hV0 hV1 hb hb2 x0 x1 x2 x3 x4 y0 y1 y2 y3 y4
  have x4 := hX2.cell (i := 4) rfl
  have y4 := hY2.cell (i := 4) rfl
  go_wp2_with fail
  refine (cV _ hV02 hV12).mono ?_
  rintro e w3 ⟨rfl, hb3⟩
  have hB3 := hB2.trans (hb3.mono hB2.size)
  clear cV hX2 hY2 hV02 hV12 hB2 hb3 x4 y4
  go_wp2
  go_ret
  exact ⟨rfl, hB3⟩
end Go.Proofs.YtaoiejgbbmjpkaaGreatDoor

/- What tuskref08.SameQc and tuskref08.Same say of two that are the same; nothing old in memory is turned. -/
namespace Go.Proofs.YtaoiejgbbmjpkaaGreatDoor
open Go.RowKit
set_option linter.unusedVariables false

set_option maxRecDepth 100000 in
set_option maxHeartbeats 2000000 in
theorem sameQ_any (a b : QcM) (w : World) (hA : a.At w) (hB : b.At w) (hd : a.d = b.d) (hv : a.votes.length ≤ 4611686018427387903) :
    Calls Tryz.prog 78 #[a.v, b.v] w fun e w' => e = .returned (.bool true) ∧ Below w.heap.size w w' := by
  obtain ⟨v0, k0, a0, l0, c0⟩ := a
  obtain ⟨v1, k1, a1, l1, c1⟩ := b
  simp only [QcM.d, QcD.mk.injEq] at hd
  obtain ⟨rfl, rfl, rfl⟩ := hd
  have hA1 : RowAt tagK w a0 l0 := hA.votes
  have hB1 : RowAt tagK w a1 l0 := hB.votes
  obtain ⟨hX, hY, hb⟩ := two_new w 35 35 [.int .i64 v0, .string k0, .slice a0 l0.length c0] [.int .i64 v0, .string k0, .slice a1 l0.length c1]
  have cV := sameTags_any a0 a1 c0 c1 l0 _ (hA1.below hb) (hB1.below hb) hv
  unfold QcM.v
  simp only
  clear hA hB hA1 hB1 hv
  obtain ⟨w1, hw1⟩ : ∃ q, (w.alloc (.cells [.int .i64 v0, .string k0, .slice a0 l0.length c0].toArray 35)).alloc (.cells [.int .i64 v0, .string k0, .slice a1 l0.length c1].toArray 35) = q := ⟨_, rfl⟩
  rw [hw1] at hX hY hb cV
  have x0 := hX.cell (i := 0) rfl
  have x1 := hX.cell (i := 1) rfl
  have x2 := hX.cell (i := 2) rfl
  have y0 := hY.cell (i := 0) rfl
  have y1 := hY.cell (i := 1) rfl
  have y2 := hY.cell (i := 2) rfl
  go_enter Tryz.func78, Tryz.ntmps78
  go_wp2_with fail
  refine cV.mono ?_
  rintro e w2 ⟨rfl, hb2⟩
  have hB2 := hb.trans (hb2.mono hb.size)
  clear cV hX hY hb hb2 x0 x1 x2 y0 y1 y2
  go_wp2
  go_ret
  exact ⟨rfl, hB2⟩

set_option maxRecDepth 100000 in
set_option maxHeartbeats 2000000 in
theorem sameK_any (a b : BlkM) (w : World) (hA : a.At w) (hB : b.At w) (hd : a.d = b.d) (hv : a.qc.votes.length ≤ 4611686018427387903) (hc : a.certs.length ≤ 4611686018427387903) :
    Calls Tryz.prog 77 #[a.v, b.v] w fun e w' => e = .returned (.bool true) ∧ Below w.heap.size w w' := by
  obtain ⟨v0, q0, a0, l0, c0⟩ := a
  obtain ⟨v1, q1, a1, l1, c1⟩ := b
  simp only [BlkM.d, BlkD.mk.injEq] at hd
  obtain ⟨rfl, hq, rfl⟩ := hd
  have hA1 : RowAt strK w a0 l0 := hA.certs
  have hB1 : RowAt strK w a1 l0 := hB.certs
  have hAq : q0.At w := hA.qc
  have hBq : q1.At w := hB.qc
  obtain ⟨hX, hY, hb⟩ := two_new w 37 37 [.int .i64 v0, .int .i64 q0.view, .string q0.block, .slice q0.va q0.votes.length q0.vc, .slice a0 l0.length c0] [.int .i64 v0, .int .i64 q1.view, .string q1.block, .slice q1.va q1.votes.length q1.vc, .slice a1 l0.length c1]
  have cQ := sameQ_any q0 q1 _ (hAq.below hb) (hBq.below hb) hq hv
  have cS := fun w1 h0 h1 => same_any a0 a1 c0 c1 l0 w1 h0 h1 (by have := hc; simp only at this; omega)
  have hS0 := hA1.below hb
  have hS1 := hB1.below hb
  unfold QcM.v at cQ
  unfold BlkM.v
  simp only
  clear hA hB hA1 hB1 hv hc hAq hBq hq
  obtain ⟨w1, hw1⟩ : ∃ q, (w.alloc (.cells [.int .i64 v0, .int .i64 q0.view, .string q0.block, .slice q0.va q0.votes.length q0.vc, .slice a0 l0.length c0].toArray 37)).alloc (.cells [.int .i64 v0, .int .i64 q1.view, .string q1.block, .slice q1.va q1.votes.length q1.vc, .slice a1 l0.length c1].toArray 37) = q := ⟨_, rfl⟩
  rw [hw1] at hX hY hb cQ hS0 hS1
  have x0 := hX.cell (i := 0) rfl
  have x1 := hX.cell (i := 1) rfl
  have x2 := hX.cell (i := 2) rfl
  have x3 := hX.cell (i := 3) rfl
  have y0 := hY.cell (i := 0) rfl
  have y1 := hY.cell (i := 1) rfl
  have y2 := hY.cell (i := 2) rfl
  have y3 := hY.cell (i := 3) rfl
  go_enter Tryz.func77, Tryz.ntmps77
  go_wp2_with fail
  refine cQ.mono ?_
  rintro e w2 ⟨rfl, hb2⟩
  have hX2 := hX.below hb2 hX.lt
  have hY2 := hY.below hb2 hY.lt
  have hS02 := hS0.below hb2
  have hS12 := hS1.below hb2
  have hB2 := hb.trans (hb2.mono hb.size)
  clear cQ hX hY hS0 hS1 hb hb2 x0 x1 x2 x3 y0 y1 y2 y3
  have x4 := hX2.cell (i := 4) rfl
  have y4 := hY2.cell (i := 4) rfl
  go_wp2_with fail
  refine (cS _ hS02.strs hS12.strs).mono ?_
  rintro e w3 ⟨rfl, hb3⟩
  have hB3 := hB2.trans (hb3.mono hB2.size)
  clear cS hX2 hY2 hS02 hS12 hB2 hb3 x4 y4
  go_wp2
  go_ret
  exact ⟨rfl, hB3⟩
end Go.Proofs.YtaoiejgbbmjpkaaGreatDoor

/- What tuskref09.Same says of two messages that are the same; nothing old in memory is turned. -/
namespace Go.Proofs.YtaoiejgbbmjpkaaGreatDoor
open Go.RowKit
set_option linter.unusedVariables false

/-- A message's lists are no longer than a machine's numbers tell. -/
structure MsgM.Num (x : MsgM) : Prop where
  txs : x.bat.txs.length ≤ 4611686018427387903
  keys : ∀ t ∈ x.bat.txs, t.d.rs.length ≤ 9223372036854775807 ∧ t.d.ws.length ≤ 9223372036854775807
  refs : x.hdr.refs.length ≤ 4611686018427387903
  ps : x.hdr.parents.length ≤ 4611686018427387903
  acks : ∀ r ∈ x.hdr.refs, r.acks.length ≤ 4611686018427387903
  crefs : x.cert.hdr.refs.length ≤ 4611686018427387903
  cps : x.cert.hdr.parents.length ≤ 4611686018427387903
  cacks : ∀ r ∈ x.cert.hdr.refs, r.acks.length ≤ 4611686018427387903
  votes : x.cert.votes.length ≤ 4611686018427387903
  bvotes : x.blk.qc.votes.length ≤ 4611686018427387903
  certs : x.blk.certs.length ≤ 4611686018427387903
  qvotes : x.qc.votes.length ≤ 4611686018427387903
end Go.Proofs.YtaoiejgbbmjpkaaGreatDoor

/- What tusklaw06.Great, PlainTags and Plain do; nothing in memory is turned. -/
namespace Go.Proofs.YtaoiejgbbmjpkaaGreatDoor
open Go.RowKit
set_option linter.unusedVariables false

/-- A bool is handed back that says whether P. -/
def GotBool (P : Prop) (e : Ending) : Prop := ∃ p : Bool, e = .returned (.bool p) ∧ (p = true ↔ P)

theorem gotB_no {P : Prop} (h : ¬ P) {e : Ending} (he : e = .returned (.bool false)) : GotBool P e := ⟨false, he, (fun h => by cases h), fun h' => absurd h' h⟩
theorem gotB_yes {P : Prop} (h : P) {e : Ending} (he : e = .returned (.bool true)) : GotBool P e := ⟨true, he, fun _ => h, fun _ => rfl⟩

set_option maxRecDepth 100000 in
set_option maxHeartbeats 1000000 in
theorem great_any (x : HdrM) (w : World) (hA : x.At w) (hn : x.refs.length ≤ maxLen) (hp : x.parents.length ≤ maxLen) :
    Calls Tryz.prog 11 #[x.v] w fun e w' => (∃ g, e = .returned (.bool g)) ∧ Below w.heap.size w w' := by
  obtain ⟨au, ro, ra, rs, rc, pa, ps, pc⟩ := x
  have hA1 : RowAt refK w ra rs := hA.refs
  have hA2 : RowAt strK w pa ps := hA.ps
  have hn' : rs.length ≤ maxLen := hn
  have hp' : ps.length ≤ maxLen := hp
  have hX := Arr.new w 30 [.int .i64 au, .int .i64 ro, .slice ra rs.length rc, .slice pa ps.length pc]
  have hB := belowNew w (.cells #[.int .i64 au, .int .i64 ro, .slice ra rs.length rc, .slice pa ps.length pc] 30)
  clear hA hn hp
  unfold maxLen at hn' hp'
  unfold HdrM.v
  simp only
  have x3 := hX.cell (i := 3) rfl
  go_enter Tryz.func11, Tryz.ntmps11
  go_wp2
  go_loopw [3, 4] (fun v3 v4 wr => ∃ (k : Nat) (n : Int), k ≤ rs.length ∧ v4 = .int .i64 (k : Int) ∧ v3 = .int .i64 n ∧ Arr wr w.heap.size 30 [.int .i64 au, .int .i64 ro, .slice ra rs.length rc, .slice pa ps.length pc] ∧ Below w.heap.size w wr) (fun _ v _ => rs.length - (intOf v).toNat)
  case atStart => exact ⟨0, _, Nat.zero_le _, rfl, rfl, hX, hB⟩
  case round =>
    clear hX hB x3
    obtain ⟨k, n, hk, rfl, rfl, hX, hb⟩ := hrel
    have x2 := hX.cell (i := 2) rfl
    by_cases hlt : k < rs.length
    · obtain ⟨r, hr⟩ : ∃ r, rs[k]? = some r := ⟨rs[k], List.getElem?_eq_getElem hlt⟩
      obtain ⟨b, off, rfl, hbl, y0, y1⟩ := (hA1.below hb).ref hr
      clear hr
      go_wp2_with fail
      go_big_quiet (fail)
      have hb2 := below_drewN hb nq
      have hX2 := hX.drewN nq
      clear hX hb x2 y0 y1
      generalize wr.drewN nq = w1 at *
      go_wp2
      go_roundw
      case rel => exact ⟨k + 1, _, by omega, by go_num, rfl, hX2, hb2⟩
      case measure => simp [intOf]; omega
    · go_wp2
      go_loopw [3, 5] (fun v3 v5 wr => ∃ (k : Nat) (n : Int), k ≤ ps.length ∧ v5 = .int .i64 (k : Int) ∧ v3 = .int .i64 n ∧ Arr wr w.heap.size 30 [.int .i64 au, .int .i64 ro, .slice ra rs.length rc, .slice pa ps.length pc] ∧ Below w.heap.size w wr) (fun _ v _ => ps.length - (intOf v).toNat)
      case atStart => exact ⟨0, _, Nat.zero_le _, rfl, rfl, hX, hb⟩
      case round =>
        clear hX hb x2
        obtain ⟨j, n, hj, rfl, rfl, hX, hb⟩ := hrel
        have x3 := hX.cell (i := 3) rfl
        by_cases hlt2 : j < ps.length
        · obtain ⟨b, off, rfl, hbl, hc⟩ := (hA2.below hb).strs j hlt2
          go_wp2
          go_roundw
          case rel => exact ⟨j + 1, _, by omega, by go_num, rfl, hX, hb⟩
          case measure => simp [intOf]; omega
        · go_wp2
          go_ret
          exact ⟨⟨_, rfl⟩, hb⟩
end Go.Proofs.YtaoiejgbbmjpkaaGreatDoor

/- What the reference's Same functions say of something beside nothing: is it nothing? Nothing old in memory is turned. -/
namespace Go.Proofs.YtaoiejgbbmjpkaaGreatDoor
open Go.RowKit
set_option linter.unusedVariables false

theorem len_zero {α : Type} {l : List α} (h : l ≠ []) : ¬ (l.length : Int) = 0 := fun e => h (List.length_eq_zero_iff.1 (by omega))

theorem dl_nil {l : List TxM} (h : dl l = []) : l = [] := List.length_eq_zero_iff.1 (by rw [← dl_length, h]; rfl)
theorem rd_nil {l : List RefM} (h : rd l = []) : l = [] := List.length_eq_zero_iff.1 (by rw [← rd_length, h]; rfl)

/-- Yes or no as P says, and nothing old is turned. -/
def Told (W : World) (P : Prop) (e : Ending) (w : World) : Prop := GotBool P e ∧ Below W.heap.size W w

theorem told_no {W w : World} {P : Prop} (h : ¬ P) (hb : Below W.heap.size W w) {e : Ending} (he : e = .returned (.bool false)) : Told W P e w := ⟨gotB_no h he, hb⟩
theorem told_yes {W w : World} {P : Prop} (h : P) (hb : Below W.heap.size W w) {e : Ending} (he : e = .returned (.bool true)) : Told W P e w := ⟨gotB_yes h he, hb⟩

theorem Told.iff {W w : World} {P Q : Prop} {e : Ending} (h : Told W P e w) (hq : P ↔ Q) : Told W Q e w := by
  obtain ⟨⟨p, he, hp⟩, hb⟩ := h
  exact ⟨⟨p, he, hp.trans hq⟩, hb⟩

set_option maxRecDepth 100000 in
set_option maxHeartbeats 1000000 in
theorem sameS_none (ao : Option Addr) (c : Nat) (l : List ByteArray) (w : World) :
    Calls Tryz.prog 116 #[.slice ao l.length c, .slice none 0 0] w (Told w (l = [])) := by
  by_cases h : l = []
  · subst h
    exact (same_any ao none c 0 [] w (nil_row (K := strK) w ao).strs (nil_row (K := strK) w none).strs (by decide)).mono (fun e w' h => told_yes rfl h.2 h.1)
  · have h1 := len_zero h
    go_enter Tryz.func116, Tryz.ntmps116
    go_wp2
    go_ret
    exact told_no h (Below.refl _ _) rfl

set_option maxRecDepth 100000 in
set_option maxHeartbeats 1000000 in
theorem sameTags_none (ao : Option Addr) (c : Nat) (l : List TagD) (w : World) :
    Calls Tryz.prog 117 #[.slice ao l.length c, .slice none 0 0] w (Told w (l = [])) := by
  by_cases h : l = []
  · subst h
    exact (sameTags_any ao none c 0 [] w (nil_row w ao) (nil_row w none) (by decide)).mono (fun e w' h => told_yes rfl h.2 h.1)
  · have h1 := len_zero h
    go_enter Tryz.func117, Tryz.ntmps117
    go_wp2
    go_ret
    exact told_no h (Below.refl _ _) rfl

set_option maxRecDepth 100000 in
set_option maxHeartbeats 2000000 in
theorem sameB_none (x : BatM) (w : World) :
    Calls Tryz.prog 74 #[x.v, bat0.v] w (Told w (x.d = bat0.d)) := by
  obtain ⟨a, n, ao, l, c⟩ := x
  have hd : (BatM.d ⟨a, n, ao, l, c⟩ = bat0.d) ↔ (a = 0 ∧ n = 0 ∧ l = []) := by
    show (⟨a, n, dl l⟩ : BatD) = ⟨0, 0, []⟩ ↔ _
    simp only [BatD.mk.injEq]
    exact ⟨fun h => ⟨h.1, h.2.1, dl_nil h.2.2⟩, fun h => ⟨h.1, h.2.1, by rw [h.2.2]; rfl⟩⟩
  generalize (BatM.d ⟨a, n, ao, l, c⟩ = bat0.d) = P at hd ⊢
  unfold BatM.v bat0
  simp only [List.length_nil]
  by_cases h1 : a = 0
  · subst h1
    by_cases h2 : n = 0
    · subst h2
      by_cases h3 : l = []
      · subst h3
        exact (sameB_any 0 0 ao [] c none [] 0 w (fun i x hx => by simp at hx) (fun i x hx => by simp at hx) rfl (by decide) (fun x hx => by cases hx)).mono (fun e w' h => told_yes (hd.2 ⟨rfl, rfl, rfl⟩) h.2 h.1)
      · have h4 := len_zero h3
        have hno : ¬ P := fun h => h3 (hd.1 h).2.2
        clear hd
        obtain ⟨hX, hY, hB⟩ := two_new w 26 26 [.int .i64 0, .int .i64 0, .slice ao l.length c] [.int .i64 0, .int .i64 0, .slice none 0 0]
        have x0 := hX.cell (i := 0) rfl
        have x1 := hX.cell (i := 1) rfl
        have x2 := hX.cell (i := 2) rfl
        have y0 := hY.cell (i := 0) rfl
        have y1 := hY.cell (i := 1) rfl
        have y2 := hY.cell (i := 2) rfl
        go_enter Tryz.func74, Tryz.ntmps74
        go_wp2
        go_ret
        exact told_no hno hB rfl
    · have hno : ¬ P := fun h => h2 (hd.1 h).2.1
      clear hd
      obtain ⟨hX, hY, hB⟩ := two_new w 26 26 [.int .i64 0, .int .i64 n, .slice ao l.length c] [.int .i64 0, .int .i64 0, .slice none 0 0]
      have x0 := hX.cell (i := 0) rfl
      have x1 := hX.cell (i := 1) rfl
      have x2 := hX.cell (i := 2) rfl
      have y0 := hY.cell (i := 0) rfl
      have y1 := hY.cell (i := 1) rfl
      have y2 := hY.cell (i := 2) rfl
      go_enter Tryz.func74, Tryz.ntmps74
      go_wp2
      go_ret
      exact told_no hno hB rfl
  · have hno : ¬ P := fun h => h1 (hd.1 h).1
    clear hd
    obtain ⟨hX, hY, hB⟩ := two_new w 26 26 [.int .i64 a, .int .i64 n, .slice ao l.length c] [.int .i64 0, .int .i64 0, .slice none 0 0]
    have x0 := hX.cell (i := 0) rfl
    have x1 := hX.cell (i := 1) rfl
    have x2 := hX.cell (i := 2) rfl
    have y0 := hY.cell (i := 0) rfl
    have y1 := hY.cell (i := 1) rfl
    have y2 := hY.cell (i := 2) rfl
    go_enter Tryz.func74, Tryz.ntmps74
    go_wp2
    go_ret
    exact told_no hno hB rfl

set_option maxRecDepth 100000 in
set_option maxHeartbeats 2000000 in
theorem sameQ_none (x : QcM) (w : World) :
    Calls Tryz.prog 78 #[x.v, qc0.v] w (Told w (x.d = qc0.d)) := by
  obtain ⟨v, b, va, l, c⟩ := x
  have hd : (QcM.d ⟨v, b, va, l, c⟩ = qc0.d) ↔ (v = 0 ∧ b = ⟨#[]⟩ ∧ l = []) := by
    show (⟨v, b, l⟩ : QcD) = ⟨0, ⟨#[]⟩, []⟩ ↔ _
    simp only [QcD.mk.injEq]
  generalize (QcM.d ⟨v, b, va, l, c⟩ = qc0.d) = P at hd ⊢
  have cV := fun w1 => sameTags_none va c l w1
  unfold QcM.v qc0
  simp only [List.length_nil]
  by_cases h1 : v = 0
  · subst h1
    by_cases h2 : b = ⟨#[]⟩
    · subst h2
      have hl : Hid ((l = []) ↔ P) := ⟨fun h => hd.2 ⟨rfl, rfl, h⟩, fun h => (hd.1 h).2.2⟩
      clear hd
      obtain ⟨hX, hY, hB⟩ := two_new w 35 35 [.int .i64 0, .string ⟨#[]⟩, .slice va l.length c] [.int .i64 0, .string ⟨#[]⟩, .slice none 0 0]
      have x0 := hX.cell (i := 0) rfl
      have x1 := hX.cell (i := 1) rfl
      have x2 := hX.cell (i := 2) rfl
      have y0 := hY.cell (i := 0) rfl
      have y1 := hY.cell (i := 1) rfl
      have y2 := hY.cell (i := 2) rfl
      go_enter Tryz.func78, Tryz.ntmps78
      go_wp2_with fail
      refine (cV _).mono ?_
      rintro e w2 ⟨⟨p, rfl, hp⟩, hb2⟩
      have hB2 := hB.trans (hb2.mono hB.size)
      have fin : ∀ e, e = .returned (.bool p) → Told w P e w2 := fun e he => ⟨⟨p, he, hp.trans hl.out⟩, hB2⟩
      clear cV hp hl hX hY hB hb2 x0 x1 x2 y0 y1 y2
      go_wp2
      go_ret
      exact fin _ rfl
    · have h5 : ¬ b.toList = [] := fun h => h2 (bytes_ext (by rw [← ByteArray.toList_eq, h]))
      have hno : ¬ P := fun h => h2 (hd.1 h).2.1
      clear hd
      obtain ⟨hX, hY, hB⟩ := two_new w 35 35 [.int .i64 0, .string b, .slice va l.length c] [.int .i64 0, .string ⟨#[]⟩, .slice none 0 0]
      have x0 := hX.cell (i := 0) rfl
      have x1 := hX.cell (i := 1) rfl
      have x2 := hX.cell (i := 2) rfl
      have y0 := hY.cell (i := 0) rfl
      have y1 := hY.cell (i := 1) rfl
      have y2 := hY.cell (i := 2) rfl
      go_enter Tryz.func78, Tryz.ntmps78
      go_wp2
      go_ret
      exact told_no hno hB rfl
  · have hno : ¬ P := fun h => h1 (hd.1 h).1
    clear hd
    obtain ⟨hX, hY, hB⟩ := two_new w 35 35 [.int .i64 v, .string b, .slice va l.length c] [.int .i64 0, .string ⟨#[]⟩, .slice none 0 0]
    have x0 := hX.cell (i := 0) rfl
    have x1 := hX.cell (i := 1) rfl
    have x2 := hX.cell (i := 2) rfl
    have y0 := hY.cell (i := 0) rfl
    have y1 := hY.cell (i := 1) rfl
    have y2 := hY.cell (i := 2) rfl
    go_enter Tryz.func78, Tryz.ntmps78
    go_wp2
    go_ret
    exact told_no hno hB rfl

set_option maxRecDepth 100000 in
set_option maxHeartbeats 2000000 in
theorem sameH_none (x : HdrM) (w : World) (hA : x.At w) :
    Calls Tryz.prog 75 #[x.v, hdr9.v] w (Told w (x.d = hdr9.d)) := by
  obtain ⟨au, ro, ra, rs, rc, pa, ps, pc⟩ := x
  have hd : (HdrM.d ⟨au, ro, ra, rs, rc, pa, ps, pc⟩ = hdr9.d) ↔ (au = 0 ∧ ro = 0 ∧ rs = [] ∧ ps = []) := by
    show (⟨au, ro, rd rs, ps⟩ : HdrD) = ⟨0, 0, [], []⟩ ↔ _
    simp only [HdrD.mk.injEq]
    exact ⟨fun h => ⟨h.1, h.2.1, rd_nil h.2.2.1, h.2.2.2⟩, fun h => ⟨h.1, h.2.1, by rw [h.2.2.1]; rfl, h.2.2.2⟩⟩
  generalize (HdrM.d ⟨au, ro, ra, rs, rc, pa, ps, pc⟩ = hdr9.d) = P at hd ⊢
  have cP := fun w1 => sameS_none pa pc ps w1
  by_cases h1 : au = 0
  · subst h1
    by_cases h2 : ro = 0
    · subst h2
      by_cases h3 : rs = []
      · subst h3
        by_cases h4 : ps = []
        · subst h4
          exact (sameH_any ⟨0, 0, ra, [], rc, pa, [], pc⟩ ⟨0, 0, none, [], 0, none, [], 0⟩ w ⟨nil_row _ _, hA.nr, nil_row _ _, hA.np⟩ ⟨nil_row _ _, fun _ => rfl, nil_row _ _, fun _ => rfl⟩ rfl (Nat.zero_le _) (Nat.zero_le _) (fun x hx => by cases hx)).mono (fun e w' h => told_yes (hd.2 ⟨rfl, rfl, rfl, rfl⟩) h.2 h.1)
        · unfold HdrM.v hdr9
          simp only [List.length_nil]
          have hno : ¬ P := fun h => h4 (hd.1 h).2.2.2
          clear hd
          obtain ⟨hX, hY, hB⟩ := two_new w 30 30 [.int .i64 0, .int .i64 0, .slice ra 0 rc, .slice pa ps.length pc] [.int .i64 0, .int .i64 0, .slice none 0 0, .slice none 0 0]
          have x0 := hX.cell (i := 0) rfl
          have x1 := hX.cell (i := 1) rfl
          have x2 := hX.cell (i := 2) rfl
          have x3 := hX.cell (i := 3) rfl
          have y0 := hY.cell (i := 0) rfl
          have y1 := hY.cell (i := 1) rfl
          have y2 := hY.cell (i := 2) rfl
          have y3 := hY.cell (i := 3) rfl
          go_enter Tryz.func75, Tryz.ntmps75
          go_wp2_with fail
          refine (cP _).mono ?_
          rintro e w2 ⟨⟨p, rfl, hp⟩, hb2⟩
          have hB2 := hB.trans (hb2.mono hB.size)
          obtain rfl : p = false := by
            cases p
            · rfl
            · exact absurd (hp.1 rfl) h4
          clear cP hp hX hY hB hb2 x0 x1 x2 x3 y0 y1 y2 y3
          go_wp2
          go_ret
          exact told_no hno hB2 rfl
      · have h4 := len_zero h3
        unfold HdrM.v hdr9
        simp only [List.length_nil]
        have hno : ¬ P := fun h => h3 (hd.1 h).2.2.1
        clear hd
        obtain ⟨hX, hY, hB⟩ := two_new w 30 30 [.int .i64 0, .int .i64 0, .slice ra rs.length rc, .slice pa ps.length pc] [.int .i64 0, .int .i64 0, .slice none 0 0, .slice none 0 0]
        have x0 := hX.cell (i := 0) rfl
        have x1 := hX.cell (i := 1) rfl
        have x2 := hX.cell (i := 2) rfl
        have x3 := hX.cell (i := 3) rfl
        have y0 := hY.cell (i := 0) rfl
        have y1 := hY.cell (i := 1) rfl
        have y2 := hY.cell (i := 2) rfl
        have y3 := hY.cell (i := 3) rfl
        go_enter Tryz.func75, Tryz.ntmps75
        go_wp2
        go_ret
        exact told_no hno hB rfl
    · unfold HdrM.v hdr9
      simp only [List.length_nil]
      have hno : ¬ P := fun h => h2 (hd.1 h).2.1
      clear hd
      obtain ⟨hX, hY, hB⟩ := two_new w 30 30 [.int .i64 0, .int .i64 ro, .slice ra rs.length rc, .slice pa ps.length pc] [.int .i64 0, .int .i64 0, .slice none 0 0, .slice none 0 0]
      have x0 := hX.cell (i := 0) rfl
      have x1 := hX.cell (i := 1) rfl
      have x2 := hX.cell (i := 2) rfl
      have x3 := hX.cell (i := 3) rfl
      have y0 := hY.cell (i := 0) rfl
      have y1 := hY.cell (i := 1) rfl
      have y2 := hY.cell (i := 2) rfl
      have y3 := hY.cell (i := 3) rfl
      go_enter Tryz.func75, Tryz.ntmps75
      go_wp2
      go_ret
      exact told_no hno hB rfl
  · unfold HdrM.v hdr9
    simp only [List.length_nil]
    have hno : ¬ P := fun h => h1 (hd.1 h).1
    clear hd
    obtain ⟨hX, hY, hB⟩ := two_new w 30 30 [.int .i64 au, .int .i64 ro, .slice ra rs.length rc, .slice pa ps.length pc] [.int .i64 0, .int .i64 0, .slice none 0 0, .slice none 0 0]
    have x0 := hX.cell (i := 0) rfl
    have x1 := hX.cell (i := 1) rfl
    have x2 := hX.cell (i := 2) rfl
    have x3 := hX.cell (i := 3) rfl
    have y0 := hY.cell (i := 0) rfl
    have y1 := hY.cell (i := 1) rfl
    have y2 := hY.cell (i := 2) rfl
    have y3 := hY.cell (i := 3) rfl
    go_enter Tryz.func75, Tryz.ntmps75
    go_wp2
    go_ret
    exact told_no hno hB rfl

set_option maxRecDepth 100000 in
set_option maxHeartbeats 2000000 in
theorem sameC_none (x : CertM) (w : World) (hA : x.At w) :
    Calls Tryz.prog 76 #[x.v, cert0.v] w (Told w (x.d = cert0.d)) := by
  obtain ⟨h, va, vs, vc⟩ := x
  have hd : (CertM.d ⟨h, va, vs, vc⟩ = cert0.d) ↔ (h.d = hdr9.d ∧ vs = []) := by
    show (⟨h.d, vs⟩ : CertD) = ⟨hdr9.d, []⟩ ↔ _
    simp only [CertD.mk.injEq]
  generalize (CertM.d ⟨h, va, vs, vc⟩ = cert0.d) = P at hd ⊢
  generalize hQ : (h.d = hdr9.d) = Q at hd
  have cH := fun w1 h1 => sameH_none h w1 h1
  have cV := fun w1 => sameTags_none va vc vs w1
  rw [hQ] at cH
  clear hQ
  have Hd : Hid (P ↔ (Q ∧ vs = [])) := hd
  have hh : HdrM.At w h := hA.hdr
  unfold CertM.v cert0
  unfold HdrM.v hdr9 at cH
  simp only [List.length_nil] at cH ⊢
  clear hd hA
  obtain ⟨hX, hY, hB⟩ := two_new w 33 33 [.int .i64 h.author, .int .i64 h.round, .slice h.ra h.refs.length h.rc, .slice h.pa h.parents.length h.pc, .slice va vs.length vc] [.int .i64 0, .int .i64 0, .slice none 0 0, .slice none 0 0, .slice none 0 0]
  have x0 := hX.cell (i := 0) rfl
  have x1 := hX.cell (i := 1) rfl
  have x2 := hX.cell (i := 2) rfl
  have x3 := hX.cell (i := 3) rfl
  have x4 := hX.cell (i := 4) rfl
  have y0 := hY.cell (i := 0) rfl
  have y1 := hY.cell (i := 1) rfl
  have y2 := hY.cell (i := 2) rfl
  have y3 := hY.cell (i := 3) rfl
  have y4 := hY.cell (i := 4) rfl
  go_enter Tryz.func76, Tryz.ntmps76
  have hh1 := hh.below hB
  go_wp2_with fail
  refine (cH _ hh1).mono ?_
  rintro e w2 ⟨⟨p, rfl, hp⟩, hb2⟩
  have hX2 := hX.below hb2 hX.lt
  have hY2 := hY.below hb2 hY.lt
  have hB2 := hB.trans (hb2.mono hB.size)
  clear cH hh hh1 hX hY hB hb2 x0 x1 x2 x3 x4 y0 y1 y2 y3 y4
  cases p
  case false =>
    have hno : ¬ P := fun h => by have := hp.2 (Hd.out.1 h).1; cases this
    clear Hd hp
    go_wp2
    go_ret
    exact told_no hno hB2 rfl
  have hq : (vs = []) ↔ P := ⟨fun h => Hd.out.2 ⟨hp.1 rfl, h⟩, fun h => (Hd.out.1 h).2⟩
  have x4 := hX2.cell (i := 4) rfl
  have y4 := hY2.cell (i := 4) rfl
  have HQ : Hid ((vs = []) ↔ P) := hq
  clear Hd hp hq
  go_wp2_with fail
  refine (cV _).mono ?_
  rintro e w3 ⟨⟨p, rfl, hp⟩, hb3⟩
  have hB3 := hB2.trans (hb3.mono hB2.size)
  have fin : ∀ e, e = .returned (.bool p) → Told w P e w3 := fun e he => ⟨⟨p, he, hp.trans HQ.out⟩, hB3⟩
  clear cV hp HQ hX2 hY2 hB2 hb3 x4 y4
  go_wp2
  go_ret
  exact fin _ rfl

set_option maxRecDepth 100000 in
set_option maxHeartbeats 2000000 in
theorem sameK_none (x : BlkM) (w : World) :
    Calls Tryz.prog 77 #[x.v, blk0.v] w (Told w (x.d = blk0.d)) := by
  obtain ⟨v, q, ca, l, cc⟩ := x
  have hd : (BlkM.d ⟨v, q, ca, l, cc⟩ = blk0.d) ↔ (v = 0 ∧ q.d = qc0.d ∧ l = []) := by
    show (⟨v, q.d, l⟩ : BlkD) = ⟨0, qc0.d, []⟩ ↔ _
    simp only [BlkD.mk.injEq]
  generalize (BlkM.d ⟨v, q, ca, l, cc⟩ = blk0.d) = P at hd ⊢
  generalize hQ : (q.d = qc0.d) = Q at hd
  have cQ := fun w1 => sameQ_none q w1
  have cS := fun w1 => sameS_none ca cc l w1
  rw [hQ] at cQ
  clear hQ
  unfold BlkM.v blk0 qc0
  unfold QcM.v qc0 at cQ
  simp only [List.length_nil] at cQ ⊢
  by_cases h1 : v = 0
  · subst h1
    have Hd : Hid (P ↔ (Q ∧ l = [])) := ⟨fun h => (hd.1 h).2, fun h => hd.2 ⟨rfl, h⟩⟩
    clear hd
    obtain ⟨hX, hY, hB⟩ := two_new w 37 37 [.int .i64 0, .int .i64 q.view, .string q.block, .slice q.va q.votes.length q.vc, .slice ca l.length cc] [.int .i64 0, .int .i64 0, .string ⟨#[]⟩, .slice none 0 0, .slice none 0 0]
    have x0 := hX.cell (i := 0) rfl
    have x1 := hX.cell (i := 1) rfl
    have x2 := hX.cell (i := 2) rfl
    have x3 := hX.cell (i := 3) rfl
    have x4 := hX.cell (i := 4) rfl
    have y0 := hY.cell (i := 0) rfl
    have y1 := hY.cell (i := 1) rfl
    have y2 := hY.cell (i := 2) rfl
    have y3 := hY.cell (i := 3) rfl
    have y4 := hY.cell (i := 4) rfl
    go_enter Tryz.func77, Tryz.ntmps77
    go_wp2_with fail
    refine (cQ _).mono ?_
    rintro e w2 ⟨⟨p, rfl, hp⟩, hb2⟩
    have hX2 := hX.below hb2 hX.lt
    have hY2 := hY.below hb2 hY.lt
    have hB2 := hB.trans (hb2.mono hB.size)
    clear cQ hX hY hB hb2 x0 x1 x2 x3 x4 y0 y1 y2 y3 y4
    cases p
    case false =>
      have hno : ¬ P := fun h => by have := hp.2 (Hd.out.1 h).1; cases this
      clear Hd hp
      go_wp2
      go_ret
      exact told_no hno hB2 rfl
    have HQ : Hid ((l = []) ↔ P) := ⟨fun h => Hd.out.2 ⟨hp.1 rfl, h⟩, fun h => (Hd.out.1 h).2⟩
    have x4 := hX2.cell (i := 4) rfl
    have y4 := hY2.cell (i := 4) rfl
    clear Hd hp
    go_wp2_with fail
    refine (cS _).mono ?_
    rintro e w3 ⟨⟨p, rfl, hp⟩, hb3⟩
    have hB3 := hB2.trans (hb3.mono hB2.size)
    have fin : ∀ e, e = .returned (.bool p) → Told w P e w3 := fun e he => ⟨⟨p, he, hp.trans HQ.out⟩, hB3⟩
    clear cS hp HQ hX2 hY2 hB2 hb3 x4 y4
    go_wp2
    go_ret
    exact fin _ rfl
  · have hno : ¬ P := fun h => h1 (hd.1 h).1
    clear hd
    obtain ⟨hX, hY, hB⟩ := two_new w 37 37 [.int .i64 v, .int .i64 q.view, .string q.block, .slice q.va q.votes.length q.vc, .slice ca l.length cc] [.int .i64 0, .int .i64 0, .string ⟨#[]⟩, .slice none 0 0, .slice none 0 0]
    have x0 := hX.cell (i := 0) rfl
    have x1 := hX.cell (i := 1) rfl
    have x2 := hX.cell (i := 2) rfl
    have x3 := hX.cell (i := 3) rfl
    have x4 := hX.cell (i := 4) rfl
    have y0 := hY.cell (i := 0) rfl
    have y1 := hY.cell (i := 1) rfl
    have y2 := hY.cell (i := 2) rfl
    have y3 := hY.cell (i := 3) rfl
    have y4 := hY.cell (i := 4) rfl
    go_enter Tryz.func77, Tryz.ntmps77
    go_wp2
    go_ret
    exact told_no hno hB rfl
end Go.Proofs.YtaoiejgbbmjpkaaGreatDoor

/- What tuskref09.fields and tuskref09.has do; nothing in memory is turned. -/
namespace Go.Proofs.YtaoiejgbbmjpkaaGreatDoor
open Go.RowKit
set_option linter.unusedVariables false

/-- The fields of a kind, as a text. -/
def fieldsS (k : Int) : ByteArray := ⟨⟨fieldsK k⟩⟩

set_option maxRecDepth 100000 in
set_option maxHeartbeats 4000000 in
theorem refFields_any (k : Int) (w : World) :
    Calls Tryz.prog 43 #[.int .i64 k] w fun e w' => e = .returned (.string (fieldsS k)) ∧ Below w.heap.size w w' := by
  by_cases h : k < 1 ∨ 11 < k
  · have e0 : fieldsS k = ⟨#[]⟩ := by unfold fieldsS; rw [fieldsK_none h]
    rw [e0]
    go_enter Tryz.func43, Tryz.ntmps43
    by_cases h1 : k < 1
    · go_wp2
      go_ret
      exact ⟨rfl, Below.refl _ _⟩
    · have h2 : 11 < k := by omega
      go_wp2
      go_ret
      exact ⟨rfl, Below.refl _ _⟩
  · have hk : k = 1 ∨ k = 2 ∨ k = 3 ∨ k = 4 ∨ k = 5 ∨ k = 6 ∨ k = 7 ∨ k = 8 ∨ k = 9 ∨ k = 10 ∨ k = 11 := by omega
    clear h
    rcases hk with rfl | rfl | rfl | rfl | rfl | rfl | rfl | rfl | rfl | rfl | rfl
    all_goals
      go_enter Tryz.func43, Tryz.ntmps43
      go_wp2
      go_ret
      exact ⟨rfl, belowNew _ _⟩

set_option maxRecDepth 100000 in
set_option maxHeartbeats 1000000 in
theorem refHas_any (s : ByteArray) (c : UInt8) (w : World) (hn : s.size ≤ 4611686018427387903) :
    Calls Tryz.prog 46 #[.string s, .int .u8 (c.toNat : Int)] w fun e w' => e = .returned (.bool (decide (c ∈ s.data.toList))) ∧ w' = w := by
  obtain ⟨out, hout⟩ : ∃ q, Hid (q = decide (c ∈ s.data.toList)) := ⟨_, rfl⟩
  rw [← hout.out]
  have hsz : s.data.toList.length = s.size := rfl
  go_enter Tryz.func46, Tryz.ntmps46
  go_wp2
  go_loopw [5] (fun v5 wr => ∃ k : Nat, k ≤ s.size ∧ v5 = .int .i64 (k : Int) ∧ Hid (c ∉ s.data.toList.take k) ∧ wr = w) (fun v _ => s.size - (intOf v).toNat)
  case atStart => exact ⟨0, Nat.zero_le _, rfl, (fun h => by cases h), rfl⟩
  case round =>
    obtain ⟨k, hk, rfl, hno, rfl⟩ := hrel
    by_cases hlt : k < s.size
    · have hel : s.data.toList[k]'(by rw [hsz]; exact hlt) = s[k] := by rw [Array.getElem_toList]; rfl
      cases he : ((s[k].toNat : Int) == (c.toNat : Int)) with
      | true =>
        have hc : s[k] = c := by
          have h1 : (s[k].toNat : Int) = (c.toNat : Int) := by simpa using he
          exact UInt8.toNat_inj.1 (by omega)
        have hf : Hid (out = true) := by
          show _ = _
          rw [hout.out, ← hc, ← hel]
          simp only [decide_eq_true_eq]
          exact List.getElem_mem _
        clear hno hel hc
        go_wp2
        go_ret
        exact ⟨by rw [hf.out]; rfl, rfl⟩
      | false =>
        have hno2 : Hid (c ∉ s.data.toList.take (k + 1)) := by
          show ¬ _
          rw [List.take_succ_eq_append_getElem (by rw [hsz]; exact hlt), hel, List.mem_append, List.mem_singleton]
          rintro (h | h)
          · exact hno.out h
          · rw [← h] at he
            simp at he
        clear hno hel
        go_wp2
        go_roundw
        case rel => exact ⟨k + 1, by omega, by go_num, hno2, trivial⟩
        case measure => simp [intOf]; omega
    · have hf : Hid (out = false) := by
        show _ = _
        have hno' := hno.out
        rw [List.take_of_length_le (by omega)] at hno'
        rw [hout.out]
        simp [hno']
      clear hno
      go_wp2
      go_ret
      exact ⟨by rw [hf.out]; rfl, rfl⟩
end Go.Proofs.YtaoiejgbbmjpkaaGreatDoor

/- What package msg's letters, isNumber, isValidator, isDigest, isPlainTag, arePlainTags, areSized, isPlainQc, isZeroHeader, isZeroQc say; nothing old in memory is turned. -/
namespace Go.Proofs.YtaoiejgbbmjpkaaGreatDoor
open Go.RowKit
set_option linter.unusedVariables false

set_option maxRecDepth 100000 in
set_option maxHeartbeats 4000000 in
theorem letters_any (k : Int) (w : World) :
    Calls Tryz.prog 13 #[.int .i64 k] w fun e w' => e = .returned (.string (fieldsS k)) ∧ w' = w := by
  by_cases h : k < 1 ∨ 11 < k
  · have e0 : fieldsS k = ⟨#[]⟩ := by unfold fieldsS; rw [fieldsK_none h]
    rw [e0]
    have n1 : (k == 1) = false := by rw [beq_eq_false_iff_ne]; omega
    have n2 : (k == 2) = false := by rw [beq_eq_false_iff_ne]; omega
    have n3 : (k == 3) = false := by rw [beq_eq_false_iff_ne]; omega
    have n4 : (k == 4) = false := by rw [beq_eq_false_iff_ne]; omega
    have n5 : (k == 5) = false := by rw [beq_eq_false_iff_ne]; omega
    have n6 : (k == 6) = false := by rw [beq_eq_false_iff_ne]; omega
    have n7 : (k == 7) = false := by rw [beq_eq_false_iff_ne]; omega
    have n8 : (k == 8) = false := by rw [beq_eq_false_iff_ne]; omega
    have n9 : (k == 9) = false := by rw [beq_eq_false_iff_ne]; omega
    have n10 : (k == 10) = false := by rw [beq_eq_false_iff_ne]; omega
    have n11 : (k == 11) = false := by rw [beq_eq_false_iff_ne]; omega
    clear h e0
    go_enter Tryz.func13, Tryz.ntmps13
    go_wp2
    go_ret
    exact ⟨rfl, rfl⟩
  · have hk : k = 1 ∨ k = 2 ∨ k = 3 ∨ k = 4 ∨ k = 5 ∨ k = 6 ∨ k = 7 ∨ k = 8 ∨ k = 9 ∨ k = 10 ∨ k = 11 := by omega
    clear h
    rcases hk with rfl | rfl | rfl | rfl | rfl | rfl | rfl | rfl | rfl | rfl | rfl
    all_goals
      go_enter Tryz.func13, Tryz.ntmps13
      go_wp2
      go_ret
      exact ⟨rfl, rfl⟩

set_option maxRecDepth 100000 in
set_option maxHeartbeats 1000000 in
theorem isNumber_any (n : Int) (w : World) : Calls Tryz.prog 105 #[.int .i64 n] w (Told w (numOk n)) := by
  obtain ⟨P, hd⟩ : ∃ P : Prop, Hid (P ↔ numOk n) := ⟨_, Iff.rfl⟩
  refine Calls.mono ?_ (fun e w' (h : Told w P e w') => h.iff hd.out)
  go_enter Tryz.func105, Tryz.ntmps105
  by_cases h1 : 0 ≤ n
  · by_cases h2 : n ≤ 4611686018427387903
    · have hy : P := hd.out.2 ⟨h1, h2⟩
      clear hd
      go_wp2
      go_ret
      exact told_yes hy (Below.refl _ _) rfl
    · have hno : Hid (¬ P) := fun h => h2 (hd.out.1 h).2
      clear hd
      go_wp2
      go_ret
      exact told_no hno.out (Below.refl _ _) rfl
  · have hno : Hid (¬ P) := fun h => h1 (hd.out.1 h).1
    clear hd
    go_wp2
    go_ret
    exact told_no hno.out (Below.refl _ _) rfl

set_option maxRecDepth 100000 in
set_option maxHeartbeats 1000000 in
theorem isValidator_any (n : Int) (w : World) : Calls Tryz.prog 138 #[.int .i64 n] w (Told w (0 ≤ n ∧ n ≤ 6)) := by
  obtain ⟨P, hd⟩ : ∃ P : Prop, Hid (P ↔ (0 ≤ n ∧ n ≤ 6)) := ⟨_, Iff.rfl⟩
  refine Calls.mono ?_ (fun e w' (h : Told w P e w') => h.iff hd.out)
  go_enter Tryz.func138, Tryz.ntmps138
  by_cases h1 : 0 ≤ n
  · by_cases h2 : n ≤ 6
    · have hy : P := hd.out.2 ⟨h1, h2⟩
      clear hd
      go_wp2
      go_ret
      exact told_yes hy (Below.refl _ _) rfl
    · have hno : Hid (¬ P) := fun h => h2 (hd.out.1 h).2
      clear hd
      go_wp2
      go_ret
      exact told_no hno.out (Below.refl _ _) rfl
  · have hno : Hid (¬ P) := fun h => h1 (hd.out.1 h).1
    clear hd
    go_wp2
    go_ret
    exact told_no hno.out (Below.refl _ _) rfl

set_option maxRecDepth 100000 in
set_option maxHeartbeats 1000000 in
theorem isDigest_any (s : ByteArray) (w : World) : Calls Tryz.prog 104 #[.string s] w (Told w (s.size = 32)) := by
  obtain ⟨P, hd⟩ : ∃ P : Prop, Hid (P ↔ s.size = 32) := ⟨_, Iff.rfl⟩
  refine Calls.mono ?_ (fun e w' (h : Told w P e w') => h.iff hd.out)
  go_enter Tryz.func104, Tryz.ntmps104
  by_cases h1 : s.size = 32
  · have hy : P := hd.out.2 h1
    have h2 : ((s.size : Int) == 32) = true := by rw [beq_iff_eq]; omega
    clear hd h1
    go_wp2
    go_ret
    exact told_yes hy (Below.refl _ _) rfl
  · have hno : Hid (¬ P) := fun h => h1 (hd.out.1 h)
    have h2 : ((s.size : Int) == 32) = false := by rw [beq_eq_false_iff_ne]; omega
    clear hd h1
    go_wp2
    go_ret
    exact told_no hno.out (Below.refl _ _) rfl

set_option maxRecDepth 100000 in
set_option maxHeartbeats 1000000 in
theorem isPlainTag_any (t : TagD) (w : World) : Calls Tryz.prog 106 #[.agg #[.int .i64 t.who, .string t.mac]] w (Told w (tagOk t)) := by
  obtain ⟨P, hd⟩ : ∃ P : Prop, Hid (P ↔ tagOk t) := ⟨_, Iff.rfl⟩
  refine Calls.mono ?_ (fun e w' (h : Told w P e w') => h.iff hd.out)
  have hX := Arr.new w 23 [.int .i64 t.who, .string t.mac]
  have hB := belowNew w (.cells #[.int .i64 t.who, .string t.mac] 23)
  have x0 := hX.cell (i := 0) rfl
  have cV := isValidator_any t.who
  obtain ⟨w1, hw1⟩ : ∃ q', w.alloc (.cells #[.int .i64 t.who, .string t.mac] 23) = q' := ⟨_, rfl⟩
  replace hX : Arr w1 w.heap.size 23 [.int .i64 t.who, .string t.mac] := by rw [← hw1]; exact hX
  replace x0 := hX.cell (i := 0) rfl
  rw [hw1] at hB
  go_enter Tryz.func106, Tryz.ntmps106
  go_wp2_with fail
  refine (cV _).mono ?_
  rintro e w2 ⟨⟨p, rfl, hp⟩, hb2⟩
  have hX2 := hX.below hb2 hX.lt
  have hB2 := hB.trans (hb2.mono hB.size)
  clear hX hB hb2 x0 cV hw1
  have x1 := hX2.cell (i := 1) rfl
  cases p
  case false =>
    have hno : Hid (¬ P) := fun h => by have := hp.2 ⟨(hd.out.1 h).1, (hd.out.1 h).2.1⟩; cases this
    clear hd hp
    go_wp2
    go_ret
    exact told_no hno.out hB2 rfl
  by_cases h3 : t.mac.size = 16
  · have h3' : ((t.mac.size : Int) == 16) = true := by rw [beq_iff_eq]; omega
    have hy : P := hd.out.2 ⟨(hp.1 rfl).1, (hp.1 rfl).2, h3⟩
    clear h3 hd hp
    go_wp2
    go_ret
    exact told_yes hy hB2 rfl
  · have h3' : ((t.mac.size : Int) == 16) = false := by rw [beq_eq_false_iff_ne]; omega
    have hno : Hid (¬ P) := fun h => h3 (hd.out.1 h).2.2
    clear h3 hd hp
    go_wp2
    go_ret
    exact told_no hno.out hB2 rfl

set_option maxRecDepth 100000 in
set_option maxHeartbeats 1000000 in
theorem isZeroHeader_any (x : HdrM) (w : World) : Calls Tryz.prog 65 #[x.v] w (Told w x.d.Nil) := by
  obtain ⟨P, hd⟩ : ∃ P : Prop, Hid (P ↔ x.d.Nil) := ⟨_, Iff.rfl⟩
  refine Calls.mono ?_ (fun e w' (h : Told w P e w') => h.iff hd.out)
  obtain ⟨au, ro, ra, rs, rc, pa, ps, pc⟩ := x
  replace hd : Hid (P ↔ (au = 0 ∧ ro = 0 ∧ rs.length = 0 ∧ ps.length = 0)) := hd.out.trans (by
    show (au = 0 ∧ ro = 0 ∧ (rd rs).length = 0 ∧ ps.length = 0) ↔ _
    rw [rd_length])
  have hX := Arr.new w 30 [.int .i64 au, .int .i64 ro, .slice ra rs.length rc, .slice pa ps.length pc]
  have hB := belowNew w (.cells #[.int .i64 au, .int .i64 ro, .slice ra rs.length rc, .slice pa ps.length pc] 30)
  unfold HdrM.v
  simp only
  have x0 := hX.cell (i := 0) rfl
  have x1 := hX.cell (i := 1) rfl
  have x2 := hX.cell (i := 2) rfl
  have x3 := hX.cell (i := 3) rfl
  go_enter Tryz.func65, Tryz.ntmps65
  cases h1 : (au == 0)
  case false =>
    have hno : Hid (¬ P) := fun h => by rw [beq_eq_false_iff_ne] at h1; exact h1 (hd.out.1 h).1
    clear hd
    go_wp2
    go_ret
    exact told_no hno.out hB rfl
  cases h2 : (ro == 0)
  case false =>
    have hno : Hid (¬ P) := fun h => by rw [beq_eq_false_iff_ne] at h2; exact h2 (hd.out.1 h).2.1
    clear hd
    go_wp2
    go_ret
    exact told_no hno.out hB rfl
  cases h3 : ((rs.length : Int) == 0)
  case false =>
    have hno : Hid (¬ P) := fun h => by rw [beq_eq_false_iff_ne] at h3; exact h3 (by have := (hd.out.1 h).2.2.1; omega)
    clear hd
    go_wp2
    go_ret
    exact told_no hno.out hB rfl
  cases h4 : ((ps.length : Int) == 0)
  case false =>
    have hno : Hid (¬ P) := fun h => by rw [beq_eq_false_iff_ne] at h4; exact h4 (by have := (hd.out.1 h).2.2.2; omega)
    clear hd
    go_wp2
    go_ret
    exact told_no hno.out hB rfl
  have hy : P := hd.out.2 ⟨by simpa using h1, by simpa using h2, by rw [beq_iff_eq] at h3; omega, by rw [beq_iff_eq] at h4; omega⟩
  clear hd
  go_wp2
  go_ret
  exact told_yes hy hB rfl

set_option maxRecDepth 100000 in
set_option maxHeartbeats 1000000 in
theorem isZeroQc_any (x : QcM) (w : World) : Calls Tryz.prog 66 #[x.v] w (Told w x.d.Nil) := by
  obtain ⟨P, hd⟩ : ∃ P : Prop, Hid (P ↔ x.d.Nil) := ⟨_, Iff.rfl⟩
  refine Calls.mono ?_ (fun e w' (h : Told w P e w') => h.iff hd.out)
  obtain ⟨vi, bk, va, vs, vc⟩ := x
  replace hd : Hid (P ↔ (vi = 0 ∧ bk.size = 0 ∧ vs.length = 0)) := hd
  have hX := Arr.new w 35 [.int .i64 vi, .string bk, .slice va vs.length vc]
  have hB := belowNew w (.cells #[.int .i64 vi, .string bk, .slice va vs.length vc] 35)
  unfold QcM.v
  simp only
  have x0 := hX.cell (i := 0) rfl
  have x1 := hX.cell (i := 1) rfl
  have x2 := hX.cell (i := 2) rfl
  go_enter Tryz.func66, Tryz.ntmps66
  cases h1 : (vi == 0)
  case false =>
    have hno : Hid (¬ P) := fun h => by rw [beq_eq_false_iff_ne] at h1; exact h1 (hd.out.1 h).1
    clear hd
    go_wp2
    go_ret
    exact told_no hno.out hB rfl
  by_cases h2 : bk.toList = []
  case neg =>
    have hno : Hid (¬ P) := fun h => h2 (by rw [bytes_nil (hd.out.1 h).2.1, ByteArray.toList_eq])
    clear hd
    go_wp2
    go_ret
    exact told_no hno.out hB rfl
  cases h3 : ((vs.length : Int) == 0)
  case false =>
    have hno : Hid (¬ P) := fun h => by rw [beq_eq_false_iff_ne] at h3; exact h3 (by have := (hd.out.1 h).2.2; omega)
    clear hd
    go_wp2
    go_ret
    exact told_no hno.out hB rfl
  have hy : P := hd.out.2 ⟨by simpa using h1, by rw [ByteArray.toList_eq] at h2; have := congrArg List.length h2; simpa using this, by rw [beq_iff_eq] at h3; omega⟩
  clear hd
  go_wp2
  go_ret
  exact told_yes hy hB rfl
end Go.Proofs.YtaoiejgbbmjpkaaGreatDoor

/- What tuskref09.number, tag, tags, digests and qc say; nothing old in memory is turned. -/
namespace Go.Proofs.YtaoiejgbbmjpkaaGreatDoor
open Go.RowKit
set_option linter.unusedVariables false

set_option maxRecDepth 100000 in
set_option maxHeartbeats 1000000 in
theorem refNumber_any (n : Int) (w : World) : Calls Tryz.prog 48 #[.int .i64 n] w (Told w (numOk n)) := by
  obtain ⟨P, hd⟩ : ∃ P : Prop, Hid (P ↔ numOk n) := ⟨_, Iff.rfl⟩
  refine Calls.mono ?_ (fun e w' (h : Told w P e w') => h.iff hd.out)
  go_enter Tryz.func48, Tryz.ntmps48
  by_cases h1 : 0 ≤ n
  · by_cases h2 : n ≤ 4611686018427387903
    · have hy : P := hd.out.2 ⟨h1, h2⟩
      clear hd
      go_wp2
      go_ret
      exact told_yes hy (Below.refl _ _) rfl
    · have hno : Hid (¬ P) := fun h => h2 (hd.out.1 h).2
      clear hd
      go_wp2
      go_ret
      exact told_no hno.out (Below.refl _ _) rfl
  · have hno : Hid (¬ P) := fun h => h1 (hd.out.1 h).1
    clear hd
    go_wp2
    go_ret
    exact told_no hno.out (Below.refl _ _) rfl

set_option maxRecDepth 100000 in
set_option maxHeartbeats 1000000 in
theorem refTag_any (t : TagD) (w : World) : Calls Tryz.prog 49 #[.agg #[.int .i64 t.who, .string t.mac]] w (Told w (tagOk t)) := by
  have hX := Arr.new w 23 [.int .i64 t.who, .string t.mac]
  have hB := belowNew w (.cells #[.int .i64 t.who, .string t.mac] 23)
  have x0 := hX.cell (i := 0) rfl
  have x1 := hX.cell (i := 1) rfl
  go_enter Tryz.func49, Tryz.ntmps49
  by_cases h1 : 0 ≤ t.who
  · by_cases h2 : t.who ≤ 6
    · by_cases h3 : t.mac.size = 16
      · have h3' : (t.mac.size : Int) = 16 := by omega
        have hy : Hid (tagOk t) := ⟨h1, h2, h3⟩
        clear h3
        go_wp2
        go_ret
        exact told_yes hy.out hB rfl
      · have h3' : ((t.mac.size : Int) == 16) = false := by rw [beq_eq_false_iff_ne]; omega
        have hno : Hid (¬ tagOk t) := fun h => h3 h.2.2
        clear h3
        go_wp2
        go_ret
        exact told_no hno.out hB rfl
    · have hno : Hid (¬ tagOk t) := fun h => h2 h.2.1
      go_wp2
      go_ret
      exact told_no hno.out hB rfl
  · have hno : Hid (¬ tagOk t) := fun h => h1 h.1
    go_wp2
    go_ret
    exact told_no hno.out hB rfl

set_option maxRecDepth 100000 in
set_option maxHeartbeats 2000000 in
theorem refTags9_any (ao : Option Addr) (cap : Nat) (l : List TagD) (w : World) (hA : RowAt tagK w ao l) (hn : l.length ≤ 4611686018427387903) :
    Calls Tryz.prog 51 #[.slice ao l.length cap] w (Told w (tagsOk l)) := by
  have cT := refTag_any
  go_enter Tryz.func51, Tryz.ntmps51
  go_wp2
  go_loopw [3] (fun v3 wr => ∃ k : Nat, k ≤ l.length ∧ v3 = .int .i64 (k : Int) ∧ Hid (∀ t ∈ l.take k, tagOk t) ∧ Below w.heap.size w wr) (fun v _ => l.length - (intOf v).toNat)
  case atStart => exact ⟨0, Nat.zero_le _, rfl, (fun t ht => by simp at ht), Below.refl _ _⟩
  case round =>
    obtain ⟨k, hk, rfl, HF, hb⟩ := hrel
    by_cases hlt : k < l.length
    · obtain ⟨t, ht⟩ : ∃ t, l[k]? = some t := ⟨l[k], List.getElem?_eq_getElem hlt⟩
      obtain ⟨b, off, rfl, hbl, y0, y1⟩ := (hA.below hb).tag ht
      have hmem : t ∈ l := List.mem_of_getElem? ht
      have HN : Hid (tagOk t → ∀ t ∈ l.take (k + 1), tagOk t) := by
        intro hf y hy
        have he := (List.getElem?_eq_some_iff.1 ht).2
        rw [List.take_succ_eq_append_getElem hlt, List.mem_append, List.mem_singleton, he] at hy
        rcases hy with hy | rfl
        · exact HF.out y hy
        · exact hf
      have HB : Hid (¬ tagOk t → ¬ tagsOk l) := fun hb h => hb (h.1 t hmem)
      clear HF ht hmem
      go_wp2_with fail
      refine (cT t _).mono ?_
      rintro e w2 ⟨⟨p, rfl, hp⟩, hb2⟩
      have hB2 := hb.trans (hb2.mono hb.size)
      clear y0 y1 hb hb2
      cases p
      case false =>
        have hno : Hid (¬ tagsOk l) := HB.out (fun h => by have := hp.2 h; cases this)
        clear HB HN hp
        go_wp2
        go_ret
        exact told_no hno.out hB2 rfl
      have HF2 : Hid (∀ t ∈ l.take (k + 1), tagOk t) := HN.out (hp.1 rfl)
      clear HB HN hp
      go_wp2
      go_roundw
      case rel => exact ⟨k + 1, by omega, by go_num, HF2, hB2⟩
      case measure => simp [intOf]; omega
    · have HA : Hid (∀ t ∈ l, tagOk t) := by
        have := HF.out
        rw [List.take_of_length_le (by omega)] at this
        exact this
      clear HF
      go_wp2
      go_ret
      refine ⟨⟨_, rfl, ?_⟩, hb⟩
      simp only [decide_eq_true_eq]
      exact ⟨fun h => ⟨HA.out, by omega⟩, fun h => by have := h.2; omega⟩

set_option maxRecDepth 100000 in
set_option maxHeartbeats 2000000 in
theorem refDigests_any (ao : Option Addr) (cap : Nat) (l : List ByteArray) (m n : Nat) (w : World) (hA : RowAt strK w ao l) (hn : l.length ≤ 4611686018427387903) :
    Calls Tryz.prog 53 #[.slice ao l.length cap, .int .i64 (m : Int), .int .i64 (n : Int)] w (Told w ((∀ p ∈ l, p.size = n) ∧ l.length ≤ m)) := by
  go_enter Tryz.func53, Tryz.ntmps53
  go_wp2
  go_loopw [7] (fun v3 wr => ∃ k : Nat, k ≤ l.length ∧ v3 = .int .i64 (k : Int) ∧ Hid (∀ t ∈ l.take k, t.size = n) ∧ wr = w) (fun v _ => l.length - (intOf v).toNat)
  case atStart => exact ⟨0, Nat.zero_le _, rfl, (fun t ht => by simp at ht), rfl⟩
  case round =>
    obtain ⟨k, hk, rfl, HF, rfl⟩ := hrel
    by_cases hlt : k < l.length
    · obtain ⟨t, ht⟩ : ∃ t, l[k]? = some t := ⟨l[k], List.getElem?_eq_getElem hlt⟩
      obtain ⟨b, off, rfl, hbl, hc⟩ := hA.cell k t ht
      have c0 := hc 0 (.string t) rfl
      have e0 : off + k * strK.n + 0 = off + k := by show off + k * 1 + 0 = _; omega
      rw [e0] at c0
      have hmem : t ∈ l := List.mem_of_getElem? ht
      have HN : Hid (t.size = n → ∀ t ∈ l.take (k + 1), t.size = n) := by
        intro hf y hy
        have he := (List.getElem?_eq_some_iff.1 ht).2
        rw [List.take_succ_eq_append_getElem hlt, List.mem_append, List.mem_singleton, he] at hy
        rcases hy with hy | rfl
        · exact HF.out y hy
        · exact hf
      have HB : Hid (t.size ≠ n → ¬ ((∀ p ∈ l, p.size = n) ∧ l.length ≤ m)) := fun hb h => hb (h.1 t hmem)
      clear HF ht hmem hc e0
      by_cases h3 : t.size = n
      · have HF2 : Hid (∀ t ∈ l.take (k + 1), t.size = n) := HN.out h3
        have h3' : ((t.size : Int) != (n : Int)) = false := by rw [bne_eq_false_iff_eq]; omega
        clear HB HN h3
        go_wp2
        go_roundw
        case rel => exact ⟨k + 1, by omega, by go_num, HF2, trivial⟩
        case measure => simp [intOf]; omega
      · have hno : Hid _ := HB.out h3
        have h3' : ((t.size : Int) != (n : Int)) = true := by rw [bne_iff_ne]; omega
        clear HB HN h3
        go_wp2
        go_ret
        exact told_no hno.out (Below.refl _ _) rfl
    · have HA : Hid (∀ t ∈ l, t.size = n) := by
        have := HF.out
        rw [List.take_of_length_le (by omega)] at this
        exact this
      clear HF
      go_wp2
      go_ret
      refine ⟨⟨_, rfl, ?_⟩, Below.refl _ _⟩
      simp only [decide_eq_true_eq]
      exact ⟨fun h => ⟨HA.out, by omega⟩, fun h => by have := h.2; omega⟩

set_option maxRecDepth 100000 in
set_option maxHeartbeats 2000000 in
theorem refQc9_any (x : QcM) (w : World) (hA : x.At w) (hn : x.votes.length ≤ 4611686018427387903) :
    Calls Tryz.prog 52 #[x.v] w (Told w x.d.Plain) := by
  obtain ⟨v, b, va, l, c⟩ := x
  obtain ⟨P, hd⟩ : ∃ P : Prop, Hid (P ↔ (numOk v ∧ b.size = 32 ∧ tagsOk l)) := ⟨_, Iff.rfl⟩
  refine Calls.mono ?_ (fun e w' (h : Told w P e w') => h.iff hd.out)
  have cN := refNumber_any v
  have cT := fun w1 h1 => refTags9_any va c l w1 h1 hn
  have hX := Arr.new w 35 [.int .i64 v, .string b, .slice va l.length c]
  have hB := belowNew w (.cells #[.int .i64 v, .string b, .slice va l.length c] 35)
  have hR : RowAt tagK _ va l := (hA.below hB).votes
  have x0 := hX.cell (i := 0) rfl
  unfold QcM.v
  simp only
  clear hA
  go_enter Tryz.func52, Tryz.ntmps52
  go_wp2_with fail
  refine (cN _).mono ?_
  rintro e w2 ⟨⟨p, rfl, hp⟩, hb2⟩
  have hX2 := hX.below hb2 hX.lt
  have hR2 := hR.below hb2
  have hB2 := hB.trans (hb2.mono hB.size)
  clear hX hR hB hb2 x0 cN
  cases p
  case false =>
    have hno : ¬ P := fun h => by have := hp.2 (hd.out.1 h).1; cases this
    clear hd hp
    go_wp2
    go_ret
    exact told_no hno hB2 rfl
  replace hd : Hid (P ↔ (b.size = 32 ∧ tagsOk l)) := ⟨fun h => (hd.out.1 h).2, fun h => hd.out.2 ⟨hp.1 rfl, h⟩⟩
  clear hp
  have x1 := hX2.cell (i := 1) rfl
  have x2 := hX2.cell (i := 2) rfl
  by_cases h1 : b.size = 32
  · have h1' : (b.size : Int) = 32 := by omega
    replace hd : Hid (P ↔ tagsOk l) := ⟨fun h => (hd.out.1 h).2, fun h => hd.out.2 ⟨h1, h⟩⟩
    clear h1
    go_wp2_with fail
    refine (cT _ hR2).mono ?_
    rintro e w3 ⟨⟨p, rfl, hp⟩, hb3⟩
    have hB3 := hB2.trans (hb3.mono hB2.size)
    have fin : ∀ e, e = .returned (.bool p) → Told w P e w3 := fun e he => ⟨⟨p, he, hp.trans hd.out.symm⟩, hB3⟩
    clear cT hp hd hX2 hR2 hB2 hb3 x1 x2
    go_wp2
    go_ret
    exact fin _ rfl
  · have h1' : ¬ (b.size : Int) = 32 := by omega
    have hno : ¬ P := fun h => h1 (hd.out.1 h).1
    clear hd h1
    go_wp2
    go_ret
    exact told_no hno hB2 rfl
end Go.Proofs.YtaoiejgbbmjpkaaGreatDoor
