/- Texts as one: MsgNone, MsgRef, MsgSmall, MsgRefOk, MsgRefHead, MsgLists. -/
import Derived.Test.YtaoiejgbbmjpkaaGreatDoorCk12
import Derived.Test.YtaoiejgbbmjpkaaGreatDoorCk04
import Derived.Test.YtaoiejgbbmjpkaaGreatDoorCk08
import Derived.Deep.RegionHeld3
/- What the reference's Same functions say of something beside nothing: is it nothing? Nothing old in memory is turned. -/
namespace Go.Proofs.YtaoiejgbbmjpkaaGreatDoor
open Go.RowKit
set_option linter.unusedVariables false

theorem len_zero {α : Type} {l : List α} (h : l ≠ []) : ¬ (l.length : Int) = 0 := fun e => h (List.length_eq_zero_iff.1 (by omega))

theorem dl_nil {l : List TxM} (h : dl l = []) : l = [] := List.length_eq_zero_iff.1 (by rw [← dl_length, h]; rfl)
theorem rd_nil {l : List RefM} (h : rd l = []) : l = [] := List.length_eq_zero_iff.1 (by rw [← rd_length, h]; rfl)

/-- Yes or no as P says, and nothing old is turned. -/
def Told (W : World) (P : Prop) (e : Ending) (w : World) : Prop := GotBool P e ∧ Below W.heap.size W w

theorem told_no {W w : World} {P : Prop} (h : ¬ P) (hb : Below W.heap.size W w) {e : Ending} (he : e = .returned (.bool false)) : Told W P e w := ⟨gotB_no h he, hb⟩
theorem told_yes {W w : World} {P : Prop} (h : P) (hb : Below W.heap.size W w) {e : Ending} (he : e = .returned (.bool true)) : Told W P e w := ⟨gotB_yes h he, hb⟩

theorem Told.iff {W w : World} {P Q : Prop} {e : Ending} (h : Told W P e w) (hq : P ↔ Q) : Told W Q e w := by
  obtain ⟨⟨p, he, hp⟩, hb⟩ := h
  exact ⟨⟨p, he, hp.trans hq⟩, hb⟩

set_option maxRecDepth 100000 in
set_option maxHeartbeats 1000000 in
theorem sameS_none (ao : Option Addr) (c : Nat) (l : List ByteArray) (w : World) :
    Calls Tryz.prog 116 #[.slice ao l.length c, .slice none 0 0] w (Told w (l = [])) := by
  by_cases h : l = []
  · subst h
    exact (same_any ao none c 0 [] w (nil_row (K := strK) w ao).strs (nil_row (K := strK) w none).strs (by decide)).mono (fun e w' h => told_yes rfl h.2 h.1)
  · have h1 := len_zero h
    go_enter Tryz.func116, Tryz.ntmps116
    go_wp2
    go_ret
    exact told_no h (Below.refl _ _) rfl

set_option maxRecDepth 100000 in
set_option maxHeartbeats 1000000 in
theorem sameTags_none (ao : Option Addr) (c : Nat) (l : List TagD) (w : World) :
    Calls Tryz.prog 117 #[.slice ao l.length c, .slice none 0 0] w (Told w (l = [])) := by
  by_cases h : l = []
  · subst h
    exact (sameTags_any ao none c 0 [] w (nil_row w ao) (nil_row w none) (by decide)).mono (fun e w' h => told_yes rfl h.2 h.1)
  · have h1 := len_zero h
    go_enter Tryz.func117, Tryz.ntmps117
    go_wp2
    go_ret
    exact told_no h (Below.refl _ _) rfl

set_option maxRecDepth 100000 in
set_option maxHeartbeats 2000000 in
theorem sameB_none (x : BatM) (w : World) :
    Calls Tryz.prog 74 #[x.v, bat0.v] w (Told w (x.d = bat0.d)) := by
  obtain ⟨a, n, ao, l, c⟩ := x
  have hd : (BatM.d ⟨a, n, ao, l, c⟩ = bat0.d) ↔ (a = 0 ∧ n = 0 ∧ l = []) := by
    show (⟨a, n, dl l⟩ : BatD) = ⟨0, 0, []⟩ ↔ _
    simp only [BatD.mk.injEq]
    exact ⟨fun h => ⟨h.1, h.2.1, dl_nil h.2.2⟩, fun h => ⟨h.1, h.2.1, by rw [h.2.2]; rfl⟩⟩
  generalize (BatM.d ⟨a, n, ao, l, c⟩ = bat0.d) = P at hd ⊢
  unfold BatM.v bat0
  simp only [List.length_nil]
  by_cases h1 : a = 0
  · subst h1
    by_cases h2 : n = 0
    · subst h2
      by_cases h3 : l = []
      · subst h3
        exact (sameB_any 0 0 ao [] c none [] 0 w (fun i x hx => by simp at hx) (fun i x hx => by simp at hx) rfl (by decide) (fun x hx => by cases hx)).mono (fun e w' h => told_yes (hd.2 ⟨rfl, rfl, rfl⟩) h.2 h.1)
      · have h4 := len_zero h3
        have hno : ¬ P := fun h => h3 (hd.1 h).2.2
        clear hd
        obtain ⟨hX, hY, hB⟩ := two_new w 26 26 [.int .i64 0, .int .i64 0, .slice ao l.length c] [.int .i64 0, .int .i64 0, .slice none 0 0]
        have x0 := hX.cell (i := 0) rfl
        have x1 := hX.cell (i := 1) rfl
        have x2 := hX.cell (i := 2) rfl
        have y0 := hY.cell (i := 0) rfl
        have y1 := hY.cell (i := 1) rfl
        have y2 := hY.cell (i := 2) rfl
        go_enter Tryz.func74, Tryz.ntmps74
        go_wp2
        go_ret
        exact told_no hno hB rfl
    · have hno : ¬ P := fun h => h2 (hd.1 h).2.1
      clear hd
      obtain ⟨hX, hY, hB⟩ := two_new w 26 26 [.int .i64 0, .int .i64 n, .slice ao l.length c] [.int .i64 0, .int .i64 0, .slice none 0 0]
      have x0 := hX.cell (i := 0) rfl
      have x1 := hX.cell (i := 1) rfl
      have x2 := hX.cell (i := 2) rfl
      have y0 := hY.cell (i := 0) rfl
      have y1 := hY.cell (i := 1) rfl
      have y2 := hY.cell (i := 2) rfl
      go_enter Tryz.func74, Tryz.ntmps74
      go_wp2
      go_ret
      exact told_no hno hB rfl
  · have hno : ¬ P := fun h => h1 (hd.1 h).1
    clear hd
    obtain ⟨hX, hY, hB⟩ := two_new w 26 26 [.int .i64 a, .int .i64 n, .slice ao l.length c] [.int .i64 0, .int .i64 0, .slice none 0 0]
    have x0 := hX.cell (i := 0) rfl
    have x1 := hX.cell (i := 1) rfl
    have x2 := hX.cell (i := 2) rfl
    have y0 := hY.cell (i := 0) rfl
    have y1 := hY.cell (i := 1) rfl
    have y2 := hY.cell (i := 2) rfl
    go_enter Tryz.func74, Tryz.ntmps74
    go_wp2
    go_ret
    exact told_no hno hB rfl

set_option maxRecDepth 100000 in
set_option maxHeartbeats 2000000 in
theorem sameQ_none (x : QcM) (w : World) :
    Calls Tryz.prog 78 #[x.v, qc0.v] w (Told w (x.d = qc0.d)) := by
  obtain ⟨v, b, va, l, c⟩ := x
  have hd : (QcM.d ⟨v, b, va, l, c⟩ = qc0.d) ↔ (v = 0 ∧ b = ⟨#[]⟩ ∧ l = []) := by
    show (⟨v, b, l⟩ : QcD) = ⟨0, ⟨#[]⟩, []⟩ ↔ _
    simp only [QcD.mk.injEq]
  generalize (QcM.d ⟨v, b, va, l, c⟩ = qc0.d) = P at hd ⊢
  have cV := fun w1 => sameTags_none va c l w1
  unfold QcM.v qc0
  simp only [List.length_nil]
  by_cases h1 : v = 0
  · subst h1
    by_cases h2 : b = ⟨#[]⟩
    · subst h2
      have hl : Hid ((l = []) ↔ P) := ⟨fun h => hd.2 ⟨rfl, rfl, h⟩, fun h => (hd.1 h).2.2⟩
      clear hd
      obtain ⟨hX, hY, hB⟩ := two_new w 35 35 [.int .i64 0, .string ⟨#[]⟩, .slice va l.length c] [.int .i64 0, .string ⟨#[]⟩, .slice none 0 0]
      have x0 := hX.cell (i := 0) rfl
      have x1 := hX.cell (i := 1) rfl
      have x2 := hX.cell (i := 2) rfl
      have y0 := hY.cell (i := 0) rfl
      have y1 := hY.cell (i := 1) rfl
      have y2 := hY.cell (i := 2) rfl
      go_enter Tryz.func78, Tryz.ntmps78
      go_wp2_with fail
      refine (cV _).mono ?_
      rintro e w2 ⟨⟨p, rfl, hp⟩, hb2⟩
      have hB2 := hB.trans (hb2.mono hB.size)
      have fin : ∀ e, e = .returned (.bool p) → Told w P e w2 := fun e he => ⟨⟨p, he, hp.trans hl.out⟩, hB2⟩
      clear cV hp hl hX hY hB hb2 x0 x1 x2 y0 y1 y2
      go_wp2
      go_ret
      exact fin _ rfl
    · have h5 : ¬ b.toList = [] := fun h => h2 (bytes_ext (by rw [← ByteArray.toList_eq, h]))
      have hno : ¬ P := fun h => h2 (hd.1 h).2.1
      clear hd
      obtain ⟨hX, hY, hB⟩ := two_new w 35 35 [.int .i64 0, .string b, .slice va l.length c] [.int .i64 0, .string ⟨#[]⟩, .slice none 0 0]
      have x0 := hX.cell (i := 0) rfl
      have x1 := hX.cell (i := 1) rfl
      have x2 := hX.cell (i := 2) rfl
      have y0 := hY.cell (i := 0) rfl
      have y1 := hY.cell (i := 1) rfl
      have y2 := hY.cell (i := 2) rfl
      go_enter Tryz.func78, Tryz.ntmps78
      go_wp2
      go_ret
      exact told_no hno hB rfl
  · have hno : ¬ P := fun h => h1 (hd.1 h).1
    clear hd
    obtain ⟨hX, hY, hB⟩ := two_new w 35 35 [.int .i64 v, .string b, .slice va l.length c] [.int .i64 0, .string ⟨#[]⟩, .slice none 0 0]
    have x0 := hX.cell (i := 0) rfl
    have x1 := hX.cell (i := 1) rfl
    have x2 := hX.cell (i := 2) rfl
    have y0 := hY.cell (i := 0) rfl
    have y1 := hY.cell (i := 1) rfl
    have y2 := hY.cell (i := 2) rfl
    go_enter Tryz.func78, Tryz.ntmps78
    go_wp2
    go_ret
    exact told_no hno hB rfl

set_option maxRecDepth 100000 in
set_option maxHeartbeats 2000000 in
theorem sameH_none (x : HdrM) (w : World) (hA : x.At w) :
    Calls Tryz.prog 75 #[x.v, hdr9.v] w (Told w (x.d = hdr9.d)) := by
  obtain ⟨au, ro, ra, rs, rc, pa, ps, pc⟩ := x
  have hd : (HdrM.d ⟨au, ro, ra, rs, rc, pa, ps, pc⟩ = hdr9.d) ↔ (au = 0 ∧ ro = 0 ∧ rs = [] ∧ ps = []) := by
    show (⟨au, ro, rd rs, ps⟩ : HdrD) = ⟨0, 0, [], []⟩ ↔ _
    simp only [HdrD.mk.injEq]
    exact ⟨fun h => ⟨h.1, h.2.1, rd_nil h.2.2.1, h.2.2.2⟩, fun h => ⟨h.1, h.2.1, by rw [h.2.2.1]; rfl, h.2.2.2⟩⟩
  generalize (HdrM.d ⟨au, ro, ra, rs, rc, pa, ps, pc⟩ = hdr9.d) = P at hd ⊢
  have cP := fun w1 => sameS_none pa pc ps w1
  by_cases h1 : au = 0
  · subst h1
    by_cases h2 : ro = 0
    · subst h2
      by_cases h3 : rs = []
      · subst h3
        by_cases h4 : ps = []
        · subst h4
          exact (sameH_any ⟨0, 0, ra, [], rc, pa, [], pc⟩ ⟨0, 0, none, [], 0, none, [], 0⟩ w ⟨nil_row _ _, hA.nr, nil_row _ _, hA.np⟩ ⟨nil_row _ _, fun _ => rfl, nil_row _ _, fun _ => rfl⟩ rfl (Nat.zero_le _) (Nat.zero_le _) (fun x hx => by cases hx)).mono (fun e w' h => told_yes (hd.2 ⟨rfl, rfl, rfl, rfl⟩) h.2 h.1)
        · unfold HdrM.v hdr9
          simp only [List.length_nil]
          have hno : ¬ P := fun h => h4 (hd.1 h).2.2.2
          clear hd
          obtain ⟨hX, hY, hB⟩ := two_new w 30 30 [.int .i64 0, .int .i64 0, .slice ra 0 rc, .slice pa ps.length pc] [.int .i64 0, .int .i64 0, .slice none 0 0, .slice none 0 0]
          have x0 := hX.cell (i := 0) rfl
          have x1 := hX.cell (i := 1) rfl
          have x2 := hX.cell (i := 2) rfl
          have x3 := hX.cell (i := 3) rfl
          have y0 := hY.cell (i := 0) rfl
          have y1 := hY.cell (i := 1) rfl
          have y2 := hY.cell (i := 2) rfl
          have y3 := hY.cell (i := 3) rfl
          go_enter Tryz.func75, Tryz.ntmps75
          go_wp2_with fail
          refine (cP _).mono ?_
          rintro e w2 ⟨⟨p, rfl, hp⟩, hb2⟩
          have hB2 := hB.trans (hb2.mono hB.size)
          obtain rfl : p = false := by
            cases p
            · rfl
            · exact absurd (hp.1 rfl) h4
          clear cP hp hX hY hB hb2 x0 x1 x2 x3 y0 y1 y2 y3
          go_wp2
          go_ret
          exact told_no hno hB2 rfl
      · have h4 := len_zero h3
        unfold HdrM.v hdr9
        simp only [List.length_nil]
        have hno : ¬ P := fun h => h3 (hd.1 h).2.2.1
        clear hd
        obtain ⟨hX, hY, hB⟩ := two_new w 30 30 [.int .i64 0, .int .i64 0, .slice ra rs.length rc, .slice pa ps.length pc] [.int .i64 0, .int .i64 0, .slice none 0 0, .slice none 0 0]
        have x0 := hX.cell (i := 0) rfl
        have x1 := hX.cell (i := 1) rfl
        have x2 := hX.cell (i := 2) rfl
        have x3 := hX.cell (i := 3) rfl
        have y0 := hY.cell (i := 0) rfl
        have y1 := hY.cell (i := 1) rfl
        have y2 := hY.cell (i := 2) rfl
        have y3 := hY.cell (i := 3) rfl
        go_enter Tryz.func75, Tryz.ntmps75
        go_wp2
        go_ret
        exact told_no hno hB rfl
    · unfold HdrM.v hdr9
      simp only [List.length_nil]
      have hno : ¬ P := fun h => h2 (hd.1 h).2.1
      clear hd
      obtain ⟨hX, hY, hB⟩ := two_new w 30 30 [.int .i64 0, .int .i64 ro, .slice ra rs.length rc, .slice pa ps.length pc] [.int .i64 0, .int .i64 0, .slice none 0 0, .slice none 0 0]
      have x0 := hX.cell (i := 0) rfl
      have x1 := hX.cell (i := 1) rfl
      have x2 := hX.cell (i := 2) rfl
      have x3 := hX.cell (i := 3) rfl
      have y0 := hY.cell (i := 0) rfl
      have y1 := hY.cell (i := 1) rfl
      have y2 := hY.cell (i := 2) rfl
      have y3 := hY.cell (i := 3) rfl
      go_enter Tryz.func75, Tryz.ntmps75
      go_wp2
      go_ret
      exact told_no hno hB rfl
  · unfold HdrM.v hdr9
    simp only [List.length_nil]
    have hno : ¬ P := fun h => h1 (hd.1 h).1
    clear hd
    obtain ⟨hX, hY, hB⟩ := two_new w 30 30 [.int .i64 au, .int .i64 ro, .slice ra rs.length rc, .slice pa ps.length pc] [.int .i64 0, .int .i64 0, .slice none 0 0, .slice none 0 0]
    have x0 := hX.cell (i := 0) rfl
    have x1 := hX.cell (i := 1) rfl
    have x2 := hX.cell (i := 2) rfl
    have x3 := hX.cell (i := 3) rfl
    have y0 := hY.cell (i := 0) rfl
    have y1 := hY.cell (i := 1) rfl
    have y2 := hY.cell (i := 2) rfl
    have y3 := hY.cell (i := 3) rfl
    go_enter Tryz.func75, Tryz.ntmps75
    go_wp2
    go_ret
    exact told_no hno hB rfl

set_option maxRecDepth 100000 in
set_option maxHeartbeats 2000000 in
theorem sameC_none (x : CertM) (w : World) (hA : x.At w) :
    Calls Tryz.prog 76 #[x.v, cert0.v] w (Told w (x.d = cert0.d)) := by
  obtain ⟨h, va, vs, vc⟩ := x
  have hd : (CertM.d ⟨h, va, vs, vc⟩ = cert0.d) ↔ (h.d = hdr9.d ∧ vs = []) := by
    show (⟨h.d, vs⟩ : CertD) = ⟨hdr9.d, []⟩ ↔ _
    simp only [CertD.mk.injEq]
  generalize (CertM.d ⟨h, va, vs, vc⟩ = cert0.d) = P at hd ⊢
  generalize hQ : (h.d = hdr9.d) = Q at hd
  have cH := fun w1 h1 => sameH_none h w1 h1
  have cV := fun w1 => sameTags_none va vc vs w1
  rw [hQ] at cH
  clear hQ
  have Hd : Hid (P ↔ (Q ∧ vs = [])) := hd
  have hh : HdrM.At w h := hA.hdr
  unfold CertM.v cert0
  unfold HdrM.v hdr9 at cH
  simp only [List.length_nil] at cH ⊢
  clear hd hA
  obtain ⟨hX, hY, hB⟩ := two_new w 33 33 [.int .i64 h.author, .int .i64 h.round, .slice h.ra h.refs.length h.rc, .slice h.pa h.parents.length h.pc, .slice va vs.length vc] [.int .i64 0, .int .i64 0, .slice none 0 0, .slice none 0 0, .slice none 0 0]
  have x0 := hX.cell (i := 0) rfl
  have x1 := hX.cell (i := 1) rfl
  have x2 := hX.cell (i := 2) rfl
  have x3 := hX.cell (i := 3) rfl
  have x4 := hX.cell (i := 4) rfl
  have y0 := hY.cell (i := 0) rfl
  have y1 := hY.cell (i := 1) rfl
  have y2 := hY.cell (i := 2) rfl
  have y3 := hY.cell (i := 3) rfl
  have y4 := hY.cell (i := 4) rfl
  go_enter Tryz.func76, Tryz.ntmps76
  have hh1 := hh.below hB
  go_wp2_with fail
  refine (cH _ hh1).mono ?_
  rintro e w2 ⟨⟨p, rfl, hp⟩, hb2⟩
  have hX2 := hX.below hb2 hX.lt
  have hY2 := hY.below hb2 hY.lt
  have hB2 := hB.trans (hb2.mono hB.size)
  clear cH hh hh1 hX hY hB hb2 x0 x1 x2 x3 x4 y0 y1 y2 y3 y4
  cases p
  case false =>
    have hno : ¬ P := fun h => by have := hp.2 (Hd.out.1 h).1; cases this
    clear Hd hp
    go_wp2
    go_ret
    exact told_no hno hB2 rfl
  have hq : (vs = []) ↔ P := ⟨fun h => Hd.out.2 ⟨hp.1 rfl, h⟩, fun h => (Hd.out.1 h).2⟩
  have x4 := hX2.cell (i := 4) rfl
  have y4 := hY2.cell (i := 4) rfl
  have HQ : Hid ((vs = []) ↔ P) := hq
  clear Hd hp hq
  go_wp2_with fail
  refine (cV _).mono ?_
  rintro e w3 ⟨⟨p, rfl, hp⟩, hb3⟩
  have hB3 := hB2.trans (hb3.mono hB2.size)
  have fin : ∀ e, e = .returned (.bool p) → Told w P e w3 := fun e he => ⟨⟨p, he, hp.trans HQ.out⟩, hB3⟩
  clear cV hp HQ hX2 hY2 hB2 hb3 x4 y4
  go_wp2
  go_ret
  exact fin _ rfl

set_option maxRecDepth 100000 in
set_option maxHeartbeats 2000000 in
theorem sameK_none (x : BlkM) (w : World) :
    Calls Tryz.prog 77 #[x.v, blk0.v] w (Told w (x.d = blk0.d)) := by
  obtain ⟨v, q, ca, l, cc⟩ := x
  have hd : (BlkM.d ⟨v, q, ca, l, cc⟩ = blk0.d) ↔ (v = 0 ∧ q.d = qc0.d ∧ l = []) := by
    show (⟨v, q.d, l⟩ : BlkD) = ⟨0, qc0.d, []⟩ ↔ _
    simp only [BlkD.mk.injEq]
  generalize (BlkM.d ⟨v, q, ca, l, cc⟩ = blk0.d) = P at hd ⊢
  generalize hQ : (q.d = qc0.d) = Q at hd
  have cQ := fun w1 => sameQ_none q w1
  have cS := fun w1 => sameS_none ca cc l w1
  rw [hQ] at cQ
  clear hQ
  unfold BlkM.v blk0 qc0
  unfold QcM.v qc0 at cQ
  simp only [List.length_nil] at cQ ⊢
  by_cases h1 : v = 0
  · subst h1
    have Hd : Hid (P ↔ (Q ∧ l = [])) := ⟨fun h => (hd.1 h).2, fun h => hd.2 ⟨rfl, h⟩⟩
    clear hd
    obtain ⟨hX, hY, hB⟩ := two_new w 37 37 [.int .i64 0, .int .i64 q.view, .string q.block, .slice q.va q.votes.length q.vc, .slice ca l.length cc] [.int .i64 0, .int .i64 0, .string ⟨#[]⟩, .slice none 0 0, .slice none 0 0]
    have x0 := hX.cell (i := 0) rfl
    have x1 := hX.cell (i := 1) rfl
    have x2 := hX.cell (i := 2) rfl
    have x3 := hX.cell (i := 3) rfl
    have x4 := hX.cell (i := 4) rfl
    have y0 := hY.cell (i := 0) rfl
    have y1 := hY.cell (i := 1) rfl
    have y2 := hY.cell (i := 2) rfl
    have y3 := hY.cell (i := 3) rfl
    have y4 := hY.cell (i := 4) rfl
    go_enter Tryz.func77, Tryz.ntmps77
    go_wp2_with fail
    refine (cQ _).mono ?_
    rintro e w2 ⟨⟨p, rfl, hp⟩, hb2⟩
    have hX2 := hX.below hb2 hX.lt
    have hY2 := hY.below hb2 hY.lt
    have hB2 := hB.trans (hb2.mono hB.size)
    clear cQ hX hY hB hb2 x0 x1 x2 x3 x4 y0 y1 y2 y3 y4
    cases p
    case false =>
      have hno : ¬ P := fun h => by have := hp.2 (Hd.out.1 h).1; cases this
      clear Hd hp
      go_wp2
      go_ret
      exact told_no hno hB2 rfl
    have HQ : Hid ((l = []) ↔ P) := ⟨fun h => Hd.out.2 ⟨hp.1 rfl, h⟩, fun h => (Hd.out.1 h).2⟩
    have x4 := hX2.cell (i := 4) rfl
    have y4 := hY2.cell (i := 4) rfl
    clear Hd hp
    go_wp2_with fail
    refine (cS _).mono ?_
    rintro e w3 ⟨⟨p, rfl, hp⟩, hb3⟩
    have hB3 := hB2.trans (hb3.mono hB2.size)
    have fin : ∀ e, e = .returned (.bool p) → Told w P e w3 := fun e he => ⟨⟨p, he, hp.trans HQ.out⟩, hB3⟩
    clear cS hp HQ hX2 hY2 hB2 hb3 x4 y4
    go_wp2
    go_ret
    exact fin _ rfl
  · have hno : ¬ P := fun h => h1 (hd.1 h).1
    clear hd
    obtain ⟨hX, hY, hB⟩ := two_new w 37 37 [.int .i64 v, .int .i64 q.view, .string q.block, .slice q.va q.votes.length q.vc, .slice ca l.length cc] [.int .i64 0, .int .i64 0, .string ⟨#[]⟩, .slice none 0 0, .slice none 0 0]
    have x0 := hX.cell (i := 0) rfl
    have x1 := hX.cell (i := 1) rfl
    have x2 := hX.cell (i := 2) rfl
    have x3 := hX.cell (i := 3) rfl
    have x4 := hX.cell (i := 4) rfl
    have y0 := hY.cell (i := 0) rfl
    have y1 := hY.cell (i := 1) rfl
    have y2 := hY.cell (i := 2) rfl
    have y3 := hY.cell (i := 3) rfl
    have y4 := hY.cell (i := 4) rfl
    go_enter Tryz.func77, Tryz.ntmps77
    go_wp2
    go_ret
    exact told_no hno hB rfl

end Go.Proofs.YtaoiejgbbmjpkaaGreatDoor

/- What tuskref09.fields and tuskref09.has do; nothing in memory is turned. -/
namespace Go.Proofs.YtaoiejgbbmjpkaaGreatDoor
open Go.RowKit
set_option linter.unusedVariables false

/-- The fields of a kind, as a text. -/
def fieldsS (k : Int) : ByteArray := ⟨⟨fieldsK k⟩⟩

set_option maxRecDepth 100000 in
set_option maxHeartbeats 4000000 in
theorem refFields_any (k : Int) (w : World) :
    Calls Tryz.prog 43 #[.int .i64 k] w fun e w' => e = .returned (.string (fieldsS k)) ∧ Below w.heap.size w w' := by
  by_cases h : k < 1 ∨ 11 < k
  · have e0 : fieldsS k = ⟨#[]⟩ := by unfold fieldsS; rw [fieldsK_none h]
    rw [e0]
    go_enter Tryz.func43, Tryz.ntmps43
    by_cases h1 : k < 1
    · go_wp2
      go_ret
      exact ⟨rfl, Below.refl _ _⟩
    · have h2 : 11 < k := by omega
      go_wp2
      go_ret
      exact ⟨rfl, Below.refl _ _⟩
  · have hk : k = 1 ∨ k = 2 ∨ k = 3 ∨ k = 4 ∨ k = 5 ∨ k = 6 ∨ k = 7 ∨ k = 8 ∨ k = 9 ∨ k = 10 ∨ k = 11 := by omega
    clear h
    rcases hk with rfl | rfl | rfl | rfl | rfl | rfl | rfl | rfl | rfl | rfl | rfl
    all_goals
      go_enter Tryz.func43, Tryz.ntmps43
      go_wp2
      go_ret
      exact ⟨rfl, belowNew _ _⟩

set_option maxRecDepth 100000 in
set_option maxHeartbeats 1000000 in
theorem refHas_any (s : ByteArray) (c : UInt8) (w : World) (hn : s.size ≤ 4611686018427387903) :
    Calls Tryz.prog 46 #[.string s, .int .u8 (c.toNat : Int)] w fun e w' => e = .returned (.bool (decide (c ∈ s.data.toList))) ∧ w' = w := by
  obtain ⟨out, hout⟩ : ∃ q, Hid (q = decide (c ∈ s.data.toList)) := ⟨_, rfl⟩
  rw [← hout.out]
  have hsz : s.data.toList.length = s.size := rfl
  go_enter Tryz.func46, Tryz.ntmps46
  go_wp2
  go_loopw [5] (fun v5 wr => ∃ k : Nat, k ≤ s.size ∧ v5 = .int .i64 (k : Int) ∧ Hid (c ∉ s.data.toList.take k) ∧ wr = w) (fun v _ => s.size - (intOf v).toNat)
  case atStart => exact ⟨0, Nat.zero_le _, rfl, (fun h => by cases h), rfl⟩
  case round =>
    obtain ⟨k, hk, rfl, hno, rfl⟩ := hrel
    by_cases hlt : k < s.size
    · have hel : s.data.toList[k]'(by rw [hsz]; exact hlt) = s[k] := by rw [Array.getElem_toList]; rfl
      cases he : ((s[k].toNat : Int) == (c.toNat : Int)) with
      | true =>
        have hc : s[k] = c := by
          have h1 : (s[k].toNat : Int) = (c.toNat : Int) := by simpa using he
          exact UInt8.toNat_inj.1 (by omega)
        have hf : Hid (out = true) := by
          show _ = _
          rw [hout.out, ← hc, ← hel]
          simp only [decide_eq_true_eq]
          exact List.getElem_mem _
        clear hno hel hc
        go_wp2
        go_ret
        exact ⟨by rw [hf.out]; rfl, rfl⟩
      | false =>
        have hno2 : Hid (c ∉ s.data.toList.take (k + 1)) := by
          show ¬ _
          rw [List.take_succ_eq_append_getElem (by rw [hsz]; exact hlt), hel, List.mem_append, List.mem_singleton]
          rintro (h | h)
          · exact hno.out h
          · rw [← h] at he
            simp at he
        clear hno hel
        go_wp2
        go_roundw
        case rel => exact ⟨k + 1, by omega, by go_num, hno2, trivial⟩
        case measure => simp [intOf]; omega
    · have hf : Hid (out = false) := by
        show _ = _
        have hno' := hno.out
        rw [List.take_of_length_le (by omega)] at hno'
        rw [hout.out]
        simp [hno']
      clear hno
      go_wp2
      go_ret
      exact ⟨by rw [hf.out]; rfl, rfl⟩
end Go.Proofs.YtaoiejgbbmjpkaaGreatDoor

/- What package msg's letters, isNumber, isValidator, isDigest, isPlainTag, arePlainTags, areSized, isPlainQc, isZeroHeader, isZeroQc say; nothing old in memory is turned. -/
namespace Go.Proofs.YtaoiejgbbmjpkaaGreatDoor
open Go.RowKit
set_option linter.unusedVariables false

set_option maxRecDepth 100000 in
set_option maxHeartbeats 4000000 in
theorem letters_any (k : Int) (w : World) :
    Calls Tryz.prog 13 #[.int .i64 k] w fun e w' => e = .returned (.string (fieldsS k)) ∧ w' = w := by
  by_cases h : k < 1 ∨ 11 < k
  · have e0 : fieldsS k = ⟨#[]⟩ := by unfold fieldsS; rw [fieldsK_none h]
    rw [e0]
    have n1 : (k == 1) = false := by rw [beq_eq_false_iff_ne]; omega
    have n2 : (k == 2) = false := by rw [beq_eq_false_iff_ne]; omega
    have n3 : (k == 3) = false := by rw [beq_eq_false_iff_ne]; omega
    have n4 : (k == 4) = false := by rw [beq_eq_false_iff_ne]; omega
    have n5 : (k == 5) = false := by rw [beq_eq_false_iff_ne]; omega
    have n6 : (k == 6) = false := by rw [beq_eq_false_iff_ne]; omega
    have n7 : (k == 7) = false := by rw [beq_eq_false_iff_ne]; omega
    have n8 : (k == 8) = false := by rw [beq_eq_false_iff_ne]; omega
    have n9 : (k == 9) = false := by rw [beq_eq_false_iff_ne]; omega
    have n10 : (k == 10) = false := by rw [beq_eq_false_iff_ne]; omega
    have n11 : (k == 11) = false := by rw [beq_eq_false_iff_ne]; omega
    clear h e0
    go_enter Tryz.func13, Tryz.ntmps13
    go_wp2
    go_ret
    exact ⟨rfl, rfl⟩
  · have hk : k = 1 ∨ k = 2 ∨ k = 3 ∨ k = 4 ∨ k = 5 ∨ k = 6 ∨ k = 7 ∨ k = 8 ∨ k = 9 ∨ k = 10 ∨ k = 11 := by omega
    clear h
    rcases hk with rfl | rfl | rfl | rfl | rfl | rfl | rfl | rfl | rfl | rfl | rfl
    all_goals
      go_enter Tryz.func13, Tryz.ntmps13
      go_wp2
      go_ret
      exact ⟨rfl, rfl⟩

set_option maxRecDepth 100000 in
set_option maxHeartbeats 1000000 in
theorem isNumber_any (n : Int) (w : World) : Calls Tryz.prog 105 #[.int .i64 n] w (Told w (numOk n)) := by
  obtain ⟨P, hd⟩ : ∃ P : Prop, Hid (P ↔ numOk n) := ⟨_, Iff.rfl⟩
  refine Calls.mono ?_ (fun e w' (h : Told w P e w') => h.iff hd.out)
  go_enter Tryz.func105, Tryz.ntmps105
  by_cases h1 : 0 ≤ n
  · by_cases h2 : n ≤ 4611686018427387903
    · have hy : P := hd.out.2 ⟨h1, h2⟩
      clear hd
      go_wp2
      go_ret
      exact told_yes hy (Below.refl _ _) rfl
    · have hno : Hid (¬ P) := fun h => h2 (hd.out.1 h).2
      clear hd
      go_wp2
      go_ret
      exact told_no hno.out (Below.refl _ _) rfl
  · have hno : Hid (¬ P) := fun h => h1 (hd.out.1 h).1
    clear hd
    go_wp2
    go_ret
    exact told_no hno.out (Below.refl _ _) rfl

set_option maxRecDepth 100000 in
set_option maxHeartbeats 1000000 in
theorem isValidator_any (n : Int) (w : World) : Calls Tryz.prog 138 #[.int .i64 n] w (Told w (0 ≤ n ∧ n ≤ 6)) := by
  obtain ⟨P, hd⟩ : ∃ P : Prop, Hid (P ↔ (0 ≤ n ∧ n ≤ 6)) := ⟨_, Iff.rfl⟩
  refine Calls.mono ?_ (fun e w' (h : Told w P e w') => h.iff hd.out)
  go_enter Tryz.func138, Tryz.ntmps138
  by_cases h1 : 0 ≤ n
  · by_cases h2 : n ≤ 6
    · have hy : P := hd.out.2 ⟨h1, h2⟩
      clear hd
      go_wp2
      go_ret
      exact told_yes hy (Below.refl _ _) rfl
    · have hno : Hid (¬ P) := fun h => h2 (hd.out.1 h).2
      clear hd
      go_wp2
      go_ret
      exact told_no hno.out (Below.refl _ _) rfl
  · have hno : Hid (¬ P) := fun h => h1 (hd.out.1 h).1
    clear hd
    go_wp2
    go_ret
    exact told_no hno.out (Below.refl _ _) rfl

set_option maxRecDepth 100000 in
set_option maxHeartbeats 1000000 in
theorem isDigest_any (s : ByteArray) (w : World) : Calls Tryz.prog 104 #[.string s] w (Told w (s.size = 32)) := by
  obtain ⟨P, hd⟩ : ∃ P : Prop, Hid (P ↔ s.size = 32) := ⟨_, Iff.rfl⟩
  refine Calls.mono ?_ (fun e w' (h : Told w P e w') => h.iff hd.out)
  go_enter Tryz.func104, Tryz.ntmps104
  by_cases h1 : s.size = 32
  · have hy : P := hd.out.2 h1
    have h2 : ((s.size : Int) == 32) = true := by rw [beq_iff_eq]; omega
    clear hd h1
    go_wp2
    go_ret
    exact told_yes hy (Below.refl _ _) rfl
  · have hno : Hid (¬ P) := fun h => h1 (hd.out.1 h)
    have h2 : ((s.size : Int) == 32) = false := by rw [beq_eq_false_iff_ne]; omega
    clear hd h1
    go_wp2
    go_ret
    exact told_no hno.out (Below.refl _ _) rfl

set_option maxRecDepth 100000 in
set_option maxHeartbeats 1000000 in
theorem isPlainTag_any (t : TagD) (w : World) : Calls Tryz.prog 106 #[.agg #[.int .i64 t.who, .string t.mac]] w (Told w (tagOk t)) := by
  obtain ⟨P, hd⟩ : ∃ P : Prop, Hid (P ↔ tagOk t) := ⟨_, Iff.rfl⟩
  refine Calls.mono ?_ (fun e w' (h : Told w P e w') => h.iff hd.out)
  have hX := Arr.new w 23 [.int .i64 t.who, .string t.mac]
  have hB := belowNew w (.cells #[.int .i64 t.who, .string t.mac] 23)
  have x0 := hX.cell (i := 0) rfl
  have cV := isValidator_any t.who
  obtain ⟨w1, hw1⟩ : ∃ q', w.alloc (.cells #[.int .i64 t.who, .string t.mac] 23) = q' := ⟨_, rfl⟩
  replace hX : Arr w1 w.heap.size 23 [.int .i64 t.who, .string t.mac] := by rw [← hw1]; exact hX
  replace x0 := hX.cell (i := 0) rfl
  rw [hw1] at hB
  go_enter Tryz.func106, Tryz.ntmps106
  go_wp2_with fail
  refine (cV _).mono ?_
  rintro e w2 ⟨⟨p, rfl, hp⟩, hb2⟩
  have hX2 := hX.below hb2 hX.lt
  have hB2 := hB.trans (hb2.mono hB.size)
  clear hX hB hb2 x0 cV hw1
  have x1 := hX2.cell (i := 1) rfl
  cases p
  case false =>
    have hno : Hid (¬ P) := fun h => by have := hp.2 ⟨(hd.out.1 h).1, (hd.out.1 h).2.1⟩; cases this
    clear hd hp
    go_wp2
    go_ret
    exact told_no hno.out hB2 rfl
  by_cases h3 : t.mac.size = 16
  · have h3' : ((t.mac.size : Int) == 16) = true := by rw [beq_iff_eq]; omega
    have hy : P := hd.out.2 ⟨(hp.1 rfl).1, (hp.1 rfl).2, h3⟩
    clear h3 hd hp
    go_wp2
    go_ret
    exact told_yes hy hB2 rfl
  · have h3' : ((t.mac.size : Int) == 16) = false := by rw [beq_eq_false_iff_ne]; omega
    have hno : Hid (¬ P) := fun h => h3 (hd.out.1 h).2.2
    clear h3 hd hp
    go_wp2
    go_ret
    exact told_no hno.out hB2 rfl

set_option maxRecDepth 100000 in
set_option maxHeartbeats 1000000 in
theorem isZeroHeader_any (x : HdrM) (w : World) : Calls Tryz.prog 65 #[x.v] w (Told w x.d.Nil) := by
  obtain ⟨P, hd⟩ : ∃ P : Prop, Hid (P ↔ x.d.Nil) := ⟨_, Iff.rfl⟩
  refine Calls.mono ?_ (fun e w' (h : Told w P e w') => h.iff hd.out)
  obtain ⟨au, ro, ra, rs, rc, pa, ps, pc⟩ := x
  replace hd : Hid (P ↔ (au = 0 ∧ ro = 0 ∧ rs.length = 0 ∧ ps.length = 0)) := hd.out.trans (by
    show (au = 0 ∧ ro = 0 ∧ (rd rs).length = 0 ∧ ps.length = 0) ↔ _
    rw [rd_length])
  have hX := Arr.new w 30 [.int .i64 au, .int .i64 ro, .slice ra rs.length rc, .slice pa ps.length pc]
  have hB := belowNew w (.cells #[.int .i64 au, .int .i64 ro, .slice ra rs.length rc, .slice pa ps.length pc] 30)
  unfold HdrM.v
  simp only
  have x0 := hX.cell (i := 0) rfl
  have x1 := hX.cell (i := 1) rfl
  have x2 := hX.cell (i := 2) rfl
  have x3 := hX.cell (i := 3) rfl
  go_enter Tryz.func65, Tryz.ntmps65
  cases h1 : (au == 0)
  case false =>
    have hno : Hid (¬ P) := fun h => by rw [beq_eq_false_iff_ne] at h1; exact h1 (hd.out.1 h).1
    clear hd
    go_wp2
    go_ret
    exact told_no hno.out hB rfl
  cases h2 : (ro == 0)
  case false =>
    have hno : Hid (¬ P) := fun h => by rw [beq_eq_false_iff_ne] at h2; exact h2 (hd.out.1 h).2.1
    clear hd
    go_wp2
    go_ret
    exact told_no hno.out hB rfl
  cases h3 : ((rs.length : Int) == 0)
  case false =>
    have hno : Hid (¬ P) := fun h => by rw [beq_eq_false_iff_ne] at h3; exact h3 (by have := (hd.out.1 h).2.2.1; omega)
    clear hd
    go_wp2
    go_ret
    exact told_no hno.out hB rfl
  cases h4 : ((ps.length : Int) == 0)
  case false =>
    have hno : Hid (¬ P) := fun h => by rw [beq_eq_false_iff_ne] at h4; exact h4 (by have := (hd.out.1 h).2.2.2; omega)
    clear hd
    go_wp2
    go_ret
    exact told_no hno.out hB rfl
  have hy : P := hd.out.2 ⟨by simpa using h1, by simpa using h2, by rw [beq_iff_eq] at h3; omega, by rw [beq_iff_eq] at h4; omega⟩
  clear hd
  go_wp2
  go_ret
  exact told_yes hy hB rfl

set_option maxRecDepth 100000 in
set_option maxHeartbeats 1000000 in
theorem isZeroQc_any (x : QcM) (w : World) : Calls Tryz.prog 66 #[x.v] w (Told w x.d.Nil) := by
  obtain ⟨P, hd⟩ : ∃ P : Prop, Hid (P ↔ x.d.Nil) := ⟨_, Iff.rfl⟩
  refine Calls.mono ?_ (fun e w' (h : Told w P e w') => h.iff hd.out)
  obtain ⟨vi, bk, va, vs, vc⟩ := x
  replace hd : Hid (P ↔ (vi = 0 ∧ bk.size = 0 ∧ vs.length = 0)) := hd
  have hX := Arr.new w 35 [.int .i64 vi, .string bk, .slice va vs.length vc]
  have hB := belowNew w (.cells #[.int .i64 vi, .string bk, .slice va vs.length vc] 35)
  unfold QcM.v
  simp only
  have x0 := hX.cell (i := 0) rfl
  have x1 := hX.cell (i := 1) rfl
  have x2 := hX.cell (i := 2) rfl
  go_enter Tryz.func66, Tryz.ntmps66
  cases h1 : (vi == 0)
  case false =>
    have hno : Hid (¬ P) := fun h => by rw [beq_eq_false_iff_ne] at h1; exact h1 (hd.out.1 h).1
    clear hd
    go_wp2
    go_ret
    exact told_no hno.out hB rfl
  by_cases h2 : bk.toList = []
  case neg =>
    have hno : Hid (¬ P) := fun h => h2 (by rw [bytes_nil (hd.out.1 h).2.1, ByteArray.toList_eq])
    clear hd
    go_wp2
    go_ret
    exact told_no hno.out hB rfl
  cases h3 : ((vs.length : Int) == 0)
  case false =>
    have hno : Hid (¬ P) := fun h => by rw [beq_eq_false_iff_ne] at h3; exact h3 (by have := (hd.out.1 h).2.2; omega)
    clear hd
    go_wp2
    go_ret
    exact told_no hno.out hB rfl
  have hy : P := hd.out.2 ⟨by simpa using h1, by rw [ByteArray.toList_eq] at h2; have := congrArg List.length h2; simpa using this, by rw [beq_iff_eq] at h3; omega⟩
  clear hd
  go_wp2
  go_ret
  exact told_yes hy hB rfl
end Go.Proofs.YtaoiejgbbmjpkaaGreatDoor

/- What tuskref09.number, tag, tags, digests and qc say; nothing old in memory is turned. -/
namespace Go.Proofs.YtaoiejgbbmjpkaaGreatDoor
open Go.RowKit
set_option linter.unusedVariables false

set_option maxRecDepth 100000 in
set_option maxHeartbeats 1000000 in
theorem refNumber_any (n : Int) (w : World) : Calls Tryz.prog 48 #[.int .i64 n] w (Told w (numOk n)) := by
  obtain ⟨P, hd⟩ : ∃ P : Prop, Hid (P ↔ numOk n) := ⟨_, Iff.rfl⟩
  refine Calls.mono ?_ (fun e w' (h : Told w P e w') => h.iff hd.out)
  go_enter Tryz.func48, Tryz.ntmps48
  by_cases h1 : 0 ≤ n
  · by_cases h2 : n ≤ 4611686018427387903
    · have hy : P := hd.out.2 ⟨h1, h2⟩
      clear hd
      go_wp2
      go_ret
      exact told_yes hy (Below.refl _ _) rfl
    · have hno : Hid (¬ P) := fun h => h2 (hd.out.1 h).2
      clear hd
      go_wp2
      go_ret
      exact told_no hno.out (Below.refl _ _) rfl
  · have hno : Hid (¬ P) := fun h => h1 (hd.out.1 h).1
    clear hd
    go_wp2
    go_ret
    exact told_no hno.out (Below.refl _ _) rfl

set_option maxRecDepth 100000 in
set_option maxHeartbeats 1000000 in
theorem refTag_any (t : TagD) (w : World) : Calls Tryz.prog 49 #[.agg #[.int .i64 t.who, .string t.mac]] w (Told w (tagOk t)) := by
  have hX := Arr.new w 23 [.int .i64 t.who, .string t.mac]
  have hB := belowNew w (.cells #[.int .i64 t.who, .string t.mac] 23)
  have x0 := hX.cell (i := 0) rfl
  have x1 := hX.cell (i := 1) rfl
  go_enter Tryz.func49, Tryz.ntmps49
  by_cases h1 : 0 ≤ t.who
  · by_cases h2 : t.who ≤ 6
    · by_cases h3 : t.mac.size = 16
      · have h3' : (t.mac.size : Int) = 16 := by omega
        have hy : Hid (tagOk t) := ⟨h1, h2, h3⟩
        clear h3
        go_wp2
        go_ret
        exact told_yes hy.out hB rfl
      · have h3' : ((t.mac.size : Int) == 16) = false := by rw [beq_eq_false_iff_ne]; omega
        have hno : Hid (¬ tagOk t) := fun h => h3 h.2.2
        clear h3
        go_wp2
        go_ret
        exact told_no hno.out hB rfl
    · have hno : Hid (¬ tagOk t) := fun h => h2 h.2.1
      go_wp2
      go_ret
      exact told_no hno.out hB rfl
  · have hno : Hid (¬ tagOk t) := fun h => h1 h.1
    go_wp2
    go_ret
    exact told_no hno.out hB rfl

set_option maxRecDepth 100000 in
set_option maxHeartbeats 2000000 in
theorem refTags9_any (ao : Option Addr) (cap : Nat) (l : List TagD) (w : World) (hA : RowAt tagK w ao l) (hn : l.length ≤ 4611686018427387903) :
    Calls Tryz.prog 51 #[.slice ao l.length cap] w (Told w (tagsOk l)) := by
  have cT := refTag_any
  go_enter Tryz.func51, Tryz.ntmps51
  go_wp2
  go_loopw [3] (fun v3 wr => ∃ k : Nat, k ≤ l.length ∧ v3 = .int .i64 (k : Int) ∧ Hid (∀ t ∈ l.take k, tagOk t) ∧ Below w.heap.size w wr) (fun v _ => l.length - (intOf v).toNat)
  case atStart => exact ⟨0, Nat.zero_le _, rfl, (fun t ht => by simp at ht), Below.refl _ _⟩
  case round =>
    obtain ⟨k, hk, rfl, HF, hb⟩ := hrel
    by_cases hlt : k < l.length
    · obtain ⟨t, ht⟩ : ∃ t, l[k]? = some t := ⟨l[k], List.getElem?_eq_getElem hlt⟩
      obtain ⟨b, off, rfl, hbl, y0, y1⟩ := (hA.below hb).tag ht
      have hmem : t ∈ l := List.mem_of_getElem? ht
      have HN : Hid (tagOk t → ∀ t ∈ l.take (k + 1), tagOk t) := by
        intro hf y hy
        have he := (List.getElem?_eq_some_iff.1 ht).2
        rw [List.take_succ_eq_append_getElem hlt, List.mem_append, List.mem_singleton, he] at hy
        rcases hy with hy | rfl
        · exact HF.out y hy
        · exact hf
      have HB : Hid (¬ tagOk t → ¬ tagsOk l) := fun hb h => hb (h.1 t hmem)
      clear HF ht hmem
      go_wp2_with fail
      refine (cT t _).mono ?_
      rintro e w2 ⟨⟨p, rfl, hp⟩, hb2⟩
      have hB2 := hb.trans (hb2.mono hb.size)
      clear y0 y1 hb hb2
      cases p
      case false =>
        have hno : Hid (¬ tagsOk l) := HB.out (fun h => by have := hp.2 h; cases this)
        clear HB HN hp
        go_wp2
        go_ret
        exact told_no hno.out hB2 rfl
      have HF2 : Hid (∀ t ∈ l.take (k + 1), tagOk t) := HN.out (hp.1 rfl)
      clear HB HN hp
      go_wp2
      go_roundw
      case rel => exact ⟨k + 1, by omega, by go_num, HF2, hB2⟩
      case measure => simp [intOf]; omega
    · have HA : Hid (∀ t ∈ l, tagOk t) := by
        have := HF.out
        rw [List.take_of_length_le (by omega)] at this
        exact this
      clear HF
      go_wp2
      go_ret
      refine ⟨⟨_, rfl, ?_⟩, hb⟩
      simp only [decide_eq_true_eq]
      exact ⟨fun h => ⟨HA.out, by omega⟩, fun h => by have := h.2; omega⟩

set_option maxRecDepth 100000 in
set_option maxHeartbeats 2000000 in
theorem refDigests_any (ao : Option Addr) (cap : Nat) (l : List ByteArray) (m n : Nat) (w : World) (hA : RowAt strK w ao l) (hn : l.length ≤ 4611686018427387903) :
    Calls Tryz.prog 53 #[.slice ao l.length cap, .int .i64 (m : Int), .int .i64 (n : Int)] w (Told w ((∀ p ∈ l, p.size = n) ∧ l.length ≤ m)) := by
  go_enter Tryz.func53, Tryz.ntmps53
  go_wp2
  go_loopw [7] (fun v3 wr => ∃ k : Nat, k ≤ l.length ∧ v3 = .int .i64 (k : Int) ∧ Hid (∀ t ∈ l.take k, t.size = n) ∧ wr = w) (fun v _ => l.length - (intOf v).toNat)
  case atStart => exact ⟨0, Nat.zero_le _, rfl, (fun t ht => by simp at ht), rfl⟩
  case round =>
    obtain ⟨k, hk, rfl, HF, rfl⟩ := hrel
    by_cases hlt : k < l.length
    · obtain ⟨t, ht⟩ : ∃ t, l[k]? = some t := ⟨l[k], List.getElem?_eq_getElem hlt⟩
      obtain ⟨b, off, rfl, hbl, hc⟩ := hA.cell k t ht
      have c0 := hc 0 (.string t) rfl
      have e0 : off + k * strK.n + 0 = off + k := by show off + k * 1 + 0 = _; omega
      rw [e0] at c0
      have hmem : t ∈ l := List.mem_of_getElem? ht
      have HN : Hid (t.size = n → ∀ t ∈ l.take (k + 1), t.size = n) := by
        intro hf y hy
        have he := (List.getElem?_eq_some_iff.1 ht).2
        rw [List.take_succ_eq_append_getElem hlt, List.mem_append, List.mem_singleton, he] at hy
        rcases hy with hy | rfl
        · exact HF.out y hy
        · exact hf
      have HB : Hid (t.size ≠ n → ¬ ((∀ p ∈ l, p.size = n) ∧ l.length ≤ m)) := fun hb h => hb (h.1 t hmem)
      clear HF ht hmem hc e0
      by_cases h3 : t.size = n
      · have HF2 : Hid (∀ t ∈ l.take (k + 1), t.size = n) := HN.out h3
        have h3' : ((t.size : Int) != (n : Int)) = false := by rw [bne_eq_false_iff_eq]; omega
        clear HB HN h3
        go_wp2
        go_roundw
        case rel => exact ⟨k + 1, by omega, by go_num, HF2, trivial⟩
        case measure => simp [intOf]; omega
      · have hno : Hid _ := HB.out h3
        have h3' : ((t.size : Int) != (n : Int)) = true := by rw [bne_iff_ne]; omega
        clear HB HN h3
        go_wp2
        go_ret
        exact told_no hno.out (Below.refl _ _) rfl
    · have HA : Hid (∀ t ∈ l, t.size = n) := by
        have := HF.out
        rw [List.take_of_length_le (by omega)] at this
        exact this
      clear HF
      go_wp2
      go_ret
      refine ⟨⟨_, rfl, ?_⟩, Below.refl _ _⟩
      simp only [decide_eq_true_eq]
      exact ⟨fun h => ⟨HA.out, by omega⟩, fun h => by have := h.2; omega⟩

set_option maxRecDepth 100000 in
set_option maxHeartbeats 2000000 in
theorem refQc9_any (x : QcM) (w : World) (hA : x.At w) (hn : x.votes.length ≤ 4611686018427387903) :
    Calls Tryz.prog 52 #[x.v] w (Told w x.d.Plain) := by
  obtain ⟨v, b, va, l, c⟩ := x
  obtain ⟨P, hd⟩ : ∃ P : Prop, Hid (P ↔ (numOk v ∧ b.size = 32 ∧ tagsOk l)) := ⟨_, Iff.rfl⟩
  refine Calls.mono ?_ (fun e w' (h : Told w P e w') => h.iff hd.out)
  have cN := refNumber_any v
  have cT := fun w1 h1 => refTags9_any va c l w1 h1 hn
  have hX := Arr.new w 35 [.int .i64 v, .string b, .slice va l.length c]
  have hB := belowNew w (.cells #[.int .i64 v, .string b, .slice va l.length c] 35)
  have hR : RowAt tagK _ va l := (hA.below hB).votes
  have x0 := hX.cell (i := 0) rfl
  unfold QcM.v
  simp only
  clear hA
  go_enter Tryz.func52, Tryz.ntmps52
  go_wp2_with fail
  refine (cN _).mono ?_
  rintro e w2 ⟨⟨p, rfl, hp⟩, hb2⟩
  have hX2 := hX.below hb2 hX.lt
  have hR2 := hR.below hb2
  have hB2 := hB.trans (hb2.mono hB.size)
  clear hX hR hB hb2 x0 cN
  cases p
  case false =>
    have hno : ¬ P := fun h => by have := hp.2 (hd.out.1 h).1; cases this
    clear hd hp
    go_wp2
    go_ret
    exact told_no hno hB2 rfl
  replace hd : Hid (P ↔ (b.size = 32 ∧ tagsOk l)) := ⟨fun h => (hd.out.1 h).2, fun h => hd.out.2 ⟨hp.1 rfl, h⟩⟩
  clear hp
  have x1 := hX2.cell (i := 1) rfl
  have x2 := hX2.cell (i := 2) rfl
  by_cases h1 : b.size = 32
  · have h1' : (b.size : Int) = 32 := by omega
    replace hd : Hid (P ↔ tagsOk l) := ⟨fun h => (hd.out.1 h).2, fun h => hd.out.2 ⟨h1, h⟩⟩
    clear h1
    go_wp2_with fail
    refine (cT _ hR2).mono ?_
    rintro e w3 ⟨⟨p, rfl, hp⟩, hb3⟩
    have hB3 := hB2.trans (hb3.mono hB2.size)
    have fin : ∀ e, e = .returned (.bool p) → Told w P e w3 := fun e he => ⟨⟨p, he, hp.trans hd.out.symm⟩, hB3⟩
    clear cT hp hd hX2 hR2 hB2 hb3 x1 x2
    go_wp2
    go_ret
    exact fin _ rfl
  · have h1' : ¬ (b.size : Int) = 32 := by omega
    have hno : ¬ P := fun h => h1 (hd.out.1 h).1
    clear hd h1
    go_wp2
    go_ret
    exact told_no hno hB2 rfl
end Go.Proofs.YtaoiejgbbmjpkaaGreatDoor

/- What tuskref09.head says of a header; nothing old in memory is turned. -/
namespace Go.Proofs.YtaoiejgbbmjpkaaGreatDoor
open Go.RowKit
set_option linter.unusedVariables false

theorem hdrPlain_iff (x : HdrM) : x.d.Plain ↔ (0 ≤ x.author ∧ x.author ≤ 6 ∧ numOk x.round ∧ x.refs.length ≤ 4 ∧ ((∀ p ∈ x.parents, p.size = 32) ∧ x.parents.length ≤ 7) ∧ ∀ r ∈ x.refs, r.digest.size = 32 ∧ tagsOk r.acks) := by
  show ((0 ≤ x.author ∧ x.author ≤ 6 ∧ numOk x.round ∧ (rd x.refs).length ≤ 4 ∧ x.parents.length ≤ 7) ∧ (∀ p ∈ x.parents, p.size = 32) ∧ ∀ r ∈ rd x.refs, r.digest.size = 32 ∧ tagsOk r.acks) ↔ _
  rw [rd_length]
  constructor
  · rintro ⟨⟨h1, h2, h3, h4, h5⟩, h6, h7⟩
    exact ⟨h1, h2, h3, h4, ⟨h6, h5⟩, fun r hr => h7 r.d (List.mem_map.2 ⟨r, hr, rfl⟩)⟩
  · rintro ⟨h1, h2, h3, h4, ⟨h6, h5⟩, h7⟩
    exact ⟨⟨h1, h2, h3, h4, h5⟩, h6, fun y hy => by
      obtain ⟨r, hr, rfl⟩ := List.mem_map.1 hy
      exact h7 r hr⟩

set_option maxRecDepth 100000 in
set_option maxHeartbeats 4000000 in
theorem refHead_any (x : HdrM) (w : World) (hA : x.At w) (hn : x.refs.length ≤ 4611686018427387903) (hp : x.parents.length ≤ 4611686018427387903) (hL : ∀ r ∈ x.refs, r.acks.length ≤ 4611686018427387903) :
    Calls Tryz.prog 50 #[x.v] w (Told w x.d.Plain) := by
  obtain ⟨P, hd⟩ : ∃ P : Prop, Hid (P ↔ x.d.Plain) := ⟨_, Iff.rfl⟩
  refine Calls.mono ?_ (fun e w' (h : Told w P e w') => h.iff hd.out)
  replace hd : Hid (P ↔ _) := hd.out.trans (hdrPlain_iff x)
  obtain ⟨au, ro, ra, rs, rc, pa, ps, pc⟩ := x
  replace hd : Hid (P ↔ (0 ≤ au ∧ au ≤ 6 ∧ numOk ro ∧ rs.length ≤ 4 ∧ ((∀ p ∈ ps, p.size = 32) ∧ ps.length ≤ 7) ∧ ∀ r ∈ rs, r.digest.size = 32 ∧ tagsOk r.acks)) := hd
  have hA1 : RowAt refK w ra rs := hA.refs
  have hA2 : RowAt strK w pa ps := hA.ps
  have hn' : rs.length ≤ 4611686018427387903 := hn
  have hp' : ps.length ≤ 4611686018427387903 := hp
  have hL' : ∀ r ∈ rs, r.acks.length ≤ 4611686018427387903 := hL
  have hX := Arr.new w 30 [.int .i64 au, .int .i64 ro, .slice ra rs.length rc, .slice pa ps.length pc]
  have hB := belowNew w (.cells #[.int .i64 au, .int .i64 ro, .slice ra rs.length rc, .slice pa ps.length pc] 30)
  have cN := refNumber_any ro
  have cD := fun w1 h1 => refDigests_any pa pc ps 7 32 w1 h1 hp'
  unfold HdrM.v
  simp only
  clear hA hn hp hL
  have x0 := hX.cell (i := 0) rfl
  have x1 := hX.cell (i := 1) rfl
  obtain ⟨w1, hw1⟩ : ∃ q', w.alloc (.cells #[.int .i64 au, .int .i64 ro, .slice ra rs.length rc, .slice pa ps.length pc] 30) = q' := ⟨_, rfl⟩
  replace hX : Arr w1 w.heap.size 30 [.int .i64 au, .int .i64 ro, .slice ra rs.length rc, .slice pa ps.length pc] := by rw [← hw1]; exact hX
  rw [hw1] at hB x0 x1
  go_enter Tryz.func50, Tryz.ntmps50
  by_cases h1 : au < 0
  · have hno : Hid (¬ P) := fun h => by have := (hd.out.1 h).1; omega
    clear hd
    go_wp2
    go_ret
    exact told_no hno.out hB rfl
  by_cases h2 : 6 < au
  · have hno : Hid (¬ P) := fun h => by have := (hd.out.1 h).2.1; omega
    clear hd
    go_wp2
    go_ret
    exact told_no hno.out hB rfl
  replace hd : Hid (P ↔ (numOk ro ∧ rs.length ≤ 4 ∧ ((∀ p ∈ ps, p.size = 32) ∧ ps.length ≤ 7) ∧ ∀ r ∈ rs, r.digest.size = 32 ∧ tagsOk r.acks)) := ⟨fun h => (hd.out.1 h).2.2, fun h => hd.out.2 ⟨by omega, by omega, h⟩⟩
  go_wp2_with fail
  refine (cN _).mono ?_
  rintro e w2 ⟨⟨p, rfl, hp⟩, hb2⟩
  have hX2 := hX.below hb2 hX.lt
  have hB2 := hB.trans (hb2.mono hB.size)
  clear hX hB hb2 x0 x1 cN hw1
  have x2 := hX2.cell (i := 2) rfl
  have x3 := hX2.cell (i := 3) rfl
  cases p
  case false =>
    have hno : Hid (¬ P) := fun h => by have := hp.2 (hd.out.1 h).1; cases this
    clear hd hp
    go_wp2
    go_ret
    exact told_no hno.out hB2 rfl
  replace hd : Hid (P ↔ (rs.length ≤ 4 ∧ ((∀ p ∈ ps, p.size = 32) ∧ ps.length ≤ 7) ∧ ∀ r ∈ rs, r.digest.size = 32 ∧ tagsOk r.acks)) := ⟨fun h => (hd.out.1 h).2, fun h => hd.out.2 ⟨hp.1 rfl, h⟩⟩
  clear hp
  by_cases h3 : (4 : Int) < (rs.length : Int)
  · have hno : Hid (¬ P) := fun h => by have := (hd.out.1 h).1; omega
    clear hd
    go_wp2
    go_ret
    exact told_no hno.out hB2 rfl
  replace hd : Hid (P ↔ (((∀ p ∈ ps, p.size = 32) ∧ ps.length ≤ 7) ∧ ∀ r ∈ rs, r.digest.size = 32 ∧ tagsOk r.acks)) := ⟨fun h => (hd.out.1 h).2, fun h => hd.out.2 ⟨by omega, h⟩⟩
  go_wp2_with fail
  refine (cD _ (hA2.below hB2)).mono ?_
  rintro e w3 ⟨⟨p, rfl, hp⟩, hb3⟩
  have hX3 := hX2.below hb3 hX2.lt
  have hB3 := hB2.trans (hb3.mono hB2.size)
  clear hX2 hB2 hb3 x2 x3 cD
  cases p
  case false =>
    have hno : Hid (¬ P) := fun h => by have := hp.2 (hd.out.1 h).1; cases this
    clear hd hp
    go_wp2
    go_ret
    exact told_no hno.out hB3 rfl
  replace hd : Hid (P ↔ (∀ r ∈ rs, r.digest.size = 32 ∧ tagsOk r.acks)) := ⟨fun h => (hd.out.1 h).2, fun h => hd.out.2 ⟨hp.1 rfl, h⟩⟩
  clear hp h1 h2
  go_wp2
  go_loopw [3] (fun v3 wr => ∃ k : Nat, k ≤ rs.length ∧ v3 = .int .i64 (k : Int) ∧ Hid (∀ r ∈ rs.take k, r.digest.size = 32 ∧ tagsOk r.acks) ∧ Arr wr w.heap.size 30 [.int .i64 au, .int .i64 ro, .slice ra rs.length rc, .slice pa ps.length pc] ∧ Below w.heap.size w wr) (fun v _ => rs.length - (intOf v).toNat)
  case atStart => exact ⟨0, Nat.zero_le _, rfl, (fun t ht => by simp at ht), hX3, hB3⟩
  case round =>
    clear hX3 hB3
    obtain ⟨k, hk, rfl, HF, hX1, hb⟩ := hrel
    have x2 := hX1.cell (i := 2) rfl
    by_cases hlt : k < rs.length
    · obtain ⟨x, hx⟩ : ∃ x, rs[k]? = some x := ⟨rs[k], List.getElem?_eq_getElem hlt⟩
      obtain ⟨b, off, rfl, hbl, p0, p1⟩ := (hA1.below hb).ref hx
      have hAt := ((hA1.below hb).at_ x (List.mem_of_getElem? hx)).1
      have hmem : x ∈ rs := List.mem_of_getElem? hx
      have hl1 := hL' x hmem
      have cC := fun w1 (h : RowAt tagK w1 x.ao x.acks) => refTags9_any x.ao x.cap x.acks w1 h hl1
      have HN : Hid ((x.digest.size = 32 ∧ tagsOk x.acks) → ∀ r ∈ rs.take (k + 1), r.digest.size = 32 ∧ tagsOk r.acks) := by
        intro hf y hy
        have he := (List.getElem?_eq_some_iff.1 hx).2
        rw [List.take_succ_eq_append_getElem hlt, List.mem_append, List.mem_singleton, he] at hy
        rcases hy with hy | rfl
        · exact HF.out y hy
        · exact hf
      have HB : Hid (¬ (x.digest.size = 32 ∧ tagsOk x.acks) → ¬ P) := fun hb h => hb (hd.out.1 h x hmem)
      clear HF hx hmem
      by_cases h1 : x.digest.size = 32
      · have h1' : ((x.digest.size : Int) != 32) = false := by rw [bne_eq_false_iff_eq]; omega
        have H1 : Hid (x.digest.size = 32) := h1
        clear h1
        go_wp2_with fail
        refine (cC _ hAt).mono ?_
        rintro e w2 ⟨⟨p, rfl, hp⟩, hb2⟩
        have hX2 := hX1.below hb2 hX1.lt
        have hB2 := hb.trans (hb2.mono hb.size)
        clear p0 p1 hb hb2 hX1 x2 cC hAt
        cases p
        case false =>
          have hno : Hid (¬ P) := HB.out (fun h => by have := hp.2 h.2; cases this)
          clear HB HN hp H1 hd
          go_wp2
          go_ret
          exact told_no hno.out hB2 rfl
        have HF2 : Hid (∀ r ∈ rs.take (k + 1), r.digest.size = 32 ∧ tagsOk r.acks) := HN.out ⟨H1.out, hp.1 rfl⟩
        clear HB HN hp H1
        go_wp2
        go_roundw
        case rel => exact ⟨k + 1, by omega, by go_num, HF2, hX2, hB2⟩
        case measure => simp [intOf]; omega
      · have h1' : ((x.digest.size : Int) != 32) = true := by rw [bne_iff_ne]; omega
        have hno : Hid (¬ P) := HB.out (fun h => h1 h.1)
        clear HB HN h1 cC hd
        go_wp2
        go_ret
        exact told_no hno.out hb rfl
    · have HA : Hid P := by
        have := HF.out
        rw [List.take_of_length_le (by omega)] at this
        exact hd.out.2 this
      clear HF hd
      go_wp2
      go_ret
      exact told_yes HA.out hb rfl
end Go.Proofs.YtaoiejgbbmjpkaaGreatDoor

/- What package msg's arePlainTags, areSized, isPlainHeader and isPlainQc say; nothing old in memory is turned. -/
namespace Go.Proofs.YtaoiejgbbmjpkaaGreatDoor
open Go.RowKit
set_option linter.unusedVariables false

set_option maxRecDepth 100000 in
set_option maxHeartbeats 2000000 in
theorem arePlainTags_any (ao : Option Addr) (cap : Nat) (l : List TagD) (w : World) (hA : RowAt tagK w ao l) (hn : l.length ≤ 4611686018427387903) :
    Calls Tryz.prog 108 #[.slice ao l.length cap] w (Told w (tagsOk l)) := by
  have cT := isPlainTag_any
  go_enter Tryz.func108, Tryz.ntmps108
  by_cases h7 : (7 : Int) < (l.length : Int)
  · have hno : Hid (¬ tagsOk l) := fun h => by have := h.2; omega
    go_wp2
    go_ret
    exact told_no hno.out (Below.refl _ _) rfl
  go_wp2
  go_loopw [4, 10] (fun v4 v10 wr => ∃ k : Nat, k ≤ l.length ∧ v10 = .int .i64 (k : Int) ∧ Hid (∀ t ∈ l.take k, tagOk t) ∧ Below w.heap.size w wr) (fun _ v _ => l.length - (intOf v).toNat)
  case atStart => exact ⟨0, Nat.zero_le _, rfl, (fun t ht => by simp at ht), Below.refl _ _⟩
  case round =>
    obtain ⟨k, hk, rfl, HF, hb⟩ := hrel
    by_cases hlt : k < l.length
    · obtain ⟨t, ht⟩ : ∃ t, l[k]? = some t := ⟨l[k], List.getElem?_eq_getElem hlt⟩
      obtain ⟨b, off, rfl, hbl, y0, y1⟩ := (hA.below hb).tag ht
      have hmem : t ∈ l := List.mem_of_getElem? ht
      have HN : Hid (tagOk t → ∀ t ∈ l.take (k + 1), tagOk t) := by
        intro hf y hy
        have he := (List.getElem?_eq_some_iff.1 ht).2
        rw [List.take_succ_eq_append_getElem hlt, List.mem_append, List.mem_singleton, he] at hy
        rcases hy with hy | rfl
        · exact HF.out y hy
        · exact hf
      have HB : Hid (¬ tagOk t → ¬ tagsOk l) := fun hb h => hb (h.1 t hmem)
      clear HF ht hmem
      have hbx := belowNew wr (.cells #[.int .i64 t.who, .string t.mac] 23)
      have hX := Arr.new wr 23 [.int .i64 t.who, .string t.mac]
      have hb1 := hb.trans (hbx.mono hb.size)
      have x0 := hX.cell (i := 0) rfl
      have x1 := hX.cell (i := 1) rfl
      go_wp2_with fail
      refine (cT t _).mono ?_
      rintro e w2 ⟨⟨p, rfl, hp⟩, hb2⟩
      have hB2 := hb1.trans (hb2.mono hb1.size)
      clear y0 y1 hb hb2 hbx hX x0 x1 hb1
      cases p
      case false =>
        have hno : Hid (¬ tagsOk l) := HB.out (fun h => by have := hp.2 h; cases this)
        clear HB HN hp
        go_wp2
        go_ret
        exact told_no hno.out hB2 rfl
      have HF2 : Hid (∀ t ∈ l.take (k + 1), tagOk t) := HN.out (hp.1 rfl)
      clear HB HN hp
      go_wp2
      go_roundw
      case rel => exact ⟨k + 1, by omega, by go_num, HF2, hB2⟩
      case measure => simp [intOf]; omega
    · have HA : Hid (tagsOk l) := by
        have := HF.out
        rw [List.take_of_length_le (by omega)] at this
        exact ⟨this, by omega⟩
      clear HF
      go_wp2
      go_ret
      exact told_yes HA.out hb rfl

set_option maxRecDepth 100000 in
set_option maxHeartbeats 2000000 in
theorem areSized_any (ao : Option Addr) (cap : Nat) (l : List ByteArray) (m n : Nat) (w : World) (hA : RowAt strK w ao l) (hn : l.length ≤ 4611686018427387903) :
    Calls Tryz.prog 110 #[.slice ao l.length cap, .int .i64 (m : Int), .int .i64 (n : Int)] w (Told w (l.length ≤ m ∧ ∀ s ∈ l, s.size = n)) := by
  obtain ⟨P, hd⟩ : ∃ P : Prop, Hid (P ↔ (l.length ≤ m ∧ ∀ s ∈ l, s.size = n)) := ⟨_, Iff.rfl⟩
  refine Calls.mono ?_ (fun e w' (h : Told w P e w') => h.iff hd.out)
  go_enter Tryz.func110, Tryz.ntmps110
  by_cases h7 : (m : Int) < (l.length : Int)
  · have hno : Hid (¬ P) := fun h => by have := (hd.out.1 h).1; omega
    clear hd
    go_wp2
    go_ret
    exact told_no hno.out (Below.refl _ _) rfl
  go_wp2
  go_loopw [8, 15] (fun v8 v15 wr => ∃ k : Nat, k ≤ l.length ∧ v15 = .int .i64 (k : Int) ∧ Hid (∀ t ∈ l.take k, t.size = n) ∧ Below w.heap.size w wr) (fun _ v _ => l.length - (intOf v).toNat)
  case atStart => exact ⟨0, Nat.zero_le _, rfl, (fun t ht => by simp at ht), Below.refl _ _⟩
  case round =>
    obtain ⟨k, hk, rfl, HF, hb⟩ := hrel
    by_cases hlt : k < l.length
    · obtain ⟨b, off, rfl, hbl, hc⟩ := (hA.below hb).strs k hlt
      by_cases hz : (l[k]).size = n
      · have HN : Hid (∀ s ∈ l.take (k + 1), s.size = n) := by
          intro y hy
          rw [List.take_succ_eq_append_getElem hlt, List.mem_append, List.mem_singleton] at hy
          rcases hy with hy | rfl
          · exact HF.out y hy
          · exact hz
        have hz' : (((l[k]).size : Int) != (n : Int)) = false := by rw [bne_eq_false_iff_eq]; omega
        clear HF hz
        go_wp2
        go_roundw
        case rel => exact ⟨k + 1, by omega, by go_num, HN, hb⟩
        case measure => simp [intOf]; omega
      · have hno : Hid (¬ P) := fun h => hz ((hd.out.1 h).2 _ (List.getElem_mem hlt))
        have hz' : (((l[k]).size : Int) != (n : Int)) = true := by rw [bne_iff_ne]; omega
        clear HF hz hd
        go_wp2
        go_ret
        exact told_no hno.out hb rfl
    · have HA : Hid P := by
        have := HF.out
        rw [List.take_of_length_le (by omega)] at this
        exact hd.out.2 ⟨by omega, this⟩
      clear HF hd
      go_wp2
      go_ret
      exact told_yes HA.out hb rfl

set_option maxRecDepth 100000 in
set_option maxHeartbeats 2000000 in
theorem isPlainQc_any (x : QcM) (w : World) (hA : x.At w) (hn : x.votes.length ≤ 4611686018427387903) :
    Calls Tryz.prog 109 #[x.v] w (Told w x.d.Plain) := by
  obtain ⟨P, hd⟩ : ∃ P : Prop, Hid (P ↔ x.d.Plain) := ⟨_, Iff.rfl⟩
  refine Calls.mono ?_ (fun e w' (h : Told w P e w') => h.iff hd.out)
  obtain ⟨vi, bk, va, vs, vc⟩ := x
  replace hd : Hid (P ↔ (numOk vi ∧ bk.size = 32 ∧ tagsOk vs)) := hd
  have hA1 : RowAt tagK w va vs := hA.votes
  have hX := Arr.new w 35 [.int .i64 vi, .string bk, .slice va vs.length vc]
  have hB := belowNew w (.cells #[.int .i64 vi, .string bk, .slice va vs.length vc] 35)
  have c1 := isNumber_any vi
  have c2 := isDigest_any bk
  have c3 := fun w1 h1 => arePlainTags_any va vc vs w1 h1 hn
  unfold QcM.v
  simp only
  obtain ⟨w1, hw1⟩ : ∃ q', w.alloc (.cells #[.int .i64 vi, .string bk, .slice va vs.length vc] 35) = q' := ⟨_, rfl⟩
  replace hX : Arr w1 w.heap.size 35 [.int .i64 vi, .string bk, .slice va vs.length vc] := by rw [← hw1]; exact hX
  rw [hw1] at hB
  clear hA hn
  have x0 := hX.cell (i := 0) rfl
  go_enter Tryz.func109, Tryz.ntmps109
  go_wp2_with fail
  refine (c1 _).mono ?_
  rintro e w2 ⟨⟨p, rfl, hp⟩, hb2⟩
  have hX2 := hX.below hb2 hX.lt
  have hB2 := hB.trans (hb2.mono hB.size)
  clear hX hB hb2 x0 c1 hw1
  have x1 := hX2.cell (i := 1) rfl
  cases p
  case false =>
    have hno : Hid (¬ P) := fun h => by have := hp.2 (hd.out.1 h).1; cases this
    clear hd hp
    go_wp2
    go_ret
    exact told_no hno.out hB2 rfl
  replace hd : Hid (P ↔ (bk.size = 32 ∧ tagsOk vs)) := ⟨fun h => (hd.out.1 h).2, fun h => hd.out.2 ⟨hp.1 rfl, h⟩⟩
  clear hp
  go_wp2_with fail
  refine (c2 _).mono ?_
  rintro e w3 ⟨⟨p, rfl, hp⟩, hb3⟩
  have hX3 := hX2.below hb3 hX2.lt
  have hB3 := hB2.trans (hb3.mono hB2.size)
  clear hX2 hB2 hb3 x1 c2
  have x2 := hX3.cell (i := 2) rfl
  cases p
  case false =>
    have hno : Hid (¬ P) := fun h => by have := hp.2 (hd.out.1 h).1; cases this
    clear hd hp
    go_wp2
    go_ret
    exact told_no hno.out hB3 rfl
  replace hd : Hid (P ↔ (tagsOk vs)) := ⟨fun h => (hd.out.1 h).2, fun h => hd.out.2 ⟨hp.1 rfl, h⟩⟩
  clear hp
  go_wp2_with fail
  refine (c3 _ (hA1.below hB3)).mono ?_
  rintro e w4 ⟨⟨p, rfl, hp⟩, hb4⟩
  have hB4 := hB3.trans (hb4.mono hB3.size)
  have hF : Hid (p = true ↔ P) := hp.trans hd.out.symm
  clear hd hp hB3 hb4 x2 c3 hX3
  go_wp2
  go_ret
  exact ⟨⟨_, rfl, hF.out⟩, hB4⟩

set_option maxRecDepth 100000 in
set_option maxHeartbeats 4000000 in
theorem isPlainHeader_any (x : HdrM) (w : World) (hA : x.At w) (hn : x.refs.length ≤ 4611686018427387903) (hp : x.parents.length ≤ 4611686018427387903) (hL : ∀ r ∈ x.refs, r.acks.length ≤ 4611686018427387903) :
    Calls Tryz.prog 107 #[x.v] w (Told w x.d.Plain) := by
  obtain ⟨P, hd⟩ : ∃ P : Prop, Hid (P ↔ x.d.Plain) := ⟨_, Iff.rfl⟩
  refine Calls.mono ?_ (fun e w' (h : Told w P e w') => h.iff hd.out)
  replace hd : Hid (P ↔ _) := hd.out.trans (hdrPlain_iff x)
  obtain ⟨au, ro, ra, rs, rc, pa, ps, pc⟩ := x
  replace hd : Hid (P ↔ ((0 ≤ au ∧ au ≤ 6) ∧ numOk ro ∧ rs.length ≤ 4 ∧ (ps.length ≤ 7 ∧ ∀ p ∈ ps, p.size = 32) ∧ ∀ r ∈ rs, r.digest.size = 32 ∧ tagsOk r.acks)) :=
    hd.out.trans ⟨fun h => ⟨⟨h.1, h.2.1⟩, h.2.2.1, h.2.2.2.1, ⟨h.2.2.2.2.1.2, h.2.2.2.2.1.1⟩, h.2.2.2.2.2⟩, fun h => ⟨h.1.1, h.1.2, h.2.1, h.2.2.1, ⟨h.2.2.2.1.2, h.2.2.2.1.1⟩, h.2.2.2.2⟩⟩
  have hA1 : RowAt refK w ra rs := hA.refs
  have hA2 : RowAt strK w pa ps := hA.ps
  have hn' : rs.length ≤ 4611686018427387903 := hn
  have hp' : ps.length ≤ 4611686018427387903 := hp
  have hL' : ∀ r ∈ rs, r.acks.length ≤ 4611686018427387903 := hL
  have hX := Arr.new w 30 [.int .i64 au, .int .i64 ro, .slice ra rs.length rc, .slice pa ps.length pc]
  have hB := belowNew w (.cells #[.int .i64 au, .int .i64 ro, .slice ra rs.length rc, .slice pa ps.length pc] 30)
  have cV := isValidator_any au
  have cN := isNumber_any ro
  have cS := fun w1 h1 => areSized_any pa pc ps 7 32 w1 h1 hp'
  unfold HdrM.v
  simp only
  clear hA hn hp hL
  obtain ⟨w1, hw1⟩ : ∃ q', w.alloc (.cells #[.int .i64 au, .int .i64 ro, .slice ra rs.length rc, .slice pa ps.length pc] 30) = q' := ⟨_, rfl⟩
  replace hX : Arr w1 w.heap.size 30 [.int .i64 au, .int .i64 ro, .slice ra rs.length rc, .slice pa ps.length pc] := by rw [← hw1]; exact hX
  rw [hw1] at hB
  have x0 := hX.cell (i := 0) rfl
  go_enter Tryz.func107, Tryz.ntmps107
  go_wp2_with fail
  refine (cV _).mono ?_
  rintro e w2 ⟨⟨p, rfl, hp⟩, hb2⟩
  have hX2 := hX.below hb2 hX.lt
  have hB2 := hB.trans (hb2.mono hB.size)
  clear hX hB hb2 x0 cV hw1
  have x1 := hX2.cell (i := 1) rfl
  cases p
  case false =>
    have hno : Hid (¬ P) := fun h => by have := hp.2 (hd.out.1 h).1; cases this
    clear hd hp
    go_wp2
    go_ret
    exact told_no hno.out hB2 rfl
  replace hd : Hid (P ↔ (numOk ro ∧ rs.length ≤ 4 ∧ (ps.length ≤ 7 ∧ ∀ p ∈ ps, p.size = 32) ∧ ∀ r ∈ rs, r.digest.size = 32 ∧ tagsOk r.acks)) := ⟨fun h => (hd.out.1 h).2, fun h => hd.out.2 ⟨hp.1 rfl, h⟩⟩
  clear hp
  go_wp2_with fail
  refine (cN _).mono ?_
  rintro e w3 ⟨⟨p, rfl, hp⟩, hb3⟩
  have hX3 := hX2.below hb3 hX2.lt
  have hB3 := hB2.trans (hb3.mono hB2.size)
  clear hX2 hB2 hb3 x1 cN
  have x2 := hX3.cell (i := 2) rfl
  cases p
  case false =>
    have hno : Hid (¬ P) := fun h => by have := hp.2 (hd.out.1 h).1; cases this
    clear hd hp
    go_wp2
    go_ret
    exact told_no hno.out hB3 rfl
  replace hd : Hid (P ↔ (rs.length ≤ 4 ∧ (ps.length ≤ 7 ∧ ∀ p ∈ ps, p.size = 32) ∧ ∀ r ∈ rs, r.digest.size = 32 ∧ tagsOk r.acks)) := ⟨fun h => (hd.out.1 h).2, fun h => hd.out.2 ⟨hp.1 rfl, h⟩⟩
  clear hp
  by_cases h3 : (4 : Int) < (rs.length : Int)
  · have hno : Hid (¬ P) := fun h => by have := (hd.out.1 h).1; omega
    clear hd
    go_wp2
    go_ret
    exact told_no hno.out hB3 rfl
  replace hd : Hid (P ↔ ((ps.length ≤ 7 ∧ ∀ p ∈ ps, p.size = 32) ∧ ∀ r ∈ rs, r.digest.size = 32 ∧ tagsOk r.acks)) := ⟨fun h => (hd.out.1 h).2, fun h => hd.out.2 ⟨by omega, h⟩⟩
  go_wp2
  go_loopw [4, 24] (fun v4 v24 wr => ∃ k : Nat, k ≤ rs.length ∧ v24 = .int .i64 (k : Int) ∧ Hid (∀ r ∈ rs.take k, r.digest.size = 32 ∧ tagsOk r.acks) ∧ Arr wr w.heap.size 30 [.int .i64 au, .int .i64 ro, .slice ra rs.length rc, .slice pa ps.length pc] ∧ Below w.heap.size w wr) (fun _ v _ => rs.length - (intOf v).toNat)
  case atStart => exact ⟨0, Nat.zero_le _, rfl, (fun t ht => by simp at ht), hX3, hB3⟩
  case round =>
    clear hX3 hB3 x2
    obtain ⟨k, hk, rfl, HF, hX, hb⟩ := hrel
    by_cases hlt : k < rs.length
    · obtain ⟨r, hr⟩ : ∃ r, rs[k]? = some r := ⟨rs[k], List.getElem?_eq_getElem hlt⟩
      have hmem : r ∈ rs := List.mem_of_getElem? hr
      have hak := ((hA1.below hb).at_ r hmem).1
      have HN : Hid ((r.digest.size = 32 ∧ tagsOk r.acks) → ∀ r ∈ rs.take (k + 1), r.digest.size = 32 ∧ tagsOk r.acks) := by
        intro hf y hy
        have he := (List.getElem?_eq_some_iff.1 hr).2
        rw [List.take_succ_eq_append_getElem hlt, List.mem_append, List.mem_singleton, he] at hy
        rcases hy with hy | rfl
        · exact HF.out y hy
        · exact hf
      have HB : Hid (¬ (r.digest.size = 32 ∧ tagsOk r.acks) → ¬ P) := fun hb h => hb ((hd.out.1 h).2 r hmem)
      have hrl := hL' r hmem
      obtain ⟨b, off, rfl, hbl, y0, y1⟩ := (hA1.below hb).ref hr
      clear HF hr hmem
      have cG := isDigest_any r.digest
      have cT := fun w1 h1 => arePlainTags_any r.ao r.cap r.acks w1 h1 hrl
      have hbx := belowNew wr (.cells #[.string r.digest, .slice r.ao r.acks.length r.cap] 53)
      have hR := Arr.new wr 53 [.string r.digest, .slice r.ao r.acks.length r.cap]
      have hXn := hX.below hbx hX.lt
      have hb1 := hb.trans (hbx.mono hb.size)
      have ha1 := hak.below hbx
      obtain ⟨w4, hw4⟩ : ∃ q', wr.alloc (.cells #[.string r.digest, .slice r.ao r.acks.length r.cap] 53) = q' := ⟨_, rfl⟩
      replace hR : Arr w4 wr.heap.size 53 [.string r.digest, .slice r.ao r.acks.length r.cap] := by rw [← hw4]; exact hR
      rw [hw4] at hXn hb1 ha1 hbx
      have z0 := hR.cell (i := 0) rfl
      have x2 := hX.cell (i := 2) rfl
      go_wp2_with fail
      refine (cG _).mono ?_
      rintro e w5 ⟨⟨p, rfl, hp⟩, hb5⟩
      have hX5 := hXn.below hb5 hXn.lt
      have hR5 := hR.below hb5 hR.lt
      have hB5 := hb1.trans (hb5.mono hb1.size)
      have hA5 := ha1.below hb5
      clear hX hXn hR hb1 ha1 hbx hb5 hw4 y0 y1 z0 hak hb x2 cG
      have z1 := hR5.cell (i := 1) rfl
      cases p
      case false =>
        have hno : Hid (¬ P) := HB.out (fun h => by have := hp.2 h.1; cases this)
        clear HB HN hp hd
        go_wp2
        go_ret
        exact told_no hno.out hB5 rfl
      have hdz : Hid (r.digest.size = 32) := hp.1 rfl
      clear hp
      go_wp2_with fail
      refine (cT _ hA5).mono ?_
      rintro e w6 ⟨⟨p, rfl, hp2⟩, hb6⟩
      have hX6 := hX5.below hb6 hX5.lt
      have hB6 := hB5.trans (hb6.mono hB5.size)
      clear hX5 hB5 hR5 hA5 hb6 z1 cT
      cases p
      case false =>
        have hno : Hid (¬ P) := HB.out (fun h => by have := hp2.2 h.2; cases this)
        clear HB HN hdz hp2 hd
        go_wp2
        go_ret
        exact told_no hno.out hB6 rfl
      have HF2 : Hid (∀ r ∈ rs.take (k + 1), r.digest.size = 32 ∧ tagsOk r.acks) := HN.out ⟨hdz.out, hp2.1 rfl⟩
      clear HB HN hdz hp2
      go_wp2
      go_roundw
      case rel => exact ⟨k + 1, by omega, by go_num, HF2, hX6, hB6⟩
      case measure => simp [intOf]; omega
    · have HA : Hid (P ↔ (ps.length ≤ 7 ∧ ∀ p ∈ ps, p.size = 32)) := by
        have := HF.out
        rw [List.take_of_length_le (by omega)] at this
        exact hd.out.trans ⟨fun h => h.1, fun h => ⟨h, this⟩⟩
      clear HF hd
      have x3 := hX.cell (i := 3) rfl
      have hA3 := hA2.below hb
      go_wp2_with fail
      refine (cS _ hA3).mono ?_
      rintro e w5 ⟨⟨p, rfl, hp⟩, hb5⟩
      have hB5 := hb.trans (hb5.mono hb.size)
      have hF : Hid (p = true ↔ P) := hp.trans HA.out.symm
      clear HA hp hb hb5 x3 hX hA3
      go_wp2
      go_ret
      exact ⟨⟨_, rfl, hF.out⟩, hB5⟩
end Go.Proofs.YtaoiejgbbmjpkaaGreatDoor
