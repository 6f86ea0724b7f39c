/- Texts as one: MsgRefHead, MsgLists, MsgZero, MsgRune. -/
import Derived.Test.YtaoiejgbbmjpkaaGreatDoorWk10
import Derived.Deep.RegionHeld3
import Derived.Lib.Bytealg
import Derived.Lib.IndexAny
/- What tuskref09.head says of a header; nothing old in memory is turned. -/
namespace Go.Proofs.YtaoiejgbbmjpkaaGreatDoor
open Go.RowKit
set_option linter.unusedVariables false

theorem hdrPlain_iff (x : HdrM) : x.d.Plain ↔ (0 ≤ x.author ∧ x.author ≤ 6 ∧ numOk x.round ∧ x.refs.length ≤ 4 ∧ ((∀ p ∈ x.parents, p.size = 32) ∧ x.parents.length ≤ 7) ∧ ∀ r ∈ x.refs, r.digest.size = 32 ∧ tagsOk r.acks) := by
  show ((0 ≤ x.author ∧ x.author ≤ 6 ∧ numOk x.round ∧ (rd x.refs).length ≤ 4 ∧ x.parents.length ≤ 7) ∧ (∀ p ∈ x.parents, p.size = 32) ∧ ∀ r ∈ rd x.refs, r.digest.size = 32 ∧ tagsOk r.acks) ↔ _
  rw [rd_length]
  constructor
  · rintro ⟨⟨h1, h2, h3, h4, h5⟩, h6, h7⟩
    exact ⟨h1, h2, h3, h4, ⟨h6, h5⟩, fun r hr => h7 r.d (List.mem_map.2 ⟨r, hr, rfl⟩)⟩
  · rintro ⟨h1, h2, h3, h4, ⟨h6, h5⟩, h7⟩
    exact ⟨⟨h1, h2, h3, h4, h5⟩, h6, fun y hy => by
      obtain ⟨r, hr, rfl⟩ := List.mem_map.1 hy
      exact h7 r hr⟩

set_option maxRecDepth 100000 in
set_option maxHeartbeats 4000000 in
theorem refHead_any (x : HdrM) (w : World) (hA : x.At w) (hn : x.refs.length ≤ 4611686018427387903) (hp : x.parents.length ≤ 4611686018427387903) (hL : ∀ r ∈ x.refs, r.acks.length ≤ 4611686018427387903) :
    Calls Tryz.prog 50 #[x.v] w (Told w x.d.Plain) := by
  obtain ⟨P, hd⟩ : ∃ P : Prop, Hid (P ↔ x.d.Plain) := ⟨_, Iff.rfl⟩
  refine Calls.mono ?_ (fun e w' (h : Told w P e w') => h.iff hd.out)
  replace hd : Hid (P ↔ _) := hd.out.trans (hdrPlain_iff x)
  obtain ⟨au, ro, ra, rs, rc, pa, ps, pc⟩ := x
  replace hd : Hid (P ↔ (0 ≤ au ∧ au ≤ 6 ∧ numOk ro ∧ rs.length ≤ 4 ∧ ((∀ p ∈ ps, p.size = 32) ∧ ps.length ≤ 7) ∧ ∀ r ∈ rs, r.digest.size = 32 ∧ tagsOk r.acks)) := hd
  have hA1 : RowAt refK w ra rs := hA.refs
  have hA2 : RowAt strK w pa ps := hA.ps
  have hn' : rs.length ≤ 4611686018427387903 := hn
  have hp' : ps.length ≤ 4611686018427387903 := hp
  have hL' : ∀ r ∈ rs, r.acks.length ≤ 4611686018427387903 := hL
  have hX := Arr.new w 30 [.int .i64 au, .int .i64 ro, .slice ra rs.length rc, .slice pa ps.length pc]
  have hB := belowNew w (.cells #[.int .i64 au, .int .i64 ro, .slice ra rs.length rc, .slice pa ps.length pc] 30)
  have cN := refNumber_any ro
  have cD := fun w1 h1 => refDigests_any pa pc ps 7 32 w1 h1 hp'
  unfold HdrM.v
  simp only
  clear hA hn hp hL
  have x0 := hX.cell (i := 0) rfl
  have x1 := hX.cell (i := 1) rfl
  obtain ⟨w1, hw1⟩ : ∃ q', w.alloc (.cells #[.int .i64 au, .int .i64 ro, .slice ra rs.length rc, .slice pa ps.length pc] 30) = q' := ⟨_, rfl⟩
  replace hX : Arr w1 w.heap.size 30 [.int .i64 au, .int .i64 ro, .slice ra rs.length rc, .slice pa ps.length pc] := by rw [← hw1]; exact hX
  rw [hw1] at hB x0 x1
  go_enter Tryz.func50, Tryz.ntmps50
  by_cases h1 : au < 0
  · have hno : Hid (¬ P) := fun h => by have := (hd.out.1 h).1; omega
    clear hd
    go_wp2
    go_ret
    exact told_no hno.out hB rfl
  by_cases h2 : 6 < au
  · have hno : Hid (¬ P) := fun h => by have := (hd.out.1 h).2.1; omega
    clear hd
    go_wp2
    go_ret
    exact told_no hno.out hB rfl
  replace hd : Hid (P ↔ (numOk ro ∧ rs.length ≤ 4 ∧ ((∀ p ∈ ps, p.size = 32) ∧ ps.length ≤ 7) ∧ ∀ r ∈ rs, r.digest.size = 32 ∧ tagsOk r.acks)) := ⟨fun h => (hd.out.1 h).2.2, fun h => hd.out.2 ⟨by omega, by omega, h⟩⟩
  go_wp2_with fail
  refine (cN _).mono ?_
  rintro e w2 ⟨⟨p, rfl, hp⟩, hb2⟩
  have hX2 := hX.below hb2 hX.lt
  have hB2 := hB.trans (hb2.mono hB.size)
  clear hX hB hb2 x0 x1 cN hw1
  have x2 := hX2.cell (i := 2) rfl
  have x3 := hX2.cell (i := 3) rfl
  cases p
  case false =>
    have hno : Hid (¬ P) := fun h => by have := hp.2 (hd.out.1 h).1; cases this
    clear hd hp
    go_wp2
    go_ret
    exact told_no hno.out hB2 rfl
  replace hd : Hid (P ↔ (rs.length ≤ 4 ∧ ((∀ p ∈ ps, p.size = 32) ∧ ps.length ≤ 7) ∧ ∀ r ∈ rs, r.digest.size = 32 ∧ tagsOk r.acks)) := ⟨fun h => (hd.out.1 h).2, fun h => hd.out.2 ⟨hp.1 rfl, h⟩⟩
  clear hp
  by_cases h3 : (4 : Int) < (rs.length : Int)
  · have hno : Hid (¬ P) := fun h => by have := (hd.out.1 h).1; omega
    clear hd
    go_wp2
    go_ret
    exact told_no hno.out hB2 rfl
  replace hd : Hid (P ↔ (((∀ p ∈ ps, p.size = 32) ∧ ps.length ≤ 7) ∧ ∀ r ∈ rs, r.digest.size = 32 ∧ tagsOk r.acks)) := ⟨fun h => (hd.out.1 h).2, fun h => hd.out.2 ⟨by omega, h⟩⟩
  go_wp2_with fail
  refine (cD _ (hA2.below hB2)).mono ?_
  rintro e w3 ⟨⟨p, rfl, hp⟩, hb3⟩
  have hX3 := hX2.below hb3 hX2.lt
  have hB3 := hB2.trans (hb3.mono hB2.size)
  clear hX2 hB2 hb3 x2 x3 cD
  cases p
  case false =>
    have hno : Hid (¬ P) := fun h => by have := hp.2 (hd.out.1 h).1; cases this
    clear hd hp
    go_wp2
    go_ret
    exact told_no hno.out hB3 rfl
  replace hd : Hid (P ↔ (∀ r ∈ rs, r.digest.size = 32 ∧ tagsOk r.acks)) := ⟨fun h => (hd.out.1 h).2, fun h => hd.out.2 ⟨hp.1 rfl, h⟩⟩
  clear hp h1 h2
  go_wp2
  go_loopw [3] (fun v3 wr => ∃ k : Nat, k ≤ rs.length ∧ v3 = .int .i64 (k : Int) ∧ Hid (∀ r ∈ rs.take k, r.digest.size = 32 ∧ tagsOk r.acks) ∧ Arr wr w.heap.size 30 [.int .i64 au, .int .i64 ro, .slice ra rs.length rc, .slice pa ps.length pc] ∧ Below w.heap.size w wr) (fun v _ => rs.length - (intOf v).toNat)
  case atStart => exact ⟨0, Nat.zero_le _, rfl, (fun t ht => by simp at ht), hX3, hB3⟩
  case round =>
    clear hX3 hB3
    obtain ⟨k, hk, rfl, HF, hX1, hb⟩ := hrel
    have x2 := hX1.cell (i := 2) rfl
    by_cases hlt : k < rs.length
    · obtain ⟨x, hx⟩ : ∃ x, rs[k]? = some x := ⟨rs[k], List.getElem?_eq_getElem hlt⟩
      obtain ⟨b, off, rfl, hbl, p0, p1⟩ := (hA1.below hb).ref hx
      have hAt := ((hA1.below hb).at_ x (List.mem_of_getElem? hx)).1
      have hmem : x ∈ rs := List.mem_of_getElem? hx
      have hl1 := hL' x hmem
      have cC := fun w1 (h : RowAt tagK w1 x.ao x.acks) => refTags9_any x.ao x.cap x.acks w1 h hl1
      have HN : Hid ((x.digest.size = 32 ∧ tagsOk x.acks) → ∀ r ∈ rs.take (k + 1), r.digest.size = 32 ∧ tagsOk r.acks) := by
        intro hf y hy
        have he := (List.getElem?_eq_some_iff.1 hx).2
        rw [List.take_succ_eq_append_getElem hlt, List.mem_append, List.mem_singleton, he] at hy
        rcases hy with hy | rfl
        · exact HF.out y hy
        · exact hf
      have HB : Hid (¬ (x.digest.size = 32 ∧ tagsOk x.acks) → ¬ P) := fun hb h => hb (hd.out.1 h x hmem)
      clear HF hx hmem
      by_cases h1 : x.digest.size = 32
      · have h1' : ((x.digest.size : Int) != 32) = false := by rw [bne_eq_false_iff_eq]; omega
        have H1 : Hid (x.digest.size = 32) := h1
        clear h1
        go_wp2_with fail
        refine (cC _ hAt).mono ?_
        rintro e w2 ⟨⟨p, rfl, hp⟩, hb2⟩
        have hX2 := hX1.below hb2 hX1.lt
        have hB2 := hb.trans (hb2.mono hb.size)
        clear p0 p1 hb hb2 hX1 x2 cC hAt
        cases p
        case false =>
          have hno : Hid (¬ P) := HB.out (fun h => by have := hp.2 h.2; cases this)
          clear HB HN hp H1 hd
          go_wp2
          go_ret
          exact told_no hno.out hB2 rfl
        have HF2 : Hid (∀ r ∈ rs.take (k + 1), r.digest.size = 32 ∧ tagsOk r.acks) := HN.out ⟨H1.out, hp.1 rfl⟩
        clear HB HN hp H1
        go_wp2
        go_roundw
        case rel => exact ⟨k + 1, by omega, by go_num, HF2, hX2, hB2⟩
        case measure => simp [intOf]; omega
      · have h1' : ((x.digest.size : Int) != 32) = true := by rw [bne_iff_ne]; omega
        have hno : Hid (¬ P) := HB.out (fun h => h1 h.1)
        clear HB HN h1 cC hd
        go_wp2
        go_ret
        exact told_no hno.out hb rfl
    · have HA : Hid P := by
        have := HF.out
        rw [List.take_of_length_le (by omega)] at this
        exact hd.out.2 this
      clear HF hd
      go_wp2
      go_ret
      exact told_yes HA.out hb rfl
end Go.Proofs.YtaoiejgbbmjpkaaGreatDoor

/- What package msg's arePlainTags, areSized, isPlainHeader and isPlainQc say; nothing old in memory is turned. -/
namespace Go.Proofs.YtaoiejgbbmjpkaaGreatDoor
open Go.RowKit
set_option linter.unusedVariables false

set_option maxRecDepth 100000 in
set_option maxHeartbeats 2000000 in
theorem arePlainTags_any (ao : Option Addr) (cap : Nat) (l : List TagD) (w : World) (hA : RowAt tagK w ao l) (hn : l.length ≤ 4611686018427387903) :
    Calls Tryz.prog 108 #[.slice ao l.length cap] w (Told w (tagsOk l)) := by
  have cT := isPlainTag_any
  go_enter Tryz.func108, Tryz.ntmps108
  by_cases h7 : (7 : Int) < (l.length : Int)
  · have hno : Hid (¬ tagsOk l) := fun h => by have := h.2; omega
    go_wp2
    go_ret
    exact told_no hno.out (Below.refl _ _) rfl
  go_wp2
  go_loopw [4, 10] (fun v4 v10 wr => ∃ k : Nat, k ≤ l.length ∧ v10 = .int .i64 (k : Int) ∧ Hid (∀ t ∈ l.take k, tagOk t) ∧ Below w.heap.size w wr) (fun _ v _ => l.length - (intOf v).toNat)
  case atStart => exact ⟨0, Nat.zero_le _, rfl, (fun t ht => by simp at ht), Below.refl _ _⟩
  case round =>
    obtain ⟨k, hk, rfl, HF, hb⟩ := hrel
    by_cases hlt : k < l.length
    · obtain ⟨t, ht⟩ : ∃ t, l[k]? = some t := ⟨l[k], List.getElem?_eq_getElem hlt⟩
      obtain ⟨b, off, rfl, hbl, y0, y1⟩ := (hA.below hb).tag ht
      have hmem : t ∈ l := List.mem_of_getElem? ht
      have HN : Hid (tagOk t → ∀ t ∈ l.take (k + 1), tagOk t) := by
        intro hf y hy
        have he := (List.getElem?_eq_some_iff.1 ht).2
        rw [List.take_succ_eq_append_getElem hlt, List.mem_append, List.mem_singleton, he] at hy
        rcases hy with hy | rfl
        · exact HF.out y hy
        · exact hf
      have HB : Hid (¬ tagOk t → ¬ tagsOk l) := fun hb h => hb (h.1 t hmem)
      clear HF ht hmem
      have hbx := belowNew wr (.cells #[.int .i64 t.who, .string t.mac] 23)
      have hX := Arr.new wr 23 [.int .i64 t.who, .string t.mac]
      have hb1 := hb.trans (hbx.mono hb.size)
      have x0 := hX.cell (i := 0) rfl
      have x1 := hX.cell (i := 1) rfl
      go_wp2_with fail
      refine (cT t _).mono ?_
      rintro e w2 ⟨⟨p, rfl, hp⟩, hb2⟩
      have hB2 := hb1.trans (hb2.mono hb1.size)
      clear y0 y1 hb hb2 hbx hX x0 x1 hb1
      cases p
      case false =>
        have hno : Hid (¬ tagsOk l) := HB.out (fun h => by have := hp.2 h; cases this)
        clear HB HN hp
        go_wp2
        go_ret
        exact told_no hno.out hB2 rfl
      have HF2 : Hid (∀ t ∈ l.take (k + 1), tagOk t) := HN.out (hp.1 rfl)
      clear HB HN hp
      go_wp2
      go_roundw
      case rel => exact ⟨k + 1, by omega, by go_num, HF2, hB2⟩
      case measure => simp [intOf]; omega
    · have HA : Hid (tagsOk l) := by
        have := HF.out
        rw [List.take_of_length_le (by omega)] at this
        exact ⟨this, by omega⟩
      clear HF
      go_wp2
      go_ret
      exact told_yes HA.out hb rfl

set_option maxRecDepth 100000 in
set_option maxHeartbeats 2000000 in
theorem areSized_any (ao : Option Addr) (cap : Nat) (l : List ByteArray) (m n : Nat) (w : World) (hA : RowAt strK w ao l) (hn : l.length ≤ 4611686018427387903) :
    Calls Tryz.prog 110 #[.slice ao l.length cap, .int .i64 (m : Int), .int .i64 (n : Int)] w (Told w (l.length ≤ m ∧ ∀ s ∈ l, s.size = n)) := by
  obtain ⟨P, hd⟩ : ∃ P : Prop, Hid (P ↔ (l.length ≤ m ∧ ∀ s ∈ l, s.size = n)) := ⟨_, Iff.rfl⟩
  refine Calls.mono ?_ (fun e w' (h : Told w P e w') => h.iff hd.out)
  go_enter Tryz.func110, Tryz.ntmps110
  by_cases h7 : (m : Int) < (l.length : Int)
  · have hno : Hid (¬ P) := fun h => by have := (hd.out.1 h).1; omega
    clear hd
    go_wp2
    go_ret
    exact told_no hno.out (Below.refl _ _) rfl
  go_wp2
  go_loopw [8, 15] (fun v8 v15 wr => ∃ k : Nat, k ≤ l.length ∧ v15 = .int .i64 (k : Int) ∧ Hid (∀ t ∈ l.take k, t.size = n) ∧ Below w.heap.size w wr) (fun _ v _ => l.length - (intOf v).toNat)
  case atStart => exact ⟨0, Nat.zero_le _, rfl, (fun t ht => by simp at ht), Below.refl _ _⟩
  case round =>
    obtain ⟨k, hk, rfl, HF, hb⟩ := hrel
    by_cases hlt : k < l.length
    · obtain ⟨b, off, rfl, hbl, hc⟩ := (hA.below hb).strs k hlt
      by_cases hz : (l[k]).size = n
      · have HN : Hid (∀ s ∈ l.take (k + 1), s.size = n) := by
          intro y hy
          rw [List.take_succ_eq_append_getElem hlt, List.mem_append, List.mem_singleton] at hy
          rcases hy with hy | rfl
          · exact HF.out y hy
          · exact hz
        have hz' : (((l[k]).size : Int) != (n : Int)) = false := by rw [bne_eq_false_iff_eq]; omega
        clear HF hz
        go_wp2
        go_roundw
        case rel => exact ⟨k + 1, by omega, by go_num, HN, hb⟩
        case measure => simp [intOf]; omega
      · have hno : Hid (¬ P) := fun h => hz ((hd.out.1 h).2 _ (List.getElem_mem hlt))
        have hz' : (((l[k]).size : Int) != (n : Int)) = true := by rw [bne_iff_ne]; omega
        clear HF hz hd
        go_wp2
        go_ret
        exact told_no hno.out hb rfl
    · have HA : Hid P := by
        have := HF.out
        rw [List.take_of_length_le (by omega)] at this
        exact hd.out.2 ⟨by omega, this⟩
      clear HF hd
      go_wp2
      go_ret
      exact told_yes HA.out hb rfl

set_option maxRecDepth 100000 in
set_option maxHeartbeats 2000000 in
theorem isPlainQc_any (x : QcM) (w : World) (hA : x.At w) (hn : x.votes.length ≤ 4611686018427387903) :
    Calls Tryz.prog 109 #[x.v] w (Told w x.d.Plain) := by
  obtain ⟨P, hd⟩ : ∃ P : Prop, Hid (P ↔ x.d.Plain) := ⟨_, Iff.rfl⟩
  refine Calls.mono ?_ (fun e w' (h : Told w P e w') => h.iff hd.out)
  obtain ⟨vi, bk, va, vs, vc⟩ := x
  replace hd : Hid (P ↔ (numOk vi ∧ bk.size = 32 ∧ tagsOk vs)) := hd
  have hA1 : RowAt tagK w va vs := hA.votes
  have hX := Arr.new w 35 [.int .i64 vi, .string bk, .slice va vs.length vc]
  have hB := belowNew w (.cells #[.int .i64 vi, .string bk, .slice va vs.length vc] 35)
  have c1 := isNumber_any vi
  have c2 := isDigest_any bk
  have c3 := fun w1 h1 => arePlainTags_any va vc vs w1 h1 hn
  unfold QcM.v
  simp only
  obtain ⟨w1, hw1⟩ : ∃ q', w.alloc (.cells #[.int .i64 vi, .string bk, .slice va vs.length vc] 35) = q' := ⟨_, rfl⟩
  replace hX : Arr w1 w.heap.size 35 [.int .i64 vi, .string bk, .slice va vs.length vc] := by rw [← hw1]; exact hX
  rw [hw1] at hB
  clear hA hn
  have x0 := hX.cell (i := 0) rfl
  go_enter Tryz.func109, Tryz.ntmps109
  go_wp2_with fail
  refine (c1 _).mono ?_
  rintro e w2 ⟨⟨p, rfl, hp⟩, hb2⟩
  have hX2 := hX.below hb2 hX.lt
  have hB2 := hB.trans (hb2.mono hB.size)
  clear hX hB hb2 x0 c1 hw1
  have x1 := hX2.cell (i := 1) rfl
  cases p
  case false =>
    have hno : Hid (¬ P) := fun h => by have := hp.2 (hd.out.1 h).1; cases this
    clear hd hp
    go_wp2
    go_ret
    exact told_no hno.out hB2 rfl
  replace hd : Hid (P ↔ (bk.size = 32 ∧ tagsOk vs)) := ⟨fun h => (hd.out.1 h).2, fun h => hd.out.2 ⟨hp.1 rfl, h⟩⟩
  clear hp
  go_wp2_with fail
  refine (c2 _).mono ?_
  rintro e w3 ⟨⟨p, rfl, hp⟩, hb3⟩
  have hX3 := hX2.below hb3 hX2.lt
  have hB3 := hB2.trans (hb3.mono hB2.size)
  clear hX2 hB2 hb3 x1 c2
  have x2 := hX3.cell (i := 2) rfl
  cases p
  case false =>
    have hno : Hid (¬ P) := fun h => by have := hp.2 (hd.out.1 h).1; cases this
    clear hd hp
    go_wp2
    go_ret
    exact told_no hno.out hB3 rfl
  replace hd : Hid (P ↔ (tagsOk vs)) := ⟨fun h => (hd.out.1 h).2, fun h => hd.out.2 ⟨hp.1 rfl, h⟩⟩
  clear hp
  go_wp2_with fail
  refine (c3 _ (hA1.below hB3)).mono ?_
  rintro e w4 ⟨⟨p, rfl, hp⟩, hb4⟩
  have hB4 := hB3.trans (hb4.mono hB3.size)
  have hF : Hid (p = true ↔ P) := hp.trans hd.out.symm
  clear hd hp hB3 hb4 x2 c3 hX3
  go_wp2
  go_ret
  exact ⟨⟨_, rfl, hF.out⟩, hB4⟩

set_option maxRecDepth 100000 in
set_option maxHeartbeats 4000000 in
theorem isPlainHeader_any (x : HdrM) (w : World) (hA : x.At w) (hn : x.refs.length ≤ 4611686018427387903) (hp : x.parents.length ≤ 4611686018427387903) (hL : ∀ r ∈ x.refs, r.acks.length ≤ 4611686018427387903) :
    Calls Tryz.prog 107 #[x.v] w (Told w x.d.Plain) := by
  obtain ⟨P, hd⟩ : ∃ P : Prop, Hid (P ↔ x.d.Plain) := ⟨_, Iff.rfl⟩
  refine Calls.mono ?_ (fun e w' (h : Told w P e w') => h.iff hd.out)
  replace hd : Hid (P ↔ _) := hd.out.trans (hdrPlain_iff x)
  obtain ⟨au, ro, ra, rs, rc, pa, ps, pc⟩ := x
  replace hd : Hid (P ↔ ((0 ≤ au ∧ au ≤ 6) ∧ numOk ro ∧ rs.length ≤ 4 ∧ (ps.length ≤ 7 ∧ ∀ p ∈ ps, p.size = 32) ∧ ∀ r ∈ rs, r.digest.size = 32 ∧ tagsOk r.acks)) :=
    hd.out.trans ⟨fun h => ⟨⟨h.1, h.2.1⟩, h.2.2.1, h.2.2.2.1, ⟨h.2.2.2.2.1.2, h.2.2.2.2.1.1⟩, h.2.2.2.2.2⟩, fun h => ⟨h.1.1, h.1.2, h.2.1, h.2.2.1, ⟨h.2.2.2.1.2, h.2.2.2.1.1⟩, h.2.2.2.2⟩⟩
  have hA1 : RowAt refK w ra rs := hA.refs
  have hA2 : RowAt strK w pa ps := hA.ps
  have hn' : rs.length ≤ 4611686018427387903 := hn
  have hp' : ps.length ≤ 4611686018427387903 := hp
  have hL' : ∀ r ∈ rs, r.acks.length ≤ 4611686018427387903 := hL
  have hX := Arr.new w 30 [.int .i64 au, .int .i64 ro, .slice ra rs.length rc, .slice pa ps.length pc]
  have hB := belowNew w (.cells #[.int .i64 au, .int .i64 ro, .slice ra rs.length rc, .slice pa ps.length pc] 30)
  have cV := isValidator_any au
  have cN := isNumber_any ro
  have cS := fun w1 h1 => areSized_any pa pc ps 7 32 w1 h1 hp'
  unfold HdrM.v
  simp only
  clear hA hn hp hL
  obtain ⟨w1, hw1⟩ : ∃ q', w.alloc (.cells #[.int .i64 au, .int .i64 ro, .slice ra rs.length rc, .slice pa ps.length pc] 30) = q' := ⟨_, rfl⟩
  replace hX : Arr w1 w.heap.size 30 [.int .i64 au, .int .i64 ro, .slice ra rs.length rc, .slice pa ps.length pc] := by rw [← hw1]; exact hX
  rw [hw1] at hB
  have x0 := hX.cell (i := 0) rfl
  go_enter Tryz.func107, Tryz.ntmps107
  go_wp2_with fail
  refine (cV _).mono ?_
  rintro e w2 ⟨⟨p, rfl, hp⟩, hb2⟩
  have hX2 := hX.below hb2 hX.lt
  have hB2 := hB.trans (hb2.mono hB.size)
  clear hX hB hb2 x0 cV hw1
  have x1 := hX2.cell (i := 1) rfl
  cases p
  case false =>
    have hno : Hid (¬ P) := fun h => by have := hp.2 (hd.out.1 h).1; cases this
    clear hd hp
    go_wp2
    go_ret
    exact told_no hno.out hB2 rfl
  replace hd : Hid (P ↔ (numOk ro ∧ rs.length ≤ 4 ∧ (ps.length ≤ 7 ∧ ∀ p ∈ ps, p.size = 32) ∧ ∀ r ∈ rs, r.digest.size = 32 ∧ tagsOk r.acks)) := ⟨fun h => (hd.out.1 h).2, fun h => hd.out.2 ⟨hp.1 rfl, h⟩⟩
  clear hp
  go_wp2_with fail
  refine (cN _).mono ?_
  rintro e w3 ⟨⟨p, rfl, hp⟩, hb3⟩
  have hX3 := hX2.below hb3 hX2.lt
  have hB3 := hB2.trans (hb3.mono hB2.size)
  clear hX2 hB2 hb3 x1 cN
  have x2 := hX3.cell (i := 2) rfl
  cases p
  case false =>
    have hno : Hid (¬ P) := fun h => by have := hp.2 (hd.out.1 h).1; cases this
    clear hd hp
    go_wp2
    go_ret
    exact told_no hno.out hB3 rfl
  replace hd : Hid (P ↔ (rs.length ≤ 4 ∧ (ps.length ≤ 7 ∧ ∀ p ∈ ps, p.size = 32) ∧ ∀ r ∈ rs, r.digest.size = 32 ∧ tagsOk r.acks)) := ⟨fun h => (hd.out.1 h).2, fun h => hd.out.2 ⟨hp.1 rfl, h⟩⟩
  clear hp
  by_cases h3 : (4 : Int) < (rs.length : Int)
  · have hno : Hid (¬ P) := fun h => by have := (hd.out.1 h).1; omega
    clear hd
    go_wp2
    go_ret
    exact told_no hno.out hB3 rfl
  replace hd : Hid (P ↔ ((ps.length ≤ 7 ∧ ∀ p ∈ ps, p.size = 32) ∧ ∀ r ∈ rs, r.digest.size = 32 ∧ tagsOk r.acks)) := ⟨fun h => (hd.out.1 h).2, fun h => hd.out.2 ⟨by omega, h⟩⟩
  go_wp2
  go_loopw [4, 24] (fun v4 v24 wr => ∃ k : Nat, k ≤ rs.length ∧ v24 = .int .i64 (k : Int) ∧ Hid (∀ r ∈ rs.take k, r.digest.size = 32 ∧ tagsOk r.acks) ∧ Arr wr w.heap.size 30 [.int .i64 au, .int .i64 ro, .slice ra rs.length rc, .slice pa ps.length pc] ∧ Below w.heap.size w wr) (fun _ v _ => rs.length - (intOf v).toNat)
  case atStart => exact ⟨0, Nat.zero_le _, rfl, (fun t ht => by simp at ht), hX3, hB3⟩
  case round =>
    clear hX3 hB3 x2
    obtain ⟨k, hk, rfl, HF, hX, hb⟩ := hrel
    by_cases hlt : k < rs.length
    · obtain ⟨r, hr⟩ : ∃ r, rs[k]? = some r := ⟨rs[k], List.getElem?_eq_getElem hlt⟩
      have hmem : r ∈ rs := List.mem_of_getElem? hr
      have hak := ((hA1.below hb).at_ r hmem).1
      have HN : Hid ((r.digest.size = 32 ∧ tagsOk r.acks) → ∀ r ∈ rs.take (k + 1), r.digest.size = 32 ∧ tagsOk r.acks) := by
        intro hf y hy
        have he := (List.getElem?_eq_some_iff.1 hr).2
        rw [List.take_succ_eq_append_getElem hlt, List.mem_append, List.mem_singleton, he] at hy
        rcases hy with hy | rfl
        · exact HF.out y hy
        · exact hf
      have HB : Hid (¬ (r.digest.size = 32 ∧ tagsOk r.acks) → ¬ P) := fun hb h => hb ((hd.out.1 h).2 r hmem)
      have hrl := hL' r hmem
      obtain ⟨b, off, rfl, hbl, y0, y1⟩ := (hA1.below hb).ref hr
      clear HF hr hmem
      have cG := isDigest_any r.digest
      have cT := fun w1 h1 => arePlainTags_any r.ao r.cap r.acks w1 h1 hrl
      have hbx := belowNew wr (.cells #[.string r.digest, .slice r.ao r.acks.length r.cap] 53)
      have hR := Arr.new wr 53 [.string r.digest, .slice r.ao r.acks.length r.cap]
      have hXn := hX.below hbx hX.lt
      have hb1 := hb.trans (hbx.mono hb.size)
      have ha1 := hak.below hbx
      obtain ⟨w4, hw4⟩ : ∃ q', wr.alloc (.cells #[.string r.digest, .slice r.ao r.acks.length r.cap] 53) = q' := ⟨_, rfl⟩
      replace hR : Arr w4 wr.heap.size 53 [.string r.digest, .slice r.ao r.acks.length r.cap] := by rw [← hw4]; exact hR
      rw [hw4] at hXn hb1 ha1 hbx
      have z0 := hR.cell (i := 0) rfl
      have x2 := hX.cell (i := 2) rfl
      go_wp2_with fail
      refine (cG _).mono ?_
      rintro e w5 ⟨⟨p, rfl, hp⟩, hb5⟩
      have hX5 := hXn.below hb5 hXn.lt
      have hR5 := hR.below hb5 hR.lt
      have hB5 := hb1.trans (hb5.mono hb1.size)
      have hA5 := ha1.below hb5
      clear hX hXn hR hb1 ha1 hbx hb5 hw4 y0 y1 z0 hak hb x2 cG
      have z1 := hR5.cell (i := 1) rfl
      cases p
      case false =>
        have hno : Hid (¬ P) := HB.out (fun h => by have := hp.2 h.1; cases this)
        clear HB HN hp hd
        go_wp2
        go_ret
        exact told_no hno.out hB5 rfl
      have hdz : Hid (r.digest.size = 32) := hp.1 rfl
      clear hp
      go_wp2_with fail
      refine (cT _ hA5).mono ?_
      rintro e w6 ⟨⟨p, rfl, hp2⟩, hb6⟩
      have hX6 := hX5.below hb6 hX5.lt
      have hB6 := hB5.trans (hb6.mono hB5.size)
      clear hX5 hB5 hR5 hA5 hb6 z1 cT
      cases p
      case false =>
        have hno : Hid (¬ P) := HB.out (fun h => by have := hp2.2 h.2; cases this)
        clear HB HN hdz hp2 hd
        go_wp2
        go_ret
        exact told_no hno.out hB6 rfl
      have HF2 : Hid (∀ r ∈ rs.take (k + 1), r.digest.size = 32 ∧ tagsOk r.acks) := HN.out ⟨hdz.out, hp2.1 rfl⟩
      clear HB HN hdz hp2
      go_wp2
      go_roundw
      case rel => exact ⟨k + 1, by omega, by go_num, HF2, hX6, hB6⟩
      case measure => simp [intOf]; omega
    · have HA : Hid (P ↔ (ps.length ≤ 7 ∧ ∀ p ∈ ps, p.size = 32)) := by
        have := HF.out
        rw [List.take_of_length_le (by omega)] at this
        exact hd.out.trans ⟨fun h => h.1, fun h => ⟨h, this⟩⟩
      clear HF hd
      have x3 := hX.cell (i := 3) rfl
      have hA3 := hA2.below hb
      go_wp2_with fail
      refine (cS _ hA3).mono ?_
      rintro e w5 ⟨⟨p, rfl, hp⟩, hb5⟩
      have hB5 := hb.trans (hb5.mono hb.size)
      have hF : Hid (p = true ↔ P) := hp.trans HA.out.symm
      clear HA hp hb hb5 x3 hX hA3
      go_wp2
      go_ret
      exact ⟨⟨_, rfl, hF.out⟩, hB5⟩
end Go.Proofs.YtaoiejgbbmjpkaaGreatDoor

/- What package msg's isZero and isPlain say, letter by letter; nothing old in memory is turned. -/
namespace Go.Proofs.YtaoiejgbbmjpkaaGreatDoor
open Go.RowKit
set_option linter.unusedVariables false

/-- A field holds nothing. -/
def zeroF (m : MsgD) (c : UInt8) : Prop :=
  if c = 100 then m.digest.size = 0 else if c = 118 then m.view = 0 else if c = 116 then m.tag.Nil else if c = 98 then m.batch.Nil else if c = 104 then m.header.Nil else if c = 99 then m.cert.Nil else if c = 107 then m.block.Nil else m.qc.Nil

/-- A field other than a batch is plain. -/
def plainF (m : MsgD) (c : UInt8) : Bool :=
  if c = 100 then decide (m.digest.size = 32) else if c = 118 then decide (numOk m.view) else if c = 116 then decide (tagOk m.tag) else if c = 104 then decide m.header.Plain else if c = 99 then decide m.cert.Plain else if c = 107 then decide m.block.Plain else decide m.qc.Plain

set_option maxRecDepth 100000 in
set_option maxHeartbeats 2000000 in
theorem isZero_d (k : Int) (dg : ByteArray) (vi : Int) (tg : TagD) (ba : BatM) (he : HdrM) (ce : CertM) (bl : BlkM) (q : QcM) (w : World) :
    Calls Tryz.prog 34 #[MsgM.v ⟨k, dg, vi, tg, ba, he, ce, bl, q⟩, .int .i32 100] w (Told w (dg.size = 0)) := by
  obtain ⟨P, hd⟩ : ∃ P : Prop, Hid (P ↔ (dg.size = 0)) := ⟨_, Iff.rfl⟩
  refine Calls.mono ?_ (fun e w' (h : Told w P e w') => h.iff hd.out)
  replace hd : Hid (P ↔ (dg.size = 0)) := hd.out.trans (Iff.rfl)
  have hX := Arr.new w 39 [.int .i64 k, .string dg, .int .i64 vi, .int .i64 tg.who, .string tg.mac, .int .i64 ba.author, .int .i64 ba.number, .slice ba.ta ba.txs.length ba.tc, .int .i64 he.author, .int .i64 he.round, .slice he.ra he.refs.length he.rc, .slice he.pa he.parents.length he.pc, .int .i64 ce.hdr.author, .int .i64 ce.hdr.round, .slice ce.hdr.ra ce.hdr.refs.length ce.hdr.rc, .slice ce.hdr.pa ce.hdr.parents.length ce.hdr.pc, .slice ce.va ce.votes.length ce.vc, .int .i64 bl.view, .int .i64 bl.qc.view, .string bl.qc.block, .slice bl.qc.va bl.qc.votes.length bl.qc.vc, .slice bl.ca bl.certs.length bl.cc, .int .i64 q.view, .string q.block, .slice q.va q.votes.length q.vc]
  have hB := belowNew w (.cells [.int .i64 k, .string dg, .int .i64 vi, .int .i64 tg.who, .string tg.mac, .int .i64 ba.author, .int .i64 ba.number, .slice ba.ta ba.txs.length ba.tc, .int .i64 he.author, .int .i64 he.round, .slice he.ra he.refs.length he.rc, .slice he.pa he.parents.length he.pc, .int .i64 ce.hdr.author, .int .i64 ce.hdr.round, .slice ce.hdr.ra ce.hdr.refs.length ce.hdr.rc, .slice ce.hdr.pa ce.hdr.parents.length ce.hdr.pc, .slice ce.va ce.votes.length ce.vc, .int .i64 bl.view, .int .i64 bl.qc.view, .string bl.qc.block, .slice bl.qc.va bl.qc.votes.length bl.qc.vc, .slice bl.ca bl.certs.length bl.cc, .int .i64 q.view, .string q.block, .slice q.va q.votes.length q.vc].toArray 39)
  unfold MsgM.v MsgM.c
  simp only
  obtain ⟨w1, hw1⟩ : ∃ q', w.alloc (.cells [.int .i64 k, .string dg, .int .i64 vi, .int .i64 tg.who, .string tg.mac, .int .i64 ba.author, .int .i64 ba.number, .slice ba.ta ba.txs.length ba.tc, .int .i64 he.author, .int .i64 he.round, .slice he.ra he.refs.length he.rc, .slice he.pa he.parents.length he.pc, .int .i64 ce.hdr.author, .int .i64 ce.hdr.round, .slice ce.hdr.ra ce.hdr.refs.length ce.hdr.rc, .slice ce.hdr.pa ce.hdr.parents.length ce.hdr.pc, .slice ce.va ce.votes.length ce.vc, .int .i64 bl.view, .int .i64 bl.qc.view, .string bl.qc.block, .slice bl.qc.va bl.qc.votes.length bl.qc.vc, .slice bl.ca bl.certs.length bl.cc, .int .i64 q.view, .string q.block, .slice q.va q.votes.length q.vc].toArray 39) = q' := ⟨_, rfl⟩
  rw [hw1] at hX hB
  go_enter Tryz.func34, Tryz.ntmps34
  have x1 := hX.cell (i := 1) rfl
  have hF : Hid (dg.toList.isEmpty = true ↔ P) := by
    show _ ↔ _
    rw [hd.out, List.isEmpty_iff, ByteArray.toList_eq]
    constructor
    · intro h
      have := congrArg List.length h
      simpa using this
    · intro h
      rw [bytes_nil h]
  clear hd
  go_wp2
  go_ret
  exact ⟨⟨_, rfl, hF.out⟩, hB⟩

set_option maxRecDepth 100000 in
set_option maxHeartbeats 2000000 in
theorem isZero_v (k : Int) (dg : ByteArray) (vi : Int) (tg : TagD) (ba : BatM) (he : HdrM) (ce : CertM) (bl : BlkM) (q : QcM) (w : World) :
    Calls Tryz.prog 34 #[MsgM.v ⟨k, dg, vi, tg, ba, he, ce, bl, q⟩, .int .i32 118] w (Told w (vi = 0)) := by
  obtain ⟨P, hd⟩ : ∃ P : Prop, Hid (P ↔ (vi = 0)) := ⟨_, Iff.rfl⟩
  refine Calls.mono ?_ (fun e w' (h : Told w P e w') => h.iff hd.out)
  replace hd : Hid (P ↔ (vi = 0)) := hd.out.trans (Iff.rfl)
  have hX := Arr.new w 39 [.int .i64 k, .string dg, .int .i64 vi, .int .i64 tg.who, .string tg.mac, .int .i64 ba.author, .int .i64 ba.number, .slice ba.ta ba.txs.length ba.tc, .int .i64 he.author, .int .i64 he.round, .slice he.ra he.refs.length he.rc, .slice he.pa he.parents.length he.pc, .int .i64 ce.hdr.author, .int .i64 ce.hdr.round, .slice ce.hdr.ra ce.hdr.refs.length ce.hdr.rc, .slice ce.hdr.pa ce.hdr.parents.length ce.hdr.pc, .slice ce.va ce.votes.length ce.vc, .int .i64 bl.view, .int .i64 bl.qc.view, .string bl.qc.block, .slice bl.qc.va bl.qc.votes.length bl.qc.vc, .slice bl.ca bl.certs.length bl.cc, .int .i64 q.view, .string q.block, .slice q.va q.votes.length q.vc]
  have hB := belowNew w (.cells [.int .i64 k, .string dg, .int .i64 vi, .int .i64 tg.who, .string tg.mac, .int .i64 ba.author, .int .i64 ba.number, .slice ba.ta ba.txs.length ba.tc, .int .i64 he.author, .int .i64 he.round, .slice he.ra he.refs.length he.rc, .slice he.pa he.parents.length he.pc, .int .i64 ce.hdr.author, .int .i64 ce.hdr.round, .slice ce.hdr.ra ce.hdr.refs.length ce.hdr.rc, .slice ce.hdr.pa ce.hdr.parents.length ce.hdr.pc, .slice ce.va ce.votes.length ce.vc, .int .i64 bl.view, .int .i64 bl.qc.view, .string bl.qc.block, .slice bl.qc.va bl.qc.votes.length bl.qc.vc, .slice bl.ca bl.certs.length bl.cc, .int .i64 q.view, .string q.block, .slice q.va q.votes.length q.vc].toArray 39)
  unfold MsgM.v MsgM.c
  simp only
  obtain ⟨w1, hw1⟩ : ∃ q', w.alloc (.cells [.int .i64 k, .string dg, .int .i64 vi, .int .i64 tg.who, .string tg.mac, .int .i64 ba.author, .int .i64 ba.number, .slice ba.ta ba.txs.length ba.tc, .int .i64 he.author, .int .i64 he.round, .slice he.ra he.refs.length he.rc, .slice he.pa he.parents.length he.pc, .int .i64 ce.hdr.author, .int .i64 ce.hdr.round, .slice ce.hdr.ra ce.hdr.refs.length ce.hdr.rc, .slice ce.hdr.pa ce.hdr.parents.length ce.hdr.pc, .slice ce.va ce.votes.length ce.vc, .int .i64 bl.view, .int .i64 bl.qc.view, .string bl.qc.block, .slice bl.qc.va bl.qc.votes.length bl.qc.vc, .slice bl.ca bl.certs.length bl.cc, .int .i64 q.view, .string q.block, .slice q.va q.votes.length q.vc].toArray 39) = q' := ⟨_, rfl⟩
  rw [hw1] at hX hB
  go_enter Tryz.func34, Tryz.ntmps34
  have x2 := hX.cell (i := 2) rfl
  cases h0 : (vi == 0)
  case false =>
    have hno : Hid (¬ P) := fun h => by rw [beq_eq_false_iff_ne] at h0; exact h0 (by have := (hd.out.1 h); omega)
    clear hd
    go_wp2
    go_ret
    exact told_no hno.out hB rfl
  have hy : Hid P := hd.out.2 (by rw [beq_iff_eq] at h0; omega)
  clear hd
  go_wp2
  go_ret
  exact told_yes hy.out hB rfl

set_option maxRecDepth 100000 in
set_option maxHeartbeats 2000000 in
theorem isZero_t (k : Int) (dg : ByteArray) (vi : Int) (tg : TagD) (ba : BatM) (he : HdrM) (ce : CertM) (bl : BlkM) (q : QcM) (w : World) :
    Calls Tryz.prog 34 #[MsgM.v ⟨k, dg, vi, tg, ba, he, ce, bl, q⟩, .int .i32 116] w (Told w (tg.Nil)) := by
  obtain ⟨P, hd⟩ : ∃ P : Prop, Hid (P ↔ tg.Nil) := ⟨_, Iff.rfl⟩
  refine Calls.mono ?_ (fun e w' (h : Told w P e w') => h.iff hd.out)
  obtain ⟨who, mac⟩ := tg
  replace hd : Hid (P ↔ (who = 0 ∧ mac.size = 0)) := hd
  by_cases h1 : who = 0
  · subst h1
    by_cases h2 : mac = ⟨#[]⟩
    · subst h2
      have hy : Hid P := hd.out.2 ⟨rfl, rfl⟩
      have hX := Arr.new w 39 [.int .i64 k, .string dg, .int .i64 vi, .int .i64 0, .string ⟨#[]⟩, .int .i64 ba.author, .int .i64 ba.number, .slice ba.ta ba.txs.length ba.tc, .int .i64 he.author, .int .i64 he.round, .slice he.ra he.refs.length he.rc, .slice he.pa he.parents.length he.pc, .int .i64 ce.hdr.author, .int .i64 ce.hdr.round, .slice ce.hdr.ra ce.hdr.refs.length ce.hdr.rc, .slice ce.hdr.pa ce.hdr.parents.length ce.hdr.pc, .slice ce.va ce.votes.length ce.vc, .int .i64 bl.view, .int .i64 bl.qc.view, .string bl.qc.block, .slice bl.qc.va bl.qc.votes.length bl.qc.vc, .slice bl.ca bl.certs.length bl.cc, .int .i64 q.view, .string q.block, .slice q.va q.votes.length q.vc]
      have hB := belowNew w (.cells [.int .i64 k, .string dg, .int .i64 vi, .int .i64 0, .string ⟨#[]⟩, .int .i64 ba.author, .int .i64 ba.number, .slice ba.ta ba.txs.length ba.tc, .int .i64 he.author, .int .i64 he.round, .slice he.ra he.refs.length he.rc, .slice he.pa he.parents.length he.pc, .int .i64 ce.hdr.author, .int .i64 ce.hdr.round, .slice ce.hdr.ra ce.hdr.refs.length ce.hdr.rc, .slice ce.hdr.pa ce.hdr.parents.length ce.hdr.pc, .slice ce.va ce.votes.length ce.vc, .int .i64 bl.view, .int .i64 bl.qc.view, .string bl.qc.block, .slice bl.qc.va bl.qc.votes.length bl.qc.vc, .slice bl.ca bl.certs.length bl.cc, .int .i64 q.view, .string q.block, .slice q.va q.votes.length q.vc].toArray 39)
      unfold MsgM.v MsgM.c
      simp only
      have x3 := hX.cell (i := 3) rfl
      have x4 := hX.cell (i := 4) rfl
      clear hd
      go_enter Tryz.func34, Tryz.ntmps34
      go_wp2
      go_ret
      exact told_yes hy.out hB rfl
    · have hno : Hid (¬ P) := fun h => h2 (bytes_nil (hd.out.1 h).2)
      have h2' : ¬ mac.toList = [] := fun h => h2 (bytes_nil (by rw [ByteArray.toList_eq] at h; have := congrArg List.length h; simpa using this))
      have hX := Arr.new w 39 [.int .i64 k, .string dg, .int .i64 vi, .int .i64 0, .string mac, .int .i64 ba.author, .int .i64 ba.number, .slice ba.ta ba.txs.length ba.tc, .int .i64 he.author, .int .i64 he.round, .slice he.ra he.refs.length he.rc, .slice he.pa he.parents.length he.pc, .int .i64 ce.hdr.author, .int .i64 ce.hdr.round, .slice ce.hdr.ra ce.hdr.refs.length ce.hdr.rc, .slice ce.hdr.pa ce.hdr.parents.length ce.hdr.pc, .slice ce.va ce.votes.length ce.vc, .int .i64 bl.view, .int .i64 bl.qc.view, .string bl.qc.block, .slice bl.qc.va bl.qc.votes.length bl.qc.vc, .slice bl.ca bl.certs.length bl.cc, .int .i64 q.view, .string q.block, .slice q.va q.votes.length q.vc]
      have hB := belowNew w (.cells [.int .i64 k, .string dg, .int .i64 vi, .int .i64 0, .string mac, .int .i64 ba.author, .int .i64 ba.number, .slice ba.ta ba.txs.length ba.tc, .int .i64 he.author, .int .i64 he.round, .slice he.ra he.refs.length he.rc, .slice he.pa he.parents.length he.pc, .int .i64 ce.hdr.author, .int .i64 ce.hdr.round, .slice ce.hdr.ra ce.hdr.refs.length ce.hdr.rc, .slice ce.hdr.pa ce.hdr.parents.length ce.hdr.pc, .slice ce.va ce.votes.length ce.vc, .int .i64 bl.view, .int .i64 bl.qc.view, .string bl.qc.block, .slice bl.qc.va bl.qc.votes.length bl.qc.vc, .slice bl.ca bl.certs.length bl.cc, .int .i64 q.view, .string q.block, .slice q.va q.votes.length q.vc].toArray 39)
      unfold MsgM.v MsgM.c
      simp only
      have x3 := hX.cell (i := 3) rfl
      have x4 := hX.cell (i := 4) rfl
      clear hd
      go_enter Tryz.func34, Tryz.ntmps34
      go_wp2
      go_ret
      exact told_no hno.out hB rfl
  · have hno : Hid (¬ P) := fun h => h1 (hd.out.1 h).1
    have hX := Arr.new w 39 [.int .i64 k, .string dg, .int .i64 vi, .int .i64 who, .string mac, .int .i64 ba.author, .int .i64 ba.number, .slice ba.ta ba.txs.length ba.tc, .int .i64 he.author, .int .i64 he.round, .slice he.ra he.refs.length he.rc, .slice he.pa he.parents.length he.pc, .int .i64 ce.hdr.author, .int .i64 ce.hdr.round, .slice ce.hdr.ra ce.hdr.refs.length ce.hdr.rc, .slice ce.hdr.pa ce.hdr.parents.length ce.hdr.pc, .slice ce.va ce.votes.length ce.vc, .int .i64 bl.view, .int .i64 bl.qc.view, .string bl.qc.block, .slice bl.qc.va bl.qc.votes.length bl.qc.vc, .slice bl.ca bl.certs.length bl.cc, .int .i64 q.view, .string q.block, .slice q.va q.votes.length q.vc]
    have hB := belowNew w (.cells [.int .i64 k, .string dg, .int .i64 vi, .int .i64 who, .string mac, .int .i64 ba.author, .int .i64 ba.number, .slice ba.ta ba.txs.length ba.tc, .int .i64 he.author, .int .i64 he.round, .slice he.ra he.refs.length he.rc, .slice he.pa he.parents.length he.pc, .int .i64 ce.hdr.author, .int .i64 ce.hdr.round, .slice ce.hdr.ra ce.hdr.refs.length ce.hdr.rc, .slice ce.hdr.pa ce.hdr.parents.length ce.hdr.pc, .slice ce.va ce.votes.length ce.vc, .int .i64 bl.view, .int .i64 bl.qc.view, .string bl.qc.block, .slice bl.qc.va bl.qc.votes.length bl.qc.vc, .slice bl.ca bl.certs.length bl.cc, .int .i64 q.view, .string q.block, .slice q.va q.votes.length q.vc].toArray 39)
    unfold MsgM.v MsgM.c
    simp only
    have x3 := hX.cell (i := 3) rfl
    have x4 := hX.cell (i := 4) rfl
    clear hd
    go_enter Tryz.func34, Tryz.ntmps34
    go_wp2
    go_ret
    exact told_no hno.out hB rfl

set_option maxRecDepth 100000 in
set_option maxHeartbeats 2000000 in
theorem isZero_b (k : Int) (dg : ByteArray) (vi : Int) (tg : TagD) (ba : BatM) (he : HdrM) (ce : CertM) (bl : BlkM) (q : QcM) (w : World) :
    Calls Tryz.prog 34 #[MsgM.v ⟨k, dg, vi, tg, ba, he, ce, bl, q⟩, .int .i32 98] w (Told w (ba.d.Nil)) := by
  obtain ⟨P, hd⟩ : ∃ P : Prop, Hid (P ↔ (ba.d.Nil)) := ⟨_, Iff.rfl⟩
  refine Calls.mono ?_ (fun e w' (h : Told w P e w') => h.iff hd.out)
  replace hd : Hid (P ↔ (ba.author = 0 ∧ ba.number = 0 ∧ ba.txs.length = 0)) := hd.out.trans (by show (ba.author = 0 ∧ ba.number = 0 ∧ (dl ba.txs).length = 0) ↔ _; rw [dl_length])
  have hX := Arr.new w 39 [.int .i64 k, .string dg, .int .i64 vi, .int .i64 tg.who, .string tg.mac, .int .i64 ba.author, .int .i64 ba.number, .slice ba.ta ba.txs.length ba.tc, .int .i64 he.author, .int .i64 he.round, .slice he.ra he.refs.length he.rc, .slice he.pa he.parents.length he.pc, .int .i64 ce.hdr.author, .int .i64 ce.hdr.round, .slice ce.hdr.ra ce.hdr.refs.length ce.hdr.rc, .slice ce.hdr.pa ce.hdr.parents.length ce.hdr.pc, .slice ce.va ce.votes.length ce.vc, .int .i64 bl.view, .int .i64 bl.qc.view, .string bl.qc.block, .slice bl.qc.va bl.qc.votes.length bl.qc.vc, .slice bl.ca bl.certs.length bl.cc, .int .i64 q.view, .string q.block, .slice q.va q.votes.length q.vc]
  have hB := belowNew w (.cells [.int .i64 k, .string dg, .int .i64 vi, .int .i64 tg.who, .string tg.mac, .int .i64 ba.author, .int .i64 ba.number, .slice ba.ta ba.txs.length ba.tc, .int .i64 he.author, .int .i64 he.round, .slice he.ra he.refs.length he.rc, .slice he.pa he.parents.length he.pc, .int .i64 ce.hdr.author, .int .i64 ce.hdr.round, .slice ce.hdr.ra ce.hdr.refs.length ce.hdr.rc, .slice ce.hdr.pa ce.hdr.parents.length ce.hdr.pc, .slice ce.va ce.votes.length ce.vc, .int .i64 bl.view, .int .i64 bl.qc.view, .string bl.qc.block, .slice bl.qc.va bl.qc.votes.length bl.qc.vc, .slice bl.ca bl.certs.length bl.cc, .int .i64 q.view, .string q.block, .slice q.va q.votes.length q.vc].toArray 39)
  unfold MsgM.v MsgM.c
  simp only
  obtain ⟨w1, hw1⟩ : ∃ q', w.alloc (.cells [.int .i64 k, .string dg, .int .i64 vi, .int .i64 tg.who, .string tg.mac, .int .i64 ba.author, .int .i64 ba.number, .slice ba.ta ba.txs.length ba.tc, .int .i64 he.author, .int .i64 he.round, .slice he.ra he.refs.length he.rc, .slice he.pa he.parents.length he.pc, .int .i64 ce.hdr.author, .int .i64 ce.hdr.round, .slice ce.hdr.ra ce.hdr.refs.length ce.hdr.rc, .slice ce.hdr.pa ce.hdr.parents.length ce.hdr.pc, .slice ce.va ce.votes.length ce.vc, .int .i64 bl.view, .int .i64 bl.qc.view, .string bl.qc.block, .slice bl.qc.va bl.qc.votes.length bl.qc.vc, .slice bl.ca bl.certs.length bl.cc, .int .i64 q.view, .string q.block, .slice q.va q.votes.length q.vc].toArray 39) = q' := ⟨_, rfl⟩
  rw [hw1] at hX hB
  go_enter Tryz.func34, Tryz.ntmps34
  have x5 := hX.cell (i := 5) rfl
  have x6 := hX.cell (i := 6) rfl
  have x7 := hX.cell (i := 7) rfl
  cases h0 : (ba.author == 0)
  case false =>
    have hno : Hid (¬ P) := fun h => by rw [beq_eq_false_iff_ne] at h0; exact h0 (by have := (hd.out.1 h).1; omega)
    clear hd
    go_wp2
    go_ret
    exact told_no hno.out hB rfl
  replace hd : Hid (P ↔ (ba.number = 0 ∧ ba.txs.length = 0)) := ⟨fun h => (hd.out.1 h).2, fun h => hd.out.2 ⟨(by rw [beq_iff_eq] at h0; omega), h⟩⟩
  cases h1 : (ba.number == 0)
  case false =>
    have hno : Hid (¬ P) := fun h => by rw [beq_eq_false_iff_ne] at h1; exact h1 (by have := (hd.out.1 h).1; omega)
    clear hd
    go_wp2
    go_ret
    exact told_no hno.out hB rfl
  replace hd : Hid (P ↔ (ba.txs.length = 0)) := ⟨fun h => (hd.out.1 h).2, fun h => hd.out.2 ⟨(by rw [beq_iff_eq] at h1; omega), h⟩⟩
  cases h2 : ((ba.txs.length : Int) == 0)
  case false =>
    have hno : Hid (¬ P) := fun h => by rw [beq_eq_false_iff_ne] at h2; exact h2 (by have := (hd.out.1 h); omega)
    clear hd
    go_wp2
    go_ret
    exact told_no hno.out hB rfl
  have hy : Hid P := hd.out.2 (by rw [beq_iff_eq] at h2; omega)
  clear hd
  go_wp2
  go_ret
  exact told_yes hy.out hB rfl

set_option maxRecDepth 100000 in
set_option maxHeartbeats 2000000 in
theorem isZero_h (k : Int) (dg : ByteArray) (vi : Int) (tg : TagD) (ba : BatM) (he : HdrM) (ce : CertM) (bl : BlkM) (q : QcM) (w : World) :
    Calls Tryz.prog 34 #[MsgM.v ⟨k, dg, vi, tg, ba, he, ce, bl, q⟩, .int .i32 104] w (Told w (he.d.Nil)) := by
  obtain ⟨P, hd⟩ : ∃ P : Prop, Hid (P ↔ (he.d.Nil)) := ⟨_, Iff.rfl⟩
  refine Calls.mono ?_ (fun e w' (h : Told w P e w') => h.iff hd.out)
  replace hd : Hid (P ↔ (he.d.Nil)) := hd.out.trans (Iff.rfl)
  have hX := Arr.new w 39 [.int .i64 k, .string dg, .int .i64 vi, .int .i64 tg.who, .string tg.mac, .int .i64 ba.author, .int .i64 ba.number, .slice ba.ta ba.txs.length ba.tc, .int .i64 he.author, .int .i64 he.round, .slice he.ra he.refs.length he.rc, .slice he.pa he.parents.length he.pc, .int .i64 ce.hdr.author, .int .i64 ce.hdr.round, .slice ce.hdr.ra ce.hdr.refs.length ce.hdr.rc, .slice ce.hdr.pa ce.hdr.parents.length ce.hdr.pc, .slice ce.va ce.votes.length ce.vc, .int .i64 bl.view, .int .i64 bl.qc.view, .string bl.qc.block, .slice bl.qc.va bl.qc.votes.length bl.qc.vc, .slice bl.ca bl.certs.length bl.cc, .int .i64 q.view, .string q.block, .slice q.va q.votes.length q.vc]
  have hB := belowNew w (.cells [.int .i64 k, .string dg, .int .i64 vi, .int .i64 tg.who, .string tg.mac, .int .i64 ba.author, .int .i64 ba.number, .slice ba.ta ba.txs.length ba.tc, .int .i64 he.author, .int .i64 he.round, .slice he.ra he.refs.length he.rc, .slice he.pa he.parents.length he.pc, .int .i64 ce.hdr.author, .int .i64 ce.hdr.round, .slice ce.hdr.ra ce.hdr.refs.length ce.hdr.rc, .slice ce.hdr.pa ce.hdr.parents.length ce.hdr.pc, .slice ce.va ce.votes.length ce.vc, .int .i64 bl.view, .int .i64 bl.qc.view, .string bl.qc.block, .slice bl.qc.va bl.qc.votes.length bl.qc.vc, .slice bl.ca bl.certs.length bl.cc, .int .i64 q.view, .string q.block, .slice q.va q.votes.length q.vc].toArray 39)
  unfold MsgM.v MsgM.c
  simp only
  obtain ⟨w1, hw1⟩ : ∃ q', w.alloc (.cells [.int .i64 k, .string dg, .int .i64 vi, .int .i64 tg.who, .string tg.mac, .int .i64 ba.author, .int .i64 ba.number, .slice ba.ta ba.txs.length ba.tc, .int .i64 he.author, .int .i64 he.round, .slice he.ra he.refs.length he.rc, .slice he.pa he.parents.length he.pc, .int .i64 ce.hdr.author, .int .i64 ce.hdr.round, .slice ce.hdr.ra ce.hdr.refs.length ce.hdr.rc, .slice ce.hdr.pa ce.hdr.parents.length ce.hdr.pc, .slice ce.va ce.votes.length ce.vc, .int .i64 bl.view, .int .i64 bl.qc.view, .string bl.qc.block, .slice bl.qc.va bl.qc.votes.length bl.qc.vc, .slice bl.ca bl.certs.length bl.cc, .int .i64 q.view, .string q.block, .slice q.va q.votes.length q.vc].toArray 39) = q' := ⟨_, rfl⟩
  rw [hw1] at hX hB
  go_enter Tryz.func34, Tryz.ntmps34
  have x8 := hX.cell (i := 8) rfl
  have x9 := hX.cell (i := 9) rfl
  have x10 := hX.cell (i := 10) rfl
  have x11 := hX.cell (i := 11) rfl
  go_wp2_with fail
  refine (isZeroHeader_any he _).mono ?_
  rintro e w2 ⟨⟨p, rfl, hp⟩, hb⟩
  have hX2 := hX.below hb hX.lt
  have hB2 := hB.trans (hb.mono hB.size)
  clear hX hB hb hw1 x8 x9 x10 x11
  obtain ⟨hX, hB⟩ := And.intro hX2 hB2
  clear hX2 hB2
  have hF : Hid (p = true ↔ P) := hp.trans hd.out.symm
  clear hd hp
  go_wp2
  go_ret
  exact ⟨⟨_, rfl, hF.out⟩, hB⟩

set_option maxRecDepth 100000 in
set_option maxHeartbeats 2000000 in
theorem isZero_c (k : Int) (dg : ByteArray) (vi : Int) (tg : TagD) (ba : BatM) (he : HdrM) (ce : CertM) (bl : BlkM) (q : QcM) (w : World) :
    Calls Tryz.prog 34 #[MsgM.v ⟨k, dg, vi, tg, ba, he, ce, bl, q⟩, .int .i32 99] w (Told w (ce.d.Nil)) := by
  obtain ⟨P, hd⟩ : ∃ P : Prop, Hid (P ↔ (ce.d.Nil)) := ⟨_, Iff.rfl⟩
  refine Calls.mono ?_ (fun e w' (h : Told w P e w') => h.iff hd.out)
  replace hd : Hid (P ↔ (ce.hdr.d.Nil ∧ ce.votes.length = 0)) := hd.out.trans (Iff.rfl)
  have hX := Arr.new w 39 [.int .i64 k, .string dg, .int .i64 vi, .int .i64 tg.who, .string tg.mac, .int .i64 ba.author, .int .i64 ba.number, .slice ba.ta ba.txs.length ba.tc, .int .i64 he.author, .int .i64 he.round, .slice he.ra he.refs.length he.rc, .slice he.pa he.parents.length he.pc, .int .i64 ce.hdr.author, .int .i64 ce.hdr.round, .slice ce.hdr.ra ce.hdr.refs.length ce.hdr.rc, .slice ce.hdr.pa ce.hdr.parents.length ce.hdr.pc, .slice ce.va ce.votes.length ce.vc, .int .i64 bl.view, .int .i64 bl.qc.view, .string bl.qc.block, .slice bl.qc.va bl.qc.votes.length bl.qc.vc, .slice bl.ca bl.certs.length bl.cc, .int .i64 q.view, .string q.block, .slice q.va q.votes.length q.vc]
  have hB := belowNew w (.cells [.int .i64 k, .string dg, .int .i64 vi, .int .i64 tg.who, .string tg.mac, .int .i64 ba.author, .int .i64 ba.number, .slice ba.ta ba.txs.length ba.tc, .int .i64 he.author, .int .i64 he.round, .slice he.ra he.refs.length he.rc, .slice he.pa he.parents.length he.pc, .int .i64 ce.hdr.author, .int .i64 ce.hdr.round, .slice ce.hdr.ra ce.hdr.refs.length ce.hdr.rc, .slice ce.hdr.pa ce.hdr.parents.length ce.hdr.pc, .slice ce.va ce.votes.length ce.vc, .int .i64 bl.view, .int .i64 bl.qc.view, .string bl.qc.block, .slice bl.qc.va bl.qc.votes.length bl.qc.vc, .slice bl.ca bl.certs.length bl.cc, .int .i64 q.view, .string q.block, .slice q.va q.votes.length q.vc].toArray 39)
  unfold MsgM.v MsgM.c
  simp only
  obtain ⟨w1, hw1⟩ : ∃ q', w.alloc (.cells [.int .i64 k, .string dg, .int .i64 vi, .int .i64 tg.who, .string tg.mac, .int .i64 ba.author, .int .i64 ba.number, .slice ba.ta ba.txs.length ba.tc, .int .i64 he.author, .int .i64 he.round, .slice he.ra he.refs.length he.rc, .slice he.pa he.parents.length he.pc, .int .i64 ce.hdr.author, .int .i64 ce.hdr.round, .slice ce.hdr.ra ce.hdr.refs.length ce.hdr.rc, .slice ce.hdr.pa ce.hdr.parents.length ce.hdr.pc, .slice ce.va ce.votes.length ce.vc, .int .i64 bl.view, .int .i64 bl.qc.view, .string bl.qc.block, .slice bl.qc.va bl.qc.votes.length bl.qc.vc, .slice bl.ca bl.certs.length bl.cc, .int .i64 q.view, .string q.block, .slice q.va q.votes.length q.vc].toArray 39) = q' := ⟨_, rfl⟩
  rw [hw1] at hX hB
  go_enter Tryz.func34, Tryz.ntmps34
  have x12 := hX.cell (i := 12) rfl
  have x13 := hX.cell (i := 13) rfl
  have x14 := hX.cell (i := 14) rfl
  have x15 := hX.cell (i := 15) rfl
  go_wp2_with fail
  refine (isZeroHeader_any ce.hdr _).mono ?_
  rintro e w2 ⟨⟨p, rfl, hp⟩, hb⟩
  have hX2 := hX.below hb hX.lt
  have hB2 := hB.trans (hb.mono hB.size)
  clear hX hB hb hw1 x12 x13 x14 x15
  obtain ⟨hX, hB⟩ := And.intro hX2 hB2
  clear hX2 hB2
  have x16 := hX.cell (i := 16) rfl
  cases p
  case false =>
    have hno : Hid (¬ P) := fun h => by have := hp.2 (hd.out.1 h).1; cases this
    clear hd hp
    go_wp2
    go_ret
    exact told_no hno.out hB rfl
  replace hd : Hid (P ↔ (ce.votes.length = 0)) := ⟨fun h => (hd.out.1 h).2, fun h => hd.out.2 ⟨hp.1 rfl, h⟩⟩
  clear hp
  cases h1 : ((ce.votes.length : Int) == 0)
  case false =>
    have hno : Hid (¬ P) := fun h => by rw [beq_eq_false_iff_ne] at h1; exact h1 (by have := (hd.out.1 h); omega)
    clear hd
    go_wp2
    go_ret
    exact told_no hno.out hB rfl
  have hy : Hid P := hd.out.2 (by rw [beq_iff_eq] at h1; omega)
  clear hd
  go_wp2
  go_ret
  exact told_yes hy.out hB rfl

set_option maxRecDepth 100000 in
set_option maxHeartbeats 2000000 in
theorem isZero_k (k : Int) (dg : ByteArray) (vi : Int) (tg : TagD) (ba : BatM) (he : HdrM) (ce : CertM) (bl : BlkM) (q : QcM) (w : World) :
    Calls Tryz.prog 34 #[MsgM.v ⟨k, dg, vi, tg, ba, he, ce, bl, q⟩, .int .i32 107] w (Told w (bl.d.Nil)) := by
  obtain ⟨P, hd⟩ : ∃ P : Prop, Hid (P ↔ (bl.d.Nil)) := ⟨_, Iff.rfl⟩
  refine Calls.mono ?_ (fun e w' (h : Told w P e w') => h.iff hd.out)
  replace hd : Hid (P ↔ (bl.view = 0 ∧ bl.qc.d.Nil ∧ bl.certs.length = 0)) := hd.out.trans (Iff.rfl)
  have hX := Arr.new w 39 [.int .i64 k, .string dg, .int .i64 vi, .int .i64 tg.who, .string tg.mac, .int .i64 ba.author, .int .i64 ba.number, .slice ba.ta ba.txs.length ba.tc, .int .i64 he.author, .int .i64 he.round, .slice he.ra he.refs.length he.rc, .slice he.pa he.parents.length he.pc, .int .i64 ce.hdr.author, .int .i64 ce.hdr.round, .slice ce.hdr.ra ce.hdr.refs.length ce.hdr.rc, .slice ce.hdr.pa ce.hdr.parents.length ce.hdr.pc, .slice ce.va ce.votes.length ce.vc, .int .i64 bl.view, .int .i64 bl.qc.view, .string bl.qc.block, .slice bl.qc.va bl.qc.votes.length bl.qc.vc, .slice bl.ca bl.certs.length bl.cc, .int .i64 q.view, .string q.block, .slice q.va q.votes.length q.vc]
  have hB := belowNew w (.cells [.int .i64 k, .string dg, .int .i64 vi, .int .i64 tg.who, .string tg.mac, .int .i64 ba.author, .int .i64 ba.number, .slice ba.ta ba.txs.length ba.tc, .int .i64 he.author, .int .i64 he.round, .slice he.ra he.refs.length he.rc, .slice he.pa he.parents.length he.pc, .int .i64 ce.hdr.author, .int .i64 ce.hdr.round, .slice ce.hdr.ra ce.hdr.refs.length ce.hdr.rc, .slice ce.hdr.pa ce.hdr.parents.length ce.hdr.pc, .slice ce.va ce.votes.length ce.vc, .int .i64 bl.view, .int .i64 bl.qc.view, .string bl.qc.block, .slice bl.qc.va bl.qc.votes.length bl.qc.vc, .slice bl.ca bl.certs.length bl.cc, .int .i64 q.view, .string q.block, .slice q.va q.votes.length q.vc].toArray 39)
  unfold MsgM.v MsgM.c
  simp only
  obtain ⟨w1, hw1⟩ : ∃ q', w.alloc (.cells [.int .i64 k, .string dg, .int .i64 vi, .int .i64 tg.who, .string tg.mac, .int .i64 ba.author, .int .i64 ba.number, .slice ba.ta ba.txs.length ba.tc, .int .i64 he.author, .int .i64 he.round, .slice he.ra he.refs.length he.rc, .slice he.pa he.parents.length he.pc, .int .i64 ce.hdr.author, .int .i64 ce.hdr.round, .slice ce.hdr.ra ce.hdr.refs.length ce.hdr.rc, .slice ce.hdr.pa ce.hdr.parents.length ce.hdr.pc, .slice ce.va ce.votes.length ce.vc, .int .i64 bl.view, .int .i64 bl.qc.view, .string bl.qc.block, .slice bl.qc.va bl.qc.votes.length bl.qc.vc, .slice bl.ca bl.certs.length bl.cc, .int .i64 q.view, .string q.block, .slice q.va q.votes.length q.vc].toArray 39) = q' := ⟨_, rfl⟩
  rw [hw1] at hX hB
  go_enter Tryz.func34, Tryz.ntmps34
  have x17 := hX.cell (i := 17) rfl
  have x18 := hX.cell (i := 18) rfl
  have x19 := hX.cell (i := 19) rfl
  have x20 := hX.cell (i := 20) rfl
  cases h0 : (bl.view == 0)
  case false =>
    have hno : Hid (¬ P) := fun h => by rw [beq_eq_false_iff_ne] at h0; exact h0 (by have := (hd.out.1 h).1; omega)
    clear hd
    go_wp2
    go_ret
    exact told_no hno.out hB rfl
  replace hd : Hid (P ↔ (bl.qc.d.Nil ∧ bl.certs.length = 0)) := ⟨fun h => (hd.out.1 h).2, fun h => hd.out.2 ⟨(by rw [beq_iff_eq] at h0; omega), h⟩⟩
  go_wp2_with fail
  refine (isZeroQc_any bl.qc _).mono ?_
  rintro e w2 ⟨⟨p, rfl, hp⟩, hb⟩
  have hX2 := hX.below hb hX.lt
  have hB2 := hB.trans (hb.mono hB.size)
  clear hX hB hb hw1 x17 x18 x19 x20
  obtain ⟨hX, hB⟩ := And.intro hX2 hB2
  clear hX2 hB2
  have x21 := hX.cell (i := 21) rfl
  cases p
  case false =>
    have hno : Hid (¬ P) := fun h => by have := hp.2 (hd.out.1 h).1; cases this
    clear hd hp
    go_wp2
    go_ret
    exact told_no hno.out hB rfl
  replace hd : Hid (P ↔ (bl.certs.length = 0)) := ⟨fun h => (hd.out.1 h).2, fun h => hd.out.2 ⟨hp.1 rfl, h⟩⟩
  clear hp
  cases h2 : ((bl.certs.length : Int) == 0)
  case false =>
    have hno : Hid (¬ P) := fun h => by rw [beq_eq_false_iff_ne] at h2; exact h2 (by have := (hd.out.1 h); omega)
    clear hd
    go_wp2
    go_ret
    exact told_no hno.out hB rfl
  have hy : Hid P := hd.out.2 (by rw [beq_iff_eq] at h2; omega)
  clear hd
  go_wp2
  go_ret
  exact told_yes hy.out hB rfl

set_option maxRecDepth 100000 in
set_option maxHeartbeats 2000000 in
theorem isZero_q (k : Int) (dg : ByteArray) (vi : Int) (tg : TagD) (ba : BatM) (he : HdrM) (ce : CertM) (bl : BlkM) (q : QcM) (w : World) :
    Calls Tryz.prog 34 #[MsgM.v ⟨k, dg, vi, tg, ba, he, ce, bl, q⟩, .int .i32 113] w (Told w (q.d.Nil)) := by
  obtain ⟨P, hd⟩ : ∃ P : Prop, Hid (P ↔ (q.d.Nil)) := ⟨_, Iff.rfl⟩
  refine Calls.mono ?_ (fun e w' (h : Told w P e w') => h.iff hd.out)
  replace hd : Hid (P ↔ (q.d.Nil)) := hd.out.trans (Iff.rfl)
  have hX := Arr.new w 39 [.int .i64 k, .string dg, .int .i64 vi, .int .i64 tg.who, .string tg.mac, .int .i64 ba.author, .int .i64 ba.number, .slice ba.ta ba.txs.length ba.tc, .int .i64 he.author, .int .i64 he.round, .slice he.ra he.refs.length he.rc, .slice he.pa he.parents.length he.pc, .int .i64 ce.hdr.author, .int .i64 ce.hdr.round, .slice ce.hdr.ra ce.hdr.refs.length ce.hdr.rc, .slice ce.hdr.pa ce.hdr.parents.length ce.hdr.pc, .slice ce.va ce.votes.length ce.vc, .int .i64 bl.view, .int .i64 bl.qc.view, .string bl.qc.block, .slice bl.qc.va bl.qc.votes.length bl.qc.vc, .slice bl.ca bl.certs.length bl.cc, .int .i64 q.view, .string q.block, .slice q.va q.votes.length q.vc]
  have hB := belowNew w (.cells [.int .i64 k, .string dg, .int .i64 vi, .int .i64 tg.who, .string tg.mac, .int .i64 ba.author, .int .i64 ba.number, .slice ba.ta ba.txs.length ba.tc, .int .i64 he.author, .int .i64 he.round, .slice he.ra he.refs.length he.rc, .slice he.pa he.parents.length he.pc, .int .i64 ce.hdr.author, .int .i64 ce.hdr.round, .slice ce.hdr.ra ce.hdr.refs.length ce.hdr.rc, .slice ce.hdr.pa ce.hdr.parents.length ce.hdr.pc, .slice ce.va ce.votes.length ce.vc, .int .i64 bl.view, .int .i64 bl.qc.view, .string bl.qc.block, .slice bl.qc.va bl.qc.votes.length bl.qc.vc, .slice bl.ca bl.certs.length bl.cc, .int .i64 q.view, .string q.block, .slice q.va q.votes.length q.vc].toArray 39)
  unfold MsgM.v MsgM.c
  simp only
  obtain ⟨w1, hw1⟩ : ∃ q', w.alloc (.cells [.int .i64 k, .string dg, .int .i64 vi, .int .i64 tg.who, .string tg.mac, .int .i64 ba.author, .int .i64 ba.number, .slice ba.ta ba.txs.length ba.tc, .int .i64 he.author, .int .i64 he.round, .slice he.ra he.refs.length he.rc, .slice he.pa he.parents.length he.pc, .int .i64 ce.hdr.author, .int .i64 ce.hdr.round, .slice ce.hdr.ra ce.hdr.refs.length ce.hdr.rc, .slice ce.hdr.pa ce.hdr.parents.length ce.hdr.pc, .slice ce.va ce.votes.length ce.vc, .int .i64 bl.view, .int .i64 bl.qc.view, .string bl.qc.block, .slice bl.qc.va bl.qc.votes.length bl.qc.vc, .slice bl.ca bl.certs.length bl.cc, .int .i64 q.view, .string q.block, .slice q.va q.votes.length q.vc].toArray 39) = q' := ⟨_, rfl⟩
  rw [hw1] at hX hB
  go_enter Tryz.func34, Tryz.ntmps34
  have x22 := hX.cell (i := 22) rfl
  have x23 := hX.cell (i := 23) rfl
  have x24 := hX.cell (i := 24) rfl
  go_wp2_with fail
  refine (isZeroQc_any q _).mono ?_
  rintro e w2 ⟨⟨p, rfl, hp⟩, hb⟩
  have hX2 := hX.below hb hX.lt
  have hB2 := hB.trans (hb.mono hB.size)
  clear hX hB hb hw1 x22 x23 x24
  obtain ⟨hX, hB⟩ := And.intro hX2 hB2
  clear hX2 hB2
  have hF : Hid (p = true ↔ P) := hp.trans hd.out.symm
  clear hd hp
  go_wp2
  go_ret
  exact ⟨⟨_, rfl, hF.out⟩, hB⟩

set_option maxRecDepth 100000 in
set_option maxHeartbeats 2000000 in
theorem isPlain_d (k : Int) (dg : ByteArray) (vi : Int) (tg : TagD) (ba : BatM) (he : HdrM) (ce : CertM) (bl : BlkM) (q : QcM) (w : World) :
    Calls Tryz.prog 68 #[MsgM.v ⟨k, dg, vi, tg, ba, he, ce, bl, q⟩, .int .i32 100] w (Told w (dg.size = 32)) := by
  obtain ⟨P, hd⟩ : ∃ P : Prop, Hid (P ↔ (dg.size = 32)) := ⟨_, Iff.rfl⟩
  refine Calls.mono ?_ (fun e w' (h : Told w P e w') => h.iff hd.out)
  replace hd : Hid (P ↔ (dg.size = 32)) := hd.out.trans (Iff.rfl)
  have hX := Arr.new w 39 [.int .i64 k, .string dg, .int .i64 vi, .int .i64 tg.who, .string tg.mac, .int .i64 ba.author, .int .i64 ba.number, .slice ba.ta ba.txs.length ba.tc, .int .i64 he.author, .int .i64 he.round, .slice he.ra he.refs.length he.rc, .slice he.pa he.parents.length he.pc, .int .i64 ce.hdr.author, .int .i64 ce.hdr.round, .slice ce.hdr.ra ce.hdr.refs.length ce.hdr.rc, .slice ce.hdr.pa ce.hdr.parents.length ce.hdr.pc, .slice ce.va ce.votes.length ce.vc, .int .i64 bl.view, .int .i64 bl.qc.view, .string bl.qc.block, .slice bl.qc.va bl.qc.votes.length bl.qc.vc, .slice bl.ca bl.certs.length bl.cc, .int .i64 q.view, .string q.block, .slice q.va q.votes.length q.vc]
  have hB := belowNew w (.cells [.int .i64 k, .string dg, .int .i64 vi, .int .i64 tg.who, .string tg.mac, .int .i64 ba.author, .int .i64 ba.number, .slice ba.ta ba.txs.length ba.tc, .int .i64 he.author, .int .i64 he.round, .slice he.ra he.refs.length he.rc, .slice he.pa he.parents.length he.pc, .int .i64 ce.hdr.author, .int .i64 ce.hdr.round, .slice ce.hdr.ra ce.hdr.refs.length ce.hdr.rc, .slice ce.hdr.pa ce.hdr.parents.length ce.hdr.pc, .slice ce.va ce.votes.length ce.vc, .int .i64 bl.view, .int .i64 bl.qc.view, .string bl.qc.block, .slice bl.qc.va bl.qc.votes.length bl.qc.vc, .slice bl.ca bl.certs.length bl.cc, .int .i64 q.view, .string q.block, .slice q.va q.votes.length q.vc].toArray 39)
  unfold MsgM.v MsgM.c
  simp only
  obtain ⟨w1, hw1⟩ : ∃ q', w.alloc (.cells [.int .i64 k, .string dg, .int .i64 vi, .int .i64 tg.who, .string tg.mac, .int .i64 ba.author, .int .i64 ba.number, .slice ba.ta ba.txs.length ba.tc, .int .i64 he.author, .int .i64 he.round, .slice he.ra he.refs.length he.rc, .slice he.pa he.parents.length he.pc, .int .i64 ce.hdr.author, .int .i64 ce.hdr.round, .slice ce.hdr.ra ce.hdr.refs.length ce.hdr.rc, .slice ce.hdr.pa ce.hdr.parents.length ce.hdr.pc, .slice ce.va ce.votes.length ce.vc, .int .i64 bl.view, .int .i64 bl.qc.view, .string bl.qc.block, .slice bl.qc.va bl.qc.votes.length bl.qc.vc, .slice bl.ca bl.certs.length bl.cc, .int .i64 q.view, .string q.block, .slice q.va q.votes.length q.vc].toArray 39) = q' := ⟨_, rfl⟩
  rw [hw1] at hX hB
  go_enter Tryz.func68, Tryz.ntmps68
  have x1 := hX.cell (i := 1) rfl
  go_wp2_with fail
  refine (isDigest_any dg _).mono ?_
  rintro e w2 ⟨⟨p, rfl, hp⟩, hb⟩
  have hX2 := hX.below hb hX.lt
  have hB2 := hB.trans (hb.mono hB.size)
  clear hX hB hb hw1 x1
  obtain ⟨hX, hB⟩ := And.intro hX2 hB2
  clear hX2 hB2
  have hF : Hid (p = true ↔ P) := hp.trans hd.out.symm
  clear hd hp
  go_wp2
  go_ret
  exact ⟨⟨_, rfl, hF.out⟩, hB⟩

set_option maxRecDepth 100000 in
set_option maxHeartbeats 2000000 in
theorem isPlain_v (k : Int) (dg : ByteArray) (vi : Int) (tg : TagD) (ba : BatM) (he : HdrM) (ce : CertM) (bl : BlkM) (q : QcM) (w : World) :
    Calls Tryz.prog 68 #[MsgM.v ⟨k, dg, vi, tg, ba, he, ce, bl, q⟩, .int .i32 118] w (Told w (numOk vi)) := by
  obtain ⟨P, hd⟩ : ∃ P : Prop, Hid (P ↔ (numOk vi)) := ⟨_, Iff.rfl⟩
  refine Calls.mono ?_ (fun e w' (h : Told w P e w') => h.iff hd.out)
  replace hd : Hid (P ↔ (numOk vi)) := hd.out.trans (Iff.rfl)
  have hX := Arr.new w 39 [.int .i64 k, .string dg, .int .i64 vi, .int .i64 tg.who, .string tg.mac, .int .i64 ba.author, .int .i64 ba.number, .slice ba.ta ba.txs.length ba.tc, .int .i64 he.author, .int .i64 he.round, .slice he.ra he.refs.length he.rc, .slice he.pa he.parents.length he.pc, .int .i64 ce.hdr.author, .int .i64 ce.hdr.round, .slice ce.hdr.ra ce.hdr.refs.length ce.hdr.rc, .slice ce.hdr.pa ce.hdr.parents.length ce.hdr.pc, .slice ce.va ce.votes.length ce.vc, .int .i64 bl.view, .int .i64 bl.qc.view, .string bl.qc.block, .slice bl.qc.va bl.qc.votes.length bl.qc.vc, .slice bl.ca bl.certs.length bl.cc, .int .i64 q.view, .string q.block, .slice q.va q.votes.length q.vc]
  have hB := belowNew w (.cells [.int .i64 k, .string dg, .int .i64 vi, .int .i64 tg.who, .string tg.mac, .int .i64 ba.author, .int .i64 ba.number, .slice ba.ta ba.txs.length ba.tc, .int .i64 he.author, .int .i64 he.round, .slice he.ra he.refs.length he.rc, .slice he.pa he.parents.length he.pc, .int .i64 ce.hdr.author, .int .i64 ce.hdr.round, .slice ce.hdr.ra ce.hdr.refs.length ce.hdr.rc, .slice ce.hdr.pa ce.hdr.parents.length ce.hdr.pc, .slice ce.va ce.votes.length ce.vc, .int .i64 bl.view, .int .i64 bl.qc.view, .string bl.qc.block, .slice bl.qc.va bl.qc.votes.length bl.qc.vc, .slice bl.ca bl.certs.length bl.cc, .int .i64 q.view, .string q.block, .slice q.va q.votes.length q.vc].toArray 39)
  unfold MsgM.v MsgM.c
  simp only
  obtain ⟨w1, hw1⟩ : ∃ q', w.alloc (.cells [.int .i64 k, .string dg, .int .i64 vi, .int .i64 tg.who, .string tg.mac, .int .i64 ba.author, .int .i64 ba.number, .slice ba.ta ba.txs.length ba.tc, .int .i64 he.author, .int .i64 he.round, .slice he.ra he.refs.length he.rc, .slice he.pa he.parents.length he.pc, .int .i64 ce.hdr.author, .int .i64 ce.hdr.round, .slice ce.hdr.ra ce.hdr.refs.length ce.hdr.rc, .slice ce.hdr.pa ce.hdr.parents.length ce.hdr.pc, .slice ce.va ce.votes.length ce.vc, .int .i64 bl.view, .int .i64 bl.qc.view, .string bl.qc.block, .slice bl.qc.va bl.qc.votes.length bl.qc.vc, .slice bl.ca bl.certs.length bl.cc, .int .i64 q.view, .string q.block, .slice q.va q.votes.length q.vc].toArray 39) = q' := ⟨_, rfl⟩
  rw [hw1] at hX hB
  go_enter Tryz.func68, Tryz.ntmps68
  have x2 := hX.cell (i := 2) rfl
  go_wp2_with fail
  refine (isNumber_any vi _).mono ?_
  rintro e w2 ⟨⟨p, rfl, hp⟩, hb⟩
  have hX2 := hX.below hb hX.lt
  have hB2 := hB.trans (hb.mono hB.size)
  clear hX hB hb hw1 x2
  obtain ⟨hX, hB⟩ := And.intro hX2 hB2
  clear hX2 hB2
  have hF : Hid (p = true ↔ P) := hp.trans hd.out.symm
  clear hd hp
  go_wp2
  go_ret
  exact ⟨⟨_, rfl, hF.out⟩, hB⟩

set_option maxRecDepth 100000 in
set_option maxHeartbeats 2000000 in
theorem isPlain_t (k : Int) (dg : ByteArray) (vi : Int) (tg : TagD) (ba : BatM) (he : HdrM) (ce : CertM) (bl : BlkM) (q : QcM) (w : World) :
    Calls Tryz.prog 68 #[MsgM.v ⟨k, dg, vi, tg, ba, he, ce, bl, q⟩, .int .i32 116] w (Told w (tagOk tg)) := by
  obtain ⟨P, hd⟩ : ∃ P : Prop, Hid (P ↔ (tagOk tg)) := ⟨_, Iff.rfl⟩
  refine Calls.mono ?_ (fun e w' (h : Told w P e w') => h.iff hd.out)
  replace hd : Hid (P ↔ (tagOk tg)) := hd.out.trans (Iff.rfl)
  have hX := Arr.new w 39 [.int .i64 k, .string dg, .int .i64 vi, .int .i64 tg.who, .string tg.mac, .int .i64 ba.author, .int .i64 ba.number, .slice ba.ta ba.txs.length ba.tc, .int .i64 he.author, .int .i64 he.round, .slice he.ra he.refs.length he.rc, .slice he.pa he.parents.length he.pc, .int .i64 ce.hdr.author, .int .i64 ce.hdr.round, .slice ce.hdr.ra ce.hdr.refs.length ce.hdr.rc, .slice ce.hdr.pa ce.hdr.parents.length ce.hdr.pc, .slice ce.va ce.votes.length ce.vc, .int .i64 bl.view, .int .i64 bl.qc.view, .string bl.qc.block, .slice bl.qc.va bl.qc.votes.length bl.qc.vc, .slice bl.ca bl.certs.length bl.cc, .int .i64 q.view, .string q.block, .slice q.va q.votes.length q.vc]
  have hB := belowNew w (.cells [.int .i64 k, .string dg, .int .i64 vi, .int .i64 tg.who, .string tg.mac, .int .i64 ba.author, .int .i64 ba.number, .slice ba.ta ba.txs.length ba.tc, .int .i64 he.author, .int .i64 he.round, .slice he.ra he.refs.length he.rc, .slice he.pa he.parents.length he.pc, .int .i64 ce.hdr.author, .int .i64 ce.hdr.round, .slice ce.hdr.ra ce.hdr.refs.length ce.hdr.rc, .slice ce.hdr.pa ce.hdr.parents.length ce.hdr.pc, .slice ce.va ce.votes.length ce.vc, .int .i64 bl.view, .int .i64 bl.qc.view, .string bl.qc.block, .slice bl.qc.va bl.qc.votes.length bl.qc.vc, .slice bl.ca bl.certs.length bl.cc, .int .i64 q.view, .string q.block, .slice q.va q.votes.length q.vc].toArray 39)
  unfold MsgM.v MsgM.c
  simp only
  obtain ⟨w1, hw1⟩ : ∃ q', w.alloc (.cells [.int .i64 k, .string dg, .int .i64 vi, .int .i64 tg.who, .string tg.mac, .int .i64 ba.author, .int .i64 ba.number, .slice ba.ta ba.txs.length ba.tc, .int .i64 he.author, .int .i64 he.round, .slice he.ra he.refs.length he.rc, .slice he.pa he.parents.length he.pc, .int .i64 ce.hdr.author, .int .i64 ce.hdr.round, .slice ce.hdr.ra ce.hdr.refs.length ce.hdr.rc, .slice ce.hdr.pa ce.hdr.parents.length ce.hdr.pc, .slice ce.va ce.votes.length ce.vc, .int .i64 bl.view, .int .i64 bl.qc.view, .string bl.qc.block, .slice bl.qc.va bl.qc.votes.length bl.qc.vc, .slice bl.ca bl.certs.length bl.cc, .int .i64 q.view, .string q.block, .slice q.va q.votes.length q.vc].toArray 39) = q' := ⟨_, rfl⟩
  rw [hw1] at hX hB
  go_enter Tryz.func68, Tryz.ntmps68
  have x3 := hX.cell (i := 3) rfl
  have x4 := hX.cell (i := 4) rfl
  go_wp2_with fail
  refine (isPlainTag_any tg _).mono ?_
  rintro e w2 ⟨⟨p, rfl, hp⟩, hb⟩
  have hX2 := hX.below hb hX.lt
  have hB2 := hB.trans (hb.mono hB.size)
  clear hX hB hb hw1 x3 x4
  obtain ⟨hX, hB⟩ := And.intro hX2 hB2
  clear hX2 hB2
  have hF : Hid (p = true ↔ P) := hp.trans hd.out.symm
  clear hd hp
  go_wp2
  go_ret
  exact ⟨⟨_, rfl, hF.out⟩, hB⟩

set_option maxRecDepth 100000 in
set_option maxHeartbeats 2000000 in
theorem isPlain_h (k : Int) (dg : ByteArray) (vi : Int) (tg : TagD) (ba : BatM) (he : HdrM) (ce : CertM) (bl : BlkM) (q : QcM) (w : World) (hA : MsgM.At w ⟨k, dg, vi, tg, ba, he, ce, bl, q⟩) (hn : MsgM.Num ⟨k, dg, vi, tg, ba, he, ce, bl, q⟩) :
    Calls Tryz.prog 68 #[MsgM.v ⟨k, dg, vi, tg, ba, he, ce, bl, q⟩, .int .i32 104] w (Told w (he.d.Plain)) := by
  obtain ⟨P, hd⟩ : ∃ P : Prop, Hid (P ↔ (he.d.Plain)) := ⟨_, Iff.rfl⟩
  refine Calls.mono ?_ (fun e w' (h : Told w P e w') => h.iff hd.out)
  replace hd : Hid (P ↔ (he.d.Plain)) := hd.out.trans (Iff.rfl)
  have hX := Arr.new w 39 [.int .i64 k, .string dg, .int .i64 vi, .int .i64 tg.who, .string tg.mac, .int .i64 ba.author, .int .i64 ba.number, .slice ba.ta ba.txs.length ba.tc, .int .i64 he.author, .int .i64 he.round, .slice he.ra he.refs.length he.rc, .slice he.pa he.parents.length he.pc, .int .i64 ce.hdr.author, .int .i64 ce.hdr.round, .slice ce.hdr.ra ce.hdr.refs.length ce.hdr.rc, .slice ce.hdr.pa ce.hdr.parents.length ce.hdr.pc, .slice ce.va ce.votes.length ce.vc, .int .i64 bl.view, .int .i64 bl.qc.view, .string bl.qc.block, .slice bl.qc.va bl.qc.votes.length bl.qc.vc, .slice bl.ca bl.certs.length bl.cc, .int .i64 q.view, .string q.block, .slice q.va q.votes.length q.vc]
  have hB := belowNew w (.cells [.int .i64 k, .string dg, .int .i64 vi, .int .i64 tg.who, .string tg.mac, .int .i64 ba.author, .int .i64 ba.number, .slice ba.ta ba.txs.length ba.tc, .int .i64 he.author, .int .i64 he.round, .slice he.ra he.refs.length he.rc, .slice he.pa he.parents.length he.pc, .int .i64 ce.hdr.author, .int .i64 ce.hdr.round, .slice ce.hdr.ra ce.hdr.refs.length ce.hdr.rc, .slice ce.hdr.pa ce.hdr.parents.length ce.hdr.pc, .slice ce.va ce.votes.length ce.vc, .int .i64 bl.view, .int .i64 bl.qc.view, .string bl.qc.block, .slice bl.qc.va bl.qc.votes.length bl.qc.vc, .slice bl.ca bl.certs.length bl.cc, .int .i64 q.view, .string q.block, .slice q.va q.votes.length q.vc].toArray 39)
  have hM := hA.below hB
  unfold MsgM.v MsgM.c
  simp only
  obtain ⟨w1, hw1⟩ : ∃ q', w.alloc (.cells [.int .i64 k, .string dg, .int .i64 vi, .int .i64 tg.who, .string tg.mac, .int .i64 ba.author, .int .i64 ba.number, .slice ba.ta ba.txs.length ba.tc, .int .i64 he.author, .int .i64 he.round, .slice he.ra he.refs.length he.rc, .slice he.pa he.parents.length he.pc, .int .i64 ce.hdr.author, .int .i64 ce.hdr.round, .slice ce.hdr.ra ce.hdr.refs.length ce.hdr.rc, .slice ce.hdr.pa ce.hdr.parents.length ce.hdr.pc, .slice ce.va ce.votes.length ce.vc, .int .i64 bl.view, .int .i64 bl.qc.view, .string bl.qc.block, .slice bl.qc.va bl.qc.votes.length bl.qc.vc, .slice bl.ca bl.certs.length bl.cc, .int .i64 q.view, .string q.block, .slice q.va q.votes.length q.vc].toArray 39) = q' := ⟨_, rfl⟩
  rw [hw1] at hX hB hM
  go_enter Tryz.func68, Tryz.ntmps68
  have x8 := hX.cell (i := 8) rfl
  have x9 := hX.cell (i := 9) rfl
  have x10 := hX.cell (i := 10) rfl
  have x11 := hX.cell (i := 11) rfl
  go_wp2_with fail
  refine (isPlainHeader_any he _ hM.hdr hn.refs hn.ps hn.acks).mono ?_
  rintro e w2 ⟨⟨p, rfl, hp⟩, hb⟩
  have hX2 := hX.below hb hX.lt
  have hB2 := hB.trans (hb.mono hB.size)
  have hM2 := hM.below hb
  clear hX hB hb hM hw1 x8 x9 x10 x11
  obtain ⟨hX, hB⟩ := And.intro hX2 hB2
  have hM := hM2
  clear hX2 hB2 hM2
  have hF : Hid (p = true ↔ P) := hp.trans hd.out.symm
  clear hd hp
  go_wp2
  go_ret
  exact ⟨⟨_, rfl, hF.out⟩, hB⟩

set_option maxRecDepth 100000 in
set_option maxHeartbeats 2000000 in
theorem isPlain_c (k : Int) (dg : ByteArray) (vi : Int) (tg : TagD) (ba : BatM) (he : HdrM) (ce : CertM) (bl : BlkM) (q : QcM) (w : World) (hA : MsgM.At w ⟨k, dg, vi, tg, ba, he, ce, bl, q⟩) (hn : MsgM.Num ⟨k, dg, vi, tg, ba, he, ce, bl, q⟩) :
    Calls Tryz.prog 68 #[MsgM.v ⟨k, dg, vi, tg, ba, he, ce, bl, q⟩, .int .i32 99] w (Told w (ce.d.Plain)) := by
  obtain ⟨P, hd⟩ : ∃ P : Prop, Hid (P ↔ (ce.d.Plain)) := ⟨_, Iff.rfl⟩
  refine Calls.mono ?_ (fun e w' (h : Told w P e w') => h.iff hd.out)
  replace hd : Hid (P ↔ (ce.hdr.d.Plain ∧ tagsOk ce.votes)) := hd.out.trans (Iff.rfl)
  have hX := Arr.new w 39 [.int .i64 k, .string dg, .int .i64 vi, .int .i64 tg.who, .string tg.mac, .int .i64 ba.author, .int .i64 ba.number, .slice ba.ta ba.txs.length ba.tc, .int .i64 he.author, .int .i64 he.round, .slice he.ra he.refs.length he.rc, .slice he.pa he.parents.length he.pc, .int .i64 ce.hdr.author, .int .i64 ce.hdr.round, .slice ce.hdr.ra ce.hdr.refs.length ce.hdr.rc, .slice ce.hdr.pa ce.hdr.parents.length ce.hdr.pc, .slice ce.va ce.votes.length ce.vc, .int .i64 bl.view, .int .i64 bl.qc.view, .string bl.qc.block, .slice bl.qc.va bl.qc.votes.length bl.qc.vc, .slice bl.ca bl.certs.length bl.cc, .int .i64 q.view, .string q.block, .slice q.va q.votes.length q.vc]
  have hB := belowNew w (.cells [.int .i64 k, .string dg, .int .i64 vi, .int .i64 tg.who, .string tg.mac, .int .i64 ba.author, .int .i64 ba.number, .slice ba.ta ba.txs.length ba.tc, .int .i64 he.author, .int .i64 he.round, .slice he.ra he.refs.length he.rc, .slice he.pa he.parents.length he.pc, .int .i64 ce.hdr.author, .int .i64 ce.hdr.round, .slice ce.hdr.ra ce.hdr.refs.length ce.hdr.rc, .slice ce.hdr.pa ce.hdr.parents.length ce.hdr.pc, .slice ce.va ce.votes.length ce.vc, .int .i64 bl.view, .int .i64 bl.qc.view, .string bl.qc.block, .slice bl.qc.va bl.qc.votes.length bl.qc.vc, .slice bl.ca bl.certs.length bl.cc, .int .i64 q.view, .string q.block, .slice q.va q.votes.length q.vc].toArray 39)
  have hM := hA.below hB
  unfold MsgM.v MsgM.c
  simp only
  obtain ⟨w1, hw1⟩ : ∃ q', w.alloc (.cells [.int .i64 k, .string dg, .int .i64 vi, .int .i64 tg.who, .string tg.mac, .int .i64 ba.author, .int .i64 ba.number, .slice ba.ta ba.txs.length ba.tc, .int .i64 he.author, .int .i64 he.round, .slice he.ra he.refs.length he.rc, .slice he.pa he.parents.length he.pc, .int .i64 ce.hdr.author, .int .i64 ce.hdr.round, .slice ce.hdr.ra ce.hdr.refs.length ce.hdr.rc, .slice ce.hdr.pa ce.hdr.parents.length ce.hdr.pc, .slice ce.va ce.votes.length ce.vc, .int .i64 bl.view, .int .i64 bl.qc.view, .string bl.qc.block, .slice bl.qc.va bl.qc.votes.length bl.qc.vc, .slice bl.ca bl.certs.length bl.cc, .int .i64 q.view, .string q.block, .slice q.va q.votes.length q.vc].toArray 39) = q' := ⟨_, rfl⟩
  rw [hw1] at hX hB hM
  go_enter Tryz.func68, Tryz.ntmps68
  have x12 := hX.cell (i := 12) rfl
  have x13 := hX.cell (i := 13) rfl
  have x14 := hX.cell (i := 14) rfl
  have x15 := hX.cell (i := 15) rfl
  go_wp2_with fail
  refine (isPlainHeader_any ce.hdr _ hM.cert.hdr hn.crefs hn.cps hn.cacks).mono ?_
  rintro e w2 ⟨⟨p, rfl, hp⟩, hb⟩
  have hX2 := hX.below hb hX.lt
  have hB2 := hB.trans (hb.mono hB.size)
  have hM2 := hM.below hb
  clear hX hB hb hM hw1 x12 x13 x14 x15
  obtain ⟨hX, hB⟩ := And.intro hX2 hB2
  have hM := hM2
  clear hX2 hB2 hM2
  have x16 := hX.cell (i := 16) rfl
  cases p
  case false =>
    have hno : Hid (¬ P) := fun h => by have := hp.2 (hd.out.1 h).1; cases this
    clear hd hp
    go_wp2
    go_ret
    exact told_no hno.out hB rfl
  replace hd : Hid (P ↔ (tagsOk ce.votes)) := ⟨fun h => (hd.out.1 h).2, fun h => hd.out.2 ⟨hp.1 rfl, h⟩⟩
  clear hp
  go_wp2_with fail
  refine (arePlainTags_any ce.va ce.vc ce.votes _ hM.cert.votes hn.votes).mono ?_
  rintro e w3 ⟨⟨p, rfl, hp⟩, hb⟩
  have hX2 := hX.below hb hX.lt
  have hB2 := hB.trans (hb.mono hB.size)
  have hM2 := hM.below hb
  clear hX hB hb hM x16
  obtain ⟨hX, hB⟩ := And.intro hX2 hB2
  have hM := hM2
  clear hX2 hB2 hM2
  have hF : Hid (p = true ↔ P) := hp.trans hd.out.symm
  clear hd hp
  go_wp2
  go_ret
  exact ⟨⟨_, rfl, hF.out⟩, hB⟩

set_option maxRecDepth 100000 in
set_option maxHeartbeats 2000000 in
theorem isPlain_k (k : Int) (dg : ByteArray) (vi : Int) (tg : TagD) (ba : BatM) (he : HdrM) (ce : CertM) (bl : BlkM) (q : QcM) (w : World) (hA : MsgM.At w ⟨k, dg, vi, tg, ba, he, ce, bl, q⟩) (hn : MsgM.Num ⟨k, dg, vi, tg, ba, he, ce, bl, q⟩) :
    Calls Tryz.prog 68 #[MsgM.v ⟨k, dg, vi, tg, ba, he, ce, bl, q⟩, .int .i32 107] w (Told w (bl.d.Plain)) := by
  obtain ⟨P, hd⟩ : ∃ P : Prop, Hid (P ↔ (bl.d.Plain)) := ⟨_, Iff.rfl⟩
  refine Calls.mono ?_ (fun e w' (h : Told w P e w') => h.iff hd.out)
  replace hd : Hid (P ↔ (numOk bl.view ∧ bl.qc.d.Plain ∧ (bl.certs.length ≤ 8 ∧ ∀ c ∈ bl.certs, c.size = 40))) := hd.out.trans (Iff.rfl)
  have hX := Arr.new w 39 [.int .i64 k, .string dg, .int .i64 vi, .int .i64 tg.who, .string tg.mac, .int .i64 ba.author, .int .i64 ba.number, .slice ba.ta ba.txs.length ba.tc, .int .i64 he.author, .int .i64 he.round, .slice he.ra he.refs.length he.rc, .slice he.pa he.parents.length he.pc, .int .i64 ce.hdr.author, .int .i64 ce.hdr.round, .slice ce.hdr.ra ce.hdr.refs.length ce.hdr.rc, .slice ce.hdr.pa ce.hdr.parents.length ce.hdr.pc, .slice ce.va ce.votes.length ce.vc, .int .i64 bl.view, .int .i64 bl.qc.view, .string bl.qc.block, .slice bl.qc.va bl.qc.votes.length bl.qc.vc, .slice bl.ca bl.certs.length bl.cc, .int .i64 q.view, .string q.block, .slice q.va q.votes.length q.vc]
  have hB := belowNew w (.cells [.int .i64 k, .string dg, .int .i64 vi, .int .i64 tg.who, .string tg.mac, .int .i64 ba.author, .int .i64 ba.number, .slice ba.ta ba.txs.length ba.tc, .int .i64 he.author, .int .i64 he.round, .slice he.ra he.refs.length he.rc, .slice he.pa he.parents.length he.pc, .int .i64 ce.hdr.author, .int .i64 ce.hdr.round, .slice ce.hdr.ra ce.hdr.refs.length ce.hdr.rc, .slice ce.hdr.pa ce.hdr.parents.length ce.hdr.pc, .slice ce.va ce.votes.length ce.vc, .int .i64 bl.view, .int .i64 bl.qc.view, .string bl.qc.block, .slice bl.qc.va bl.qc.votes.length bl.qc.vc, .slice bl.ca bl.certs.length bl.cc, .int .i64 q.view, .string q.block, .slice q.va q.votes.length q.vc].toArray 39)
  have hM := hA.below hB
  unfold MsgM.v MsgM.c
  simp only
  obtain ⟨w1, hw1⟩ : ∃ q', w.alloc (.cells [.int .i64 k, .string dg, .int .i64 vi, .int .i64 tg.who, .string tg.mac, .int .i64 ba.author, .int .i64 ba.number, .slice ba.ta ba.txs.length ba.tc, .int .i64 he.author, .int .i64 he.round, .slice he.ra he.refs.length he.rc, .slice he.pa he.parents.length he.pc, .int .i64 ce.hdr.author, .int .i64 ce.hdr.round, .slice ce.hdr.ra ce.hdr.refs.length ce.hdr.rc, .slice ce.hdr.pa ce.hdr.parents.length ce.hdr.pc, .slice ce.va ce.votes.length ce.vc, .int .i64 bl.view, .int .i64 bl.qc.view, .string bl.qc.block, .slice bl.qc.va bl.qc.votes.length bl.qc.vc, .slice bl.ca bl.certs.length bl.cc, .int .i64 q.view, .string q.block, .slice q.va q.votes.length q.vc].toArray 39) = q' := ⟨_, rfl⟩
  rw [hw1] at hX hB hM
  go_enter Tryz.func68, Tryz.ntmps68
  have x17 := hX.cell (i := 17) rfl
  go_wp2_with fail
  refine (isNumber_any bl.view _).mono ?_
  rintro e w2 ⟨⟨p, rfl, hp⟩, hb⟩
  have hX2 := hX.below hb hX.lt
  have hB2 := hB.trans (hb.mono hB.size)
  have hM2 := hM.below hb
  clear hX hB hb hM hw1 x17
  obtain ⟨hX, hB⟩ := And.intro hX2 hB2
  have hM := hM2
  clear hX2 hB2 hM2
  have x18 := hX.cell (i := 18) rfl
  have x19 := hX.cell (i := 19) rfl
  have x20 := hX.cell (i := 20) rfl
  cases p
  case false =>
    have hno : Hid (¬ P) := fun h => by have := hp.2 (hd.out.1 h).1; cases this
    clear hd hp
    go_wp2
    go_ret
    exact told_no hno.out hB rfl
  replace hd : Hid (P ↔ (bl.qc.d.Plain ∧ (bl.certs.length ≤ 8 ∧ ∀ c ∈ bl.certs, c.size = 40))) := ⟨fun h => (hd.out.1 h).2, fun h => hd.out.2 ⟨hp.1 rfl, h⟩⟩
  clear hp
  go_wp2_with fail
  refine (isPlainQc_any bl.qc _ hM.blk.qc hn.bvotes).mono ?_
  rintro e w3 ⟨⟨p, rfl, hp⟩, hb⟩
  have hX2 := hX.below hb hX.lt
  have hB2 := hB.trans (hb.mono hB.size)
  have hM2 := hM.below hb
  clear hX hB hb hM x18 x19 x20
  obtain ⟨hX, hB⟩ := And.intro hX2 hB2
  have hM := hM2
  clear hX2 hB2 hM2
  have x21 := hX.cell (i := 21) rfl
  cases p
  case false =>
    have hno : Hid (¬ P) := fun h => by have := hp.2 (hd.out.1 h).1; cases this
    clear hd hp
    go_wp2
    go_ret
    exact told_no hno.out hB rfl
  replace hd : Hid (P ↔ ((bl.certs.length ≤ 8 ∧ ∀ c ∈ bl.certs, c.size = 40))) := ⟨fun h => (hd.out.1 h).2, fun h => hd.out.2 ⟨hp.1 rfl, h⟩⟩
  clear hp
  go_wp2_with fail
  refine (areSized_any bl.ca bl.cc bl.certs 8 40 _ hM.blk.certs hn.certs).mono ?_
  rintro e w4 ⟨⟨p, rfl, hp⟩, hb⟩
  have hX2 := hX.below hb hX.lt
  have hB2 := hB.trans (hb.mono hB.size)
  have hM2 := hM.below hb
  clear hX hB hb hM x21
  obtain ⟨hX, hB⟩ := And.intro hX2 hB2
  have hM := hM2
  clear hX2 hB2 hM2
  have hF : Hid (p = true ↔ P) := hp.trans hd.out.symm
  clear hd hp
  go_wp2
  go_ret
  exact ⟨⟨_, rfl, hF.out⟩, hB⟩

set_option maxRecDepth 100000 in
set_option maxHeartbeats 2000000 in
theorem isPlain_q (k : Int) (dg : ByteArray) (vi : Int) (tg : TagD) (ba : BatM) (he : HdrM) (ce : CertM) (bl : BlkM) (q : QcM) (w : World) (hA : MsgM.At w ⟨k, dg, vi, tg, ba, he, ce, bl, q⟩) (hn : MsgM.Num ⟨k, dg, vi, tg, ba, he, ce, bl, q⟩) :
    Calls Tryz.prog 68 #[MsgM.v ⟨k, dg, vi, tg, ba, he, ce, bl, q⟩, .int .i32 113] w (Told w (q.d.Plain)) := by
  obtain ⟨P, hd⟩ : ∃ P : Prop, Hid (P ↔ (q.d.Plain)) := ⟨_, Iff.rfl⟩
  refine Calls.mono ?_ (fun e w' (h : Told w P e w') => h.iff hd.out)
  replace hd : Hid (P ↔ (q.d.Plain)) := hd.out.trans (Iff.rfl)
  have hX := Arr.new w 39 [.int .i64 k, .string dg, .int .i64 vi, .int .i64 tg.who, .string tg.mac, .int .i64 ba.author, .int .i64 ba.number, .slice ba.ta ba.txs.length ba.tc, .int .i64 he.author, .int .i64 he.round, .slice he.ra he.refs.length he.rc, .slice he.pa he.parents.length he.pc, .int .i64 ce.hdr.author, .int .i64 ce.hdr.round, .slice ce.hdr.ra ce.hdr.refs.length ce.hdr.rc, .slice ce.hdr.pa ce.hdr.parents.length ce.hdr.pc, .slice ce.va ce.votes.length ce.vc, .int .i64 bl.view, .int .i64 bl.qc.view, .string bl.qc.block, .slice bl.qc.va bl.qc.votes.length bl.qc.vc, .slice bl.ca bl.certs.length bl.cc, .int .i64 q.view, .string q.block, .slice q.va q.votes.length q.vc]
  have hB := belowNew w (.cells [.int .i64 k, .string dg, .int .i64 vi, .int .i64 tg.who, .string tg.mac, .int .i64 ba.author, .int .i64 ba.number, .slice ba.ta ba.txs.length ba.tc, .int .i64 he.author, .int .i64 he.round, .slice he.ra he.refs.length he.rc, .slice he.pa he.parents.length he.pc, .int .i64 ce.hdr.author, .int .i64 ce.hdr.round, .slice ce.hdr.ra ce.hdr.refs.length ce.hdr.rc, .slice ce.hdr.pa ce.hdr.parents.length ce.hdr.pc, .slice ce.va ce.votes.length ce.vc, .int .i64 bl.view, .int .i64 bl.qc.view, .string bl.qc.block, .slice bl.qc.va bl.qc.votes.length bl.qc.vc, .slice bl.ca bl.certs.length bl.cc, .int .i64 q.view, .string q.block, .slice q.va q.votes.length q.vc].toArray 39)
  have hM := hA.below hB
  unfold MsgM.v MsgM.c
  simp only
  obtain ⟨w1, hw1⟩ : ∃ q', w.alloc (.cells [.int .i64 k, .string dg, .int .i64 vi, .int .i64 tg.who, .string tg.mac, .int .i64 ba.author, .int .i64 ba.number, .slice ba.ta ba.txs.length ba.tc, .int .i64 he.author, .int .i64 he.round, .slice he.ra he.refs.length he.rc, .slice he.pa he.parents.length he.pc, .int .i64 ce.hdr.author, .int .i64 ce.hdr.round, .slice ce.hdr.ra ce.hdr.refs.length ce.hdr.rc, .slice ce.hdr.pa ce.hdr.parents.length ce.hdr.pc, .slice ce.va ce.votes.length ce.vc, .int .i64 bl.view, .int .i64 bl.qc.view, .string bl.qc.block, .slice bl.qc.va bl.qc.votes.length bl.qc.vc, .slice bl.ca bl.certs.length bl.cc, .int .i64 q.view, .string q.block, .slice q.va q.votes.length q.vc].toArray 39) = q' := ⟨_, rfl⟩
  rw [hw1] at hX hB hM
  go_enter Tryz.func68, Tryz.ntmps68
  have x22 := hX.cell (i := 22) rfl
  have x23 := hX.cell (i := 23) rfl
  have x24 := hX.cell (i := 24) rfl
  go_wp2_with fail
  refine (isPlainQc_any q _ hM.qc hn.qvotes).mono ?_
  rintro e w2 ⟨⟨p, rfl, hp⟩, hb⟩
  have hX2 := hX.below hb hX.lt
  have hB2 := hB.trans (hb.mono hB.size)
  have hM2 := hM.below hb
  clear hX hB hb hM hw1 x22 x23 x24
  obtain ⟨hX, hB⟩ := And.intro hX2 hB2
  have hM := hM2
  clear hX2 hB2 hM2
  have hF : Hid (p = true ↔ P) := hp.trans hd.out.symm
  clear hd hp
  go_wp2
  go_ret
  exact ⟨⟨_, rfl, hF.out⟩, hB⟩

theorem isZero_any (x : MsgM) (c : UInt8) (hc : c ∈ letters) (w : World) : Calls Tryz.prog 34 #[x.v, .int .i32 (c.toNat : Int)] w (Told w (zeroF x.d c)) := by
  obtain ⟨k, dg, vi, tg, ba, he, ce, bl, q⟩ := x
  simp only [letters, List.mem_cons, List.not_mem_nil, or_false] at hc
  rcases hc with rfl | rfl | rfl | rfl | rfl | rfl | rfl | rfl
  · exact isZero_v k dg vi tg ba he ce bl q w
  · exact isZero_t k dg vi tg ba he ce bl q w
  · exact isZero_d k dg vi tg ba he ce bl q w
  · exact isZero_b k dg vi tg ba he ce bl q w
  · exact isZero_h k dg vi tg ba he ce bl q w
  · exact isZero_c k dg vi tg ba he ce bl q w
  · exact isZero_k k dg vi tg ba he ce bl q w
  · exact isZero_q k dg vi tg ba he ce bl q w

theorem isPlain_any (x : MsgM) (c : UInt8) (hc : c ∈ letters) (hb : c ≠ 98) (w : World) (hA : x.At w) (hn : x.Num) : Calls Tryz.prog 68 #[x.v, .int .i32 (c.toNat : Int)] w (Told w (plainF x.d c = true)) := by
  obtain ⟨k, dg, vi, tg, ba, he, ce, bl, q⟩ := x
  simp only [letters, List.mem_cons, List.not_mem_nil, or_false] at hc
  rcases hc with rfl | rfl | rfl | rfl | rfl | rfl | rfl | rfl
  · exact (isPlain_v k dg vi tg ba he ce bl q w).mono (fun e w1 h => h.iff decide_eq_true_iff.symm)
  · exact (isPlain_t k dg vi tg ba he ce bl q w).mono (fun e w1 h => h.iff decide_eq_true_iff.symm)
  · exact (isPlain_d k dg vi tg ba he ce bl q w).mono (fun e w1 h => h.iff decide_eq_true_iff.symm)
  · exact absurd rfl hb
  · exact (isPlain_h k dg vi tg ba he ce bl q w hA hn).mono (fun e w1 h => h.iff decide_eq_true_iff.symm)
  · exact (isPlain_c k dg vi tg ba he ce bl q w hA hn).mono (fun e w1 h => h.iff decide_eq_true_iff.symm)
  · exact (isPlain_k k dg vi tg ba he ce bl q w hA hn).mono (fun e w1 h => h.iff decide_eq_true_iff.symm)
  · exact (isPlain_q k dg vi tg ba he ce bl q w hA hn).mono (fun e w1 h => h.iff decide_eq_true_iff.symm)
end Go.Proofs.YtaoiejgbbmjpkaaGreatDoor

/- What strings.ContainsRune says of a letter of a field; nothing in memory is turned. -/
namespace Go.Proofs.YtaoiejgbbmjpkaaGreatDoor
open Go.RowKit
set_option linter.unusedVariables false

set_option maxRecDepth 100000 in
set_option maxHeartbeats 1000000 in
theorem indexByteL_any (s : ByteArray) (c : Int) (w : World) :
    Calls Tryz.prog 135 #[.string s, .int .u8 c] w fun e w' => e = .returned (.int .i64 (Lib.indexByte s.data.toList c.toNat.toUInt8)) ∧ w' = w := by
  go_enter Tryz.func135, Tryz.ntmps135
  go_wp2
  rw [run_callFunc_extern Tryz.func147 (by kernel_rfl) (by kernel_rfl) (by kernel_rfl) (e := Extern.BytealgIndexByte.indexByte) (by kernel_rfl), Lib.run_indexByteString]
  simp only [Result.andThen]
  rw [Oper.upon_value]
  go_wp2
  go_ret
  exact ⟨rfl, rfl⟩

set_option maxRecDepth 100000 in
set_option maxHeartbeats 1000000 in
theorem indexByteS_any (s : ByteArray) (c : Int) (w : World) :
    Calls Tryz.prog 98 #[.string s, .int .u8 c] w fun e w' => e = .returned (.int .i64 (Lib.indexByte s.data.toList c.toNat.toUInt8)) ∧ w' = w := by
  have c1 := indexByteL_any s c
  go_enter Tryz.func98, Tryz.ntmps98
  go_wp2_with fail
  refine (c1 _).mono ?_
  rintro e w1 ⟨rfl, rfl⟩
  go_wp2
  go_ret
  exact ⟨rfl, rfl⟩

set_option maxRecDepth 100000 in
set_option maxHeartbeats 4000000 in
theorem indexRune_any (s : ByteArray) (c : UInt8) (hc : c ∈ letters) (w : World) :
    Calls Tryz.prog 64 #[.string s, .int .i32 (c.toNat : Int)] w fun e w' => e = .returned (.int .i64 (Lib.indexByte s.data.toList c)) ∧ w' = w := by
  have c1 : ∀ w1, Calls Tryz.prog 98 #[.string s, .int .u8 (c.toNat : Int)] w1 fun e w' => e = .returned (.int .i64 (Lib.indexByte s.data.toList c)) ∧ w' = w1 := fun w1 => by
    have := indexByteS_any s (c.toNat : Int) w1
    rw [show ((c.toNat : Int)).toNat.toUInt8 = c by simp] at this
    exact this
  generalize Lib.indexByte s.data.toList c = out at *
  simp only [letters, List.mem_cons, List.not_mem_nil, or_false] at hc
  rcases hc with rfl | rfl | rfl | rfl | rfl | rfl | rfl | rfl
  all_goals
    go_enter Tryz.func64, Tryz.ntmps64
    go_wp2_with fail
    refine (c1 _).mono ?_
    rintro e w1 ⟨rfl, rfl⟩
    go_wp2
    go_ret
    exact ⟨rfl, rfl⟩

set_option maxRecDepth 100000 in
set_option maxHeartbeats 1000000 in
theorem containsRune_any (s : ByteArray) (c : UInt8) (hc : c ∈ letters) (w : World) :
    Calls Tryz.prog 33 #[.string s, .int .i32 (c.toNat : Int)] w fun e w' => e = .returned (.bool (decide (c ∈ s.data.toList))) ∧ w' = w := by
  have c1 := indexRune_any s c hc
  have hx : decide (c ∈ s.data.toList) = decide (0 ≤ Lib.indexByte s.data.toList c) := by
    rw [← Lib.contains_iff_indexByte]
    by_cases h : c ∈ s.data.toList
    · rw [List.contains_iff_mem.2 h]
      exact decide_eq_true h
    · rw [decide_eq_false h]
      cases h2 : s.data.toList.contains c
      · rfl
      · exact absurd (List.contains_iff_mem.1 h2) h
  rw [hx]
  generalize Lib.indexByte s.data.toList c = out at *
  clear hx
  generalize (c.toNat : Int) = n at *
  go_enter Tryz.func33, Tryz.ntmps33
  go_wp2_with fail
  refine (c1 _).mono ?_
  rintro e w1 ⟨rfl, rfl⟩
  go_wp2
  go_ret
  exact ⟨rfl, rfl⟩
end Go.Proofs.YtaoiejgbbmjpkaaGreatDoor
