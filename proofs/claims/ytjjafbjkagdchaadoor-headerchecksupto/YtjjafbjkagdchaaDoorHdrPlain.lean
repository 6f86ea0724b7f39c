/- What tusklaw06.Great, PlainTags and Plain do; nothing in memory is turned. -/
import Derived.Test.YtjjafbjkagdchaaDoorHdrRows
import Derived.Deep.QuietTactic
import Derived.BigQuiet
namespace Go.Proofs.YtjjafbjkagdchaaDoor
open Go.RowKit
set_option linter.unusedVariables false

/-- A bool is handed back that says whether P. -/
def GotBool (P : Prop) (e : Ending) : Prop := ∃ p : Bool, e = .returned (.bool p) ∧ (p = true ↔ P)

theorem gotB_no {P : Prop} (h : ¬ P) {e : Ending} (he : e = .returned (.bool false)) : GotBool P e := ⟨false, he, (fun h => by cases h), fun h' => absurd h' h⟩
theorem gotB_yes {P : Prop} (h : P) {e : Ending} (he : e = .returned (.bool true)) : GotBool P e := ⟨true, he, fun _ => h, fun _ => rfl⟩

set_option maxRecDepth 100000 in
set_option maxHeartbeats 1000000 in
theorem great_any (x : HdrM) (w : World) (hA : x.At w) (hn : x.refs.length ≤ maxLen) (hp : x.parents.length ≤ maxLen) :
    Calls Tryd.prog 8 #[x.v] w fun e w' => (∃ g, e = .returned (.bool g)) ∧ Below w.heap.size w w' := by
  obtain ⟨au, ro, ra, rs, rc, pa, ps, pc⟩ := x
  have hA1 : RowAt refK w ra rs := hA.refs
  have hA2 : RowAt strK w pa ps := hA.ps
  have hn' : rs.length ≤ maxLen := hn
  have hp' : ps.length ≤ maxLen := hp
  have hX := Arr.new w 25 [.int .i64 au, .int .i64 ro, .slice ra rs.length rc, .slice pa ps.length pc]
  have hB := belowNew w (.cells #[.int .i64 au, .int .i64 ro, .slice ra rs.length rc, .slice pa ps.length pc] 25)
  clear hA hn hp
  unfold maxLen at hn' hp'
  unfold HdrM.v
  simp only
  have x3 := hX.cell (i := 3) rfl
  go_enter Tryd.func8, Tryd.ntmps8
  go_wp2
  go_loopw [3, 4] (fun v3 v4 wr => ∃ (k : Nat) (n : Int), k ≤ rs.length ∧ v4 = .int .i64 (k : Int) ∧ v3 = .int .i64 n ∧ Arr wr w.heap.size 25 [.int .i64 au, .int .i64 ro, .slice ra rs.length rc, .slice pa ps.length pc] ∧ Below w.heap.size w wr) (fun _ v _ => rs.length - (intOf v).toNat)
  case atStart => exact ⟨0, _, Nat.zero_le _, rfl, rfl, hX, hB⟩
  case round =>
    clear hX hB x3
    obtain ⟨k, n, hk, rfl, rfl, hX, hb⟩ := hrel
    have x2 := hX.cell (i := 2) rfl
    by_cases hlt : k < rs.length
    · obtain ⟨r, hr⟩ : ∃ r, rs[k]? = some r := ⟨rs[k], List.getElem?_eq_getElem hlt⟩
      obtain ⟨b, off, rfl, hbl, y0, y1⟩ := (hA1.below hb).ref hr
      clear hr
      go_wp2_with fail
      go_big_quiet (fail)
      have hb2 := below_drewN hb nq
      have hX2 := hX.drewN nq
      clear hX hb x2 y0 y1
      generalize wr.drewN nq = w1 at *
      go_wp2
      go_roundw
      case rel => exact ⟨k + 1, _, by omega, by go_num, rfl, hX2, hb2⟩
      case measure => simp [intOf]; omega
    · go_wp2
      go_loopw [3, 5] (fun v3 v5 wr => ∃ (k : Nat) (n : Int), k ≤ ps.length ∧ v5 = .int .i64 (k : Int) ∧ v3 = .int .i64 n ∧ Arr wr w.heap.size 25 [.int .i64 au, .int .i64 ro, .slice ra rs.length rc, .slice pa ps.length pc] ∧ Below w.heap.size w wr) (fun _ v _ => ps.length - (intOf v).toNat)
      case atStart => exact ⟨0, _, Nat.zero_le _, rfl, rfl, hX, hb⟩
      case round =>
        clear hX hb x2
        obtain ⟨j, n, hj, rfl, rfl, hX, hb⟩ := hrel
        have x3 := hX.cell (i := 3) rfl
        by_cases hlt2 : j < ps.length
        · obtain ⟨b, off, rfl, hbl, hc⟩ := (hA2.below hb).strs j hlt2
          go_wp2
          go_roundw
          case rel => exact ⟨j + 1, _, by omega, by go_num, rfl, hX, hb⟩
          case measure => simp [intOf]; omega
        · go_wp2
          go_ret
          exact ⟨⟨_, rfl⟩, hb⟩

set_option maxRecDepth 100000 in
set_option maxHeartbeats 1000000 in
theorem plainTags_any (ao : Option Addr) (cap : Nat) (l : List TagD) (w : World) (hA : RowAt tagK w ao l) (hn : l.length ≤ maxLen) :
    Calls Tryd.prog 45 #[.slice ao l.length cap] w fun e w' => GotBool ((∀ t ∈ l, t.Fit) ∧ l.length ≤ 7) e ∧ w' = w := by
  unfold maxLen at hn
  go_enter Tryd.func45, Tryd.ntmps45
  go_wp2
  go_loop [3] (fun v3 => ∃ k : Nat, k ≤ l.length ∧ v3 = .int .i64 (k : Int) ∧ Hid (∀ t ∈ l.take k, t.Fit)) (fun v => l.length - (intOf v).toNat)
  case atStart => exact ⟨0, Nat.zero_le _, rfl, by intro t ht; simp at ht⟩
  case round =>
    obtain ⟨k, hk, rfl, HF⟩ := hrel
    by_cases hlt : k < l.length
    · obtain ⟨t, ht⟩ : ∃ t, l[k]? = some t := ⟨l[k], List.getElem?_eq_getElem hlt⟩
      obtain ⟨b, off, rfl, hbl, y0, y1⟩ := hA.tag ht
      have hmem : t ∈ l := List.mem_of_getElem? ht
      have HN : Hid (t.Fit → ∀ t ∈ l.take (k + 1), t.Fit) := by
        intro hf y hy
        have he := (List.getElem?_eq_some_iff.1 ht).2
        rw [List.take_succ_eq_append_getElem hlt, List.mem_append, List.mem_singleton, he] at hy
        rcases hy with hy | rfl
        · exact HF.out y hy
        · exact hf
      have HB : Hid (¬ t.Fit → ¬ ((∀ t ∈ l, t.Fit) ∧ l.length ≤ 7)) := fun hb h => hb (h.1 t hmem)
      clear HF ht hmem
      by_cases h1 : t.who < 0
      · have hf := HB.out (fun h => by have := h.lo; omega)
        have HF2 : Hid _ := hf
        clear hf HB HN
        go_wp2
        go_ret
        exact ⟨gotB_no HF2.out rfl, rfl⟩
      by_cases h2 : 6 < t.who
      · have hf := HB.out (fun h => by have := h.hi; omega)
        have HF2 : Hid _ := hf
        clear hf HB HN
        go_wp2
        go_ret
        exact ⟨gotB_no HF2.out rfl, rfl⟩
      by_cases h3 : t.mac.size ≠ 16
      · have hf := HB.out (fun h => h3 h.mac)
        have HF2 : Hid _ := hf
        have h3' : ((t.mac.size : Int) != 16) = true := by rw [bne_iff_ne]; omega
        clear hf HB HN h3
        go_wp2
        go_ret
        exact ⟨gotB_no HF2.out rfl, rfl⟩
      have hf := HN.out ⟨by omega, by omega, by omega⟩
      have HF2 : Hid _ := hf
      have h3' : ((t.mac.size : Int) != 16) = false := by rw [bne_eq_false_iff_eq]; omega
      clear hf HB HN h3
      go_wp2
      go_round
      case rel => exact ⟨k + 1, by omega, by go_num, HF2⟩
      case measure => simp [intOf]; omega
    · have HA : Hid (∀ t ∈ l, t.Fit) := by
        have := HF.out
        rw [List.take_of_length_le (by omega)] at this
        exact this
      clear HF
      go_wp2
      go_ret
      refine ⟨⟨_, rfl, ?_⟩, rfl⟩
      simp only [decide_eq_true_eq]
      exact ⟨fun h => ⟨HA.out, by omega⟩, fun h => by omega⟩

set_option maxRecDepth 100000 in
set_option maxHeartbeats 2000000 in
theorem plain_any (x : HdrM) (w : World) (hA : x.At w) (hacks : ∀ r ∈ x.refs, r.acks.length ≤ maxLen) (hn : x.refs.length ≤ maxLen) (hp : x.parents.length ≤ maxLen) :
    Calls Tryd.prog 18 #[x.v] w fun e w' => GotBool x.d.Fit e ∧ Below w.heap.size w w' := by
  obtain ⟨au, ro, ra, rs, rc, pa, ps, pc⟩ := x
  have hA1 : RowAt refK w ra rs := hA.refs
  have hA2 : RowAt strK w pa ps := hA.ps
  have hn' : rs.length ≤ maxLen := hn
  have hp' : ps.length ≤ maxLen := hp
  have hk' : ∀ r ∈ rs, r.acks.length ≤ maxLen := hacks
  have hX := Arr.new w 25 [.int .i64 au, .int .i64 ro, .slice ra rs.length rc, .slice pa ps.length pc]
  have hB := belowNew w (.cells #[.int .i64 au, .int .i64 ro, .slice ra rs.length rc, .slice pa ps.length pc] 25)
  obtain ⟨F, hF⟩ : ∃ F : Prop, Hid (F = (HdrM.d ⟨au, ro, ra, rs, rc, pa, ps, pc⟩).Fit) := ⟨_, rfl⟩
  rw [← hF.out]
  have HB : Hid (¬ F → ¬ F) := fun hb => hb
  have HT : Hid (F → F) := fun hb => hb
  have HI : Hid (F ↔ (0 ≤ au ∧ au ≤ 6 ∧ 0 ≤ ro ∧ ro ≤ 4611686018427387903 ∧ rs.length ≤ 4 ∧ (∀ r ∈ rs, r.digest.size ≤ 65536 ∧ (∀ t ∈ r.acks, t.Fit) ∧ r.acks.length ≤ 7) ∧ ps.length ≤ 7 ∧ ∀ p ∈ ps, p.size ≤ 65536)) := by
    rw [hF.out]
    constructor
    · intro h
      exact ⟨h.a0, h.a6, h.r0, h.rM, by have := h.few; simpa [HdrM.d, rd] using this, fun r hr => by have := h.refs r.d (List.mem_map.2 ⟨r, hr, rfl⟩); exact ⟨this.dig, this.all, this.few⟩, h.ps, h.pz⟩
    · rintro ⟨h1, h2, h3, h4, h5, h6, h7, h8⟩
      exact ⟨h1, h2, h3, h4, by simpa [HdrM.d, rd] using h5, fun y hy => by
        obtain ⟨r, hr, rfl⟩ := List.mem_map.1 hy
        have := h6 r hr
        exact ⟨this.1, this.2.2, this.2.1⟩, h7, h8⟩
  clear hA hn hp hacks hF
  unfold maxLen at hn' hp'
  unfold HdrM.v
  simp only
  have x0 := hX.cell (i := 0) rfl
  have x1 := hX.cell (i := 1) rfl
  have x2 := hX.cell (i := 2) rfl
  have x3 := hX.cell (i := 3) rfl
  by_cases b1 : au < 0
  · have hf := HB.out (fun h => by have h := HI.out.1 h; have := h.1; omega)
    have HF2 : Hid _ := hf
    clear hf HB HI HT
    go_enter Tryd.func18, Tryd.ntmps18
    go_wp2
    go_ret
    exact ⟨gotB_no HF2.out rfl, hB⟩
  by_cases b2 : 6 < au
  · have hf := HB.out (fun h => by have h := HI.out.1 h; have := h.2.1; omega)
    have HF2 : Hid _ := hf
    clear hf HB HI HT
    go_enter Tryd.func18, Tryd.ntmps18
    go_wp2
    go_ret
    exact ⟨gotB_no HF2.out rfl, hB⟩
  by_cases b3 : ro < 0
  · have hf := HB.out (fun h => by have h := HI.out.1 h; have := h.2.2.1; omega)
    have HF2 : Hid _ := hf
    clear hf HB HI HT
    go_enter Tryd.func18, Tryd.ntmps18
    go_wp2
    go_ret
    exact ⟨gotB_no HF2.out rfl, hB⟩
  by_cases b4 : 4611686018427387903 < ro
  · have hf := HB.out (fun h => by have h := HI.out.1 h; have := h.2.2.2.1; omega)
    have HF2 : Hid _ := hf
    clear hf HB HI HT
    go_enter Tryd.func18, Tryd.ntmps18
    go_wp2
    go_ret
    exact ⟨gotB_no HF2.out rfl, hB⟩
  by_cases b5 : (4 : Int) < (rs.length : Int)
  · have hf := HB.out (fun h => by have h := HI.out.1 h; have := h.2.2.2.2.1; omega)
    have HF2 : Hid _ := hf
    clear hf HB HI HT
    go_enter Tryd.func18, Tryd.ntmps18
    go_wp2
    go_ret
    exact ⟨gotB_no HF2.out rfl, hB⟩
  by_cases b6 : (7 : Int) < (ps.length : Int)
  · have hf := HB.out (fun h => by have h := HI.out.1 h; have := h.2.2.2.2.2.2.1; omega)
    have HF2 : Hid _ := hf
    clear hf HB HI HT
    go_enter Tryd.func18, Tryd.ntmps18
    go_wp2
    go_ret
    exact ⟨gotB_no HF2.out rfl, hB⟩
  go_enter Tryd.func18, Tryd.ntmps18
  go_wp2
  go_loop [3] (fun v3 => ∃ k : Nat, k ≤ rs.length ∧ v3 = .int .i64 (k : Int) ∧ Hid (∀ r ∈ rs.take k, r.digest.size ≤ 65536 ∧ (∀ t ∈ r.acks, t.Fit) ∧ r.acks.length ≤ 7)) (fun v => rs.length - (intOf v).toNat)
  case atStart => exact ⟨0, Nat.zero_le _, rfl, by intro t ht; simp at ht⟩
  case round =>
    obtain ⟨k, hk, rfl, HF⟩ := hrel
    by_cases hlt : k < rs.length
    · obtain ⟨r, hr⟩ : ∃ r, rs[k]? = some r := ⟨rs[k], List.getElem?_eq_getElem hlt⟩
      obtain ⟨b, off, rfl, hbl, y0, y1⟩ := (hA1.below hB).ref hr
      have hmem : r ∈ rs := List.mem_of_getElem? hr
      have hrt := ((hA1.below hB).at_ r hmem).1
      have cT := plainTags_any r.ao r.cap r.acks _ hrt (hk' r hmem)
      have HN : Hid ((r.digest.size ≤ 65536 ∧ (∀ t ∈ r.acks, t.Fit) ∧ r.acks.length ≤ 7) → ∀ r ∈ rs.take (k + 1), r.digest.size ≤ 65536 ∧ (∀ t ∈ r.acks, t.Fit) ∧ r.acks.length ≤ 7) := by
        intro hf y hy
        have he := (List.getElem?_eq_some_iff.1 hr).2
        rw [List.take_succ_eq_append_getElem hlt, List.mem_append, List.mem_singleton, he] at hy
        rcases hy with hy | rfl
        · exact HF.out y hy
        · exact hf
      have HB2 : Hid (¬ (r.digest.size ≤ 65536 ∧ (∀ t ∈ r.acks, t.Fit) ∧ r.acks.length ≤ 7) → ¬ F) := fun hb => HB.out (fun h => hb ((HI.out.1 h).2.2.2.2.2.1 r hmem))
      clear HF hr hmem hrt
      by_cases h1 : (65536 : Int) < (r.digest.size : Int)
      · have hf := HB2.out (fun h => by have := h.1; omega)
        have HF2 : Hid _ := hf
        clear hf HB HI HT HB2 HN cT
        go_wp2
        go_ret
        exact ⟨gotB_no HF2.out rfl, hB⟩
      have d1 : decide ((65536 : Int) < (r.digest.size : Int)) = false := decide_eq_false h1
      go_wp2_with fail
      refine cT.mono ?_
      rintro e w1 ⟨⟨p, rfl, hpp⟩, rfl⟩
      cases p with
      | false =>
        have hf := HB2.out (fun h => by have := hpp.2 h.2; cases this)
        have HF2 : Hid _ := hf
        clear hf HB HI HT HB2 HN cT hpp
        go_wp2
        go_ret
        exact ⟨gotB_no HF2.out rfl, hB⟩
      | true =>
        have hf := HN.out ⟨by omega, hpp.1 rfl⟩
        have HF2 : Hid _ := hf
        clear hf HB2 HN cT hpp
        go_wp2
        go_round
        case rel => exact ⟨k + 1, by omega, by go_num, HF2⟩
        case measure => simp [intOf]; omega
    · have HA : Hid (∀ r ∈ rs, r.digest.size ≤ 65536 ∧ (∀ t ∈ r.acks, t.Fit) ∧ r.acks.length ≤ 7) := by
        have := HF.out
        rw [List.take_of_length_le (by omega)] at this
        exact this
      clear HF
      go_wp2
      go_loop [4] (fun v4 => ∃ k : Nat, k ≤ ps.length ∧ v4 = .int .i64 (k : Int) ∧ Hid (∀ p ∈ ps.take k, p.size ≤ 65536)) (fun v => ps.length - (intOf v).toNat)
      case atStart => exact ⟨0, Nat.zero_le _, rfl, by intro t ht; simp at ht⟩
      case round =>
        obtain ⟨j, hj, rfl, HF⟩ := hrel
        by_cases hlt2 : j < ps.length
        · obtain ⟨b, off, rfl, hbl, hc⟩ := (hA2.below hB).strs j hlt2
          have hmem : ps[j] ∈ ps := List.getElem_mem hlt2
          have HN : Hid (ps[j].size ≤ 65536 → ∀ p ∈ ps.take (j + 1), p.size ≤ 65536) := by
            intro hf y hy
            rw [List.take_succ_eq_append_getElem hlt2, List.mem_append, List.mem_singleton] at hy
            rcases hy with hy | rfl
            · exact HF.out y hy
            · exact hf
          have HB2 : Hid (¬ ps[j].size ≤ 65536 → ¬ F) := fun hb => HB.out (fun h => hb ((HI.out.1 h).2.2.2.2.2.2.2 _ hmem))
          obtain ⟨p, hpe⟩ : ∃ p, p = ps[j] := ⟨_, rfl⟩
          rw [← hpe] at hc HN HB2
          clear HF hmem hpe
          by_cases h1 : (65536 : Int) < (p.size : Int)
          · have hf := HB2.out (fun h => by omega)
            have HF2 : Hid _ := hf
            clear hf HB HI HT HB2 HN
            go_wp2
            go_ret
            exact ⟨gotB_no HF2.out rfl, hB⟩
          have hf := HN.out (by omega)
          have HF2 : Hid _ := hf
          clear hf HB2 HN
          go_wp2
          go_round
          case rel => exact ⟨j + 1, by omega, by go_num, HF2⟩
          case measure => simp [intOf]; omega
        · have hf := HT.out (HI.out.2 ⟨by omega, by omega, by omega, by omega, by omega, HA.out, by omega, by
            have := HF.out
            rw [List.take_of_length_le (by omega)] at this
            exact this⟩)
          have HF2 : Hid _ := hf
          clear hf HB HI HT HF HA
          go_wp2
          go_ret
          exact ⟨gotB_yes HF2.out rfl, hB⟩
end Go.Proofs.YtjjafbjkagdchaaDoor
