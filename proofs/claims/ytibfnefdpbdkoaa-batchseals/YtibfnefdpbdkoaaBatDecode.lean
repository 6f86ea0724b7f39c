/- What decodeAll and batch.Decode do; nothing old in memory is turned. -/
import Derived.Test.YtibfnefdpbdkoaaTxQueue
import Derived.Test.YtibfnefdpbdkoaaTxDecode
namespace Go.Proofs.Ytibfnefdpbdkoaa
open Go.RowKit
set_option linter.unusedVariables false

/-- decodeAll hands back a row and an error. -/
def GotAll (W : World) (r : Except Nat (List TxD)) (e : Ending) (w : World) : Prop :=
  ∃ ao cap l er, e = .returned (.tuple #[.slice ao (l : List TxM).length cap, .int .i64 ((er : Nat) : Int)]) ∧ TxsAt w ao l ∧ (ao = none → cap = 0) ∧ ((er = 0 ∧ r = .ok (dl l)) ∨ (er ≠ 0 ∧ r = .error er ∧ l = [])) ∧ (∀ b o, ao = some ⟨b, o, none⟩ → W.heap.size ≤ b) ∧ (∀ x ∈ l, x.Off (fun k => k < W.heap.size)) ∧ Below W.heap.size W w

theorem decE_of {l : List UInt8} {d : TxD} {er : Nat} (h : decL l = (d, er)) : (er = 0 → decE l = .ok d) ∧ (er ≠ 0 → decE l = .error er) := by
  unfold decE
  rw [h]
  exact ⟨fun e => by rw [if_neg (by simpa using e)], fun e => by rw [if_pos e]⟩

set_option maxRecDepth 100000 in
set_option maxHeartbeats 4000000 in
theorem decodeAll_any (ao : Option Addr) (cap : Nat) (ss : List ByteArray) (w : World) (hS : StrsAt w ao ss) (hsz : ∀ s ∈ ss, s.size ≤ maxLen) (hn : ss.length ≤ 16) :
    Calls Try.prog 36 #[.slice ao ss.length cap] w fun e w' => GotAll w (eachE decE (bl ss)) e w' := by
  obtain ⟨i0, hi, hz0, hz1, hz2⟩ := info_parts infoTx4
  go_enter Try.func36, Try.ntmps36
  go_wp2
  go_loopw [4, 6, 7, 8, 11] (fun v4 v6 v7 v8 v11 wr => ∃ (k : Nat) (l : List TxM), k ≤ ss.length ∧ l.length = k ∧ v11 = .int .i64 (k : Int) ∧ TxQ wr w.heap.size v4 l ∧ Hid (eachE decE ((bl ss).take k) = .ok (dl l)) ∧ (∀ x ∈ l, x.Off (fun k => k < w.heap.size)) ∧ Below w.heap.size w wr) (fun _ _ _ _ v _ => ss.length - (intOf v).toNat)
  case atStart => exact ⟨0, [], Nat.zero_le _, rfl, rfl, TxQ.empty _ _, by show _ = _; rfl, (fun x hx => by cases hx), Below.refl _ _⟩
  case round =>
    obtain ⟨k, l, hk, hlk, rfl, hq, hE, hold, hb⟩ := hrel
    by_cases hlt : k < ss.length
    · obtain ⟨b, off, rfl, hbl, hcell⟩ := (hS.below hb) k hlt
      have hbk : (bl ss)[k]? = some ss[k].data.toList := by simp [bl, hlt]
      have hek := eachE_take (f := decE) (bl ss) k _ hbk (dl l) hE.out
      have hs1 := hsz ss[k] (List.getElem_mem hlt)
      obtain ⟨s, hs⟩ : ∃ s, s = ss[k] := ⟨_, rfl⟩
      rw [← hs] at hcell hek hs1
      rcases hd : decL s.data.toList with ⟨d, er⟩
      have hdE := decE_of hd
      have cD := fun w1 => decode_own s w1 hs1
      rw [hd] at cD
      have hek1 : Hid (∀ a, decE s.data.toList = .ok a → eachE decE ((bl ss).take (k + 1)) = .ok (dl l ++ [a])) := hek.1
      have hek2 : Hid (∀ e, decE s.data.toList = .error e → eachE decE (bl ss) = .error e) := hek.2
      clear hs hbk hek hd hE
      obtain ⟨qa, qc, rfl, hqn, _⟩ := hq.form
      rw [hlk] at hq ⊢
      go_wp2_with fail
      refine (cD _).mono ?_
      rintro e w1 ⟨ra, rc, wa, wc, rfl, hO1, hO2, hr, hw, hb1⟩
      have hq1 := hq.below hb1
      have hb2 := hb.trans (hb1.mono hb.size)
      have hoffx : TxM.Off ⟨d, ra, rc, wa, wc⟩ (fun j => (Value.slice qa k qc).ownBlock = some j) := off_own hO1 hO2 (fun j hj => (hq.lt j hj).2)
      have hold2 : ∀ x ∈ l ++ [⟨d, ra, rc, wa, wc⟩], x.Off (fun k => k < w.heap.size) := by
        intro x hx
        rw [List.mem_append, List.mem_singleton] at hx
        rcases hx with hx | rfl
        · exact hold x hx
        · exact off_own hO1 hO2 (fun j hj => Nat.lt_of_lt_of_le hj hb.size)
      have hx1 : TxM.At ⟨d, ra, rc, wa, wc⟩ w1 := ⟨⟨hO1.at, hO2.at⟩, hr, hw⟩
      clear hb1 cD hcell hO1 hO2 hq hb
      unfold txV
      by_cases he : er = 0
      · subst he
        have hE2 : Hid (eachE decE ((bl ss).take (k + 1)) = .ok (dl l ++ [d])) := hek1.out d (hdE.1 rfl)
        have hbx := belowNew w1 (.cells (TxM.c ⟨d, ra, rc, wa, wc⟩).toArray 33)
        have hq2 := hq1.below hbx
        have hx2 := hx1.below hbx
        have hb3 := hb2.trans (hbx.mono hb2.size)
        clear hek1 hek2 hdE hq1 hx1
        have hby2 := belowNew (w1.alloc (.cells (TxM.c ⟨d, ra, rc, wa, wc⟩).toArray 33)) (.cells (TxM.c ⟨d, ra, rc, wa, wc⟩).toArray 33)
        have hq3 := hq2.below hby2
        have hx3 := hx2.below hby2
        have hb4 := hb3.trans (hby2.mono hb3.size)
        have hnew := new_c (w1.alloc (.cells (TxM.c ⟨d, ra, rc, wa, wc⟩).toArray 33)) ⟨d, ra, rc, wa, wc⟩
        rw [alloc_size] at hnew
        have hrow3 := hq3.row
        rw [hlk] at hrow3
        clear hq2 hx2 hb3 hbx hby2
        go_wp2_with (at_builtin; refine wpList_append_q rfl _ _ 38 rfl w.heap.size 33 i0 _ 9 136 Try.underlying38 hi hz0 hz1 hz2 rfl (by decide) _ k (flatX l) rfl hrow3 ⟨w1.heap.size + 1, 0, none⟩ 1 1 (TxM.c ⟨d, ra, rc, wa, wc⟩) rfl (by decide) rfl hnew (c_one _) ?c3 ?c4 hb4.size ?_)
        case c3 => unfold maxLen; omega
        case c4 => omega
        intro q' w3 hrow hgr hfr
        have hq5 := hq3.push (m := [⟨d, ra, rc, wa, wc⟩]) (by intro x hx; simp at hx; rw [hx]; exact hx3) (by intro x hx; simp at hx; rw [hx]; exact hoffx) (by simp) (by rw [flatX_single, hlk]; exact hrow) hgr (fun g hg => by rw [alloc_size, alloc_size]; exact hfr g hg)
        have hb5 : Below w.heap.size w w3 := hb4.trans ((Kept.of_grown hgr).below hb4.size (fun j hj => (hq3.lt j hj).1))
        obtain ⟨qa2, qc2, rfl, _, _⟩ := QRow.form hrow
        clear hrow hgr hfr hq3 hx3 hb4 hnew hrow3
        go_wp2
        go_roundw
        case rel => exact ⟨k + 1, l ++ [⟨d, ra, rc, wa, wc⟩], by omega, by simp [hlk], by go_num, hq5, by show _ = _; rw [hE2.out]; simp [dl], hold2, hb5⟩
        case measure => simp [intOf]; omega
      · have hne : ((er : Int) != 0) = true := by rw [bne_iff_ne]; omega
        have hE2 : Hid (eachE decE (bl ss) = .error er) := hek2.out er (hdE.2 he)
        have hbx := belowNew w1 (.cells (TxM.c ⟨d, ra, rc, wa, wc⟩).toArray 33)
        have hb3 := hb2.trans (hbx.mono hb2.size)
        clear hek1 hek2 hdE hq1 hx1 hbx
        go_wp2
        go_ret2
        exact ⟨none, 0, [], er, rfl, nil_txs _ _, fun _ => rfl, Or.inr ⟨he, hE2.out, rfl⟩, (fun b o e => by cases e), (fun x hx => by cases hx), hb3⟩
    · have hkl : k = ss.length := by omega
      have hE2 : Hid (eachE decE (bl ss) = .ok (dl l)) := by
        have h := hE.out
        rw [List.take_of_length_le (by simp [bl]; omega)] at h
        exact h
      obtain ⟨qa, qc, rfl, hqn, hqt⟩ := hq.form
      clear hE
      go_wp2
      go_ret2
      exact ⟨qa, qc, l, 0, rfl, hqt, hqn, Or.inl ⟨rfl, hE2.out⟩, (fun b o e => (hq.lt b (by rw [e]; rfl)).1), hold, hb⟩

/-- Decode hands back a batch and an error. -/
def GotBat (W : World) (r : Except Nat BatD) (e : Ending) (w : World) : Prop :=
  ∃ (a n : Int) (ao : Option Addr) (l : List TxM) (cap er : Nat), e = .returned (.tuple #[batV a n ao l.length cap, .int .i64 (er : Int)]) ∧ TxsAt w ao l ∧ (ao = none → cap = 0) ∧ ((er = 0 ∧ r = .ok ⟨a, n, dl l⟩) ∨ (er ≠ 0 ∧ r = .error er ∧ a = 0 ∧ n = 0 ∧ l = [])) ∧ Below W.heap.size W w

theorem gotBat_err {W w : World} {r : Except Nat BatD} {er : Nat} (h : r = .error er) (he : er ≠ 0) (hb : Below W.heap.size W w) (e : Ending) (hv : e = .returned (.tuple #[batV 0 0 none 0 0, .int .i64 (er : Int)])) : GotBat W r e w :=
  ⟨0, 0, none, [], 0, er, hv, nil_txs _ _, fun _ => rfl, Or.inr ⟨he, h, rfl, rfl, rfl⟩, hb⟩

theorem below_set3 {B : Nat} {w w' : World} (h : Below B w w') {g : Nat} (hg : B ≤ g) (v0 v1 v2 : Value) : Below B w (set3 w' g v0 v1 v2) :=
  ((h.setCell (p := ⟨g, 0, none⟩) hg v0).setCell (p := ⟨g, 1, none⟩) hg v1).setCell (p := ⟨g, 2, none⟩) hg v2

set_option maxRecDepth 100000 in
set_option maxHeartbeats 4000000 in
theorem batDecode_any (s : ByteArray) (w : World) (hs : s.size ≤ maxLen) :
    Calls Try.prog 25 #[.string s] w fun e w' => GotBat w (decBat s.data.toList) e w' := by
  have hZ := Arr.new w 40 [.int .i64 0, .int .i64 0, .slice none 0 0]
  have hB := belowNew w (.cells #[.int .i64 0, .int .i64 0, .slice none 0 0] 40)
  obtain ⟨out, hout⟩ : ∃ out, out = decBat s.data.toList := ⟨_, rfl⟩
  rw [← hout]
  unfold decBat at hout
  have hsz : Hid (s.size ≤ maxLen) := hs
  clear hs
  rcases hr0 : getInt s.data.toList with ⟨v0, k0, e0⟩
  have c0 := fun w1 => getInt_at s w1 v0 k0 e0 hsz.out hr0
  have H0 : Hid (out = _) := hout
  clear hout
  have hl0 : s.data.toList.length = s.size := by simp
  go_enter Try.func25, Try.ntmps25
  go_wp2_with fail
  refine (c0 _).mono ?_
  rintro e w1 ⟨rfl, rfl⟩
  clear c0
  by_cases he0 : e0 ≠ 0
  · have hout := H0.out
    rw [rdI_err hr0 he0] at hout
    have hfin := fun w' e hb hv => gotBat_err (W := w) (w := w') (e := e) hout he0 hb hv
    have d0 : ((e0 : Int) != 0) = true := by rw [bne_iff_ne]; omega
    clear hout hr0 H0
    go_wp2
    refine bodyPost_ret (v := .tuple #[batV 0 0 none 0 0, .int .i64 (e0 : Int)]) (results_bat_tmp rfl _ _ w.heap.size 0 0 none 0 0 rfl hZ _ rfl) rfl ?_
    exact hfin _ _ hB rfl
  replace he0 : e0 = 0 := by omega
  subst he0
  obtain ⟨hv0, hk0, hk0'⟩ : v0 ≤ 4611686018427387903 ∧ k0 ≤ s.size ∧ (k0 : Int) ≤ s.size := by
    have hb := getInt_bounds _ v0 k0 hr0
    omega
  have hout := H0.out
  rw [rdI_ok hr0, ← extract_drop] at hout
  have hsz1 : Hid ((s.extract k0 s.size).size ≤ maxLen) := by have := hsz.out; show _ ≤ _; rw [ByteArray.size_extract]; omega
  obtain ⟨s1, hs1⟩ : ∃ q, s.extract k0 s.size = q := ⟨_, rfl⟩
  rw [hs1] at hout hsz1
  clear H0 hr0 hl0
  have hl1 : s1.data.toList.length = s1.size := by simp
  rcases hr1 : getInt s1.data.toList with ⟨v1, k1, e1⟩
  have c1 := fun w1 => getInt_at s1 w1 v1 k1 e1 hsz1.out hr1
  have H1 : Hid (out = _) := hout
  clear hout
  go_wp2_with fail
  refine (c1 _).mono ?_
  rintro e w1 ⟨rfl, rfl⟩
  clear c1
  by_cases he1 : e1 ≠ 0
  · have hout := H1.out
    rw [rdI_err hr1 he1] at hout
    have hfin := fun w' e hb hv => gotBat_err (W := w) (w := w') (e := e) hout he1 hb hv
    have d0 : ((e1 : Int) != 0) = true := by rw [bne_iff_ne]; omega
    clear hout hr1 H1
    go_wp2
    refine bodyPost_ret (v := .tuple #[batV 0 0 none 0 0, .int .i64 (e1 : Int)]) (results_bat_tmp rfl _ _ w.heap.size 0 0 none 0 0 rfl hZ _ rfl) rfl ?_
    exact hfin _ _ hB rfl
  replace he1 : e1 = 0 := by omega
  subst he1
  obtain ⟨hv1, hk1, hk1'⟩ : v1 ≤ 4611686018427387903 ∧ k1 ≤ s1.size ∧ (k1 : Int) ≤ s1.size := by
    have hb := getInt_bounds _ v1 k1 hr1
    omega
  have hout := H1.out
  rw [rdI_ok hr1, ← extract_drop] at hout
  have hsz2 : Hid ((s1.extract k1 s1.size).size ≤ maxLen) := by have := hsz1.out; show _ ≤ _; rw [ByteArray.size_extract]; omega
  obtain ⟨s2, hs2⟩ : ∃ q, s1.extract k1 s1.size = q := ⟨_, rfl⟩
  rw [hs2] at hout hsz2
  clear H1 hr1 hl1
  have hl2 : s2.data.toList.length = s2.size := by simp
  rcases hr2 : getList s2.data.toList 16 with ⟨ts, k2, e2⟩
  have c2 := fun w1 => getListN s2 16 (by omega) w1 hsz2.out ts k2 e2 (by exact hr2)
  have H2 : Hid (out = _) := hout
  clear hout
  have hml : (mks ts).length = ts.length := by simp [mks]
  have hbm : bl (mks ts) = ts := bl_mks ts
  obtain ⟨ms, hms⟩ : ∃ q, q = mks ts := ⟨_, rfl⟩
  rw [← hms] at c2 hml hbm
  go_wp2_with fail
  refine (c2 _).mono ?_
  rintro e w2 ⟨a2, n2, rfl, hO2, hnn2, hb2⟩
  have hZ2 := hZ.below hb2 hZ.lt
  have hB2 := hB.trans (hb2.mono hB.size)
  clear hZ hB hb2 c2
  by_cases he2 : e2 ≠ 0
  · have hout := H2.out
    rw [rdL_err hr2 he2] at hout
    have d0 : ((e2 : Int) != 0) = true := by rw [bne_iff_ne]; omega
    have z0 := hZ2.cell (i := 0) rfl
    have z1 := hZ2.cell (i := 1) rfl
    have z2 := hZ2.cell (i := 2) rfl
    have g0 := hZ2.frozen 0
    have g1 := hZ2.frozen 1
    have g2 := hZ2.frozen 2
    have hZF := hZ2.set3 (.int .i64 0) (.int .i64 0) (.slice none 0 0)
    have hBF := below_set3 hB2 (g := w.heap.size) (Nat.le_refl _) (.int .i64 0) (.int .i64 0) (.slice none 0 0)
    have hfin := fun e hv => gotBat_err (W := w) (e := e) hout he2 hBF hv
    unfold set3 at hZF hfin
    clear hout hr2 H2 hZ2 hB2 hBF hO2
    go_wp2
    refine bodyPost_ret (v := .tuple #[batV 0 0 none 0 0, .int .i64 (e2 : Int)]) (results_bat_tmp rfl _ _ w.heap.size 0 0 none 0 0 rfl hZF _ rfl) rfl ?_
    exact hfin _ rfl
  replace he2 : e2 = 0 := by omega
  subst he2
  have hgb := getList_back hr2
  have hk2 := hgb.2.2.1
  have hm16 := hgb.2.2.2.1
  have hmsz := hgb.2.2.2.2
  clear hgb
  rw [hl2] at hk2
  have hout := H2.out
  rw [rdL_ok hr2] at hout
  have hdr : Hid (s2.data.toList.drop k2 ≠ [] ↔ k2 < s2.size) := by
    show _ ↔ _
    rw [ne_eq, List.drop_eq_nil_iff, hl2]
    omega
  have c3 := fun w1 (h : StrsAt w1 a2 ms) => decodeAll_any a2 n2 ms w1 h (by rw [hms]; intro x hx; obtain ⟨t, ht, rfl⟩ := List.mem_map.1 hx; rw [size_mk]; have := hmsz t ht; unfold maxLen; omega) (by omega)
  rw [hbm, hml] at c3
  clear hbm hms hmsz hl2
  have H3 : Hid (out = _) := hout
  clear hout H2 hr2
  go_wp2_with fail
  refine (c3 _ hO2.at).mono ?_
  rintro e w3 ⟨a3, n3, l, er, rfl, hT3, hn3, hres, hfr3, hof3, hb3⟩
  replace hfr3 : ∀ b o, a3 = some ⟨b, o, none⟩ → b ≠ w.heap.size := fun b o e => by have := hfr3 b o e; have := hZ2.lt; omega
  replace hof3 : ∀ x ∈ l, x.Off (fun k => k = w.heap.size) := fun x hx => (hof3 x hx).mono (fun k hk => by rw [hk]; exact hZ2.lt)
  have hZ3 := hZ2.below hb3 hZ2.lt
  have hB3 := hB2.trans (hb3.mono hB2.size)
  clear hZ2 hB2 hb3 c3 hO2
  have z0 := hZ3.cell (i := 0) rfl
  have z1 := hZ3.cell (i := 1) rfl
  have z2 := hZ3.cell (i := 2) rfl
  have g0 := hZ3.frozen 0
  have g1 := hZ3.frozen 1
  have g2 := hZ3.frozen 2
  have hZF := hZ3.set3 (.int .i64 0) (.int .i64 0) (.slice none 0 0)
  have hBF := below_set3 hB3 (g := w.heap.size) (Nat.le_refl _) (.int .i64 0) (.int .i64 0) (.slice none 0 0)
  rcases hres with ⟨rfl, hres⟩ | ⟨her, hres, rfl⟩
  rotate_left
  · have hout := H3.out
    rw [hres] at hout
    have d0 : ((er : Int) != 0) = true := by rw [bne_iff_ne]; omega
    have hfin := fun e hv => gotBat_err (W := w) (e := e) hout her hBF hv
    unfold set3 at hZF hfin
    clear hout H3 hZ3 hB3 hBF hres
    go_wp2
    refine bodyPost_ret (v := .tuple #[batV 0 0 none 0 0, .int .i64 (er : Int)]) (results_bat_tmp rfl _ _ w.heap.size 0 0 none 0 0 rfl hZF _ rfl) rfl ?_
    exact hfin _ rfl
  have hout := H3.out
  rw [hres] at hout
  simp only at hout
  unfold finBat at hout
  clear H3
  by_cases hmore : k2 < s2.size
  · have hout2 := hout.trans (if_pos (hdr.out.2 hmore))
    have hfin := fun e hv => gotBat_err (W := w) (e := e) hout2 (by decide) hBF hv
    have d0 : (k2 : Int) < (s2.size : Int) := by omega
    unfold set3 at hZF hfin
    clear hout hout2 hZ3 hB3 hBF hres
    go_wp2
    refine bodyPost_ret (v := .tuple #[batV 0 0 none 0 0, .int .i64 6]) (results_bat_tmp rfl _ _ w.heap.size 0 0 none 0 0 rfl hZF _ rfl) rfl ?_
    exact hfin _ rfl
  replace hout := hout.trans (if_neg (fun h => hmore (hdr.out.1 h)))
  have d0 : decide ((k2 : Int) < (s2.size : Int)) = false := decide_eq_false (by omega)
  have c4 := fun w1 (h : TxsAt w1 a3 l) => batCheck_any (v0 : Int) (v1 : Int) a3 l n3 w1 h
  have hout2 : out = (if checkB ⟨(v0 : Int), (v1 : Int), dl l⟩ ≠ 0 then .error (checkB ⟨(v0 : Int), (v1 : Int), dl l⟩) else .ok ⟨(v0 : Int), (v1 : Int), dl l⟩) := by
    rw [hout]
    by_cases h6 : (6 : Int) < (v0 : Int)
    · rw [if_pos h6]
      have hc : checkB ⟨(v0 : Int), (v1 : Int), dl l⟩ = 2 := if_pos (by show (v0 : Int) < 0 ∨ 6 < (v0 : Int) ∨ _; omega)
      rw [hc, if_pos (by decide)]
    · rw [if_neg h6]
  have H4 : Hid (out = _) := hout2
  clear hout hout2 hres hdr
  have hZ4 := hZ3.alloc (.cells (batC (v0 : Int) (v1 : Int) a3 l.length n3).toArray 40)
  have hB4 := hB3.alloc hB3.size (.cells (batC (v0 : Int) (v1 : Int) a3 l.length n3).toArray 40)
  have hN4 := Arr.new w3 40 (batC (v0 : Int) (v1 : Int) a3 l.length n3)
  have hT4 := hT3.below (belowNew w3 (.cells (batC (v0 : Int) (v1 : Int) a3 l.length n3).toArray 40))
  unfold batV at c4
  clear z0 z1 z2 g0 g1 g2 hZF hBF
  go_wp2_with fail
  refine (c4 _ hT4).mono ?_
  rintro e w5 ⟨rfl, hb5⟩
  have hZ5 := hZ4.below hb5 hZ4.lt
  have hN5 := hN4.below hb5 hN4.lt
  have hT5 := hT4.below hb5
  have hB5 := hB4.trans (hb5.mono hB4.size)
  clear hZ4 hN4 hT4 hB4 hb5 hZ3 hB3 hT3 c4
  have z0 := hZ5.cell (i := 0) rfl
  have z1 := hZ5.cell (i := 1) rfl
  have z2 := hZ5.cell (i := 2) rfl
  have g0 := hZ5.frozen 0
  have g1 := hZ5.frozen 1
  have g2 := hZ5.frozen 2
  by_cases hc : checkB ⟨(v0 : Int), (v1 : Int), dl l⟩ ≠ 0
  · have hout := H4.out.trans (if_pos hc)
    have hZF := hZ5.set3 (.int .i64 0) (.int .i64 0) (.slice none 0 0)
    have hBF := below_set3 hB5 (g := w.heap.size) (Nat.le_refl _) (.int .i64 0) (.int .i64 0) (.slice none 0 0)
    have hfin := fun e hv => gotBat_err (W := w) (e := e) hout hc hBF hv
    generalize checkB ⟨(v0 : Int), (v1 : Int), dl l⟩ = er at hc hfin ⊢
    have d1 : ((er : Int) != 0) = true := by rw [bne_iff_ne]; omega
    unfold set3 at hZF hfin
    clear hout H4 hZ5 hB5 hBF
    go_wp2
    refine bodyPost_ret (v := .tuple #[batV 0 0 none 0 0, .int .i64 (er : Int)]) (results_bat_tmp rfl _ _ w.heap.size 0 0 none 0 0 rfl hZF _ rfl) rfl ?_
    exact hfin _ rfl
  have hout := H4.out.trans (if_neg hc)
  replace hc : checkB ⟨(v0 : Int), (v1 : Int), dl l⟩ = 0 := by omega
  rw [hc]
  have x0 := hN5.cell (i := 0) rfl
  have x1 := hN5.cell (i := 1) rfl
  have x2 := hN5.cell (i := 2) rfl
  have hZF := hZ5.set3 (.int .i64 (v0 : Int)) (.int .i64 (v1 : Int)) (.slice a3 l.length n3)
  have hBF := below_set3 hB5 (g := w.heap.size) (Nat.le_refl _) (.int .i64 (v0 : Int)) (.int .i64 (v1 : Int)) (.slice a3 l.length n3)
  have hTF : TxsAt (set3 w5 w.heap.size (.int .i64 (v0 : Int)) (.int .i64 (v1 : Int)) (.slice a3 l.length n3)) a3 l := hT5.set3 hfr3 hof3 _ _ _
  have hfin : ∀ e, e = .returned (.tuple #[batV (v0 : Int) (v1 : Int) a3 l.length n3, .int .i64 0]) → GotBat w out e _ := fun e hv => ⟨_, _, _, _, _, 0, hv, hTF, hn3, Or.inl ⟨rfl, hout⟩, hBF⟩
  unfold set3 at hZF hfin
  clear hout H4 hZ5 hB5 hBF hTF hT5
  go_wp2
  refine bodyPost_ret (v := .tuple #[batV (v0 : Int) (v1 : Int) a3 l.length n3, .int .i64 0]) (results_bat_tmp rfl _ _ w.heap.size (v0 : Int) (v1 : Int) a3 l.length n3 rfl hZF _ rfl) rfl ?_
  exact hfin _ rfl
end Go.Proofs.Ytibfnefdpbdkoaa
