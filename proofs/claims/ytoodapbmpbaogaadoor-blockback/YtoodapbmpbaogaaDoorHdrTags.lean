/- What getTag, GetTags and Tags of package header do; nothing old in memory is turned. -/
import Derived.Test.YtoodapbmpbaogaaDoorHdrTake
import Derived.WalkSmall
import Derived.Laws.ResultCell
import Derived.BigRegion
namespace Go.Proofs.YtoodapbmpbaogaaDoor
open Go.RowKit
set_option linter.unusedVariables false

theorem infoTag1 : (Tryd.prog.info? 54).map (·.size) = some 2 := by kernel_rfl

theorem results_tag_tmp {fn : Func} {p u : Tmp} (h : fn.results = #[.cell p 54, .tmp u]) (tmps : Array Value) (w : World) (g : Nat) (a : Int) (m : ByteArray)
    (hp : tmps.getD p undef = .pointer (some ⟨g, 0, none⟩)) (hg : Arr w g 54 [.int .i64 a, .string m]) (v : Value) (hv : tmps.getD u undef = v) :
    (results fn tmps).run Tryd.prog w = .ok (.tuple #[.agg #[.int .i64 a, .string m], v]) w := by
  rw [results_cell_tmp h, hp, hv]
  have hl := run_loadVar_row w g 54 54 #[Value.int .i64 a, Value.string m] (0, 0) _ hg Tryd.underlying54 rfl infoTag1
  simp [asAddr, hl, Result.andThen]

theorem runX_any {α : Type} {E : Nat} {r out : Except Nat α} (h : out = runX E r) : (E = 0 ∧ out = r) ∨ (E ≠ 0 ∧ out = .error E) := by
  by_cases hE : E = 0
  · subst hE; exact Or.inl ⟨rfl, h⟩
  · exact Or.inr ⟨hE, by rw [h, runX_err hE]⟩

/-- getTag hands back a tag, or the error. -/
def tagOf (r : Except Nat TagD) : TagD × Nat := match r with
  | .ok t => (t, 0)
  | .error e => (⟨0, ⟨#[]⟩⟩, e)

set_option maxRecDepth 100000 in
set_option maxHeartbeats 400000 in
theorem getTag_any (s : ByteArray) (w : World) (hs : s.size ≤ maxLen) :
    Calls Tryd.prog 86 #[.string s] w fun e w' => e = .returned (.tuple #[.agg #[.int .i64 (tagOf (getTag s.data.toList)).1.who, .string (tagOf (getTag s.data.toList)).1.mac], .int .i64 ((tagOf (getTag s.data.toList)).2 : Int)]) ∧ Below w.heap.size w w' := by
  obtain ⟨hZ, hR, hB⟩ := two_new w 54 143 [.int .i64 0, .string ⟨#[]⟩] [.string s, .int .i64 0]
  have c0 := takeInt_k (w.heap.size + 1) _ s 0 hR hs
  obtain ⟨out, hout⟩ : ∃ out, out = getTag s.data.toList := ⟨_, rfl⟩
  rw [← hout]
  unfold getTag at hout
  have H : Hid (out = _) := (hout.trans (runX_zero _).symm : _ = _)
  clear hout
  go_enter Tryd.func86, Tryd.ntmps86
  go_wp2_with fail
  refine c0.mono ?_
  rintro e w1 ⟨n, E1, r1, rfl, hn, hr1, hf, hR1, hk1⟩
  have hZ1 := hZ.kept hk1 (by omega)
  have hB1 := hB.trans (hk1.below hB.size (fun k hk => by rw [hk]; omega))
  have hx := H.out.trans (hf _ _)
  replace H : Hid (out = _) := hx
  clear hx hf c0 hZ hR hB hk1
  have c1 := refuse_k (w.heap.size + 1) w1 r1 E1 (decide ((6 : Int) < (n : Int))) 2 hR1
  obtain ⟨E2, hE2⟩ : ∃ q, Hid (q = (if decide ((6 : Int) < (n : Int)) = true ∧ E1 = 0 then 2 else E1)) := ⟨_, rfl⟩
  rw [← hE2.out] at c1
  go_wp2_with fail
  refine c1.mono ?_
  rintro e w2 ⟨rfl, hR2, hk2⟩
  have hZ2 := hZ1.kept hk2 (by omega)
  have hB2 := hB1.trans (hk2.below hB1.size (fun k hk => by rw [hk]; omega))
  clear hZ1 hR1 hB1 hk2 c1
  have u0 := hR2.cell (i := 0) rfl
  obtain ⟨b3, hb3⟩ : ∃ q, q = ((r1.size : Int) != 16) := ⟨_, rfl⟩
  have c2 := refuse_k (w.heap.size + 1) w2 r1 E2 b3 3 hR2
  obtain ⟨E3, hE3⟩ : ∃ q, Hid (q = (if b3 = true ∧ E2 = 0 then 3 else E2)) := ⟨_, rfl⟩
  rw [← hE3.out] at c2
  rw [hb3] at c2
  go_wp2_with fail
  refine c2.mono ?_
  rintro e w3 ⟨rfl, hR3, hk3⟩
  have hZ3 := hZ2.kept hk3 (by omega)
  have hB3 := hB2.trans (hk3.below hB2.size (fun k hk => by rw [hk]; omega))
  clear hZ2 hR2 hB2 hk3 c2 u0
  have HF : Hid ((E3 = 0 ∧ out = .ok ⟨(n : Int), r1⟩) ∨ (E3 ≠ 0 ∧ out = .error E3)) := by
    have hl : r1.data.toList.length = r1.size := by simp
    rcases runX_any H.out with ⟨h1, h2⟩ | ⟨h1, h2⟩
    · have e2 := hE2.out
      have e3 := hE3.out
      rw [hb3] at e3
      rw [hl, mk_list] at h2
      by_cases h6 : 6 < n
      · rw [if_pos h6] at h2
        rw [if_pos ⟨decide_eq_true (by omega), h1⟩] at e2
        rw [if_neg (fun h => by omega)] at e3
        exact Or.inr ⟨by omega, by rw [h2, e3, e2]⟩
      · rw [if_neg h6] at h2
        rw [if_neg (fun h => by have := of_decide_eq_true h.1; omega)] at e2
        by_cases h16 : r1.size ≠ 16
        · rw [if_pos h16] at h2
          rw [if_pos ⟨by rw [bne_iff_ne]; omega, by omega⟩] at e3
          exact Or.inr ⟨by omega, by rw [h2, e3]⟩
        · rw [if_neg h16] at h2
          rw [if_neg (fun h => by have := bne_iff_ne.1 h.1; omega)] at e3
          exact Or.inl ⟨by omega, h2⟩
    · have e2 := hE2.out
      have e3 := hE3.out
      rw [if_neg (fun h => by omega)] at e2
      rw [if_neg (fun h => by omega)] at e3
      exact Or.inr ⟨by omega, by rw [h2, e3, e2]⟩
  clear H hE2 hE3 hb3
  have u0 := hR3.cell (i := 0) rfl
  have u1 := hR3.cell (i := 1) rfl
  have z0 := hZ3.cell (i := 0) rfl
  have z1 := hZ3.cell (i := 1) rfl
  have g0 := hZ3.frozen 0
  have g1 := hZ3.frozen 1
  by_cases he : E3 = 0
  · subst he
    have ho : out = .ok ⟨(n : Int), r1⟩ := by
      rcases HF.out with ⟨_, h⟩ | ⟨h, _⟩
      · exact h
      · exact absurd rfl h
    have hZF := (hZ3.set 0 (.int .i64 (n : Int))).set 1 (.string r1)
    have hBF := (hB3.setCell (p := ⟨w.heap.size, 0, none⟩) (Nat.le_refl _) (.int .i64 (n : Int))).setCell (p := ⟨w.heap.size, 1, none⟩) (Nat.le_refl _) (.string r1)
    clear hZ3 hB3 HF
    go_wp2
    refine bodyPost_ret (v := .tuple #[.agg #[.int .i64 (n : Int), .string r1], .int .i64 0]) (results_tag_tmp rfl _ _ w.heap.size (n : Int) r1 rfl hZF _ rfl) rfl ?_
    exact ⟨by rw [ho]; rfl, hBF⟩
  · have ho : out = .error E3 := by
      rcases HF.out with ⟨h, _⟩ | ⟨_, h⟩
      · exact absurd h he
      · exact h
    have hne : ((E3 : Int) != 0) = true := by rw [bne_iff_ne]; omega
    have fin : Arr ((w3.setCell ⟨w.heap.size, 0, none⟩ (.int .i64 0)).setCell ⟨w.heap.size, 1, none⟩ (.string ⟨#[]⟩)).drew w.heap.size 54 [.int .i64 0, .string ⟨#[]⟩] ∧ Below w.heap.size w ((w3.setCell ⟨w.heap.size, 0, none⟩ (.int .i64 0)).setCell ⟨w.heap.size, 1, none⟩ (.string ⟨#[]⟩)).drew :=
      ⟨((hZ3.set 0 (.int .i64 0)).set 1 (.string ⟨#[]⟩)).drew, Below.drew ((hB3.setCell (p := ⟨w.heap.size, 0, none⟩) (Nat.le_refl _) (.int .i64 0)).setCell (p := ⟨w.heap.size, 1, none⟩) (Nat.le_refl _) (.string ⟨#[]⟩))⟩
    clear hZ3 hB3 HF
    go_wp2_with fail
    go_region
    revert fin
    generalize (World.setCell _ ⟨w.heap.size, 1, none⟩ (.string ⟨#[]⟩)).drew = wf
    intro fin
    try go_wp2
    refine bodyPost_ret (v := .tuple #[.agg #[.int .i64 0, .string ⟨#[]⟩], .int .i64 (E3 : Int)]) (results_tag_tmp rfl _ _ w.heap.size 0 ⟨#[]⟩ rfl fin.1 _ rfl) rfl ?_
    exact ⟨by rw [ho]; rfl, fin.2⟩

theorem getTags_err {l : List UInt8} {ms : List (List UInt8)} {k er : Nat} (h : getList l 7 = (ms, k, er)) (he : er ≠ 0) : getTagsL l = ([], 0, er) := by
  unfold getTagsL
  rw [h, if_pos he]
theorem getTags_ok {l : List UInt8} {ms : List (List UInt8)} {k : Nat} (h : getList l 7 = (ms, k, 0)) : getTagsL l = match eachE getTag ms with
    | .error e => ([], 0, e)
    | .ok ts => (ts, k, 0) := by
  unfold getTagsL
  rw [h, if_neg (by simp)]
  rfl

/-- GetTags hands back a row, in how many bytes, and the error. -/
def GotTags (W : World) (r : List TagD × Nat × Nat) (e : Ending) (w : World) : Prop :=
  ∃ (ts : List TagD) (k er : Nat) (ao : Option Addr) (cap : Nat), e = .returned (.tuple #[.slice ao ts.length cap, .int .i64 (k : Int), .int .i64 (er : Int)]) ∧ r = (ts, k, er) ∧ RowAt tagK w ao ts ∧ (ao = none → cap = 0) ∧ (∀ b, rowFoot tagK ao ts b → W.heap.size ≤ b) ∧ Below W.heap.size W w

set_option maxRecDepth 100000 in
set_option maxHeartbeats 1000000 in
theorem getTags_any (s : ByteArray) (w : World) (hs : s.size ≤ maxLen) :
    Calls Tryd.prog 66 #[.string s] w fun e w' => GotTags w (getTagsL s.data.toList) e w' := by
  obtain ⟨i0, hi, hz0, hz1, hz2⟩ := info_parts infoTag6
  rcases hr : getList s.data.toList 7 with ⟨ts, k, er⟩
  have c0 := getListN s 7 (by omega) w hs ts k er (by exact hr)
  by_cases he : er ≠ 0
  · have H : Hid (getTagsL s.data.toList = ([], 0, er)) := getTags_err hr he
    have hne : ((er : Int) != 0) = true := by rw [bne_iff_ne]; omega
    generalize mks ts = ms at c0
    clear hr
    go_enter Tryd.func66, Tryd.ntmps66
    go_wp2_with fail
    refine c0.mono ?_
    rintro e w1 ⟨ao, cap, rfl, h1, h2, h3⟩
    clear c0
    go_wp2
    go_ret3
    exact ⟨[], 0, er, none, 0, rfl, H.out, nil_row _ _, fun _ => rfl, fun b hb => (nil_foot hb).elim, h3⟩
  replace he : er = 0 := by omega
  subst he
  have HG : Hid (getTagsL s.data.toList = _) := getTags_ok hr
  have hgb := getList_back hr
  have hm7 := hgb.2.2.2.1
  have hmsz := hgb.2.2.2.2
  have hml : (mks ts).length = ts.length := by simp [mks]
  have hbm : Hid (bl (mks ts) = ts) := bl_mks ts
  have hmz : Hid (∀ x ∈ mks ts, x.size ≤ maxLen) := by
    intro x hx
    obtain ⟨t, ht, rfl⟩ := List.mem_map.1 hx
    rw [size_mk]
    have := hmsz t ht
    unfold maxLen
    omega
  obtain ⟨ms, hms⟩ : ∃ q, q = mks ts := ⟨_, rfl⟩
  rw [← hms] at c0 hml hbm hmz
  have hm7' : ms.length ≤ 7 := by omega
  have Hml : Hid (ms.length = ts.length) := hml
  clear hms hmsz hgb hr hm7 hml
  go_enter Tryd.func66, Tryd.ntmps66
  go_wp2_with fail
  refine c0.mono ?_
  rintro e w1 ⟨ao, cap, rfl, hO, _, hb1⟩
  clear c0
  have hS := hO.at
  clear hO
  go_wp2
  go_loopw [8, 10, 11, 12, 24] (fun v8 v10 v11 v12 v24 wr => ∃ (i : Nat) (l : List TagD), i ≤ ms.length ∧ l.length = i ∧ v24 = .int .i64 (i : Int) ∧ KQ tagK 54 wr w1.heap.size v8 l ∧ Hid (eachE getTag (ts.take i) = .ok l) ∧ Below w1.heap.size w1 wr) (fun _ _ _ _ v _ => ms.length - (intOf v).toNat)
  case atStart => exact ⟨0, [], Nat.zero_le _, rfl, rfl, KQ.empty _ _ _ _, by show _ = _; rfl, Below.refl _ _⟩
  case round =>
    obtain ⟨i, l, hil, hli, rfl, hq, hE, hbb⟩ := hrel
    have hb := hb1.trans (hbb.mono hb1.size)
    by_cases hlt : i < ms.length
    · obtain ⟨b, off, rfl, hbl, hcell⟩ := (hS.below hbb) i hlt
      have hbk : ts[i]? = some ms[i].data.toList := by rw [← hbm.out]; simp [bl, hlt]
      have hek := eachE_take (f := getTag) ts i _ hbk l hE.out
      have hs1 := hmz.out ms[i] (List.getElem_mem hlt)
      obtain ⟨s1, hs1e⟩ : ∃ s, s = ms[i] := ⟨_, rfl⟩
      rw [← hs1e] at hcell hek hs1
      have cD := fun w1 => getTag_any s1 w1 hs1
      clear hs1e hbk hE
      obtain ⟨qa, qc, rfl, hqn, _⟩ := hq.form
      rw [hli] at hq ⊢
      cases hg : getTag s1.data.toList with
      | error er =>
        have H : Hid (getTagsL s.data.toList = ([], 0, er)) := by
          have := HG.out
          rw [hek.2 er hg] at this
          exact this
        have hne0 := getTag_err hg
        have hne : ((er : Int) != 0) = true := by rw [bne_iff_ne]; omega
        rw [hg] at cD
        simp only [tagOf] at cD
        clear hg hek
        go_wp2_with fail
        refine (cD _).mono ?_
        rintro e w2 ⟨rfl, hb2⟩
        have hb3 := hb.trans (hb2.mono hb.size)
        have hb4 := hb3.alloc hb3.size (.cells #[.int .i64 0, .string ⟨#[]⟩] 54)
        clear cD hb2 hb3 hq
        go_wp2
        go_ret3
        exact ⟨[], 0, er, none, 0, rfl, H.out, nil_row _ _, fun _ => rfl, fun b hb => (nil_foot hb).elim, hb4⟩
      | ok t =>
        have HE : Hid (eachE getTag (ts.take (i + 1)) = .ok (l ++ [t])) := hek.1 t hg
        rw [hg] at cD
        simp only [tagOf] at cD
        clear hg hek
        go_wp2_with fail
        refine (cD _).mono ?_
        rintro e w2 ⟨rfl, hb2⟩
        have hb3 := hb.trans (hb2.mono hb.size)
        have hbb3 := hbb.trans (hb2.mono hbb.size)
        have hq3 := hq.below hb2
        have hbx := belowNew w2 (.cells #[.int .i64 t.who, .string t.mac] 54)
        have hby := belowNew (w2.alloc (.cells #[.int .i64 t.who, .string t.mac] 54)) (.cells #[.int .i64 t.who, .string t.mac] 54)
        have hb4 := (hb3.trans (hbx.mono hb3.size))
        have hb5 := (hb4.trans (hby.mono hb4.size))
        have hbb4 := (hbb3.trans (hbx.mono hbb3.size))
        have hbb5 := (hbb4.trans (hby.mono hbb4.size))
        have hq5 := (hq3.below hbx).below hby
        have hN := Arr.new (w2.alloc (.cells #[.int .i64 t.who, .string t.mac] 54)) 54 [.int .i64 t.who, .string t.mac]
        rw [alloc_size] at hN
        have hnews : ∀ j u, (tagK.c t)[j]? = some u → ((w2.alloc (.cells #[.int .i64 t.who, .string t.mac] 54)).alloc (.cells #[.int .i64 t.who, .string t.mac] 54)).cell? ((⟨w2.heap.size + 1, 0, none⟩ : Addr).add j) = some u := by
          intro j u hu
          rw [Go.WideShapes.add_plain, Nat.zero_add]
          exact hN.cell hu
        clear cD hb2 hb3 hq hq3 hbx hby hb4 hbb3 hbb4 hcell
        go_wp2_with (at_builtin; refine wpList_push (K := tagK) rfl _ _ 22 rfl w1.heap.size 54 i0 _ 24 Tryd.underlying22 hi hz0 hz1 hz2 rfl _ l rfl hq5 t trivial (fun _ h => h.elim) ⟨w2.heap.size + 1, 0, none⟩ 1 rfl hnews ?c3 ?c4 hbb5.size ?_)
        case c3 => unfold maxLen; omega
        case c4 => omega
        intro ao' cap' w3 hq6 hk6
        have hbb6 : Below w1.heap.size w1 w3 := hbb5.trans (hk6.below hbb5.size (fun j hj => (hq5.lt j hj).1))
        clear hq5 hk6 hb5 hbb5 hN hnews
        go_wp2
        go_roundw
        case rel => exact ⟨i + 1, l ++ [t], by omega, by simp [hli], by go_num, hq6, HE, hbb6⟩
        case measure => simp [intOf]; omega
    · have hii : i = ms.length := by omega
      have H : Hid (getTagsL s.data.toList = (l, k, 0)) := by
        have h1 := hE.out
        have h2 := Hml.out
        rw [List.take_of_length_le (by omega)] at h1
        have := HG.out
        rw [h1] at this
        exact this
      obtain ⟨qa, qc, rfl, hqn, hqt⟩ := hq.form
      have hff := hq.foot_ge (B := w.heap.size) hb1.size (fun _ _ _ h => h.elim)
      clear hE
      go_wp2
      go_ret3
      exact ⟨l, k, 0, qa, qc, rfl, H.out, hqt, hqn, hff, hb⟩
end Go.Proofs.YtoodapbmpbaogaaDoor
