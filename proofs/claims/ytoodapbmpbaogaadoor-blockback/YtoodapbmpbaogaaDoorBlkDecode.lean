/- What block.DecodeQc and block.Decode do; nothing old in memory is turned. -/
import Derived.Test.YtoodapbmpbaogaaDoorBlkRows
import Derived.Test.YtoodapbmpbaogaaDoorHdrTags
namespace Go.Proofs.YtoodapbmpbaogaaDoor
open Go.RowKit
set_option linter.unusedVariables false

theorem results_qc_tmp {fn : Func} {p u : Tmp} (h : fn.results = #[.cell p 24, .tmp u]) (tmps : Array Value) (w : World) (g : Nat) (x : QcM)
    (hp : tmps.getD p undef = .pointer (some ⟨g, 0, none⟩)) (hg : Arr w g 24 x.c) (v : Value) (hv : tmps.getD u undef = v) :
    (results fn tmps).run Tryd.prog w = .ok (.tuple #[x.v, v]) w := by
  rw [results_cell_tmp h, hp, hv]
  have hl := run_loadVar_row w g 24 24 x.c.toArray (0, 0) _ hg Tryd.underlying24 rfl infoQc8
  simp [asAddr, hl, QcM.v, QcM.c, Result.andThen]

theorem results_blk_tmp {fn : Func} {p u : Tmp} (h : fn.results = #[.cell p 27, .tmp u]) (tmps : Array Value) (w : World) (g : Nat) (x : BlkM)
    (hp : tmps.getD p undef = .pointer (some ⟨g, 0, none⟩)) (hg : Arr w g 27 x.c) (v : Value) (hv : tmps.getD u undef = v) :
    (results fn tmps).run Tryd.prog w = .ok (.tuple #[x.v, v]) w := by
  rw [results_cell_tmp h, hp, hv]
  have hl := run_loadVar_row w g 27 27 x.c.toArray (0, 0) _ hg Tryd.underlying27 rfl infoBlk8
  simp [asAddr, hl, BlkM.v, BlkM.c, Result.andThen]

/-- DecodeQc hands back a quorum's certificate and an error. -/
def GotQc (W : World) (r : Except Nat QcD) (e : Ending) (w : World) : Prop :=
  ∃ (x : QcM) (er : Nat), e = .returned (.tuple #[x.v, .int .i64 (er : Int)]) ∧ x.At w ∧ ((er = 0 ∧ r = .ok x.d) ∨ (er ≠ 0 ∧ r = .error er ∧ x = qc0)) ∧ (∀ b, x.foot b → W.heap.size ≤ b) ∧ Below W.heap.size W w

theorem gotQc_err {W w : World} {r : Except Nat QcD} {er : Nat} (h : r = .error er) (he : er ≠ 0) (hb : Below W.heap.size W w) (e : Ending) (hv : e = .returned (.tuple #[qc0.v, .int .i64 (er : Int)])) : GotQc W r e w :=
  ⟨qc0, er, hv, qc0_at _, Or.inr ⟨he, h, rfl⟩, fun b hb => (nil_foot hb).elim, hb⟩

/-- Decode hands back a block and an error. -/
def GotBlk (W : World) (r : Except Nat BlkD) (e : Ending) (w : World) : Prop :=
  ∃ (x : BlkM) (er : Nat), e = .returned (.tuple #[x.v, .int .i64 (er : Int)]) ∧ x.At w ∧ ((er = 0 ∧ r = .ok x.d) ∨ (er ≠ 0 ∧ r = .error er ∧ x = blk0)) ∧ (∀ b, x.foot b → W.heap.size ≤ b) ∧ Below W.heap.size W w

theorem gotBlk_err {W w : World} {r : Except Nat BlkD} {er : Nat} (h : r = .error er) (he : er ≠ 0) (hb : Below W.heap.size W w) (e : Ending) (hv : e = .returned (.tuple #[blk0.v, .int .i64 (er : Int)])) : GotBlk W r e w :=
  ⟨blk0, er, hv, blk0_at _, Or.inr ⟨he, h, rfl⟩, fun b hb => hb.elim (fun h => (nil_foot h).elim) (fun h => (nil_foot h).elim), hb⟩

set_option maxRecDepth 100000 in
set_option maxHeartbeats 2000000 in
theorem decodeQc_any (s : ByteArray) (W : World) (hs : s.size ≤ maxLen) :
    Calls Tryd.prog 24 #[.string s] W fun e w' => GotQc W (decQ s.data.toList) e w' := by
  have hZ := Arr.new W 24 [.int .i64 0, .string ⟨#[]⟩, .slice none 0 0]
  have hB := belowNew W (.cells #[.int .i64 0, .string ⟨#[]⟩, .slice none 0 0] 24)
  obtain ⟨out, hout⟩ : ∃ q, q = decQ s.data.toList := ⟨_, rfl⟩
  rw [← hout]
  unfold decQ at hout
  rcases hi : getInt s.data.toList with ⟨v, k0, er⟩
  have cI := fun w1 => getInt_at s w1 v k0 er hs hi
  by_cases he : er ≠ 0
  · have ho : out = .error er := hout.trans (rdI_err hi he)
    have hne : ((er : Int) != 0) = true := by rw [bne_iff_ne]; omega
    clear hi hout
    go_enter Tryd.func24, Tryd.ntmps24
    go_wp2_with fail
    refine (cI _).mono ?_
    rintro e w1 ⟨rfl, rfl⟩
    have z0 := hZ.cell (i := 0) rfl
    have z1 := hZ.cell (i := 1) rfl
    have z2 := hZ.cell (i := 2) rfl
    have g0 := hZ.frozen 0
    have g1 := hZ.frozen 1
    have g2 := hZ.frozen 2
    have fin : Arr (W.alloc (.cells #[.int .i64 0, .string ⟨#[]⟩, .slice none 0 0] 24)) W.heap.size 24 qc0.c ∧ Below W.heap.size W (W.alloc (.cells #[.int .i64 0, .string ⟨#[]⟩, .slice none 0 0] 24)) := ⟨hZ, hB⟩
    have hfin := fun w' e hb hv => gotQc_err (W := W) (w := w') (e := e) ho he hb hv
    clear hZ hB cI
    go_wp2
    refine bodyPost_ret (v := .tuple #[qc0.v, .int .i64 (er : Int)]) (results_qc_tmp rfl _ _ W.heap.size qc0 rfl fin.1 _ rfl) rfl ?_
    exact hfin _ _ fin.2 rfl
  replace he : er = 0 := by omega
  subst he
  have hl : s.data.toList.length = s.size := by simp
  have hbd := getInt_bounds _ _ _ hi
  have hk : (k0 : Int) ≤ s.size := by omega
  have hv62 := hbd.1
  have hrl := rest_le s k0 hs
  rw [rdI_ok hi, ← extract_drop] at hout
  obtain ⟨r1, hr1⟩ : ∃ q, q = s.extract k0 s.size := ⟨_, rfl⟩
  rw [← hr1] at hout hrl
  have Hr1 : Hid (r1 = s.extract k0 s.size) := hr1
  rcases ht : getText r1.data.toList with ⟨t, k1, er⟩
  have cT := fun w1 => getText_at r1 w1 t k1 er hrl ht
  clear hi hl hbd
  by_cases he : er ≠ 0
  · have ho : out = .error er := hout.trans (rdT_err ht he)
    have hne : ((er : Int) != 0) = true := by rw [bne_iff_ne]; omega
    clear ht hout hr1
    have hr1 := Hr1.out
    subst hr1
    go_enter Tryd.func24, Tryd.ntmps24
    go_wp2_with fail
    refine (cI _).mono ?_
    rintro e w1 ⟨rfl, rfl⟩
    go_wp2_with fail
    refine (cT _).mono ?_
    rintro e w1 ⟨rfl, rfl⟩
    have z0 := hZ.cell (i := 0) rfl
    have z1 := hZ.cell (i := 1) rfl
    have z2 := hZ.cell (i := 2) rfl
    have g0 := hZ.frozen 0
    have g1 := hZ.frozen 1
    have g2 := hZ.frozen 2
    have fin : Arr (W.alloc (.cells #[.int .i64 0, .string ⟨#[]⟩, .slice none 0 0] 24)) W.heap.size 24 qc0.c ∧ Below W.heap.size W (W.alloc (.cells #[.int .i64 0, .string ⟨#[]⟩, .slice none 0 0] 24)) := ⟨hZ, hB⟩
    have hfin := fun w' e hb hv => gotQc_err (W := W) (w := w') (e := e) ho he hb hv
    clear hZ hB cI cT
    go_wp2
    refine bodyPost_ret (v := .tuple #[qc0.v, .int .i64 (er : Int)]) (results_qc_tmp rfl _ _ W.heap.size qc0 rfl fin.1 _ rfl) rfl ?_
    exact hfin _ _ fin.2 rfl
  replace he : er = 0 := by omega
  subst he
  have hl : r1.data.toList.length = r1.size := by simp
  have hbt := getText_bounds _ t k1 ht
  have hk1 : (k1 : Int) ≤ r1.size := by omega
  have hrl2 := rest_le r1 k1 hrl
  rw [rdT_ok ht, ← extract_drop] at hout
  obtain ⟨r2, hr2⟩ : ∃ q, q = r1.extract k1 r1.size := ⟨_, rfl⟩
  rw [← hr2] at hout hrl2
  have hz1 : r1.size = s.size - k0 := by rw [hr1, ByteArray.size_extract]; omega
  have Hr2 : Hid (r2 = r1.extract k1 (s.size - k0)) := by rw [← hz1]; exact hr2
  obtain ⟨tb, htb⟩ : ∃ q, q = (⟨t.toArray⟩ : ByteArray) := ⟨_, rfl⟩
  rw [← htb] at cT hout
  have cG := fun w1 => getTags_any r2 w1 hrl2
  rcases hg : getTagsL r2.data.toList with ⟨ts, k2, e2⟩
  rw [hg] at cG
  have hl2 : r2.data.toList.length = r2.size := by simp
  have hok : Hid (out = if e2 ≠ 0 then .error e2 else if k2 < r2.size then .error 6 else .ok ⟨(v : Int), tb, ts⟩) := by
    show _ = _
    by_cases h : e2 ≠ 0
    · rw [hout, rdG_err hg h, if_pos h]
    · have h0 : e2 = 0 := by omega
      subst h0
      rw [hout, rdG_ok hg, if_neg h]
      by_cases h2 : k2 < r2.size
      · rw [if_pos h2, if_pos]
        intro h3
        have := congrArg List.length h3
        rw [List.length_drop, hl2] at this
        simp at this
        omega
      · rw [if_neg h2, if_neg]
        intro h3
        exact h3 (List.drop_of_length_le (by omega))
  clear ht hl hbt hout hr1 hr2 hz1 htb hg hl2
  have hr1 := Hr1.out
  subst hr1
  have hr2 := Hr2.out
  subst hr2
  go_enter Tryd.func24, Tryd.ntmps24
  go_wp2_with fail
  refine (cI _).mono ?_
  rintro e w1 ⟨rfl, rfl⟩
  go_wp2_with fail
  refine (cT _).mono ?_
  rintro e w1 ⟨rfl, rfl⟩
  clear cI cT
  go_wp2_with fail
  refine (cG _).mono ?_
  rintro e w3 ⟨ts', k2', e2', va, vc, rfl, heq, hT3, hTn, hTf, hb3⟩
  simp only [Prod.mk.injEq] at heq
  obtain ⟨rfl, rfl, rfl⟩ := heq
  have hZ3 := hZ.below hb3 hZ.lt
  have hB3 := hB.trans (hb3.mono hB.size)
  have hTl : ∀ b, rowFoot tagK va ts b → W.heap.size < b := fun b hb => by have := hTf b hb; rw [alloc_size] at this; omega
  clear hZ hB hb3 cG hTf
  by_cases he2 : e2 ≠ 0
  · have hne : ((e2 : Int) != 0) = true := by rw [bne_iff_ne]; omega
    have ho : out = .error e2 := hok.out.trans (if_pos he2)
    clear hok
    have z0 := hZ3.cell (i := 0) rfl
    have z1 := hZ3.cell (i := 1) rfl
    have z2 := hZ3.cell (i := 2) rfl
    have g0 := hZ3.frozen 0
    have g1 := hZ3.frozen 1
    have g2 := hZ3.frozen 2
    have fin : Arr (set3 w3 W.heap.size (.int .i64 0) (.string ⟨#[]⟩) (.slice none 0 0)) W.heap.size 24 qc0.c ∧ Below W.heap.size W (set3 w3 W.heap.size (.int .i64 0) (.string ⟨#[]⟩) (.slice none 0 0)) := ⟨hZ3.set3 (.int .i64 0) (.string ⟨#[]⟩) (.slice none 0 0), below_set3 hB3 (Nat.le_refl _) (.int .i64 0) (.string ⟨#[]⟩) (.slice none 0 0)⟩
    unfold set3 at fin
    have hfin := fun w' e hb hv => gotQc_err (W := W) (w := w') (e := e) ho he2 hb hv
    clear hZ3 hB3 hT3
    go_wp2
    refine bodyPost_ret (v := .tuple #[qc0.v, .int .i64 (e2 : Int)]) (results_qc_tmp rfl _ _ W.heap.size qc0 rfl fin.1 _ rfl) rfl ?_
    exact hfin _ _ fin.2 rfl
  have hok2 := hok.out.trans (if_neg he2)
  have he20 : e2 = 0 := by omega
  subst he20
  clear hok
  by_cases hm : k2 < ((s.extract k0 s.size).extract k1 (s.size - k0)).size
  · have hm' : k2 < s.size - k0 - k1 := by rw [ByteArray.size_extract, ByteArray.size_extract] at hm; omega
    have ho : out = .error 6 := hok2.trans (if_pos hm)
    clear hok2
    have z0 := hZ3.cell (i := 0) rfl
    have z1 := hZ3.cell (i := 1) rfl
    have z2 := hZ3.cell (i := 2) rfl
    have g0 := hZ3.frozen 0
    have g1 := hZ3.frozen 1
    have g2 := hZ3.frozen 2
    have fin : Arr (set3 w3 W.heap.size (.int .i64 0) (.string ⟨#[]⟩) (.slice none 0 0)) W.heap.size 24 qc0.c ∧ Below W.heap.size W (set3 w3 W.heap.size (.int .i64 0) (.string ⟨#[]⟩) (.slice none 0 0)) := ⟨hZ3.set3 (.int .i64 0) (.string ⟨#[]⟩) (.slice none 0 0), below_set3 hB3 (Nat.le_refl _) (.int .i64 0) (.string ⟨#[]⟩) (.slice none 0 0)⟩
    unfold set3 at fin
    have hfin := fun w' e hb hv => gotQc_err (W := W) (w := w') (e := e) ho (by decide) hb hv
    clear hZ3 hB3 hT3
    go_wp2
    refine bodyPost_ret (v := .tuple #[qc0.v, .int .i64 (6 : Int)]) (results_qc_tmp rfl _ _ W.heap.size qc0 rfl fin.1 _ rfl) rfl ?_
    exact hfin _ _ fin.2 rfl
  have hm' : ¬ k2 < s.size - k0 - k1 := by rw [ByteArray.size_extract, ByteArray.size_extract] at hm; omega
  have ho : out = .ok (QcM.d ⟨(v : Int), tb, va, ts, vc⟩) := hok2.trans (if_neg hm)
  clear hok2
  have z0 := hZ3.cell (i := 0) rfl
  have z1 := hZ3.cell (i := 1) rfl
  have z2 := hZ3.cell (i := 2) rfl
  have g0 := hZ3.frozen 0
  have g1 := hZ3.frozen 1
  have g2 := hZ3.frozen 2
  have hZF := hZ3.set3 (.int .i64 (v : Int)) (.string tb) (.slice va ts.length vc)
  have hBF := below_set3 hB3 (Nat.le_refl _) (.int .i64 (v : Int)) (.string tb) (.slice va ts.length vc)
  have kF := kept_set3 w3 W.heap.size (.int .i64 (v : Int)) (.string tb) (.slice va ts.length vc)
  have hTF := hT3.kept kF (fun b hb e => by have := hTl b hb; have e' : b = W.heap.size := e; omega)
  have fin : ∀ e, e = .returned (.tuple #[QcM.v ⟨(v : Int), tb, va, ts, vc⟩, .int .i64 0]) → GotQc W out e _ := fun e hv => ⟨_, 0, hv, ⟨hTF, hTn⟩, Or.inl ⟨rfl, ho⟩, fun b h => by have := hTl b h; omega, hBF⟩
  unfold set3 at hZF fin
  clear hZ3 hT3 hB3 hBF kF hTF ho
  go_wp2
  refine bodyPost_ret (v := .tuple #[QcM.v ⟨(v : Int), tb, va, ts, vc⟩, .int .i64 0]) (results_qc_tmp rfl _ _ W.heap.size ⟨(v : Int), tb, va, ts, vc⟩ rfl hZF _ rfl) rfl ?_
  exact fin _ rfl

set_option maxRecDepth 100000 in
set_option maxHeartbeats 2000000 in
theorem blkDecode_any (s : ByteArray) (W : World) (hs : s.size ≤ maxLen) :
    Calls Tryd.prog 23 #[.string s] W fun e w' => GotBlk W (decK s.data.toList) e w' := by
  have hZ := Arr.new W 27 [.int .i64 0, .int .i64 0, .string ⟨#[]⟩, .slice none 0 0, .slice none 0 0]
  have hB := belowNew W (.cells #[.int .i64 0, .int .i64 0, .string ⟨#[]⟩, .slice none 0 0, .slice none 0 0] 27)
  obtain ⟨out, hout⟩ : ∃ q, q = decK s.data.toList := ⟨_, rfl⟩
  rw [← hout]
  unfold decK at hout
  rcases hi : getInt s.data.toList with ⟨v, k0, er⟩
  have cI := fun w1 => getInt_at s w1 v k0 er hs hi
  by_cases he : er ≠ 0
  · have ho : out = .error er := hout.trans (rdI_err hi he)
    have hne : ((er : Int) != 0) = true := by rw [bne_iff_ne]; omega
    clear hi hout
    go_enter Tryd.func23, Tryd.ntmps23
    go_wp2_with fail
    refine (cI _).mono ?_
    rintro e w1 ⟨rfl, rfl⟩
    have z0 := hZ.cell (i := 0) rfl
    have z1 := hZ.cell (i := 1) rfl
    have z2 := hZ.cell (i := 2) rfl
    have z3 := hZ.cell (i := 3) rfl
    have z4 := hZ.cell (i := 4) rfl
    have g0 := hZ.frozen 0
    have g1 := hZ.frozen 1
    have g2 := hZ.frozen 2
    have g3 := hZ.frozen 3
    have g4 := hZ.frozen 4
    have fin : Arr (W.alloc (.cells #[.int .i64 0, .int .i64 0, .string ⟨#[]⟩, .slice none 0 0, .slice none 0 0] 27)) W.heap.size 27 blk0.c ∧ Below W.heap.size W (W.alloc (.cells #[.int .i64 0, .int .i64 0, .string ⟨#[]⟩, .slice none 0 0, .slice none 0 0] 27)) := ⟨hZ, hB⟩
    have hfin := fun w' e hb hv => gotBlk_err (W := W) (w := w') (e := e) ho he hb hv
    clear hZ hB cI
    go_wp2
    refine bodyPost_ret (v := .tuple #[blk0.v, .int .i64 (er : Int)]) (results_blk_tmp rfl _ _ W.heap.size blk0 rfl fin.1 _ rfl) rfl ?_
    exact hfin _ _ fin.2 rfl
  replace he : er = 0 := by omega
  subst he
  have hl : s.data.toList.length = s.size := by simp
  have hbd := getInt_bounds _ _ _ hi
  have hk : (k0 : Int) ≤ s.size := by omega
  have hv62 := hbd.1
  have hrl := rest_le s k0 hs
  rw [rdI_ok hi, ← extract_drop] at hout
  obtain ⟨r1, hr1⟩ : ∃ q, q = s.extract k0 s.size := ⟨_, rfl⟩
  rw [← hr1] at hout hrl
  have Hr1 : Hid (r1 = s.extract k0 s.size) := hr1
  rcases ht : getText r1.data.toList with ⟨t, k1, er⟩
  have cT := fun w1 => getText_at r1 w1 t k1 er hrl ht
  clear hi hl hbd
  by_cases he : er ≠ 0
  · have ho : out = .error er := hout.trans (rdT_err ht he)
    have hne : ((er : Int) != 0) = true := by rw [bne_iff_ne]; omega
    clear ht hout hr1
    have hr1 := Hr1.out
    subst hr1
    go_enter Tryd.func23, Tryd.ntmps23
    go_wp2_with fail
    refine (cI _).mono ?_
    rintro e w1 ⟨rfl, rfl⟩
    go_wp2_with fail
    refine (cT _).mono ?_
    rintro e w1 ⟨rfl, rfl⟩
    have z0 := hZ.cell (i := 0) rfl
    have z1 := hZ.cell (i := 1) rfl
    have z2 := hZ.cell (i := 2) rfl
    have z3 := hZ.cell (i := 3) rfl
    have z4 := hZ.cell (i := 4) rfl
    have g0 := hZ.frozen 0
    have g1 := hZ.frozen 1
    have g2 := hZ.frozen 2
    have g3 := hZ.frozen 3
    have g4 := hZ.frozen 4
    have fin : Arr (W.alloc (.cells #[.int .i64 0, .int .i64 0, .string ⟨#[]⟩, .slice none 0 0, .slice none 0 0] 27)) W.heap.size 27 blk0.c ∧ Below W.heap.size W (W.alloc (.cells #[.int .i64 0, .int .i64 0, .string ⟨#[]⟩, .slice none 0 0, .slice none 0 0] 27)) := ⟨hZ, hB⟩
    have hfin := fun w' e hb hv => gotBlk_err (W := W) (w := w') (e := e) ho he hb hv
    clear hZ hB cI cT
    go_wp2
    refine bodyPost_ret (v := .tuple #[blk0.v, .int .i64 (er : Int)]) (results_blk_tmp rfl _ _ W.heap.size blk0 rfl fin.1 _ rfl) rfl ?_
    exact hfin _ _ fin.2 rfl
  replace he : er = 0 := by omega
  subst he
  have hl : r1.data.toList.length = r1.size := by simp
  have hbt := getText_bounds _ t k1 ht
  have hk1 : (k1 : Int) ≤ r1.size := by omega
  have hrl2 := rest_le r1 k1 hrl
  rw [rdT_ok ht, ← extract_drop] at hout
  obtain ⟨r2, hr2⟩ : ∃ q, q = r1.extract k1 r1.size := ⟨_, rfl⟩
  rw [← hr2] at hout hrl2
  have hz1 : r1.size = s.size - k0 := by rw [hr1, ByteArray.size_extract]; omega
  have Hr2 : Hid (r2 = r1.extract k1 (s.size - k0)) := by rw [← hz1]; exact hr2
  have ht6 : (⟨t.toArray⟩ : ByteArray).size ≤ maxLen := by rw [size_mk]; unfold maxLen; omega
  have cQ := fun w1 => decodeQc_any ⟨t.toArray⟩ w1 ht6
  obtain ⟨tb, htb⟩ : ∃ q, q = (⟨t.toArray⟩ : ByteArray) := ⟨_, rfl⟩
  rw [← htb] at cT cQ
  have htd : tb.data.toList = t := by rw [htb]
  rw [htd] at cQ
  generalize decQ t = dq at cQ hout
  rcases hg : getList r2.data.toList 8 with ⟨cs, k2, e2⟩
  have cL := fun w1 => getListN r2 8 (by decide) w1 hrl2 cs k2 e2 hg
  have hl2 : r2.data.toList.length = r2.size := by simp
  have hok : Hid (∀ q, dq = .ok q → out = if e2 ≠ 0 then .error e2 else if k2 < r2.size then .error 6 else .ok ⟨(v : Int), q, mks cs⟩) := by
    intro q hq
    rw [hq] at hout
    simp only at hout
    by_cases h : e2 ≠ 0
    · rw [hout, rdL_err hg h, if_pos h]
    · have h0 : e2 = 0 := by omega
      subst h0
      rw [hout, rdL_ok hg, if_neg h]
      by_cases h2 : k2 < r2.size
      · rw [if_pos h2, if_pos]
        intro h3
        have := congrArg List.length h3
        rw [List.length_drop, hl2] at this
        simp at this
        omega
      · rw [if_neg h2, if_neg]
        intro h3
        exact h3 (List.drop_of_length_le (by omega))
  have hbad : Hid (∀ er, dq = .error er → out = .error er) := by
    intro er h
    rw [h] at hout
    exact hout
  obtain ⟨cl, hcl⟩ : ∃ q, q = mks cs := ⟨_, rfl⟩
  rw [← hcl] at cL hok
  clear ht hl hbt hout hr1 hr2 hz1 htb htd hg hl2 ht6 hcl
  have hr1 := Hr1.out
  subst hr1
  have hr2 := Hr2.out
  subst hr2
  go_enter Tryd.func23, Tryd.ntmps23
  go_wp2_with fail
  refine (cI _).mono ?_
  rintro e w1 ⟨rfl, rfl⟩
  go_wp2_with fail
  refine (cT _).mono ?_
  rintro e w1 ⟨rfl, rfl⟩
  clear cI cT
  go_wp2_with fail
  refine (cQ _).mono ?_
  rintro e w1 ⟨x, e1, rfl, hx, hres, hxf, hb1⟩
  unfold QcM.v
  have hZ1 := hZ.below hb1 hZ.lt
  have hB1 := hB.trans (hb1.mono hB.size)
  have hbx := belowNew w1 (.cells #[.int .i64 x.view, .string x.block, .slice x.va x.votes.length x.vc] 24)
  have hX2 := Arr.new w1 24 [.int .i64 x.view, .string x.block, .slice x.va x.votes.length x.vc]
  have hZ2 := hZ1.below hbx hZ1.lt
  have hB2 := hB1.trans (hbx.mono hB1.size)
  have hx2 := hx.below hbx
  have hxl : ∀ b, x.foot b → W.heap.size < b := fun b hb => by have := hxf b hb; rw [alloc_size] at this; omega
  have hw1 : W.heap.size < w1.heap.size := hZ1.lt
  clear hZ hB hb1 hbx hZ1 hB1 hx hxf cQ
  obtain ⟨w2, hw2⟩ : ∃ q, w1.alloc (.cells #[.int .i64 x.view, .string x.block, .slice x.va x.votes.length x.vc] 24) = q := ⟨_, rfl⟩
  rw [hw2] at hX2 hZ2 hB2 hx2
  by_cases he1 : e1 ≠ 0
  · have hne : ((e1 : Int) != 0) = true := by rw [bne_iff_ne]; omega
    have ho : out = .error e1 := by
      rcases hres with ⟨h, _⟩ | ⟨_, h, _⟩
      · exact absurd h he1
      · exact hbad.out _ h
    clear hbad hok hres
    have z0 := hZ2.cell (i := 0) rfl
    have z1 := hZ2.cell (i := 1) rfl
    have z2 := hZ2.cell (i := 2) rfl
    have z3 := hZ2.cell (i := 3) rfl
    have z4 := hZ2.cell (i := 4) rfl
    have g0 := hZ2.frozen 0
    have g1 := hZ2.frozen 1
    have g2 := hZ2.frozen 2
    have g3 := hZ2.frozen 3
    have g4 := hZ2.frozen 4
    have fin : Arr (set5 w2 W.heap.size (.int .i64 0) (.int .i64 0) (.string ⟨#[]⟩) (.slice none 0 0) (.slice none 0 0)) W.heap.size 27 blk0.c ∧ Below W.heap.size W (set5 w2 W.heap.size (.int .i64 0) (.int .i64 0) (.string ⟨#[]⟩) (.slice none 0 0) (.slice none 0 0)) := ⟨hZ2.set5 (.int .i64 0) (.int .i64 0) (.string ⟨#[]⟩) (.slice none 0 0) (.slice none 0 0), below_set5 hB2 (Nat.le_refl _) (.int .i64 0) (.int .i64 0) (.string ⟨#[]⟩) (.slice none 0 0) (.slice none 0 0)⟩
    unfold set5 at fin
    have hfin := fun w' e hb hv => gotBlk_err (W := W) (w := w') (e := e) ho he1 hb hv
    clear hZ2 hB2 hX2 hx2 cL
    go_wp2
    refine bodyPost_ret (v := .tuple #[blk0.v, .int .i64 (e1 : Int)]) (results_blk_tmp rfl _ _ W.heap.size blk0 rfl fin.1 _ rfl) rfl ?_
    exact hfin _ _ fin.2 rfl
  replace he1 : e1 = 0 := by omega
  subst he1
  have hok1 := hok.out x.d (by
    rcases hres with ⟨_, h⟩ | ⟨h, _⟩
    · exact h
    · exact absurd rfl h)
  clear hok hbad hres
  have hok : Hid _ := hok1
  clear hok1
  go_wp2_with fail
  refine (cL _).mono ?_
  rintro e w3 ⟨ca, cc, rfl, hO3, hCn, hb3⟩
  have hZ3 := hZ2.below hb3 hZ2.lt
  have hX3 := hX2.below hb3 hX2.lt
  have hx3 := hx2.below hb3
  have hB3 := hB2.trans (hb3.mono hB2.size)
  have hw2z := hX2.lt
  have hT3 := hO3.at.row
  have hTl : ∀ b, rowFoot strK ca cl b → W.heap.size < b := fun b hb => by have := hO3.foot hb; omega
  clear hZ2 hX2 hx2 hB2 hb3 cL hO3 hw2
  by_cases he2 : e2 ≠ 0
  · have hne : ((e2 : Int) != 0) = true := by rw [bne_iff_ne]; omega
    have ho : out = .error e2 := hok.out.trans (if_pos he2)
    clear hok
    have z0 := hZ3.cell (i := 0) rfl
    have z1 := hZ3.cell (i := 1) rfl
    have z2 := hZ3.cell (i := 2) rfl
    have z3 := hZ3.cell (i := 3) rfl
    have z4 := hZ3.cell (i := 4) rfl
    have g0 := hZ3.frozen 0
    have g1 := hZ3.frozen 1
    have g2 := hZ3.frozen 2
    have g3 := hZ3.frozen 3
    have g4 := hZ3.frozen 4
    have fin : Arr (set5 w3 W.heap.size (.int .i64 0) (.int .i64 0) (.string ⟨#[]⟩) (.slice none 0 0) (.slice none 0 0)) W.heap.size 27 blk0.c ∧ Below W.heap.size W (set5 w3 W.heap.size (.int .i64 0) (.int .i64 0) (.string ⟨#[]⟩) (.slice none 0 0) (.slice none 0 0)) := ⟨hZ3.set5 (.int .i64 0) (.int .i64 0) (.string ⟨#[]⟩) (.slice none 0 0) (.slice none 0 0), below_set5 hB3 (Nat.le_refl _) (.int .i64 0) (.int .i64 0) (.string ⟨#[]⟩) (.slice none 0 0) (.slice none 0 0)⟩
    unfold set5 at fin
    have hfin := fun w' e hb hv => gotBlk_err (W := W) (w := w') (e := e) ho he2 hb hv
    clear hZ3 hB3 hT3 hX3 hx3
    go_wp2
    refine bodyPost_ret (v := .tuple #[blk0.v, .int .i64 (e2 : Int)]) (results_blk_tmp rfl _ _ W.heap.size blk0 rfl fin.1 _ rfl) rfl ?_
    exact hfin _ _ fin.2 rfl
  have hok2 := hok.out.trans (if_neg he2)
  have he20 : e2 = 0 := by omega
  subst he20
  clear hok
  by_cases hm : k2 < ((s.extract k0 s.size).extract k1 (s.size - k0)).size
  · have hm' : k2 < s.size - k0 - k1 := by rw [ByteArray.size_extract, ByteArray.size_extract] at hm; omega
    have ho : out = .error 6 := hok2.trans (if_pos hm)
    clear hok2
    have z0 := hZ3.cell (i := 0) rfl
    have z1 := hZ3.cell (i := 1) rfl
    have z2 := hZ3.cell (i := 2) rfl
    have z3 := hZ3.cell (i := 3) rfl
    have z4 := hZ3.cell (i := 4) rfl
    have g0 := hZ3.frozen 0
    have g1 := hZ3.frozen 1
    have g2 := hZ3.frozen 2
    have g3 := hZ3.frozen 3
    have g4 := hZ3.frozen 4
    have fin : Arr (set5 w3 W.heap.size (.int .i64 0) (.int .i64 0) (.string ⟨#[]⟩) (.slice none 0 0) (.slice none 0 0)) W.heap.size 27 blk0.c ∧ Below W.heap.size W (set5 w3 W.heap.size (.int .i64 0) (.int .i64 0) (.string ⟨#[]⟩) (.slice none 0 0) (.slice none 0 0)) := ⟨hZ3.set5 (.int .i64 0) (.int .i64 0) (.string ⟨#[]⟩) (.slice none 0 0) (.slice none 0 0), below_set5 hB3 (Nat.le_refl _) (.int .i64 0) (.int .i64 0) (.string ⟨#[]⟩) (.slice none 0 0) (.slice none 0 0)⟩
    unfold set5 at fin
    have hfin := fun w' e hb hv => gotBlk_err (W := W) (w := w') (e := e) ho (by decide) hb hv
    clear hZ3 hB3 hT3 hX3 hx3
    go_wp2
    refine bodyPost_ret (v := .tuple #[blk0.v, .int .i64 (6 : Int)]) (results_blk_tmp rfl _ _ W.heap.size blk0 rfl fin.1 _ rfl) rfl ?_
    exact hfin _ _ fin.2 rfl
  have hm' : ¬ k2 < s.size - k0 - k1 := by rw [ByteArray.size_extract, ByteArray.size_extract] at hm; omega
  have ho : out = .ok (BlkM.d ⟨(v : Int), x, ca, cl, cc⟩) := hok2.trans (if_neg hm)
  clear hok2
  have z0 := hZ3.cell (i := 0) rfl
  have z1 := hZ3.cell (i := 1) rfl
  have z2 := hZ3.cell (i := 2) rfl
  have z3 := hZ3.cell (i := 3) rfl
  have z4 := hZ3.cell (i := 4) rfl
  have g0 := hZ3.frozen 0
  have g1 := hZ3.frozen 1
  have g2 := hZ3.frozen 2
  have g3 := hZ3.frozen 3
  have g4 := hZ3.frozen 4
  have x0 := hX3.cell (i := 0) rfl
  have x1 := hX3.cell (i := 1) rfl
  have x2 := hX3.cell (i := 2) rfl
  have hZF := hZ3.set5 (.int .i64 (v : Int)) (.int .i64 x.view) (.string x.block) (.slice x.va x.votes.length x.vc) (.slice ca cl.length cc)
  have hBF := below_set5 hB3 (Nat.le_refl _) (.int .i64 (v : Int)) (.int .i64 x.view) (.string x.block) (.slice x.va x.votes.length x.vc) (.slice ca cl.length cc)
  have kF := kept_set5 w3 W.heap.size (.int .i64 (v : Int)) (.int .i64 x.view) (.string x.block) (.slice x.va x.votes.length x.vc) (.slice ca cl.length cc)
  have hxF := Kind.kept qcK hx3 kF (fun b hb e => by have := hxl b hb; have e' : b = W.heap.size := e; omega)
  have hTF := hT3.kept kF (fun b hb e => by have := hTl b hb; have e' : b = W.heap.size := e; omega)
  have fin : ∀ e, e = .returned (.tuple #[BlkM.v ⟨(v : Int), x, ca, cl, cc⟩, .int .i64 0]) → GotBlk W out e _ := fun e hv => ⟨_, 0, hv, ⟨hxF, hTF, hCn⟩, Or.inl ⟨rfl, ho⟩, fun b hb => hb.elim (fun h => by have := hxl b h; omega) (fun h => by have := hTl b h; omega), hBF⟩
  unfold set5 at hZF fin
  clear hZ3 hX3 hx3 hT3 hB3 hBF kF hxF hTF ho
  go_wp2
  refine bodyPost_ret (v := .tuple #[BlkM.v ⟨(v : Int), x, ca, cl, cc⟩, .int .i64 0]) (results_blk_tmp rfl _ _ W.heap.size ⟨(v : Int), x, ca, cl, cc⟩ rfl hZF _ rfl) rfl ?_
  exact fin _ rfl
end Go.Proofs.YtoodapbmpbaogaaDoor
