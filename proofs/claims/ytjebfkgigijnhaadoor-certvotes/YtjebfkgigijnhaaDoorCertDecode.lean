/- What cert.Decode does; nothing old in memory is turned. -/
import Derived.Test.YtjebfkgigijnhaaDoorCertRows
import Derived.Test.YtjebfkgigijnhaaDoorHdrDecode
namespace Go.Proofs.YtjebfkgigijnhaaDoor
open Go.RowKit
set_option linter.unusedVariables false

theorem results_cert_tmp {fn : Func} {p u : Tmp} (h : fn.results = #[.cell p 28, .tmp u]) (tmps : Array Value) (w : World) (g : Nat) (x : CertM)
    (hp : tmps.getD p undef = .pointer (some ⟨g, 0, none⟩)) (hg : Arr w g 28 x.c) (v : Value) (hv : tmps.getD u undef = v) :
    (results fn tmps).run Tryd.prog w = .ok (.tuple #[x.v, v]) w := by
  rw [results_cell_tmp h, hp, hv]
  have hl := run_loadVar_row w g 28 28 x.c.toArray (0, 0) _ hg Tryd.underlying28 rfl infoCert7
  simp [asAddr, hl, CertM.v, CertM.c, Result.andThen]

/-- Decode hands back a certificate and an error. -/
def GotCert (W : World) (r : Except Nat CertD) (e : Ending) (w : World) : Prop :=
  ∃ (x : CertM) (er : Nat), e = .returned (.tuple #[x.v, .int .i64 (er : Int)]) ∧ x.At w ∧ ((er = 0 ∧ r = .ok x.d) ∨ (er ≠ 0 ∧ r = .error er ∧ x = cert0)) ∧ (∀ b, x.foot b → W.heap.size ≤ b) ∧ Below W.heap.size W w

theorem gotCert_err {W w : World} {r : Except Nat CertD} {er : Nat} (h : r = .error er) (he : er ≠ 0) (hb : Below W.heap.size W w) (e : Ending) (hv : e = .returned (.tuple #[cert0.v, .int .i64 (er : Int)])) : GotCert W r e w :=
  ⟨cert0, er, hv, cert0_at _, Or.inr ⟨he, h, rfl⟩, fun b hb => hb.elim (fun h => h.elim (fun h => (nil_foot h).elim) (fun h => (nil_foot h).elim)) (fun h => (nil_foot h).elim), hb⟩

/-- The text and what is behind it. -/
theorem decC_step {l t : List UInt8} {k : Nat} (h : getText l = (t, k, 0)) : decC l = match decH t with
    | .error e => .error e
    | .ok x => rdG (l.drop k) fun v l => if l ≠ [] then .error 6 else .ok ⟨x, v⟩ := by
  unfold decC
  rw [rdT_ok h]
  cases decH t <;> rfl

set_option maxRecDepth 100000 in
set_option maxHeartbeats 2000000 in
theorem certDecode_any (s : ByteArray) (W : World) (hs : s.size ≤ maxLen) :
    Calls Tryd.prog 31 #[.string s] W fun e w' => GotCert W (decC s.data.toList) e w' := by
  have hZ := Arr.new W 28 [.int .i64 0, .int .i64 0, .slice none 0 0, .slice none 0 0, .slice none 0 0]
  have hB := belowNew W (.cells #[.int .i64 0, .int .i64 0, .slice none 0 0, .slice none 0 0, .slice none 0 0] 28)
  rcases hr : getText s.data.toList with ⟨t, k, er⟩
  have cG := fun w1 => getText_at s w1 t k er hs hr
  by_cases he : er ≠ 0
  · have ho : decC s.data.toList = .error er := by unfold decC; exact rdT_err hr he
    have hne : ((er : Int) != 0) = true := by rw [bne_iff_ne]; omega
    generalize decC s.data.toList = out at ho
    clear hr
    go_enter Tryd.func31, Tryd.ntmps31
    go_wp2_with fail
    refine (cG _).mono ?_
    rintro e w1 ⟨rfl, rfl⟩
    have z0 := hZ.cell (i := 0) rfl
    have z1 := hZ.cell (i := 1) rfl
    have z2 := hZ.cell (i := 2) rfl
    have z3 := hZ.cell (i := 3) rfl
    have z4 := hZ.cell (i := 4) rfl
    have g0 := hZ.frozen 0
    have g1 := hZ.frozen 1
    have g2 := hZ.frozen 2
    have g3 := hZ.frozen 3
    have g4 := hZ.frozen 4
    have fin : Arr _ W.heap.size 28 cert0.c ∧ Below W.heap.size W _ := ⟨hZ, hB⟩
    have hfin := fun w' e hb hv => gotCert_err (W := W) (w := w') (e := e) ho he hb hv
    clear hZ hB cG
    go_wp2
    refine bodyPost_ret (v := .tuple #[cert0.v, .int .i64 (er : Int)]) (results_cert_tmp rfl _ _ W.heap.size cert0 rfl fin.1 _ rfl) rfl ?_
    exact hfin _ _ fin.2 rfl
  replace he : er = 0 := by omega
  subst he
  have hl : s.data.toList.length = s.size := by simp
  have hbd := getText_bounds _ t k hr
  have hk : (k : Int) ≤ s.size := by omega
  have ht6 : (⟨t.toArray⟩ : ByteArray).size ≤ maxLen := by rw [size_mk]; unfold maxLen; omega
  have cH := fun w1 => hdrDecode_any ⟨t.toArray⟩ w1 ht6
  have hrl := rest_le s k hs
  have cT := fun w1 => getTags_any (s.extract k s.size) w1 hrl
  have hst := decC_step hr
  have hdl : (s.extract k s.size).data.toList = s.data.toList.drop k := extract_drop _ _
  rw [← hdl] at hst
  obtain ⟨rs, hrs⟩ : ∃ q, q = s.extract k s.size := ⟨_, rfl⟩
  obtain ⟨tb, htb⟩ : ∃ q, q = (⟨t.toArray⟩ : ByteArray) := ⟨_, rfl⟩
  have hrsz : rs.size = s.size - k := by rw [hrs, ByteArray.size_extract]; omega
  rw [← hrs] at cT hst
  rw [← htb] at cH cG
  have htd : tb.data.toList = t := by rw [htb]
  rw [htd] at cH
  obtain ⟨out, hout⟩ : ∃ q, q = decC s.data.toList := ⟨_, rfl⟩
  rw [← hout] at hst ⊢
  generalize decH t = dh at cH hst
  have Hst : Hid _ := hst
  have Hrs : Hid (rs = s.extract k s.size) := hrs
  clear hr hl hbd ht6 hrl hdl htb htd hout hst
  go_enter Tryd.func31, Tryd.ntmps31
  go_wp2_with fail
  refine (cG _).mono ?_
  rintro e w1 ⟨rfl, rfl⟩
  clear cG
  go_wp2_with fail
  refine (cH _).mono ?_
  rintro e w1 ⟨x, e1, rfl, hx, hres, hxf, hb1⟩
  unfold HdrM.v
  have hZ1 := hZ.below hb1 hZ.lt
  have hB1 := hB.trans (hb1.mono hB.size)
  have hbx := belowNew w1 (.cells #[.int .i64 x.author, .int .i64 x.round, .slice x.ra x.refs.length x.rc, .slice x.pa x.parents.length x.pc] 25)
  have hX2 := Arr.new w1 25 [.int .i64 x.author, .int .i64 x.round, .slice x.ra x.refs.length x.rc, .slice x.pa x.parents.length x.pc]
  have hZ2 := hZ1.below hbx hZ1.lt
  have hB2 := hB1.trans (hbx.mono hB1.size)
  have hx2 := hx.below hbx
  have hxl : ∀ b, x.foot b → W.heap.size < b := fun b hb => by have := hxf b hb; rw [alloc_size] at this; omega
  have hw1 : W.heap.size < w1.heap.size := hZ1.lt
  clear hZ hB hb1 hbx hZ1 hB1 hx hxf cH
  obtain ⟨w2, hw2⟩ : ∃ q, w1.alloc (.cells #[.int .i64 x.author, .int .i64 x.round, .slice x.ra x.refs.length x.rc, .slice x.pa x.parents.length x.pc] 25) = q := ⟨_, rfl⟩
  rw [hw2] at hX2 hZ2 hB2 hx2
  by_cases he1 : e1 ≠ 0
  · have hne : ((e1 : Int) != 0) = true := by rw [bne_iff_ne]; omega
    have ho : out = .error e1 := by
      rcases hres with ⟨h, _⟩ | ⟨_, h, _⟩
      · exact absurd h he1
      · have := Hst.out
        rw [h] at this
        exact this
    clear Hst hres
    have z0 := hZ2.cell (i := 0) rfl
    have z1 := hZ2.cell (i := 1) rfl
    have z2 := hZ2.cell (i := 2) rfl
    have z3 := hZ2.cell (i := 3) rfl
    have z4 := hZ2.cell (i := 4) rfl
    have g0 := hZ2.frozen 0
    have g1 := hZ2.frozen 1
    have g2 := hZ2.frozen 2
    have g3 := hZ2.frozen 3
    have g4 := hZ2.frozen 4
    have fin : Arr (set5 w2 W.heap.size (.int .i64 0) (.int .i64 0) (.slice none 0 0) (.slice none 0 0) (.slice none 0 0)) W.heap.size 28 cert0.c ∧ Below W.heap.size W (set5 w2 W.heap.size (.int .i64 0) (.int .i64 0) (.slice none 0 0) (.slice none 0 0) (.slice none 0 0)) := ⟨hZ2.set5 (.int .i64 0) (.int .i64 0) (.slice none 0 0) (.slice none 0 0) (.slice none 0 0), below_set5 hB2 (Nat.le_refl _) (.int .i64 0) (.int .i64 0) (.slice none 0 0) (.slice none 0 0) (.slice none 0 0)⟩
    unfold set5 at fin
    have hfin := fun w' e hb hv => gotCert_err (W := W) (w := w') (e := e) ho he1 hb hv
    clear hZ2 hB2 hX2 hx2 cT
    go_wp2
    refine bodyPost_ret (v := .tuple #[cert0.v, .int .i64 (e1 : Int)]) (results_cert_tmp rfl _ _ W.heap.size cert0 rfl fin.1 _ rfl) rfl ?_
    exact hfin _ _ fin.2 rfl
  replace he1 : e1 = 0 := by omega
  subst he1
  have hst : out = rdG rs.data.toList fun v l => if l ≠ [] then .error 6 else .ok ⟨x.d, v⟩ := by
    rcases hres with ⟨_, h⟩ | ⟨h, _⟩
    · have := Hst.out
      rw [h] at this
      exact this
    · exact absurd rfl h
  clear Hst hres
  rcases hg : getTagsL rs.data.toList with ⟨ts, k2, e2⟩
  rw [hg] at cT
  have hrl : rs.data.toList.length = rs.size := by simp
  have hb7 : Hid (e2 = 0 → ts.length ≤ 7) := fun h => by subst h; exact (getTags_back hg).2.2.2.1
  have hok : Hid (out = if e2 ≠ 0 then .error e2 else if k2 < rs.size then .error 6 else .ok ⟨x.d, ts⟩) := by
    show _ = _
    by_cases h : e2 ≠ 0
    · rw [hst, rdG_err hg h, if_pos h]
    · have h0 : e2 = 0 := by omega
      subst h0
      rw [hst, rdG_ok hg, if_neg h]
      by_cases h2 : k2 < rs.size
      · rw [if_pos h2, if_pos]
        intro h3
        have := congrArg List.length h3
        rw [List.length_drop, hrl] at this
        simp at this
        omega
      · rw [if_neg h2, if_neg]
        intro h3
        exact h3 (List.drop_of_length_le (by omega))
  clear hst hg
  have hrs := Hrs.out
  subst hrs
  go_wp2_with fail
  refine (cT _).mono ?_
  rintro e w3 ⟨ts', k2', e2', va, vc, rfl, heq, hT3, hTn, hTf, hb3⟩
  simp only [Prod.mk.injEq] at heq
  obtain ⟨rfl, rfl, rfl⟩ := heq
  have hZ3 := hZ2.below hb3 hZ2.lt
  have hX3 := hX2.below hb3 hX2.lt
  have hx3 := hx2.below hb3
  have hB3 := hB2.trans (hb3.mono hB2.size)
  have hw2z := hX2.lt
  have hTl : ∀ b, rowFoot tagK va ts b → W.heap.size < b := fun b hb => by have := hTf b hb; omega
  clear hZ2 hX2 hx2 hB2 hb3 cT hTf hw2
  by_cases he2 : e2 ≠ 0
  · have hne : ((e2 : Int) != 0) = true := by rw [bne_iff_ne]; omega
    have ho : out = .error e2 := hok.out.trans (if_pos he2)
    clear hok hb7
    have z0 := hZ3.cell (i := 0) rfl
    have z1 := hZ3.cell (i := 1) rfl
    have z2 := hZ3.cell (i := 2) rfl
    have z3 := hZ3.cell (i := 3) rfl
    have z4 := hZ3.cell (i := 4) rfl
    have g0 := hZ3.frozen 0
    have g1 := hZ3.frozen 1
    have g2 := hZ3.frozen 2
    have g3 := hZ3.frozen 3
    have g4 := hZ3.frozen 4
    have fin : Arr (set5 w3 W.heap.size (.int .i64 0) (.int .i64 0) (.slice none 0 0) (.slice none 0 0) (.slice none 0 0)) W.heap.size 28 cert0.c ∧ Below W.heap.size W (set5 w3 W.heap.size (.int .i64 0) (.int .i64 0) (.slice none 0 0) (.slice none 0 0) (.slice none 0 0)) := ⟨hZ3.set5 (.int .i64 0) (.int .i64 0) (.slice none 0 0) (.slice none 0 0) (.slice none 0 0), below_set5 hB3 (Nat.le_refl _) (.int .i64 0) (.int .i64 0) (.slice none 0 0) (.slice none 0 0) (.slice none 0 0)⟩
    unfold set5 at fin
    have hfin := fun w' e hb hv => gotCert_err (W := W) (w := w') (e := e) ho he2 hb hv
    clear hZ3 hB3 hX3 hx3 hT3
    go_wp2
    refine bodyPost_ret (v := .tuple #[cert0.v, .int .i64 (e2 : Int)]) (results_cert_tmp rfl _ _ W.heap.size cert0 rfl fin.1 _ rfl) rfl ?_
    exact hfin _ _ fin.2 rfl
  have hok2 := hok.out.trans (if_neg he2)
  have he20 : e2 = 0 := by omega
  subst he20
  clear hok
  by_cases hm : k2 < (s.extract k s.size).size
  · have hm' : (k2 : Int) < ((s.extract k s.size).size : Int) := by omega
    have ho : out = .error 6 := hok2.trans (if_pos hm)
    clear hok2 hb7
    have z0 := hZ3.cell (i := 0) rfl
    have z1 := hZ3.cell (i := 1) rfl
    have z2 := hZ3.cell (i := 2) rfl
    have z3 := hZ3.cell (i := 3) rfl
    have z4 := hZ3.cell (i := 4) rfl
    have g0 := hZ3.frozen 0
    have g1 := hZ3.frozen 1
    have g2 := hZ3.frozen 2
    have g3 := hZ3.frozen 3
    have g4 := hZ3.frozen 4
    have fin : Arr (set5 w3 W.heap.size (.int .i64 0) (.int .i64 0) (.slice none 0 0) (.slice none 0 0) (.slice none 0 0)) W.heap.size 28 cert0.c ∧ Below W.heap.size W (set5 w3 W.heap.size (.int .i64 0) (.int .i64 0) (.slice none 0 0) (.slice none 0 0) (.slice none 0 0)) := ⟨hZ3.set5 (.int .i64 0) (.int .i64 0) (.slice none 0 0) (.slice none 0 0) (.slice none 0 0), below_set5 hB3 (Nat.le_refl _) (.int .i64 0) (.int .i64 0) (.slice none 0 0) (.slice none 0 0) (.slice none 0 0)⟩
    unfold set5 at fin
    have hfin := fun w' e hb hv => gotCert_err (W := W) (w := w') (e := e) ho (by decide) hb hv
    clear hZ3 hB3 hX3 hx3 hT3
    go_wp2
    refine bodyPost_ret (v := .tuple #[cert0.v, .int .i64 (6 : Int)]) (results_cert_tmp rfl _ _ W.heap.size cert0 rfl fin.1 _ rfl) rfl ?_
    exact hfin _ _ fin.2 rfl
  have hm' : ¬ (k2 : Int) < ((s.extract k s.size).size : Int) := by omega
  have ho : out = .ok (CertM.d ⟨x, va, ts, vc⟩) := hok2.trans (if_neg hm)
  clear hok2 hb7
  have z0 := hZ3.cell (i := 0) rfl
  have z1 := hZ3.cell (i := 1) rfl
  have z2 := hZ3.cell (i := 2) rfl
  have z3 := hZ3.cell (i := 3) rfl
  have z4 := hZ3.cell (i := 4) rfl
  have g0 := hZ3.frozen 0
  have g1 := hZ3.frozen 1
  have g2 := hZ3.frozen 2
  have g3 := hZ3.frozen 3
  have g4 := hZ3.frozen 4
  have x0 := hX3.cell (i := 0) rfl
  have x1 := hX3.cell (i := 1) rfl
  have x2 := hX3.cell (i := 2) rfl
  have x3 := hX3.cell (i := 3) rfl
  have hZF := hZ3.set5 (.int .i64 x.author) (.int .i64 x.round) (.slice x.ra x.refs.length x.rc) (.slice x.pa x.parents.length x.pc) (.slice va ts.length vc)
  have hBF := below_set5 hB3 (Nat.le_refl _) (.int .i64 x.author) (.int .i64 x.round) (.slice x.ra x.refs.length x.rc) (.slice x.pa x.parents.length x.pc) (.slice va ts.length vc)
  have kF := kept_set5 w3 W.heap.size (.int .i64 x.author) (.int .i64 x.round) (.slice x.ra x.refs.length x.rc) (.slice x.pa x.parents.length x.pc) (.slice va ts.length vc)
  have hxF := Kind.kept hdrK hx3 kF (fun b hb e => by have := hxl b hb; have e' : b = W.heap.size := e; omega)
  have hTF := hT3.kept kF (fun b hb e => by have := hTl b hb; have e' : b = W.heap.size := e; omega)
  have fin : ∀ e, e = .returned (.tuple #[CertM.v ⟨x, va, ts, vc⟩, .int .i64 0]) → GotCert W out e _ := fun e hv => ⟨_, 0, hv, ⟨hxF, hTF, hTn⟩, Or.inl ⟨rfl, ho⟩, fun b hb => hb.elim (fun h => by have := hxl b h; omega) (fun h => by have := hTl b h; omega), hBF⟩
  unfold set5 at hZF fin
  clear hZ3 hX3 hx3 hT3 hB3 hBF kF hxF hTF ho
  go_wp2
  refine bodyPost_ret (v := .tuple #[CertM.v ⟨x, va, ts, vc⟩, .int .i64 0]) (results_cert_tmp rfl _ _ W.heap.size ⟨x, va, ts, vc⟩ rfl hZF _ rfl) rfl ?_
  exact fin _ rfl
end Go.Proofs.YtjebfkgigijnhaaDoor
