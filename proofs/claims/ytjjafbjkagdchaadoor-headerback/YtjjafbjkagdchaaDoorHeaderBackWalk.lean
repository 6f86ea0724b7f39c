/- tusklaw06.HeaderBack answers true; nothing old in memory is turned. -/
import Derived.Test.YtjjafbjkagdchaaDoorHdrBackBase
namespace Go.Proofs.YtjjafbjkagdchaaDoor
open Go.RowKit
set_option linter.unusedVariables false

set_option maxRecDepth 100000 in
set_option maxHeartbeats 4000000 in
theorem headerBack_walk (x : HdrM) (s : ByteArray) (w : World) (hA : x.At w) (hL : x.Lens) (hs : s.size ≤ 140737488351232) (hG : Mx.Glob w) :
    Calls Tryd.prog 4 #[x.v, .string s] w fun e w' => e = .returned (.bool true) ∧ Below w.heap.size w w' := by
  have hX := Arr.new w 25 [.int .i64 x.author, .int .i64 x.round, .slice x.ra x.refs.length x.rc, .slice x.pa x.parents.length x.pc]
  have hB := belowNew w (.cells #[.int .i64 x.author, .int .i64 x.round, .slice x.ra x.refs.length x.rc, .slice x.pa x.parents.length x.pc] 25)
  have cW := works6_any _ (hG.below hB)
  have cG := fun w1 h => great_any x w1 h hL.n' hL.p'
  have cP := fun w1 h => plain_any x w1 h hL.acks' hL.n' hL.p'
  have cO := fun w1 h => own6_any x w1 h hL
  unfold HdrM.v at cG cP cO ⊢
  go_enter Tryd.func4, Tryd.ntmps4
  go_wp2_with fail
  refine cW.mono ?_
  rintro e w1 ⟨rfl, hb1⟩
  have hX1 := hX.below hb1 hX.lt
  have hB1 := hB.trans (hb1.mono hB.size)
  clear hX hB hb1 cW hG
  by_cases h1 : (20000 : Int) < (s.size : Int)
  · go_wp2
    go_ret
    exact ⟨rfl, hB1⟩
  have d1 : decide ((20000 : Int) < (s.size : Int)) = false := decide_eq_false h1
  have hmx : s.size ≤ maxLen := by unfold maxLen; omega
  have x0 := hX1.cell (i := 0) rfl
  have x1 := hX1.cell (i := 1) rfl
  have x2 := hX1.cell (i := 2) rfl
  have x3 := hX1.cell (i := 3) rfl
  go_wp2_with fail
  refine (cG _ (hA.below hB1)).mono ?_
  rintro e w2 ⟨⟨g, rfl⟩, hb2⟩
  have hX2 := hX1.below hb2 hX1.lt
  have hB2 := hB1.trans (hb2.mono hB1.size)
  clear hX1 hB1 hb2 cG x0 x1 x2 x3
  cases g with
  | true =>
    go_wp2
    go_ret
    exact ⟨rfl, hB2⟩
  | false =>
  have x0 := hX2.cell (i := 0) rfl
  have x1 := hX2.cell (i := 1) rfl
  have x2 := hX2.cell (i := 2) rfl
  have x3 := hX2.cell (i := 3) rfl
  have cD := fun w1 => hdrDecode_any s w1 hmx
  have Hback : Hid (∀ (v : HdrM), decH s.data.toList = .ok v.d → v.d.Fit ∧ (⟨(encH v.d).toArray⟩ : ByteArray) = s) := fun v hv => by
    have := encH_dec hv
    exact ⟨this.2, by rw [this.1, mk_list]⟩
  generalize decH s.data.toList = r at cD Hback
  go_wp2_with fail
  refine (cP _ (hA.below hB2)).mono ?_
  rintro e w3 ⟨⟨p, rfl, hpp⟩, hb3⟩
  have hX3 := hX2.below hb3 hX2.lt
  have hB3 := hB2.trans (hb3.mono hB2.size)
  clear hX2 hB2 hb3 cP x0 x1 x2 x3
  have x0 := hX3.cell (i := 0) rfl
  have x1 := hX3.cell (i := 1) rfl
  have x2 := hX3.cell (i := 2) rfl
  have x3 := hX3.cell (i := 3) rfl
  -- the end, from a world behind the first part
  cases p with
  | false =>
    clear hpp cO
    go_wp2_with fail
    refine (cD _).mono ?_
    rintro e w8 ⟨v, er, rfl, hv, hres, hvf, hb8⟩
    have hB8 := hB3.trans (hb8.mono hB3.size)
    clear hX3 hB3 hb8 cD hvf
    unfold HdrM.v
    rcases hres with ⟨rfl, hres⟩ | ⟨her, hres, rfl⟩
    · obtain ⟨hvfit, hve⟩ := Hback.out v hres
      have hbx := belowNew w8 (.cells #[.int .i64 v.author, .int .i64 v.round, .slice v.ra v.refs.length v.rc, .slice v.pa v.parents.length v.pc] 25)
      have hV9 := Arr.new w8 25 [.int .i64 v.author, .int .i64 v.round, .slice v.ra v.refs.length v.rc, .slice v.pa v.parents.length v.pc]
      have hB9 := hB8.trans (hbx.mono hB8.size)
      have hv9 := hv.below hbx
      have cE := hdrEncode_any v _ hv9 (hdrFit_of hvfit)
      have hfl := fit_lens hvfit
      have cP := fun w1 h => plain_any v w1 h (fun r hr => by have := hfl.2.2 r hr; unfold maxLen; omega) (by unfold maxLen; omega) (by unfold maxLen; omega)
      rw [hve] at cE
      clear hbx hB8 hv hres hve Hback hfl
      unfold HdrM.v at cE cP
      have v0 := hV9.cell (i := 0) rfl
      have v1 := hV9.cell (i := 1) rfl
      have v2 := hV9.cell (i := 2) rfl
      have v3 := hV9.cell (i := 3) rfl
      go_wp2_with fail
      refine cE.mono ?_
      rintro e w9 ⟨rfl, hb9⟩
      have hV10 := hV9.below hb9 hV9.lt
      have hB10 := hB9.trans (hb9.mono hB9.size)
      have hv10 := hv9.below hb9
      clear hV9 hB9 hv9 hb9 cE v0 v1 v2 v3
      have v0 := hV10.cell (i := 0) rfl
      have v1 := hV10.cell (i := 1) rfl
      have v2 := hV10.cell (i := 2) rfl
      have v3 := hV10.cell (i := 3) rfl
      go_wp2_with fail
      refine (cP _ hv10).mono ?_
      rintro e w10 ⟨⟨q, rfl, hqq⟩, hb10⟩
      have hBF := hB10.trans (hb10.mono hB10.size)
      obtain rfl : q = true := hqq.2 hvfit
      clear hV10 hB10 hv10 hb10 cP v0 v1 v2 v3 hqq
      go_wp2
      go_ret
      exact ⟨rfl, hBF⟩
    · have her' : ((er : Int) != 0) = true := by rw [bne_iff_ne]; omega
      have hbx := belowNew w8 (.cells #[.int .i64 0, .int .i64 0, .slice none 0 0, .slice none 0 0] 25)
      have hV9 := Arr.new w8 25 [.int .i64 0, .int .i64 0, .slice none 0 0, .slice none 0 0]
      have hB9 := hB8.trans (hbx.mono hB8.size)
      have cS := sameH_any hdr0 hdr0 _ (hdr0_at _) (hdr0_at (w8.alloc (.cells #[.int .i64 0, .int .i64 0, .slice none 0 0, .slice none 0 0] 25))) rfl (by simp [hdr0]) (by simp [hdr0]) (by simp [hdr0])
      unfold HdrM.v hdr0 at cS
      unfold hdr0
      simp only [List.length_nil] at cS ⊢
      clear hbx hB8 hv hres Hback her
      have v0 := hV9.cell (i := 0) rfl
      have v1 := hV9.cell (i := 1) rfl
      have v2 := hV9.cell (i := 2) rfl
      have v3 := hV9.cell (i := 3) rfl
      go_wp2_with fail
      refine cS.mono ?_
      rintro e w9 ⟨rfl, hb9⟩
      have hBF := hB9.trans (hb9.mono hB9.size)
      clear hV9 hB9 hb9 cS v0 v1 v2 v3
      go_wp2
      go_ret
      exact ⟨rfl, hBF⟩
  | true =>
    have hfit := hpp.1 rfl
    clear hpp
    go_wp2_with fail
    refine (cO _ (hA.below hB3)).mono ?_
    rintro e w4 ⟨y, rfl, hyd, hy, hyf, hb4⟩
    have hX4 := hX3.below hb4 hX3.lt
    have hB4 := hB3.trans (hb4.mono hB3.size)
    clear hX3 hB3 hb4 cO x0 x1 x2 x3 hyf
    have hyfit : y.d.Fit := by rw [hyd]; exact hfit
    have cE := hdrEncode_any y w4 hy (hdrFit_of hyfit)
    have hel := encH_fit hyfit
    have hdec := decH_enc hyfit []
    rw [if_pos rfl, List.append_nil] at hdec
    obtain ⟨eb, heb⟩ : ∃ q, q = (⟨(encH y.d).toArray⟩ : ByteArray) := ⟨_, rfl⟩
    have hes : eb.size ≤ maxLen := by rw [heb, size_mk]; unfold maxLen; omega
    have cF := fun w1 => hdrDecode_any eb w1 hes
    have hebl : eb.data.toList = encH y.d := by rw [heb]
    rw [hebl, hdec] at cF
    rw [← heb] at cE
    clear heb hes hebl hdec hel hyfit
    unfold HdrM.v at cE ⊢
    go_wp2_with fail
    refine cE.mono ?_
    rintro e w5 ⟨rfl, hb5⟩
    have hX5 := hX4.below hb5 hX4.lt
    have hB5 := hB4.trans (hb5.mono hB4.size)
    clear hX4 hB4 hb5 cE hy
    go_wp2_with fail
    refine (cF _).mono ?_
    rintro e w6 ⟨z, er, rfl, hz, hres, hzf, hb6⟩
    obtain ⟨rfl, hzd⟩ : er = 0 ∧ z.d = x.d := by
      rcases hres with ⟨h1, h2⟩ | ⟨h1, h2, _⟩
      · simp at h2
        exact ⟨h1, by rw [← h2, hyd]⟩
      · cases h2
    have hX6 := hX5.below hb6 hX5.lt
    have hB6 := hB5.trans (hb6.mono hB5.size)
    have hbx := belowNew w6 (.cells #[.int .i64 z.author, .int .i64 z.round, .slice z.ra z.refs.length z.rc, .slice z.pa z.parents.length z.pc] 25)
    have hZ7 := Arr.new w6 25 [.int .i64 z.author, .int .i64 z.round, .slice z.ra z.refs.length z.rc, .slice z.pa z.parents.length z.pc]
    have hX7 := hX6.below hbx hX6.lt
    have hB7 := hB6.trans (hbx.mono hB6.size)
    have hz7 := hz.below hbx
    have hfl := fit_lens (x := z) (by rw [hzd]; exact hfit)
    have cS := sameH_any z x _ hz7 (hA.below hB7) hzd (by omega) (by omega) (fun q hq => by have := hfl.2.2 q hq; omega)
    clear hX5 hB5 hb6 cF hres hzf hX6 hB6 hbx hz hz7 hfl hyd hfit
    unfold HdrM.v at cS ⊢
    have x0 := hX7.cell (i := 0) rfl
    have x1 := hX7.cell (i := 1) rfl
    have x2 := hX7.cell (i := 2) rfl
    have x3 := hX7.cell (i := 3) rfl
    have z0 := hZ7.cell (i := 0) rfl
    have z1 := hZ7.cell (i := 1) rfl
    have z2 := hZ7.cell (i := 2) rfl
    have z3 := hZ7.cell (i := 3) rfl
    go_wp2_with fail
    refine cS.mono ?_
    rintro e w3 ⟨rfl, hb8⟩
    have hX3 := hX7.below hb8 hX7.lt
    have hB3 := hB7.trans (hb8.mono hB7.size)
    clear hX7 hB7 hZ7 hb8 cS x0 x1 x2 x3 z0 z1 z2 z3 hzd
    go_wp2_with fail
    refine (cD _).mono ?_
    rintro e w8 ⟨v, er, rfl, hv, hres, hvf, hb8⟩
    have hB8 := hB3.trans (hb8.mono hB3.size)
    clear hX3 hB3 hb8 cD hvf
    unfold HdrM.v
    rcases hres with ⟨rfl, hres⟩ | ⟨her, hres, rfl⟩
    · obtain ⟨hvfit, hve⟩ := Hback.out v hres
      have hbx := belowNew w8 (.cells #[.int .i64 v.author, .int .i64 v.round, .slice v.ra v.refs.length v.rc, .slice v.pa v.parents.length v.pc] 25)
      have hV9 := Arr.new w8 25 [.int .i64 v.author, .int .i64 v.round, .slice v.ra v.refs.length v.rc, .slice v.pa v.parents.length v.pc]
      have hB9 := hB8.trans (hbx.mono hB8.size)
      have hv9 := hv.below hbx
      have cE := hdrEncode_any v _ hv9 (hdrFit_of hvfit)
      have hfl := fit_lens hvfit
      have cP := fun w1 h => plain_any v w1 h (fun r hr => by have := hfl.2.2 r hr; unfold maxLen; omega) (by unfold maxLen; omega) (by unfold maxLen; omega)
      rw [hve] at cE
      clear hbx hB8 hv hres hve Hback hfl
      unfold HdrM.v at cE cP
      have v0 := hV9.cell (i := 0) rfl
      have v1 := hV9.cell (i := 1) rfl
      have v2 := hV9.cell (i := 2) rfl
      have v3 := hV9.cell (i := 3) rfl
      go_wp2_with fail
      refine cE.mono ?_
      rintro e w9 ⟨rfl, hb9⟩
      have hV10 := hV9.below hb9 hV9.lt
      have hB10 := hB9.trans (hb9.mono hB9.size)
      have hv10 := hv9.below hb9
      clear hV9 hB9 hv9 hb9 cE v0 v1 v2 v3
      have v0 := hV10.cell (i := 0) rfl
      have v1 := hV10.cell (i := 1) rfl
      have v2 := hV10.cell (i := 2) rfl
      have v3 := hV10.cell (i := 3) rfl
      go_wp2_with fail
      refine (cP _ hv10).mono ?_
      rintro e w10 ⟨⟨q, rfl, hqq⟩, hb10⟩
      have hBF := hB10.trans (hb10.mono hB10.size)
      obtain rfl : q = true := hqq.2 hvfit
      clear hV10 hB10 hv10 hb10 cP v0 v1 v2 v3 hqq
      go_wp2
      go_ret
      exact ⟨rfl, hBF⟩
    · have her' : ((er : Int) != 0) = true := by rw [bne_iff_ne]; omega
      have hbx := belowNew w8 (.cells #[.int .i64 0, .int .i64 0, .slice none 0 0, .slice none 0 0] 25)
      have hV9 := Arr.new w8 25 [.int .i64 0, .int .i64 0, .slice none 0 0, .slice none 0 0]
      have hB9 := hB8.trans (hbx.mono hB8.size)
      have cS := sameH_any hdr0 hdr0 _ (hdr0_at _) (hdr0_at (w8.alloc (.cells #[.int .i64 0, .int .i64 0, .slice none 0 0, .slice none 0 0] 25))) rfl (by simp [hdr0]) (by simp [hdr0]) (by simp [hdr0])
      unfold HdrM.v hdr0 at cS
      unfold hdr0
      simp only [List.length_nil] at cS ⊢
      clear hbx hB8 hv hres Hback her
      have v0 := hV9.cell (i := 0) rfl
      have v1 := hV9.cell (i := 1) rfl
      have v2 := hV9.cell (i := 2) rfl
      have v3 := hV9.cell (i := 3) rfl
      go_wp2_with fail
      refine cS.mono ?_
      rintro e w9 ⟨rfl, hb9⟩
      have hBF := hB9.trans (hb9.mono hB9.size)
      clear hV9 hB9 hb9 cS v0 v1 v2 v3
      go_wp2
      go_ret
      exact ⟨rfl, hBF⟩
end Go.Proofs.YtjjafbjkagdchaaDoor
