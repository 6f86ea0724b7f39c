/- tusklaw06.HeaderCuts answers true; nothing old in memory is turned. -/
import Derived.Test.YtjjafbjkagdchaaDoorHdrBackBase
import Derived.Test.YtjjafbjkagdchaaDoorHdrCutMath
namespace Go.Proofs.YtjjafbjkagdchaaDoor
open Go.RowKit
set_option linter.unusedVariables false

/-- A place below k. -/
theorem pick_at (f : Int) (k : Nat) (hk : 0 < k) (hk2 : k < 9223372036854775808) : ∃ j : Nat, j < k ∧ wrap64 ((IntKind.u64.wrap f).tmod (k : Int)) = (j : Int) := by
  obtain ⟨h0, h1⟩ := Mx.u64_range f
  rw [Int.tmod_eq_emod_of_nonneg h0]
  generalize IntKind.u64.wrap f = m at h0 h1
  have hlt := Int.emod_lt_of_pos m (show (0 : Int) < (k : Int) by omega)
  have hge := Int.emod_nonneg m (show (k : Int) ≠ 0 by omega)
  refine ⟨(m % (k : Int)).toNat, by omega, ?_⟩
  rw [Mx.wrap64_small _ hge (by omega)]
  omega

set_option maxRecDepth 100000 in
set_option maxHeartbeats 4000000 in
theorem headerCuts_walk (x : HdrM) (a : Int) (more : ByteArray) (w : World) (hA : x.At w) (hL : x.Lens) (hwf : (Lit.int .i64 a).wf = true) (hs : more.size ≤ 140737488351232) (hG : Mx.Glob w) :
    Calls Tryd.prog 6 #[x.v, .int .i64 a, .string more] w fun e w' => e = .returned (.bool true) ∧ Below w.heap.size w w' := by
  have hX := Arr.new w 25 [.int .i64 x.author, .int .i64 x.round, .slice x.ra x.refs.length x.rc, .slice x.pa x.parents.length x.pc]
  have hB := belowNew w (.cells #[.int .i64 x.author, .int .i64 x.round, .slice x.ra x.refs.length x.rc, .slice x.pa x.parents.length x.pc] 25)
  have cW := works6_any _ (hG.below hB)
  have cG := fun w1 h => great_any x w1 h hL.n' hL.p'
  have cP := fun w1 h => plain_any x w1 h hL.acks' hL.n' hL.p'
  have cO := fun w1 h => own6_any x w1 h hL
  unfold HdrM.v at cG cP cO ⊢
  go_enter Tryd.func6, Tryd.ntmps6
  go_wp2_with fail
  refine cW.mono ?_
  rintro e w1 ⟨rfl, hb1⟩
  have hX1 := hX.below hb1 hX.lt
  have hB1 := hB.trans (hb1.mono hB.size)
  clear hX hB hb1 cW hG
  have x0 := hX1.cell (i := 0) rfl
  have x1 := hX1.cell (i := 1) rfl
  have x2 := hX1.cell (i := 2) rfl
  have x3 := hX1.cell (i := 3) rfl
  go_wp2_with fail
  refine (cG _ (hA.below hB1)).mono ?_
  rintro e w2 ⟨⟨g, rfl⟩, hb2⟩
  have hX2 := hX1.below hb2 hX1.lt
  have hB2 := hB1.trans (hb2.mono hB1.size)
  clear hX1 hB1 hb2 cG x0 x1 x2 x3
  cases g with
  | true =>
    go_wp2
    go_ret
    exact ⟨rfl, hB2⟩
  | false =>
  have x0 := hX2.cell (i := 0) rfl
  have x1 := hX2.cell (i := 1) rfl
  have x2 := hX2.cell (i := 2) rfl
  have x3 := hX2.cell (i := 3) rfl
  go_wp2_with fail
  refine (cP _ (hA.below hB2)).mono ?_
  rintro e w3 ⟨⟨p, rfl, hpp⟩, hb3⟩
  have hX3 := hX2.below hb3 hX2.lt
  have hB3 := hB2.trans (hb3.mono hB2.size)
  clear hX2 hB2 hb3 cP x0 x1 x2 x3
  cases p with
  | false =>
    clear hpp
    go_wp2
    go_ret
    exact ⟨rfl, hB3⟩
  | true =>
  by_cases h100 : (100 : Int) < (more.size : Int)
  · clear hpp
    go_wp2
    go_ret
    exact ⟨rfl, hB3⟩
  have d100 : decide ((100 : Int) < (more.size : Int)) = false := decide_eq_false h100
  have hfit := hpp.1 rfl
  clear hpp
  have x0 := hX3.cell (i := 0) rfl
  have x1 := hX3.cell (i := 1) rfl
  have x2 := hX3.cell (i := 2) rfl
  have x3 := hX3.cell (i := 3) rfl
  go_wp2_with fail
  refine (cO _ (hA.below hB3)).mono ?_
  rintro e w4 ⟨y, rfl, hyd, hy, hyf, hb4⟩
  have hX4 := hX3.below hb4 hX3.lt
  have hB4 := hB3.trans (hb4.mono hB3.size)
  clear hX3 hB3 hb4 cO x0 x1 x2 x3 hyf
  have hyfit : y.d.Fit := by rw [hyd]; exact hfit
  have cE := hdrEncode_any y w4 hy (hdrFit_of hyfit)
  have hel := encH_fit hyfit
  have hpos : 0 < (encH y.d).length := by
    have := preH_ne y y.refs.length (by have := (fit_lens hyfit).1; omega)
    rw [encH_eq, List.length_append]
    have := List.length_pos_iff.2 this
    omega
  have hcut := fun j hj => decH_cut hyfit j hj
  have hdec := decH_enc hyfit more.data.toList
  obtain ⟨eb, heb⟩ : ∃ q, q = (⟨(encH y.d).toArray⟩ : ByteArray) := ⟨_, rfl⟩
  have hesz : eb.size = (encH y.d).length := by rw [heb, size_mk]
  have hebl : eb.data.toList = encH y.d := by rw [heb]
  have hes : eb.size ≤ 1000000 := by omega
  have hep : 0 < eb.size := by omega
  have hem : eb.toList.isEmpty = false := by
    rw [ByteArray.toList_eq, hebl]
    cases hh : encH y.d with
    | nil => rw [hh] at hpos; simp at hpos
    | cons _ _ => rfl
  obtain ⟨j, hj, hjw⟩ := pick_at a eb.size hep (by omega)
  have hjI : (j : Int) ≤ (eb.size : Int) := by omega
  have cF := fun w1 => hdrDecode_any (eb.extract 0 j) w1 (by rw [ByteArray.size_extract]; unfold maxLen; omega)
  have hexl : (eb.extract 0 j).data.toList = (encH y.d).take j := by rw [← hebl]; simp
  rw [hexl, hcut j (by omega)] at cF
  have cM := fun w1 => hdrDecode_any (eb ++ more) w1 (by rw [ByteArray.size_append]; unfold maxLen; omega)
  have hapl : (eb ++ more).data.toList = encH y.d ++ more.data.toList := by rw [← hebl]; simp
  rw [hapl, hdec] at cM
  have hsum : ¬ (9223372036854775807 < eb.size + more.size) := by omega
  rw [← heb] at cE
  clear heb hexl hapl hcut hdec hel hpos hesz hebl hyfit
  unfold HdrM.v at cE ⊢
  go_wp2_with fail
  refine cE.mono ?_
  rintro e w5 ⟨rfl, hb5⟩
  have hX5 := hX4.below hb5 hX4.lt
  have hB5 := hB4.trans (hb5.mono hB4.size)
  clear hX4 hB4 hb5 cE hy
  go_wp2_with fail
  refine (cF _).mono ?_
  rintro e w6 ⟨v, er, rfl, hv, hres, hvf, hb6⟩
  obtain ⟨rfl, rfl⟩ : er = 1 ∧ v = hdr0 := by
    rcases hres with ⟨h1, h2⟩ | ⟨h1, h2, h3⟩
    · cases h2
    · simp at h2
      exact ⟨h2.symm, h3⟩
  have hbx := belowNew w6 (.cells #[.int .i64 0, .int .i64 0, .slice none 0 0, .slice none 0 0] 25)
  have hX6 := (hX5.below hb6 hX5.lt).below hbx (hX5.below hb6 hX5.lt).lt
  have hB6 := hB5.trans (hb6.mono hB5.size)
  have hB7 := hB6.trans (hbx.mono hB6.size)
  clear hX5 hB5 hb6 cF hv hvf hres hbx hB6
  unfold HdrM.v hdr0
  simp only [List.length_nil]
  go_wp2_with fail
  refine (cM _).mono ?_
  rintro e w7 ⟨z, er, rfl, hz, hres, hzf, hb7⟩
  have hbx := belowNew w7 (.cells #[.int .i64 z.author, .int .i64 z.round, .slice z.ra z.refs.length z.rc, .slice z.pa z.parents.length z.pc] 25)
  have hZ8 := Arr.new w7 25 [.int .i64 z.author, .int .i64 z.round, .slice z.ra z.refs.length z.rc, .slice z.pa z.parents.length z.pc]
  have hX7 := hX6.below hb7 hX6.lt
  have hX8 := hX7.below hbx hX7.lt
  have hB8 := hB7.trans (hb7.mono hB7.size)
  have hB9 := hB8.trans (hbx.mono hB8.size)
  have hz8 := hz.below hbx
  clear hX6 hX7 hB7 hB8 hb7 cM hz hzf hbx
  unfold HdrM.v
  by_cases hm : more.data.toList = []
  · rw [if_pos hm] at hres
    obtain ⟨rfl, hzd⟩ : er = 0 ∧ z.d = x.d := by
      rcases hres with ⟨h1, h2⟩ | ⟨h1, h2, _⟩
      · simp at h2
        exact ⟨h1, by rw [← h2, hyd]⟩
      · cases h2
    have hme : more.toList.isEmpty = true := by rw [ByteArray.toList_eq, hm]; rfl
    have hfl := fit_lens (x := z) (by rw [hzd]; exact hfit)
    have cS := sameH_any z x _ hz8 (hA.below hB9) hzd (by omega) (by omega) (fun q hq => by have := hfl.2.2 q hq; omega)
    unfold HdrM.v at cS
    clear hres hfl hz8 hyd hfit hm
    have x0 := hX8.cell (i := 0) rfl
    have x1 := hX8.cell (i := 1) rfl
    have x2 := hX8.cell (i := 2) rfl
    have x3 := hX8.cell (i := 3) rfl
    have z0 := hZ8.cell (i := 0) rfl
    have z1 := hZ8.cell (i := 1) rfl
    have z2 := hZ8.cell (i := 2) rfl
    have z3 := hZ8.cell (i := 3) rfl
    go_wp2_with fail
    refine cS.mono ?_
    rintro e w8 ⟨rfl, hb8⟩
    have hBF := hB9.trans (hb8.mono hB9.size)
    clear hX8 hZ8 hB9 hb8 cS x0 x1 x2 x3 z0 z1 z2 z3
    go_wp2
    go_ret
    exact ⟨rfl, hBF⟩
  · rw [if_neg hm] at hres
    obtain ⟨rfl, rfl⟩ : er = 6 ∧ z = hdr0 := by
      rcases hres with ⟨h1, h2⟩ | ⟨h1, h2, h3⟩
      · cases h2
      · simp at h2
        exact ⟨h2.symm, h3⟩
    have hme : more.toList.isEmpty = false := by rw [ByteArray.toList_eq]; simpa using hm
    clear hres hz8 hyd hfit hm hX8 hZ8
    go_wp2
    go_ret
    exact ⟨rfl, hB9⟩
end Go.Proofs.YtjjafbjkagdchaaDoor
