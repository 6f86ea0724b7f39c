/- tusklaw06.HeaderReads answers true; nothing old in memory is turned. -/
import Derived.Test.YtjjafbjkagdchaaRefHdrDecode
import Derived.Test.YtjjafbjkagdchaaRefHdrSame
import Derived.Test.YtjjafbjkagdchaaHdrOpen
namespace Go.Proofs.Ytjjafbjkagdchaa
open Go.RowKit
set_option linter.unusedVariables false

theorem gotHdr_same {W1 W2 : World} {r : Except Nat HdrD} {x y : HdrM} {e1 e2 : Nat} (h1 : (e1 = 0 ∧ r = .ok x.d) ∨ (e1 ≠ 0 ∧ r = .error e1 ∧ x = hdr0)) (h2 : (e2 = 0 ∧ r = .ok y.d) ∨ (e2 ≠ 0 ∧ r = .error e2 ∧ y = hdr0)) : e1 = e2 ∧ x.d = y.d := by
  rcases h1 with ⟨a1, a2⟩ | ⟨a1, a2, a3⟩
  · rcases h2 with ⟨b1, b2⟩ | ⟨b1, b2, _⟩
    · rw [a2] at b2
      simp at b2
      exact ⟨by omega, b2⟩
    · rw [a2] at b2; cases b2
  · rcases h2 with ⟨b1, b2⟩ | ⟨b1, b2, b3⟩
    · rw [a2] at b2; cases b2
    · rw [a2] at b2
      simp at b2
      exact ⟨b2, by rw [a3, b3]⟩

/-- What is read is short. -/
theorem decH_lens {l : List UInt8} {x : HdrM} {er : Nat} (h : (er = 0 ∧ decH l = .ok x.d) ∨ (er ≠ 0 ∧ decH l = .error er ∧ x = hdr0)) : x.refs.length ≤ 4 ∧ x.parents.length ≤ 7 ∧ ∀ y ∈ x.refs, y.acks.length ≤ 7 := by
  rcases h with ⟨_, h⟩ | ⟨_, _, rfl⟩
  · have hf := (encH_dec h).2
    refine ⟨by have := hf.few; simpa [HdrM.d, rd] using this, hf.ps, fun y hy => ?_⟩
    exact (hf.refs y.d (List.mem_map.2 ⟨y, hy, rfl⟩)).few
  · simp [hdr0]

set_option maxRecDepth 100000 in
set_option maxHeartbeats 4000000 in
theorem headerReads_walk (s : ByteArray) (ao : Option Addr) (cap : Nat) (l : List TagD) (w : World) (hs : s.size ≤ 1048576) (hA : RowAt tagK w ao l) (hbk : tagsBulk l ≤ 1048576) (hnil : ao = none → cap = 0) :
    Calls Try.prog 3 #[.string s, .slice ao l.length cap] w fun e w' => e = .returned (.bool true) ∧ Below w.heap.size w w' := by
  by_cases hl : 20000 < s.size
  · have hl' : (20000 : Int) < s.size := by omega
    go_enter Try.func3, Try.ntmps3
    go_wp2
    go_ret
    exact ⟨rfl, Below.refl _ _⟩
  have hl' : ¬ (20000 : Int) < s.size := by omega
  by_cases hn : 50 < l.length
  · have hn' : (50 : Int) < l.length := by omega
    go_enter Try.func3, Try.ntmps3
    go_wp2
    go_ret
    exact ⟨rfl, Below.refl _ _⟩
  have hn' : ¬ (50 : Int) < l.length := by omega
  obtain ⟨i0, hi, hz0, hz1, hz2⟩ := info_parts infoTag6
  have hmx : s.size ≤ maxLen := by unfold maxLen; omega
  have cA := fun w1 => hdrDecode_any s w1 hmx
  have cB := fun w1 => refHdrDecode_any s w1 hmx
  have cC := fun w1 => getTags_any s w1 hmx
  have cD := fun w1 => refGetTags_any s w1 hmx
  have hlens : Hid (∀ (x : HdrM) (er : Nat), ((er = 0 ∧ decH s.data.toList = .ok x.d) ∨ (er ≠ 0 ∧ decH s.data.toList = .error er ∧ x = hdr0)) → x.refs.length ≤ 4 ∧ x.parents.length ≤ 7 ∧ ∀ y ∈ x.refs, y.acks.length ≤ 7) := fun x er h => decH_lens h
  have htg : Hid (∀ ts k er, getTagsL s.data.toList = (ts, k, er) → ts.length ≤ 7) := by
    intro ts k er h
    by_cases he : er = 0
    · subst he
      exact (getTags_back h).2.2.2.1
    · rw [(getTags_zero h he).1]
      simp
  have hmac : ∀ t ∈ l, t.mac.size ≤ 140737488351232 := fun t ht => by have := tagsBulk_mem ht; omega
  have hlen : (tagsB l).length ≤ 140737488355328 := by have := tagsB_len_le l; omega
  have cT := fun ao cap w1 h => tags_any ao cap l w1 h (by omega) hmac hlen
  have cU := fun w1 h => refTags_any ao cap l w1 h (by omega) hmac hlen
  generalize decH s.data.toList = r at cA cB hlens
  generalize getTagsL s.data.toList = g at cC cD htg
  generalize (⟨(tagsB l).toArray⟩ : ByteArray) = tb at cT cU
  clear hmac hlen hbk
  go_enter Try.func3, Try.ntmps3
  go_wp2_with fail
  refine (cA _).mono ?_
  rintro e w1 ⟨x, er, rfl, hx, hres, hxf, hb1⟩
  have hbx := belowNew w1 (.cells #[.int .i64 x.author, .int .i64 x.round, .slice x.ra x.refs.length x.rc, .slice x.pa x.parents.length x.pc] 26)
  have hX := Arr.new w1 26 [.int .i64 x.author, .int .i64 x.round, .slice x.ra x.refs.length x.rc, .slice x.pa x.parents.length x.pc]
  have hx1 := hx.below hbx
  have hB1 := hb1.trans (hbx.mono hb1.size)
  clear hx hxf hbx hb1 cA
  unfold HdrM.v
  go_wp2_with fail
  refine (cB _).mono ?_
  rintro e w2 ⟨y, er2, rfl, hy, hres2, hyf, hb2⟩
  have hbx := belowNew w2 (.cells #[.int .i64 y.author, .int .i64 y.round, .slice y.ra y.refs.length y.rc, .slice y.pa y.parents.length y.pc] 26)
  have hY := Arr.new w2 26 [.int .i64 y.author, .int .i64 y.round, .slice y.ra y.refs.length y.rc, .slice y.pa y.parents.length y.pc]
  have hb3 := hb2.trans (hbx.mono hb2.size)
  have hX2 := hX.below hb3 hX.lt
  have hx2 := hx1.below hb3
  have hy2 := hy.below hbx
  have hB2 := hB1.trans (hb3.mono hB1.size)
  obtain ⟨hee, hdd⟩ := gotHdr_same (W1 := w1) (W2 := w2) hres hres2
  have hLn := hlens.out x er hres
  subst hee
  clear hy hyf hbx hb2 hb3 cB hX hx1 hB1 hres hres2 hlens
  unfold HdrM.v
  go_wp2_with fail
  refine (cC _).mono ?_
  rintro e w3 ⟨ts, k, e3, ta, tc, rfl, hg, hT, hTn, hTf, hb3⟩
  have hX3 := hX2.below hb3 hX2.lt
  have hY3 := hY.below hb3 hY.lt
  have hx3 := hx2.below hb3
  have hy3 := hy2.below hb3
  have hB3 := hB2.trans (hb3.mono hB2.size)
  have hts := htg.out ts k e3 hg
  clear hb3 cC hX2 hY hx2 hy2 hB2 hTf htg
  go_wp2_with fail
  refine (cD _).mono ?_
  rintro e w4 ⟨ts2, k2, e4, ta2, tc2, rfl, hg2, hT2, hTn2, hTf2, hb4⟩
  rw [hg] at hg2
  simp only [Prod.mk.injEq] at hg2
  obtain ⟨rfl, rfl, rfl⟩ := hg2
  have hX4 := hX3.below hb4 hX3.lt
  have hY4 := hY3.below hb4 hY3.lt
  have hx4 := hx3.below hb4
  have hy4 := hy3.below hb4
  have hT4 := hT.below hb4
  have hB4 := hB3.trans (hb4.mono hB3.size)
  clear hb4 cD hX3 hY3 hx3 hy3 hT hB3 hTf2 hg
  have hbx := belowNew w4 (.cells #[] 52)
  have hown : (w4.alloc (.cells #[] 52)).ownsRow w4.heap.size 52 tagK.n (.slice (some ⟨w4.heap.size, 0, none⟩) 0 0) 0 [] := World.ownsRow_made w4 #[] 0 (Nat.le_refl _) (by unfold maxLen; omega) (by simp)
  have hA5 := hA.below (hB4.trans (hbx.mono hB4.size))
  have hX5 := hX4.below hbx hX4.lt
  have hY5 := hY4.below hbx hY4.lt
  have hx5 := hx4.below hbx
  have hy5 := hy4.below hbx
  have hT5 := hT4.below hbx
  have hT25 := hT2.below hbx
  have hB5 := hB4.trans (hbx.mono hB4.size)
  have hz4 := hB4.size
  have h50 : l.length ≤ 50 := by omega
  go_wp2_with (at_builtin; refine wpList_copy (K := tagK) rfl _ _ 22 rfl w4.heap.size 52 i0 _ 24 Try.underlying22 hi hz0 hz1 hz2 rfl _ rfl hown ao cap l rfl hA5 (fun _ _ _ h => h.elim) hnil ?c1 ?c2 ?c3 ?_)
  case c1 => unfold maxLen; omega
  case c2 => omega
  case c3 => rw [alloc_size]; omega
  intro oa oc w5 hO5 hOn hOf hb5
  have hX6 := hX5.below hb5 hX4.lt
  have hY6 := hY5.below hb5 hY4.lt
  have hx6 := Kind.keep hdrK hx5 (fun b hb => hb5.block b (Kind.lt hdrK hx4 hb))
  have hy6 := Kind.keep hdrK hy5 (fun b hb => hb5.block b (Kind.lt hdrK hy4 hb))
  have hT6 := hT5.keep (fun b hb => hb5.block b (hT4.lt hb))
  have hT26 := hT25.keep (fun b hb => hb5.block b (hT2.lt hb))
  have hB6 := hB5.trans (hb5.mono hz4)
  clear hX5 hY5 hx5 hy5 hT5 hT25 hB5 hX4 hY4 hx4 hy4 hT4 hT2 hB4 hA5 hown hbx hb5
  have x0 := hX6.cell (i := 0) rfl
  have x1 := hX6.cell (i := 1) rfl
  have x2 := hX6.cell (i := 2) rfl
  have x3 := hX6.cell (i := 3) rfl
  have y0 := hY6.cell (i := 0) rfl
  have y1 := hY6.cell (i := 1) rfl
  have y2 := hY6.cell (i := 2) rfl
  have y3 := hY6.cell (i := 3) rfl
  have cS := sameH_any x y w5 hx6 hy6 hdd (by omega) (by omega) (fun z hz => by have := hLn.2.2 z hz; omega)
  unfold HdrM.v at cS
  clear hx6 hy6 hdd hLn
  go_wp2_with fail
  refine cS.mono ?_
  rintro e w6 ⟨rfl, hb6⟩
  have hT7 := hT6.below hb6
  have hT27 := hT26.below hb6
  have hO7 := hO5.below hb6
  have hB7 := hB6.trans (hb6.mono hB6.size)
  clear cS hX6 hY6 hT6 hT26 hO5 hB6 hb6 x0 x1 x2 x3 y0 y1 y2 y3
  have cM := sameTags_any ta ta2 tc tc2 ts w6 hT7 hT27 (by omega)
  go_wp2_with fail
  refine cM.mono ?_
  rintro e w7 ⟨rfl, hb7⟩
  have hO8 := hO7.below hb7
  have hB8 := hB7.trans (hb7.mono hB7.size)
  clear cM hT7 hT27 hO7 hB7 hb7
  go_wp2_with fail
  refine (cT oa oc w7 hO8).mono ?_
  rintro e w8 ⟨rfl, hb8⟩
  have hB9 := hB8.trans (hb8.mono hB8.size)
  clear hO8 hB8 hb8 cT
  go_wp2_with fail
  refine (cU w8 (hA.below hB9)).mono ?_
  rintro e w9 ⟨rfl, hb9⟩
  have hBF := hB9.trans (hb9.mono hB9.size)
  clear hB9 hb9 cU
  go_wp2
  go_ret
  exact ⟨rfl, hBF⟩
end Go.Proofs.Ytjjafbjkagdchaa
