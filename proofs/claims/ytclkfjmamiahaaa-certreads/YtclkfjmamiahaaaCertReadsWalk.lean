/- tusklaw07.CertReads answers true; nothing old in memory is turned. -/
import Derived.Test.YtclkfjmamiahaaaRefCertDecode
import Derived.Test.YtclkfjmamiahaaaCertSame
namespace Go.Proofs.Ytclkfjmamiahaaa
open Go.RowKit
set_option linter.unusedVariables false

theorem gotCert_same {r : Except Nat CertD} {x y : CertM} {e1 e2 : Nat} (h1 : (e1 = 0 ∧ r = .ok x.d) ∨ (e1 ≠ 0 ∧ r = .error e1 ∧ x = cert0)) (h2 : (e2 = 0 ∧ r = .ok y.d) ∨ (e2 ≠ 0 ∧ r = .error e2 ∧ y = cert0)) : e1 = e2 ∧ x.d = y.d := by
  rcases h1 with ⟨a1, a2⟩ | ⟨a1, a2, a3⟩
  · rcases h2 with ⟨b1, b2⟩ | ⟨b1, b2, _⟩
    · rw [a2] at b2
      simp at b2
      exact ⟨by omega, b2⟩
    · rw [a2] at b2; cases b2
  · rcases h2 with ⟨b1, b2⟩ | ⟨b1, b2, b3⟩
    · rw [a2] at b2; cases b2
    · rw [a2] at b2
      simp at b2
      exact ⟨b2, by rw [a3, b3]⟩

/-- What is read is short. -/
theorem decC_lens {l : List UInt8} {x : CertM} {er : Nat} (h : (er = 0 ∧ decC l = .ok x.d) ∨ (er ≠ 0 ∧ decC l = .error er ∧ x = cert0)) : x.hdr.refs.length ≤ 4 ∧ x.hdr.parents.length ≤ 7 ∧ (∀ y ∈ x.hdr.refs, y.acks.length ≤ 7) ∧ x.votes.length ≤ 7 := by
  rcases h with ⟨_, h⟩ | ⟨_, _, rfl⟩
  · obtain ⟨_, hf, _, hv, _⟩ := encC_dec h
    have h1 : x.d.header = x.hdr.d := rfl
    rw [h1] at hf
    exact ⟨by have := hf.few; simpa [HdrM.d, rd] using this, hf.ps, fun y hy => (hf.refs y.d (List.mem_map.2 ⟨y, hy, rfl⟩)).few, hv⟩
  · simp [cert0]

set_option maxRecDepth 100000 in
set_option maxHeartbeats 4000000 in
theorem certReads_walk (s : ByteArray) (w : World) (hs : s.size ≤ 140737488351232) :
    Calls Try.prog 4 #[.string s] w fun e w' => e = .returned (.bool true) ∧ Below w.heap.size w w' := by
  by_cases hl : 20000 < s.size
  · have hl' : (20000 : Int) < s.size := by omega
    go_enter Try.func4, Try.ntmps4
    go_wp2
    go_ret
    exact ⟨rfl, Below.refl _ _⟩
  have hl' : ¬ (20000 : Int) < s.size := by omega
  have hmx : s.size ≤ maxLen := by unfold maxLen; omega
  have cA := fun w1 => certDecode_any s w1 hmx
  have cB := fun w1 => refCertDecode_any s w1 hmx
  have hlens : Hid (∀ (x : CertM) (er : Nat), ((er = 0 ∧ decC s.data.toList = .ok x.d) ∨ (er ≠ 0 ∧ decC s.data.toList = .error er ∧ x = cert0)) → x.hdr.refs.length ≤ 4 ∧ x.hdr.parents.length ≤ 7 ∧ (∀ y ∈ x.hdr.refs, y.acks.length ≤ 7) ∧ x.votes.length ≤ 7) := fun x er h => decC_lens h
  generalize decC s.data.toList = r at cA cB hlens
  go_enter Try.func4, Try.ntmps4
  go_wp2_with fail
  refine (cA _).mono ?_
  rintro e w1 ⟨x, er, rfl, hx, hres, hxf, hb1⟩
  have hbx := belowNew w1 (.cells x.c.toArray 37)
  have hX := Arr.new w1 37 x.c
  have hx1 := hx.below hbx
  have hB1 := hb1.trans (hbx.mono hb1.size)
  clear hx hxf hbx hb1 cA
  unfold CertM.v
  unfold CertM.c at hX hx1 hB1
  go_wp2_with fail
  refine (cB _).mono ?_
  rintro e w2 ⟨y, er2, rfl, hy, hres2, hyf, hb2⟩
  have hbx := belowNew w2 (.cells y.c.toArray 37)
  have hY := Arr.new w2 37 y.c
  have hb3 := hb2.trans (hbx.mono hb2.size)
  have hX2 := hX.below hb3 hX.lt
  have hx2 := hx1.below hb3
  have hy2 := hy.below hbx
  have hB2 := hB1.trans (hb3.mono hB1.size)
  obtain ⟨hee, hdd⟩ := gotCert_same hres hres2
  have hLn := hlens.out x er hres
  subst hee
  clear hy hyf hbx hb2 hb3 cB hX hx1 hB1 hres hres2 hlens
  unfold CertM.v
  unfold CertM.c at hX2 hY hx2 hy2 hB2
  have cS := sameC_any x y _ hx2 hy2 hdd (by omega) (by omega) (fun z hz => by have := hLn.2.2.1 z hz; omega) (by omega)
  unfold CertM.v at cS
  have x0 := hX2.cell (i := 0) rfl
  have x1 := hX2.cell (i := 1) rfl
  have x2 := hX2.cell (i := 2) rfl
  have x3 := hX2.cell (i := 3) rfl
  have x4 := hX2.cell (i := 4) rfl
  have y0 := hY.cell (i := 0) rfl
  have y1 := hY.cell (i := 1) rfl
  have y2 := hY.cell (i := 2) rfl
  have y3 := hY.cell (i := 3) rfl
  have y4 := hY.cell (i := 4) rfl
  clear hx2 hy2 hdd hLn
  go_wp2_with fail
  refine cS.mono ?_
  rintro e w6 ⟨rfl, hb6⟩
  have hBF := hB2.trans (hb6.mono hB2.size)
  clear cS hX2 hY hB2 hb6 x0 x1 x2 x3 x4 y0 y1 y2 y3 y4
  go_wp2
  go_ret
  exact ⟨rfl, hBF⟩
end Go.Proofs.Ytclkfjmamiahaaa
