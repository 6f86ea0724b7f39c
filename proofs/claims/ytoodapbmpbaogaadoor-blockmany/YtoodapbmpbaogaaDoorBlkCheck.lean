/- What block.checkFirst, block.CheckQc and block.Check do; nothing old in memory is turned. -/
import Derived.Test.YtoodapbmpbaogaaDoorBlkCerts
import Derived.Test.YtoodapbmpbaogaaDoorBlkRepeat
import Derived.Test.YtoodapbmpbaogaaDoorHdrWorks
import Derived.Lib.QuietBelow
import Derived.BigQuiet
namespace Go.Proofs.YtoodapbmpbaogaaDoor
open Go.RowKit Go.Sort
set_option linter.unusedVariables false

def agreeW : ByteArray := ⟨#[97, 103, 114, 101, 101]⟩

/-- Is it the first block's id? -/
def isGen (s : ByteArray) : Bool := s.data.toList == gen32.data.toList

theorem isGen_yes {s : ByteArray} (h : isGen s = true) : s = gen32 := bytes_ext (by unfold isGen at h; rwa [beq_iff_eq] at h)
theorem isGen_no {s : ByteArray} (h : isGen s = false) : s ≠ gen32 := fun e => by rw [e] at h; simp [isGen] at h

/-- What is wrong with the first block's. -/
def chkF (q : QcD) : Nat := if isGen q.block = true ∧ q.votes.length = 0 then 0 else 3

/-- What is wrong with the votes for a block. -/
def enA (ks : List ByteArray) (f : Nat) (v : Int) (b : ByteArray) (l : List TagD) : Nat := Mx.enoughL ks f agreeW (wordB v b) (pairT l)

/-- What is wrong with a quorum's certificate. -/
def chkQ (ks : List ByteArray) (f : Nat) (q : QcD) : Nat :=
  if q.view < 0 ∨ 4611686018427387903 < q.view then 2 else if q.view = 0 then chkF q else if q.block.size ≠ 32 then 3 else enA ks f q.view q.block q.votes

/-- What is wrong with a block. -/
def chkK (ks : List ByteArray) (f : Nat) (b : BlkD) : Nat :=
  if b.view < 1 ∨ 4611686018427387903 < b.view then 2 else if chkQ ks f b.qc ≠ 0 then chkQ ks f b.qc else if b.view ≤ b.qc.view then 9 else if 8 < b.certs.length then 8 else certsP [] b.certs

set_option maxRecDepth 100000 in
set_option maxHeartbeats 2000000 in
theorem checkFirst_any (x : QcM) (w : World) (hA : x.At w) :
    Calls Tryd.prog 47 #[x.v] w fun e w' => e = .returned (.int .i64 (chkF x.d : Int)) ∧ Below w.heap.size w w' := by
  have hX := Arr.new w 24 x.c
  have hB := belowNew w (.cells x.c.toArray 24)
  obtain ⟨w1, hw1⟩ : ∃ q, w.alloc (.cells x.c.toArray 24) = q := ⟨_, rfl⟩
  rw [hw1] at hX hB
  have bl := fun d os => below_regrown w1 d os
  have hX0 : Arr w1 w.heap.size 24 [.int .i64 x.view, .string x.block, .slice x.va x.votes.length x.vc] := hX
  have A0 := cell_regrown (hX0.cell (i := 0) rfl)
  have A1 := cell_regrown (hX0.cell (i := 1) rfl)
  have A2 := cell_regrown (hX0.cell (i := 2) rfl)
  have HBF : Hid (∀ d os, Below w.heap.size w (grow (redrawn w1 d) os)) := fun d os => hB.trans ((bl d os).mono hB.size)
  obtain ⟨out, hout⟩ : ∃ q, Hid (q = chkF x.d) := ⟨_, rfl⟩
  rw [← hout.out]
  have k1 : ∀ d os, Calls Tryd.prog 31 #[] (grow (redrawn w1 d) os) fun e w'' => e = .returned (.string gen32) ∧ ∃ p : Regrown, w'' = grow (redrawn w1 p.d) p.os := fun d os => Calls.regrown_of (genesis_any _)
  unfold QcM.c at hw1
  unfold QcM.v
  have hof : Hid (out = if isGen x.block = true ∧ x.votes.length = 0 then 0 else 3) := hout.out
  clear hX hX0 hB bl hout hA
  obtain ⟨v, b, va, l, vc⟩ := x
  simp only at *
  cases hg : isGen b with
  | false =>
    have hf : Hid (out = 3) := hof.out.trans (if_neg (fun h => by rw [hg] at h; exact absurd h.1 (by decide)))
    have hbe : (b.toList == gen32.toList) = false := by rw [ByteArray.toList_eq, ByteArray.toList_eq]; exact hg
    clear hof hg
    generalize gen32 = gb at *
    go_enter Tryd.func47, Tryd.ntmps47
    go_wp2_with fail
    refine wp_region_quiet_below (by kernel_rfl) (by kernel_rfl) ?_
    iterate 2 (go_big_quiet_step (fail))
    go_big_quiet_step (exact k1 _ _)
    iterate 7 (go_big_quiet_step (fail))
    refine wpQuiet_nil ?_
    rintro w' ⟨p, rfl⟩
    have hBF := HBF.out p.d p.os
    generalize grow (redrawn w1 p.d) p.os = w6 at hBF ⊢
    clear k1 A0 A1 A2 HBF
    go_wp2
    go_ret
    exact ⟨by rw [hf.out]; rfl, hBF⟩
  | true =>
    have hge := isGen_yes hg
    subst hge
    by_cases hl : l.length = 0
    · have hf : Hid (out = 0) := hof.out.trans (if_pos ⟨hg, hl⟩)
      have hl' : ¬ (0 : Int) < (l.length : Int) := by omega
      have hl2 : decide ((0 : Int) < (l.length : Int)) = false := decide_eq_false hl'
      have Hl : Hid (l.length = 0) := hl
      clear hof hg hl
      generalize gen32 = gb at *
      go_enter Tryd.func47, Tryd.ntmps47
      go_wp2_with fail
      refine wp_region_quiet_below (by kernel_rfl) (by kernel_rfl) ?_
      iterate 2 (go_big_quiet_step (fail))
      go_big_quiet_step (exact k1 _ _)
      iterate 7 (go_big_quiet_step (fail))
      refine wpQuiet_nil ?_
      rintro w' ⟨p, rfl⟩
      have hBF := HBF.out p.d p.os
      generalize grow (redrawn w1 p.d) p.os = w6 at hBF ⊢
      clear k1 A0 A1 A2 HBF
      go_wp2
      go_ret
      exact ⟨by rw [hf.out]; rfl, hBF⟩
    · have hf : Hid (out = 3) := hof.out.trans (if_neg (fun h => hl h.2))
      have hl' : (0 : Int) < (l.length : Int) := by omega
      have hl2 : decide ((0 : Int) < (l.length : Int)) = true := decide_eq_true hl'
      clear hof hg hl
      generalize gen32 = gb at *
      go_enter Tryd.func47, Tryd.ntmps47
      go_wp2_with fail
      refine wp_region_quiet_below (by kernel_rfl) (by kernel_rfl) ?_
      iterate 2 (go_big_quiet_step (fail))
      go_big_quiet_step (exact k1 _ _)
      iterate 7 (go_big_quiet_step (fail))
      refine wpQuiet_nil ?_
      rintro w' ⟨p, rfl⟩
      have hBF := HBF.out p.d p.os
      generalize grow (redrawn w1 p.d) p.os = w6 at hBF ⊢
      clear k1 A0 A1 A2 HBF
      go_wp2
      go_ret
      exact ⟨by rw [hf.out]; rfl, hBF⟩

set_option maxRecDepth 100000 in
set_option maxHeartbeats 2000000 in
theorem checkQc_any (tb f : Nat) (ks : List ByteArray) (x : QcM) (w : World) (hT : Mx.TabAt w tb f ks) (hf : f ≤ 2) (hks : ∀ k ∈ ks, k.size ≤ 32) (hA : x.At w) (hvm : x.votes.length ≤ maxLen) (hG : Mx.Glob w) :
    Calls Tryd.prog 13 #[.pointer (some ⟨tb, 0, none⟩), x.v] w fun e w' => e = .returned (.int .i64 (chkQ ks f x.d : Int)) ∧ Below w.heap.size w w' := by
  have hX := Arr.new w 24 x.c
  have hB := belowNew w (.cells x.c.toArray 24)
  have hA1 := hA.below hB
  have hT1 := hT.below hB
  have hG1 := hG.below hB
  obtain ⟨w1, hw1⟩ : ∃ q, w.alloc (.cells x.c.toArray 24) = q := ⟨_, rfl⟩
  rw [hw1] at hX hB hA1 hT1 hG1
  have hX0 : Arr w1 w.heap.size 24 [.int .i64 x.view, .string x.block, .slice x.va x.votes.length x.vc] := hX
  obtain ⟨out, hout⟩ : ∃ q, Hid (q = chkQ ks f x.d) := ⟨_, rfl⟩
  rw [← hout.out]
  have HC : Hid (out = if x.view < 0 ∨ 4611686018427387903 < x.view then 2 else if x.view = 0 then chkF x.d else if x.block.size ≠ 32 then 3 else enA ks f x.view x.block x.votes) := hout.out
  have x0 := hX0.cell (i := 0) rfl
  have x1 := hX0.cell (i := 1) rfl
  have x2 := hX0.cell (i := 2) rfl
  have cF := fun w2 h => checkFirst_any x w2 h
  unfold QcM.c at hw1
  unfold QcM.v at cF ⊢
  clear hout hX
  by_cases h1 : x.view < 0
  · have HF : Hid (out = 2) := HC.out.trans (if_pos (Or.inl h1))
    clear HC
    go_enter Tryd.func13, Tryd.ntmps13
    go_wp2
    go_ret
    exact ⟨by rw [HF.out]; rfl, hB⟩
  by_cases h2 : 4611686018427387903 < x.view
  · have HF : Hid (out = 2) := HC.out.trans (if_pos (Or.inr h2))
    clear HC
    go_enter Tryd.func13, Tryd.ntmps13
    go_wp2
    go_ret
    exact ⟨by rw [HF.out]; rfl, hB⟩
  have HC2 := HC.out.trans (if_neg (fun h => h.elim h1 h2))
  clear HC
  by_cases h3 : x.view = 0
  · have HF : Hid (out = chkF x.d) := HC2.trans (if_pos h3)
    clear HC2
    generalize chkF x.d = fe at *
    obtain ⟨v, b, va, l, vc⟩ := x
    simp only at h1 h2 h3 hw1 x0 x1 x2 hX0 cF ⊢
    subst h3
    have cF1 := cF _ hA1
    clear h1 h2
    go_enter Tryd.func13, Tryd.ntmps13
    go_wp2_with fail
    refine cF1.mono ?_
    rintro e w2 ⟨rfl, hb2⟩
    have hB2 := hB.trans (hb2.mono hB.size)
    clear cF cF1 hX0 x0 x1 x2
    go_wp2
    go_ret
    exact ⟨by rw [HF.out]; rfl, hB2⟩
  have HC3 := HC2.trans (if_neg h3)
  clear HC2 cF
  by_cases h4 : x.block.size ≠ 32
  · have HF : Hid (out = 3) := HC3.trans (if_pos h4)
    have h4' : (x.block.size : Int) ≠ 32 := by omega
    clear HC3
    go_enter Tryd.func13, Tryd.ntmps13
    go_wp2
    go_ret
    exact ⟨by rw [HF.out]; rfl, hB⟩
  have HF0 := HC3.trans (if_neg h4)
  have h4' : (x.block.size : Int) = 32 := by omega
  have hb32 : x.block.size ≤ 140737488351232 := by omega
  have bl := fun d os => below_regrown w1 d os
  obtain ⟨wb, hwb⟩ : ∃ q, Hid (q = wordB x.view x.block) := ⟨_, rfl⟩
  have hwz : wb.size ≤ 1000 := by
    rw [hwb.out, wordB, size_mk, List.length_append]
    have := goInt_length x.view
    have h5 : x.block.data.toList.length = x.block.size := by simp
    omega
  obtain ⟨ev, hev⟩ : ∃ q, Hid (q = enA ks f x.view x.block x.votes) := ⟨_, rfl⟩
  have HF : Hid (out = ev) := by rw [hev.out]; exact HF0
  have k1 : ∀ d os, Calls Tryd.prog 29 #[.int .i64 x.view, .string x.block] (grow (redrawn w1 d) os) fun e w'' => e = .returned (.string wb) ∧ ∃ p : Regrown, w'' = grow (redrawn w1 p.d) p.os := fun d os => Calls.regrown_of (by
    rw [hwb.out]
    exact word_any x.view x.block _ hb32)
  have k2 : ∀ d os, Calls Tryd.prog 48 #[.pointer (some ⟨tb, 0, none⟩), .slice x.va x.votes.length x.vc, .string agreeW, .string wb] (grow (redrawn w1 d) os) fun e w'' => e = .returned (.int .i64 (ev : Int)) ∧ ∃ p : Regrown, w'' = grow (redrawn w1 p.d) p.os := fun d os => Calls.regrown_of (by
    have := Mx.enough_any tb f ks x.va x.vc (pairT x.votes) agreeW wb _ (hT1.below (bl d os)) hf hks (hA1.below (bl d os)).votes.pairs (by rw [pairT_length]; exact hvm) (by decide) (by omega) (hG1.below (bl d os))
    rw [pairT_length, hwb.out] at this
    rw [hwb.out, hev.out]
    exact this)
  have A0 := cell_regrown (hX0.cell (i := 0) rfl)
  have A1 := cell_regrown (hX0.cell (i := 1) rfl)
  have A2 := cell_regrown (hX0.cell (i := 2) rfl)
  have HBF : Hid (∀ d os, Below w.heap.size w (grow (redrawn w1 d) os)) := fun d os => hB.trans ((bl d os).mono hB.size)
  unfold agreeW at k2
  clear hX0 hA1 hT1 hG1 hB bl hA hT hG HC3 HF0
  go_enter Tryd.func13, Tryd.ntmps13
  go_wp2_with fail
  refine wp_region_quiet_below (by kernel_rfl) (by kernel_rfl) ?_
  iterate 7 (go_big_quiet_step (fail))
  go_big_quiet_step (exact k1 _ _)
  go_big_quiet_step (exact k2 _ _)
  go_big_quiet_step (fail)
  refine wpQuiet_nil ?_
  rintro w' ⟨p, rfl⟩
  have hBF := HBF.out p.d p.os
  generalize grow (redrawn w1 p.d) p.os = w6 at hBF ⊢
  clear k1 k2 A0 A1 A2 HBF x0 x1 x2
  go_wp2
  go_ret
  exact ⟨by rw [HF.out]; rfl, hBF⟩

set_option maxRecDepth 100000 in
set_option maxHeartbeats 2000000 in
theorem blkCheck_any (tb f : Nat) (ks : List ByteArray) (x : BlkM) (w : World) (hT : Mx.TabAt w tb f ks) (hf : f ≤ 2) (hks : ∀ k ∈ ks, k.size ≤ 32) (hA : x.At w) (hvm : x.qc.votes.length ≤ maxLen) (hcm : x.certs.length ≤ maxLen) (hG : Mx.Glob w) :
    Calls Tryd.prog 11 #[.pointer (some ⟨tb, 0, none⟩), x.v] w fun e w' => e = .returned (.int .i64 (chkK ks f x.d : Int)) ∧ Below w.heap.size w w' := by
  have hX := Arr.new w 27 x.c
  have hB := belowNew w (.cells x.c.toArray 27)
  have hA1 := hA.below hB
  have hT1 := hT.below hB
  have hG1 := hG.below hB
  obtain ⟨w1, hw1⟩ : ∃ q, w.alloc (.cells x.c.toArray 27) = q := ⟨_, rfl⟩
  rw [hw1] at hX hB hA1 hT1 hG1
  have hX0 : Arr w1 w.heap.size 27 [.int .i64 x.view, .int .i64 x.qc.view, .string x.qc.block, .slice x.qc.va x.qc.votes.length x.qc.vc, .slice x.ca x.certs.length x.cc] := hX
  obtain ⟨out, hout⟩ : ∃ q, Hid (q = chkK ks f x.d) := ⟨_, rfl⟩
  rw [← hout.out]
  have HC : Hid (out = if x.view < 1 ∨ 4611686018427387903 < x.view then 2 else if chkQ ks f x.qc.d ≠ 0 then chkQ ks f x.qc.d else if x.view ≤ x.qc.view then 9 else if 8 < x.certs.length then 8 else certsP [] x.certs) := hout.out
  have x0 := hX0.cell (i := 0) rfl
  have x1 := hX0.cell (i := 1) rfl
  have x2 := hX0.cell (i := 2) rfl
  have x3 := hX0.cell (i := 3) rfl
  have cQ := checkQc_any tb f ks x.qc w1 hT1 hf hks hA1.qc hvm hG1
  unfold BlkM.c at hw1
  unfold QcM.v at cQ
  unfold BlkM.v
  clear hout hX
  by_cases h1 : x.view < 1
  · have HF : Hid (out = 2) := HC.out.trans (if_pos (Or.inl h1))
    clear HC
    go_enter Tryd.func11, Tryd.ntmps11
    go_wp2
    go_ret
    exact ⟨by rw [HF.out]; rfl, hB⟩
  by_cases h2 : 4611686018427387903 < x.view
  · have HF : Hid (out = 2) := HC.out.trans (if_pos (Or.inr h2))
    clear HC
    go_enter Tryd.func11, Tryd.ntmps11
    go_wp2
    go_ret
    exact ⟨by rw [HF.out]; rfl, hB⟩
  have HC2 := HC.out.trans (if_neg (fun h => h.elim h1 h2))
  clear HC
  generalize chkQ ks f x.qc.d = qe at *
  by_cases h3 : qe ≠ 0
  · have HF : Hid (out = qe) := HC2.trans (if_pos h3)
    have hne : ((qe : Int) != 0) = true := by rw [bne_iff_ne]; omega
    clear HC2
    go_enter Tryd.func11, Tryd.ntmps11
    go_wp2_with fail
    refine cQ.mono ?_
    rintro e w2 ⟨rfl, hb2⟩
    have hB2 := hB.trans (hb2.mono hB.size)
    clear cQ hX0 x0 x1 x2 x3
    go_wp2
    go_ret
    exact ⟨by rw [HF.out]; rfl, hB2⟩
  have HC3 := HC2.trans (if_neg h3)
  clear HC2
  have h30 : qe = 0 := by omega
  subst h30
  go_enter Tryd.func11, Tryd.ntmps11
  go_wp2_with fail
  refine cQ.mono ?_
  rintro e w2 ⟨rfl, hb2⟩
  have hB2 := hB.trans (hb2.mono hB.size)
  have hX2 := hX0.below hb2 hX0.lt
  have hC2 := (hA1.below hb2).certs
  clear cQ hX0 x0 x1 x2 x3 hb2 hB hw1 hA1 hT1 hG1 hA hT hG
  have x0 := hX2.cell (i := 0) rfl
  have x1 := hX2.cell (i := 1) rfl
  have x4 := hX2.cell (i := 4) rfl
  by_cases h4 : x.view ≤ x.qc.view
  · have HF : Hid (out = 9) := HC3.trans (if_pos h4)
    clear HC3
    go_wp2
    go_ret
    exact ⟨by rw [HF.out]; rfl, hB2⟩
  have HC4 := HC3.trans (if_neg h4)
  clear HC3
  by_cases h5 : 8 < x.certs.length
  · have HF : Hid (out = 8) := HC4.trans (if_pos h5)
    have h5' : (8 : Int) < (x.certs.length : Int) := by omega
    clear HC4
    go_wp2
    go_ret
    exact ⟨by rw [HF.out]; rfl, hB2⟩
  have HF : Hid (out = certsP [] x.certs) := HC4.trans (if_neg h5)
  have h5' : ¬ (8 : Int) < (x.certs.length : Int) := by omega
  have cC := checkCerts_any x.ca x.cc x.certs w2 hC2 (by omega)
  clear HC4
  generalize certsP [] x.certs = ce at *
  go_wp2_with fail
  refine cC.mono ?_
  rintro e w3 ⟨rfl, hb3⟩
  have hB3 := hB2.trans (hb3.mono hB2.size)
  clear cC hX2 hC2 x0 x1 x4 hb3 hB2
  go_wp2
  go_ret
  exact ⟨by rw [HF.out]; rfl, hB3⟩
end Go.Proofs.YtoodapbmpbaogaaDoor
