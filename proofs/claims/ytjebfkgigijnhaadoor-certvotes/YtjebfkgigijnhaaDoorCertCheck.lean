/- What cert.Check does; nothing old in memory is turned. -/
import Derived.Test.YtjebfkgigijnhaaDoorCertRows
import Derived.Test.YtjebfkgigijnhaaDoorHdrWorks
import Derived.Lib.QuietBelow
import Derived.BigQuiet
namespace Go.Proofs.YtjebfkgigijnhaaDoor
open Go.RowKit Go.Sort
set_option linter.unusedVariables false

def voteW : ByteArray := ⟨#[118, 111, 116, 101]⟩

/-- A header's id. -/
def idB (h : HdrD) : ByteArray := Mx.bytes (Mx.sumL (encH h))

theorem idB_size (h : HdrD) : (idB h).size = 32 := by unfold idB; rw [Mx.bytes_size]; exact Mx.keyedL_len [] _

/-- What is wrong with a certificate's votes. -/
def enV (ks : List ByteArray) (f : Nat) (h : HdrD) (l : List TagD) : Nat := Mx.enoughL ks f voteW (idB h) (pairT l)

/-- What is wrong with a certificate. -/
def chkC (ks : List ByteArray) (f : Nat) (c : CertD) : Nat := if chkH (3 * f + 1) (2 * f + 1) (enT ks f) c.header ≠ 0 then chkH (3 * f + 1) (2 * f + 1) (enT ks f) c.header else enV ks f c.header c.votes

set_option maxRecDepth 100000 in
set_option maxHeartbeats 2000000 in
theorem certCheck_any (tb f : Nat) (ks : List ByteArray) (x : CertM) (w : World) (hT : Mx.TabAt w tb f ks) (hf : f ≤ 2) (hks : ∀ k ∈ ks, k.size ≤ 32) (hA : x.At w) (hlm : ∀ r ∈ x.hdr.refs, r.acks.length ≤ maxLen) (hpm : x.hdr.parents.length ≤ maxLen) (hvm : x.votes.length ≤ maxLen) (hfit : x.hdr.Fit) (hl : (encH x.hdr.d).length ≤ 140737488351232) (hG : Mx.Glob w) :
    Calls Tryd.prog 11 #[.pointer (some ⟨tb, 0, none⟩), x.v] w fun e w' => e = .returned (.int .i64 (chkC ks f x.d : Int)) ∧ Below w.heap.size w w' := by
  have hX := Arr.new w 28 x.c
  have hB := belowNew w (.cells x.c.toArray 28)
  have hA1 := hA.below hB
  have hT1 := hT.below hB
  have hG1 := hG.below hB
  obtain ⟨w1, hw1⟩ : ∃ q, w.alloc (.cells x.c.toArray 28) = q := ⟨_, rfl⟩
  rw [hw1] at hX hB hA1 hT1 hG1
  have hX0 : Arr w1 w.heap.size 28 [.int .i64 x.hdr.author, .int .i64 x.hdr.round, .slice x.hdr.ra x.hdr.refs.length x.hdr.rc, .slice x.hdr.pa x.hdr.parents.length x.hdr.pc, .slice x.va x.votes.length x.vc] := hX
  have cC := hdrCheck_any tb f ks x.hdr w1 hT1 hf hks hA1.hdr hlm hpm hG1
  obtain ⟨er, her⟩ : ∃ q, Hid (q = chkH (3 * f + 1) (2 * f + 1) (enT ks f) x.hdr.d) := ⟨_, rfl⟩
  obtain ⟨ev, hev⟩ : ∃ q, Hid (q = enV ks f x.hdr.d x.votes) := ⟨_, rfl⟩
  have HC : Hid (chkC ks f x.d = if er ≠ 0 then er else ev) := by rw [her.out, hev.out]; rfl
  rw [← her.out] at cC
  obtain ⟨out, hout⟩ : ∃ q, Hid (q = chkC ks f x.d) := ⟨_, rfl⟩
  rw [← hout.out]
  have x0 := hX0.cell (i := 0) rfl
  have x1 := hX0.cell (i := 1) rfl
  have x2 := hX0.cell (i := 2) rfl
  have x3 := hX0.cell (i := 3) rfl
  unfold CertM.c at hw1
  unfold HdrM.v at cC
  unfold CertM.v
  go_enter Tryd.func11, Tryd.ntmps11
  go_wp2_with fail
  refine cC.mono ?_
  rintro e w2 ⟨rfl, hb2⟩
  have hX2 := hX0.below hb2 hX0.lt
  have hA2 := hA1.below hb2
  have hT2 := hT1.below hb2
  have hG2 := hG1.below hb2
  have hB2 := hB.trans (hb2.mono hB.size)
  clear cC hX hX0 hA1 hT1 hG1 hB hb2 x0 x1 x2 x3 hw1
  by_cases he : er ≠ 0
  · have hne : ((er : Int) != 0) = true := by rw [bne_iff_ne]; omega
    have HF : Hid (out = er) := hout.out.trans (HC.out.trans (if_pos he))
    go_wp2
    go_ret
    exact ⟨by rw [HF.out]; rfl, hB2⟩
  have HF : Hid (out = ev) := hout.out.trans (HC.out.trans (if_neg he))
  have he0 : er = 0 := by omega
  subst he0
  have bl := fun d os => below_regrown w2 d os
  obtain ⟨ib, hib⟩ : ∃ q, Hid (q = idB x.hdr.d) := ⟨_, rfl⟩
  have hibs : ib.size = 32 := by rw [hib.out]; exact idB_size _
  have k1 : ∀ d os, Calls Tryd.prog 27 #[x.hdr.v] (grow (redrawn w2 d) os) fun e w'' => e = .returned (.string ib) ∧ ∃ p : Regrown, w'' = grow (redrawn w2 p.d) p.os := fun d os => Calls.regrown_of (by
    rw [hib.out]
    exact hdrId_any x.hdr _ (hA2.below (bl d os)).hdr hfit hl (hG2.below (bl d os)))
  have k2 : ∀ d os, Calls Tryd.prog 34 #[.pointer (some ⟨tb, 0, none⟩), .slice x.va x.votes.length x.vc, .string voteW, .string ib] (grow (redrawn w2 d) os) fun e w'' => e = .returned (.int .i64 (ev : Int)) ∧ ∃ p : Regrown, w'' = grow (redrawn w2 p.d) p.os := fun d os => Calls.regrown_of (by
    have := Mx.enough_any tb f ks x.va x.vc (pairT x.votes) voteW ib _ (hT2.below (bl d os)) hf hks (hA2.below (bl d os)).votes.pairs (by rw [pairT_length]; exact hvm) (by decide) (by omega) (hG2.below (bl d os))
    rw [pairT_length, hib.out] at this
    rw [hib.out, hev.out]
    exact this)
  have A0 := cell_regrown (hX2.cell (i := 0) rfl)
  have A1 := cell_regrown (hX2.cell (i := 1) rfl)
  have A2 := cell_regrown (hX2.cell (i := 2) rfl)
  have A3 := cell_regrown (hX2.cell (i := 3) rfl)
  have A4 := cell_regrown (hX2.cell (i := 4) rfl)
  have HBF : Hid (∀ d os, Below w.heap.size w (grow (redrawn w2 d) os)) := fun d os => hB2.trans ((bl d os).mono hB2.size)
  unfold HdrM.v at k1
  unfold voteW at k2
  clear hX2 hA2 hT2 hG2 hB2 bl hA hT hG hfit hl hlm hpm hvm
  go_wp2_with fail
  refine wp_region_quiet_below (by kernel_rfl) (by kernel_rfl) ?_
  iterate 5 (go_big_quiet_step (fail))
  go_big_quiet_step (exact k1 _ _)
  go_big_quiet_step (exact k2 _ _)
  go_big_quiet_step (fail)
  refine wpQuiet_nil ?_
  rintro w' ⟨p, rfl⟩
  have hBF := HBF.out p.d p.os
  generalize grow (redrawn w2 p.d) p.os = w6 at hBF ⊢
  clear k1 k2 A0 A1 A2 A3 A4 HBF
  go_wp2
  go_ret
  exact ⟨by rw [HF.out]; rfl, hBF⟩
end Go.Proofs.YtjebfkgigijnhaaDoor
