/- What tuskref07.Same says of two certificates that are the same; nothing old in memory is turned. -/
import Derived.Test.YtjebfkgigijnhaaDoorCertRows
import Derived.Test.YtjebfkgigijnhaaDoorRefHdrSame
namespace Go.Proofs.YtjebfkgigijnhaaDoor
open Go.RowKit
set_option linter.unusedVariables false

set_option maxRecDepth 100000 in
set_option maxHeartbeats 2000000 in
theorem sameC_any (a b : CertM) (w : World) (hA : a.At w) (hB : b.At w) (hd : a.d = b.d) (hn : a.hdr.refs.length ≤ 4611686018427387903) (hp : a.hdr.parents.length ≤ 4611686018427387903) (hL : ∀ x ∈ a.hdr.refs, x.acks.length ≤ 4611686018427387903) (hv : a.votes.length ≤ 4611686018427387903) :
    Calls Tryd.prog 15 #[a.v, b.v] w fun e w' => e = .returned (.bool true) ∧ Below w.heap.size w w' := by
  have hdh : a.hdr.d = b.hdr.d := congrArg CertD.header hd
  have hdv : a.votes = b.votes := congrArg CertD.votes hd
  obtain ⟨hX, hY, hb⟩ := two_new w 28 28 a.c b.c
  have hA1 := hA.below hb
  have hB1 := hB.below hb
  have cH := sameH_any a.hdr b.hdr _ hA1.hdr hB1.hdr hdh hn hp hL
  have cV := fun w1 h0 h1 => sameTags_any a.va b.va a.vc b.vc a.votes w1 h0 h1 hv
  have hV0 := hA1.votes
  have hV1 := hB1.votes
  rw [← hdv] at hV1
  unfold CertM.c at hX hY hb cH hV0 hV1
  unfold CertM.v
  unfold HdrM.v at cH
  rw [← hdv] at *
  clear hA hB hA1 hB1 hd hdh hdv
  obtain ⟨w1, hw1⟩ : ∃ q, (w.alloc (.cells [.int .i64 a.hdr.author, .int .i64 a.hdr.round, .slice a.hdr.ra a.hdr.refs.length a.hdr.rc, .slice a.hdr.pa a.hdr.parents.length a.hdr.pc, .slice a.va a.votes.length a.vc].toArray 28)).alloc (.cells [.int .i64 b.hdr.author, .int .i64 b.hdr.round, .slice b.hdr.ra b.hdr.refs.length b.hdr.rc, .slice b.hdr.pa b.hdr.parents.length b.hdr.pc, .slice b.va a.votes.length b.vc].toArray 28) = q := ⟨_, rfl⟩
  rw [hw1] at hX hY hb cH hV0 hV1
  have x0 := hX.cell (i := 0) rfl
  have x1 := hX.cell (i := 1) rfl
  have x2 := hX.cell (i := 2) rfl
  have x3 := hX.cell (i := 3) rfl
  have x4 := hX.cell (i := 4) rfl
  have y0 := hY.cell (i := 0) rfl
  have y1 := hY.cell (i := 1) rfl
  have y2 := hY.cell (i := 2) rfl
  have y3 := hY.cell (i := 3) rfl
  have y4 := hY.cell (i := 4) rfl
  go_enter Tryd.func15, Tryd.ntmps15
  go_wp2_with fail
  refine cH.mono ?_
  rintro e w2 ⟨rfl, hb2⟩
  have hX2 := hX.below hb2 hX.lt
  have hY2 := hY.below hb2 hY.lt
  have hV02 := hV0.below hb2
  have hV12 := hV1.below hb2
  have hB2 := hb.trans (hb2.mono hb.size)
  clear cH hX hY hV0 hV1 hb hb2 x0 x1 x2 x3 x4 y0 y1 y2 y3 y4
  have x4 := hX2.cell (i := 4) rfl
  have y4 := hY2.cell (i := 4) rfl
  go_wp2_with fail
  refine (cV _ hV02 hV12).mono ?_
  rintro e w3 ⟨rfl, hb3⟩
  have hB3 := hB2.trans (hb3.mono hB2.size)
  clear cV hX2 hY2 hV02 hV12 hB2 hb3 x4 y4
  go_wp2
  go_ret
  exact ⟨rfl, hB3⟩
end Go.Proofs.YtjebfkgigijnhaaDoor
