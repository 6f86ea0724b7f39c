/- What batch.Digest does; nothing old in memory is turned. -/
import Derived.Test.YtlfjdbnifhidnaaDoorBatEncode
import Derived.Test.YtlfjdbnifhidnaaDoorMixAll
namespace Go.Proofs.YtlfjdbnifhidnaaDoor
open Go.RowKit
set_option linter.unusedVariables false

/-- A batch's digest, or none. -/
def digB (b : BatD) : ByteArray := if checkB b = 0 then Mx.bytes (Mx.sumL (encBat b)) else ⟨#[]⟩

set_option maxRecDepth 100000 in
set_option maxHeartbeats 1000000 in
theorem batDigest_any (a n : Int) (ao : Option Addr) (l : List TxM) (cap : Nat) (w : World) (hA : TxsAt w ao l) (hG : Mx.Glob w) :
    Calls Tryd.prog 9 #[batV a n ao l.length cap] w fun e w' => e = .returned (.string (digB ⟨a, n, dl l⟩)) ∧ Below w.heap.size w w' := by
  have hB := belowNew w (.cells #[.int .i64 a, .int .i64 n, .slice ao l.length cap] 24)
  have cE := fun w1 (h : TxsAt w1 ao l) => batEncode_any a n ao l cap w1 h
  have hA0 := hA.below hB
  unfold batV at cE ⊢
  by_cases hz : checkB ⟨a, n, dl l⟩ ≠ 0
  · have H : Hid (digB ⟨a, n, dl l⟩ = ⟨#[]⟩) := (if_neg hz : _ = _)
    generalize encBB ⟨a, n, dl l⟩ = eb at cE
    generalize checkB ⟨a, n, dl l⟩ = er at cE hz
    have hz2 : ((er : Int) != 0) = true := by rw [bne_iff_ne]; omega
    go_enter Tryd.func9, Tryd.ntmps9
    go_wp2_with fail
    refine (cE _ hA0).mono ?_
    rintro e w1 ⟨rfl, hb1⟩
    have hB1 := hB.trans (hb1.mono hB.size)
    clear hb1 hB hA0 cE
    go_wp2
    go_ret
    exact ⟨by rw [H.out]; rfl, hB1⟩
  · have hz' : checkB ⟨a, n, dl l⟩ = 0 := by omega
    have hlen := encBat_len hz'
    have H : Hid (digB ⟨a, n, dl l⟩ = Mx.bytes (Mx.sumL (encBat ⟨a, n, dl l⟩))) := (if_pos hz' : _ = _)
    obtain ⟨eb, heb⟩ : ∃ q, Hid (q = encBB ⟨a, n, dl l⟩) := ⟨_, rfl⟩
    have hebl : eb.data.toList = encBat ⟨a, n, dl l⟩ := by rw [heb.out]; unfold encBB; rw [if_pos hz']
    have hebs : eb.size ≤ 140737488351232 := by
      have : eb.data.toList.length = eb.size := by simp
      rw [hebl] at this
      omega
    rw [← heb.out, hz'] at cE
    rw [← hebl] at H
    have cS := fun w1 hg => Mx.sum_any eb w1 hebs hg
    clear hlen hebl
    go_enter Tryd.func9, Tryd.ntmps9
    go_wp2_with fail
    refine (cE _ hA0).mono ?_
    rintro e w1 ⟨rfl, hb1⟩
    have hB1 := hB.trans (hb1.mono hB.size)
    clear hb1 hB hA0 cE
    go_wp2_with fail
    refine (cS _ (hG.below hB1)).mono ?_
    rintro e w2 ⟨rfl, hb2⟩
    have hB2 := hB1.trans (hb2.mono hB1.size)
    clear hb2 hB1 cS
    go_wp2
    go_ret
    exact ⟨by rw [H.out]; rfl, hB2⟩
end Go.Proofs.YtlfjdbnifhidnaaDoor
