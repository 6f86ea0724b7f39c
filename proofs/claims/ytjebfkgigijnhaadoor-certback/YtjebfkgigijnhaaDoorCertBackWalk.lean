/- tusklaw07.CertBack answers true; nothing old in memory is turned. -/
import Derived.Test.YtjebfkgigijnhaaDoorCertWorks
import Derived.Test.YtjebfkgigijnhaaDoorCertDecode
import Derived.Test.YtjebfkgigijnhaaDoorCertEncode
import Derived.Test.YtjebfkgigijnhaaDoorCertSame
import Derived.Test.YtjebfkgigijnhaaDoorHdrBackBase
namespace Go.Proofs.YtjebfkgigijnhaaDoor
open Go.RowKit
set_option linter.unusedVariables false

theorem tagsB_fit {l : List TagD} (h : ∀ t ∈ l, t.Fit) (hl : l.length ≤ 7) : (tagsB l).length ≤ 300 := by
  have h1 := flat_tags_fit l h
  have h2 := goInt_length ((l.map tagB).length : Int)
  rw [tagsB, lst, List.length_append]
  omega

theorem certFit_of {x : CertM} (h1 : x.hdr.d.Fit) (h2 : x.votes.length ≤ 7) (h3 : ∀ t ∈ x.votes, t.Fit) : x.Fit :=
  ⟨hdrFit_of h1, by omega, fun t ht => by have := (h3 t ht).mac; omega, by have := tagsB_fit h3 h2; omega⟩

set_option maxRecDepth 100000 in
set_option maxHeartbeats 4000000 in
theorem certBack_walk (s : ByteArray) (w : World) (hs : s.size ≤ 140737488351232) (hG : Mx.Glob w) :
    Calls Tryd.prog 6 #[.string s] w fun e w' => e = .returned (.bool true) ∧ Below w.heap.size w w' := by
  have cW := works7_any _ hG
  go_enter Tryd.func6, Tryd.ntmps6
  go_wp2_with fail
  refine cW.mono ?_
  rintro e w1 ⟨rfl, hB1⟩
  clear cW hG
  by_cases h1 : (20000 : Int) < (s.size : Int)
  · go_wp2
    go_ret
    exact ⟨rfl, hB1⟩
  have d1 : decide ((20000 : Int) < (s.size : Int)) = false := decide_eq_false h1
  have hmx : s.size ≤ maxLen := by unfold maxLen; omega
  have cD := fun w1 => certDecode_any s w1 hmx
  have Hback : Hid (∀ (v : CertM), decC s.data.toList = .ok v.d → v.Fit ∧ (⟨(encC v.d).toArray⟩ : ByteArray) = s) := fun v hv => by
    obtain ⟨a, b, c, d, f⟩ := encC_dec hv
    exact ⟨certFit_of b d f, by rw [a, mk_list]⟩
  generalize decC s.data.toList = r at cD Hback
  go_wp2_with fail
  refine (cD _).mono ?_
  rintro e w8 ⟨v, er, rfl, hv, hres, hvf, hb8⟩
  have hB8 := hB1.trans (hb8.mono hB1.size)
  clear hB1 hb8 cD hvf
  unfold CertM.v
  rcases hres with ⟨rfl, hres⟩ | ⟨her, hres, rfl⟩
  · obtain ⟨hvfit, hve⟩ := Hback.out v hres
    have hbx := belowNew w8 (.cells v.c.toArray 28)
    have hV9 : Arr _ w8.heap.size 28 [.int .i64 v.hdr.author, .int .i64 v.hdr.round, .slice v.hdr.ra v.hdr.refs.length v.hdr.rc, .slice v.hdr.pa v.hdr.parents.length v.hdr.pc, .slice v.va v.votes.length v.vc] := Arr.new w8 28 v.c
    have hB9 := hB8.trans (hbx.mono hB8.size)
    have hv9 := hv.below hbx
    have cE := certEncode_any v _ hv9 hvfit
    rw [hve] at cE
    clear hbx hB8 hv hres hve Hback
    unfold CertM.v at cE
    unfold CertM.c at cE hV9 hB9 hv9
    have v0 := hV9.cell (i := 0) rfl
    have v1 := hV9.cell (i := 1) rfl
    have v2 := hV9.cell (i := 2) rfl
    have v3 := hV9.cell (i := 3) rfl
    have v4 := hV9.cell (i := 4) rfl
    go_wp2_with fail
    refine cE.mono ?_
    rintro e w9 ⟨rfl, hb9⟩
    have hB10 := hB9.trans (hb9.mono hB9.size)
    clear hV9 hB9 hv9 hb9 cE v0 v1 v2 v3 v4
    go_wp2
    go_ret
    exact ⟨rfl, hB10⟩
  · have her' : ((er : Int) != 0) = true := by rw [bne_iff_ne]; omega
    have hbx := belowNew w8 (.cells #[.int .i64 0, .int .i64 0, .slice none 0 0, .slice none 0 0, .slice none 0 0] 28)
    have hV9 := Arr.new w8 28 [.int .i64 0, .int .i64 0, .slice none 0 0, .slice none 0 0, .slice none 0 0]
    have hB9 := hB8.trans (hbx.mono hB8.size)
    have cS := sameC_any cert0 cert0 _ (cert0_at _) (cert0_at (w8.alloc (.cells #[.int .i64 0, .int .i64 0, .slice none 0 0, .slice none 0 0, .slice none 0 0] 28))) rfl (by simp [cert0]) (by simp [cert0]) (by simp [cert0]) (by simp [cert0])
    unfold CertM.v cert0 at cS
    unfold cert0
    simp only [List.length_nil] at cS ⊢
    clear hbx hB8 hv hres Hback her
    have v0 := hV9.cell (i := 0) rfl
    have v1 := hV9.cell (i := 1) rfl
    have v2 := hV9.cell (i := 2) rfl
    have v3 := hV9.cell (i := 3) rfl
    have v4 := hV9.cell (i := 4) rfl
    go_wp2_with fail
    refine cS.mono ?_
    rintro e w9 ⟨rfl, hb9⟩
    have hBF := hB9.trans (hb9.mono hB9.size)
    clear hV9 hB9 hb9 cS v0 v1 v2 v3 v4
    go_wp2
    go_ret
    exact ⟨rfl, hBF⟩
end Go.Proofs.YtjebfkgigijnhaaDoor
