/- CertBack: for every input the statement answers true, and each argument reads afterwards as it read before. Condition: the two tables of package mix read as the program's text lays them; no other. -/
import Derived.Test.YtjebfkgigijnhaaDoorCertWorks
import Derived.Test.YtjebfkgigijnhaaDoorCertDecode
import Derived.Test.YtjebfkgigijnhaaDoorCertEncode
import Derived.Test.YtjebfkgigijnhaaDoorCertSame
import Derived.Test.YtjebfkgigijnhaaDoorHdrBackBase
import Derived.Test.YtjebfkgigijnhaaDoorMixAll
import Derived.Test.YtjebfkgigijnhaaDoorCards
import Derived.Test.YtjebfkgigijnhaaDoorTie
import Derived.SevenTiedAt
/- tusklaw07.CertBack answers true; nothing old in memory is turned. -/
namespace Go.Proofs.YtjebfkgigijnhaaDoor
open Go.RowKit
set_option linter.unusedVariables false

theorem tagsB_fit {l : List TagD} (h : ∀ t ∈ l, t.Fit) (hl : l.length ≤ 7) : (tagsB l).length ≤ 300 := by
  have h1 := flat_tags_fit l h
  have h2 := goInt_length ((l.map tagB).length : Int)
  rw [tagsB, lst, List.length_append]
  omega

theorem certFit_of {x : CertM} (h1 : x.hdr.d.Fit) (h2 : x.votes.length ≤ 7) (h3 : ∀ t ∈ x.votes, t.Fit) : x.Fit :=
  ⟨hdrFit_of h1, by omega, fun t ht => by have := (h3 t ht).mac; omega, by have := tagsB_fit h3 h2; omega⟩

set_option maxRecDepth 100000 in
set_option maxHeartbeats 4000000 in
theorem certBack_walk (s : ByteArray) (w : World) (hs : s.size ≤ 140737488351232) (hG : Mx.Glob w) :
    Calls Tryd.prog 6 #[.string s] w fun e w' => e = .returned (.bool true) ∧ Below w.heap.size w w' := by
  have cW := works7_any _ hG
  go_enter Tryd.func6, Tryd.ntmps6
  go_wp2_with fail
  refine cW.mono ?_
  rintro e w1 ⟨rfl, hB1⟩
  clear cW hG
  by_cases h1 : (20000 : Int) < (s.size : Int)
  · go_wp2
    go_ret
    exact ⟨rfl, hB1⟩
  have d1 : decide ((20000 : Int) < (s.size : Int)) = false := decide_eq_false h1
  have hmx : s.size ≤ maxLen := by unfold maxLen; omega
  have cD := fun w1 => certDecode_any s w1 hmx
  have Hback : Hid (∀ (v : CertM), decC s.data.toList = .ok v.d → v.Fit ∧ (⟨(encC v.d).toArray⟩ : ByteArray) = s) := fun v hv => by
    obtain ⟨a, b, c, d, f⟩ := encC_dec hv
    exact ⟨certFit_of b d f, by rw [a, mk_list]⟩
  generalize decC s.data.toList = r at cD Hback
  go_wp2_with fail
  refine (cD _).mono ?_
  rintro e w8 ⟨v, er, rfl, hv, hres, hvf, hb8⟩
  have hB8 := hB1.trans (hb8.mono hB1.size)
  clear hB1 hb8 cD hvf
  unfold CertM.v
  rcases hres with ⟨rfl, hres⟩ | ⟨her, hres, rfl⟩
  · obtain ⟨hvfit, hve⟩ := Hback.out v hres
    have hbx := belowNew w8 (.cells v.c.toArray 28)
    have hV9 : Arr _ w8.heap.size 28 [.int .i64 v.hdr.author, .int .i64 v.hdr.round, .slice v.hdr.ra v.hdr.refs.length v.hdr.rc, .slice v.hdr.pa v.hdr.parents.length v.hdr.pc, .slice v.va v.votes.length v.vc] := Arr.new w8 28 v.c
    have hB9 := hB8.trans (hbx.mono hB8.size)
    have hv9 := hv.below hbx
    have cE := certEncode_any v _ hv9 hvfit
    rw [hve] at cE
    clear hbx hB8 hv hres hve Hback
    unfold CertM.v at cE
    unfold CertM.c at cE hV9 hB9 hv9
    have v0 := hV9.cell (i := 0) rfl
    have v1 := hV9.cell (i := 1) rfl
    have v2 := hV9.cell (i := 2) rfl
    have v3 := hV9.cell (i := 3) rfl
    have v4 := hV9.cell (i := 4) rfl
    go_wp2_with fail
    refine cE.mono ?_
    rintro e w9 ⟨rfl, hb9⟩
    have hB10 := hB9.trans (hb9.mono hB9.size)
    clear hV9 hB9 hv9 hb9 cE v0 v1 v2 v3 v4
    go_wp2
    go_ret
    exact ⟨rfl, hB10⟩
  · have her' : ((er : Int) != 0) = true := by rw [bne_iff_ne]; omega
    have hbx := belowNew w8 (.cells #[.int .i64 0, .int .i64 0, .slice none 0 0, .slice none 0 0, .slice none 0 0] 28)
    have hV9 := Arr.new w8 28 [.int .i64 0, .int .i64 0, .slice none 0 0, .slice none 0 0, .slice none 0 0]
    have hB9 := hB8.trans (hbx.mono hB8.size)
    have cS := sameC_any cert0 cert0 _ (cert0_at _) (cert0_at (w8.alloc (.cells #[.int .i64 0, .int .i64 0, .slice none 0 0, .slice none 0 0, .slice none 0 0] 28))) rfl (by simp [cert0]) (by simp [cert0]) (by simp [cert0]) (by simp [cert0])
    unfold CertM.v cert0 at cS
    unfold cert0
    simp only [List.length_nil] at cS ⊢
    clear hbx hB8 hv hres Hback her
    have v0 := hV9.cell (i := 0) rfl
    have v1 := hV9.cell (i := 1) rfl
    have v2 := hV9.cell (i := 2) rfl
    have v3 := hV9.cell (i := 3) rfl
    have v4 := hV9.cell (i := 4) rfl
    go_wp2_with fail
    refine cS.mono ?_
    rintro e w9 ⟨rfl, hb9⟩
    have hBF := hB9.trans (hb9.mono hB9.size)
    clear hV9 hB9 hb9 cS v0 v1 v2 v3 v4
    go_wp2
    go_ret
    exact ⟨rfl, hBF⟩
end Go.Proofs.YtjebfkgigijnhaaDoor

/- CertBack: for every input the statement answers true, and each argument reads afterwards as it read before. Condition: the two tables of package mix read as the program's text lays them; no other. -/
namespace Go.Proofs.YtjebfkgigijnhaaDoor
open Go.ChangeShapes Go.WideShapes Go.ChangeAt Go.RowKit
open Go.ChangeMaps (open_string shut_string)
set_option linter.unusedVariables false

set_option maxRecDepth 100000 in
theorem certBack_lifted (os : Os) (started : os.Started) (H : Type) (enc : TypeId × Value → H) :
    ReturnsInHanded {} Tryd.checked os 6 .any (fun w args => (Rows.certBackSpec.pre enc Tryd.prog Tryd.f6 [] false w args ∧ laidMetH Tryd.prog Mx.laid2 w) ∧ sizedMet enc Tryd.prog Tryd.f6 (OpenSpec.ofChange Rows.certBackSpec) false w args)
      (Rows.certBackSpec.post enc Tryd.prog Tryd.f6 false true false false) := by
  refine returnsInHanded_of_change_and (C := Tryd.checked) (X := fun w _ => laidMetH Tryd.prog Mx.laid2 w) (fun _ _ _ hh h => h.of_heap hh) ownKnob_none started (by kernel_rfl) Tryd.func6
    (ChangeSpec.witness_shaped (enc := enc) (C := Tryd.checked) (os := os) (X := fun w _ => laidMetH Tryd.prog Mx.laid2 w) false (World.doorLaid Tryd.prog 400 os) #[.string ByteArray.empty] 8 rfl (World.shaped_of_RefB (by kernel_rfl) (by kernel_rfl)) (by kernel_rfl) (by kernel_rfl) (by kernel_rfl) (Mx.door_met os _)) ?_
  intro W base args ds gs before hval0 hW hcnd hsz0 hL _
  have hval : ∀ (j : Nat) t v, Tryd.f6.params[j]? = some t → args[j]? = some v → Value.okWide Tryd.prog W .any base t v := hval0
  have hsz : (DataW.weightsEach Tryd.prog (Tryd.f6.params.toList ++ Rows.certBackSpec.plain.varTypes Tryd.prog) (ds ++ gs)).all (· ≤ reachBytes) = true := hsz0
  have hW' := hW
  obtain ⟨p, q, hA0, hV, rfl, hfz, hnd⟩ := hW
  have hA : DataW.TrodAll enc Tryd.prog W 0 (fun _ => true) true Tryd.f6.params.toList args.toList ds p := hA0
  rw [Tryd.params6] at hA hval hsz
  obtain ⟨v0, vs0, d0, ds0, p0, q0, hargs, rfl, rfl, h0, r0⟩ := trodAll_cons hA
  obtain ⟨rfl, rfl, rfl⟩ := trodAll_nil r0
  obtain rfl : args = #[v0] := by cases args; simp_all
  obtain ⟨rfl, rfl⟩ := trodVars_none hV
  have k0 := h0
  have lt0 : ∀ x ∈ p0, x.block < W.heap.size := by obtain ⟨m, hm⟩ := k0; exact DataW.trod_lt m _ _ _ hm
  obtain ⟨a0, rfl, hd0, hp0, w0⟩ := open_string Tryd.underlying9 (hval 0 9 v0 rfl rfl) h0
  have s0 : a0.size ≤ 140737488351232 := by
    have := sized_string hsz (j := 0) (t := 9) (bytes := a0.data.toList) rfl (by rw [hd0]; rfl)
    simpa [reachBytes] using this
  clear hA0 hval0 hsz0
  refine (certBack_walk a0 W s0 (Mx.of_laid hL)).mono fun e W' ⟨he, bel⟩ => ?_
  subst he
  exact ⟨_, rfl, _, _, _, [], _, [], hW', trodAll_mk1 (shut_bool Tryd.underlying4 _), (trodAll_cons_mk (Below.trod laidOut_true (by kernel_rfl) (of_decide_eq_true (by kernel_rfl)) k0 bel lt0) trodAll_mk0), rfl, bel.frame _, fun h => by cases h⟩

theorem certBack_holds : Rows.CertBackSaid :=
  OpenClaim.holds_of_wide 6 Tryd.f6 rfl rfl rfl rfl rfl rfl rfl ⟨rfl, rfl, rfl, rfl, rfl⟩ rfl rfl rfl rfl rfl (by kernel_rfl) Tryd.func6 (by kernel_rfl)
    (of_decide_eq_true (by kernel_rfl)) (by unfold Func.isWrapper; rw [if_neg (of_decide_eq_false (by kernel_rfl))]; exact ⟨rfl, rfl⟩)
    (fun os started H enc _ => certBack_lifted os started H enc)

theorem certBack_card : Rows.CertBackCardSaid :=
  Claim7.holds_tied_plain_at .later [] [.data, .data] true (true, "9bc01858be54a6f7b88abffa2cc2f115ecc2b533579eb6ab191bef2d768c1a51") false
    certBack_holds (fun _ h => by cases h) (by kernel_rfl) (fun _ h => by cases h) certBack_row_tie rfl ⟨rfl, rfl⟩ (by kernel_rfl) rfl
    (fun f fn hf hfn => by
      obtain rfl : f = 6 := Option.some.inj ((show Tryd.prog.funcNamed "tusk/tusklaw07.CertBack" = some 6 by kernel_rfl).symm.trans hf) |>.symm
      obtain rfl : fn = Tryd.f6 := (Option.some.inj (Tryd.func6.symm.trans hfn)).symm
      exact ⟨by kernel_rfl, fun j t ht => by
        rw [Tryd.params6] at ht
        have hall : ∀ t ∈ (#[9] : Array TypeId).toList, Tryd.prog.wantsStandIn t = false := by
          show ∀ t ∈ ([9] : List TypeId), Tryd.prog.wantsStandIn t = false
          refine List.forall_mem_cons.2 ⟨by kernel_rfl, ?_⟩
          exact fun _ h => by cases h
        exact hall t (Array.mem_toList_iff.2 (Array.mem_of_getElem? ht))⟩)
    (by kernel_rfl)
end Go.Proofs.YtjebfkgigijnhaaDoor
