/- DagDoes: for every input the statement answers true, and each argument reads afterwards as it read before. Condition: the two tables of package mix read as the program's text lays them; and what the arguments hold is together of bulk at most 1048576. -/
import Derived.Test.YtmjkbdgcnoenbaaGreatDoorDd05
import Derived.JoinedCond
import Derived.Test.YtmjkbdgcnoenbaaGreatDoorDd20
import Derived.Test.YtmjkbdgcnoenbaaGreatDoorDd06
import Derived.Test.YtmjkbdgcnoenbaaGreatDoorDd19
import Derived.Test.YtmjkbdgcnoenbaaGreatDoorDd04
import Derived.Test.YtmjkbdgcnoenbaaGreatDoorCards
import Derived.Test.YtmjkbdgcnoenbaaGreatDoorTie
import Derived.SevenTiedAt
import Derived.Deep.DeepHandedRow
/- What the bound of the second form gives: the sizes of strings, and of slices of strings with all that they hold. -/
namespace Go.Proofs.YtmjkbdgcnoenbaaGreatDoor
open Go.ChangeShapes Go.WideShapes Go.ChangeAt Go.RowKit

theorem upto_part {H : Type} {d : DataW H} : ∀ {l : List (DataW H)}, d ∈ l → Rows.uptoBulk d ≤ Rows.uptoBulkAll l
 | [], h => by cases h
 | x :: r, h => by
  simp only [Rows.uptoBulkAll]
  rcases List.mem_cons.1 h with e | e
  ·subst e; omega
  ·have := upto_part e; omega

theorem upto_bound {H : Type} {l : List (DataW H)} (hk : Rows.uptoSmall H l = true) : Rows.uptoBulkAll l ≤ 1048576 := of_decide_eq_true hk

def strsBulk (ss : List ByteArray) : Nat := (ss.map (fun s => s.size + 1)).sum

theorem strsBulk_length : ∀ (ss : List ByteArray), ss.length ≤ strsBulk ss
 | [] => by simp
 | s :: ss => by
  have := strsBulk_length ss
  simp only [strsBulk, List.map_cons, List.sum_cons, List.length_cons] at this ⊢
  omega

theorem flat_bulk : ∀ (ss : List ByteArray), ((bl ss).flatMap txt).length ≤ 10 * strsBulk ss
 | [] => by simp [bl]
 | s :: ss => by
  have ih := flat_bulk ss
  have hg := goInt_length s.size
  have e : (bl (s :: ss)).flatMap txt = txt s.data.toList ++ (bl ss).flatMap txt := by simp [bl]
  rw [e, List.length_append]
  have e2 : (txt s.data.toList).length = (goInt s.size).length + s.size := by simp [txt]
  simp only [strsBulk, List.map_cons, List.sum_cons] at ih ⊢
  omega

theorem lst_bulk (ss : List ByteArray) : (lst (bl ss)).length ≤ 9 + 10 * strsBulk ss := by
 have := flat_bulk ss
 have := goInt_length (bl ss).length
 rw [lst, List.length_append]
 omega
end Go.Proofs.YtmjkbdgcnoenbaaGreatDoor

/- What the bound of the second form gives of a header that came in. -/
namespace Go.Proofs.YtmjkbdgcnoenbaaGreatDoor
open Go.ChangeShapes Go.WideShapes Go.ChangeAt Go.RowKit
set_option linter.unusedVariables false

def refBulk (r : RefM) : Nat := r.digest.size + 1 + tagsBulk r.acks

theorem refQ_bulk {H : Type} (y : DataW H) (r : RefM) (h : RefQ y r) : refBulk r ≤ Rows.uptoBulk y := by
 obtain ⟨y0, y1, rfl, h0, h1⟩ := h
 have q0 := h0.bulk
 have q1 := h1.bulk tagQ_bulk
 simp only [Rows.uptoBulk, Rows.uptoBulkAll, refBulk, tagsBulk]
 omega

def refsBulk (l : List RefM) : Nat := (l.map refBulk).sum

theorem refsBulk_len : ∀ (l : List RefM), l.length ≤ refsBulk l
 | [] => by simp
 | r :: l => by
  have := refsBulk_len l
  simp only [refsBulk, refBulk, List.map_cons, List.sum_cons, List.length_cons] at this ⊢
  omega

theorem refsBulk_mem : ∀ {l : List RefM} {r : RefM}, r ∈ l → refBulk r ≤ refsBulk l
 | [], r, h => by cases h
 | x :: l, r, h => by
  simp only [refsBulk, List.map_cons, List.sum_cons]
  rcases List.mem_cons.1 h with rfl | h
  ·omega
  ·have := refsBulk_mem h
   simp only [refsBulk] at this
   omega

theorem refs_flat_le : ∀ (l : List RefM), ((rd l).flatMap refB).length ≤ 36 * refsBulk l
 | [] => by simp [rd]
 | r :: l => by
  have ih := refs_flat_le l
  have h1 := txt_len_le r.digest.data.toList
  have h2 := tagsB_len_le r.acks
  have h3 : r.digest.data.toList.length = r.digest.size := by simp
  have e : (rd (r :: l)).flatMap refB = refB r.d ++ (rd l).flatMap refB := by simp [rd]
  have e2 : refB r.d = txt r.digest.data.toList ++ tagsB r.acks := rfl
  rw [e, List.length_append, e2, List.length_append]
  simp only [refsBulk, refBulk, List.map_cons, List.sum_cons] at ih ⊢
  omega

theorem hdr_bulk {H : Type} {d : DataW H} {x : HdrM} (h : HdrQ d x) (hk : Rows.uptoBulk d ≤ 1048576) : x.Lens ∧ x.Fit ∧ (encH x.d).length ≤ 1073741824 := by
 obtain ⟨y0, y1, y2, y3, rfl, h2, h3⟩ := h
 have q2 := h2.bulk refQ_bulk
 have q3 := h3.bulk StrQ.bulk
 simp only [Rows.uptoBulk, Rows.uptoBulkAll] at hk
 have b2 : refsBulk x.refs ≤ 1048576 := by unfold refsBulk; omega
 have b3 : strsBulk x.parents ≤ 1048576 := by unfold strsBulk; omega
 have l2 := refsBulk_len x.refs
 have l3 := strsBulk_length x.parents
 have la : ∀ r ∈ x.refs, tagsBulk r.acks ≤ 1048576 := fun r hr => by
  have := refsBulk_mem hr
  unfold refBulk at this
  omega
 have f2 := refs_flat_le x.refs
 have f3 := lst_bulk x.parents
 have g0 := goInt_length x.author
 have g1 := goInt_length x.round
 have g2 := goInt_length ((rd x.refs).length : Int)
 have hl : (encH x.d).length ≤ 1073741824 := by
  show (goInt x.author ++ goInt x.round ++ goInt ((rd x.refs).length : Int) ++ (rd x.refs).flatMap refB ++ lst (bl x.parents)).length ≤ _
  simp only [List.length_append]
  omega
 refine ⟨⟨by omega, by omega, fun r hr => ?_⟩, ⟨by omega, by omega, fun r hr => ?_, fun r hr t ht => ?_, by omega⟩, hl⟩
 ·have := la r hr; have := tagsBulk_len r.acks; omega
 ·have := la r hr; have := tagsBulk_len r.acks; omega
 ·have := la r hr; have := tagsBulk_mem ht; omega
end Go.Proofs.YtmjkbdgcnoenbaaGreatDoor

/- How rows of acts that came in are opened. -/
namespace Go.Proofs.YtmjkbdgcnoenbaaGreatDoor
open Go.ChangeShapes Go.WideShapes Go.ChangeAt Go.RowKit Go.Joins Go.Deep
set_option linter.unusedVariables false

theorem list10x {α : Type} {l : List α} (h : l.length = 10) : ∃ c0 c1 c2 c3 c4 c5 c6 c7 c8 c9, l = [c0, c1, c2, c3, c4, c5, c6, c7, c8, c9] := by
 match l, h with
 | [c0, c1, c2, c3, c4, c5, c6, c7, c8, c9], _ => exact ⟨c0, c1, c2, c3, c4, c5, c6, c7, c8, c9, rfl⟩

theorem list7x {α : Type} {l : List α} (h : l.length = 7) : ∃ c0 c1 c2 c3 c4 c5 c6, l = [c0, c1, c2, c3, c4, c5, c6] := by
 match l, h with
 | [c0, c1, c2, c3, c4, c5, c6], _ => exact ⟨c0, c1, c2, c3, c4, c5, c6, rfl⟩

theorem cellsOp14 : Tryz.prog.cellsOf 35 = 10 := by kernel_rfl
theorem cellsBools14 : Tryz.prog.cellsOf 29 = 1 := by kernel_rfl
theorem cellsBool14 : Tryz.prog.cellsOf 4 = 1 := by kernel_rfl

def AnyB {H α : Type} (d : DataW H) (x : α) : Prop := True

theorem open_bool_cells {H : Type} {enc : TypeId × Value → H} {W : World} {fuel : Nat} {cs : List Value} {y : DataW H × List MemPlace}
  (hf : DataW.trod enc Tryz.prog W 0 (fun _ => true) true fuel 4 cs = some y) : ∃ x : Bool, cs = boolK.c x ∧ boolK.At W x ∧ AnyB y.1 x := by
 obtain ⟨b, e, _⟩ := DataW.trod_bool Tryz.underlying4 hf
 exact ⟨b, e, trivial, trivial⟩

def OpQ {H : Type} (d : DataW H) (o : OpM) : Prop := ∃ y0 y1 y2 y3 y4 y5 y6, d = .agg [y0, y1, y2, y3, y4, y5, y6] ∧ o.votes.length ≤ maxLen ∧ HdrQ y6 o.wild

instance : Inhabited OpM := ⟨⟨0, 0, 0, 0, none, [], 0, 0, ⟨0, 0, none, [], 0, none, [], 0⟩⟩⟩

set_option maxRecDepth 100000 in
theorem open_op_cells {H : Type} {enc : TypeId × Value → H} {W : World} {fuel : Nat} {cs : List Value} {y : DataW H × List MemPlace}
  (hf : DataW.trod enc Tryz.prog W 0 (fun _ => true) true fuel 35 cs = some y) : ∃ x : OpM, cs = opK.c x ∧ opK.At W x ∧ OpQ y.1 x := by
 obtain ⟨xs, n, _, hx, hcl, hl, hg⟩ := DataW.trod_struct Tryz.underlying35 hf
 obtain ⟨c0, c1, c2, c3, c4, c5, c6, c7, c8, c9, rfl⟩ := list10x (hcl.trans cellsOp14)
 obtain ⟨y0, y1, y2, y3, y4, y5, y6, rfl⟩ := list7x hl
 have g0 := hg 0 _ rfl
 have g1 := hg 1 _ rfl
 have g2 := hg 2 _ rfl
 have g3 := hg 3 _ rfl
 have g4 := hg 4 _ rfl
 have g5 := hg 5 _ rfl
 have g6 := hg 6 _ rfl
 simp [cellsInt6, cellsBools14, cellsHdr6] at g0 g1 g2 g3 g4 g5 g6
 obtain ⟨a0, e0, _, _⟩ := DataW.trod_int Tryz.underlying3 g0
 obtain ⟨a1, e1, _, _⟩ := DataW.trod_int Tryz.underlying3 g1
 obtain ⟨a2, e2, _, _⟩ := DataW.trod_int Tryz.underlying3 g2
 obtain ⟨a3, e3, _, _⟩ := DataW.trod_int Tryz.underlying3 g3
 obtain ⟨va, vlen, vc, e4⟩ := slice_form Tryz.underlying29 g4
 obtain ⟨a5, e5, _, _⟩ := DataW.trod_int Tryz.underlying3 g5
 obtain ⟨h, e6, hA, hQ⟩ := open_hdr_cells g6
 simp at e0 e1 e2 e3 e4 e5
 subst e0 e1 e2 e3 e4 e5
 obtain ⟨vs, rfl, r1, r2, r3, r4⟩ := open_row boolK AnyB Tryz.underlying29 cellsBool14 open_bool_cells g4
 refine ⟨⟨a0, a1, a2, a3, va, vs, vc, a5, h⟩, ?_, ⟨hA, r1⟩, y0.1, y1.1, y2.1, y3.1, y4.1, y5.1, y6.1, ?_, r3, hQ⟩
 ·show _ = [Value.int .i64 a0, .int .i64 a1, .int .i64 a2, .int .i64 a3, .slice va vs.length vc, .int .i64 a5] ++ hdrK.c h
  rw [← e6]
  rfl
 ·have := congrArg Prod.fst hx
  simpa using this

theorem open_ops14 {H : Type} {enc : TypeId × Value → H} {W : World} {a : Option Addr} {len cap : Nat} {d : DataW H} {p : List MemPlace}
  (h : DataW.Trod enc Tryz.prog W 0 (fun _ => true) true 22 (.slice a len cap) d p) :
  ∃ l : List OpM, l.length = len ∧ RowAt opK W a l ∧ len ≤ maxLen ∧ (∀ o ∈ l, o.votes.length ≤ maxLen) ∧ (Rows.uptoBulk d ≤ 1048576 → ∀ o ∈ l, OpIn W o) := by
 obtain ⟨fuel, hf⟩ := h
 obtain ⟨l, h1, h2, _, h4, h5⟩ := open_row opK OpQ Tryz.underlying22 cellsOp14 open_op_cells hf
 have hall : ∀ o ∈ l, ∃ y, OpQ y o ∧ Rows.uptoBulk y ≤ Rows.uptoBulk d := fun o ho => by
  rcases h5 with ⟨_, rfl⟩ | ⟨ds, rest, hd, hlen, hq⟩
  ·cases ho
  ·obtain ⟨i, hi, rfl⟩ := List.mem_iff_getElem.1 ho
   have hi2 : i < ds.length := by omega
   refine ⟨ds[i], hq i _ _ (List.getElem?_eq_getElem hi2) (List.getElem?_eq_getElem hi), ?_⟩
   have h6 := bulk_part (List.getElem_mem hi2)
   have hd' : d = .slice ds rest := hd
   rw [hd']
   simp only [Rows.uptoBulk]
   omega
 refine ⟨l, h1, h2, h4, fun o ho => ?_, fun hk o ho => ?_⟩
 ·obtain ⟨y, ⟨_, _, _, _, _, _, _, _, hv, _⟩, _⟩ := hall o ho
  exact hv
 ·obtain ⟨y, ⟨y0, y1, y2, y3, y4, y5, y6, rfl, hv, hQ⟩, hb⟩ := hall o ho
  have hb6 : Rows.uptoBulk y6 ≤ 1048576 := by
   simp only [Rows.uptoBulk, Rows.uptoBulkAll] at hb
   omega
  obtain ⟨q1, q2, q3⟩ := hdr_bulk hQ hb6
  exact ⟨(h2.at_ o ho).1, (h2.at_ o ho).2, hv, q2, q3, q1⟩
end Go.Proofs.YtmjkbdgcnoenbaaGreatDoor

/- DagDoes: for every input the statement answers true, and each argument reads afterwards as it read before. Condition: the two tables of package mix read as the program's text lays them; and what the arguments hold is together of bulk at most 1048576. -/
namespace Go.Proofs.YtmjkbdgcnoenbaaGreatDoor
open Go.ChangeShapes Go.WideShapes Go.ChangeAt Go.RowKit
open Go.ChangeMaps (open_string shut_string)
set_option linter.unusedVariables false

set_option maxRecDepth 100000 in
theorem dagDoes_reads (os : Os) {H : Type} (enc : TypeId × Value → H) : ∃ places, DataW.whole enc Tryz.prog ((World.doorLaid Tryz.prog 400 os).forCall (fun _ _ => 0) ⟨#[], #[.int .i64 0, .int .i64 0, .slice none 0 0], []⟩).memory Tryz.f3.params.toList Rows.dagDoesSpec.vars false (#[.int .i64 0, .int .i64 0, .slice none 0 0] : Array Value).toList 8 = some ([.lit (.int .i64 0), .lit (.int .i64 0), .nil], [], places) :=
 ⟨[], by kernel_rfl⟩

set_option maxRecDepth 100000 in
theorem dagDoes_lifted (os : Os) (started : os.Started) (H : Type) (enc : TypeId × Value → H) (F : Stop.Interp) :
  ReturnsInHanded {} Tryz.checked os 3 .any ((Rows.OpenSpec.upto Rows.dagDoesSpec).preRow enc Tryz.prog Tryz.f3 Rows.dagDoesUptoRow.domain false Rows.dagDoesUptoRow.laid) (((Rows.OpenSpec.upto Rows.dagDoesSpec).at F).post enc Tryz.prog Tryz.f3 false true false false) := by
 obtain ⟨places, hx⟩ := dagDoes_reads os enc
 refine returnsInHanded_of_row (C := Tryz.checked) (s := Rows.OpenSpec.upto Rows.dagDoesSpec) ownKnob_none started (by kernel_rfl) Tryz.func3
  ⟨World.doorLaid Tryz.prog 400 os, fun _ _ => 0, ⟨#[], #[.int .i64 0, .int .i64 0, .slice none 0 0], []⟩, rfl, World.shaped_of_RefB (by kernel_rfl) (by kernel_rfl), rfl, (Input.okWide_of_okWideB (by kernel_rfl)).2,
   OpenSpec.preRow_of_cond 8 hx (by kernel_rfl) (fun k hk => by cases hk; kernel_rfl) (by kernel_rfl) (Mx.door_met os _), by
   simp only [Assume.holds]
   exact ⟨by simp, by simp, fun _ => Modest.zero, by simp, by simp⟩⟩ ?_
 intro W base args ds gs before hval0 hW hcnd hcond hsz0 hL _ _
 have hk : Rows.uptoSmall H (ds ++ gs) = true := hcond _ rfl
 have hval : ∀ (j : Nat) t v, Tryz.f3.params[j]? = some t → args[j]? = some v → Value.okWide Tryz.prog W .any base t v := hval0
 have hsz : (DataW.weightsEach Tryz.prog (Tryz.f3.params.toList ++ Rows.dagDoesSpec.plain.varTypes Tryz.prog) (ds ++ gs)).all (· ≤ reachBytes) = true := hsz0
 have hW' := hW
 obtain ⟨p, q, hA0, hV, rfl, hfz, hnd⟩ := hW
 have hA : DataW.TrodAll enc Tryz.prog W 0 (fun _ => true) true Tryz.f3.params.toList args.toList ds p := hA0
 rw [Tryz.params3] at hA hval hsz
 obtain ⟨v0, vs0, d0, ds0, p0, q0, hargs, rfl, rfl, h0, r0⟩ := trodAll_cons hA
 obtain ⟨v1, vs1, d1, ds1, p1, q1, rfl, rfl, rfl, h1, r1⟩ := trodAll_cons r0
 obtain ⟨v2, vs2, d2, ds2, p2, q2, rfl, rfl, rfl, h2, r2⟩ := trodAll_cons r1
 obtain ⟨rfl, rfl, rfl⟩ := trodAll_nil r2
 obtain rfl : args = #[v0, v1, v2] := by cases args; simp_all
 obtain ⟨rfl, rfl⟩ := trodVars_none hV
 have k0 := h0
 have lt0 : ∀ x ∈ p0, x.block < W.heap.size := by obtain ⟨m, hm⟩ := k0; exact DataW.trod_lt m _ _ _ hm
 obtain ⟨a0, rfl, hd0, hp0, w0⟩ := open_int Tryz.underlying3 (hval 0 3 v0 rfl rfl) h0
 have k1 := h1
 have lt1 : ∀ x ∈ p1, x.block < W.heap.size := by obtain ⟨m, hm⟩ := k1; exact DataW.trod_lt m _ _ _ hm
 obtain ⟨a1, rfl, hd1, hp1, w1⟩ := open_int Tryz.underlying3 (hval 1 3 v1 rfl rfl) h1
 have k2 := h2
 have lt2 : ∀ x ∈ p2, x.block < W.heap.size := by obtain ⟨m, hm⟩ := k2; exact DataW.trod_lt m _ _ _ hm
 obtain ⟨a2, len2, cap2, rfl⟩ := okWide_slice Tryz.underlying22 (hval 2 22 v2 rfl rfl)
 obtain ⟨l2, rfl, st2, sm2, vo2, oi2⟩ := open_ops14 h2
 clear hA0 hval0 hsz0
 refine (dagDoes_walk a0 a1 a2 cap2 l2 W st2 (oi2 (Nat.le_trans (upto_part (d := d2) (by simp)) (upto_bound hk))) sm2 (Mx.of_laid hL)).mono fun e W' ⟨he, bel⟩ => ?_
 subst he
 exact ⟨_, rfl, _, _, _, [], _, [], hW', trodAll_mk1 (shut_bool Tryz.underlying4 _), (trodAll_cons_mk (Below.trod laidOut_true (by kernel_rfl) (of_decide_eq_true (by kernel_rfl)) k0 bel lt0) (trodAll_cons_mk (Below.trod laidOut_true (by kernel_rfl) (of_decide_eq_true (by kernel_rfl)) k1 bel lt1) (trodAll_cons_mk (Below.trod laidOut_true (by kernel_rfl) (of_decide_eq_true (by kernel_rfl)) k2 bel lt2) trodAll_mk0))), rfl, bel.frame _, fun h => by cases h⟩

theorem dagDoesUpto_holds : Rows.DagDoesUptoSaid :=
 OpenClaim.holds_of_cond 3 Tryz.f3 rfl rfl rfl rfl rfl rfl rfl ⟨rfl, rfl, rfl, rfl, rfl⟩ rfl rfl rfl rfl rfl (by kernel_rfl) Tryz.func3 (by kernel_rfl)
  (of_decide_eq_true (by kernel_rfl)) (by unfold Func.isWrapper; rw [if_neg (of_decide_eq_false (by kernel_rfl))]; exact ⟨rfl, rfl⟩)
  (fun os started H enc _ F => by rw [OpenClaim.pre_eq_preRow]; exact dagDoes_lifted os started H enc F)

theorem dagDoesUpto_card : Rows.DagDoesUptoCardSaid :=
 Claim7.holds_tied_plain_at .later [] [.data, .data] true (true, "cb9ec11f0cffbdc1ea1207431f7b5a121590a4829560b15185c4dfb95d7ea019") false
  dagDoesUpto_holds (fun _ h => by cases h) (by kernel_rfl) (fun _ h => by cases h) dagDoesUpto_row_tie rfl ⟨rfl, rfl⟩ (by kernel_rfl) rfl
  (fun f fn hf hfn => by
   obtain rfl : f = 3 := Option.some.inj ((show Tryz.prog.funcNamed "tusk/tusklaw14.DagDoes" = some 3 by kernel_rfl).symm.trans hf) |>.symm
   obtain rfl : fn = Tryz.f3 := (Option.some.inj (Tryz.func3.symm.trans hfn)).symm
   exact ⟨by kernel_rfl, fun j t ht => by
    rw [Tryz.params3] at ht
    have hall : ∀ t ∈ (#[3, 3, 22] : Array TypeId).toList, Tryz.prog.wantsStandIn t = false := by
     show ∀ t ∈ ([3, 3, 22] : List TypeId), Tryz.prog.wantsStandIn t = false
     refine List.forall_mem_cons.2 ⟨by kernel_rfl, ?_⟩
     refine List.forall_mem_cons.2 ⟨by kernel_rfl, ?_⟩
     refine List.forall_mem_cons.2 ⟨by kernel_rfl, ?_⟩
     exact fun _ h => by cases h
    exact hall t (Array.mem_toList_iff.2 (Array.mem_of_getElem? ht))⟩)
  (by kernel_rfl)
end Go.Proofs.YtmjkbdgcnoenbaaGreatDoor
