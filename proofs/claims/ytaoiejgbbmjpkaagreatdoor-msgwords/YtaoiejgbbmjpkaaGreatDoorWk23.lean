/- MsgWords: for every input the statement answers true, and each argument reads afterwards as it read before. Condition: the two tables of package mix read as the program's text lays them; no other. -/
import Derived.Test.YtaoiejgbbmjpkaaGreatDoorWk21
import Derived.Test.YtaoiejgbbmjpkaaGreatDoorWk22
import Derived.Deep.MidRow
import Derived.Test.YtaoiejgbbmjpkaaGreatDoorWk08
import Derived.Test.YtaoiejgbbmjpkaaGreatDoorCards
import Derived.Test.YtaoiejgbbmjpkaaGreatDoorTie
import Derived.SevenTiedAt
/- tusklaw09.MsgWords answers true; nothing old in memory is turned. (Laid by gen_msgwordswalk.py.) -/
namespace Go.Proofs.YtaoiejgbbmjpkaaGreatDoor
open Go.RowKit
set_option linter.unusedVariables false

theorem range_arr {w : World} {b : Nat} {t : TypeId} {cs : List Value} (h : Arr w b t cs) : w.rangeAt b 0 cs := fun j v hv => by
  rw [Nat.zero_add]
  exact h.cell hv

theorem refWordsAll_any (x : MsgM) (w : World) (hA : x.At w) (hn : x.Num) (hS : ∀ t ∈ x.bat.txs, TxSizes t.d) :
    Calls Tryz.prog 8 #[x.v] w (fun e w' => GotW w (wordsM x.d) e w') := by
  obtain ⟨k, dg, vi, tg, ba, he, ce, bl, q⟩ := x
  by_cases h5 : k = 5
  · subst h5
    exact refWords5_any dg vi tg ba he ce bl q w hA hn hS
  · exact refWordsK_any k dg vi tg ba he ce bl q w hA hn hS h5

/-- The cells of one of a row of words. -/
theorem RowAt.word {w : World} {ao : Option Addr} {l : List WordD} (h : RowAt wordK w ao l) {i : Nat} {x : WordD} (hx : l[i]? = some x) :
    ∃ b off, ao = some ⟨b, off, none⟩ ∧ b < w.heap.size ∧ w.cell? ⟨b, off + i * 4, none⟩ = some (.int .i64 x.t.who) ∧ w.cell? ⟨b, off + i * 4 + 1, none⟩ = some (.string x.t.mac) ∧ w.cell? ⟨b, off + i * 4 + 2, none⟩ = some (.string x.kind) ∧ w.cell? ⟨b, off + i * 4 + 3, none⟩ = some (.string x.word) := by
  obtain ⟨b, off, h1, h2, h3⟩ := h.cell i x hx
  exact ⟨b, off, h1, h2, h3 0 _ rfl, h3 1 _ rfl, h3 2 _ rfl, h3 3 _ rfl⟩

set_option maxRecDepth 100000 in
set_option maxHeartbeats 8000000 in
theorem msgWords_walk (x : MsgM) (w : World) (hA : x.At w) (hI : x.In) (hG : Mx.Glob w) :
    Calls Tryz.prog 3 #[x.v] w fun e w' => e = .returned (.bool true) ∧ Below w.heap.size w w' := by
  have hn := hI.num
  have hmx := hI.max
  have hS := hI.txz
  have HLn : Hid (x.bat.txs.length ≤ 50 → x.Lens) := hI.lens
  clear hI
  have cG := fun w1 h1 => great9_any x w1 h1 hmx
  have cO : Hid (∀ w1, x.At w1 → x.Lens → Calls Tryz.prog 7 #[x.v] w1 fun e w' => GotOwnM w1 x e w') := fun w1 h1 hl => own9_any x w1 h1 hl
  have cR : Hid (∀ w1, x.At w1 → Calls Tryz.prog 8 #[x.v] w1 (fun e w' => GotW w1 (wordsM x.d) e w')) := fun w1 h1 => refWordsAll_any x w1 h1 hn hS
  have cP : Hid (∀ (y : MsgM) w1, y.d = x.d → y.At w1 → Mx.Glob w1 → Calls Tryz.prog 6 #[y.v] w1 (fun e w' => GotW w1 (wordsM x.d) e w')) := fun y w1 hyd hy hg => by
    rw [← hyd]
    exact msgWords_any y w1 hy (num_same hyd hn) (words_fit y) hg
  obtain ⟨l, hl⟩ : ∃ l, Hid (wordsM x.d = l) := ⟨_, rfl⟩
  have hlen : l.length ≤ 1000000000 := by
    rw [← hl.out]
    unfold wordsM
    by_cases hz : chkM x.d = 0
    · rw [if_pos hz]
      have h1 := flat_leW (fieldsK x.d.kind) (words_fit x hz).len
      have h2 := fieldsK_len x.d.kind
      have h3 : 100000000 * (fieldsK x.d.kind).length ≤ 100000000 * 3 := Nat.mul_le_mul_left _ h2
      omega
    · rw [if_neg hz]
      exact Nat.zero_le _
  rw [hl.out] at cR cP
  obtain ⟨k, dg, vi, tg, ba, he, ce, bl, q⟩ := x
  have hX := Arr.new w 39 [.int .i64 k, .string dg, .int .i64 vi, .int .i64 tg.who, .string tg.mac, .int .i64 ba.author, .int .i64 ba.number, .slice ba.ta ba.txs.length ba.tc, .int .i64 he.author, .int .i64 he.round, .slice he.ra he.refs.length he.rc, .slice he.pa he.parents.length he.pc, .int .i64 ce.hdr.author, .int .i64 ce.hdr.round, .slice ce.hdr.ra ce.hdr.refs.length ce.hdr.rc, .slice ce.hdr.pa ce.hdr.parents.length ce.hdr.pc, .slice ce.va ce.votes.length ce.vc, .int .i64 bl.view, .int .i64 bl.qc.view, .string bl.qc.block, .slice bl.qc.va bl.qc.votes.length bl.qc.vc, .slice bl.ca bl.certs.length bl.cc, .int .i64 q.view, .string q.block, .slice q.va q.votes.length q.vc]
  have hB := belowNew w (.cells [.int .i64 k, .string dg, .int .i64 vi, .int .i64 tg.who, .string tg.mac, .int .i64 ba.author, .int .i64 ba.number, .slice ba.ta ba.txs.length ba.tc, .int .i64 he.author, .int .i64 he.round, .slice he.ra he.refs.length he.rc, .slice he.pa he.parents.length he.pc, .int .i64 ce.hdr.author, .int .i64 ce.hdr.round, .slice ce.hdr.ra ce.hdr.refs.length ce.hdr.rc, .slice ce.hdr.pa ce.hdr.parents.length ce.hdr.pc, .slice ce.va ce.votes.length ce.vc, .int .i64 bl.view, .int .i64 bl.qc.view, .string bl.qc.block, .slice bl.qc.va bl.qc.votes.length bl.qc.vc, .slice bl.ca bl.certs.length bl.cc, .int .i64 q.view, .string q.block, .slice q.va q.votes.length q.vc].toArray 39)
  unfold MsgM.v MsgM.c at cG cO cR ⊢
  simp only at cG cO cR ⊢
  obtain ⟨w1, hw1⟩ : ∃ q', w.alloc (.cells [.int .i64 k, .string dg, .int .i64 vi, .int .i64 tg.who, .string tg.mac, .int .i64 ba.author, .int .i64 ba.number, .slice ba.ta ba.txs.length ba.tc, .int .i64 he.author, .int .i64 he.round, .slice he.ra he.refs.length he.rc, .slice he.pa he.parents.length he.pc, .int .i64 ce.hdr.author, .int .i64 ce.hdr.round, .slice ce.hdr.ra ce.hdr.refs.length ce.hdr.rc, .slice ce.hdr.pa ce.hdr.parents.length ce.hdr.pc, .slice ce.va ce.votes.length ce.vc, .int .i64 bl.view, .int .i64 bl.qc.view, .string bl.qc.block, .slice bl.qc.va bl.qc.votes.length bl.qc.vc, .slice bl.ca bl.certs.length bl.cc, .int .i64 q.view, .string q.block, .slice q.va q.votes.length q.vc].toArray 39) = q' := ⟨_, rfl⟩
  rw [hw1] at hX hB
  go_enter Tryz.func3, Tryz.ntmps3
  go_wp2_with (refine wpList_load_row (by rfl) 39 _ (by rfl) w.heap.size (by rfl) 39 _ (0, 0) _ hX Tryz.underlying39 (by rfl) infoMsg9 ?_)
  refine (cG _ (hA.below hB)).mono ?_
  rintro e w2 ⟨⟨g, rfl, hg⟩, hb2⟩
  have hX2 := hX.below hb2 hX.lt
  have hB2 := hB.trans (hb2.mono hB.size)
  clear hX hB hb2 cG hw1
  cases g
  case true =>
    clear hg
    go_wp2
    go_ret
    exact ⟨rfl, hB2⟩
  have hL := HLn.out (hg rfl).1
  clear hg HLn
  go_wp2_with fail
  have hXd : Arr w2.drew w.heap.size 39 [.int .i64 k, .string dg, .int .i64 vi, .int .i64 tg.who, .string tg.mac, .int .i64 ba.author, .int .i64 ba.number, .slice ba.ta ba.txs.length ba.tc, .int .i64 he.author, .int .i64 he.round, .slice he.ra he.refs.length he.rc, .slice he.pa he.parents.length he.pc, .int .i64 ce.hdr.author, .int .i64 ce.hdr.round, .slice ce.hdr.ra ce.hdr.refs.length ce.hdr.rc, .slice ce.hdr.pa ce.hdr.parents.length ce.hdr.pc, .slice ce.va ce.votes.length ce.vc, .int .i64 bl.view, .int .i64 bl.qc.view, .string bl.qc.block, .slice bl.qc.va bl.qc.votes.length bl.qc.vc, .slice bl.ca bl.certs.length bl.cc, .int .i64 q.view, .string q.block, .slice q.va q.votes.length q.vc] := hX2.drew
  have hBd : Below w.heap.size w w2.drew := hB2.drew
  clear hX2 hB2
  refine wp_region_held_drew (S := fun w' => Arr w' w.heap.size 39 [.int .i64 k, .string dg, .int .i64 vi, .int .i64 tg.who, .string tg.mac, .int .i64 ba.author, .int .i64 ba.number, .slice ba.ta ba.txs.length ba.tc, .int .i64 he.author, .int .i64 he.round, .slice he.ra he.refs.length he.rc, .slice he.pa he.parents.length he.pc, .int .i64 ce.hdr.author, .int .i64 ce.hdr.round, .slice ce.hdr.ra ce.hdr.refs.length ce.hdr.rc, .slice ce.hdr.pa ce.hdr.parents.length ce.hdr.pc, .slice ce.va ce.votes.length ce.vc, .int .i64 bl.view, .int .i64 bl.qc.view, .string bl.qc.block, .slice bl.qc.va bl.qc.votes.length bl.qc.vc, .slice bl.ca bl.certs.length bl.cc, .int .i64 q.view, .string q.block, .slice q.va q.votes.length q.vc]) (by kernel_rfl) hXd (fun hHeld => ?_)
  generalize w2.drew = w3 at hXd hBd hHeld ⊢
  refine wpAnyH_takeD (i := 0) (v := .agg [.int .i64 k, .string dg, .int .i64 vi, .int .i64 tg.who, .string tg.mac, .int .i64 ba.author, .int .i64 ba.number, .slice ba.ta ba.txs.length ba.tc, .int .i64 he.author, .int .i64 he.round, .slice he.ra he.refs.length he.rc, .slice he.pa he.parents.length he.pc, .int .i64 ce.hdr.author, .int .i64 ce.hdr.round, .slice ce.hdr.ra ce.hdr.refs.length ce.hdr.rc, .slice ce.hdr.pa ce.hdr.parents.length ce.hdr.pc, .slice ce.va ce.votes.length ce.vc, .int .i64 bl.view, .int .i64 bl.qc.view, .string bl.qc.block, .slice bl.qc.va bl.qc.votes.length bl.qc.vc, .slice bl.ca bl.certs.length bl.cc, .int .i64 q.view, .string q.block, .slice q.va q.votes.length q.vc].toArray) (some 8) rfl rfl (by kernel_rfl) (by kernel_rfl) (by kernel_rfl) (fun _ _ _ h => h) (yieldsIf_load_mid (by rfl) 39 _ (by rfl) w.heap.size 0 (by rfl) [.int .i64 k, .string dg, .int .i64 vi, .int .i64 tg.who, .string tg.mac, .int .i64 ba.author, .int .i64 ba.number, .slice ba.ta ba.txs.length ba.tc, .int .i64 he.author, .int .i64 he.round, .slice he.ra he.refs.length he.rc, .slice he.pa he.parents.length he.pc, .int .i64 ce.hdr.author, .int .i64 ce.hdr.round, .slice ce.hdr.ra ce.hdr.refs.length ce.hdr.rc, .slice ce.hdr.pa ce.hdr.parents.length ce.hdr.pc, .slice ce.va ce.votes.length ce.vc, .int .i64 bl.view, .int .i64 bl.qc.view, .string bl.qc.block, .slice bl.qc.va bl.qc.votes.length bl.qc.vc, .slice bl.ca bl.certs.length bl.cc, .int .i64 q.view, .string q.block, .slice q.va q.votes.length q.vc] _ (fun w' hw' => range_arr hw') Tryz.underlying39 (by rfl) infoMsg9) (by assumption) ?_
  simp only [Act.put, List.setIfInBounds_toArray, List.set_cons_zero, List.set_cons_succ]
  refine wpAnyH_takeD (i := 3) (v := .agg [.int .i64 k, .string dg, .int .i64 vi, .int .i64 tg.who, .string tg.mac, .int .i64 ba.author, .int .i64 ba.number, .slice ba.ta ba.txs.length ba.tc, .int .i64 he.author, .int .i64 he.round, .slice he.ra he.refs.length he.rc, .slice he.pa he.parents.length he.pc, .int .i64 ce.hdr.author, .int .i64 ce.hdr.round, .slice ce.hdr.ra ce.hdr.refs.length ce.hdr.rc, .slice ce.hdr.pa ce.hdr.parents.length ce.hdr.pc, .slice ce.va ce.votes.length ce.vc, .int .i64 bl.view, .int .i64 bl.qc.view, .string bl.qc.block, .slice bl.qc.va bl.qc.votes.length bl.qc.vc, .slice bl.ca bl.certs.length bl.cc, .int .i64 q.view, .string q.block, .slice q.va q.votes.length q.vc].toArray) (some 11) rfl rfl (by kernel_rfl) (by kernel_rfl) (by kernel_rfl) (fun _ _ _ h => h) (yieldsIf_load_mid (by rfl) 39 _ (by rfl) w.heap.size 0 (by rfl) [.int .i64 k, .string dg, .int .i64 vi, .int .i64 tg.who, .string tg.mac, .int .i64 ba.author, .int .i64 ba.number, .slice ba.ta ba.txs.length ba.tc, .int .i64 he.author, .int .i64 he.round, .slice he.ra he.refs.length he.rc, .slice he.pa he.parents.length he.pc, .int .i64 ce.hdr.author, .int .i64 ce.hdr.round, .slice ce.hdr.ra ce.hdr.refs.length ce.hdr.rc, .slice ce.hdr.pa ce.hdr.parents.length ce.hdr.pc, .slice ce.va ce.votes.length ce.vc, .int .i64 bl.view, .int .i64 bl.qc.view, .string bl.qc.block, .slice bl.qc.va bl.qc.votes.length bl.qc.vc, .slice bl.ca bl.certs.length bl.cc, .int .i64 q.view, .string q.block, .slice q.va q.votes.length q.vc] _ (fun w' hw' => range_arr hw') Tryz.underlying39 (by rfl) infoMsg9) (by assumption) ?_
  simp only [Act.put, List.setIfInBounds_toArray, List.set_cons_zero, List.set_cons_succ]
  refine wpAnyH_ready (rs := [1]) (by kernel_rfl) (by simp) ?_
  refine AllReadyH.cons rfl (fun K' hK => ?_) AllReadyH.nil
  go_simp
  refine (cO.out _ (hA.below hBd) hL).mono ?_
  rintro e w4 ⟨y, rfl, hyd, hy, hyf, hb4⟩
  have hX4 := hXd.below hb4 hXd.lt
  have hB4 := hBd.trans (hb4.mono hBd.size)
  refine hK.out _ _ hX4 (fun hHeld4 => ?_)
  clear hK K' hXd hBd hHeld hb4
  refine wpAnyH_ready (rs := [2]) (by kernel_rfl) (by simp) ?_
  refine AllReadyH.cons rfl (fun K' hK => ?_) AllReadyH.nil
  have cP4 := cP.out y w4 hyd hy (hG.below hB4)
  generalize y.v = vy at cP4 ⊢
  go_simp
  refine cP4.mono ?_
  rintro e w5 ⟨aoP, capP, rfl, hRP, hb5⟩
  have hX5 := hX4.below hb5 hX4.lt
  have hB5 := hB4.trans (hb5.mono hB4.size)
  refine hK.out _ _ hX5 (fun hHeld5 => ?_)
  clear hK K' hX4 hB4 hHeld4 hb5 cP4 hy hyf hyd
  refine wpAnyH_ready (rs := [4]) (by kernel_rfl) (by simp) ?_
  refine AllReadyH.cons rfl (fun K' hK => ?_) AllReadyH.nil
  go_simp
  refine (cR.out _ (hA.below hB5)).mono ?_
  rintro e w6 ⟨aoR, capR, rfl, hRR, hb6⟩
  have hX6 := hX5.below hb6 hX5.lt
  have hB6 := hB5.trans (hb6.mono hB5.size)
  have hRP6 := hRP.below hb6
  refine hK.out _ _ hX6 (fun hHeld6 => ?_)
  clear hK K' hX5 hB5 hHeld5 hb6 hRP
  refine wpAnyH_ready (rs := [5]) (by kernel_rfl) (by simp) ?_
  refine AllReadyH.cons rfl (fun K' hK => ?_) AllReadyH.nil
  go_simp
  refine hK.out _ _ hX6 (fun hHeld7 => ?_)
  clear hK K'
  refine wpAnyH_ready (rs := [6]) (by kernel_rfl) (by simp) ?_
  refine AllReadyH.cons rfl (fun K' hK => ?_) AllReadyH.nil
  go_simp
  refine hK.out _ _ hX6 (fun hHeld8 => ?_)
  clear hK K' hX6 hHeld6 hHeld7 hHeld8
  refine wpAnyH_done (by kernel_rfl) ?_ _
  go_wp2_with fail
  go_loopw [5] (fun v5 wr => ∃ i : Nat, i ≤ l.length ∧ v5 = .int .i64 (i : Int) ∧ Below w6.heap.size w6 wr) (fun v _ => l.length - (intOf v).toNat)
  case atStart => exact ⟨0, Nat.zero_le _, rfl, Below.refl _ _⟩
  case round =>
    obtain ⟨i, hil, rfl, hbr⟩ := hrel
    by_cases hlt : i < l.length
    · have g1 : (i : Int) < (l.length : Int) := by omega
      obtain ⟨x, hx⟩ : ∃ x, l[i]? = some x := ⟨_, List.getElem?_eq_getElem hlt⟩
      obtain ⟨b, off, rfl, _, y0, y1, y2, y3⟩ := (hRP6.below hbr).word hx
      obtain ⟨c, of2, rfl, _, z0, z1, z2, z3⟩ := (hRR.below hbr).word hx
      go_wp2_with fail
      go_big_quiet (fail)
      have hbq := hbr.trans ((below_drewN (Below.refl wr.heap.size wr) nq).mono hbr.size)
      generalize wr.drewN nq = w7 at hbq ⊢
      clear y0 y1 y2 y3 z0 z1 z2 z3
      go_wp2
      go_roundw
      case rel => exact ⟨i + 1, by omega, by go_num, hbq⟩
      case measure => simp [intOf]; omega
    · obtain rfl : i = l.length := by omega
      have g1 : ¬ ((l.length : Nat) : Int) < (l.length : Int) := by omega
      have hbF := hB6.trans (hbr.mono hB6.size)
      go_wp2
      go_ret
      exact ⟨rfl, hbF⟩
end Go.Proofs.YtaoiejgbbmjpkaaGreatDoor

/- MsgWords: for every input the statement answers true, and each argument reads afterwards as it read before. Condition: the two tables of package mix read as the program's text lays them; no other. -/
namespace Go.Proofs.YtaoiejgbbmjpkaaGreatDoor
open Go.ChangeShapes Go.WideShapes Go.ChangeAt Go.RowKit
open Go.ChangeMaps (open_string shut_string)
set_option linter.unusedVariables false

set_option maxRecDepth 100000 in
theorem msgWords_lifted (os : Os) (started : os.Started) (H : Type) (enc : TypeId × Value → H) :
    ReturnsInHanded {} Tryz.checked os 3 .any (fun w args => (Rows.msgWordsSpec.pre enc Tryz.prog Tryz.f3 [] false w args ∧ laidMetH Tryz.prog Mx.laid2 w) ∧ sizedMet enc Tryz.prog Tryz.f3 (OpenSpec.ofChange Rows.msgWordsSpec) false w args)
      (Rows.msgWordsSpec.post enc Tryz.prog Tryz.f3 false true false false) := by
  refine returnsInHanded_of_change_and (C := Tryz.checked) (X := fun w _ => laidMetH Tryz.prog Mx.laid2 w) (fun _ _ _ hh h => h.of_heap hh) ownKnob_none started (by kernel_rfl) Tryz.func3
    (ChangeSpec.witness_shaped (enc := enc) (C := Tryz.checked) (os := os) (X := fun w _ => laidMetH Tryz.prog Mx.laid2 w) false (World.doorLaid Tryz.prog 400 os) #[.agg #[.int .i64 0, .string ByteArray.empty, .int .i64 0, .int .i64 0, .string ByteArray.empty, .int .i64 0, .int .i64 0, .slice none 0 0, .int .i64 0, .int .i64 0, .slice none 0 0, .slice none 0 0, .int .i64 0, .int .i64 0, .slice none 0 0, .slice none 0 0, .slice none 0 0, .int .i64 0, .int .i64 0, .string ByteArray.empty, .slice none 0 0, .slice none 0 0, .int .i64 0, .string ByteArray.empty, .slice none 0 0]] 8 rfl (World.shaped_of_RefB (by kernel_rfl) (by kernel_rfl)) (by kernel_rfl) (by kernel_rfl) (by kernel_rfl) (Mx.door_met os _)) ?_
  intro W base args ds gs before hval0 hW hcnd hsz0 hL _
  have hval : ∀ (j : Nat) t v, Tryz.f3.params[j]? = some t → args[j]? = some v → Value.okWide Tryz.prog W .any base t v := hval0
  have hsz : (DataW.weightsEach Tryz.prog (Tryz.f3.params.toList ++ Rows.msgWordsSpec.plain.varTypes Tryz.prog) (ds ++ gs)).all (· ≤ reachBytes) = true := hsz0
  have hW' := hW
  obtain ⟨p, q, hA0, hV, rfl, hfz, hnd⟩ := hW
  have hA : DataW.TrodAll enc Tryz.prog W 0 (fun _ => true) true Tryz.f3.params.toList args.toList ds p := hA0
  rw [Tryz.params3] at hA hval hsz
  obtain ⟨v0, vs0, d0, ds0, p0, q0, hargs, rfl, rfl, h0, r0⟩ := trodAll_cons hA
  obtain ⟨rfl, rfl, rfl⟩ := trodAll_nil r0
  obtain rfl : args = #[v0] := by cases args; simp_all
  obtain ⟨rfl, rfl⟩ := trodVars_none hV
  have k0 := h0
  have lt0 : ∀ x ∈ p0, x.block < W.heap.size := by obtain ⟨m, hm⟩ := k0; exact DataW.trod_lt m _ _ _ hm
  obtain ⟨x0, rfl, at0, sd0, zs0, ln0, wf0⟩ := open_msg (hval 0 39 v0 rfl rfl) h0
  have in0 := msg_sized hsz (j := 0) rfl rfl sd0 zs0 ln0
  clear hA0 hval0 hsz0
  refine (msgWords_walk x0 W at0 in0 (Mx.of_laid hL)).mono fun e W' ⟨he, bel⟩ => ?_
  subst he
  exact ⟨_, rfl, _, _, _, [], _, [], hW', trodAll_mk1 (shut_bool Tryz.underlying4 _), (trodAll_cons_mk (Below.trod laidOut_true (by kernel_rfl) (of_decide_eq_true (by kernel_rfl)) k0 bel lt0) trodAll_mk0), rfl, bel.frame _, fun h => by cases h⟩

theorem msgWords_holds : Rows.MsgWordsSaid :=
  OpenClaim.holds_of_wide 3 Tryz.f3 rfl rfl rfl rfl rfl rfl rfl ⟨rfl, rfl, rfl, rfl, rfl⟩ rfl rfl rfl rfl rfl (by kernel_rfl) Tryz.func3 (by kernel_rfl)
    (of_decide_eq_true (by kernel_rfl)) (by unfold Func.isWrapper; rw [if_neg (of_decide_eq_false (by kernel_rfl))]; exact ⟨rfl, rfl⟩)
    (fun os started H enc _ => msgWords_lifted os started H enc)

theorem msgWords_card : Rows.MsgWordsCardSaid :=
  Claim7.holds_tied_plain_at .later [] [.data, .data] true (true, "37fdbc23721d9236c579a7f2280ce951d5bbd052fe92f937da2dbbac692c0bb8") true
    msgWords_holds (fun _ h => by cases h) (by kernel_rfl) (fun _ h => by cases h) msgWords_row_tie rfl ⟨rfl, rfl⟩ (by kernel_rfl) rfl
    (fun f fn hf hfn => by
      obtain rfl : f = 3 := Option.some.inj ((show Tryz.prog.funcNamed "tusk/tusklaw09.MsgWords" = some 3 by kernel_rfl).symm.trans hf) |>.symm
      obtain rfl : fn = Tryz.f3 := (Option.some.inj (Tryz.func3.symm.trans hfn)).symm
      exact ⟨by kernel_rfl, fun j t ht => by
        rw [Tryz.params3] at ht
        have hall : ∀ t ∈ (#[39] : Array TypeId).toList, Tryz.prog.wantsStandIn t = false := by
          show ∀ t ∈ ([39] : List TypeId), Tryz.prog.wantsStandIn t = false
          refine List.forall_mem_cons.2 ⟨by kernel_rfl, ?_⟩
          exact fun _ h => by cases h
        exact hall t (Array.mem_toList_iff.2 (Array.mem_of_getElem? ht))⟩)
    (by kernel_rfl)
end Go.Proofs.YtaoiejgbbmjpkaaGreatDoor
