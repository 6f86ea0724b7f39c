/- MsgBack: for every input the statement answers true, and each argument reads afterwards as it read before. No condition. -/
import Derived.Test.YtmngiekobmhpaaaGreatBk13
import Derived.Test.YtmngiekobmhpaaaGreatBk18
import Derived.Test.YtmngiekobmhpaaaGreatBk19
import Derived.Test.YtmngiekobmhpaaaGreatBk02
/- tusklaw09.MsgBack answers true; nothing old in memory is turned. -/
namespace Go.Proofs.YtmngiekobmhpaaaGreat
open Go.RowKit Go.Sort
set_option linter.unusedVariables false

/-- A place below k. -/
theorem pick_at9 (f : Int) (k : Nat) (hk : 0 < k) (hk2 : k < 9223372036854775808) : ∃ j : Nat, j < k ∧ wrap64 ((IntKind.u64.wrap f).tmod (k : Int)) = (j : Int) := by
  have h0 : 0 ≤ IntKind.u64.wrap f := by
    have : IntKind.u64.wrap f = f % 18446744073709551616 := by simp [IntKind.wrap, IntKind.bits, IntKind.signed]
    rw [this]
    omega
  rw [Int.tmod_eq_emod_of_nonneg h0]
  generalize IntKind.u64.wrap f = m at h0
  have hlt := Int.emod_lt_of_pos m (show (0 : Int) < (k : Int) by omega)
  have hge := Int.emod_nonneg m (show (k : Int) ≠ 0 by omega)
  refine ⟨(m % (k : Int)).toNat, by omega, ?_⟩
  unfold wrap64
  omega

theorem few_fields : ∀ (cs : List UInt8), (∀ c ∈ cs, c ∈ letters) → ∀ (p m : MsgD) (l : List UInt8) (f : MsgD → List UInt8 → Except Nat MsgD), p.Few → (∀ q r, f q r = .ok m → q.Few → m.Few) → rdFs cs p l f = .ok m → m.Few
  | [], _, p, m, l, f, hp, hf, h => hf p l h hp
  | c :: cs, hc, p, m, l, f, hp, hf, h => by
    rw [rdFs, rdF_step] at h
    cases hs : stepF c p l with
    | error e => rw [hs] at h; cases h
    | ok q =>
      obtain ⟨q, r⟩ := q
      rw [hs] at h
      exact few_fields cs (fun x hx => hc x (by simp [hx])) q m r f (few_step (hc c (by simp)) hs hp) hf h

theorem decM_few {l : List UInt8} {m : MsgD} (h : decM l = .ok m) : m.Few := by
  unfold decM at h
  rcases hg : getInt l with ⟨v, k, e⟩
  by_cases he : e = 0
  · subst he
    rw [rdI_ok hg] at h
    split at h
    · cases h
    refine few_fields _ (fieldsK_letters _).2 _ m _ _ (few_zero _) (fun q r hq hf => ?_) h
    split at hq
    · cases hq
    split at hq
    · cases hq
    simp only [Except.ok.injEq] at hq
    rw [← hq]
    exact hf
  · rw [rdI_err hg he] at h
    cases h

theorem encM_pos {m : MsgD} (h : chkM m = 0) : encM m ≠ [] := by
  have hk := kind_cases (chkM_parts h).1
  obtain ⟨n, hn⟩ := Int.eq_ofNat_of_zero_le (show 0 ≤ m.kind by omega)
  unfold encM
  rw [hn]
  intro e
  exact goInt_ne n (by omega) (List.append_eq_nil_iff.1 e).1

set_option maxRecDepth 100000 in
set_option maxHeartbeats 16000000 in
theorem msgBack_walk (x : MsgM) (s : ByteArray) (a : Int) (w : World) (hA : x.At w) (hI : x.In) (hs : s.size ≤ 140737488351232) (hwf : (Lit.int .i64 a).wf = true) :
    Calls Tryz.prog 4 #[x.v, .string s, .int .i64 a] w fun e w' => e = .returned (.bool true) ∧ Below w.heap.size w w' := by
  have hn := hI.num
  have hmx := hI.max
  have HLn : Hid (x.bat.txs.length ≤ 50 → x.Lens) := hI.lens
  clear hI hwf
  have cW := works9_any
  have cG := fun w1 h1 => great9_any x w1 h1 hmx
  have cO := fun w1 h1 hl => own9_any x w1 h1 hl
  have cD2 := fun w1 => msgDecode_any s w1 (by unfold maxLen; omega)
  have cS := fun (y : MsgM) w1 h1 h2 hd hny => sameM_any y x w1 h1 h2 hd hny
  have hNy := fun (y : MsgM) (h : y.d = x.d) => num_same h hn
  obtain ⟨xd, hxd⟩ : ∃ d, Hid (d = x.d) := ⟨_, rfl⟩
  obtain ⟨k, dg, vi, tg, ba, he, ce, bl, q⟩ := x
  have hX := Arr.new w 39 [.int .i64 k, .string dg, .int .i64 vi, .int .i64 tg.who, .string tg.mac, .int .i64 ba.author, .int .i64 ba.number, .slice ba.ta ba.txs.length ba.tc, .int .i64 he.author, .int .i64 he.round, .slice he.ra he.refs.length he.rc, .slice he.pa he.parents.length he.pc, .int .i64 ce.hdr.author, .int .i64 ce.hdr.round, .slice ce.hdr.ra ce.hdr.refs.length ce.hdr.rc, .slice ce.hdr.pa ce.hdr.parents.length ce.hdr.pc, .slice ce.va ce.votes.length ce.vc, .int .i64 bl.view, .int .i64 bl.qc.view, .string bl.qc.block, .slice bl.qc.va bl.qc.votes.length bl.qc.vc, .slice bl.ca bl.certs.length bl.cc, .int .i64 q.view, .string q.block, .slice q.va q.votes.length q.vc]
  have hB := belowNew w (.cells [.int .i64 k, .string dg, .int .i64 vi, .int .i64 tg.who, .string tg.mac, .int .i64 ba.author, .int .i64 ba.number, .slice ba.ta ba.txs.length ba.tc, .int .i64 he.author, .int .i64 he.round, .slice he.ra he.refs.length he.rc, .slice he.pa he.parents.length he.pc, .int .i64 ce.hdr.author, .int .i64 ce.hdr.round, .slice ce.hdr.ra ce.hdr.refs.length ce.hdr.rc, .slice ce.hdr.pa ce.hdr.parents.length ce.hdr.pc, .slice ce.va ce.votes.length ce.vc, .int .i64 bl.view, .int .i64 bl.qc.view, .string bl.qc.block, .slice bl.qc.va bl.qc.votes.length bl.qc.vc, .slice bl.ca bl.certs.length bl.cc, .int .i64 q.view, .string q.block, .slice q.va q.votes.length q.vc].toArray 39)
  unfold MsgM.v MsgM.c at cG cO ⊢
  simp only at cG cO ⊢
  obtain ⟨w1, hw1⟩ : ∃ q', w.alloc (.cells [.int .i64 k, .string dg, .int .i64 vi, .int .i64 tg.who, .string tg.mac, .int .i64 ba.author, .int .i64 ba.number, .slice ba.ta ba.txs.length ba.tc, .int .i64 he.author, .int .i64 he.round, .slice he.ra he.refs.length he.rc, .slice he.pa he.parents.length he.pc, .int .i64 ce.hdr.author, .int .i64 ce.hdr.round, .slice ce.hdr.ra ce.hdr.refs.length ce.hdr.rc, .slice ce.hdr.pa ce.hdr.parents.length ce.hdr.pc, .slice ce.va ce.votes.length ce.vc, .int .i64 bl.view, .int .i64 bl.qc.view, .string bl.qc.block, .slice bl.qc.va bl.qc.votes.length bl.qc.vc, .slice bl.ca bl.certs.length bl.cc, .int .i64 q.view, .string q.block, .slice q.va q.votes.length q.vc].toArray 39) = q' := ⟨_, rfl⟩
  rw [hw1] at hX hB
  go_enter Tryz.func4, Tryz.ntmps4
  go_wp2_with fail
  refine (cW _).mono ?_
  rintro e w2 ⟨rfl, hb⟩
  have hX2 := hX.below hb hX.lt
  have hB2 := hB.trans (hb.mono hB.size)
  clear hX hB hb cW hw1
  go_wp2_with (refine wpList_load_row (by rfl) 39 _ (by rfl) w.heap.size (by rfl) 39 _ (0, 0) _ hX2 Tryz.underlying39 (by rfl) infoMsg9 ?_)
  refine (cG _ (hA.below hB2)).mono ?_
  rintro e w3 ⟨⟨g, rfl, hg⟩, hb⟩
  have hX3 := hX2.below hb hX2.lt
  have hB3 := hB2.trans (hb.mono hB2.size)
  clear hX2 hB2 hb cG
  cases g
  case true =>
    clear hg
    go_wp2
    go_ret
    exact ⟨rfl, hB3⟩
  by_cases hbig : (20000 : Int) < (s.size : Int)
  · clear hg
    go_wp2
    go_ret
    exact ⟨rfl, hB3⟩
  have hL := HLn.out (hg rfl).1
  clear hg HLn
  go_wp2_with (refine wpList_load_row (by rfl) 39 _ (by rfl) w.heap.size (by rfl) 39 _ (0, 0) _ hX3 Tryz.underlying39 (by rfl) infoMsg9 ?_)
  refine (cO _ (hA.below hB3) hL).mono ?_
  rintro e w4 ⟨y, rfl, hyd, hy, hyf, hb⟩
  have hX4 := hX3.below hb hX3.lt
  have hB4 := hB3.trans (hb.mono hB3.size)
  clear hX3 hB3 hb cO hL
  have cE := msgEncode_any y w4 hy (hNy y hyd)
  rw [hyd, ← hxd.out] at cE
  obtain ⟨er, her⟩ : ∃ n : Nat, n = chkM xd := ⟨_, rfl⟩
  have HE : Hid (encMB xd = if er = 0 then ⟨(encM xd).toArray⟩ else ⟨#[]⟩) := by
    show _ = _
    rw [her]
    rfl
  have HC : Hid (er = chkM xd) := her
  rw [← her] at cE
  obtain ⟨ob, hob⟩ : ∃ o, o = encMB xd := ⟨_, rfl⟩
  rw [← hob] at cE HE
  clear hob her hyf
  have hyv := y.v
  generalize y.v = vy at cE ⊢
  clear hyv hy hyd y
  go_wp2_with fail
  refine cE.mono ?_
  rintro e w5 ⟨rfl, hb⟩
  have hX := hX4.below hb hX4.lt
  have hB := hB4.trans (hb.mono hB4.size)
  clear hX4 hB4 hb cE
  by_cases hz : er = 0
  case neg =>
    have hz' : ((er : Int) == 0) = false := by rw [beq_eq_false_iff_ne]; omega
    clear HE HC hz hNy cS
    go_wp2_with fail
    refine (cD2 _).mono ?_
    rintro e w20 ⟨u, eu, rfl, hu, hres, hfu, hb20⟩
    have hB20 := hB.trans (hb20.mono hB.size)
    clear hX hB hb20 cD2
    rcases hres with ⟨rfl, hdec⟩ | ⟨he, hdec, rfl⟩
    · obtain ⟨hc0, henc, _⟩ := encM_dec hdec
      have cE2 := fun w1 h1 => msgEncode_any u w1 h1 (few_num (decM_few hdec))
      have hob : encMB u.d = s := by
        unfold encMB
        rw [if_pos hc0, henc]
      rw [hob, hc0] at cE2
      clear hc0 henc hob hdec hfu
      obtain ⟨uk, udg, uvi, utg, uba, uhe, uce, ubl, uq⟩ := u
      unfold MsgM.v MsgM.c at cE2 ⊢
      simp only at cE2 ⊢
      have hN0 := Arr.new w20 39 [.int .i64 0, .string ⟨#[]⟩, .int .i64 0, .int .i64 0, .string ⟨#[]⟩, .int .i64 0, .int .i64 0, .slice none 0 0, .int .i64 0, .int .i64 0, .slice none 0 0, .slice none 0 0, .int .i64 0, .int .i64 0, .slice none 0 0, .slice none 0 0, .slice none 0 0, .int .i64 0, .int .i64 0, .string ⟨#[]⟩, .slice none 0 0, .slice none 0 0, .int .i64 0, .string ⟨#[]⟩, .slice none 0 0]
      have hbn := belowNew w20 (.cells [.int .i64 0, .string ⟨#[]⟩, .int .i64 0, .int .i64 0, .string ⟨#[]⟩, .int .i64 0, .int .i64 0, .slice none 0 0, .int .i64 0, .int .i64 0, .slice none 0 0, .slice none 0 0, .int .i64 0, .int .i64 0, .slice none 0 0, .slice none 0 0, .slice none 0 0, .int .i64 0, .int .i64 0, .string ⟨#[]⟩, .slice none 0 0, .slice none 0 0, .int .i64 0, .string ⟨#[]⟩, .slice none 0 0].toArray 39)
      have h1 : (List.toArray (α := Value) [.int .i64 uk, .string udg, .int .i64 uvi, .int .i64 utg.who, .string utg.mac, .int .i64 uba.author, .int .i64 uba.number, .slice uba.ta uba.txs.length uba.tc, .int .i64 uhe.author, .int .i64 uhe.round, .slice uhe.ra uhe.refs.length uhe.rc, .slice uhe.pa uhe.parents.length uhe.pc, .int .i64 uce.hdr.author, .int .i64 uce.hdr.round, .slice uce.hdr.ra uce.hdr.refs.length uce.hdr.rc, .slice uce.hdr.pa uce.hdr.parents.length uce.hdr.pc, .slice uce.va uce.votes.length uce.vc, .int .i64 ubl.view, .int .i64 ubl.qc.view, .string ubl.qc.block, .slice ubl.qc.va ubl.qc.votes.length ubl.qc.vc, .slice ubl.ca ubl.certs.length ubl.cc, .int .i64 uq.view, .string uq.block, .slice uq.va uq.votes.length uq.vc]).all (·.oneCell') = true := Array.all_eq_true_iff_forall_mem.2 (fun v hv => msgK.one ⟨uk, udg, uvi, utg, uba, uhe, uce, ubl, uq⟩ v (List.mem_toArray.1 hv))
      have kN := kept_row (w20.alloc (.cells [.int .i64 0, .string ⟨#[]⟩, .int .i64 0, .int .i64 0, .string ⟨#[]⟩, .int .i64 0, .int .i64 0, .slice none 0 0, .int .i64 0, .int .i64 0, .slice none 0 0, .slice none 0 0, .int .i64 0, .int .i64 0, .slice none 0 0, .slice none 0 0, .slice none 0 0, .int .i64 0, .int .i64 0, .string ⟨#[]⟩, .slice none 0 0, .slice none 0 0, .int .i64 0, .string ⟨#[]⟩, .slice none 0 0].toArray 39)) w20.heap.size [.int .i64 uk, .string udg, .int .i64 uvi, .int .i64 utg.who, .string utg.mac, .int .i64 uba.author, .int .i64 uba.number, .slice uba.ta uba.txs.length uba.tc, .int .i64 uhe.author, .int .i64 uhe.round, .slice uhe.ra uhe.refs.length uhe.rc, .slice uhe.pa uhe.parents.length uhe.pc, .int .i64 uce.hdr.author, .int .i64 uce.hdr.round, .slice uce.hdr.ra uce.hdr.refs.length uce.hdr.rc, .slice uce.hdr.pa uce.hdr.parents.length uce.hdr.pc, .slice uce.va uce.votes.length uce.vc, .int .i64 ubl.view, .int .i64 ubl.qc.view, .string ubl.qc.block, .slice ubl.qc.va ubl.qc.votes.length ubl.qc.vc, .slice ubl.ca ubl.certs.length ubl.cc, .int .i64 uq.view, .string uq.block, .slice uq.va uq.votes.length uq.vc].toArray
      have hbS := below_setRow hbn (g := w20.heap.size) (Nat.le_refl _) [.int .i64 uk, .string udg, .int .i64 uvi, .int .i64 utg.who, .string utg.mac, .int .i64 uba.author, .int .i64 uba.number, .slice uba.ta uba.txs.length uba.tc, .int .i64 uhe.author, .int .i64 uhe.round, .slice uhe.ra uhe.refs.length uhe.rc, .slice uhe.pa uhe.parents.length uhe.pc, .int .i64 uce.hdr.author, .int .i64 uce.hdr.round, .slice uce.hdr.ra uce.hdr.refs.length uce.hdr.rc, .slice uce.hdr.pa uce.hdr.parents.length uce.hdr.pc, .slice uce.va uce.votes.length uce.vc, .int .i64 ubl.view, .int .i64 ubl.qc.view, .string ubl.qc.block, .slice ubl.qc.va ubl.qc.votes.length ubl.qc.vc, .slice ubl.ca ubl.certs.length ubl.cc, .int .i64 uq.view, .string uq.block, .slice uq.va uq.votes.length uq.vc].toArray
      have hNew := hN0.row [.int .i64 uk, .string udg, .int .i64 uvi, .int .i64 utg.who, .string utg.mac, .int .i64 uba.author, .int .i64 uba.number, .slice uba.ta uba.txs.length uba.tc, .int .i64 uhe.author, .int .i64 uhe.round, .slice uhe.ra uhe.refs.length uhe.rc, .slice uhe.pa uhe.parents.length uhe.pc, .int .i64 uce.hdr.author, .int .i64 uce.hdr.round, .slice uce.hdr.ra uce.hdr.refs.length uce.hdr.rc, .slice uce.hdr.pa uce.hdr.parents.length uce.hdr.pc, .slice uce.va uce.votes.length uce.vc, .int .i64 ubl.view, .int .i64 ubl.qc.view, .string ubl.qc.block, .slice ubl.qc.va ubl.qc.votes.length ubl.qc.vc, .slice ubl.ca ubl.certs.length ubl.cc, .int .i64 uq.view, .string uq.block, .slice uq.va uq.votes.length uq.vc]
      have hu2 := MsgM.At.below hu hbS
      have hBF := hB20.trans (hbS.mono hB20.size)
      clear hbn kN hbS hu hB20
      go_wp2_with (first | refine wpList_load_row (by rfl) 39 _ (by rfl) w20.heap.size (by rfl) 39 _ (0, 0) _ hNew Tryz.underlying39 (by rfl) infoMsg9 ?_ | refine wpList_store_row (by rfl) 39 _ _ (by rfl) w20.heap.size [.int .i64 uk, .string udg, .int .i64 uvi, .int .i64 utg.who, .string utg.mac, .int .i64 uba.author, .int .i64 uba.number, .slice uba.ta uba.txs.length uba.tc, .int .i64 uhe.author, .int .i64 uhe.round, .slice uhe.ra uhe.refs.length uhe.rc, .slice uhe.pa uhe.parents.length uhe.pc, .int .i64 uce.hdr.author, .int .i64 uce.hdr.round, .slice uce.hdr.ra uce.hdr.refs.length uce.hdr.rc, .slice uce.hdr.pa uce.hdr.parents.length uce.hdr.pc, .slice uce.va uce.votes.length uce.vc, .int .i64 ubl.view, .int .i64 ubl.qc.view, .string ubl.qc.block, .slice ubl.qc.va ubl.qc.votes.length ubl.qc.vc, .slice ubl.ca ubl.certs.length ubl.cc, .int .i64 uq.view, .string uq.block, .slice uq.va uq.votes.length uq.vc].toArray (by rfl) (by rfl) 39 _ hN0 infoMsg9 (by rfl) h1 ?_)
      refine (cE2 _ hu2).mono ?_
      rintro e w21 ⟨rfl, hb21⟩
      have hB21 := hBF.trans (hb21.mono hBF.size)
      clear cE2 hu2 hBF hb21 hNew hN0 h1
      go_wp2
      go_ret
      exact ⟨rfl, hB21⟩
    · have hne : ((eu : Int) != 0) = true := by rw [bne_iff_ne]; omega
      clear hdec hu hfu
      have hN0 := Arr.new w20 39 [.int .i64 0, .string ⟨#[]⟩, .int .i64 0, .int .i64 0, .string ⟨#[]⟩, .int .i64 0, .int .i64 0, .slice none 0 0, .int .i64 0, .int .i64 0, .slice none 0 0, .slice none 0 0, .int .i64 0, .int .i64 0, .slice none 0 0, .slice none 0 0, .slice none 0 0, .int .i64 0, .int .i64 0, .string ⟨#[]⟩, .slice none 0 0, .slice none 0 0, .int .i64 0, .string ⟨#[]⟩, .slice none 0 0]
      have hbn := belowNew w20 (.cells [.int .i64 0, .string ⟨#[]⟩, .int .i64 0, .int .i64 0, .string ⟨#[]⟩, .int .i64 0, .int .i64 0, .slice none 0 0, .int .i64 0, .int .i64 0, .slice none 0 0, .slice none 0 0, .int .i64 0, .int .i64 0, .slice none 0 0, .slice none 0 0, .slice none 0 0, .int .i64 0, .int .i64 0, .string ⟨#[]⟩, .slice none 0 0, .slice none 0 0, .int .i64 0, .string ⟨#[]⟩, .slice none 0 0].toArray 39)
      have h1 : (List.toArray (α := Value) [.int .i64 0, .string ⟨#[]⟩, .int .i64 0, .int .i64 0, .string ⟨#[]⟩, .int .i64 0, .int .i64 0, .slice none 0 0, .int .i64 0, .int .i64 0, .slice none 0 0, .slice none 0 0, .int .i64 0, .int .i64 0, .slice none 0 0, .slice none 0 0, .slice none 0 0, .int .i64 0, .int .i64 0, .string ⟨#[]⟩, .slice none 0 0, .slice none 0 0, .int .i64 0, .string ⟨#[]⟩, .slice none 0 0]).all (·.oneCell') = true := Array.all_eq_true_iff_forall_mem.2 (fun v hv => msgK.one (msg0 0) v (List.mem_toArray.1 hv))
      have kN := kept_row (w20.alloc (.cells [.int .i64 0, .string ⟨#[]⟩, .int .i64 0, .int .i64 0, .string ⟨#[]⟩, .int .i64 0, .int .i64 0, .slice none 0 0, .int .i64 0, .int .i64 0, .slice none 0 0, .slice none 0 0, .int .i64 0, .int .i64 0, .slice none 0 0, .slice none 0 0, .slice none 0 0, .int .i64 0, .int .i64 0, .string ⟨#[]⟩, .slice none 0 0, .slice none 0 0, .int .i64 0, .string ⟨#[]⟩, .slice none 0 0].toArray 39)) w20.heap.size [.int .i64 0, .string ⟨#[]⟩, .int .i64 0, .int .i64 0, .string ⟨#[]⟩, .int .i64 0, .int .i64 0, .slice none 0 0, .int .i64 0, .int .i64 0, .slice none 0 0, .slice none 0 0, .int .i64 0, .int .i64 0, .slice none 0 0, .slice none 0 0, .slice none 0 0, .int .i64 0, .int .i64 0, .string ⟨#[]⟩, .slice none 0 0, .slice none 0 0, .int .i64 0, .string ⟨#[]⟩, .slice none 0 0].toArray
      have hbS := below_setRow hbn (g := w20.heap.size) (Nat.le_refl _) [.int .i64 0, .string ⟨#[]⟩, .int .i64 0, .int .i64 0, .string ⟨#[]⟩, .int .i64 0, .int .i64 0, .slice none 0 0, .int .i64 0, .int .i64 0, .slice none 0 0, .slice none 0 0, .int .i64 0, .int .i64 0, .slice none 0 0, .slice none 0 0, .slice none 0 0, .int .i64 0, .int .i64 0, .string ⟨#[]⟩, .slice none 0 0, .slice none 0 0, .int .i64 0, .string ⟨#[]⟩, .slice none 0 0].toArray
      have hNew := hN0.row [.int .i64 0, .string ⟨#[]⟩, .int .i64 0, .int .i64 0, .string ⟨#[]⟩, .int .i64 0, .int .i64 0, .slice none 0 0, .int .i64 0, .int .i64 0, .slice none 0 0, .slice none 0 0, .int .i64 0, .int .i64 0, .slice none 0 0, .slice none 0 0, .slice none 0 0, .int .i64 0, .int .i64 0, .string ⟨#[]⟩, .slice none 0 0, .slice none 0 0, .int .i64 0, .string ⟨#[]⟩, .slice none 0 0]
      have hBF := hB20.trans (hbS.mono hB20.size)
      have x0 := hNew.cell (i := 0) rfl
      clear hbn kN hbS hB20
      go_wp2_with (refine wpList_store_row (by rfl) 39 _ _ (by rfl) w20.heap.size [.int .i64 0, .string ⟨#[]⟩, .int .i64 0, .int .i64 0, .string ⟨#[]⟩, .int .i64 0, .int .i64 0, .slice none 0 0, .int .i64 0, .int .i64 0, .slice none 0 0, .slice none 0 0, .int .i64 0, .int .i64 0, .slice none 0 0, .slice none 0 0, .slice none 0 0, .int .i64 0, .int .i64 0, .string ⟨#[]⟩, .slice none 0 0, .slice none 0 0, .int .i64 0, .string ⟨#[]⟩, .slice none 0 0].toArray (by rfl) (by rfl) 39 _ hN0 infoMsg9 (by rfl) h1 ?_)
      go_ret
      exact ⟨rfl, hBF⟩
  subst hz
  by_cases hlong : ¬ ob.size ≤ 65536
  · have hl' : decide ((ob.size : Int) ≤ 65536) = false := decide_eq_false (by omega)
    have hl2 : ¬ ((ob.size : Int) ≤ 65536) := by omega
    clear HE HC hNy cS hlong
    go_wp2_with fail
    refine (cD2 _).mono ?_
    rintro e w20 ⟨u, eu, rfl, hu, hres, hfu, hb20⟩
    have hB20 := hB.trans (hb20.mono hB.size)
    clear hX hB hb20 cD2
    rcases hres with ⟨rfl, hdec⟩ | ⟨he, hdec, rfl⟩
    · obtain ⟨hc0, henc, _⟩ := encM_dec hdec
      have cE2 := fun w1 h1 => msgEncode_any u w1 h1 (few_num (decM_few hdec))
      have hob : encMB u.d = s := by
        unfold encMB
        rw [if_pos hc0, henc]
      rw [hob, hc0] at cE2
      clear hc0 henc hob hdec hfu
      obtain ⟨uk, udg, uvi, utg, uba, uhe, uce, ubl, uq⟩ := u
      unfold MsgM.v MsgM.c at cE2 ⊢
      simp only at cE2 ⊢
      have hN0 := Arr.new w20 39 [.int .i64 0, .string ⟨#[]⟩, .int .i64 0, .int .i64 0, .string ⟨#[]⟩, .int .i64 0, .int .i64 0, .slice none 0 0, .int .i64 0, .int .i64 0, .slice none 0 0, .slice none 0 0, .int .i64 0, .int .i64 0, .slice none 0 0, .slice none 0 0, .slice none 0 0, .int .i64 0, .int .i64 0, .string ⟨#[]⟩, .slice none 0 0, .slice none 0 0, .int .i64 0, .string ⟨#[]⟩, .slice none 0 0]
      have hbn := belowNew w20 (.cells [.int .i64 0, .string ⟨#[]⟩, .int .i64 0, .int .i64 0, .string ⟨#[]⟩, .int .i64 0, .int .i64 0, .slice none 0 0, .int .i64 0, .int .i64 0, .slice none 0 0, .slice none 0 0, .int .i64 0, .int .i64 0, .slice none 0 0, .slice none 0 0, .slice none 0 0, .int .i64 0, .int .i64 0, .string ⟨#[]⟩, .slice none 0 0, .slice none 0 0, .int .i64 0, .string ⟨#[]⟩, .slice none 0 0].toArray 39)
      have h1 : (List.toArray (α := Value) [.int .i64 uk, .string udg, .int .i64 uvi, .int .i64 utg.who, .string utg.mac, .int .i64 uba.author, .int .i64 uba.number, .slice uba.ta uba.txs.length uba.tc, .int .i64 uhe.author, .int .i64 uhe.round, .slice uhe.ra uhe.refs.length uhe.rc, .slice uhe.pa uhe.parents.length uhe.pc, .int .i64 uce.hdr.author, .int .i64 uce.hdr.round, .slice uce.hdr.ra uce.hdr.refs.length uce.hdr.rc, .slice uce.hdr.pa uce.hdr.parents.length uce.hdr.pc, .slice uce.va uce.votes.length uce.vc, .int .i64 ubl.view, .int .i64 ubl.qc.view, .string ubl.qc.block, .slice ubl.qc.va ubl.qc.votes.length ubl.qc.vc, .slice ubl.ca ubl.certs.length ubl.cc, .int .i64 uq.view, .string uq.block, .slice uq.va uq.votes.length uq.vc]).all (·.oneCell') = true := Array.all_eq_true_iff_forall_mem.2 (fun v hv => msgK.one ⟨uk, udg, uvi, utg, uba, uhe, uce, ubl, uq⟩ v (List.mem_toArray.1 hv))
      have kN := kept_row (w20.alloc (.cells [.int .i64 0, .string ⟨#[]⟩, .int .i64 0, .int .i64 0, .string ⟨#[]⟩, .int .i64 0, .int .i64 0, .slice none 0 0, .int .i64 0, .int .i64 0, .slice none 0 0, .slice none 0 0, .int .i64 0, .int .i64 0, .slice none 0 0, .slice none 0 0, .slice none 0 0, .int .i64 0, .int .i64 0, .string ⟨#[]⟩, .slice none 0 0, .slice none 0 0, .int .i64 0, .string ⟨#[]⟩, .slice none 0 0].toArray 39)) w20.heap.size [.int .i64 uk, .string udg, .int .i64 uvi, .int .i64 utg.who, .string utg.mac, .int .i64 uba.author, .int .i64 uba.number, .slice uba.ta uba.txs.length uba.tc, .int .i64 uhe.author, .int .i64 uhe.round, .slice uhe.ra uhe.refs.length uhe.rc, .slice uhe.pa uhe.parents.length uhe.pc, .int .i64 uce.hdr.author, .int .i64 uce.hdr.round, .slice uce.hdr.ra uce.hdr.refs.length uce.hdr.rc, .slice uce.hdr.pa uce.hdr.parents.length uce.hdr.pc, .slice uce.va uce.votes.length uce.vc, .int .i64 ubl.view, .int .i64 ubl.qc.view, .string ubl.qc.block, .slice ubl.qc.va ubl.qc.votes.length ubl.qc.vc, .slice ubl.ca ubl.certs.length ubl.cc, .int .i64 uq.view, .string uq.block, .slice uq.va uq.votes.length uq.vc].toArray
      have hbS := below_setRow hbn (g := w20.heap.size) (Nat.le_refl _) [.int .i64 uk, .string udg, .int .i64 uvi, .int .i64 utg.who, .string utg.mac, .int .i64 uba.author, .int .i64 uba.number, .slice uba.ta uba.txs.length uba.tc, .int .i64 uhe.author, .int .i64 uhe.round, .slice uhe.ra uhe.refs.length uhe.rc, .slice uhe.pa uhe.parents.length uhe.pc, .int .i64 uce.hdr.author, .int .i64 uce.hdr.round, .slice uce.hdr.ra uce.hdr.refs.length uce.hdr.rc, .slice uce.hdr.pa uce.hdr.parents.length uce.hdr.pc, .slice uce.va uce.votes.length uce.vc, .int .i64 ubl.view, .int .i64 ubl.qc.view, .string ubl.qc.block, .slice ubl.qc.va ubl.qc.votes.length ubl.qc.vc, .slice ubl.ca ubl.certs.length ubl.cc, .int .i64 uq.view, .string uq.block, .slice uq.va uq.votes.length uq.vc].toArray
      have hNew := hN0.row [.int .i64 uk, .string udg, .int .i64 uvi, .int .i64 utg.who, .string utg.mac, .int .i64 uba.author, .int .i64 uba.number, .slice uba.ta uba.txs.length uba.tc, .int .i64 uhe.author, .int .i64 uhe.round, .slice uhe.ra uhe.refs.length uhe.rc, .slice uhe.pa uhe.parents.length uhe.pc, .int .i64 uce.hdr.author, .int .i64 uce.hdr.round, .slice uce.hdr.ra uce.hdr.refs.length uce.hdr.rc, .slice uce.hdr.pa uce.hdr.parents.length uce.hdr.pc, .slice uce.va uce.votes.length uce.vc, .int .i64 ubl.view, .int .i64 ubl.qc.view, .string ubl.qc.block, .slice ubl.qc.va ubl.qc.votes.length ubl.qc.vc, .slice ubl.ca ubl.certs.length ubl.cc, .int .i64 uq.view, .string uq.block, .slice uq.va uq.votes.length uq.vc]
      have hu2 := MsgM.At.below hu hbS
      have hBF := hB20.trans (hbS.mono hB20.size)
      clear hbn kN hbS hu hB20
      go_wp2_with (first | refine wpList_load_row (by rfl) 39 _ (by rfl) w20.heap.size (by rfl) 39 _ (0, 0) _ hNew Tryz.underlying39 (by rfl) infoMsg9 ?_ | refine wpList_store_row (by rfl) 39 _ _ (by rfl) w20.heap.size [.int .i64 uk, .string udg, .int .i64 uvi, .int .i64 utg.who, .string utg.mac, .int .i64 uba.author, .int .i64 uba.number, .slice uba.ta uba.txs.length uba.tc, .int .i64 uhe.author, .int .i64 uhe.round, .slice uhe.ra uhe.refs.length uhe.rc, .slice uhe.pa uhe.parents.length uhe.pc, .int .i64 uce.hdr.author, .int .i64 uce.hdr.round, .slice uce.hdr.ra uce.hdr.refs.length uce.hdr.rc, .slice uce.hdr.pa uce.hdr.parents.length uce.hdr.pc, .slice uce.va uce.votes.length uce.vc, .int .i64 ubl.view, .int .i64 ubl.qc.view, .string ubl.qc.block, .slice ubl.qc.va ubl.qc.votes.length ubl.qc.vc, .slice ubl.ca ubl.certs.length ubl.cc, .int .i64 uq.view, .string uq.block, .slice uq.va uq.votes.length uq.vc].toArray (by rfl) (by rfl) 39 _ hN0 infoMsg9 (by rfl) h1 ?_)
      refine (cE2 _ hu2).mono ?_
      rintro e w21 ⟨rfl, hb21⟩
      have hB21 := hBF.trans (hb21.mono hBF.size)
      clear cE2 hu2 hBF hb21 hNew hN0 h1
      go_wp2
      go_ret
      exact ⟨rfl, hB21⟩
    · have hne : ((eu : Int) != 0) = true := by rw [bne_iff_ne]; omega
      clear hdec hu hfu
      have hN0 := Arr.new w20 39 [.int .i64 0, .string ⟨#[]⟩, .int .i64 0, .int .i64 0, .string ⟨#[]⟩, .int .i64 0, .int .i64 0, .slice none 0 0, .int .i64 0, .int .i64 0, .slice none 0 0, .slice none 0 0, .int .i64 0, .int .i64 0, .slice none 0 0, .slice none 0 0, .slice none 0 0, .int .i64 0, .int .i64 0, .string ⟨#[]⟩, .slice none 0 0, .slice none 0 0, .int .i64 0, .string ⟨#[]⟩, .slice none 0 0]
      have hbn := belowNew w20 (.cells [.int .i64 0, .string ⟨#[]⟩, .int .i64 0, .int .i64 0, .string ⟨#[]⟩, .int .i64 0, .int .i64 0, .slice none 0 0, .int .i64 0, .int .i64 0, .slice none 0 0, .slice none 0 0, .int .i64 0, .int .i64 0, .slice none 0 0, .slice none 0 0, .slice none 0 0, .int .i64 0, .int .i64 0, .string ⟨#[]⟩, .slice none 0 0, .slice none 0 0, .int .i64 0, .string ⟨#[]⟩, .slice none 0 0].toArray 39)
      have h1 : (List.toArray (α := Value) [.int .i64 0, .string ⟨#[]⟩, .int .i64 0, .int .i64 0, .string ⟨#[]⟩, .int .i64 0, .int .i64 0, .slice none 0 0, .int .i64 0, .int .i64 0, .slice none 0 0, .slice none 0 0, .int .i64 0, .int .i64 0, .slice none 0 0, .slice none 0 0, .slice none 0 0, .int .i64 0, .int .i64 0, .string ⟨#[]⟩, .slice none 0 0, .slice none 0 0, .int .i64 0, .string ⟨#[]⟩, .slice none 0 0]).all (·.oneCell') = true := Array.all_eq_true_iff_forall_mem.2 (fun v hv => msgK.one (msg0 0) v (List.mem_toArray.1 hv))
      have kN := kept_row (w20.alloc (.cells [.int .i64 0, .string ⟨#[]⟩, .int .i64 0, .int .i64 0, .string ⟨#[]⟩, .int .i64 0, .int .i64 0, .slice none 0 0, .int .i64 0, .int .i64 0, .slice none 0 0, .slice none 0 0, .int .i64 0, .int .i64 0, .slice none 0 0, .slice none 0 0, .slice none 0 0, .int .i64 0, .int .i64 0, .string ⟨#[]⟩, .slice none 0 0, .slice none 0 0, .int .i64 0, .string ⟨#[]⟩, .slice none 0 0].toArray 39)) w20.heap.size [.int .i64 0, .string ⟨#[]⟩, .int .i64 0, .int .i64 0, .string ⟨#[]⟩, .int .i64 0, .int .i64 0, .slice none 0 0, .int .i64 0, .int .i64 0, .slice none 0 0, .slice none 0 0, .int .i64 0, .int .i64 0, .slice none 0 0, .slice none 0 0, .slice none 0 0, .int .i64 0, .int .i64 0, .string ⟨#[]⟩, .slice none 0 0, .slice none 0 0, .int .i64 0, .string ⟨#[]⟩, .slice none 0 0].toArray
      have hbS := below_setRow hbn (g := w20.heap.size) (Nat.le_refl _) [.int .i64 0, .string ⟨#[]⟩, .int .i64 0, .int .i64 0, .string ⟨#[]⟩, .int .i64 0, .int .i64 0, .slice none 0 0, .int .i64 0, .int .i64 0, .slice none 0 0, .slice none 0 0, .int .i64 0, .int .i64 0, .slice none 0 0, .slice none 0 0, .slice none 0 0, .int .i64 0, .int .i64 0, .string ⟨#[]⟩, .slice none 0 0, .slice none 0 0, .int .i64 0, .string ⟨#[]⟩, .slice none 0 0].toArray
      have hNew := hN0.row [.int .i64 0, .string ⟨#[]⟩, .int .i64 0, .int .i64 0, .string ⟨#[]⟩, .int .i64 0, .int .i64 0, .slice none 0 0, .int .i64 0, .int .i64 0, .slice none 0 0, .slice none 0 0, .int .i64 0, .int .i64 0, .slice none 0 0, .slice none 0 0, .slice none 0 0, .int .i64 0, .int .i64 0, .string ⟨#[]⟩, .slice none 0 0, .slice none 0 0, .int .i64 0, .string ⟨#[]⟩, .slice none 0 0]
      have hBF := hB20.trans (hbS.mono hB20.size)
      have x0 := hNew.cell (i := 0) rfl
      clear hbn kN hbS hB20
      go_wp2_with (refine wpList_store_row (by rfl) 39 _ _ (by rfl) w20.heap.size [.int .i64 0, .string ⟨#[]⟩, .int .i64 0, .int .i64 0, .string ⟨#[]⟩, .int .i64 0, .int .i64 0, .slice none 0 0, .int .i64 0, .int .i64 0, .slice none 0 0, .slice none 0 0, .int .i64 0, .int .i64 0, .slice none 0 0, .slice none 0 0, .slice none 0 0, .int .i64 0, .int .i64 0, .string ⟨#[]⟩, .slice none 0 0, .slice none 0 0, .int .i64 0, .string ⟨#[]⟩, .slice none 0 0].toArray (by rfl) (by rfl) 39 _ hN0 infoMsg9 (by rfl) h1 ?_)
      go_ret
      exact ⟨rfl, hBF⟩
  have hlen : ob.size ≤ 65536 := by omega
  have hl2 : (ob.size : Int) ≤ 65536 := by omega
  have hob : ob = ⟨(encM xd).toArray⟩ := by rw [HE.out, if_pos rfl]
  have hc0 : chkM xd = 0 := HC.out.symm
  have hobl : ob.data.toList = encM xd := by rw [hob]
  have hsz : ob.size = (encM xd).length := by rw [hob, size_mk]
  have hfit := right_fitF hc0 (by omega)
  have hpos : encM xd ≠ [] := encM_pos hc0
  have hem : ob.toList.isEmpty = false := by
    rw [ByteArray.toList_eq, hobl]
    cases hh : encM xd with
    | nil => exact absurd hh hpos
    | cons _ _ => rfl
  have hp0 : 0 < ob.size := by rw [hsz]; exact List.length_pos_iff.2 hpos
  have cD := fun w1 => msgDecode_any ob w1 (by unfold maxLen; omega)
  have hd1 : decM ob.data.toList = .ok xd := by
    have := decM_enc hc0 hfit []
    rw [List.append_nil, if_pos rfl] at this
    rw [hobl, this]
  rw [hd1] at cD
  obtain ⟨j, hj, hjw⟩ := pick_at9 a ob.size hp0 (by omega)
  have hjI : (j : Int) ≤ (ob.size : Int) := by omega
  have cF := fun w1 => msgDecode_any (ob.extract 0 j) w1 (by rw [ByteArray.size_extract]; unfold maxLen; omega)
  have hexl : (ob.extract 0 j).data.toList = (encM xd).take j := by rw [← hobl]; simp
  have hcut : ∀ m, decM (ob.extract 0 j).data.toList ≠ .ok m := fun m => by rw [hexl]; exact decM_cut hc0 hfit (by omega) m
  have cM := fun w1 => msgDecode_any (ob ++ ⟨#[120]⟩) w1 (by rw [ByteArray.size_append]; unfold maxLen; have : (⟨#[120]⟩ : ByteArray).size = 1 := rfl; omega)
  have hmore : decM (ob ++ ⟨#[120]⟩).data.toList = .error 6 := by
    have hapl : (ob ++ ⟨#[120]⟩).data.toList = encM xd ++ [120] := by rw [← hobl]; simp
    rw [hapl, decM_enc hc0 hfit [120], if_neg (by simp)]
  rw [hmore] at cM
  have hsum : ¬ (9223372036854775807 < ob.size + 1) := by omega
  have hpz : ¬ (ob.size : Int) = 0 := by omega
  clear HE HC hob hobl hsz hfit hpos hexl hmore hd1 hc0 hlong
  generalize decM (ob.extract 0 j).data.toList = rc at cF hcut
  go_wp2_with fail
  refine (cD _).mono ?_
  rintro e w6 ⟨z, ez, rfl, hz, hres, hzf, hb⟩
  obtain ⟨rfl, hzd⟩ : ez = 0 ∧ z.d = xd := by
    rcases hres with ⟨h1, h2⟩ | ⟨h1, h2, _⟩
    · simp only [Except.ok.injEq] at h2
      exact ⟨h1, h2.symm⟩
    · cases h2
  have hX6 := hX.below hb hX.lt
  have hB6 := hB.trans (hb.mono hB.size)
  have cS1 := fun w1 h1 h2 => cS z w1 h1 h2 (by rw [hzd, hxd.out]) (hNy z (by rw [hzd, hxd.out]))
  clear hX hB hb cD hres hzf cS hNy hzd
  obtain ⟨zk, zdg, zvi, ztg, zba, zhe, zce, zbl, zq⟩ := z
  unfold MsgM.v MsgM.c at cS1 ⊢
  simp only at cS1 ⊢
  have hN0 := Arr.new w6 39 [.int .i64 0, .string ⟨#[]⟩, .int .i64 0, .int .i64 0, .string ⟨#[]⟩, .int .i64 0, .int .i64 0, .slice none 0 0, .int .i64 0, .int .i64 0, .slice none 0 0, .slice none 0 0, .int .i64 0, .int .i64 0, .slice none 0 0, .slice none 0 0, .slice none 0 0, .int .i64 0, .int .i64 0, .string ⟨#[]⟩, .slice none 0 0, .slice none 0 0, .int .i64 0, .string ⟨#[]⟩, .slice none 0 0]
  have hbn := belowNew w6 (.cells [.int .i64 0, .string ⟨#[]⟩, .int .i64 0, .int .i64 0, .string ⟨#[]⟩, .int .i64 0, .int .i64 0, .slice none 0 0, .int .i64 0, .int .i64 0, .slice none 0 0, .slice none 0 0, .int .i64 0, .int .i64 0, .slice none 0 0, .slice none 0 0, .slice none 0 0, .int .i64 0, .int .i64 0, .string ⟨#[]⟩, .slice none 0 0, .slice none 0 0, .int .i64 0, .string ⟨#[]⟩, .slice none 0 0].toArray 39)
  have h1 : (List.toArray (α := Value) [.int .i64 zk, .string zdg, .int .i64 zvi, .int .i64 ztg.who, .string ztg.mac, .int .i64 zba.author, .int .i64 zba.number, .slice zba.ta zba.txs.length zba.tc, .int .i64 zhe.author, .int .i64 zhe.round, .slice zhe.ra zhe.refs.length zhe.rc, .slice zhe.pa zhe.parents.length zhe.pc, .int .i64 zce.hdr.author, .int .i64 zce.hdr.round, .slice zce.hdr.ra zce.hdr.refs.length zce.hdr.rc, .slice zce.hdr.pa zce.hdr.parents.length zce.hdr.pc, .slice zce.va zce.votes.length zce.vc, .int .i64 zbl.view, .int .i64 zbl.qc.view, .string zbl.qc.block, .slice zbl.qc.va zbl.qc.votes.length zbl.qc.vc, .slice zbl.ca zbl.certs.length zbl.cc, .int .i64 zq.view, .string zq.block, .slice zq.va zq.votes.length zq.vc]).all (·.oneCell') = true := Array.all_eq_true_iff_forall_mem.2 (fun v hv => msgK.one ⟨zk, zdg, zvi, ztg, zba, zhe, zce, zbl, zq⟩ v (List.mem_toArray.1 hv))
  have kN := kept_row (w6.alloc (.cells [.int .i64 0, .string ⟨#[]⟩, .int .i64 0, .int .i64 0, .string ⟨#[]⟩, .int .i64 0, .int .i64 0, .slice none 0 0, .int .i64 0, .int .i64 0, .slice none 0 0, .slice none 0 0, .int .i64 0, .int .i64 0, .slice none 0 0, .slice none 0 0, .slice none 0 0, .int .i64 0, .int .i64 0, .string ⟨#[]⟩, .slice none 0 0, .slice none 0 0, .int .i64 0, .string ⟨#[]⟩, .slice none 0 0].toArray 39)) w6.heap.size [.int .i64 zk, .string zdg, .int .i64 zvi, .int .i64 ztg.who, .string ztg.mac, .int .i64 zba.author, .int .i64 zba.number, .slice zba.ta zba.txs.length zba.tc, .int .i64 zhe.author, .int .i64 zhe.round, .slice zhe.ra zhe.refs.length zhe.rc, .slice zhe.pa zhe.parents.length zhe.pc, .int .i64 zce.hdr.author, .int .i64 zce.hdr.round, .slice zce.hdr.ra zce.hdr.refs.length zce.hdr.rc, .slice zce.hdr.pa zce.hdr.parents.length zce.hdr.pc, .slice zce.va zce.votes.length zce.vc, .int .i64 zbl.view, .int .i64 zbl.qc.view, .string zbl.qc.block, .slice zbl.qc.va zbl.qc.votes.length zbl.qc.vc, .slice zbl.ca zbl.certs.length zbl.cc, .int .i64 zq.view, .string zq.block, .slice zq.va zq.votes.length zq.vc].toArray
  have hbS := below_setRow hbn (g := w6.heap.size) (Nat.le_refl _) [.int .i64 zk, .string zdg, .int .i64 zvi, .int .i64 ztg.who, .string ztg.mac, .int .i64 zba.author, .int .i64 zba.number, .slice zba.ta zba.txs.length zba.tc, .int .i64 zhe.author, .int .i64 zhe.round, .slice zhe.ra zhe.refs.length zhe.rc, .slice zhe.pa zhe.parents.length zhe.pc, .int .i64 zce.hdr.author, .int .i64 zce.hdr.round, .slice zce.hdr.ra zce.hdr.refs.length zce.hdr.rc, .slice zce.hdr.pa zce.hdr.parents.length zce.hdr.pc, .slice zce.va zce.votes.length zce.vc, .int .i64 zbl.view, .int .i64 zbl.qc.view, .string zbl.qc.block, .slice zbl.qc.va zbl.qc.votes.length zbl.qc.vc, .slice zbl.ca zbl.certs.length zbl.cc, .int .i64 zq.view, .string zq.block, .slice zq.va zq.votes.length zq.vc].toArray
  have hNew := hN0.row [.int .i64 zk, .string zdg, .int .i64 zvi, .int .i64 ztg.who, .string ztg.mac, .int .i64 zba.author, .int .i64 zba.number, .slice zba.ta zba.txs.length zba.tc, .int .i64 zhe.author, .int .i64 zhe.round, .slice zhe.ra zhe.refs.length zhe.rc, .slice zhe.pa zhe.parents.length zhe.pc, .int .i64 zce.hdr.author, .int .i64 zce.hdr.round, .slice zce.hdr.ra zce.hdr.refs.length zce.hdr.rc, .slice zce.hdr.pa zce.hdr.parents.length zce.hdr.pc, .slice zce.va zce.votes.length zce.vc, .int .i64 zbl.view, .int .i64 zbl.qc.view, .string zbl.qc.block, .slice zbl.qc.va zbl.qc.votes.length zbl.qc.vc, .slice zbl.ca zbl.certs.length zbl.cc, .int .i64 zq.view, .string zq.block, .slice zq.va zq.votes.length zq.vc]
  have hX62 := hX6.below hbS hX6.lt
  have hz2 := MsgM.At.below hz hbS
  have hB7 := hB6.trans (hbS.mono hB6.size)
  clear hbn kN hbS hz hB6 hX6
  go_wp2_with (refine wpList_store_row (by rfl) 39 _ _ (by rfl) w6.heap.size [.int .i64 zk, .string zdg, .int .i64 zvi, .int .i64 ztg.who, .string ztg.mac, .int .i64 zba.author, .int .i64 zba.number, .slice zba.ta zba.txs.length zba.tc, .int .i64 zhe.author, .int .i64 zhe.round, .slice zhe.ra zhe.refs.length zhe.rc, .slice zhe.pa zhe.parents.length zhe.pc, .int .i64 zce.hdr.author, .int .i64 zce.hdr.round, .slice zce.hdr.ra zce.hdr.refs.length zce.hdr.rc, .slice zce.hdr.pa zce.hdr.parents.length zce.hdr.pc, .slice zce.va zce.votes.length zce.vc, .int .i64 zbl.view, .int .i64 zbl.qc.view, .string zbl.qc.block, .slice zbl.qc.va zbl.qc.votes.length zbl.qc.vc, .slice zbl.ca zbl.certs.length zbl.cc, .int .i64 zq.view, .string zq.block, .slice zq.va zq.votes.length zq.vc].toArray (by rfl) (by rfl) 39 _ hN0 infoMsg9 (by rfl) h1 ?_)
  refine (cF _).mono ?_
  rintro e w8 ⟨z2, e2, rfl, _, hres, _, hb⟩
  obtain ⟨he2, rfl⟩ : e2 ≠ 0 ∧ z2 = msg0 0 := by
    rcases hres with ⟨h1, h2⟩ | ⟨h1, h2, h3⟩
    · exact absurd h2 (hcut _)
    · exact ⟨h1, h3⟩
  have hX8 := hX62.below hb hX62.lt
  have hY8 := hNew.below hb hNew.lt
  have hB8 := hB7.trans (hb.mono hB7.size)
  have hz8 := hz2.below hb
  obtain ⟨zb, hzb⟩ : ∃ n, w6.heap.size = n := ⟨_, rfl⟩
  rw [hzb] at hY8 ⊢
  clear hX62 hNew hB7 hb hz2 cF hres hcut hN0 h1 hzb
  have hN0 := Arr.new w8 39 [.int .i64 0, .string ⟨#[]⟩, .int .i64 0, .int .i64 0, .string ⟨#[]⟩, .int .i64 0, .int .i64 0, .slice none 0 0, .int .i64 0, .int .i64 0, .slice none 0 0, .slice none 0 0, .int .i64 0, .int .i64 0, .slice none 0 0, .slice none 0 0, .slice none 0 0, .int .i64 0, .int .i64 0, .string ⟨#[]⟩, .slice none 0 0, .slice none 0 0, .int .i64 0, .string ⟨#[]⟩, .slice none 0 0]
  have hbn := belowNew w8 (.cells [.int .i64 0, .string ⟨#[]⟩, .int .i64 0, .int .i64 0, .string ⟨#[]⟩, .int .i64 0, .int .i64 0, .slice none 0 0, .int .i64 0, .int .i64 0, .slice none 0 0, .slice none 0 0, .int .i64 0, .int .i64 0, .slice none 0 0, .slice none 0 0, .slice none 0 0, .int .i64 0, .int .i64 0, .string ⟨#[]⟩, .slice none 0 0, .slice none 0 0, .int .i64 0, .string ⟨#[]⟩, .slice none 0 0].toArray 39)
  have h1 : (List.toArray (α := Value) [.int .i64 0, .string ⟨#[]⟩, .int .i64 0, .int .i64 0, .string ⟨#[]⟩, .int .i64 0, .int .i64 0, .slice none 0 0, .int .i64 0, .int .i64 0, .slice none 0 0, .slice none 0 0, .int .i64 0, .int .i64 0, .slice none 0 0, .slice none 0 0, .slice none 0 0, .int .i64 0, .int .i64 0, .string ⟨#[]⟩, .slice none 0 0, .slice none 0 0, .int .i64 0, .string ⟨#[]⟩, .slice none 0 0]).all (·.oneCell') = true := Array.all_eq_true_iff_forall_mem.2 (fun v hv => msgK.one (msg0 0) v (List.mem_toArray.1 hv))
  have kN := kept_row (w8.alloc (.cells [.int .i64 0, .string ⟨#[]⟩, .int .i64 0, .int .i64 0, .string ⟨#[]⟩, .int .i64 0, .int .i64 0, .slice none 0 0, .int .i64 0, .int .i64 0, .slice none 0 0, .slice none 0 0, .int .i64 0, .int .i64 0, .slice none 0 0, .slice none 0 0, .slice none 0 0, .int .i64 0, .int .i64 0, .string ⟨#[]⟩, .slice none 0 0, .slice none 0 0, .int .i64 0, .string ⟨#[]⟩, .slice none 0 0].toArray 39)) w8.heap.size [.int .i64 0, .string ⟨#[]⟩, .int .i64 0, .int .i64 0, .string ⟨#[]⟩, .int .i64 0, .int .i64 0, .slice none 0 0, .int .i64 0, .int .i64 0, .slice none 0 0, .slice none 0 0, .int .i64 0, .int .i64 0, .slice none 0 0, .slice none 0 0, .slice none 0 0, .int .i64 0, .int .i64 0, .string ⟨#[]⟩, .slice none 0 0, .slice none 0 0, .int .i64 0, .string ⟨#[]⟩, .slice none 0 0].toArray
  have hbS := below_setRow hbn (g := w8.heap.size) (Nat.le_refl _) [.int .i64 0, .string ⟨#[]⟩, .int .i64 0, .int .i64 0, .string ⟨#[]⟩, .int .i64 0, .int .i64 0, .slice none 0 0, .int .i64 0, .int .i64 0, .slice none 0 0, .slice none 0 0, .int .i64 0, .int .i64 0, .slice none 0 0, .slice none 0 0, .slice none 0 0, .int .i64 0, .int .i64 0, .string ⟨#[]⟩, .slice none 0 0, .slice none 0 0, .int .i64 0, .string ⟨#[]⟩, .slice none 0 0].toArray
  have hNew := hN0.row [.int .i64 0, .string ⟨#[]⟩, .int .i64 0, .int .i64 0, .string ⟨#[]⟩, .int .i64 0, .int .i64 0, .slice none 0 0, .int .i64 0, .int .i64 0, .slice none 0 0, .slice none 0 0, .int .i64 0, .int .i64 0, .slice none 0 0, .slice none 0 0, .slice none 0 0, .int .i64 0, .int .i64 0, .string ⟨#[]⟩, .slice none 0 0, .slice none 0 0, .int .i64 0, .string ⟨#[]⟩, .slice none 0 0]
  have hX82 := hX8.below hbS hX8.lt
  have hY82 := hY8.below hbS hY8.lt
  have hz9 := hz8.below hbS
  have hB9 := hB8.trans (hbS.mono hB8.size)
  clear hbn kN hbS hz8 hB8 hX8 hY8 hNew
  go_wp2_with (refine wpList_store_row (by rfl) 39 _ _ (by rfl) w8.heap.size [.int .i64 0, .string ⟨#[]⟩, .int .i64 0, .int .i64 0, .string ⟨#[]⟩, .int .i64 0, .int .i64 0, .slice none 0 0, .int .i64 0, .int .i64 0, .slice none 0 0, .slice none 0 0, .int .i64 0, .int .i64 0, .slice none 0 0, .slice none 0 0, .slice none 0 0, .int .i64 0, .int .i64 0, .string ⟨#[]⟩, .slice none 0 0, .slice none 0 0, .int .i64 0, .string ⟨#[]⟩, .slice none 0 0].toArray (by rfl) (by rfl) 39 _ hN0 infoMsg9 (by rfl) h1 ?_)
  refine (cM _).mono ?_
  rintro e w10 ⟨z3, e3, rfl, _, hres, _, hb⟩
  obtain ⟨rfl, rfl⟩ : e3 = 6 ∧ z3 = msg0 0 := by
    rcases hres with ⟨h1, h2⟩ | ⟨h1, h2, h3⟩
    · cases h2
    · simp only [Except.error.injEq] at h2
      exact ⟨h2.symm, h3⟩
  have hX10 := hX82.below hb hX82.lt
  have hY10 := hY82.below hb hY82.lt
  have hB10 := hB9.trans (hb.mono hB9.size)
  have hz10 := hz9.below hb
  clear hX82 hY82 hB9 hb hz9 cM hres hN0 h1
  have hN0 := Arr.new w10 39 [.int .i64 0, .string ⟨#[]⟩, .int .i64 0, .int .i64 0, .string ⟨#[]⟩, .int .i64 0, .int .i64 0, .slice none 0 0, .int .i64 0, .int .i64 0, .slice none 0 0, .slice none 0 0, .int .i64 0, .int .i64 0, .slice none 0 0, .slice none 0 0, .slice none 0 0, .int .i64 0, .int .i64 0, .string ⟨#[]⟩, .slice none 0 0, .slice none 0 0, .int .i64 0, .string ⟨#[]⟩, .slice none 0 0]
  have hbn := belowNew w10 (.cells [.int .i64 0, .string ⟨#[]⟩, .int .i64 0, .int .i64 0, .string ⟨#[]⟩, .int .i64 0, .int .i64 0, .slice none 0 0, .int .i64 0, .int .i64 0, .slice none 0 0, .slice none 0 0, .int .i64 0, .int .i64 0, .slice none 0 0, .slice none 0 0, .slice none 0 0, .int .i64 0, .int .i64 0, .string ⟨#[]⟩, .slice none 0 0, .slice none 0 0, .int .i64 0, .string ⟨#[]⟩, .slice none 0 0].toArray 39)
  have h1 : (List.toArray (α := Value) [.int .i64 0, .string ⟨#[]⟩, .int .i64 0, .int .i64 0, .string ⟨#[]⟩, .int .i64 0, .int .i64 0, .slice none 0 0, .int .i64 0, .int .i64 0, .slice none 0 0, .slice none 0 0, .int .i64 0, .int .i64 0, .slice none 0 0, .slice none 0 0, .slice none 0 0, .int .i64 0, .int .i64 0, .string ⟨#[]⟩, .slice none 0 0, .slice none 0 0, .int .i64 0, .string ⟨#[]⟩, .slice none 0 0]).all (·.oneCell') = true := Array.all_eq_true_iff_forall_mem.2 (fun v hv => msgK.one (msg0 0) v (List.mem_toArray.1 hv))
  have kN := kept_row (w10.alloc (.cells [.int .i64 0, .string ⟨#[]⟩, .int .i64 0, .int .i64 0, .string ⟨#[]⟩, .int .i64 0, .int .i64 0, .slice none 0 0, .int .i64 0, .int .i64 0, .slice none 0 0, .slice none 0 0, .int .i64 0, .int .i64 0, .slice none 0 0, .slice none 0 0, .slice none 0 0, .int .i64 0, .int .i64 0, .string ⟨#[]⟩, .slice none 0 0, .slice none 0 0, .int .i64 0, .string ⟨#[]⟩, .slice none 0 0].toArray 39)) w10.heap.size [.int .i64 0, .string ⟨#[]⟩, .int .i64 0, .int .i64 0, .string ⟨#[]⟩, .int .i64 0, .int .i64 0, .slice none 0 0, .int .i64 0, .int .i64 0, .slice none 0 0, .slice none 0 0, .int .i64 0, .int .i64 0, .slice none 0 0, .slice none 0 0, .slice none 0 0, .int .i64 0, .int .i64 0, .string ⟨#[]⟩, .slice none 0 0, .slice none 0 0, .int .i64 0, .string ⟨#[]⟩, .slice none 0 0].toArray
  have hbS := below_setRow hbn (g := w10.heap.size) (Nat.le_refl _) [.int .i64 0, .string ⟨#[]⟩, .int .i64 0, .int .i64 0, .string ⟨#[]⟩, .int .i64 0, .int .i64 0, .slice none 0 0, .int .i64 0, .int .i64 0, .slice none 0 0, .slice none 0 0, .int .i64 0, .int .i64 0, .slice none 0 0, .slice none 0 0, .slice none 0 0, .int .i64 0, .int .i64 0, .string ⟨#[]⟩, .slice none 0 0, .slice none 0 0, .int .i64 0, .string ⟨#[]⟩, .slice none 0 0].toArray
  have hNew := hN0.row [.int .i64 0, .string ⟨#[]⟩, .int .i64 0, .int .i64 0, .string ⟨#[]⟩, .int .i64 0, .int .i64 0, .slice none 0 0, .int .i64 0, .int .i64 0, .slice none 0 0, .slice none 0 0, .int .i64 0, .int .i64 0, .slice none 0 0, .slice none 0 0, .slice none 0 0, .int .i64 0, .int .i64 0, .string ⟨#[]⟩, .slice none 0 0, .slice none 0 0, .int .i64 0, .string ⟨#[]⟩, .slice none 0 0]
  have hX102 := hX10.below hbS hX10.lt
  have hY102 := hY10.below hbS hY10.lt
  have hz11 := hz10.below hbS
  have hB11 := hB10.trans (hbS.mono hB10.size)
  have hx11 := hA.below hB11
  have he2' : ((e2 : Int) == 0) = false := by rw [beq_eq_false_iff_ne]; omega
  clear hbn kN hbS hz10 hB10 hX10 hY10 hNew he2
  go_wp2_with (first | refine wpList_load_rowG (by rfl) 39 _ (by rfl) zb (by rfl) 39 _ (0, 0) _ hY102 Tryz.underlying39 (by rfl) infoMsg9 ?_ | refine wpList_load_rowG (by rfl) 39 _ (by rfl) w.heap.size (by rfl) 39 _ (0, 0) _ hX102 Tryz.underlying39 (by rfl) infoMsg9 ?_ | refine wpList_store_row (by rfl) 39 _ _ (by rfl) w10.heap.size [.int .i64 0, .string ⟨#[]⟩, .int .i64 0, .int .i64 0, .string ⟨#[]⟩, .int .i64 0, .int .i64 0, .slice none 0 0, .int .i64 0, .int .i64 0, .slice none 0 0, .slice none 0 0, .int .i64 0, .int .i64 0, .slice none 0 0, .slice none 0 0, .slice none 0 0, .int .i64 0, .int .i64 0, .string ⟨#[]⟩, .slice none 0 0, .slice none 0 0, .int .i64 0, .string ⟨#[]⟩, .slice none 0 0].toArray (by rfl) (by rfl) 39 _ hN0 infoMsg9 (by rfl) h1 ?_)
  refine (cS1 _ hz11 hx11).mono ?_
  rintro e w12 ⟨rfl, hb⟩
  have hX := hX102.below hb hX102.lt
  have hB := hB11.trans (hb.mono hB11.size)
  clear hX102 hY102 hB11 hb cS1 hz11 hx11 hN0 h1
  go_wp2_with fail
  refine (cD2 _).mono ?_
  rintro e w20 ⟨u, eu, rfl, hu, hres, hfu, hb20⟩
  have hB20 := hB.trans (hb20.mono hB.size)
  clear hX hB hb20 cD2
  rcases hres with ⟨rfl, hdec⟩ | ⟨he, hdec, rfl⟩
  · obtain ⟨hc0, henc, _⟩ := encM_dec hdec
    have cE2 := fun w1 h1 => msgEncode_any u w1 h1 (few_num (decM_few hdec))
    have hob : encMB u.d = s := by
      unfold encMB
      rw [if_pos hc0, henc]
    rw [hob, hc0] at cE2
    clear hc0 henc hob hdec hfu
    obtain ⟨uk, udg, uvi, utg, uba, uhe, uce, ubl, uq⟩ := u
    unfold MsgM.v MsgM.c at cE2 ⊢
    simp only at cE2 ⊢
    have hN0 := Arr.new w20 39 [.int .i64 0, .string ⟨#[]⟩, .int .i64 0, .int .i64 0, .string ⟨#[]⟩, .int .i64 0, .int .i64 0, .slice none 0 0, .int .i64 0, .int .i64 0, .slice none 0 0, .slice none 0 0, .int .i64 0, .int .i64 0, .slice none 0 0, .slice none 0 0, .slice none 0 0, .int .i64 0, .int .i64 0, .string ⟨#[]⟩, .slice none 0 0, .slice none 0 0, .int .i64 0, .string ⟨#[]⟩, .slice none 0 0]
    have hbn := belowNew w20 (.cells [.int .i64 0, .string ⟨#[]⟩, .int .i64 0, .int .i64 0, .string ⟨#[]⟩, .int .i64 0, .int .i64 0, .slice none 0 0, .int .i64 0, .int .i64 0, .slice none 0 0, .slice none 0 0, .int .i64 0, .int .i64 0, .slice none 0 0, .slice none 0 0, .slice none 0 0, .int .i64 0, .int .i64 0, .string ⟨#[]⟩, .slice none 0 0, .slice none 0 0, .int .i64 0, .string ⟨#[]⟩, .slice none 0 0].toArray 39)
    have h1 : (List.toArray (α := Value) [.int .i64 uk, .string udg, .int .i64 uvi, .int .i64 utg.who, .string utg.mac, .int .i64 uba.author, .int .i64 uba.number, .slice uba.ta uba.txs.length uba.tc, .int .i64 uhe.author, .int .i64 uhe.round, .slice uhe.ra uhe.refs.length uhe.rc, .slice uhe.pa uhe.parents.length uhe.pc, .int .i64 uce.hdr.author, .int .i64 uce.hdr.round, .slice uce.hdr.ra uce.hdr.refs.length uce.hdr.rc, .slice uce.hdr.pa uce.hdr.parents.length uce.hdr.pc, .slice uce.va uce.votes.length uce.vc, .int .i64 ubl.view, .int .i64 ubl.qc.view, .string ubl.qc.block, .slice ubl.qc.va ubl.qc.votes.length ubl.qc.vc, .slice ubl.ca ubl.certs.length ubl.cc, .int .i64 uq.view, .string uq.block, .slice uq.va uq.votes.length uq.vc]).all (·.oneCell') = true := Array.all_eq_true_iff_forall_mem.2 (fun v hv => msgK.one ⟨uk, udg, uvi, utg, uba, uhe, uce, ubl, uq⟩ v (List.mem_toArray.1 hv))
    have kN := kept_row (w20.alloc (.cells [.int .i64 0, .string ⟨#[]⟩, .int .i64 0, .int .i64 0, .string ⟨#[]⟩, .int .i64 0, .int .i64 0, .slice none 0 0, .int .i64 0, .int .i64 0, .slice none 0 0, .slice none 0 0, .int .i64 0, .int .i64 0, .slice none 0 0, .slice none 0 0, .slice none 0 0, .int .i64 0, .int .i64 0, .string ⟨#[]⟩, .slice none 0 0, .slice none 0 0, .int .i64 0, .string ⟨#[]⟩, .slice none 0 0].toArray 39)) w20.heap.size [.int .i64 uk, .string udg, .int .i64 uvi, .int .i64 utg.who, .string utg.mac, .int .i64 uba.author, .int .i64 uba.number, .slice uba.ta uba.txs.length uba.tc, .int .i64 uhe.author, .int .i64 uhe.round, .slice uhe.ra uhe.refs.length uhe.rc, .slice uhe.pa uhe.parents.length uhe.pc, .int .i64 uce.hdr.author, .int .i64 uce.hdr.round, .slice uce.hdr.ra uce.hdr.refs.length uce.hdr.rc, .slice uce.hdr.pa uce.hdr.parents.length uce.hdr.pc, .slice uce.va uce.votes.length uce.vc, .int .i64 ubl.view, .int .i64 ubl.qc.view, .string ubl.qc.block, .slice ubl.qc.va ubl.qc.votes.length ubl.qc.vc, .slice ubl.ca ubl.certs.length ubl.cc, .int .i64 uq.view, .string uq.block, .slice uq.va uq.votes.length uq.vc].toArray
    have hbS := below_setRow hbn (g := w20.heap.size) (Nat.le_refl _) [.int .i64 uk, .string udg, .int .i64 uvi, .int .i64 utg.who, .string utg.mac, .int .i64 uba.author, .int .i64 uba.number, .slice uba.ta uba.txs.length uba.tc, .int .i64 uhe.author, .int .i64 uhe.round, .slice uhe.ra uhe.refs.length uhe.rc, .slice uhe.pa uhe.parents.length uhe.pc, .int .i64 uce.hdr.author, .int .i64 uce.hdr.round, .slice uce.hdr.ra uce.hdr.refs.length uce.hdr.rc, .slice uce.hdr.pa uce.hdr.parents.length uce.hdr.pc, .slice uce.va uce.votes.length uce.vc, .int .i64 ubl.view, .int .i64 ubl.qc.view, .string ubl.qc.block, .slice ubl.qc.va ubl.qc.votes.length ubl.qc.vc, .slice ubl.ca ubl.certs.length ubl.cc, .int .i64 uq.view, .string uq.block, .slice uq.va uq.votes.length uq.vc].toArray
    have hNew := hN0.row [.int .i64 uk, .string udg, .int .i64 uvi, .int .i64 utg.who, .string utg.mac, .int .i64 uba.author, .int .i64 uba.number, .slice uba.ta uba.txs.length uba.tc, .int .i64 uhe.author, .int .i64 uhe.round, .slice uhe.ra uhe.refs.length uhe.rc, .slice uhe.pa uhe.parents.length uhe.pc, .int .i64 uce.hdr.author, .int .i64 uce.hdr.round, .slice uce.hdr.ra uce.hdr.refs.length uce.hdr.rc, .slice uce.hdr.pa uce.hdr.parents.length uce.hdr.pc, .slice uce.va uce.votes.length uce.vc, .int .i64 ubl.view, .int .i64 ubl.qc.view, .string ubl.qc.block, .slice ubl.qc.va ubl.qc.votes.length ubl.qc.vc, .slice ubl.ca ubl.certs.length ubl.cc, .int .i64 uq.view, .string uq.block, .slice uq.va uq.votes.length uq.vc]
    have hu2 := MsgM.At.below hu hbS
    have hBF := hB20.trans (hbS.mono hB20.size)
    clear hbn kN hbS hu hB20
    go_wp2_with (first | refine wpList_load_row (by rfl) 39 _ (by rfl) w20.heap.size (by rfl) 39 _ (0, 0) _ hNew Tryz.underlying39 (by rfl) infoMsg9 ?_ | refine wpList_store_row (by rfl) 39 _ _ (by rfl) w20.heap.size [.int .i64 uk, .string udg, .int .i64 uvi, .int .i64 utg.who, .string utg.mac, .int .i64 uba.author, .int .i64 uba.number, .slice uba.ta uba.txs.length uba.tc, .int .i64 uhe.author, .int .i64 uhe.round, .slice uhe.ra uhe.refs.length uhe.rc, .slice uhe.pa uhe.parents.length uhe.pc, .int .i64 uce.hdr.author, .int .i64 uce.hdr.round, .slice uce.hdr.ra uce.hdr.refs.length uce.hdr.rc, .slice uce.hdr.pa uce.hdr.parents.length uce.hdr.pc, .slice uce.va uce.votes.length uce.vc, .int .i64 ubl.view, .int .i64 ubl.qc.view, .string ubl.qc.block, .slice ubl.qc.va ubl.qc.votes.length ubl.qc.vc, .slice ubl.ca ubl.certs.length ubl.cc, .int .i64 uq.view, .string uq.block, .slice uq.va uq.votes.length uq.vc].toArray (by rfl) (by rfl) 39 _ hN0 infoMsg9 (by rfl) h1 ?_)
    refine (cE2 _ hu2).mono ?_
    rintro e w21 ⟨rfl, hb21⟩
    have hB21 := hBF.trans (hb21.mono hBF.size)
    clear cE2 hu2 hBF hb21 hNew hN0 h1
    go_wp2
    go_ret
    exact ⟨rfl, hB21⟩
  · have hne : ((eu : Int) != 0) = true := by rw [bne_iff_ne]; omega
    clear hdec hu hfu
    have hN0 := Arr.new w20 39 [.int .i64 0, .string ⟨#[]⟩, .int .i64 0, .int .i64 0, .string ⟨#[]⟩, .int .i64 0, .int .i64 0, .slice none 0 0, .int .i64 0, .int .i64 0, .slice none 0 0, .slice none 0 0, .int .i64 0, .int .i64 0, .slice none 0 0, .slice none 0 0, .slice none 0 0, .int .i64 0, .int .i64 0, .string ⟨#[]⟩, .slice none 0 0, .slice none 0 0, .int .i64 0, .string ⟨#[]⟩, .slice none 0 0]
    have hbn := belowNew w20 (.cells [.int .i64 0, .string ⟨#[]⟩, .int .i64 0, .int .i64 0, .string ⟨#[]⟩, .int .i64 0, .int .i64 0, .slice none 0 0, .int .i64 0, .int .i64 0, .slice none 0 0, .slice none 0 0, .int .i64 0, .int .i64 0, .slice none 0 0, .slice none 0 0, .slice none 0 0, .int .i64 0, .int .i64 0, .string ⟨#[]⟩, .slice none 0 0, .slice none 0 0, .int .i64 0, .string ⟨#[]⟩, .slice none 0 0].toArray 39)
    have h1 : (List.toArray (α := Value) [.int .i64 0, .string ⟨#[]⟩, .int .i64 0, .int .i64 0, .string ⟨#[]⟩, .int .i64 0, .int .i64 0, .slice none 0 0, .int .i64 0, .int .i64 0, .slice none 0 0, .slice none 0 0, .int .i64 0, .int .i64 0, .slice none 0 0, .slice none 0 0, .slice none 0 0, .int .i64 0, .int .i64 0, .string ⟨#[]⟩, .slice none 0 0, .slice none 0 0, .int .i64 0, .string ⟨#[]⟩, .slice none 0 0]).all (·.oneCell') = true := Array.all_eq_true_iff_forall_mem.2 (fun v hv => msgK.one (msg0 0) v (List.mem_toArray.1 hv))
    have kN := kept_row (w20.alloc (.cells [.int .i64 0, .string ⟨#[]⟩, .int .i64 0, .int .i64 0, .string ⟨#[]⟩, .int .i64 0, .int .i64 0, .slice none 0 0, .int .i64 0, .int .i64 0, .slice none 0 0, .slice none 0 0, .int .i64 0, .int .i64 0, .slice none 0 0, .slice none 0 0, .slice none 0 0, .int .i64 0, .int .i64 0, .string ⟨#[]⟩, .slice none 0 0, .slice none 0 0, .int .i64 0, .string ⟨#[]⟩, .slice none 0 0].toArray 39)) w20.heap.size [.int .i64 0, .string ⟨#[]⟩, .int .i64 0, .int .i64 0, .string ⟨#[]⟩, .int .i64 0, .int .i64 0, .slice none 0 0, .int .i64 0, .int .i64 0, .slice none 0 0, .slice none 0 0, .int .i64 0, .int .i64 0, .slice none 0 0, .slice none 0 0, .slice none 0 0, .int .i64 0, .int .i64 0, .string ⟨#[]⟩, .slice none 0 0, .slice none 0 0, .int .i64 0, .string ⟨#[]⟩, .slice none 0 0].toArray
    have hbS := below_setRow hbn (g := w20.heap.size) (Nat.le_refl _) [.int .i64 0, .string ⟨#[]⟩, .int .i64 0, .int .i64 0, .string ⟨#[]⟩, .int .i64 0, .int .i64 0, .slice none 0 0, .int .i64 0, .int .i64 0, .slice none 0 0, .slice none 0 0, .int .i64 0, .int .i64 0, .slice none 0 0, .slice none 0 0, .slice none 0 0, .int .i64 0, .int .i64 0, .string ⟨#[]⟩, .slice none 0 0, .slice none 0 0, .int .i64 0, .string ⟨#[]⟩, .slice none 0 0].toArray
    have hNew := hN0.row [.int .i64 0, .string ⟨#[]⟩, .int .i64 0, .int .i64 0, .string ⟨#[]⟩, .int .i64 0, .int .i64 0, .slice none 0 0, .int .i64 0, .int .i64 0, .slice none 0 0, .slice none 0 0, .int .i64 0, .int .i64 0, .slice none 0 0, .slice none 0 0, .slice none 0 0, .int .i64 0, .int .i64 0, .string ⟨#[]⟩, .slice none 0 0, .slice none 0 0, .int .i64 0, .string ⟨#[]⟩, .slice none 0 0]
    have hBF := hB20.trans (hbS.mono hB20.size)
    have x0 := hNew.cell (i := 0) rfl
    clear hbn kN hbS hB20
    go_wp2_with (refine wpList_store_row (by rfl) 39 _ _ (by rfl) w20.heap.size [.int .i64 0, .string ⟨#[]⟩, .int .i64 0, .int .i64 0, .string ⟨#[]⟩, .int .i64 0, .int .i64 0, .slice none 0 0, .int .i64 0, .int .i64 0, .slice none 0 0, .slice none 0 0, .int .i64 0, .int .i64 0, .slice none 0 0, .slice none 0 0, .slice none 0 0, .int .i64 0, .int .i64 0, .string ⟨#[]⟩, .slice none 0 0, .slice none 0 0, .int .i64 0, .string ⟨#[]⟩, .slice none 0 0].toArray (by rfl) (by rfl) 39 _ hN0 infoMsg9 (by rfl) h1 ?_)
    go_ret
    exact ⟨rfl, hBF⟩
end Go.Proofs.YtmngiekobmhpaaaGreat

/- MsgBack: for every input the statement answers true, and each argument reads afterwards as it read before. No condition. -/
namespace Go.Proofs.YtmngiekobmhpaaaGreat
open Go.ChangeShapes Go.WideShapes Go.ChangeAt Go.RowKit
open Go.ChangeMaps (open_string shut_string)
set_option linter.unusedVariables false

set_option maxRecDepth 100000 in
theorem msgBack_lifted (os : Os) (started : os.Started) (H : Type) (enc : TypeId × Value → H) :
    ReturnsInHanded {} Tryz.checked os 4 .any (Rows.msgBackSpec.pre6 enc Tryz.prog Tryz.f4 Rows.msgBackRow.domain false) (Rows.msgBackSpec.post enc Tryz.prog Tryz.f4 false true false false) := by
  refine returnsInHanded_of_change_sized (C := Tryz.checked) ownKnob_none started (by kernel_rfl) Tryz.func4
    (ChangeSpec.witness6 (enc := enc) (C := Tryz.checked) false ⟨#[], #[.agg #[.int .i64 0, .string ByteArray.empty, .int .i64 0, .int .i64 0, .string ByteArray.empty, .int .i64 0, .int .i64 0, .slice none 0 0, .int .i64 0, .int .i64 0, .slice none 0 0, .slice none 0 0, .int .i64 0, .int .i64 0, .slice none 0 0, .slice none 0 0, .slice none 0 0, .int .i64 0, .int .i64 0, .string ByteArray.empty, .slice none 0 0, .slice none 0 0, .int .i64 0, .string ByteArray.empty, .slice none 0 0], .string ByteArray.empty, .int .i64 0], []⟩ 8 (by kernel_rfl) (by kernel_rfl) (by kernel_rfl) (by kernel_rfl)) ?_
  intro W base args ds gs before hval0 hW hcnd hsz0 _
  have hval : ∀ (j : Nat) t v, Tryz.f4.params[j]? = some t → args[j]? = some v → Value.okWide Tryz.prog W .any base t v := hval0
  have hsz : (DataW.weightsEach Tryz.prog (Tryz.f4.params.toList ++ Rows.msgBackSpec.plain.varTypes Tryz.prog) (ds ++ gs)).all (· ≤ reachBytes) = true := hsz0
  have hW' := hW
  obtain ⟨p, q, hA0, hV, rfl, hfz, hnd⟩ := hW
  have hA : DataW.TrodAll enc Tryz.prog W 0 (fun _ => true) true Tryz.f4.params.toList args.toList ds p := hA0
  rw [Tryz.params4] at hA hval hsz
  obtain ⟨v0, vs0, d0, ds0, p0, q0, hargs, rfl, rfl, h0, r0⟩ := trodAll_cons hA
  obtain ⟨v1, vs1, d1, ds1, p1, q1, rfl, rfl, rfl, h1, r1⟩ := trodAll_cons r0
  obtain ⟨v2, vs2, d2, ds2, p2, q2, rfl, rfl, rfl, h2, r2⟩ := trodAll_cons r1
  obtain ⟨rfl, rfl, rfl⟩ := trodAll_nil r2
  obtain rfl : args = #[v0, v1, v2] := by cases args; simp_all
  obtain ⟨rfl, rfl⟩ := trodVars_none hV
  have k0 := h0
  have lt0 : ∀ x ∈ p0, x.block < W.heap.size := by obtain ⟨m, hm⟩ := k0; exact DataW.trod_lt m _ _ _ hm
  obtain ⟨x0, rfl, at0, sd0, zs0, ln0, wf0⟩ := open_msg (hval 0 39 v0 rfl rfl) h0
  have in0 := msg_sized hsz (j := 0) rfl rfl sd0 zs0 ln0
  have k1 := h1
  have lt1 : ∀ x ∈ p1, x.block < W.heap.size := by obtain ⟨m, hm⟩ := k1; exact DataW.trod_lt m _ _ _ hm
  obtain ⟨a1, rfl, hd1, hp1, w1⟩ := open_string Tryz.underlying9 (hval 1 9 v1 rfl rfl) h1
  have s1 : a1.size ≤ 140737488351232 := by
    have := sized_string hsz (j := 1) (t := 9) (bytes := a1.data.toList) rfl (by rw [hd1]; rfl)
    simpa [reachBytes] using this
  have k2 := h2
  have lt2 : ∀ x ∈ p2, x.block < W.heap.size := by obtain ⟨m, hm⟩ := k2; exact DataW.trod_lt m _ _ _ hm
  obtain ⟨a2, rfl, hd2, hp2, w2⟩ := open_int Tryz.underlying3 (hval 2 3 v2 rfl rfl) h2
  clear hA0 hval0 hsz0
  refine (msgBack_walk x0 a1 a2 W at0 in0 s1 w2).mono fun e W' ⟨he, bel⟩ => ?_
  subst he
  exact ⟨_, rfl, _, _, _, [], _, [], hW', trodAll_mk1 (shut_bool Tryz.underlying4 _), (trodAll_cons_mk (Below.trod laidOut_true (by kernel_rfl) (of_decide_eq_true (by kernel_rfl)) k0 bel lt0) (trodAll_cons_mk (Below.trod laidOut_true (by kernel_rfl) (of_decide_eq_true (by kernel_rfl)) k1 bel lt1) (trodAll_cons_mk (Below.trod laidOut_true (by kernel_rfl) (of_decide_eq_true (by kernel_rfl)) k2 bel lt2) trodAll_mk0))), rfl, bel.frame _, fun h => by cases h⟩

theorem msgBack_holds : Rows.MsgBackSaid :=
  OpenClaim.holds_of_wide 4 Tryz.f4 rfl rfl rfl rfl rfl rfl rfl ⟨rfl, rfl, rfl, rfl, rfl⟩ rfl rfl rfl rfl rfl (by kernel_rfl) Tryz.func4 (by kernel_rfl)
    (of_decide_eq_true (by kernel_rfl)) (by unfold Func.isWrapper; rw [if_neg (of_decide_eq_false (by kernel_rfl))]; exact ⟨rfl, rfl⟩)
    (fun os started H enc _ => msgBack_lifted os started H enc)
end Go.Proofs.YtmngiekobmhpaaaGreat
