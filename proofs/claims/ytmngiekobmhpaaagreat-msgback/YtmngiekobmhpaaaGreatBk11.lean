/- Texts as one: MsgCheck, KindsOpen, HdrOpen, HdrTagsEnc, BldFree, HdrEncode. -/
import Derived.Test.YtmngiekobmhpaaaGreatBk10
import Derived.Lib.OthersKept
import Derived.BigFrame
import Derived.Test.YtmngiekobmhpaaaGreatBk06
import Derived.Test.YtmngiekobmhpaaaGreatBk02
import Derived.Deep.Slices
import Derived.Lib.SmallJoins
import Derived.Test.YtmngiekobmhpaaaGreatBk07
import Derived.Deep.RegionLaw
import Derived.Test.YtmngiekobmhpaaaGreatBk03
import Derived.Test.YtmngiekobmhpaaaGreatBk04
/- What package msg's checkField and Check say; nothing old in memory is turned. -/
namespace Go.Proofs.YtmngiekobmhpaaaGreat
open Go.RowKit
set_option linter.unusedVariables false

/-- What is wrong with a field that belongs to the kind. -/
def chkF9 (m : MsgD) (c : UInt8) : Nat := if c = 98 then checkB m.batch else if plainF m c = true then 0 else 3

/-- All fields. -/
def every9 : ByteArray := ⟨#[100, 118, 116, 98, 104, 99, 107, 113]⟩

theorem every9_mem (i : Nat) (h : i < every9.size) : every9[i] ∈ letters := by
  have h8 : i < 8 := h
  have : i = 0 ∨ i = 1 ∨ i = 2 ∨ i = 3 ∨ i = 4 ∨ i = 5 ∨ i = 6 ∨ i = 7 := by omega
  rcases this with rfl | rfl | rfl | rfl | rfl | rfl | rfl | rfl
  · exact (by decide : (100 : UInt8) ∈ letters)
  · exact (by decide : (118 : UInt8) ∈ letters)
  · exact (by decide : (116 : UInt8) ∈ letters)
  · exact (by decide : (98 : UInt8) ∈ letters)
  · exact (by decide : (104 : UInt8) ∈ letters)
  · exact (by decide : (99 : UInt8) ∈ letters)
  · exact (by decide : (107 : UInt8) ∈ letters)
  · exact (by decide : (113 : UInt8) ∈ letters)

theorem every9_bare {m : MsgD} (h : ∀ j (hj : j < every9.size), every9[j] ∈ fieldsK m.kind ∨ zeroF m every9[j]) : m.Bare :=
  ⟨h 0 (by decide), h 1 (by decide), h 2 (by decide), h 3 (by decide), h 4 (by decide), h 5 (by decide), h 6 (by decide), h 7 (by decide)⟩

theorem bare_every9 {m : MsgD} (h : m.Bare) : ∀ j (hj : j < every9.size), every9[j] ∈ fieldsK m.kind ∨ zeroF m every9[j] := by
  intro j hj
  obtain ⟨a, b, c, d, e, f, g, i⟩ := h
  have h8 : j < 8 := hj
  have : j = 0 ∨ j = 1 ∨ j = 2 ∨ j = 3 ∨ j = 4 ∨ j = 5 ∨ j = 6 ∨ j = 7 := by omega
  rcases this with rfl | rfl | rfl | rfl | rfl | rfl | rfl | rfl
  · exact a
  · exact b
  · exact c
  · exact d
  · exact e
  · exact f
  · exact g
  · exact i

theorem hdr_nil_plain {h : HdrD} (hz : h.Nil) : h.Plain := by
  rw [hz.eq]
  exact ⟨⟨by decide, by decide, ⟨by decide, by decide⟩, by decide, by decide⟩, (fun p hp => by cases hp), fun r hr => by cases hr⟩

theorem cert_nil_plain {c : CertD} (hz : c.Nil) : c.Plain := by
  rw [hz.eq]
  exact ⟨hdr_nil_plain ⟨rfl, rfl, rfl, rfl⟩, (fun t ht => by cases ht), by decide⟩

theorem fieldsK_b {k : Int} (h : 98 ∈ fieldsK k) : fieldsK k = [98] := by
  by_cases h0 : fieldsK k = []
  · rw [h0] at h; cases h
  rcases kind_cases h0 with rfl | rfl | rfl | rfl | rfl | rfl | rfl | rfl | rfl | rfl | rfl
  · rfl
  all_goals exact absurd h (by decide)

theorem okM_plain {m : MsgD} (hb : m.Bare) (h98 : 98 ∉ fieldsK m.kind) : okM m = true ↔ ∀ c ∈ fieldsK m.kind, plainF m c = true := by
  rw [okM_iff]
  obtain ⟨b1, b2, b3, b4, b5, b6, b7, b8⟩ := hb
  constructor
  · rintro ⟨o1, o2, o3, o4, o5, o6, o7⟩ c hc
    obtain ⟨_, hl⟩ := fieldsK_letters m.kind
    have hcl := hl c hc
    simp only [letters, List.mem_cons, List.not_mem_nil, or_false] at hcl
    rcases hcl with rfl | rfl | rfl | rfl | rfl | rfl | rfl | rfl
    · exact decide_eq_true o2
    · exact decide_eq_true (o3 hc)
    · exact decide_eq_true (o1 hc)
    · exact absurd hc h98
    · exact decide_eq_true o4
    · exact decide_eq_true o5
    · exact decide_eq_true (o7 hc)
    · exact decide_eq_true (o6 hc)
  · intro h
    refine ⟨fun hc => of_decide_eq_true (h 100 hc), ?_, fun hc => of_decide_eq_true (h 116 hc), ?_, ?_, fun hc => of_decide_eq_true (h 113 hc), fun hc => of_decide_eq_true (h 107 hc)⟩
    · rcases b2 with hc | hz
      · exact of_decide_eq_true (h 118 hc)
      · rw [hz]; exact ⟨by decide, by decide⟩
    · rcases b5 with hc | hz
      · exact of_decide_eq_true (h 104 hc)
      · exact hdr_nil_plain hz
    · rcases b6 with hc | hz
      · exact of_decide_eq_true (h 99 hc)
      · exact cert_nil_plain hz

/-- The first field that is wrong tells. -/
theorem chkM_first {m : MsgD} (hb : m.Bare) (i : Nat) (hi : i < (fieldsK m.kind).length) (h0 : ∀ j (hj : j < i), chkF9 m ((fieldsK m.kind)[j]'(by omega)) = 0) (h1 : chkF9 m (fieldsK m.kind)[i] ≠ 0) : chkM m = chkF9 m (fieldsK m.kind)[i] := by
  have hne : fieldsK m.kind ≠ [] := fun e => by rw [e] at hi; exact absurd hi (by simp)
  unfold chkM
  rw [if_neg hne, if_neg (fun h => h hb)]
  by_cases h98 : 98 ∈ fieldsK m.kind
  · rw [if_pos h98]
    have hc : (fieldsK m.kind)[i] = 98 := by
      have := List.getElem_mem hi
      have e := fieldsK_b h98
      have hm : ∀ c ∈ fieldsK m.kind, c = 98 := by rw [e]; simp
      exact hm _ this
    rw [hc]
    exact (if_pos rfl).symm
  · have hc : (fieldsK m.kind)[i] ≠ 98 := fun e => h98 (by rw [← e]; exact List.getElem_mem hi)
    rw [if_neg h98]
    unfold chkF9 at h1 ⊢
    rw [if_neg hc] at h1 ⊢
    by_cases hp : plainF m (fieldsK m.kind)[i] = true
    · rw [if_pos hp] at h1; exact absurd rfl h1
    · rw [if_neg hp, if_neg (fun h => hp ((okM_plain hb h98).1 h _ (List.getElem_mem hi)))]

theorem chkM_all {m : MsgD} (hb : m.Bare) (hne : fieldsK m.kind ≠ []) (h0 : ∀ c ∈ fieldsK m.kind, chkF9 m c = 0) : chkM m = 0 := by
  unfold chkM
  rw [if_neg hne, if_neg (fun h => h hb)]
  by_cases h98 : 98 ∈ fieldsK m.kind
  · rw [if_pos h98]
    have := h0 98 h98
    unfold chkF9 at this
    rw [if_pos rfl] at this
    exact this
  · rw [if_neg h98, if_pos]
    rw [okM_plain hb h98]
    intro c hc
    have := h0 c hc
    unfold chkF9 at this
    rw [if_neg (fun e => h98 (by rw [← e]; exact hc))] at this
    by_cases hp : plainF m c = true
    · exact hp
    · rw [if_neg hp] at this; cases this

/-- A whole row is loaded behind a guard that lets it. -/
theorem wpList_load_rowG {P : Program} {ops : Array Oper} {rest : List Oper} {o : Oper} {a : Act} {w : World} {Q : Exit → Act → World → Prop} (hw : Region.wanted o (yielded ops a.tmps) = true) (ty : TypeId) (x : Operand) (ho : o.op = .load ty x)
    (g : Nat) (hx : a.eval x = .pointer (some ⟨g, 0, none⟩)) (t : TypeId) (cs : Array Value) (fr : Nat × Nat) (d : TypeDesc) (hg : w.heap[g]? = some (.cells cs t fr))
    (hu : P.underlying ty = some d) (hd : (match d with | .struct _ | .array _ _ => true | _ => false) = true) (hi : (P.info? ty).map (·.size) = some cs.size)
    (h : wpList P ops Q rest (a.put o.dst (.agg cs)) w) : wpList P ops Q (o :: rest) a w :=
  BigFrame.wpList_want hw fun _ hK => wp_load_row ty x ho g hx t cs fr d hg hu hd hi (hK _ _ h)

set_option maxRecDepth 100000 in
set_option maxHeartbeats 4000000 in
theorem checkField_any (x : MsgM) (c : UInt8) (hc : c ∈ letters) (w : World) (hA : x.At w) (hn : x.Num) :
    Calls Tryz.prog 41 #[x.v, .int .i32 (c.toNat : Int)] w fun e w' => e = .returned (.int .i64 (chkF9 x.d c : Int)) ∧ Below w.heap.size w w' := by
  obtain ⟨k, dg, vi, tg, ba, he, ce, bl, q⟩ := x
  have hX := Arr.new w 39 [.int .i64 k, .string dg, .int .i64 vi, .int .i64 tg.who, .string tg.mac, .int .i64 ba.author, .int .i64 ba.number, .slice ba.ta ba.txs.length ba.tc, .int .i64 he.author, .int .i64 he.round, .slice he.ra he.refs.length he.rc, .slice he.pa he.parents.length he.pc, .int .i64 ce.hdr.author, .int .i64 ce.hdr.round, .slice ce.hdr.ra ce.hdr.refs.length ce.hdr.rc, .slice ce.hdr.pa ce.hdr.parents.length ce.hdr.pc, .slice ce.va ce.votes.length ce.vc, .int .i64 bl.view, .int .i64 bl.qc.view, .string bl.qc.block, .slice bl.qc.va bl.qc.votes.length bl.qc.vc, .slice bl.ca bl.certs.length bl.cc, .int .i64 q.view, .string q.block, .slice q.va q.votes.length q.vc]
  have hB := belowNew w (.cells [.int .i64 k, .string dg, .int .i64 vi, .int .i64 tg.who, .string tg.mac, .int .i64 ba.author, .int .i64 ba.number, .slice ba.ta ba.txs.length ba.tc, .int .i64 he.author, .int .i64 he.round, .slice he.ra he.refs.length he.rc, .slice he.pa he.parents.length he.pc, .int .i64 ce.hdr.author, .int .i64 ce.hdr.round, .slice ce.hdr.ra ce.hdr.refs.length ce.hdr.rc, .slice ce.hdr.pa ce.hdr.parents.length ce.hdr.pc, .slice ce.va ce.votes.length ce.vc, .int .i64 bl.view, .int .i64 bl.qc.view, .string bl.qc.block, .slice bl.qc.va bl.qc.votes.length bl.qc.vc, .slice bl.ca bl.certs.length bl.cc, .int .i64 q.view, .string q.block, .slice q.va q.votes.length q.vc].toArray 39)
  have hA1 := hA.below hB
  by_cases h98 : c = 98
  · subst h98
    have cB := batCheck_any ba.author ba.number ba.ta ba.txs ba.tc (w.alloc (.cells [.int .i64 k, .string dg, .int .i64 vi, .int .i64 tg.who, .string tg.mac, .int .i64 ba.author, .int .i64 ba.number, .slice ba.ta ba.txs.length ba.tc, .int .i64 he.author, .int .i64 he.round, .slice he.ra he.refs.length he.rc, .slice he.pa he.parents.length he.pc, .int .i64 ce.hdr.author, .int .i64 ce.hdr.round, .slice ce.hdr.ra ce.hdr.refs.length ce.hdr.rc, .slice ce.hdr.pa ce.hdr.parents.length ce.hdr.pc, .slice ce.va ce.votes.length ce.vc, .int .i64 bl.view, .int .i64 bl.qc.view, .string bl.qc.block, .slice bl.qc.va bl.qc.votes.length bl.qc.vc, .slice bl.ca bl.certs.length bl.cc, .int .i64 q.view, .string q.block, .slice q.va q.votes.length q.vc].toArray 39)) hA1.bat.txs.txs
    have hr : Hid (chkF9 (MsgM.d ⟨k, dg, vi, tg, ba, he, ce, bl, q⟩) 98 = checkB ⟨ba.author, ba.number, dl ba.txs⟩) := (if_pos rfl : _ = _)
    obtain ⟨out, hout⟩ : ∃ n : Nat, Hid (n = chkF9 (MsgM.d ⟨k, dg, vi, tg, ba, he, ce, bl, q⟩) 98) := ⟨_, rfl⟩
    rw [← hout.out]
    rw [← hr.out, ← hout.out] at cB
    unfold batV at cB
    unfold MsgM.v MsgM.c
    simp only
    clear hA hA1 hr hn
    obtain ⟨w1, hw1⟩ : ∃ q', w.alloc (.cells [.int .i64 k, .string dg, .int .i64 vi, .int .i64 tg.who, .string tg.mac, .int .i64 ba.author, .int .i64 ba.number, .slice ba.ta ba.txs.length ba.tc, .int .i64 he.author, .int .i64 he.round, .slice he.ra he.refs.length he.rc, .slice he.pa he.parents.length he.pc, .int .i64 ce.hdr.author, .int .i64 ce.hdr.round, .slice ce.hdr.ra ce.hdr.refs.length ce.hdr.rc, .slice ce.hdr.pa ce.hdr.parents.length ce.hdr.pc, .slice ce.va ce.votes.length ce.vc, .int .i64 bl.view, .int .i64 bl.qc.view, .string bl.qc.block, .slice bl.qc.va bl.qc.votes.length bl.qc.vc, .slice bl.ca bl.certs.length bl.cc, .int .i64 q.view, .string q.block, .slice q.va q.votes.length q.vc].toArray 39) = q' := ⟨_, rfl⟩
    rw [hw1] at hX hB cB
    have x5 := hX.cell (i := 5) rfl
    have x6 := hX.cell (i := 6) rfl
    have x7 := hX.cell (i := 7) rfl
    go_enter Tryz.func41, Tryz.ntmps41
    go_wp2_with fail
    refine cB.mono ?_
    rintro e w2 ⟨rfl, hb2⟩
    have hB2 := hB.trans (hb2.mono hB.size)
    clear cB hX hB hb2 x5 x6 x7 hw1
    go_wp2
    go_ret
    exact ⟨rfl, hB2⟩
  · have cP := isPlain_any ⟨k, dg, vi, tg, ba, he, ce, bl, q⟩ c hc h98 (w.alloc (.cells [.int .i64 k, .string dg, .int .i64 vi, .int .i64 tg.who, .string tg.mac, .int .i64 ba.author, .int .i64 ba.number, .slice ba.ta ba.txs.length ba.tc, .int .i64 he.author, .int .i64 he.round, .slice he.ra he.refs.length he.rc, .slice he.pa he.parents.length he.pc, .int .i64 ce.hdr.author, .int .i64 ce.hdr.round, .slice ce.hdr.ra ce.hdr.refs.length ce.hdr.rc, .slice ce.hdr.pa ce.hdr.parents.length ce.hdr.pc, .slice ce.va ce.votes.length ce.vc, .int .i64 bl.view, .int .i64 bl.qc.view, .string bl.qc.block, .slice bl.qc.va bl.qc.votes.length bl.qc.vc, .slice bl.ca bl.certs.length bl.cc, .int .i64 q.view, .string q.block, .slice q.va q.votes.length q.vc].toArray 39)) hA1 hn
    have hr : Hid (chkF9 (MsgM.d ⟨k, dg, vi, tg, ba, he, ce, bl, q⟩) c = if plainF (MsgM.d ⟨k, dg, vi, tg, ba, he, ce, bl, q⟩) c = true then 0 else 3) := (if_neg h98 : _ = _)
    have h98' : ((c.toNat : Int) == 98) = false := by
      rw [beq_eq_false_iff_ne]
      intro e
      exact h98 (UInt8.toNat_inj.1 (by show c.toNat = 98; omega))
    obtain ⟨out, hout⟩ : ∃ n : Nat, Hid (n = chkF9 (MsgM.d ⟨k, dg, vi, tg, ba, he, ce, bl, q⟩) c) := ⟨_, rfl⟩
    rw [← hout.out]
    rw [← hout.out] at hr
    obtain ⟨P, hP⟩ : ∃ b : Bool, b = plainF (MsgM.d ⟨k, dg, vi, tg, ba, he, ce, bl, q⟩) c := ⟨_, rfl⟩
    rw [← hP] at cP hr
    unfold MsgM.v MsgM.c at cP ⊢
    simp only at cP ⊢
    clear hA hA1 hn hP hout h98
    generalize (c.toNat : Int) = cn at *
    obtain ⟨w1, hw1⟩ : ∃ q', w.alloc (.cells [.int .i64 k, .string dg, .int .i64 vi, .int .i64 tg.who, .string tg.mac, .int .i64 ba.author, .int .i64 ba.number, .slice ba.ta ba.txs.length ba.tc, .int .i64 he.author, .int .i64 he.round, .slice he.ra he.refs.length he.rc, .slice he.pa he.parents.length he.pc, .int .i64 ce.hdr.author, .int .i64 ce.hdr.round, .slice ce.hdr.ra ce.hdr.refs.length ce.hdr.rc, .slice ce.hdr.pa ce.hdr.parents.length ce.hdr.pc, .slice ce.va ce.votes.length ce.vc, .int .i64 bl.view, .int .i64 bl.qc.view, .string bl.qc.block, .slice bl.qc.va bl.qc.votes.length bl.qc.vc, .slice bl.ca bl.certs.length bl.cc, .int .i64 q.view, .string q.block, .slice q.va q.votes.length q.vc].toArray 39) = q' := ⟨_, rfl⟩
    rw [hw1] at hX hB cP
    go_enter Tryz.func41, Tryz.ntmps41
    go_wp2_with (refine wpList_load_row (by rfl) 39 _ (by rfl) w.heap.size (by rfl) 39 _ (0, 0) _ hX Tryz.underlying39 (by rfl) infoMsg9 ?_)
    refine cP.mono ?_
    rintro e w2 ⟨⟨p, rfl, hp⟩, hb2⟩
    have hB2 := hB.trans (hb2.mono hB.size)
    clear cP hX hB hb2 hw1
    cases p
    case false =>
      have ho : Hid (out = 3) := by
        show _ = _
        rw [hr.out, if_neg (fun h => by have := hp.2 h; cases this)]
      clear hr hp
      go_wp2
      go_ret
      exact ⟨by rw [ho.out]; rfl, hB2⟩
    have ho : Hid (out = 0) := by
      show _ = _
      rw [hr.out, if_pos (hp.1 rfl)]
    clear hr hp
    go_wp2
    go_ret
    exact ⟨by rw [ho.out]; rfl, hB2⟩

set_option maxRecDepth 100000 in
set_option maxHeartbeats 8000000 in
theorem msgCheck_any (x : MsgM) (w : World) (hA : x.At w) (hn : x.Num) :
    Calls Tryz.prog 14 #[x.v] w fun e w' => e = .returned (.int .i64 (chkM x.d : Int)) ∧ Below w.heap.size w w' := by
  obtain ⟨k, dg, vi, tg, ba, he, ce, bl, q⟩ := x
  obtain ⟨out, hout⟩ : ∃ n : Nat, Hid (n = chkM (MsgM.d ⟨k, dg, vi, tg, ba, he, ce, bl, q⟩)) := ⟨_, rfl⟩
  rw [← hout.out]
  have hX := Arr.new w 39 [.int .i64 k, .string dg, .int .i64 vi, .int .i64 tg.who, .string tg.mac, .int .i64 ba.author, .int .i64 ba.number, .slice ba.ta ba.txs.length ba.tc, .int .i64 he.author, .int .i64 he.round, .slice he.ra he.refs.length he.rc, .slice he.pa he.parents.length he.pc, .int .i64 ce.hdr.author, .int .i64 ce.hdr.round, .slice ce.hdr.ra ce.hdr.refs.length ce.hdr.rc, .slice ce.hdr.pa ce.hdr.parents.length ce.hdr.pc, .slice ce.va ce.votes.length ce.vc, .int .i64 bl.view, .int .i64 bl.qc.view, .string bl.qc.block, .slice bl.qc.va bl.qc.votes.length bl.qc.vc, .slice bl.ca bl.certs.length bl.cc, .int .i64 q.view, .string q.block, .slice q.va q.votes.length q.vc]
  have hB := belowNew w (.cells [.int .i64 k, .string dg, .int .i64 vi, .int .i64 tg.who, .string tg.mac, .int .i64 ba.author, .int .i64 ba.number, .slice ba.ta ba.txs.length ba.tc, .int .i64 he.author, .int .i64 he.round, .slice he.ra he.refs.length he.rc, .slice he.pa he.parents.length he.pc, .int .i64 ce.hdr.author, .int .i64 ce.hdr.round, .slice ce.hdr.ra ce.hdr.refs.length ce.hdr.rc, .slice ce.hdr.pa ce.hdr.parents.length ce.hdr.pc, .slice ce.va ce.votes.length ce.vc, .int .i64 bl.view, .int .i64 bl.qc.view, .string bl.qc.block, .slice bl.qc.va bl.qc.votes.length bl.qc.vc, .slice bl.ca bl.certs.length bl.cc, .int .i64 q.view, .string q.block, .slice q.va q.votes.length q.vc].toArray 39)
  have cL := letters_any k
  have cR := fun c hc => containsRune_any (fieldsS k) c hc
  have cZ := fun c hc w1 => isZero_any ⟨k, dg, vi, tg, ba, he, ce, bl, q⟩ c hc w1
  have cF := fun c hc w1 h1 => checkField_any ⟨k, dg, vi, tg, ba, he, ce, bl, q⟩ c hc w1 h1 hn
  unfold MsgM.v MsgM.c at cZ cF ⊢
  simp only at cZ cF ⊢
  obtain ⟨w1, hw1⟩ : ∃ q', w.alloc (.cells [.int .i64 k, .string dg, .int .i64 vi, .int .i64 tg.who, .string tg.mac, .int .i64 ba.author, .int .i64 ba.number, .slice ba.ta ba.txs.length ba.tc, .int .i64 he.author, .int .i64 he.round, .slice he.ra he.refs.length he.rc, .slice he.pa he.parents.length he.pc, .int .i64 ce.hdr.author, .int .i64 ce.hdr.round, .slice ce.hdr.ra ce.hdr.refs.length ce.hdr.rc, .slice ce.hdr.pa ce.hdr.parents.length ce.hdr.pc, .slice ce.va ce.votes.length ce.vc, .int .i64 bl.view, .int .i64 bl.qc.view, .string bl.qc.block, .slice bl.qc.va bl.qc.votes.length bl.qc.vc, .slice bl.ca bl.certs.length bl.cc, .int .i64 q.view, .string q.block, .slice q.va q.votes.length q.vc].toArray 39) = q' := ⟨_, rfl⟩
  have hs1 : w1.heap.size = w.heap.size + 1 := by rw [← hw1, alloc_size]
  rw [hw1] at hX hB
  have x0 := hX.cell (i := 0) rfl
  have hK : Hid ((MsgM.d ⟨k, dg, vi, tg, ba, he, ce, bl, q⟩).kind = k) := rfl
  have hkl : (fieldsS k).data.toList = fieldsK k := rfl
  obtain ⟨own, hown⟩ : ∃ o, o = fieldsS k := ⟨_, rfl⟩
  rw [← hown] at cL cR hkl
  have HO : Hid (own = fieldsS k) := hown
  clear hown
  have HA : Hid (MsgM.At w ⟨k, dg, vi, tg, ba, he, ce, bl, q⟩) := hA
  clear hn hA
  go_enter Tryz.func14, Tryz.ntmps14
  go_wp2_with fail
  refine (cL _).mono ?_
  rintro e w2 ⟨rfl, hw2⟩
  have hX2 : Arr w2 w.heap.size 39 [.int .i64 k, .string dg, .int .i64 vi, .int .i64 tg.who, .string tg.mac, .int .i64 ba.author, .int .i64 ba.number, .slice ba.ta ba.txs.length ba.tc, .int .i64 he.author, .int .i64 he.round, .slice he.ra he.refs.length he.rc, .slice he.pa he.parents.length he.pc, .int .i64 ce.hdr.author, .int .i64 ce.hdr.round, .slice ce.hdr.ra ce.hdr.refs.length ce.hdr.rc, .slice ce.hdr.pa ce.hdr.parents.length ce.hdr.pc, .slice ce.va ce.votes.length ce.vc, .int .i64 bl.view, .int .i64 bl.qc.view, .string bl.qc.block, .slice bl.qc.va bl.qc.votes.length bl.qc.vc, .slice bl.ca bl.certs.length bl.cc, .int .i64 q.view, .string q.block, .slice q.va q.votes.length q.vc] := by rw [hw2]; exact hX
  have hB2 : Below w.heap.size w w2 := by rw [hw2]; exact hB
  have hs2 : w2.heap.size = w.heap.size + 1 := by rw [hw2]; exact hs1
  clear hX hB hs1 x0 hw2 hw1 cL
  cases hE : own.toList.isEmpty
  case true =>
    have ho : Hid (out = 5) := by
      show _ = _
      rw [hout.out]
      unfold chkM
      rw [if_pos]
      rw [hK.out, ← hkl, ← ByteArray.toList_eq]
      exact List.isEmpty_iff.1 hE
    clear hout cR cZ cF hX2 hs2 hkl HO
    go_wp2
    go_ret
    exact ⟨by rw [ho.out]; rfl, hB2⟩
  have Hne : Hid (fieldsK k ≠ []) := fun e => by
    have : own.toList.isEmpty = true := by rw [ByteArray.toList_eq, hkl, e]; rfl
    rw [hE] at this
    cases this
  have hXi := hX2.alloc (.stringIter every9 0)
  have hBi := hB2.alloc hB2.size (.stringIter every9 0)
  have hIt : (w2.alloc (.stringIter every9 0)).heap[w.heap.size + 1]? = some (.stringIter every9 0) := by rw [← hs2]; exact World.iter_heap w2 every9 0
  clear hX2 hB2
  go_wp2
  go_loopw [5] (fun v5 wr => ∃ i : Nat, i ≤ every9.size ∧ wr.heap[w.heap.size + 1]? = some (.stringIter every9 i) ∧ Arr wr w.heap.size 39 [.int .i64 k, .string dg, .int .i64 vi, .int .i64 tg.who, .string tg.mac, .int .i64 ba.author, .int .i64 ba.number, .slice ba.ta ba.txs.length ba.tc, .int .i64 he.author, .int .i64 he.round, .slice he.ra he.refs.length he.rc, .slice he.pa he.parents.length he.pc, .int .i64 ce.hdr.author, .int .i64 ce.hdr.round, .slice ce.hdr.ra ce.hdr.refs.length ce.hdr.rc, .slice ce.hdr.pa ce.hdr.parents.length ce.hdr.pc, .slice ce.va ce.votes.length ce.vc, .int .i64 bl.view, .int .i64 bl.qc.view, .string bl.qc.block, .slice bl.qc.va bl.qc.votes.length bl.qc.vc, .slice bl.ca bl.certs.length bl.cc, .int .i64 q.view, .string q.block, .slice q.va q.votes.length q.vc] ∧ Below w.heap.size w wr ∧ Hid (∀ j (hj : j < every9.size), j < i → every9[j] ∈ fieldsK k ∨ zeroF (MsgM.d ⟨k, dg, vi, tg, ba, he, ce, bl, q⟩) every9[j])) (fun _ wr => every9.size - wr.iterPos (w.heap.size + 1))
  case atStart => exact ⟨0, Nat.zero_le _, by first | exact hIt | (rw [hs2] at hIt; exact hIt), hXi, hBi, fun j hj h => absurd h (by omega)⟩
  case round =>
    clear hXi hBi hIt
    obtain ⟨i, hi8, hit, hX, hb, HF⟩ := hrel
    have hlt2 : w.heap.size + 1 < wr.heap.size := (Array.getElem?_eq_some_iff.1 hit).1
    by_cases hi : i < every9.size
    · have hmem := every9_mem i hi
      have hasc : (every9[i]).toNat < 128 := by
        have : ∀ c ∈ letters, c.toNat < 128 := by decide
        exact this _ hmem
      have hnx : ∀ ty, (Instr.next (.pointer (some ⟨w.heap.size + 1, 0, none⟩)) true ty).run Tryz.prog wr = _ := fun ty => Lib.run_next_ascii_at wr (w.heap.size + 1) every9 i ty hit hi hasc
      have hit2 := Lib.iterAt_heap wr (w.heap.size + 1) every9 i (i + 1) hit
      have hX2 : Arr (wr.iterAt (w.heap.size + 1) every9 (i + 1)) w.heap.size 39 [.int .i64 k, .string dg, .int .i64 vi, .int .i64 tg.who, .string tg.mac, .int .i64 ba.author, .int .i64 ba.number, .slice ba.ta ba.txs.length ba.tc, .int .i64 he.author, .int .i64 he.round, .slice he.ra he.refs.length he.rc, .slice he.pa he.parents.length he.pc, .int .i64 ce.hdr.author, .int .i64 ce.hdr.round, .slice ce.hdr.ra ce.hdr.refs.length ce.hdr.rc, .slice ce.hdr.pa ce.hdr.parents.length ce.hdr.pc, .slice ce.va ce.votes.length ce.vc, .int .i64 bl.view, .int .i64 bl.qc.view, .string bl.qc.block, .slice bl.qc.va bl.qc.votes.length bl.qc.vc, .slice bl.ca bl.certs.length bl.cc, .int .i64 q.view, .string q.block, .slice q.va q.votes.length q.vc] := (Lib.iterAt_other wr (w.heap.size + 1) w.heap.size every9 (i + 1) (by omega)).trans hX
      have hb2 := Lib.below_iterAt hb (k := w.heap.size + 1) (by omega) every9 (i + 1)
      obtain ⟨c, hcd⟩ : ∃ c, c = every9[i] := ⟨_, rfl⟩
      rw [← hcd] at hmem hnx
      have cR1 := cR c hmem
      have cZ1 := cZ c hmem
      have HM : Hid (every9.size - (i + 1) < every9.size - World.iterPos wr (w.heap.size + 1)) := by
        show _ < _
        simp only [World.iterPos, hit]
        omega
      have HN : Hid ((c ∈ fieldsK k ∨ zeroF (MsgM.d ⟨k, dg, vi, tg, ba, he, ce, bl, q⟩) c) → ∀ j (hj : j < every9.size), j < i + 1 → every9[j] ∈ fieldsK k ∨ zeroF (MsgM.d ⟨k, dg, vi, tg, ba, he, ce, bl, q⟩) every9[j]) := by
        intro h j hj hji
        by_cases hj2 : j < i
        · exact HF.out j hj hj2
        · have : j = i := by omega
          subst this
          rw [← hcd]
          exact h
      have HZ : Hid (¬ (c ∈ fieldsK k ∨ zeroF (MsgM.d ⟨k, dg, vi, tg, ba, he, ce, bl, q⟩) c) → out = 3) := by
        intro h
        rw [hout.out]
        unfold chkM
        rw [if_neg (show ¬ fieldsK (MsgM.d ⟨k, dg, vi, tg, ba, he, ce, bl, q⟩).kind = [] from Hne.out), if_pos]
        intro hbare
        exact h (by rw [hcd]; exact bare_every9 hbare i hi)
      clear HF hcd hasc hit hX hb
      obtain ⟨w3, hw3⟩ : ∃ q', wr.iterAt (w.heap.size + 1) every9 (i + 1) = q' := ⟨_, rfl⟩
      rw [hw3] at hit2 hX2 hb2 hnx
      have hlt3 : w.heap.size + 1 < w3.heap.size := (Array.getElem?_eq_some_iff.1 hit2).1
      clear hw3
      go_wp2_with fail
      refine (cR1 _).mono ?_
      rintro e w4 ⟨rfl, hw4⟩
      rw [← hw4] at hit2 hX2 hb2 hlt3
      clear hw4 cR1
      by_cases hin : c ∈ own.data.toList
      · have hF2 : Hid (∀ j (hj : j < every9.size), j < i + 1 → every9[j] ∈ fieldsK k ∨ zeroF (MsgM.d ⟨k, dg, vi, tg, ba, he, ce, bl, q⟩) every9[j]) := HN.out (Or.inl (by rw [← hkl]; exact hin))
        rw [decide_eq_true hin]
        clear HN HZ hnx
        go_wp2
        go_roundw
        case rel => exact ⟨i + 1, by omega, hit2, hX2, hb2, hF2⟩
        case measure =>
          have := HM.out
          simp only [World.iterPos, hit2] at this ⊢
          omega
      · rw [decide_eq_false hin]
        have hin' : ¬ c ∈ fieldsK k := by rw [← hkl]; exact hin
        go_wp2_with (refine wpList_load_rowG (by rfl) 39 _ (by rfl) w.heap.size (by rfl) 39 _ (0, 0) _ hX2 Tryz.underlying39 (by rfl) infoMsg9 ?_)
        refine (cZ1 _).mono ?_
        rintro e w5 ⟨⟨p, rfl, hp⟩, hb5⟩
        have hX5 := hX2.below hb5 hX2.lt
        have hB5 := hb2.trans (hb5.mono hb2.size)
        have hit5 : w5.heap[w.heap.size + 1]? = some (.stringIter every9 (i + 1)) := by rw [hb5.block _ hlt3]; exact hit2
        clear cZ1 hX2 hb2 hb5 hit2 hnx
        cases p
        case false =>
          have ho : Hid (out = 3) := HZ.out (fun h => h.elim hin' (fun h => by have := hp.2 h; cases this))
          clear HN HZ hp
          go_wp2
          go_ret
          exact ⟨by rw [ho.out]; rfl, hB5⟩
        have hF2 : Hid (∀ j (hj : j < every9.size), j < i + 1 → every9[j] ∈ fieldsK k ∨ zeroF (MsgM.d ⟨k, dg, vi, tg, ba, he, ce, bl, q⟩) every9[j]) := HN.out (Or.inr (hp.1 rfl))
        clear HN HZ hp
        go_wp2
        go_roundw
        case rel => exact ⟨i + 1, by omega, hit5, hX5, hB5, hF2⟩
        case measure =>
          have := HM.out
          simp only [World.iterPos, hit5] at this ⊢
          omega
    · have hbare : Hid ((MsgM.d ⟨k, dg, vi, tg, ba, he, ce, bl, q⟩).Bare) := every9_bare (fun j hj => HF.out j hj (by omega))
      have hnx : ∀ ty, (Instr.next (.pointer (some ⟨w.heap.size + 1, 0, none⟩)) true ty).run Tryz.prog wr = _ := fun ty => Lib.run_next_end_at wr (w.heap.size + 1) every9 i ty hit hi
      have hXi := hX.alloc (.stringIter own 0)
      have hBi := hb.alloc hb.size (.stringIter own 0)
      have hIt : (wr.alloc (.stringIter own 0)).heap[wr.heap.size]? = some (.stringIter own 0) := World.iter_heap wr own 0
      have HA1 : Hid (MsgM.At wr ⟨k, dg, vi, tg, ba, he, ce, bl, q⟩) := HA.out.below hb
      obtain ⟨B, hBd⟩ : ∃ B, wr.heap.size = B := ⟨_, rfl⟩
      rw [hBd] at hIt
      have hwB : w.heap.size < B := by omega
      have hos : own.size = (fieldsK k).length := by rw [← hkl]; rfl
      go_wp2
      go_loopw [7, 8] (fun v7 v8 wr => ∃ i : Nat, i ≤ own.size ∧ wr.heap[B]? = some (.stringIter own i) ∧ Arr wr w.heap.size 39 [.int .i64 k, .string dg, .int .i64 vi, .int .i64 tg.who, .string tg.mac, .int .i64 ba.author, .int .i64 ba.number, .slice ba.ta ba.txs.length ba.tc, .int .i64 he.author, .int .i64 he.round, .slice he.ra he.refs.length he.rc, .slice he.pa he.parents.length he.pc, .int .i64 ce.hdr.author, .int .i64 ce.hdr.round, .slice ce.hdr.ra ce.hdr.refs.length ce.hdr.rc, .slice ce.hdr.pa ce.hdr.parents.length ce.hdr.pc, .slice ce.va ce.votes.length ce.vc, .int .i64 bl.view, .int .i64 bl.qc.view, .string bl.qc.block, .slice bl.qc.va bl.qc.votes.length bl.qc.vc, .slice bl.ca bl.certs.length bl.cc, .int .i64 q.view, .string q.block, .slice q.va q.votes.length q.vc] ∧ Below w.heap.size w wr ∧ Hid (∀ j (hj : j < (fieldsK k).length), j < i → chkF9 (MsgM.d ⟨k, dg, vi, tg, ba, he, ce, bl, q⟩) (fieldsK k)[j] = 0)) (fun _ _ wr => own.size - wr.iterPos B)
      case atStart => exact ⟨0, Nat.zero_le _, hIt, hXi, hBi, fun j hj h => absurd h (by omega)⟩
      case round =>
        clear hXi hBi hIt hX hb hnx hit hlt2 HF
        obtain ⟨j, hj8, hit, hX, hb, HF⟩ := hrel
        have hlt2 : B < wr.heap.size := (Array.getElem?_eq_some_iff.1 hit).1
        by_cases hj : j < own.size
        · have hjl : j < (fieldsK k).length := by omega
          have hel : own[j] = (fieldsK k)[j] := by
            have hown := HO.out
            subst hown
            rfl
          have hmem : own[j] ∈ letters := by rw [hel]; exact (fieldsK_letters k).2 _ (List.getElem_mem hjl)
          have hasc : (own[j]).toNat < 128 := by
            have : ∀ c ∈ letters, c.toNat < 128 := by decide
            exact this _ hmem
          have hnx : ∀ ty, (Instr.next (.pointer (some ⟨B, 0, none⟩)) true ty).run Tryz.prog wr = _ := fun ty => Lib.run_next_ascii_at wr B own j ty hit hj hasc
          have hit2 := Lib.iterAt_heap wr B own j (j + 1) hit
          have hX2 : Arr (wr.iterAt B own (j + 1)) w.heap.size 39 [.int .i64 k, .string dg, .int .i64 vi, .int .i64 tg.who, .string tg.mac, .int .i64 ba.author, .int .i64 ba.number, .slice ba.ta ba.txs.length ba.tc, .int .i64 he.author, .int .i64 he.round, .slice he.ra he.refs.length he.rc, .slice he.pa he.parents.length he.pc, .int .i64 ce.hdr.author, .int .i64 ce.hdr.round, .slice ce.hdr.ra ce.hdr.refs.length ce.hdr.rc, .slice ce.hdr.pa ce.hdr.parents.length ce.hdr.pc, .slice ce.va ce.votes.length ce.vc, .int .i64 bl.view, .int .i64 bl.qc.view, .string bl.qc.block, .slice bl.qc.va bl.qc.votes.length bl.qc.vc, .slice bl.ca bl.certs.length bl.cc, .int .i64 q.view, .string q.block, .slice q.va q.votes.length q.vc] := (Lib.iterAt_other wr B w.heap.size own (j + 1) (by omega)).trans hX
          have hb2 := Lib.below_iterAt hb (k := B) (by omega) own (j + 1)
          have HM : Hid (own.size - (j + 1) < own.size - World.iterPos wr B) := by
            show _ < _
            simp only [World.iterPos, hit]
            omega
          obtain ⟨c, hcd⟩ : ∃ c, c = own[j] := ⟨_, rfl⟩
          rw [← hcd] at hmem hnx hel
          have cF1 := fun w1 h1 => cF c hmem w1 h1
          obtain ⟨n, hnd⟩ : ∃ n : Nat, n = chkF9 (MsgM.d ⟨k, dg, vi, tg, ba, he, ce, bl, q⟩) c := ⟨_, rfl⟩
          rw [← hnd] at cF1
          have HN : Hid (n = 0 → ∀ i (hi : i < (fieldsK k).length), i < j + 1 → chkF9 (MsgM.d ⟨k, dg, vi, tg, ba, he, ce, bl, q⟩) (fieldsK k)[i] = 0) := by
            intro h i hi hij
            by_cases hj2 : i < j
            · exact HF.out i hi hj2
            · have : i = j := by omega
              subst this
              rw [← hel, ← hnd]
              exact h
          have HZ : Hid (n ≠ 0 → out = n) := by
            intro h
            rw [hout.out, hnd, hel]
            exact chkM_first hbare.out j hjl (fun i hi => HF.out i (by omega) hi) (by rw [hnd, hel] at h; exact h)
          have hAt : MsgM.At _ _ := HA.out.below hb2
          clear HF hcd hasc hit hX hb hel hnd
          obtain ⟨w3, hw3⟩ : ∃ q', wr.iterAt B own (j + 1) = q' := ⟨_, rfl⟩
          rw [hw3] at hit2 hX2 hb2 hnx hAt
          have hlt3 : B < w3.heap.size := (Array.getElem?_eq_some_iff.1 hit2).1
          clear hw3
          go_wp2_with (refine wpList_load_row (by rfl) 39 _ (by rfl) w.heap.size (by rfl) 39 _ (0, 0) _ hX2 Tryz.underlying39 (by rfl) infoMsg9 ?_)
          refine (cF1 _ hAt).mono ?_
          rintro e w5 ⟨rfl, hb5⟩
          have hX5 := hX2.below hb5 hX2.lt
          have hB5 := hb2.trans (hb5.mono hb2.size)
          have hit5 : w5.heap[B]? = some (.stringIter own (j + 1)) := by rw [hb5.block _ hlt3]; exact hit2
          clear cF1 hX2 hb2 hb5 hit2 hnx hAt
          by_cases hz : n = 0
          · subst hz
            have hF2 : Hid (∀ i (hi : i < (fieldsK k).length), i < j + 1 → chkF9 (MsgM.d ⟨k, dg, vi, tg, ba, he, ce, bl, q⟩) (fieldsK k)[i] = 0) := HN.out rfl
            clear HN HZ
            go_wp2
            go_roundw
            case rel => exact ⟨j + 1, by omega, hit5, hX5, hB5, hF2⟩
            case measure =>
              have := HM.out
              simp only [World.iterPos, hit5] at this ⊢
              omega
          · have ho : Hid (out = n) := HZ.out hz
            have hz' : ((n : Int) != 0) = true := by rw [bne_iff_ne]; omega
            clear HN HZ hz
            go_wp2
            go_ret
            exact ⟨by rw [ho.out]; rfl, hB5⟩
        · have ho : Hid (out = 0) := by
            show _ = _
            rw [hout.out]
            refine chkM_all hbare.out Hne.out (fun c hc => ?_)
            obtain ⟨i, hi, rfl⟩ := List.getElem_of_mem hc
            exact HF.out i hi (by have : i < (fieldsK k).length := hi; omega)
          have hnx : ∀ ty, (Instr.next (.pointer (some ⟨B, 0, none⟩)) true ty).run Tryz.prog wr = _ := fun ty => Lib.run_next_end_at wr B own j ty hit hj
          clear HF
          go_wp2
          go_ret
          exact ⟨by rw [ho.out]; rfl, hb⟩
end Go.Proofs.YtmngiekobmhpaaaGreat

/- How a row of whatever elements that came in is opened. -/
namespace Go.Proofs.YtmngiekobmhpaaaGreat
open Go.ChangeShapes Go.WideShapes Go.ChangeAt Go.RowKit Go.Joins Go.Deep
set_option linter.unusedVariables false

/-- How a row reads, its elements as Q says. -/
def RowD {H α : Type} (Q : DataW H → α → Prop) (d : DataW H) (l : List α) : Prop :=
  (d = .nil ∧ l = []) ∨ ∃ (ds rest : List (DataW H)), d = .slice ds rest ∧ ds.length = l.length ∧ ∀ (i : Nat) (y : DataW H) (x : α), ds[i]? = some y → l[i]? = some x → Q y x

set_option maxRecDepth 100000 in
theorem open_row {α : Type} [Inhabited α] (K : Kind α) {H : Type} {enc : TypeId × Value → H} {W : World} {T E : TypeId} (Q : DataW H → α → Prop) (hT : Tryz.prog.underlying T = some (.slice E)) (hE : Tryz.prog.cellsOf E = K.n)
    (opens : ∀ {fuel cs y}, DataW.trod enc Tryz.prog W 0 (fun _ => true) true fuel E cs = some y → ∃ x : α, cs = K.c x ∧ K.At W x ∧ Q y.1 x)
    {fuel : Nat} {a : Option Addr} {len cap : Nat} {y : DataW H × List MemPlace} (hf : DataW.trod enc Tryz.prog W 0 (fun _ => true) true fuel T [.slice a len cap] = some y) :
    ∃ l : List α, l.length = len ∧ RowAt K W a l ∧ (a = none → cap = 0) ∧ len ≤ maxLen ∧ RowD Q y.1 l := by
  rcases open_slice hT hf with ⟨hcs, hx⟩ | ⟨x, l, c, m, n, D, Pl, hcs, _, hl, hm, hmm, hx, hc⟩
  · simp at hcs
    obtain ⟨rfl, rfl, rfl⟩ := hcs
    exact ⟨[], rfl, nil_row _ _, fun _ => rfl, Nat.zero_le _, Or.inl ⟨by rw [hx], rfl⟩⟩
  · simp at hcs
    obtain ⟨rfl, rfl, rfl⟩ := hcs
    simp at hmm
    subst hmm
    have hall : ∀ i : Nat, ∃ q : α, i < len → (∀ j v, (K.c q)[j]? = some v → W.cell? (x.add (i * K.n + j)) = some v) ∧ K.At W q ∧ Q (D i) q := by
      intro i
      by_cases hi : i < len
      · obtain ⟨cs', h1, h2⟩ := hc i (by omega)
        rw [hE] at h1
        obtain ⟨_, hlen, hcell⟩ := World.cells?_some h1
        obtain ⟨q, rfl, q2, q3⟩ := opens h2
        refine ⟨q, fun _ => ⟨fun j v hv => ?_, q2, q3⟩⟩
        have hj : j < (K.c q).length := (List.getElem?_eq_some_iff.1 hv).1
        have := hcell j (by rw [K.len] at hj; exact hj)
        rw [add_add] at this
        rw [this, hv]
      · exact ⟨default, fun h => absurd h hi⟩
    obtain ⟨Y, hY⟩ := Classical.axiomOfChoice hall
    have hc0 : ∀ q : α, ∃ v, (K.c q)[0]? = some v := fun q => ⟨(K.c q)[0]'(by rw [K.len]; exact K.pos), List.getElem?_eq_getElem _⟩
    refine ⟨(List.range len).map Y, by simp, ⟨?_, ?_⟩, (fun h => by cases h), by omega, Or.inr ⟨_, _, by rw [hx], by simp, ?_⟩⟩
    · intro i q hq
      have hi : i < len := by
        by_cases hi : i < len
        · exact hi
        · rw [List.getElem?_eq_none (by simp; omega)] at hq
          cases hq
      obtain rfl : Y i = q := by simpa [hi] using hq
      obtain ⟨c0, q2, _⟩ := hY i hi
      obtain ⟨b, off, spot⟩ := x
      obtain ⟨v0, hv0⟩ := hc0 (Y 0)
      have hz := (hY 0 (by omega)).1 0 _ hv0
      have hspot : spot = none := by simpa [Addr.add] using World.cell?_spot hz
      subst hspot
      obtain ⟨v1, hv1⟩ := hc0 (Y i)
      have hb0 := c0 0 _ hv1
      rw [Go.WideShapes.add_plain] at hb0
      refine ⟨b, off, rfl, World.block_lt_of_cell? W _ hb0, fun j v hv => ?_⟩
      have := c0 j v hv
      rw [Go.WideShapes.add_plain] at this
      rw [← this, Nat.add_assoc]
    · intro q hq
      obtain ⟨i, hi, rfl⟩ := List.mem_map.1 hq
      exact (hY i (by simpa using hi)).2.1
    · intro i y' q hy hq
      have hi : i < len := by
        by_cases hi : i < len
        · exact hi
        · rw [List.getElem?_eq_none (by simp; omega)] at hq
          cases hq
      obtain rfl : Y i = q := by simpa [hi] using hq
      obtain rfl : D i = y' := by simpa [hi] using hy
      exact (hY i hi).2.2

theorem weightsAll_of {H : Type} {P : Program} {e : TypeId} : ∀ {l : List (DataW H)} {d : DataW H}, d ∈ l → ∀ n ∈ d.weights P e, n ∈ DataW.weightsAll P e l
  | [], d, h, _, _ => by cases h
  | x :: r, d, h, n, hn => by
    rw [List.mem_cons] at h
    rw [DataW.weightsAll, List.mem_append]
    rcases h with rfl | h
    · exact Or.inl hn
    · exact Or.inr (weightsAll_of h n hn)

theorem weights_of {H : Type} {P : Program} {ts : List TypeId} {ds : List (DataW H)} (h : (DataW.weightsEach P ts ds).all (· ≤ reachBytes) = true) {j : Nat} {t : TypeId} {d : DataW H} (ht : ts[j]? = some t) (hd : ds[j]? = some d) : ∀ n ∈ d.weights P t, n ≤ reachBytes :=
  fun n hn => by simpa using List.all_eq_true.1 h n (DataW.weights_mem_each ht hd n hn)

/-- The sizes of a row's elements, and of the row. -/
theorem RowD.fit {H α : Type} {Q : DataW H → α → Prop} {d : DataW H} {l : List α} (hd : RowD Q d l) {T E : TypeId} (hT : Tryz.prog.underlying T = some (.slice E)) (h : ∀ n ∈ d.weights Tryz.prog T, n ≤ reachBytes) :
    l.length * Tryz.prog.bytesOf E ≤ reachBytes ∧ ∀ x ∈ l, ∃ y, Q y x ∧ ∀ n ∈ y.weights Tryz.prog E, n ≤ reachBytes := by
  rcases hd with ⟨rfl, rfl⟩ | ⟨ds, rest, rfl, hl, hq⟩
  · simp
  · refine ⟨?_, fun x hx => ?_⟩
    · have := h ((ds.length + rest.length) * Tryz.prog.bytesOf E) (by simp [DataW.weights, hT])
      rw [← hl]
      exact Nat.le_trans (Nat.mul_le_mul_right _ (by omega)) this
    · obtain ⟨i, hi⟩ := List.getElem?_of_mem hx
      have hi' : i < ds.length := by have := (List.getElem?_eq_some_iff.1 hi).1; omega
      refine ⟨ds[i], hq i ds[i] x (List.getElem?_eq_getElem hi') hi, fun n hn => h n ?_⟩
      rw [DataW.weights, hT]
      simp only [List.mem_cons, List.mem_append]
      exact Or.inr (Or.inl (weightsAll_of (List.getElem_mem hi') n hn))

theorem bulk_part {H : Type} {d : DataW H} : ∀ {l : List (DataW H)}, d ∈ l → Rows.uptoBulk d ≤ Rows.uptoBulkAll l
  | [], h => by cases h
  | x :: r, h => by
    simp only [Rows.uptoBulkAll]
    rcases List.mem_cons.1 h with e | e
    · subst e; omega
    · have := bulk_part e; omega

theorem bulk_all {H α : Type} {Q : DataW H → α → Prop} {size : α → Nat} (hq : ∀ y x, Q y x → size x ≤ Rows.uptoBulk y) : ∀ (ds : List (DataW H)) (l : List α), ds.length = l.length → (∀ (i : Nat) (y : DataW H) (x : α), ds[i]? = some y → l[i]? = some x → Q y x) → (l.map size).sum ≤ Rows.uptoBulkAll ds
  | [], [], _, _ => by simp
  | [], x :: l, h, _ => by simp at h
  | d :: ds, [], h, _ => by simp at h
  | d :: ds, x :: l, h, hQ => by
    have ih := bulk_all hq ds l (by simpa using h) (fun i y z hy hz => hQ (i + 1) y z (by simpa using hy) (by simpa using hz))
    have h0 := hq d x (hQ 0 d x rfl rfl)
    simp only [List.map_cons, List.sum_cons, Rows.uptoBulkAll]
    omega

/-- The bulk of a row. -/
theorem RowD.bulk {H α : Type} {Q : DataW H → α → Prop} {d : DataW H} {l : List α} (hd : RowD Q d l) {size : α → Nat} (hq : ∀ y x, Q y x → size x ≤ Rows.uptoBulk y) : (l.map size).sum + 1 ≤ Rows.uptoBulk d := by
  rcases hd with ⟨rfl, rfl⟩ | ⟨ds, rest, rfl, hl, hQ⟩
  · simp [Rows.uptoBulk]
  · have := bulk_all hq ds l hl hQ
    simp only [Rows.uptoBulk]
    omega
end Go.Proofs.YtmngiekobmhpaaaGreat

/- How tags, Refs and headers that came in are opened; their sizes. -/
namespace Go.Proofs.YtmngiekobmhpaaaGreat
open Go.ChangeShapes Go.WideShapes Go.ChangeAt Go.RowKit Go.Joins Go.Deep
set_option linter.unusedVariables false

instance : Inhabited TagD := ⟨⟨0, ⟨#[]⟩⟩⟩
instance : Inhabited RefM := ⟨⟨⟨#[]⟩, [], none, 0⟩⟩

/-- How a text reads. -/
def StrQ {H : Type} (d : DataW H) (s : ByteArray) : Prop := d = .lit (.string s.data.toList) ∧ s.size ≤ maxLen

theorem StrQ.bulk {H : Type} (y : DataW H) (s : ByteArray) (h : StrQ y s) : s.size + 1 ≤ Rows.uptoBulk y := by
  rw [h.1]
  simp [Rows.uptoBulk]

theorem StrQ.fit {H : Type} {y : DataW H} {s : ByteArray} (h : StrQ y s) {t : TypeId} (hw : ∀ n ∈ y.weights Tryz.prog t, n ≤ reachBytes) : s.size ≤ 140737488351232 := by
  have := hw s.data.toList.length (by rw [h.1]; simp [DataW.weights])
  simpa [reachBytes] using this

/-- How a tag reads. -/
def TagQ {H : Type} (d : DataW H) (t : TagD) : Prop := ∃ y0 y1, d = .agg [y0, y1] ∧ StrQ y1 t.mac

theorem list2x {α : Type} {l : List α} (h : l.length = 2) : ∃ c0 c1, l = [c0, c1] := by
  match l, h with
  | [c0, c1], _ => exact ⟨c0, c1, rfl⟩

theorem list4x {α : Type} {l : List α} (h : l.length = 4) : ∃ c0 c1 c2 c3, l = [c0, c1, c2, c3] := by
  match l, h with
  | [c0, c1, c2, c3], _ => exact ⟨c0, c1, c2, c3, rfl⟩

theorem cellsTag6 : Tryz.prog.cellsOf 23 = 2 := by kernel_rfl
theorem cellsInt6 : Tryz.prog.cellsOf 3 = 1 := by kernel_rfl
theorem cellsStr6 : Tryz.prog.cellsOf 9 = 1 := by kernel_rfl

set_option maxRecDepth 100000 in
theorem open_tag_cells {H : Type} {enc : TypeId × Value → H} {W : World} {fuel : Nat} {cs : List Value} {y : DataW H × List MemPlace}
    (hf : DataW.trod enc Tryz.prog W 0 (fun _ => true) true fuel 23 cs = some y) : ∃ t : TagD, cs = tagK.c t ∧ tagK.At W t ∧ TagQ y.1 t := by
  obtain ⟨xs, n, _, hx, hcl, hl, hg⟩ := DataW.trod_struct Tryz.underlying23 hf
  obtain ⟨c0, c1, rfl⟩ := list2x (hcl.trans cellsTag6)
  obtain ⟨y0, y1, rfl⟩ := list2x hl
  have g0 := hg 0 _ rfl
  have g1 := hg 1 _ rfl
  simp [cellsInt6, cellsStr6] at g0 g1
  obtain ⟨a0, e0, _, _⟩ := DataW.trod_int Tryz.underlying3 g0
  obtain ⟨a1, e1, hy1, s1⟩ := DataW.trod_string Tryz.underlying9 g1
  simp at e0 e1
  subst e0 e1
  refine ⟨⟨a0, a1⟩, rfl, trivial, y0.1, y1.1, ?_, by rw [hy1], s1⟩
  have := congrArg Prod.fst hx
  simpa using this

/-- What tags hold. -/
def tagsBulk (l : List TagD) : Nat := (l.map (fun t => t.mac.size + 1)).sum

theorem tagQ_bulk {H : Type} (y : DataW H) (t : TagD) (h : TagQ y t) : t.mac.size + 1 ≤ Rows.uptoBulk y := by
  obtain ⟨y0, y1, rfl, h1⟩ := h
  have := h1.bulk
  simp only [Rows.uptoBulk, Rows.uptoBulkAll]
  omega

theorem open_tagsK {H : Type} {enc : TypeId × Value → H} {W : World} {fuel : Nat} {a : Option Addr} {len cap : Nat} {y : DataW H × List MemPlace}
    (hf : DataW.trod enc Tryz.prog W 0 (fun _ => true) true fuel 31 [.slice a len cap] = some y) :
    ∃ l : List TagD, l.length = len ∧ RowAt tagK W a l ∧ (a = none → cap = 0) ∧ len ≤ maxLen ∧ RowD TagQ y.1 l :=
  open_row tagK TagQ Tryz.underlying31 cellsTag6 open_tag_cells hf

theorem tagsBulk_len : ∀ (l : List TagD), l.length ≤ tagsBulk l
  | [] => by simp
  | t :: l => by
    have := tagsBulk_len l
    simp only [tagsBulk, List.map_cons, List.sum_cons, List.length_cons] at this ⊢
    omega

theorem tagsBulk_mem : ∀ {l : List TagD} {t : TagD}, t ∈ l → t.mac.size ≤ tagsBulk l
  | [], t, h => by cases h
  | x :: l, t, h => by
    simp only [tagsBulk, List.map_cons, List.sum_cons]
    rcases List.mem_cons.1 h with rfl | h
    · omega
    · have := tagsBulk_mem h
      simp only [tagsBulk] at this
      omega

theorem txt_len_le (l : List UInt8) : (txt l).length ≤ 9 + l.length := by
  rw [txt, List.length_append]
  have := goInt_length (l.length : Int)
  omega

theorem tagB_len_le (t : TagD) : (tagB t).length ≤ 9 + t.mac.size := by
  have := goInt_length t.who
  have h2 : t.mac.data.toList.length = t.mac.size := by simp
  rw [tagB, List.length_append]
  omega

theorem tags_flat_le : ∀ (l : List TagD), ((l.map tagB).flatMap txt).length ≤ 18 * tagsBulk l
  | [] => by simp
  | t :: l => by
    have ih := tags_flat_le l
    have h1 := txt_len_le (tagB t)
    have h2 := tagB_len_le t
    simp only [List.map_cons, List.flatMap_cons, List.length_append, tagsBulk, List.sum_cons] at ih ⊢
    omega

theorem tagsB_len_le (l : List TagD) : (tagsB l).length ≤ 9 + 18 * tagsBulk l := by
  have h1 := tags_flat_le l
  have h2 := goInt_length ((l.map tagB).length : Int)
  rw [tagsB, lst, List.length_append]
  omega

instance : Inhabited ByteArray := ⟨⟨#[]⟩⟩

theorem cellsTags6 : Tryz.prog.cellsOf 31 = 1 := by kernel_rfl
theorem cellsStrs6 : Tryz.prog.cellsOf 28 = 1 := by kernel_rfl
theorem bytesTag6 : Tryz.prog.bytesOf 23 = 24 := by kernel_rfl
theorem bytesStr6 : Tryz.prog.bytesOf 9 = 16 := by kernel_rfl
set_option maxRecDepth 100000 in
theorem open_str_cells {H : Type} {enc : TypeId × Value → H} {W : World} {fuel : Nat} {cs : List Value} {y : DataW H × List MemPlace}
    (hf : DataW.trod enc Tryz.prog W 0 (fun _ => true) true fuel 9 cs = some y) : ∃ s : ByteArray, cs = strK.c s ∧ strK.At W s ∧ StrQ y.1 s := by
  obtain ⟨a0, e0, hy0, s0⟩ := DataW.trod_string Tryz.underlying9 hf
  exact ⟨a0, e0, trivial, by rw [hy0], s0⟩
end Go.Proofs.YtmngiekobmhpaaaGreat

/- What Tags of package header does; nothing old in memory is turned. -/
namespace Go.Proofs.YtmngiekobmhpaaaGreat
open Go.RowKit
set_option linter.unusedVariables false

/-- Tags' members. -/
def memT (l : List TagD) : List ByteArray := l.map (fun t => ⟨(tagB t).toArray⟩)

theorem memT_length (l : List TagD) : (memT l).length = l.length := by simp [memT]

theorem bl_memT (l : List TagD) : bl (memT l) = l.map tagB := by simp [bl, memT]

theorem memT_succ (l : List TagD) (k : Nat) (t : TagD) (h : l[k]? = some t) : memT (l.take (k + 1)) = memT (l.take k) ++ [⟨(tagB t).toArray⟩] := by
  have hk := (List.getElem?_eq_some_iff.1 h).1
  have he := (List.getElem?_eq_some_iff.1 h).2
  rw [List.take_succ_eq_append_getElem hk, he]
  simp [memT]

theorem tag_join (t : TagD) : (⟨(goInt t.who).toArray⟩ ++ t.mac : ByteArray) = ⟨(tagB t).toArray⟩ := by
  apply ByteArray.ext
  simp [tagB]

theorem new_str (w : World) (s : ByteArray) : ∀ j u, (strK.c s)[j]? = some u → (w.alloc (.cells #[.string s] 9)).cell? ((⟨w.heap.size, 0, none⟩ : Addr).add j) = some u := by
  intro j u hu
  rw [Go.WideShapes.add_plain, Nat.zero_add]
  exact (Arr.new w 9 [.string s]).cell hu

set_option maxRecDepth 100000 in
set_option maxHeartbeats 1000000 in
theorem tags_any (ao : Option Addr) (cap : Nat) (l : List TagD) (w : World) (hA : RowAt tagK w ao l) (hn : l.length ≤ 1000000000) (hsz : ∀ t ∈ l, t.mac.size ≤ 140737488351232) (hlen : (tagsB l).length ≤ 140737488355328) :
    Calls Tryz.prog 76 #[.slice ao l.length cap] w fun e w' => e = .returned (.string ⟨(tagsB l).toArray⟩) ∧ Below w.heap.size w w' := by
  obtain ⟨i0, hi, hz0, hz1, hz2⟩ := info_parts infoString
  have Hlen : Hid ((tagsB l).length ≤ 140737488355328) := hlen
  clear hlen
  go_enter Tryz.func76, Tryz.ntmps76
  go_wp2
  go_loopw [3, 5, 8] (fun v3 v5 v8 wr => ∃ i : Nat, i ≤ l.length ∧ v8 = .int .i64 (i : Int) ∧ KQ strK 9 wr w.heap.size v3 (memT (l.take i)) ∧ Below w.heap.size w wr) (fun _ _ v _ => l.length - (intOf v).toNat)
  case atStart => exact ⟨0, Nat.zero_le _, rfl, KQ.empty _ _ _ _, Below.refl _ _⟩
  case round =>
    obtain ⟨i, hil, rfl, hq, hb⟩ := hrel
    by_cases hlt : i < l.length
    · obtain ⟨t, ht⟩ : ∃ t, l[i]? = some t := ⟨l[i], List.getElem?_eq_getElem hlt⟩
      obtain ⟨b, off, rfl, hbl, y0, y1⟩ := (hA.below hb).tag ht
      have hms := memT_succ l i t ht
      have hmz := hsz t (List.mem_of_getElem? ht)
      have hml : (memT (l.take i)).length = i := by rw [memT_length, List.length_take]; omega
      have hjo := tag_join t
      obtain ⟨nb, hnb⟩ : ∃ z, z = (⟨(goInt t.who).toArray⟩ : ByteArray) := ⟨_, rfl⟩
      obtain ⟨tb, htb⟩ : ∃ z, z = (⟨(tagB t).toArray⟩ : ByteArray) := ⟨_, rfl⟩
      have cI : Hid (∀ w1, Calls Tryz.prog 31 #[.int .i64 t.who] w1 fun e w2 => e = .returned (.string nb) ∧ Below w1.heap.size w1 w2) := by
        intro w1
        rw [hnb]
        exact int_any _ _
      have hnl : nb.size ≤ 9 := by rw [hnb, size_mk]; exact goInt_length _
      have hsum : ¬ (9223372036854775807 < nb.size + t.mac.size) := by omega
      rw [← hnb, ← htb] at hjo
      rw [← htb] at hms
      have Hms : Hid (memT (l.take (i + 1)) = memT (l.take i) ++ [tb]) := hms
      obtain ⟨ms, hmse⟩ : ∃ q, q = memT (l.take i) := ⟨_, rfl⟩
      rw [← hmse] at hq hml Hms
      clear hnb htb ht hms hmse
      have hbx := belowNew wr (.cells #[.int .i64 t.who, .string t.mac] 23)
      have hX := Arr.new wr 23 [.int .i64 t.who, .string t.mac]
      have hb2 := hb.trans (hbx.mono hb.size)
      have hq2 := hq.below hbx
      go_wp2_with fail
      obtain ⟨w1, hw1⟩ : ∃ q, wr.alloc (.cells #[.int .i64 t.who, .string t.mac] 23) = q := ⟨_, rfl⟩
      rw [hw1] at hX hb2 hq2 ⊢
      clear hw1 hbx hq hb y0 y1
      have x0 := hX.cell (i := 0) rfl
      have x1 := hX.cell (i := 1) rfl
      obtain ⟨qa, qc, rfl, hqn, _⟩ := hq2.form
      rw [hml] at hq2 ⊢
      go_region_law (first
        | (go_simp; go_at_call 31; refine (cI.out _).mono ?_; rintro e w2 ⟨rfl, hb3⟩; have hb4 : Below w1.heap.size w1 w2 := ((Below.refl _ w1).drew).trans hb3; have hX2 := hX.below hb4 hX.lt; have x0a := hX2.cell (i := 0) rfl; have x1a := hX2.cell (i := 1) rfl; have hbn := hb4.alloc hb4.size (.cells #[.string tb] 9); have hq4 := hq2.below hbn; have hN := new_str w2 tb; have hbs := (hb2.trans (hbn.mono hb2.size)).size)
        | (refine step_push (K := strK) _ (by rfl) _ _ 28 (by rfl) w.heap.size 9 i0 (.string ⟨#[]⟩) 16 Tryz.underlying28 hi hz0 hz1 hz2 rfl _ ms (by rfl) hq4 tb trivial (fun _ h => h.elim) ⟨w2.heap.size, 0, none⟩ 1 (by rfl) hN (by rw [hml]; unfold maxLen; omega) (by rw [hml]; omega) hbs ?_; intro ao3 cap3 w3 hq3 hk3))
      all_goals
        have hkB := Kept.below hk3 hbs (fun j hj => (hq4.lt j hj).1)
        have hbF := (hb2.trans (hbn.mono hb2.size)).trans hkB
        have hq5 : KQ strK 9 w3 w.heap.size (.slice ao3 (i + 1) cap3) (memT (l.take (i + 1))) := by rw [Hms.out, ← hml]; exact hq3
        clear hq3 hk3 hkB hq4 hN hbs hbn hX2 x0a x1a hb3 hb4 hq2 hb2 hX x0 x1
        go_wp2
        go_roundw
        case rel => exact ⟨i + 1, by omega, by go_num, hq5, hbF⟩
        case measure => simp [intOf]; omega
    · obtain rfl : i = l.length := by omega
      rw [List.take_length] at hq
      obtain ⟨qa, qc, rfl, hqn, hqt⟩ := hq.form
      have hlst : (lst (bl (memT l))).length ≤ 140737488355328 := by rw [bl_memT]; exact Hlen.out
      have cL := list_any qa qc (memT l) wr hqt.strs hlst (by rw [memT_length]; omega)
      have hml := memT_length l
      rw [hml] at cL ⊢
      have E : Hid ((⟨(lst (bl (memT l))).toArray⟩ : ByteArray) = ⟨(tagsB l).toArray⟩) := by show _ = _; rw [bl_memT]; rfl
      generalize (⟨(lst (bl (memT l))).toArray⟩ : ByteArray) = r at cL E
      clear hq hqt hlst hml
      go_wp2_with fail
      refine cL.mono ?_
      rintro e w1 ⟨rfl, hb1⟩
      have hbF := hb.trans (hb1.mono hb.size)
      clear cL
      go_wp2
      go_ret
      exact ⟨by rw [E.out]; rfl, hbF⟩
end Go.Proofs.YtmngiekobmhpaaaGreat

/- A strings.Builder of the call's own at work beside other blocks of the call's own. -/
namespace Go.Proofs.YtmngiekobmhpaaaGreat
open Go.RowKit
set_option linter.unusedVariables false

/-- Block g is neither the Builder's b nor its row's. -/
def BldOff (w : World) (b g : Nat) : Prop := g ≠ b ∧ ∀ p v T, w.heap[b]? = some (.cells #[p, v] T (0, 0)) → v.ownBlock ≠ some g

theorem BldOff.below {w w' : World} {b g : Nat} (h : BldOff w b g) (hb : Below w.heap.size w w') (hl : b < w.heap.size) : BldOff w' b g :=
  ⟨h.1, fun p v T he => h.2 p v T (by rw [← hb.block b hl]; exact he)⟩

theorem bld_lt {T e : TypeId} {B b : Nat} {bs : List Value} {w : World} (h : Lib.IsBuilder T e B b bs w) : b < w.heap.size := by
  rcases h with ⟨_, v, hb, _⟩ | ⟨_, v, hb, _⟩
  · exact (Array.getElem?_eq_some_iff.1 hb).1
  · exact (Array.getElem?_eq_some_iff.1 hb).1

/-- What is new is apart from a Builder. -/
theorem BldOff.new {T e : TypeId} {B b : Nat} {bs : List Value} {w : World} (h : Lib.IsBuilder T e B b bs w) {g : Nat} (hg : w.heap.size ≤ g) : BldOff w b g := by
  have hl := bld_lt h
  refine ⟨by omega, fun p v T' he => ?_⟩
  rcases h with ⟨_, v', hb, hown, _⟩ | ⟨_, v', hb, hown, _⟩
  · rw [hb] at he
    simp at he
    intro ho
    have := (hown.lt g (by rw [he.1.2]; exact ho)).2
    omega
  · rw [hb] at he
    simp at he
    intro ho
    have := (hown.lt g (by rw [he.1.2]; exact ho)).2
    omega

theorem copyCheck_free (B b : Nat) (bs : List Value) (w : World) (h : Lib.IsBuilder 76 5 B b bs w) :
    Calls Tryz.prog 74 #[.pointer (some ⟨b, 0, none⟩)] w fun e w' => e = .returned (.tuple #[]) ∧ (Lib.BuilderAt 76 5 B b (.pointer (some ⟨b, 0, none⟩)) bs w' ∧ Below B w w') ∧ w.heap.size ≤ w'.heap.size ∧ ∀ g, BldOff w b g → w'.heap[g]? = w.heap[g]? ∧ BldOff w' b g := by
  rcases h with h | h
  · refine (copyCheck_fresh b w h.cell0 h.shape h.frozen0).mono ?_
    rintro e w' ⟨rfl, rfl⟩
    have hu := h.used (.pointer (some ⟨b, 0, none⟩))
    refine ⟨rfl, ⟨h.used _, (Below.refl B w).setCell (p := ⟨b, 0, none⟩) h.1 _⟩, by rw [setCell_size]; omega, fun g hg => ⟨Below.heap_setCell w ⟨b, 0, none⟩ _ g hg.1, hg.1, fun p v T he => ?_⟩⟩
    obtain ⟨_, v', hb', _⟩ := h
    have := (Arr.set (show Arr w b 76 [.pointer none, v'] from hb') 0 (.pointer (some ⟨b, 0, none⟩)))
    unfold Arr at this
    rw [this] at he
    simp at he
    rw [← he.1.2]
    exact hg.2 _ _ _ hb'
  · refine (copyCheck_used b w h.cell0).mono ?_
    rintro e w' ⟨rfl, rfl⟩
    exact ⟨rfl, ⟨h, Below.refl B _⟩, Nat.le_refl _, fun g hg => ⟨rfl, hg⟩⟩

set_option maxRecDepth 100000 in
set_option maxHeartbeats 400000 in
theorem write_free (B b : Nat) (bs : List Value) (s : ByteArray) (w : World) (h : Lib.IsBuilder 76 5 B b bs w) (hlen : bs.length + s.size ≤ 140737488355328) (hBw : B ≤ w.heap.size) :
    Calls Tryz.prog 30 #[.pointer (some ⟨b, 0, none⟩), .string s] w fun e w' => e = .returned (.tuple #[.int .i64 s.size, .nilIface]) ∧ (Lib.BuilderAt 76 5 B b (.pointer (some ⟨b, 0, none⟩)) (bs ++ Lib.strCells s) w' ∧ Below B w w') ∧ w.heap.size ≤ w'.heap.size ∧ ∀ g, g < w.heap.size → BldOff w b g → w'.heap[g]? = w.heap[g]? := by
  obtain ⟨i0, hi, hz0, hz1, hz2⟩ := info_parts infoByte
  go_enter Tryz.func30, Tryz.ntmps30
  go_wp2_with fail
  refine (copyCheck_free B b bs _ h).mono ?_
  rintro e w1 ⟨rfl, ⟨h1, hb1⟩, hz, hoff⟩
  obtain ⟨hB, v, hbk, hown, hne⟩ := h1
  have c1 : w1.cell? ⟨b, 1, none⟩ = some v := by rw [Lib.cell_of_heap hbk]; rfl
  go_wp2_with (at_builtin; refine Lib.wpList_append_own_string _ rfl _ _ 71 9 rfl B 5 i0 Tryz.underlying71 Tryz.underlying9 hi hz0 hz1 hz2 _ _ _ rfl hown s rfl ?c3 ?c4 ?c5 ?_)
  case c3 => unfold maxLen; omega
  case c4 => omega
  case c5 => have := hb1.size; omega
  intro v' w2 hown' hgrow _
  have hlt : b < w1.heap.size := (Array.getElem?_eq_some_iff.1 hbk).1
  have hb2 : w2.heap[b]? = some (.cells #[.pointer (some ⟨b, 0, none⟩), v] 76 (0, 0)) := by
    rw [hgrow.block b hlt (fun e => hne e.symm)]
    exact hbk
  have d1 : w2.cell? ⟨b, 1, none⟩ = some v := by rw [Lib.cell_of_heap hb2]; rfl
  have f1 : w2.frozen? ⟨b, 1, none⟩ = false := Lib.frozen_of_heap hb2 1
  obtain ⟨ao, n', cap, rfl⟩ : ∃ ao n' cap, v' = .slice ao n' cap := by
    rcases hown'.2 with ⟨hv, _⟩ | ⟨g, cap, cur, hv, _⟩
    · exact ⟨_, _, _, hv⟩
    · exact ⟨_, _, _, hv⟩
  have fin1 : Lib.BuilderAt 76 5 B b (.pointer (some ⟨b, 0, none⟩)) (bs ++ Lib.strCells s) (w2.setCell ⟨b, 1, none⟩ (.slice ao n' cap)) :=
    Lib.BuilderAt.put (T := 76) (e := 5) hB hb2 (bs' := bs ++ Lib.strCells s) (by simpa [Lib.strCells_length] using hown') (by decide)
  have fin2 : Below B w (w2.setCell ⟨b, 1, none⟩ (.slice ao n' cap)) :=
    (hb1.grown hgrow (by have := hb1.size; omega) (fun k hk => (hown.lt k hk).1)).setCell (p := ⟨b, 1, none⟩) hB _
  have fin3 : Hid (w.heap.size ≤ (w2.setCell ⟨b, 1, none⟩ (.slice ao n' cap)).heap.size ∧ ∀ g, g < w.heap.size → BldOff w b g → (w2.setCell ⟨b, 1, none⟩ (.slice ao n' cap)).heap[g]? = w.heap[g]?) := by
    refine ⟨by rw [setCell_size]; have := hgrow.size; omega, fun g hg ho => ?_⟩
    obtain ⟨e1, o1⟩ := hoff g ho
    rw [Below.heap_setCell w2 ⟨b, 1, none⟩ _ g ho.1, hgrow.block g (by omega) (fun e => o1.2 _ _ _ hbk e.symm), e1]
  clear hown' hgrow hown hbk hb2 hb1 h hne hlt c1 hoff hz
  go_wp2
  go_ret2
  exact ⟨rfl, ⟨fin1, fin2⟩, fin3.out⟩

theorem BldSt.writeF {W w : World} {xb bb : Nat} {T : TypeId} {cs : List Value} {l : List UInt8} (h : BldSt W xb bb T cs w l) (m : List UInt8) (hm : l.length + m.length ≤ 140737488355328) :
    Calls Tryz.prog 30 #[.pointer (some ⟨bb, 0, none⟩), .string ⟨m.toArray⟩] w fun e w' => e = .returned (.tuple #[.int .i64 m.length, .nilIface]) ∧ BldSt W xb bb T cs w' (l ++ m) ∧ w.heap.size ≤ w'.heap.size ∧ ∀ g, g < w.heap.size → BldOff w bb g → w'.heap[g]? = w.heap[g]? := by
  refine (write_free bb bb _ ⟨m.toArray⟩ w h.bld (by rw [Lib.byteCells_length, size_mk]; exact hm) h.has).mono ?_
  rintro e w' ⟨rfl, ⟨h2, hb⟩, hz, hg⟩
  refine ⟨by rw [size_mk], ⟨h.box.below hb h.ord, h.ord, Or.inr ?_, h.bel.trans (hb.mono h.low), h.low, Nat.le_trans h.has hb.size⟩, hz, hg⟩
  rw [Lib.byteCells_append]
  rw [Lib.strCells_eq] at h2
  exact h2
end Go.Proofs.YtmngiekobmhpaaaGreat

/- What package header's Encode does; nothing old in memory is turned. -/
namespace Go.Proofs.YtmngiekobmhpaaaGreat
open Go.RowKit
set_option linter.unusedVariables false

/-- The bytes up to the k-th Ref. -/
def preH (x : HdrM) (k : Nat) : List UInt8 := goInt x.author ++ goInt x.round ++ goInt (x.refs.length : Int) ++ ((rd x.refs).take k).flatMap refB

theorem encH_eq (x : HdrM) : encH x.d = preH x x.refs.length ++ lst (bl x.parents) := by
  have e : (rd x.refs).take x.refs.length = rd x.refs := List.take_of_length_le (by rw [rd_length]; omega)
  unfold preH
  rw [e]
  simp [encH, HdrM.d, rd_length]

theorem preH_succ (x : HdrM) (k : Nat) (r : RefM) (h : x.refs[k]? = some r) : preH x (k + 1) = preH x k ++ txt r.digest.data.toList ++ tagsB r.acks := by
  have hk := (List.getElem?_eq_some_iff.1 h).1
  have hr : (rd x.refs)[k]? = some r.d := by simp [rd, h]
  obtain ⟨hk2, he⟩ := List.getElem?_eq_some_iff.1 hr
  unfold preH
  rw [List.take_succ_eq_append_getElem hk2, he, List.flatMap_append]
  simp [refB, RefM.d]

theorem preH_le (x : HdrM) (k : Nat) : (preH x k).length ≤ (encH x.d).length := by
  have h : (rd x.refs).flatMap refB = ((rd x.refs).take k).flatMap refB ++ ((rd x.refs).drop k).flatMap refB := by rw [← List.flatMap_append, List.take_append_drop]
  have e : encH x.d = goInt x.author ++ goInt x.round ++ goInt (x.refs.length : Int) ++ (rd x.refs).flatMap refB ++ lst (bl x.parents) := by simp [encH, HdrM.d, rd_length]
  rw [e, h, preH]
  simp only [List.length_append]
  omega

theorem preH_ne (x : HdrM) (k : Nat) (h : x.refs.length ≤ 4611686018427387903) : preH x k ≠ [] := by
  have := goInt_ne x.refs.length h
  unfold preH
  intro e
  simp at e
  exact this e.2.2.1

/-- What a header holds is no more than a machine takes. -/
structure HdrM.Fit (x : HdrM) : Prop where
  n : x.refs.length ≤ 1000000000
  p : x.parents.length ≤ 1000000000
  acks : ∀ r ∈ x.refs, r.acks.length ≤ 1000000000
  mac : ∀ r ∈ x.refs, ∀ t ∈ r.acks, t.mac.size ≤ 140737488351232
  len : (encH x.d).length ≤ 140737488355328

set_option maxRecDepth 100000 in
set_option maxHeartbeats 2000000 in
theorem hdrEncode_any (x : HdrM) (w : World) (hA : x.At w) (hf : x.Fit) :
    Calls Tryz.prog 78 #[x.v] w fun e w' => e = .returned (.string ⟨(encH x.d).toArray⟩) ∧ Below w.heap.size w w' := by
  have hX := Arr.new w 30 x.c
  have hB := belowNew w (.cells x.c.toArray 30)
  have st := BldSt.new hX hB
  rw [alloc_size] at st
  obtain ⟨out, hout⟩ : ∃ out, Hid (out = (⟨(encH x.d).toArray⟩ : ByteArray)) := ⟨_, rfl⟩
  rw [← hout.out]
  have hn := hf.n
  have hpn := hf.p
  have HL : Hid (∀ k, (preH x k).length ≤ 140737488355328) := fun k => Nat.le_trans (preH_le x k) hf.len
  have HP : Hid ((preH x x.refs.length).length + (lst (bl x.parents)).length ≤ 140737488355328) := by
    have := hf.len
    rw [encH_eq, List.length_append] at this
    exact this
  have HE : Hid (encH x.d = _) := encH_eq x
  have HK := hf.acks
  have HM := hf.mac
  have HS : Hid (∀ k r, x.refs[k]? = some r → preH x (k + 1) = preH x k ++ txt r.digest.data.toList ++ tagsB r.acks) := fun k r h => preH_succ x k r h
  have HN : Hid (∀ k, preH x k ≠ []) := fun k => preH_ne x k (by omega)
  have H0 : Hid (preH x 0 = goInt x.author ++ goInt x.round ++ goInt (x.refs.length : Int)) := by show _ = _; simp [preH]
  have g0 := goInt_length x.author
  have g1 := goInt_length x.round
  have g2 := goInt_length (x.refs.length : Int)
  have C0 := fun w1 => int_any x.author w1
  have C1 := fun w1 => int_any x.round w1
  have C2 := fun w1 => int_any (x.refs.length : Int) w1
  obtain ⟨au, ro, ra, rs, rc, pa, ps, pc⟩ := x
  have hA1 : RowAt refK w ra rs := hA.refs
  have hA2 : RowAt strK w pa ps := hA.ps
  obtain ⟨pre, hpre⟩ : ∃ q, q = preH ⟨au, ro, ra, rs, rc, pa, ps, pc⟩ := ⟨_, rfl⟩
  rw [← hpre] at HL HP HE HS HN H0
  clear hX hB hf hA hpre
  unfold HdrM.v
  unfold HdrM.c at st
  simp only at st hn hpn HL HP HE HK HM HS HN H0 g0 g1 g2 C0 C1 C2 ⊢
  generalize goInt au = l0 at *
  generalize goInt ro = l1 at *
  generalize goInt (rs.length : Int) = l2 at *
  have hlen : Hid (l0.length ≤ 9 ∧ l1.length ≤ 9 ∧ l2.length ≤ 9) := ⟨g0, g1, g2⟩
  clear g0 g1 g2
  go_enter Tryz.func78, Tryz.ntmps78
  have c0 := st.box.cell (i := 0) rfl
  go_wp2_with fail
  refine (C0 _).mono ?_
  rintro e w2 ⟨rfl, hb⟩
  replace st := st.call hb
  clear hb c0 C0
  go_wp2_with fail
  refine (st.write l0 (by have := hlen.out; simp; omega)).mono ?_
  rintro e w3 ⟨rfl, st2⟩
  clear st
  have c1 := st2.box.cell (i := 1) rfl
  go_wp2_with fail
  refine (C1 _).mono ?_
  rintro e w2 ⟨rfl, hb⟩
  replace st2 := st2.call hb
  clear hb c1 C1
  go_wp2_with fail
  refine (st2.write l1 (by have := hlen.out; simp; omega)).mono ?_
  rintro e w3 ⟨rfl, st3⟩
  clear st2
  have c2 := st3.box.cell (i := 2) rfl
  go_wp2_with fail
  refine (C2 _).mono ?_
  rintro e w2 ⟨rfl, hb⟩
  replace st3 := st3.call hb
  clear hb c2 C2
  go_wp2_with fail
  refine (st3.write l2 (by have := hlen.out; simp; omega)).mono ?_
  rintro e w3 ⟨rfl, st4⟩
  clear st3
  rw [List.nil_append, ← H0.out] at st4
  have c2 := st4.box.cell (i := 2) rfl
  go_wp2
  go_loopw [5, 22] (fun v5 v22 wr => ∃ k : Nat, k ≤ rs.length ∧ v22 = .int .i64 (k : Int) ∧ BldSt w w.heap.size (w.heap.size + 1) 30 [.int .i64 au, .int .i64 ro, .slice ra rs.length rc, .slice pa ps.length pc] wr (pre k)) (fun _ v _ => rs.length - (intOf v).toNat)
  case atStart => exact ⟨0, Nat.zero_le _, rfl, st4⟩
  case round =>
    clear st4 c2 H0
    obtain ⟨k, hk, rfl, st⟩ := hrel
    by_cases hlt : k < rs.length
    · obtain ⟨r, hr⟩ : ∃ r, rs[k]? = some r := ⟨rs[k], List.getElem?_eq_getElem hlt⟩
      obtain ⟨b, off, rfl, hbl, y0, y1⟩ := (hA1.below st.bel).ref hr
      have hrt := ((hA1.below st.bel).at_ r (List.mem_of_getElem? hr)).1
      have HMem : Hid (r ∈ rs) := List.mem_of_getElem? hr
      have hs1 := HS.out k r hr
      have hlk := HL.out (k + 1)
      rw [hs1] at hlk
      simp only [List.length_append] at hlk
      have hdl : r.digest.size ≤ (txt r.digest.data.toList).length := by rw [txt, List.length_append]; simp
      have cT := fun w1 => text_any r.digest w1 (by omega)
      have cG := fun w1 h => tags_any r.ao r.cap r.acks w1 h (HK r (List.mem_of_getElem? hr)) (HM r (List.mem_of_getElem? hr)) (by omega)
      have Hs1 : Hid (pre (k + 1) = _) := hs1
      generalize txt r.digest.data.toList = m0 at *
      generalize tagsB r.acks = m1 at *
      have hlk' : Hid ((pre k).length + m0.length + m1.length ≤ 140737488355328) := hlk
      clear hlk hdl hs1 hr
      have hbx := belowNew wr (.cells #[.string r.digest, .slice r.ao r.acks.length r.cap] 126)
      have hX := Arr.new wr 126 [.string r.digest, .slice r.ao r.acks.length r.cap]
      have st1 := st.call hbx
      have hrt1 := hrt.below hbx
      have hoff0 : BldOff _ (w.heap.size + 1) wr.heap.size := (BldOff.new st.bld (Nat.le_refl _)).below hbx (bld_lt st.bld)
      clear st hrt
      have x0 := hX.cell (i := 0) rfl
      have x1 := hX.cell (i := 1) rfl
      have hwl := st1.bel.size
      go_wp2_with fail
      refine (cT _).mono ?_
      rintro e w2 ⟨rfl, hb⟩
      have hoff1 := hoff0.below hb (bld_lt st1.bld)
      have st2 := st1.call hb
      have hX2 := hX.below hb hX.lt
      clear st1 hX hrt1 hb cT x0 x1 y0 y1 hoff0
      go_wp2_with fail
      have hxl := hX2.lt
      refine (st2.writeF m0 (by have := hlk'.out; omega)).mono ?_
      rintro e w3 ⟨rfl, st3, hz3, hg3⟩
      have hX3 : Arr w3 wr.heap.size 126 [.string r.digest, .slice r.ao r.acks.length r.cap] := by
        have := hg3 wr.heap.size hxl hoff1
        unfold Arr at hX2 ⊢
        rw [this]
        exact hX2
      have hrt3 := ((hA1.below st3.bel).at_ r (HMem.out)).1
      clear st2 hX2 hoff1 hg3
      have x1 := hX3.cell (i := 1) rfl
      go_wp2_with fail
      refine (cG _ hrt3).mono ?_
      rintro e w4 ⟨rfl, hb⟩
      have st4 := st3.call hb
      clear st3 hb cG x1 hX3 hrt3
      go_wp2_with fail
      refine (st4.write m1 (by have := hlk'.out; simp; omega)).mono ?_
      rintro e w5 ⟨rfl, st5⟩
      clear st4
      rw [← Hs1.out] at st5
      go_wp2
      go_roundw
      case rel => exact ⟨k + 1, by omega, by go_num, st5⟩
      case measure => simp [intOf]; omega
    · obtain rfl : k = rs.length := by omega
      have c3 := st.box.cell (i := 3) rfl
      have hPz := HP.out
      have cL := list_any pa pc ps wr (hA2.below st.bel).strs (by omega) (by omega)
      generalize lst (bl ps) = m2 at *
      clear hPz
      go_wp2_with fail
      refine cL.mono ?_
      rintro e w2 ⟨rfl, hb⟩
      have st2 := st.call hb
      clear st hb cL c3
      go_wp2_with fail
      refine (st2.write m2 (HP.out)).mono ?_
      rintro e w3 ⟨rfl, st3⟩
      clear st2
      go_wp2_with fail
      refine (st3.read (by have := HN.out rs.length; intro e; simp at e; exact this e.1)).mono ?_
      rintro e w4 ⟨rfl, hb4⟩
      go_wp2
      go_ret
      exact ⟨by rw [hout.out, HE.out]; rfl, hb4⟩
end Go.Proofs.YtmngiekobmhpaaaGreat
