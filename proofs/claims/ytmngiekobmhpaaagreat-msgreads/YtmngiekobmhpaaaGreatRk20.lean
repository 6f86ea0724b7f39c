/- Texts as one: MsgCheck, MsgDecode. -/
import Derived.Test.YtmngiekobmhpaaaGreatRk19
import Derived.Lib.OthersKept
import Derived.BigFrame
import Derived.Test.YtmngiekobmhpaaaGreatRk13
import Derived.Test.YtmngiekobmhpaaaGreatRk18
import Derived.Deep.MidRow
/- What package msg's checkField and Check say; nothing old in memory is turned. -/
namespace Go.Proofs.YtmngiekobmhpaaaGreat
open Go.RowKit
set_option linter.unusedVariables false

/-- What is wrong with a field that belongs to the kind. -/
def chkF9 (m : MsgD) (c : UInt8) : Nat := if c = 98 then checkB m.batch else if plainF m c = true then 0 else 3

/-- All fields. -/
def every9 : ByteArray := ⟨#[100, 118, 116, 98, 104, 99, 107, 113]⟩

theorem every9_mem (i : Nat) (h : i < every9.size) : every9[i] ∈ letters := by
  have h8 : i < 8 := h
  have : i = 0 ∨ i = 1 ∨ i = 2 ∨ i = 3 ∨ i = 4 ∨ i = 5 ∨ i = 6 ∨ i = 7 := by omega
  rcases this with rfl | rfl | rfl | rfl | rfl | rfl | rfl | rfl
  · exact (by decide : (100 : UInt8) ∈ letters)
  · exact (by decide : (118 : UInt8) ∈ letters)
  · exact (by decide : (116 : UInt8) ∈ letters)
  · exact (by decide : (98 : UInt8) ∈ letters)
  · exact (by decide : (104 : UInt8) ∈ letters)
  · exact (by decide : (99 : UInt8) ∈ letters)
  · exact (by decide : (107 : UInt8) ∈ letters)
  · exact (by decide : (113 : UInt8) ∈ letters)

theorem every9_bare {m : MsgD} (h : ∀ j (hj : j < every9.size), every9[j] ∈ fieldsK m.kind ∨ zeroF m every9[j]) : m.Bare :=
  ⟨h 0 (by decide), h 1 (by decide), h 2 (by decide), h 3 (by decide), h 4 (by decide), h 5 (by decide), h 6 (by decide), h 7 (by decide)⟩

theorem bare_every9 {m : MsgD} (h : m.Bare) : ∀ j (hj : j < every9.size), every9[j] ∈ fieldsK m.kind ∨ zeroF m every9[j] := by
  intro j hj
  obtain ⟨a, b, c, d, e, f, g, i⟩ := h
  have h8 : j < 8 := hj
  have : j = 0 ∨ j = 1 ∨ j = 2 ∨ j = 3 ∨ j = 4 ∨ j = 5 ∨ j = 6 ∨ j = 7 := by omega
  rcases this with rfl | rfl | rfl | rfl | rfl | rfl | rfl | rfl
  · exact a
  · exact b
  · exact c
  · exact d
  · exact e
  · exact f
  · exact g
  · exact i

theorem hdr_nil_plain {h : HdrD} (hz : h.Nil) : h.Plain := by
  rw [hz.eq]
  exact ⟨⟨by decide, by decide, ⟨by decide, by decide⟩, by decide, by decide⟩, (fun p hp => by cases hp), fun r hr => by cases hr⟩

theorem cert_nil_plain {c : CertD} (hz : c.Nil) : c.Plain := by
  rw [hz.eq]
  exact ⟨hdr_nil_plain ⟨rfl, rfl, rfl, rfl⟩, (fun t ht => by cases ht), by decide⟩

theorem fieldsK_b {k : Int} (h : 98 ∈ fieldsK k) : fieldsK k = [98] := by
  by_cases h0 : fieldsK k = []
  · rw [h0] at h; cases h
  rcases kind_cases h0 with rfl | rfl | rfl | rfl | rfl | rfl | rfl | rfl | rfl | rfl | rfl
  · rfl
  all_goals exact absurd h (by decide)

theorem okM_plain {m : MsgD} (hb : m.Bare) (h98 : 98 ∉ fieldsK m.kind) : okM m = true ↔ ∀ c ∈ fieldsK m.kind, plainF m c = true := by
  rw [okM_iff]
  obtain ⟨b1, b2, b3, b4, b5, b6, b7, b8⟩ := hb
  constructor
  · rintro ⟨o1, o2, o3, o4, o5, o6, o7⟩ c hc
    obtain ⟨_, hl⟩ := fieldsK_letters m.kind
    have hcl := hl c hc
    simp only [letters, List.mem_cons, List.not_mem_nil, or_false] at hcl
    rcases hcl with rfl | rfl | rfl | rfl | rfl | rfl | rfl | rfl
    · exact decide_eq_true o2
    · exact decide_eq_true (o3 hc)
    · exact decide_eq_true (o1 hc)
    · exact absurd hc h98
    · exact decide_eq_true o4
    · exact decide_eq_true o5
    · exact decide_eq_true (o7 hc)
    · exact decide_eq_true (o6 hc)
  · intro h
    refine ⟨fun hc => of_decide_eq_true (h 100 hc), ?_, fun hc => of_decide_eq_true (h 116 hc), ?_, ?_, fun hc => of_decide_eq_true (h 113 hc), fun hc => of_decide_eq_true (h 107 hc)⟩
    · rcases b2 with hc | hz
      · exact of_decide_eq_true (h 118 hc)
      · rw [hz]; exact ⟨by decide, by decide⟩
    · rcases b5 with hc | hz
      · exact of_decide_eq_true (h 104 hc)
      · exact hdr_nil_plain hz
    · rcases b6 with hc | hz
      · exact of_decide_eq_true (h 99 hc)
      · exact cert_nil_plain hz

/-- The first field that is wrong tells. -/
theorem chkM_first {m : MsgD} (hb : m.Bare) (i : Nat) (hi : i < (fieldsK m.kind).length) (h0 : ∀ j (hj : j < i), chkF9 m ((fieldsK m.kind)[j]'(by omega)) = 0) (h1 : chkF9 m (fieldsK m.kind)[i] ≠ 0) : chkM m = chkF9 m (fieldsK m.kind)[i] := by
  have hne : fieldsK m.kind ≠ [] := fun e => by rw [e] at hi; exact absurd hi (by simp)
  unfold chkM
  rw [if_neg hne, if_neg (fun h => h hb)]
  by_cases h98 : 98 ∈ fieldsK m.kind
  · rw [if_pos h98]
    have hc : (fieldsK m.kind)[i] = 98 := by
      have := List.getElem_mem hi
      have e := fieldsK_b h98
      have hm : ∀ c ∈ fieldsK m.kind, c = 98 := by rw [e]; simp
      exact hm _ this
    rw [hc]
    exact (if_pos rfl).symm
  · have hc : (fieldsK m.kind)[i] ≠ 98 := fun e => h98 (by rw [← e]; exact List.getElem_mem hi)
    rw [if_neg h98]
    unfold chkF9 at h1 ⊢
    rw [if_neg hc] at h1 ⊢
    by_cases hp : plainF m (fieldsK m.kind)[i] = true
    · rw [if_pos hp] at h1; exact absurd rfl h1
    · rw [if_neg hp, if_neg (fun h => hp ((okM_plain hb h98).1 h _ (List.getElem_mem hi)))]

theorem chkM_all {m : MsgD} (hb : m.Bare) (hne : fieldsK m.kind ≠ []) (h0 : ∀ c ∈ fieldsK m.kind, chkF9 m c = 0) : chkM m = 0 := by
  unfold chkM
  rw [if_neg hne, if_neg (fun h => h hb)]
  by_cases h98 : 98 ∈ fieldsK m.kind
  · rw [if_pos h98]
    have := h0 98 h98
    unfold chkF9 at this
    rw [if_pos rfl] at this
    exact this
  · rw [if_neg h98, if_pos]
    rw [okM_plain hb h98]
    intro c hc
    have := h0 c hc
    unfold chkF9 at this
    rw [if_neg (fun e => h98 (by rw [← e]; exact hc))] at this
    by_cases hp : plainF m c = true
    · exact hp
    · rw [if_neg hp] at this; cases this

/-- A whole row is loaded behind a guard that lets it. -/
theorem wpList_load_rowG {P : Program} {ops : Array Oper} {rest : List Oper} {o : Oper} {a : Act} {w : World} {Q : Exit → Act → World → Prop} (hw : Region.wanted o (yielded ops a.tmps) = true) (ty : TypeId) (x : Operand) (ho : o.op = .load ty x)
    (g : Nat) (hx : a.eval x = .pointer (some ⟨g, 0, none⟩)) (t : TypeId) (cs : Array Value) (fr : Nat × Nat) (d : TypeDesc) (hg : w.heap[g]? = some (.cells cs t fr))
    (hu : P.underlying ty = some d) (hd : (match d with | .struct _ | .array _ _ => true | _ => false) = true) (hi : (P.info? ty).map (·.size) = some cs.size)
    (h : wpList P ops Q rest (a.put o.dst (.agg cs)) w) : wpList P ops Q (o :: rest) a w :=
  BigFrame.wpList_want hw fun _ hK => wp_load_row ty x ho g hx t cs fr d hg hu hd hi (hK _ _ h)

set_option maxRecDepth 100000 in
set_option maxHeartbeats 4000000 in
theorem checkField_any (x : MsgM) (c : UInt8) (hc : c ∈ letters) (w : World) (hA : x.At w) (hn : x.Num) :
    Calls Tryz.prog 41 #[x.v, .int .i32 (c.toNat : Int)] w fun e w' => e = .returned (.int .i64 (chkF9 x.d c : Int)) ∧ Below w.heap.size w w' := by
  obtain ⟨k, dg, vi, tg, ba, he, ce, bl, q⟩ := x
  have hX := Arr.new w 39 [.int .i64 k, .string dg, .int .i64 vi, .int .i64 tg.who, .string tg.mac, .int .i64 ba.author, .int .i64 ba.number, .slice ba.ta ba.txs.length ba.tc, .int .i64 he.author, .int .i64 he.round, .slice he.ra he.refs.length he.rc, .slice he.pa he.parents.length he.pc, .int .i64 ce.hdr.author, .int .i64 ce.hdr.round, .slice ce.hdr.ra ce.hdr.refs.length ce.hdr.rc, .slice ce.hdr.pa ce.hdr.parents.length ce.hdr.pc, .slice ce.va ce.votes.length ce.vc, .int .i64 bl.view, .int .i64 bl.qc.view, .string bl.qc.block, .slice bl.qc.va bl.qc.votes.length bl.qc.vc, .slice bl.ca bl.certs.length bl.cc, .int .i64 q.view, .string q.block, .slice q.va q.votes.length q.vc]
  have hB := belowNew w (.cells [.int .i64 k, .string dg, .int .i64 vi, .int .i64 tg.who, .string tg.mac, .int .i64 ba.author, .int .i64 ba.number, .slice ba.ta ba.txs.length ba.tc, .int .i64 he.author, .int .i64 he.round, .slice he.ra he.refs.length he.rc, .slice he.pa he.parents.length he.pc, .int .i64 ce.hdr.author, .int .i64 ce.hdr.round, .slice ce.hdr.ra ce.hdr.refs.length ce.hdr.rc, .slice ce.hdr.pa ce.hdr.parents.length ce.hdr.pc, .slice ce.va ce.votes.length ce.vc, .int .i64 bl.view, .int .i64 bl.qc.view, .string bl.qc.block, .slice bl.qc.va bl.qc.votes.length bl.qc.vc, .slice bl.ca bl.certs.length bl.cc, .int .i64 q.view, .string q.block, .slice q.va q.votes.length q.vc].toArray 39)
  have hA1 := hA.below hB
  by_cases h98 : c = 98
  · subst h98
    have cB := batCheck_any ba.author ba.number ba.ta ba.txs ba.tc (w.alloc (.cells [.int .i64 k, .string dg, .int .i64 vi, .int .i64 tg.who, .string tg.mac, .int .i64 ba.author, .int .i64 ba.number, .slice ba.ta ba.txs.length ba.tc, .int .i64 he.author, .int .i64 he.round, .slice he.ra he.refs.length he.rc, .slice he.pa he.parents.length he.pc, .int .i64 ce.hdr.author, .int .i64 ce.hdr.round, .slice ce.hdr.ra ce.hdr.refs.length ce.hdr.rc, .slice ce.hdr.pa ce.hdr.parents.length ce.hdr.pc, .slice ce.va ce.votes.length ce.vc, .int .i64 bl.view, .int .i64 bl.qc.view, .string bl.qc.block, .slice bl.qc.va bl.qc.votes.length bl.qc.vc, .slice bl.ca bl.certs.length bl.cc, .int .i64 q.view, .string q.block, .slice q.va q.votes.length q.vc].toArray 39)) hA1.bat.txs.txs
    have hr : Hid (chkF9 (MsgM.d ⟨k, dg, vi, tg, ba, he, ce, bl, q⟩) 98 = checkB ⟨ba.author, ba.number, dl ba.txs⟩) := (if_pos rfl : _ = _)
    obtain ⟨out, hout⟩ : ∃ n : Nat, Hid (n = chkF9 (MsgM.d ⟨k, dg, vi, tg, ba, he, ce, bl, q⟩) 98) := ⟨_, rfl⟩
    rw [← hout.out]
    rw [← hr.out, ← hout.out] at cB
    unfold batV at cB
    unfold MsgM.v MsgM.c
    simp only
    clear hA hA1 hr hn
    obtain ⟨w1, hw1⟩ : ∃ q', w.alloc (.cells [.int .i64 k, .string dg, .int .i64 vi, .int .i64 tg.who, .string tg.mac, .int .i64 ba.author, .int .i64 ba.number, .slice ba.ta ba.txs.length ba.tc, .int .i64 he.author, .int .i64 he.round, .slice he.ra he.refs.length he.rc, .slice he.pa he.parents.length he.pc, .int .i64 ce.hdr.author, .int .i64 ce.hdr.round, .slice ce.hdr.ra ce.hdr.refs.length ce.hdr.rc, .slice ce.hdr.pa ce.hdr.parents.length ce.hdr.pc, .slice ce.va ce.votes.length ce.vc, .int .i64 bl.view, .int .i64 bl.qc.view, .string bl.qc.block, .slice bl.qc.va bl.qc.votes.length bl.qc.vc, .slice bl.ca bl.certs.length bl.cc, .int .i64 q.view, .string q.block, .slice q.va q.votes.length q.vc].toArray 39) = q' := ⟨_, rfl⟩
    rw [hw1] at hX hB cB
    have x5 := hX.cell (i := 5) rfl
    have x6 := hX.cell (i := 6) rfl
    have x7 := hX.cell (i := 7) rfl
    go_enter Tryz.func41, Tryz.ntmps41
    go_wp2_with fail
    refine cB.mono ?_
    rintro e w2 ⟨rfl, hb2⟩
    have hB2 := hB.trans (hb2.mono hB.size)
    clear cB hX hB hb2 x5 x6 x7 hw1
    go_wp2
    go_ret
    exact ⟨rfl, hB2⟩
  · have cP := isPlain_any ⟨k, dg, vi, tg, ba, he, ce, bl, q⟩ c hc h98 (w.alloc (.cells [.int .i64 k, .string dg, .int .i64 vi, .int .i64 tg.who, .string tg.mac, .int .i64 ba.author, .int .i64 ba.number, .slice ba.ta ba.txs.length ba.tc, .int .i64 he.author, .int .i64 he.round, .slice he.ra he.refs.length he.rc, .slice he.pa he.parents.length he.pc, .int .i64 ce.hdr.author, .int .i64 ce.hdr.round, .slice ce.hdr.ra ce.hdr.refs.length ce.hdr.rc, .slice ce.hdr.pa ce.hdr.parents.length ce.hdr.pc, .slice ce.va ce.votes.length ce.vc, .int .i64 bl.view, .int .i64 bl.qc.view, .string bl.qc.block, .slice bl.qc.va bl.qc.votes.length bl.qc.vc, .slice bl.ca bl.certs.length bl.cc, .int .i64 q.view, .string q.block, .slice q.va q.votes.length q.vc].toArray 39)) hA1 hn
    have hr : Hid (chkF9 (MsgM.d ⟨k, dg, vi, tg, ba, he, ce, bl, q⟩) c = if plainF (MsgM.d ⟨k, dg, vi, tg, ba, he, ce, bl, q⟩) c = true then 0 else 3) := (if_neg h98 : _ = _)
    have h98' : ((c.toNat : Int) == 98) = false := by
      rw [beq_eq_false_iff_ne]
      intro e
      exact h98 (UInt8.toNat_inj.1 (by show c.toNat = 98; omega))
    obtain ⟨out, hout⟩ : ∃ n : Nat, Hid (n = chkF9 (MsgM.d ⟨k, dg, vi, tg, ba, he, ce, bl, q⟩) c) := ⟨_, rfl⟩
    rw [← hout.out]
    rw [← hout.out] at hr
    obtain ⟨P, hP⟩ : ∃ b : Bool, b = plainF (MsgM.d ⟨k, dg, vi, tg, ba, he, ce, bl, q⟩) c := ⟨_, rfl⟩
    rw [← hP] at cP hr
    unfold MsgM.v MsgM.c at cP ⊢
    simp only at cP ⊢
    clear hA hA1 hn hP hout h98
    generalize (c.toNat : Int) = cn at *
    obtain ⟨w1, hw1⟩ : ∃ q', w.alloc (.cells [.int .i64 k, .string dg, .int .i64 vi, .int .i64 tg.who, .string tg.mac, .int .i64 ba.author, .int .i64 ba.number, .slice ba.ta ba.txs.length ba.tc, .int .i64 he.author, .int .i64 he.round, .slice he.ra he.refs.length he.rc, .slice he.pa he.parents.length he.pc, .int .i64 ce.hdr.author, .int .i64 ce.hdr.round, .slice ce.hdr.ra ce.hdr.refs.length ce.hdr.rc, .slice ce.hdr.pa ce.hdr.parents.length ce.hdr.pc, .slice ce.va ce.votes.length ce.vc, .int .i64 bl.view, .int .i64 bl.qc.view, .string bl.qc.block, .slice bl.qc.va bl.qc.votes.length bl.qc.vc, .slice bl.ca bl.certs.length bl.cc, .int .i64 q.view, .string q.block, .slice q.va q.votes.length q.vc].toArray 39) = q' := ⟨_, rfl⟩
    rw [hw1] at hX hB cP
    go_enter Tryz.func41, Tryz.ntmps41
    go_wp2_with (refine wpList_load_row (by rfl) 39 _ (by rfl) w.heap.size (by rfl) 39 _ (0, 0) _ hX Tryz.underlying39 (by rfl) infoMsg9 ?_)
    refine cP.mono ?_
    rintro e w2 ⟨⟨p, rfl, hp⟩, hb2⟩
    have hB2 := hB.trans (hb2.mono hB.size)
    clear cP hX hB hb2 hw1
    cases p
    case false =>
      have ho : Hid (out = 3) := by
        show _ = _
        rw [hr.out, if_neg (fun h => by have := hp.2 h; cases this)]
      clear hr hp
      go_wp2
      go_ret
      exact ⟨by rw [ho.out]; rfl, hB2⟩
    have ho : Hid (out = 0) := by
      show _ = _
      rw [hr.out, if_pos (hp.1 rfl)]
    clear hr hp
    go_wp2
    go_ret
    exact ⟨by rw [ho.out]; rfl, hB2⟩

set_option maxRecDepth 100000 in
set_option maxHeartbeats 8000000 in
theorem msgCheck_any (x : MsgM) (w : World) (hA : x.At w) (hn : x.Num) :
    Calls Tryz.prog 14 #[x.v] w fun e w' => e = .returned (.int .i64 (chkM x.d : Int)) ∧ Below w.heap.size w w' := by
  obtain ⟨k, dg, vi, tg, ba, he, ce, bl, q⟩ := x
  obtain ⟨out, hout⟩ : ∃ n : Nat, Hid (n = chkM (MsgM.d ⟨k, dg, vi, tg, ba, he, ce, bl, q⟩)) := ⟨_, rfl⟩
  rw [← hout.out]
  have hX := Arr.new w 39 [.int .i64 k, .string dg, .int .i64 vi, .int .i64 tg.who, .string tg.mac, .int .i64 ba.author, .int .i64 ba.number, .slice ba.ta ba.txs.length ba.tc, .int .i64 he.author, .int .i64 he.round, .slice he.ra he.refs.length he.rc, .slice he.pa he.parents.length he.pc, .int .i64 ce.hdr.author, .int .i64 ce.hdr.round, .slice ce.hdr.ra ce.hdr.refs.length ce.hdr.rc, .slice ce.hdr.pa ce.hdr.parents.length ce.hdr.pc, .slice ce.va ce.votes.length ce.vc, .int .i64 bl.view, .int .i64 bl.qc.view, .string bl.qc.block, .slice bl.qc.va bl.qc.votes.length bl.qc.vc, .slice bl.ca bl.certs.length bl.cc, .int .i64 q.view, .string q.block, .slice q.va q.votes.length q.vc]
  have hB := belowNew w (.cells [.int .i64 k, .string dg, .int .i64 vi, .int .i64 tg.who, .string tg.mac, .int .i64 ba.author, .int .i64 ba.number, .slice ba.ta ba.txs.length ba.tc, .int .i64 he.author, .int .i64 he.round, .slice he.ra he.refs.length he.rc, .slice he.pa he.parents.length he.pc, .int .i64 ce.hdr.author, .int .i64 ce.hdr.round, .slice ce.hdr.ra ce.hdr.refs.length ce.hdr.rc, .slice ce.hdr.pa ce.hdr.parents.length ce.hdr.pc, .slice ce.va ce.votes.length ce.vc, .int .i64 bl.view, .int .i64 bl.qc.view, .string bl.qc.block, .slice bl.qc.va bl.qc.votes.length bl.qc.vc, .slice bl.ca bl.certs.length bl.cc, .int .i64 q.view, .string q.block, .slice q.va q.votes.length q.vc].toArray 39)
  have cL := letters_any k
  have cR := fun c hc => containsRune_any (fieldsS k) c hc
  have cZ := fun c hc w1 => isZero_any ⟨k, dg, vi, tg, ba, he, ce, bl, q⟩ c hc w1
  have cF := fun c hc w1 h1 => checkField_any ⟨k, dg, vi, tg, ba, he, ce, bl, q⟩ c hc w1 h1 hn
  unfold MsgM.v MsgM.c at cZ cF ⊢
  simp only at cZ cF ⊢
  obtain ⟨w1, hw1⟩ : ∃ q', w.alloc (.cells [.int .i64 k, .string dg, .int .i64 vi, .int .i64 tg.who, .string tg.mac, .int .i64 ba.author, .int .i64 ba.number, .slice ba.ta ba.txs.length ba.tc, .int .i64 he.author, .int .i64 he.round, .slice he.ra he.refs.length he.rc, .slice he.pa he.parents.length he.pc, .int .i64 ce.hdr.author, .int .i64 ce.hdr.round, .slice ce.hdr.ra ce.hdr.refs.length ce.hdr.rc, .slice ce.hdr.pa ce.hdr.parents.length ce.hdr.pc, .slice ce.va ce.votes.length ce.vc, .int .i64 bl.view, .int .i64 bl.qc.view, .string bl.qc.block, .slice bl.qc.va bl.qc.votes.length bl.qc.vc, .slice bl.ca bl.certs.length bl.cc, .int .i64 q.view, .string q.block, .slice q.va q.votes.length q.vc].toArray 39) = q' := ⟨_, rfl⟩
  have hs1 : w1.heap.size = w.heap.size + 1 := by rw [← hw1, alloc_size]
  rw [hw1] at hX hB
  have x0 := hX.cell (i := 0) rfl
  have hK : Hid ((MsgM.d ⟨k, dg, vi, tg, ba, he, ce, bl, q⟩).kind = k) := rfl
  have hkl : (fieldsS k).data.toList = fieldsK k := rfl
  obtain ⟨own, hown⟩ : ∃ o, o = fieldsS k := ⟨_, rfl⟩
  rw [← hown] at cL cR hkl
  have HO : Hid (own = fieldsS k) := hown
  clear hown
  have HA : Hid (MsgM.At w ⟨k, dg, vi, tg, ba, he, ce, bl, q⟩) := hA
  clear hn hA
  go_enter Tryz.func14, Tryz.ntmps14
  go_wp2_with fail
  refine (cL _).mono ?_
  rintro e w2 ⟨rfl, hw2⟩
  have hX2 : Arr w2 w.heap.size 39 [.int .i64 k, .string dg, .int .i64 vi, .int .i64 tg.who, .string tg.mac, .int .i64 ba.author, .int .i64 ba.number, .slice ba.ta ba.txs.length ba.tc, .int .i64 he.author, .int .i64 he.round, .slice he.ra he.refs.length he.rc, .slice he.pa he.parents.length he.pc, .int .i64 ce.hdr.author, .int .i64 ce.hdr.round, .slice ce.hdr.ra ce.hdr.refs.length ce.hdr.rc, .slice ce.hdr.pa ce.hdr.parents.length ce.hdr.pc, .slice ce.va ce.votes.length ce.vc, .int .i64 bl.view, .int .i64 bl.qc.view, .string bl.qc.block, .slice bl.qc.va bl.qc.votes.length bl.qc.vc, .slice bl.ca bl.certs.length bl.cc, .int .i64 q.view, .string q.block, .slice q.va q.votes.length q.vc] := by rw [hw2]; exact hX
  have hB2 : Below w.heap.size w w2 := by rw [hw2]; exact hB
  have hs2 : w2.heap.size = w.heap.size + 1 := by rw [hw2]; exact hs1
  clear hX hB hs1 x0 hw2 hw1 cL
  cases hE : own.toList.isEmpty
  case true =>
    have ho : Hid (out = 5) := by
      show _ = _
      rw [hout.out]
      unfold chkM
      rw [if_pos]
      rw [hK.out, ← hkl, ← ByteArray.toList_eq]
      exact List.isEmpty_iff.1 hE
    clear hout cR cZ cF hX2 hs2 hkl HO
    go_wp2
    go_ret
    exact ⟨by rw [ho.out]; rfl, hB2⟩
  have Hne : Hid (fieldsK k ≠ []) := fun e => by
    have : own.toList.isEmpty = true := by rw [ByteArray.toList_eq, hkl, e]; rfl
    rw [hE] at this
    cases this
  have hXi := hX2.alloc (.stringIter every9 0)
  have hBi := hB2.alloc hB2.size (.stringIter every9 0)
  have hIt : (w2.alloc (.stringIter every9 0)).heap[w.heap.size + 1]? = some (.stringIter every9 0) := by rw [← hs2]; exact World.iter_heap w2 every9 0
  clear hX2 hB2
  go_wp2
  go_loopw [5] (fun v5 wr => ∃ i : Nat, i ≤ every9.size ∧ wr.heap[w.heap.size + 1]? = some (.stringIter every9 i) ∧ Arr wr w.heap.size 39 [.int .i64 k, .string dg, .int .i64 vi, .int .i64 tg.who, .string tg.mac, .int .i64 ba.author, .int .i64 ba.number, .slice ba.ta ba.txs.length ba.tc, .int .i64 he.author, .int .i64 he.round, .slice he.ra he.refs.length he.rc, .slice he.pa he.parents.length he.pc, .int .i64 ce.hdr.author, .int .i64 ce.hdr.round, .slice ce.hdr.ra ce.hdr.refs.length ce.hdr.rc, .slice ce.hdr.pa ce.hdr.parents.length ce.hdr.pc, .slice ce.va ce.votes.length ce.vc, .int .i64 bl.view, .int .i64 bl.qc.view, .string bl.qc.block, .slice bl.qc.va bl.qc.votes.length bl.qc.vc, .slice bl.ca bl.certs.length bl.cc, .int .i64 q.view, .string q.block, .slice q.va q.votes.length q.vc] ∧ Below w.heap.size w wr ∧ Hid (∀ j (hj : j < every9.size), j < i → every9[j] ∈ fieldsK k ∨ zeroF (MsgM.d ⟨k, dg, vi, tg, ba, he, ce, bl, q⟩) every9[j])) (fun _ wr => every9.size - wr.iterPos (w.heap.size + 1))
  case atStart => exact ⟨0, Nat.zero_le _, by first | exact hIt | (rw [hs2] at hIt; exact hIt), hXi, hBi, fun j hj h => absurd h (by omega)⟩
  case round =>
    clear hXi hBi hIt
    obtain ⟨i, hi8, hit, hX, hb, HF⟩ := hrel
    have hlt2 : w.heap.size + 1 < wr.heap.size := (Array.getElem?_eq_some_iff.1 hit).1
    by_cases hi : i < every9.size
    · have hmem := every9_mem i hi
      have hasc : (every9[i]).toNat < 128 := by
        have : ∀ c ∈ letters, c.toNat < 128 := by decide
        exact this _ hmem
      have hnx : ∀ ty, (Instr.next (.pointer (some ⟨w.heap.size + 1, 0, none⟩)) true ty).run Tryz.prog wr = _ := fun ty => Lib.run_next_ascii_at wr (w.heap.size + 1) every9 i ty hit hi hasc
      have hit2 := Lib.iterAt_heap wr (w.heap.size + 1) every9 i (i + 1) hit
      have hX2 : Arr (wr.iterAt (w.heap.size + 1) every9 (i + 1)) w.heap.size 39 [.int .i64 k, .string dg, .int .i64 vi, .int .i64 tg.who, .string tg.mac, .int .i64 ba.author, .int .i64 ba.number, .slice ba.ta ba.txs.length ba.tc, .int .i64 he.author, .int .i64 he.round, .slice he.ra he.refs.length he.rc, .slice he.pa he.parents.length he.pc, .int .i64 ce.hdr.author, .int .i64 ce.hdr.round, .slice ce.hdr.ra ce.hdr.refs.length ce.hdr.rc, .slice ce.hdr.pa ce.hdr.parents.length ce.hdr.pc, .slice ce.va ce.votes.length ce.vc, .int .i64 bl.view, .int .i64 bl.qc.view, .string bl.qc.block, .slice bl.qc.va bl.qc.votes.length bl.qc.vc, .slice bl.ca bl.certs.length bl.cc, .int .i64 q.view, .string q.block, .slice q.va q.votes.length q.vc] := (Lib.iterAt_other wr (w.heap.size + 1) w.heap.size every9 (i + 1) (by omega)).trans hX
      have hb2 := Lib.below_iterAt hb (k := w.heap.size + 1) (by omega) every9 (i + 1)
      obtain ⟨c, hcd⟩ : ∃ c, c = every9[i] := ⟨_, rfl⟩
      rw [← hcd] at hmem hnx
      have cR1 := cR c hmem
      have cZ1 := cZ c hmem
      have HM : Hid (every9.size - (i + 1) < every9.size - World.iterPos wr (w.heap.size + 1)) := by
        show _ < _
        simp only [World.iterPos, hit]
        omega
      have HN : Hid ((c ∈ fieldsK k ∨ zeroF (MsgM.d ⟨k, dg, vi, tg, ba, he, ce, bl, q⟩) c) → ∀ j (hj : j < every9.size), j < i + 1 → every9[j] ∈ fieldsK k ∨ zeroF (MsgM.d ⟨k, dg, vi, tg, ba, he, ce, bl, q⟩) every9[j]) := by
        intro h j hj hji
        by_cases hj2 : j < i
        · exact HF.out j hj hj2
        · have : j = i := by omega
          subst this
          rw [← hcd]
          exact h
      have HZ : Hid (¬ (c ∈ fieldsK k ∨ zeroF (MsgM.d ⟨k, dg, vi, tg, ba, he, ce, bl, q⟩) c) → out = 3) := by
        intro h
        rw [hout.out]
        unfold chkM
        rw [if_neg (show ¬ fieldsK (MsgM.d ⟨k, dg, vi, tg, ba, he, ce, bl, q⟩).kind = [] from Hne.out), if_pos]
        intro hbare
        exact h (by rw [hcd]; exact bare_every9 hbare i hi)
      clear HF hcd hasc hit hX hb
      obtain ⟨w3, hw3⟩ : ∃ q', wr.iterAt (w.heap.size + 1) every9 (i + 1) = q' := ⟨_, rfl⟩
      rw [hw3] at hit2 hX2 hb2 hnx
      have hlt3 : w.heap.size + 1 < w3.heap.size := (Array.getElem?_eq_some_iff.1 hit2).1
      clear hw3
      go_wp2_with fail
      refine (cR1 _).mono ?_
      rintro e w4 ⟨rfl, hw4⟩
      rw [← hw4] at hit2 hX2 hb2 hlt3
      clear hw4 cR1
      by_cases hin : c ∈ own.data.toList
      · have hF2 : Hid (∀ j (hj : j < every9.size), j < i + 1 → every9[j] ∈ fieldsK k ∨ zeroF (MsgM.d ⟨k, dg, vi, tg, ba, he, ce, bl, q⟩) every9[j]) := HN.out (Or.inl (by rw [← hkl]; exact hin))
        rw [decide_eq_true hin]
        clear HN HZ hnx
        go_wp2
        go_roundw
        case rel => exact ⟨i + 1, by omega, hit2, hX2, hb2, hF2⟩
        case measure =>
          have := HM.out
          simp only [World.iterPos, hit2] at this ⊢
          omega
      · rw [decide_eq_false hin]
        have hin' : ¬ c ∈ fieldsK k := by rw [← hkl]; exact hin
        go_wp2_with (refine wpList_load_rowG (by rfl) 39 _ (by rfl) w.heap.size (by rfl) 39 _ (0, 0) _ hX2 Tryz.underlying39 (by rfl) infoMsg9 ?_)
        refine (cZ1 _).mono ?_
        rintro e w5 ⟨⟨p, rfl, hp⟩, hb5⟩
        have hX5 := hX2.below hb5 hX2.lt
        have hB5 := hb2.trans (hb5.mono hb2.size)
        have hit5 : w5.heap[w.heap.size + 1]? = some (.stringIter every9 (i + 1)) := by rw [hb5.block _ hlt3]; exact hit2
        clear cZ1 hX2 hb2 hb5 hit2 hnx
        cases p
        case false =>
          have ho : Hid (out = 3) := HZ.out (fun h => h.elim hin' (fun h => by have := hp.2 h; cases this))
          clear HN HZ hp
          go_wp2
          go_ret
          exact ⟨by rw [ho.out]; rfl, hB5⟩
        have hF2 : Hid (∀ j (hj : j < every9.size), j < i + 1 → every9[j] ∈ fieldsK k ∨ zeroF (MsgM.d ⟨k, dg, vi, tg, ba, he, ce, bl, q⟩) every9[j]) := HN.out (Or.inr (hp.1 rfl))
        clear HN HZ hp
        go_wp2
        go_roundw
        case rel => exact ⟨i + 1, by omega, hit5, hX5, hB5, hF2⟩
        case measure =>
          have := HM.out
          simp only [World.iterPos, hit5] at this ⊢
          omega
    · have hbare : Hid ((MsgM.d ⟨k, dg, vi, tg, ba, he, ce, bl, q⟩).Bare) := every9_bare (fun j hj => HF.out j hj (by omega))
      have hnx : ∀ ty, (Instr.next (.pointer (some ⟨w.heap.size + 1, 0, none⟩)) true ty).run Tryz.prog wr = _ := fun ty => Lib.run_next_end_at wr (w.heap.size + 1) every9 i ty hit hi
      have hXi := hX.alloc (.stringIter own 0)
      have hBi := hb.alloc hb.size (.stringIter own 0)
      have hIt : (wr.alloc (.stringIter own 0)).heap[wr.heap.size]? = some (.stringIter own 0) := World.iter_heap wr own 0
      have HA1 : Hid (MsgM.At wr ⟨k, dg, vi, tg, ba, he, ce, bl, q⟩) := HA.out.below hb
      obtain ⟨B, hBd⟩ : ∃ B, wr.heap.size = B := ⟨_, rfl⟩
      rw [hBd] at hIt
      have hwB : w.heap.size < B := by omega
      have hos : own.size = (fieldsK k).length := by rw [← hkl]; rfl
      go_wp2
      go_loopw [7, 8] (fun v7 v8 wr => ∃ i : Nat, i ≤ own.size ∧ wr.heap[B]? = some (.stringIter own i) ∧ Arr wr w.heap.size 39 [.int .i64 k, .string dg, .int .i64 vi, .int .i64 tg.who, .string tg.mac, .int .i64 ba.author, .int .i64 ba.number, .slice ba.ta ba.txs.length ba.tc, .int .i64 he.author, .int .i64 he.round, .slice he.ra he.refs.length he.rc, .slice he.pa he.parents.length he.pc, .int .i64 ce.hdr.author, .int .i64 ce.hdr.round, .slice ce.hdr.ra ce.hdr.refs.length ce.hdr.rc, .slice ce.hdr.pa ce.hdr.parents.length ce.hdr.pc, .slice ce.va ce.votes.length ce.vc, .int .i64 bl.view, .int .i64 bl.qc.view, .string bl.qc.block, .slice bl.qc.va bl.qc.votes.length bl.qc.vc, .slice bl.ca bl.certs.length bl.cc, .int .i64 q.view, .string q.block, .slice q.va q.votes.length q.vc] ∧ Below w.heap.size w wr ∧ Hid (∀ j (hj : j < (fieldsK k).length), j < i → chkF9 (MsgM.d ⟨k, dg, vi, tg, ba, he, ce, bl, q⟩) (fieldsK k)[j] = 0)) (fun _ _ wr => own.size - wr.iterPos B)
      case atStart => exact ⟨0, Nat.zero_le _, hIt, hXi, hBi, fun j hj h => absurd h (by omega)⟩
      case round =>
        clear hXi hBi hIt hX hb hnx hit hlt2 HF
        obtain ⟨j, hj8, hit, hX, hb, HF⟩ := hrel
        have hlt2 : B < wr.heap.size := (Array.getElem?_eq_some_iff.1 hit).1
        by_cases hj : j < own.size
        · have hjl : j < (fieldsK k).length := by omega
          have hel : own[j] = (fieldsK k)[j] := by
            have hown := HO.out
            subst hown
            rfl
          have hmem : own[j] ∈ letters := by rw [hel]; exact (fieldsK_letters k).2 _ (List.getElem_mem hjl)
          have hasc : (own[j]).toNat < 128 := by
            have : ∀ c ∈ letters, c.toNat < 128 := by decide
            exact this _ hmem
          have hnx : ∀ ty, (Instr.next (.pointer (some ⟨B, 0, none⟩)) true ty).run Tryz.prog wr = _ := fun ty => Lib.run_next_ascii_at wr B own j ty hit hj hasc
          have hit2 := Lib.iterAt_heap wr B own j (j + 1) hit
          have hX2 : Arr (wr.iterAt B own (j + 1)) w.heap.size 39 [.int .i64 k, .string dg, .int .i64 vi, .int .i64 tg.who, .string tg.mac, .int .i64 ba.author, .int .i64 ba.number, .slice ba.ta ba.txs.length ba.tc, .int .i64 he.author, .int .i64 he.round, .slice he.ra he.refs.length he.rc, .slice he.pa he.parents.length he.pc, .int .i64 ce.hdr.author, .int .i64 ce.hdr.round, .slice ce.hdr.ra ce.hdr.refs.length ce.hdr.rc, .slice ce.hdr.pa ce.hdr.parents.length ce.hdr.pc, .slice ce.va ce.votes.length ce.vc, .int .i64 bl.view, .int .i64 bl.qc.view, .string bl.qc.block, .slice bl.qc.va bl.qc.votes.length bl.qc.vc, .slice bl.ca bl.certs.length bl.cc, .int .i64 q.view, .string q.block, .slice q.va q.votes.length q.vc] := (Lib.iterAt_other wr B w.heap.size own (j + 1) (by omega)).trans hX
          have hb2 := Lib.below_iterAt hb (k := B) (by omega) own (j + 1)
          have HM : Hid (own.size - (j + 1) < own.size - World.iterPos wr B) := by
            show _ < _
            simp only [World.iterPos, hit]
            omega
          obtain ⟨c, hcd⟩ : ∃ c, c = own[j] := ⟨_, rfl⟩
          rw [← hcd] at hmem hnx hel
          have cF1 := fun w1 h1 => cF c hmem w1 h1
          obtain ⟨n, hnd⟩ : ∃ n : Nat, n = chkF9 (MsgM.d ⟨k, dg, vi, tg, ba, he, ce, bl, q⟩) c := ⟨_, rfl⟩
          rw [← hnd] at cF1
          have HN : Hid (n = 0 → ∀ i (hi : i < (fieldsK k).length), i < j + 1 → chkF9 (MsgM.d ⟨k, dg, vi, tg, ba, he, ce, bl, q⟩) (fieldsK k)[i] = 0) := by
            intro h i hi hij
            by_cases hj2 : i < j
            · exact HF.out i hi hj2
            · have : i = j := by omega
              subst this
              rw [← hel, ← hnd]
              exact h
          have HZ : Hid (n ≠ 0 → out = n) := by
            intro h
            rw [hout.out, hnd, hel]
            exact chkM_first hbare.out j hjl (fun i hi => HF.out i (by omega) hi) (by rw [hnd, hel] at h; exact h)
          have hAt : MsgM.At _ _ := HA.out.below hb2
          clear HF hcd hasc hit hX hb hel hnd
          obtain ⟨w3, hw3⟩ : ∃ q', wr.iterAt B own (j + 1) = q' := ⟨_, rfl⟩
          rw [hw3] at hit2 hX2 hb2 hnx hAt
          have hlt3 : B < w3.heap.size := (Array.getElem?_eq_some_iff.1 hit2).1
          clear hw3
          go_wp2_with (refine wpList_load_row (by rfl) 39 _ (by rfl) w.heap.size (by rfl) 39 _ (0, 0) _ hX2 Tryz.underlying39 (by rfl) infoMsg9 ?_)
          refine (cF1 _ hAt).mono ?_
          rintro e w5 ⟨rfl, hb5⟩
          have hX5 := hX2.below hb5 hX2.lt
          have hB5 := hb2.trans (hb5.mono hb2.size)
          have hit5 : w5.heap[B]? = some (.stringIter own (j + 1)) := by rw [hb5.block _ hlt3]; exact hit2
          clear cF1 hX2 hb2 hb5 hit2 hnx hAt
          by_cases hz : n = 0
          · subst hz
            have hF2 : Hid (∀ i (hi : i < (fieldsK k).length), i < j + 1 → chkF9 (MsgM.d ⟨k, dg, vi, tg, ba, he, ce, bl, q⟩) (fieldsK k)[i] = 0) := HN.out rfl
            clear HN HZ
            go_wp2
            go_roundw
            case rel => exact ⟨j + 1, by omega, hit5, hX5, hB5, hF2⟩
            case measure =>
              have := HM.out
              simp only [World.iterPos, hit5] at this ⊢
              omega
          · have ho : Hid (out = n) := HZ.out hz
            have hz' : ((n : Int) != 0) = true := by rw [bne_iff_ne]; omega
            clear HN HZ hz
            go_wp2
            go_ret
            exact ⟨by rw [ho.out]; rfl, hB5⟩
        · have ho : Hid (out = 0) := by
            show _ = _
            rw [hout.out]
            refine chkM_all hbare.out Hne.out (fun c hc => ?_)
            obtain ⟨i, hi, rfl⟩ := List.getElem_of_mem hc
            exact HF.out i hi (by have : i < (fieldsK k).length := hi; omega)
          have hnx : ∀ ty, (Instr.next (.pointer (some ⟨B, 0, none⟩)) true ty).run Tryz.prog wr = _ := fun ty => Lib.run_next_end_at wr B own j ty hit hj
          clear HF
          go_wp2
          go_ret
          exact ⟨by rw [ho.out]; rfl, hb⟩
end Go.Proofs.YtmngiekobmhpaaaGreat

/- What package msg's Decode does; nothing old in memory is turned. -/
namespace Go.Proofs.YtmngiekobmhpaaaGreat
open Go.RowKit
set_option linter.unusedVariables false

/-- Decode hands back a message and an error. -/
def GotMsg (W : World) (r : Except Nat MsgD) (e : Ending) (w : World) : Prop :=
  ∃ (x : MsgM) (er : Nat), e = .returned (.tuple #[x.v, .int .i64 (er : Int)]) ∧ x.At w ∧ ((er = 0 ∧ r = .ok x.d) ∨ (er ≠ 0 ∧ r = .error er ∧ x = msg0 0)) ∧ (∀ b, x.foot b → W.heap.size ≤ b) ∧ Below W.heap.size W w

theorem msg0_foot (k : Int) (b : Nat) : ¬ (msg0 k).foot b := by
  rintro (h | h | h | h | h)
  · exact nil_foot h
  · exact h.elim nil_foot nil_foot
  · exact h.elim (fun h => h.elim nil_foot nil_foot) nil_foot
  · exact h.elim nil_foot nil_foot
  · exact nil_foot h

theorem gotMsg_err {W w : World} {r : Except Nat MsgD} {er : Nat} (h : r = .error er) (he : er ≠ 0) (hb : Below W.heap.size W w) (e : Ending) (hv : e = .returned (.tuple #[MsgM.v (msg0 0), .int .i64 (er : Int)])) : GotMsg W r e w :=
  ⟨msg0 0, er, hv, msg0_at 0 w, Or.inr ⟨he, h, rfl⟩, fun b hb => absurd hb (msg0_foot 0 b), hb⟩

/-- What comes behind the fields. -/
def finM (m : MsgD) (l : List UInt8) : Except Nat MsgD := if l ≠ [] then .error 6 else if chkM m ≠ 0 then .error (chkM m) else .ok m

theorem infoReader9 : (Tryz.prog.info? 58).map (·.size) = some 26 := by kernel_rfl

set_option maxRecDepth 100000 in
set_option maxHeartbeats 8000000 in
theorem msgDecode_any (s : ByteArray) (W : World) (hs : s.size ≤ maxLen) :
    Calls Tryz.prog 6 #[.string s] W fun e w' => GotMsg W (decM s.data.toList) e w' := by
  have hZ := Arr.new W 39 [.int .i64 0, .string ⟨#[]⟩, .int .i64 0, .int .i64 0, .string ⟨#[]⟩, .int .i64 0, .int .i64 0, .slice none 0 0, .int .i64 0, .int .i64 0, .slice none 0 0, .slice none 0 0, .int .i64 0, .int .i64 0, .slice none 0 0, .slice none 0 0, .slice none 0 0, .int .i64 0, .int .i64 0, .string ⟨#[]⟩, .slice none 0 0, .slice none 0 0, .int .i64 0, .string ⟨#[]⟩, .slice none 0 0]
  have hB := belowNew W (.cells [.int .i64 0, .string ⟨#[]⟩, .int .i64 0, .int .i64 0, .string ⟨#[]⟩, .int .i64 0, .int .i64 0, .slice none 0 0, .int .i64 0, .int .i64 0, .slice none 0 0, .slice none 0 0, .int .i64 0, .int .i64 0, .slice none 0 0, .slice none 0 0, .slice none 0 0, .int .i64 0, .int .i64 0, .string ⟨#[]⟩, .slice none 0 0, .slice none 0 0, .int .i64 0, .string ⟨#[]⟩, .slice none 0 0].toArray 39)
  have hz1 : (List.toArray (α := Value) [.int .i64 0, .string ⟨#[]⟩, .int .i64 0, .int .i64 0, .string ⟨#[]⟩, .int .i64 0, .int .i64 0, .slice none 0 0, .int .i64 0, .int .i64 0, .slice none 0 0, .slice none 0 0, .int .i64 0, .int .i64 0, .slice none 0 0, .slice none 0 0, .slice none 0 0, .int .i64 0, .int .i64 0, .string ⟨#[]⟩, .slice none 0 0, .slice none 0 0, .int .i64 0, .string ⟨#[]⟩, .slice none 0 0]).all (·.oneCell') = true := Array.all_eq_true_iff_forall_mem.2 (fun v hv => msgK.one (msg0 0) v (List.mem_toArray.1 hv))
  rcases hr : getInt s.data.toList with ⟨v, n, e0⟩
  have cG := fun w1 => getInt_at s w1 v n e0 hs hr
  obtain ⟨w1, hw1⟩ : ∃ q', W.alloc (.cells [.int .i64 0, .string ⟨#[]⟩, .int .i64 0, .int .i64 0, .string ⟨#[]⟩, .int .i64 0, .int .i64 0, .slice none 0 0, .int .i64 0, .int .i64 0, .slice none 0 0, .slice none 0 0, .int .i64 0, .int .i64 0, .slice none 0 0, .slice none 0 0, .slice none 0 0, .int .i64 0, .int .i64 0, .string ⟨#[]⟩, .slice none 0 0, .slice none 0 0, .int .i64 0, .string ⟨#[]⟩, .slice none 0 0].toArray 39) = q' := ⟨_, rfl⟩
  have hs1 : w1.heap.size = W.heap.size + 1 := by rw [← hw1, alloc_size]
  rw [hw1] at hZ hB
  obtain ⟨out, hout⟩ : ∃ o, Hid (o = decM s.data.toList) := ⟨_, rfl⟩
  rw [← hout.out]
  go_enter Tryz.func6, Tryz.ntmps6
  go_wp2_with fail
  refine (cG _).mono ?_
  rintro e w1' ⟨rfl, hw1'⟩
  rw [← hw1'] at hZ hB hs1
  clear hw1' cG hw1
  by_cases he : e0 ≠ 0
  · have ho : Hid (out = .error e0) := by
      show _ = _
      rw [hout.out]
      unfold decM
      exact rdI_err hr he
    have hne : ((e0 : Int) != 0) = true := by rw [bne_iff_ne]; omega
    clear hr hout hs
    have hZF := hZ.row [.int .i64 0, .string ⟨#[]⟩, .int .i64 0, .int .i64 0, .string ⟨#[]⟩, .int .i64 0, .int .i64 0, .slice none 0 0, .int .i64 0, .int .i64 0, .slice none 0 0, .slice none 0 0, .int .i64 0, .int .i64 0, .slice none 0 0, .slice none 0 0, .slice none 0 0, .int .i64 0, .int .i64 0, .string ⟨#[]⟩, .slice none 0 0, .slice none 0 0, .int .i64 0, .string ⟨#[]⟩, .slice none 0 0]
    have hBF := below_setRow hB (g := W.heap.size) (Nat.le_refl _) [.int .i64 0, .string ⟨#[]⟩, .int .i64 0, .int .i64 0, .string ⟨#[]⟩, .int .i64 0, .int .i64 0, .slice none 0 0, .int .i64 0, .int .i64 0, .slice none 0 0, .slice none 0 0, .int .i64 0, .int .i64 0, .slice none 0 0, .slice none 0 0, .slice none 0 0, .int .i64 0, .int .i64 0, .string ⟨#[]⟩, .slice none 0 0, .slice none 0 0, .int .i64 0, .string ⟨#[]⟩, .slice none 0 0].toArray
    have hfin : ∀ e, e = .returned (.tuple #[MsgM.v (msg0 0), .int .i64 (e0 : Int)]) → GotMsg W out e _ := fun e h => gotMsg_err ho.out he hBF e h
    go_wp2_with (refine wpList_store_row (by rfl) 39 _ _ (by rfl) W.heap.size [.int .i64 0, .string ⟨#[]⟩, .int .i64 0, .int .i64 0, .string ⟨#[]⟩, .int .i64 0, .int .i64 0, .slice none 0 0, .int .i64 0, .int .i64 0, .slice none 0 0, .slice none 0 0, .int .i64 0, .int .i64 0, .slice none 0 0, .slice none 0 0, .slice none 0 0, .int .i64 0, .int .i64 0, .string ⟨#[]⟩, .slice none 0 0, .slice none 0 0, .int .i64 0, .string ⟨#[]⟩, .slice none 0 0].toArray (by rfl) (by rfl) 39 _ hZ infoMsg9 (by rfl) hz1 ?_)
    refine bodyPost_ret (v := .tuple #[MsgM.v (msg0 0), .int .i64 (e0 : Int)]) (results_row_tmp rfl _ _ W.heap.size [.int .i64 0, .string ⟨#[]⟩, .int .i64 0, .int .i64 0, .string ⟨#[]⟩, .int .i64 0, .int .i64 0, .slice none 0 0, .int .i64 0, .int .i64 0, .slice none 0 0, .slice none 0 0, .int .i64 0, .int .i64 0, .slice none 0 0, .slice none 0 0, .slice none 0 0, .int .i64 0, .int .i64 0, .string ⟨#[]⟩, .slice none 0 0, .slice none 0 0, .int .i64 0, .string ⟨#[]⟩, .slice none 0 0] rfl (run_loadVar_row _ W.heap.size 39 39 _ (0, 0) _ hZF Tryz.underlying39 rfl infoMsg9) _ rfl) rfl ?_
    exact hfin _ rfl
  replace he : e0 = 0 := by omega
  subst he
  have hbd := getInt_bounds _ v n hr
  have hsl : s.data.toList.length = s.size := by simp
  have hn : (n : Int) ≤ s.size := by omega
  have ho1 : Hid (out = if fieldsK (v : Int) = [] then .error 5 else rdFs (fieldsK (v : Int)) (msgZ (v : Int)) (s.data.toList.drop n) finM) := by
    show _ = _
    rw [hout.out]
    unfold decM
    rw [rdI_ok hr]
    rfl
  have cL := letters_any (v : Int)
  have hkl : (fieldsS (v : Int)).data.toList = fieldsK (v : Int) := rfl
  obtain ⟨own, hown⟩ : ∃ o, o = fieldsS (v : Int) := ⟨_, rfl⟩
  rw [← hown] at cL hkl
  have HO : Hid (own = fieldsS (v : Int)) := hown
  clear hown hout hr
  go_wp2_with fail
  refine (cL _).mono ?_
  rintro e w1 ⟨rfl, hw1⟩
  rw [← hw1] at hZ hB hs1
  clear hw1 cL
  cases hE : own.toList.isEmpty
  case true =>
    have ho : Hid (out = .error 5) := by
      show _ = _
      rw [ho1.out, if_pos]
      rw [← hkl, ← ByteArray.toList_eq]
      exact List.isEmpty_iff.1 hE
    clear ho1 hs hbd hsl hn
    have hZF := hZ.row [.int .i64 0, .string ⟨#[]⟩, .int .i64 0, .int .i64 0, .string ⟨#[]⟩, .int .i64 0, .int .i64 0, .slice none 0 0, .int .i64 0, .int .i64 0, .slice none 0 0, .slice none 0 0, .int .i64 0, .int .i64 0, .slice none 0 0, .slice none 0 0, .slice none 0 0, .int .i64 0, .int .i64 0, .string ⟨#[]⟩, .slice none 0 0, .slice none 0 0, .int .i64 0, .string ⟨#[]⟩, .slice none 0 0]
    have hBF := below_setRow hB (g := W.heap.size) (Nat.le_refl _) [.int .i64 0, .string ⟨#[]⟩, .int .i64 0, .int .i64 0, .string ⟨#[]⟩, .int .i64 0, .int .i64 0, .slice none 0 0, .int .i64 0, .int .i64 0, .slice none 0 0, .slice none 0 0, .int .i64 0, .int .i64 0, .slice none 0 0, .slice none 0 0, .slice none 0 0, .int .i64 0, .int .i64 0, .string ⟨#[]⟩, .slice none 0 0, .slice none 0 0, .int .i64 0, .string ⟨#[]⟩, .slice none 0 0].toArray
    have hfin : ∀ e, e = .returned (.tuple #[MsgM.v (msg0 0), .int .i64 (5 : Int)]) → GotMsg W out e _ := fun e h => gotMsg_err ho.out (by decide) hBF e h
    go_wp2_with (refine wpList_store_row (by rfl) 39 _ _ (by rfl) W.heap.size [.int .i64 0, .string ⟨#[]⟩, .int .i64 0, .int .i64 0, .string ⟨#[]⟩, .int .i64 0, .int .i64 0, .slice none 0 0, .int .i64 0, .int .i64 0, .slice none 0 0, .slice none 0 0, .int .i64 0, .int .i64 0, .slice none 0 0, .slice none 0 0, .slice none 0 0, .int .i64 0, .int .i64 0, .string ⟨#[]⟩, .slice none 0 0, .slice none 0 0, .int .i64 0, .string ⟨#[]⟩, .slice none 0 0].toArray (by rfl) (by rfl) 39 _ hZ infoMsg9 (by rfl) hz1 ?_)
    refine bodyPost_ret (v := .tuple #[MsgM.v (msg0 0), .int .i64 (5 : Int)]) (results_row_tmp rfl _ _ W.heap.size [.int .i64 0, .string ⟨#[]⟩, .int .i64 0, .int .i64 0, .string ⟨#[]⟩, .int .i64 0, .int .i64 0, .slice none 0 0, .int .i64 0, .int .i64 0, .slice none 0 0, .slice none 0 0, .int .i64 0, .int .i64 0, .slice none 0 0, .slice none 0 0, .slice none 0 0, .int .i64 0, .int .i64 0, .string ⟨#[]⟩, .slice none 0 0, .slice none 0 0, .int .i64 0, .string ⟨#[]⟩, .slice none 0 0] rfl (run_loadVar_row _ W.heap.size 39 39 _ (0, 0) _ hZF Tryz.underlying39 rfl infoMsg9) _ rfl) rfl ?_
    exact hfin _ rfl
  have Hne : Hid (fieldsK (v : Int) ≠ []) := fun e => by
    have : own.toList.isEmpty = true := by rw [ByteArray.toList_eq, hkl, e]; rfl
    rw [hE] at this
    cases this
  obtain ⟨r0, hr0⟩ : ∃ o, s.extract n s.size = o := ⟨_, rfl⟩
  have ho2 : Hid (out = rdFs (fieldsK (v : Int)) (msgZ (v : Int)) r0.data.toList finM) := by
    show _ = _
    rw [ho1.out, if_neg Hne.out, ← hr0, extract_drop]
  have hrs : r0.size ≤ maxLen := by rw [← hr0]; exact rest_le s n hs
  clear ho1 hs hbd hsl
  obtain ⟨rb, hrb⟩ : ∃ n, w1.heap.size = n := ⟨_, rfl⟩
  have Hrb : Hid (rb = W.heap.size + 1) := by show _ = _; rw [← hrb, hs1]
  clear hs1
  have hN := Arr.new w1 58 [.string ⟨#[]⟩, .int .i64 0, .string ⟨#[]⟩, .int .i64 0, .int .i64 0, .string ⟨#[]⟩, .int .i64 0, .int .i64 0, .slice none 0 0, .int .i64 0, .int .i64 0, .slice none 0 0, .slice none 0 0, .int .i64 0, .int .i64 0, .slice none 0 0, .slice none 0 0, .slice none 0 0, .int .i64 0, .int .i64 0, .string ⟨#[]⟩, .slice none 0 0, .slice none 0 0, .int .i64 0, .string ⟨#[]⟩, .slice none 0 0]
  have hbn := belowNew w1 (.cells [.string ⟨#[]⟩, .int .i64 0, .string ⟨#[]⟩, .int .i64 0, .int .i64 0, .string ⟨#[]⟩, .int .i64 0, .int .i64 0, .slice none 0 0, .int .i64 0, .int .i64 0, .slice none 0 0, .slice none 0 0, .int .i64 0, .int .i64 0, .slice none 0 0, .slice none 0 0, .slice none 0 0, .int .i64 0, .int .i64 0, .string ⟨#[]⟩, .slice none 0 0, .slice none 0 0, .int .i64 0, .string ⟨#[]⟩, .slice none 0 0].toArray 58)
  have hn1 : (List.toArray (α := Value) [.string r0, .int .i64 (v : Int), .string ⟨#[]⟩, .int .i64 0, .int .i64 0, .string ⟨#[]⟩, .int .i64 0, .int .i64 0, .slice none 0 0, .int .i64 0, .int .i64 0, .slice none 0 0, .slice none 0 0, .int .i64 0, .int .i64 0, .slice none 0 0, .slice none 0 0, .slice none 0 0, .int .i64 0, .int .i64 0, .string ⟨#[]⟩, .slice none 0 0, .slice none 0 0, .int .i64 0, .string ⟨#[]⟩, .slice none 0 0]).all (·.oneCell') = true := by
    refine Array.all_eq_true_iff_forall_mem.2 (fun u hu => ?_)
    have hu' := List.mem_toArray.1 hu
    rcases List.mem_cons.1 hu' with rfl | hu2
    · rfl
    · exact msgK.one (msg0 (v : Int)) u hu2
  rw [hrb] at hN
  have kr := kept_row (w1.alloc (.cells [.string ⟨#[]⟩, .int .i64 0, .string ⟨#[]⟩, .int .i64 0, .int .i64 0, .string ⟨#[]⟩, .int .i64 0, .int .i64 0, .slice none 0 0, .int .i64 0, .int .i64 0, .slice none 0 0, .slice none 0 0, .int .i64 0, .int .i64 0, .slice none 0 0, .slice none 0 0, .slice none 0 0, .int .i64 0, .int .i64 0, .string ⟨#[]⟩, .slice none 0 0, .slice none 0 0, .int .i64 0, .string ⟨#[]⟩, .slice none 0 0].toArray 58)) rb [.string r0, .int .i64 (v : Int), .string ⟨#[]⟩, .int .i64 0, .int .i64 0, .string ⟨#[]⟩, .int .i64 0, .int .i64 0, .slice none 0 0, .int .i64 0, .int .i64 0, .slice none 0 0, .slice none 0 0, .int .i64 0, .int .i64 0, .slice none 0 0, .slice none 0 0, .slice none 0 0, .int .i64 0, .int .i64 0, .string ⟨#[]⟩, .slice none 0 0, .slice none 0 0, .int .i64 0, .string ⟨#[]⟩, .slice none 0 0].toArray
  have hR2 := hN.row [.string r0, .int .i64 (v : Int), .string ⟨#[]⟩, .int .i64 0, .int .i64 0, .string ⟨#[]⟩, .int .i64 0, .int .i64 0, .slice none 0 0, .int .i64 0, .int .i64 0, .slice none 0 0, .slice none 0 0, .int .i64 0, .int .i64 0, .slice none 0 0, .slice none 0 0, .slice none 0 0, .int .i64 0, .int .i64 0, .string ⟨#[]⟩, .slice none 0 0, .slice none 0 0, .int .i64 0, .string ⟨#[]⟩, .slice none 0 0]
  have hZ2 := (hZ.below hbn hZ.lt).kept kr (by show ¬ W.heap.size = rb; have := Hrb.out; omega)
  have hB2 := below_setRow (hB.trans (hbn.mono hB.size)) (g := rb) (by have := Hrb.out; omega) [.string r0, .int .i64 (v : Int), .string ⟨#[]⟩, .int .i64 0, .int .i64 0, .string ⟨#[]⟩, .int .i64 0, .int .i64 0, .slice none 0 0, .int .i64 0, .int .i64 0, .slice none 0 0, .slice none 0 0, .int .i64 0, .int .i64 0, .slice none 0 0, .slice none 0 0, .slice none 0 0, .int .i64 0, .int .i64 0, .string ⟨#[]⟩, .slice none 0 0, .slice none 0 0, .int .i64 0, .string ⟨#[]⟩, .slice none 0 0].toArray
  have hs2 : (World.setRow (w1.alloc (.cells [.string ⟨#[]⟩, .int .i64 0, .string ⟨#[]⟩, .int .i64 0, .int .i64 0, .string ⟨#[]⟩, .int .i64 0, .int .i64 0, .slice none 0 0, .int .i64 0, .int .i64 0, .slice none 0 0, .slice none 0 0, .int .i64 0, .int .i64 0, .slice none 0 0, .slice none 0 0, .slice none 0 0, .int .i64 0, .int .i64 0, .string ⟨#[]⟩, .slice none 0 0, .slice none 0 0, .int .i64 0, .string ⟨#[]⟩, .slice none 0 0].toArray 58)) rb [.string r0, .int .i64 (v : Int), .string ⟨#[]⟩, .int .i64 0, .int .i64 0, .string ⟨#[]⟩, .int .i64 0, .int .i64 0, .slice none 0 0, .int .i64 0, .int .i64 0, .slice none 0 0, .slice none 0 0, .int .i64 0, .int .i64 0, .slice none 0 0, .slice none 0 0, .slice none 0 0, .int .i64 0, .int .i64 0, .string ⟨#[]⟩, .slice none 0 0, .slice none 0 0, .int .i64 0, .string ⟨#[]⟩, .slice none 0 0].toArray).heap.size = rb + 1 := by rw [setRow_size, alloc_size, hrb]
  have hZ3 := hZ2.alloc (.stringIter own 0)
  have hR3 := hR2.alloc (.stringIter own 0)
  have hB3 := hB2.alloc hB2.size (.stringIter own 0)
  have hIt := World.iter_heap (World.setRow (w1.alloc (.cells [.string ⟨#[]⟩, .int .i64 0, .string ⟨#[]⟩, .int .i64 0, .int .i64 0, .string ⟨#[]⟩, .int .i64 0, .int .i64 0, .slice none 0 0, .int .i64 0, .int .i64 0, .slice none 0 0, .slice none 0 0, .int .i64 0, .int .i64 0, .slice none 0 0, .slice none 0 0, .slice none 0 0, .int .i64 0, .int .i64 0, .string ⟨#[]⟩, .slice none 0 0, .slice none 0 0, .int .i64 0, .string ⟨#[]⟩, .slice none 0 0].toArray 58)) rb [.string r0, .int .i64 (v : Int), .string ⟨#[]⟩, .int .i64 0, .int .i64 0, .string ⟨#[]⟩, .int .i64 0, .int .i64 0, .slice none 0 0, .int .i64 0, .int .i64 0, .slice none 0 0, .slice none 0 0, .int .i64 0, .int .i64 0, .slice none 0 0, .slice none 0 0, .slice none 0 0, .int .i64 0, .int .i64 0, .string ⟨#[]⟩, .slice none 0 0, .slice none 0 0, .int .i64 0, .string ⟨#[]⟩, .slice none 0 0].toArray) own 0
  rw [hs2] at hIt
  replace hIt : (World.alloc (World.setRow (w1.alloc (.cells [.string ⟨#[]⟩, .int .i64 0, .string ⟨#[]⟩, .int .i64 0, .int .i64 0, .string ⟨#[]⟩, .int .i64 0, .int .i64 0, .slice none 0 0, .int .i64 0, .int .i64 0, .slice none 0 0, .slice none 0 0, .int .i64 0, .int .i64 0, .slice none 0 0, .slice none 0 0, .slice none 0 0, .int .i64 0, .int .i64 0, .string ⟨#[]⟩, .slice none 0 0, .slice none 0 0, .int .i64 0, .string ⟨#[]⟩, .slice none 0 0].toArray 58)) rb [.string r0, .int .i64 (v : Int), .string ⟨#[]⟩, .int .i64 0, .int .i64 0, .string ⟨#[]⟩, .int .i64 0, .int .i64 0, .slice none 0 0, .int .i64 0, .int .i64 0, .slice none 0 0, .slice none 0 0, .int .i64 0, .int .i64 0, .slice none 0 0, .slice none 0 0, .slice none 0 0, .int .i64 0, .int .i64 0, .string ⟨#[]⟩, .slice none 0 0, .slice none 0 0, .int .i64 0, .string ⟨#[]⟩, .slice none 0 0].toArray) (.stringIter own 0)).heap[rb + 1]? = some (.stringIter own 0) := hIt
  clear hbn kr hR2 hZ2 hB2 hB hZ
  go_wp2_with (refine wpList_store_row (by rfl) 58 _ _ (by rfl) rb [.string r0, .int .i64 (v : Int), .string ⟨#[]⟩, .int .i64 0, .int .i64 0, .string ⟨#[]⟩, .int .i64 0, .int .i64 0, .slice none 0 0, .int .i64 0, .int .i64 0, .slice none 0 0, .slice none 0 0, .int .i64 0, .int .i64 0, .slice none 0 0, .slice none 0 0, .slice none 0 0, .int .i64 0, .int .i64 0, .string ⟨#[]⟩, .slice none 0 0, .slice none 0 0, .int .i64 0, .string ⟨#[]⟩, .slice none 0 0].toArray (by rfl) (by rfl) 58 _ hN infoReader9 (by rfl) hn1 ?_)
  go_loopw [10, 11] (fun v10 v11 wr => ∃ (i : Nat) (rest : ByteArray) (m : MsgM), i ≤ own.size ∧ wr.heap[rb + 1]? = some (.stringIter own i) ∧ Arr wr rb 58 (.string rest :: m.c) ∧ m.At wr ∧ (∀ b, m.foot b → rb + 2 ≤ b) ∧ rest.size ≤ maxLen ∧ Arr wr W.heap.size 39 [.int .i64 0, .string ⟨#[]⟩, .int .i64 0, .int .i64 0, .string ⟨#[]⟩, .int .i64 0, .int .i64 0, .slice none 0 0, .int .i64 0, .int .i64 0, .slice none 0 0, .slice none 0 0, .int .i64 0, .int .i64 0, .slice none 0 0, .slice none 0 0, .slice none 0 0, .int .i64 0, .int .i64 0, .string ⟨#[]⟩, .slice none 0 0, .slice none 0 0, .int .i64 0, .string ⟨#[]⟩, .slice none 0 0] ∧ Below W.heap.size W wr ∧ Hid (m.d.Few ∧ out = rdFs ((fieldsK (v : Int)).drop i) m.d rest.data.toList finM)) (fun _ _ wr => own.size - wr.iterPos (rb + 1))
  case atStart => exact ⟨0, r0, msg0 (v : Int), Nat.zero_le _, hIt, hR3, msg0_at _ _, fun b hb => absurd hb (msg0_foot _ b), hrs, hZ3, hB3, few_zero _, ho2.out⟩
  case round =>
    clear hIt hR3 hZ3 hB3 hrs ho2 hN hn1 hrb hr0 hn
    obtain ⟨i, rest, m, hi8, hit, hR, hM, hf, hrs, hZ, hb, HF⟩ := hrel
    have hos : own.size = (fieldsK (v : Int)).length := by rw [← hkl]; rfl
    have hltB : rb + 1 < wr.heap.size := (Array.getElem?_eq_some_iff.1 hit).1
    have hWr : W.heap.size < rb := by have := Hrb.out; omega
    by_cases hi : i < own.size
    · have hil : i < (fieldsK (v : Int)).length := by omega
      have hel : own[i] = (fieldsK (v : Int))[i] := by
        have hown := HO.out
        subst hown
        rfl
      have hmem : own[i] ∈ letters := by rw [hel]; exact (fieldsK_letters (v : Int)).2 _ (List.getElem_mem hil)
      have hasc : (own[i]).toNat < 128 := by
        have : ∀ c ∈ letters, c.toNat < 128 := by decide
        exact this _ hmem
      have hnx : ∀ ty, (Instr.next (.pointer (some ⟨rb + 1, 0, none⟩)) true ty).run Tryz.prog wr = _ := fun ty => Lib.run_next_ascii_at wr (rb + 1) own i ty hit hi hasc
      have hit2 := Lib.iterAt_heap wr (rb + 1) own i (i + 1) hit
      have hR2 : Arr (wr.iterAt (rb + 1) own (i + 1)) rb 58 (.string rest :: m.c) := (Lib.iterAt_other wr (rb + 1) rb own (i + 1) (by omega)).trans hR
      have hZ2 : Arr (wr.iterAt (rb + 1) own (i + 1)) W.heap.size 39 [.int .i64 0, .string ⟨#[]⟩, .int .i64 0, .int .i64 0, .string ⟨#[]⟩, .int .i64 0, .int .i64 0, .slice none 0 0, .int .i64 0, .int .i64 0, .slice none 0 0, .slice none 0 0, .int .i64 0, .int .i64 0, .slice none 0 0, .slice none 0 0, .slice none 0 0, .int .i64 0, .int .i64 0, .string ⟨#[]⟩, .slice none 0 0, .slice none 0 0, .int .i64 0, .string ⟨#[]⟩, .slice none 0 0] := (Lib.iterAt_other wr (rb + 1) W.heap.size own (i + 1) (by omega)).trans hZ
      have hb2 := Lib.below_iterAt hb (k := rb + 1) (by omega) own (i + 1)
      have hM2 : m.At (wr.iterAt (rb + 1) own (i + 1)) := Kind.keep msgK hM (fun b hb => Lib.iterAt_other wr (rb + 1) b own (i + 1) (by have := hf b hb; omega))
      have HM : Hid (own.size - (i + 1) < own.size - World.iterPos wr (rb + 1)) := by
        show _ < _
        simp only [World.iterPos, hit]
        omega
      obtain ⟨c, hcd⟩ : ∃ c, c = own[i] := ⟨_, rfl⟩
      rw [← hcd] at hmem hnx hel
      have HF2 : Hid (out = match stepF c m.d rest.data.toList with
          | .error e => .error e
          | .ok (p, l) => rdFs ((fieldsK (v : Int)).drop (i + 1)) p l finM) := by
        show _ = _
        rw [HF.out.2, List.drop_eq_getElem_cons hil, rdFs, ← hel]
        exact rdF_step _ _ _ _
      have HFew : Hid (m.d.Few) := HF.out.1
      have Hmem : Hid (c ∈ letters) := hmem
      obtain ⟨w3, hw3⟩ : ∃ q', wr.iterAt (rb + 1) own (i + 1) = q' := ⟨_, rfl⟩
      rw [hw3] at hit2 hR2 hZ2 hb2 hM2 hnx
      have hlt3 : rb + 1 < w3.heap.size := (Array.getElem?_eq_some_iff.1 hit2).1
      have cF := field_any rb (rb + 2) (by omega) c hmem rest m w3 (by omega) hR2 hM2 hf hrs
      clear hasc hcd hel hit hR hZ hb hM hf hrs HF hw3 hR2 hM2 hmem
      go_wp2_with fail
      refine cF.mono ?_
      rintro e w4 ⟨er, rest', m', rfl, hR4, hM4, hf4, hrs4, hk4, hres⟩
      have hZ4 := hZ2.kept hk4 (by show ¬ W.heap.size = rb; omega)
      have hb4 := hb2.trans (hk4.below hb2.size (fun k hk => by rw [hk]; omega))
      have hit4 : w4.heap[rb + 1]? = some (.stringIter own (i + 1)) := by rw [hk4.block _ hlt3 (by omega)]; exact hit2
      clear cF hZ2 hb2 hit2 hk4 hnx
      rcases hres with ⟨rfl, hres⟩ | ⟨he, hres⟩
      · have HF3 : Hid (m'.d.Few ∧ out = rdFs ((fieldsK (v : Int)).drop (i + 1)) m'.d rest'.data.toList finM) := ⟨few_step Hmem.out hres HFew.out, by rw [HF2.out, hres]⟩
        clear HF2 HFew hres Hmem
        go_wp2
        go_roundw
        case rel => exact ⟨i + 1, rest', m', by omega, hit4, hR4, hM4, hf4, hrs4, hZ4, hb4, HF3⟩
        case measure =>
          have := HM.out
          simp only [World.iterPos, hit4] at this ⊢
          omega
      · have ho : Hid (out = .error er) := by
          show _ = _
          rw [HF2.out, hres]
        have hne : ((er : Int) != 0) = true := by rw [bne_iff_ne]; omega
        clear HF2 HFew hres hR4 hM4 hf4 Hmem
        have hZF := hZ4.row [.int .i64 0, .string ⟨#[]⟩, .int .i64 0, .int .i64 0, .string ⟨#[]⟩, .int .i64 0, .int .i64 0, .slice none 0 0, .int .i64 0, .int .i64 0, .slice none 0 0, .slice none 0 0, .int .i64 0, .int .i64 0, .slice none 0 0, .slice none 0 0, .slice none 0 0, .int .i64 0, .int .i64 0, .string ⟨#[]⟩, .slice none 0 0, .slice none 0 0, .int .i64 0, .string ⟨#[]⟩, .slice none 0 0]
        have hBF := below_setRow hb4 (g := W.heap.size) (Nat.le_refl _) [.int .i64 0, .string ⟨#[]⟩, .int .i64 0, .int .i64 0, .string ⟨#[]⟩, .int .i64 0, .int .i64 0, .slice none 0 0, .int .i64 0, .int .i64 0, .slice none 0 0, .slice none 0 0, .int .i64 0, .int .i64 0, .slice none 0 0, .slice none 0 0, .slice none 0 0, .int .i64 0, .int .i64 0, .string ⟨#[]⟩, .slice none 0 0, .slice none 0 0, .int .i64 0, .string ⟨#[]⟩, .slice none 0 0].toArray
        have hfin : ∀ e, e = .returned (.tuple #[MsgM.v (msg0 0), .int .i64 (er : Int)]) → GotMsg W out e _ := fun e h => gotMsg_err ho.out he hBF e h
        go_wp2_with (refine wpList_store_row (by rfl) 39 _ _ (by rfl) W.heap.size [.int .i64 0, .string ⟨#[]⟩, .int .i64 0, .int .i64 0, .string ⟨#[]⟩, .int .i64 0, .int .i64 0, .slice none 0 0, .int .i64 0, .int .i64 0, .slice none 0 0, .slice none 0 0, .int .i64 0, .int .i64 0, .slice none 0 0, .slice none 0 0, .slice none 0 0, .int .i64 0, .int .i64 0, .string ⟨#[]⟩, .slice none 0 0, .slice none 0 0, .int .i64 0, .string ⟨#[]⟩, .slice none 0 0].toArray (by rfl) (by rfl) 39 _ hZ4 infoMsg9 (by rfl) hz1 ?_)
        refine bodyPost_ret (v := .tuple #[MsgM.v (msg0 0), .int .i64 (er : Int)]) (results_row_tmp rfl _ _ W.heap.size [.int .i64 0, .string ⟨#[]⟩, .int .i64 0, .int .i64 0, .string ⟨#[]⟩, .int .i64 0, .int .i64 0, .slice none 0 0, .int .i64 0, .int .i64 0, .slice none 0 0, .slice none 0 0, .int .i64 0, .int .i64 0, .slice none 0 0, .slice none 0 0, .slice none 0 0, .int .i64 0, .int .i64 0, .string ⟨#[]⟩, .slice none 0 0, .slice none 0 0, .int .i64 0, .string ⟨#[]⟩, .slice none 0 0] rfl (run_loadVar_row _ W.heap.size 39 39 _ (0, 0) _ hZF Tryz.underlying39 rfl infoMsg9) _ rfl) rfl ?_
        exact hfin _ rfl
    · have ho : Hid (out = finM m.d rest.data.toList) := by
        show _ = _
        rw [HF.out.2, List.drop_of_length_le (by omega)]
        rfl
      have hnum := few_num HF.out.1
      have hnx : ∀ ty, (Instr.next (.pointer (some ⟨rb + 1, 0, none⟩)) true ty).run Tryz.prog wr = _ := fun ty => Lib.run_next_end_at wr (rb + 1) own i ty hit hi
      have c0 := hR.cell (i := 0) rfl
      clear HF
      cases hE2 : rest.toList.isEmpty
      case false =>
        have ho6 : Hid (out = .error 6) := by
          show _ = _
          rw [ho.out]
          unfold finM
          rw [if_pos]
          intro e
          rw [ByteArray.toList_eq, e] at hE2
          cases hE2
        clear ho hR hM hf hnum
        have hZF := hZ.row [.int .i64 0, .string ⟨#[]⟩, .int .i64 0, .int .i64 0, .string ⟨#[]⟩, .int .i64 0, .int .i64 0, .slice none 0 0, .int .i64 0, .int .i64 0, .slice none 0 0, .slice none 0 0, .int .i64 0, .int .i64 0, .slice none 0 0, .slice none 0 0, .slice none 0 0, .int .i64 0, .int .i64 0, .string ⟨#[]⟩, .slice none 0 0, .slice none 0 0, .int .i64 0, .string ⟨#[]⟩, .slice none 0 0]
        have hBF := below_setRow hb (g := W.heap.size) (Nat.le_refl _) [.int .i64 0, .string ⟨#[]⟩, .int .i64 0, .int .i64 0, .string ⟨#[]⟩, .int .i64 0, .int .i64 0, .slice none 0 0, .int .i64 0, .int .i64 0, .slice none 0 0, .slice none 0 0, .int .i64 0, .int .i64 0, .slice none 0 0, .slice none 0 0, .slice none 0 0, .int .i64 0, .int .i64 0, .string ⟨#[]⟩, .slice none 0 0, .slice none 0 0, .int .i64 0, .string ⟨#[]⟩, .slice none 0 0].toArray
        have hfin : ∀ e, e = .returned (.tuple #[MsgM.v (msg0 0), .int .i64 (6 : Int)]) → GotMsg W out e _ := fun e h => gotMsg_err ho6.out (by decide) hBF e h
        go_wp2_with (refine wpList_store_row (by rfl) 39 _ _ (by rfl) W.heap.size [.int .i64 0, .string ⟨#[]⟩, .int .i64 0, .int .i64 0, .string ⟨#[]⟩, .int .i64 0, .int .i64 0, .slice none 0 0, .int .i64 0, .int .i64 0, .slice none 0 0, .slice none 0 0, .int .i64 0, .int .i64 0, .slice none 0 0, .slice none 0 0, .slice none 0 0, .int .i64 0, .int .i64 0, .string ⟨#[]⟩, .slice none 0 0, .slice none 0 0, .int .i64 0, .string ⟨#[]⟩, .slice none 0 0].toArray (by rfl) (by rfl) 39 _ hZ infoMsg9 (by rfl) hz1 ?_)
        refine bodyPost_ret (v := .tuple #[MsgM.v (msg0 0), .int .i64 (6 : Int)]) (results_row_tmp rfl _ _ W.heap.size [.int .i64 0, .string ⟨#[]⟩, .int .i64 0, .int .i64 0, .string ⟨#[]⟩, .int .i64 0, .int .i64 0, .slice none 0 0, .int .i64 0, .int .i64 0, .slice none 0 0, .slice none 0 0, .int .i64 0, .int .i64 0, .slice none 0 0, .slice none 0 0, .slice none 0 0, .int .i64 0, .int .i64 0, .string ⟨#[]⟩, .slice none 0 0, .slice none 0 0, .int .i64 0, .string ⟨#[]⟩, .slice none 0 0] rfl (run_loadVar_row _ W.heap.size 39 39 _ (0, 0) _ hZF Tryz.underlying39 rfl infoMsg9) _ rfl) rfl ?_
        exact hfin _ rfl
      have hr0 : rest.data.toList = [] := by rw [← ByteArray.toList_eq]; exact List.isEmpty_iff.1 hE2
      have ho2 : Hid (out = if chkM m.d ≠ 0 then .error (chkM m.d) else .ok m.d) := by
        show _ = _
        rw [ho.out]
        unfold finM
        rw [if_neg (fun h => h hr0)]
      clear ho hr0
      have cC := msgCheck_any m wr hM hnum
      have hlen : ∀ b, m.foot b → W.heap.size ≤ b := fun b hb => by have := hf b hb; omega
      have hfz : ∀ b, m.foot b → ¬ b = W.heap.size := fun b hb => by have := hf b hb; omega
      obtain ⟨er, her⟩ : ∃ n : Nat, n = chkM m.d := ⟨_, rfl⟩
      rw [← her] at cC ho2
      clear her hnum hf
      have hMM := hM
      obtain ⟨k, dg, vi, tg, ba, he, ce, bl, q⟩ := m
      replace hR : Arr wr rb 58 [.string rest, .int .i64 k, .string dg, .int .i64 vi, .int .i64 tg.who, .string tg.mac, .int .i64 ba.author, .int .i64 ba.number, .slice ba.ta ba.txs.length ba.tc, .int .i64 he.author, .int .i64 he.round, .slice he.ra he.refs.length he.rc, .slice he.pa he.parents.length he.pc, .int .i64 ce.hdr.author, .int .i64 ce.hdr.round, .slice ce.hdr.ra ce.hdr.refs.length ce.hdr.rc, .slice ce.hdr.pa ce.hdr.parents.length ce.hdr.pc, .slice ce.va ce.votes.length ce.vc, .int .i64 bl.view, .int .i64 bl.qc.view, .string bl.qc.block, .slice bl.qc.va bl.qc.votes.length bl.qc.vc, .slice bl.ca bl.certs.length bl.cc, .int .i64 q.view, .string q.block, .slice q.va q.votes.length q.vc] := hR
      have hrg : wr.rangeAt rb 1 [.int .i64 k, .string dg, .int .i64 vi, .int .i64 tg.who, .string tg.mac, .int .i64 ba.author, .int .i64 ba.number, .slice ba.ta ba.txs.length ba.tc, .int .i64 he.author, .int .i64 he.round, .slice he.ra he.refs.length he.rc, .slice he.pa he.parents.length he.pc, .int .i64 ce.hdr.author, .int .i64 ce.hdr.round, .slice ce.hdr.ra ce.hdr.refs.length ce.hdr.rc, .slice ce.hdr.pa ce.hdr.parents.length ce.hdr.pc, .slice ce.va ce.votes.length ce.vc, .int .i64 bl.view, .int .i64 bl.qc.view, .string bl.qc.block, .slice bl.qc.va bl.qc.votes.length bl.qc.vc, .slice bl.ca bl.certs.length bl.cc, .int .i64 q.view, .string q.block, .slice q.va q.votes.length q.vc] := fun j u hu => by
        rw [Nat.add_comm]
        exact hR.cell (i := j + 1) hu
      unfold MsgM.v MsgM.c at cC
      simp only at cC
      go_wp2_with (refine Go.wpList_load_mid (by rfl) 39 _ (by rfl) rb 1 (by rfl) [.int .i64 k, .string dg, .int .i64 vi, .int .i64 tg.who, .string tg.mac, .int .i64 ba.author, .int .i64 ba.number, .slice ba.ta ba.txs.length ba.tc, .int .i64 he.author, .int .i64 he.round, .slice he.ra he.refs.length he.rc, .slice he.pa he.parents.length he.pc, .int .i64 ce.hdr.author, .int .i64 ce.hdr.round, .slice ce.hdr.ra ce.hdr.refs.length ce.hdr.rc, .slice ce.hdr.pa ce.hdr.parents.length ce.hdr.pc, .slice ce.va ce.votes.length ce.vc, .int .i64 bl.view, .int .i64 bl.qc.view, .string bl.qc.block, .slice bl.qc.va bl.qc.votes.length bl.qc.vc, .slice bl.ca bl.certs.length bl.cc, .int .i64 q.view, .string q.block, .slice q.va q.votes.length q.vc] _ hrg Tryz.underlying39 (by rfl) infoMsg9 ?_)
      refine cC.mono ?_
      rintro e w5 ⟨rfl, hb5⟩
      have hZ5 := hZ.below hb5 hZ.lt
      have hR5 := hR.below hb5 hR.lt
      have hB5 := hb.trans (hb5.mono hb.size)
      have hM5 := hMM.below hb5
      clear cC hZ hR hb hb5 hM hMM c0 hnx hrg hit
      by_cases hz : er ≠ 0
      · have ho3 : Hid (out = .error er) := by
          show _ = _
          rw [ho2.out, if_pos hz]
        have hne : ((er : Int) != 0) = true := by rw [bne_iff_ne]; omega
        clear ho2 hR5 hM5
        have hZF := hZ5.row [.int .i64 0, .string ⟨#[]⟩, .int .i64 0, .int .i64 0, .string ⟨#[]⟩, .int .i64 0, .int .i64 0, .slice none 0 0, .int .i64 0, .int .i64 0, .slice none 0 0, .slice none 0 0, .int .i64 0, .int .i64 0, .slice none 0 0, .slice none 0 0, .slice none 0 0, .int .i64 0, .int .i64 0, .string ⟨#[]⟩, .slice none 0 0, .slice none 0 0, .int .i64 0, .string ⟨#[]⟩, .slice none 0 0]
        have hBF := below_setRow hB5 (g := W.heap.size) (Nat.le_refl _) [.int .i64 0, .string ⟨#[]⟩, .int .i64 0, .int .i64 0, .string ⟨#[]⟩, .int .i64 0, .int .i64 0, .slice none 0 0, .int .i64 0, .int .i64 0, .slice none 0 0, .slice none 0 0, .int .i64 0, .int .i64 0, .slice none 0 0, .slice none 0 0, .slice none 0 0, .int .i64 0, .int .i64 0, .string ⟨#[]⟩, .slice none 0 0, .slice none 0 0, .int .i64 0, .string ⟨#[]⟩, .slice none 0 0].toArray
        have hfin : ∀ e, e = .returned (.tuple #[MsgM.v (msg0 0), .int .i64 (er : Int)]) → GotMsg W out e _ := fun e h => gotMsg_err ho3.out hz hBF e h
        go_wp2_with (refine wpList_store_row (by rfl) 39 _ _ (by rfl) W.heap.size [.int .i64 0, .string ⟨#[]⟩, .int .i64 0, .int .i64 0, .string ⟨#[]⟩, .int .i64 0, .int .i64 0, .slice none 0 0, .int .i64 0, .int .i64 0, .slice none 0 0, .slice none 0 0, .int .i64 0, .int .i64 0, .slice none 0 0, .slice none 0 0, .slice none 0 0, .int .i64 0, .int .i64 0, .string ⟨#[]⟩, .slice none 0 0, .slice none 0 0, .int .i64 0, .string ⟨#[]⟩, .slice none 0 0].toArray (by rfl) (by rfl) 39 _ hZ5 infoMsg9 (by rfl) hz1 ?_)
        refine bodyPost_ret (v := .tuple #[MsgM.v (msg0 0), .int .i64 (er : Int)]) (results_row_tmp rfl _ _ W.heap.size [.int .i64 0, .string ⟨#[]⟩, .int .i64 0, .int .i64 0, .string ⟨#[]⟩, .int .i64 0, .int .i64 0, .slice none 0 0, .int .i64 0, .int .i64 0, .slice none 0 0, .slice none 0 0, .int .i64 0, .int .i64 0, .slice none 0 0, .slice none 0 0, .slice none 0 0, .int .i64 0, .int .i64 0, .string ⟨#[]⟩, .slice none 0 0, .slice none 0 0, .int .i64 0, .string ⟨#[]⟩, .slice none 0 0] rfl (run_loadVar_row _ W.heap.size 39 39 _ (0, 0) _ hZF Tryz.underlying39 rfl infoMsg9) _ rfl) rfl ?_
        exact hfin _ rfl
      replace hz : er = 0 := by omega
      subst hz
      have ho3 : Hid (out = .ok (MsgM.d ⟨k, dg, vi, tg, ba, he, ce, bl, q⟩)) := by
        show _ = _
        rw [ho2.out, if_neg (by simp)]
      have hrg : w5.rangeAt rb 1 [.int .i64 k, .string dg, .int .i64 vi, .int .i64 tg.who, .string tg.mac, .int .i64 ba.author, .int .i64 ba.number, .slice ba.ta ba.txs.length ba.tc, .int .i64 he.author, .int .i64 he.round, .slice he.ra he.refs.length he.rc, .slice he.pa he.parents.length he.pc, .int .i64 ce.hdr.author, .int .i64 ce.hdr.round, .slice ce.hdr.ra ce.hdr.refs.length ce.hdr.rc, .slice ce.hdr.pa ce.hdr.parents.length ce.hdr.pc, .slice ce.va ce.votes.length ce.vc, .int .i64 bl.view, .int .i64 bl.qc.view, .string bl.qc.block, .slice bl.qc.va bl.qc.votes.length bl.qc.vc, .slice bl.ca bl.certs.length bl.cc, .int .i64 q.view, .string q.block, .slice q.va q.votes.length q.vc] := fun j u hu => by
        rw [Nat.add_comm]
        exact hR5.cell (i := j + 1) hu
      have hx1 : (List.toArray (α := Value) [.int .i64 k, .string dg, .int .i64 vi, .int .i64 tg.who, .string tg.mac, .int .i64 ba.author, .int .i64 ba.number, .slice ba.ta ba.txs.length ba.tc, .int .i64 he.author, .int .i64 he.round, .slice he.ra he.refs.length he.rc, .slice he.pa he.parents.length he.pc, .int .i64 ce.hdr.author, .int .i64 ce.hdr.round, .slice ce.hdr.ra ce.hdr.refs.length ce.hdr.rc, .slice ce.hdr.pa ce.hdr.parents.length ce.hdr.pc, .slice ce.va ce.votes.length ce.vc, .int .i64 bl.view, .int .i64 bl.qc.view, .string bl.qc.block, .slice bl.qc.va bl.qc.votes.length bl.qc.vc, .slice bl.ca bl.certs.length bl.cc, .int .i64 q.view, .string q.block, .slice q.va q.votes.length q.vc]).all (·.oneCell') = true := Array.all_eq_true_iff_forall_mem.2 (fun v hv => msgK.one ⟨k, dg, vi, tg, ba, he, ce, bl, q⟩ v (List.mem_toArray.1 hv))
      have kr := kept_row w5 W.heap.size [.int .i64 k, .string dg, .int .i64 vi, .int .i64 tg.who, .string tg.mac, .int .i64 ba.author, .int .i64 ba.number, .slice ba.ta ba.txs.length ba.tc, .int .i64 he.author, .int .i64 he.round, .slice he.ra he.refs.length he.rc, .slice he.pa he.parents.length he.pc, .int .i64 ce.hdr.author, .int .i64 ce.hdr.round, .slice ce.hdr.ra ce.hdr.refs.length ce.hdr.rc, .slice ce.hdr.pa ce.hdr.parents.length ce.hdr.pc, .slice ce.va ce.votes.length ce.vc, .int .i64 bl.view, .int .i64 bl.qc.view, .string bl.qc.block, .slice bl.qc.va bl.qc.votes.length bl.qc.vc, .slice bl.ca bl.certs.length bl.cc, .int .i64 q.view, .string q.block, .slice q.va q.votes.length q.vc].toArray
      have hZF := hZ5.row [.int .i64 k, .string dg, .int .i64 vi, .int .i64 tg.who, .string tg.mac, .int .i64 ba.author, .int .i64 ba.number, .slice ba.ta ba.txs.length ba.tc, .int .i64 he.author, .int .i64 he.round, .slice he.ra he.refs.length he.rc, .slice he.pa he.parents.length he.pc, .int .i64 ce.hdr.author, .int .i64 ce.hdr.round, .slice ce.hdr.ra ce.hdr.refs.length ce.hdr.rc, .slice ce.hdr.pa ce.hdr.parents.length ce.hdr.pc, .slice ce.va ce.votes.length ce.vc, .int .i64 bl.view, .int .i64 bl.qc.view, .string bl.qc.block, .slice bl.qc.va bl.qc.votes.length bl.qc.vc, .slice bl.ca bl.certs.length bl.cc, .int .i64 q.view, .string q.block, .slice q.va q.votes.length q.vc]
      have hBF := below_setRow hB5 (g := W.heap.size) (Nat.le_refl _) [.int .i64 k, .string dg, .int .i64 vi, .int .i64 tg.who, .string tg.mac, .int .i64 ba.author, .int .i64 ba.number, .slice ba.ta ba.txs.length ba.tc, .int .i64 he.author, .int .i64 he.round, .slice he.ra he.refs.length he.rc, .slice he.pa he.parents.length he.pc, .int .i64 ce.hdr.author, .int .i64 ce.hdr.round, .slice ce.hdr.ra ce.hdr.refs.length ce.hdr.rc, .slice ce.hdr.pa ce.hdr.parents.length ce.hdr.pc, .slice ce.va ce.votes.length ce.vc, .int .i64 bl.view, .int .i64 bl.qc.view, .string bl.qc.block, .slice bl.qc.va bl.qc.votes.length bl.qc.vc, .slice bl.ca bl.certs.length bl.cc, .int .i64 q.view, .string q.block, .slice q.va q.votes.length q.vc].toArray
      have hMF := hM5.keptM kr hfz
      have hfin : ∀ e, e = .returned (.tuple #[MsgM.v ⟨k, dg, vi, tg, ba, he, ce, bl, q⟩, .int .i64 0]) → GotMsg W out e _ := fun e h => ⟨⟨k, dg, vi, tg, ba, he, ce, bl, q⟩, 0, h, hMF, Or.inl ⟨rfl, ho3.out⟩, hlen, hBF⟩
      clear ho2 kr hBF hMF hM5 hB5 hR5
      go_wp2_with (first | refine Go.wpList_load_mid (by rfl) 39 _ (by rfl) rb 1 (by rfl) [.int .i64 k, .string dg, .int .i64 vi, .int .i64 tg.who, .string tg.mac, .int .i64 ba.author, .int .i64 ba.number, .slice ba.ta ba.txs.length ba.tc, .int .i64 he.author, .int .i64 he.round, .slice he.ra he.refs.length he.rc, .slice he.pa he.parents.length he.pc, .int .i64 ce.hdr.author, .int .i64 ce.hdr.round, .slice ce.hdr.ra ce.hdr.refs.length ce.hdr.rc, .slice ce.hdr.pa ce.hdr.parents.length ce.hdr.pc, .slice ce.va ce.votes.length ce.vc, .int .i64 bl.view, .int .i64 bl.qc.view, .string bl.qc.block, .slice bl.qc.va bl.qc.votes.length bl.qc.vc, .slice bl.ca bl.certs.length bl.cc, .int .i64 q.view, .string q.block, .slice q.va q.votes.length q.vc] _ hrg Tryz.underlying39 (by rfl) infoMsg9 ?_ | refine wpList_store_row (by rfl) 39 _ _ (by rfl) W.heap.size [.int .i64 k, .string dg, .int .i64 vi, .int .i64 tg.who, .string tg.mac, .int .i64 ba.author, .int .i64 ba.number, .slice ba.ta ba.txs.length ba.tc, .int .i64 he.author, .int .i64 he.round, .slice he.ra he.refs.length he.rc, .slice he.pa he.parents.length he.pc, .int .i64 ce.hdr.author, .int .i64 ce.hdr.round, .slice ce.hdr.ra ce.hdr.refs.length ce.hdr.rc, .slice ce.hdr.pa ce.hdr.parents.length ce.hdr.pc, .slice ce.va ce.votes.length ce.vc, .int .i64 bl.view, .int .i64 bl.qc.view, .string bl.qc.block, .slice bl.qc.va bl.qc.votes.length bl.qc.vc, .slice bl.ca bl.certs.length bl.cc, .int .i64 q.view, .string q.block, .slice q.va q.votes.length q.vc].toArray (by rfl) (by rfl) 39 _ hZ5 infoMsg9 (by rfl) hx1 ?_)
      refine bodyPost_ret (v := .tuple #[MsgM.v ⟨k, dg, vi, tg, ba, he, ce, bl, q⟩, .int .i64 0]) (results_row_tmp rfl _ _ W.heap.size [.int .i64 k, .string dg, .int .i64 vi, .int .i64 tg.who, .string tg.mac, .int .i64 ba.author, .int .i64 ba.number, .slice ba.ta ba.txs.length ba.tc, .int .i64 he.author, .int .i64 he.round, .slice he.ra he.refs.length he.rc, .slice he.pa he.parents.length he.pc, .int .i64 ce.hdr.author, .int .i64 ce.hdr.round, .slice ce.hdr.ra ce.hdr.refs.length ce.hdr.rc, .slice ce.hdr.pa ce.hdr.parents.length ce.hdr.pc, .slice ce.va ce.votes.length ce.vc, .int .i64 bl.view, .int .i64 bl.qc.view, .string bl.qc.block, .slice bl.qc.va bl.qc.votes.length bl.qc.vc, .slice bl.ca bl.certs.length bl.cc, .int .i64 q.view, .string q.block, .slice q.va q.votes.length q.vc] rfl (run_loadVar_row _ W.heap.size 39 39 _ (0, 0) _ hZF Tryz.underlying39 rfl infoMsg9) _ rfl) rfl ?_
      exact hfin _ rfl
end Go.Proofs.YtmngiekobmhpaaaGreat
