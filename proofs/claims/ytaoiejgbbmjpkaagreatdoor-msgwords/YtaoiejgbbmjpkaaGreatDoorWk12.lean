/- Texts as one: MsgCheck, CertEncode, FitMath, BatEncode, MsgEncField, MsgEncode. -/
import Derived.Test.YtaoiejgbbmjpkaaGreatDoorWk11
import Derived.Lib.OthersKept
import Derived.BigFrame
import Derived.Test.YtaoiejgbbmjpkaaGreatDoorWk06
import Derived.Test.YtaoiejgbbmjpkaaGreatDoorWk09
import Derived.Test.YtaoiejgbbmjpkaaGreatDoorWk07
import Derived.Lib.QuietBelow
import Derived.BigQuiet
import Derived.Test.YtaoiejgbbmjpkaaGreatDoorWk05
import Derived.Deep.AppendLies
/- What package msg's checkField and Check say; nothing old in memory is turned. -/
namespace Go.Proofs.YtaoiejgbbmjpkaaGreatDoor
open Go.RowKit
set_option linter.unusedVariables false

/-- What is wrong with a field that belongs to the kind. -/
def chkF9 (m : MsgD) (c : UInt8) : Nat := if c = 98 then checkB m.batch else if plainF m c = true then 0 else 3

/-- All fields. -/
def every9 : ByteArray := ⟨#[100, 118, 116, 98, 104, 99, 107, 113]⟩

theorem every9_mem (i : Nat) (h : i < every9.size) : every9[i] ∈ letters := by
  have h8 : i < 8 := h
  have : i = 0 ∨ i = 1 ∨ i = 2 ∨ i = 3 ∨ i = 4 ∨ i = 5 ∨ i = 6 ∨ i = 7 := by omega
  rcases this with rfl | rfl | rfl | rfl | rfl | rfl | rfl | rfl
  · exact (by decide : (100 : UInt8) ∈ letters)
  · exact (by decide : (118 : UInt8) ∈ letters)
  · exact (by decide : (116 : UInt8) ∈ letters)
  · exact (by decide : (98 : UInt8) ∈ letters)
  · exact (by decide : (104 : UInt8) ∈ letters)
  · exact (by decide : (99 : UInt8) ∈ letters)
  · exact (by decide : (107 : UInt8) ∈ letters)
  · exact (by decide : (113 : UInt8) ∈ letters)

theorem every9_bare {m : MsgD} (h : ∀ j (hj : j < every9.size), every9[j] ∈ fieldsK m.kind ∨ zeroF m every9[j]) : m.Bare :=
  ⟨h 0 (by decide), h 1 (by decide), h 2 (by decide), h 3 (by decide), h 4 (by decide), h 5 (by decide), h 6 (by decide), h 7 (by decide)⟩

theorem bare_every9 {m : MsgD} (h : m.Bare) : ∀ j (hj : j < every9.size), every9[j] ∈ fieldsK m.kind ∨ zeroF m every9[j] := by
  intro j hj
  obtain ⟨a, b, c, d, e, f, g, i⟩ := h
  have h8 : j < 8 := hj
  have : j = 0 ∨ j = 1 ∨ j = 2 ∨ j = 3 ∨ j = 4 ∨ j = 5 ∨ j = 6 ∨ j = 7 := by omega
  rcases this with rfl | rfl | rfl | rfl | rfl | rfl | rfl | rfl
  · exact a
  · exact b
  · exact c
  · exact d
  · exact e
  · exact f
  · exact g
  · exact i

theorem hdr_nil_plain {h : HdrD} (hz : h.Nil) : h.Plain := by
  rw [hz.eq]
  exact ⟨⟨by decide, by decide, ⟨by decide, by decide⟩, by decide, by decide⟩, (fun p hp => by cases hp), fun r hr => by cases hr⟩

theorem cert_nil_plain {c : CertD} (hz : c.Nil) : c.Plain := by
  rw [hz.eq]
  exact ⟨hdr_nil_plain ⟨rfl, rfl, rfl, rfl⟩, (fun t ht => by cases ht), by decide⟩

theorem fieldsK_b {k : Int} (h : 98 ∈ fieldsK k) : fieldsK k = [98] := by
  by_cases h0 : fieldsK k = []
  · rw [h0] at h; cases h
  rcases kind_cases h0 with rfl | rfl | rfl | rfl | rfl | rfl | rfl | rfl | rfl | rfl | rfl
  · rfl
  all_goals exact absurd h (by decide)

theorem okM_plain {m : MsgD} (hb : m.Bare) (h98 : 98 ∉ fieldsK m.kind) : okM m = true ↔ ∀ c ∈ fieldsK m.kind, plainF m c = true := by
  rw [okM_iff]
  obtain ⟨b1, b2, b3, b4, b5, b6, b7, b8⟩ := hb
  constructor
  · rintro ⟨o1, o2, o3, o4, o5, o6, o7⟩ c hc
    obtain ⟨_, hl⟩ := fieldsK_letters m.kind
    have hcl := hl c hc
    simp only [letters, List.mem_cons, List.not_mem_nil, or_false] at hcl
    rcases hcl with rfl | rfl | rfl | rfl | rfl | rfl | rfl | rfl
    · exact decide_eq_true o2
    · exact decide_eq_true (o3 hc)
    · exact decide_eq_true (o1 hc)
    · exact absurd hc h98
    · exact decide_eq_true o4
    · exact decide_eq_true o5
    · exact decide_eq_true (o7 hc)
    · exact decide_eq_true (o6 hc)
  · intro h
    refine ⟨fun hc => of_decide_eq_true (h 100 hc), ?_, fun hc => of_decide_eq_true (h 116 hc), ?_, ?_, fun hc => of_decide_eq_true (h 113 hc), fun hc => of_decide_eq_true (h 107 hc)⟩
    · rcases b2 with hc | hz
      · exact of_decide_eq_true (h 118 hc)
      · rw [hz]; exact ⟨by decide, by decide⟩
    · rcases b5 with hc | hz
      · exact of_decide_eq_true (h 104 hc)
      · exact hdr_nil_plain hz
    · rcases b6 with hc | hz
      · exact of_decide_eq_true (h 99 hc)
      · exact cert_nil_plain hz

/-- The first field that is wrong tells. -/
theorem chkM_first {m : MsgD} (hb : m.Bare) (i : Nat) (hi : i < (fieldsK m.kind).length) (h0 : ∀ j (hj : j < i), chkF9 m ((fieldsK m.kind)[j]'(by omega)) = 0) (h1 : chkF9 m (fieldsK m.kind)[i] ≠ 0) : chkM m = chkF9 m (fieldsK m.kind)[i] := by
  have hne : fieldsK m.kind ≠ [] := fun e => by rw [e] at hi; exact absurd hi (by simp)
  unfold chkM
  rw [if_neg hne, if_neg (fun h => h hb)]
  by_cases h98 : 98 ∈ fieldsK m.kind
  · rw [if_pos h98]
    have hc : (fieldsK m.kind)[i] = 98 := by
      have := List.getElem_mem hi
      have e := fieldsK_b h98
      have hm : ∀ c ∈ fieldsK m.kind, c = 98 := by rw [e]; simp
      exact hm _ this
    rw [hc]
    exact (if_pos rfl).symm
  · have hc : (fieldsK m.kind)[i] ≠ 98 := fun e => h98 (by rw [← e]; exact List.getElem_mem hi)
    rw [if_neg h98]
    unfold chkF9 at h1 ⊢
    rw [if_neg hc] at h1 ⊢
    by_cases hp : plainF m (fieldsK m.kind)[i] = true
    · rw [if_pos hp] at h1; exact absurd rfl h1
    · rw [if_neg hp, if_neg (fun h => hp ((okM_plain hb h98).1 h _ (List.getElem_mem hi)))]

theorem chkM_all {m : MsgD} (hb : m.Bare) (hne : fieldsK m.kind ≠ []) (h0 : ∀ c ∈ fieldsK m.kind, chkF9 m c = 0) : chkM m = 0 := by
  unfold chkM
  rw [if_neg hne, if_neg (fun h => h hb)]
  by_cases h98 : 98 ∈ fieldsK m.kind
  · rw [if_pos h98]
    have := h0 98 h98
    unfold chkF9 at this
    rw [if_pos rfl] at this
    exact this
  · rw [if_neg h98, if_pos]
    rw [okM_plain hb h98]
    intro c hc
    have := h0 c hc
    unfold chkF9 at this
    rw [if_neg (fun e => h98 (by rw [← e]; exact hc))] at this
    by_cases hp : plainF m c = true
    · exact hp
    · rw [if_neg hp] at this; cases this

/-- A whole row is loaded behind a guard that lets it. -/
theorem wpList_load_rowG {P : Program} {ops : Array Oper} {rest : List Oper} {o : Oper} {a : Act} {w : World} {Q : Exit → Act → World → Prop} (hw : Region.wanted o (yielded ops a.tmps) = true) (ty : TypeId) (x : Operand) (ho : o.op = .load ty x)
    (g : Nat) (hx : a.eval x = .pointer (some ⟨g, 0, none⟩)) (t : TypeId) (cs : Array Value) (fr : Nat × Nat) (d : TypeDesc) (hg : w.heap[g]? = some (.cells cs t fr))
    (hu : P.underlying ty = some d) (hd : (match d with | .struct _ | .array _ _ => true | _ => false) = true) (hi : (P.info? ty).map (·.size) = some cs.size)
    (h : wpList P ops Q rest (a.put o.dst (.agg cs)) w) : wpList P ops Q (o :: rest) a w :=
  BigFrame.wpList_want hw fun _ hK => wp_load_row ty x ho g hx t cs fr d hg hu hd hi (hK _ _ h)

set_option maxRecDepth 100000 in
set_option maxHeartbeats 4000000 in
theorem checkField_any (x : MsgM) (c : UInt8) (hc : c ∈ letters) (w : World) (hA : x.At w) (hn : x.Num) :
    Calls Tryz.prog 35 #[x.v, .int .i32 (c.toNat : Int)] w fun e w' => e = .returned (.int .i64 (chkF9 x.d c : Int)) ∧ Below w.heap.size w w' := by
  obtain ⟨k, dg, vi, tg, ba, he, ce, bl, q⟩ := x
  have hX := Arr.new w 39 [.int .i64 k, .string dg, .int .i64 vi, .int .i64 tg.who, .string tg.mac, .int .i64 ba.author, .int .i64 ba.number, .slice ba.ta ba.txs.length ba.tc, .int .i64 he.author, .int .i64 he.round, .slice he.ra he.refs.length he.rc, .slice he.pa he.parents.length he.pc, .int .i64 ce.hdr.author, .int .i64 ce.hdr.round, .slice ce.hdr.ra ce.hdr.refs.length ce.hdr.rc, .slice ce.hdr.pa ce.hdr.parents.length ce.hdr.pc, .slice ce.va ce.votes.length ce.vc, .int .i64 bl.view, .int .i64 bl.qc.view, .string bl.qc.block, .slice bl.qc.va bl.qc.votes.length bl.qc.vc, .slice bl.ca bl.certs.length bl.cc, .int .i64 q.view, .string q.block, .slice q.va q.votes.length q.vc]
  have hB := belowNew w (.cells [.int .i64 k, .string dg, .int .i64 vi, .int .i64 tg.who, .string tg.mac, .int .i64 ba.author, .int .i64 ba.number, .slice ba.ta ba.txs.length ba.tc, .int .i64 he.author, .int .i64 he.round, .slice he.ra he.refs.length he.rc, .slice he.pa he.parents.length he.pc, .int .i64 ce.hdr.author, .int .i64 ce.hdr.round, .slice ce.hdr.ra ce.hdr.refs.length ce.hdr.rc, .slice ce.hdr.pa ce.hdr.parents.length ce.hdr.pc, .slice ce.va ce.votes.length ce.vc, .int .i64 bl.view, .int .i64 bl.qc.view, .string bl.qc.block, .slice bl.qc.va bl.qc.votes.length bl.qc.vc, .slice bl.ca bl.certs.length bl.cc, .int .i64 q.view, .string q.block, .slice q.va q.votes.length q.vc].toArray 39)
  have hA1 := hA.below hB
  by_cases h98 : c = 98
  · subst h98
    have cB := batCheck_any ba.author ba.number ba.ta ba.txs ba.tc (w.alloc (.cells [.int .i64 k, .string dg, .int .i64 vi, .int .i64 tg.who, .string tg.mac, .int .i64 ba.author, .int .i64 ba.number, .slice ba.ta ba.txs.length ba.tc, .int .i64 he.author, .int .i64 he.round, .slice he.ra he.refs.length he.rc, .slice he.pa he.parents.length he.pc, .int .i64 ce.hdr.author, .int .i64 ce.hdr.round, .slice ce.hdr.ra ce.hdr.refs.length ce.hdr.rc, .slice ce.hdr.pa ce.hdr.parents.length ce.hdr.pc, .slice ce.va ce.votes.length ce.vc, .int .i64 bl.view, .int .i64 bl.qc.view, .string bl.qc.block, .slice bl.qc.va bl.qc.votes.length bl.qc.vc, .slice bl.ca bl.certs.length bl.cc, .int .i64 q.view, .string q.block, .slice q.va q.votes.length q.vc].toArray 39)) hA1.bat.txs.txs
    have hr : Hid (chkF9 (MsgM.d ⟨k, dg, vi, tg, ba, he, ce, bl, q⟩) 98 = checkB ⟨ba.author, ba.number, dl ba.txs⟩) := (if_pos rfl : _ = _)
    obtain ⟨out, hout⟩ : ∃ n : Nat, Hid (n = chkF9 (MsgM.d ⟨k, dg, vi, tg, ba, he, ce, bl, q⟩) 98) := ⟨_, rfl⟩
    rw [← hout.out]
    rw [← hr.out, ← hout.out] at cB
    unfold batV at cB
    unfold MsgM.v MsgM.c
    simp only
    clear hA hA1 hr hn
    obtain ⟨w1, hw1⟩ : ∃ q', w.alloc (.cells [.int .i64 k, .string dg, .int .i64 vi, .int .i64 tg.who, .string tg.mac, .int .i64 ba.author, .int .i64 ba.number, .slice ba.ta ba.txs.length ba.tc, .int .i64 he.author, .int .i64 he.round, .slice he.ra he.refs.length he.rc, .slice he.pa he.parents.length he.pc, .int .i64 ce.hdr.author, .int .i64 ce.hdr.round, .slice ce.hdr.ra ce.hdr.refs.length ce.hdr.rc, .slice ce.hdr.pa ce.hdr.parents.length ce.hdr.pc, .slice ce.va ce.votes.length ce.vc, .int .i64 bl.view, .int .i64 bl.qc.view, .string bl.qc.block, .slice bl.qc.va bl.qc.votes.length bl.qc.vc, .slice bl.ca bl.certs.length bl.cc, .int .i64 q.view, .string q.block, .slice q.va q.votes.length q.vc].toArray 39) = q' := ⟨_, rfl⟩
    rw [hw1] at hX hB cB
    have x5 := hX.cell (i := 5) rfl
    have x6 := hX.cell (i := 6) rfl
    have x7 := hX.cell (i := 7) rfl
    go_enter Tryz.func35, Tryz.ntmps35
    go_wp2_with fail
    refine cB.mono ?_
    rintro e w2 ⟨rfl, hb2⟩
    have hB2 := hB.trans (hb2.mono hB.size)
    clear cB hX hB hb2 x5 x6 x7 hw1
    go_wp2
    go_ret
    exact ⟨rfl, hB2⟩
  · have cP := isPlain_any ⟨k, dg, vi, tg, ba, he, ce, bl, q⟩ c hc h98 (w.alloc (.cells [.int .i64 k, .string dg, .int .i64 vi, .int .i64 tg.who, .string tg.mac, .int .i64 ba.author, .int .i64 ba.number, .slice ba.ta ba.txs.length ba.tc, .int .i64 he.author, .int .i64 he.round, .slice he.ra he.refs.length he.rc, .slice he.pa he.parents.length he.pc, .int .i64 ce.hdr.author, .int .i64 ce.hdr.round, .slice ce.hdr.ra ce.hdr.refs.length ce.hdr.rc, .slice ce.hdr.pa ce.hdr.parents.length ce.hdr.pc, .slice ce.va ce.votes.length ce.vc, .int .i64 bl.view, .int .i64 bl.qc.view, .string bl.qc.block, .slice bl.qc.va bl.qc.votes.length bl.qc.vc, .slice bl.ca bl.certs.length bl.cc, .int .i64 q.view, .string q.block, .slice q.va q.votes.length q.vc].toArray 39)) hA1 hn
    have hr : Hid (chkF9 (MsgM.d ⟨k, dg, vi, tg, ba, he, ce, bl, q⟩) c = if plainF (MsgM.d ⟨k, dg, vi, tg, ba, he, ce, bl, q⟩) c = true then 0 else 3) := (if_neg h98 : _ = _)
    have h98' : ((c.toNat : Int) == 98) = false := by
      rw [beq_eq_false_iff_ne]
      intro e
      exact h98 (UInt8.toNat_inj.1 (by show c.toNat = 98; omega))
    obtain ⟨out, hout⟩ : ∃ n : Nat, Hid (n = chkF9 (MsgM.d ⟨k, dg, vi, tg, ba, he, ce, bl, q⟩) c) := ⟨_, rfl⟩
    rw [← hout.out]
    rw [← hout.out] at hr
    obtain ⟨P, hP⟩ : ∃ b : Bool, b = plainF (MsgM.d ⟨k, dg, vi, tg, ba, he, ce, bl, q⟩) c := ⟨_, rfl⟩
    rw [← hP] at cP hr
    unfold MsgM.v MsgM.c at cP ⊢
    simp only at cP ⊢
    clear hA hA1 hn hP hout h98
    generalize (c.toNat : Int) = cn at *
    obtain ⟨w1, hw1⟩ : ∃ q', w.alloc (.cells [.int .i64 k, .string dg, .int .i64 vi, .int .i64 tg.who, .string tg.mac, .int .i64 ba.author, .int .i64 ba.number, .slice ba.ta ba.txs.length ba.tc, .int .i64 he.author, .int .i64 he.round, .slice he.ra he.refs.length he.rc, .slice he.pa he.parents.length he.pc, .int .i64 ce.hdr.author, .int .i64 ce.hdr.round, .slice ce.hdr.ra ce.hdr.refs.length ce.hdr.rc, .slice ce.hdr.pa ce.hdr.parents.length ce.hdr.pc, .slice ce.va ce.votes.length ce.vc, .int .i64 bl.view, .int .i64 bl.qc.view, .string bl.qc.block, .slice bl.qc.va bl.qc.votes.length bl.qc.vc, .slice bl.ca bl.certs.length bl.cc, .int .i64 q.view, .string q.block, .slice q.va q.votes.length q.vc].toArray 39) = q' := ⟨_, rfl⟩
    rw [hw1] at hX hB cP
    go_enter Tryz.func35, Tryz.ntmps35
    go_wp2_with (refine wpList_load_row (by rfl) 39 _ (by rfl) w.heap.size (by rfl) 39 _ (0, 0) _ hX Tryz.underlying39 (by rfl) infoMsg9 ?_)
    refine cP.mono ?_
    rintro e w2 ⟨⟨p, rfl, hp⟩, hb2⟩
    have hB2 := hB.trans (hb2.mono hB.size)
    clear cP hX hB hb2 hw1
    cases p
    case false =>
      have ho : Hid (out = 3) := by
        show _ = _
        rw [hr.out, if_neg (fun h => by have := hp.2 h; cases this)]
      clear hr hp
      go_wp2
      go_ret
      exact ⟨by rw [ho.out]; rfl, hB2⟩
    have ho : Hid (out = 0) := by
      show _ = _
      rw [hr.out, if_pos (hp.1 rfl)]
    clear hr hp
    go_wp2
    go_ret
    exact ⟨by rw [ho.out]; rfl, hB2⟩

set_option maxRecDepth 100000 in
set_option maxHeartbeats 8000000 in
theorem msgCheck_any (x : MsgM) (w : World) (hA : x.At w) (hn : x.Num) :
    Calls Tryz.prog 10 #[x.v] w fun e w' => e = .returned (.int .i64 (chkM x.d : Int)) ∧ Below w.heap.size w w' := by
  obtain ⟨k, dg, vi, tg, ba, he, ce, bl, q⟩ := x
  obtain ⟨out, hout⟩ : ∃ n : Nat, Hid (n = chkM (MsgM.d ⟨k, dg, vi, tg, ba, he, ce, bl, q⟩)) := ⟨_, rfl⟩
  rw [← hout.out]
  have hX := Arr.new w 39 [.int .i64 k, .string dg, .int .i64 vi, .int .i64 tg.who, .string tg.mac, .int .i64 ba.author, .int .i64 ba.number, .slice ba.ta ba.txs.length ba.tc, .int .i64 he.author, .int .i64 he.round, .slice he.ra he.refs.length he.rc, .slice he.pa he.parents.length he.pc, .int .i64 ce.hdr.author, .int .i64 ce.hdr.round, .slice ce.hdr.ra ce.hdr.refs.length ce.hdr.rc, .slice ce.hdr.pa ce.hdr.parents.length ce.hdr.pc, .slice ce.va ce.votes.length ce.vc, .int .i64 bl.view, .int .i64 bl.qc.view, .string bl.qc.block, .slice bl.qc.va bl.qc.votes.length bl.qc.vc, .slice bl.ca bl.certs.length bl.cc, .int .i64 q.view, .string q.block, .slice q.va q.votes.length q.vc]
  have hB := belowNew w (.cells [.int .i64 k, .string dg, .int .i64 vi, .int .i64 tg.who, .string tg.mac, .int .i64 ba.author, .int .i64 ba.number, .slice ba.ta ba.txs.length ba.tc, .int .i64 he.author, .int .i64 he.round, .slice he.ra he.refs.length he.rc, .slice he.pa he.parents.length he.pc, .int .i64 ce.hdr.author, .int .i64 ce.hdr.round, .slice ce.hdr.ra ce.hdr.refs.length ce.hdr.rc, .slice ce.hdr.pa ce.hdr.parents.length ce.hdr.pc, .slice ce.va ce.votes.length ce.vc, .int .i64 bl.view, .int .i64 bl.qc.view, .string bl.qc.block, .slice bl.qc.va bl.qc.votes.length bl.qc.vc, .slice bl.ca bl.certs.length bl.cc, .int .i64 q.view, .string q.block, .slice q.va q.votes.length q.vc].toArray 39)
  have cL := letters_any k
  have cR := fun c hc => containsRune_any (fieldsS k) c hc
  have cZ := fun c hc w1 => isZero_any ⟨k, dg, vi, tg, ba, he, ce, bl, q⟩ c hc w1
  have cF := fun c hc w1 h1 => checkField_any ⟨k, dg, vi, tg, ba, he, ce, bl, q⟩ c hc w1 h1 hn
  unfold MsgM.v MsgM.c at cZ cF ⊢
  simp only at cZ cF ⊢
  obtain ⟨w1, hw1⟩ : ∃ q', w.alloc (.cells [.int .i64 k, .string dg, .int .i64 vi, .int .i64 tg.who, .string tg.mac, .int .i64 ba.author, .int .i64 ba.number, .slice ba.ta ba.txs.length ba.tc, .int .i64 he.author, .int .i64 he.round, .slice he.ra he.refs.length he.rc, .slice he.pa he.parents.length he.pc, .int .i64 ce.hdr.author, .int .i64 ce.hdr.round, .slice ce.hdr.ra ce.hdr.refs.length ce.hdr.rc, .slice ce.hdr.pa ce.hdr.parents.length ce.hdr.pc, .slice ce.va ce.votes.length ce.vc, .int .i64 bl.view, .int .i64 bl.qc.view, .string bl.qc.block, .slice bl.qc.va bl.qc.votes.length bl.qc.vc, .slice bl.ca bl.certs.length bl.cc, .int .i64 q.view, .string q.block, .slice q.va q.votes.length q.vc].toArray 39) = q' := ⟨_, rfl⟩
  have hs1 : w1.heap.size = w.heap.size + 1 := by rw [← hw1, alloc_size]
  rw [hw1] at hX hB
  have x0 := hX.cell (i := 0) rfl
  have hK : Hid ((MsgM.d ⟨k, dg, vi, tg, ba, he, ce, bl, q⟩).kind = k) := rfl
  have hkl : (fieldsS k).data.toList = fieldsK k := rfl
  obtain ⟨own, hown⟩ : ∃ o, o = fieldsS k := ⟨_, rfl⟩
  rw [← hown] at cL cR hkl
  have HO : Hid (own = fieldsS k) := hown
  clear hown
  have HA : Hid (MsgM.At w ⟨k, dg, vi, tg, ba, he, ce, bl, q⟩) := hA
  clear hn hA
  go_enter Tryz.func10, Tryz.ntmps10
  go_wp2_with fail
  refine (cL _).mono ?_
  rintro e w2 ⟨rfl, hw2⟩
  have hX2 : Arr w2 w.heap.size 39 [.int .i64 k, .string dg, .int .i64 vi, .int .i64 tg.who, .string tg.mac, .int .i64 ba.author, .int .i64 ba.number, .slice ba.ta ba.txs.length ba.tc, .int .i64 he.author, .int .i64 he.round, .slice he.ra he.refs.length he.rc, .slice he.pa he.parents.length he.pc, .int .i64 ce.hdr.author, .int .i64 ce.hdr.round, .slice ce.hdr.ra ce.hdr.refs.length ce.hdr.rc, .slice ce.hdr.pa ce.hdr.parents.length ce.hdr.pc, .slice ce.va ce.votes.length ce.vc, .int .i64 bl.view, .int .i64 bl.qc.view, .string bl.qc.block, .slice bl.qc.va bl.qc.votes.length bl.qc.vc, .slice bl.ca bl.certs.length bl.cc, .int .i64 q.view, .string q.block, .slice q.va q.votes.length q.vc] := by rw [hw2]; exact hX
  have hB2 : Below w.heap.size w w2 := by rw [hw2]; exact hB
  have hs2 : w2.heap.size = w.heap.size + 1 := by rw [hw2]; exact hs1
  clear hX hB hs1 x0 hw2 hw1 cL
  cases hE : own.toList.isEmpty
  case true =>
    have ho : Hid (out = 5) := by
      show _ = _
      rw [hout.out]
      unfold chkM
      rw [if_pos]
      rw [hK.out, ← hkl, ← ByteArray.toList_eq]
      exact List.isEmpty_iff.1 hE
    clear hout cR cZ cF hX2 hs2 hkl HO
    go_wp2
    go_ret
    exact ⟨by rw [ho.out]; rfl, hB2⟩
  have Hne : Hid (fieldsK k ≠ []) := fun e => by
    have : own.toList.isEmpty = true := by rw [ByteArray.toList_eq, hkl, e]; rfl
    rw [hE] at this
    cases this
  have hXi := hX2.alloc (.stringIter every9 0)
  have hBi := hB2.alloc hB2.size (.stringIter every9 0)
  have hIt : (w2.alloc (.stringIter every9 0)).heap[w.heap.size + 1]? = some (.stringIter every9 0) := by rw [← hs2]; exact World.iter_heap w2 every9 0
  clear hX2 hB2
  go_wp2
  go_loopw [5] (fun v5 wr => ∃ i : Nat, i ≤ every9.size ∧ wr.heap[w.heap.size + 1]? = some (.stringIter every9 i) ∧ Arr wr w.heap.size 39 [.int .i64 k, .string dg, .int .i64 vi, .int .i64 tg.who, .string tg.mac, .int .i64 ba.author, .int .i64 ba.number, .slice ba.ta ba.txs.length ba.tc, .int .i64 he.author, .int .i64 he.round, .slice he.ra he.refs.length he.rc, .slice he.pa he.parents.length he.pc, .int .i64 ce.hdr.author, .int .i64 ce.hdr.round, .slice ce.hdr.ra ce.hdr.refs.length ce.hdr.rc, .slice ce.hdr.pa ce.hdr.parents.length ce.hdr.pc, .slice ce.va ce.votes.length ce.vc, .int .i64 bl.view, .int .i64 bl.qc.view, .string bl.qc.block, .slice bl.qc.va bl.qc.votes.length bl.qc.vc, .slice bl.ca bl.certs.length bl.cc, .int .i64 q.view, .string q.block, .slice q.va q.votes.length q.vc] ∧ Below w.heap.size w wr ∧ Hid (∀ j (hj : j < every9.size), j < i → every9[j] ∈ fieldsK k ∨ zeroF (MsgM.d ⟨k, dg, vi, tg, ba, he, ce, bl, q⟩) every9[j])) (fun _ wr => every9.size - wr.iterPos (w.heap.size + 1))
  case atStart => exact ⟨0, Nat.zero_le _, by first | exact hIt | (rw [hs2] at hIt; exact hIt), hXi, hBi, fun j hj h => absurd h (by omega)⟩
  case round =>
    clear hXi hBi hIt
    obtain ⟨i, hi8, hit, hX, hb, HF⟩ := hrel
    have hlt2 : w.heap.size + 1 < wr.heap.size := (Array.getElem?_eq_some_iff.1 hit).1
    by_cases hi : i < every9.size
    · have hmem := every9_mem i hi
      have hasc : (every9[i]).toNat < 128 := by
        have : ∀ c ∈ letters, c.toNat < 128 := by decide
        exact this _ hmem
      have hnx : ∀ ty, (Instr.next (.pointer (some ⟨w.heap.size + 1, 0, none⟩)) true ty).run Tryz.prog wr = _ := fun ty => Lib.run_next_ascii_at wr (w.heap.size + 1) every9 i ty hit hi hasc
      have hit2 := Lib.iterAt_heap wr (w.heap.size + 1) every9 i (i + 1) hit
      have hX2 : Arr (wr.iterAt (w.heap.size + 1) every9 (i + 1)) w.heap.size 39 [.int .i64 k, .string dg, .int .i64 vi, .int .i64 tg.who, .string tg.mac, .int .i64 ba.author, .int .i64 ba.number, .slice ba.ta ba.txs.length ba.tc, .int .i64 he.author, .int .i64 he.round, .slice he.ra he.refs.length he.rc, .slice he.pa he.parents.length he.pc, .int .i64 ce.hdr.author, .int .i64 ce.hdr.round, .slice ce.hdr.ra ce.hdr.refs.length ce.hdr.rc, .slice ce.hdr.pa ce.hdr.parents.length ce.hdr.pc, .slice ce.va ce.votes.length ce.vc, .int .i64 bl.view, .int .i64 bl.qc.view, .string bl.qc.block, .slice bl.qc.va bl.qc.votes.length bl.qc.vc, .slice bl.ca bl.certs.length bl.cc, .int .i64 q.view, .string q.block, .slice q.va q.votes.length q.vc] := (Lib.iterAt_other wr (w.heap.size + 1) w.heap.size every9 (i + 1) (by omega)).trans hX
      have hb2 := Lib.below_iterAt hb (k := w.heap.size + 1) (by omega) every9 (i + 1)
      obtain ⟨c, hcd⟩ : ∃ c, c = every9[i] := ⟨_, rfl⟩
      rw [← hcd] at hmem hnx
      have cR1 := cR c hmem
      have cZ1 := cZ c hmem
      have HM : Hid (every9.size - (i + 1) < every9.size - World.iterPos wr (w.heap.size + 1)) := by
        show _ < _
        simp only [World.iterPos, hit]
        omega
      have HN : Hid ((c ∈ fieldsK k ∨ zeroF (MsgM.d ⟨k, dg, vi, tg, ba, he, ce, bl, q⟩) c) → ∀ j (hj : j < every9.size), j < i + 1 → every9[j] ∈ fieldsK k ∨ zeroF (MsgM.d ⟨k, dg, vi, tg, ba, he, ce, bl, q⟩) every9[j]) := by
        intro h j hj hji
        by_cases hj2 : j < i
        · exact HF.out j hj hj2
        · have : j = i := by omega
          subst this
          rw [← hcd]
          exact h
      have HZ : Hid (¬ (c ∈ fieldsK k ∨ zeroF (MsgM.d ⟨k, dg, vi, tg, ba, he, ce, bl, q⟩) c) → out = 3) := by
        intro h
        rw [hout.out]
        unfold chkM
        rw [if_neg (show ¬ fieldsK (MsgM.d ⟨k, dg, vi, tg, ba, he, ce, bl, q⟩).kind = [] from Hne.out), if_pos]
        intro hbare
        exact h (by rw [hcd]; exact bare_every9 hbare i hi)
      clear HF hcd hasc hit hX hb
      obtain ⟨w3, hw3⟩ : ∃ q', wr.iterAt (w.heap.size + 1) every9 (i + 1) = q' := ⟨_, rfl⟩
      rw [hw3] at hit2 hX2 hb2 hnx
      have hlt3 : w.heap.size + 1 < w3.heap.size := (Array.getElem?_eq_some_iff.1 hit2).1
      clear hw3
      go_wp2_with fail
      refine (cR1 _).mono ?_
      rintro e w4 ⟨rfl, hw4⟩
      rw [← hw4] at hit2 hX2 hb2 hlt3
      clear hw4 cR1
      by_cases hin : c ∈ own.data.toList
      · have hF2 : Hid (∀ j (hj : j < every9.size), j < i + 1 → every9[j] ∈ fieldsK k ∨ zeroF (MsgM.d ⟨k, dg, vi, tg, ba, he, ce, bl, q⟩) every9[j]) := HN.out (Or.inl (by rw [← hkl]; exact hin))
        rw [decide_eq_true hin]
        clear HN HZ hnx
        go_wp2
        go_roundw
        case rel => exact ⟨i + 1, by omega, hit2, hX2, hb2, hF2⟩
        case measure =>
          have := HM.out
          simp only [World.iterPos, hit2] at this ⊢
          omega
      · rw [decide_eq_false hin]
        have hin' : ¬ c ∈ fieldsK k := by rw [← hkl]; exact hin
        go_wp2_with (refine wpList_load_rowG (by rfl) 39 _ (by rfl) w.heap.size (by rfl) 39 _ (0, 0) _ hX2 Tryz.underlying39 (by rfl) infoMsg9 ?_)
        refine (cZ1 _).mono ?_
        rintro e w5 ⟨⟨p, rfl, hp⟩, hb5⟩
        have hX5 := hX2.below hb5 hX2.lt
        have hB5 := hb2.trans (hb5.mono hb2.size)
        have hit5 : w5.heap[w.heap.size + 1]? = some (.stringIter every9 (i + 1)) := by rw [hb5.block _ hlt3]; exact hit2
        clear cZ1 hX2 hb2 hb5 hit2 hnx
        cases p
        case false =>
          have ho : Hid (out = 3) := HZ.out (fun h => h.elim hin' (fun h => by have := hp.2 h; cases this))
          clear HN HZ hp
          go_wp2
          go_ret
          exact ⟨by rw [ho.out]; rfl, hB5⟩
        have hF2 : Hid (∀ j (hj : j < every9.size), j < i + 1 → every9[j] ∈ fieldsK k ∨ zeroF (MsgM.d ⟨k, dg, vi, tg, ba, he, ce, bl, q⟩) every9[j]) := HN.out (Or.inr (hp.1 rfl))
        clear HN HZ hp
        go_wp2
        go_roundw
        case rel => exact ⟨i + 1, by omega, hit5, hX5, hB5, hF2⟩
        case measure =>
          have := HM.out
          simp only [World.iterPos, hit5] at this ⊢
          omega
    · have hbare : Hid ((MsgM.d ⟨k, dg, vi, tg, ba, he, ce, bl, q⟩).Bare) := every9_bare (fun j hj => HF.out j hj (by omega))
      have hnx : ∀ ty, (Instr.next (.pointer (some ⟨w.heap.size + 1, 0, none⟩)) true ty).run Tryz.prog wr = _ := fun ty => Lib.run_next_end_at wr (w.heap.size + 1) every9 i ty hit hi
      have hXi := hX.alloc (.stringIter own 0)
      have hBi := hb.alloc hb.size (.stringIter own 0)
      have hIt : (wr.alloc (.stringIter own 0)).heap[wr.heap.size]? = some (.stringIter own 0) := World.iter_heap wr own 0
      have HA1 : Hid (MsgM.At wr ⟨k, dg, vi, tg, ba, he, ce, bl, q⟩) := HA.out.below hb
      obtain ⟨B, hBd⟩ : ∃ B, wr.heap.size = B := ⟨_, rfl⟩
      rw [hBd] at hIt
      have hwB : w.heap.size < B := by omega
      have hos : own.size = (fieldsK k).length := by rw [← hkl]; rfl
      go_wp2
      go_loopw [7, 8] (fun v7 v8 wr => ∃ i : Nat, i ≤ own.size ∧ wr.heap[B]? = some (.stringIter own i) ∧ Arr wr w.heap.size 39 [.int .i64 k, .string dg, .int .i64 vi, .int .i64 tg.who, .string tg.mac, .int .i64 ba.author, .int .i64 ba.number, .slice ba.ta ba.txs.length ba.tc, .int .i64 he.author, .int .i64 he.round, .slice he.ra he.refs.length he.rc, .slice he.pa he.parents.length he.pc, .int .i64 ce.hdr.author, .int .i64 ce.hdr.round, .slice ce.hdr.ra ce.hdr.refs.length ce.hdr.rc, .slice ce.hdr.pa ce.hdr.parents.length ce.hdr.pc, .slice ce.va ce.votes.length ce.vc, .int .i64 bl.view, .int .i64 bl.qc.view, .string bl.qc.block, .slice bl.qc.va bl.qc.votes.length bl.qc.vc, .slice bl.ca bl.certs.length bl.cc, .int .i64 q.view, .string q.block, .slice q.va q.votes.length q.vc] ∧ Below w.heap.size w wr ∧ Hid (∀ j (hj : j < (fieldsK k).length), j < i → chkF9 (MsgM.d ⟨k, dg, vi, tg, ba, he, ce, bl, q⟩) (fieldsK k)[j] = 0)) (fun _ _ wr => own.size - wr.iterPos B)
      case atStart => exact ⟨0, Nat.zero_le _, hIt, hXi, hBi, fun j hj h => absurd h (by omega)⟩
      case round =>
        clear hXi hBi hIt hX hb hnx hit hlt2 HF
        obtain ⟨j, hj8, hit, hX, hb, HF⟩ := hrel
        have hlt2 : B < wr.heap.size := (Array.getElem?_eq_some_iff.1 hit).1
        by_cases hj : j < own.size
        · have hjl : j < (fieldsK k).length := by omega
          have hel : own[j] = (fieldsK k)[j] := by
            have hown := HO.out
            subst hown
            rfl
          have hmem : own[j] ∈ letters := by rw [hel]; exact (fieldsK_letters k).2 _ (List.getElem_mem hjl)
          have hasc : (own[j]).toNat < 128 := by
            have : ∀ c ∈ letters, c.toNat < 128 := by decide
            exact this _ hmem
          have hnx : ∀ ty, (Instr.next (.pointer (some ⟨B, 0, none⟩)) true ty).run Tryz.prog wr = _ := fun ty => Lib.run_next_ascii_at wr B own j ty hit hj hasc
          have hit2 := Lib.iterAt_heap wr B own j (j + 1) hit
          have hX2 : Arr (wr.iterAt B own (j + 1)) w.heap.size 39 [.int .i64 k, .string dg, .int .i64 vi, .int .i64 tg.who, .string tg.mac, .int .i64 ba.author, .int .i64 ba.number, .slice ba.ta ba.txs.length ba.tc, .int .i64 he.author, .int .i64 he.round, .slice he.ra he.refs.length he.rc, .slice he.pa he.parents.length he.pc, .int .i64 ce.hdr.author, .int .i64 ce.hdr.round, .slice ce.hdr.ra ce.hdr.refs.length ce.hdr.rc, .slice ce.hdr.pa ce.hdr.parents.length ce.hdr.pc, .slice ce.va ce.votes.length ce.vc, .int .i64 bl.view, .int .i64 bl.qc.view, .string bl.qc.block, .slice bl.qc.va bl.qc.votes.length bl.qc.vc, .slice bl.ca bl.certs.length bl.cc, .int .i64 q.view, .string q.block, .slice q.va q.votes.length q.vc] := (Lib.iterAt_other wr B w.heap.size own (j + 1) (by omega)).trans hX
          have hb2 := Lib.below_iterAt hb (k := B) (by omega) own (j + 1)
          have HM : Hid (own.size - (j + 1) < own.size - World.iterPos wr B) := by
            show _ < _
            simp only [World.iterPos, hit]
            omega
          obtain ⟨c, hcd⟩ : ∃ c, c = own[j] := ⟨_, rfl⟩
          rw [← hcd] at hmem hnx hel
          have cF1 := fun w1 h1 => cF c hmem w1 h1
          obtain ⟨n, hnd⟩ : ∃ n : Nat, n = chkF9 (MsgM.d ⟨k, dg, vi, tg, ba, he, ce, bl, q⟩) c := ⟨_, rfl⟩
          rw [← hnd] at cF1
          have HN : Hid (n = 0 → ∀ i (hi : i < (fieldsK k).length), i < j + 1 → chkF9 (MsgM.d ⟨k, dg, vi, tg, ba, he, ce, bl, q⟩) (fieldsK k)[i] = 0) := by
            intro h i hi hij
            by_cases hj2 : i < j
            · exact HF.out i hi hj2
            · have : i = j := by omega
              subst this
              rw [← hel, ← hnd]
              exact h
          have HZ : Hid (n ≠ 0 → out = n) := by
            intro h
            rw [hout.out, hnd, hel]
            exact chkM_first hbare.out j hjl (fun i hi => HF.out i (by omega) hi) (by rw [hnd, hel] at h; exact h)
          have hAt : MsgM.At _ _ := HA.out.below hb2
          clear HF hcd hasc hit hX hb hel hnd
          obtain ⟨w3, hw3⟩ : ∃ q', wr.iterAt B own (j + 1) = q' := ⟨_, rfl⟩
          rw [hw3] at hit2 hX2 hb2 hnx hAt
          have hlt3 : B < w3.heap.size := (Array.getElem?_eq_some_iff.1 hit2).1
          clear hw3
          go_wp2_with (refine wpList_load_row (by rfl) 39 _ (by rfl) w.heap.size (by rfl) 39 _ (0, 0) _ hX2 Tryz.underlying39 (by rfl) infoMsg9 ?_)
          refine (cF1 _ hAt).mono ?_
          rintro e w5 ⟨rfl, hb5⟩
          have hX5 := hX2.below hb5 hX2.lt
          have hB5 := hb2.trans (hb5.mono hb2.size)
          have hit5 : w5.heap[B]? = some (.stringIter own (j + 1)) := by rw [hb5.block _ hlt3]; exact hit2
          clear cF1 hX2 hb2 hb5 hit2 hnx hAt
          by_cases hz : n = 0
          · subst hz
            have hF2 : Hid (∀ i (hi : i < (fieldsK k).length), i < j + 1 → chkF9 (MsgM.d ⟨k, dg, vi, tg, ba, he, ce, bl, q⟩) (fieldsK k)[i] = 0) := HN.out rfl
            clear HN HZ
            go_wp2
            go_roundw
            case rel => exact ⟨j + 1, by omega, hit5, hX5, hB5, hF2⟩
            case measure =>
              have := HM.out
              simp only [World.iterPos, hit5] at this ⊢
              omega
          · have ho : Hid (out = n) := HZ.out hz
            have hz' : ((n : Int) != 0) = true := by rw [bne_iff_ne]; omega
            clear HN HZ hz
            go_wp2
            go_ret
            exact ⟨by rw [ho.out]; rfl, hB5⟩
        · have ho : Hid (out = 0) := by
            show _ = _
            rw [hout.out]
            refine chkM_all hbare.out Hne.out (fun c hc => ?_)
            obtain ⟨i, hi, rfl⟩ := List.getElem_of_mem hc
            exact HF.out i hi (by have : i < (fieldsK k).length := hi; omega)
          have hnx : ∀ ty, (Instr.next (.pointer (some ⟨B, 0, none⟩)) true ty).run Tryz.prog wr = _ := fun ty => Lib.run_next_end_at wr B own j ty hit hj
          clear HF
          go_wp2
          go_ret
          exact ⟨by rw [ho.out]; rfl, hb⟩
end Go.Proofs.YtaoiejgbbmjpkaaGreatDoor

/- What cert.Encode does; nothing old in memory is turned. -/
namespace Go.Proofs.YtaoiejgbbmjpkaaGreatDoor
open Go.RowKit Go.Sort
set_option linter.unusedVariables false

/-- What Encode asks of a certificate. -/
structure CertM.Fit (x : CertM) : Prop where
  hdr : x.hdr.Fit
  few : x.votes.length ≤ 1000000000
  mac : ∀ t ∈ x.votes, t.mac.size ≤ 140737488351232
  len : (tagsB x.votes).length ≤ 140737488355328
end Go.Proofs.YtaoiejgbbmjpkaaGreatDoor

/- What can be read is short: headers, tags, quorums' certificates, blocks. -/
namespace Go.Proofs.YtaoiejgbbmjpkaaGreatDoor
open Go.RowKit
set_option linter.unusedVariables false


theorem flat_tags_fit : ∀ (l : List TagD), (∀ t ∈ l, t.Fit) → ((l.map tagB).flatMap txt).length ≤ 34 * l.length
  | [], _ => by simp
  | t :: l, h => by
    have ih := flat_tags_fit l (fun x hx => h x (by simp [hx]))
    have h1 := txt_len_le (tagB t)
    have h2 := tagB_len (h t (by simp))
    simp only [List.map_cons, List.flatMap_cons, List.length_append, List.length_cons] at ih ⊢
    omega

theorem refB_fit {r : RefD} (h : r.Fit) : (refB r).length ≤ 65800 := by
  have h1 := txt_len_le r.digest.data.toList
  have h2 := flat_tags_fit r.acks h.all
  have h3 := goInt_length ((r.acks.map tagB).length : Int)
  have h4 := h.few
  have h5 := h.dig
  have h6 : r.digest.data.toList.length = r.digest.size := by simp
  rw [refB, List.length_append, tagsB, lst, List.length_append]
  omega

theorem flat_refs_fit : ∀ (l : List RefD), (∀ r ∈ l, r.Fit) → (l.flatMap refB).length ≤ 65800 * l.length
  | [], _ => by simp
  | r :: l, h => by
    have ih := flat_refs_fit l (fun x hx => h x (by simp [hx]))
    have h1 := refB_fit (h r (by simp))
    simp only [List.flatMap_cons, List.length_append, List.length_cons] at ih ⊢
    omega

theorem flat_strs_fit : ∀ (l : List ByteArray), (∀ p ∈ l, p.size ≤ 65536) → ((bl l).flatMap txt).length ≤ 65545 * l.length
  | [], _ => by simp [bl]
  | p :: l, h => by
    have ih := flat_strs_fit l (fun x hx => h x (by simp [hx]))
    have h1 := txt_len_le p.data.toList
    have h2 := h p (by simp)
    have h6 : p.data.toList.length = p.size := by simp
    have e : (bl (p :: l)).flatMap txt = txt p.data.toList ++ (bl l).flatMap txt := by simp [bl]
    rw [e, List.length_append, List.length_cons]
    omega

theorem encH_fit {h : HdrD} (hf : h.Fit) : (encH h).length ≤ 1000000 := by
  have h1 := flat_refs_fit h.refs hf.refs
  have h2 := flat_strs_fit h.parents hf.pz
  have h3 := hf.few
  have h4 := hf.ps
  have g0 := goInt_length h.author
  have g1 := goInt_length h.round
  have g2 := goInt_length (h.refs.length : Int)
  have g3 := goInt_length ((bl h.parents).length : Int)
  unfold encH lst
  simp only [List.length_append]
  omega

theorem hdrFit_of {x : HdrM} (h : x.d.Fit) : x.Fit := by
  have h1 : x.refs.length ≤ 4 := by have := h.few; simpa [HdrM.d, rd] using this
  have h2 : x.parents.length ≤ 7 := h.ps
  have h3 : ∀ r ∈ x.refs, r.d.Fit := fun r hr => h.refs r.d (List.mem_map.2 ⟨r, hr, rfl⟩)
  refine ⟨by omega, by omega, fun r hr => ?_, fun r hr t ht => ?_, by have := encH_fit h; omega⟩
  · have : r.acks.length ≤ 7 := (h3 r hr).few
    omega
  · have : t.mac.size = 16 := ((h3 r hr).all t ht).mac
    omega

theorem fit_lens {x : HdrM} (h : x.d.Fit) : x.refs.length ≤ 4 ∧ x.parents.length ≤ 7 ∧ ∀ r ∈ x.refs, r.acks.length ≤ 7 :=
  ⟨by have := h.few; simpa [HdrM.d, rd] using this, h.ps, fun r hr => (h.refs r.d (List.mem_map.2 ⟨r, hr, rfl⟩)).few⟩
theorem tagsBulk_fit : ∀ (l : List TagD), (∀ t ∈ l, t.Fit) → tagsBulk l ≤ 17 * l.length
  | [], _ => by simp [tagsBulk]
  | t :: l, h => by
    have ih := tagsBulk_fit l (fun x hx => h x (by simp [hx]))
    have h1 := (h t (by simp)).mac
    simp only [tagsBulk, List.map_cons, List.sum_cons, List.length_cons] at ih ⊢
    omega

theorem tagsB_fit8 {l : List TagD} (h : ∀ t ∈ l, t.Fit) (hl : l.length ≤ 7) : (tagsB l).length ≤ 2200 := by
  have h1 := tagsB_len_le l
  have h2 := tagsBulk_fit l h
  omega

theorem flat_strs8 (m : Nat) : ∀ (l : List ByteArray), (∀ p ∈ l, p.size ≤ m) → ((bl l).flatMap txt).length ≤ (m + 9) * l.length
  | [], _ => by simp [bl]
  | p :: l, h => by
    have ih := flat_strs8 m l (fun x hx => h x (by simp [hx]))
    have h1 := h p (by simp)
    have h2 := txt_len_le p.data.toList
    have h3 : p.data.toList.length = p.size := by simp
    have e : bl (p :: l) = p.data.toList :: bl l := rfl
    rw [e, List.flatMap_cons, List.length_append, List.length_cons, Nat.mul_add, Nat.mul_one]
    omega

theorem lst_strs8 {l : List ByteArray} (m : Nat) (h : ∀ p ∈ l, p.size ≤ m) : (lst (bl l)).length ≤ 9 + (m + 9) * l.length := by
  have h1 := flat_strs8 m l h
  have h2 := goInt_length ((bl l).length : Int)
  rw [lst, List.length_append]
  omega

theorem qcEnc_of {x : QcM} (h : x.d.Fit) : x.Enc := by
  have h1 : x.block.size ≤ 65536 := h.blk
  have h2 : x.votes.length ≤ 7 := h.few
  have h3 : ∀ t ∈ x.votes, t.Fit := h.all
  exact ⟨by omega, by omega, fun t ht => by have := (h3 t ht).mac; omega, by have := tagsB_fit8 h3 h2; omega⟩

theorem blkEnc_of {x : BlkM} (h : x.d.Fit) : x.Enc := by
  have h1 : x.certs.length ≤ 8 := h.few
  have h2 : ∀ c ∈ x.certs, c.size ≤ 65536 := h.all
  refine ⟨qcEnc_of (x := x.qc) h.qc, by omega, ?_⟩
  have := lst_strs8 65536 h2
  have h3 : (65536 + 9) * x.certs.length ≤ (65536 + 9) * 8 := Nat.mul_le_mul_left _ h1
  omega

theorem encQ_right {q : QcD} (h : q.Fit) (hb : q.block.size = 32) : (encQ q).length ≤ 2300 := by
  have h1 := goInt_length q.view
  have h2 := txt_len_le q.block.data.toList
  have h3 : q.block.data.toList.length = q.block.size := by simp
  have h4 := tagsB_fit8 h.all h.few
  unfold encQ
  simp only [List.length_append]
  omega
end Go.Proofs.YtaoiejgbbmjpkaaGreatDoor

/- What batch.Encode does; nothing old in memory is turned. -/
namespace Go.Proofs.YtaoiejgbbmjpkaaGreatDoor
open Go.RowKit Go.Sort
set_option linter.unusedVariables false

/-- A batch's bytes, or none. -/
def encBB (b : BatD) : ByteArray := if checkB b = 0 then ⟨(encBat b).toArray⟩ else ⟨#[]⟩

/-- The members' bytes. -/
def memB (l : List TxM) : List ByteArray := (dl l).map (fun d => ⟨(encL d).toArray⟩)
end Go.Proofs.YtaoiejgbbmjpkaaGreatDoor

/- What package msg's encodeField does, letter by letter; nothing old in memory is turned. -/
namespace Go.Proofs.YtaoiejgbbmjpkaaGreatDoor
open Go.RowKit
set_option linter.unusedVariables false

theorem cert_plain_fit {x : CertM} (h : x.d.Plain) : x.Fit :=
  ⟨hdrFit_of (hdr_plain_fit h.1), by have : x.votes.length ≤ 7 := h.2.2; omega, fun t ht => by have := (h.2.1 t ht).2.2; omega, by have := tagsB_fit8 (fun t ht => (h.2.1 t ht).fit) h.2.2; show (tagsB x.votes).length ≤ _; have e : (tagsB x.d.votes).length ≤ 2200 := this; exact Nat.le_trans e (by decide)⟩

theorem qc_plain_fit {x : QcD} (h : x.Plain) : x.Fit := ⟨h.1.1, h.1.2, by rw [h.2.1]; decide, h.2.2.2, fun t ht => (h.2.2.1 t ht).fit⟩

theorem blk_plain_fit {x : BlkD} (h : x.Plain) : x.Fit := ⟨h.1.1, h.1.2, qc_plain_fit h.2.1, by have := encQ_right (qc_plain_fit h.2.1) h.2.1.2.1; omega, h.2.2.1, fun c hc => by rw [h.2.2.2 c hc]; decide⟩

/-- What encodeField asks of the field. -/
def FieldM (x : MsgM) (c : UInt8) : Prop :=
  if c = 118 then True else if c = 116 then tagOk x.tag else if c = 100 then x.digest.size ≤ 65536 else if c = 98 then checkB x.bat.d = 0 else if c = 104 then x.hdr.Fit else if c = 99 then x.cert.Fit else if c = 107 then x.blk.Enc else x.qc.Enc

theorem right_field {x : MsgM} (h : chkM x.d = 0) : ∀ c ∈ fieldsK x.kind, FieldM x c := by
  intro c hc
  obtain ⟨hne, hb, h98, hok⟩ := chkM_parts h
  have hcl := (fieldsK_letters x.kind).2 c hc
  simp only [letters, List.mem_cons, List.not_mem_nil, or_false] at hcl
  have ok : c ≠ 98 → x.d.Ok := fun hn => hok (batch_alone hc hn)
  rcases hcl with rfl | rfl | rfl | rfl | rfl | rfl | rfl | rfl
  · exact trivial
  · exact (ok (by decide)).tag hc
  · have : x.digest.size = 32 := (ok (by decide)).dig hc
    show x.digest.size ≤ 65536
    omega
  · exact h98 hc
  · exact hdrFit_of (hdr_plain_fit (ok (by decide)).hdr)
  · exact cert_plain_fit (ok (by decide)).cert
  · exact blkEnc_of (blk_plain_fit ((ok (by decide)).blk hc))
  · exact qcEnc_of (qc_plain_fit ((ok (by decide)).qc hc))
end Go.Proofs.YtaoiejgbbmjpkaaGreatDoor

/- What package msg's Encode does; nothing old in memory is turned. -/
namespace Go.Proofs.YtaoiejgbbmjpkaaGreatDoor
open Go.RowKit
set_option linter.unusedVariables false

/-- A message's bytes, if it is right. -/
def encMB (m : MsgD) : ByteArray := if chkM m = 0 then ⟨(encM m).toArray⟩ else ⟨#[]⟩

theorem fieldsK_len (k : Int) : (fieldsK k).length ≤ 3 := by
  by_cases h : fieldsK k = []
  · rw [h]; simp
  · rcases kind_cases h with rfl | rfl | rfl | rfl | rfl | rfl | rfl | rfl | rfl | rfl | rfl <;> decide

/-- A right message's fields are short. -/
theorem right_len {m : MsgD} (h : chkM m = 0) : ∀ c ∈ fieldsK m.kind, (fieldB m c).length ≤ 1100000 := by
  intro c hc
  obtain ⟨hne, hb, h98, hok⟩ := chkM_parts h
  have hcl := (fieldsK_letters m.kind).2 c hc
  simp only [letters, List.mem_cons, List.not_mem_nil, or_false] at hcl
  have ok : c ≠ 98 → m.Ok := fun hn => hok (batch_alone hc hn)
  rcases hcl with rfl | rfl | rfl | rfl | rfl | rfl | rfl | rfl
  · show (goInt m.view).length ≤ _
    have := goInt_length m.view
    omega
  · show (tagsB [m.tag]).length ≤ _
    have := tagsB_fit8 (l := [m.tag]) (fun t ht => by rw [List.mem_singleton.1 ht]; exact ((ok (by decide)).tag hc).fit) (by simp)
    omega
  · show (txt m.digest.data.toList).length ≤ _
    have h1 : m.digest.size = 32 := (ok (by decide)).dig hc
    have h2 := txt_len_le m.digest.data.toList
    have h3 : m.digest.data.toList.length = m.digest.size := by simp
    omega
  · show (txt (encBat m.batch)).length ≤ _
    have h1 := encBat_len (h98 hc)
    have h2 := txt_len_le (encBat m.batch)
    omega
  · show (txt (encH m.header)).length ≤ _
    have h1 := encH_fit (hdr_plain_fit (ok (by decide)).hdr)
    have h2 := txt_len_le (encH m.header)
    omega
  · show (txt (encC m.cert)).length ≤ _
    have hp := (ok (by decide)).cert
    have h1 := encH_fit (hdr_plain_fit hp.1)
    have h2 := txt_len_le (encC m.cert)
    have h3 := txt_len_le (encH m.cert.header)
    have h4 := tagsB_fit8 (fun t ht => (hp.2.1 t ht).fit) hp.2.2
    have e : (encC m.cert).length = (txt (encH m.cert.header)).length + (tagsB m.cert.votes).length := List.length_append
    omega
  · show (txt (encK m.block)).length ≤ _
    have hp := (ok (by decide)).blk hc
    have h1 := encQ_right (qc_plain_fit hp.2.1) hp.2.1.2.1
    have h2 := txt_len_le (encK m.block)
    have h3 := txt_len_le (encQ m.block.qc)
    have h4 := lst_strs8 40 (fun c hc => by rw [hp.2.2.2 c hc]; exact Nat.le_refl _)
    have h5 := goInt_length m.block.view
    have h6 : (40 + 9) * m.block.certs.length ≤ (40 + 9) * 8 := Nat.mul_le_mul_left _ hp.2.2.1
    have e : (encK m.block).length = (goInt m.block.view ++ txt (encQ m.block.qc)).length + (lst (bl m.block.certs)).length := List.length_append
    rw [List.length_append] at e
    omega
  · show (txt (encQ m.qc)).length ≤ _
    have hp := (ok (by decide)).qc hc
    have h1 := encQ_right (qc_plain_fit hp) hp.2.1
    have h2 := txt_len_le (encQ m.qc)
    omega
end Go.Proofs.YtaoiejgbbmjpkaaGreatDoor
