/- What cut and Tick do. -/
import Derived.Test.YtibfnefdpbdkoaaBatSealer
import Derived.Laws.ResultCell
namespace Go.Proofs.Ytibfnefdpbdkoaa
open Go.RowKit
set_option linter.unusedVariables false

theorem flatX_drop (l : List TxM) (n : Nat) : (flatX l).drop (n * 9) = flatX (l.drop n) := by
  induction n generalizing l with
  | zero => simp
  | succ n ih =>
    cases l with
    | nil => simp [flatX]
    | cons x r =>
      have e : flatX (x :: r) = x.c ++ flatX r := by simp [flatX]
      have e2 : (n + 1) * 9 = x.c.length + n * 9 := by rw [TxM.c_length]; omega
      rw [e, List.drop_succ_cons, e2, ← List.drop_drop, List.drop_left, ih]

theorem TxsAt.take {w : World} {ao : Option Addr} {l : List TxM} (h : TxsAt w ao l) (n : Nat) : TxsAt w ao (l.take n) := by
  intro i x hx
  exact h i x (by
    rw [List.getElem?_take] at hx
    split at hx
    · exact hx
    · cases hx)

theorem TxsAt.kept {S : Nat → Prop} {w w' : World} {ao : Option Addr} {l : List TxM} (h : TxsAt w ao l) (hk : Kept S w w') (hb : ∀ b off, ao = some ⟨b, off, none⟩ → ¬ S b) (ho : ∀ x ∈ l, x.Off S) : TxsAt w' ao l := by
  intro i x hx
  obtain ⟨⟨b, off, h1, h2, h3⟩, h4⟩ := h i x hx
  exact ⟨⟨b, off, h1, Nat.lt_of_lt_of_le h2 hk.size, fun j v hv => by rw [hk.cell (p := ⟨b, off + i * 9 + j, none⟩) h2 (hb b off h1)]; exact h3 j v hv⟩, h4.kept hk (ho x (List.mem_of_getElem? hx))⟩

/-- What is cut off the front, and what is left. -/
theorem cut_fin {T : TypeId} {w w2 : World} {base p g off cap : Nat} {au : Int} {s : Seal TxM} (hd : SlAt T w2 base p (.slice (some ⟨g, off, none⟩) s.l.length cap) au s) (hn0 : 0 < s.l.length) (n : Nat) (hn : n = min s.size s.l.length) (ao' : Option Addr) (hao : ¬ cap = n → ao' = some ⟨g, off + n * 9, none⟩) (hob : ∀ k a b, (Value.slice ao' a b).ownBlock = some k → k = g) (kd : Kept (fun k => k = p) w w2)
    (w' : World) (hw : w2.setCell ⟨p, 3, none⟩ (.slice ao' (s.l.length - n) (cap - n)) = w') :
    TxsAt w' (some ⟨g, off, none⟩) (s.l.take s.size) ∧ SlAt T w' base p (.slice ao' (s.l.length - n) (cap - n)) au { s with l := s.l.drop s.size } ∧ Kept (fun k => k = p) w w' := by
  have hgp : g ≠ p := fun e => hd.ne (by rw [← e]; rfl)
  have k2 : Kept (fun k => k = p) w2 w' := by rw [← hw]; exact Kept.setCell w2 ⟨p, 3, none⟩ _
  have hoff : ∀ x ∈ s.l, x.Off (fun k => k = p) := fun x hx => (hd.off x hx).mono (fun k hk => Or.inl hk)
  have hob2 : ∀ k, (Value.slice ao' (s.l.length - n) (cap - n)).ownBlock = some k → k = g := fun k hk => hob k _ _ hk
  refine ⟨((hd.row.txs rfl hd.at_).take _).kept k2 (fun b o e => by simp at e; rw [← e.1]; exact hgp) (fun x hx => hoff x (List.mem_of_mem_take hx)), ?_, kd.trans k2⟩
  have hdr : s.l.drop s.size = s.l.drop n := by
    rw [hn]
    by_cases hl : s.size ≤ s.l.length
    · rw [Nat.min_eq_left hl]
    · rw [List.drop_of_length_le (by omega), List.drop_of_length_le (by omega)]
  have hcut := hd.row.cut n (by omega) ao' (fun b o e hc => by simp at e; rw [hao hc, ← e.1, ← e.2])
  rw [flatX_drop, ← hdr] at hcut
  have hlen : (s.l.drop s.size).length = s.l.length - n := by rw [hdr, List.length_drop]
  refine ⟨?_, ?_, ?_, ?_, hd.bp, ?_, ?_, fun k hk => by rw [hob2 k hk]; exact hd.lb g rfl⟩
  · rw [← hw]
    exact hd.box.set 3 _
  · show QRow w' base 33 9 _ (s.l.drop s.size).length (flatX (s.l.drop s.size))
    rw [hlen]
    exact hcut.kept k2 (fun k hk => by rw [hob2 k hk]; exact hgp)
  · exact fun x hx => (hd.at_ x (List.mem_of_mem_drop hx)).kept k2 (hoff x (List.mem_of_mem_drop hx))
  · intro x hx
    refine (hd.off x (List.mem_of_mem_drop hx)).mono (fun k hk => ?_)
    rcases hk with hk | hk
    · exact Or.inl hk
    · exact Or.inr (by rw [hob2 k hk]; rfl)
  · exact fun e => hgp (hob2 p e).symm
  · intro k hk
    rw [hob2 k hk]
    exact Nat.lt_of_lt_of_le (hd.lt g rfl) k2.size

set_option maxRecDepth 100000 in
set_option maxHeartbeats 4000000 in
theorem batCut_any {base p : Nat} {q : Value} {au : Int} {s : Seal TxM} (w : World) (h : SlAt 55 w base p q au s) (ok : s.Ok) (hne : 0 < s.l.length) :
    Calls Try.prog 22 #[.pointer (some ⟨p, 0, none⟩)] w fun e w' => ∃ fo q', e = .returned (.slice fo (min s.size s.l.length) (min s.size s.l.length)) ∧ TxsAt w' fo (s.l.take s.size) ∧ SlAt 55 w' base p q' au { s with l := s.l.drop s.size } ∧ Kept (fun k => k = p) w w' ∧ (∀ k, q'.ownBlock = some k → q.ownBlock = some k) ∧ (∀ b o, fo = some ⟨b, o, none⟩ → q.ownBlock = some b) := by
  rcases h.row.2 with ⟨ao, hv, h0⟩ | ⟨g, pre, post, cap, rfl, hb, hg, hn1, hn2, hpost⟩
  · omega
  have c3 := h.box.cell (i := 3) rfl
  have c1 := h.box.cell (i := 1) rfl
  have f3 := h.box.frozen 3
  have hsz1 := ok.size1
  have hsz := ok.size16
  by_cases hlt : s.l.length < s.size
  · have hm : min s.size s.l.length = s.l.length := by omega
    have hn1' : (s.l.length : Int) ≤ (cap : Int) := by omega
    rw [hm]
    go_enter Try.func22, Try.ntmps22
    go_wp2_with fail
    go_region
    have hd := h.below (below_drewN (Below.refl _ w) 1)
    have kd : Kept (fun k => k = p) w w.drew := Kept.of_below (below_drewN (Below.refl _ w) 1)
    replace hd : SlAt 55 w.drew base p (.slice (some ⟨g, pre.length, none⟩) s.l.length cap) au s := hd
    clear c3 c1 f3 hg h
    generalize w.drew = w2 at hd kd ⊢
    have c3 := hd.box.cell (i := 3) rfl
    have f3 := hd.box.frozen 3
    go_wp2
    · have hcap := h
      have hf := cut_fin hd hne s.l.length hm.symm (some ⟨g, pre.length, none⟩) (fun hc => absurd hcap hc) (fun k a b hk => by simp [Value.ownBlock] at hk; exact hk.symm) kd _ rfl
      rw [Nat.sub_self, show cap - s.l.length = 0 by omega] at hf
      go_ret
      exact ⟨_, rfl, hf.1, _, hf.2.1, hf.2.2, fun k hk => hk, fun b o e => by simp at e; rw [← e.1]; rfl⟩
    · have hcap := h
      have hf := cut_fin hd hne s.l.length hm.symm (some ⟨g, pre.length + s.l.length * 9, none⟩) (fun hc => rfl) (fun k a b hk => by simp [Value.ownBlock] at hk; exact hk.symm) kd _ rfl
      rw [Nat.sub_self] at hf
      go_ret
      exact ⟨_, rfl, hf.1, _, hf.2.1, hf.2.2, fun k hk => hk, fun b o e => by simp at e; rw [← e.1]; rfl⟩
  · have hm : min s.size s.l.length = s.size := by omega
    have hn1' : (s.size : Int) ≤ (cap : Int) := by omega
    have hn1'' : (s.size : Int) ≤ (s.l.length : Int) := by omega
    rw [hm]
    go_enter Try.func22, Try.ntmps22
    go_wp2_with fail
    go_region
    have hd := h.below (below_drewN (Below.refl _ w) 1)
    have kd : Kept (fun k => k = p) w w.drew := Kept.of_below (below_drewN (Below.refl _ w) 1)
    replace hd : SlAt 55 w.drew base p (.slice (some ⟨g, pre.length, none⟩) s.l.length cap) au s := hd
    clear c3 c1 f3 hg h
    generalize w.drew = w2 at hd kd ⊢
    have c3 := hd.box.cell (i := 3) rfl
    have f3 := hd.box.frozen 3
    go_wp2
    · have hcap := h
      have hf := cut_fin hd hne s.size hm.symm (some ⟨g, pre.length, none⟩) (fun hc => absurd hcap hc) (fun k a b hk => by simp [Value.ownBlock] at hk; exact hk.symm) kd _ rfl
      rw [show cap - s.size = 0 by omega] at hf
      go_ret
      exact ⟨_, rfl, hf.1, _, hf.2.1, hf.2.2, fun k hk => hk, fun b o e => by simp at e; rw [← e.1]; rfl⟩
    · have hcap := h
      have hf := cut_fin hd hne s.size hm.symm (some ⟨g, pre.length + s.size * 9, none⟩) (fun hc => rfl) (fun k a b hk => by simp [Value.ownBlock] at hk; exact hk.symm) kd _ rfl
      go_ret
      exact ⟨_, rfl, hf.1, _, hf.2.1, hf.2.2, fun k hk => hk, fun b o e => by simp at e; rw [← e.1]; rfl⟩

/-- Behind Tick: what is handed back, and the sealer. -/
def Ticked (T : TypeId) (w : World) (base p : Nat) (q : Value) (au : Int) (s : Seal TxM) (e : Ending) (w' : World) : Prop :=
  ∃ fo fc q', e = .returned (.tuple #[batV (if s.seals = true then au else 0) (if s.seals = true then (s.number : Int) + 1 else 0) fo s.out.length fc, .bool s.seals]) ∧ (fo = none → fc = 0) ∧ TxsAt w' fo s.out ∧ SlAt T w' base p q' au s.tick ∧ Kept (fun k => k = p) w w' ∧ (∀ k, q'.ownBlock = some k → q.ownBlock = some k ∨ w.heap.size ≤ k)

theorem infoBat : (Try.prog.info? 40).map (·.size) = some 3 := by kernel_rfl

theorem results_bat_tmp {fn : Func} {p u : Tmp} (h : fn.results = #[.cell p 40, .tmp u]) (tmps : Array Value) (w : World) (g : Nat) (a n : Int) (ao : Option Addr) (len cap : Nat)
    (hp : tmps.getD p undef = .pointer (some ⟨g, 0, none⟩)) (hg : Arr w g 40 (batC a n ao len cap)) (v : Value) (hv : tmps.getD u undef = v) :
    (results fn tmps).run Try.prog w = .ok (.tuple #[batV a n ao len cap, v]) w := by
  rw [results_cell_tmp h, hp, hv]
  have hl := run_loadVar_row w g 40 40 (batC a n ao len cap).toArray (0, 0) _ hg Try.underlying40 rfl infoBat
  simp [asAddr, hl, batV, batC, Result.andThen]

/-- No batch. -/
def zeroB : List Value := [.int .i64 0, .int .i64 0, .slice none 0 0]

theorem SlAt.setTicks {T : TypeId} {w : World} {base p : Nat} {q : Value} {au : Int} {s : Seal TxM} (h : SlAt T w base p q au s) (t : Nat) : SlAt T (w.setCell ⟨p, 4, none⟩ (.int .i64 (t : Int))) base p q au { s with ticks := t } := by
  have k2 := Kept.setCell w ⟨p, 4, none⟩ (.int .i64 (t : Int))
  exact ⟨h.box.set 4 _, h.row.kept k2 (fun g hg e => h.ne (by rw [hg]; exact congrArg some e)), fun x hx => (h.at_ x hx).kept k2 ((h.off x hx).mono (fun k hk => Or.inl hk)), h.off, h.bp, h.ne, (fun k hk => by rw [setCell_size]; exact h.lt k hk), h.lb⟩

theorem SlAt.setNumber {T : TypeId} {w : World} {base p : Nat} {q : Value} {au : Int} {s : Seal TxM} (h : SlAt T w base p q au s) (t : Nat) : SlAt T (w.setCell ⟨p, 5, none⟩ (.int .i64 (t : Int))) base p q au { s with number := t } := by
  have k2 := Kept.setCell w ⟨p, 5, none⟩ (.int .i64 (t : Int))
  exact ⟨h.box.set 5 _, h.row.kept k2 (fun g hg e => h.ne (by rw [hg]; exact congrArg some e)), fun x hx => (h.at_ x hx).kept k2 ((h.off x hx).mono (fun k hk => Or.inl hk)), h.off, h.bp, h.ne, (fun k hk => by rw [setCell_size]; exact h.lt k hk), h.lb⟩

theorem SlAt.putOff {T : TypeId} {w : World} {base p : Nat} {q : Value} {au : Int} {s : Seal TxM} (h : SlAt T w base p q au s) {a : Addr} (ha : ∀ k, SlB p q k → k ≠ a.block) (ho : ∀ x ∈ s.l, x.Off (fun k => k = a.block)) (v : Value) : SlAt T (w.setCell a v) base p q au s :=
  h.kept (Kept.setCell w a v) (fun k hk e => ha k hk e) ho

/-- Three cells of a block are written. -/
def set3 (w : World) (g : Nat) (v0 v1 v2 : Value) : World := ((w.setCell ⟨g, 0, none⟩ v0).setCell ⟨g, 1, none⟩ v1).setCell ⟨g, 2, none⟩ v2

theorem Arr.set3 {w : World} {g : Nat} {t : TypeId} {a0 a1 a2 : Value} (h : Arr w g t [a0, a1, a2]) (v0 v1 v2 : Value) : Arr (Proofs.Ytibfnefdpbdkoaa.set3 w g v0 v1 v2) g t [v0, v1, v2] := ((h.set 0 v0).set 1 v1).set 2 v2

theorem Kept.set3 {S : Nat → Prop} {w w' : World} (h : Kept S w w') {g : Nat} (hg : w.heap.size ≤ g) (v0 v1 v2 : Value) : Kept S w (Proofs.Ytibfnefdpbdkoaa.set3 w' g v0 v1 v2) :=
  ((h.setNew (a := ⟨g, 0, none⟩) hg v0).setNew (a := ⟨g, 1, none⟩) hg v1).setNew (a := ⟨g, 2, none⟩) hg v2

theorem SlAt.set3 {T : TypeId} {w : World} {base p : Nat} {q : Value} {au : Int} {s : Seal TxM} (h : SlAt T w base p q au s) {g : Nat} (ha : ∀ k, SlB p q k → k ≠ g) (ho : ∀ x ∈ s.l, x.Off (fun k => k = g)) (v0 v1 v2 : Value) : SlAt T (Proofs.Ytibfnefdpbdkoaa.set3 w g v0 v1 v2) base p q au s :=
  ((h.putOff (a := ⟨g, 0, none⟩) ha ho v0).putOff (a := ⟨g, 1, none⟩) ha ho v1).putOff (a := ⟨g, 2, none⟩) ha ho v2

theorem TxsAt.set3 {w : World} {ao : Option Addr} {l : List TxM} (h : TxsAt w ao l) {g : Nat} (hb : ∀ b off, ao = some ⟨b, off, none⟩ → b ≠ g) (ho : ∀ x ∈ l, x.Off (fun k => k = g)) (v0 v1 v2 : Value) : TxsAt (Proofs.Ytibfnefdpbdkoaa.set3 w g v0 v1 v2) ao l :=
  ((h.kept (Kept.setCell _ ⟨g, 0, none⟩ v0) (fun b o e k => hb b o e k) ho).kept (Kept.setCell _ ⟨g, 1, none⟩ v1) (fun b o e k => hb b o e k) ho).kept (Kept.setCell _ ⟨g, 2, none⟩ v2) (fun b o e k => hb b o e k) ho

/-- A sealer's blocks are older than what is new. -/
theorem SlAt.apart {T : TypeId} {w : World} {base p : Nat} {q : Value} {au : Int} {s : Seal TxM} (h : SlAt T w base p q au s) {g : Nat} (hg : w.heap.size ≤ g) : ∀ k, SlB p q k → k ≠ g := by
  rintro k (rfl | hk)
  · have := h.own.2; omega
  · have := h.lt k hk; omega

theorem ticked_no {T : TypeId} {w w' : World} {base p : Nat} {q : Value} {au : Int} {s : Seal TxM} (hse : s.seals = false) (h : SlAt T w' base p q au s.tick) (hk : Kept (fun k => k = p) w w') (e : Ending) (he : e = .returned (.tuple #[batV 0 0 none 0 0, .bool false])) : Ticked T w base p q au s e w' := by
  have hou : s.out = [] := by unfold Seal.out; rw [hse]; rfl
  unfold Ticked
  rw [hse, hou]
  exact ⟨none, 0, q, he, fun _ => rfl, nil_txs _ _, h, hk, fun k hk => Or.inl hk⟩

theorem ticked_yes {T : TypeId} {w w' : World} {base p : Nat} {q q' : Value} {au : Int} {s : Seal TxM} (hse : s.seals = true) {fo : Option Addr} {fc : Nat} (h0 : fo = none → fc = 0) (hA : TxsAt w' fo (s.l.take s.size)) (h : SlAt T w' base p q' au s.tick) (hk : Kept (fun k => k = p) w w') (hq : ∀ k, q'.ownBlock = some k → q.ownBlock = some k ∨ w.heap.size ≤ k) (e : Ending) (he : e = .returned (.tuple #[batV au ((s.number : Int) + 1) fo (min s.size s.l.length) fc, .bool true])) : Ticked T w base p q au s e w' := by
  have hou : s.out = s.l.take s.size := by unfold Seal.out; rw [hse]; rfl
  unfold Ticked
  rw [hse, hou, List.length_take]
  exact ⟨fo, fc, q', he, h0, hA, h, hk, hq⟩

set_option maxRecDepth 100000 in
set_option maxHeartbeats 4000000 in
theorem tick_any {base p : Nat} {q : Value} {au : Int} {s : Seal TxM} (w : World) (h : SlAt 55 w base p q au s) (ok : s.Ok) (hnum : s.number ≤ 4611686018427387903) :
    Calls Try.prog 10 #[.pointer (some ⟨p, 0, none⟩)] w fun e w' => Ticked 55 w base p q au s e w' := by
  obtain ⟨qa, qc, rfl, hf1, hf2⟩ := h.row.form
  have hZ := Arr.new w 40 [.int .i64 0, .int .i64 0, .slice none 0 0]
  have hB := belowNew w (.cells #[.int .i64 0, .int .i64 0, .slice none 0 0] 40)
  have h0 := h.below hB
  have c3 := h0.box.cell (i := 3) rfl
  have hroom := ok.room
  have hsz := ok.size16
  by_cases hl : s.l.length = 0
  · have hnil : s.l = [] := List.eq_nil_of_length_eq_zero hl
    have hse : s.seals = false := by unfold Seal.seals; rw [hnil]; rfl
    have hti : s.tick = s := by unfold Seal.tick; rw [if_pos hnil]
    have hou : s.out = [] := by unfold Seal.out; rw [hse]; rfl
    have e0 : ((s.l.length : Int) == 0) = true := by rw [beq_iff_eq]; omega
    have z0 := hZ.cell (i := 0) rfl
    have z1 := hZ.cell (i := 1) rfl
    have z2 := hZ.cell (i := 2) rfl
    have g0 := hZ.frozen 0
    have g1 := hZ.frozen 1
    have g2 := hZ.frozen 2
    have hfin := fun e he => ticked_no (e := e) hse (by rw [hti]; exact h0) (Kept.of_below hB) he
    clear h0 h
    go_enter Try.func10, Try.ntmps10
    go_wp2
    refine bodyPost_ret (v := .tuple #[batV 0 0 none 0 0, .bool false]) (results_bat_tmp rfl _ _ w.heap.size 0 0 none 0 0 rfl hZ _ rfl) rfl ?_
    exact hfin _ rfl
  have hne : ¬ s.l = [] := fun e => hl (by rw [e]; rfl)
  have e0 : ((s.l.length : Int) == 0) = false := beq_eq_false_iff_ne.2 (by omega)
  have hlw := ok.less
  have hw1 := ok.wait1000
  have c4 := h0.box.cell (i := 4) rfl
  have f4 := h0.box.frozen 4
  have h1 := h0.setTicks (s.ticks + 1)
  have k1 : Kept (fun k => k = p) w _ := (Kept.of_below hB).trans (Kept.setCell _ ⟨p, 4, none⟩ (.int .i64 ((s.ticks + 1 : Nat) : Int)))
  have hpz : w.heap.size ≠ p := by have := h.own.2; omega
  have hZ1 := hZ.other (p := ⟨p, 4, none⟩) hpz (.int .i64 ((s.ticks + 1 : Nat) : Int))
  have hti : Hid ((s.ticks : Int) + 1 = ((s.ticks + 1 : Nat) : Int)) := by show _ = _; omega
  have htb : s.ticks < 1000 := by omega
  clear hZ hB
  obtain ⟨w2, hw2⟩ : ∃ q, (w.alloc (.cells #[.int .i64 0, .int .i64 0, .slice none 0 0] 40)).setCell ⟨p, 4, none⟩ (.int .i64 ((s.ticks : Int) + 1)) = q := ⟨_, rfl⟩
  rw [← hti.out, hw2] at h1 k1 hZ1
  by_cases hse : s.seals = true
  · have hcond := ((Seal.seals_iff s).1 hse).2
    have htk : s.tick = { s with l := s.l.drop s.size, ticks := 0, number := s.number + 1 } := by unfold Seal.tick; rw [if_neg hne, if_pos hse]
    have b3 := h1.box.cell (i := 3) rfl
    have b1 := h1.box.cell (i := 1) rfl
    have b2 := h1.box.cell (i := 2) rfl
    have b4 := h1.box.cell (i := 4) rfl
    replace b4 : w2.cell? ⟨p, 4, none⟩ = some (.int .i64 ((s.ticks : Int) + 1)) := by rw [hti.out]; exact b4
    by_cases hd1 : s.l.length < s.size
    · have d1 : (s.l.length : Int) < (s.size : Int) := by omega
      have d2 : ¬ (s.ticks : Int) + 1 < (s.wait : Int) := by omega
      have d2' : decide ((s.ticks : Int) + 1 < (s.wait : Int)) = false := decide_eq_false d2
      go_enter Try.func10, Try.ntmps10
      go_wp2_with fail
      go_quiet (fail)
      replace h1 : SlAt 55 (w2.drewN nq) base p (.slice qa s.l.length qc) au { s with ticks := s.ticks + 1 } := h1.below (below_drewN (Below.refl _ _) nq)
      replace k1 : Kept (fun k => k = p) w (w2.drewN nq) := k1.trans (Kept.of_below (below_drewN (Below.refl _ _) nq))
      replace hZ1 : Arr (w2.drewN nq) w.heap.size 40 zeroB := hZ1
      have hap := h.apart (Nat.le_refl _)
      have hofz : ∀ x ∈ s.l, x.Off (fun k => k = w.heap.size) := fun x hx => (h.at_ x hx).off_new (Nat.le_refl _)
      clear hw2 b1 b2 b3 b4 c3 c4 f4 h0
      generalize w2.drewN nq = w3 at h1 k1 hZ1 ⊢
      have e4 := h1.box.cell (i := 4) rfl
      have g4 := h1.box.frozen 4
      have h4 := h1.setTicks 0
      have k4 : Kept (fun k => k = p) w _ := k1.trans (Kept.setCell w3 ⟨p, 4, none⟩ (.int .i64 ((0 : Nat) : Int)))
      have hZ4 := hZ1.other (p := ⟨p, 4, none⟩) hpz (.int .i64 ((0 : Nat) : Int))
      obtain ⟨w4, hw4⟩ : ∃ q, w3.setCell ⟨p, 4, none⟩ (.int .i64 0) = q := ⟨_, rfl⟩
      replace h4 : SlAt 55 (w3.setCell ⟨p, 4, none⟩ (.int .i64 0)) base p (.slice qa s.l.length qc) au { s with ticks := 0 } := h4
      replace k4 : Kept (fun k => k = p) w (w3.setCell ⟨p, 4, none⟩ (.int .i64 0)) := k4
      replace hZ4 : Arr (w3.setCell ⟨p, 4, none⟩ (.int .i64 0)) w.heap.size 40 zeroB := hZ4
      rw [hw4] at h4 k4 hZ4
      clear h1 k1 hZ1
      have e5 := h4.box.cell (i := 5) rfl
      have g5 := h4.box.frozen 5
      have h5 := h4.setNumber (s.number + 1)
      have k5 : Kept (fun k => k = p) w _ := k4.trans (Kept.setCell w4 ⟨p, 5, none⟩ (.int .i64 ((s.number + 1 : Nat) : Int)))
      have hZ5 := hZ4.other (p := ⟨p, 5, none⟩) hpz (.int .i64 ((s.number + 1 : Nat) : Int))
      obtain ⟨w5, hw5⟩ : ∃ q, w4.setCell ⟨p, 5, none⟩ (.int .i64 ((s.number : Int) + 1)) = q := ⟨_, rfl⟩
      have hnn : Hid ((s.number : Int) + 1 = ((s.number + 1 : Nat) : Int)) := by show _ = _; omega
      rw [← hnn.out, hw5] at h5 k5 hZ5
      clear h4 k4 hZ4
      replace h5 := h5.below (below_drewN (Below.refl _ w5) 1)
      replace h5 : SlAt 55 w5.drew base p (.slice qa s.l.length qc) au { s with ticks := 0, number := s.number + 1 } := h5
      replace k5 : Kept (fun k => k = p) w w5.drew := k5.trans (Kept.of_below (below_drewN (Below.refl _ _) 1))
      replace hZ5 : Arr w5.drew w.heap.size 40 zeroB := hZ5
      have r0 := h5.box.cell (i := 0) rfl
      have r5 := h5.box.cell (i := 5) rfl
      replace r5 : w5.drew.cell? ⟨p, 5, none⟩ = some (.int .i64 ((s.number : Int) + 1)) := by rw [hnn.out]; exact r5
      have cC := batCut_any _ h5 (s := { s with ticks := 0, number := s.number + 1 }) ⟨ok.size1, ok.size16, ok.wait1, ok.wait1000, ok.room, by show 0 < s.wait; omega, fun _ => rfl⟩ (by show 0 < s.l.length; omega)
      go_wp2_with fail
      go_region_law (first
        | (go_simp; go_at_call 22; refine cC.mono ?_; rintro e wA ⟨fo, q', rfl, hTA, hSA, hkA, hqA, hfA⟩; have s0 := hSA.box.cell (i := 0) rfl; have s5 := hSA.box.cell (i := 5) rfl; replace s5 : wA.cell? ⟨p, 5, none⟩ = some (.int .i64 ((s.number : Int) + 1)) := (by rw [hnn.out]; exact s5); have hZA := hZ5.kept hkA hpz; have z0 := hZA.cell (i := 0) rfl; have z1 := hZA.cell (i := 1) rfl; have z2 := hZA.cell (i := 2) rfl; have g0 := hZA.frozen 0; have g1 := hZA.frozen 1; have g2 := hZA.frozen 2))
      all_goals
        have hfb : ∀ b o, fo = some ⟨b, o, none⟩ → b ≠ w.heap.size := fun b o e => Nat.ne_of_lt (h.lt b (hfA b o e))
        have hq2 : ∀ k, SlB p q' k → k ≠ w.heap.size := fun k hk => by
          rcases hk with rfl | hk
          · exact hpz.symm
          · exact Nat.ne_of_lt (h.lt k (hqA k hk))
        have hfn : fo = none → min s.size s.l.length = 0 := fun e => by
          exfalso
          have hlt : 0 < (s.l.take s.size).length := by rw [List.length_take]; have := ok.size1; omega
          obtain ⟨⟨b, o, e2, _⟩, _⟩ := hTA 0 _ (List.getElem?_eq_getElem hlt)
          rw [e] at e2
          cases e2
        have hfin := fun e he => ticked_yes (e := e) hse hfn (hTA.set3 hfb (fun x hx => hofz x (List.mem_of_mem_take hx)) (.int .i64 au) (.int .i64 ((s.number : Int) + 1)) (.slice fo (min s.size s.l.length) (min s.size s.l.length))) (by rw [htk]; exact hSA.set3 hq2 (fun x hx => hofz x (List.mem_of_mem_drop hx)) (.int .i64 au) (.int .i64 ((s.number : Int) + 1)) (.slice fo (min s.size s.l.length) (min s.size s.l.length))) ((k5.trans hkA).set3 (Nat.le_refl _) (.int .i64 au) (.int .i64 ((s.number : Int) + 1)) (.slice fo (min s.size s.l.length) (min s.size s.l.length))) (fun k hk => Or.inl (hqA k hk)) he
        have hZF := hZA.set3 (.int .i64 au) (.int .i64 ((s.number : Int) + 1)) (.slice fo (min s.size s.l.length) (min s.size s.l.length))
        unfold set3 at hfin hZF
        clear hSA hTA hkA hqA hZA s0 s5 z0 z1 z2 g0 g1 g2 hfA hfb hq2 hfn
        go_wp2
        refine bodyPost_ret (v := .tuple #[batV au ((s.number : Int) + 1) fo (min s.size s.l.length) (min s.size s.l.length), .bool true]) (results_bat_tmp rfl _ _ w.heap.size au ((s.number : Int) + 1) fo (min s.size s.l.length) (min s.size s.l.length) rfl hZF _ rfl) rfl ?_
        exact hfin _ rfl
    · have d1 : ¬ (s.l.length : Int) < (s.size : Int) := by omega
      have d1' : decide ((s.l.length : Int) < (s.size : Int)) = false := decide_eq_false d1
      go_enter Try.func10, Try.ntmps10
      go_wp2_with fail
      go_quiet (fail)
      replace h1 : SlAt 55 (w2.drewN nq) base p (.slice qa s.l.length qc) au { s with ticks := s.ticks + 1 } := h1.below (below_drewN (Below.refl _ _) nq)
      replace k1 : Kept (fun k => k = p) w (w2.drewN nq) := k1.trans (Kept.of_below (below_drewN (Below.refl _ _) nq))
      replace hZ1 : Arr (w2.drewN nq) w.heap.size 40 zeroB := hZ1
      have hap := h.apart (Nat.le_refl _)
      have hofz : ∀ x ∈ s.l, x.Off (fun k => k = w.heap.size) := fun x hx => (h.at_ x hx).off_new (Nat.le_refl _)
      clear hw2 b1 b2 b3 b4 c3 c4 f4 h0
      generalize w2.drewN nq = w3 at h1 k1 hZ1 ⊢
      have e4 := h1.box.cell (i := 4) rfl
      have g4 := h1.box.frozen 4
      have h4 := h1.setTicks 0
      have k4 : Kept (fun k => k = p) w _ := k1.trans (Kept.setCell w3 ⟨p, 4, none⟩ (.int .i64 ((0 : Nat) : Int)))
      have hZ4 := hZ1.other (p := ⟨p, 4, none⟩) hpz (.int .i64 ((0 : Nat) : Int))
      obtain ⟨w4, hw4⟩ : ∃ q, w3.setCell ⟨p, 4, none⟩ (.int .i64 0) = q := ⟨_, rfl⟩
      replace h4 : SlAt 55 (w3.setCell ⟨p, 4, none⟩ (.int .i64 0)) base p (.slice qa s.l.length qc) au { s with ticks := 0 } := h4
      replace k4 : Kept (fun k => k = p) w (w3.setCell ⟨p, 4, none⟩ (.int .i64 0)) := k4
      replace hZ4 : Arr (w3.setCell ⟨p, 4, none⟩ (.int .i64 0)) w.heap.size 40 zeroB := hZ4
      rw [hw4] at h4 k4 hZ4
      clear h1 k1 hZ1
      have e5 := h4.box.cell (i := 5) rfl
      have g5 := h4.box.frozen 5
      have h5 := h4.setNumber (s.number + 1)
      have k5 : Kept (fun k => k = p) w _ := k4.trans (Kept.setCell w4 ⟨p, 5, none⟩ (.int .i64 ((s.number + 1 : Nat) : Int)))
      have hZ5 := hZ4.other (p := ⟨p, 5, none⟩) hpz (.int .i64 ((s.number + 1 : Nat) : Int))
      obtain ⟨w5, hw5⟩ : ∃ q, w4.setCell ⟨p, 5, none⟩ (.int .i64 ((s.number : Int) + 1)) = q := ⟨_, rfl⟩
      have hnn : Hid ((s.number : Int) + 1 = ((s.number + 1 : Nat) : Int)) := by show _ = _; omega
      rw [← hnn.out, hw5] at h5 k5 hZ5
      clear h4 k4 hZ4
      replace h5 := h5.below (below_drewN (Below.refl _ w5) 1)
      replace h5 : SlAt 55 w5.drew base p (.slice qa s.l.length qc) au { s with ticks := 0, number := s.number + 1 } := h5
      replace k5 : Kept (fun k => k = p) w w5.drew := k5.trans (Kept.of_below (below_drewN (Below.refl _ _) 1))
      replace hZ5 : Arr w5.drew w.heap.size 40 zeroB := hZ5
      have r0 := h5.box.cell (i := 0) rfl
      have r5 := h5.box.cell (i := 5) rfl
      replace r5 : w5.drew.cell? ⟨p, 5, none⟩ = some (.int .i64 ((s.number : Int) + 1)) := by rw [hnn.out]; exact r5
      have cC := batCut_any _ h5 (s := { s with ticks := 0, number := s.number + 1 }) ⟨ok.size1, ok.size16, ok.wait1, ok.wait1000, ok.room, by show 0 < s.wait; omega, fun _ => rfl⟩ (by show 0 < s.l.length; omega)
      go_wp2_with fail
      go_region_law (first
        | (go_simp; go_at_call 22; refine cC.mono ?_; rintro e wA ⟨fo, q', rfl, hTA, hSA, hkA, hqA, hfA⟩; have s0 := hSA.box.cell (i := 0) rfl; have s5 := hSA.box.cell (i := 5) rfl; replace s5 : wA.cell? ⟨p, 5, none⟩ = some (.int .i64 ((s.number : Int) + 1)) := (by rw [hnn.out]; exact s5); have hZA := hZ5.kept hkA hpz; have z0 := hZA.cell (i := 0) rfl; have z1 := hZA.cell (i := 1) rfl; have z2 := hZA.cell (i := 2) rfl; have g0 := hZA.frozen 0; have g1 := hZA.frozen 1; have g2 := hZA.frozen 2))
      all_goals
        have hfb : ∀ b o, fo = some ⟨b, o, none⟩ → b ≠ w.heap.size := fun b o e => Nat.ne_of_lt (h.lt b (hfA b o e))
        have hq2 : ∀ k, SlB p q' k → k ≠ w.heap.size := fun k hk => by
          rcases hk with rfl | hk
          · exact hpz.symm
          · exact Nat.ne_of_lt (h.lt k (hqA k hk))
        have hfn : fo = none → min s.size s.l.length = 0 := fun e => by
          exfalso
          have hlt : 0 < (s.l.take s.size).length := by rw [List.length_take]; have := ok.size1; omega
          obtain ⟨⟨b, o, e2, _⟩, _⟩ := hTA 0 _ (List.getElem?_eq_getElem hlt)
          rw [e] at e2
          cases e2
        have hfin := fun e he => ticked_yes (e := e) hse hfn (hTA.set3 hfb (fun x hx => hofz x (List.mem_of_mem_take hx)) (.int .i64 au) (.int .i64 ((s.number : Int) + 1)) (.slice fo (min s.size s.l.length) (min s.size s.l.length))) (by rw [htk]; exact hSA.set3 hq2 (fun x hx => hofz x (List.mem_of_mem_drop hx)) (.int .i64 au) (.int .i64 ((s.number : Int) + 1)) (.slice fo (min s.size s.l.length) (min s.size s.l.length))) ((k5.trans hkA).set3 (Nat.le_refl _) (.int .i64 au) (.int .i64 ((s.number : Int) + 1)) (.slice fo (min s.size s.l.length) (min s.size s.l.length))) (fun k hk => Or.inl (hqA k hk)) he
        have hZF := hZA.set3 (.int .i64 au) (.int .i64 ((s.number : Int) + 1)) (.slice fo (min s.size s.l.length) (min s.size s.l.length))
        unfold set3 at hfin hZF
        clear hSA hTA hkA hqA hZA s0 s5 z0 z1 z2 g0 g1 g2 hfA hfb hq2 hfn
        go_wp2
        refine bodyPost_ret (v := .tuple #[batV au ((s.number : Int) + 1) fo (min s.size s.l.length) (min s.size s.l.length), .bool true]) (results_bat_tmp rfl _ _ w.heap.size au ((s.number : Int) + 1) fo (min s.size s.l.length) (min s.size s.l.length) rfl hZF _ rfl) rfl ?_
        exact hfin _ rfl
  · have hse' : s.seals = false := by simpa using hse
    have hcond : s.l.length < s.size ∧ s.ticks + 1 < s.wait := by
      have := (not_congr (Seal.seals_iff s)).1 hse
      rw [not_and, not_or] at this
      have := this hne
      omega
    have htk : s.tick = { s with ticks := s.ticks + 1 } := by unfold Seal.tick; rw [if_neg hne, if_neg hse]
    rw [← htk] at h1
    have b3 := h1.box.cell (i := 3) rfl
    have b1 := h1.box.cell (i := 1) rfl
    have b2 := h1.box.cell (i := 2) rfl
    have b4 := h1.box.cell (i := 4) rfl
    rw [htk] at b1 b2 b4
    replace b4 : w2.cell? ⟨p, 4, none⟩ = some (.int .i64 ((s.ticks : Int) + 1)) := by rw [hti.out]; exact b4
    have d1 : (s.l.length : Int) < (s.size : Int) := by omega
    have d2 : (s.ticks : Int) + 1 < (s.wait : Int) := by omega
    have z0 := hZ1.cell (i := 0) rfl
    have z1 := hZ1.cell (i := 1) rfl
    have z2 := hZ1.cell (i := 2) rfl
    have g0 := hZ1.frozen 0
    have g1 := hZ1.frozen 1
    have g2 := hZ1.frozen 2
    go_enter Try.func10, Try.ntmps10
    go_wp2_with fail
    go_quiet (fail)
    replace h1 : SlAt 55 (w2.drewN nq) base p (.slice qa s.l.length qc) au s.tick := h1.below (below_drewN (Below.refl _ _) nq)
    replace k1 : Kept (fun k => k = p) w (w2.drewN nq) := k1.trans (Kept.of_below (below_drewN (Below.refl _ _) nq))
    replace hZ1 : Arr (w2.drewN nq) w.heap.size 40 zeroB := hZ1
    have hlt : s.tick.l = s.l := by rw [htk]
    have hap := h.apart (Nat.le_refl _)
    have hofz : ∀ x ∈ s.tick.l, x.Off (fun k => k = w.heap.size) := fun x hx => (h.at_ x (by rw [← hlt]; exact hx)).off_new (Nat.le_refl _)
    clear hw2 b1 b2 b3 b4 c3 c4 f4 h0
    generalize w2.drewN nq = w3 at h1 k1 hZ1 ⊢
    have z0 := hZ1.cell (i := 0) rfl
    have z1 := hZ1.cell (i := 1) rfl
    have z2 := hZ1.cell (i := 2) rfl
    have g0 := hZ1.frozen 0
    have g1 := hZ1.frozen 1
    have g2 := hZ1.frozen 2
    have hfin := fun e he => ticked_no (e := e) hse' (h1.set3 hap hofz (.int .i64 0) (.int .i64 0) (.slice none 0 0)) (k1.set3 (Nat.le_refl _) (.int .i64 0) (.int .i64 0) (.slice none 0 0)) he
    have hZF := hZ1.set3 (.int .i64 0) (.int .i64 0) (.slice none 0 0)
    unfold set3 at hfin hZF
    clear h1 k1 hZ1 hofz hap
    go_wp2
    refine bodyPost_ret (v := .tuple #[batV 0 0 none 0 0, .bool false]) (results_bat_tmp rfl _ _ w.heap.size 0 0 none 0 0 rfl hZF _ rfl) rfl ?_
    exact hfin _ rfl
end Go.Proofs.Ytibfnefdpbdkoaa
