/- What cut and Tick do. -/
import Derived.Test.YtlfjdbnifhidnaaDoorBatSealer
import Derived.Laws.ResultCell
namespace Go.Proofs.YtlfjdbnifhidnaaDoor
open Go.RowKit
set_option linter.unusedVariables false

theorem flatX_drop (l : List TxM) (n : Nat) : (flatX l).drop (n * 9) = flatX (l.drop n) := by
  induction n generalizing l with
  | zero => simp
  | succ n ih =>
    cases l with
    | nil => simp [flatX]
    | cons x r =>
      have e : flatX (x :: r) = x.c ++ flatX r := by simp [flatX]
      have e2 : (n + 1) * 9 = x.c.length + n * 9 := by rw [TxM.c_length]; omega
      rw [e, List.drop_succ_cons, e2, ← List.drop_drop, List.drop_left, ih]

theorem TxsAt.take {w : World} {ao : Option Addr} {l : List TxM} (h : TxsAt w ao l) (n : Nat) : TxsAt w ao (l.take n) := by
  intro i x hx
  exact h i x (by
    rw [List.getElem?_take] at hx
    split at hx
    · exact hx
    · cases hx)

theorem TxsAt.kept {S : Nat → Prop} {w w' : World} {ao : Option Addr} {l : List TxM} (h : TxsAt w ao l) (hk : Kept S w w') (hb : ∀ b off, ao = some ⟨b, off, none⟩ → ¬ S b) (ho : ∀ x ∈ l, x.Off S) : TxsAt w' ao l := by
  intro i x hx
  obtain ⟨⟨b, off, h1, h2, h3⟩, h4⟩ := h i x hx
  exact ⟨⟨b, off, h1, Nat.lt_of_lt_of_le h2 hk.size, fun j v hv => by rw [hk.cell (p := ⟨b, off + i * 9 + j, none⟩) h2 (hb b off h1)]; exact h3 j v hv⟩, h4.kept hk (ho x (List.mem_of_getElem? hx))⟩

/-- What is cut off the front, and what is left. -/
theorem cut_fin {T : TypeId} {w w2 : World} {base p g off cap : Nat} {au : Int} {s : Seal TxM} (hd : SlAt T w2 base p (.slice (some ⟨g, off, none⟩) s.l.length cap) au s) (hn0 : 0 < s.l.length) (n : Nat) (hn : n = min s.size s.l.length) (ao' : Option Addr) (hao : ¬ cap = n → ao' = some ⟨g, off + n * 9, none⟩) (hob : ∀ k a b, (Value.slice ao' a b).ownBlock = some k → k = g) (kd : Kept (fun k => k = p) w w2)
    (w' : World) (hw : w2.setCell ⟨p, 3, none⟩ (.slice ao' (s.l.length - n) (cap - n)) = w') :
    TxsAt w' (some ⟨g, off, none⟩) (s.l.take s.size) ∧ SlAt T w' base p (.slice ao' (s.l.length - n) (cap - n)) au { s with l := s.l.drop s.size } ∧ Kept (fun k => k = p) w w' := by
  have hgp : g ≠ p := fun e => hd.ne (by rw [← e]; rfl)
  have k2 : Kept (fun k => k = p) w2 w' := by rw [← hw]; exact Kept.setCell w2 ⟨p, 3, none⟩ _
  have hoff : ∀ x ∈ s.l, x.Off (fun k => k = p) := fun x hx => (hd.off x hx).mono (fun k hk => Or.inl hk)
  have hob2 : ∀ k, (Value.slice ao' (s.l.length - n) (cap - n)).ownBlock = some k → k = g := fun k hk => hob k _ _ hk
  refine ⟨((hd.row.txs rfl hd.at_).take _).kept k2 (fun b o e => by simp at e; rw [← e.1]; exact hgp) (fun x hx => hoff x (List.mem_of_mem_take hx)), ?_, kd.trans k2⟩
  have hdr : s.l.drop s.size = s.l.drop n := by
    rw [hn]
    by_cases hl : s.size ≤ s.l.length
    · rw [Nat.min_eq_left hl]
    · rw [List.drop_of_length_le (by omega), List.drop_of_length_le (by omega)]
  have hcut := hd.row.cut n (by omega) ao' (fun b o e hc => by simp at e; rw [hao hc, ← e.1, ← e.2])
  rw [flatX_drop, ← hdr] at hcut
  have hlen : (s.l.drop s.size).length = s.l.length - n := by rw [hdr, List.length_drop]
  refine ⟨?_, ?_, ?_, ?_, hd.bp, ?_, ?_, fun k hk => by rw [hob2 k hk]; exact hd.lb g rfl⟩
  · rw [← hw]
    exact hd.box.set 3 _
  · show QRow w' base 36 9 _ (s.l.drop s.size).length (flatX (s.l.drop s.size))
    rw [hlen]
    exact hcut.kept k2 (fun k hk => by rw [hob2 k hk]; exact hgp)
  · exact fun x hx => (hd.at_ x (List.mem_of_mem_drop hx)).kept k2 (hoff x (List.mem_of_mem_drop hx))
  · intro x hx
    refine (hd.off x (List.mem_of_mem_drop hx)).mono (fun k hk => ?_)
    rcases hk with hk | hk
    · exact Or.inl hk
    · exact Or.inr (by rw [hob2 k hk]; rfl)
  · exact fun e => hgp (hob2 p e).symm
  · intro k hk
    rw [hob2 k hk]
    exact Nat.lt_of_lt_of_le (hd.lt g rfl) k2.size

/-- Behind Tick: what is handed back, and the sealer. -/
def Ticked (T : TypeId) (w : World) (base p : Nat) (q : Value) (au : Int) (s : Seal TxM) (e : Ending) (w' : World) : Prop :=
  ∃ fo fc q', e = .returned (.tuple #[batV (if s.seals = true then au else 0) (if s.seals = true then (s.number : Int) + 1 else 0) fo s.out.length fc, .bool s.seals]) ∧ (fo = none → fc = 0) ∧ TxsAt w' fo s.out ∧ SlAt T w' base p q' au s.tick ∧ Kept (fun k => k = p) w w' ∧ (∀ k, q'.ownBlock = some k → q.ownBlock = some k ∨ w.heap.size ≤ k)

theorem infoBat : (Tryd.prog.info? 24).map (·.size) = some 3 := by kernel_rfl

theorem results_bat_tmp {fn : Func} {p u : Tmp} (h : fn.results = #[.cell p 24, .tmp u]) (tmps : Array Value) (w : World) (g : Nat) (a n : Int) (ao : Option Addr) (len cap : Nat)
    (hp : tmps.getD p undef = .pointer (some ⟨g, 0, none⟩)) (hg : Arr w g 24 (batC a n ao len cap)) (v : Value) (hv : tmps.getD u undef = v) :
    (results fn tmps).run Tryd.prog w = .ok (.tuple #[batV a n ao len cap, v]) w := by
  rw [results_cell_tmp h, hp, hv]
  have hl := run_loadVar_row w g 24 24 (batC a n ao len cap).toArray (0, 0) _ hg Tryd.underlying24 rfl infoBat
  simp [asAddr, hl, batV, batC, Result.andThen]

/-- No batch. -/
def zeroB : List Value := [.int .i64 0, .int .i64 0, .slice none 0 0]

theorem SlAt.setTicks {T : TypeId} {w : World} {base p : Nat} {q : Value} {au : Int} {s : Seal TxM} (h : SlAt T w base p q au s) (t : Nat) : SlAt T (w.setCell ⟨p, 4, none⟩ (.int .i64 (t : Int))) base p q au { s with ticks := t } := by
  have k2 := Kept.setCell w ⟨p, 4, none⟩ (.int .i64 (t : Int))
  exact ⟨h.box.set 4 _, h.row.kept k2 (fun g hg e => h.ne (by rw [hg]; exact congrArg some e)), fun x hx => (h.at_ x hx).kept k2 ((h.off x hx).mono (fun k hk => Or.inl hk)), h.off, h.bp, h.ne, (fun k hk => by rw [setCell_size]; exact h.lt k hk), h.lb⟩

theorem SlAt.setNumber {T : TypeId} {w : World} {base p : Nat} {q : Value} {au : Int} {s : Seal TxM} (h : SlAt T w base p q au s) (t : Nat) : SlAt T (w.setCell ⟨p, 5, none⟩ (.int .i64 (t : Int))) base p q au { s with number := t } := by
  have k2 := Kept.setCell w ⟨p, 5, none⟩ (.int .i64 (t : Int))
  exact ⟨h.box.set 5 _, h.row.kept k2 (fun g hg e => h.ne (by rw [hg]; exact congrArg some e)), fun x hx => (h.at_ x hx).kept k2 ((h.off x hx).mono (fun k hk => Or.inl hk)), h.off, h.bp, h.ne, (fun k hk => by rw [setCell_size]; exact h.lt k hk), h.lb⟩

theorem SlAt.putOff {T : TypeId} {w : World} {base p : Nat} {q : Value} {au : Int} {s : Seal TxM} (h : SlAt T w base p q au s) {a : Addr} (ha : ∀ k, SlB p q k → k ≠ a.block) (ho : ∀ x ∈ s.l, x.Off (fun k => k = a.block)) (v : Value) : SlAt T (w.setCell a v) base p q au s :=
  h.kept (Kept.setCell w a v) (fun k hk e => ha k hk e) ho

/-- Three cells of a block are written. -/
def set3 (w : World) (g : Nat) (v0 v1 v2 : Value) : World := ((w.setCell ⟨g, 0, none⟩ v0).setCell ⟨g, 1, none⟩ v1).setCell ⟨g, 2, none⟩ v2

theorem Arr.set3 {w : World} {g : Nat} {t : TypeId} {a0 a1 a2 : Value} (h : Arr w g t [a0, a1, a2]) (v0 v1 v2 : Value) : Arr (Proofs.YtlfjdbnifhidnaaDoor.set3 w g v0 v1 v2) g t [v0, v1, v2] := ((h.set 0 v0).set 1 v1).set 2 v2

theorem Kept.set3 {S : Nat → Prop} {w w' : World} (h : Kept S w w') {g : Nat} (hg : w.heap.size ≤ g) (v0 v1 v2 : Value) : Kept S w (Proofs.YtlfjdbnifhidnaaDoor.set3 w' g v0 v1 v2) :=
  ((h.setNew (a := ⟨g, 0, none⟩) hg v0).setNew (a := ⟨g, 1, none⟩) hg v1).setNew (a := ⟨g, 2, none⟩) hg v2

theorem SlAt.set3 {T : TypeId} {w : World} {base p : Nat} {q : Value} {au : Int} {s : Seal TxM} (h : SlAt T w base p q au s) {g : Nat} (ha : ∀ k, SlB p q k → k ≠ g) (ho : ∀ x ∈ s.l, x.Off (fun k => k = g)) (v0 v1 v2 : Value) : SlAt T (Proofs.YtlfjdbnifhidnaaDoor.set3 w g v0 v1 v2) base p q au s :=
  ((h.putOff (a := ⟨g, 0, none⟩) ha ho v0).putOff (a := ⟨g, 1, none⟩) ha ho v1).putOff (a := ⟨g, 2, none⟩) ha ho v2

theorem TxsAt.set3 {w : World} {ao : Option Addr} {l : List TxM} (h : TxsAt w ao l) {g : Nat} (hb : ∀ b off, ao = some ⟨b, off, none⟩ → b ≠ g) (ho : ∀ x ∈ l, x.Off (fun k => k = g)) (v0 v1 v2 : Value) : TxsAt (Proofs.YtlfjdbnifhidnaaDoor.set3 w g v0 v1 v2) ao l :=
  ((h.kept (Kept.setCell _ ⟨g, 0, none⟩ v0) (fun b o e k => hb b o e k) ho).kept (Kept.setCell _ ⟨g, 1, none⟩ v1) (fun b o e k => hb b o e k) ho).kept (Kept.setCell _ ⟨g, 2, none⟩ v2) (fun b o e k => hb b o e k) ho

/-- A sealer's blocks are older than what is new. -/
theorem SlAt.apart {T : TypeId} {w : World} {base p : Nat} {q : Value} {au : Int} {s : Seal TxM} (h : SlAt T w base p q au s) {g : Nat} (hg : w.heap.size ≤ g) : ∀ k, SlB p q k → k ≠ g := by
  rintro k (rfl | hk)
  · have := h.own.2; omega
  · have := h.lt k hk; omega

theorem ticked_no {T : TypeId} {w w' : World} {base p : Nat} {q : Value} {au : Int} {s : Seal TxM} (hse : s.seals = false) (h : SlAt T w' base p q au s.tick) (hk : Kept (fun k => k = p) w w') (e : Ending) (he : e = .returned (.tuple #[batV 0 0 none 0 0, .bool false])) : Ticked T w base p q au s e w' := by
  have hou : s.out = [] := by unfold Seal.out; rw [hse]; rfl
  unfold Ticked
  rw [hse, hou]
  exact ⟨none, 0, q, he, fun _ => rfl, nil_txs _ _, h, hk, fun k hk => Or.inl hk⟩

theorem ticked_yes {T : TypeId} {w w' : World} {base p : Nat} {q q' : Value} {au : Int} {s : Seal TxM} (hse : s.seals = true) {fo : Option Addr} {fc : Nat} (h0 : fo = none → fc = 0) (hA : TxsAt w' fo (s.l.take s.size)) (h : SlAt T w' base p q' au s.tick) (hk : Kept (fun k => k = p) w w') (hq : ∀ k, q'.ownBlock = some k → q.ownBlock = some k ∨ w.heap.size ≤ k) (e : Ending) (he : e = .returned (.tuple #[batV au ((s.number : Int) + 1) fo (min s.size s.l.length) fc, .bool true])) : Ticked T w base p q au s e w' := by
  have hou : s.out = s.l.take s.size := by unfold Seal.out; rw [hse]; rfl
  unfold Ticked
  rw [hse, hou, List.length_take]
  exact ⟨fo, fc, q', he, h0, hA, h, hk, hq⟩
end Go.Proofs.YtlfjdbnifhidnaaDoor
