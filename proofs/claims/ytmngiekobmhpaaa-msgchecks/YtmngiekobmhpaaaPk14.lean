/- Texts as one: BatSealer, BatTick, TxReader, TxQueue, TxRowsOpen, BatFrame. -/
import Derived.Test.YtmngiekobmhpaaaPk06
import Derived.Test.YtmngiekobmhpaaaPk04
import Derived.BigQuiet
import Derived.BigRegion
import Derived.Test.YtmngiekobmhpaaaPk07
import Derived.Laws.ResultCell
import Derived.Test.YtmngiekobmhpaaaPk05
import Derived.WalkLawsBesides
/- What NewSealer, Waits, copied and Add do. -/
namespace Go.Proofs.Ytmngiekobmhpaaa
open Go.RowKit
set_option linter.unusedVariables false

theorem SlAt.mono {T : TypeId} {w : World} {base base' p : Nat} {q : Value} {au : Int} {s : Seal TxM} (h : SlAt T w base p q au s) (hb : base' ≤ base) : SlAt T w base' p q au s :=
  ⟨h.box, ⟨h.row.1, h.row.2.imp id fun ⟨g, pre, post, cap, q1, q2, q3⟩ => ⟨g, pre, post, cap, q1, Nat.le_trans hb q2, q3⟩⟩, h.at_, h.off, Nat.le_trans hb h.bp, h.ne, h.lt, fun k hk => Nat.le_trans hb (h.lb k hk)⟩

/-- A new sealer. -/
def Seal.new (size wait : Nat) : Seal TxM := ⟨size, wait, [], 0, 0⟩

theorem Seal.new_ok {size wait : Nat} (h1 : 1 ≤ size) (h2 : size ≤ 16) (h3 : 1 ≤ wait) (h4 : wait ≤ 1000) : (Seal.new size wait).Ok :=
  ⟨h1, h2, h3, h4, by simp [Seal.new], by simp [Seal.new]; omega, fun _ => rfl⟩

theorem SlAt.new (T : TypeId) (w : World) (au : Int) (size wait : Nat) : SlAt T (w.alloc (.cells #[.int .i64 au, .int .i64 (size : Int), .int .i64 (wait : Int), .slice none 0 0, .int .i64 0, .int .i64 0] T)) w.heap.size w.heap.size (.slice none 0 0) au (Seal.new size wait) :=
  ⟨Arr.new w T _, QRow.nil _ _ _ _ _, (fun x hx => by cases hx), (fun x hx => by cases hx), Nat.le_refl _, by simp [Value.ownBlock], by simp [Value.ownBlock], by simp [Value.ownBlock]⟩

/-- What adding answers. -/
def addE (s : Seal TxM) (d : TxD) : Nat := if checkL d ≠ 0 then checkL d else if 4 * s.size ≤ s.l.length then 4 else 0

/-- One more, if it is right and there is room. -/
def Seal.put (s : Seal TxM) (x : TxM) : Seal TxM := if addE s x.d = 0 then { s with l := s.l ++ [x] } else s

/-- Behind Add. -/
def Added (T : TypeId) (w : World) (base p : Nat) (q : Value) (au : Int) (s : Seal TxM) (d : TxD) (own : Bool) (e : Ending) (w' : World) : Prop :=
  e = .returned (.int .i64 (addE s d : Int)) ∧ ∃ x q', x.d = d ∧ SlAt T w' base p q' au (s.put x) ∧ Kept (SlB p q) w w' ∧ (∀ k, SlB p q' k → SlB p q k ∨ w.heap.size ≤ k)

/-- Behind Add, where the very one that was given is kept. -/
def AddedX (T : TypeId) (w : World) (base p : Nat) (q : Value) (au : Int) (s : Seal TxM) (x : TxM) (e : Ending) (w' : World) : Prop :=
  e = .returned (.int .i64 (addE s x.d : Int)) ∧ ∃ q', SlAt T w' base p q' au (s.put x) ∧ Kept (SlB p q) w w' ∧ (∀ k, SlB p q' k → SlB p q k ∨ w.heap.size ≤ k)

theorem AddedX.added {T : TypeId} {w : World} {base p : Nat} {q : Value} {au : Int} {s : Seal TxM} {x : TxM} {e : Ending} {w' : World} (h : AddedX T w base p q au s x e w') : Added T w base p q au s x.d true e w' := by
  obtain ⟨h1, q', h2⟩ := h
  exact ⟨h1, x, q', rfl, h2⟩

theorem addedX_no {T : TypeId} {w w' : World} {base p : Nat} {q : Value} {au : Int} {s : Seal TxM} (h : SlAt T w base p q au s) (x : TxM) (hne : addE s x.d ≠ 0) (hb : Below w.heap.size w w') (e : Ending) (he : e = .returned (.int .i64 (addE s x.d : Int))) : AddedX T w base p q au s x e w' :=
  ⟨he, q, by unfold Seal.put; rw [if_neg hne]; exact h.below hb, Kept.of_below hb, fun k hk => Or.inl hk⟩

theorem added_no {T : TypeId} {w w' : World} {base p : Nat} {q : Value} {au : Int} {s : Seal TxM} (h : SlAt T w base p q au s) (x : TxM) (hne : addE s x.d ≠ 0) (hb : Below w.heap.size w w') (e : Ending) (he : e = .returned (.int .i64 (addE s x.d : Int))) : Added T w base p q au s x.d true e w' :=
  ⟨he, x, q, rfl, by unfold Seal.put; rw [if_neg hne]; exact h.below hb, Kept.of_below hb, fun k hk => Or.inl hk⟩

theorem addedX_yes {T : TypeId} {w wF w5 w6 : World} {base p : Nat} {q q' : Value} {au : Int} {s : Seal TxM} (h : SlAt T w base p q au s) (y : TxM) (hE : addE s y.d = 0) (hBF : Below w.heap.size w wF) (hy : y.At wF) (hyo : y.Off (SlB p q)) (hW5 : Below wF.heap.size wF w5)
    (hrow : QRow w6 base 96 9 q' (s.l.length + 1) (flatX s.l ++ y.c)) (hgr : w5.grownBy w6 q.ownBlock) (hfr : ∀ g, q'.ownBlock = some g → q.ownBlock = some g ∨ w5.heap.size ≤ g) (e : Ending) (he : e = .returned (.int .i64 0)) :
    AddedX T w base p q au s y e (w6.setCell ⟨p, 3, none⟩ q') := by
  have hB5 : Below w.heap.size w w5 := hBF.trans (hW5.mono hBF.size)
  have hpw := h.own.2
  have h5s := hB5.size
  have k6 : Kept (SlB p q) w5 w6 := (Kept.of_grown hgr).mono (fun k _ hk => Or.inr hk)
  have k7 : Kept (SlB p q) w5 (w6.setCell ⟨p, 3, none⟩ q') := k6.trans ((Kept.setCell w6 ⟨p, 3, none⟩ q').mono (fun k _ hk => Or.inl hk))
  have hne : q'.ownBlock ≠ some p := by
    intro hq
    rcases hfr p hq with h1 | h1
    · exact h.ne h1
    · omega
  have hy5 : y.At w5 := hy.below hW5
  have ha5 : ∀ x ∈ s.l, x.At w5 := fun x hx => (h.at_ x hx).below hB5
  have hgo : ∀ k, SlB p q' k → SlB p q k ∨ w5.heap.size ≤ k := by
    rintro k (hk | hk)
    · exact Or.inl (Or.inl hk)
    · exact (hfr k hk).imp (fun h => Or.inr h) id
  refine ⟨by rw [hE]; exact he, q', ?_, (Kept.of_below hB5).trans k7, fun k hk => (hgo k hk).imp id (fun h => by omega)⟩
  unfold Seal.put
  rw [if_pos hE]
  refine ⟨?_, ?_, ?_, ?_, h.bp, hne, ?_, ?_⟩
  · exact (((h.below hB5).box.kept (Kept.of_grown hgr) h.ne).set 3 q')
  · show QRow _ base 96 9 q' (s.l ++ [y]).length (flatX (s.l ++ [y]))
    have e1 : (s.l ++ [y]).length = s.l.length + 1 := by simp
    have e2 : flatX (s.l ++ [y]) = flatX s.l ++ y.c := by rw [flatX_append]; simp [flatX]
    rw [e1, e2]
    exact hrow.kept (Kept.setCell w6 ⟨p, 3, none⟩ q') (fun g hg hk => hne (by rw [hg]; exact congrArg some hk))
  · intro x hx
    replace hx : x ∈ s.l ++ [y] := hx
    rw [List.mem_append, List.mem_singleton] at hx
    rcases hx with hx | rfl
    · exact (ha5 x hx).kept k7 (h.off x hx)
    · exact hy5.kept k7 hyo
  · intro x hx
    replace hx : x ∈ s.l ++ [y] := hx
    rw [List.mem_append, List.mem_singleton] at hx
    rcases hx with hx | rfl
    · exact (ha5 x hx).off_grow (h.off x hx) hgo
    · exact hy5.off_grow hyo hgo
  · intro k hk
    rcases hrow.lt with h0 | ⟨g, hg, _, hl⟩
    · omega
    · rw [hk] at hg
      simp at hg
      rw [setCell_size]
      omega
  · intro k hk
    rcases hrow.lt with h0 | ⟨g, hg, hb, _⟩
    · omega
    · rw [hk] at hg
      simp at hg
      omega
end Go.Proofs.Ytmngiekobmhpaaa

/- What cut and Tick do. -/
namespace Go.Proofs.Ytmngiekobmhpaaa
open Go.RowKit
set_option linter.unusedVariables false

theorem flatX_drop (l : List TxM) (n : Nat) : (flatX l).drop (n * 9) = flatX (l.drop n) := by
  induction n generalizing l with
  | zero => simp
  | succ n ih =>
    cases l with
    | nil => simp [flatX]
    | cons x r =>
      have e : flatX (x :: r) = x.c ++ flatX r := by simp [flatX]
      have e2 : (n + 1) * 9 = x.c.length + n * 9 := by rw [TxM.c_length]; omega
      rw [e, List.drop_succ_cons, e2, ← List.drop_drop, List.drop_left, ih]

theorem TxsAt.take {w : World} {ao : Option Addr} {l : List TxM} (h : TxsAt w ao l) (n : Nat) : TxsAt w ao (l.take n) := by
  intro i x hx
  exact h i x (by
    rw [List.getElem?_take] at hx
    split at hx
    · exact hx
    · cases hx)

theorem TxsAt.kept {S : Nat → Prop} {w w' : World} {ao : Option Addr} {l : List TxM} (h : TxsAt w ao l) (hk : Kept S w w') (hb : ∀ b off, ao = some ⟨b, off, none⟩ → ¬ S b) (ho : ∀ x ∈ l, x.Off S) : TxsAt w' ao l := by
  intro i x hx
  obtain ⟨⟨b, off, h1, h2, h3⟩, h4⟩ := h i x hx
  exact ⟨⟨b, off, h1, Nat.lt_of_lt_of_le h2 hk.size, fun j v hv => by rw [hk.cell (p := ⟨b, off + i * 9 + j, none⟩) h2 (hb b off h1)]; exact h3 j v hv⟩, h4.kept hk (ho x (List.mem_of_getElem? hx))⟩

/-- What is cut off the front, and what is left. -/
theorem cut_fin {T : TypeId} {w w2 : World} {base p g off cap : Nat} {au : Int} {s : Seal TxM} (hd : SlAt T w2 base p (.slice (some ⟨g, off, none⟩) s.l.length cap) au s) (hn0 : 0 < s.l.length) (n : Nat) (hn : n = min s.size s.l.length) (ao' : Option Addr) (hao : ¬ cap = n → ao' = some ⟨g, off + n * 9, none⟩) (hob : ∀ k a b, (Value.slice ao' a b).ownBlock = some k → k = g) (kd : Kept (fun k => k = p) w w2)
    (w' : World) (hw : w2.setCell ⟨p, 3, none⟩ (.slice ao' (s.l.length - n) (cap - n)) = w') :
    TxsAt w' (some ⟨g, off, none⟩) (s.l.take s.size) ∧ SlAt T w' base p (.slice ao' (s.l.length - n) (cap - n)) au { s with l := s.l.drop s.size } ∧ Kept (fun k => k = p) w w' := by
  have hgp : g ≠ p := fun e => hd.ne (by rw [← e]; rfl)
  have k2 : Kept (fun k => k = p) w2 w' := by rw [← hw]; exact Kept.setCell w2 ⟨p, 3, none⟩ _
  have hoff : ∀ x ∈ s.l, x.Off (fun k => k = p) := fun x hx => (hd.off x hx).mono (fun k hk => Or.inl hk)
  have hob2 : ∀ k, (Value.slice ao' (s.l.length - n) (cap - n)).ownBlock = some k → k = g := fun k hk => hob k _ _ hk
  refine ⟨((hd.row.txs rfl hd.at_).take _).kept k2 (fun b o e => by simp at e; rw [← e.1]; exact hgp) (fun x hx => hoff x (List.mem_of_mem_take hx)), ?_, kd.trans k2⟩
  have hdr : s.l.drop s.size = s.l.drop n := by
    rw [hn]
    by_cases hl : s.size ≤ s.l.length
    · rw [Nat.min_eq_left hl]
    · rw [List.drop_of_length_le (by omega), List.drop_of_length_le (by omega)]
  have hcut := hd.row.cut n (by omega) ao' (fun b o e hc => by simp at e; rw [hao hc, ← e.1, ← e.2])
  rw [flatX_drop, ← hdr] at hcut
  have hlen : (s.l.drop s.size).length = s.l.length - n := by rw [hdr, List.length_drop]
  refine ⟨?_, ?_, ?_, ?_, hd.bp, ?_, ?_, fun k hk => by rw [hob2 k hk]; exact hd.lb g rfl⟩
  · rw [← hw]
    exact hd.box.set 3 _
  · show QRow w' base 96 9 _ (s.l.drop s.size).length (flatX (s.l.drop s.size))
    rw [hlen]
    exact hcut.kept k2 (fun k hk => by rw [hob2 k hk]; exact hgp)
  · exact fun x hx => (hd.at_ x (List.mem_of_mem_drop hx)).kept k2 (hoff x (List.mem_of_mem_drop hx))
  · intro x hx
    refine (hd.off x (List.mem_of_mem_drop hx)).mono (fun k hk => ?_)
    rcases hk with hk | hk
    · exact Or.inl hk
    · exact Or.inr (by rw [hob2 k hk]; rfl)
  · exact fun e => hgp (hob2 p e).symm
  · intro k hk
    rw [hob2 k hk]
    exact Nat.lt_of_lt_of_le (hd.lt g rfl) k2.size

/-- Behind Tick: what is handed back, and the sealer. -/
def Ticked (T : TypeId) (w : World) (base p : Nat) (q : Value) (au : Int) (s : Seal TxM) (e : Ending) (w' : World) : Prop :=
  ∃ fo fc q', e = .returned (.tuple #[batV (if s.seals = true then au else 0) (if s.seals = true then (s.number : Int) + 1 else 0) fo s.out.length fc, .bool s.seals]) ∧ (fo = none → fc = 0) ∧ TxsAt w' fo s.out ∧ SlAt T w' base p q' au s.tick ∧ Kept (fun k => k = p) w w' ∧ (∀ k, q'.ownBlock = some k → q.ownBlock = some k ∨ w.heap.size ≤ k)

theorem infoBat : (Try.prog.info? 26).map (·.size) = some 3 := by kernel_rfl

theorem results_bat_tmp {fn : Func} {p u : Tmp} (h : fn.results = #[.cell p 26, .tmp u]) (tmps : Array Value) (w : World) (g : Nat) (a n : Int) (ao : Option Addr) (len cap : Nat)
    (hp : tmps.getD p undef = .pointer (some ⟨g, 0, none⟩)) (hg : Arr w g 26 (batC a n ao len cap)) (v : Value) (hv : tmps.getD u undef = v) :
    (results fn tmps).run Try.prog w = .ok (.tuple #[batV a n ao len cap, v]) w := by
  rw [results_cell_tmp h, hp, hv]
  have hl := run_loadVar_row w g 26 26 (batC a n ao len cap).toArray (0, 0) _ hg Try.underlying26 rfl infoBat
  simp [asAddr, hl, batV, batC, Result.andThen]

/-- No batch. -/
def zeroB : List Value := [.int .i64 0, .int .i64 0, .slice none 0 0]

theorem SlAt.setTicks {T : TypeId} {w : World} {base p : Nat} {q : Value} {au : Int} {s : Seal TxM} (h : SlAt T w base p q au s) (t : Nat) : SlAt T (w.setCell ⟨p, 4, none⟩ (.int .i64 (t : Int))) base p q au { s with ticks := t } := by
  have k2 := Kept.setCell w ⟨p, 4, none⟩ (.int .i64 (t : Int))
  exact ⟨h.box.set 4 _, h.row.kept k2 (fun g hg e => h.ne (by rw [hg]; exact congrArg some e)), fun x hx => (h.at_ x hx).kept k2 ((h.off x hx).mono (fun k hk => Or.inl hk)), h.off, h.bp, h.ne, (fun k hk => by rw [setCell_size]; exact h.lt k hk), h.lb⟩

theorem SlAt.setNumber {T : TypeId} {w : World} {base p : Nat} {q : Value} {au : Int} {s : Seal TxM} (h : SlAt T w base p q au s) (t : Nat) : SlAt T (w.setCell ⟨p, 5, none⟩ (.int .i64 (t : Int))) base p q au { s with number := t } := by
  have k2 := Kept.setCell w ⟨p, 5, none⟩ (.int .i64 (t : Int))
  exact ⟨h.box.set 5 _, h.row.kept k2 (fun g hg e => h.ne (by rw [hg]; exact congrArg some e)), fun x hx => (h.at_ x hx).kept k2 ((h.off x hx).mono (fun k hk => Or.inl hk)), h.off, h.bp, h.ne, (fun k hk => by rw [setCell_size]; exact h.lt k hk), h.lb⟩

theorem SlAt.putOff {T : TypeId} {w : World} {base p : Nat} {q : Value} {au : Int} {s : Seal TxM} (h : SlAt T w base p q au s) {a : Addr} (ha : ∀ k, SlB p q k → k ≠ a.block) (ho : ∀ x ∈ s.l, x.Off (fun k => k = a.block)) (v : Value) : SlAt T (w.setCell a v) base p q au s :=
  h.kept (Kept.setCell w a v) (fun k hk e => ha k hk e) ho

theorem Kept.set3 {S : Nat → Prop} {w w' : World} (h : Kept S w w') {g : Nat} (hg : w.heap.size ≤ g) (v0 v1 v2 : Value) : Kept S w (Proofs.Ytmngiekobmhpaaa.set3 w' g v0 v1 v2) :=
  ((h.setNew (a := ⟨g, 0, none⟩) hg v0).setNew (a := ⟨g, 1, none⟩) hg v1).setNew (a := ⟨g, 2, none⟩) hg v2

theorem SlAt.set3 {T : TypeId} {w : World} {base p : Nat} {q : Value} {au : Int} {s : Seal TxM} (h : SlAt T w base p q au s) {g : Nat} (ha : ∀ k, SlB p q k → k ≠ g) (ho : ∀ x ∈ s.l, x.Off (fun k => k = g)) (v0 v1 v2 : Value) : SlAt T (Proofs.Ytmngiekobmhpaaa.set3 w g v0 v1 v2) base p q au s :=
  ((h.putOff (a := ⟨g, 0, none⟩) ha ho v0).putOff (a := ⟨g, 1, none⟩) ha ho v1).putOff (a := ⟨g, 2, none⟩) ha ho v2

theorem TxsAt.set3 {w : World} {ao : Option Addr} {l : List TxM} (h : TxsAt w ao l) {g : Nat} (hb : ∀ b off, ao = some ⟨b, off, none⟩ → b ≠ g) (ho : ∀ x ∈ l, x.Off (fun k => k = g)) (v0 v1 v2 : Value) : TxsAt (Proofs.Ytmngiekobmhpaaa.set3 w g v0 v1 v2) ao l :=
  ((h.kept (Kept.setCell _ ⟨g, 0, none⟩ v0) (fun b o e k => hb b o e k) ho).kept (Kept.setCell _ ⟨g, 1, none⟩ v1) (fun b o e k => hb b o e k) ho).kept (Kept.setCell _ ⟨g, 2, none⟩ v2) (fun b o e k => hb b o e k) ho

/-- A sealer's blocks are older than what is new. -/
theorem SlAt.apart {T : TypeId} {w : World} {base p : Nat} {q : Value} {au : Int} {s : Seal TxM} (h : SlAt T w base p q au s) {g : Nat} (hg : w.heap.size ≤ g) : ∀ k, SlB p q k → k ≠ g := by
  rintro k (rfl | hk)
  · have := h.own.2; omega
  · have := h.lt k hk; omega

theorem ticked_no {T : TypeId} {w w' : World} {base p : Nat} {q : Value} {au : Int} {s : Seal TxM} (hse : s.seals = false) (h : SlAt T w' base p q au s.tick) (hk : Kept (fun k => k = p) w w') (e : Ending) (he : e = .returned (.tuple #[batV 0 0 none 0 0, .bool false])) : Ticked T w base p q au s e w' := by
  have hou : s.out = [] := by unfold Seal.out; rw [hse]; rfl
  unfold Ticked
  rw [hse, hou]
  exact ⟨none, 0, q, he, fun _ => rfl, nil_txs _ _, h, hk, fun k hk => Or.inl hk⟩

theorem ticked_yes {T : TypeId} {w w' : World} {base p : Nat} {q q' : Value} {au : Int} {s : Seal TxM} (hse : s.seals = true) {fo : Option Addr} {fc : Nat} (h0 : fo = none → fc = 0) (hA : TxsAt w' fo (s.l.take s.size)) (h : SlAt T w' base p q' au s.tick) (hk : Kept (fun k => k = p) w w') (hq : ∀ k, q'.ownBlock = some k → q.ownBlock = some k ∨ w.heap.size ≤ k) (e : Ending) (he : e = .returned (.tuple #[batV au ((s.number : Int) + 1) fo (min s.size s.l.length) fc, .bool true])) : Ticked T w base p q au s e w' := by
  have hou : s.out = s.l.take s.size := by unfold Seal.out; rw [hse]; rfl
  unfold Ticked
  rw [hse, hou, List.length_take]
  exact ⟨fo, fc, q', he, h0, hA, h, hk, hq⟩
end Go.Proofs.Ytmngiekobmhpaaa

/- What must does, and the reader's number, text and keys. -/
namespace Go.Proofs.Ytmngiekobmhpaaa
open Go.RowKit
set_option linter.unusedVariables false

/-- The error er, thrown. -/
def thrown (er : Nat) : List PanicEntry := [{ v := .iface 42 (.int .i64 (er : Int)), recovered := false }]

set_option maxRecDepth 100000 in
theorem must_ok (w : World) : Calls Try.prog 135 #[.int .i64 0] w fun e w' => e = .returned (.tuple #[]) ∧ w' = w := by
  go_enter Try.func135, Try.ntmps135
  go_wp2
  go_end0
  exact ⟨rfl, rfl⟩

set_option maxRecDepth 100000 in
theorem must_err (er : Nat) (he : er ≠ 0) (w : World) : Calls Try.prog 135 #[.int .i64 (er : Int)] w fun e w' => e = .panicked (thrown er) ∧ w' = w := by
  have hne : ((er : Int) != 0) = true := by rw [bne_iff_ne]; omega
  go_enter Try.func135, Try.ntmps135
  go_wp2
  exact ⟨rfl, rfl, rfl⟩

/-- A reader's block, a result's, a transaction's that is being read; rows of the call's own. -/
structure RdSt (W : World) (base rb zb tb top : Nat) (T : TypeId) (R : List (Option Addr × List ByteArray)) (w : World) (rcs cs : List Value) : Prop where
  rd : Arr w rb T rcs
  res : Arr w zb 96 zeroC
  tx : Arr w tb 96 cs
  d1 : rb ≠ zb
  d2 : rb ≠ tb
  d3 : zb ≠ tb
  t1 : rb < top
  t2 : zb < top
  t3 : tb < top
  b1 : base ≤ rb
  b2 : base ≤ zb
  b3 : base ≤ tb
  tw : top ≤ w.heap.size
  rows : ∀ p ∈ R, OwnStrs top w p.1 p.2
  bel : Below base W w

theorem RdSt.below {W : World} {base rb zb tb top : Nat} {T : TypeId} {R : List (Option Addr × List ByteArray)} {w w1 : World} {rcs cs : List Value} (h : RdSt W base rb zb tb top T R w rcs cs) (hb : Below w.heap.size w w1) : RdSt W base rb zb tb top T R w1 rcs cs :=
  ⟨h.rd.below hb h.rd.lt, h.res.below hb h.res.lt, h.tx.below hb h.tx.lt, h.d1, h.d2, h.d3, h.t1, h.t2, h.t3, h.b1, h.b2, h.b3, Nat.le_trans h.tw hb.size, fun p hp => (h.rows p hp).below hb, h.bel.trans (hb.mono (by have := h.rd.lt; have := h.b1; omega))⟩

theorem RdSt.setR {W : World} {base rb zb tb top : Nat} {T : TypeId} {R : List (Option Addr × List ByteArray)} {w : World} {rcs cs : List Value} (h : RdSt W base rb zb tb top T R w rcs cs) (i : Nat) (v : Value) : RdSt W base rb zb tb top T R (w.setCell ⟨rb, i, none⟩ v) (rcs.set i v) cs :=
  ⟨h.rd.set i v, h.res.other (p := ⟨rb, i, none⟩) (fun e => h.d1 e.symm) v, h.tx.other (p := ⟨rb, i, none⟩) (fun e => h.d2 e.symm) v, h.d1, h.d2, h.d3, h.t1, h.t2, h.t3, h.b1, h.b2, h.b3, by rw [setCell_size]; exact h.tw, fun p hp => (h.rows p hp).put (p := ⟨rb, i, none⟩) h.t1 v, h.bel.setCell (p := ⟨rb, i, none⟩) h.b1 v⟩

theorem RdSt.setT {W : World} {base rb zb tb top : Nat} {T : TypeId} {R : List (Option Addr × List ByteArray)} {w : World} {rcs cs : List Value} (h : RdSt W base rb zb tb top T R w rcs cs) (i : Nat) (v : Value) : RdSt W base rb zb tb top T R (w.setCell ⟨tb, i, none⟩ v) rcs (cs.set i v) :=
  ⟨h.rd.other (p := ⟨tb, i, none⟩) h.d2 v, h.res.other (p := ⟨tb, i, none⟩) h.d3 v, h.tx.set i v, h.d1, h.d2, h.d3, h.t1, h.t2, h.t3, h.b1, h.b2, h.b3, by rw [setCell_size]; exact h.tw, fun p hp => (h.rows p hp).put (p := ⟨tb, i, none⟩) h.t3 v, h.bel.setCell (p := ⟨tb, i, none⟩) h.b3 v⟩

theorem RdSt.row {W : World} {base rb zb tb top : Nat} {T : TypeId} {R : List (Option Addr × List ByteArray)} {w : World} {rcs cs : List Value} (h : RdSt W base rb zb tb top T R w rcs cs) {a : Option Addr} {ss : List ByteArray} (hr : OwnStrs top w a ss) : RdSt W base rb zb tb top T ((a, ss) :: R) w rcs cs :=
  ⟨h.rd, h.res, h.tx, h.d1, h.d2, h.d3, h.t1, h.t2, h.t3, h.b1, h.b2, h.b3, h.tw, fun p hp => by
    rw [List.mem_cons] at hp
    rcases hp with rfl | hp
    · exact hr
    · exact h.rows p hp, h.bel⟩

set_option maxRecDepth 100000 in
set_option maxHeartbeats 400000 in
theorem number_ok {W : World} {base rb zb tb top : Nat} {R : List (Option Addr × List ByteArray)} {w : World} {rest : ByteArray} {cs : List Value} (st : RdSt W base rb zb tb top 165 R w [.string rest] cs) (hs : rest.size ≤ maxLen) (n k : Nat) (hr : getInt rest.data.toList = (n, k, 0)) :
    Calls Try.prog 132 #[.pointer (some ⟨rb, 0, none⟩)] w fun e w' => e = .returned (.int .i64 (n : Int)) ∧ RdSt W base rb zb tb top 165 R w' [.string (rest.extract k rest.size)] cs := by
  have c0 := st.rd.cell (i := 0) rfl
  have f0 := st.rd.frozen 0
  have fin := st.setR 0 (.string (rest.extract k rest.size))
  have hb := getInt_bounds _ n k hr
  have hl : rest.data.toList.length = rest.size := by simp
  have hk : (k : Int) ≤ rest.size := by omega
  have cG := fun w1 => getInt_at rest w1 n k 0 hs hr
  clear st hr hb hl hs
  go_enter Try.func132, Try.ntmps132
  go_wp2_with fail
  refine (cG _).mono ?_
  rintro e w1 ⟨rfl, rfl⟩
  go_wp2_with fail
  refine (must_ok _).mono ?_
  rintro e w2 ⟨rfl, rfl⟩
  go_wp2
  go_ret
  exact ⟨rfl, fin⟩

set_option maxRecDepth 100000 in
set_option maxHeartbeats 400000 in
theorem number_err {W : World} {base rb zb tb top : Nat} {R : List (Option Addr × List ByteArray)} {w : World} {rest : ByteArray} {cs : List Value} (st : RdSt W base rb zb tb top 165 R w [.string rest] cs) (hs : rest.size ≤ maxLen) (n k er : Nat) (hr : getInt rest.data.toList = (n, k, er)) (he : er ≠ 0) :
    Calls Try.prog 132 #[.pointer (some ⟨rb, 0, none⟩)] w fun e w' => e = .panicked (thrown er) ∧ w' = w := by
  have c0 := st.rd.cell (i := 0) rfl
  have cG := fun w1 => getInt_at rest w1 n k er hs hr
  have cM := must_err er he
  clear st hr hs
  go_enter Try.func132, Try.ntmps132
  go_wp2_with fail
  refine (cG _).mono ?_
  rintro e w1 ⟨rfl, rfl⟩
  go_wp2_with fail
  refine (cM _).mono ?_
  rintro e w2 ⟨rfl, rfl⟩
  go_wp2
  exact ⟨rfl, rfl, rfl⟩

set_option maxRecDepth 100000 in
set_option maxHeartbeats 400000 in
theorem text_ok {W : World} {base rb zb tb top : Nat} {R : List (Option Addr × List ByteArray)} {w : World} {rest : ByteArray} {cs : List Value} (st : RdSt W base rb zb tb top 165 R w [.string rest] cs) (hs : rest.size ≤ maxLen) (t : List UInt8) (k : Nat) (hr : getText rest.data.toList = (t, k, 0)) :
    Calls Try.prog 133 #[.pointer (some ⟨rb, 0, none⟩)] w fun e w' => e = .returned (.string ⟨t.toArray⟩) ∧ RdSt W base rb zb tb top 165 R w' [.string (rest.extract k rest.size)] cs := by
  have c0 := st.rd.cell (i := 0) rfl
  have f0 := st.rd.frozen 0
  have fin := st.setR 0 (.string (rest.extract k rest.size))
  have hb := getText_bounds _ t k hr
  have hl : rest.data.toList.length = rest.size := by simp
  have hk : (k : Int) ≤ rest.size := by omega
  have cG := fun w1 => getText_at rest w1 t k 0 hs hr
  clear st hr hb hl hs
  generalize (⟨t.toArray⟩ : ByteArray) = tt at *
  go_enter Try.func133, Try.ntmps133
  go_wp2_with fail
  refine (cG _).mono ?_
  rintro e w1 ⟨rfl, rfl⟩
  go_wp2_with fail
  refine (must_ok _).mono ?_
  rintro e w2 ⟨rfl, rfl⟩
  go_wp2
  go_ret
  exact ⟨rfl, fin⟩

set_option maxRecDepth 100000 in
set_option maxHeartbeats 400000 in
theorem text_err {W : World} {base rb zb tb top : Nat} {R : List (Option Addr × List ByteArray)} {w : World} {rest : ByteArray} {cs : List Value} (st : RdSt W base rb zb tb top 165 R w [.string rest] cs) (hs : rest.size ≤ maxLen) (t : List UInt8) (k er : Nat) (hr : getText rest.data.toList = (t, k, er)) (he : er ≠ 0) :
    Calls Try.prog 133 #[.pointer (some ⟨rb, 0, none⟩)] w fun e w' => e = .panicked (thrown er) ∧ w' = w := by
  have c0 := st.rd.cell (i := 0) rfl
  have cG := fun w1 => getText_at rest w1 t k er hs hr
  have cM := must_err er he
  clear st hr hs
  generalize (⟨t.toArray⟩ : ByteArray) = tt at *
  go_enter Try.func133, Try.ntmps133
  go_wp2_with fail
  refine (cG _).mono ?_
  rintro e w1 ⟨rfl, rfl⟩
  go_wp2_with fail
  refine (cM _).mono ?_
  rintro e w2 ⟨rfl, rfl⟩
  go_wp2
  exact ⟨rfl, rfl, rfl⟩

/-- A list of at most eight texts out of bytes. -/
theorem getList8 (s : ByteArray) (w : World) (hs : s.size ≤ maxLen) (ts : List (List UInt8)) (k er : Nat) (hr : getList s.data.toList 8 = (ts, k, er)) :
    Calls Try.prog 112 #[.string s, .int .i64 8] w fun e w' => ∃ ao cap, e = .returned (.tuple #[.slice ao (mks ts).length cap, .int .i64 (k : Int), .int .i64 (er : Int)]) ∧ OwnStrs w.heap.size w' ao (mks ts) ∧ (ao = none → cap = 0) ∧ Below w.heap.size w w' := by
  refine (getList_any s 8 w 8 hs (Or.inr (by omega)) (by omega)).mono ?_
  rintro e w' ⟨v, rfl, hg, hb⟩
  rw [hr] at hg
  obtain ⟨ao, cap, rfl, hown⟩ := hg
  have hml : (mks ts).length = ts.length := by simp [mks]
  refine ⟨ao, cap, by rw [hml], ?_, ?_, hb⟩
  · refine own_far (cap := cap) (n := ts.length) ?_ hml.symm
    rw [bl_mks]
    exact hown
  · intro he
    rcases hown.2 with ⟨hv, _⟩ | ⟨g, c, cur, hv, _⟩
    · simp at hv; exact hv.2.2
    · simp at hv; rw [hv.1] at he; cases he

set_option maxRecDepth 100000 in
set_option maxHeartbeats 400000 in
theorem keys_ok {W : World} {base rb zb tb top : Nat} {R : List (Option Addr × List ByteArray)} {w : World} {rest : ByteArray} {cs : List Value} (st : RdSt W base rb zb tb top 165 R w [.string rest] cs) (hs : rest.size ≤ maxLen) (ts : List (List UInt8)) (k : Nat) (hr : getList rest.data.toList 8 = (ts, k, 0)) (hk : k ≤ rest.size) :
    Calls Try.prog 134 #[.pointer (some ⟨rb, 0, none⟩)] w fun e w' => ∃ ao cap, e = .returned (.slice ao (mks ts).length cap) ∧ (ao = none → cap = 0) ∧ RdSt W base rb zb tb top 165 ((ao, mks ts) :: R) w' [.string (rest.extract k rest.size)] cs := by
  have c0 := st.rd.cell (i := 0) rfl
  replace hk : (k : Int) ≤ rest.size := by omega
  have cG := fun w1 => getList8 rest w1 hs ts k 0 hr
  clear hr hs
  generalize mks ts = ms at *
  go_enter Try.func134, Try.ntmps134
  go_wp2_with fail
  refine (cG _).mono ?_
  rintro e w1 ⟨ao, cap, rfl, hO, hn, hb⟩
  have st1 := (st.below hb).row (hO.mono st.tw)
  have fin := st1.setR 0 (.string (rest.extract k rest.size))
  have c1 := st1.rd.cell (i := 0) rfl
  have f1 := st1.rd.frozen 0
  clear st st1 c0 hO hb cG
  go_wp2_with fail
  refine (must_ok _).mono ?_
  rintro e w2 ⟨rfl, rfl⟩
  go_wp2
  go_ret
  exact ⟨ao, cap, rfl, hn, fin⟩

set_option maxRecDepth 100000 in
set_option maxHeartbeats 400000 in
theorem keys_err {W : World} {base rb zb tb top : Nat} {R : List (Option Addr × List ByteArray)} {w : World} {rest : ByteArray} {cs : List Value} (st : RdSt W base rb zb tb top 165 R w [.string rest] cs) (hs : rest.size ≤ maxLen) (ts : List (List UInt8)) (k er : Nat) (hr : getList rest.data.toList 8 = (ts, k, er)) (he : er ≠ 0) :
    Calls Try.prog 134 #[.pointer (some ⟨rb, 0, none⟩)] w fun e w' => e = .panicked (thrown er) ∧ Below w.heap.size w w' := by
  have c0 := st.rd.cell (i := 0) rfl
  have cG := fun w1 => getList8 rest w1 hs ts k er hr
  have cM := must_err er he
  clear hr hs st
  generalize mks ts = ms at *
  go_enter Try.func134, Try.ntmps134
  go_wp2_with fail
  refine (cG _).mono ?_
  rintro e w1 ⟨ao, cap, rfl, hO, hn, hb⟩
  clear hO hn c0 cG
  go_wp2_with fail
  refine (cM _).mono ?_
  rintro e w2 ⟨rfl, rfl⟩
  go_wp2
  exact ⟨rfl, rfl, hb⟩
end Go.Proofs.Ytmngiekobmhpaaa

/- A row of transactions of the call's own, that is appended to. -/
namespace Go.Proofs.Ytmngiekobmhpaaa
open Go.RowKit
set_option linter.unusedVariables false

/-- q is a row of the call's own that holds l. -/
structure TxQ (w : World) (base : Nat) (q : Value) (l : List TxM) : Prop where
  row : QRow w base 96 9 q l.length (flatX l)
  at_ : ∀ x ∈ l, x.At w
  off : ∀ x ∈ l, x.Off (fun k => q.ownBlock = some k)
  lt : ∀ k, q.ownBlock = some k → base ≤ k ∧ k < w.heap.size
  nil : ∀ n cap, q = .slice none n cap → cap = 0

theorem TxQ.empty (w : World) (base : Nat) : TxQ w base (.slice none 0 0) [] :=
  ⟨QRow.nil _ _ _ _ _, (fun x hx => by cases hx), (fun x hx => by cases hx), (fun k hk => by simp [Value.ownBlock] at hk), fun n cap e => by simp at e; exact e.2.symm⟩

theorem TxQ.kept {S : Nat → Prop} {w w' : World} {base : Nat} {q : Value} {l : List TxM} (h : TxQ w base q l) (hk : Kept S w w') (hq : ∀ k, q.ownBlock = some k → ¬ S k) (ho : ∀ x ∈ l, x.Off S) : TxQ w' base q l :=
  ⟨h.row.kept hk hq, fun x hx => (h.at_ x hx).kept hk (ho x hx), h.off, fun k hq => ⟨(h.lt k hq).1, Nat.lt_of_lt_of_le (h.lt k hq).2 hk.size⟩, h.nil⟩

theorem TxQ.below {w w' : World} {base : Nat} {q : Value} {l : List TxM} (h : TxQ w base q l) (hb : Below w.heap.size w w') : TxQ w' base q l :=
  h.kept (Kept.of_below (S := fun _ => False) hb) (fun _ _ h => h) (fun x _ => ⟨fun _ _ _ _ h => h, fun _ _ _ _ h => h⟩)

theorem TxQ.form {w : World} {base : Nat} {q : Value} {l : List TxM} (h : TxQ w base q l) : ∃ ao cap, q = .slice ao l.length cap ∧ (ao = none → cap = 0) ∧ TxsAt w ao l := by
  obtain ⟨ao, cap, rfl, _, _⟩ := h.row.form
  exact ⟨ao, cap, rfl, fun e => h.nil _ _ (by rw [e]), h.row.txs rfl h.at_⟩

/-- More is appended. -/
theorem TxQ.push {w w' : World} {base : Nat} {q q' : Value} {l m : List TxM} (h : TxQ w base q l) (hm : ∀ x ∈ m, x.At w) (hmo : ∀ x ∈ m, x.Off (fun k => q.ownBlock = some k)) (h0 : 0 < m.length)
    (hrow : QRow w' base 96 9 q' (l.length + m.length) (flatX l ++ flatX m)) (hgr : w.grownBy w' q.ownBlock) (hfr : ∀ g, q'.ownBlock = some g → q.ownBlock = some g ∨ w.heap.size ≤ g) : TxQ w' base q' (l ++ m) := by
  have k6 := Kept.of_grown hgr
  refine ⟨by rw [List.length_append, flatX_append]; exact hrow, ?_, ?_, ?_, ?_⟩
  · intro x hx
    rw [List.mem_append] at hx
    rcases hx with hx | hx
    · exact (h.at_ x hx).kept k6 (h.off x hx)
    · exact (hm x hx).kept k6 (hmo x hx)
  · intro x hx
    rw [List.mem_append] at hx
    rcases hx with hx | hx
    · exact (h.at_ x hx).off_grow (h.off x hx) hfr
    · exact (hm x hx).off_grow (hmo x hx) hfr
  · intro k hk
    rcases hrow.lt with hl | ⟨g, hg, hb, hl⟩
    · omega
    · rw [hk] at hg
      simp at hg
      subst hg
      exact ⟨hb, hl⟩
  · intro n cap e
    rcases hrow.2 with ⟨ao, hv, hn⟩ | ⟨g, pre, post, c, hv, _⟩
    · omega
    · rw [hv] at e
      cases e

/-- Lists in new memory keep off what is older. -/
theorem off_own {x : TxM} {b : Nat} {w : World} (h1 : OwnStrs b w x.ra x.d.rs) (h2 : OwnStrs b w x.wa x.d.ws) {S : Nat → Prop} (hS : ∀ k, S k → k < b) : x.Off S := by
  refine ⟨fun bb off e hl hk => ?_, fun bb off e hl hk => ?_⟩
  · obtain ⟨b', off', e', h3, _⟩ := h1 0 hl
    rw [e] at e'
    simp at e'
    have := hS bb hk
    omega
  · obtain ⟨b', off', e', h3, _⟩ := h2 0 hl
    rw [e] at e'
    simp at e'
    have := hS bb hk
    omega

theorem infoTx4 : (Try.prog.info? 96).map (fun i => (i.zero, i.size, i.bytes)) = some (some (.agg #[.int .i64 0, .string ⟨#[]⟩, .string ⟨#[]⟩, .int .u64 0, .int .u64 0, .string ⟨#[]⟩, .string ⟨#[]⟩, .slice none 0 0, .slice none 0 0]), 9, 136) := by kernel_rfl

theorem c_one (x : TxM) : ∀ u ∈ x.c, u.oneCell' = true := by
  have := flatX_one [x]
  simpa [flatX] using this

theorem flatX_single (x : TxM) : flatX [x] = x.c := by simp [flatX]

theorem new_c (w : World) (x : TxM) : ∀ j u, x.c[j]? = some u → (w.alloc (.cells x.c.toArray 96)).cell? ((⟨w.heap.size, 0, none⟩ : Addr).add j) = some u := by
  intro j u hu
  rw [Go.WideShapes.add_plain, Nat.zero_add]
  exact (Arr.new w 96 x.c).cell hu
end Go.Proofs.Ytmngiekobmhpaaa

/- How a row of transactions that came in is opened. (Laid only where the dump has []api.Tx: not yet built.) -/
namespace Go.Proofs.Ytmngiekobmhpaaa
open Go.ChangeShapes Go.WideShapes Go.ChangeAt Go.RowKit Go.Joins Go.Deep
set_option linter.unusedVariables false

/-- How a row of transactions reads. -/
def TxsDatum {H : Type} (d : DataW H) (l : List TxM) : Prop :=
  (d = .nil ∧ l = []) ∨ ∃ (ds rest : List (DataW H)), d = .slice ds rest ∧ ds.length = l.length ∧ ∀ (i : Nat) (y : DataW H) (x : TxM), ds[i]? = some y → l[i]? = some x → TxDatum y x.d

set_option maxRecDepth 100000 in
/-- A row of transactions that came in. -/
theorem open_txs {H : Type} {enc : TypeId × Value → H} {W : World} {fuel : Nat} {a : Option Addr} {len cap : Nat} {y : DataW H × List MemPlace}
    (hf : DataW.trod enc Try.prog W 0 (fun _ => true) true fuel 24 [.slice a len cap] = some y) :
    ∃ l : List TxM, l.length = len ∧ TxsAt W a l ∧ (∀ x ∈ l, TxSizes x.d) ∧ (a = none → cap = 0) ∧ len ≤ maxLen ∧ TxsDatum y.1 l := by
  rcases open_slice Try.underlying24 hf with ⟨hcs, hx⟩ | ⟨x, l, c, m, n, D, Pl, hcs, _, hl, hm, hmm, hx, hc⟩
  · simp at hcs
    obtain ⟨rfl, rfl, rfl⟩ := hcs
    exact ⟨[], rfl, nil_txs _ _, by simp, fun _ => rfl, Nat.zero_le _, Or.inl ⟨by rw [hx], rfl⟩⟩
  · simp at hcs
    obtain ⟨rfl, rfl, rfl⟩ := hcs
    simp at hmm
    subst hmm
    have hall : ∀ i : Nat, ∃ q : TxM, i < len → (∀ j v, q.c[j]? = some v → W.cell? (x.add (i * 9 + j)) = some v) ∧ q.At W ∧ TxSizes q.d ∧ TxDatum (D i) q.d := by
      intro i
      by_cases hi : i < len
      · obtain ⟨cs', h1, h2⟩ := hc i (by omega)
        rw [cellsTx] at h1
        obtain ⟨_, hlen, hcell⟩ := World.cells?_some h1
        obtain ⟨q, rfl, q2, q3, q4⟩ := open_tx_cells h2
        refine ⟨q, fun _ => ⟨fun j v hv => ?_, q2, q3, q4⟩⟩
        have hj : j < q.c.length := (List.getElem?_eq_some_iff.1 hv).1
        have := hcell j (by rw [TxM.c_length] at hj; exact hj)
        rw [add_add] at this
        rw [this, hv]
      · exact ⟨⟨.none, none, 0, none, 0⟩, fun h => absurd h hi⟩
    obtain ⟨Y, hY⟩ := Classical.axiomOfChoice hall
    refine ⟨(List.range len).map Y, by simp, ?_, ?_, (fun h => by cases h), by omega, Or.inr ⟨_, _, by rw [hx], by simp, ?_⟩⟩
    · intro i q hq
      have hi : i < len := by
        by_cases hi : i < len
        · exact hi
        · rw [List.getElem?_eq_none (by simp; omega)] at hq
          cases hq
      obtain rfl : Y i = q := by simpa [hi] using hq
      obtain ⟨c0, q2, _, _⟩ := hY i hi
      obtain ⟨b, off, spot⟩ := x
      have hz := (hY 0 (by omega)).1 0 _ rfl
      have hspot : spot = none := by simpa [Addr.add] using World.cell?_spot hz
      subst hspot
      have hb0 := c0 0 _ rfl
      rw [Go.WideShapes.add_plain] at hb0
      refine ⟨⟨b, off, rfl, World.block_lt_of_cell? W _ hb0, fun j v hv => ?_⟩, q2⟩
      have := c0 j v hv
      rw [Go.WideShapes.add_plain] at this
      rw [← this, Nat.add_assoc]
    · intro q hq
      obtain ⟨i, hi, rfl⟩ := List.mem_map.1 hq
      exact (hY i (by simpa using hi)).2.2.1
    · intro i y' q hy hq
      have hi : i < len := by
        by_cases hi : i < len
        · exact hi
        · rw [List.getElem?_eq_none (by simp; omega)] at hq
          cases hq
      obtain rfl : Y i = q := by simpa [hi] using hq
      obtain rfl : D i = y' := by simpa [hi] using hy
      exact (hY i hi).2.2.2
end Go.Proofs.Ytmngiekobmhpaaa

/- How a batch, and a row of operations, that came in are opened; their sizes. -/
namespace Go.Proofs.Ytmngiekobmhpaaa
open Go.ChangeShapes Go.WideShapes Go.ChangeAt Go.RowKit Go.Joins Go.Deep
set_option linter.unusedVariables false

theorem weightsAll_mem {H : Type} {P : Program} {e : TypeId} : ∀ {l : List (DataW H)} {d : DataW H}, d ∈ l → ∀ n ∈ d.weights P e, n ∈ DataW.weightsAll P e l
  | [], d, h, _, _ => by cases h
  | x :: r, d, h, n, hn => by
    rw [List.mem_cons] at h
    rw [DataW.weightsAll, List.mem_append]
    rcases h with rfl | h
    · exact Or.inl hn
    · exact Or.inr (weightsAll_mem h n hn)

theorem all_of_weights {H : Type} {P : Program} {ts : List TypeId} {ds : List (DataW H)} (h : (DataW.weightsEach P ts ds).all (· ≤ reachBytes) = true) {j : Nat} {t : TypeId} {d : DataW H} (ht : ts[j]? = some t) (hd : ds[j]? = some d) : ∀ n ∈ d.weights P t, n ≤ reachBytes :=
  fun n hn => by simpa using List.all_eq_true.1 h n (DataW.weights_mem_each ht hd n hn)

/-- Its lists are no longer than a machine holds. -/
def TxLens (D : TxD) : Prop := D.rs.length * 16 ≤ 140737488351232 ∧ D.ws.length * 16 ≤ 140737488351232

set_option maxRecDepth 100000 in
theorem tx_fit {H : Type} {d : DataW H} {D : TxD} (h : ∀ n ∈ d.weights Try.prog 96, n ≤ reachBytes) (hs : TxDatum d D) : TxLens D :=
  tx_sized (ts := [96]) (ds := [d]) (by rw [List.all_eq_true]; intro n hn; simp [DataW.weightsEach] at hn; simpa using h n hn) (j := 0) rfl rfl hs

theorem txs_fit {H : Type} {d : DataW H} {l : List TxM} (h : ∀ n ∈ d.weights Try.prog 24, n ≤ reachBytes) (hs : TxsDatum d l) : ∀ x ∈ l, TxLens x.d := by
  rcases hs with ⟨rfl, rfl⟩ | ⟨ds, rest, rfl, hl, hq⟩
  · simp
  · intro x hx
    obtain ⟨i, hi⟩ := List.getElem?_of_mem hx
    have hi' : i < ds.length := by have := (List.getElem?_eq_some_iff.1 hi).1; omega
    refine tx_fit (fun n hn => h n ?_) (hq i ds[i] x (List.getElem?_eq_getElem hi') hi)
    rw [DataW.weights, Try.underlying24]
    simp only [List.mem_cons, List.mem_append]
    exact Or.inr (Or.inl (weightsAll_mem (List.getElem_mem hi') n hn))

theorem array3 {α : Type} {cs : Array α} (h : cs.size = 3) : ∃ c0 c1 c2, cs = #[c0, c1, c2] := by
  obtain ⟨l⟩ := cs
  match l, h with
  | [c0, c1, c2], _ => exact ⟨c0, c1, c2, rfl⟩

theorem list3 {α : Type} {l : List α} (h : l.length = 3) : ∃ c0 c1 c2, l = [c0, c1, c2] := by
  match l, h with
  | [c0, c1, c2], _ => exact ⟨c0, c1, c2, rfl⟩

theorem list2 {α : Type} {l : List α} (h : l.length = 2) : ∃ c0 c1, l = [c0, c1] := by
  match l, h with
  | [c0, c1], _ => exact ⟨c0, c1, rfl⟩

theorem cellsBat : Try.prog.cellsOf 26 = 3 := by kernel_rfl

/-- How a batch reads. -/
def BatDatum {H : Type} (d : DataW H) (l : List TxM) : Prop := ∃ y0 y1 y2, d = .agg [y0, y1, y2] ∧ TxsDatum y2 l

set_option maxRecDepth 100000 in
theorem open_bat {H : Type} {enc : TypeId × Value → H} {W : World} {r : Reach} {b0 : Nat} {v : Value} {d : DataW H} {p : List MemPlace} (hv : Value.okWide Try.prog W r b0 26 v)
    (h : DataW.Trod enc Try.prog W 0 (fun _ => true) true 26 v d p) :
    ∃ (a n : Int) (ao : Option Addr) (l : List TxM) (cap : Nat), v = batV a n ao l.length cap ∧ TxsAt W ao l ∧ (∀ x ∈ l, TxSizes x.d) ∧ (ao = none → cap = 0) ∧ l.length ≤ maxLen ∧ (Lit.int .i64 a).wf = true ∧ (Lit.int .i64 n).wf = true ∧ BatDatum d l := by
  obtain ⟨cs, rfl, hsz⟩ := okWide_struct Try.underlying26 hv
  obtain ⟨c0, c1, c2, rfl⟩ := array3 (hsz.trans cellsBat)
  obtain ⟨fuel, hf⟩ := h
  obtain ⟨xs, n, _, hx, _, hl, hg⟩ := DataW.trod_struct Try.underlying26 hf
  obtain ⟨y0, y1, y2, rfl⟩ := list3 hl
  have g0 := hg 0 _ rfl
  have g1 := hg 1 _ rfl
  have g2 := hg 2 _ rfl
  have kI : Try.prog.cellsOf 3 = 1 := by kernel_rfl
  have kS : Try.prog.cellsOf 24 = 1 := by kernel_rfl
  simp [Value.cells, kI, kS] at g0 g1 g2
  obtain ⟨a0, e0, _, w0⟩ := DataW.trod_int Try.underlying3 g0
  obtain ⟨a1, e1, _, w1⟩ := DataW.trod_int Try.underlying3 g1
  obtain ⟨ao, len, cap, e2⟩ := slice_form Try.underlying24 g2
  simp at e0 e1 e2
  subst e0 e1 e2
  obtain ⟨l, rfl, l1, l2, l3, l4, l5⟩ := open_txs g2
  refine ⟨a0, a1, ao, l, cap, rfl, l1, l2, l3, l4, w0, w1, y0.1, y1.1, y2.1, ?_, l5⟩
  have := (Prod.mk.inj hx).1
  simpa using this

set_option maxRecDepth 100000 in
theorem bat_fit {H : Type} {d : DataW H} {l : List TxM} (h : ∀ n ∈ d.weights Try.prog 26, n ≤ reachBytes) (hs : BatDatum d l) : ∀ x ∈ l, TxLens x.d := by
  obtain ⟨y0, y1, y2, rfl, hq⟩ := hs
  refine txs_fit (fun n hn => h n ?_) hq
  rw [DataW.weights, Try.underlying26]
  exact DataW.weights_mem_each (ts := [3, 3, 24]) (j := 2) rfl rfl n hn

/-- A batch that came in: in sizes that a machine holds. -/
theorem bat_sized {H : Type} {ts : List TypeId} {ds : List (DataW H)} (h : (DataW.weightsEach Try.prog ts ds).all (· ≤ reachBytes) = true) {j : Nat} {d : DataW H} {l : List TxM} (ht : ts[j]? = some 26) (hd : ds[j]? = some d) (hs : BatDatum d l) : ∀ x ∈ l, TxLens x.d := bat_fit (all_of_weights h ht hd) hs
end Go.Proofs.Ytmngiekobmhpaaa
