/- Texts as one: HdrDecode, CertDecode, BlkDecode, MsgReadBase, TxRowsOpen, BatFrame. -/
import Derived.Test.YtmngiekobmhpaaaGreatRk09
import Derived.Test.YtmngiekobmhpaaaGreatRk07
import Derived.Test.YtmngiekobmhpaaaGreatRk08
import Derived.Test.YtmngiekobmhpaaaGreatRk05
/- What the reader's ref, refs and package header's Decode do; nothing old in memory is turned. -/
namespace Go.Proofs.YtmngiekobmhpaaaGreat
open Go.RowKit
set_option linter.unusedVariables false

theorem getTags_zero {l : List UInt8} {ts : List TagD} {k er : Nat} (h : getTagsL l = (ts, k, er)) (he : er ≠ 0) : ts = [] ∧ k = 0 := by
  rcases hg : getList l 7 with ⟨ms, j, e⟩
  by_cases h0 : e ≠ 0
  · rw [getTags_err hg h0] at h
    simp only [Prod.mk.injEq] at h
    exact ⟨h.1.symm, h.2.1.symm⟩
  · have e0 : e = 0 := by omega
    subst e0
    rw [getTags_ok hg] at h
    cases hm : eachE getTag ms with
    | error x => rw [hm] at h; simp only [Prod.mk.injEq] at h; exact ⟨h.1.symm, h.2.1.symm⟩
    | ok x => rw [hm] at h; simp only [Prod.mk.injEq] at h; exact absurd h.2.2.symm he

set_option maxRecDepth 100000 in
set_option maxHeartbeats 1000000 in
theorem takeTags_k (rb : Nat) (w : World) (rest : ByteArray) (E : Nat) (hR : Arr w rb 150 [.string rest, .int .i64 (E : Int)]) (hs : rest.size ≤ maxLen) :
    Calls Tryz.prog 134 #[.pointer (some ⟨rb, 0, none⟩), .func (.func 90) #[] #[]] w fun e w' => ∃ (ts : List TagD) (E' : Nat) (rest' : ByteArray) (ao : Option Addr) (cap : Nat), e = .returned (.slice ao ts.length cap) ∧ ts.length ≤ 7 ∧ rest'.size ≤ maxLen ∧
      (∀ (α : Type) (f : List TagD → List UInt8 → Except Nat α), runX E (rdG rest.data.toList f) = runX E' (f ts rest'.data.toList)) ∧ RowAt tagK w' ao ts ∧ (ao = none → cap = 0) ∧ (∀ b, rowFoot tagK ao ts b → w.heap.size ≤ b) ∧ Arr w' rb 150 [.string rest', .int .i64 (E' : Int)] ∧ Kept (fun k => k = rb) w w' := by
  have c0 := hR.cell (i := 0) rfl
  have c1 := hR.cell (i := 1) rfl
  by_cases hE : E = 0
  · subst hE
    rcases hr : getTagsL rest.data.toList with ⟨ts, k, er⟩
    have hl : rest.data.toList.length = rest.size := by simp
    have cG := fun w1 => getTags_any rest w1 hs
    rw [hr] at cG
    by_cases he : er = 0
    · subst he
      have hgb := getTags_back hr
      have b3 := hgb.2.2.1
      have b4 := hgb.2.2.2.1
      clear hgb
      have hk : (k : Int) ≤ rest.size := by omega
      have hstep : Hid (∀ (α : Type) (f : List TagD → List UInt8 → Except Nat α), runX 0 (rdG rest.data.toList f) = runX 0 (f ts (rest.extract k rest.size).data.toList)) := by
        intro α f
        rw [rdG_ok hr, extract_drop]
      have hsz := rest_le rest k hs
      have hn : Hid (ts.length ≤ 7) := b4
      clear hr hl hs b3 b4
      go_enter Tryz.func134, Tryz.ntmps134
      go_wp2_with fail
      refine (cG _).mono ?_
      rintro e w1 ⟨ts', k', er', ao, cap, rfl, heq, hO, hn2, hf, hb⟩
      simp only [Prod.mk.injEq] at heq
      obtain ⟨rfl, rfl, rfl⟩ := heq
      have hR1 := hR.below hb hR.lt
      have fin := hR1.set 0 (.string (rest.extract k rest.size))
      have kin := (Kept.of_below (S := fun k => k = rb) hb).set (p := ⟨rb, 0, none⟩) rfl (.string (rest.extract k rest.size))
      have hOF := hO.kept (Kept.setCell w1 ⟨rb, 0, none⟩ (.string (rest.extract k rest.size))) (fun b hb e => by have := hf b hb; have := hR.lt; have e' : b = rb := e; omega)
      have d0 := hR1.cell (i := 0) rfl
      have f0 := hR1.frozen 0
      clear hR hR1 c0 c1 hO hb cG
      go_wp2
      go_ret
      exact ⟨ts, 0, rest.extract k rest.size, ao, cap, rfl, hn.out, hsz, hstep.out, hOF, hn2, hf, fin, kin⟩
    · have hstep : Hid (∀ (α : Type) (f : List TagD → List UInt8 → Except Nat α), runX 0 (rdG rest.data.toList f) = runX er (f [] rest.data.toList)) := by
        intro α f
        rw [rdG_err hr he, runX_err he]
        rfl
      have hne : ((er : Int) != 0) = true := by rw [bne_iff_ne]; omega
      clear hr hl
      go_enter Tryz.func134, Tryz.ntmps134
      go_wp2_with fail
      refine (cG _).mono ?_
      rintro e w1 ⟨ts', k', er', ao, cap, rfl, heq, hO, hn2, hf, hb⟩
      simp only [Prod.mk.injEq] at heq
      obtain ⟨rfl, rfl, rfl⟩ := heq
      have hR1 := hR.below hb hR.lt
      have fin := hR1.set 1 (.int .i64 (er : Int))
      have kin := (Kept.of_below (S := fun k => k = rb) hb).set (p := ⟨rb, 1, none⟩) rfl (.int .i64 (er : Int))
      have d1 := hR1.cell (i := 1) rfl
      have f1 := hR1.frozen 1
      clear hR hR1 c0 c1 hO hb cG
      go_wp2
      go_ret
      exact ⟨[], er, rest, none, 0, rfl, by simp, hs, hstep.out, nil_row _ _, fun _ => rfl, fun b hb => (nil_foot hb).elim, fin, kin⟩
  · have hE' : ((E : Int) != 0) = true := by rw [bne_iff_ne]; omega
    go_enter Tryz.func134, Tryz.ntmps134
    go_wp2
    go_ret
    exact ⟨[], E, rest, none, 0, rfl, by simp, hs, fun α f => by rw [runX_err hE, runX_err hE], nil_row _ _, fun _ => rfl, fun b hb => (nil_foot hb).elim, hR, Kept.refl _ _⟩

theorem infoRef1 : (Tryz.prog.info? 126).map (·.size) = some 2 := by kernel_rfl

/-- A Ref is read. -/
def rdRef {α : Type} (l : List UInt8) (f : RefD → List UInt8 → Except Nat α) : Except Nat α := rdT l fun d l => rdG l fun ts l => f ⟨⟨d.toArray⟩, ts⟩ l

set_option maxRecDepth 100000 in
set_option maxHeartbeats 1000000 in
theorem ref_k (rb : Nat) (w : World) (rest : ByteArray) (E : Nat) (hR : Arr w rb 150 [.string rest, .int .i64 (E : Int)]) (hs : rest.size ≤ maxLen) :
    Calls Tryz.prog 124 #[.pointer (some ⟨rb, 0, none⟩)] w fun e w' => ∃ (x : RefM) (E' : Nat) (rest' : ByteArray), e = .returned (.agg #[.string x.digest, .slice x.ao x.acks.length x.cap]) ∧ rest'.size ≤ maxLen ∧ x.acks.length ≤ 7 ∧
      (∀ (α : Type) (f : RefD → List UInt8 → Except Nat α), runX E (rdRef rest.data.toList f) = runX E' (f x.d rest'.data.toList)) ∧ refK.At w' x ∧ (∀ b, refK.foot x b → w.heap.size ≤ b) ∧ Arr w' rb 150 [.string rest', .int .i64 (E' : Int)] ∧ Kept (fun k => k = rb) w w' := by
  have hZ := Arr.new w 126 [.string ⟨#[]⟩, .slice none 0 0]
  have hbn := belowNew w (.cells #[.string ⟨#[]⟩, .slice none 0 0] 126)
  have hR0 := hR.below hbn hR.lt
  have c0 := takeText_k rb _ rest E hR0 hs
  have hrl := hR.lt
  go_enter Tryz.func124, Tryz.ntmps124
  go_wp2_with fail
  refine c0.mono ?_
  rintro e w1 ⟨t, E1, r1, rfl, ht, hr1, hf1, hR1, hk1⟩
  have hZ1 := hZ.kept hk1 (by omega)
  have kin1 := (Kept.of_below (S := fun k => k = rb) hbn).trans hk1
  have hz1 := hk1.size
  rw [alloc_size] at hz1
  clear c0 hR hR0 hbn hZ hk1
  have c1 := takeTags_k rb w1 r1 E1 hR1 hr1
  go_wp2_with fail
  refine c1.mono ?_
  rintro e w2 ⟨ts, E2, r2, ao, cap, rfl, h7, hr2, hf2, hO, hn2, hff, hR2, hk2⟩
  have hZ2 := hZ1.kept hk2 (by omega)
  have kin2 := kin1.trans hk2
  clear c1 hR1 hZ1 hk2 kin1
  have z0 := hZ2.cell (i := 0) rfl
  have z1 := hZ2.cell (i := 1) rfl
  have g0 := hZ2.frozen 0
  have g1 := hZ2.frozen 1
  have hZF := (hZ2.set 0 (.string ⟨t.toArray⟩)).set 1 (.slice ao ts.length cap)
  have kF := (kin2.setNew (a := ⟨w.heap.size, 0, none⟩) (Nat.le_refl _) (.string ⟨t.toArray⟩)).setNew (a := ⟨w.heap.size, 1, none⟩) (Nat.le_refl _) (.slice ao ts.length cap)
  have hRF := (hR2.other (p := ⟨w.heap.size, 0, none⟩) (by show rb ≠ w.heap.size; omega) (.string ⟨t.toArray⟩)).other (p := ⟨w.heap.size, 1, none⟩) (by show rb ≠ w.heap.size; omega) (.slice ao ts.length cap)
  have hOF := (hO.kept (Kept.setCell w2 ⟨w.heap.size, 0, none⟩ (.string ⟨t.toArray⟩)) (fun b hb e => by have := hff b hb; have e' : b = w.heap.size := e; omega)).kept (Kept.setCell _ ⟨w.heap.size, 1, none⟩ (.slice ao ts.length cap)) (fun b hb e => by have := hff b hb; have e' : b = w.heap.size := e; omega)
  have hst : Hid (∀ (α : Type) (f : RefD → List UInt8 → Except Nat α), runX E (rdRef rest.data.toList f) = runX E2 (f (RefM.d ⟨⟨t.toArray⟩, ts, ao, cap⟩) r2.data.toList)) := by
    intro α f
    show runX E (rdT _ _) = _
    rw [hf1, hf2]
    rfl
  clear hZ2 kin2 hR2 hO hf1 hf2
  go_wp2
  refine bodyPost_ret (v := .agg #[.string ⟨t.toArray⟩, .slice ao ts.length cap]) (results_cell_row rfl _ _ w.heap.size 126 #[.string ⟨t.toArray⟩, .slice ao ts.length cap] (0, 0) _ rfl hZF Tryz.underlying126 rfl infoRef1) rfl ?_
  exact ⟨⟨⟨t.toArray⟩, ts, ao, cap⟩, E2, r2, rfl, hr2, h7, hst.out, ⟨hOF, hn2⟩, fun b hb => by have := hff b hb; omega, hRF, kF⟩

/-- Refs were read. -/
def GotRefs (T : TypeId) (w : World) (rb : Nat) (n : Nat) (rest : ByteArray) (E : Nat) (e : Ending) (w' : World) : Prop :=
  ∃ (l : List RefM) (E' : Nat) (rest' : ByteArray) (ao : Option Addr) (cap : Nat), e = .returned (.slice ao l.length cap) ∧ rest'.size ≤ maxLen ∧ l.length ≤ n ∧ (∀ x ∈ l, x.acks.length ≤ 7) ∧
    (∀ (α : Type) (f : List RefD → List UInt8 → Except Nat α), runX E (rdRefs n rest.data.toList f) = runX E' (f (rd l) rest'.data.toList)) ∧ RowAt refK w' ao l ∧ (ao = none → cap = 0) ∧ (∀ b, rowFoot refK ao l b → w.heap.size ≤ b) ∧ Arr w' rb T [.string rest', .int .i64 (E' : Int)] ∧ Kept (fun k => k = rb) w w'

set_option maxRecDepth 100000 in
set_option maxHeartbeats 1000000 in
theorem several_k (rb : Nat) (w : World) (rest : ByteArray) (E n : Nat) (hn : n ≤ 4 ∨ E ≠ 0) (hR : Arr w rb 150 [.string rest, .int .i64 (E : Int)]) (hs : rest.size ≤ maxLen) :
    Calls Tryz.prog 123 #[.pointer (some ⟨rb, 0, none⟩), .int .i64 (n : Int), .func (.func 124) #[.pointer (some ⟨rb, 0, none⟩)] #[]] w fun e w' => GotRefs 150 w rb n rest E e w' := by
  obtain ⟨i0, hi, hz0, hz1, hz2⟩ := info_parts infoRef6
  have hrl := hR.lt
  go_enter Tryz.func123, Tryz.ntmps123
  go_wp2
  go_loopw [7] (fun v7 wr => ∃ (l : List RefM) (E' : Nat) (rest' : ByteArray), l.length ≤ n ∧ (n ≤ 4 ∨ E' ≠ 0) ∧ rest'.size ≤ maxLen ∧ (∀ x ∈ l, x.acks.length ≤ 7) ∧ KQ refK 126 wr w.heap.size v7 l ∧ (∀ x ∈ l, ∀ b, refK.foot x b → w.heap.size ≤ b) ∧ Arr wr rb 150 [.string rest', .int .i64 (E' : Int)] ∧ Kept (fun k => k = rb) w wr ∧
    Hid (∀ (α : Type) (f : List RefD → List UInt8 → Except Nat α), runX E (rdRefs n rest.data.toList f) = runX E' (rdRefs (n - l.length) rest'.data.toList (fun rs r => f (rd l ++ rs) r)))) (fun v7 _ => n - slLen v7)
  case atStart => exact ⟨[], E, rest, Nat.zero_le _, hn, hs, by simp, KQ.empty _ _ _ _, by simp, hR, Kept.refl _ _, fun α f => rfl⟩
  case round =>
    clear hn hR hs
    obtain ⟨l, E1, r1, hln, hn, hr1, h7, hq, hfo, hR, hk, HS⟩ := hrel
    have c1 := hR.cell (i := 1) rfl
    obtain ⟨qa, qc, rfl, hqn, hqt⟩ := hq.form
    by_cases hE : E1 = 0
    · subst hE
      by_cases hlt : l.length < n
      · have hn4 : n ≤ 4 := by rcases hn with h | h; exact h; exact absurd rfl h
        have cR := ref_k rb wr r1 0 hR hr1
        have hlt' : (l.length : Int) < (n : Int) := by omega
        obtain ⟨m, hm⟩ : ∃ m, n - l.length = m + 1 := ⟨n - l.length - 1, by omega⟩
        have hsz := hk.size
        go_wp2_with fail
        refine cR.mono ?_
        rintro e w1 ⟨x, E2, r2, rfl, hr2, hx7, hf2, hx, hxf, hR2, hk2⟩
        have hq2 := hq.kept hk2 (fun k hk e => by have := (hq.lt k hk).1; have e' : k = rb := e; omega) (fun x hx b hb e => by have := hfo x hx b hb; have e' : b = rb := e; omega)
        have kin2 := hk.trans hk2
        have hbx := belowNew w1 (.cells #[.string x.digest, .slice x.ao x.acks.length x.cap] 126)
        have hq3 := hq2.below hbx
        have hx3 := Kind.below refK hx hbx
        have hR3 := hR2.below hbx hR2.lt
        have kin3 := kin2.trans (Kept.of_below hbx)
        have hxo : ∀ b, refK.foot x b → (Value.slice qa l.length qc).ownBlock ≠ some b := fun b hb e => by have := hxf b hb; have := (hq.lt b e).2; omega
        have hN := new_ref w1 x
        have HS2 : Hid (∀ (α : Type) (f : List RefD → List UInt8 → Except Nat α), runX E (rdRefs n rest.data.toList f) = runX E2 (rdRefs (n - (l ++ [x]).length) r2.data.toList (fun rs r => f (rd (l ++ [x]) ++ rs) r))) := by
          intro α f
          have e1 : n - (l ++ [x]).length = m := by simp; omega
          rw [HS.out, hm, e1]
          have h2 := hf2 α (fun y l' => rdRefs m l' (fun rs r => f (rd l ++ y :: rs) r))
          show runX 0 (rdT _ _) = _
          have e2 : (fun rs r => f (rd (l ++ [x]) ++ rs) r) = (fun rs r => f (rd l ++ x.d :: rs) r) := by
            funext rs r
            rw [rd_append]
            simp [rd]
          rw [e2]
          exact h2
        clear cR hx hR hq hk hk2 hq2 hbx hR2 kin2 hqt hf2 HS
        have hbs : w.heap.size ≤ (w1.alloc (.cells #[.string x.digest, .slice x.ao x.acks.length x.cap] 126)).heap.size := kin3.size
        go_wp2_with (at_builtin; refine wpList_push (K := refK) rfl _ _ 27 rfl w.heap.size 126 i0 _ 40 Tryz.underlying27 hi hz0 hz1 hz2 rfl _ l rfl hq3 x hx3 hxo ⟨w1.heap.size, 0, none⟩ 1 rfl hN ?c3 ?c4 hbs ?_)
        case c3 => unfold maxLen; omega
        case c4 => omega
        intro ao' cap' w3 hq6 hk6
        have hR6 := hR3.kept hk6 (fun e => by have := (hq3.lt _ e).1; omega)
        have kin6 := kin3.transNew hk6 (fun j hj => (hq3.lt j hj).1)
        have hfo6 : ∀ y ∈ l ++ [x], ∀ b, refK.foot y b → w.heap.size ≤ b := by
          intro y hy b hb
          rw [List.mem_append, List.mem_singleton] at hy
          rcases hy with hy | rfl
          · exact hfo y hy b hb
          · have := hxf b hb; omega
        have h76 : ∀ y ∈ l ++ [x], y.acks.length ≤ 7 := by
          intro y hy
          rw [List.mem_append, List.mem_singleton] at hy
          rcases hy with hy | rfl
          · exact h7 y hy
          · exact hx7
        clear hq3 hx3 hR3 kin3 hxo hN hk6 hm
        go_wp2
        go_roundw
        case rel => exact ⟨l ++ [x], E2, r2, by simp; omega, Or.inl hn4, hr2, h76, hq6, hfo6, hR6, kin6, HS2⟩
        case measure => simp [slLen]; omega
      · have hlt' : ¬ (l.length : Int) < (n : Int) := by omega
        have HF : Hid (∀ (α : Type) (f : List RefD → List UInt8 → Except Nat α), runX E (rdRefs n rest.data.toList f) = runX 0 (f (rd l) r1.data.toList)) := by
          intro α f
          have e1 : n - l.length = 0 := by omega
          rw [HS.out, e1, rdRefs, List.append_nil]
        have hff := hq.foot_ge (B := w.heap.size) (Nat.le_refl _) hfo
        clear HS
        go_wp2
        go_ret
        exact ⟨l, 0, r1, qa, qc, rfl, hr1, hln, h7, HF.out, hqt, hqn, hff, hR, hk⟩
    · have hE' : ((E1 : Int) == 0) = false := beq_eq_false_iff_ne.2 (by omega)
      have HF : Hid (∀ (α : Type) (f : List RefD → List UInt8 → Except Nat α), runX E (rdRefs n rest.data.toList f) = runX E1 (f (rd l) r1.data.toList)) := by
        intro α f
        rw [HS.out, runX_err hE, runX_err hE]
      have hff := hq.foot_ge (B := w.heap.size) (Nat.le_refl _) hfo
      clear HS
      go_wp2
      go_ret
      exact ⟨l, E1, r1, qa, qc, rfl, hr1, hln, h7, HF.out, hqt, hqn, hff, hR, hk⟩

/-- How many Refs there are, and the Refs. -/
def rdNRefs {α : Type} (l : List UInt8) (f : List RefD → List UInt8 → Except Nat α) : Except Nat α := rdI l fun n l => if 4 < n then .error 8 else rdRefs n l f

/-- Refs were read. -/
def GotNRefs (T : TypeId) (w : World) (rb : Nat) (rest : ByteArray) (E : Nat) (e : Ending) (w' : World) : Prop :=
  ∃ (l : List RefM) (E' : Nat) (rest' : ByteArray) (ao : Option Addr) (cap : Nat), e = .returned (.slice ao l.length cap) ∧ rest'.size ≤ maxLen ∧ (∀ x ∈ l, x.acks.length ≤ 7) ∧
    (∀ (α : Type) (f : List RefD → List UInt8 → Except Nat α), runX E (rdNRefs rest.data.toList f) = runX E' (f (rd l) rest'.data.toList)) ∧ RowAt refK w' ao l ∧ (ao = none → cap = 0) ∧ (∀ b, rowFoot refK ao l b → w.heap.size ≤ b) ∧ Arr w' rb T [.string rest', .int .i64 (E' : Int)] ∧ Kept (fun k => k = rb) w w'

set_option maxRecDepth 100000 in
set_option maxHeartbeats 1000000 in
theorem refs_k (rb : Nat) (w : World) (rest : ByteArray) (E : Nat) (hR : Arr w rb 150 [.string rest, .int .i64 (E : Int)]) (hs : rest.size ≤ maxLen) :
    Calls Tryz.prog 94 #[.pointer (some ⟨rb, 0, none⟩)] w fun e w' => GotNRefs 150 w rb rest E e w' := by
  have c0 := takeInt_k rb w rest E hR hs
  have hmf : ∀ (fn : Fn) (first cap : Array Value) (w : World), (Instr.makeFunc fn first cap).run Tryz.prog w = .ok (.func fn first cap) w := fun _ _ _ _ => rfl
  go_enter Tryz.func94, Tryz.ntmps94
  go_wp2_with fail
  refine c0.mono ?_
  rintro e w1 ⟨n, E1, r1, rfl, hn, hr1, hf1, hR1, hk1⟩
  have c1 := refuse_k rb w1 r1 E1 (decide ((4 : Int) < (n : Int))) 8 hR1
  obtain ⟨E2, hE2⟩ : ∃ q, Hid (q = (if decide ((4 : Int) < (n : Int)) = true ∧ E1 = 0 then 8 else E1)) := ⟨_, rfl⟩
  rw [← hE2.out] at c1
  clear c0 hR1
  go_wp2_with fail
  refine c1.mono ?_
  rintro e w2 ⟨rfl, hR2, hk2⟩
  have kin2 := hk1.trans hk2
  have HS : Hid ((n ≤ 4 ∨ E2 ≠ 0) ∧ ∀ (α : Type) (f : List RefD → List UInt8 → Except Nat α), runX E (rdNRefs rest.data.toList f) = runX E2 (rdRefs n r1.data.toList f)) := by
    have e2 := hE2.out
    by_cases h4 : 4 < n
    · by_cases h0 : E1 = 0
      · rw [if_pos ⟨decide_eq_true (by omega), h0⟩] at e2
        refine ⟨Or.inr (by omega), fun α f => ?_⟩
        unfold rdNRefs
        rw [hf1, if_pos h4, h0, e2]
        rfl
      · rw [if_neg (fun h => h0 h.2)] at e2
        refine ⟨Or.inr (by omega), fun α f => ?_⟩
        unfold rdNRefs
        rw [hf1, e2, runX_err h0, runX_err h0]
    · rw [if_neg (fun h => by have := of_decide_eq_true h.1; omega)] at e2
      refine ⟨Or.inl (by omega), fun α f => ?_⟩
      unfold rdNRefs
      rw [hf1, if_neg h4, e2]
  clear hE2 hf1 hk1 hk2 c1
  have c2 := several_k rb w2 r1 E2 n HS.out.1 hR2 hr1
  go_wp2_with fail
  refine c2.mono ?_
  rintro e w3 ⟨l, E3, r3, ao, cap, rfl, hr3, hln, h7, hf3, hO, hno, hff, hR3, hk3⟩
  have kin3 := kin2.trans hk3
  have HF : Hid (∀ (α : Type) (f : List RefD → List UInt8 → Except Nat α), runX E (rdNRefs rest.data.toList f) = runX E3 (f (rd l) r3.data.toList)) := by
    intro α f
    rw [HS.out.2, hf3]
  have hz2 := kin2.size
  clear c2 HS hf3 hk3 kin2
  go_wp2
  go_ret
  exact ⟨l, E3, r3, ao, cap, rfl, hr3, h7, HF.out, hO, hno, fun b hb => by have := hff b hb; omega, hR3, kin3⟩

theorem results_hdr_tmp {fn : Func} {p u : Tmp} (h : fn.results = #[.cell p 30, .tmp u]) (tmps : Array Value) (w : World) (g : Nat) (x : HdrM)
    (hp : tmps.getD p undef = .pointer (some ⟨g, 0, none⟩)) (hg : Arr w g 30 x.c) (v : Value) (hv : tmps.getD u undef = v) :
    (results fn tmps).run Tryz.prog w = .ok (.tuple #[x.v, v]) w := by
  rw [results_cell_tmp h, hp, hv]
  have hl := run_loadVar_row w g 30 30 x.c.toArray (0, 0) _ hg Tryz.underlying30 rfl infoHdr6
  simp [asAddr, hl, HdrM.v, HdrM.c, Result.andThen]

/-- No header. -/
def hdr0 : HdrM := ⟨0, 0, none, [], 0, none, [], 0⟩

theorem hdr0_at (w : World) : hdr0.At w := ⟨nil_row _ _, fun _ => rfl, nil_row _ _, fun _ => rfl⟩

/-- Decode hands back a header and an error. -/
def GotHdr (W : World) (r : Except Nat HdrD) (e : Ending) (w : World) : Prop :=
  ∃ (x : HdrM) (er : Nat), e = .returned (.tuple #[x.v, .int .i64 (er : Int)]) ∧ x.At w ∧ ((er = 0 ∧ r = .ok x.d) ∨ (er ≠ 0 ∧ r = .error er ∧ x = hdr0)) ∧ (∀ b, x.foot b → W.heap.size ≤ b) ∧ Below W.heap.size W w

theorem gotHdr_err {W w : World} {r : Except Nat HdrD} {er : Nat} (h : r = .error er) (he : er ≠ 0) (hb : Below W.heap.size W w) (e : Ending) (hv : e = .returned (.tuple #[hdr0.v, .int .i64 (er : Int)])) : GotHdr W r e w :=
  ⟨hdr0, er, hv, hdr0_at _, Or.inr ⟨he, h, rfl⟩, fun b hb => hb.elim (fun h => (nil_foot h).elim) (fun h => (nil_foot h).elim), hb⟩

/-- What Decode reads, field by field. -/
theorem decH_steps (l : List UInt8) : decH l = rdI l fun a l => rdI l fun r l => rdNRefs l fun rs l => rdL 7 l fun ps l => if l ≠ [] then .error 6 else if (6 : Int) < (a : Int) then .error 2 else .ok ⟨(a : Int), (r : Int), rs, mks ps⟩ := rfl

set_option maxRecDepth 100000 in
set_option maxHeartbeats 2000000 in
theorem hdrDecode_any (s : ByteArray) (W : World) (hs : s.size ≤ maxLen) :
    Calls Tryz.prog 57 #[.string s] W fun e w' => GotHdr W (decH s.data.toList) e w' := by
  obtain ⟨hZ, hR, hB⟩ := two_new W 30 150 [.int .i64 0, .int .i64 0, .slice none 0 0, .slice none 0 0] [.string s, .int .i64 0]
  obtain ⟨out, hout⟩ : ∃ out, out = decH s.data.toList := ⟨_, rfl⟩
  rw [← hout]
  rw [decH_steps] at hout
  have H : Hid (out = _) := (hout.trans (runX_zero _).symm : _ = _)
  clear hout
  have c0 := takeInt_k (W.heap.size + 1) _ s 0 hR hs
  go_enter Tryz.func57, Tryz.ntmps57
  go_wp2_with fail
  refine c0.mono ?_
  rintro e w1 ⟨v0, E1, r1, rfl, hv0, hr1, hf, hR1, hk1⟩
  have hZ1 := hZ.kept hk1 (by omega)
  have hB1 := hB.trans (hk1.below hB.size (fun k hk => by rw [hk]; omega))
  have hx := H.out.trans (hf _ _)
  replace H : Hid (out = _) := hx
  clear hx hf c0 hZ hR hB hk1
  have c1 := takeInt_k (W.heap.size + 1) _ r1 E1 hR1 hr1
  go_wp2_with fail
  refine c1.mono ?_
  rintro e w2 ⟨v1, E2, r2, rfl, hv1, hr2, hf, hR2, hk2⟩
  have hZ2 := hZ1.kept hk2 (by omega)
  have hB2 := hB1.trans (hk2.below hB1.size (fun k hk => by rw [hk]; omega))
  have hx := H.out.trans (hf _ _)
  replace H : Hid (out = _) := hx
  clear hx hf c1 hZ1 hR1 hB1 hk2 hr1
  have c2 := refs_k (W.heap.size + 1) _ r2 E2 hR2 hr2
  go_wp2_with fail
  refine c2.mono ?_
  rintro e w3 ⟨rs, E3, r3, ra, rc, rfl, hr3, h7, hf, hO3, hn3, hff3, hR3, hk3⟩
  have hZ3 := hZ2.kept hk3 (by omega)
  have hB3 := hB2.trans (hk3.below hB2.size (fun k hk => by rw [hk]; omega))
  have hx := H.out.trans (hf _ _)
  replace H : Hid (out = _) := hx
  have hw2 := hR2.lt
  clear hx hf c2 hZ2 hR2 hB2 hk3 hr2
  have c3 := takeList_k (W.heap.size + 1) _ r3 E3 hR3 hr3
  go_wp2_with fail
  refine c3.mono ?_
  rintro e w4 ⟨ps, E4, r4, pa, pc, rfl, hpl, hp7, hr4, hf, hO4, hn4, hR4, hk4⟩
  have hZ4 := hZ3.kept hk4 (by omega)
  have hB4 := hB3.trans (hk4.below hB3.size (fun k hk => by rw [hk]; omega))
  have hO34 := hO3.kept hk4 (fun b hb e => by have := hff3 b hb; have e' : b = W.heap.size + 1 := e; omega)
  have hP4 := hO4.at.row
  have hw3 := hR3.lt
  have hff4 : ∀ b, rowFoot strK pa (mks ps) b → W.heap.size + 1 < b := fun b hb => by have := hO4.foot hb; omega
  have hff3' : ∀ b, rowFoot refK ra rs b → W.heap.size + 1 < b := fun b hb => by have := hff3 b hb; omega
  have hx := H.out.trans (hf _ _)
  replace H : Hid (out = _) := hx
  clear hx hf c3 hZ3 hR3 hB3 hr3 hO3 hO4 hff3
  obtain ⟨pss, hpss⟩ : ∃ q, q = mks ps := ⟨_, rfl⟩
  rw [← hpss] at hP4 hff4 H ⊢
  clear hpss hpl hp7
  have u0 := hR4.cell (i := 0) rfl
  have c4 := refuse_k (W.heap.size + 1) w4 r4 E4 (!r4.toList.isEmpty) 6 hR4
  obtain ⟨E5, hE5⟩ : ∃ q, Hid (q = (if (!r4.toList.isEmpty) = true ∧ E4 = 0 then 6 else E4)) := ⟨_, rfl⟩
  rw [← hE5.out] at c4
  go_wp2_with fail
  refine c4.mono ?_
  rintro e w5 ⟨rfl, hR5, hk5⟩
  have hZ5 := hZ4.kept hk5 (by omega)
  have hB5 := hB4.trans (hk5.below hB4.size (fun k hk => by rw [hk]; omega))
  have hO5 := hO34.kept hk5 (fun b hb e => by have := hff3' b hb; have e' : b = W.heap.size + 1 := e; omega)
  have hP5 := hP4.kept hk5 (fun b hb e => by have := hff4 b hb; have e' : b = W.heap.size + 1 := e; omega)
  clear c4 hZ4 hB4 hO34 hP4 hk5 u0 hR4
  have c5 := refuse_k (W.heap.size + 1) w5 r4 E5 (decide ((6 : Int) < (v0 : Int))) 2 hR5
  obtain ⟨E6, hE6⟩ : ∃ q, Hid (q = (if decide ((6 : Int) < (v0 : Int)) = true ∧ E5 = 0 then 2 else E5)) := ⟨_, rfl⟩
  rw [← hE6.out] at c5
  go_wp2_with fail
  refine c5.mono ?_
  rintro e w6 ⟨rfl, hR6, hk6⟩
  have hZ6 := hZ5.kept hk6 (by omega)
  have hB6 := hB5.trans (hk6.below hB5.size (fun k hk => by rw [hk]; omega))
  have hO6 := hO5.kept hk6 (fun b hb e => by have := hff3' b hb; have e' : b = W.heap.size + 1 := e; omega)
  have hP6 := hP5.kept hk6 (fun b hb e => by have := hff4 b hb; have e' : b = W.heap.size + 1 := e; omega)
  clear c5 hZ5 hB5 hO5 hP5 hk6 hR5
  have HF : Hid ((E6 = 0 ∧ out = .ok (HdrM.d ⟨(v0 : Int), (v1 : Int), ra, rs, rc, pa, pss, pc⟩)) ∨ (E6 ≠ 0 ∧ out = .error E6)) := by
    have e5 := hE5.out
    have e6 := hE6.out
    rcases runX_any H.out with ⟨h1, h2⟩ | ⟨h1, h2⟩
    · by_cases hm : r4.data.toList ≠ []
      · rw [if_pos hm] at h2
        rw [if_pos ⟨by rw [ByteArray.toList_eq]; simpa using hm, h1⟩] at e5
        rw [if_neg (fun h => by omega)] at e6
        exact Or.inr ⟨by omega, by rw [h2, e6, e5]⟩
      · rw [if_neg hm] at h2
        rw [if_neg (fun h => hm (by have := h.1; rw [ByteArray.toList_eq] at this; simpa using this))] at e5
        by_cases h6 : (6 : Int) < (v0 : Int)
        · rw [if_pos h6] at h2
          rw [if_pos ⟨decide_eq_true h6, by omega⟩] at e6
          exact Or.inr ⟨by omega, by rw [h2, e6]⟩
        · rw [if_neg h6] at h2
          rw [if_neg (fun h => h6 (of_decide_eq_true h.1))] at e6
          exact Or.inl ⟨by omega, h2⟩
    · rw [if_neg (fun h => by omega)] at e5
      rw [if_neg (fun h => by omega)] at e6
      exact Or.inr ⟨by omega, by rw [h2, e6, e5]⟩
  clear H hE5 hE6
  have u1 := hR6.cell (i := 1) rfl
  have z0 := hZ6.cell (i := 0) rfl
  have z1 := hZ6.cell (i := 1) rfl
  have z2 := hZ6.cell (i := 2) rfl
  have z3 := hZ6.cell (i := 3) rfl
  have g0 := hZ6.frozen 0
  have g1 := hZ6.frozen 1
  have g2 := hZ6.frozen 2
  have g3 := hZ6.frozen 3
  by_cases he : E6 = 0
  · subst he
    have ho : out = .ok (HdrM.d ⟨(v0 : Int), (v1 : Int), ra, rs, rc, pa, pss, pc⟩) := by
      rcases HF.out with ⟨_, h⟩ | ⟨h, _⟩
      · exact h
      · exact absurd rfl h
    have hZF := hZ6.set4 (.int .i64 (v0 : Int)) (.int .i64 (v1 : Int)) (.slice ra rs.length rc) (.slice pa pss.length pc)
    have hBF := below_set4 hB6 (Nat.le_refl _) (.int .i64 (v0 : Int)) (.int .i64 (v1 : Int)) (.slice ra rs.length rc) (.slice pa pss.length pc)
    have kF := kept_set4 w6 W.heap.size (.int .i64 (v0 : Int)) (.int .i64 (v1 : Int)) (.slice ra rs.length rc) (.slice pa pss.length pc)
    have hOF := hO6.kept kF (fun b hb e => by have := hff3' b hb; have e' : b = W.heap.size := e; omega)
    have hPF := hP6.kept kF (fun b hb e => by have := hff4 b hb; have e' : b = W.heap.size := e; omega)
    have fin : ∀ e, e = .returned (.tuple #[HdrM.v ⟨(v0 : Int), (v1 : Int), ra, rs, rc, pa, pss, pc⟩, .int .i64 0]) → GotHdr W out e _ := fun e hv => ⟨_, 0, hv, ⟨hOF, hn3, hPF, hn4⟩, Or.inl ⟨rfl, ho⟩, fun b hb => hb.elim (fun h => by have := hff3' b h; omega) (fun h => by have := hff4 b h; omega), hBF⟩
    unfold set4 at hZF fin
    clear hZ6 hB6 HF hBF kF hOF hPF hO6 hP6 ho
    go_wp2
    refine bodyPost_ret (v := .tuple #[HdrM.v ⟨(v0 : Int), (v1 : Int), ra, rs, rc, pa, pss, pc⟩, .int .i64 0]) (results_hdr_tmp rfl _ _ W.heap.size ⟨(v0 : Int), (v1 : Int), ra, rs, rc, pa, pss, pc⟩ rfl hZF _ rfl) rfl ?_
    exact fin _ rfl
  · have ho : out = .error E6 := by
      rcases HF.out with ⟨h, _⟩ | ⟨_, h⟩
      · exact absurd h he
      · exact h
    have hne : ((E6 : Int) != 0) = true := by rw [bne_iff_ne]; omega
    have fin : Arr (set4 w6 W.heap.size (.int .i64 0) (.int .i64 0) (.slice none 0 0) (.slice none 0 0)).drew W.heap.size 30 hdr0.c ∧ Below W.heap.size W (set4 w6 W.heap.size (.int .i64 0) (.int .i64 0) (.slice none 0 0) (.slice none 0 0)).drew :=
      ⟨(hZ6.set4 (.int .i64 0) (.int .i64 0) (.slice none 0 0) (.slice none 0 0)).drew, Below.drew (below_set4 hB6 (Nat.le_refl _) (.int .i64 0) (.int .i64 0) (.slice none 0 0) (.slice none 0 0))⟩
    have hfin := fun w' e hb hv => gotHdr_err (W := W) (w := w') (e := e) ho he hb hv
    unfold set4 at fin
    clear hZ6 hB6 HF hO6 hP6
    go_wp2_with fail
    go_region
    revert fin
    generalize (World.setCell _ ⟨W.heap.size, 3, none⟩ (.slice none 0 0)).drew = wf
    intro fin
    try go_wp2
    refine bodyPost_ret (v := .tuple #[hdr0.v, .int .i64 (E6 : Int)]) (results_hdr_tmp rfl _ _ W.heap.size hdr0 rfl fin.1 _ rfl) rfl ?_
    exact hfin _ _ fin.2 rfl
end Go.Proofs.YtmngiekobmhpaaaGreat

/- What cert.Decode does; nothing old in memory is turned. -/
namespace Go.Proofs.YtmngiekobmhpaaaGreat
open Go.RowKit
set_option linter.unusedVariables false

theorem results_cert_tmp {fn : Func} {p u : Tmp} (h : fn.results = #[.cell p 33, .tmp u]) (tmps : Array Value) (w : World) (g : Nat) (x : CertM)
    (hp : tmps.getD p undef = .pointer (some ⟨g, 0, none⟩)) (hg : Arr w g 33 x.c) (v : Value) (hv : tmps.getD u undef = v) :
    (results fn tmps).run Tryz.prog w = .ok (.tuple #[x.v, v]) w := by
  rw [results_cell_tmp h, hp, hv]
  have hl := run_loadVar_row w g 33 33 x.c.toArray (0, 0) _ hg Tryz.underlying33 rfl infoCert7
  simp [asAddr, hl, CertM.v, CertM.c, Result.andThen]

/-- Decode hands back a certificate and an error. -/
def GotCert (W : World) (r : Except Nat CertD) (e : Ending) (w : World) : Prop :=
  ∃ (x : CertM) (er : Nat), e = .returned (.tuple #[x.v, .int .i64 (er : Int)]) ∧ x.At w ∧ ((er = 0 ∧ r = .ok x.d) ∨ (er ≠ 0 ∧ r = .error er ∧ x = cert0)) ∧ (∀ b, x.foot b → W.heap.size ≤ b) ∧ Below W.heap.size W w

theorem gotCert_err {W w : World} {r : Except Nat CertD} {er : Nat} (h : r = .error er) (he : er ≠ 0) (hb : Below W.heap.size W w) (e : Ending) (hv : e = .returned (.tuple #[cert0.v, .int .i64 (er : Int)])) : GotCert W r e w :=
  ⟨cert0, er, hv, cert0_at _, Or.inr ⟨he, h, rfl⟩, fun b hb => hb.elim (fun h => h.elim (fun h => (nil_foot h).elim) (fun h => (nil_foot h).elim)) (fun h => (nil_foot h).elim), hb⟩

/-- The text and what is behind it. -/
theorem decC_step {l t : List UInt8} {k : Nat} (h : getText l = (t, k, 0)) : decC l = match decH t with
    | .error e => .error e
    | .ok x => rdG (l.drop k) fun v l => if l ≠ [] then .error 6 else .ok ⟨x, v⟩ := by
  unfold decC
  rw [rdT_ok h]
  cases decH t <;> rfl

set_option maxRecDepth 100000 in
set_option maxHeartbeats 2000000 in
theorem certDecode_any (s : ByteArray) (W : World) (hs : s.size ≤ maxLen) :
    Calls Tryz.prog 59 #[.string s] W fun e w' => GotCert W (decC s.data.toList) e w' := by
  have hZ := Arr.new W 33 [.int .i64 0, .int .i64 0, .slice none 0 0, .slice none 0 0, .slice none 0 0]
  have hB := belowNew W (.cells #[.int .i64 0, .int .i64 0, .slice none 0 0, .slice none 0 0, .slice none 0 0] 33)
  rcases hr : getText s.data.toList with ⟨t, k, er⟩
  have cG := fun w1 => getText_at s w1 t k er hs hr
  by_cases he : er ≠ 0
  · have ho : decC s.data.toList = .error er := by unfold decC; exact rdT_err hr he
    have hne : ((er : Int) != 0) = true := by rw [bne_iff_ne]; omega
    generalize decC s.data.toList = out at ho
    clear hr
    go_enter Tryz.func59, Tryz.ntmps59
    go_wp2_with fail
    refine (cG _).mono ?_
    rintro e w1 ⟨rfl, rfl⟩
    have z0 := hZ.cell (i := 0) rfl
    have z1 := hZ.cell (i := 1) rfl
    have z2 := hZ.cell (i := 2) rfl
    have z3 := hZ.cell (i := 3) rfl
    have z4 := hZ.cell (i := 4) rfl
    have g0 := hZ.frozen 0
    have g1 := hZ.frozen 1
    have g2 := hZ.frozen 2
    have g3 := hZ.frozen 3
    have g4 := hZ.frozen 4
    have fin : Arr _ W.heap.size 33 cert0.c ∧ Below W.heap.size W _ := ⟨hZ, hB⟩
    have hfin := fun w' e hb hv => gotCert_err (W := W) (w := w') (e := e) ho he hb hv
    clear hZ hB cG
    go_wp2
    refine bodyPost_ret (v := .tuple #[cert0.v, .int .i64 (er : Int)]) (results_cert_tmp rfl _ _ W.heap.size cert0 rfl fin.1 _ rfl) rfl ?_
    exact hfin _ _ fin.2 rfl
  replace he : er = 0 := by omega
  subst he
  have hl : s.data.toList.length = s.size := by simp
  have hbd := getText_bounds _ t k hr
  have hk : (k : Int) ≤ s.size := by omega
  have ht6 : (⟨t.toArray⟩ : ByteArray).size ≤ maxLen := by rw [size_mk]; unfold maxLen; omega
  have cH := fun w1 => hdrDecode_any ⟨t.toArray⟩ w1 ht6
  have hrl := rest_le s k hs
  have cT := fun w1 => getTags_any (s.extract k s.size) w1 hrl
  have hst := decC_step hr
  have hdl : (s.extract k s.size).data.toList = s.data.toList.drop k := extract_drop _ _
  rw [← hdl] at hst
  obtain ⟨rs, hrs⟩ : ∃ q, q = s.extract k s.size := ⟨_, rfl⟩
  obtain ⟨tb, htb⟩ : ∃ q, q = (⟨t.toArray⟩ : ByteArray) := ⟨_, rfl⟩
  have hrsz : rs.size = s.size - k := by rw [hrs, ByteArray.size_extract]; omega
  rw [← hrs] at cT hst
  rw [← htb] at cH cG
  have htd : tb.data.toList = t := by rw [htb]
  rw [htd] at cH
  obtain ⟨out, hout⟩ : ∃ q, q = decC s.data.toList := ⟨_, rfl⟩
  rw [← hout] at hst ⊢
  generalize decH t = dh at cH hst
  have Hst : Hid _ := hst
  have Hrs : Hid (rs = s.extract k s.size) := hrs
  clear hr hl hbd ht6 hrl hdl htb htd hout hst
  go_enter Tryz.func59, Tryz.ntmps59
  go_wp2_with fail
  refine (cG _).mono ?_
  rintro e w1 ⟨rfl, rfl⟩
  clear cG
  go_wp2_with fail
  refine (cH _).mono ?_
  rintro e w1 ⟨x, e1, rfl, hx, hres, hxf, hb1⟩
  unfold HdrM.v
  have hZ1 := hZ.below hb1 hZ.lt
  have hB1 := hB.trans (hb1.mono hB.size)
  have hbx := belowNew w1 (.cells #[.int .i64 x.author, .int .i64 x.round, .slice x.ra x.refs.length x.rc, .slice x.pa x.parents.length x.pc] 30)
  have hX2 := Arr.new w1 30 [.int .i64 x.author, .int .i64 x.round, .slice x.ra x.refs.length x.rc, .slice x.pa x.parents.length x.pc]
  have hZ2 := hZ1.below hbx hZ1.lt
  have hB2 := hB1.trans (hbx.mono hB1.size)
  have hx2 := hx.below hbx
  have hxl : ∀ b, x.foot b → W.heap.size < b := fun b hb => by have := hxf b hb; rw [alloc_size] at this; omega
  have hw1 : W.heap.size < w1.heap.size := hZ1.lt
  clear hZ hB hb1 hbx hZ1 hB1 hx hxf cH
  obtain ⟨w2, hw2⟩ : ∃ q, w1.alloc (.cells #[.int .i64 x.author, .int .i64 x.round, .slice x.ra x.refs.length x.rc, .slice x.pa x.parents.length x.pc] 30) = q := ⟨_, rfl⟩
  rw [hw2] at hX2 hZ2 hB2 hx2
  by_cases he1 : e1 ≠ 0
  · have hne : ((e1 : Int) != 0) = true := by rw [bne_iff_ne]; omega
    have ho : out = .error e1 := by
      rcases hres with ⟨h, _⟩ | ⟨_, h, _⟩
      · exact absurd h he1
      · have := Hst.out
        rw [h] at this
        exact this
    clear Hst hres
    have z0 := hZ2.cell (i := 0) rfl
    have z1 := hZ2.cell (i := 1) rfl
    have z2 := hZ2.cell (i := 2) rfl
    have z3 := hZ2.cell (i := 3) rfl
    have z4 := hZ2.cell (i := 4) rfl
    have g0 := hZ2.frozen 0
    have g1 := hZ2.frozen 1
    have g2 := hZ2.frozen 2
    have g3 := hZ2.frozen 3
    have g4 := hZ2.frozen 4
    have fin : Arr (set5 w2 W.heap.size (.int .i64 0) (.int .i64 0) (.slice none 0 0) (.slice none 0 0) (.slice none 0 0)) W.heap.size 33 cert0.c ∧ Below W.heap.size W (set5 w2 W.heap.size (.int .i64 0) (.int .i64 0) (.slice none 0 0) (.slice none 0 0) (.slice none 0 0)) := ⟨hZ2.set5 (.int .i64 0) (.int .i64 0) (.slice none 0 0) (.slice none 0 0) (.slice none 0 0), below_set5 hB2 (Nat.le_refl _) (.int .i64 0) (.int .i64 0) (.slice none 0 0) (.slice none 0 0) (.slice none 0 0)⟩
    unfold set5 at fin
    have hfin := fun w' e hb hv => gotCert_err (W := W) (w := w') (e := e) ho he1 hb hv
    clear hZ2 hB2 hX2 hx2 cT
    go_wp2
    refine bodyPost_ret (v := .tuple #[cert0.v, .int .i64 (e1 : Int)]) (results_cert_tmp rfl _ _ W.heap.size cert0 rfl fin.1 _ rfl) rfl ?_
    exact hfin _ _ fin.2 rfl
  replace he1 : e1 = 0 := by omega
  subst he1
  have hst : out = rdG rs.data.toList fun v l => if l ≠ [] then .error 6 else .ok ⟨x.d, v⟩ := by
    rcases hres with ⟨_, h⟩ | ⟨h, _⟩
    · have := Hst.out
      rw [h] at this
      exact this
    · exact absurd rfl h
  clear Hst hres
  rcases hg : getTagsL rs.data.toList with ⟨ts, k2, e2⟩
  rw [hg] at cT
  have hrl : rs.data.toList.length = rs.size := by simp
  have hb7 : Hid (e2 = 0 → ts.length ≤ 7) := fun h => by subst h; exact (getTags_back hg).2.2.2.1
  have hok : Hid (out = if e2 ≠ 0 then .error e2 else if k2 < rs.size then .error 6 else .ok ⟨x.d, ts⟩) := by
    show _ = _
    by_cases h : e2 ≠ 0
    · rw [hst, rdG_err hg h, if_pos h]
    · have h0 : e2 = 0 := by omega
      subst h0
      rw [hst, rdG_ok hg, if_neg h]
      by_cases h2 : k2 < rs.size
      · rw [if_pos h2, if_pos]
        intro h3
        have := congrArg List.length h3
        rw [List.length_drop, hrl] at this
        simp at this
        omega
      · rw [if_neg h2, if_neg]
        intro h3
        exact h3 (List.drop_of_length_le (by omega))
  clear hst hg
  have hrs := Hrs.out
  subst hrs
  go_wp2_with fail
  refine (cT _).mono ?_
  rintro e w3 ⟨ts', k2', e2', va, vc, rfl, heq, hT3, hTn, hTf, hb3⟩
  simp only [Prod.mk.injEq] at heq
  obtain ⟨rfl, rfl, rfl⟩ := heq
  have hZ3 := hZ2.below hb3 hZ2.lt
  have hX3 := hX2.below hb3 hX2.lt
  have hx3 := hx2.below hb3
  have hB3 := hB2.trans (hb3.mono hB2.size)
  have hw2z := hX2.lt
  have hTl : ∀ b, rowFoot tagK va ts b → W.heap.size < b := fun b hb => by have := hTf b hb; omega
  clear hZ2 hX2 hx2 hB2 hb3 cT hTf hw2
  by_cases he2 : e2 ≠ 0
  · have hne : ((e2 : Int) != 0) = true := by rw [bne_iff_ne]; omega
    have ho : out = .error e2 := hok.out.trans (if_pos he2)
    clear hok hb7
    have z0 := hZ3.cell (i := 0) rfl
    have z1 := hZ3.cell (i := 1) rfl
    have z2 := hZ3.cell (i := 2) rfl
    have z3 := hZ3.cell (i := 3) rfl
    have z4 := hZ3.cell (i := 4) rfl
    have g0 := hZ3.frozen 0
    have g1 := hZ3.frozen 1
    have g2 := hZ3.frozen 2
    have g3 := hZ3.frozen 3
    have g4 := hZ3.frozen 4
    have fin : Arr (set5 w3 W.heap.size (.int .i64 0) (.int .i64 0) (.slice none 0 0) (.slice none 0 0) (.slice none 0 0)) W.heap.size 33 cert0.c ∧ Below W.heap.size W (set5 w3 W.heap.size (.int .i64 0) (.int .i64 0) (.slice none 0 0) (.slice none 0 0) (.slice none 0 0)) := ⟨hZ3.set5 (.int .i64 0) (.int .i64 0) (.slice none 0 0) (.slice none 0 0) (.slice none 0 0), below_set5 hB3 (Nat.le_refl _) (.int .i64 0) (.int .i64 0) (.slice none 0 0) (.slice none 0 0) (.slice none 0 0)⟩
    unfold set5 at fin
    have hfin := fun w' e hb hv => gotCert_err (W := W) (w := w') (e := e) ho he2 hb hv
    clear hZ3 hB3 hX3 hx3 hT3
    go_wp2
    refine bodyPost_ret (v := .tuple #[cert0.v, .int .i64 (e2 : Int)]) (results_cert_tmp rfl _ _ W.heap.size cert0 rfl fin.1 _ rfl) rfl ?_
    exact hfin _ _ fin.2 rfl
  have hok2 := hok.out.trans (if_neg he2)
  have he20 : e2 = 0 := by omega
  subst he20
  clear hok
  by_cases hm : k2 < (s.extract k s.size).size
  · have hm' : (k2 : Int) < ((s.extract k s.size).size : Int) := by omega
    have ho : out = .error 6 := hok2.trans (if_pos hm)
    clear hok2 hb7
    have z0 := hZ3.cell (i := 0) rfl
    have z1 := hZ3.cell (i := 1) rfl
    have z2 := hZ3.cell (i := 2) rfl
    have z3 := hZ3.cell (i := 3) rfl
    have z4 := hZ3.cell (i := 4) rfl
    have g0 := hZ3.frozen 0
    have g1 := hZ3.frozen 1
    have g2 := hZ3.frozen 2
    have g3 := hZ3.frozen 3
    have g4 := hZ3.frozen 4
    have fin : Arr (set5 w3 W.heap.size (.int .i64 0) (.int .i64 0) (.slice none 0 0) (.slice none 0 0) (.slice none 0 0)) W.heap.size 33 cert0.c ∧ Below W.heap.size W (set5 w3 W.heap.size (.int .i64 0) (.int .i64 0) (.slice none 0 0) (.slice none 0 0) (.slice none 0 0)) := ⟨hZ3.set5 (.int .i64 0) (.int .i64 0) (.slice none 0 0) (.slice none 0 0) (.slice none 0 0), below_set5 hB3 (Nat.le_refl _) (.int .i64 0) (.int .i64 0) (.slice none 0 0) (.slice none 0 0) (.slice none 0 0)⟩
    unfold set5 at fin
    have hfin := fun w' e hb hv => gotCert_err (W := W) (w := w') (e := e) ho (by decide) hb hv
    clear hZ3 hB3 hX3 hx3 hT3
    go_wp2
    refine bodyPost_ret (v := .tuple #[cert0.v, .int .i64 (6 : Int)]) (results_cert_tmp rfl _ _ W.heap.size cert0 rfl fin.1 _ rfl) rfl ?_
    exact hfin _ _ fin.2 rfl
  have hm' : ¬ (k2 : Int) < ((s.extract k s.size).size : Int) := by omega
  have ho : out = .ok (CertM.d ⟨x, va, ts, vc⟩) := hok2.trans (if_neg hm)
  clear hok2 hb7
  have z0 := hZ3.cell (i := 0) rfl
  have z1 := hZ3.cell (i := 1) rfl
  have z2 := hZ3.cell (i := 2) rfl
  have z3 := hZ3.cell (i := 3) rfl
  have z4 := hZ3.cell (i := 4) rfl
  have g0 := hZ3.frozen 0
  have g1 := hZ3.frozen 1
  have g2 := hZ3.frozen 2
  have g3 := hZ3.frozen 3
  have g4 := hZ3.frozen 4
  have x0 := hX3.cell (i := 0) rfl
  have x1 := hX3.cell (i := 1) rfl
  have x2 := hX3.cell (i := 2) rfl
  have x3 := hX3.cell (i := 3) rfl
  have hZF := hZ3.set5 (.int .i64 x.author) (.int .i64 x.round) (.slice x.ra x.refs.length x.rc) (.slice x.pa x.parents.length x.pc) (.slice va ts.length vc)
  have hBF := below_set5 hB3 (Nat.le_refl _) (.int .i64 x.author) (.int .i64 x.round) (.slice x.ra x.refs.length x.rc) (.slice x.pa x.parents.length x.pc) (.slice va ts.length vc)
  have kF := kept_set5 w3 W.heap.size (.int .i64 x.author) (.int .i64 x.round) (.slice x.ra x.refs.length x.rc) (.slice x.pa x.parents.length x.pc) (.slice va ts.length vc)
  have hxF := Kind.kept hdrK hx3 kF (fun b hb e => by have := hxl b hb; have e' : b = W.heap.size := e; omega)
  have hTF := hT3.kept kF (fun b hb e => by have := hTl b hb; have e' : b = W.heap.size := e; omega)
  have fin : ∀ e, e = .returned (.tuple #[CertM.v ⟨x, va, ts, vc⟩, .int .i64 0]) → GotCert W out e _ := fun e hv => ⟨_, 0, hv, ⟨hxF, hTF, hTn⟩, Or.inl ⟨rfl, ho⟩, fun b hb => hb.elim (fun h => by have := hxl b h; omega) (fun h => by have := hTl b h; omega), hBF⟩
  unfold set5 at hZF fin
  clear hZ3 hX3 hx3 hT3 hB3 hBF kF hxF hTF ho
  go_wp2
  refine bodyPost_ret (v := .tuple #[CertM.v ⟨x, va, ts, vc⟩, .int .i64 0]) (results_cert_tmp rfl _ _ W.heap.size ⟨x, va, ts, vc⟩ rfl hZF _ rfl) rfl ?_
  exact fin _ rfl
end Go.Proofs.YtmngiekobmhpaaaGreat

/- What block.DecodeQc and block.Decode do; nothing old in memory is turned. -/
namespace Go.Proofs.YtmngiekobmhpaaaGreat
open Go.RowKit
set_option linter.unusedVariables false

theorem results_qc_tmp {fn : Func} {p u : Tmp} (h : fn.results = #[.cell p 35, .tmp u]) (tmps : Array Value) (w : World) (g : Nat) (x : QcM)
    (hp : tmps.getD p undef = .pointer (some ⟨g, 0, none⟩)) (hg : Arr w g 35 x.c) (v : Value) (hv : tmps.getD u undef = v) :
    (results fn tmps).run Tryz.prog w = .ok (.tuple #[x.v, v]) w := by
  rw [results_cell_tmp h, hp, hv]
  have hl := run_loadVar_row w g 35 35 x.c.toArray (0, 0) _ hg Tryz.underlying35 rfl infoQc8
  simp [asAddr, hl, QcM.v, QcM.c, Result.andThen]

theorem results_blk_tmp {fn : Func} {p u : Tmp} (h : fn.results = #[.cell p 37, .tmp u]) (tmps : Array Value) (w : World) (g : Nat) (x : BlkM)
    (hp : tmps.getD p undef = .pointer (some ⟨g, 0, none⟩)) (hg : Arr w g 37 x.c) (v : Value) (hv : tmps.getD u undef = v) :
    (results fn tmps).run Tryz.prog w = .ok (.tuple #[x.v, v]) w := by
  rw [results_cell_tmp h, hp, hv]
  have hl := run_loadVar_row w g 37 37 x.c.toArray (0, 0) _ hg Tryz.underlying37 rfl infoBlk8
  simp [asAddr, hl, BlkM.v, BlkM.c, Result.andThen]

/-- DecodeQc hands back a quorum's certificate and an error. -/
def GotQc (W : World) (r : Except Nat QcD) (e : Ending) (w : World) : Prop :=
  ∃ (x : QcM) (er : Nat), e = .returned (.tuple #[x.v, .int .i64 (er : Int)]) ∧ x.At w ∧ ((er = 0 ∧ r = .ok x.d) ∨ (er ≠ 0 ∧ r = .error er ∧ x = qc0)) ∧ (∀ b, x.foot b → W.heap.size ≤ b) ∧ Below W.heap.size W w

theorem gotQc_err {W w : World} {r : Except Nat QcD} {er : Nat} (h : r = .error er) (he : er ≠ 0) (hb : Below W.heap.size W w) (e : Ending) (hv : e = .returned (.tuple #[qc0.v, .int .i64 (er : Int)])) : GotQc W r e w :=
  ⟨qc0, er, hv, qc0_at _, Or.inr ⟨he, h, rfl⟩, fun b hb => (nil_foot hb).elim, hb⟩

/-- Decode hands back a block and an error. -/
def GotBlk (W : World) (r : Except Nat BlkD) (e : Ending) (w : World) : Prop :=
  ∃ (x : BlkM) (er : Nat), e = .returned (.tuple #[x.v, .int .i64 (er : Int)]) ∧ x.At w ∧ ((er = 0 ∧ r = .ok x.d) ∨ (er ≠ 0 ∧ r = .error er ∧ x = blk0)) ∧ (∀ b, x.foot b → W.heap.size ≤ b) ∧ Below W.heap.size W w

theorem gotBlk_err {W w : World} {r : Except Nat BlkD} {er : Nat} (h : r = .error er) (he : er ≠ 0) (hb : Below W.heap.size W w) (e : Ending) (hv : e = .returned (.tuple #[blk0.v, .int .i64 (er : Int)])) : GotBlk W r e w :=
  ⟨blk0, er, hv, blk0_at _, Or.inr ⟨he, h, rfl⟩, fun b hb => hb.elim (fun h => (nil_foot h).elim) (fun h => (nil_foot h).elim), hb⟩

set_option maxRecDepth 100000 in
set_option maxHeartbeats 2000000 in
theorem decodeQc_any (s : ByteArray) (W : World) (hs : s.size ≤ maxLen) :
    Calls Tryz.prog 63 #[.string s] W fun e w' => GotQc W (decQ s.data.toList) e w' := by
  have hZ := Arr.new W 35 [.int .i64 0, .string ⟨#[]⟩, .slice none 0 0]
  have hB := belowNew W (.cells #[.int .i64 0, .string ⟨#[]⟩, .slice none 0 0] 35)
  obtain ⟨out, hout⟩ : ∃ q, q = decQ s.data.toList := ⟨_, rfl⟩
  rw [← hout]
  unfold decQ at hout
  rcases hi : getInt s.data.toList with ⟨v, k0, er⟩
  have cI := fun w1 => getInt_at s w1 v k0 er hs hi
  by_cases he : er ≠ 0
  · have ho : out = .error er := hout.trans (rdI_err hi he)
    have hne : ((er : Int) != 0) = true := by rw [bne_iff_ne]; omega
    clear hi hout
    go_enter Tryz.func63, Tryz.ntmps63
    go_wp2_with fail
    refine (cI _).mono ?_
    rintro e w1 ⟨rfl, rfl⟩
    have z0 := hZ.cell (i := 0) rfl
    have z1 := hZ.cell (i := 1) rfl
    have z2 := hZ.cell (i := 2) rfl
    have g0 := hZ.frozen 0
    have g1 := hZ.frozen 1
    have g2 := hZ.frozen 2
    have fin : Arr (W.alloc (.cells #[.int .i64 0, .string ⟨#[]⟩, .slice none 0 0] 35)) W.heap.size 35 qc0.c ∧ Below W.heap.size W (W.alloc (.cells #[.int .i64 0, .string ⟨#[]⟩, .slice none 0 0] 35)) := ⟨hZ, hB⟩
    have hfin := fun w' e hb hv => gotQc_err (W := W) (w := w') (e := e) ho he hb hv
    clear hZ hB cI
    go_wp2
    refine bodyPost_ret (v := .tuple #[qc0.v, .int .i64 (er : Int)]) (results_qc_tmp rfl _ _ W.heap.size qc0 rfl fin.1 _ rfl) rfl ?_
    exact hfin _ _ fin.2 rfl
  replace he : er = 0 := by omega
  subst he
  have hl : s.data.toList.length = s.size := by simp
  have hbd := getInt_bounds _ _ _ hi
  have hk : (k0 : Int) ≤ s.size := by omega
  have hv62 := hbd.1
  have hrl := rest_le s k0 hs
  rw [rdI_ok hi, ← extract_drop] at hout
  obtain ⟨r1, hr1⟩ : ∃ q, q = s.extract k0 s.size := ⟨_, rfl⟩
  rw [← hr1] at hout hrl
  have Hr1 : Hid (r1 = s.extract k0 s.size) := hr1
  rcases ht : getText r1.data.toList with ⟨t, k1, er⟩
  have cT := fun w1 => getText_at r1 w1 t k1 er hrl ht
  clear hi hl hbd
  by_cases he : er ≠ 0
  · have ho : out = .error er := hout.trans (rdT_err ht he)
    have hne : ((er : Int) != 0) = true := by rw [bne_iff_ne]; omega
    clear ht hout hr1
    have hr1 := Hr1.out
    subst hr1
    go_enter Tryz.func63, Tryz.ntmps63
    go_wp2_with fail
    refine (cI _).mono ?_
    rintro e w1 ⟨rfl, rfl⟩
    go_wp2_with fail
    refine (cT _).mono ?_
    rintro e w1 ⟨rfl, rfl⟩
    have z0 := hZ.cell (i := 0) rfl
    have z1 := hZ.cell (i := 1) rfl
    have z2 := hZ.cell (i := 2) rfl
    have g0 := hZ.frozen 0
    have g1 := hZ.frozen 1
    have g2 := hZ.frozen 2
    have fin : Arr (W.alloc (.cells #[.int .i64 0, .string ⟨#[]⟩, .slice none 0 0] 35)) W.heap.size 35 qc0.c ∧ Below W.heap.size W (W.alloc (.cells #[.int .i64 0, .string ⟨#[]⟩, .slice none 0 0] 35)) := ⟨hZ, hB⟩
    have hfin := fun w' e hb hv => gotQc_err (W := W) (w := w') (e := e) ho he hb hv
    clear hZ hB cI cT
    go_wp2
    refine bodyPost_ret (v := .tuple #[qc0.v, .int .i64 (er : Int)]) (results_qc_tmp rfl _ _ W.heap.size qc0 rfl fin.1 _ rfl) rfl ?_
    exact hfin _ _ fin.2 rfl
  replace he : er = 0 := by omega
  subst he
  have hl : r1.data.toList.length = r1.size := by simp
  have hbt := getText_bounds _ t k1 ht
  have hk1 : (k1 : Int) ≤ r1.size := by omega
  have hrl2 := rest_le r1 k1 hrl
  rw [rdT_ok ht, ← extract_drop] at hout
  obtain ⟨r2, hr2⟩ : ∃ q, q = r1.extract k1 r1.size := ⟨_, rfl⟩
  rw [← hr2] at hout hrl2
  have hz1 : r1.size = s.size - k0 := by rw [hr1, ByteArray.size_extract]; omega
  have Hr2 : Hid (r2 = r1.extract k1 (s.size - k0)) := by rw [← hz1]; exact hr2
  obtain ⟨tb, htb⟩ : ∃ q, q = (⟨t.toArray⟩ : ByteArray) := ⟨_, rfl⟩
  rw [← htb] at cT hout
  have cG := fun w1 => getTags_any r2 w1 hrl2
  rcases hg : getTagsL r2.data.toList with ⟨ts, k2, e2⟩
  rw [hg] at cG
  have hl2 : r2.data.toList.length = r2.size := by simp
  have hok : Hid (out = if e2 ≠ 0 then .error e2 else if k2 < r2.size then .error 6 else .ok ⟨(v : Int), tb, ts⟩) := by
    show _ = _
    by_cases h : e2 ≠ 0
    · rw [hout, rdG_err hg h, if_pos h]
    · have h0 : e2 = 0 := by omega
      subst h0
      rw [hout, rdG_ok hg, if_neg h]
      by_cases h2 : k2 < r2.size
      · rw [if_pos h2, if_pos]
        intro h3
        have := congrArg List.length h3
        rw [List.length_drop, hl2] at this
        simp at this
        omega
      · rw [if_neg h2, if_neg]
        intro h3
        exact h3 (List.drop_of_length_le (by omega))
  clear ht hl hbt hout hr1 hr2 hz1 htb hg hl2
  have hr1 := Hr1.out
  subst hr1
  have hr2 := Hr2.out
  subst hr2
  go_enter Tryz.func63, Tryz.ntmps63
  go_wp2_with fail
  refine (cI _).mono ?_
  rintro e w1 ⟨rfl, rfl⟩
  go_wp2_with fail
  refine (cT _).mono ?_
  rintro e w1 ⟨rfl, rfl⟩
  clear cI cT
  go_wp2_with fail
  refine (cG _).mono ?_
  rintro e w3 ⟨ts', k2', e2', va, vc, rfl, heq, hT3, hTn, hTf, hb3⟩
  simp only [Prod.mk.injEq] at heq
  obtain ⟨rfl, rfl, rfl⟩ := heq
  have hZ3 := hZ.below hb3 hZ.lt
  have hB3 := hB.trans (hb3.mono hB.size)
  have hTl : ∀ b, rowFoot tagK va ts b → W.heap.size < b := fun b hb => by have := hTf b hb; rw [alloc_size] at this; omega
  clear hZ hB hb3 cG hTf
  by_cases he2 : e2 ≠ 0
  · have hne : ((e2 : Int) != 0) = true := by rw [bne_iff_ne]; omega
    have ho : out = .error e2 := hok.out.trans (if_pos he2)
    clear hok
    have z0 := hZ3.cell (i := 0) rfl
    have z1 := hZ3.cell (i := 1) rfl
    have z2 := hZ3.cell (i := 2) rfl
    have g0 := hZ3.frozen 0
    have g1 := hZ3.frozen 1
    have g2 := hZ3.frozen 2
    have fin : Arr (set3 w3 W.heap.size (.int .i64 0) (.string ⟨#[]⟩) (.slice none 0 0)) W.heap.size 35 qc0.c ∧ Below W.heap.size W (set3 w3 W.heap.size (.int .i64 0) (.string ⟨#[]⟩) (.slice none 0 0)) := ⟨hZ3.set3 (.int .i64 0) (.string ⟨#[]⟩) (.slice none 0 0), below_set3 hB3 (Nat.le_refl _) (.int .i64 0) (.string ⟨#[]⟩) (.slice none 0 0)⟩
    unfold set3 at fin
    have hfin := fun w' e hb hv => gotQc_err (W := W) (w := w') (e := e) ho he2 hb hv
    clear hZ3 hB3 hT3
    go_wp2
    refine bodyPost_ret (v := .tuple #[qc0.v, .int .i64 (e2 : Int)]) (results_qc_tmp rfl _ _ W.heap.size qc0 rfl fin.1 _ rfl) rfl ?_
    exact hfin _ _ fin.2 rfl
  have hok2 := hok.out.trans (if_neg he2)
  have he20 : e2 = 0 := by omega
  subst he20
  clear hok
  by_cases hm : k2 < ((s.extract k0 s.size).extract k1 (s.size - k0)).size
  · have hm' : k2 < s.size - k0 - k1 := by rw [ByteArray.size_extract, ByteArray.size_extract] at hm; omega
    have ho : out = .error 6 := hok2.trans (if_pos hm)
    clear hok2
    have z0 := hZ3.cell (i := 0) rfl
    have z1 := hZ3.cell (i := 1) rfl
    have z2 := hZ3.cell (i := 2) rfl
    have g0 := hZ3.frozen 0
    have g1 := hZ3.frozen 1
    have g2 := hZ3.frozen 2
    have fin : Arr (set3 w3 W.heap.size (.int .i64 0) (.string ⟨#[]⟩) (.slice none 0 0)) W.heap.size 35 qc0.c ∧ Below W.heap.size W (set3 w3 W.heap.size (.int .i64 0) (.string ⟨#[]⟩) (.slice none 0 0)) := ⟨hZ3.set3 (.int .i64 0) (.string ⟨#[]⟩) (.slice none 0 0), below_set3 hB3 (Nat.le_refl _) (.int .i64 0) (.string ⟨#[]⟩) (.slice none 0 0)⟩
    unfold set3 at fin
    have hfin := fun w' e hb hv => gotQc_err (W := W) (w := w') (e := e) ho (by decide) hb hv
    clear hZ3 hB3 hT3
    go_wp2
    refine bodyPost_ret (v := .tuple #[qc0.v, .int .i64 (6 : Int)]) (results_qc_tmp rfl _ _ W.heap.size qc0 rfl fin.1 _ rfl) rfl ?_
    exact hfin _ _ fin.2 rfl
  have hm' : ¬ k2 < s.size - k0 - k1 := by rw [ByteArray.size_extract, ByteArray.size_extract] at hm; omega
  have ho : out = .ok (QcM.d ⟨(v : Int), tb, va, ts, vc⟩) := hok2.trans (if_neg hm)
  clear hok2
  have z0 := hZ3.cell (i := 0) rfl
  have z1 := hZ3.cell (i := 1) rfl
  have z2 := hZ3.cell (i := 2) rfl
  have g0 := hZ3.frozen 0
  have g1 := hZ3.frozen 1
  have g2 := hZ3.frozen 2
  have hZF := hZ3.set3 (.int .i64 (v : Int)) (.string tb) (.slice va ts.length vc)
  have hBF := below_set3 hB3 (Nat.le_refl _) (.int .i64 (v : Int)) (.string tb) (.slice va ts.length vc)
  have kF := kept_set3 w3 W.heap.size (.int .i64 (v : Int)) (.string tb) (.slice va ts.length vc)
  have hTF := hT3.kept kF (fun b hb e => by have := hTl b hb; have e' : b = W.heap.size := e; omega)
  have fin : ∀ e, e = .returned (.tuple #[QcM.v ⟨(v : Int), tb, va, ts, vc⟩, .int .i64 0]) → GotQc W out e _ := fun e hv => ⟨_, 0, hv, ⟨hTF, hTn⟩, Or.inl ⟨rfl, ho⟩, fun b h => by have := hTl b h; omega, hBF⟩
  unfold set3 at hZF fin
  clear hZ3 hT3 hB3 hBF kF hTF ho
  go_wp2
  refine bodyPost_ret (v := .tuple #[QcM.v ⟨(v : Int), tb, va, ts, vc⟩, .int .i64 0]) (results_qc_tmp rfl _ _ W.heap.size ⟨(v : Int), tb, va, ts, vc⟩ rfl hZF _ rfl) rfl ?_
  exact fin _ rfl

set_option maxRecDepth 100000 in
set_option maxHeartbeats 2000000 in
theorem blkDecode_any (s : ByteArray) (W : World) (hs : s.size ≤ maxLen) :
    Calls Tryz.prog 61 #[.string s] W fun e w' => GotBlk W (decK s.data.toList) e w' := by
  have hZ := Arr.new W 37 [.int .i64 0, .int .i64 0, .string ⟨#[]⟩, .slice none 0 0, .slice none 0 0]
  have hB := belowNew W (.cells #[.int .i64 0, .int .i64 0, .string ⟨#[]⟩, .slice none 0 0, .slice none 0 0] 37)
  obtain ⟨out, hout⟩ : ∃ q, q = decK s.data.toList := ⟨_, rfl⟩
  rw [← hout]
  unfold decK at hout
  rcases hi : getInt s.data.toList with ⟨v, k0, er⟩
  have cI := fun w1 => getInt_at s w1 v k0 er hs hi
  by_cases he : er ≠ 0
  · have ho : out = .error er := hout.trans (rdI_err hi he)
    have hne : ((er : Int) != 0) = true := by rw [bne_iff_ne]; omega
    clear hi hout
    go_enter Tryz.func61, Tryz.ntmps61
    go_wp2_with fail
    refine (cI _).mono ?_
    rintro e w1 ⟨rfl, rfl⟩
    have z0 := hZ.cell (i := 0) rfl
    have z1 := hZ.cell (i := 1) rfl
    have z2 := hZ.cell (i := 2) rfl
    have z3 := hZ.cell (i := 3) rfl
    have z4 := hZ.cell (i := 4) rfl
    have g0 := hZ.frozen 0
    have g1 := hZ.frozen 1
    have g2 := hZ.frozen 2
    have g3 := hZ.frozen 3
    have g4 := hZ.frozen 4
    have fin : Arr (W.alloc (.cells #[.int .i64 0, .int .i64 0, .string ⟨#[]⟩, .slice none 0 0, .slice none 0 0] 37)) W.heap.size 37 blk0.c ∧ Below W.heap.size W (W.alloc (.cells #[.int .i64 0, .int .i64 0, .string ⟨#[]⟩, .slice none 0 0, .slice none 0 0] 37)) := ⟨hZ, hB⟩
    have hfin := fun w' e hb hv => gotBlk_err (W := W) (w := w') (e := e) ho he hb hv
    clear hZ hB cI
    go_wp2
    refine bodyPost_ret (v := .tuple #[blk0.v, .int .i64 (er : Int)]) (results_blk_tmp rfl _ _ W.heap.size blk0 rfl fin.1 _ rfl) rfl ?_
    exact hfin _ _ fin.2 rfl
  replace he : er = 0 := by omega
  subst he
  have hl : s.data.toList.length = s.size := by simp
  have hbd := getInt_bounds _ _ _ hi
  have hk : (k0 : Int) ≤ s.size := by omega
  have hv62 := hbd.1
  have hrl := rest_le s k0 hs
  rw [rdI_ok hi, ← extract_drop] at hout
  obtain ⟨r1, hr1⟩ : ∃ q, q = s.extract k0 s.size := ⟨_, rfl⟩
  rw [← hr1] at hout hrl
  have Hr1 : Hid (r1 = s.extract k0 s.size) := hr1
  rcases ht : getText r1.data.toList with ⟨t, k1, er⟩
  have cT := fun w1 => getText_at r1 w1 t k1 er hrl ht
  clear hi hl hbd
  by_cases he : er ≠ 0
  · have ho : out = .error er := hout.trans (rdT_err ht he)
    have hne : ((er : Int) != 0) = true := by rw [bne_iff_ne]; omega
    clear ht hout hr1
    have hr1 := Hr1.out
    subst hr1
    go_enter Tryz.func61, Tryz.ntmps61
    go_wp2_with fail
    refine (cI _).mono ?_
    rintro e w1 ⟨rfl, rfl⟩
    go_wp2_with fail
    refine (cT _).mono ?_
    rintro e w1 ⟨rfl, rfl⟩
    have z0 := hZ.cell (i := 0) rfl
    have z1 := hZ.cell (i := 1) rfl
    have z2 := hZ.cell (i := 2) rfl
    have z3 := hZ.cell (i := 3) rfl
    have z4 := hZ.cell (i := 4) rfl
    have g0 := hZ.frozen 0
    have g1 := hZ.frozen 1
    have g2 := hZ.frozen 2
    have g3 := hZ.frozen 3
    have g4 := hZ.frozen 4
    have fin : Arr (W.alloc (.cells #[.int .i64 0, .int .i64 0, .string ⟨#[]⟩, .slice none 0 0, .slice none 0 0] 37)) W.heap.size 37 blk0.c ∧ Below W.heap.size W (W.alloc (.cells #[.int .i64 0, .int .i64 0, .string ⟨#[]⟩, .slice none 0 0, .slice none 0 0] 37)) := ⟨hZ, hB⟩
    have hfin := fun w' e hb hv => gotBlk_err (W := W) (w := w') (e := e) ho he hb hv
    clear hZ hB cI cT
    go_wp2
    refine bodyPost_ret (v := .tuple #[blk0.v, .int .i64 (er : Int)]) (results_blk_tmp rfl _ _ W.heap.size blk0 rfl fin.1 _ rfl) rfl ?_
    exact hfin _ _ fin.2 rfl
  replace he : er = 0 := by omega
  subst he
  have hl : r1.data.toList.length = r1.size := by simp
  have hbt := getText_bounds _ t k1 ht
  have hk1 : (k1 : Int) ≤ r1.size := by omega
  have hrl2 := rest_le r1 k1 hrl
  rw [rdT_ok ht, ← extract_drop] at hout
  obtain ⟨r2, hr2⟩ : ∃ q, q = r1.extract k1 r1.size := ⟨_, rfl⟩
  rw [← hr2] at hout hrl2
  have hz1 : r1.size = s.size - k0 := by rw [hr1, ByteArray.size_extract]; omega
  have Hr2 : Hid (r2 = r1.extract k1 (s.size - k0)) := by rw [← hz1]; exact hr2
  have ht6 : (⟨t.toArray⟩ : ByteArray).size ≤ maxLen := by rw [size_mk]; unfold maxLen; omega
  have cQ := fun w1 => decodeQc_any ⟨t.toArray⟩ w1 ht6
  obtain ⟨tb, htb⟩ : ∃ q, q = (⟨t.toArray⟩ : ByteArray) := ⟨_, rfl⟩
  rw [← htb] at cT cQ
  have htd : tb.data.toList = t := by rw [htb]
  rw [htd] at cQ
  generalize decQ t = dq at cQ hout
  rcases hg : getList r2.data.toList 8 with ⟨cs, k2, e2⟩
  have cL := fun w1 => getListN r2 8 (by decide) w1 hrl2 cs k2 e2 hg
  have hl2 : r2.data.toList.length = r2.size := by simp
  have hok : Hid (∀ q, dq = .ok q → out = if e2 ≠ 0 then .error e2 else if k2 < r2.size then .error 6 else .ok ⟨(v : Int), q, mks cs⟩) := by
    intro q hq
    rw [hq] at hout
    simp only at hout
    by_cases h : e2 ≠ 0
    · rw [hout, rdL_err hg h, if_pos h]
    · have h0 : e2 = 0 := by omega
      subst h0
      rw [hout, rdL_ok hg, if_neg h]
      by_cases h2 : k2 < r2.size
      · rw [if_pos h2, if_pos]
        intro h3
        have := congrArg List.length h3
        rw [List.length_drop, hl2] at this
        simp at this
        omega
      · rw [if_neg h2, if_neg]
        intro h3
        exact h3 (List.drop_of_length_le (by omega))
  have hbad : Hid (∀ er, dq = .error er → out = .error er) := by
    intro er h
    rw [h] at hout
    exact hout
  obtain ⟨cl, hcl⟩ : ∃ q, q = mks cs := ⟨_, rfl⟩
  rw [← hcl] at cL hok
  clear ht hl hbt hout hr1 hr2 hz1 htb htd hg hl2 ht6 hcl
  have hr1 := Hr1.out
  subst hr1
  have hr2 := Hr2.out
  subst hr2
  go_enter Tryz.func61, Tryz.ntmps61
  go_wp2_with fail
  refine (cI _).mono ?_
  rintro e w1 ⟨rfl, rfl⟩
  go_wp2_with fail
  refine (cT _).mono ?_
  rintro e w1 ⟨rfl, rfl⟩
  clear cI cT
  go_wp2_with fail
  refine (cQ _).mono ?_
  rintro e w1 ⟨x, e1, rfl, hx, hres, hxf, hb1⟩
  unfold QcM.v
  have hZ1 := hZ.below hb1 hZ.lt
  have hB1 := hB.trans (hb1.mono hB.size)
  have hbx := belowNew w1 (.cells #[.int .i64 x.view, .string x.block, .slice x.va x.votes.length x.vc] 35)
  have hX2 := Arr.new w1 35 [.int .i64 x.view, .string x.block, .slice x.va x.votes.length x.vc]
  have hZ2 := hZ1.below hbx hZ1.lt
  have hB2 := hB1.trans (hbx.mono hB1.size)
  have hx2 := hx.below hbx
  have hxl : ∀ b, x.foot b → W.heap.size < b := fun b hb => by have := hxf b hb; rw [alloc_size] at this; omega
  have hw1 : W.heap.size < w1.heap.size := hZ1.lt
  clear hZ hB hb1 hbx hZ1 hB1 hx hxf cQ
  obtain ⟨w2, hw2⟩ : ∃ q, w1.alloc (.cells #[.int .i64 x.view, .string x.block, .slice x.va x.votes.length x.vc] 35) = q := ⟨_, rfl⟩
  rw [hw2] at hX2 hZ2 hB2 hx2
  by_cases he1 : e1 ≠ 0
  · have hne : ((e1 : Int) != 0) = true := by rw [bne_iff_ne]; omega
    have ho : out = .error e1 := by
      rcases hres with ⟨h, _⟩ | ⟨_, h, _⟩
      · exact absurd h he1
      · exact hbad.out _ h
    clear hbad hok hres
    have z0 := hZ2.cell (i := 0) rfl
    have z1 := hZ2.cell (i := 1) rfl
    have z2 := hZ2.cell (i := 2) rfl
    have z3 := hZ2.cell (i := 3) rfl
    have z4 := hZ2.cell (i := 4) rfl
    have g0 := hZ2.frozen 0
    have g1 := hZ2.frozen 1
    have g2 := hZ2.frozen 2
    have g3 := hZ2.frozen 3
    have g4 := hZ2.frozen 4
    have fin : Arr (set5 w2 W.heap.size (.int .i64 0) (.int .i64 0) (.string ⟨#[]⟩) (.slice none 0 0) (.slice none 0 0)) W.heap.size 37 blk0.c ∧ Below W.heap.size W (set5 w2 W.heap.size (.int .i64 0) (.int .i64 0) (.string ⟨#[]⟩) (.slice none 0 0) (.slice none 0 0)) := ⟨hZ2.set5 (.int .i64 0) (.int .i64 0) (.string ⟨#[]⟩) (.slice none 0 0) (.slice none 0 0), below_set5 hB2 (Nat.le_refl _) (.int .i64 0) (.int .i64 0) (.string ⟨#[]⟩) (.slice none 0 0) (.slice none 0 0)⟩
    unfold set5 at fin
    have hfin := fun w' e hb hv => gotBlk_err (W := W) (w := w') (e := e) ho he1 hb hv
    clear hZ2 hB2 hX2 hx2 cL
    go_wp2
    refine bodyPost_ret (v := .tuple #[blk0.v, .int .i64 (e1 : Int)]) (results_blk_tmp rfl _ _ W.heap.size blk0 rfl fin.1 _ rfl) rfl ?_
    exact hfin _ _ fin.2 rfl
  replace he1 : e1 = 0 := by omega
  subst he1
  have hok1 := hok.out x.d (by
    rcases hres with ⟨_, h⟩ | ⟨h, _⟩
    · exact h
    · exact absurd rfl h)
  clear hok hbad hres
  have hok : Hid _ := hok1
  clear hok1
  go_wp2_with fail
  refine (cL _).mono ?_
  rintro e w3 ⟨ca, cc, rfl, hO3, hCn, hb3⟩
  have hZ3 := hZ2.below hb3 hZ2.lt
  have hX3 := hX2.below hb3 hX2.lt
  have hx3 := hx2.below hb3
  have hB3 := hB2.trans (hb3.mono hB2.size)
  have hw2z := hX2.lt
  have hT3 := hO3.at.row
  have hTl : ∀ b, rowFoot strK ca cl b → W.heap.size < b := fun b hb => by have := hO3.foot hb; omega
  clear hZ2 hX2 hx2 hB2 hb3 cL hO3 hw2
  by_cases he2 : e2 ≠ 0
  · have hne : ((e2 : Int) != 0) = true := by rw [bne_iff_ne]; omega
    have ho : out = .error e2 := hok.out.trans (if_pos he2)
    clear hok
    have z0 := hZ3.cell (i := 0) rfl
    have z1 := hZ3.cell (i := 1) rfl
    have z2 := hZ3.cell (i := 2) rfl
    have z3 := hZ3.cell (i := 3) rfl
    have z4 := hZ3.cell (i := 4) rfl
    have g0 := hZ3.frozen 0
    have g1 := hZ3.frozen 1
    have g2 := hZ3.frozen 2
    have g3 := hZ3.frozen 3
    have g4 := hZ3.frozen 4
    have fin : Arr (set5 w3 W.heap.size (.int .i64 0) (.int .i64 0) (.string ⟨#[]⟩) (.slice none 0 0) (.slice none 0 0)) W.heap.size 37 blk0.c ∧ Below W.heap.size W (set5 w3 W.heap.size (.int .i64 0) (.int .i64 0) (.string ⟨#[]⟩) (.slice none 0 0) (.slice none 0 0)) := ⟨hZ3.set5 (.int .i64 0) (.int .i64 0) (.string ⟨#[]⟩) (.slice none 0 0) (.slice none 0 0), below_set5 hB3 (Nat.le_refl _) (.int .i64 0) (.int .i64 0) (.string ⟨#[]⟩) (.slice none 0 0) (.slice none 0 0)⟩
    unfold set5 at fin
    have hfin := fun w' e hb hv => gotBlk_err (W := W) (w := w') (e := e) ho he2 hb hv
    clear hZ3 hB3 hT3 hX3 hx3
    go_wp2
    refine bodyPost_ret (v := .tuple #[blk0.v, .int .i64 (e2 : Int)]) (results_blk_tmp rfl _ _ W.heap.size blk0 rfl fin.1 _ rfl) rfl ?_
    exact hfin _ _ fin.2 rfl
  have hok2 := hok.out.trans (if_neg he2)
  have he20 : e2 = 0 := by omega
  subst he20
  clear hok
  by_cases hm : k2 < ((s.extract k0 s.size).extract k1 (s.size - k0)).size
  · have hm' : k2 < s.size - k0 - k1 := by rw [ByteArray.size_extract, ByteArray.size_extract] at hm; omega
    have ho : out = .error 6 := hok2.trans (if_pos hm)
    clear hok2
    have z0 := hZ3.cell (i := 0) rfl
    have z1 := hZ3.cell (i := 1) rfl
    have z2 := hZ3.cell (i := 2) rfl
    have z3 := hZ3.cell (i := 3) rfl
    have z4 := hZ3.cell (i := 4) rfl
    have g0 := hZ3.frozen 0
    have g1 := hZ3.frozen 1
    have g2 := hZ3.frozen 2
    have g3 := hZ3.frozen 3
    have g4 := hZ3.frozen 4
    have fin : Arr (set5 w3 W.heap.size (.int .i64 0) (.int .i64 0) (.string ⟨#[]⟩) (.slice none 0 0) (.slice none 0 0)) W.heap.size 37 blk0.c ∧ Below W.heap.size W (set5 w3 W.heap.size (.int .i64 0) (.int .i64 0) (.string ⟨#[]⟩) (.slice none 0 0) (.slice none 0 0)) := ⟨hZ3.set5 (.int .i64 0) (.int .i64 0) (.string ⟨#[]⟩) (.slice none 0 0) (.slice none 0 0), below_set5 hB3 (Nat.le_refl _) (.int .i64 0) (.int .i64 0) (.string ⟨#[]⟩) (.slice none 0 0) (.slice none 0 0)⟩
    unfold set5 at fin
    have hfin := fun w' e hb hv => gotBlk_err (W := W) (w := w') (e := e) ho (by decide) hb hv
    clear hZ3 hB3 hT3 hX3 hx3
    go_wp2
    refine bodyPost_ret (v := .tuple #[blk0.v, .int .i64 (6 : Int)]) (results_blk_tmp rfl _ _ W.heap.size blk0 rfl fin.1 _ rfl) rfl ?_
    exact hfin _ _ fin.2 rfl
  have hm' : ¬ k2 < s.size - k0 - k1 := by rw [ByteArray.size_extract, ByteArray.size_extract] at hm; omega
  have ho : out = .ok (BlkM.d ⟨(v : Int), x, ca, cl, cc⟩) := hok2.trans (if_neg hm)
  clear hok2
  have z0 := hZ3.cell (i := 0) rfl
  have z1 := hZ3.cell (i := 1) rfl
  have z2 := hZ3.cell (i := 2) rfl
  have z3 := hZ3.cell (i := 3) rfl
  have z4 := hZ3.cell (i := 4) rfl
  have g0 := hZ3.frozen 0
  have g1 := hZ3.frozen 1
  have g2 := hZ3.frozen 2
  have g3 := hZ3.frozen 3
  have g4 := hZ3.frozen 4
  have x0 := hX3.cell (i := 0) rfl
  have x1 := hX3.cell (i := 1) rfl
  have x2 := hX3.cell (i := 2) rfl
  have hZF := hZ3.set5 (.int .i64 (v : Int)) (.int .i64 x.view) (.string x.block) (.slice x.va x.votes.length x.vc) (.slice ca cl.length cc)
  have hBF := below_set5 hB3 (Nat.le_refl _) (.int .i64 (v : Int)) (.int .i64 x.view) (.string x.block) (.slice x.va x.votes.length x.vc) (.slice ca cl.length cc)
  have kF := kept_set5 w3 W.heap.size (.int .i64 (v : Int)) (.int .i64 x.view) (.string x.block) (.slice x.va x.votes.length x.vc) (.slice ca cl.length cc)
  have hxF := Kind.kept qcK hx3 kF (fun b hb e => by have := hxl b hb; have e' : b = W.heap.size := e; omega)
  have hTF := hT3.kept kF (fun b hb e => by have := hTl b hb; have e' : b = W.heap.size := e; omega)
  have fin : ∀ e, e = .returned (.tuple #[BlkM.v ⟨(v : Int), x, ca, cl, cc⟩, .int .i64 0]) → GotBlk W out e _ := fun e hv => ⟨_, 0, hv, ⟨hxF, hTF, hCn⟩, Or.inl ⟨rfl, ho⟩, fun b hb => hb.elim (fun h => by have := hxl b h; omega) (fun h => by have := hTl b h; omega), hBF⟩
  unfold set5 at hZF fin
  clear hZ3 hX3 hx3 hT3 hB3 hBF kF hxF hTF ho
  go_wp2
  refine bodyPost_ret (v := .tuple #[BlkM.v ⟨(v : Int), x, ca, cl, cc⟩, .int .i64 0]) (results_blk_tmp rfl _ _ W.heap.size ⟨(v : Int), x, ca, cl, cc⟩ rfl hZF _ rfl) rfl ?_
  exact fin _ rfl
end Go.Proofs.YtmngiekobmhpaaaGreat

/- How package msg's reader takes a text, a number and a tag; one field as a step. -/
namespace Go.Proofs.YtmngiekobmhpaaaGreat
open Go.RowKit
set_option linter.unusedVariables false

theorem giGo_errk : ∀ (l : List UInt8) (acc i : Nat), (giGo l acc i).2.2 ≠ 0 → (giGo l acc i).2.1 = 0
  | [], _, _ => fun _ => rfl
  | c :: r, acc, i => by
    unfold giGo
    split
    · split
      · exact fun _ => rfl
      · exact giGo_errk r _ _
    · split
      · exact fun _ => rfl
      · split
        · exact fun _ => rfl
        · intro h
          exact absurd rfl h

theorem getInt_errk {l : List UInt8} {n k er : Nat} (h : getInt l = (n, k, er)) (he : er ≠ 0) : k = 0 := by
  have := giGo_errk l 0 0
  rw [← getInt, h] at this
  exact this he

theorem getText_errk {l t : List UInt8} {k er : Nat} (h : getText l = (t, k, er)) (he : er ≠ 0) : k = 0 := by
  unfold getText at h
  split at h
  · simp only [Prod.mk.injEq] at h
    exact h.2.1.symm
  · split at h
    · simp only [Prod.mk.injEq] at h
      exact h.2.1.symm
    · split at h
      · simp only [Prod.mk.injEq] at h
        exact h.2.1.symm
      · simp only [Prod.mk.injEq] at h
        exact absurd h.2.2.symm he

theorem getText_k {s : ByteArray} {t : List UInt8} {k er : Nat} (h : getText s.data.toList = (t, k, er)) : k ≤ s.size := by
  by_cases he : er = 0
  · subst he
    have := getText_bounds _ t k h
    have hl : s.data.toList.length = s.size := by simp
    omega
  · rw [getText_errk h he]
    exact Nat.zero_le _

theorem getInt_k {s : ByteArray} {n k er : Nat} (h : getInt s.data.toList = (n, k, er)) : k ≤ s.size := by
  by_cases he : er = 0
  · subst he
    have := getInt_bounds _ n k h
    have hl : s.data.toList.length = s.size := by simp
    omega
  · rw [getInt_errk h he]
    exact Nat.zero_le _

/-- One field as a step. -/
def stepF (c : UInt8) (p : MsgD) (l : List UInt8) : Except Nat (MsgD × List UInt8) := rdF c p l fun p l => .ok (p, l)

theorem rdF_step {α : Type} (c : UInt8) (p : MsgD) (l : List UInt8) (f : MsgD → List UInt8 → Except Nat α) : rdF c p l f = match stepF c p l with
    | .error e => .error e
    | .ok (p, l) => f p l := by
  unfold stepF rdF rdI rdT rdG
  split
  · split <;> rfl
  split
  · split
    · rfl
    · rcases (getTagsL l).1 with _ | ⟨t, _ | ⟨t2, r⟩⟩ <;> rfl
  split
  · rfl
  dsimp only
  split
  · rfl
  split
  · cases decBat (getText l).1 <;> rfl
  split
  · cases decH (getText l).1 <;> rfl
  split
  · cases decC (getText l).1 <;> rfl
  split
  · cases decK (getText l).1 <;> rfl
  · cases decQ (getText l).1 <;> rfl

/-- What a layer's Decode hands back: a thing, all of it new, and an error. -/
def GotX {α δ : Type} (K : Kind α) (v : α → Value) (d : α → δ) (W : World) (r : Except Nat δ) (e : Ending) (w : World) : Prop :=
  ∃ (x : α) (er : Nat), e = .returned (.tuple #[v x, .int .i64 (er : Int)]) ∧ K.At w x ∧ ((er = 0 ∧ r = .ok (d x)) ∨ (er ≠ 0 ∧ r = .error er)) ∧ (∀ b, K.foot x b → W.heap.size ≤ b) ∧ Below W.heap.size W w

theorem hdr_got (s : ByteArray) (W : World) (hs : s.size ≤ maxLen) : Calls Tryz.prog 57 #[.string s] W fun e w' => GotX hdrK HdrM.v HdrM.d W (decH s.data.toList) e w' :=
  (hdrDecode_any s W hs).mono fun _ _ ⟨x, er, h1, h2, h3, h4, h5⟩ => ⟨x, er, h1, h2, h3.imp id (fun h => ⟨h.1, h.2.1⟩), h4, h5⟩
theorem cert_got (s : ByteArray) (W : World) (hs : s.size ≤ maxLen) : Calls Tryz.prog 59 #[.string s] W fun e w' => GotX certK CertM.v CertM.d W (decC s.data.toList) e w' :=
  (certDecode_any s W hs).mono fun _ _ ⟨x, er, h1, h2, h3, h4, h5⟩ => ⟨x, er, h1, h2, h3.imp id (fun h => ⟨h.1, h.2.1⟩), h4, h5⟩
theorem blk_got (s : ByteArray) (W : World) (hs : s.size ≤ maxLen) : Calls Tryz.prog 61 #[.string s] W fun e w' => GotX blkK BlkM.v BlkM.d W (decK s.data.toList) e w' :=
  (blkDecode_any s W hs).mono fun _ _ ⟨x, er, h1, h2, h3, h4, h5⟩ => ⟨x, er, h1, h2, h3.imp id (fun h => ⟨h.1, h.2.1⟩), h4, h5⟩
theorem qc_got (s : ByteArray) (W : World) (hs : s.size ≤ maxLen) : Calls Tryz.prog 63 #[.string s] W fun e w' => GotX qcK QcM.v QcM.d W (decQ s.data.toList) e w' :=
  (decodeQc_any s W hs).mono fun _ _ ⟨x, er, h1, h2, h3, h4, h5⟩ => ⟨x, er, h1, h2, h3.imp id (fun h => ⟨h.1, h.2.1⟩), h4, h5⟩

theorem GotBatN.gotX {W w : World} {r : Except Nat BatD} {e : Ending} (h : GotBatN W r e w) : GotX batK BatM.v BatM.d W r e w := by
  obtain ⟨a, n, ao, l, cap, er, h1, h2, h3, h4, h5, h6, h7⟩ := h
  refine ⟨⟨a, n, ao, l, cap⟩, er, h1, ⟨h2.rows, h3⟩, h4.imp id (fun h => ⟨h.1, h.2.1⟩), fun b hb => ?_, h7⟩
  rcases hb with ⟨_, off, e⟩ | ⟨x, hx, hf⟩
  · exact h5 b off e
  · have ho := h6 x hx
    by_cases hlt : b < W.heap.size
    · rcases hf with hf | hf
      · rcases hf with ⟨hne, off, e⟩ | ⟨_, _, h'⟩
        · exact absurd hlt (ho.r b off e (List.length_pos_iff.2 hne))
        · exact h'.elim
      · rcases hf with ⟨hne, off, e⟩ | ⟨_, _, h'⟩
        · exact absurd hlt (ho.w b off e (List.length_pos_iff.2 hne))
        · exact h'.elim
    · omega

theorem bat_got (s : ByteArray) (W : World) (hs : s.size ≤ maxLen) : Calls Tryz.prog 55 #[.string s] W fun e w' => GotX batK BatM.v BatM.d W (decBat s.data.toList) e w' :=
  (batDecode_new s W hs).mono fun _ _ h => h.gotX

theorem MsgM.At.keptM {x : MsgM} {S : Nat → Prop} {w w' : World} (h : x.At w) (hk : Kept S w w') (ho : ∀ b, x.foot b → ¬ S b) : x.At w' :=
  Kind.keep msgK h (fun b hb => hk.block b (Kind.lt msgK h hb) (ho b hb))

theorem Kind.keptX {α : Type} (K : Kind α) {x : α} {S : Nat → Prop} {w w' : World} (h : K.At w x) (hk : Kept S w w') (ho : ∀ b, K.foot x b → ¬ S b) : K.At w' x :=
  K.keep h (fun b hb => hk.block b (K.lt h hb) (ho b hb))

theorem results_row_tmp {fn : Func} {p u : Tmp} {ty : TypeId} (h : fn.results = #[.cell p ty, .tmp u]) (tmps : Array Value) (w : World) (g : Nat) (cs : List Value)
    (hp : tmps.getD p undef = .pointer (some ⟨g, 0, none⟩)) (hl : (loadVar ty ⟨g, 0, none⟩).run Tryz.prog w = .ok (.agg cs.toArray) w) (v : Value) (hv : tmps.getD u undef = v) :
    (results fn tmps).run Tryz.prog w = .ok (.tuple #[.agg cs.toArray, v]) w := by
  rw [results_cell_tmp h, hp, hv]
  simp [asAddr, hl, Result.andThen]

set_option maxRecDepth 100000 in
set_option maxHeartbeats 1000000 in
theorem rtext_any (rb : Nat) (rest : ByteArray) (cs : List Value) (w : World) (hR : Arr w rb 58 (.string rest :: cs)) (hs : rest.size ≤ maxLen) (t : List UInt8) (n er : Nat) (hr : getText rest.data.toList = (t, n, er)) :
    Calls Tryz.prog 51 #[.pointer (some ⟨rb, 0, none⟩)] w fun e w' => e = .returned (.tuple #[.string ⟨t.toArray⟩, .int .i64 (er : Int)]) ∧ w' = w.setCell ⟨rb, 0, none⟩ (.string (rest.extract n rest.size)) := by
  have c0 := hR.cell (i := 0) rfl
  have f0 := hR.frozen 0
  have hk : (n : Int) ≤ rest.size := by have := getText_k hr; omega
  have cG := fun w1 => getText_at rest w1 t n er hs hr
  clear hr hs hR
  generalize (⟨t.toArray⟩ : ByteArray) = tt at *
  go_enter Tryz.func51, Tryz.ntmps51
  go_wp2_with fail
  refine (cG _).mono ?_
  rintro e w1 ⟨rfl, rfl⟩
  go_wp2
  go_ret2
  exact ⟨rfl, rfl⟩

set_option maxRecDepth 100000 in
set_option maxHeartbeats 1000000 in
theorem rnumber_any (rb : Nat) (rest : ByteArray) (cs : List Value) (w : World) (hR : Arr w rb 58 (.string rest :: cs)) (hs : rest.size ≤ maxLen) (v n er : Nat) (hr : getInt rest.data.toList = (v, n, er)) :
    Calls Tryz.prog 52 #[.pointer (some ⟨rb, 0, none⟩)] w fun e w' => e = .returned (.tuple #[.int .i64 (v : Int), .int .i64 (er : Int)]) ∧ w' = w.setCell ⟨rb, 0, none⟩ (.string (rest.extract n rest.size)) := by
  have c0 := hR.cell (i := 0) rfl
  have f0 := hR.frozen 0
  have hk : (n : Int) ≤ rest.size := by have := getInt_k hr; omega
  have cG := fun w1 => getInt_at rest w1 v n er hs hr
  clear hr hs hR
  go_enter Tryz.func52, Tryz.ntmps52
  go_wp2_with fail
  refine (cG _).mono ?_
  rintro e w1 ⟨rfl, rfl⟩
  go_wp2
  go_ret2
  exact ⟨rfl, rfl⟩

/-- What tag hands back. -/
def GotTag9 (rb : Nat) (rest : ByteArray) (cs : List Value) (W : World) (e : Ending) (w : World) : Prop :=
  ∃ (t : TagD) (er : Nat) (rest' : ByteArray), e = .returned (.tuple #[.agg #[.int .i64 t.who, .string t.mac], .int .i64 (er : Int)]) ∧ Arr w rb 58 (.string rest' :: cs) ∧ rest'.size ≤ maxLen ∧ Kept (fun k => k = rb) W w ∧
    ((er = 0 ∧ ∃ k, getTagsL rest.data.toList = ([t], k, 0) ∧ rest'.data.toList = rest.data.toList.drop k) ∨ (er ≠ 0 ∧ ((∃ ts k, getTagsL rest.data.toList = (ts, k, er)) ∨ (er = 12 ∧ ∃ ts k, getTagsL rest.data.toList = (ts, k, 0) ∧ ts.length ≠ 1))))

set_option maxRecDepth 100000 in
set_option maxHeartbeats 2000000 in
theorem rtag_any (rb : Nat) (rest : ByteArray) (cs : List Value) (w : World) (hR : Arr w rb 58 (.string rest :: cs)) (hs : rest.size ≤ maxLen) :
    Calls Tryz.prog 53 #[.pointer (some ⟨rb, 0, none⟩)] w fun e w' => GotTag9 rb rest cs w e w' := by
  have hZ := Arr.new w 23 [.int .i64 0, .string ⟨#[]⟩]
  have hbn := belowNew w (.cells #[.int .i64 0, .string ⟨#[]⟩] 23)
  have hR1 := hR.below hbn hR.lt
  have k1 : Kept (fun k => k = rb) w (w.alloc (.cells #[.int .i64 0, .string ⟨#[]⟩] 23)) := Kept.of_below hbn
  have hrl := hR.lt
  have cG := fun w1 => getTags_any rest w1 hs
  have c0 := hR1.cell (i := 0) rfl
  have f0 := hR1.frozen 0
  have Hs : Hid (rest.size ≤ maxLen) := hs
  clear hbn hR
  obtain ⟨w1, hw1⟩ : ∃ q', w.alloc (.cells #[.int .i64 0, .string ⟨#[]⟩] 23) = q' := ⟨_, rfl⟩
  replace hZ : Arr w1 w.heap.size 23 [.int .i64 0, .string ⟨#[]⟩] := by rw [← hw1]; exact hZ
  rw [hw1] at hR1 k1 c0 f0
  have hw1s : w1.heap.size = w.heap.size + 1 := by rw [← hw1, alloc_size]
  have Hw1s : Hid (w1.heap.size = w.heap.size + 1) := hw1s
  clear hw1s
  go_enter Tryz.func53, Tryz.ntmps53
  go_wp2_with fail
  refine (cG _).mono ?_
  rintro e w2 ⟨ts, n, er, ao, cap, rfl, hres, hrow, hnil, hfoot, hb2⟩
  have hZ2 := hZ.below hb2 hZ.lt
  have hR2 := hR1.below hb2 hR1.lt
  have k2 := k1.trans (Kept.of_below hb2)
  clear hZ hR1 k1 hb2 c0 f0 hw1 cG
  have z0 := hZ2.cell (i := 0) rfl
  have z1 := hZ2.cell (i := 1) rfl
  have g0 := hZ2.frozen 0
  have g1 := hZ2.frozen 1
  by_cases he : er ≠ 0
  · have hne : ((er : Int) != 0) = true := by rw [bne_iff_ne]; omega
    have hZF := (hZ2.set 0 (.int .i64 0)).set 1 (.string ⟨#[]⟩)
    have hRF := (hR2.other (p := ⟨w.heap.size, 0, none⟩) (by show rb ≠ w.heap.size; omega) (.int .i64 0)).other (p := ⟨w.heap.size, 1, none⟩) (by show rb ≠ w.heap.size; omega) (.string ⟨#[]⟩)
    have kF := (k2.setNew (a := ⟨w.heap.size, 0, none⟩) (Nat.le_refl _) (.int .i64 0)).setNew (a := ⟨w.heap.size, 1, none⟩) (Nat.le_refl _) (.string ⟨#[]⟩)
    replace hZF : Arr _ w.heap.size 23 [.int .i64 0, .string ⟨#[]⟩] := hZF
    have hfin : ∀ e, e = .returned (.tuple #[.agg #[.int .i64 0, .string ⟨#[]⟩], .int .i64 (er : Int)]) → GotTag9 rb rest cs w e _ := fun e h => ⟨tagZ, er, rest, h, hRF, Hs.out, kF, Or.inr ⟨he, Or.inl ⟨ts, n, hres⟩⟩⟩
    clear hRF kF hres hrow hfoot hZ2 hR2 k2
    go_wp2
    refine bodyPost_ret (v := .tuple #[.agg #[.int .i64 0, .string ⟨#[]⟩], .int .i64 (er : Int)]) (results_row_tmp rfl _ _ w.heap.size [.int .i64 0, .string ⟨#[]⟩] rfl (run_loadVar_row _ w.heap.size 23 23 _ (0, 0) _ hZF Tryz.underlying23 rfl infoTag1) _ rfl) rfl ?_
    exact hfin _ rfl
  replace he : er = 0 := by omega
  subst he
  by_cases hl : ts.length ≠ 1
  · have hne : ((ts.length : Int) != 1) = true := by rw [bne_iff_ne]; omega
    have hZF := (hZ2.set 0 (.int .i64 0)).set 1 (.string ⟨#[]⟩)
    have hRF := (hR2.other (p := ⟨w.heap.size, 0, none⟩) (by show rb ≠ w.heap.size; omega) (.int .i64 0)).other (p := ⟨w.heap.size, 1, none⟩) (by show rb ≠ w.heap.size; omega) (.string ⟨#[]⟩)
    have kF := (k2.setNew (a := ⟨w.heap.size, 0, none⟩) (Nat.le_refl _) (.int .i64 0)).setNew (a := ⟨w.heap.size, 1, none⟩) (Nat.le_refl _) (.string ⟨#[]⟩)
    replace hZF : Arr _ w.heap.size 23 [.int .i64 0, .string ⟨#[]⟩] := hZF
    have hfin : ∀ e, e = .returned (.tuple #[.agg #[.int .i64 0, .string ⟨#[]⟩], .int .i64 12]) → GotTag9 rb rest cs w e _ := fun e h => ⟨tagZ, 12, rest, h, hRF, Hs.out, kF, Or.inr ⟨by decide, Or.inr ⟨rfl, ts, n, hres, hl⟩⟩⟩
    clear hRF kF hres hrow hfoot hZ2 hR2 k2 hl
    go_wp2
    refine bodyPost_ret (v := .tuple #[.agg #[.int .i64 0, .string ⟨#[]⟩], .int .i64 12]) (results_row_tmp rfl _ _ w.heap.size [.int .i64 0, .string ⟨#[]⟩] rfl (run_loadVar_row _ w.heap.size 23 23 _ (0, 0) _ hZF Tryz.underlying23 rfl infoTag1) _ rfl) rfl ?_
    exact hfin _ rfl
  replace hl : ts.length = 1 := by omega
  obtain ⟨t, rfl⟩ : ∃ t, ts = [t] := List.length_eq_one_iff.1 hl
  obtain ⟨b, off, rfl, hbl, y0, y1⟩ := hrow.tag (i := 0) (t := t) rfl
  have hbn : w1.heap.size ≤ b := hfoot b (Or.inl ⟨by simp, off, rfl⟩)
  have hbr : b ≠ rb := by have := Hw1s.out; omega
  have hbw : b ≠ w.heap.size := by have := Hw1s.out; omega
  have hgb := getTags_back hres
  have hk : (n : Int) ≤ rest.size := by have h1 := hgb.2.2.1; have h2 : rest.data.toList.length = rest.size := by simp
                                        omega
  have r0 := hR2.cell (i := 0) rfl
  have rf0 := hR2.frozen 0
  obtain ⟨rest', hre⟩ : ∃ o, o = rest.extract n rest.size := ⟨_, rfl⟩
  have hdrop : rest'.data.toList = rest.data.toList.drop n := by rw [hre]; exact extract_drop _ _
  have hsz' : rest'.size ≤ maxLen := by rw [hre]; exact rest_le rest n Hs.out
  have hR3 := hR2.set 0 (.string rest')
  have hZ3 := hZ2.other (p := ⟨rb, 0, none⟩) (by show w.heap.size ≠ rb; omega) (.string rest')
  have k3 := k2.set (p := ⟨rb, 0, none⟩) rfl (.string rest')
  have y0' : (w2.setCell ⟨rb, 0, none⟩ (.string rest')).cell? ⟨b, off + 0 * 2, none⟩ = some (.int .i64 t.who) := by rw [cell_same (Below.heap_setCell w2 ⟨rb, 0, none⟩ _ b hbr)]; exact y0
  have y1' : (w2.setCell ⟨rb, 0, none⟩ (.string rest')).cell? ⟨b, off + 0 * 2 + 1, none⟩ = some (.string t.mac) := by rw [cell_same (Below.heap_setCell w2 ⟨rb, 0, none⟩ _ b hbr)]; exact y1
  simp only [Nat.zero_mul, Nat.add_zero] at y0' y1'
  have hbl' : b < (w2.setCell ⟨rb, 0, none⟩ (.string rest')).heap.size := by rw [setCell_size]; exact hbl
  rw [hre] at hR3 hZ3 k3 y0' y1' hbl'
  obtain ⟨w3, hw3⟩ : ∃ q', w2.setCell ⟨rb, 0, none⟩ (.string (rest.extract n rest.size)) = q' := ⟨_, rfl⟩
  rw [hw3] at hR3 hZ3 k3 y0' y1' hbl'
  rw [← hre] at hR3
  replace hR3 : Arr w3 rb 58 (.string rest' :: cs) := hR3
  have z0' := hZ3.cell (i := 0) rfl
  have z1' := hZ3.cell (i := 1) rfl
  have g0' := hZ3.frozen 0
  have g1' := hZ3.frozen 1
  have hZF := (hZ3.set 0 (.int .i64 t.who)).set 1 (.string t.mac)
  have hRF := (hR3.other (p := ⟨w.heap.size, 0, none⟩) (by show rb ≠ w.heap.size; omega) (.int .i64 t.who)).other (p := ⟨w.heap.size, 1, none⟩) (by show rb ≠ w.heap.size; omega) (.string t.mac)
  have kF := (k3.setNew (a := ⟨w.heap.size, 0, none⟩) (Nat.le_refl _) (.int .i64 t.who)).setNew (a := ⟨w.heap.size, 1, none⟩) (Nat.le_refl _) (.string t.mac)
  replace hZF : Arr _ w.heap.size 23 [.int .i64 t.who, .string t.mac] := hZF
  have hfin : ∀ e, e = .returned (.tuple #[.agg #[.int .i64 t.who, .string t.mac], .int .i64 0]) → GotTag9 rb rest cs w e _ := fun e h => ⟨t, 0, rest', h, hRF, hsz', kF, Or.inl ⟨rfl, n, hres, hdrop⟩⟩
  clear hRF kF hres hrow hfoot hZ2 hR2 k2 hR3 hZ3 k3 hgb hdrop hsz' hre y0 y1 z0 z1 g0 g1 hbl hl
  go_wp2
  refine bodyPost_ret (v := .tuple #[.agg #[.int .i64 t.who, .string t.mac], .int .i64 0]) (results_row_tmp rfl _ _ w.heap.size [.int .i64 t.who, .string t.mac] rfl (run_loadVar_row _ w.heap.size 23 23 _ (0, 0) _ hZF Tryz.underlying23 rfl infoTag1) _ rfl) rfl ?_
  exact hfin _ rfl
end Go.Proofs.YtmngiekobmhpaaaGreat

/- How a row of transactions that came in is opened. (Laid only where the dump has []api.Tx: not yet built.) -/
namespace Go.Proofs.YtmngiekobmhpaaaGreat
open Go.ChangeShapes Go.WideShapes Go.ChangeAt Go.RowKit Go.Joins Go.Deep
set_option linter.unusedVariables false

/-- How a row of transactions reads. -/
def TxsDatum {H : Type} (d : DataW H) (l : List TxM) : Prop :=
  (d = .nil ∧ l = []) ∨ ∃ (ds rest : List (DataW H)), d = .slice ds rest ∧ ds.length = l.length ∧ ∀ (i : Nat) (y : DataW H) (x : TxM), ds[i]? = some y → l[i]? = some x → TxDatum y x.d
end Go.Proofs.YtmngiekobmhpaaaGreat

/- How a batch, and a row of operations, that came in are opened; their sizes. -/
namespace Go.Proofs.YtmngiekobmhpaaaGreat
open Go.ChangeShapes Go.WideShapes Go.ChangeAt Go.RowKit Go.Joins Go.Deep
set_option linter.unusedVariables false

/-- Its lists are no longer than a machine holds. -/
def TxLens (D : TxD) : Prop := D.rs.length * 16 ≤ 140737488351232 ∧ D.ws.length * 16 ≤ 140737488351232

/-- How a batch reads. -/
def BatDatum {H : Type} (d : DataW H) (l : List TxM) : Prop := ∃ y0 y1 y2, d = .agg [y0, y1, y2] ∧ TxsDatum y2 l
end Go.Proofs.YtmngiekobmhpaaaGreat
