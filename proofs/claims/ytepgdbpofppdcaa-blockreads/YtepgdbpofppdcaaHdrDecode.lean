/- What the reader's ref, refs and package header's Decode do; nothing old in memory is turned. -/
import Derived.Test.YtepgdbpofppdcaaHdrTags
namespace Go.Proofs.Ytepgdbpofppdcaa
open Go.RowKit
set_option linter.unusedVariables false

theorem getTags_zero {l : List UInt8} {ts : List TagD} {k er : Nat} (h : getTagsL l = (ts, k, er)) (he : er ≠ 0) : ts = [] ∧ k = 0 := by
  rcases hg : getList l 7 with ⟨ms, j, e⟩
  by_cases h0 : e ≠ 0
  · rw [getTags_err hg h0] at h
    simp only [Prod.mk.injEq] at h
    exact ⟨h.1.symm, h.2.1.symm⟩
  · have e0 : e = 0 := by omega
    subst e0
    rw [getTags_ok hg] at h
    cases hm : eachE getTag ms with
    | error x => rw [hm] at h; simp only [Prod.mk.injEq] at h; exact ⟨h.1.symm, h.2.1.symm⟩
    | ok x => rw [hm] at h; simp only [Prod.mk.injEq] at h; exact absurd h.2.2.symm he

set_option maxRecDepth 100000 in
set_option maxHeartbeats 1000000 in
theorem takeTags_k (rb : Nat) (w : World) (rest : ByteArray) (E : Nat) (hR : Arr w rb 54 [.string rest, .int .i64 (E : Int)]) (hs : rest.size ≤ maxLen) :
    Calls Try.prog 63 #[.pointer (some ⟨rb, 0, none⟩), .func (.func 8) #[] #[]] w fun e w' => ∃ (ts : List TagD) (E' : Nat) (rest' : ByteArray) (ao : Option Addr) (cap : Nat), e = .returned (.slice ao ts.length cap) ∧ ts.length ≤ 7 ∧ rest'.size ≤ maxLen ∧
      (∀ (α : Type) (f : List TagD → List UInt8 → Except Nat α), runX E (rdG rest.data.toList f) = runX E' (f ts rest'.data.toList)) ∧ RowAt tagK w' ao ts ∧ (ao = none → cap = 0) ∧ (∀ b, rowFoot tagK ao ts b → w.heap.size ≤ b) ∧ Arr w' rb 54 [.string rest', .int .i64 (E' : Int)] ∧ Kept (fun k => k = rb) w w' := by
  have c0 := hR.cell (i := 0) rfl
  have c1 := hR.cell (i := 1) rfl
  by_cases hE : E = 0
  · subst hE
    rcases hr : getTagsL rest.data.toList with ⟨ts, k, er⟩
    have hl : rest.data.toList.length = rest.size := by simp
    have cG := fun w1 => getTags_any rest w1 hs
    rw [hr] at cG
    by_cases he : er = 0
    · subst he
      have hgb := getTags_back hr
      have b3 := hgb.2.2.1
      have b4 := hgb.2.2.2.1
      clear hgb
      have hk : (k : Int) ≤ rest.size := by omega
      have hstep : Hid (∀ (α : Type) (f : List TagD → List UInt8 → Except Nat α), runX 0 (rdG rest.data.toList f) = runX 0 (f ts (rest.extract k rest.size).data.toList)) := by
        intro α f
        rw [rdG_ok hr, extract_drop]
      have hsz := rest_le rest k hs
      have hn : Hid (ts.length ≤ 7) := b4
      clear hr hl hs b3 b4
      go_enter Try.func63, Try.ntmps63
      go_wp2_with fail
      refine (cG _).mono ?_
      rintro e w1 ⟨ts', k', er', ao, cap, rfl, heq, hO, hn2, hf, hb⟩
      simp only [Prod.mk.injEq] at heq
      obtain ⟨rfl, rfl, rfl⟩ := heq
      have hR1 := hR.below hb hR.lt
      have fin := hR1.set 0 (.string (rest.extract k rest.size))
      have kin := (Kept.of_below (S := fun k => k = rb) hb).set (p := ⟨rb, 0, none⟩) rfl (.string (rest.extract k rest.size))
      have hOF := hO.kept (Kept.setCell w1 ⟨rb, 0, none⟩ (.string (rest.extract k rest.size))) (fun b hb e => by have := hf b hb; have := hR.lt; have e' : b = rb := e; omega)
      have d0 := hR1.cell (i := 0) rfl
      have f0 := hR1.frozen 0
      clear hR hR1 c0 c1 hO hb cG
      go_wp2
      go_ret
      exact ⟨ts, 0, rest.extract k rest.size, ao, cap, rfl, hn.out, hsz, hstep.out, hOF, hn2, hf, fin, kin⟩
    · have hstep : Hid (∀ (α : Type) (f : List TagD → List UInt8 → Except Nat α), runX 0 (rdG rest.data.toList f) = runX er (f [] rest.data.toList)) := by
        intro α f
        rw [rdG_err hr he, runX_err he]
        rfl
      have hne : ((er : Int) != 0) = true := by rw [bne_iff_ne]; omega
      clear hr hl
      go_enter Try.func63, Try.ntmps63
      go_wp2_with fail
      refine (cG _).mono ?_
      rintro e w1 ⟨ts', k', er', ao, cap, rfl, heq, hO, hn2, hf, hb⟩
      simp only [Prod.mk.injEq] at heq
      obtain ⟨rfl, rfl, rfl⟩ := heq
      have hR1 := hR.below hb hR.lt
      have fin := hR1.set 1 (.int .i64 (er : Int))
      have kin := (Kept.of_below (S := fun k => k = rb) hb).set (p := ⟨rb, 1, none⟩) rfl (.int .i64 (er : Int))
      have d1 := hR1.cell (i := 1) rfl
      have f1 := hR1.frozen 1
      clear hR hR1 c0 c1 hO hb cG
      go_wp2
      go_ret
      exact ⟨[], er, rest, none, 0, rfl, by simp, hs, hstep.out, nil_row _ _, fun _ => rfl, fun b hb => (nil_foot hb).elim, fin, kin⟩
  · have hE' : ((E : Int) != 0) = true := by rw [bne_iff_ne]; omega
    go_enter Try.func63, Try.ntmps63
    go_wp2
    go_ret
    exact ⟨[], E, rest, none, 0, rfl, by simp, hs, fun α f => by rw [runX_err hE, runX_err hE], nil_row _ _, fun _ => rfl, fun b hb => (nil_foot hb).elim, hR, Kept.refl _ _⟩

theorem infoRef1 : (Try.prog.info? 74).map (·.size) = some 2 := by kernel_rfl

/-- A Ref is read. -/
def rdRef {α : Type} (l : List UInt8) (f : RefD → List UInt8 → Except Nat α) : Except Nat α := rdT l fun d l => rdG l fun ts l => f ⟨⟨d.toArray⟩, ts⟩ l

set_option maxRecDepth 100000 in
set_option maxHeartbeats 1000000 in
theorem ref_k (rb : Nat) (w : World) (rest : ByteArray) (E : Nat) (hR : Arr w rb 54 [.string rest, .int .i64 (E : Int)]) (hs : rest.size ≤ maxLen) :
    Calls Try.prog 52 #[.pointer (some ⟨rb, 0, none⟩)] w fun e w' => ∃ (x : RefM) (E' : Nat) (rest' : ByteArray), e = .returned (.agg #[.string x.digest, .slice x.ao x.acks.length x.cap]) ∧ rest'.size ≤ maxLen ∧ x.acks.length ≤ 7 ∧
      (∀ (α : Type) (f : RefD → List UInt8 → Except Nat α), runX E (rdRef rest.data.toList f) = runX E' (f x.d rest'.data.toList)) ∧ refK.At w' x ∧ (∀ b, refK.foot x b → w.heap.size ≤ b) ∧ Arr w' rb 54 [.string rest', .int .i64 (E' : Int)] ∧ Kept (fun k => k = rb) w w' := by
  have hZ := Arr.new w 74 [.string ⟨#[]⟩, .slice none 0 0]
  have hbn := belowNew w (.cells #[.string ⟨#[]⟩, .slice none 0 0] 74)
  have hR0 := hR.below hbn hR.lt
  have c0 := takeText_k rb _ rest E hR0 hs
  have hrl := hR.lt
  go_enter Try.func52, Try.ntmps52
  go_wp2_with fail
  refine c0.mono ?_
  rintro e w1 ⟨t, E1, r1, rfl, ht, hr1, hf1, hR1, hk1⟩
  have hZ1 := hZ.kept hk1 (by omega)
  have kin1 := (Kept.of_below (S := fun k => k = rb) hbn).trans hk1
  have hz1 := hk1.size
  rw [alloc_size] at hz1
  clear c0 hR hR0 hbn hZ hk1
  have c1 := takeTags_k rb w1 r1 E1 hR1 hr1
  go_wp2_with fail
  refine c1.mono ?_
  rintro e w2 ⟨ts, E2, r2, ao, cap, rfl, h7, hr2, hf2, hO, hn2, hff, hR2, hk2⟩
  have hZ2 := hZ1.kept hk2 (by omega)
  have kin2 := kin1.trans hk2
  clear c1 hR1 hZ1 hk2 kin1
  have z0 := hZ2.cell (i := 0) rfl
  have z1 := hZ2.cell (i := 1) rfl
  have g0 := hZ2.frozen 0
  have g1 := hZ2.frozen 1
  have hZF := (hZ2.set 0 (.string ⟨t.toArray⟩)).set 1 (.slice ao ts.length cap)
  have kF := (kin2.setNew (a := ⟨w.heap.size, 0, none⟩) (Nat.le_refl _) (.string ⟨t.toArray⟩)).setNew (a := ⟨w.heap.size, 1, none⟩) (Nat.le_refl _) (.slice ao ts.length cap)
  have hRF := (hR2.other (p := ⟨w.heap.size, 0, none⟩) (by show rb ≠ w.heap.size; omega) (.string ⟨t.toArray⟩)).other (p := ⟨w.heap.size, 1, none⟩) (by show rb ≠ w.heap.size; omega) (.slice ao ts.length cap)
  have hOF := (hO.kept (Kept.setCell w2 ⟨w.heap.size, 0, none⟩ (.string ⟨t.toArray⟩)) (fun b hb e => by have := hff b hb; have e' : b = w.heap.size := e; omega)).kept (Kept.setCell _ ⟨w.heap.size, 1, none⟩ (.slice ao ts.length cap)) (fun b hb e => by have := hff b hb; have e' : b = w.heap.size := e; omega)
  have hst : Hid (∀ (α : Type) (f : RefD → List UInt8 → Except Nat α), runX E (rdRef rest.data.toList f) = runX E2 (f (RefM.d ⟨⟨t.toArray⟩, ts, ao, cap⟩) r2.data.toList)) := by
    intro α f
    show runX E (rdT _ _) = _
    rw [hf1, hf2]
    rfl
  clear hZ2 kin2 hR2 hO hf1 hf2
  go_wp2
  refine bodyPost_ret (v := .agg #[.string ⟨t.toArray⟩, .slice ao ts.length cap]) (results_cell_row rfl _ _ w.heap.size 74 #[.string ⟨t.toArray⟩, .slice ao ts.length cap] (0, 0) _ rfl hZF Try.underlying74 rfl infoRef1) rfl ?_
  exact ⟨⟨⟨t.toArray⟩, ts, ao, cap⟩, E2, r2, rfl, hr2, h7, hst.out, ⟨hOF, hn2⟩, fun b hb => by have := hff b hb; omega, hRF, kF⟩

theorem rd_append (l m : List RefM) : rd (l ++ m) = rd l ++ rd m := by simp [rd]

theorem new_ref (w : World) (x : RefM) : ∀ j u, (refK.c x)[j]? = some u → (w.alloc (.cells #[.string x.digest, .slice x.ao x.acks.length x.cap] 74)).cell? ((⟨w.heap.size, 0, none⟩ : Addr).add j) = some u := by
  intro j u hu
  rw [Go.WideShapes.add_plain, Nat.zero_add]
  exact (Arr.new w 74 [.string x.digest, .slice x.ao x.acks.length x.cap]).cell hu

/-- Refs were read. -/
def GotRefs (T : TypeId) (w : World) (rb : Nat) (n : Nat) (rest : ByteArray) (E : Nat) (e : Ending) (w' : World) : Prop :=
  ∃ (l : List RefM) (E' : Nat) (rest' : ByteArray) (ao : Option Addr) (cap : Nat), e = .returned (.slice ao l.length cap) ∧ rest'.size ≤ maxLen ∧ l.length ≤ n ∧ (∀ x ∈ l, x.acks.length ≤ 7) ∧
    (∀ (α : Type) (f : List RefD → List UInt8 → Except Nat α), runX E (rdRefs n rest.data.toList f) = runX E' (f (rd l) rest'.data.toList)) ∧ RowAt refK w' ao l ∧ (ao = none → cap = 0) ∧ (∀ b, rowFoot refK ao l b → w.heap.size ≤ b) ∧ Arr w' rb T [.string rest', .int .i64 (E' : Int)] ∧ Kept (fun k => k = rb) w w'

set_option maxRecDepth 100000 in
set_option maxHeartbeats 1000000 in
theorem several_k (rb : Nat) (w : World) (rest : ByteArray) (E n : Nat) (hn : n ≤ 4 ∨ E ≠ 0) (hR : Arr w rb 54 [.string rest, .int .i64 (E : Int)]) (hs : rest.size ≤ maxLen) :
    Calls Try.prog 51 #[.pointer (some ⟨rb, 0, none⟩), .int .i64 (n : Int), .func (.func 52) #[.pointer (some ⟨rb, 0, none⟩)] #[]] w fun e w' => GotRefs 54 w rb n rest E e w' := by
  obtain ⟨i0, hi, hz0, hz1, hz2⟩ := info_parts infoRef6
  have hrl := hR.lt
  go_enter Try.func51, Try.ntmps51
  go_wp2
  go_loopw [7] (fun v7 wr => ∃ (l : List RefM) (E' : Nat) (rest' : ByteArray), l.length ≤ n ∧ (n ≤ 4 ∨ E' ≠ 0) ∧ rest'.size ≤ maxLen ∧ (∀ x ∈ l, x.acks.length ≤ 7) ∧ KQ refK 74 wr w.heap.size v7 l ∧ (∀ x ∈ l, ∀ b, refK.foot x b → w.heap.size ≤ b) ∧ Arr wr rb 54 [.string rest', .int .i64 (E' : Int)] ∧ Kept (fun k => k = rb) w wr ∧
    Hid (∀ (α : Type) (f : List RefD → List UInt8 → Except Nat α), runX E (rdRefs n rest.data.toList f) = runX E' (rdRefs (n - l.length) rest'.data.toList (fun rs r => f (rd l ++ rs) r)))) (fun v7 _ => n - slLen v7)
  case atStart => exact ⟨[], E, rest, Nat.zero_le _, hn, hs, by simp, KQ.empty _ _ _ _, by simp, hR, Kept.refl _ _, fun α f => rfl⟩
  case round =>
    clear hn hR hs
    obtain ⟨l, E1, r1, hln, hn, hr1, h7, hq, hfo, hR, hk, HS⟩ := hrel
    have c1 := hR.cell (i := 1) rfl
    obtain ⟨qa, qc, rfl, hqn, hqt⟩ := hq.form
    by_cases hE : E1 = 0
    · subst hE
      by_cases hlt : l.length < n
      · have hn4 : n ≤ 4 := by rcases hn with h | h; exact h; exact absurd rfl h
        have cR := ref_k rb wr r1 0 hR hr1
        have hlt' : (l.length : Int) < (n : Int) := by omega
        obtain ⟨m, hm⟩ : ∃ m, n - l.length = m + 1 := ⟨n - l.length - 1, by omega⟩
        have hsz := hk.size
        go_wp2_with fail
        refine cR.mono ?_
        rintro e w1 ⟨x, E2, r2, rfl, hr2, hx7, hf2, hx, hxf, hR2, hk2⟩
        have hq2 := hq.kept hk2 (fun k hk e => by have := (hq.lt k hk).1; have e' : k = rb := e; omega) (fun x hx b hb e => by have := hfo x hx b hb; have e' : b = rb := e; omega)
        have kin2 := hk.trans hk2
        have hbx := belowNew w1 (.cells #[.string x.digest, .slice x.ao x.acks.length x.cap] 74)
        have hq3 := hq2.below hbx
        have hx3 := Kind.below refK hx hbx
        have hR3 := hR2.below hbx hR2.lt
        have kin3 := kin2.trans (Kept.of_below hbx)
        have hxo : ∀ b, refK.foot x b → (Value.slice qa l.length qc).ownBlock ≠ some b := fun b hb e => by have := hxf b hb; have := (hq.lt b e).2; omega
        have hN := new_ref w1 x
        have HS2 : Hid (∀ (α : Type) (f : List RefD → List UInt8 → Except Nat α), runX E (rdRefs n rest.data.toList f) = runX E2 (rdRefs (n - (l ++ [x]).length) r2.data.toList (fun rs r => f (rd (l ++ [x]) ++ rs) r))) := by
          intro α f
          have e1 : n - (l ++ [x]).length = m := by simp; omega
          rw [HS.out, hm, e1]
          have h2 := hf2 α (fun y l' => rdRefs m l' (fun rs r => f (rd l ++ y :: rs) r))
          show runX 0 (rdT _ _) = _
          have e2 : (fun rs r => f (rd (l ++ [x]) ++ rs) r) = (fun rs r => f (rd l ++ x.d :: rs) r) := by
            funext rs r
            rw [rd_append]
            simp [rd]
          rw [e2]
          exact h2
        clear cR hx hR hq hk hk2 hq2 hbx hR2 kin2 hqt hf2 HS
        have hbs : w.heap.size ≤ (w1.alloc (.cells #[.string x.digest, .slice x.ao x.acks.length x.cap] 74)).heap.size := kin3.size
        go_wp2_with (at_builtin; refine wpList_push (K := refK) rfl _ _ 23 rfl w.heap.size 74 i0 _ 40 Try.underlying23 hi hz0 hz1 hz2 rfl _ l rfl hq3 x hx3 hxo ⟨w1.heap.size, 0, none⟩ 1 rfl hN ?c3 ?c4 hbs ?_)
        case c3 => unfold maxLen; omega
        case c4 => omega
        intro ao' cap' w3 hq6 hk6
        have hR6 := hR3.kept hk6 (fun e => by have := (hq3.lt _ e).1; omega)
        have kin6 := kin3.transNew hk6 (fun j hj => (hq3.lt j hj).1)
        have hfo6 : ∀ y ∈ l ++ [x], ∀ b, refK.foot y b → w.heap.size ≤ b := by
          intro y hy b hb
          rw [List.mem_append, List.mem_singleton] at hy
          rcases hy with hy | rfl
          · exact hfo y hy b hb
          · have := hxf b hb; omega
        have h76 : ∀ y ∈ l ++ [x], y.acks.length ≤ 7 := by
          intro y hy
          rw [List.mem_append, List.mem_singleton] at hy
          rcases hy with hy | rfl
          · exact h7 y hy
          · exact hx7
        clear hq3 hx3 hR3 kin3 hxo hN hk6 hm
        go_wp2
        go_roundw
        case rel => exact ⟨l ++ [x], E2, r2, by simp; omega, Or.inl hn4, hr2, h76, hq6, hfo6, hR6, kin6, HS2⟩
        case measure => simp [slLen]; omega
      · have hlt' : ¬ (l.length : Int) < (n : Int) := by omega
        have HF : Hid (∀ (α : Type) (f : List RefD → List UInt8 → Except Nat α), runX E (rdRefs n rest.data.toList f) = runX 0 (f (rd l) r1.data.toList)) := by
          intro α f
          have e1 : n - l.length = 0 := by omega
          rw [HS.out, e1, rdRefs, List.append_nil]
        have hff := hq.foot_ge (B := w.heap.size) (Nat.le_refl _) hfo
        clear HS
        go_wp2
        go_ret
        exact ⟨l, 0, r1, qa, qc, rfl, hr1, hln, h7, HF.out, hqt, hqn, hff, hR, hk⟩
    · have hE' : ((E1 : Int) == 0) = false := beq_eq_false_iff_ne.2 (by omega)
      have HF : Hid (∀ (α : Type) (f : List RefD → List UInt8 → Except Nat α), runX E (rdRefs n rest.data.toList f) = runX E1 (f (rd l) r1.data.toList)) := by
        intro α f
        rw [HS.out, runX_err hE, runX_err hE]
      have hff := hq.foot_ge (B := w.heap.size) (Nat.le_refl _) hfo
      clear HS
      go_wp2
      go_ret
      exact ⟨l, E1, r1, qa, qc, rfl, hr1, hln, h7, HF.out, hqt, hqn, hff, hR, hk⟩

/-- How many Refs there are, and the Refs. -/
def rdNRefs {α : Type} (l : List UInt8) (f : List RefD → List UInt8 → Except Nat α) : Except Nat α := rdI l fun n l => if 4 < n then .error 8 else rdRefs n l f

/-- Refs were read. -/
def GotNRefs (T : TypeId) (w : World) (rb : Nat) (rest : ByteArray) (E : Nat) (e : Ending) (w' : World) : Prop :=
  ∃ (l : List RefM) (E' : Nat) (rest' : ByteArray) (ao : Option Addr) (cap : Nat), e = .returned (.slice ao l.length cap) ∧ rest'.size ≤ maxLen ∧ (∀ x ∈ l, x.acks.length ≤ 7) ∧
    (∀ (α : Type) (f : List RefD → List UInt8 → Except Nat α), runX E (rdNRefs rest.data.toList f) = runX E' (f (rd l) rest'.data.toList)) ∧ RowAt refK w' ao l ∧ (ao = none → cap = 0) ∧ (∀ b, rowFoot refK ao l b → w.heap.size ≤ b) ∧ Arr w' rb T [.string rest', .int .i64 (E' : Int)] ∧ Kept (fun k => k = rb) w w'

set_option maxRecDepth 100000 in
set_option maxHeartbeats 1000000 in
theorem refs_k (rb : Nat) (w : World) (rest : ByteArray) (E : Nat) (hR : Arr w rb 54 [.string rest, .int .i64 (E : Int)]) (hs : rest.size ≤ maxLen) :
    Calls Try.prog 30 #[.pointer (some ⟨rb, 0, none⟩)] w fun e w' => GotNRefs 54 w rb rest E e w' := by
  have c0 := takeInt_k rb w rest E hR hs
  have hmf : ∀ (fn : Fn) (first cap : Array Value) (w : World), (Instr.makeFunc fn first cap).run Try.prog w = .ok (.func fn first cap) w := fun _ _ _ _ => rfl
  go_enter Try.func30, Try.ntmps30
  go_wp2_with fail
  refine c0.mono ?_
  rintro e w1 ⟨n, E1, r1, rfl, hn, hr1, hf1, hR1, hk1⟩
  have c1 := refuse_k rb w1 r1 E1 (decide ((4 : Int) < (n : Int))) 8 hR1
  obtain ⟨E2, hE2⟩ : ∃ q, Hid (q = (if decide ((4 : Int) < (n : Int)) = true ∧ E1 = 0 then 8 else E1)) := ⟨_, rfl⟩
  rw [← hE2.out] at c1
  clear c0 hR1
  go_wp2_with fail
  refine c1.mono ?_
  rintro e w2 ⟨rfl, hR2, hk2⟩
  have kin2 := hk1.trans hk2
  have HS : Hid ((n ≤ 4 ∨ E2 ≠ 0) ∧ ∀ (α : Type) (f : List RefD → List UInt8 → Except Nat α), runX E (rdNRefs rest.data.toList f) = runX E2 (rdRefs n r1.data.toList f)) := by
    have e2 := hE2.out
    by_cases h4 : 4 < n
    · by_cases h0 : E1 = 0
      · rw [if_pos ⟨decide_eq_true (by omega), h0⟩] at e2
        refine ⟨Or.inr (by omega), fun α f => ?_⟩
        unfold rdNRefs
        rw [hf1, if_pos h4, h0, e2]
        rfl
      · rw [if_neg (fun h => h0 h.2)] at e2
        refine ⟨Or.inr (by omega), fun α f => ?_⟩
        unfold rdNRefs
        rw [hf1, e2, runX_err h0, runX_err h0]
    · rw [if_neg (fun h => by have := of_decide_eq_true h.1; omega)] at e2
      refine ⟨Or.inl (by omega), fun α f => ?_⟩
      unfold rdNRefs
      rw [hf1, if_neg h4, e2]
  clear hE2 hf1 hk1 hk2 c1
  have c2 := several_k rb w2 r1 E2 n HS.out.1 hR2 hr1
  go_wp2_with fail
  refine c2.mono ?_
  rintro e w3 ⟨l, E3, r3, ao, cap, rfl, hr3, hln, h7, hf3, hO, hno, hff, hR3, hk3⟩
  have kin3 := kin2.trans hk3
  have HF : Hid (∀ (α : Type) (f : List RefD → List UInt8 → Except Nat α), runX E (rdNRefs rest.data.toList f) = runX E3 (f (rd l) r3.data.toList)) := by
    intro α f
    rw [HS.out.2, hf3]
  have hz2 := kin2.size
  clear c2 HS hf3 hk3 kin2
  go_wp2
  go_ret
  exact ⟨l, E3, r3, ao, cap, rfl, hr3, h7, HF.out, hO, hno, fun b hb => by have := hff b hb; omega, hR3, kin3⟩

theorem results_hdr_tmp {fn : Func} {p u : Tmp} (h : fn.results = #[.cell p 26, .tmp u]) (tmps : Array Value) (w : World) (g : Nat) (x : HdrM)
    (hp : tmps.getD p undef = .pointer (some ⟨g, 0, none⟩)) (hg : Arr w g 26 x.c) (v : Value) (hv : tmps.getD u undef = v) :
    (results fn tmps).run Try.prog w = .ok (.tuple #[x.v, v]) w := by
  rw [results_cell_tmp h, hp, hv]
  have hl := run_loadVar_row w g 26 26 x.c.toArray (0, 0) _ hg Try.underlying26 rfl infoHdr6
  simp [asAddr, hl, HdrM.v, HdrM.c, Result.andThen]

/-- No header. -/
def hdr0 : HdrM := ⟨0, 0, none, [], 0, none, [], 0⟩

theorem hdr0_at (w : World) : hdr0.At w := ⟨nil_row _ _, fun _ => rfl, nil_row _ _, fun _ => rfl⟩

/-- Decode hands back a header and an error. -/
def GotHdr (W : World) (r : Except Nat HdrD) (e : Ending) (w : World) : Prop :=
  ∃ (x : HdrM) (er : Nat), e = .returned (.tuple #[x.v, .int .i64 (er : Int)]) ∧ x.At w ∧ ((er = 0 ∧ r = .ok x.d) ∨ (er ≠ 0 ∧ r = .error er ∧ x = hdr0)) ∧ (∀ b, x.foot b → W.heap.size ≤ b) ∧ Below W.heap.size W w

theorem gotHdr_err {W w : World} {r : Except Nat HdrD} {er : Nat} (h : r = .error er) (he : er ≠ 0) (hb : Below W.heap.size W w) (e : Ending) (hv : e = .returned (.tuple #[hdr0.v, .int .i64 (er : Int)])) : GotHdr W r e w :=
  ⟨hdr0, er, hv, hdr0_at _, Or.inr ⟨he, h, rfl⟩, fun b hb => hb.elim (fun h => (nil_foot h).elim) (fun h => (nil_foot h).elim), hb⟩

/-- Four cells are written anew. -/
def set4 (w : World) (g : Nat) (v0 v1 v2 v3 : Value) : World := (((w.setCell ⟨g, 0, none⟩ v0).setCell ⟨g, 1, none⟩ v1).setCell ⟨g, 2, none⟩ v2).setCell ⟨g, 3, none⟩ v3

theorem Arr.set4 {w : World} {g : Nat} {t : TypeId} {a0 a1 a2 a3 : Value} (h : Arr w g t [a0, a1, a2, a3]) (v0 v1 v2 v3 : Value) : Arr (Proofs.Ytepgdbpofppdcaa.set4 w g v0 v1 v2 v3) g t [v0, v1, v2, v3] := (((h.set 0 v0).set 1 v1).set 2 v2).set 3 v3

theorem below_set4 {B : Nat} {w w' : World} (h : Below B w w') {g : Nat} (hg : B ≤ g) (v0 v1 v2 v3 : Value) : Below B w (set4 w' g v0 v1 v2 v3) :=
  (((h.setCell (p := ⟨g, 0, none⟩) hg v0).setCell (p := ⟨g, 1, none⟩) hg v1).setCell (p := ⟨g, 2, none⟩) hg v2).setCell (p := ⟨g, 3, none⟩) hg v3

theorem kept_set4 (w : World) (g : Nat) (v0 v1 v2 v3 : Value) : Kept (fun k => k = g) w (set4 w g v0 v1 v2 v3) :=
  ((((Kept.refl (fun k => k = g) w).set (p := ⟨g, 0, none⟩) rfl v0).set (p := ⟨g, 1, none⟩) rfl v1).set (p := ⟨g, 2, none⟩) rfl v2).set (p := ⟨g, 3, none⟩) rfl v3

/-- What Decode reads, field by field. -/
theorem decH_steps (l : List UInt8) : decH l = rdI l fun a l => rdI l fun r l => rdNRefs l fun rs l => rdL 7 l fun ps l => if l ≠ [] then .error 6 else if (6 : Int) < (a : Int) then .error 2 else .ok ⟨(a : Int), (r : Int), rs, mks ps⟩ := rfl

set_option maxRecDepth 100000 in
set_option maxHeartbeats 2000000 in
theorem hdrDecode_any (s : ByteArray) (W : World) (hs : s.size ≤ maxLen) :
    Calls Try.prog 6 #[.string s] W fun e w' => GotHdr W (decH s.data.toList) e w' := by
  obtain ⟨hZ, hR, hB⟩ := two_new W 26 54 [.int .i64 0, .int .i64 0, .slice none 0 0, .slice none 0 0] [.string s, .int .i64 0]
  obtain ⟨out, hout⟩ : ∃ out, out = decH s.data.toList := ⟨_, rfl⟩
  rw [← hout]
  rw [decH_steps] at hout
  have H : Hid (out = _) := (hout.trans (runX_zero _).symm : _ = _)
  clear hout
  have c0 := takeInt_k (W.heap.size + 1) _ s 0 hR hs
  go_enter Try.func6, Try.ntmps6
  go_wp2_with fail
  refine c0.mono ?_
  rintro e w1 ⟨v0, E1, r1, rfl, hv0, hr1, hf, hR1, hk1⟩
  have hZ1 := hZ.kept hk1 (by omega)
  have hB1 := hB.trans (hk1.below hB.size (fun k hk => by rw [hk]; omega))
  have hx := H.out.trans (hf _ _)
  replace H : Hid (out = _) := hx
  clear hx hf c0 hZ hR hB hk1
  have c1 := takeInt_k (W.heap.size + 1) _ r1 E1 hR1 hr1
  go_wp2_with fail
  refine c1.mono ?_
  rintro e w2 ⟨v1, E2, r2, rfl, hv1, hr2, hf, hR2, hk2⟩
  have hZ2 := hZ1.kept hk2 (by omega)
  have hB2 := hB1.trans (hk2.below hB1.size (fun k hk => by rw [hk]; omega))
  have hx := H.out.trans (hf _ _)
  replace H : Hid (out = _) := hx
  clear hx hf c1 hZ1 hR1 hB1 hk2 hr1
  have c2 := refs_k (W.heap.size + 1) _ r2 E2 hR2 hr2
  go_wp2_with fail
  refine c2.mono ?_
  rintro e w3 ⟨rs, E3, r3, ra, rc, rfl, hr3, h7, hf, hO3, hn3, hff3, hR3, hk3⟩
  have hZ3 := hZ2.kept hk3 (by omega)
  have hB3 := hB2.trans (hk3.below hB2.size (fun k hk => by rw [hk]; omega))
  have hx := H.out.trans (hf _ _)
  replace H : Hid (out = _) := hx
  have hw2 := hR2.lt
  clear hx hf c2 hZ2 hR2 hB2 hk3 hr2
  have c3 := takeList_k (W.heap.size + 1) _ r3 E3 hR3 hr3
  go_wp2_with fail
  refine c3.mono ?_
  rintro e w4 ⟨ps, E4, r4, pa, pc, rfl, hpl, hp7, hr4, hf, hO4, hn4, hR4, hk4⟩
  have hZ4 := hZ3.kept hk4 (by omega)
  have hB4 := hB3.trans (hk4.below hB3.size (fun k hk => by rw [hk]; omega))
  have hO34 := hO3.kept hk4 (fun b hb e => by have := hff3 b hb; have e' : b = W.heap.size + 1 := e; omega)
  have hP4 := hO4.at.row
  have hw3 := hR3.lt
  have hff4 : ∀ b, rowFoot strK pa (mks ps) b → W.heap.size + 1 < b := fun b hb => by have := hO4.foot hb; omega
  have hff3' : ∀ b, rowFoot refK ra rs b → W.heap.size + 1 < b := fun b hb => by have := hff3 b hb; omega
  have hx := H.out.trans (hf _ _)
  replace H : Hid (out = _) := hx
  clear hx hf c3 hZ3 hR3 hB3 hr3 hO3 hO4 hff3
  obtain ⟨pss, hpss⟩ : ∃ q, q = mks ps := ⟨_, rfl⟩
  rw [← hpss] at hP4 hff4 H ⊢
  clear hpss hpl hp7
  have u0 := hR4.cell (i := 0) rfl
  have c4 := refuse_k (W.heap.size + 1) w4 r4 E4 (!r4.toList.isEmpty) 6 hR4
  obtain ⟨E5, hE5⟩ : ∃ q, Hid (q = (if (!r4.toList.isEmpty) = true ∧ E4 = 0 then 6 else E4)) := ⟨_, rfl⟩
  rw [← hE5.out] at c4
  go_wp2_with fail
  refine c4.mono ?_
  rintro e w5 ⟨rfl, hR5, hk5⟩
  have hZ5 := hZ4.kept hk5 (by omega)
  have hB5 := hB4.trans (hk5.below hB4.size (fun k hk => by rw [hk]; omega))
  have hO5 := hO34.kept hk5 (fun b hb e => by have := hff3' b hb; have e' : b = W.heap.size + 1 := e; omega)
  have hP5 := hP4.kept hk5 (fun b hb e => by have := hff4 b hb; have e' : b = W.heap.size + 1 := e; omega)
  clear c4 hZ4 hB4 hO34 hP4 hk5 u0 hR4
  have c5 := refuse_k (W.heap.size + 1) w5 r4 E5 (decide ((6 : Int) < (v0 : Int))) 2 hR5
  obtain ⟨E6, hE6⟩ : ∃ q, Hid (q = (if decide ((6 : Int) < (v0 : Int)) = true ∧ E5 = 0 then 2 else E5)) := ⟨_, rfl⟩
  rw [← hE6.out] at c5
  go_wp2_with fail
  refine c5.mono ?_
  rintro e w6 ⟨rfl, hR6, hk6⟩
  have hZ6 := hZ5.kept hk6 (by omega)
  have hB6 := hB5.trans (hk6.below hB5.size (fun k hk => by rw [hk]; omega))
  have hO6 := hO5.kept hk6 (fun b hb e => by have := hff3' b hb; have e' : b = W.heap.size + 1 := e; omega)
  have hP6 := hP5.kept hk6 (fun b hb e => by have := hff4 b hb; have e' : b = W.heap.size + 1 := e; omega)
  clear c5 hZ5 hB5 hO5 hP5 hk6 hR5
  have HF : Hid ((E6 = 0 ∧ out = .ok (HdrM.d ⟨(v0 : Int), (v1 : Int), ra, rs, rc, pa, pss, pc⟩)) ∨ (E6 ≠ 0 ∧ out = .error E6)) := by
    have e5 := hE5.out
    have e6 := hE6.out
    rcases runX_any H.out with ⟨h1, h2⟩ | ⟨h1, h2⟩
    · by_cases hm : r4.data.toList ≠ []
      · rw [if_pos hm] at h2
        rw [if_pos ⟨by rw [ByteArray.toList_eq]; simpa using hm, h1⟩] at e5
        rw [if_neg (fun h => by omega)] at e6
        exact Or.inr ⟨by omega, by rw [h2, e6, e5]⟩
      · rw [if_neg hm] at h2
        rw [if_neg (fun h => hm (by have := h.1; rw [ByteArray.toList_eq] at this; simpa using this))] at e5
        by_cases h6 : (6 : Int) < (v0 : Int)
        · rw [if_pos h6] at h2
          rw [if_pos ⟨decide_eq_true h6, by omega⟩] at e6
          exact Or.inr ⟨by omega, by rw [h2, e6]⟩
        · rw [if_neg h6] at h2
          rw [if_neg (fun h => h6 (of_decide_eq_true h.1))] at e6
          exact Or.inl ⟨by omega, h2⟩
    · rw [if_neg (fun h => by omega)] at e5
      rw [if_neg (fun h => by omega)] at e6
      exact Or.inr ⟨by omega, by rw [h2, e6, e5]⟩
  clear H hE5 hE6
  have u1 := hR6.cell (i := 1) rfl
  have z0 := hZ6.cell (i := 0) rfl
  have z1 := hZ6.cell (i := 1) rfl
  have z2 := hZ6.cell (i := 2) rfl
  have z3 := hZ6.cell (i := 3) rfl
  have g0 := hZ6.frozen 0
  have g1 := hZ6.frozen 1
  have g2 := hZ6.frozen 2
  have g3 := hZ6.frozen 3
  by_cases he : E6 = 0
  · subst he
    have ho : out = .ok (HdrM.d ⟨(v0 : Int), (v1 : Int), ra, rs, rc, pa, pss, pc⟩) := by
      rcases HF.out with ⟨_, h⟩ | ⟨h, _⟩
      · exact h
      · exact absurd rfl h
    have hZF := hZ6.set4 (.int .i64 (v0 : Int)) (.int .i64 (v1 : Int)) (.slice ra rs.length rc) (.slice pa pss.length pc)
    have hBF := below_set4 hB6 (Nat.le_refl _) (.int .i64 (v0 : Int)) (.int .i64 (v1 : Int)) (.slice ra rs.length rc) (.slice pa pss.length pc)
    have kF := kept_set4 w6 W.heap.size (.int .i64 (v0 : Int)) (.int .i64 (v1 : Int)) (.slice ra rs.length rc) (.slice pa pss.length pc)
    have hOF := hO6.kept kF (fun b hb e => by have := hff3' b hb; have e' : b = W.heap.size := e; omega)
    have hPF := hP6.kept kF (fun b hb e => by have := hff4 b hb; have e' : b = W.heap.size := e; omega)
    have fin : ∀ e, e = .returned (.tuple #[HdrM.v ⟨(v0 : Int), (v1 : Int), ra, rs, rc, pa, pss, pc⟩, .int .i64 0]) → GotHdr W out e _ := fun e hv => ⟨_, 0, hv, ⟨hOF, hn3, hPF, hn4⟩, Or.inl ⟨rfl, ho⟩, fun b hb => hb.elim (fun h => by have := hff3' b h; omega) (fun h => by have := hff4 b h; omega), hBF⟩
    unfold set4 at hZF fin
    clear hZ6 hB6 HF hBF kF hOF hPF hO6 hP6 ho
    go_wp2
    refine bodyPost_ret (v := .tuple #[HdrM.v ⟨(v0 : Int), (v1 : Int), ra, rs, rc, pa, pss, pc⟩, .int .i64 0]) (results_hdr_tmp rfl _ _ W.heap.size ⟨(v0 : Int), (v1 : Int), ra, rs, rc, pa, pss, pc⟩ rfl hZF _ rfl) rfl ?_
    exact fin _ rfl
  · have ho : out = .error E6 := by
      rcases HF.out with ⟨h, _⟩ | ⟨_, h⟩
      · exact absurd h he
      · exact h
    have hne : ((E6 : Int) != 0) = true := by rw [bne_iff_ne]; omega
    have fin : Arr (set4 w6 W.heap.size (.int .i64 0) (.int .i64 0) (.slice none 0 0) (.slice none 0 0)).drew W.heap.size 26 hdr0.c ∧ Below W.heap.size W (set4 w6 W.heap.size (.int .i64 0) (.int .i64 0) (.slice none 0 0) (.slice none 0 0)).drew :=
      ⟨(hZ6.set4 (.int .i64 0) (.int .i64 0) (.slice none 0 0) (.slice none 0 0)).drew, Below.drew (below_set4 hB6 (Nat.le_refl _) (.int .i64 0) (.int .i64 0) (.slice none 0 0) (.slice none 0 0))⟩
    have hfin := fun w' e hb hv => gotHdr_err (W := W) (w := w') (e := e) ho he hb hv
    unfold set4 at fin
    clear hZ6 hB6 HF hO6 hP6
    go_wp2_with fail
    go_region
    revert fin
    generalize (World.setCell _ ⟨W.heap.size, 3, none⟩ (.slice none 0 0)).drew = wf
    intro fin
    try go_wp2
    refine bodyPost_ret (v := .tuple #[hdr0.v, .int .i64 (E6 : Int)]) (results_hdr_tmp rfl _ _ W.heap.size hdr0 rfl fin.1 _ rfl) rfl ?_
    exact hfin _ _ fin.2 rfl
end Go.Proofs.Ytepgdbpofppdcaa
