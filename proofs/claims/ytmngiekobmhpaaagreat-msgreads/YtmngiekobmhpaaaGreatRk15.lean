/- Texts as one: InReader, RefBatDecode, RefHdrTags. -/
import Derived.Test.YtmngiekobmhpaaaGreatRk09
import Derived.Test.YtmngiekobmhpaaaGreatRk04
import Derived.Test.YtmngiekobmhpaaaGreatRk14
import Derived.Test.YtmngiekobmhpaaaGreatRk13
import Derived.Test.YtmngiekobmhpaaaGreatRk11
/- The reference's reader, whatever else lies in memory: each step turns its block alone. -/
namespace Go.Proofs.YtmngiekobmhpaaaGreat
open Go.RowKit
set_option linter.unusedVariables false

set_option maxRecDepth 100000 in
set_option maxHeartbeats 400000 in
theorem inInt_k (rb : Nat) (w : World) (rest : ByteArray) (E : Nat) (hR : Arr w rb 62 [.string rest, .int .i64 (E : Int)]) (hs : rest.size ≤ maxLen) :
    Calls Tryz.prog 19 #[.pointer (some ⟨rb, 0, none⟩)] w fun e w' => ∃ (n E' : Nat) (rest' : ByteArray), e = .returned (.int .i64 (n : Int)) ∧ n ≤ 4611686018427387903 ∧ rest'.size ≤ maxLen ∧
      (∀ (α : Type) (f : Nat → List UInt8 → Except Nat α), runX E (rdI rest.data.toList f) = runX E' (f n rest'.data.toList)) ∧ Arr w' rb 62 [.string rest', .int .i64 (E' : Int)] ∧ Kept (fun k => k = rb) w w' := by
  have c0 := hR.cell (i := 0) rfl
  have c1 := hR.cell (i := 1) rfl
  have f0 := hR.frozen 0
  have f1 := hR.frozen 1
  by_cases hE : E = 0
  · subst hE
    rcases hr : getInt rest.data.toList with ⟨n, k, er⟩
    have fin := (hR.set 1 (.int .i64 (er : Int))).set 0 (.string (rest.extract k rest.size))
    have kin := ((Kept.refl (fun k => k = rb) w).set (p := ⟨rb, 1, none⟩) rfl (.int .i64 (er : Int))).set (p := ⟨rb, 0, none⟩) rfl (.string (rest.extract k rest.size))
    have hl : rest.data.toList.length = rest.size := by simp
    have hkn : k ≤ rest.size ∧ n ≤ 4611686018427387903 := by
      by_cases he : er = 0
      · subst he
        have hb := getInt_bounds _ n k hr
        omega
      · have := getInt_zero hr he
        omega
    have hk : (k : Int) ≤ rest.size := by omega
    have hstep : Hid (∀ (α : Type) (f : Nat → List UInt8 → Except Nat α), runX 0 (rdI rest.data.toList f) = runX er (f n (rest.extract k rest.size).data.toList)) := by
      intro α f
      by_cases he : er = 0
      · subst he
        rw [rdI_ok hr, extract_drop]
      · rw [rdI_err hr he, runX_err he]
        rfl
    have cG := fun w1 => refGetInt_at rest w1 n k er hs hr
    have hsz := rest_le rest k hs
    clear hR hr hl hs
    go_enter Tryz.func19, Tryz.ntmps19
    go_wp2_with fail
    refine (cG _).mono ?_
    rintro e w1 ⟨rfl, rfl⟩
    go_wp2
    go_ret
    exact ⟨n, er, rest.extract k rest.size, rfl, hkn.2, hsz, hstep.out, fin, kin⟩
  · have hE' : ((E : Int) != 0) = true := by rw [bne_iff_ne]; omega
    go_enter Tryz.func19, Tryz.ntmps19
    go_wp2
    go_ret
    exact ⟨0, E, rest, rfl, by omega, hs, fun α f => by rw [runX_err hE, runX_err hE], hR, Kept.refl _ _⟩

set_option maxRecDepth 100000 in
set_option maxHeartbeats 400000 in
theorem inText_k (rb : Nat) (w : World) (rest : ByteArray) (E : Nat) (hR : Arr w rb 62 [.string rest, .int .i64 (E : Int)]) (hs : rest.size ≤ maxLen) :
    Calls Tryz.prog 65 #[.pointer (some ⟨rb, 0, none⟩)] w fun e w' => ∃ (t : List UInt8) (E' : Nat) (rest' : ByteArray), e = .returned (.string ⟨t.toArray⟩) ∧ t.length ≤ 65536 ∧ rest'.size ≤ maxLen ∧
      (∀ (α : Type) (f : List UInt8 → List UInt8 → Except Nat α), runX E (rdT rest.data.toList f) = runX E' (f t rest'.data.toList)) ∧ Arr w' rb 62 [.string rest', .int .i64 (E' : Int)] ∧ Kept (fun k => k = rb) w w' := by
  have c0 := hR.cell (i := 0) rfl
  have c1 := hR.cell (i := 1) rfl
  have f0 := hR.frozen 0
  have f1 := hR.frozen 1
  by_cases hE : E = 0
  · subst hE
    rcases hr : getText rest.data.toList with ⟨t, k, er⟩
    have fin := (hR.set 1 (.int .i64 (er : Int))).set 0 (.string (rest.extract k rest.size))
    have kin := ((Kept.refl (fun k => k = rb) w).set (p := ⟨rb, 1, none⟩) rfl (.int .i64 (er : Int))).set (p := ⟨rb, 0, none⟩) rfl (.string (rest.extract k rest.size))
    have hl : rest.data.toList.length = rest.size := by simp
    have hkn : k ≤ rest.size ∧ t.length ≤ 65536 := by
      by_cases he : er = 0
      · subst he
        have hb := getText_bounds _ t k hr
        omega
      · have := getText_zero hr he
        rw [this.1, this.2]
        simp
    have hk : (k : Int) ≤ rest.size := by omega
    have hstep : Hid (∀ (α : Type) (f : List UInt8 → List UInt8 → Except Nat α), runX 0 (rdT rest.data.toList f) = runX er (f t (rest.extract k rest.size).data.toList)) := by
      intro α f
      by_cases he : er = 0
      · subst he
        rw [rdT_ok hr, extract_drop]
      · rw [rdT_err hr he, runX_err he]
        rfl
    have cG := fun w1 => refGetText_at rest w1 t k er hs hr
    have hsz := rest_le rest k hs
    have hk2 : Hid (t.length ≤ 65536) := hkn.2
    clear hR hr hl hs hkn
    go_enter Tryz.func65, Tryz.ntmps65
    go_wp2_with fail
    refine (cG _).mono ?_
    rintro e w1 ⟨rfl, rfl⟩
    go_wp2
    go_ret
    exact ⟨t, er, rest.extract k rest.size, rfl, hk2.out, hsz, hstep.out, fin, kin⟩
  · have hE' : ((E : Int) != 0) = true := by rw [bne_iff_ne]; omega
    go_enter Tryz.func65, Tryz.ntmps65
    go_wp2
    go_ret
    exact ⟨[], E, rest, rfl, by simp, hs, fun α f => by rw [runX_err hE, runX_err hE], hR, Kept.refl _ _⟩

theorem refGetListN (s : ByteArray) (m : Nat) (hm : m ≤ 1000) (w : World) (hs : s.size ≤ maxLen) (ts : List (List UInt8)) (k er : Nat) (hr : getList s.data.toList m = (ts, k, er)) :
    Calls Tryz.prog 125 #[.string s, .int .i64 (m : Int)] w fun e w' => ∃ ao cap, e = .returned (.tuple #[.slice ao (mks ts).length cap, .int .i64 (k : Int), .int .i64 (er : Int)]) ∧ OwnStrs w.heap.size w' ao (mks ts) ∧ (ao = none → cap = 0) ∧ Below w.heap.size w w' := by
  refine (refGetList_any s m w m hs (Or.inr (by omega)) (by omega)).mono ?_
  rintro e w' ⟨v, rfl, hg, hb⟩
  rw [hr] at hg
  obtain ⟨ao, cap, rfl, hown⟩ := hg
  have hml : (mks ts).length = ts.length := by simp [mks]
  refine ⟨ao, cap, by rw [hml], ?_, ?_, hb⟩
  · refine own_far (cap := cap) (n := ts.length) ?_ hml.symm
    rw [bl_mks]
    exact hown
  · intro he
    rcases hown.2 with ⟨hv, _⟩ | ⟨g, c, cur, hv, _⟩
    · simp at hv; exact hv.2.2
    · simp at hv; rw [hv.1] at he; cases he

set_option maxRecDepth 100000 in
set_option maxHeartbeats 400000 in
theorem inList_k (rb : Nat) (w : World) (rest : ByteArray) (E : Nat) (m : Nat) (hm : m ≤ 1000) (hR : Arr w rb 62 [.string rest, .int .i64 (E : Int)]) (hs : rest.size ≤ maxLen) :
    Calls Tryz.prog 100 #[.pointer (some ⟨rb, 0, none⟩), .int .i64 (m : Int)] w fun e w' => ∃ (ts : List (List UInt8)) (E' : Nat) (rest' : ByteArray) (ao : Option Addr) (cap : Nat), e = .returned (.slice ao (mks ts).length cap) ∧ (∀ t ∈ ts, t.length ≤ 65536) ∧ ts.length ≤ m ∧ rest'.size ≤ maxLen ∧
      (∀ (α : Type) (f : List (List UInt8) → List UInt8 → Except Nat α), runX E (rdL m rest.data.toList f) = runX E' (f ts rest'.data.toList)) ∧ OwnStrs w.heap.size w' ao (mks ts) ∧ Arr w' rb 62 [.string rest', .int .i64 (E' : Int)] ∧ Kept (fun k => k = rb) w w' ∧ (ao = none → cap = 0) := by
  have c0 := hR.cell (i := 0) rfl
  have c1 := hR.cell (i := 1) rfl
  by_cases hE : E = 0
  · subst hE
    rcases hr : getList rest.data.toList m with ⟨ts, k, er⟩
    have hl : rest.data.toList.length = rest.size := by simp
    have hkn : k ≤ rest.size ∧ (∀ t ∈ ts, t.length ≤ 65536) ∧ ts.length ≤ m := by
      by_cases he : er = 0
      · subst he
        obtain ⟨_, _, b3, b4, b5⟩ := getList_back hr
        exact ⟨by omega, b5, by omega⟩
      · have := getList_zero hr he
        rw [this.1, this.2]
        simp
    have hk : (k : Int) ≤ rest.size := by omega
    have hstep : Hid (∀ (α : Type) (f : List (List UInt8) → List UInt8 → Except Nat α), runX 0 (rdL m rest.data.toList f) = runX er (f ts (rest.extract k rest.size).data.toList)) := by
      intro α f
      by_cases he : er = 0
      · subst he
        rw [rdL_ok hr, extract_drop]
      · rw [rdL_err hr he, runX_err he]
        rfl
    have cG := fun w1 => refGetListN rest m hm w1 hs ts k er hr
    have hsz := rest_le rest k hs
    clear hr hl hs
    obtain ⟨ms, hms⟩ : ∃ q, q = mks ts := ⟨_, rfl⟩
    simp only [← hms] at cG
    have Hms : Hid (ms = mks ts) := hms
    clear hms
    go_enter Tryz.func100, Tryz.ntmps100
    go_wp2_with fail
    refine (cG _).mono ?_
    rintro e w1 ⟨ao, cap, rfl, hO, hn, hb⟩
    have hR1 := hR.below hb hR.lt
    have fin := (hR1.set 1 (.int .i64 (er : Int))).set 0 (.string (rest.extract k rest.size))
    have kin := ((Kept.of_below (S := fun k => k = rb) hb).set (p := ⟨rb, 1, none⟩) rfl (.int .i64 (er : Int))).set (p := ⟨rb, 0, none⟩) rfl (.string (rest.extract k rest.size))
    have hOF := (hO.put (p := ⟨rb, 1, none⟩) hR.lt (.int .i64 (er : Int))).put (p := ⟨rb, 0, none⟩) hR.lt (.string (rest.extract k rest.size))
    have d0 := hR1.cell (i := 0) rfl
    have d1 := hR1.cell (i := 1) rfl
    have f0 := hR1.frozen 0
    have f1 := hR1.frozen 1
    clear hR hR1 c0 c1 hO hb cG
    go_wp2
    go_ret
    refine ⟨ts, er, rest.extract k rest.size, ao, cap, by rw [← Hms.out]; rfl, hkn.2.1, hkn.2.2, hsz, hstep.out, ?_, fin, kin, hn⟩
    rw [← Hms.out]
    exact hOF
  · have hE' : ((E : Int) != 0) = true := by rw [bne_iff_ne]; omega
    go_enter Tryz.func100, Tryz.ntmps100
    go_wp2
    go_ret
    exact ⟨[], E, rest, none, 0, rfl, by simp, by simp, hs, fun α f => by rw [runX_err hE, runX_err hE], (fun j hj => absurd hj (by simp [mks])), hR, Kept.refl _ _, fun _ => rfl⟩

set_option maxRecDepth 100000 in
set_option maxHeartbeats 400000 in
theorem inEnd_k (rb : Nat) (w : World) (rest : ByteArray) (E : Nat) (hR : Arr w rb 62 [.string rest, .int .i64 (E : Int)]) :
    Calls Tryz.prog 22 #[.pointer (some ⟨rb, 0, none⟩)] w fun e w' => e = .returned (.tuple #[]) ∧ Arr w' rb 62 [.string rest, .int .i64 ((if E = 0 ∧ rest.data.toList ≠ [] then 6 else E : Nat) : Int)] ∧ Kept (fun k => k = rb) w w' := by
  have c0 := hR.cell (i := 0) rfl
  have c1 := hR.cell (i := 1) rfl
  have f1 := hR.frozen 1
  by_cases hE : E = 0
  · subst hE
    by_cases hr : rest.data.toList ≠ []
    · have hr1 : rest.toList.isEmpty = false := by rw [ByteArray.toList_eq]; simpa using hr
      rw [if_pos ⟨rfl, hr⟩]
      have fin := hR.set 1 (.int .i64 6)
      have kin := (Kept.refl (fun k => k = rb) w).set (p := ⟨rb, 1, none⟩) rfl (.int .i64 6)
      clear hr
      go_enter Tryz.func22, Tryz.ntmps22
      go_wp2
      go_end0
      exact ⟨rfl, fin, kin⟩
    · have hr1 : rest.toList.isEmpty = true := by rw [ByteArray.toList_eq]; simpa using hr
      rw [if_neg (fun h => hr h.2)]
      clear hr
      go_enter Tryz.func22, Tryz.ntmps22
      go_wp2
      go_end0
      exact ⟨rfl, hR, Kept.refl _ _⟩
  · have hE' : ((E : Int) == 0) = false := beq_eq_false_iff_ne.2 (by omega)
    rw [if_neg (fun h => hE h.1)]
    go_enter Tryz.func22, Tryz.ntmps22
    go_wp2
    go_end0
    exact ⟨rfl, hR, Kept.refl _ _⟩
end Go.Proofs.YtmngiekobmhpaaaGreat

/- What tuskref05.Decode does: the batch of bytes, or the first error; nothing old in memory is turned. -/
namespace Go.Proofs.YtmngiekobmhpaaaGreat
open Go.RowKit
set_option linter.unusedVariables false

theorem txt_geB (l : List UInt8) : l.length ≤ (txt l).length := by simp [txt]

theorem flat_geB {l : List (List UInt8)} {t : List UInt8} (h : t ∈ l) : t.length ≤ (l.flatMap txt).length := by
  induction l with
  | nil => cases h
  | cons x r ih =>
    rw [List.mem_cons] at h
    rw [List.flatMap_cons, List.length_append]
    rcases h with rfl | h
    · have := txt_geB t
      omega
    · have := ih h
      omega

/-- What is right is small. -/
theorem sizes_right {d : TxD} (h : checkL d = 0) : TxSizes d := by
  have hl := enc_len h
  unfold encL at hl
  simp only [List.length_append] at hl
  have b : ∀ s : ByteArray, s.data.toList.length = s.size := fun s => by simp
  have t1 := txt_geB d.frm.data.toList
  have t2 := txt_geB d.to.data.toList
  have t3 := txt_geB d.key.data.toList
  have t4 := txt_geB d.val.data.toList
  rw [b] at t1 t2 t3 t4
  have l1 : ((bl d.rs).flatMap txt).length ≤ (lst (bl d.rs)).length := by rw [lst, List.length_append]; omega
  have l2 : ((bl d.ws).flatMap txt).length ≤ (lst (bl d.ws)).length := by rw [lst, List.length_append]; omega
  refine ⟨by unfold maxLen; omega, by unfold maxLen; omega, by unfold maxLen; omega, by unfold maxLen; omega, fun s hs => ?_, fun s hs => ?_⟩
  · have := flat_geB (l := bl d.rs) (t := s.data.toList) (List.mem_map.2 ⟨s, hs, rfl⟩)
    rw [b] at this
    unfold maxLen
    omega
  · have := flat_geB (l := bl d.ws) (t := s.data.toList) (List.mem_map.2 ⟨s, hs, rfl⟩)
    rw [b] at this
    unfold maxLen
    omega

theorem each_right {ts : List (List UInt8)} {ds : List TxD} (h : eachE decE ts = .ok ds) : ∀ d ∈ ds, checkL d = 0 :=
  eachE_all (fun b a hba => (enc_dec (decE_ok hba)).1) ts ds h

/-- The reader, the batch that is being read, and the rest. -/
structure DS (w3 : World) (rb tb : Nat) (wr : World) (rest : ByteArray) (E : Nat) (q : Value) (l : List TxM) (a n : Int) : Prop where
  rd : Arr wr rb 62 [.string rest, .int .i64 (E : Int)]
  b : Arr wr tb 26 [.int .i64 a, .int .i64 n, q]
  q : TxQ wr (tb + 1) q l
  ol : ∀ x ∈ l, x.Off (fun k => k ≤ tb)
  k : Kept (fun k => k = rb) w3 wr

theorem DS.below {w3 : World} {rb tb : Nat} {wr w' : World} {rest : ByteArray} {E : Nat} {q : Value} {l : List TxM} {a n : Int} (h : DS w3 rb tb wr rest E q l a n) (hb : Below wr.heap.size wr w') : DS w3 rb tb w' rest E q l a n :=
  ⟨h.rd.below hb h.rd.lt, h.b.below hb h.b.lt, h.q.below hb, h.ol, h.k.trans (Kept.of_below hb)⟩

theorem DS.kept {w3 : World} {rb tb : Nat} {wr w' : World} {rest rest' : ByteArray} {E E' : Nat} {q : Value} {l : List TxM} {a n : Int} (h : DS w3 rb tb wr rest E q l a n) (hr : rb < tb) (hk : Kept (fun k => k = rb) wr w') (hR : Arr w' rb 62 [.string rest', .int .i64 (E' : Int)]) : DS w3 rb tb w' rest' E' q l a n :=
  ⟨hR, h.b.kept hk (by omega), h.q.kept hk (fun k hq e => by have := (h.q.lt k hq).1; omega) (fun x hx => (h.ol x hx).mono (fun k e => by omega)), h.ol, h.k.trans hk⟩

theorem DS.setE {w3 : World} {rb tb : Nat} {wr : World} {rest : ByteArray} {E : Nat} {q : Value} {l : List TxM} {a n : Int} (h : DS w3 rb tb wr rest E q l a n) (hr : rb < tb) (e : Nat) : DS w3 rb tb (wr.setCell ⟨rb, 1, none⟩ (.int .i64 (e : Int))) rest e q l a n :=
  h.kept hr (Kept.setCell wr ⟨rb, 1, none⟩ _) (h.rd.set 1 _)

theorem DS.setB {w3 : World} {rb tb : Nat} {wr : World} {rest : ByteArray} {E : Nat} {q : Value} {l : List TxM} {a n : Int} (h : DS w3 rb tb wr rest E q l a n) (hr : rb < tb) (h3 : w3.heap.size ≤ tb) (i : Nat) (v : Value) (a' n' : Int) (hv : [.int .i64 a, .int .i64 n, q].set i v = [.int .i64 a', .int .i64 n', q]) : DS w3 rb tb (wr.setCell ⟨tb, i, none⟩ v) rest E q l a' n' :=
  ⟨h.rd.other (p := ⟨tb, i, none⟩) (by show rb ≠ tb; omega) v, by rw [← hv]; exact h.b.set i v, h.q.kept (Kept.setCell wr ⟨tb, i, none⟩ v) (fun k hq e => by have := (h.q.lt k hq).1; have e' : k = tb := e; omega) (fun x hx => (h.ol x hx).mono (fun k e => by have e' : k = tb := e; omega)), h.ol, h.k.setNew (a := ⟨tb, i, none⟩) h3 v⟩

/-- One more transaction. -/
theorem DS.push {w3 : World} {rb tb : Nat} {w7 w8 : World} {rest : ByteArray} {E : Nat} {q q' : Value} {l : List TxM} {x : TxM} (h : DS w3 rb tb w7 rest E q l 0 0) (hr : rb < tb) (h3 : w3.heap.size ≤ tb) (hgr : w7.grownBy w8 q.ownBlock) (hq8 : TxQ w8 (tb + 1) q' (l ++ [x])) (hx : x.Off (fun k => k ≤ tb)) :
    DS w3 rb tb (w8.setCell ⟨tb, 2, none⟩ q') rest E q' (l ++ [x]) 0 0 := by
  have hkg := Kept.of_grown hgr
  have hqt : ∀ j, q.ownBlock = some j → tb + 1 ≤ j := fun j hj => (h.q.lt j hj).1
  have hol : ∀ y ∈ l ++ [x], y.Off (fun k => k ≤ tb) := by
    intro y hy
    rw [List.mem_append, List.mem_singleton] at hy
    rcases hy with hy | rfl
    · exact h.ol y hy
    · exact hx
  refine ⟨(h.rd.kept hkg (fun e => by have := hqt _ e; omega)).other (p := ⟨tb, 2, none⟩) (by show rb ≠ tb; omega) q', (h.b.kept hkg (fun e => by have := hqt _ e; omega)).set 2 q', ?_, hol, ?_⟩
  · exact hq8.kept (Kept.setCell w8 ⟨tb, 2, none⟩ q') (fun k hq e => by have := (hq8.lt k hq).1; have e' : k = tb := e; omega) (fun y hy => (hol y hy).mono (fun k e => by have e' : k = tb := e; omega))
  · exact (h.k.transNew hkg (fun j hj => by have := hqt j hj; omega)).setNew (a := ⟨tb, 2, none⟩) h3 q'

set_option maxRecDepth 100000 in
set_option maxHeartbeats 4000000 in
theorem refBatDecode_new (s : ByteArray) (W : World) (hs : s.size ≤ maxLen) :
    Calls Tryz.prog 66 #[.string s] W fun e w' => GotBatN W (decBat s.data.toList) e w' := by
  obtain ⟨hZ, hR, hB⟩ := two_new W 26 62 zeroB [.string s, .int .i64 0]
  obtain ⟨i0, hi, hz0, hz1, hz2⟩ := info_parts infoTx4
  obtain ⟨out, hout⟩ : ∃ out, out = decBat s.data.toList := ⟨_, rfl⟩
  rw [← hout]
  unfold decBat at hout
  have H : Hid (out = _) := (hout.trans (runX_zero _).symm : _ = _)
  clear hout
  have hRl := hR.lt
  have c0 := inInt_k (W.heap.size + 1) _ s 0 hR hs
  unfold zeroB at hZ hR hB hRl c0
  go_enter Tryz.func66, Tryz.ntmps66
  go_wp2_with fail
  refine c0.mono ?_
  rintro e w1 ⟨v0, E1, r1, rfl, hv0, hr1, hf, hR1, hk1⟩
  have hZ1 := hZ.kept hk1 (by omega)
  have hB1 := hB.trans (hk1.below hB.size (fun k hk => by rw [hk]; omega))
  have hx := H.out.trans (hf _ _)
  replace H : Hid (out = _) := hx
  clear hx hf c0 hZ hR hB hk1
  have c1 := inInt_k (W.heap.size + 1) _ r1 E1 hR1 hr1
  go_wp2_with fail
  refine c1.mono ?_
  rintro e w2 ⟨v1, E2, r2, rfl, hv1, hr2, hf, hR2, hk2⟩
  have hZ2 := hZ1.kept hk2 (by omega)
  have hB2 := hB1.trans (hk2.below hB1.size (fun k hk => by rw [hk]; omega))
  have hx := H.out.trans (hf _ _)
  replace H : Hid (out = _) := hx
  clear hx hf c1 hZ1 hR1 hB1 hk2 hr1
  have c2 := inList_k (W.heap.size + 1) _ r2 E2 16 (by omega) hR2 hr2
  go_wp2_with fail
  refine c2.mono ?_
  rintro e w3 ⟨ts, E3, r3, a3, n3, rfl, htl, ht16, hr3, hf, hO3, hR3, hk3, _⟩
  have hZ3 := hZ2.kept hk3 (by omega)
  have hB3 := hB2.trans (hk3.below hB2.size (fun k hk => by rw [hk]; omega))
  have hx := H.out.trans (hf _ _)
  replace H : Hid (out = _) := hx
  have hr2l := hR2.lt
  clear hx hf c2 hZ2 hR2 hB2 hk3 hr2
  have hml : (mks ts).length = ts.length := by simp [mks]
  have hbm : bl (mks ts) = ts := bl_mks ts
  have hmz : Hid (∀ x ∈ mks ts, x.size ≤ maxLen) := mks_size ts htl
  obtain ⟨ms, hms⟩ : ∃ q, q = mks ts := ⟨_, rfl⟩
  rw [← hms] at hO3 hml hbm hmz ⊢
  clear hms htl
  have hr3l := hR3.lt
  have hOb : ∀ b o, a3 = some ⟨b, o, none⟩ → 0 < ms.length → ¬ b = W.heap.size + 1 := fun b o e h0 hb => by
    obtain ⟨b', o', e', h4, _⟩ := hO3 0 h0
    rw [e] at e'
    simp at e'
    try omega
  have hbn := belowNew w3 (.cells #[.int .i64 0, .int .i64 0, .slice none 0 0] 26)
  have hD : DS w3 (W.heap.size + 1) w3.heap.size (w3.alloc (.cells #[.int .i64 0, .int .i64 0, .slice none 0 0] 26)) r3 E3 (.slice none 0 0) [] 0 0 :=
    ⟨hR3.alloc _, Arr.new w3 26 _, TxQ.empty _ _, (fun x hx => by cases hx), Kept.of_below hbn⟩
  have hS3 := hO3.at
  clear hR3 hbn hO3
  obtain ⟨F, hF⟩ : ∃ F : Except Nat BatD, Hid (F = (match eachE decE ts with | .error e => .error e | .ok ts' => finBat ⟨(v0 : Int), (v1 : Int), ts'⟩ r3.data.toList)) := ⟨_, Eq.refl _⟩
  replace H : Hid (out = runX E3 F) := by rw [hF.out]; exact H.out
  have HI : Hid ((E3 = 0 ∧ eachE decE (ts.take 0) = .ok (dl []) ∧ out = F) ∨ (E3 ≠ 0 ∧ out = .error E3)) := by
    by_cases h : E3 = 0
    · exact Or.inl ⟨h, rfl, by have := H.out; rw [h] at this; exact this⟩
    · exact Or.inr ⟨h, by rw [H.out, runX_err h]⟩
  clear H
  go_wp2
  go_loopw [9, 10, 11] (fun v9 v10 v11 wr => ∃ (k : Nat) (l : List TxM) (q : Value) (E : Nat), k ≤ ts.length ∧ l.length = k ∧ v9 = .int .i64 (k : Int) ∧ DS w3 (W.heap.size + 1) w3.heap.size wr r3 E q l 0 0 ∧ Hid ((E = 0 ∧ eachE decE (ts.take k) = .ok (dl l) ∧ out = F) ∨ (E ≠ 0 ∧ out = .error E))) (fun v _ _ _ => ts.length - (intOf v).toNat)
  case atStart => exact ⟨0, [], _, E3, Nat.zero_le _, rfl, rfl, hD, HI⟩
  case round =>
    clear HI hD
    obtain ⟨k, l, q, E, hk, hlk, rfl, hD, HI⟩ := hrel
    have hrt : W.heap.size + 1 < w3.heap.size := hr3l
    have u1 := hD.rd.cell (i := 1) rfl
    by_cases hE : E = 0
    · subst hE
      have hI : eachE decE (ts.take k) = .ok (dl l) ∧ out = F := by
        rcases HI.out with ⟨_, h2, h3⟩ | ⟨h1, _⟩
        · exact ⟨h2, h3⟩
        · exact absurd rfl h1
      clear HI
      by_cases hlt : k < ts.length
      · have hkm : k < ms.length := by omega
        obtain ⟨b, off, rfl, hbl, hcell⟩ := (hS3.kept hD.k hOb) k hkm
        have hbk : ts[k]? = some ms[k].data.toList := by rw [← hbm]; simp [bl, hkm]
        have hek := eachE_take (f := decE) ts k _ hbk (dl l) hI.1
        have hs1 := hmz.out ms[k] (List.getElem_mem hkm)
        obtain ⟨s1, hs1e⟩ : ∃ s, s = ms[k] := ⟨_, rfl⟩
        rw [← hs1e] at hcell hek hs1
        rcases hd : decL s1.data.toList with ⟨d, er⟩
        have hdE := decE_of hd
        have cD := fun w1 => refDecode_own s1 w1 hs1
        rw [hd] at cD
        have HI2 : Hid ((er = 0 ∧ eachE decE (ts.take (k + 1)) = .ok (dl (l ++ [⟨d, none, 0, none, 0⟩])) ∧ out = F) ∨ (er ≠ 0 ∧ out = .error er)) := by
          by_cases he : er = 0
          · refine Or.inl ⟨he, ?_, hI.2⟩
            rw [hek.1 d (hdE.1 he)]
            simp [dl]
          · refine Or.inr ⟨he, ?_⟩
            rw [hI.2, hF.out, hek.2 er (hdE.2 he)]
        clear hs1e hbk hek hd hdE hI
        obtain ⟨qa, qc, rfl, hqn, _⟩ := hD.q.form
        rw [hlk] at hD
        go_wp2_with fail
        refine (cD _).mono ?_
        rintro e w4 ⟨ra, rc, wa, wc, rfl, hO1, hO2, hr, hw, hb4⟩
        have hD4 := hD.below hb4
        have hoffx : TxM.Off ⟨d, ra, rc, wa, wc⟩ (fun j => (Value.slice qa k qc).ownBlock = some j) := off_own hO1 hO2 (fun j hj => (hD.q.lt j hj).2)
        have hoffy : TxM.Off ⟨d, ra, rc, wa, wc⟩ (fun j => j ≤ w3.heap.size) := off_own hO1 hO2 (fun j hj => Nat.lt_of_le_of_lt hj hD.b.lt)
        have hx4 : TxM.At ⟨d, ra, rc, wa, wc⟩ w4 := ⟨⟨hO1.at, hO2.at⟩, hr, hw⟩
        clear hb4 cD hcell hO1 hO2 hD u1
        unfold txV
        obtain ⟨w5, hw5⟩ : ∃ q, w4.alloc (.cells #[.int .i64 d.kind, .string d.frm, .string d.to, .int .u64 (d.amt : Int), .int .u64 (d.non : Int), .string d.key, .string d.val, .slice ra d.rs.length rc, .slice wa d.ws.length wc] 123) = q := ⟨_, rfl⟩
        have hbx : Below w4.heap.size w4 w5 := by rw [← hw5]; exact belowNew _ _
        have hN5 : Arr w5 w4.heap.size 123 (TxM.c ⟨d, ra, rc, wa, wc⟩) := by rw [← hw5]; exact Arr.new w4 123 _
        have hD5 := hD4.below hbx
        have hx5 := hx4.below hbx
        have u1 := hD5.rd.cell (i := 1) rfl
        have f1 := hD5.rd.frozen 1
        have hD6 := hD5.setE hrt er
        have hx6 := hx5.kept (Kept.setCell _ ⟨W.heap.size + 1, 1, none⟩ (.int .i64 (er : Int))) (hoffy.mono (fun j e => by have e' : j = W.heap.size + 1 := e; omega))
        have hN6 := hN5.other (p := ⟨W.heap.size + 1, 1, none⟩) (by have := hD4.b.lt; show w4.heap.size ≠ W.heap.size + 1; omega) (.int .i64 (er : Int))
        clear hD4 hx4 hbx hx5 hN5 hD5
        obtain ⟨w6, hw6⟩ : ∃ q, w5.setCell ⟨W.heap.size + 1, 1, none⟩ (.int .i64 (er : Int)) = q := ⟨_, rfl⟩
        rw [hw6] at hD6 hx6 hN6
        obtain ⟨t0, t1, t2, t3, t4, t5, t6, t7, t8⟩ := hN6.cells9
        have b2 := hD6.b.cell (i := 2) rfl
        have hby2 := belowNew w6 (.cells #[.int .i64 d.kind, .string d.frm, .string d.to, .int .u64 (d.amt : Int), .int .u64 (d.non : Int), .string d.key, .string d.val, .slice ra d.rs.length rc, .slice wa d.ws.length wc] 123)
        have hD7 := hD6.below hby2
        have hx7 := hx6.below hby2
        have hnew : ∀ j u, (TxM.c ⟨d, ra, rc, wa, wc⟩)[j]? = some u → (w6.alloc (.cells #[.int .i64 d.kind, .string d.frm, .string d.to, .int .u64 (d.amt : Int), .int .u64 (d.non : Int), .string d.key, .string d.val, .slice ra d.rs.length rc, .slice wa d.ws.length wc] 123)).cell? ((⟨w6.heap.size, 0, none⟩ : Addr).add j) = some u := new_c w6 ⟨d, ra, rc, wa, wc⟩
        have hrow7 := hD7.q.row
        rw [hlk] at hrow7
        have hbase : w3.heap.size + 1 ≤ (w6.alloc (.cells #[.int .i64 d.kind, .string d.frm, .string d.to, .int .u64 (d.amt : Int), .int .u64 (d.non : Int), .string d.key, .string d.val, .slice ra d.rs.length rc, .slice wa d.ws.length wc] 123)).heap.size := hD7.b.lt
        clear hby2 hx6
        go_wp2_with (at_builtin; refine wpList_append_q rfl _ _ 24 rfl (w3.heap.size + 1) 123 i0 _ 9 136 Tryz.underlying24 hi hz0 hz1 hz2 rfl (by decide) _ k (flatX l) rfl hrow7 ⟨w6.heap.size, 0, none⟩ 1 1 (TxM.c ⟨d, ra, rc, wa, wc⟩) rfl (by decide) rfl hnew (c_one _) ?c3 ?c4 hbase ?_)
        case c3 => unfold maxLen; omega
        case c4 => omega
        intro q' w8 hrow hgr hfr
        have hq8 := hD7.q.push (m := [⟨d, ra, rc, wa, wc⟩]) (by intro x hx; simp at hx; rw [hx]; exact hx7) (by intro x hx; simp at hx; rw [hx]; exact hoffx) (by simp) (by rw [flatX_single, hlk]; exact hrow) hgr (fun g hg => by rw [alloc_size]; exact hfr g hg)
        have hD8 := hD7.push hrt (Nat.le_refl _) hgr hq8 hoffy
        have c28 := (hD7.b.kept (Kept.of_grown hgr) (fun e => by have := (hD7.q.lt _ e).1; omega)).cell (i := 2) rfl
        have f28 := (hD7.b.kept (Kept.of_grown hgr) (fun e => by have := (hD7.q.lt _ e).1; omega)).frozen 2
        obtain ⟨qa2, qc2, rfl, _, _⟩ := QRow.form hrow
        have HI3 : Hid ((er = 0 ∧ eachE decE (ts.take (k + 1)) = .ok (dl (l ++ [⟨d, ra, rc, wa, wc⟩])) ∧ out = F) ∨ (er ≠ 0 ∧ out = .error er)) := by
          have e1 : dl (l ++ [⟨d, ra, rc, wa, wc⟩]) = dl (l ++ [⟨d, none, 0, none, 0⟩]) := by simp [dl]
          rw [e1]
          exact HI2.out
        clear hrow hgr hfr hq8 hD7 hx7 hnew hrow7 hD6 hN6 t0 t1 t2 t3 t4 t5 t6 t7 t8 b2 hw6 hw5 u1 f1 HI2
        go_wp2
        go_roundw
        case rel => exact ⟨k + 1, l ++ [⟨d, ra, rc, wa, wc⟩], _, er, by omega, by simp [hlk], by go_num, hD8, HI3⟩
        case measure => simp [intOf]; omega
      · obtain rfl : k = ts.length := by omega
        rw [List.take_length] at hI
        have hout : out = finBat ⟨(v0 : Int), (v1 : Int), dl l⟩ r3.data.toList := by rw [hI.2, hF.out, hI.1]
        have hrght := each_right hI.1
        unfold finBat at hout
        have cE := inEnd_k (W.heap.size + 1) wr r3 0 hD.rd
        clear hI hlk
        by_cases hmore : r3.data.toList ≠ []
        · rw [if_pos ⟨rfl, hmore⟩] at cE
          have hout2 : Hid (out = .error 6) := hout.trans (if_pos hmore)
          clear hout hmore
          go_wp2_with fail
          refine cE.mono ?_
          rintro e w5 ⟨rfl, hR5, hk5⟩
          have hD5 := hD.kept hrt hk5 hR5
          clear hD cE hR5 hk5 u1
          have u1 := hD5.rd.cell (i := 1) rfl
          have b0 := hD5.b.cell (i := 0) rfl
          have fb0 := hD5.b.frozen 0
          have hA1 := hD5.setB hrt (Nat.le_refl _) 0 (.int .i64 (v0 : Int)) (v0 : Int) 0 rfl
          obtain ⟨wA, hwA⟩ : ∃ q, w5.setCell ⟨w3.heap.size, 0, none⟩ (.int .i64 (v0 : Int)) = q := ⟨_, rfl⟩
          rw [hwA] at hA1
          have b1 := hA1.b.cell (i := 1) rfl
          have fb1 := hA1.b.frozen 1
          have hA2 := hA1.setB hrt (Nat.le_refl _) 1 (.int .i64 (v1 : Int)) (v0 : Int) (v1 : Int) rfl
          obtain ⟨wB, hwB⟩ : ∃ q, wA.setCell ⟨w3.heap.size, 1, none⟩ (.int .i64 (v1 : Int)) = q := ⟨_, rfl⟩
          rw [hwB] at hA2
          have iA := hA1.rd.cell (i := 1) rfl
          have iB := hA2.rd.cell (i := 1) rfl
          have hZF0 := hZ3.kept hA2.k (by show ¬ W.heap.size = W.heap.size + 1; omega)
          have hBF0 := hB3.trans (hA2.k.below hB3.size (fun j e => by rw [e]; omega))
          have y0 := hZF0.cell (i := 0) rfl
          have y1 := hZF0.cell (i := 1) rfl
          have y2 := hZF0.cell (i := 2) rfl
          have p0 := hZF0.frozen 0
          have p1 := hZF0.frozen 1
          have p2 := hZF0.frozen 2
          have fin : Arr (set3 wB W.heap.size (.int .i64 0) (.int .i64 0) (.slice none 0 0)).drew W.heap.size 26 zeroB ∧ Below W.heap.size W (set3 wB W.heap.size (.int .i64 0) (.int .i64 0) (.slice none 0 0)).drew := ⟨(hZF0.set3 (.int .i64 0) (.int .i64 0) (.slice none 0 0)).drew, Below.drew (below_set3 hBF0 (g := W.heap.size) (Nat.le_refl _) (.int .i64 0) (.int .i64 0) (.slice none 0 0))⟩
          unfold set3 at fin
          have hfin := fun w' e hb hv => gotBatN_err (W := W) (w := w') (e := e) hout2.out (by decide) hb hv
          clear hZF0 hBF0
          go_wp2_with fail
          go_region
          revert fin
          generalize (World.setCell _ ⟨W.heap.size, 2, none⟩ (.slice none 0 0)).drew = wf
          intro fin
          try go_wp2
          refine bodyPost_ret (v := .tuple #[batV 0 0 none 0 0, .int .i64 (6 : Int)]) (results_bat_tmp rfl _ _ W.heap.size 0 0 none 0 0 rfl fin.1 _ rfl) rfl ?_
          exact hfin _ _ fin.2 rfl
        · rw [if_neg (fun h => hmore h.2)] at cE
          replace hout := hout.trans (if_neg hmore)
          by_cases h6 : (6 : Int) < (v0 : Int)
          · have hout2 : Hid (out = .error 2) := hout.trans (if_pos h6)
            have h6' : 6 < v0 := by omega
            clear hout hmore
            go_wp2_with fail
            refine cE.mono ?_
            rintro e w4 ⟨rfl, hR5, hk5⟩
            have hD4 := hD.kept hrt hk5 hR5
            clear hD cE hR5 hk5 u1
            have u1 := hD4.rd.cell (i := 1) rfl
            have fu1 := hD4.rd.frozen 1
            have hD5 := hD4.setE hrt 2
            obtain ⟨w5, hw5⟩ : ∃ q, w4.setCell ⟨W.heap.size + 1, 1, none⟩ (.int .i64 2) = q := ⟨_, rfl⟩
            replace hD5 : DS w3 (W.heap.size + 1) w3.heap.size (w4.setCell ⟨W.heap.size + 1, 1, none⟩ (.int .i64 2)) r3 2 q l 0 0 := hD5
            rw [hw5] at hD5
            have b0 := hD5.b.cell (i := 0) rfl
            have fb0 := hD5.b.frozen 0
            have hA1 := hD5.setB hrt (Nat.le_refl _) 0 (.int .i64 (v0 : Int)) (v0 : Int) 0 rfl
            obtain ⟨wA, hwA⟩ : ∃ q, w5.setCell ⟨w3.heap.size, 0, none⟩ (.int .i64 (v0 : Int)) = q := ⟨_, rfl⟩
            rw [hwA] at hA1
            have b1 := hA1.b.cell (i := 1) rfl
            have fb1 := hA1.b.frozen 1
            have hA2 := hA1.setB hrt (Nat.le_refl _) 1 (.int .i64 (v1 : Int)) (v0 : Int) (v1 : Int) rfl
            obtain ⟨wB, hwB⟩ : ∃ q, wA.setCell ⟨w3.heap.size, 1, none⟩ (.int .i64 (v1 : Int)) = q := ⟨_, rfl⟩
            rw [hwB] at hA2
            have iA := hA1.rd.cell (i := 1) rfl
            have iB := hA2.rd.cell (i := 1) rfl
            have hZF0 := hZ3.kept hA2.k (by show ¬ W.heap.size = W.heap.size + 1; omega)
            have hBF0 := hB3.trans (hA2.k.below hB3.size (fun j e => by rw [e]; omega))
            have y0 := hZF0.cell (i := 0) rfl
            have y1 := hZF0.cell (i := 1) rfl
            have y2 := hZF0.cell (i := 2) rfl
            have p0 := hZF0.frozen 0
            have p1 := hZF0.frozen 1
            have p2 := hZF0.frozen 2
            have fin : Arr (set3 wB W.heap.size (.int .i64 0) (.int .i64 0) (.slice none 0 0)).drew W.heap.size 26 zeroB ∧ Below W.heap.size W (set3 wB W.heap.size (.int .i64 0) (.int .i64 0) (.slice none 0 0)).drew := ⟨(hZF0.set3 (.int .i64 0) (.int .i64 0) (.slice none 0 0)).drew, Below.drew (below_set3 hBF0 (g := W.heap.size) (Nat.le_refl _) (.int .i64 0) (.int .i64 0) (.slice none 0 0))⟩
            unfold set3 at fin
            have hfin := fun w' e hb hv => gotBatN_err (W := W) (w := w') (e := e) hout2.out (by decide) hb hv
            clear hZF0 hBF0
            go_wp2_with fail
            go_region
            revert fin
            generalize (World.setCell _ ⟨W.heap.size, 2, none⟩ (.slice none 0 0)).drew = wf
            intro fin
            try go_wp2
            refine bodyPost_ret (v := .tuple #[batV 0 0 none 0 0, .int .i64 (2 : Int)]) (results_bat_tmp rfl _ _ W.heap.size 0 0 none 0 0 rfl fin.1 _ rfl) rfl ?_
            exact hfin _ _ fin.2 rfl
          replace hout := hout.trans (if_neg h6)
          have h6' : ¬ 6 < v0 := by omega
          have H4 : Hid (out = _) := hout
          clear hout hmore
          go_wp2_with fail
          refine cE.mono ?_
          rintro e w5 ⟨rfl, hR5, hk5⟩
          have hD5 := hD.kept hrt hk5 hR5
          clear hD cE hR5 hk5 u1
          have u1 := hD5.rd.cell (i := 1) rfl
          have b0 := hD5.b.cell (i := 0) rfl
          have fb0 := hD5.b.frozen 0
          have hA1 := hD5.setB hrt (Nat.le_refl _) 0 (.int .i64 (v0 : Int)) (v0 : Int) 0 rfl
          obtain ⟨wA, hwA⟩ : ∃ q, w5.setCell ⟨w3.heap.size, 0, none⟩ (.int .i64 (v0 : Int)) = q := ⟨_, rfl⟩
          rw [hwA] at hA1
          have b1 := hA1.b.cell (i := 1) rfl
          have fb1 := hA1.b.frozen 1
          have hA2 := hA1.setB hrt (Nat.le_refl _) 1 (.int .i64 (v1 : Int)) (v0 : Int) (v1 : Int) rfl
          obtain ⟨wB, hwB⟩ : ∃ q, wA.setCell ⟨w3.heap.size, 1, none⟩ (.int .i64 (v1 : Int)) = q := ⟨_, rfl⟩
          rw [hwB] at hA2
          have iA := hA1.rd.cell (i := 1) rfl
          have iB := hA2.rd.cell (i := 1) rfl
          obtain ⟨qa, qc, rfl, hqn, hqT⟩ := hA2.q.form
          have cC := refBatCheck_any (v0 : Int) (v1 : Int) qa l qc wB hqT (fun x hx => sizes_right (hrght x.d (List.mem_map.2 ⟨x, hx, rfl⟩)))
          have m0 := hA2.b.cell (i := 0) rfl
          have m1 := hA2.b.cell (i := 1) rfl
          have m2 := hA2.b.cell (i := 2) rfl
          unfold batV at cC
          obtain ⟨er, her⟩ : ∃ q, Hid (q = checkB ⟨(v0 : Int), (v1 : Int), dl l⟩) := ⟨_, rfl⟩
          rw [← her.out] at cC
          replace H4 : Hid (out = (if er ≠ 0 then .error er else .ok ⟨(v0 : Int), (v1 : Int), dl l⟩)) := by rw [her.out]; exact H4.out
          go_wp2_with fail
          refine cC.mono ?_
          rintro e w6 ⟨rfl, hb6⟩
          have hD6 := hA2.below hb6
          clear hb6 cC hA2 hA1 hD5 m0 m1 m2 b0 b1 fb0 fb1 iA iB u1 hwA hwB
          have u1 := hD6.rd.cell (i := 1) rfl
          have fu1 := hD6.rd.frozen 1
          have hD7 := hD6.setE hrt er
          obtain ⟨w7, hw7⟩ : ∃ q, w6.setCell ⟨W.heap.size + 1, 1, none⟩ (.int .i64 (er : Int)) = q := ⟨_, rfl⟩
          rw [hw7] at hD7
          have iB := hD7.rd.cell (i := 1) rfl
          by_cases hc : er ≠ 0
          · have hout2 : Hid (out = .error er) := H4.out.trans (if_pos hc)
            have hcb : ((er : Int) != 0) = true := by rw [bne_iff_ne]; omega
            clear H4 hD6
            have hZF0 := hZ3.kept hD7.k (by show ¬ W.heap.size = W.heap.size + 1; omega)
            have hBF0 := hB3.trans (hD7.k.below hB3.size (fun j e => by rw [e]; omega))
            have y0 := hZF0.cell (i := 0) rfl
            have y1 := hZF0.cell (i := 1) rfl
            have y2 := hZF0.cell (i := 2) rfl
            have p0 := hZF0.frozen 0
            have p1 := hZF0.frozen 1
            have p2 := hZF0.frozen 2
            have fin : Arr (set3 w7 W.heap.size (.int .i64 0) (.int .i64 0) (.slice none 0 0)).drew W.heap.size 26 zeroB ∧ Below W.heap.size W (set3 w7 W.heap.size (.int .i64 0) (.int .i64 0) (.slice none 0 0)).drew := ⟨(hZF0.set3 (.int .i64 0) (.int .i64 0) (.slice none 0 0)).drew, Below.drew (below_set3 hBF0 (g := W.heap.size) (Nat.le_refl _) (.int .i64 0) (.int .i64 0) (.slice none 0 0))⟩
            unfold set3 at fin
            have hfin := fun w' e hb hv => gotBatN_err (W := W) (w := w') (e := e) hout2.out hc hb hv
            clear hZF0 hBF0
            go_wp2_with fail
            go_region
            revert fin
            generalize (World.setCell _ ⟨W.heap.size, 2, none⟩ (.slice none 0 0)).drew = wf
            intro fin
            try go_wp2
            refine bodyPost_ret (v := .tuple #[batV 0 0 none 0 0, .int .i64 (er : Int)]) (results_bat_tmp rfl _ _ W.heap.size 0 0 none 0 0 rfl fin.1 _ rfl) rfl ?_
            exact hfin _ _ fin.2 rfl
          have hout2 : Hid (out = .ok ⟨(v0 : Int), (v1 : Int), dl l⟩) := H4.out.trans (if_neg hc)
          replace hc : er = 0 := by omega
          subst hc
          replace hw7 : w6.setCell ⟨W.heap.size + 1, 1, none⟩ (.int .i64 0) = w7 := hw7
          replace iB : w7.cell? ⟨W.heap.size + 1, 1, none⟩ = some (.int .i64 0) := iB
          have m0 := hD7.b.cell (i := 0) rfl
          have m1 := hD7.b.cell (i := 1) rfl
          have m2 := hD7.b.cell (i := 2) rfl
          have hZF0 := hZ3.kept hD7.k (by show ¬ W.heap.size = W.heap.size + 1; omega)
          have hBF0 := hB3.trans (hD7.k.below hB3.size (fun j e => by rw [e]; omega))
          have y0 := hZF0.cell (i := 0) rfl
          have y1 := hZF0.cell (i := 1) rfl
          have y2 := hZF0.cell (i := 2) rfl
          have p0 := hZF0.frozen 0
          have p1 := hZF0.frozen 1
          have p2 := hZF0.frozen 2
          obtain ⟨qa', qc', hqe, hqn', hqT7⟩ := hD7.q.form
          simp only [Value.slice.injEq, true_and] at hqe
          obtain ⟨rfl, rfl⟩ := hqe
          have hZ3l := hZ3.lt
          have hnew : Hid ((∀ b o, qa = some ⟨b, o, none⟩ → W.heap.size ≤ b) ∧ ∀ x ∈ l, x.Off (fun k => k < W.heap.size)) := ⟨fun b o e => by have := (hD7.q.lt b (by rw [e]; rfl)).1; omega, fun x hx => (hD7.ol x hx).mono (fun j e => by have e' : j < W.heap.size := e; omega)⟩
          have hTF := hqT7.set3 (g := W.heap.size) (fun b o e hb => by have := (hD7.q.lt b (by rw [e]; rfl)).1; omega) (fun x hx => (hD7.ol x hx).mono (fun j e => by have e' : j = W.heap.size := e; omega)) (.int .i64 (v0 : Int)) (.int .i64 (v1 : Int)) (.slice qa l.length qc)
          have hZF := hZF0.set3 (.int .i64 (v0 : Int)) (.int .i64 (v1 : Int)) (.slice qa l.length qc)
          have hBF := below_set3 hBF0 (g := W.heap.size) (Nat.le_refl _) (.int .i64 (v0 : Int)) (.int .i64 (v1 : Int)) (.slice qa l.length qc)
          have hfin : ∀ e, e = .returned (.tuple #[batV (v0 : Int) (v1 : Int) qa l.length qc, .int .i64 0]) → GotBatN W out e _ := fun e hv => ⟨_, _, _, _, _, 0, hv, hTF, hqn', Or.inl ⟨rfl, hout2.out⟩, hnew.out.1, hnew.out.2, hBF⟩
          unfold set3 at hZF hfin
          clear hTF hBF hZF0 hBF0 H4 hD6 hD7 hqT hqT7
          go_wp2
          refine bodyPost_ret (v := .tuple #[batV (v0 : Int) (v1 : Int) qa l.length qc, .int .i64 0]) (results_bat_tmp rfl _ _ W.heap.size (v0 : Int) (v1 : Int) qa l.length qc rfl hZF _ rfl) rfl ?_
          exact hfin _ rfl
    · have hout2 : Hid (out = .error E) := by
        rcases HI.out with ⟨h1, _⟩ | ⟨_, h2⟩
        · exact absurd h1 hE
        · exact h2
      have cE := inEnd_k (W.heap.size + 1) wr r3 E hD.rd
      rw [if_neg (fun h => hE h.1)] at cE
      have hEb : ((E : Int) == 0) = false := beq_eq_false_iff_ne.2 (by omega)
      have hEc : ((E : Int) != 0) = true := by rw [bne_iff_ne]; omega
      clear HI
      by_cases hlt : k < ts.length
      · go_wp2_with fail
        refine cE.mono ?_
        rintro e w5 ⟨rfl, hR5, hk5⟩
        have hD5 := hD.kept hrt hk5 hR5
        clear hD cE hR5 hk5 u1
        have u1 := hD5.rd.cell (i := 1) rfl
        have b0 := hD5.b.cell (i := 0) rfl
        have fb0 := hD5.b.frozen 0
        have hA1 := hD5.setB hrt (Nat.le_refl _) 0 (.int .i64 (v0 : Int)) (v0 : Int) 0 rfl
        obtain ⟨wA, hwA⟩ : ∃ q, w5.setCell ⟨w3.heap.size, 0, none⟩ (.int .i64 (v0 : Int)) = q := ⟨_, rfl⟩
        rw [hwA] at hA1
        have b1 := hA1.b.cell (i := 1) rfl
        have fb1 := hA1.b.frozen 1
        have hA2 := hA1.setB hrt (Nat.le_refl _) 1 (.int .i64 (v1 : Int)) (v0 : Int) (v1 : Int) rfl
        obtain ⟨wB, hwB⟩ : ∃ q, wA.setCell ⟨w3.heap.size, 1, none⟩ (.int .i64 (v1 : Int)) = q := ⟨_, rfl⟩
        rw [hwB] at hA2
        have iA := hA1.rd.cell (i := 1) rfl
        have iB := hA2.rd.cell (i := 1) rfl
        have hZF0 := hZ3.kept hA2.k (by show ¬ W.heap.size = W.heap.size + 1; omega)
        have hBF0 := hB3.trans (hA2.k.below hB3.size (fun j e => by rw [e]; omega))
        have y0 := hZF0.cell (i := 0) rfl
        have y1 := hZF0.cell (i := 1) rfl
        have y2 := hZF0.cell (i := 2) rfl
        have p0 := hZF0.frozen 0
        have p1 := hZF0.frozen 1
        have p2 := hZF0.frozen 2
        have fin : Arr (set3 wB W.heap.size (.int .i64 0) (.int .i64 0) (.slice none 0 0)).drew W.heap.size 26 zeroB ∧ Below W.heap.size W (set3 wB W.heap.size (.int .i64 0) (.int .i64 0) (.slice none 0 0)).drew := ⟨(hZF0.set3 (.int .i64 0) (.int .i64 0) (.slice none 0 0)).drew, Below.drew (below_set3 hBF0 (g := W.heap.size) (Nat.le_refl _) (.int .i64 0) (.int .i64 0) (.slice none 0 0))⟩
        unfold set3 at fin
        have hfin := fun w' e hb hv => gotBatN_err (W := W) (w := w') (e := e) hout2.out hE hb hv
        clear hZF0 hBF0
        go_wp2_with fail
        go_region
        revert fin
        generalize (World.setCell _ ⟨W.heap.size, 2, none⟩ (.slice none 0 0)).drew = wf
        intro fin
        try go_wp2
        refine bodyPost_ret (v := .tuple #[batV 0 0 none 0 0, .int .i64 (E : Int)]) (results_bat_tmp rfl _ _ W.heap.size 0 0 none 0 0 rfl fin.1 _ rfl) rfl ?_
        exact hfin _ _ fin.2 rfl
      · have hkl : k = ts.length := by omega
        go_wp2_with fail
        refine cE.mono ?_
        rintro e w5 ⟨rfl, hR5, hk5⟩
        have hD5 := hD.kept hrt hk5 hR5
        clear hD cE hR5 hk5 u1
        have u1 := hD5.rd.cell (i := 1) rfl
        have b0 := hD5.b.cell (i := 0) rfl
        have fb0 := hD5.b.frozen 0
        have hA1 := hD5.setB hrt (Nat.le_refl _) 0 (.int .i64 (v0 : Int)) (v0 : Int) 0 rfl
        obtain ⟨wA, hwA⟩ : ∃ q, w5.setCell ⟨w3.heap.size, 0, none⟩ (.int .i64 (v0 : Int)) = q := ⟨_, rfl⟩
        rw [hwA] at hA1
        have b1 := hA1.b.cell (i := 1) rfl
        have fb1 := hA1.b.frozen 1
        have hA2 := hA1.setB hrt (Nat.le_refl _) 1 (.int .i64 (v1 : Int)) (v0 : Int) (v1 : Int) rfl
        obtain ⟨wB, hwB⟩ : ∃ q, wA.setCell ⟨w3.heap.size, 1, none⟩ (.int .i64 (v1 : Int)) = q := ⟨_, rfl⟩
        rw [hwB] at hA2
        have iA := hA1.rd.cell (i := 1) rfl
        have iB := hA2.rd.cell (i := 1) rfl
        have hZF0 := hZ3.kept hA2.k (by show ¬ W.heap.size = W.heap.size + 1; omega)
        have hBF0 := hB3.trans (hA2.k.below hB3.size (fun j e => by rw [e]; omega))
        have y0 := hZF0.cell (i := 0) rfl
        have y1 := hZF0.cell (i := 1) rfl
        have y2 := hZF0.cell (i := 2) rfl
        have p0 := hZF0.frozen 0
        have p1 := hZF0.frozen 1
        have p2 := hZF0.frozen 2
        have fin : Arr (set3 wB W.heap.size (.int .i64 0) (.int .i64 0) (.slice none 0 0)).drew W.heap.size 26 zeroB ∧ Below W.heap.size W (set3 wB W.heap.size (.int .i64 0) (.int .i64 0) (.slice none 0 0)).drew := ⟨(hZF0.set3 (.int .i64 0) (.int .i64 0) (.slice none 0 0)).drew, Below.drew (below_set3 hBF0 (g := W.heap.size) (Nat.le_refl _) (.int .i64 0) (.int .i64 0) (.slice none 0 0))⟩
        unfold set3 at fin
        have hfin := fun w' e hb hv => gotBatN_err (W := W) (w := w') (e := e) hout2.out hE hb hv
        clear hZF0 hBF0
        go_wp2_with fail
        go_region
        revert fin
        generalize (World.setCell _ ⟨W.heap.size, 2, none⟩ (.slice none 0 0)).drew = wf
        intro fin
        try go_wp2
        refine bodyPost_ret (v := .tuple #[batV 0 0 none 0 0, .int .i64 (E : Int)]) (results_bat_tmp rfl _ _ W.heap.size 0 0 none 0 0 rfl fin.1 _ rfl) rfl ?_
        exact hfin _ _ fin.2 rfl
end Go.Proofs.YtmngiekobmhpaaaGreat

/- What tuskref06.Tags and tuskref06.GetTags do; nothing old in memory is turned. -/
namespace Go.Proofs.YtmngiekobmhpaaaGreat
open Go.RowKit
set_option linter.unusedVariables false

theorem getTag_steps {m : List UInt8} {n k er : Nat} (h : getInt m = (n, k, er)) : getTag m = if er ≠ 0 then .error er else if 6 < n then .error 2 else if m.length - k ≠ 16 then .error 3 else .ok ⟨(n : Int), ⟨(m.drop k).toArray⟩⟩ := by
  unfold getTag
  by_cases he : er ≠ 0
  · rw [rdI_err h he, if_pos he]
  · have e0 : er = 0 := by omega
    subst e0
    rw [rdI_ok h, if_neg he, List.length_drop]

set_option maxRecDepth 100000 in
set_option maxHeartbeats 2000000 in
theorem refGetTags_any (s : ByteArray) (w : World) (hs : s.size ≤ maxLen) :
    Calls Tryz.prog 98 #[.string s] w fun e w' => GotTags w (getTagsL s.data.toList) e w' := by
  obtain ⟨i0, hi, hz0, hz1, hz2⟩ := info_parts infoTag6
  rcases hr : getList s.data.toList 7 with ⟨ts, k, er⟩
  have c0 := refGetListN s 7 (by omega) w hs ts k er (by exact hr)
  by_cases he : er ≠ 0
  · have H : Hid (getTagsL s.data.toList = ([], 0, er)) := getTags_err hr he
    have hne : ((er : Int) != 0) = true := by rw [bne_iff_ne]; omega
    generalize mks ts = ms at c0
    clear hr
    go_enter Tryz.func98, Tryz.ntmps98
    go_wp2_with fail
    refine c0.mono ?_
    rintro e w1 ⟨ao, cap, rfl, h1, h2, h3⟩
    clear c0
    go_wp2
    go_ret3
    exact ⟨[], 0, er, none, 0, rfl, H.out, nil_row _ _, fun _ => rfl, fun b hb => (nil_foot hb).elim, h3⟩
  replace he : er = 0 := by omega
  subst he
  have HG : Hid (getTagsL s.data.toList = _) := getTags_ok hr
  have hgb := getList_back hr
  have hm7 := hgb.2.2.2.1
  have hmsz := hgb.2.2.2.2
  have hml : (mks ts).length = ts.length := by simp [mks]
  have hbm : Hid (bl (mks ts) = ts) := bl_mks ts
  have hmz : Hid (∀ x ∈ mks ts, x.size ≤ maxLen) := by
    intro x hx
    obtain ⟨t, ht, rfl⟩ := List.mem_map.1 hx
    rw [size_mk]
    have := hmsz t ht
    unfold maxLen
    omega
  obtain ⟨ms, hms⟩ : ∃ q, q = mks ts := ⟨_, rfl⟩
  rw [← hms] at c0 hml hbm hmz
  have hm7' : ms.length ≤ 7 := by omega
  have Hml : Hid (ms.length = ts.length) := hml
  clear hms hmsz hgb hr hm7 hml
  go_enter Tryz.func98, Tryz.ntmps98
  go_wp2_with fail
  refine c0.mono ?_
  rintro e w1 ⟨ao, cap, rfl, hO, _, hb1⟩
  clear c0
  have hS := hO.at
  clear hO
  go_wp2
  go_loopw [8, 9, 10, 11, 12] (fun v8 v9 v10 v11 v12 wr => ∃ (i : Nat) (l : List TagD), i ≤ ms.length ∧ l.length = i ∧ v9 = .int .i64 (i : Int) ∧ KQ tagK 23 wr w1.heap.size v8 l ∧ Hid (eachE getTag (ts.take i) = .ok l) ∧ Below w1.heap.size w1 wr) (fun _ v _ _ _ _ => ms.length - (intOf v).toNat)
  case atStart => exact ⟨0, [], Nat.zero_le _, rfl, rfl, KQ.empty _ _ _ _, by show _ = _; rfl, Below.refl _ _⟩
  case round =>
    obtain ⟨i, l, hil, hli, rfl, hq, hE, hbb⟩ := hrel
    have hb := hb1.trans (hbb.mono hb1.size)
    by_cases hlt : i < ms.length
    · obtain ⟨b, off, rfl, hbl, hcell⟩ := (hS.below hbb) i hlt
      have hbk : ts[i]? = some ms[i].data.toList := by rw [← hbm.out]; simp [bl, hlt]
      have hek := eachE_take (f := getTag) ts i _ hbk l hE.out
      have hs1 := hmz.out ms[i] (List.getElem_mem hlt)
      obtain ⟨s1, hs1e⟩ : ∃ s, s = ms[i] := ⟨_, rfl⟩
      rw [← hs1e] at hcell hek hs1
      rcases hgi : getInt s1.data.toList with ⟨n, k1, e1⟩
      have cD := fun w1 => refGetInt_at s1 w1 n k1 e1 hs1 hgi
      have hst := getTag_steps hgi
      unfold maxLen at hs1
      have hls : s1.data.toList.length = s1.size := by simp
      rw [hls] at hst
      obtain ⟨qa, qc, rfl, hqn, _⟩ := hq.form
      rw [hli] at hq ⊢
      have hErr : Hid (∀ er, getTag s1.data.toList = .error er → getTagsL s.data.toList = ([], 0, er)) := by
        intro er hg
        have := HG.out
        rw [hek.2 er hg] at this
        exact this
      by_cases he1 : e1 ≠ 0
      · have H := hErr.out e1 (hst.trans (if_pos he1))
        have H' : Hid _ := H
        have hne : ((e1 : Int) != 0) = true := by rw [bne_iff_ne]; omega
        clear H hErr hek hst hgi hE hls hbk hs1e
        go_wp2_with fail
        refine (cD _).mono ?_
        rintro e w2 ⟨rfl, rfl⟩
        clear cD
        go_wp2
        go_ret3
        exact ⟨[], 0, e1, none, 0, rfl, H'.out, nil_row _ _, fun _ => rfl, fun b hb => (nil_foot hb).elim, hb⟩
      have e10 : e1 = 0 := by omega
      subst e10
      rw [if_neg he1] at hst
      have hbd := getInt_bounds _ n k1 hgi
      rw [hls] at hbd
      have hk1 : k1 ≤ s1.size := hbd.2.2
      have hk1' : (k1 : Int) ≤ s1.size := by omega
      by_cases h6 : 6 < n
      · have H := hErr.out 2 (hst.trans (if_pos h6))
        have H' : Hid _ := H
        have h6' : (6 : Int) < (n : Int) := by omega
        clear H hErr hek hst hgi hE hls hbk hs1e hbd
        go_wp2_with fail
        refine (cD _).mono ?_
        rintro e w2 ⟨rfl, rfl⟩
        clear cD
        go_wp2
        go_ret3
        exact ⟨[], 0, 2, none, 0, rfl, H'.out, nil_row _ _, fun _ => rfl, fun b hb => (nil_foot hb).elim, hb⟩
      rw [if_neg h6] at hst
      have h6' : ¬ (6 : Int) < (n : Int) := by omega
      by_cases h16 : s1.size - k1 ≠ 16
      · have H := hErr.out 3 (hst.trans (if_pos h16))
        have H' : Hid _ := H
        have hne : (((s1.size : Int) - (k1 : Int)) != 16) = true := by rw [bne_iff_ne]; omega
        clear H hErr hek hst hgi hE hls hbk hs1e hbd
        go_wp2_with fail
        refine (cD _).mono ?_
        rintro e w2 ⟨rfl, rfl⟩
        clear cD
        go_wp2
        go_ret3
        exact ⟨[], 0, 3, none, 0, rfl, H'.out, nil_row _ _, fun _ => rfl, fun b hb => (nil_foot hb).elim, hb⟩
      rw [if_neg h16] at hst
      have heq : (((s1.size : Int) - (k1 : Int)) != 16) = false := by rw [bne_eq_false_iff_eq]; omega
      have hmk : (⟨(s1.data.toList.drop k1).toArray⟩ : ByteArray) = s1.extract k1 s1.size := by rw [← extract_drop, mk_list]
      rw [hmk] at hst
      have HE : Hid (eachE getTag (ts.take (i + 1)) = .ok (l ++ [⟨(n : Int), s1.extract k1 s1.size⟩])) := hek.1 _ hst
      obtain ⟨mac, hmac⟩ : ∃ q, s1.extract k1 s1.size = q := ⟨_, rfl⟩
      rw [hmac] at HE
      clear hErr hek hst hgi hE hls hbk hs1e hbd hmk h16
      have hbx := belowNew wr (.cells #[.int .i64 (n : Int), .string mac] 23)
      have hbb5 := hbb.trans (hbx.mono hbb.size)
      have hq5 := hq.below hbx
      have hN := Arr.new wr 23 [.int .i64 (n : Int), .string mac]
      have hnews : ∀ j u, (tagK.c ⟨(n : Int), mac⟩)[j]? = some u → (wr.alloc (.cells #[.int .i64 (n : Int), .string mac] 23)).cell? ((⟨wr.heap.size, 0, none⟩ : Addr).add j) = some u := by
        intro j u hu
        rw [Go.WideShapes.add_plain, Nat.zero_add]
        exact hN.cell hu
      clear hq hbx hbb hN
      go_wp2_with fail
      refine (cD _).mono ?_
      rintro e w2 ⟨rfl, rfl⟩
      clear cD
      go_wp2_with (at_builtin; refine wpList_push (K := tagK) rfl _ _ 31 rfl w1.heap.size 23 i0 _ 24 Tryz.underlying31 hi hz0 hz1 hz2 rfl _ l rfl hq5 ⟨(n : Int), mac⟩ trivial (fun _ h => h.elim) ⟨w2.heap.size, 0, none⟩ 1 rfl hnews ?c3 ?c4 hbb5.size ?_)
      case c3 => unfold maxLen; omega
      case c4 => omega
      intro ao' cap' w3 hq6 hk6
      have hbb6 : Below w1.heap.size w1 w3 := hbb5.trans (hk6.below hbb5.size (fun j hj => (hq5.lt j hj).1))
      clear hq5 hk6 hbb5 hnews hcell
      go_wp2
      go_roundw
      case rel => exact ⟨i + 1, l ++ [⟨(n : Int), mac⟩], by omega, by simp [hli], by go_num, hq6, HE, hbb6⟩
      case measure => simp [intOf]; omega
    · have hii : i = ms.length := by omega
      have H : Hid (getTagsL s.data.toList = (l, k, 0)) := by
        have h1 := hE.out
        have h2 := Hml.out
        rw [List.take_of_length_le (by omega)] at h1
        have := HG.out
        rw [h1] at this
        exact this
      obtain ⟨qa, qc, rfl, hqn, hqt⟩ := hq.form
      have hff := hq.foot_ge (B := w.heap.size) hb1.size (fun _ _ _ h => h.elim)
      clear hE
      go_wp2
      go_ret3
      exact ⟨l, k, 0, qa, qc, rfl, H.out, hqt, hqn, hff, hb⟩
end Go.Proofs.YtmngiekobmhpaaaGreat
