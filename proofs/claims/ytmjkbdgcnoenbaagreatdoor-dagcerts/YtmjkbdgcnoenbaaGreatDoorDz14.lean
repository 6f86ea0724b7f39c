/- Texts as one: HdrTake, HdrTags, HdrDecode, CertDecode, CertEncode, FitQ, CertFit, CertRes. -/
import Derived.Test.YtmjkbdgcnoenbaaGreatDoorDz02
import Derived.Test.YtmjkbdgcnoenbaaGreatDoorDz13
import Derived.WalkSmall
import Derived.Laws.ResultCell
import Derived.BigRegion
import Derived.Test.YtmjkbdgcnoenbaaGreatDoorDz10
import Derived.Test.YtmjkbdgcnoenbaaGreatDoorDz03
import Derived.Test.YtmjkbdgcnoenbaaGreatDoorDz06
import Derived.Lib.QuietBelow
import Derived.BigQuiet
import Derived.Test.YtmjkbdgcnoenbaaGreatDoorDz05
import Derived.Test.YtmjkbdgcnoenbaaGreatDoorDz08
import Derived.Test.YtmjkbdgcnoenbaaGreatDoorDz09
import Derived.RowKit3
/- What package header's reader does: each step turns its block alone. -/
namespace Go.Proofs.YtmjkbdgcnoenbaaGreatDoor
open Go.RowKit
set_option linter.unusedVariables false

/-- A reader's block: what is left, and the error. -/
abbrev RdAt (T : TypeId) (w : World) (rb : Nat) (rest : ByteArray) (E : Nat) : Prop := Arr w rb T [.string rest, .int .i64 (E : Int)]

set_option maxRecDepth 100000 in
set_option maxHeartbeats 400000 in
theorem takeInt_k (rb : Nat) (w : World) (rest : ByteArray) (E : Nat) (hR : Arr w rb 200 [.string rest, .int .i64 (E : Int)]) (hs : rest.size ≤ maxLen) :
    Calls Tryz.prog 124 #[.pointer (some ⟨rb, 0, none⟩), .func (.func 123) #[] #[]] w fun e w' => ∃ (n E' : Nat) (rest' : ByteArray), e = .returned (.int .i64 (n : Int)) ∧ n ≤ 4611686018427387903 ∧ rest'.size ≤ maxLen ∧
      (∀ (α : Type) (f : Nat → List UInt8 → Except Nat α), runX E (rdI rest.data.toList f) = runX E' (f n rest'.data.toList)) ∧ Arr w' rb 200 [.string rest', .int .i64 (E' : Int)] ∧ Kept (fun k => k = rb) w w' := by
  have c0 := hR.cell (i := 0) rfl
  have c1 := hR.cell (i := 1) rfl
  have f0 := hR.frozen 0
  have f1 := hR.frozen 1
  by_cases hE : E = 0
  · subst hE
    rcases hr : getInt rest.data.toList with ⟨n, k, er⟩
    have hl : rest.data.toList.length = rest.size := by simp
    have cG := fun w1 => getInt_at rest w1 n k er hs hr
    by_cases he : er = 0
    · subst he
      have hb := getInt_bounds _ n k hr
      have hk : (k : Int) ≤ rest.size := by omega
      have hstep : Hid (∀ (α : Type) (f : Nat → List UInt8 → Except Nat α), runX 0 (rdI rest.data.toList f) = runX 0 (f n (rest.extract k rest.size).data.toList)) := by
        intro α f
        rw [rdI_ok hr, extract_drop]
      have fin := hR.set 0 (.string (rest.extract k rest.size))
      have kin := (Kept.refl (fun k => k = rb) w).set (p := ⟨rb, 0, none⟩) rfl (.string (rest.extract k rest.size))
      have hsz := rest_le rest k hs
      have hn := hb.1
      clear hR hr hl hs hb
      go_enter Tryz.func124, Tryz.ntmps124
      go_wp2_with fail
      refine (cG _).mono ?_
      rintro e w1 ⟨rfl, rfl⟩
      go_wp2
      go_ret
      exact ⟨n, 0, rest.extract k rest.size, rfl, hn, hsz, hstep.out, fin, kin⟩
    · have hstep : Hid (∀ (α : Type) (f : Nat → List UInt8 → Except Nat α), runX 0 (rdI rest.data.toList f) = runX er (f 0 rest.data.toList)) := by
        intro α f
        rw [rdI_err hr he, runX_err he]
        rfl
      have fin := hR.set 1 (.int .i64 (er : Int))
      have kin := (Kept.refl (fun k => k = rb) w).set (p := ⟨rb, 1, none⟩) rfl (.int .i64 (er : Int))
      have hne : ((er : Int) != 0) = true := by rw [bne_iff_ne]; omega
      clear hR hr hl
      go_enter Tryz.func124, Tryz.ntmps124
      go_wp2_with fail
      refine (cG _).mono ?_
      rintro e w1 ⟨rfl, rfl⟩
      go_wp2
      go_ret
      exact ⟨0, er, rest, rfl, by omega, hs, hstep.out, fin, kin⟩
  · have hE' : ((E : Int) != 0) = true := by rw [bne_iff_ne]; omega
    go_enter Tryz.func124, Tryz.ntmps124
    go_wp2
    go_ret
    exact ⟨0, E, rest, rfl, by omega, hs, fun α f => by rw [runX_err hE, runX_err hE], hR, Kept.refl _ _⟩

set_option maxRecDepth 100000 in
set_option maxHeartbeats 400000 in
theorem takeText_k (rb : Nat) (w : World) (rest : ByteArray) (E : Nat) (hR : Arr w rb 200 [.string rest, .int .i64 (E : Int)]) (hs : rest.size ≤ maxLen) :
    Calls Tryz.prog 150 #[.pointer (some ⟨rb, 0, none⟩), .func (.func 95) #[] #[]] w fun e w' => ∃ (t : List UInt8) (E' : Nat) (rest' : ByteArray), e = .returned (.string ⟨t.toArray⟩) ∧ t.length ≤ 65536 ∧ rest'.size ≤ maxLen ∧
      (∀ (α : Type) (f : List UInt8 → List UInt8 → Except Nat α), runX E (rdT rest.data.toList f) = runX E' (f t rest'.data.toList)) ∧ Arr w' rb 200 [.string rest', .int .i64 (E' : Int)] ∧ Kept (fun k => k = rb) w w' := by
  have c0 := hR.cell (i := 0) rfl
  have c1 := hR.cell (i := 1) rfl
  have f0 := hR.frozen 0
  have f1 := hR.frozen 1
  by_cases hE : E = 0
  · subst hE
    rcases hr : getText rest.data.toList with ⟨t, k, er⟩
    have hl : rest.data.toList.length = rest.size := by simp
    have cG := fun w1 => getText_at rest w1 t k er hs hr
    by_cases he : er = 0
    · subst he
      have hb := getText_bounds _ t k hr
      have hk : (k : Int) ≤ rest.size := by omega
      have hstep : Hid (∀ (α : Type) (f : List UInt8 → List UInt8 → Except Nat α), runX 0 (rdT rest.data.toList f) = runX 0 (f t (rest.extract k rest.size).data.toList)) := by
        intro α f
        rw [rdT_ok hr, extract_drop]
      have fin := hR.set 0 (.string (rest.extract k rest.size))
      have kin := (Kept.refl (fun k => k = rb) w).set (p := ⟨rb, 0, none⟩) rfl (.string (rest.extract k rest.size))
      have hsz := rest_le rest k hs
      have hn : Hid (t.length ≤ 65536) := hb.2.2.1
      clear hR hr hl hs hb
      go_enter Tryz.func150, Tryz.ntmps150
      go_wp2_with fail
      refine (cG _).mono ?_
      rintro e w1 ⟨rfl, rfl⟩
      go_wp2
      go_ret
      exact ⟨t, 0, rest.extract k rest.size, rfl, hn.out, hsz, hstep.out, fin, kin⟩
    · have hstep : Hid (∀ (α : Type) (f : List UInt8 → List UInt8 → Except Nat α), runX 0 (rdT rest.data.toList f) = runX er (f [] rest.data.toList)) := by
        intro α f
        rw [rdT_err hr he, runX_err he]
        rfl
      have fin := hR.set 1 (.int .i64 (er : Int))
      have kin := (Kept.refl (fun k => k = rb) w).set (p := ⟨rb, 1, none⟩) rfl (.int .i64 (er : Int))
      have hne : ((er : Int) != 0) = true := by rw [bne_iff_ne]; omega
      clear hR hr hl
      go_enter Tryz.func150, Tryz.ntmps150
      go_wp2_with fail
      refine (cG _).mono ?_
      rintro e w1 ⟨rfl, rfl⟩
      go_wp2
      go_ret
      exact ⟨[], er, rest, rfl, by simp, hs, hstep.out, fin, kin⟩
  · have hE' : ((E : Int) != 0) = true := by rw [bne_iff_ne]; omega
    go_enter Tryz.func150, Tryz.ntmps150
    go_wp2
    go_ret
    exact ⟨[], E, rest, rfl, by simp, hs, fun α f => by rw [runX_err hE, runX_err hE], hR, Kept.refl _ _⟩

set_option maxRecDepth 100000 in
theorem getParents_any (s : ByteArray) (w : World) (hs : s.size ≤ maxLen) (ts : List (List UInt8)) (k er : Nat) (hr : getList s.data.toList 7 = (ts, k, er)) :
    Calls Tryz.prog 127 #[.string s] w fun e w' => ∃ ao cap, e = .returned (.tuple #[.slice ao (mks ts).length cap, .int .i64 (k : Int), .int .i64 (er : Int)]) ∧ OwnStrs w.heap.size w' ao (mks ts) ∧ (ao = none → cap = 0) ∧ Below w.heap.size w w' := by
  have c2 := getListN s 7 (by omega) w hs ts k er (by exact hr)
  generalize mks ts = ms at c2 ⊢
  go_enter Tryz.func127, Tryz.ntmps127
  go_wp2_with fail
  refine c2.mono ?_
  rintro e w1 ⟨ao, cap, rfl, h1, h2, h3⟩
  go_wp2
  go_ret3
  exact ⟨ao, cap, rfl, h1, h2, h3⟩

set_option maxRecDepth 100000 in
set_option maxHeartbeats 1000000 in
theorem takeList_k (rb : Nat) (w : World) (rest : ByteArray) (E : Nat) (hR : Arr w rb 200 [.string rest, .int .i64 (E : Int)]) (hs : rest.size ≤ maxLen) :
    Calls Tryz.prog 126 #[.pointer (some ⟨rb, 0, none⟩), .func (.func 127) #[] #[]] w fun e w' => ∃ (ts : List (List UInt8)) (E' : Nat) (rest' : ByteArray) (ao : Option Addr) (cap : Nat), e = .returned (.slice ao (mks ts).length cap) ∧ (∀ t ∈ ts, t.length ≤ 65536) ∧ ts.length ≤ 7 ∧ rest'.size ≤ maxLen ∧
      (∀ (α : Type) (f : List (List UInt8) → List UInt8 → Except Nat α), runX E (rdL 7 rest.data.toList f) = runX E' (f ts rest'.data.toList)) ∧ OwnStrs w.heap.size w' ao (mks ts) ∧ (ao = none → cap = 0) ∧ Arr w' rb 200 [.string rest', .int .i64 (E' : Int)] ∧ Kept (fun k => k = rb) w w' := by
  have c0 := hR.cell (i := 0) rfl
  have c1 := hR.cell (i := 1) rfl
  by_cases hE : E = 0
  · subst hE
    rcases hr : getList rest.data.toList 7 with ⟨ts, k, er⟩
    have hl : rest.data.toList.length = rest.size := by simp
    have cG := fun w1 => getParents_any rest w1 hs ts k er hr
    obtain ⟨ms, hms⟩ : ∃ q, q = mks ts := ⟨_, rfl⟩
    simp only [← hms] at cG
    have Hms : Hid (ms = mks ts) := hms
    clear hms
    by_cases he : er = 0
    · subst he
      have hgb := getList_back hr
      have b3 := hgb.2.2.1
      have b4 := hgb.2.2.2.1
      have b5 := hgb.2.2.2.2
      clear hgb
      have hk : (k : Int) ≤ rest.size := by omega
      have hstep : Hid (∀ (α : Type) (f : List (List UInt8) → List UInt8 → Except Nat α), runX 0 (rdL 7 rest.data.toList f) = runX 0 (f ts (rest.extract k rest.size).data.toList)) := by
        intro α f
        rw [rdL_ok hr, extract_drop]
      have hsz := rest_le rest k hs
      have hn : Hid ((∀ t ∈ ts, t.length ≤ 65536) ∧ ts.length ≤ 7) := ⟨b5, by omega⟩
      clear hr hl hs b3 b4 b5
      go_enter Tryz.func126, Tryz.ntmps126
      go_wp2_with fail
      refine (cG _).mono ?_
      rintro e w1 ⟨ao, cap, rfl, hO, hn2, hb⟩
      have hR1 := hR.below hb hR.lt
      have fin := hR1.set 0 (.string (rest.extract k rest.size))
      have kin := (Kept.of_below (S := fun k => k = rb) hb).set (p := ⟨rb, 0, none⟩) rfl (.string (rest.extract k rest.size))
      have hOF := hO.put (p := ⟨rb, 0, none⟩) hR.lt (.string (rest.extract k rest.size))
      have d0 := hR1.cell (i := 0) rfl
      have f0 := hR1.frozen 0
      clear hR hR1 c0 c1 hO hb cG
      go_wp2
      go_ret
      refine ⟨ts, 0, rest.extract k rest.size, ao, cap, by rw [← Hms.out]; rfl, hn.out.1, hn.out.2, hsz, hstep.out, ?_, hn2, fin, kin⟩
      rw [← Hms.out]
      exact hOF
    · have hstep : Hid (∀ (α : Type) (f : List (List UInt8) → List UInt8 → Except Nat α), runX 0 (rdL 7 rest.data.toList f) = runX er (f [] rest.data.toList)) := by
        intro α f
        rw [rdL_err hr he, runX_err he]
        rfl
      have hne : ((er : Int) != 0) = true := by rw [bne_iff_ne]; omega
      clear hr hl
      go_enter Tryz.func126, Tryz.ntmps126
      go_wp2_with fail
      refine (cG _).mono ?_
      rintro e w1 ⟨ao, cap, rfl, hO, hn2, hb⟩
      have hR1 := hR.below hb hR.lt
      have fin := hR1.set 1 (.int .i64 (er : Int))
      have kin := (Kept.of_below (S := fun k => k = rb) hb).set (p := ⟨rb, 1, none⟩) rfl (.int .i64 (er : Int))
      have d1 := hR1.cell (i := 1) rfl
      have f1 := hR1.frozen 1
      clear hR hR1 c0 c1 hO hb cG
      go_wp2
      go_ret
      exact ⟨[], er, rest, none, 0, rfl, by simp, by simp, hs, hstep.out, (fun j hj => absurd hj (by simp [mks])), fun _ => rfl, fin, kin⟩
  · have hE' : ((E : Int) != 0) = true := by rw [bne_iff_ne]; omega
    go_enter Tryz.func126, Tryz.ntmps126
    go_wp2
    go_ret
    exact ⟨[], E, rest, none, 0, rfl, by simp, by simp, hs, fun α f => by rw [runX_err hE, runX_err hE], (fun j hj => absurd hj (by simp [mks])), fun _ => rfl, hR, Kept.refl _ _⟩

set_option maxRecDepth 100000 in
set_option maxHeartbeats 400000 in
theorem refuse_k (rb : Nat) (w : World) (rest : ByteArray) (E : Nat) (b : Bool) (er : Nat) (hR : Arr w rb 200 [.string rest, .int .i64 (E : Int)]) :
    Calls Tryz.prog 128 #[.pointer (some ⟨rb, 0, none⟩), .bool b, .int .i64 (er : Int)] w fun e w' => e = .returned (.tuple #[]) ∧ Arr w' rb 200 [.string rest, .int .i64 ((if b = true ∧ E = 0 then er else E : Nat) : Int)] ∧ Kept (fun k => k = rb) w w' := by
  have c1 := hR.cell (i := 1) rfl
  have f1 := hR.frozen 1
  cases b with
  | false =>
    rw [if_neg (by simp)]
    go_enter Tryz.func128, Tryz.ntmps128
    go_wp2
    go_end0
    exact ⟨rfl, hR, Kept.refl _ _⟩
  | true =>
    by_cases hE : E = 0
    · subst hE
      rw [if_pos ⟨rfl, rfl⟩]
      have fin := hR.set 1 (.int .i64 (er : Int))
      have kin := (Kept.refl (fun k => k = rb) w).set (p := ⟨rb, 1, none⟩) rfl (.int .i64 (er : Int))
      go_enter Tryz.func128, Tryz.ntmps128
      go_wp2
      go_end0
      exact ⟨rfl, fin, kin⟩
    · have hE' : ((E : Int) == 0) = false := beq_eq_false_iff_ne.2 (by omega)
      rw [if_neg (fun h => hE h.2)]
      go_enter Tryz.func128, Tryz.ntmps128
      go_wp2
      go_end0
      exact ⟨rfl, hR, Kept.refl _ _⟩
end Go.Proofs.YtmjkbdgcnoenbaaGreatDoor

/- What getTag, GetTags and Tags of package header do; nothing old in memory is turned. -/
namespace Go.Proofs.YtmjkbdgcnoenbaaGreatDoor
open Go.RowKit
set_option linter.unusedVariables false

theorem infoTag1 : (Tryz.prog.info? 42).map (·.size) = some 2 := by kernel_rfl

theorem results_tag_tmp {fn : Func} {p u : Tmp} (h : fn.results = #[.cell p 42, .tmp u]) (tmps : Array Value) (w : World) (g : Nat) (a : Int) (m : ByteArray)
    (hp : tmps.getD p undef = .pointer (some ⟨g, 0, none⟩)) (hg : Arr w g 42 [.int .i64 a, .string m]) (v : Value) (hv : tmps.getD u undef = v) :
    (results fn tmps).run Tryz.prog w = .ok (.tuple #[.agg #[.int .i64 a, .string m], v]) w := by
  rw [results_cell_tmp h, hp, hv]
  have hl := run_loadVar_row w g 42 42 #[Value.int .i64 a, Value.string m] (0, 0) _ hg Tryz.underlying42 rfl infoTag1
  simp [asAddr, hl, Result.andThen]

theorem runX_any {α : Type} {E : Nat} {r out : Except Nat α} (h : out = runX E r) : (E = 0 ∧ out = r) ∨ (E ≠ 0 ∧ out = .error E) := by
  by_cases hE : E = 0
  · subst hE; exact Or.inl ⟨rfl, h⟩
  · exact Or.inr ⟨hE, by rw [h, runX_err hE]⟩

/-- getTag hands back a tag, or the error. -/
def tagOf (r : Except Nat TagD) : TagD × Nat := match r with
  | .ok t => (t, 0)
  | .error e => (⟨0, ⟨#[]⟩⟩, e)

set_option maxRecDepth 100000 in
set_option maxHeartbeats 400000 in
theorem getTag_any (s : ByteArray) (w : World) (hs : s.size ≤ maxLen) :
    Calls Tryz.prog 130 #[.string s] w fun e w' => e = .returned (.tuple #[.agg #[.int .i64 (tagOf (getTag s.data.toList)).1.who, .string (tagOf (getTag s.data.toList)).1.mac], .int .i64 ((tagOf (getTag s.data.toList)).2 : Int)]) ∧ Below w.heap.size w w' := by
  obtain ⟨hZ, hR, hB⟩ := two_new w 42 200 [.int .i64 0, .string ⟨#[]⟩] [.string s, .int .i64 0]
  have c0 := takeInt_k (w.heap.size + 1) _ s 0 hR hs
  obtain ⟨out, hout⟩ : ∃ out, out = getTag s.data.toList := ⟨_, rfl⟩
  rw [← hout]
  unfold getTag at hout
  have H : Hid (out = _) := (hout.trans (runX_zero _).symm : _ = _)
  clear hout
  go_enter Tryz.func130, Tryz.ntmps130
  go_wp2_with fail
  refine c0.mono ?_
  rintro e w1 ⟨n, E1, r1, rfl, hn, hr1, hf, hR1, hk1⟩
  have hZ1 := hZ.kept hk1 (by omega)
  have hB1 := hB.trans (hk1.below hB.size (fun k hk => by rw [hk]; omega))
  have hx := H.out.trans (hf _ _)
  replace H : Hid (out = _) := hx
  clear hx hf c0 hZ hR hB hk1
  have c1 := refuse_k (w.heap.size + 1) w1 r1 E1 (decide ((6 : Int) < (n : Int))) 2 hR1
  obtain ⟨E2, hE2⟩ : ∃ q, Hid (q = (if decide ((6 : Int) < (n : Int)) = true ∧ E1 = 0 then 2 else E1)) := ⟨_, rfl⟩
  rw [← hE2.out] at c1
  go_wp2_with fail
  refine c1.mono ?_
  rintro e w2 ⟨rfl, hR2, hk2⟩
  have hZ2 := hZ1.kept hk2 (by omega)
  have hB2 := hB1.trans (hk2.below hB1.size (fun k hk => by rw [hk]; omega))
  clear hZ1 hR1 hB1 hk2 c1
  have u0 := hR2.cell (i := 0) rfl
  obtain ⟨b3, hb3⟩ : ∃ q, q = ((r1.size : Int) != 16) := ⟨_, rfl⟩
  have c2 := refuse_k (w.heap.size + 1) w2 r1 E2 b3 3 hR2
  obtain ⟨E3, hE3⟩ : ∃ q, Hid (q = (if b3 = true ∧ E2 = 0 then 3 else E2)) := ⟨_, rfl⟩
  rw [← hE3.out] at c2
  rw [hb3] at c2
  go_wp2_with fail
  refine c2.mono ?_
  rintro e w3 ⟨rfl, hR3, hk3⟩
  have hZ3 := hZ2.kept hk3 (by omega)
  have hB3 := hB2.trans (hk3.below hB2.size (fun k hk => by rw [hk]; omega))
  clear hZ2 hR2 hB2 hk3 c2 u0
  have HF : Hid ((E3 = 0 ∧ out = .ok ⟨(n : Int), r1⟩) ∨ (E3 ≠ 0 ∧ out = .error E3)) := by
    have hl : r1.data.toList.length = r1.size := by simp
    rcases runX_any H.out with ⟨h1, h2⟩ | ⟨h1, h2⟩
    · have e2 := hE2.out
      have e3 := hE3.out
      rw [hb3] at e3
      rw [hl, mk_list] at h2
      by_cases h6 : 6 < n
      · rw [if_pos h6] at h2
        rw [if_pos ⟨decide_eq_true (by omega), h1⟩] at e2
        rw [if_neg (fun h => by omega)] at e3
        exact Or.inr ⟨by omega, by rw [h2, e3, e2]⟩
      · rw [if_neg h6] at h2
        rw [if_neg (fun h => by have := of_decide_eq_true h.1; omega)] at e2
        by_cases h16 : r1.size ≠ 16
        · rw [if_pos h16] at h2
          rw [if_pos ⟨by rw [bne_iff_ne]; omega, by omega⟩] at e3
          exact Or.inr ⟨by omega, by rw [h2, e3]⟩
        · rw [if_neg h16] at h2
          rw [if_neg (fun h => by have := bne_iff_ne.1 h.1; omega)] at e3
          exact Or.inl ⟨by omega, h2⟩
    · have e2 := hE2.out
      have e3 := hE3.out
      rw [if_neg (fun h => by omega)] at e2
      rw [if_neg (fun h => by omega)] at e3
      exact Or.inr ⟨by omega, by rw [h2, e3, e2]⟩
  clear H hE2 hE3 hb3
  have u0 := hR3.cell (i := 0) rfl
  have u1 := hR3.cell (i := 1) rfl
  have z0 := hZ3.cell (i := 0) rfl
  have z1 := hZ3.cell (i := 1) rfl
  have g0 := hZ3.frozen 0
  have g1 := hZ3.frozen 1
  by_cases he : E3 = 0
  · subst he
    have ho : out = .ok ⟨(n : Int), r1⟩ := by
      rcases HF.out with ⟨_, h⟩ | ⟨h, _⟩
      · exact h
      · exact absurd rfl h
    have hZF := (hZ3.set 0 (.int .i64 (n : Int))).set 1 (.string r1)
    have hBF := (hB3.setCell (p := ⟨w.heap.size, 0, none⟩) (Nat.le_refl _) (.int .i64 (n : Int))).setCell (p := ⟨w.heap.size, 1, none⟩) (Nat.le_refl _) (.string r1)
    clear hZ3 hB3 HF
    go_wp2
    refine bodyPost_ret (v := .tuple #[.agg #[.int .i64 (n : Int), .string r1], .int .i64 0]) (results_tag_tmp rfl _ _ w.heap.size (n : Int) r1 rfl hZF _ rfl) rfl ?_
    exact ⟨by rw [ho]; rfl, hBF⟩
  · have ho : out = .error E3 := by
      rcases HF.out with ⟨h, _⟩ | ⟨_, h⟩
      · exact absurd h he
      · exact h
    have hne : ((E3 : Int) != 0) = true := by rw [bne_iff_ne]; omega
    have fin : Arr ((w3.setCell ⟨w.heap.size, 0, none⟩ (.int .i64 0)).setCell ⟨w.heap.size, 1, none⟩ (.string ⟨#[]⟩)).drew w.heap.size 42 [.int .i64 0, .string ⟨#[]⟩] ∧ Below w.heap.size w ((w3.setCell ⟨w.heap.size, 0, none⟩ (.int .i64 0)).setCell ⟨w.heap.size, 1, none⟩ (.string ⟨#[]⟩)).drew :=
      ⟨((hZ3.set 0 (.int .i64 0)).set 1 (.string ⟨#[]⟩)).drew, Below.drew ((hB3.setCell (p := ⟨w.heap.size, 0, none⟩) (Nat.le_refl _) (.int .i64 0)).setCell (p := ⟨w.heap.size, 1, none⟩) (Nat.le_refl _) (.string ⟨#[]⟩))⟩
    clear hZ3 hB3 HF
    go_wp2_with fail
    go_region
    revert fin
    generalize (World.setCell _ ⟨w.heap.size, 1, none⟩ (.string ⟨#[]⟩)).drew = wf
    intro fin
    try go_wp2
    refine bodyPost_ret (v := .tuple #[.agg #[.int .i64 0, .string ⟨#[]⟩], .int .i64 (E3 : Int)]) (results_tag_tmp rfl _ _ w.heap.size 0 ⟨#[]⟩ rfl fin.1 _ rfl) rfl ?_
    exact ⟨by rw [ho]; rfl, fin.2⟩

theorem getTags_err {l : List UInt8} {ms : List (List UInt8)} {k er : Nat} (h : getList l 7 = (ms, k, er)) (he : er ≠ 0) : getTagsL l = ([], 0, er) := by
  unfold getTagsL
  rw [h, if_pos he]
theorem getTags_ok {l : List UInt8} {ms : List (List UInt8)} {k : Nat} (h : getList l 7 = (ms, k, 0)) : getTagsL l = match eachE getTag ms with
    | .error e => ([], 0, e)
    | .ok ts => (ts, k, 0) := by
  unfold getTagsL
  rw [h, if_neg (by simp)]
  rfl

/-- GetTags hands back a row, in how many bytes, and the error. -/
def GotTags (W : World) (r : List TagD × Nat × Nat) (e : Ending) (w : World) : Prop :=
  ∃ (ts : List TagD) (k er : Nat) (ao : Option Addr) (cap : Nat), e = .returned (.tuple #[.slice ao ts.length cap, .int .i64 (k : Int), .int .i64 (er : Int)]) ∧ r = (ts, k, er) ∧ RowAt tagK w ao ts ∧ (ao = none → cap = 0) ∧ (∀ b, rowFoot tagK ao ts b → W.heap.size ≤ b) ∧ Below W.heap.size W w

set_option maxRecDepth 100000 in
set_option maxHeartbeats 1000000 in
theorem getTags_any (s : ByteArray) (w : World) (hs : s.size ≤ maxLen) :
    Calls Tryz.prog 97 #[.string s] w fun e w' => GotTags w (getTagsL s.data.toList) e w' := by
  obtain ⟨i0, hi, hz0, hz1, hz2⟩ := info_parts infoTag6
  rcases hr : getList s.data.toList 7 with ⟨ts, k, er⟩
  have c0 := getListN s 7 (by omega) w hs ts k er (by exact hr)
  by_cases he : er ≠ 0
  · have H : Hid (getTagsL s.data.toList = ([], 0, er)) := getTags_err hr he
    have hne : ((er : Int) != 0) = true := by rw [bne_iff_ne]; omega
    generalize mks ts = ms at c0
    clear hr
    go_enter Tryz.func97, Tryz.ntmps97
    go_wp2_with fail
    refine c0.mono ?_
    rintro e w1 ⟨ao, cap, rfl, h1, h2, h3⟩
    clear c0
    go_wp2
    go_ret3
    exact ⟨[], 0, er, none, 0, rfl, H.out, nil_row _ _, fun _ => rfl, fun b hb => (nil_foot hb).elim, h3⟩
  replace he : er = 0 := by omega
  subst he
  have HG : Hid (getTagsL s.data.toList = _) := getTags_ok hr
  have hgb := getList_back hr
  have hm7 := hgb.2.2.2.1
  have hmsz := hgb.2.2.2.2
  have hml : (mks ts).length = ts.length := by simp [mks]
  have hbm : Hid (bl (mks ts) = ts) := bl_mks ts
  have hmz : Hid (∀ x ∈ mks ts, x.size ≤ maxLen) := by
    intro x hx
    obtain ⟨t, ht, rfl⟩ := List.mem_map.1 hx
    rw [size_mk]
    have := hmsz t ht
    unfold maxLen
    omega
  obtain ⟨ms, hms⟩ : ∃ q, q = mks ts := ⟨_, rfl⟩
  rw [← hms] at c0 hml hbm hmz
  have hm7' : ms.length ≤ 7 := by omega
  have Hml : Hid (ms.length = ts.length) := hml
  clear hms hmsz hgb hr hm7 hml
  go_enter Tryz.func97, Tryz.ntmps97
  go_wp2_with fail
  refine c0.mono ?_
  rintro e w1 ⟨ao, cap, rfl, hO, _, hb1⟩
  clear c0
  have hS := hO.at
  clear hO
  go_wp2
  go_loopw [8, 10, 11, 12, 24] (fun v8 v10 v11 v12 v24 wr => ∃ (i : Nat) (l : List TagD), i ≤ ms.length ∧ l.length = i ∧ v24 = .int .i64 (i : Int) ∧ KQ tagK 42 wr w1.heap.size v8 l ∧ Hid (eachE getTag (ts.take i) = .ok l) ∧ Below w1.heap.size w1 wr) (fun _ _ _ _ v _ => ms.length - (intOf v).toNat)
  case atStart => exact ⟨0, [], Nat.zero_le _, rfl, rfl, KQ.empty _ _ _ _, by show _ = _; rfl, Below.refl _ _⟩
  case round =>
    obtain ⟨i, l, hil, hli, rfl, hq, hE, hbb⟩ := hrel
    have hb := hb1.trans (hbb.mono hb1.size)
    by_cases hlt : i < ms.length
    · obtain ⟨b, off, rfl, hbl, hcell⟩ := (hS.below hbb) i hlt
      have hbk : ts[i]? = some ms[i].data.toList := by rw [← hbm.out]; simp [bl, hlt]
      have hek := eachE_take (f := getTag) ts i _ hbk l hE.out
      have hs1 := hmz.out ms[i] (List.getElem_mem hlt)
      obtain ⟨s1, hs1e⟩ : ∃ s, s = ms[i] := ⟨_, rfl⟩
      rw [← hs1e] at hcell hek hs1
      have cD := fun w1 => getTag_any s1 w1 hs1
      clear hs1e hbk hE
      obtain ⟨qa, qc, rfl, hqn, _⟩ := hq.form
      rw [hli] at hq ⊢
      cases hg : getTag s1.data.toList with
      | error er =>
        have H : Hid (getTagsL s.data.toList = ([], 0, er)) := by
          have := HG.out
          rw [hek.2 er hg] at this
          exact this
        have hne0 := getTag_err hg
        have hne : ((er : Int) != 0) = true := by rw [bne_iff_ne]; omega
        rw [hg] at cD
        simp only [tagOf] at cD
        clear hg hek
        go_wp2_with fail
        refine (cD _).mono ?_
        rintro e w2 ⟨rfl, hb2⟩
        have hb3 := hb.trans (hb2.mono hb.size)
        have hb4 := hb3.alloc hb3.size (.cells #[.int .i64 0, .string ⟨#[]⟩] 42)
        clear cD hb2 hb3 hq
        go_wp2
        go_ret3
        exact ⟨[], 0, er, none, 0, rfl, H.out, nil_row _ _, fun _ => rfl, fun b hb => (nil_foot hb).elim, hb4⟩
      | ok t =>
        have HE : Hid (eachE getTag (ts.take (i + 1)) = .ok (l ++ [t])) := hek.1 t hg
        rw [hg] at cD
        simp only [tagOf] at cD
        clear hg hek
        go_wp2_with fail
        refine (cD _).mono ?_
        rintro e w2 ⟨rfl, hb2⟩
        have hb3 := hb.trans (hb2.mono hb.size)
        have hbb3 := hbb.trans (hb2.mono hbb.size)
        have hq3 := hq.below hb2
        have hbx := belowNew w2 (.cells #[.int .i64 t.who, .string t.mac] 42)
        have hby := belowNew (w2.alloc (.cells #[.int .i64 t.who, .string t.mac] 42)) (.cells #[.int .i64 t.who, .string t.mac] 42)
        have hb4 := (hb3.trans (hbx.mono hb3.size))
        have hb5 := (hb4.trans (hby.mono hb4.size))
        have hbb4 := (hbb3.trans (hbx.mono hbb3.size))
        have hbb5 := (hbb4.trans (hby.mono hbb4.size))
        have hq5 := (hq3.below hbx).below hby
        have hN := Arr.new (w2.alloc (.cells #[.int .i64 t.who, .string t.mac] 42)) 42 [.int .i64 t.who, .string t.mac]
        rw [alloc_size] at hN
        have hnews : ∀ j u, (tagK.c t)[j]? = some u → ((w2.alloc (.cells #[.int .i64 t.who, .string t.mac] 42)).alloc (.cells #[.int .i64 t.who, .string t.mac] 42)).cell? ((⟨w2.heap.size + 1, 0, none⟩ : Addr).add j) = some u := by
          intro j u hu
          rw [Go.WideShapes.add_plain, Nat.zero_add]
          exact hN.cell hu
        clear cD hb2 hb3 hq hq3 hbx hby hb4 hbb3 hbb4 hcell
        go_wp2_with (at_builtin; refine wpList_push (K := tagK) rfl _ _ 46 rfl w1.heap.size 42 i0 _ 24 Tryz.underlying46 hi hz0 hz1 hz2 rfl _ l rfl hq5 t trivial (fun _ h => h.elim) ⟨w2.heap.size + 1, 0, none⟩ 1 rfl hnews ?c3 ?c4 hbb5.size ?_)
        case c3 => unfold maxLen; omega
        case c4 => omega
        intro ao' cap' w3 hq6 hk6
        have hbb6 : Below w1.heap.size w1 w3 := hbb5.trans (hk6.below hbb5.size (fun j hj => (hq5.lt j hj).1))
        clear hq5 hk6 hb5 hbb5 hN hnews
        go_wp2
        go_roundw
        case rel => exact ⟨i + 1, l ++ [t], by omega, by simp [hli], by go_num, hq6, HE, hbb6⟩
        case measure => simp [intOf]; omega
    · have hii : i = ms.length := by omega
      have H : Hid (getTagsL s.data.toList = (l, k, 0)) := by
        have h1 := hE.out
        have h2 := Hml.out
        rw [List.take_of_length_le (by omega)] at h1
        have := HG.out
        rw [h1] at this
        exact this
      obtain ⟨qa, qc, rfl, hqn, hqt⟩ := hq.form
      have hff := hq.foot_ge (B := w.heap.size) hb1.size (fun _ _ _ h => h.elim)
      clear hE
      go_wp2
      go_ret3
      exact ⟨l, k, 0, qa, qc, rfl, H.out, hqt, hqn, hff, hb⟩
end Go.Proofs.YtmjkbdgcnoenbaaGreatDoor

/- What the reader's ref, refs and package header's Decode do; nothing old in memory is turned. -/
namespace Go.Proofs.YtmjkbdgcnoenbaaGreatDoor
open Go.RowKit
set_option linter.unusedVariables false

set_option maxRecDepth 100000 in
set_option maxHeartbeats 1000000 in
theorem takeTags_k (rb : Nat) (w : World) (rest : ByteArray) (E : Nat) (hR : Arr w rb 200 [.string rest, .int .i64 (E : Int)]) (hs : rest.size ≤ maxLen) :
    Calls Tryz.prog 151 #[.pointer (some ⟨rb, 0, none⟩), .func (.func 97) #[] #[]] w fun e w' => ∃ (ts : List TagD) (E' : Nat) (rest' : ByteArray) (ao : Option Addr) (cap : Nat), e = .returned (.slice ao ts.length cap) ∧ ts.length ≤ 7 ∧ rest'.size ≤ maxLen ∧
      (∀ (α : Type) (f : List TagD → List UInt8 → Except Nat α), runX E (rdG rest.data.toList f) = runX E' (f ts rest'.data.toList)) ∧ RowAt tagK w' ao ts ∧ (ao = none → cap = 0) ∧ (∀ b, rowFoot tagK ao ts b → w.heap.size ≤ b) ∧ Arr w' rb 200 [.string rest', .int .i64 (E' : Int)] ∧ Kept (fun k => k = rb) w w' := by
  have c0 := hR.cell (i := 0) rfl
  have c1 := hR.cell (i := 1) rfl
  by_cases hE : E = 0
  · subst hE
    rcases hr : getTagsL rest.data.toList with ⟨ts, k, er⟩
    have hl : rest.data.toList.length = rest.size := by simp
    have cG := fun w1 => getTags_any rest w1 hs
    rw [hr] at cG
    by_cases he : er = 0
    · subst he
      have hgb := getTags_back hr
      have b3 := hgb.2.2.1
      have b4 := hgb.2.2.2.1
      clear hgb
      have hk : (k : Int) ≤ rest.size := by omega
      have hstep : Hid (∀ (α : Type) (f : List TagD → List UInt8 → Except Nat α), runX 0 (rdG rest.data.toList f) = runX 0 (f ts (rest.extract k rest.size).data.toList)) := by
        intro α f
        rw [rdG_ok hr, extract_drop]
      have hsz := rest_le rest k hs
      have hn : Hid (ts.length ≤ 7) := b4
      clear hr hl hs b3 b4
      go_enter Tryz.func151, Tryz.ntmps151
      go_wp2_with fail
      refine (cG _).mono ?_
      rintro e w1 ⟨ts', k', er', ao, cap, rfl, heq, hO, hn2, hf, hb⟩
      simp only [Prod.mk.injEq] at heq
      obtain ⟨rfl, rfl, rfl⟩ := heq
      have hR1 := hR.below hb hR.lt
      have fin := hR1.set 0 (.string (rest.extract k rest.size))
      have kin := (Kept.of_below (S := fun k => k = rb) hb).set (p := ⟨rb, 0, none⟩) rfl (.string (rest.extract k rest.size))
      have hOF := hO.kept (Kept.setCell w1 ⟨rb, 0, none⟩ (.string (rest.extract k rest.size))) (fun b hb e => by have := hf b hb; have := hR.lt; have e' : b = rb := e; omega)
      have d0 := hR1.cell (i := 0) rfl
      have f0 := hR1.frozen 0
      clear hR hR1 c0 c1 hO hb cG
      go_wp2
      go_ret
      exact ⟨ts, 0, rest.extract k rest.size, ao, cap, rfl, hn.out, hsz, hstep.out, hOF, hn2, hf, fin, kin⟩
    · have hstep : Hid (∀ (α : Type) (f : List TagD → List UInt8 → Except Nat α), runX 0 (rdG rest.data.toList f) = runX er (f [] rest.data.toList)) := by
        intro α f
        rw [rdG_err hr he, runX_err he]
        rfl
      have hne : ((er : Int) != 0) = true := by rw [bne_iff_ne]; omega
      clear hr hl
      go_enter Tryz.func151, Tryz.ntmps151
      go_wp2_with fail
      refine (cG _).mono ?_
      rintro e w1 ⟨ts', k', er', ao, cap, rfl, heq, hO, hn2, hf, hb⟩
      simp only [Prod.mk.injEq] at heq
      obtain ⟨rfl, rfl, rfl⟩ := heq
      have hR1 := hR.below hb hR.lt
      have fin := hR1.set 1 (.int .i64 (er : Int))
      have kin := (Kept.of_below (S := fun k => k = rb) hb).set (p := ⟨rb, 1, none⟩) rfl (.int .i64 (er : Int))
      have d1 := hR1.cell (i := 1) rfl
      have f1 := hR1.frozen 1
      clear hR hR1 c0 c1 hO hb cG
      go_wp2
      go_ret
      exact ⟨[], er, rest, none, 0, rfl, by simp, hs, hstep.out, nil_row _ _, fun _ => rfl, fun b hb => (nil_foot hb).elim, fin, kin⟩
  · have hE' : ((E : Int) != 0) = true := by rw [bne_iff_ne]; omega
    go_enter Tryz.func151, Tryz.ntmps151
    go_wp2
    go_ret
    exact ⟨[], E, rest, none, 0, rfl, by simp, hs, fun α f => by rw [runX_err hE, runX_err hE], nil_row _ _, fun _ => rfl, fun b hb => (nil_foot hb).elim, hR, Kept.refl _ _⟩

theorem infoRef1 : (Tryz.prog.info? 94).map (·.size) = some 2 := by kernel_rfl

/-- A Ref is read. -/
def rdRef {α : Type} (l : List UInt8) (f : RefD → List UInt8 → Except Nat α) : Except Nat α := rdT l fun d l => rdG l fun ts l => f ⟨⟨d.toArray⟩, ts⟩ l

set_option maxRecDepth 100000 in
set_option maxHeartbeats 1000000 in
theorem ref_k (rb : Nat) (w : World) (rest : ByteArray) (E : Nat) (hR : Arr w rb 200 [.string rest, .int .i64 (E : Int)]) (hs : rest.size ≤ maxLen) :
    Calls Tryz.prog 145 #[.pointer (some ⟨rb, 0, none⟩)] w fun e w' => ∃ (x : RefM) (E' : Nat) (rest' : ByteArray), e = .returned (.agg #[.string x.digest, .slice x.ao x.acks.length x.cap]) ∧ rest'.size ≤ maxLen ∧ x.acks.length ≤ 7 ∧
      (∀ (α : Type) (f : RefD → List UInt8 → Except Nat α), runX E (rdRef rest.data.toList f) = runX E' (f x.d rest'.data.toList)) ∧ refK.At w' x ∧ (∀ b, refK.foot x b → w.heap.size ≤ b) ∧ Arr w' rb 200 [.string rest', .int .i64 (E' : Int)] ∧ Kept (fun k => k = rb) w w' := by
  have hZ := Arr.new w 94 [.string ⟨#[]⟩, .slice none 0 0]
  have hbn := belowNew w (.cells #[.string ⟨#[]⟩, .slice none 0 0] 94)
  have hR0 := hR.below hbn hR.lt
  have c0 := takeText_k rb _ rest E hR0 hs
  have hrl := hR.lt
  go_enter Tryz.func145, Tryz.ntmps145
  go_wp2_with fail
  refine c0.mono ?_
  rintro e w1 ⟨t, E1, r1, rfl, ht, hr1, hf1, hR1, hk1⟩
  have hZ1 := hZ.kept hk1 (by omega)
  have kin1 := (Kept.of_below (S := fun k => k = rb) hbn).trans hk1
  have hz1 := hk1.size
  rw [alloc_size] at hz1
  clear c0 hR hR0 hbn hZ hk1
  have c1 := takeTags_k rb w1 r1 E1 hR1 hr1
  go_wp2_with fail
  refine c1.mono ?_
  rintro e w2 ⟨ts, E2, r2, ao, cap, rfl, h7, hr2, hf2, hO, hn2, hff, hR2, hk2⟩
  have hZ2 := hZ1.kept hk2 (by omega)
  have kin2 := kin1.trans hk2
  clear c1 hR1 hZ1 hk2 kin1
  have z0 := hZ2.cell (i := 0) rfl
  have z1 := hZ2.cell (i := 1) rfl
  have g0 := hZ2.frozen 0
  have g1 := hZ2.frozen 1
  have hZF := (hZ2.set 0 (.string ⟨t.toArray⟩)).set 1 (.slice ao ts.length cap)
  have kF := (kin2.setNew (a := ⟨w.heap.size, 0, none⟩) (Nat.le_refl _) (.string ⟨t.toArray⟩)).setNew (a := ⟨w.heap.size, 1, none⟩) (Nat.le_refl _) (.slice ao ts.length cap)
  have hRF := (hR2.other (p := ⟨w.heap.size, 0, none⟩) (by show rb ≠ w.heap.size; omega) (.string ⟨t.toArray⟩)).other (p := ⟨w.heap.size, 1, none⟩) (by show rb ≠ w.heap.size; omega) (.slice ao ts.length cap)
  have hOF := (hO.kept (Kept.setCell w2 ⟨w.heap.size, 0, none⟩ (.string ⟨t.toArray⟩)) (fun b hb e => by have := hff b hb; have e' : b = w.heap.size := e; omega)).kept (Kept.setCell _ ⟨w.heap.size, 1, none⟩ (.slice ao ts.length cap)) (fun b hb e => by have := hff b hb; have e' : b = w.heap.size := e; omega)
  have hst : Hid (∀ (α : Type) (f : RefD → List UInt8 → Except Nat α), runX E (rdRef rest.data.toList f) = runX E2 (f (RefM.d ⟨⟨t.toArray⟩, ts, ao, cap⟩) r2.data.toList)) := by
    intro α f
    show runX E (rdT _ _) = _
    rw [hf1, hf2]
    rfl
  clear hZ2 kin2 hR2 hO hf1 hf2
  go_wp2
  refine bodyPost_ret (v := .agg #[.string ⟨t.toArray⟩, .slice ao ts.length cap]) (results_cell_row rfl _ _ w.heap.size 94 #[.string ⟨t.toArray⟩, .slice ao ts.length cap] (0, 0) _ rfl hZF Tryz.underlying94 rfl infoRef1) rfl ?_
  exact ⟨⟨⟨t.toArray⟩, ts, ao, cap⟩, E2, r2, rfl, hr2, h7, hst.out, ⟨hOF, hn2⟩, fun b hb => by have := hff b hb; omega, hRF, kF⟩

/-- Refs were read. -/
def GotRefs (T : TypeId) (w : World) (rb : Nat) (n : Nat) (rest : ByteArray) (E : Nat) (e : Ending) (w' : World) : Prop :=
  ∃ (l : List RefM) (E' : Nat) (rest' : ByteArray) (ao : Option Addr) (cap : Nat), e = .returned (.slice ao l.length cap) ∧ rest'.size ≤ maxLen ∧ l.length ≤ n ∧ (∀ x ∈ l, x.acks.length ≤ 7) ∧
    (∀ (α : Type) (f : List RefD → List UInt8 → Except Nat α), runX E (rdRefs n rest.data.toList f) = runX E' (f (rd l) rest'.data.toList)) ∧ RowAt refK w' ao l ∧ (ao = none → cap = 0) ∧ (∀ b, rowFoot refK ao l b → w.heap.size ≤ b) ∧ Arr w' rb T [.string rest', .int .i64 (E' : Int)] ∧ Kept (fun k => k = rb) w w'

set_option maxRecDepth 100000 in
set_option maxHeartbeats 1000000 in
theorem several_k (rb : Nat) (w : World) (rest : ByteArray) (E n : Nat) (hn : n ≤ 4 ∨ E ≠ 0) (hR : Arr w rb 200 [.string rest, .int .i64 (E : Int)]) (hs : rest.size ≤ maxLen) :
    Calls Tryz.prog 144 #[.pointer (some ⟨rb, 0, none⟩), .int .i64 (n : Int), .func (.func 145) #[.pointer (some ⟨rb, 0, none⟩)] #[]] w fun e w' => GotRefs 200 w rb n rest E e w' := by
  obtain ⟨i0, hi, hz0, hz1, hz2⟩ := info_parts infoRef6
  have hrl := hR.lt
  go_enter Tryz.func144, Tryz.ntmps144
  go_wp2
  go_loopw [7] (fun v7 wr => ∃ (l : List RefM) (E' : Nat) (rest' : ByteArray), l.length ≤ n ∧ (n ≤ 4 ∨ E' ≠ 0) ∧ rest'.size ≤ maxLen ∧ (∀ x ∈ l, x.acks.length ≤ 7) ∧ KQ refK 94 wr w.heap.size v7 l ∧ (∀ x ∈ l, ∀ b, refK.foot x b → w.heap.size ≤ b) ∧ Arr wr rb 200 [.string rest', .int .i64 (E' : Int)] ∧ Kept (fun k => k = rb) w wr ∧
    Hid (∀ (α : Type) (f : List RefD → List UInt8 → Except Nat α), runX E (rdRefs n rest.data.toList f) = runX E' (rdRefs (n - l.length) rest'.data.toList (fun rs r => f (rd l ++ rs) r)))) (fun v7 _ => n - slLen v7)
  case atStart => exact ⟨[], E, rest, Nat.zero_le _, hn, hs, by simp, KQ.empty _ _ _ _, by simp, hR, Kept.refl _ _, fun α f => rfl⟩
  case round =>
    clear hn hR hs
    obtain ⟨l, E1, r1, hln, hn, hr1, h7, hq, hfo, hR, hk, HS⟩ := hrel
    have c1 := hR.cell (i := 1) rfl
    obtain ⟨qa, qc, rfl, hqn, hqt⟩ := hq.form
    by_cases hE : E1 = 0
    · subst hE
      by_cases hlt : l.length < n
      · have hn4 : n ≤ 4 := by rcases hn with h | h; exact h; exact absurd rfl h
        have cR := ref_k rb wr r1 0 hR hr1
        have hlt' : (l.length : Int) < (n : Int) := by omega
        obtain ⟨m, hm⟩ : ∃ m, n - l.length = m + 1 := ⟨n - l.length - 1, by omega⟩
        have hsz := hk.size
        go_wp2_with fail
        refine cR.mono ?_
        rintro e w1 ⟨x, E2, r2, rfl, hr2, hx7, hf2, hx, hxf, hR2, hk2⟩
        have hq2 := hq.kept hk2 (fun k hk e => by have := (hq.lt k hk).1; have e' : k = rb := e; omega) (fun x hx b hb e => by have := hfo x hx b hb; have e' : b = rb := e; omega)
        have kin2 := hk.trans hk2
        have hbx := belowNew w1 (.cells #[.string x.digest, .slice x.ao x.acks.length x.cap] 94)
        have hq3 := hq2.below hbx
        have hx3 := Kind.below refK hx hbx
        have hR3 := hR2.below hbx hR2.lt
        have kin3 := kin2.trans (Kept.of_below hbx)
        have hxo : ∀ b, refK.foot x b → (Value.slice qa l.length qc).ownBlock ≠ some b := fun b hb e => by have := hxf b hb; have := (hq.lt b e).2; omega
        have hN := new_ref w1 x
        have HS2 : Hid (∀ (α : Type) (f : List RefD → List UInt8 → Except Nat α), runX E (rdRefs n rest.data.toList f) = runX E2 (rdRefs (n - (l ++ [x]).length) r2.data.toList (fun rs r => f (rd (l ++ [x]) ++ rs) r))) := by
          intro α f
          have e1 : n - (l ++ [x]).length = m := by simp; omega
          rw [HS.out, hm, e1]
          have h2 := hf2 α (fun y l' => rdRefs m l' (fun rs r => f (rd l ++ y :: rs) r))
          show runX 0 (rdT _ _) = _
          have e2 : (fun rs r => f (rd (l ++ [x]) ++ rs) r) = (fun rs r => f (rd l ++ x.d :: rs) r) := by
            funext rs r
            rw [rd_append]
            simp [rd]
          rw [e2]
          exact h2
        clear cR hx hR hq hk hk2 hq2 hbx hR2 kin2 hqt hf2 HS
        have hbs : w.heap.size ≤ (w1.alloc (.cells #[.string x.digest, .slice x.ao x.acks.length x.cap] 94)).heap.size := kin3.size
        go_wp2_with (at_builtin; refine wpList_push (K := refK) rfl _ _ 30 rfl w.heap.size 94 i0 _ 40 Tryz.underlying30 hi hz0 hz1 hz2 rfl _ l rfl hq3 x hx3 hxo ⟨w1.heap.size, 0, none⟩ 1 rfl hN ?c3 ?c4 hbs ?_)
        case c3 => unfold maxLen; omega
        case c4 => omega
        intro ao' cap' w3 hq6 hk6
        have hR6 := hR3.kept hk6 (fun e => by have := (hq3.lt _ e).1; omega)
        have kin6 := kin3.transNew hk6 (fun j hj => (hq3.lt j hj).1)
        have hfo6 : ∀ y ∈ l ++ [x], ∀ b, refK.foot y b → w.heap.size ≤ b := by
          intro y hy b hb
          rw [List.mem_append, List.mem_singleton] at hy
          rcases hy with hy | rfl
          · exact hfo y hy b hb
          · have := hxf b hb; omega
        have h76 : ∀ y ∈ l ++ [x], y.acks.length ≤ 7 := by
          intro y hy
          rw [List.mem_append, List.mem_singleton] at hy
          rcases hy with hy | rfl
          · exact h7 y hy
          · exact hx7
        clear hq3 hx3 hR3 kin3 hxo hN hk6 hm
        go_wp2
        go_roundw
        case rel => exact ⟨l ++ [x], E2, r2, by simp; omega, Or.inl hn4, hr2, h76, hq6, hfo6, hR6, kin6, HS2⟩
        case measure => simp [slLen]; omega
      · have hlt' : ¬ (l.length : Int) < (n : Int) := by omega
        have HF : Hid (∀ (α : Type) (f : List RefD → List UInt8 → Except Nat α), runX E (rdRefs n rest.data.toList f) = runX 0 (f (rd l) r1.data.toList)) := by
          intro α f
          have e1 : n - l.length = 0 := by omega
          rw [HS.out, e1, rdRefs, List.append_nil]
        have hff := hq.foot_ge (B := w.heap.size) (Nat.le_refl _) hfo
        clear HS
        go_wp2
        go_ret
        exact ⟨l, 0, r1, qa, qc, rfl, hr1, hln, h7, HF.out, hqt, hqn, hff, hR, hk⟩
    · have hE' : ((E1 : Int) == 0) = false := beq_eq_false_iff_ne.2 (by omega)
      have HF : Hid (∀ (α : Type) (f : List RefD → List UInt8 → Except Nat α), runX E (rdRefs n rest.data.toList f) = runX E1 (f (rd l) r1.data.toList)) := by
        intro α f
        rw [HS.out, runX_err hE, runX_err hE]
      have hff := hq.foot_ge (B := w.heap.size) (Nat.le_refl _) hfo
      clear HS
      go_wp2
      go_ret
      exact ⟨l, E1, r1, qa, qc, rfl, hr1, hln, h7, HF.out, hqt, hqn, hff, hR, hk⟩

/-- How many Refs there are, and the Refs. -/
def rdNRefs {α : Type} (l : List UInt8) (f : List RefD → List UInt8 → Except Nat α) : Except Nat α := rdI l fun n l => if 4 < n then .error 8 else rdRefs n l f

/-- Refs were read. -/
def GotNRefs (T : TypeId) (w : World) (rb : Nat) (rest : ByteArray) (E : Nat) (e : Ending) (w' : World) : Prop :=
  ∃ (l : List RefM) (E' : Nat) (rest' : ByteArray) (ao : Option Addr) (cap : Nat), e = .returned (.slice ao l.length cap) ∧ rest'.size ≤ maxLen ∧ (∀ x ∈ l, x.acks.length ≤ 7) ∧
    (∀ (α : Type) (f : List RefD → List UInt8 → Except Nat α), runX E (rdNRefs rest.data.toList f) = runX E' (f (rd l) rest'.data.toList)) ∧ RowAt refK w' ao l ∧ (ao = none → cap = 0) ∧ (∀ b, rowFoot refK ao l b → w.heap.size ≤ b) ∧ Arr w' rb T [.string rest', .int .i64 (E' : Int)] ∧ Kept (fun k => k = rb) w w'

set_option maxRecDepth 100000 in
set_option maxHeartbeats 1000000 in
theorem refs_k (rb : Nat) (w : World) (rest : ByteArray) (E : Nat) (hR : Arr w rb 200 [.string rest, .int .i64 (E : Int)]) (hs : rest.size ≤ maxLen) :
    Calls Tryz.prog 125 #[.pointer (some ⟨rb, 0, none⟩)] w fun e w' => GotNRefs 200 w rb rest E e w' := by
  have c0 := takeInt_k rb w rest E hR hs
  have hmf : ∀ (fn : Fn) (first cap : Array Value) (w : World), (Instr.makeFunc fn first cap).run Tryz.prog w = .ok (.func fn first cap) w := fun _ _ _ _ => rfl
  go_enter Tryz.func125, Tryz.ntmps125
  go_wp2_with fail
  refine c0.mono ?_
  rintro e w1 ⟨n, E1, r1, rfl, hn, hr1, hf1, hR1, hk1⟩
  have c1 := refuse_k rb w1 r1 E1 (decide ((4 : Int) < (n : Int))) 8 hR1
  obtain ⟨E2, hE2⟩ : ∃ q, Hid (q = (if decide ((4 : Int) < (n : Int)) = true ∧ E1 = 0 then 8 else E1)) := ⟨_, rfl⟩
  rw [← hE2.out] at c1
  clear c0 hR1
  go_wp2_with fail
  refine c1.mono ?_
  rintro e w2 ⟨rfl, hR2, hk2⟩
  have kin2 := hk1.trans hk2
  have HS : Hid ((n ≤ 4 ∨ E2 ≠ 0) ∧ ∀ (α : Type) (f : List RefD → List UInt8 → Except Nat α), runX E (rdNRefs rest.data.toList f) = runX E2 (rdRefs n r1.data.toList f)) := by
    have e2 := hE2.out
    by_cases h4 : 4 < n
    · by_cases h0 : E1 = 0
      · rw [if_pos ⟨decide_eq_true (by omega), h0⟩] at e2
        refine ⟨Or.inr (by omega), fun α f => ?_⟩
        unfold rdNRefs
        rw [hf1, if_pos h4, h0, e2]
        rfl
      · rw [if_neg (fun h => h0 h.2)] at e2
        refine ⟨Or.inr (by omega), fun α f => ?_⟩
        unfold rdNRefs
        rw [hf1, e2, runX_err h0, runX_err h0]
    · rw [if_neg (fun h => by have := of_decide_eq_true h.1; omega)] at e2
      refine ⟨Or.inl (by omega), fun α f => ?_⟩
      unfold rdNRefs
      rw [hf1, if_neg h4, e2]
  clear hE2 hf1 hk1 hk2 c1
  have c2 := several_k rb w2 r1 E2 n HS.out.1 hR2 hr1
  go_wp2_with fail
  refine c2.mono ?_
  rintro e w3 ⟨l, E3, r3, ao, cap, rfl, hr3, hln, h7, hf3, hO, hno, hff, hR3, hk3⟩
  have kin3 := kin2.trans hk3
  have HF : Hid (∀ (α : Type) (f : List RefD → List UInt8 → Except Nat α), runX E (rdNRefs rest.data.toList f) = runX E3 (f (rd l) r3.data.toList)) := by
    intro α f
    rw [HS.out.2, hf3]
  have hz2 := kin2.size
  clear c2 HS hf3 hk3 kin2
  go_wp2
  go_ret
  exact ⟨l, E3, r3, ao, cap, rfl, hr3, h7, HF.out, hO, hno, fun b hb => by have := hff b hb; omega, hR3, kin3⟩

theorem results_hdr_tmp {fn : Func} {p u : Tmp} (h : fn.results = #[.cell p 33, .tmp u]) (tmps : Array Value) (w : World) (g : Nat) (x : HdrM)
    (hp : tmps.getD p undef = .pointer (some ⟨g, 0, none⟩)) (hg : Arr w g 33 x.c) (v : Value) (hv : tmps.getD u undef = v) :
    (results fn tmps).run Tryz.prog w = .ok (.tuple #[x.v, v]) w := by
  rw [results_cell_tmp h, hp, hv]
  have hl := run_loadVar_row w g 33 33 x.c.toArray (0, 0) _ hg Tryz.underlying33 rfl infoHdr6
  simp [asAddr, hl, HdrM.v, HdrM.c, Result.andThen]

/-- No header. -/
def hdr0 : HdrM := ⟨0, 0, none, [], 0, none, [], 0⟩

theorem hdr0_at (w : World) : hdr0.At w := ⟨nil_row _ _, fun _ => rfl, nil_row _ _, fun _ => rfl⟩

/-- Decode hands back a header and an error. -/
def GotHdr (W : World) (r : Except Nat HdrD) (e : Ending) (w : World) : Prop :=
  ∃ (x : HdrM) (er : Nat), e = .returned (.tuple #[x.v, .int .i64 (er : Int)]) ∧ x.At w ∧ ((er = 0 ∧ r = .ok x.d) ∨ (er ≠ 0 ∧ r = .error er ∧ x = hdr0)) ∧ (∀ b, x.foot b → W.heap.size ≤ b) ∧ Below W.heap.size W w

theorem gotHdr_err {W w : World} {r : Except Nat HdrD} {er : Nat} (h : r = .error er) (he : er ≠ 0) (hb : Below W.heap.size W w) (e : Ending) (hv : e = .returned (.tuple #[hdr0.v, .int .i64 (er : Int)])) : GotHdr W r e w :=
  ⟨hdr0, er, hv, hdr0_at _, Or.inr ⟨he, h, rfl⟩, fun b hb => hb.elim (fun h => (nil_foot h).elim) (fun h => (nil_foot h).elim), hb⟩

/-- What Decode reads, field by field. -/
theorem decH_steps (l : List UInt8) : decH l = rdI l fun a l => rdI l fun r l => rdNRefs l fun rs l => rdL 7 l fun ps l => if l ≠ [] then .error 6 else if (6 : Int) < (a : Int) then .error 2 else .ok ⟨(a : Int), (r : Int), rs, mks ps⟩ := rfl

set_option maxRecDepth 100000 in
set_option maxHeartbeats 2000000 in
theorem hdrDecode_any (s : ByteArray) (W : World) (hs : s.size ≤ maxLen) :
    Calls Tryz.prog 96 #[.string s] W fun e w' => GotHdr W (decH s.data.toList) e w' := by
  obtain ⟨hZ, hR, hB⟩ := two_new W 33 200 [.int .i64 0, .int .i64 0, .slice none 0 0, .slice none 0 0] [.string s, .int .i64 0]
  obtain ⟨out, hout⟩ : ∃ out, out = decH s.data.toList := ⟨_, rfl⟩
  rw [← hout]
  rw [decH_steps] at hout
  have H : Hid (out = _) := (hout.trans (runX_zero _).symm : _ = _)
  clear hout
  have c0 := takeInt_k (W.heap.size + 1) _ s 0 hR hs
  go_enter Tryz.func96, Tryz.ntmps96
  go_wp2_with fail
  refine c0.mono ?_
  rintro e w1 ⟨v0, E1, r1, rfl, hv0, hr1, hf, hR1, hk1⟩
  have hZ1 := hZ.kept hk1 (by omega)
  have hB1 := hB.trans (hk1.below hB.size (fun k hk => by rw [hk]; omega))
  have hx := H.out.trans (hf _ _)
  replace H : Hid (out = _) := hx
  clear hx hf c0 hZ hR hB hk1
  have c1 := takeInt_k (W.heap.size + 1) _ r1 E1 hR1 hr1
  go_wp2_with fail
  refine c1.mono ?_
  rintro e w2 ⟨v1, E2, r2, rfl, hv1, hr2, hf, hR2, hk2⟩
  have hZ2 := hZ1.kept hk2 (by omega)
  have hB2 := hB1.trans (hk2.below hB1.size (fun k hk => by rw [hk]; omega))
  have hx := H.out.trans (hf _ _)
  replace H : Hid (out = _) := hx
  clear hx hf c1 hZ1 hR1 hB1 hk2 hr1
  have c2 := refs_k (W.heap.size + 1) _ r2 E2 hR2 hr2
  go_wp2_with fail
  refine c2.mono ?_
  rintro e w3 ⟨rs, E3, r3, ra, rc, rfl, hr3, h7, hf, hO3, hn3, hff3, hR3, hk3⟩
  have hZ3 := hZ2.kept hk3 (by omega)
  have hB3 := hB2.trans (hk3.below hB2.size (fun k hk => by rw [hk]; omega))
  have hx := H.out.trans (hf _ _)
  replace H : Hid (out = _) := hx
  have hw2 := hR2.lt
  clear hx hf c2 hZ2 hR2 hB2 hk3 hr2
  have c3 := takeList_k (W.heap.size + 1) _ r3 E3 hR3 hr3
  go_wp2_with fail
  refine c3.mono ?_
  rintro e w4 ⟨ps, E4, r4, pa, pc, rfl, hpl, hp7, hr4, hf, hO4, hn4, hR4, hk4⟩
  have hZ4 := hZ3.kept hk4 (by omega)
  have hB4 := hB3.trans (hk4.below hB3.size (fun k hk => by rw [hk]; omega))
  have hO34 := hO3.kept hk4 (fun b hb e => by have := hff3 b hb; have e' : b = W.heap.size + 1 := e; omega)
  have hP4 := hO4.at.row
  have hw3 := hR3.lt
  have hff4 : ∀ b, rowFoot strK pa (mks ps) b → W.heap.size + 1 < b := fun b hb => by have := hO4.foot hb; omega
  have hff3' : ∀ b, rowFoot refK ra rs b → W.heap.size + 1 < b := fun b hb => by have := hff3 b hb; omega
  have hx := H.out.trans (hf _ _)
  replace H : Hid (out = _) := hx
  clear hx hf c3 hZ3 hR3 hB3 hr3 hO3 hO4 hff3
  obtain ⟨pss, hpss⟩ : ∃ q, q = mks ps := ⟨_, rfl⟩
  rw [← hpss] at hP4 hff4 H ⊢
  clear hpss hpl hp7
  have u0 := hR4.cell (i := 0) rfl
  have c4 := refuse_k (W.heap.size + 1) w4 r4 E4 (!r4.toList.isEmpty) 6 hR4
  obtain ⟨E5, hE5⟩ : ∃ q, Hid (q = (if (!r4.toList.isEmpty) = true ∧ E4 = 0 then 6 else E4)) := ⟨_, rfl⟩
  rw [← hE5.out] at c4
  go_wp2_with fail
  refine c4.mono ?_
  rintro e w5 ⟨rfl, hR5, hk5⟩
  have hZ5 := hZ4.kept hk5 (by omega)
  have hB5 := hB4.trans (hk5.below hB4.size (fun k hk => by rw [hk]; omega))
  have hO5 := hO34.kept hk5 (fun b hb e => by have := hff3' b hb; have e' : b = W.heap.size + 1 := e; omega)
  have hP5 := hP4.kept hk5 (fun b hb e => by have := hff4 b hb; have e' : b = W.heap.size + 1 := e; omega)
  clear c4 hZ4 hB4 hO34 hP4 hk5 u0 hR4
  have c5 := refuse_k (W.heap.size + 1) w5 r4 E5 (decide ((6 : Int) < (v0 : Int))) 2 hR5
  obtain ⟨E6, hE6⟩ : ∃ q, Hid (q = (if decide ((6 : Int) < (v0 : Int)) = true ∧ E5 = 0 then 2 else E5)) := ⟨_, rfl⟩
  rw [← hE6.out] at c5
  go_wp2_with fail
  refine c5.mono ?_
  rintro e w6 ⟨rfl, hR6, hk6⟩
  have hZ6 := hZ5.kept hk6 (by omega)
  have hB6 := hB5.trans (hk6.below hB5.size (fun k hk => by rw [hk]; omega))
  have hO6 := hO5.kept hk6 (fun b hb e => by have := hff3' b hb; have e' : b = W.heap.size + 1 := e; omega)
  have hP6 := hP5.kept hk6 (fun b hb e => by have := hff4 b hb; have e' : b = W.heap.size + 1 := e; omega)
  clear c5 hZ5 hB5 hO5 hP5 hk6 hR5
  have HF : Hid ((E6 = 0 ∧ out = .ok (HdrM.d ⟨(v0 : Int), (v1 : Int), ra, rs, rc, pa, pss, pc⟩)) ∨ (E6 ≠ 0 ∧ out = .error E6)) := by
    have e5 := hE5.out
    have e6 := hE6.out
    rcases runX_any H.out with ⟨h1, h2⟩ | ⟨h1, h2⟩
    · by_cases hm : r4.data.toList ≠ []
      · rw [if_pos hm] at h2
        rw [if_pos ⟨by rw [ByteArray.toList_eq]; simpa using hm, h1⟩] at e5
        rw [if_neg (fun h => by omega)] at e6
        exact Or.inr ⟨by omega, by rw [h2, e6, e5]⟩
      · rw [if_neg hm] at h2
        rw [if_neg (fun h => hm (by have := h.1; rw [ByteArray.toList_eq] at this; simpa using this))] at e5
        by_cases h6 : (6 : Int) < (v0 : Int)
        · rw [if_pos h6] at h2
          rw [if_pos ⟨decide_eq_true h6, by omega⟩] at e6
          exact Or.inr ⟨by omega, by rw [h2, e6]⟩
        · rw [if_neg h6] at h2
          rw [if_neg (fun h => h6 (of_decide_eq_true h.1))] at e6
          exact Or.inl ⟨by omega, h2⟩
    · rw [if_neg (fun h => by omega)] at e5
      rw [if_neg (fun h => by omega)] at e6
      exact Or.inr ⟨by omega, by rw [h2, e6, e5]⟩
  clear H hE5 hE6
  have u1 := hR6.cell (i := 1) rfl
  have z0 := hZ6.cell (i := 0) rfl
  have z1 := hZ6.cell (i := 1) rfl
  have z2 := hZ6.cell (i := 2) rfl
  have z3 := hZ6.cell (i := 3) rfl
  have g0 := hZ6.frozen 0
  have g1 := hZ6.frozen 1
  have g2 := hZ6.frozen 2
  have g3 := hZ6.frozen 3
  by_cases he : E6 = 0
  · subst he
    have ho : out = .ok (HdrM.d ⟨(v0 : Int), (v1 : Int), ra, rs, rc, pa, pss, pc⟩) := by
      rcases HF.out with ⟨_, h⟩ | ⟨h, _⟩
      · exact h
      · exact absurd rfl h
    have hZF := hZ6.set4 (.int .i64 (v0 : Int)) (.int .i64 (v1 : Int)) (.slice ra rs.length rc) (.slice pa pss.length pc)
    have hBF := below_set4 hB6 (Nat.le_refl _) (.int .i64 (v0 : Int)) (.int .i64 (v1 : Int)) (.slice ra rs.length rc) (.slice pa pss.length pc)
    have kF := kept_set4 w6 W.heap.size (.int .i64 (v0 : Int)) (.int .i64 (v1 : Int)) (.slice ra rs.length rc) (.slice pa pss.length pc)
    have hOF := hO6.kept kF (fun b hb e => by have := hff3' b hb; have e' : b = W.heap.size := e; omega)
    have hPF := hP6.kept kF (fun b hb e => by have := hff4 b hb; have e' : b = W.heap.size := e; omega)
    have fin : ∀ e, e = .returned (.tuple #[HdrM.v ⟨(v0 : Int), (v1 : Int), ra, rs, rc, pa, pss, pc⟩, .int .i64 0]) → GotHdr W out e _ := fun e hv => ⟨_, 0, hv, ⟨hOF, hn3, hPF, hn4⟩, Or.inl ⟨rfl, ho⟩, fun b hb => hb.elim (fun h => by have := hff3' b h; omega) (fun h => by have := hff4 b h; omega), hBF⟩
    unfold set4 at hZF fin
    clear hZ6 hB6 HF hBF kF hOF hPF hO6 hP6 ho
    go_wp2
    refine bodyPost_ret (v := .tuple #[HdrM.v ⟨(v0 : Int), (v1 : Int), ra, rs, rc, pa, pss, pc⟩, .int .i64 0]) (results_hdr_tmp rfl _ _ W.heap.size ⟨(v0 : Int), (v1 : Int), ra, rs, rc, pa, pss, pc⟩ rfl hZF _ rfl) rfl ?_
    exact fin _ rfl
  · have ho : out = .error E6 := by
      rcases HF.out with ⟨h, _⟩ | ⟨_, h⟩
      · exact absurd h he
      · exact h
    have hne : ((E6 : Int) != 0) = true := by rw [bne_iff_ne]; omega
    have fin : Arr (set4 w6 W.heap.size (.int .i64 0) (.int .i64 0) (.slice none 0 0) (.slice none 0 0)).drew W.heap.size 33 hdr0.c ∧ Below W.heap.size W (set4 w6 W.heap.size (.int .i64 0) (.int .i64 0) (.slice none 0 0) (.slice none 0 0)).drew :=
      ⟨(hZ6.set4 (.int .i64 0) (.int .i64 0) (.slice none 0 0) (.slice none 0 0)).drew, Below.drew (below_set4 hB6 (Nat.le_refl _) (.int .i64 0) (.int .i64 0) (.slice none 0 0) (.slice none 0 0))⟩
    have hfin := fun w' e hb hv => gotHdr_err (W := W) (w := w') (e := e) ho he hb hv
    unfold set4 at fin
    clear hZ6 hB6 HF hO6 hP6
    go_wp2_with fail
    go_region
    revert fin
    generalize (World.setCell _ ⟨W.heap.size, 3, none⟩ (.slice none 0 0)).drew = wf
    intro fin
    try go_wp2
    refine bodyPost_ret (v := .tuple #[hdr0.v, .int .i64 (E6 : Int)]) (results_hdr_tmp rfl _ _ W.heap.size hdr0 rfl fin.1 _ rfl) rfl ?_
    exact hfin _ _ fin.2 rfl
end Go.Proofs.YtmjkbdgcnoenbaaGreatDoor

/- What cert.Decode does; nothing old in memory is turned. -/
namespace Go.Proofs.YtmjkbdgcnoenbaaGreatDoor
open Go.RowKit
set_option linter.unusedVariables false

theorem results_cert_tmp {fn : Func} {p u : Tmp} (h : fn.results = #[.cell p 48, .tmp u]) (tmps : Array Value) (w : World) (g : Nat) (x : CertM)
    (hp : tmps.getD p undef = .pointer (some ⟨g, 0, none⟩)) (hg : Arr w g 48 x.c) (v : Value) (hv : tmps.getD u undef = v) :
    (results fn tmps).run Tryz.prog w = .ok (.tuple #[x.v, v]) w := by
  rw [results_cell_tmp h, hp, hv]
  have hl := run_loadVar_row w g 48 48 x.c.toArray (0, 0) _ hg Tryz.underlying48 rfl infoCert7
  simp [asAddr, hl, CertM.v, CertM.c, Result.andThen]

/-- Decode hands back a certificate and an error. -/
def GotCert (W : World) (r : Except Nat CertD) (e : Ending) (w : World) : Prop :=
  ∃ (x : CertM) (er : Nat), e = .returned (.tuple #[x.v, .int .i64 (er : Int)]) ∧ x.At w ∧ ((er = 0 ∧ r = .ok x.d) ∨ (er ≠ 0 ∧ r = .error er ∧ x = cert0)) ∧ (∀ b, x.foot b → W.heap.size ≤ b) ∧ Below W.heap.size W w

theorem gotCert_err {W w : World} {r : Except Nat CertD} {er : Nat} (h : r = .error er) (he : er ≠ 0) (hb : Below W.heap.size W w) (e : Ending) (hv : e = .returned (.tuple #[cert0.v, .int .i64 (er : Int)])) : GotCert W r e w :=
  ⟨cert0, er, hv, cert0_at _, Or.inr ⟨he, h, rfl⟩, fun b hb => hb.elim (fun h => h.elim (fun h => (nil_foot h).elim) (fun h => (nil_foot h).elim)) (fun h => (nil_foot h).elim), hb⟩

/-- The text and what is behind it. -/
theorem decC_step {l t : List UInt8} {k : Nat} (h : getText l = (t, k, 0)) : decC l = match decH t with
    | .error e => .error e
    | .ok x => rdG (l.drop k) fun v l => if l ≠ [] then .error 6 else .ok ⟨x, v⟩ := by
  unfold decC
  rw [rdT_ok h]
  cases decH t <;> rfl

set_option maxRecDepth 100000 in
set_option maxHeartbeats 2000000 in
theorem certDecode_any (s : ByteArray) (W : World) (hs : s.size ≤ maxLen) :
    Calls Tryz.prog 67 #[.string s] W fun e w' => GotCert W (decC s.data.toList) e w' := by
  have hZ := Arr.new W 48 [.int .i64 0, .int .i64 0, .slice none 0 0, .slice none 0 0, .slice none 0 0]
  have hB := belowNew W (.cells #[.int .i64 0, .int .i64 0, .slice none 0 0, .slice none 0 0, .slice none 0 0] 48)
  rcases hr : getText s.data.toList with ⟨t, k, er⟩
  have cG := fun w1 => getText_at s w1 t k er hs hr
  by_cases he : er ≠ 0
  · have ho : decC s.data.toList = .error er := by unfold decC; exact rdT_err hr he
    have hne : ((er : Int) != 0) = true := by rw [bne_iff_ne]; omega
    generalize decC s.data.toList = out at ho
    clear hr
    go_enter Tryz.func67, Tryz.ntmps67
    go_wp2_with fail
    refine (cG _).mono ?_
    rintro e w1 ⟨rfl, rfl⟩
    have z0 := hZ.cell (i := 0) rfl
    have z1 := hZ.cell (i := 1) rfl
    have z2 := hZ.cell (i := 2) rfl
    have z3 := hZ.cell (i := 3) rfl
    have z4 := hZ.cell (i := 4) rfl
    have g0 := hZ.frozen 0
    have g1 := hZ.frozen 1
    have g2 := hZ.frozen 2
    have g3 := hZ.frozen 3
    have g4 := hZ.frozen 4
    have fin : Arr _ W.heap.size 48 cert0.c ∧ Below W.heap.size W _ := ⟨hZ, hB⟩
    have hfin := fun w' e hb hv => gotCert_err (W := W) (w := w') (e := e) ho he hb hv
    clear hZ hB cG
    go_wp2
    refine bodyPost_ret (v := .tuple #[cert0.v, .int .i64 (er : Int)]) (results_cert_tmp rfl _ _ W.heap.size cert0 rfl fin.1 _ rfl) rfl ?_
    exact hfin _ _ fin.2 rfl
  replace he : er = 0 := by omega
  subst he
  have hl : s.data.toList.length = s.size := by simp
  have hbd := getText_bounds _ t k hr
  have hk : (k : Int) ≤ s.size := by omega
  have ht6 : (⟨t.toArray⟩ : ByteArray).size ≤ maxLen := by rw [size_mk]; unfold maxLen; omega
  have cH := fun w1 => hdrDecode_any ⟨t.toArray⟩ w1 ht6
  have hrl := rest_le s k hs
  have cT := fun w1 => getTags_any (s.extract k s.size) w1 hrl
  have hst := decC_step hr
  have hdl : (s.extract k s.size).data.toList = s.data.toList.drop k := extract_drop _ _
  rw [← hdl] at hst
  obtain ⟨rs, hrs⟩ : ∃ q, q = s.extract k s.size := ⟨_, rfl⟩
  obtain ⟨tb, htb⟩ : ∃ q, q = (⟨t.toArray⟩ : ByteArray) := ⟨_, rfl⟩
  have hrsz : rs.size = s.size - k := by rw [hrs, ByteArray.size_extract]; omega
  rw [← hrs] at cT hst
  rw [← htb] at cH cG
  have htd : tb.data.toList = t := by rw [htb]
  rw [htd] at cH
  obtain ⟨out, hout⟩ : ∃ q, q = decC s.data.toList := ⟨_, rfl⟩
  rw [← hout] at hst ⊢
  generalize decH t = dh at cH hst
  have Hst : Hid _ := hst
  have Hrs : Hid (rs = s.extract k s.size) := hrs
  clear hr hl hbd ht6 hrl hdl htb htd hout hst
  go_enter Tryz.func67, Tryz.ntmps67
  go_wp2_with fail
  refine (cG _).mono ?_
  rintro e w1 ⟨rfl, rfl⟩
  clear cG
  go_wp2_with fail
  refine (cH _).mono ?_
  rintro e w1 ⟨x, e1, rfl, hx, hres, hxf, hb1⟩
  unfold HdrM.v
  have hZ1 := hZ.below hb1 hZ.lt
  have hB1 := hB.trans (hb1.mono hB.size)
  have hbx := belowNew w1 (.cells #[.int .i64 x.author, .int .i64 x.round, .slice x.ra x.refs.length x.rc, .slice x.pa x.parents.length x.pc] 33)
  have hX2 := Arr.new w1 33 [.int .i64 x.author, .int .i64 x.round, .slice x.ra x.refs.length x.rc, .slice x.pa x.parents.length x.pc]
  have hZ2 := hZ1.below hbx hZ1.lt
  have hB2 := hB1.trans (hbx.mono hB1.size)
  have hx2 := hx.below hbx
  have hxl : ∀ b, x.foot b → W.heap.size < b := fun b hb => by have := hxf b hb; rw [alloc_size] at this; omega
  have hw1 : W.heap.size < w1.heap.size := hZ1.lt
  clear hZ hB hb1 hbx hZ1 hB1 hx hxf cH
  obtain ⟨w2, hw2⟩ : ∃ q, w1.alloc (.cells #[.int .i64 x.author, .int .i64 x.round, .slice x.ra x.refs.length x.rc, .slice x.pa x.parents.length x.pc] 33) = q := ⟨_, rfl⟩
  rw [hw2] at hX2 hZ2 hB2 hx2
  by_cases he1 : e1 ≠ 0
  · have hne : ((e1 : Int) != 0) = true := by rw [bne_iff_ne]; omega
    have ho : out = .error e1 := by
      rcases hres with ⟨h, _⟩ | ⟨_, h, _⟩
      · exact absurd h he1
      · have := Hst.out
        rw [h] at this
        exact this
    clear Hst hres
    have z0 := hZ2.cell (i := 0) rfl
    have z1 := hZ2.cell (i := 1) rfl
    have z2 := hZ2.cell (i := 2) rfl
    have z3 := hZ2.cell (i := 3) rfl
    have z4 := hZ2.cell (i := 4) rfl
    have g0 := hZ2.frozen 0
    have g1 := hZ2.frozen 1
    have g2 := hZ2.frozen 2
    have g3 := hZ2.frozen 3
    have g4 := hZ2.frozen 4
    have fin : Arr (set5 w2 W.heap.size (.int .i64 0) (.int .i64 0) (.slice none 0 0) (.slice none 0 0) (.slice none 0 0)) W.heap.size 48 cert0.c ∧ Below W.heap.size W (set5 w2 W.heap.size (.int .i64 0) (.int .i64 0) (.slice none 0 0) (.slice none 0 0) (.slice none 0 0)) := ⟨hZ2.set5 (.int .i64 0) (.int .i64 0) (.slice none 0 0) (.slice none 0 0) (.slice none 0 0), below_set5 hB2 (Nat.le_refl _) (.int .i64 0) (.int .i64 0) (.slice none 0 0) (.slice none 0 0) (.slice none 0 0)⟩
    unfold set5 at fin
    have hfin := fun w' e hb hv => gotCert_err (W := W) (w := w') (e := e) ho he1 hb hv
    clear hZ2 hB2 hX2 hx2 cT
    go_wp2
    refine bodyPost_ret (v := .tuple #[cert0.v, .int .i64 (e1 : Int)]) (results_cert_tmp rfl _ _ W.heap.size cert0 rfl fin.1 _ rfl) rfl ?_
    exact hfin _ _ fin.2 rfl
  replace he1 : e1 = 0 := by omega
  subst he1
  have hst : out = rdG rs.data.toList fun v l => if l ≠ [] then .error 6 else .ok ⟨x.d, v⟩ := by
    rcases hres with ⟨_, h⟩ | ⟨h, _⟩
    · have := Hst.out
      rw [h] at this
      exact this
    · exact absurd rfl h
  clear Hst hres
  rcases hg : getTagsL rs.data.toList with ⟨ts, k2, e2⟩
  rw [hg] at cT
  have hrl : rs.data.toList.length = rs.size := by simp
  have hb7 : Hid (e2 = 0 → ts.length ≤ 7) := fun h => by subst h; exact (getTags_back hg).2.2.2.1
  have hok : Hid (out = if e2 ≠ 0 then .error e2 else if k2 < rs.size then .error 6 else .ok ⟨x.d, ts⟩) := by
    show _ = _
    by_cases h : e2 ≠ 0
    · rw [hst, rdG_err hg h, if_pos h]
    · have h0 : e2 = 0 := by omega
      subst h0
      rw [hst, rdG_ok hg, if_neg h]
      by_cases h2 : k2 < rs.size
      · rw [if_pos h2, if_pos]
        intro h3
        have := congrArg List.length h3
        rw [List.length_drop, hrl] at this
        simp at this
        omega
      · rw [if_neg h2, if_neg]
        intro h3
        exact h3 (List.drop_of_length_le (by omega))
  clear hst hg
  have hrs := Hrs.out
  subst hrs
  go_wp2_with fail
  refine (cT _).mono ?_
  rintro e w3 ⟨ts', k2', e2', va, vc, rfl, heq, hT3, hTn, hTf, hb3⟩
  simp only [Prod.mk.injEq] at heq
  obtain ⟨rfl, rfl, rfl⟩ := heq
  have hZ3 := hZ2.below hb3 hZ2.lt
  have hX3 := hX2.below hb3 hX2.lt
  have hx3 := hx2.below hb3
  have hB3 := hB2.trans (hb3.mono hB2.size)
  have hw2z := hX2.lt
  have hTl : ∀ b, rowFoot tagK va ts b → W.heap.size < b := fun b hb => by have := hTf b hb; omega
  clear hZ2 hX2 hx2 hB2 hb3 cT hTf hw2
  by_cases he2 : e2 ≠ 0
  · have hne : ((e2 : Int) != 0) = true := by rw [bne_iff_ne]; omega
    have ho : out = .error e2 := hok.out.trans (if_pos he2)
    clear hok hb7
    have z0 := hZ3.cell (i := 0) rfl
    have z1 := hZ3.cell (i := 1) rfl
    have z2 := hZ3.cell (i := 2) rfl
    have z3 := hZ3.cell (i := 3) rfl
    have z4 := hZ3.cell (i := 4) rfl
    have g0 := hZ3.frozen 0
    have g1 := hZ3.frozen 1
    have g2 := hZ3.frozen 2
    have g3 := hZ3.frozen 3
    have g4 := hZ3.frozen 4
    have fin : Arr (set5 w3 W.heap.size (.int .i64 0) (.int .i64 0) (.slice none 0 0) (.slice none 0 0) (.slice none 0 0)) W.heap.size 48 cert0.c ∧ Below W.heap.size W (set5 w3 W.heap.size (.int .i64 0) (.int .i64 0) (.slice none 0 0) (.slice none 0 0) (.slice none 0 0)) := ⟨hZ3.set5 (.int .i64 0) (.int .i64 0) (.slice none 0 0) (.slice none 0 0) (.slice none 0 0), below_set5 hB3 (Nat.le_refl _) (.int .i64 0) (.int .i64 0) (.slice none 0 0) (.slice none 0 0) (.slice none 0 0)⟩
    unfold set5 at fin
    have hfin := fun w' e hb hv => gotCert_err (W := W) (w := w') (e := e) ho he2 hb hv
    clear hZ3 hB3 hX3 hx3 hT3
    go_wp2
    refine bodyPost_ret (v := .tuple #[cert0.v, .int .i64 (e2 : Int)]) (results_cert_tmp rfl _ _ W.heap.size cert0 rfl fin.1 _ rfl) rfl ?_
    exact hfin _ _ fin.2 rfl
  have hok2 := hok.out.trans (if_neg he2)
  have he20 : e2 = 0 := by omega
  subst he20
  clear hok
  by_cases hm : k2 < (s.extract k s.size).size
  · have hm' : (k2 : Int) < ((s.extract k s.size).size : Int) := by omega
    have ho : out = .error 6 := hok2.trans (if_pos hm)
    clear hok2 hb7
    have z0 := hZ3.cell (i := 0) rfl
    have z1 := hZ3.cell (i := 1) rfl
    have z2 := hZ3.cell (i := 2) rfl
    have z3 := hZ3.cell (i := 3) rfl
    have z4 := hZ3.cell (i := 4) rfl
    have g0 := hZ3.frozen 0
    have g1 := hZ3.frozen 1
    have g2 := hZ3.frozen 2
    have g3 := hZ3.frozen 3
    have g4 := hZ3.frozen 4
    have fin : Arr (set5 w3 W.heap.size (.int .i64 0) (.int .i64 0) (.slice none 0 0) (.slice none 0 0) (.slice none 0 0)) W.heap.size 48 cert0.c ∧ Below W.heap.size W (set5 w3 W.heap.size (.int .i64 0) (.int .i64 0) (.slice none 0 0) (.slice none 0 0) (.slice none 0 0)) := ⟨hZ3.set5 (.int .i64 0) (.int .i64 0) (.slice none 0 0) (.slice none 0 0) (.slice none 0 0), below_set5 hB3 (Nat.le_refl _) (.int .i64 0) (.int .i64 0) (.slice none 0 0) (.slice none 0 0) (.slice none 0 0)⟩
    unfold set5 at fin
    have hfin := fun w' e hb hv => gotCert_err (W := W) (w := w') (e := e) ho (by decide) hb hv
    clear hZ3 hB3 hX3 hx3 hT3
    go_wp2
    refine bodyPost_ret (v := .tuple #[cert0.v, .int .i64 (6 : Int)]) (results_cert_tmp rfl _ _ W.heap.size cert0 rfl fin.1 _ rfl) rfl ?_
    exact hfin _ _ fin.2 rfl
  have hm' : ¬ (k2 : Int) < ((s.extract k s.size).size : Int) := by omega
  have ho : out = .ok (CertM.d ⟨x, va, ts, vc⟩) := hok2.trans (if_neg hm)
  clear hok2 hb7
  have z0 := hZ3.cell (i := 0) rfl
  have z1 := hZ3.cell (i := 1) rfl
  have z2 := hZ3.cell (i := 2) rfl
  have z3 := hZ3.cell (i := 3) rfl
  have z4 := hZ3.cell (i := 4) rfl
  have g0 := hZ3.frozen 0
  have g1 := hZ3.frozen 1
  have g2 := hZ3.frozen 2
  have g3 := hZ3.frozen 3
  have g4 := hZ3.frozen 4
  have x0 := hX3.cell (i := 0) rfl
  have x1 := hX3.cell (i := 1) rfl
  have x2 := hX3.cell (i := 2) rfl
  have x3 := hX3.cell (i := 3) rfl
  have hZF := hZ3.set5 (.int .i64 x.author) (.int .i64 x.round) (.slice x.ra x.refs.length x.rc) (.slice x.pa x.parents.length x.pc) (.slice va ts.length vc)
  have hBF := below_set5 hB3 (Nat.le_refl _) (.int .i64 x.author) (.int .i64 x.round) (.slice x.ra x.refs.length x.rc) (.slice x.pa x.parents.length x.pc) (.slice va ts.length vc)
  have kF := kept_set5 w3 W.heap.size (.int .i64 x.author) (.int .i64 x.round) (.slice x.ra x.refs.length x.rc) (.slice x.pa x.parents.length x.pc) (.slice va ts.length vc)
  have hxF := Kind.kept hdrK hx3 kF (fun b hb e => by have := hxl b hb; have e' : b = W.heap.size := e; omega)
  have hTF := hT3.kept kF (fun b hb e => by have := hTl b hb; have e' : b = W.heap.size := e; omega)
  have fin : ∀ e, e = .returned (.tuple #[CertM.v ⟨x, va, ts, vc⟩, .int .i64 0]) → GotCert W out e _ := fun e hv => ⟨_, 0, hv, ⟨hxF, hTF, hTn⟩, Or.inl ⟨rfl, ho⟩, fun b hb => hb.elim (fun h => by have := hxl b h; omega) (fun h => by have := hTl b h; omega), hBF⟩
  unfold set5 at hZF fin
  clear hZ3 hX3 hx3 hT3 hB3 hBF kF hxF hTF ho
  go_wp2
  refine bodyPost_ret (v := .tuple #[CertM.v ⟨x, va, ts, vc⟩, .int .i64 0]) (results_cert_tmp rfl _ _ W.heap.size ⟨x, va, ts, vc⟩ rfl hZF _ rfl) rfl ?_
  exact fin _ rfl
end Go.Proofs.YtmjkbdgcnoenbaaGreatDoor

/- What cert.Encode does; nothing old in memory is turned. -/
namespace Go.Proofs.YtmjkbdgcnoenbaaGreatDoor
open Go.RowKit Go.Sort
set_option linter.unusedVariables false

theorem encC_join (x : CertM) : (⟨(txt (encH x.hdr.d)).toArray⟩ ++ ⟨(tagsB x.votes).toArray⟩ : ByteArray) = ⟨(encC x.d).toArray⟩ := by
  have := append_list (txt (encH x.hdr.d)) ⟨(tagsB x.votes).toArray⟩
  exact this

/-- What Encode asks of a certificate. -/
structure CertM.Fit (x : CertM) : Prop where
  hdr : x.hdr.Fit
  few : x.votes.length ≤ 1000000000
  mac : ∀ t ∈ x.votes, t.mac.size ≤ 140737488351232
  len : (tagsB x.votes).length ≤ 140737488355328

set_option maxRecDepth 100000 in
set_option maxHeartbeats 2000000 in
theorem certEncode_any (x : CertM) (w : World) (hA : x.At w) (hf : x.Fit) :
    Calls Tryz.prog 60 #[x.v] w fun e w' => e = .returned (.string ⟨(encC x.d).toArray⟩) ∧ Below w.heap.size w w' := by
  have hX := Arr.new w 48 x.c
  have hB := belowNew w (.cells x.c.toArray 48)
  have hA1 := hA.below hB
  obtain ⟨w1, hw1⟩ : ∃ q, w.alloc (.cells x.c.toArray 48) = q := ⟨_, rfl⟩
  rw [hw1] at hX hB hA1
  have bl := fun d os => below_regrown w1 d os
  have hjo := encC_join x
  have hel := hf.hdr.len
  have hvl := hf.len
  obtain ⟨eb, heb⟩ : ∃ q, q = (⟨(encH x.hdr.d).toArray⟩ : ByteArray) := ⟨_, rfl⟩
  obtain ⟨tb, htb⟩ : ∃ q, q = (⟨(txt (encH x.hdr.d)).toArray⟩ : ByteArray) := ⟨_, rfl⟩
  obtain ⟨vb, hvb⟩ : ∃ q, q = (⟨(tagsB x.votes).toArray⟩ : ByteArray) := ⟨_, rfl⟩
  obtain ⟨out, hout⟩ : ∃ q, q = (⟨(encC x.d).toArray⟩ : ByteArray) := ⟨_, rfl⟩
  have hes : eb.size ≤ 140737488355328 := by rw [heb, size_mk]; exact hel
  have htl := txt_len_le (encH x.hdr.d)
  have hts : tb.size ≤ 140737488355337 := by rw [htb, size_mk]; omega
  have hvs : vb.size ≤ 140737488355328 := by rw [hvb, size_mk]; exact hvl
  have hsum : ¬ (9223372036854775807 < tb.size + vb.size) := by omega
  have k1 : ∀ d os, Calls Tryz.prog 80 #[x.hdr.v] (grow (redrawn w1 d) os) fun e w'' => e = .returned (.string eb) ∧ ∃ p : Regrown, w'' = grow (redrawn w1 p.d) p.os := fun d os => Calls.regrown_of (by
    rw [heb]
    exact hdrEncode_any x.hdr _ (hA1.below (bl d os)).hdr hf.hdr)
  have k2 : ∀ d os, Calls Tryz.prog 83 #[.string eb] (grow (redrawn w1 d) os) fun e w'' => e = .returned (.string tb) ∧ ∃ p : Regrown, w'' = grow (redrawn w1 p.d) p.os := fun d os => Calls.regrown_of (by
    have := text_any eb (grow (redrawn w1 d) os) (by omega)
    have hed : eb.data.toList = encH x.hdr.d := by rw [heb]
    rw [hed, ← htb] at this
    exact this)
  have k3 : ∀ d os, Calls Tryz.prog 89 #[.slice x.va x.votes.length x.vc] (grow (redrawn w1 d) os) fun e w'' => e = .returned (.string vb) ∧ ∃ p : Regrown, w'' = grow (redrawn w1 p.d) p.os := fun d os => Calls.regrown_of (by
    rw [hvb]
    exact tags_any x.va x.vc x.votes _ (hA1.below (bl d os)).votes hf.few hf.mac hf.len)
  rw [← hout, ← htb, ← hvb] at hjo
  rw [← hout]
  have Hjo : Hid (tb ++ vb = out) := hjo
  have hX0 : Arr w1 w.heap.size 48 [.int .i64 x.hdr.author, .int .i64 x.hdr.round, .slice x.hdr.ra x.hdr.refs.length x.hdr.rc, .slice x.hdr.pa x.hdr.parents.length x.hdr.pc, .slice x.va x.votes.length x.vc] := hX
  have A0 := cell_regrown (hX0.cell (i := 0) rfl)
  have A1 := cell_regrown (hX0.cell (i := 1) rfl)
  have A2 := cell_regrown (hX0.cell (i := 2) rfl)
  have A3 := cell_regrown (hX0.cell (i := 3) rfl)
  have A4 := cell_regrown (hX0.cell (i := 4) rfl)
  have HBF : Hid (∀ d os, Below w.heap.size w (grow (redrawn w1 d) os)) := fun d os => hB.trans ((bl d os).mono hB.size)
  unfold CertM.c at hw1
  unfold HdrM.v at k1
  unfold CertM.v
  clear heb htb hvb hout hjo hel hvl htl hf hA hA1 hX hX0 hB bl hes hts hvs
  go_enter Tryz.func60, Tryz.ntmps60
  go_wp2_with fail
  refine wp_region_quiet_below (by kernel_rfl) (by kernel_rfl) ?_
  iterate 2 (go_big_quiet_step (fail))
  go_big_quiet_step (exact k1 _ _)
  go_big_quiet_step (exact k2 _ _)
  iterate 2 (go_big_quiet_step (fail))
  go_big_quiet_step (exact k3 _ _)
  iterate 2 (go_big_quiet_step (fail))
  refine wpQuiet_nil ?_
  rintro w' ⟨p, rfl⟩
  have hBF := HBF.out p.d p.os
  generalize grow (redrawn w1 p.d) p.os = w6 at hBF ⊢
  clear k1 k2 k3 A0 A1 A2 A3 A4 HBF
  go_wp2
  go_ret
  exact ⟨by rw [← Hjo.out]; rfl, hBF⟩
end Go.Proofs.YtmjkbdgcnoenbaaGreatDoor

/- The sizes of the bytes of headers that acts make, with a Ref. -/
namespace Go.Proofs.YtmjkbdgcnoenbaaGreatDoor
open Go Go.RowKit
set_option linter.unusedVariables false

theorem tagB_lenQ {t : TagD} (h : t.mac.size ≤ 16) : (tagB t).length ≤ 25 := by
  unfold tagB
  have := goInt_len9 t.who
  have e : t.mac.data.toList.length = t.mac.size := rfl
  rw [List.length_append]
  omega

theorem tagsB_lenP : ∀ (l : List TagD), (∀ t ∈ l, t.mac.size ≤ 16) → ((l.map tagB).flatMap txt).length ≤ 34 * l.length
  | [], _ => by simp
  | t :: l, h => by
    have ih := tagsB_lenP l (fun q hq => h q (List.mem_cons_of_mem _ hq))
    have h1 := tagB_lenQ (h t List.mem_cons_self)
    have h2 := txt_len_le (tagB t)
    simp only [List.map_cons, List.flatMap_cons, List.length_append, List.length_cons]
    omega

theorem tagsP_mac {ks : List ByteArray} {kind word : ByteArray} {who : List Bool} {n : Nat} : ∀ t ∈ tagsP ks kind word who n, t.mac.size = 16 := by
  intro t ht
  obtain ⟨i, _, rfl⟩ := List.mem_map.1 ht
  exact Mx.macOf_size _ _ _

theorem encH_one (a r : Int) (d : ByteArray) (l : List TagD) (ps : List ByteArray) (h : ∀ p ∈ ps, p.size ≤ 1000) (hl : ps.length ≤ 1000) (hd : d.size ≤ 1000) (ht : ∀ t ∈ l, t.mac.size ≤ 16) (hn : l.length ≤ 7) : (encH ⟨a, r, [⟨d, l⟩], ps⟩).length ≤ 2000000 := by
  have h1 := strs_len 1000 ps h
  have h2 := goInt_len9 a
  have h3 := goInt_len9 r
  have h4 := goInt_len9 (([⟨d, l⟩] : List RefD).length : Int)
  have h5 : (1000 + 9) * ps.length ≤ 1009 * 1000 := Nat.mul_le_mul_left _ hl
  have h6 := tagsB_lenP l ht
  have h7 := txt_len_le d.data.toList
  have h8 := goInt_len9 ((l.map tagB).length : Int)
  have e : d.data.toList.length = d.size := rfl
  unfold encH
  simp only [List.length_append, List.flatMap_cons, List.flatMap_nil, List.length_nil, List.length_cons, refB, tagsB, lst] at h1 h4 ⊢
  omega

/-- A header that acts make can be written. -/
theorem hdrP_small {ks : List ByteArray} {need : Nat} {ids : List (List ByteArray)} {a r : Nat} {odd : Int} {ref : Bool} (hk : ks.length ≤ 7) (h1 : ∀ l ∈ ids, l.length ≤ 1000) (h2 : ∀ l ∈ ids, ∀ p ∈ l, p.size ≤ 1000) {x : HdrM} (hx : x.d = hdrP ks need ids a r odd ref) : x.Fit ∧ (encH x.d).length ≤ 2000000 := by
  have g1 : (parP need ids r odd).length ≤ 1000 := parP_len h1
  have g2 : ∀ p ∈ parP need ids r odd, p.size ≤ 1000 := fun p hp => by
    obtain ⟨l, hl, hp⟩ := parP_mem hp
    exact h2 l hl p hp
  have hp : x.parents = parP need ids r odd := by
    have : x.d.parents = _ := congrArg HdrD.parents hx
    rw [show x.parents = x.d.parents from rfl, this]
    unfold hdrP
    split <;> rfl
  have hlen : (encH x.d).length ≤ 2000000 := by
    rw [hx]
    unfold hdrP
    split
    · exact encH_one _ _ _ _ _ g2 g1 (by rw [idB_size]; decide) (fun t ht => Nat.le_of_eq (tagsP_mac t ht)) (Nat.le_trans (tagsP_length _ _ _ _ _) hk)
    · exact encH_bare _ _ _ g2 g1
  have hr : rd x.refs = (hdrP ks need ids a r odd ref).refs := congrArg HdrD.refs hx
  have hrr : (hdrP ks need ids a r odd ref).refs = [] ∨ ∃ y : RefD, (hdrP ks need ids a r odd ref).refs = [y] ∧ y.acks.length ≤ 7 ∧ ∀ t ∈ y.acks, t.mac.size = 16 := by
    unfold hdrP
    split
    · exact Or.inr ⟨_, rfl, Nat.le_trans (tagsP_length _ _ _ _ _) hk, tagsP_mac⟩
    · exact Or.inl rfl
  have hlr : x.refs.length = (rd x.refs).length := (rd_length _).symm
  refine ⟨⟨?_, by rw [hp]; omega, fun y hy => ?_, fun y hy t ht => ?_, by omega⟩, hlen⟩
  · rw [hlr, hr]
    rcases hrr with e | ⟨y, e, _, _⟩ <;> rw [e] <;> simp
  · have hm : y.d ∈ rd x.refs := List.mem_map_of_mem hy
    rw [hr] at hm
    rcases hrr with e | ⟨z, e, e2, _⟩
    · rw [e] at hm; cases hm
    · rw [e, List.mem_singleton] at hm
      have : y.acks = z.acks := congrArg RefD.acks hm
      rw [this]
      omega
  · have hm : y.d ∈ rd x.refs := List.mem_map_of_mem hy
    rw [hr] at hm
    rcases hrr with e | ⟨z, e, _, e2⟩
    · rw [e] at hm; cases hm
    · rw [e, List.mem_singleton] at hm
      have : y.acks = z.acks := congrArg RefD.acks hm
      rw [this] at ht
      rw [e2 t ht]
      decide
end Go.Proofs.YtmjkbdgcnoenbaaGreatDoor

/- A right certificate can be written and read again. -/
namespace Go.Proofs.YtmjkbdgcnoenbaaGreatDoor
open Go Go.RowKit
set_option linter.unusedVariables false

theorem flat_refs_dag : ∀ (l : List RefD), (∀ r ∈ l, r.Fit ∧ r.digest.size = 32) → (l.flatMap refB).length ≤ 290 * l.length
  | [], _ => by simp
  | r :: l, h => by
    have ih := flat_refs_dag l (fun x hx => h x (by simp [hx]))
    have hr := h r (by simp)
    have h1 : (refB r).length ≤ 290 := by
      have h1 := txt_len_le r.digest.data.toList
      have h2 := tagsB_lenP r.acks (fun t ht => by have := (hr.1.all t ht).mac; omega)
      have h3 := goInt_length ((r.acks.map tagB).length : Int)
      have h4 := hr.1.few
      have h5 := hr.2
      have h6 : r.digest.data.toList.length = r.digest.size := rfl
      rw [refB, List.length_append, tagsB, lst, List.length_append]
      omega
    simp only [List.flatMap_cons, List.length_append, List.length_cons] at ih ⊢
    omega

theorem enL_zero {ks : List ByteArray} {f : Nat} {kind : ByteArray} {l : List TagD} {d : ByteArray} (hk : ks.length = 3 * f + 1) (hf : f ≤ 2) (h : Mx.enoughL ks f kind d (pairT l) = 0) : l.length ≤ 7 ∧ ∀ t ∈ l, t.Fit := by
  unfold Mx.enoughL at h
  by_cases h0 : Mx.enoughGo ks kind d (-1) (pairT l) = 0
  · obtain ⟨i1, i2⟩ := go_zero (pairT l) (-1) (by omega) h0
    refine ⟨?_, fun t ht => ?_⟩
    · rcases i1 with e | i1
      · have := congrArg List.length e
        rw [pairT_length] at this
        simp at this
        rw [this]
        simp
      · rw [pairT_length] at i1
        omega
    · have := i2 (t.who, t.mac) (List.mem_map.2 ⟨t, ht, rfl⟩)
      exact ⟨this.1, by have := this.2.1; simp only at this; omega, this.2.2⟩
  · rw [if_neg h0] at h
    exact absurd h h0

theorem hdr_right {ks : List ByteArray} {f : Nat} {h : HdrD} (hk : ks.length = 3 * f + 1) (hf : f ≤ 2) (hc : chkH (3 * f + 1) (2 * f + 1) (enT ks f) h = 0) : h.Fit ∧ (encH h).length ≤ 2000 := by
  refine ⟨right_fit hk hf hc, ?_⟩
  obtain ⟨_, h2, h3, h4, h5⟩ := chkH_parts hc
  have hr : ∀ r ∈ h.refs, r.Fit ∧ r.digest.size = 32 := fun r hr => by
    obtain ⟨a, b⟩ := refP_zero h.refs _ h3 r hr
    obtain ⟨_, c, d, _⟩ := enT_zero hk hf b
    exact ⟨⟨by omega, c, d⟩, a⟩
  have a1 := flat_refs_dag h.refs hr
  have a2 := txts_len 32 h.parents (fun p hp => by have := risP_zero h.parents _ h4 p hp; omega)
  have g0 := goInt_length h.author
  have g1 := goInt_length h.round
  have g2 := goInt_length (h.refs.length : Int)
  have g3 := goInt_length ((bl h.parents).length : Int)
  unfold encH lst
  simp only [List.length_append]
  omega

theorem cert_right {ks : List ByteArray} {f : Nat} {c : CertD} (hk : ks.length = 3 * f + 1) (hf : f ≤ 2) (h : chkC ks f c = 0) : (c.header.Fit ∧ (encH c.header).length ≤ 2000) ∧ c.votes.length ≤ 7 ∧ ∀ t ∈ c.votes, t.Fit :=
  ⟨hdr_right hk hf (chkC_hdr h).1, enL_zero hk hf (chkC_hdr h).2⟩

theorem cert_small {c : CertD} (h1 : (encH c.header).length ≤ 2000) (h2 : c.votes.length ≤ 7) (h3 : ∀ t ∈ c.votes, t.Fit) : (encC c).length ≤ 4000 := by
  have h4 := tagsB_lenP c.votes (fun t ht => by have := (h3 t ht).mac; omega)
  have h5 := txt_len_le (encH c.header)
  have h6 := goInt_length ((c.votes.map tagB).length : Int)
  unfold encC tagsB lst
  simp only [List.length_append]
  omega

/-- What is right is read as it was written. -/
theorem cert_back {ks : List ByteArray} {f : Nat} {c : CertD} (hk : ks.length = 3 * f + 1) (hf : f ≤ 2) (h : chkC ks f c = 0) : decC (encC c) = .ok c ∧ (encC c).length ≤ 4000 := by
  obtain ⟨⟨h1, h2⟩, h3, h4⟩ := cert_right hk hf h
  have := decC_enc (c := c) h1 (by omega) h3 h4 []
  rw [List.append_nil, if_pos rfl] at this
  exact ⟨this, cert_small h2 h3 h4⟩

/-- A right certificate can be written. -/
theorem cert_fit {ks : List ByteArray} {f : Nat} {x : CertM} (hk : ks.length = 3 * f + 1) (hf : f ≤ 2) (h : chkC ks f x.d = 0) (hF : x.hdr.Fit) : x.Fit := by
  obtain ⟨_, h3, h4⟩ := cert_right hk hf h
  have e : x.d.votes = x.votes := rfl
  rw [e] at h3 h4
  refine ⟨hF, by omega, fun t ht => by have := (h4 t ht).mac; omega, ?_⟩
  have h5 := tagsB_lenP x.votes (fun t ht => by have := (h4 t ht).mac; omega)
  have h6 := goInt_length ((x.votes.map tagB).length : Int)
  unfold tagsB lst
  simp only [List.length_append]
  omega

theorem flat_mem {l : List ByteArray} {p : ByteArray} (h : p ∈ l) : p.size ≤ ((bl l).flatMap txt).length := by
  induction l with
  | nil => cases h
  | cons q l ih =>
    have e : (bl (q :: l)).flatMap txt = txt q.data.toList ++ (bl l).flatMap txt := by simp [bl]
    rw [e, List.length_append]
    rcases List.mem_cons.1 h with rfl | h
    · have : p.data.toList.length ≤ (txt p.data.toList).length := by unfold txt; rw [List.length_append]; omega
      have e2 : p.data.toList.length = p.size := rfl
      omega
    · have := ih h
      omega

/-- No parent is longer than the whole. -/
theorem parent_size {h : HdrD} {p : ByteArray} (hp : p ∈ h.parents) : p.size ≤ (encH h).length := by
  have := flat_mem hp
  unfold encH lst
  simp only [List.length_append]
  omega
end Go.Proofs.YtmjkbdgcnoenbaaGreatDoor

/- A certificate as a result beside another one. -/
namespace Go.Proofs.YtmjkbdgcnoenbaaGreatDoor
open Go Go.RowKit
set_option linter.unusedVariables false

theorem results_cert_tmp14 {fn : Func} {p u : Tmp} (h : fn.results = #[.cell p 48, .tmp u]) (tmps : Array Value) (w : World) (g : Nat) (x : CertM)
    (hp : tmps.getD p undef = .pointer (some ⟨g, 0, none⟩)) (hg : Arr w g 48 x.c) (v : Value) (hv : tmps.getD u undef = v) :
    (results fn tmps).run Tryz.prog w = .ok (.tuple #[x.v, v]) w := by
  rw [results_cell_tmp h, hp, hv]
  have hl := run_loadVar_row w g 48 48 x.c.toArray (0, 0) _ hg Tryz.underlying48 rfl infoCert7
  simp [asAddr, hl, CertM.v, CertM.c, Result.andThen]

theorem results_tag_tmp14 {fn : Func} {p u : Tmp} (h : fn.results = #[.cell p 42, .tmp u]) (tmps : Array Value) (w : World) (g : Nat) (a : Int) (m : ByteArray)
    (hp : tmps.getD p undef = .pointer (some ⟨g, 0, none⟩)) (hg : Arr w g 42 [.int .i64 a, .string m]) (v : Value) (hv : tmps.getD u undef = v) :
    (results fn tmps).run Tryz.prog w = .ok (.tuple #[.agg #[.int .i64 a, .string m], v]) w := by
  rw [results_cell_tmp h, hp, hv]
  have hl := run_loadVar_row w g 42 42 #[.int .i64 a, .string m] (0, 0) _ hg Tryz.underlying42 rfl (by kernel_rfl)
  simp [asAddr, hl, Result.andThen]
end Go.Proofs.YtmjkbdgcnoenbaaGreatDoor
