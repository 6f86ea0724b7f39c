/- What the reference's reader does: it goes on behind an error, and reads nothing more. -/
import Derived.Test.YtdnkakmdhdceaaaTxReader
import Derived.Test.YtdnkakmdhdceaaaRefList
namespace Go.Proofs.Ytdnkakmdhdceaaa
open Go.RowKit
set_option linter.unusedVariables false

theorem giGo_zero : ∀ (l : List UInt8) (acc i : Nat), (giGo l acc i).2.2 ≠ 0 → (giGo l acc i).1 = 0 ∧ (giGo l acc i).2.1 = 0
  | [], _, _ => by simp [giGo]
  | c :: r, acc, i => by
    rw [giGo]
    split
    · split
      · intro _; exact ⟨rfl, rfl⟩
      · exact giGo_zero r _ _
    · split
      · intro _; exact ⟨rfl, rfl⟩
      · split
        · intro _; exact ⟨rfl, rfl⟩
        · intro h; exact absurd rfl h

theorem getInt_zero {l : List UInt8} {n k er : Nat} (h : getInt l = (n, k, er)) (he : er ≠ 0) : n = 0 ∧ k = 0 := by
  have := giGo_zero l 0 0
  unfold getInt at h
  rw [h] at this
  exact this he

theorem getText_zero {l t : List UInt8} {k er : Nat} (h : getText l = (t, k, er)) (he : er ≠ 0) : t = [] ∧ k = 0 := by
  unfold getText at h
  split at h
  · simp only [Prod.mk.injEq] at h
    exact ⟨h.1.symm, h.2.1.symm⟩
  · split at h
    · simp only [Prod.mk.injEq] at h
      exact ⟨h.1.symm, h.2.1.symm⟩
    · split at h
      · simp only [Prod.mk.injEq] at h
        exact ⟨h.1.symm, h.2.1.symm⟩
      · simp only [Prod.mk.injEq] at h
        exact absurd h.2.2.symm he

theorem glGo_zero (l : List UInt8) : ∀ (m at_ : Nat) (acc : List (List UInt8)), (glGo l m at_ acc).2.2 ≠ 0 → (glGo l m at_ acc).1 = [] ∧ (glGo l m at_ acc).2.1 = 0
  | 0, at_, acc => by rw [glGo]; intro h; exact absurd rfl h
  | m + 1, at_, acc => by
    rw [glGo]
    split
    · intro _; exact ⟨rfl, rfl⟩
    · exact glGo_zero l m _ _

theorem getList_zero {l : List UInt8} {most : Int} {t : List (List UInt8)} {k er : Nat} (h : getList l most = (t, k, er)) (he : er ≠ 0) : t = [] ∧ k = 0 := by
  unfold getList at h
  split at h
  · simp only [Prod.mk.injEq] at h
    exact ⟨h.1.symm, h.2.1.symm⟩
  · split at h
    · simp only [Prod.mk.injEq] at h
      exact ⟨h.1.symm, h.2.1.symm⟩
    · have := glGo_zero l (getInt l).1 (getInt l).2.1 []
      rw [h] at this
      exact this he

theorem rest_le (r : ByteArray) (k : Nat) (h : r.size ≤ maxLen) : (r.extract k r.size).size ≤ maxLen := by
  rw [ByteArray.size_extract]
  omega

/-- Behind an error nothing more is read. -/
def runE (E : Nat) (r : TxD × Nat) : TxD × Nat := if E ≠ 0 then (.none, E) else r

set_option maxRecDepth 100000 in
set_option maxHeartbeats 400000 in
theorem inInt_any {W : World} {base rb zb tb top : Nat} {R : List (Option Addr × List ByteArray)} {w : World} {rest : ByteArray} {E : Nat} {cs : List Value} (st : RdSt W base rb zb tb top 66 R w [.string rest, .int .i64 (E : Int)] cs) (hs : rest.size ≤ maxLen) :
    Calls Try.prog 26 #[.pointer (some ⟨rb, 0, none⟩)] w fun e w' => ∃ (n E' : Nat) (rest' : ByteArray), e = .returned (.int .i64 (n : Int)) ∧ n ≤ 4611686018427387903 ∧ rest'.size ≤ maxLen ∧
      (∀ f, runE E (bindI rest.data.toList f) = runE E' (f n rest'.data.toList)) ∧ RdSt W base rb zb tb top 66 R w' [.string rest', .int .i64 (E' : Int)] cs := by
  have c0 := st.rd.cell (i := 0) rfl
  have c1 := st.rd.cell (i := 1) rfl
  have f0 := st.rd.frozen 0
  have f1 := st.rd.frozen 1
  by_cases hE : E = 0
  · subst hE
    rcases hr : getInt rest.data.toList with ⟨n, k, er⟩
    have fin := (st.setR 1 (.int .i64 (er : Int))).setR 0 (.string (rest.extract k rest.size))
    have hl : rest.data.toList.length = rest.size := by simp
    have hkn : k ≤ rest.size ∧ n ≤ 4611686018427387903 := by
      by_cases he : er = 0
      · subst he
        have hb := getInt_bounds _ n k hr
        omega
      · have := getInt_zero hr he
        omega
    have hk : (k : Int) ≤ rest.size := by omega
    have hstep : Hid (∀ f, runE 0 (bindI rest.data.toList f) = runE er (f n (rest.extract k rest.size).data.toList)) := by
      intro f
      by_cases he : er = 0
      · subst he
        rw [bindI_ok hr, extract_drop]
      · rw [bindI_err hr he]
        unfold runE
        rw [if_pos he, if_neg (by simp)]
    have cG := fun w1 => refGetInt_at rest w1 n k er hs hr
    have hsz := rest_le rest k hs
    clear st hr hl hs
    go_enter Try.func26, Try.ntmps26
    go_wp2_with fail
    refine (cG _).mono ?_
    rintro e w1 ⟨rfl, rfl⟩
    go_wp2
    go_ret
    exact ⟨n, er, rest.extract k rest.size, rfl, hkn.2, hsz, hstep.out, fin⟩
  · have hE' : ((E : Int) != 0) = true := by rw [bne_iff_ne]; omega
    go_enter Try.func26, Try.ntmps26
    go_wp2
    go_ret
    exact ⟨0, E, rest, rfl, by omega, hs, fun f => by unfold runE; rw [if_pos hE, if_pos hE], st⟩

set_option maxRecDepth 100000 in
set_option maxHeartbeats 400000 in
theorem inText_any {W : World} {base rb zb tb top : Nat} {R : List (Option Addr × List ByteArray)} {w : World} {rest : ByteArray} {E : Nat} {cs : List Value} (st : RdSt W base rb zb tb top 66 R w [.string rest, .int .i64 (E : Int)] cs) (hs : rest.size ≤ maxLen) :
    Calls Try.prog 42 #[.pointer (some ⟨rb, 0, none⟩)] w fun e w' => ∃ (t : List UInt8) (E' : Nat) (rest' : ByteArray), e = .returned (.string ⟨t.toArray⟩) ∧ t.length ≤ 65536 ∧ rest'.size ≤ maxLen ∧
      (∀ f, runE E (bindT rest.data.toList f) = runE E' (f t rest'.data.toList)) ∧ RdSt W base rb zb tb top 66 R w' [.string rest', .int .i64 (E' : Int)] cs := by
  have c0 := st.rd.cell (i := 0) rfl
  have c1 := st.rd.cell (i := 1) rfl
  have f0 := st.rd.frozen 0
  have f1 := st.rd.frozen 1
  by_cases hE : E = 0
  · subst hE
    rcases hr : getText rest.data.toList with ⟨t, k, er⟩
    have fin := (st.setR 1 (.int .i64 (er : Int))).setR 0 (.string (rest.extract k rest.size))
    have hl : rest.data.toList.length = rest.size := by simp
    have hkn : k ≤ rest.size ∧ t.length ≤ 65536 := by
      by_cases he : er = 0
      · subst he
        have hb := getText_bounds _ t k hr
        omega
      · have := getText_zero hr he
        rw [this.1, this.2]
        simp
    have hk : (k : Int) ≤ rest.size := by omega
    have hstep : Hid (∀ f, runE 0 (bindT rest.data.toList f) = runE er (f t (rest.extract k rest.size).data.toList)) := by
      intro f
      by_cases he : er = 0
      · subst he
        rw [bindT_ok hr, extract_drop]
      · rw [bindT_err hr he]
        unfold runE
        rw [if_pos he, if_neg (by simp)]
    have cG := fun w1 => refGetText_at rest w1 t k er hs hr
    have hsz := rest_le rest k hs
    clear st hr hl hs
    obtain ⟨tt, htt⟩ : ∃ q, q = (⟨t.toArray⟩ : ByteArray) := ⟨_, rfl⟩
    simp only [← htt] at cG
    have Htt : Hid (tt = (⟨t.toArray⟩ : ByteArray)) := htt
    clear htt
    go_enter Try.func42, Try.ntmps42
    go_wp2_with fail
    refine (cG _).mono ?_
    rintro e w1 ⟨rfl, rfl⟩
    go_wp2
    go_ret
    exact ⟨t, er, rest.extract k rest.size, by rw [← Htt.out]; rfl, hkn.2, hsz, hstep.out, fin⟩
  · have hE' : ((E : Int) != 0) = true := by rw [bne_iff_ne]; omega
    go_enter Try.func42, Try.ntmps42
    go_wp2
    go_ret
    exact ⟨[], E, rest, rfl, by simp, hs, fun f => by unfold runE; rw [if_pos hE, if_pos hE], st⟩

theorem refGetList8 (s : ByteArray) (w : World) (hs : s.size ≤ maxLen) (ts : List (List UInt8)) (k er : Nat) (hr : getList s.data.toList 8 = (ts, k, er)) :
    Calls Try.prog 41 #[.string s, .int .i64 8] w fun e w' => ∃ ao cap, e = .returned (.tuple #[.slice ao (mks ts).length cap, .int .i64 (k : Int), .int .i64 (er : Int)]) ∧ OwnStrs w.heap.size w' ao (mks ts) ∧ (ao = none → cap = 0) ∧ Below w.heap.size w w' := by
  refine (refGetList_any s 8 w 8 hs (Or.inr (by omega)) (by omega)).mono ?_
  rintro e w' ⟨v, rfl, hg, hb⟩
  rw [hr] at hg
  obtain ⟨ao, cap, rfl, hown⟩ := hg
  have hml : (mks ts).length = ts.length := by simp [mks]
  refine ⟨ao, cap, by rw [hml], ?_, ?_, hb⟩
  · refine own_far (cap := cap) (n := ts.length) ?_ hml.symm
    rw [bl_mks]
    exact hown
  · intro he
    rcases hown.2 with ⟨hv, _⟩ | ⟨g, c, cur, hv, _⟩
    · simp at hv; exact hv.2.2
    · simp at hv; rw [hv.1] at he; cases he

set_option maxRecDepth 100000 in
set_option maxHeartbeats 400000 in
theorem inList_any {W : World} {base rb zb tb top : Nat} {R : List (Option Addr × List ByteArray)} {w : World} {rest : ByteArray} {E : Nat} {cs : List Value} (st : RdSt W base rb zb tb top 66 R w [.string rest, .int .i64 (E : Int)] cs) (hs : rest.size ≤ maxLen) :
    Calls Try.prog 27 #[.pointer (some ⟨rb, 0, none⟩), .int .i64 8] w fun e w' => ∃ (ts : List (List UInt8)) (E' : Nat) (rest' : ByteArray) (ao : Option Addr) (cap : Nat), e = .returned (.slice ao (mks ts).length cap) ∧ (ao = none → cap = 0) ∧ (∀ t ∈ ts, t.length ≤ 65536) ∧ rest'.size ≤ maxLen ∧
      (∀ f, runE E (bindL rest.data.toList f) = runE E' (f ts rest'.data.toList)) ∧ RdSt W base rb zb tb top 66 ((ao, mks ts) :: R) w' [.string rest', .int .i64 (E' : Int)] cs := by
  have c0 := st.rd.cell (i := 0) rfl
  have c1 := st.rd.cell (i := 1) rfl
  by_cases hE : E = 0
  · subst hE
    rcases hr : getList rest.data.toList 8 with ⟨ts, k, er⟩
    have hl : rest.data.toList.length = rest.size := by simp
    have hkn : k ≤ rest.size ∧ ∀ t ∈ ts, t.length ≤ 65536 := by
      by_cases he : er = 0
      · subst he
        obtain ⟨_, _, b3, _, b5⟩ := getList_back hr
        exact ⟨by omega, b5⟩
      · have := getList_zero hr he
        rw [this.1, this.2]
        simp
    have hk : (k : Int) ≤ rest.size := by omega
    have hstep : Hid (∀ f, runE 0 (bindL rest.data.toList f) = runE er (f ts (rest.extract k rest.size).data.toList)) := by
      intro f
      by_cases he : er = 0
      · subst he
        rw [bindL_ok hr, extract_drop]
      · rw [bindL_err hr he]
        unfold runE
        rw [if_pos he, if_neg (by simp)]
    have cG := fun w1 => refGetList8 rest w1 hs ts k er hr
    have hsz := rest_le rest k hs
    clear hr hl hs
    obtain ⟨ms, hms⟩ : ∃ q, q = mks ts := ⟨_, rfl⟩
    simp only [← hms] at cG
    have Hms : Hid (ms = mks ts) := hms
    clear hms
    go_enter Try.func27, Try.ntmps27
    go_wp2_with fail
    refine (cG _).mono ?_
    rintro e w1 ⟨ao, cap, rfl, hO, hn, hb⟩
    have st1 := (st.below hb).row (hO.mono st.tw)
    have fin := (st1.setR 1 (.int .i64 (er : Int))).setR 0 (.string (rest.extract k rest.size))
    have d0 := st1.rd.cell (i := 0) rfl
    have d1 := st1.rd.cell (i := 1) rfl
    have f0 := st1.rd.frozen 0
    have f1 := st1.rd.frozen 1
    clear st st1 c0 c1 hO hb cG
    go_wp2
    go_ret
    refine ⟨ts, er, rest.extract k rest.size, ao, cap, by rw [← Hms.out]; rfl, hn, hkn.2, hsz, hstep.out, ?_⟩
    rw [← Hms.out]
    exact fin
  · have hE' : ((E : Int) != 0) = true := by rw [bne_iff_ne]; omega
    go_enter Try.func27, Try.ntmps27
    go_wp2
    go_ret
    exact ⟨[], E, rest, none, 0, rfl, fun _ => rfl, by simp, hs, fun f => by unfold runE; rw [if_pos hE, if_pos hE], st.row (fun j hj => absurd hj (by simp [mks]))⟩

set_option maxRecDepth 100000 in
set_option maxHeartbeats 400000 in
theorem inEnd_any {W : World} {base rb zb tb top : Nat} {R : List (Option Addr × List ByteArray)} {w : World} {rest : ByteArray} {E : Nat} {cs : List Value} (st : RdSt W base rb zb tb top 66 R w [.string rest, .int .i64 (E : Int)] cs) :
    Calls Try.prog 29 #[.pointer (some ⟨rb, 0, none⟩)] w fun e w' => e = .returned (.tuple #[]) ∧ RdSt W base rb zb tb top 66 R w' [.string rest, .int .i64 ((if E = 0 ∧ rest.data.toList ≠ [] then 6 else E : Nat) : Int)] cs := by
  have c0 := st.rd.cell (i := 0) rfl
  have c1 := st.rd.cell (i := 1) rfl
  have f1 := st.rd.frozen 1
  by_cases hE : E = 0
  · subst hE
    by_cases hr : rest.data.toList ≠ []
    · have hr1 : rest.toList.isEmpty = false := by rw [ByteArray.toList_eq]; simpa using hr
      rw [if_pos ⟨rfl, hr⟩]
      have fin := st.setR 1 (.int .i64 6)
      clear hr
      go_enter Try.func29, Try.ntmps29
      go_wp2
      go_end0
      exact ⟨rfl, fin⟩
    · have hr1 : rest.toList.isEmpty = true := by rw [ByteArray.toList_eq]; simpa using hr
      rw [if_neg (fun h => hr h.2)]
      clear hr
      go_enter Try.func29, Try.ntmps29
      go_wp2
      go_end0
      exact ⟨rfl, st⟩
  · have hE' : ((E : Int) == 0) = false := beq_eq_false_iff_ne.2 (by omega)
    rw [if_neg (fun h => hE h.1)]
    go_enter Try.func29, Try.ntmps29
    go_wp2
    go_end0
    exact ⟨rfl, st⟩
end Go.Proofs.Ytdnkakmdhdceaaa
