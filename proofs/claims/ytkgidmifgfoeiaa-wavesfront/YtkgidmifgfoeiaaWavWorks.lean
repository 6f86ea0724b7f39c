/- What tusklaw21.works does: the chapter's example. -/
import Derived.Test.YtkgidmifgfoeiaaWavWords
import Derived.Test.YtkgidmifgfoeiaaWavCheck
namespace Go.Proofs.Ytkgidmifgfoeiaa
open Go Go.RowKit
set_option linter.unusedVariables false

def keyA21 : ByteArray := ⟨#[97]⟩
def keyB21 : ByteArray := ⟨#[98]⟩

def wx0 (w : World) : TxA := ⟨0, ⟨#[]⟩, ⟨#[]⟩, 0, 0, ⟨#[]⟩, ⟨#[]⟩, [], [keyA21], none, 0, some ⟨w.heap.size, 0, none⟩, 1⟩
def wx1 (w : World) : TxA := ⟨0, ⟨#[]⟩, ⟨#[]⟩, 0, 0, ⟨#[]⟩, ⟨#[]⟩, [keyA21], [], some ⟨w.heap.size + 1, 0, none⟩, 1, none, 0⟩
def wx2 (w : World) : TxA := ⟨0, ⟨#[]⟩, ⟨#[]⟩, 0, 0, ⟨#[]⟩, ⟨#[]⟩, [], [keyB21], none, 0, some ⟨w.heap.size + 1 + 1, 0, none⟩, 1⟩
def wx3 (w : World) : TxA := ⟨0, ⟨#[]⟩, ⟨#[]⟩, 0, 0, ⟨#[]⟩, ⟨#[]⟩, [], [keyA21], none, 0, some ⟨w.heap.size + 1 + 1 + 1, 0, none⟩, 1⟩

def wxL (w : World) : List TxA := [wx0 w, wx1 w, wx2 w, wx3 w]

def wxR : List RwD := [⟨[], [keyA21]⟩, ⟨[keyA21], []⟩, ⟨[], [keyB21]⟩, ⟨[], [keyA21]⟩]

theorem wxL_rw (w : World) : rwL (wxL w) = wxR := rfl

theorem wx_plan : planI (planN wxR wxR.length) = [[0, 2], [1], [3]] := by decide +kernel

theorem wx_clash : chkN wxR [[0, 1], [2], [3]] = 15 := by decide +kernel

def wxW0 (w : World) : World := (((w.alloc (.cells #[.string keyA21] 9)).alloc (.cells #[.string keyA21] 9)).alloc (.cells #[.string keyB21] 9)).alloc (.cells #[.string keyA21] 9)

/-- The example's world. -/
def wxW (w : World) : World := (wxW0 w).alloc (.cells (flatK txA (wxL w)).toArray 38)

theorem wx_row (w : World) : RowAt txA (wxW w) (some ⟨w.heap.size + 1 + 1 + 1 + 1, 0, none⟩) (wxL w) ∧ Below w.heap.size w (wxW w) ∧ Few (wxL w) := by
  obtain ⟨h0, h1, h2, h3, hb⟩ := four_new w 9 9 9 9 [.string keyA21] [.string keyA21] [.string keyB21] [.string keyA21] (wxW0 w) rfl
  have hn := belowNew (wxW0 w) (.cells (flatK txA (wxL w)).toArray 38)
  have hs : (wxW0 w).heap.size = w.heap.size + 1 + 1 + 1 + 1 := by unfold wxW0; rw [alloc_size, alloc_size, alloc_size, alloc_size]
  have h4 : Arr (wxW w) (w.heap.size + 1 + 1 + 1 + 1) 38 (flatK txA (wxL w)) := by
    rw [← hs]
    exact Arr.new (wxW0 w) 38 (flatK txA (wxL w))
  have r0 := (Arr.rowW (K := textK) (l := [keyA21]) h0 rfl (fun _ _ => trivial)).below hn
  have r1 := (Arr.rowW (K := textK) (l := [keyA21]) h1 rfl (fun _ _ => trivial)).below hn
  have r2 := (Arr.rowW (K := textK) (l := [keyB21]) h2 rfl (fun _ _ => trivial)).below hn
  have r3 := (Arr.rowW (K := textK) (l := [keyA21]) h3 rfl (fun _ _ => trivial)).below hn
  have zA : ∀ s ∈ [keyA21], s.size ≤ maxLen := fun s h => by
    rw [List.mem_singleton.1 h]; unfold maxLen; decide
  have zB : ∀ s ∈ [keyB21], s.size ≤ maxLen := fun s h => by
    rw [List.mem_singleton.1 h]; unfold maxLen; decide
  have z0 : ∀ s ∈ ([] : List ByteArray), s.size ≤ maxLen := fun s h => by cases h
  refine ⟨Arr.rowW h4 rfl (fun x hx => ?_), hb.trans (hn.mono hb.size), (by show 4 ≤ 1000; decide), fun x hx => ?_⟩
  · simp only [wxL, List.mem_cons, List.not_mem_nil, or_false] at hx
    rcases hx with rfl | rfl | rfl | rfl
    · exact ⟨nil_row _ _, r0, fun _ => rfl, (fun e => by cases e), z0, zA⟩
    · exact ⟨r1, nil_row _ _, (fun e => by cases e), fun _ => rfl, zA, z0⟩
    · exact ⟨nil_row _ _, r2, fun _ => rfl, (fun e => by cases e), z0, zB⟩
    · exact ⟨nil_row _ _, r3, fun _ => rfl, (fun e => by cases e), z0, zA⟩
  · simp only [wxL, List.mem_cons, List.not_mem_nil, or_false] at hx
    rcases hx with rfl | rfl | rfl | rfl
    · exact ⟨by simp [wx0], by simp [wx0]⟩
    · exact ⟨by simp [wx1], by simp [wx1]⟩
    · exact ⟨by simp [wx2], by simp [wx2]⟩
    · exact ⟨by simp [wx3], by simp [wx3]⟩

def intV (a : List Int) : List Value := a.map (fun v => Value.int .i64 v)

theorem flat_intV : ∀ a : List Int, flatK intK a = intV a
  | [] => rfl
  | x :: a => by
    show intK.c x ++ flatK intK a = Value.int .i64 x :: intV a
    rw [flat_intV a]
    rfl

/-- A plan of three rows, written out. -/
def litP (w : World) (a b c : List Int) : List IRow := [⟨a, some ⟨w.heap.size, 0, none⟩, a.length⟩, ⟨b, some ⟨w.heap.size + 1, 0, none⟩, b.length⟩, ⟨c, some ⟨w.heap.size + 1 + 1, 0, none⟩, c.length⟩]

theorem lit_rows (w W : World) (a b c : List Int) (hW : W = (((w.alloc (.cells (intV a).toArray 3)).alloc (.cells (intV b).toArray 3)).alloc (.cells (intV c).toArray 3)).alloc (.cells (flatK irowK (litP w a b c)).toArray 24)) (ha : a.length ≤ 1000) (hb : b.length ≤ 1000) (hc : c.length ≤ 1000) :
    RowAt irowK W (some ⟨w.heap.size + 1 + 1 + 1, 0, none⟩) (litP w a b c) ∧ Below w.heap.size w W ∧ RowsLen (litP w a b c) ∧ RowsFit (litP w a b c) := by
  obtain ⟨h0, h1, h2, h3, hbw⟩ := four_new w 3 3 3 24 (intV a) (intV b) (intV c) (flatK irowK (litP w a b c)) W hW
  have r0 := Arr.rowW (K := intK) (l := a) h0 (flat_intV a).symm (fun _ _ => trivial)
  have r1 := Arr.rowW (K := intK) (l := b) h1 (flat_intV b).symm (fun _ _ => trivial)
  have r2 := Arr.rowW (K := intK) (l := c) h2 (flat_intV c).symm (fun _ _ => trivial)
  have hlen : ∀ x ∈ litP w a b c, x.l.length ≤ 1000 := fun x hx => by
    simp only [litP, List.mem_cons, List.not_mem_nil, or_false] at hx
    rcases hx with rfl | rfl | rfl <;> assumption
  refine ⟨Arr.rowW h3 rfl (fun x hx => ?_), hbw, ⟨by simp [litP], fun x hx => by have := hlen x hx; omega⟩, ⟨by simp [litP], fun x hx => by have := hlen x hx; omega⟩⟩
  simp only [litP, List.mem_cons, List.not_mem_nil, or_false] at hx
  rcases hx with rfl | rfl | rfl
  · exact ⟨r0, fun e => by cases e⟩
  · exact ⟨r1, fun e => by cases e⟩
  · exact ⟨r2, fun e => by cases e⟩

set_option maxRecDepth 100000 in
set_option maxHeartbeats 4000000 in
theorem works21_any (w : World) : Calls Try.prog 17 #[] w fun e w' => e = .returned (.bool true) ∧ Below w.heap.size w w' := by
  obtain ⟨hR, hB, hF⟩ := wx_row w
  have cP := plan_any (wxL w) (some ⟨w.heap.size + 1 + 1 + 1 + 1, 0, none⟩) 4 (wxW w) hR hF
  rw [wxL_rw] at cP
  go_enter Try.func17, Try.ntmps17
  go_wp2_with fail
  refine cP.mono ?_
  rintro _ w2 ⟨q, p, rfl, hP, hls, hb2⟩
  obtain ⟨qa, qc, rfl, -, hr⟩ := hP.form
  obtain ⟨hpf, hpl⟩ := plan_fit hls (by show 4 ≤ 1000; decide)
  have hb02 := hB.trans (hb2.mono hB.size)
  obtain ⟨l1, l2, l3, l4⟩ := lit_rows w2 _ [0, 2] [1] [3] rfl (by decide) (by decide) (by decide)
  have cS := refSame21_any p (litP w2 [0, 2] [1] [3]) qa _ qc 3 _ (hr.below l2) l1 hpl l3
  rw [decide_eq_true (by rw [hls, wx_plan]; rfl)] at cS
  have hchk : Hid (chkN wxR (lsP p) = 0) := by rw [hls]; exact chk_plan wxR
  clear hP cP l3 l4 hls
  go_wp2_with (first
    | (go_at_call 12; refine cS.mono ?_; rintro _ w3 ⟨rfl, hb3⟩
       have hb23 := l2.trans (hb3.mono l2.size)
       have hb03 := hb02.trans (hb23.mono hb02.size)
       have hbx3 := hb2.trans (hb23.mono hb2.size)
       have cC := check_any (wxL w) (some ⟨w.heap.size + 1 + 1 + 1 + 1, 0, none⟩) 4 p qa qc w3 (hR.below hbx3) hF (hr.below hb23) hpf
       rw [wxL_rw, hchk.out] at cC
       clear cS)
    | (go_at_call 15; refine cC.mono ?_; rintro _ w4 ⟨rfl, hb4⟩
       have hb04 := hb03.trans (hb4.mono hb03.size)
       have hbx4 := hbx3.trans (hb4.mono hbx3.size)
       obtain ⟨m1, m2, m3, m4⟩ := lit_rows w4 _ [0, 1] [2] [3] rfl (by decide) (by decide) (by decide)
       have hb05 := hb04.trans (m2.mono hb04.size)
       have cD := check_any (wxL w) (some ⟨w.heap.size + 1 + 1 + 1 + 1, 0, none⟩) 4 (litP w4 [0, 1] [2] [3]) _ 3 _ (hR.below (hbx4.trans (m2.mono hbx4.size))) hF m1 m4
       rw [wxL_rw, show chkN wxR (lsP (litP w4 [0, 1] [2] [3])) = 15 from wx_clash] at cD
       clear cC m1 m3 m4)
    | (go_at_call 15; refine cD.mono ?_; rintro _ w5 ⟨rfl, hb5⟩))
  go_ret
  exact ⟨rfl, hb05.trans (hb5.mono hb05.size)⟩
end Go.Proofs.Ytkgidmifgfoeiaa
