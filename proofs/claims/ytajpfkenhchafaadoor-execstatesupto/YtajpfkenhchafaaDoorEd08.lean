/- Texts as one: StaLie, StaFns, StaApply, StaNew, StaWorks, StaRich, StaRun, ExeOwn, SlimNum, Ints, WavRows, ExeGot. -/
import Derived.Test.YtajpfkenhchafaaDoorEd04
import Derived.Test.YtajpfkenhchafaaDoorEd07
import Derived.BigQuiet
import Derived.BigRegion
import Derived.Deep.QuietTactic
import Derived.Deep.DeepCutAuto
import Derived.Lib.QuietBelow
import Derived.Deep.RegionHeld3
import Derived.Test.YtajpfkenhchafaaDoorEd06
import Derived.Test.YtajpfkenhchafaaDoorEd01
import Derived.Test.YtajpfkenhchafaaDoorEd05
import Derived.Test.YtajpfkenhchafaaDoorEd03
/- How the program's state lies in memory. -/
namespace Go.Proofs.YtajpfkenhchafaaDoor
open Go Go.RowKit
set_option linter.unusedVariables false

def accV (p : Nat × Nat) : Value := .agg #[.int .u64 (p.1 : Int), .int .u64 (p.2 : Int)]
def accM (f : ByteArray → Nat × Nat) (n : ByteArray) : Option Value := if f n = (0, 0) then none else some (accV (f n))
def valM (g : ByteArray → Option ByteArray) (n : ByteArray) : Option Value := (g n).map (fun x => .agg #[.string x])

set_option maxRecDepth 100000 in
theorem zeroAcc (w : World) : (zeroValue 71).run Tryd.prog w = .ok (.agg #[.int .u64 0, .int .u64 0]) w := by rfl
set_option maxRecDepth 100000 in
theorem zeroVal (w : World) : (zeroValue 83).run Tryd.prog w = .ok (.agg #[.string ⟨#[]⟩]) w := by rfl

theorem accM_get (f : ByteArray → Nat × Nat) (n : ByteArray) : (accM f n).getD (.agg #[.int .u64 0, .int .u64 0]) = .agg #[.int .u64 ((f n).1 : Int), .int .u64 ((f n).2 : Int)] := by
  unfold accM
  by_cases h : f n = (0, 0)
  · rw [if_pos h, h]; rfl
  · rw [if_neg h]; rfl

theorem valM_get (g : ByteArray → Option ByteArray) (n : ByteArray) : (valM g n).getD (.agg #[.string ⟨#[]⟩]) = .agg #[.string ((g n).getD ⟨#[]⟩)] := by
  unfold valM
  cases g n <;> rfl

theorem valM_is (g : ByteArray → Option ByteArray) (n : ByteArray) : (valM g n).isSome = (g n).isSome := by
  unfold valM
  cases g n <;> rfl

theorem accM_put (f : ByteArray → Nat × Nat) (n : ByteArray) (p : Nat × Nat) (hp : p ≠ (0, 0)) : ∀ m, accM (pnF f n p) m = putF (accM f) n (accV p) m := by
  intro m
  unfold accM putF pnF
  by_cases h : m = n
  · rw [if_pos h, if_pos h, if_neg hp]
  · rw [if_neg h, if_neg h]

theorem valM_put (g : ByteArray → Option ByteArray) (n x : ByteArray) : ∀ m, valM (pnF g n (some x)) m = putF (valM g) n (.agg #[.string x]) m := by
  intro m
  unfold valM putF pnF
  by_cases h : m = n
  · rw [if_pos h, if_pos h]; rfl
  · rw [if_neg h, if_neg h]

/-- At p stands a state: accounts in map a, values in map v; at most N of them, and at most N transactions from each. -/
structure PSt (w : World) (p a v : Nat) (s : StF) (N : Nat) : Prop where
  box : Arr w p 74 [.map (some a), .map (some v)]
  acc : ∃ n, n ≤ N ∧ SMap w a (accM s.acc) n
  val : ∃ n, n ≤ N ∧ SMap w v (valM s.val) n
  pa : p ≠ a
  pv : p ≠ v
  av : a ≠ v
  ok : StOk s N

theorem PSt.la {w : World} {p a v N : Nat} {s : StF} (h : PSt w p a v s N) : a < w.heap.size := by
  obtain ⟨n, _, h1⟩ := h.acc; exact h1.lt

theorem PSt.lv {w : World} {p a v N : Nat} {s : StF} (h : PSt w p a v s N) : v < w.heap.size := by
  obtain ⟨n, _, h1⟩ := h.val; exact h1.lt

theorem PSt.kept {S : Nat → Prop} {w w' : World} {p a v N : Nat} {s : StF} (h : PSt w p a v s N) (hk : Kept S w w') (h1 : ¬ S p) (h2 : ¬ S a) (h3 : ¬ S v) : PSt w' p a v s N := by
  obtain ⟨n, hn, ha⟩ := h.acc
  obtain ⟨m, hm, hv⟩ := h.val
  exact ⟨h.box.kept hk h1, ⟨n, hn, ha.kept hk h2⟩, ⟨m, hm, hv.kept hk h3⟩, h.pa, h.pv, h.av, h.ok⟩

theorem PSt.below {w w' : World} {p a v N : Nat} {s : StF} (h : PSt w p a v s N) (hb : Below w.heap.size w w') : PSt w' p a v s N := by
  obtain ⟨n, hn, ha⟩ := h.acc
  obtain ⟨m, hm, hv⟩ := h.val
  exact ⟨h.box.below hb h.box.lt, ⟨n, hn, ha.below hb⟩, ⟨m, hm, hv.below hb⟩, h.pa, h.pv, h.av, h.ok⟩

theorem PSt.mono {w : World} {p a v N M : Nat} {s : StF} (h : PSt w p a v s N) (hm : N ≤ M) : PSt w p a v s M := by
  obtain ⟨n, hn, ha⟩ := h.acc
  obtain ⟨m, hm', hv⟩ := h.val
  exact ⟨h.box, ⟨n, Nat.le_trans hn hm, ha⟩, ⟨m, Nat.le_trans hm' hm, hv⟩, h.pa, h.pv, h.av, h.ok.mono hm⟩

/-- The same, of the blocks S that it has. -/
def PS (w : World) (p : Nat) (S : Nat → Prop) (s : StF) (N : Nat) : Prop := ∃ a v, (∀ b, S b ↔ b = p ∨ b = a ∨ b = v) ∧ PSt w p a v s N

theorem PS.kept {S T : Nat → Prop} {w w' : World} {p N : Nat} {s : StF} (h : PS w p S s N) (hk : Kept T w w') (hd : ∀ b, S b → ¬ T b) : PS w' p S s N := by
  obtain ⟨a, v, hS, h1⟩ := h
  exact ⟨a, v, hS, h1.kept hk (hd p ((hS p).2 (Or.inl rfl))) (hd a ((hS a).2 (Or.inr (Or.inl rfl)))) (hd v ((hS v).2 (Or.inr (Or.inr rfl))))⟩

theorem PS.below {S : Nat → Prop} {w w' : World} {p N : Nat} {s : StF} (h : PS w p S s N) (hb : Below w.heap.size w w') : PS w' p S s N := by
  obtain ⟨a, v, hS, h1⟩ := h
  exact ⟨a, v, hS, h1.below hb⟩

theorem PS.mono {S : Nat → Prop} {w : World} {p N M : Nat} {s : StF} (h : PS w p S s N) (hm : N ≤ M) : PS w p S s M := by
  obtain ⟨a, v, hS, h1⟩ := h
  exact ⟨a, v, hS, h1.mono hm⟩

theorem PS.lt {S : Nat → Prop} {w : World} {p N : Nat} {s : StF} (h : PS w p S s N) {b : Nat} (hb : S b) : b < w.heap.size := by
  obtain ⟨a, v, hS, h1⟩ := h
  rcases (hS b).1 hb with e | e | e
  · rw [e]; exact h1.box.lt
  · rw [e]; exact h1.la
  · rw [e]; exact h1.lv

theorem PS.ok {S : Nat → Prop} {w : World} {p N : Nat} {s : StF} (h : PS w p S s N) : StOk s N := by
  obtain ⟨a, v, hS, h1⟩ := h
  exact h1.ok
end Go.Proofs.YtajpfkenhchafaaDoor

/- Account, Value, isName; what refuse answers. -/
namespace Go.Proofs.YtajpfkenhchafaaDoor
open Go Go.RowKit
set_option linter.unusedVariables false

set_option maxRecDepth 100000 in
theorem account_any (n : ByteArray) (hn : n.size ≤ maxLen) (w : World) (p a v N : Nat) (s : StF) (h : PSt w p a v s N) :
    Calls Tryd.prog 21 #[.pointer (some ⟨p, 0, none⟩), .string n] w fun e w' => e = .returned (.tuple #[.int .u64 ((s.acc n).1 : Int), .int .u64 ((s.acc n).2 : Int)]) ∧ Below w.heap.size w w' := by
  obtain ⟨k, hk, hM⟩ := h.acc
  have c0 := h.box.cell (i := 0) rfl
  have hg := accM_get s.acc n
  generalize (s.acc n).1 = x1 at *
  generalize (s.acc n).2 = x2 at *
  generalize accM s.acc = f at *
  clear h hk
  go_enter Tryd.func21, Tryd.ntmps21
  go_wp2_with (at_lookup; refine smap_look (by rfl) _ _ 69 rfl 71 Tryd.underlying69 _ (zeroAcc _) a _ _ rfl hM n hn rfl ?_; rw [hg])
  go_region
  go_wp2
  go_ret2
  exact ⟨rfl, Below.drew (belowNew w _)⟩

theorem name_check (n : ByteArray) : checkL ⟨2, n, ⟨#[]⟩, 0, 0, n, ⟨#[]⟩, [], []⟩ = if isNm n = true then 0 else 3 := by
  have hk : keysL [] = 0 := rfl
  unfold checkL fieldsR
  by_cases h : isNm n = true
  · simp [h, hk]
    exact Nat.zero_le _
  · simp [h]

set_option maxRecDepth 100000 in
theorem isName22_any (n : ByteArray) (w : World) :
    Calls Tryd.prog 41 #[.string n] w fun e w' => e = .returned (.bool (isNm n)) ∧ Below w.heap.size w w' := by
  have cc := check_any ⟨2, n, ⟨#[]⟩, 0, 0, n, ⟨#[]⟩, [], []⟩ none 0 none 0 w ⟨nil_strs _ _, nil_strs _ _⟩
  rw [name_check] at cc
  obtain ⟨b, hb⟩ : ∃ b, Hid (isNm n = b) := ⟨_, rfl⟩
  rw [hb.out] at cc ⊢
  unfold txV at cc
  go_enter Tryd.func41, Tryd.ntmps41
  go_wp2_with fail
  refine cc.mono ?_
  rintro e w1 ⟨rfl, hb1⟩
  cases b
  · go_wp2
    go_ret
    exact ⟨rfl, hb1⟩
  · go_wp2
    go_ret
    exact ⟨rfl, hb1⟩

theorem pick_text (a b : ByteArray) : (a.toList == b.toList) = decide (a = b) := by
  by_cases h : a = b
  · subst h; simp
  · rw [decide_eq_false h, beq_eq_false_iff_ne]
    intro e
    rw [ByteArray.toList_eq, ByteArray.toList_eq] at e
    cases a
    cases b
    simp at e
    exact h (by rw [e])

set_option maxRecDepth 100000 in
set_option maxHeartbeats 1000000 in
theorem refuse_any (x : TxM) (w : World) (hA : x.At w) (hs : TxSizes x.d) (hn : x.d.ws.length ≤ 500) (p a v N : Nat) (s : StF) (h : PSt w p a v s N) :
    Calls Tryd.prog 39 #[.pointer (some ⟨p, 0, none⟩), x.v] w fun e w' => e = .returned (.int .i64 (applyE s x.d : Nat)) ∧ Below w.heap.size w w' := by
  have hX : Arr _ _ _ (txC x.d x.ra x.rc x.wa x.wc) := TxBox.new w x.d x.ra x.rc x.wa x.wc
  have hB := belowNew w (.cells (txC x.d x.ra x.rc x.wa x.wc).toArray 50)
  have cf := fits_any x.d x.ra x.rc x.wa x.wc _ (hA.at_.below hB) (by omega)
  have hz : fitsL x.d = true → (x.d.kind = 1 ∨ x.d.kind = 2) ∧ x.d.amt ≤ 4611686018427387903 := fun q => by
    obtain ⟨_, _, _, q4, _, q6⟩ := fits_names q
    by_cases q7 : x.d.kind = 1
    · exact ⟨Or.inl q7, q4⟩
    · exact ⟨Or.inr (q6 q7).1, q4⟩
  obtain ⟨k, hk, hM⟩ := h.acc
  have c0 := h.box.cell (i := 0) rfl
  have lp := h.box.lt
  have hg1 := accM_get s.acc x.d.frm
  have hg2 := accM_get s.acc x.d.to
  have ho1 := h.ok.amt x.d.frm
  have ho2 := h.ok.amt x.d.to
  have hf1 := hs.frm
  have hf2 := hs.to
  clear h hk hs hA
  have hMB := hM.below hB
  have c0B : (w.alloc (.cells (txC x.d x.ra x.rc x.wa x.wc).toArray 50)).cell? ⟨p, 0, none⟩ = some (.map (some a)) := by rw [cell_same (hB.block _ lp)]; exact c0
  clear hM c0
  obtain ⟨f, hf⟩ : ∃ f, Hid (accM s.acc = f) := ⟨_, rfl⟩
  rw [hf.out] at hMB hg1 hg2
  clear hf
  unfold TxM.v
  unfold txV at cf ⊢
  go_enter Tryd.func39, Tryd.ntmps39
  go_wp2_with fail
  refine cf.mono ?_
  rintro e w2 ⟨rfl, hb2⟩
  have hX2 := hX.below hb2 hX.lt
  have hM2 := hMB.below hb2
  have hB2 := hB.trans (hb2.mono hB.size)
  have c02 : w2.cell? ⟨p, 0, none⟩ = some (.map (some a)) := by rw [cell_same (hb2.block _ (Nat.lt_of_lt_of_le lp hB.size))]; exact c0B
  clear hX hMB hB c0B hb2 cf
  by_cases hft : fitsL x.d = true
  · obtain ⟨q1, q2⟩ := hz hft
    rw [hft]
    have t0 := hX2.cell (i := 0) rfl
    have t1 := hX2.cell (i := 1) rfl
    have t2 := hX2.cell (i := 2) rfl
    have t3 := hX2.cell (i := 3) rfl
    have t4 := hX2.cell (i := 4) rfl
    have lX := hX2.lt
    have lp2 : p < w2.heap.size := Nat.lt_of_lt_of_le lp hB2.size
    have hnb := belowNew w2 (.cells #[.int .u64 0, .int .u64 0] 71)
    have hMn := hM2.below hnb
    have hl1 := smap_run1 hM2 Tryd.underlying69 zeroAcc hf1
    have hl2 := smap_run1 hMn Tryd.underlying69 zeroAcc hf1
    rw [hg1] at hl1 hl2
    have u1 := (hX2.below hnb lX).cell (i := 1) rfl
    have cn : (w2.alloc (.cells #[.int .u64 0, .int .u64 0] 71)).cell? ⟨p, 0, none⟩ = some (.map (some a)) := by rw [cell_same (hnb.block _ lp2)]; exact c02
    go_wp2_with fail
    go_region
    all_goals (
      rename_i K hK
      refine hK _ _ ?_
      clear hK hl1 hl2 u1 cn hnb hMn t0 t1 t2 t3 t4
      obtain ⟨x1, hx1⟩ : ∃ q, Hid ((s.acc x.d.frm).1 = q) := ⟨_, rfl⟩
      obtain ⟨x2, hx2⟩ : ∃ q, Hid ((s.acc x.d.frm).2 = q) := ⟨_, rfl⟩
      rw [hx1.out] at ho1 hg1 ⊢
      rw [hx2.out] at hg1 ⊢
      have hnb := belowNew w2 (.cells #[.int .u64 (x1 : Int), .int .u64 (x2 : Int)] 71)
      have hb3 : Below w2.heap.size w2 (w2.alloc (.cells #[.int .u64 (x1 : Int), .int .u64 (x2 : Int)] 71)).drew := Below.drew hnb
      have hA3 : Arr (w2.alloc (.cells #[.int .u64 (x1 : Int), .int .u64 (x2 : Int)] 71)).drew w2.heap.size 71 [.int .u64 (x1 : Int), .int .u64 (x2 : Int)] := (Arr.new w2 71 [.int .u64 (x1 : Int), .int .u64 (x2 : Int)]).drew
      have hX3 := hX2.below hb3 lX
      have hM3 := hM2.below hb3
      have hB3 := hB2.trans (hb3.mono hB2.size)
      have lp3 : p < w2.heap.size := lp2
      have c03 : (w2.alloc (.cells #[.int .u64 (x1 : Int), .int .u64 (x2 : Int)] 71)).drew.cell? ⟨p, 0, none⟩ = some (.map (some a)) := by rw [cell_same (hb3.block _ lp2)]; exact c02
      generalize (w2.alloc (.cells #[.int .u64 (x1 : Int), .int .u64 (x2 : Int)] 71)).drew = w3 at *
      clear hnb hb3 hX2 hM2 hB2 c02
      have t0 := hX3.cell (i := 0) rfl
      have t1 := hX3.cell (i := 1) rfl
      have t2 := hX3.cell (i := 2) rfl
      have t3 := hX3.cell (i := 3) rfl
      have t4 := hX3.cell (i := 4) rfl
      have k0 := hA3.cell (i := 0) rfl
      have k1 := hA3.cell (i := 1) rfl
      have hl := fun m => smap_runs hM3 Tryd.underlying69 zeroAcc hf2 m
      rw [hg2] at hl
      obtain ⟨y1, hy1⟩ : ∃ q, Hid ((s.acc x.d.to).1 = q) := ⟨_, rfl⟩
      rw [hy1.out] at hl ho2
      have hfd : ∀ w (z : Nat), (Instr.field 71 (.agg #[.int .u64 (y1 : Int), .int .u64 (z : Int)]) 0).run Tryd.prog w = .ok (.int .u64 (y1 : Int)) w := fun _ _ => by kernel_rfl
      by_cases h2 : x.d.non = x2
      · have g2 : ((x.d.non : Int) != (x2 : Int)) = false := by rw [h2]; exact bne_self_eq_false _
        rcases q1 with q1 | q1
        · have g3 : (x.d.kind == 2) = false := by rw [q1]; rfl
          by_cases h4 : x1 < x.d.amt
          · have g4 : (x1 : Int) < (x.d.amt : Int) := by omega
            have hE := applyE_is3 (s := s) hft (by rw [hx2.out]; exact h2) q1 (by rw [hx1.out]; exact h4)
            clear hl h2 q1
            go_wp2
            go_ret
            exact ⟨by rw [hE]; rfl, hB3⟩
          · have g4 : ¬ (x1 : Int) < (x.d.amt : Int) := by omega
            by_cases h5 : x.d.to = x.d.frm
            · have g5 : (x.d.to.toList == x.d.frm.toList) = true := by rw [h5]; exact beq_self_eq_true _
              have hE := applyE_is0 (s := s) hft (by rw [hx2.out]; exact h2) (fun _ => by rw [hx1.out]; exact h4) (fun _ e => (e h5).elim)
              clear h2 q1 h5
              go_wp2_with fail
              go_quiet (fail)
              go_wp2
              go_ret
              exact ⟨by rw [hE]; rfl, below_drewN hB3 nq⟩
            · have g5 : (x.d.to.toList == x.d.frm.toList) = false := by rw [pick_text, decide_eq_false h5]
              have hw : IntKind.u64.wrap ((y1 : Int) + (x.d.amt : Int)) = ((y1 + x.d.amt : Nat) : Int) := by
                rw [show IntKind.u64.wrap ((y1 : Int) + (x.d.amt : Int)) = ((y1 : Int) + (x.d.amt : Int)) % 18446744073709551616 by simp [IntKind.wrap, IntKind.bits, IntKind.signed]]
                omega
              by_cases h6 : 4611686018427387903 < y1 + x.d.amt
              · have g6 : (4611686018427387903 : Int) < ((y1 + x.d.amt : Nat) : Int) := by omega
                have hE := applyE_is4 (s := s) hft (by rw [hx2.out]; exact h2) q1 (by rw [hx1.out]; exact h4) h5 (by rw [hy1.out]; exact h6)
                clear h2 q1 h5
                go_wp2_with fail
                go_quiet (fail)
                go_wp2
                go_ret
                exact ⟨by rw [hE]; rfl, below_drewN hB3 nq⟩
              · have g6 : ¬ (4611686018427387903 : Int) < ((y1 + x.d.amt : Nat) : Int) := by omega
                have hE := applyE_is0 (s := s) hft (by rw [hx2.out]; exact h2) (fun _ => by rw [hx1.out]; exact h4) (fun _ _ => by rw [hy1.out]; exact h6)
                clear h2 q1 h5
                go_wp2_with fail
                go_quiet (fail)
                go_wp2
                go_ret
                exact ⟨by rw [hE]; rfl, below_drewN hB3 nq⟩
        · have g3 : (x.d.kind == 2) = true := by rw [q1]; rfl
          have hE := applyE_is0 (s := s) hft (by rw [hx2.out]; exact h2) (fun e => by rw [q1] at e; cases e) (fun e => by rw [q1] at e; cases e)
          clear hl h2 q1
          go_wp2
          go_ret
          exact ⟨by rw [hE]; rfl, hB3⟩
      · have g2 : ((x.d.non : Int) != (x2 : Int)) = true := by rw [bne_iff_ne]; omega
        have hE := applyE_is2 (s := s) hft (by rw [hx2.out]; exact h2)
        clear hl
        go_wp2
        go_ret
        exact ⟨by rw [hE]; rfl, hB3⟩)
  · have hff : fitsL x.d = false := by simpa using hft
    rw [hff]
    have hE := applyE_is1 (s := s) hff
    go_wp2
    go_ret
    exact ⟨by rw [hE]; rfl, hB2⟩
end Go.Proofs.YtajpfkenhchafaaDoor

/- What Apply does. -/
namespace Go.Proofs.YtajpfkenhchafaaDoor
open Go Go.RowKit
set_option linter.unusedVariables false

theorem pnF_same {α : Type} (f : ByteArray → α) (n : ByteArray) (x : α) (h : f n = x) : pnF f n x = f := by
  refine funext (fun m => ?_)
  unfold pnF
  by_cases e : m = n
  · rw [if_pos e, e, h]
  · rw [if_neg e]

/-- The accounts behind it, in the program's steps. -/
theorem accD_steps (f : ByteArray → Nat × Nat) (d : TxD) : accD f d = if d.kind = 1 ∧ 0 < d.amt then pnF (pnF f d.frm ((f d.frm).1 - d.amt, (f d.frm).2 + 1)) d.to ((pnF f d.frm ((f d.frm).1 - d.amt, (f d.frm).2 + 1) d.to).1 + d.amt, (pnF f d.frm ((f d.frm).1 - d.amt, (f d.frm).2 + 1) d.to).2) else pnF f d.frm ((f d.frm).1 - (if d.kind = 1 then d.amt else 0), (f d.frm).2 + 1) := by
  unfold accD
  by_cases hk : d.kind = 1
  · by_cases ha : 0 < d.amt
    · rw [if_pos hk, if_pos ⟨hk, ha⟩]
    · have h0 : d.amt = 0 := by omega
      rw [if_pos hk, if_neg (fun e => ha e.2), if_pos hk, h0]
      exact pnF_same _ _ _ rfl
  · rw [if_neg hk, if_neg (fun e => hk e.1), if_neg hk]
    rfl

theorem wrap64u (n : Int) (h0 : 0 ≤ n) (h1 : n < 18446744073709551616) : IntKind.u64.wrap n = n := by
  rw [show IntKind.u64.wrap n = n % 18446744073709551616 by simp [IntKind.wrap, IntKind.bits, IntKind.signed]]
  omega

set_option maxRecDepth 100000 in
set_option maxHeartbeats 1000000 in
theorem apply_no (x : TxM) (w : World) (hA : x.At w) (hs : TxSizes x.d) (hn : x.d.ws.length ≤ 500) (p a v N : Nat) (s : StF) (h : PSt w p a v s N) (hz : applyE s x.d ≠ 0) :
    Calls Tryd.prog 19 #[.pointer (some ⟨p, 0, none⟩), x.v] w fun e w' => e = .returned (.int .i64 (applyE s x.d : Nat)) ∧ Below w.heap.size w w' := by
  have hB := belowNew w (.cells (txC x.d x.ra x.rc x.wa x.wc).toArray 50)
  have cr := refuse_any x _ (hA.below hB) hs hn p a v N s (h.below hB)
  generalize applyE s x.d = er at *
  have g1 : ((er : Int) != 0) = true := by rw [bne_iff_ne]; omega
  clear h hs hA hz
  unfold TxM.v txV at *
  go_enter Tryd.func19, Tryd.ntmps19
  go_wp2_with fail
  refine cr.mono ?_
  rintro e w2 ⟨rfl, hb2⟩
  have hB2 := hB.trans (hb2.mono hB.size)
  clear cr hB hb2
  go_wp2
  go_ret
  exact ⟨rfl, hB2⟩

set_option maxRecDepth 100000 in
set_option maxHeartbeats 2000000 in
theorem apply_yes (x : TxM) (w : World) (hA : x.At w) (hs : TxSizes x.d) (hn : x.d.ws.length ≤ 500) (p a v N : Nat) (s : StF) (h : PSt w p a v s N) (hN : N ≤ 1000000) (hz : applyE s x.d = 0) :
    Calls Tryd.prog 19 #[.pointer (some ⟨p, 0, none⟩), x.v] w fun e w' => e = .returned (.int .i64 0) ∧ PSt w' p a v (applyF s x.d) (N + 2) ∧ Kept (fun b => b = a ∨ b = v) w w' := by
  have hX : Arr _ _ _ (txC x.d x.ra x.rc x.wa x.wc) := TxBox.new w x.d x.ra x.rc x.wa x.wc
  have hB := belowNew w (.cells (txC x.d x.ra x.rc x.wa x.wc).toArray 50)
  have cr := refuse_any x _ (hA.below hB) hs hn p a v N s (h.below hB)
  rw [hz] at cr
  obtain ⟨z1, -, z3, z4⟩ := applyE_zero hz
  obtain ⟨-, -, -, q4, -, q6⟩ := fits_names z1
  replace q6 : Hid _ := q6
  replace z3 : Hid _ := z3
  replace z4 : Hid _ := z4
  clear z1
  have ho1 := h.ok.amt x.d.frm
  have ho2 := h.ok.amt x.d.to
  have hm1 := h.ok.num x.d.frm
  have hf1 := hs.frm
  have hf2 := hs.to
  have hf3 := hs.key
  have hok := h.ok.apply x.d
  have hF : ∀ w', (∃ n, n ≤ N + 2 ∧ SMap w' a (accM (accD s.acc x.d)) n) → (∃ n, n ≤ N + 2 ∧ SMap w' v (valM (if x.d.kind = 1 then s.val else pnF s.val x.d.key (some x.d.val))) n) → Arr w' p 74 [.map (some a), .map (some v)] → PSt w' p a v (applyF s x.d) (N + 2) := by
    intro w' e1 e2 e3
    have e4 := hok.mono (Nat.le_succ (N + 1))
    unfold applyF at e4 ⊢
    rw [if_pos hz] at e4 ⊢
    exact ⟨e3, e1, e2, h.pa, h.pv, h.av, e4⟩
  have hP0 := h.below hB
  have lw : p < w.heap.size ∧ a < w.heap.size ∧ v < w.heap.size := ⟨h.box.lt, h.la, h.lv⟩
  have hne : p ≠ a ∧ p ≠ v ∧ a ≠ v := ⟨h.pa, h.pv, h.av⟩
  clear h hs hA hok hz
  unfold TxM.v txV at *
  go_enter Tryd.func19, Tryd.ntmps19
  go_wp2_with fail
  refine cr.mono ?_
  rintro e w2 ⟨rfl, hb2⟩
  have hX2 := hX.below hb2 hX.lt
  have hP2 := hP0.below hb2
  have hB2 := hB.trans (hb2.mono hB.size)
  clear hX hB hb2 cr hP0
  obtain ⟨n1, hn1, hM⟩ := hP2.acc
  obtain ⟨n2, hn2, hV⟩ := hP2.val
  have hbox := hP2.box
  have lX := hX2.lt
  have lb : p < w2.heap.size ∧ a < w2.heap.size ∧ v < w2.heap.size := ⟨hbox.lt, hM.lt, hV.lt⟩
  clear hP2
  have hg1 := accM_get s.acc x.d.frm
  obtain ⟨x1, hx1⟩ : ∃ q, Hid ((s.acc x.d.frm).1 = q) := ⟨_, rfl⟩
  obtain ⟨x2, hx2⟩ : ∃ q, Hid ((s.acc x.d.frm).2 = q) := ⟨_, rfl⟩
  rw [hx1.out] at ho1 hg1
  rw [hx2.out] at hm1 hg1
  obtain ⟨f, hf⟩ : ∃ f, Hid (accM s.acc = f) := ⟨_, rfl⟩
  rw [hf.out] at hM hg1
  have c0 := hbox.cell (i := 0) rfl
  have t1 := hX2.cell (i := 1) rfl
  go_upto_region 4 with fail
  go_cut [6] (fun s6 wx => s6 = .pointer (some ⟨w2.heap.size, 0, none⟩) ∧ wx = (w2.alloc (.cells #[.int .u64 (x1 : Int), .int .u64 (x2 : Int)] 71)).drew)
  case first =>
    have hnb := belowNew w2 (.cells #[.int .u64 0, .int .u64 0] 71)
    have hl1 := smap_run1 hM Tryd.underlying69 zeroAcc hf1
    have hl2 := smap_run1 (hM.below hnb) Tryd.underlying69 zeroAcc hf1
    rw [hg1] at hl1 hl2
    have u1 := (hX2.below hnb lX).cell (i := 1) rfl
    have cn : (w2.alloc (.cells #[.int .u64 0, .int .u64 0] 71)).cell? ⟨p, 0, none⟩ = some (.map (some a)) := by rw [cell_same (hnb.block _ lb.1)]; exact c0
    clear hnb
    go_wp2_with fail
    go_region
    all_goals (
      go_wp2_with fail
      go_meet
      case rel => exact ⟨rfl, rfl⟩)
  case rest =>
    obtain ⟨rfl, hwc⟩ := hcut
    have hb3 : Below w2.heap.size w2 wc := by rw [hwc]; exact Below.drew (belowNew w2 _)
    have hA3 : Arr wc w2.heap.size 71 [.int .u64 (x1 : Int), .int .u64 (x2 : Int)] := by rw [hwc]; exact (Arr.new w2 71 [.int .u64 (x1 : Int), .int .u64 (x2 : Int)]).drew
    clear hwc
    generalize wc = w3 at *
    have hle : x.d.amt ≤ x1 := by
      by_cases hk : x.d.kind = 1
      · have := z3.out hk
        rw [hx1.out] at this
        exact this
      · rw [(q6.out hk).2]
        exact Nat.zero_le _
    have hsub : IntKind.u64.wrap ((x1 : Int) - (x.d.amt : Int)) = ((x1 - x.d.amt : Nat) : Int) := by rw [wrap64u _ (by omega) (by omega)]; omega
    have hadd : IntKind.u64.wrap ((x2 : Int) + 1) = (x2 : Int) + 1 := wrap64u _ (by omega) (by omega)
    obtain ⟨F1, hF1⟩ : ∃ F1, Hid (pnF s.acc x.d.frm (x1 - x.d.amt, x2 + 1) = F1) := ⟨_, rfl⟩
    have hP1 : ∀ m, accM F1 m = putF f x.d.frm (.agg #[.int .u64 ((x1 - x.d.amt : Nat) : Int), .int .u64 ((x2 : Int) + 1)]) m := by
      intro m
      rw [← hF1.out, ← hf.out, show ((x2 : Int) + 1) = ((x2 + 1 : Nat) : Int) by omega]
      exact accM_put _ _ _ (fun e => by simp at e) m
    have hacc : Hid (accD s.acc x.d = if x.d.kind = 1 ∧ 0 < x.d.amt then pnF F1 x.d.to ((F1 x.d.to).1 + x.d.amt, (F1 x.d.to).2) else F1) := by
      show accD s.acc x.d = _
      rw [accD_steps, hx1.out, hx2.out, hF1.out]
      by_cases hk : x.d.kind = 1 ∧ 0 < x.d.amt
      · rw [if_pos hk, if_pos hk]
      · rw [if_neg hk, if_neg hk]
        by_cases hk1 : x.d.kind = 1
        · rw [if_pos hk1]; exact hF1.out
        · rw [if_neg hk1, ← hF1.out, (q6.out hk1).2]
    have hle2 : Hid ((F1 x.d.to).1 + x.d.amt ≤ 9223372036854775806) := by
      show (F1 x.d.to).1 + x.d.amt ≤ _
      rw [← hF1.out]
      unfold pnF
      split
      · show x1 - x.d.amt + x.d.amt ≤ _
        omega
      · omega
    have k0 := hA3.cell (i := 0) rfl
    have k1 := hA3.cell (i := 1) rfl
    have r0 := hA3.frozen 0
    have r1 := hA3.frozen 1
    have t3 := (hX2.below hb3 lX).cell (i := 3) rfl
    have lF := hA3.lt
    have hxF : w.heap.size ≠ w2.heap.size := by omega
    clear hle hx1 hx2
    replace hP1 : Hid _ := hP1
    go_upto_region 7 with fail
    have hA5 : Arr ((w3.setCell ⟨w2.heap.size, 0, none⟩ (.int .u64 ((x1 - x.d.amt : Nat) : Int))).setCell ⟨w2.heap.size, 1, none⟩ (.int .u64 ((x2 : Int) + 1))) w2.heap.size 71 [.int .u64 ((x1 - x.d.amt : Nat) : Int), .int .u64 ((x2 : Int) + 1)] := (hA3.set 0 _).set 1 _
    have hb5 : Below w2.heap.size w2 ((w3.setCell ⟨w2.heap.size, 0, none⟩ (.int .u64 ((x1 - x.d.amt : Nat) : Int))).setCell ⟨w2.heap.size, 1, none⟩ (.int .u64 ((x2 : Int) + 1))) := (hb3.setCell (p := ⟨w2.heap.size, 0, none⟩) (Nat.le_refl _) _).setCell (p := ⟨w2.heap.size, 1, none⟩) (Nat.le_refl _) _
    generalize (w3.setCell ⟨w2.heap.size, 0, none⟩ (.int .u64 ((x1 - x.d.amt : Nat) : Int))).setCell ⟨w2.heap.size, 1, none⟩ (.int .u64 ((x2 : Int) + 1)) = w5 at *
    clear k0 k1 r0 r1 t3 c0 t1 hb3 hA3 hsub hadd
    have hbd : Below w2.heap.size w2 w5.drew := Below.drew hb5
    have hM5 := hM.below hbd
    have hmx : n1 < maxLen := by unfold maxLen; omega
    obtain ⟨w6, hrun, hM6, hk6⟩ := smap_updates hM5 hmx Tryd.underlying69 x.d.frm hf1 (.agg #[.int .u64 ((x1 - x.d.amt : Nat) : Int), .int .u64 ((x2 : Int) + 1)])
    have c0 := (hbox.below hb5 hbox.lt).cell (i := 0) rfl
    have t1 := (hX2.below hb5 lX).cell (i := 1) rfl
    have k0 := hA5.cell (i := 0) rfl
    have k1 := hA5.cell (i := 1) rfl
    have hM6' : SMap w6 a (accM F1) (putN f x.d.frm n1) := hM6.congr hP1.out
    have hn6 := putN_bound f x.d.frm n1
    generalize putN f x.d.frm n1 = n6 at *
    have hX6 := (hX2.below hbd lX).kept hk6 (fun e => by omega)
    have hbx6 := (hbox.below hbd hbox.lt).kept hk6 (fun e => hne.1 e)
    have hV6 := (hV.below hbd).kept hk6 (fun e => hne.2.2 e.symm)
    have hK6 : Kept (fun b => b = a ∨ b = v) w w6 := (Kept.of_below (hB2.trans (hbd.mono hB2.size))).trans (hk6.mono (fun b _ e => Or.inl e))
    have l6 : w2.heap.size < w6.heap.size := Nat.lt_of_lt_of_le (Nat.lt_of_lt_of_le hA5.lt (Nat.le_refl _)) hk6.size
    clear hM6 hM5 hP1 hk6 hbox hV hM hX2
    go_region
    rename_i K hK
    refine hK _ _ ?_
    clear hK hrun c0 t1 k0 k1 hA5 hb5 hbd hB2
    have t0 := hX6.cell (i := 0) rfl
    have t2 := hX6.cell (i := 2) rfl
    have t3 := hX6.cell (i := 3) rfl
    have t5 := hX6.cell (i := 5) rfl
    have t6 := hX6.cell (i := 6) rfl
    have c0 := hbx6.cell (i := 0) rfl
    have c1 := hbx6.cell (i := 1) rfl
    have hmx2 : n2 < maxLen := by unfold maxLen; omega
    by_cases hk : x.d.kind = 1
    · have g3 : (x.d.kind == 2) = false := by rw [hk]; rfl
      have hval : (if x.d.kind = 1 then s.val else pnF s.val x.d.key (some x.d.val)) = s.val := if_pos hk
      by_cases h0 : 0 < x.d.amt
      · have g4 : (0 : Int) < (x.d.amt : Int) := by omega
        have hac : accD s.acc x.d = pnF F1 x.d.to ((F1 x.d.to).1 + x.d.amt, (F1 x.d.to).2) := by rw [hacc.out, if_pos ⟨hk, h0⟩]
        rw [hac, hval] at hF
        clear hk hval hac hacc q6 z3 z4
        have hg2 := accM_get F1 x.d.to
        obtain ⟨y1, hy1⟩ : ∃ q, Hid ((F1 x.d.to).1 = q) := ⟨_, rfl⟩
        obtain ⟨y2, hy2⟩ : ∃ q, Hid ((F1 x.d.to).2 = q) := ⟨_, rfl⟩
        rw [hy1.out, hy2.out] at hg2 hF
        rw [hy1.out] at hle2
        have hP2 : Hid (∀ m, accM (pnF F1 x.d.to (y1 + x.d.amt, y2)) m = putF (accM F1) x.d.to (.agg #[.int .u64 ((y1 : Int) + (x.d.amt : Int)), .int .u64 (y2 : Int)]) m) := by
          intro m
          rw [show ((y1 : Int) + (x.d.amt : Int)) = ((y1 + x.d.amt : Nat) : Int) by omega]
          exact accM_put _ _ _ (fun e => by simp at e; omega) m
        have hadd : IntKind.u64.wrap ((y1 : Int) + (x.d.amt : Int)) = (y1 : Int) + (x.d.amt : Int) := by
          have := hle2.out
          exact wrap64u _ (by omega) (by omega)
        obtain ⟨f1, hf1'⟩ : ∃ q, Hid (accM F1 = q) := ⟨_, rfl⟩
        rw [hf1'.out] at hM6' hg2 hP2
        have lb6 : p < w6.heap.size ∧ a < w6.heap.size ∧ v < w6.heap.size := ⟨hbx6.lt, hM6'.lt, hV6.lt⟩
        have lX6 := hX6.lt
        clear hle2 hy1 hy2
        go_upto_region 11 with fail
        go_cut [7] (fun s7 wx => s7 = .pointer (some ⟨w6.heap.size, 0, none⟩) ∧ wx = (w6.alloc (.cells #[.int .u64 (y1 : Int), .int .u64 (y2 : Int)] 71)).drew)
        case first =>
          have hnb := belowNew w6 (.cells #[.int .u64 0, .int .u64 0] 71)
          have hl1 := smap_run1 hM6' Tryd.underlying69 zeroAcc hf2
          have hl2 := smap_run1 (hM6'.below hnb) Tryd.underlying69 zeroAcc hf2
          rw [hg2] at hl1 hl2
          have u1 := (hX6.below hnb lX6).cell (i := 2) rfl
          have cn : (w6.alloc (.cells #[.int .u64 0, .int .u64 0] 71)).cell? ⟨p, 0, none⟩ = some (.map (some a)) := by rw [cell_same (hnb.block _ lb6.1)]; exact c0
          clear hnb
          go_wp2_with fail
          go_region
          all_goals (
            go_wp2_with fail
            go_meet
            case rel => exact ⟨rfl, rfl⟩)
        case rest =>
          obtain ⟨rfl, hwc⟩ := hcut
          have hb7 : Below w6.heap.size w6 wc := by rw [hwc]; exact Below.drew (belowNew w6 _)
          have hA7 : Arr wc w6.heap.size 71 [.int .u64 (y1 : Int), .int .u64 (y2 : Int)] := by rw [hwc]; exact (Arr.new w6 71 [.int .u64 (y1 : Int), .int .u64 (y2 : Int)]).drew
          clear hwc
          generalize wc = w7 at *
          have k0 := hA7.cell (i := 0) rfl
          have r0 := hA7.frozen 0
          have t3 := (hX6.below hb7 lX6).cell (i := 3) rfl
          have lF7 := hA7.lt
          have hxF7 : w.heap.size ≠ w6.heap.size := by omega
          clear t0 t2 t5 t6 c0 c1
          go_upto_region 13 with fail
          have hA8 : Arr (w7.setCell ⟨w6.heap.size, 0, none⟩ (.int .u64 ((y1 : Int) + (x.d.amt : Int)))) w6.heap.size 71 [.int .u64 ((y1 : Int) + (x.d.amt : Int)), .int .u64 (y2 : Int)] := hA7.set 0 _
          have hb8 : Below w6.heap.size w6 (w7.setCell ⟨w6.heap.size, 0, none⟩ (.int .u64 ((y1 : Int) + (x.d.amt : Int)))) := hb7.setCell (p := ⟨w6.heap.size, 0, none⟩) (Nat.le_refl _) _
          generalize w7.setCell ⟨w6.heap.size, 0, none⟩ (.int .u64 ((y1 : Int) + (x.d.amt : Int))) = w8 at *
          clear k0 r0 t3 hb7 hA7 hadd
          have hbd : Below w6.heap.size w6 w8.drew := Below.drew hb8
          have hmx6 : n6 < maxLen := by unfold maxLen; omega
          obtain ⟨w9, hrun, hM9, hk9⟩ := smap_updates (hM6'.below hbd) hmx6 Tryd.underlying69 x.d.to hf2 (.agg #[.int .u64 ((y1 : Int) + (x.d.amt : Int)), .int .u64 (y2 : Int)])
          have hM9' : SMap w9 a (accM (pnF F1 x.d.to (y1 + x.d.amt, y2))) (putN f1 x.d.to n6) := hM9.congr hP2.out
          have hn9 := putN_bound f1 x.d.to n6
          generalize putN f1 x.d.to n6 = n9 at *
          have c0 := (hbx6.below hb8 hbx6.lt).cell (i := 0) rfl
          have t2 := (hX6.below hb8 lX6).cell (i := 2) rfl
          have k0 := hA8.cell (i := 0) rfl
          have k1 := hA8.cell (i := 1) rfl
          have hbx9 := (hbx6.below hbd hbx6.lt).kept hk9 (fun e => hne.1 e)
          have hV9 := (hV6.below hbd).kept hk9 (fun e => hne.2.2 e.symm)
          have hK9 : Kept (fun b => b = a ∨ b = v) w w9 := hK6.trans ((Kept.of_below hbd).trans (hk9.mono (fun b _ e => Or.inl e)))
          have hfin := hF w9 ⟨n9, by omega, hM9'⟩ ⟨n2, by omega, hV9⟩ hbx9
          clear hM9 hP2 hk9 hbx6 hV6 hM6' hX6 hF hM9' hbx9 hV9 hK6 hg2
          go_region
          rename_i K hK
          refine hK _ _ ?_
          clear hK hrun
          go_wp2
          go_ret
          exact ⟨rfl, hfin, hK9⟩
      · have g4 : ¬ (0 : Int) < (x.d.amt : Int) := by omega
        have hac : accD s.acc x.d = F1 := by rw [hacc.out, if_neg (fun e => h0 e.2)]
        rw [hac, hval] at hF
        have hfin := hF w6 ⟨n6, by omega, hM6'⟩ ⟨n2, by omega, hV6⟩ hbx6
        clear hk hval hac hacc q6 z3 z4 hF
        go_wp2
        go_ret
        exact ⟨rfl, hfin, hK6⟩
    · have hk2 := (q6.out hk).1
      have g3 : (x.d.kind == 2) = true := by rw [hk2]; rfl
      have hval : (if x.d.kind = 1 then s.val else pnF s.val x.d.key (some x.d.val)) = pnF s.val x.d.key (some x.d.val) := if_neg hk
      have hac : accD s.acc x.d = F1 := by rw [hacc.out, if_neg (fun e => hk e.1)]
      rw [hac, hval] at hF
      obtain ⟨w7, hrun, hV7, hk7⟩ := smap_updates (hV6.below (below_drewN (Below.refl _ w6) 1)) hmx2 Tryd.underlying72 x.d.key hf3 (.agg #[.string x.d.val])
      have hV7' : SMap w7 v (valM (pnF s.val x.d.key (some x.d.val))) (putN (valM s.val) x.d.key n2) := hV7.congr (valM_put s.val x.d.key x.d.val)
      have hn7 := putN_bound (valM s.val) x.d.key n2
      generalize putN (valM s.val) x.d.key n2 = n7 at *
      have hM7 := (hM6'.below (below_drewN (Below.refl _ w6) 1)).kept hk7 (fun e => hne.2.2 e)
      have hbx7 := (hbx6.below (below_drewN (Below.refl _ w6) 1) hbx6.lt).kept hk7 (fun e => hne.2.1 e)
      have hK7 : Kept (fun b => b = a ∨ b = v) w w7 := hK6.trans ((Kept.of_below (below_drewN (Below.refl w6.heap.size w6) 1)).trans (hk7.mono (fun b _ e => Or.inr e)))
      have hfin := hF w7 ⟨n6, by omega, hM7⟩ ⟨n7, by omega, hV7'⟩ hbx7
      have hrun' : (Instr.mapUpdate 72 (.map (some v)) (.string x.d.key) (.agg #[.string x.d.val])).run Tryd.prog w6.drew = .ok () w7 := hrun
      clear hk hk2 hval hac hacc q6 z3 z4 hF hrun hV7 hk7 hM7 hbx7 hV7' hV6 hM6'
      go_wp2_with fail
      go_region
      rename_i K hK
      refine hK _ _ ?_
      clear hK hrun'
      go_wp2
      go_ret
      exact ⟨rfl, hfin, hK7⟩

/-- What Apply does, of the blocks that a state has. -/
def GotApply (W : World) (p : Nat) (S : Nat → Prop) (s : StF) (N : Nat) (d : TxD) (e : Ending) (w : World) : Prop :=
  e = .returned (.int .i64 (applyE s d : Nat)) ∧ PS w p S (applyF s d) (N + 2) ∧ Kept S W w

theorem apply_any (x : TxM) (w : World) (hA : x.At w) (hs : TxSizes x.d) (hn : x.d.ws.length ≤ 500) (p : Nat) (S : Nat → Prop) (N : Nat) (s : StF) (h : PS w p S s N) (hN : N ≤ 1000000) :
    Calls Tryd.prog 19 #[.pointer (some ⟨p, 0, none⟩), x.v] w fun e w' => GotApply w p S s N x.d e w' := by
  obtain ⟨a, v, hS, h1⟩ := h
  by_cases hz : applyE s x.d = 0
  · refine (apply_yes x w hA hs hn p a v N s h1 hN hz).mono ?_
    rintro e w' ⟨rfl, h2, h3⟩
    exact ⟨by rw [hz]; rfl, ⟨a, v, hS, h2⟩, h3.mono (fun b _ e => (hS b).2 (Or.inr e))⟩
  · refine (apply_no x w hA hs hn p a v N s h1 hz).mono ?_
    rintro e w' ⟨rfl, h2⟩
    exact ⟨rfl, ⟨a, v, hS, by rw [applyF_no hz]; exact (h1.below h2).mono (Nat.le_add_right _ _)⟩, Kept.of_below h2⟩
end Go.Proofs.YtajpfkenhchafaaDoor

/- What New and Copy do. -/
namespace Go.Proofs.YtajpfkenhchafaaDoor
open Go Go.RowKit
set_option linter.unusedVariables false

/-- A new state is handed back. -/
def GotState (W : World) (s : StF) (N : Nat) (e : Ending) (w : World) : Prop :=
  ∃ p S, e = .returned (.pointer (some ⟨p, 0, none⟩)) ∧ PS w p S s N ∧ (∀ b, S b → W.heap.size ≤ b) ∧ Below W.heap.size W w

theorem newF_none (funds : Nat) : newF [] funds = ⟨fun _ => (0, 0), fun _ => none⟩ := by
  unfold newF inN
  simp

theorem newF_zero (rich : List ByteArray) : newF rich 0 = ⟨fun _ => (0, 0), fun _ => none⟩ := by
  unfold newF
  congr 1
  refine funext (fun n => ?_)
  split <;> simp

theorem accM_zero (n : ByteArray) : accM (fun _ => (0, 0)) n = none := by unfold accM; rw [if_pos rfl]
theorem valM_zero (n : ByteArray) : valM (fun _ => none) n = none := rfl

theorem minV (x : Nat) : Value.int .u64 (if (4611686018427387903 : Int) < (x : Int) then 4611686018427387903 else (x : Int)) = Value.int .u64 ((min x 4611686018427387903 : Nat) : Int) := by
  split <;> congr 1 <;> omega

set_option maxRecDepth 100000 in
set_option maxHeartbeats 1000000 in
theorem new22_any (rich : List ByteArray) (ao : Option Addr) (cp : Nat) (funds : Nat) (w : World) (hR : RowAt strK w ao rich) (hz : ∀ s ∈ rich, s.size ≤ maxLen) (hl : rich.length ≤ 1000) :
    Calls Tryd.prog 23 #[.slice ao rich.length cp, .int .u64 (funds : Int)] w fun e w' => GotState w (newF rich funds) rich.length e w' := by
  have hw3 : PSt (((w.alloc (.map #[] 0)).alloc (.map #[] 0)).alloc (.cells #[.map (some w.heap.size), .map (some (w.heap.size + 1))] 74)) (w.heap.size + 2) w.heap.size (w.heap.size + 1) ⟨fun _ => (0, 0), fun _ => none⟩ 0 := by
    have e1 : (w.alloc (.map #[] 0)).heap.size = w.heap.size + 1 := alloc_size _ _
    have e2 : ((w.alloc (.map #[] 0)).alloc (.map #[] 0)).heap.size = w.heap.size + 2 := by rw [alloc_size, e1]
    have m1 := ((SMap.new w).below (belowNew _ (.map #[] 0))).below (belowNew _ (.cells #[.map (some w.heap.size), .map (some (w.heap.size + 1))] 74))
    have m2 := (SMap.new (w.alloc (.map #[] 0))).below (belowNew _ (.cells #[.map (some w.heap.size), .map (some (w.heap.size + 1))] 74))
    rw [e1] at m2
    have bx := Arr.new ((w.alloc (.map #[] 0)).alloc (.map #[] 0)) 74 [.map (some w.heap.size), .map (some (w.heap.size + 1))]
    rw [e2] at bx
    exact ⟨bx, ⟨0, Nat.le_refl _, m1.congr accM_zero⟩, ⟨0, Nat.le_refl _, m2.congr valM_zero⟩, by omega, by omega, by omega, by have := StOk.new [] 0; rwa [newF_none] at this⟩
  have hB3 : Below w.heap.size w (((w.alloc (.map #[] 0)).alloc (.map #[] 0)).alloc (.cells #[.map (some w.heap.size), .map (some (w.heap.size + 1))] 74)) :=
    (((Below.refl _ w).alloc (Nat.le_refl _) _).alloc (by rw [alloc_size]; omega) _).alloc (by rw [alloc_size, alloc_size]; omega) _
  have e2 : ((w.alloc (.map #[] 0)).alloc (.map #[] 0)).heap.size = w.heap.size + 2 := by rw [alloc_size, alloc_size]
  have mk1 : ∀ (w : World), (Instr.makeMap 69 none).run Tryd.prog w = .ok (.map (some w.heap.size)) (w.alloc (.map #[] 0)) := fun w => rfl
  have mk2 : ∀ (w : World), (Instr.makeMap 72 none).run Tryd.prog w = .ok (.map (some w.heap.size)) (w.alloc (.map #[] 0)) := fun w => rfl
  by_cases hf : funds = 0
  · have g1 : ((funds : Int) == 0) = true := by rw [hf]; rfl
    have hfz : newF rich funds = ⟨fun _ => (0, 0), fun _ => none⟩ := by rw [hf]; exact newF_zero rich
    rw [hfz]
    have hP := hw3.mono (Nat.zero_le rich.length)
    clear hw3 hf hfz
    go_enter Tryd.func23, Tryd.ntmps23
    go_wp2
    go_ret
    exact ⟨w.heap.size + 2, fun b => b = w.heap.size + 2 ∨ b = w.heap.size ∨ b = w.heap.size + 1, rfl, ⟨_, _, fun b => Iff.rfl, hP⟩, fun b hb => by omega, hB3⟩
  · have g1 : ((funds : Int) == 0) = false := by rw [beq_eq_false_iff_ne]; omega
    have hmin : Hid (1 ≤ min funds 4611686018427387903) := by show 1 ≤ _; omega
    have hst : PSt (((w.alloc (.map #[] 0)).alloc (.map #[] 0)).alloc (.cells #[.map (some w.heap.size), .map (some (w.heap.size + 1))] 74)) (w.heap.size + 2) w.heap.size (w.heap.size + 1) (newF (rich.take 0) funds) 0 := by
      rw [List.take_zero, newF_none]
      exact hw3
    have hfin : Hid (newF rich funds = newF (rich.take rich.length) funds) := by show newF rich funds = _; rw [List.take_length]
    clear hw3 e2
    obtain ⟨wi, hwi⟩ : ∃ q, Hid (((w.alloc (.map #[] 0)).alloc (.map #[] 0)).alloc (.cells #[.map (some w.heap.size), .map (some (w.heap.size + 1))] 74) = q) := ⟨_, rfl⟩
    go_enter Tryd.func23, Tryd.ntmps23
    go_wp2_with fail
    rw [hwi.out] at hst hB3
    go_loopw [17] (fun v17 wr => ∃ i : Nat, i ≤ rich.length ∧ v17 = .int .i64 (i : Int) ∧ PSt wr (w.heap.size + 2) w.heap.size (w.heap.size + 1) (newF (rich.take i) funds) i ∧ Below w.heap.size w wr) (fun v _ => rich.length - (intOf v).toNat)
    case atStart => exact ⟨0, Nat.zero_le _, rfl, by rw [hwi.out]; exact hst, by rw [hwi.out]; exact hB3⟩
    case round =>
      obtain ⟨i, hi, rfl, hP, hb⟩ := hrel
      clear hst hB3 mk1 mk2
      by_cases hil : i < rich.length
      · have g2 : (i : Int) < (rich.length : Int) := by omega
        obtain ⟨x, hx⟩ : ∃ p, rich[i]? = some p := ⟨_, List.getElem?_eq_getElem hil⟩
        obtain ⟨b2, off, rfl, hbl, hcell⟩ := (hR.below hb).strs i (by exact hil)
        have hxi : rich[i] = x := (List.getElem?_eq_some_iff.1 hx).2
        rw [hxi] at hcell
        have hid := hz x (List.mem_of_getElem? hx)
        have hnx := newF_step rich funds hx
        have hvx : (newF (rich.take (i + 1)) funds).val = (newF (rich.take i) funds).val := rfl
        have cN := fun w1 => isName22_any x w1
        obtain ⟨bb, hbb⟩ : ∃ q, Hid (isNm x = q) := ⟨_, rfl⟩
        rw [hbb.out] at cN
        replace hnx : Hid _ := hnx
        replace hvx : Hid _ := hvx
        clear hxi
        go_wp2_with fail
        refine (cN _).mono ?_
        rintro e w1 ⟨rfl, hb1⟩
        have hP1 := hP.below hb1
        have hb2 := hb.trans (hb1.mono hb.size)
        clear hP hb hb1 cN
        cases bb with
        | false =>
          have he : (newF (rich.take (i + 1)) funds) = newF (rich.take i) funds := by
            have h1 : (newF (rich.take (i + 1)) funds).acc = (newF (rich.take i) funds).acc := funext (fun n => by rw [hnx.out n, if_neg (by rw [hbb.out]; decide)])
            have h2 := hvx.out
            generalize newF (rich.take (i + 1)) funds = A at h1 h2 ⊢
            generalize newF (rich.take i) funds = B at h1 h2 ⊢
            cases A; cases B
            simp only at h1 h2
            rw [h1, h2]
          have hP2 : PSt w1 (w.heap.size + 2) w.heap.size (w.heap.size + 1) (newF (rich.take (i + 1)) funds) (i + 1) := by rw [he]; exact hP1.mono (Nat.le_succ _)
          clear he hnx hvx
          go_wp2
          go_roundw
          case rel => exact ⟨i + 1, by omega, by go_num, hP2, hb2⟩
          case measure => simp [intOf]; omega
        | true =>
          obtain ⟨n1, hn1, hM⟩ := hP1.acc
          have c0 := hP1.box.cell (i := 0) rfl
          have hmx : n1 < maxLen := by unfold maxLen; omega
          have hbx := hP1.box
          obtain ⟨n2, hn2, hV⟩ := hP1.val
          have hok := (StOk.new (rich.take (i + 1)) funds).mono (Nat.zero_le (i + 1))
          have hP2 : ∀ w5 n, SMap w5 w.heap.size (putF (accM (newF (rich.take i) funds).acc) x (.agg #[.int .u64 ((min funds 4611686018427387903 : Nat) : Int), .int .u64 0])) n → n ≤ i + 1 → Kept (fun k => k = w.heap.size) w1 w5 → PSt w5 (w.heap.size + 2) w.heap.size (w.heap.size + 1) (newF (rich.take (i + 1)) funds) (i + 1) := by
            intro w5 n hM5 hn hk
            refine ⟨hbx.kept hk (by omega), ⟨n, hn, hM5.congr (fun m => ?_)⟩, ⟨n2, by omega, ?_⟩, by omega, by omega, by omega, hok⟩
            · have hm2 := hmin.out
              have h1 : (newF (rich.take (i + 1)) funds).acc = pnF (newF (rich.take i) funds).acc x (min funds 4611686018427387903, 0) := funext (fun n => by rw [hnx.out n, if_pos hbb.out])
              rw [h1]
              exact accM_put _ _ _ (fun e => by simp only [Prod.mk.injEq] at e; omega) m
            · rw [hvx.out]
              exact hV.kept hk (by omega)
          clear hP1 hnx hvx hV hok hbx
          generalize accM (newF (rich.take i) funds).acc = f at *
          go_wp2_with (at_mapUpdate; refine smap_put rfl _ _ _ 69 rfl 71 Tryd.underlying69 w.heap.size _ _ rfl hM hmx x hid rfl _ rfl ?_; intro w5 hM5 hk5)
          rw [minV] at hM5
          have hP5 := hP2 w5 _ hM5 (Nat.le_trans (putN_bound f x n1) (by omega)) hk5
          have hb5 : Below w.heap.size w w5 := hb2.trans (Kept.below hk5 hb2.size (fun k e => by omega))
          clear hP2 hM5 hk5 hM c0
          go_roundw
          case rel => exact ⟨i + 1, by omega, by go_num, hP5, hb5⟩
          case measure => simp [intOf]; omega
      · have g2 : ¬ (i : Int) < (rich.length : Int) := by omega
        have hir : i = rich.length := by omega
        rw [hir, ← hfin.out] at hP
        clear hir hi hil
        go_wp2
        go_ret
        exact ⟨w.heap.size + 2, fun b => b = w.heap.size + 2 ∨ b = w.heap.size ∨ b = w.heap.size + 1, rfl, ⟨_, _, fun b => Iff.rfl, hP⟩, fun b hb => by omega, hb⟩
end Go.Proofs.YtajpfkenhchafaaDoor

/- tusklaw22.pay; what Account, Value, Apply do, of a state's blocks; what tusklaw22.works does. -/
namespace Go.Proofs.YtajpfkenhchafaaDoor
open Go Go.RowKit
set_option linter.unusedVariables false

theorem accountS_any (n : ByteArray) (hn : n.size ≤ maxLen) (w : World) (p : Nat) (S : Nat → Prop) (s : StF) (N : Nat) (h : PS w p S s N) :
    Calls Tryd.prog 21 #[.pointer (some ⟨p, 0, none⟩), .string n] w fun e w' => e = .returned (.tuple #[.int .u64 ((s.acc n).1 : Int), .int .u64 ((s.acc n).2 : Int)]) ∧ Below w.heap.size w w' := by
  obtain ⟨a, v, -, h1⟩ := h
  exact account_any n hn w p a v N s h1

/-- A transaction that pays, of the call's own. -/
def GotSend (W : World) (m n : Nat) (e : Ending) (w : World) : Prop := ∃ y : TxM, e = .returned y.v ∧ y.d = sendD m n ∧ y.At w ∧ Below W.heap.size W w

theorem send_sizes (m n : Nat) : TxSizes (sendD m n) := by
  have h1 : nA.size = 1 := rfl
  have h2 : nB.size = 1 := rfl
  have h3 : wA.size = 3 := rfl
  have h4 : wB.size = 3 := rfl
  refine ⟨?_, ?_, Nat.zero_le _, Nat.zero_le _, fun s hs => (by cases hs), fun s hs => ?_⟩
  · show nA.size ≤ maxLen; unfold maxLen; omega
  · show nB.size ≤ maxLen; unfold maxLen; omega
  · have : s = wA ∨ s = wB := by simpa [sendD] using hs
    unfold maxLen
    rcases this with e | e <;> rw [e] <;> omega

theorem row_one (w : World) (x : ByteArray) : RowAt strK (w.alloc (.cells #[.string x] 9)) (some ⟨w.heap.size, 0, none⟩) [x] := by
  refine StrsAt.row (fun j hj => ?_)
  obtain rfl : j = 0 := by simp at hj; omega
  exact ⟨w.heap.size, 0, rfl, by rw [alloc_size]; omega, (Arr.new w 9 [.string x]).cell (i := 0) rfl⟩

theorem strs_two {w : World} {g : Nat} {x y : ByteArray} (h : Arr w g 9 [.string x, .string y]) : StrsAt w (some ⟨g, 0, none⟩) [x, y] := by
  intro j hj
  match j, hj with
  | 0, _ => exact ⟨g, 0, rfl, h.lt, h.cell (i := 0) rfl⟩
  | 1, _ => exact ⟨g, 0, rfl, h.lt, h.cell (i := 1) rfl⟩
  | k + 2, hk => simp at hk; omega

/-- What Apply does of it. -/
def GotE (W : World) (p : Nat) (S : Nat → Prop) (s : StF) (N : Nat) (d : TxD) (v : Int) (e : Ending) (w : World) : Prop :=
  e = .returned (.int .i64 v) ∧ PS w p S (applyF s d) (N + 2) ∧ Kept S W w

theorem applyD_any (y : TxM) {d : TxD} (hd : y.d = d) (w : World) (hA : y.At w) (hs : TxSizes d) (hn : d.ws.length ≤ 500) (p : Nat) (S : Nat → Prop) (N : Nat) (s : StF) (h : PS w p S s N) (hN : N ≤ 1000000) (v : Int) (hv : ((applyE s d : Nat) : Int) = v) :
    Calls Tryd.prog 19 #[.pointer (some ⟨p, 0, none⟩), y.v] w fun e w' => GotE w p S s N d v e w' := by
  subst hd
  refine (apply_any y w hA hs hn p S N s h hN).mono ?_
  rintro e w' ⟨rfl, h1, h2⟩
  exact ⟨by rw [hv], h1, h2⟩
end Go.Proofs.YtajpfkenhchafaaDoor

/- Are the names too many? -/
namespace Go.Proofs.YtajpfkenhchafaaDoor
open Go Go.RowKit
set_option linter.unusedVariables false

def richN (l : List ByteArray) : Nat := (l.map (fun s => 1 + s.size / 100)).sum
def richB (l : List ByteArray) : Bool := decide (100 < richN l)

theorem richN_next {l : List ByteArray} {i : Nat} {x : ByteArray} (hx : l[i]? = some x) : richN (l.take (i + 1)) = richN (l.take i) + (1 + x.size / 100) := by
  unfold richN
  rw [List.take_add_one, hx, List.map_append, List.sum_append]
  simp

theorem richN_bound : ∀ (l : List ByteArray), (∀ s ∈ l, s.size ≤ 1048576) → richN l ≤ l.length * 10486
  | [], _ => Nat.le_refl _
  | s :: r, h => by
    have h1 := richN_bound r (fun x hx => h x (List.mem_cons_of_mem _ hx))
    have h2 := h s List.mem_cons_self
    unfold richN at h1 ⊢
    rw [List.map_cons, List.sum_cons, List.length_cons, Nat.add_mul]
    omega

theorem richN_len : ∀ (l : List ByteArray), l.length ≤ richN l
  | [] => Nat.le_refl _
  | s :: r => by
    have h1 := richN_len r
    unfold richN at h1 ⊢
    rw [List.map_cons, List.sum_cons, List.length_cons]
    omega

theorem few_rich {l : List ByteArray} (h : richB l = false) : l.length ≤ 100 := by
  have h0 := of_decide_eq_false h
  have := richN_len l
  omega

set_option maxRecDepth 100000 in
set_option maxHeartbeats 1000000 in
theorem rich_any (l : List ByteArray) (ao : Option Addr) (cp : Nat) (w : World) (hl : RowAt strK w ao l) (hn : l.length ≤ 1048576) (hz : ∀ s ∈ l, s.size ≤ 1048576) :
    Calls Tryd.prog 7 #[.slice ao l.length cp] w fun e w' => e = .returned (.bool (richB l)) ∧ Below w.heap.size w w' := by
  go_enter Tryd.func7, Tryd.ntmps7
  go_wp2_with fail
  go_loopw [3, 4] (fun v3 v4 wr => ∃ i n : Nat, i ≤ l.length ∧ v3 = .int .i64 (n : Int) ∧ v4 = .int .i64 (i : Int) ∧ Hid (n = richN (l.take i)) ∧ n ≤ i * 10486 ∧ Below w.heap.size w wr) (fun _ v _ => l.length - (intOf v).toNat)
  case atStart => exact ⟨0, 0, Nat.zero_le _, rfl, rfl, rfl, by omega, Below.refl _ _⟩
  case round =>
    obtain ⟨i, n, hi, rfl, rfl, hnt, hnm, hb⟩ := hrel
    by_cases hil : i < l.length
    · have g1 : (i : Int) < (l.length : Int) := by omega
      obtain ⟨x, hx⟩ : ∃ p, l[i]? = some p := ⟨_, List.getElem?_eq_getElem hil⟩
      obtain ⟨b, off, rfl, hbl, hcell⟩ := (hl.below hb).strs i hil
      have hxi : l[i] = x := (List.getElem?_eq_some_iff.1 hx).2
      rw [hxi] at hcell
      have hxz := hz x (List.mem_of_getElem? hx)
      have hnx : Hid (n + (1 + x.size / 100) = richN (l.take (i + 1))) := by unfold Hid; rw [richN_next hx, ← hnt.out]
      clear hnt hx hxi
      go_wp2
      go_roundw
      case rel => exact ⟨i + 1, n + (1 + x.size / 100), by omega, by go_num, by go_num, hnx, by omega, hb⟩
      case measure => simp [intOf]; omega
    · have g1 : ¬ (i : Int) < (l.length : Int) := by omega
      have hnt2 : n = richN l := by
        have := hnt.out
        rw [show i = l.length by omega, List.take_length] at this
        exact this
      have hfin : Hid (decide ((100 : Int) < (n : Int)) = richB l) := by
        unfold Hid richB
        rw [← hnt2]
        by_cases h : 100 < n
        · rw [decide_eq_true h, decide_eq_true (by omega : (100 : Int) < (n : Int))]
        · rw [decide_eq_false h, decide_eq_false (by omega : ¬ (100 : Int) < (n : Int))]
      clear hnt hnt2
      go_wp2
      go_ret
      exact ⟨by rw [← hfin.out]; rfl, hb⟩
end Go.Proofs.YtajpfkenhchafaaDoor

/- Transactions done one behind the other; what the statements' rows give at each. -/
namespace Go.Proofs.YtajpfkenhchafaaDoor
open Go Go.RowKit
set_option linter.unusedVariables false

/-- The state behind the first i. -/
def runF (s : StF) (l : List TxM) (i : Nat) : StF := (l.take i).foldl (fun s x => applyF s x.d) s

theorem runF_zero (s : StF) (l : List TxM) : runF s l 0 = s := rfl

theorem runF_step (s : StF) {l : List TxM} {i : Nat} {x : TxM} (hx : l[i]? = some x) : runF s l (i + 1) = applyF (runF s l i) x.d := by
  unfold runF
  rw [List.take_add_one, hx, List.foldl_append]
  rfl

/-- What the statements' rows are, where they are not too many. -/
structure RowsM (W : World) (lo : Option Addr) (l : List TxM) : Prop where
  row : RowAt txK W lo l
  len : l.length ≤ 500
  fit : ∀ x ∈ l, TxSizes x.d ∧ x.d.rs.length ≤ 500 ∧ x.d.ws.length ≤ 500

theorem RowsM.of {W : World} {lo : Option Addr} {l : List TxM} (h : RowAt txK W lo l) (hw : Wide22 l) (hg : greatM l = false) : RowsM W lo l := by
  obtain ⟨h1, h2⟩ := fewM_of hg
  exact ⟨h, h1, fun x hx => ⟨(hw.2 x hx).1, h2 x hx⟩⟩

theorem RowsM.below {W w : World} {lo : Option Addr} {l : List TxM} (h : RowsM W lo l) (hb : Below W.heap.size W w) : RowsM w lo l := ⟨h.row.below hb, h.len, h.fit⟩

/-- The beginning's names, copied. -/
theorem copied22 {W w : World} {ao : Option Addr} {l : List ByteArray} (h : OwnStrs W.heap.size w ao l) : RowAt strK w ao l := StrsAt.row h.at
end Go.Proofs.YtajpfkenhchafaaDoor

/- What tusklaw20.Own does, of whole transactions: a row of the call's own that shares nothing. -/
namespace Go.Proofs.YtajpfkenhchafaaDoor
open Go Go.RowKit
set_option linter.unusedVariables false

/-- One by one the same, wherever their lists lie. -/
def LikeL : List TxA → List TxA → Prop
  | [], [] => True
  | y :: m, x :: l => y.Like x ∧ LikeL m l
  | _, _ => False

theorem LikeL.push : ∀ {m l : List TxA} {y x : TxA}, LikeL m l → y.Like x → LikeL (m ++ [y]) (l ++ [x])
  | [], [], _, _, _, h => ⟨h, trivial⟩
  | [], _ :: _, _, _, h, _ => h.elim
  | _ :: _, [], _, _, h, _ => h.elim
  | _ :: _, _ :: _, _, _, h, k => ⟨h.1, LikeL.push h.2 k⟩

/-- A row of the call's own that shares nothing with what was there. -/
def GotOwnS (W : World) (l : List TxA) (e : Ending) (w : World) : Prop :=
  ∃ ao cap m, e = .returned (.slice ao m.length cap) ∧ KQ txA 50 w W.heap.size (.slice ao m.length cap) m ∧ (∀ y ∈ m, ∀ b, txA.foot y b → W.heap.size ≤ b) ∧ LikeL m l ∧ Below W.heap.size W w

theorem like_take {m l : List TxA} {i : Nat} {y x : TxA} (h : LikeL m (l.take i)) (hx : l[i]? = some x) (hy : y.Like x) : LikeL (m ++ [y]) (l.take (i + 1)) := by
  rw [List.take_add_one, hx, Option.toList_some]
  exact h.push hy

set_option maxRecDepth 100000 in
set_option maxHeartbeats 2000000 in
theorem ownS_any (l : List TxA) (ao : Option Addr) (cp : Nat) (w : World) (hl : RowAt txA w ao l) (hf : Few l) :
    Calls Tryd.prog 12 #[.slice ao l.length cp] w fun e w' => GotOwnS w l e w' := by
  have hl1 := hf.1
  obtain ⟨i0, z0, hi0, hz0, hs0, hb0, hzs0⟩ := txInfoA
  have hQ0 := KQ.empty txA 50 w w.heap.size
  go_enter Tryd.func12, Tryd.ntmps12
  go_wp2_with fail
  go_loopw [3, 4] (fun v3 v4 wr => ∃ (i : Nat) (pa : Option Addr) (pc : Nat) (m : List TxA), i ≤ l.length ∧ v3 = .slice pa m.length pc ∧ v4 = .int .i64 (i : Int) ∧ KQ txA 50 wr w.heap.size (.slice pa m.length pc) m ∧ Hid (LikeL m (l.take i)) ∧ Hid (∀ y ∈ m, ∀ b, txA.foot y b → w.heap.size ≤ b) ∧ Hid (m.length = i) ∧ Below w.heap.size w wr) (fun _ v _ => l.length - (intOf v).toNat)
  case atStart => exact ⟨0, none, 0, [], Nat.zero_le _, rfl, rfl, hQ0, by unfold Hid; rw [List.take_zero]; exact trivial, fun y hy => (by cases hy), rfl, Below.refl _ _⟩
  case round =>
    obtain ⟨i, pa, pc, m, hi, rfl, rfl, hq, hm, hft, hml, hb⟩ := hrel
    clear hQ0
    by_cases hil : i < l.length
    · have g1 : (i : Int) < (l.length : Int) := by omega
      obtain ⟨x, hx⟩ : ∃ p, l[i]? = some p := ⟨_, List.getElem?_eq_getElem hil⟩
      obtain ⟨b, off, rfl, hbl, x0, x1, x2, x3, x4, x5, x6, x7, x8, hA⟩ := (hl.below hb).tx hx
      obtain ⟨hxr, hxw⟩ := hf.2 x (List.mem_of_getElem? hx)
      have cO := ownA_full x wr hA (by omega) (by omega)
      have hnx : Hid (∀ y : TxA, y.Like x → LikeL (m ++ [y]) (l.take (i + 1))) := fun y e1 => like_take hm.out hx e1
      have hql : Hid (∀ b, (Value.slice pa m.length pc).ownBlock = some b → w.heap.size ≤ b ∧ b < wr.heap.size) := fun b e => hq.lt b e
      have hml2 : m.length ≤ 1000 := by rw [hml.out]; omega
      have m1 : m.length + 1 ≤ maxLen := by unfold maxLen; omega
      have m2 : (m.length + 1) * 136 ≤ 140737488355328 := by omega
      have hx' : Hid _ := hx
      clear hA hx hm
      obtain ⟨kind, frm, dst, amt, non, key, val, rs, ws, ra, rc, wa, wc⟩ := x
      unfold TxA.v at cO
      go_wp2_with fail
      refine cO.mono ?_
      rintro _ w3 ⟨y, rfl, hy1, hyA, hyQ, hyf, hb3⟩
      have hnew := belowNew w3 (.cells y.c.toArray 50)
      have hNW := new_tx w3 y
      have hq3 := (hq.below hb3).below hnew
      have hyA3 := hyA.below hnew
      have hb4 := (hb.trans (hb3.mono hb.size)).trans (hnew.mono (by have := hb.size; have := hb3.size; omega))
      have hbs := hb4.size
      have hyo : ∀ b, txA.foot y b → (Value.slice pa m.length pc).ownBlock ≠ some b := fun b hb e => by
        have h1 := hyf b hb
        have h2 := (hql.out b e).2
        omega
      have hft2 : Hid (∀ z ∈ m ++ [y], ∀ b, txA.foot z b → w.heap.size ≤ b) := fun z hz b hzb => by
        rcases List.mem_append.1 hz with h | h
        · exact hft.out z h b hzb
        · rw [List.mem_singleton.1 h] at hzb
          exact Nat.le_trans hb.size (hyf b hzb)
      have hnx2 : Hid (LikeL (m ++ [y]) (l.take (i + 1))) := hnx.out y hy1
      clear cO hnx hyA hyQ hyf hq hy1 hft
      obtain ⟨Y, hY⟩ : ∃ Y, Y = y := ⟨_, rfl⟩
      rw [← hY] at hNW hq3 hyA3 hb4 hbs hyo hnx2 hft2
      have hYc : w3.alloc (.cells y.c.toArray 50) = w3.alloc (.cells Y.c.toArray 50) := by rw [hY]
      obtain ⟨w4, hw4⟩ : ∃ q, w3.alloc (.cells Y.c.toArray 50) = q := ⟨_, rfl⟩
      rw [hw4] at hNW hq3 hyA3 hb4 hbs hYc
      replace hY : Hid _ := hY
      clear hnew hw4
      obtain ⟨kind', frm', dst', amt', non', key', val', rs', ws', ra', rc', wa', wc'⟩ := y
      replace hYc : w3.alloc (.cells #[.int .i64 kind', .string frm', .string dst', .int .u64 amt', .int .u64 non', .string key', .string val', .slice ra' rs'.length rc', .slice wa' ws'.length wc'] 50) = w4 := hYc
      unfold TxA.v
      go_wp2_with (at_builtin; refine wpList_pushN (K := txA) rfl _ _ 24 rfl w.heap.size 50 i0 _ 136 Tryd.underlying24 hi0 hz0 hs0 hb0 hzs0 _ m rfl hq3 Y hyA3 hyo ⟨w3.heap.size, 0, none⟩ 1 rfl hNW m1 m2 hbs ?_; intro ao3 cap3 w6 hQ6 hk6 hf6)
      have hb8 := hb4.trans (hk6.below hb4.size (fun b e => (hql.out b e).1))
      have hln : Hid ((m ++ [Y]).length = i + 1) := by unfold Hid; rw [List.length_append, List.length_singleton, hml.out]
      have hle : (m ++ [Y]).length = m.length + 1 := by simp
      have hQ7 : KQ txA 50 w6 w.heap.size (.slice ao3 (m ++ [Y]).length cap3) (m ++ [Y]) := by first | exact hQ6 | (rw [hle]; exact hQ6)
      clear hq3 hk6 hf6 hQ6 hYc hNW hyA3 hb4 hyo
      replace hle : Hid _ := hle
      go_roundw
      case rel => exact ⟨i + 1, ao3, cap3, m ++ [Y], by omega, by rw [hle.out], by go_num, hQ7, hnx2, hft2, hln, hb8⟩
      case measure => simp [intOf]; omega
    · have g1 : ¬ (i : Int) < (l.length : Int) := by omega
      have hir : i = l.length := by omega
      have hm2 : LikeL m l := by have := hm.out; rwa [hir, List.take_length] at this
      have hfin : GotOwnS w l (.returned (.slice pa m.length pc)) wr := ⟨pa, pc, m, rfl, hq, hft.out, hm2, hb⟩
      clear hir hm2 hq hm hft
      go_wp2
      go_ret
      exact hfin

/-- The transactions of a row, its lists where the copies lie. -/
def layM : List TxM → List TxA → List TxM
  | x :: l, y :: m => ⟨x.d, y.ra, y.rc, y.wa, y.wc⟩ :: layM l m
  | _, _ => []

theorem layM_a : ∀ {l : List TxM} {m : List TxA}, LikeL m (l.map TxM.a) → (layM l m).map TxM.a = m ∧ (layM l m).map TxM.d = l.map TxM.d
  | [], [], _ => ⟨rfl, rfl⟩
  | [], _ :: _, h => h.elim
  | _ :: _, [], h => h.elim
  | x :: l, y :: m, h => by
      obtain ⟨h1, h2⟩ := h
      obtain ⟨e1, e2⟩ := layM_a h2
      obtain ⟨a1, a2, a3, a4, a5, a6, a7, a8, a9⟩ := h1
      refine ⟨?_, ?_⟩
      · show TxM.a ⟨x.d, y.ra, y.rc, y.wa, y.wc⟩ :: (layM l m).map TxM.a = y :: m
        rw [e1]
        congr 1
        cases y
        unfold TxM.a
        unfold TxM.a at a1 a2 a3 a4 a5 a6 a7 a8 a9
        simp only at a1 a2 a3 a4 a5 a6 a7 a8 a9 ⊢
        rw [a1, a2, a3, a4, a5, a6, a7, a8, a9]
      · show x.d :: (layM l m).map TxM.d = x.d :: l.map TxM.d
        rw [e2]

theorem TxA.At.m {w : World} {x : TxM} (h : TxA.At w x.a) : x.At w := ⟨⟨RowAt.strs h.rd, RowAt.strs h.wr⟩, h.nr, h.nw⟩

theorem flat_a (l : List TxM) : flatK txA (l.map TxM.a) = flatK txK l := by
  show (l.map TxM.a).flatMap txA.c = l.flatMap txK.c
  rw [List.flatMap_map]
  rfl

theorem KQ.ofA {w : World} {B : Nat} {q : Value} {l : List TxM} (h : KQ txA 50 w B q (l.map TxM.a)) : KQ txK 50 w B q l := by
  have h1 := h.row
  rw [flat_a, List.length_map] at h1
  exact ⟨h1, fun x hx => (h.at_ x.a (List.mem_map_of_mem hx)).m, fun x hx b hb => h.off x.a (List.mem_map_of_mem hx) b hb, h.lt, h.nil⟩

/-- A row of the call's own that shares nothing, whole transactions. -/
def GotOwnM (W : World) (l : List TxM) (e : Ending) (w : World) : Prop :=
  ∃ ao cap m, e = .returned (.slice ao m.length cap) ∧ KQ txK 50 w W.heap.size (.slice ao m.length cap) m ∧ (∀ y ∈ m, ∀ b, txK.foot y b → W.heap.size ≤ b) ∧ m.map TxM.d = l.map TxM.d ∧ Below W.heap.size W w

theorem RowsM.few {W : World} {lo : Option Addr} {l : List TxM} (h : RowsM W lo l) : Few (l.map TxM.a) := by
  refine ⟨by rw [List.length_map]; exact Nat.le_trans h.len (by decide), fun y hy => ?_⟩
  obtain ⟨x, hx, rfl⟩ := List.mem_map.1 hy
  have := (h.fit x hx).2
  exact ⟨Nat.le_trans this.1 (by decide), Nat.le_trans this.2 (by decide)⟩

theorem ownM_any (l : List TxM) (ao : Option Addr) (cp : Nat) (w : World) (h : RowsM w ao l) :
    Calls Tryd.prog 12 #[.slice ao l.length cp] w fun e w' => GotOwnM w l e w' := by
  have c := ownS_any (l.map TxM.a) ao cp w (rows_a h.row (fun x hx => (h.fit x hx).1)) h.few
  rw [List.length_map] at c
  refine c.mono ?_
  rintro e w' ⟨ra, rc, m, rfl, h1, h2, h3, hb⟩
  obtain ⟨e1, e2⟩ := layM_a h3
  generalize layM l m = m' at e1 e2
  subst e1
  rw [List.length_map] at h1 ⊢
  exact ⟨ra, rc, m', rfl, h1.ofA, fun y hy b hb => h2 y.a (List.mem_map_of_mem hy) b hb, e2, hb⟩

theorem rows_same {l m : List TxM} {W : World} {lo : Option Addr} (h : RowsM W lo l) (e : m.map TxM.d = l.map TxM.d) : m.length = l.length ∧ ∀ x ∈ m, TxSizes x.d ∧ x.d.rs.length ≤ 500 ∧ x.d.ws.length ≤ 500 := by
  refine ⟨by rw [← List.length_map (f := TxM.d), e, List.length_map], fun x hx => ?_⟩
  have h1 : x.d ∈ l.map TxM.d := by rw [← e]; exact List.mem_map_of_mem hx
  obtain ⟨y, hy, hxy⟩ := List.mem_map.1 h1
  rw [← hxy]
  exact h.fit y hy
end Go.Proofs.YtajpfkenhchafaaDoor

/- Numbers: what wraps, and what is picked out of so many. -/
namespace Go.Proofs.YtajpfkenhchafaaDoor.Mx
open Go.RowKit

theorem wrap64_small (n : Int) (h0 : 0 ≤ n) (h1 : n < 9223372036854775808) : wrap64 n = n := by unfold wrap64; omega

theorem wrap_u64 (f : Int) : IntKind.u64.wrap f = f % 18446744073709551616 := by simp [IntKind.wrap, IntKind.bits, IntKind.signed]

theorem u64_range (f : Int) : 0 ≤ IntKind.u64.wrap f ∧ IntKind.u64.wrap f < 18446744073709551616 := by
  rw [wrap_u64]; omega
end Go.Proofs.YtajpfkenhchafaaDoor.Mx

/- Rows of numbers; a number that is picked out of so many. -/
namespace Go.Proofs.YtajpfkenhchafaaDoor
open Go.RowKit
set_option linter.unusedVariables false

/-- Numbers. -/
def intK : Kind Int where
  n := 1
  c v := [.int .i64 v]
  foot _ _ := False
  At _ _ := True
  pos := by decide
  len _ := rfl
  one x u hu := by
    simp only [List.mem_cons, List.not_mem_nil, or_false] at hu
    rcases hu with rfl; rfl
  lt _ h := h.elim
  keep _ _ := trivial

theorem RowAt.int {w : World} {ao : Option Addr} {l : List Int} (h : RowAt intK w ao l) {i : Nat} {v : Int} (hv : l[i]? = some v) :
    ∃ b off, ao = some ⟨b, off, none⟩ ∧ b < w.heap.size ∧ w.cell? ⟨b, off + i, none⟩ = some (.int .i64 v) := by
  obtain ⟨b, off, h1, h2, h3⟩ := h.cell i v hv
  refine ⟨b, off, h1, h2, ?_⟩
  have := h3 0 _ rfl
  have e : off + i * intK.n + 0 = off + i := by show off + i * 1 + 0 = _; omega
  rw [e] at this
  exact this

theorem pick_atC (f : Int) (k : Nat) (hk : 0 < k) (hk2 : k < 9223372036854775808) : ∃ j : Nat, j < k ∧ wrap64 ((IntKind.u64.wrap f).tmod (k : Int)) = (j : Int) := by
  obtain ⟨h0, h1⟩ := Mx.u64_range f
  rw [Int.tmod_eq_emod_of_nonneg h0]
  generalize IntKind.u64.wrap f = m at h0 h1
  have hlt := Int.emod_lt_of_pos m (show (0 : Int) < (k : Int) by omega)
  have hge := Int.emod_nonneg m (show (k : Int) ≠ 0 by omega)
  refine ⟨(m % (k : Int)).toNat, by omega, ?_⟩
  rw [Mx.wrap64_small _ hge (by omega)]
  omega
end Go.Proofs.YtajpfkenhchafaaDoor

/- Rows of rows of numbers: those that came in, and plans of the call's own whose rows lie apart. -/
namespace Go.Proofs.YtajpfkenhchafaaDoor
open Go Go.RowKit
set_option linter.unusedVariables false

/-- A row of numbers, as one of a row. -/
structure IRow where
  l : List Int
  ao : Option Addr
  cap : Nat

def IRow.v (x : IRow) : Value := .slice x.ao x.l.length x.cap

/-- What stands in a plan that lies. -/
def lsP (p : List IRow) : List (List Int) := p.map IRow.l

/-- Rows, with what they reach. -/
def irowK : Kind IRow where
  n := 1
  c x := [.slice x.ao x.l.length x.cap]
  foot x b := rowFoot intK x.ao x.l b
  At w x := RowAt intK w x.ao x.l ∧ (x.ao = none → x.cap = 0)
  pos := by decide
  len _ := rfl
  one x u hu := by
    simp only [List.mem_cons, List.not_mem_nil, or_false] at hu
    rcases hu with rfl; rfl
  lt h hf := h.1.lt hf
  keep h hk := ⟨h.1.keep hk, h.2⟩

/-- Rows, the cells alone. -/
def slotK : Kind IRow where
  n := 1
  c x := [.slice x.ao x.l.length x.cap]
  foot _ _ := False
  At _ _ := True
  pos := by decide
  len _ := rfl
  one x u hu := by
    simp only [List.mem_cons, List.not_mem_nil, or_false] at hu
    rcases hu with rfl; rfl
  lt _ h := h.elim
  keep _ _ := trivial

theorem RowAt.irow {w : World} {ao : Option Addr} {l : List IRow} (h : RowAt irowK w ao l) {i : Nat} {x : IRow} (hx : l[i]? = some x) :
    ∃ b off, ao = some ⟨b, off, none⟩ ∧ b < w.heap.size ∧ w.cell? ⟨b, off + i, none⟩ = some (.slice x.ao x.l.length x.cap) ∧ RowAt intK w x.ao x.l ∧ (x.ao = none → x.cap = 0) := by
  obtain ⟨b, off, h1, h2, h3⟩ := h.cell i x hx
  have := h3 0 _ rfl
  have e : off + i * irowK.n + 0 = off + i := by show off + i * 1 + 0 = _; omega
  rw [e] at this
  exact ⟨b, off, h1, h2, this, h.at_ x (List.mem_of_getElem? hx)⟩

/-- A plan of the call's own. -/
structure PlanQ (w : World) (B : Nat) (q : Value) (p : List IRow) : Prop where
  out : KQ slotK 25 w B q p
  inn : ∀ x ∈ p, KQ intK 3 w B x.v x.l
  off : ∀ x ∈ p, ∀ b, x.v.ownBlock = some b → q.ownBlock ≠ some b
  apart : ∀ (i j : Nat) (x y : IRow), i ≠ j → p[i]? = some x → p[j]? = some y → ∀ b, x.v.ownBlock = some b → y.v.ownBlock ≠ some b

theorem PlanQ.empty (w : World) (B : Nat) : PlanQ w B (.slice none 0 0) [] :=
  ⟨KQ.empty _ _ _ _, fun x hx => (by cases hx), fun x hx => (by cases hx), fun i j x y _ h => by simp at h⟩

theorem PlanQ.kept {S : Nat → Prop} {w w' : World} {B : Nat} {q : Value} {p : List IRow} (h : PlanQ w B q p) (hk : Kept S w w') (hn : ∀ b, B ≤ b → b < w.heap.size → ¬ S b) : PlanQ w' B q p :=
  ⟨h.out.kept hk (fun k e => hn k (h.out.lt k e).1 (h.out.lt k e).2) (fun _ _ _ h => h.elim), fun x hx => (h.inn x hx).kept hk (fun k e => hn k ((h.inn x hx).lt k e).1 ((h.inn x hx).lt k e).2) (fun _ _ _ h => h.elim), h.off, h.apart⟩

theorem PlanQ.below {w w' : World} {B : Nat} {q : Value} {p : List IRow} (h : PlanQ w B q p) (hb : Below w.heap.size w w') : PlanQ w' B q p :=
  h.kept (S := fun _ => False) (Kept.of_below hb) (fun _ _ _ h => h)

theorem PlanQ.form {w : World} {B : Nat} {q : Value} {p : List IRow} (h : PlanQ w B q p) : ∃ ao cap, q = .slice ao p.length cap ∧ (ao = none → cap = 0) ∧ RowAt irowK w ao p := by
  obtain ⟨ao, cap, h1, h2, h3⟩ := h.out.form
  refine ⟨ao, cap, h1, h2, fun i x hx => h3.cell i x hx, fun x hx => ?_⟩
  obtain ⟨a, c, e, h4, h5⟩ := (h.inn x hx).form
  unfold IRow.v at e
  simp only [Value.slice.injEq, true_and] at e
  rw [← e.1] at h5 h4
  rw [← e.2] at h4
  exact ⟨h5, h4⟩

theorem PlanQ.foot_ge {w : World} {B : Nat} {ao : Option Addr} {n cap : Nat} {p : List IRow} (h : PlanQ w B (.slice ao n cap) p) : ∀ b, rowFoot irowK ao p b → B ≤ b := by
  intro b hb
  rcases hb with ⟨hl, off, rfl⟩ | ⟨x, hx, hf⟩
  · exact (h.out.lt b rfl).1
  · rcases hf with ⟨_, off, e⟩ | ⟨y, _, hy⟩
    · exact ((h.inn x hx).lt b (by unfold IRow.v; rw [e]; rfl)).1
    · exact hy.elim

/-- Where row k lies. -/
theorem PlanQ.at {w : World} {B k : Nat} {ao : Option Addr} {n cap : Nat} {p : List IRow} {x : IRow} (h : PlanQ w B (.slice ao n cap) p) (hx : p[k]? = some x) :
    ∃ g off, ao = some ⟨g, off, none⟩ ∧ B ≤ g ∧ g < w.heap.size ∧ w.cell? ⟨g, off + k, none⟩ = some (.slice x.ao x.l.length x.cap) ∧ KQ intK 3 w B (.slice x.ao x.l.length x.cap) x.l := by
  obtain ⟨g, off, rfl, h2, h3, h4, _⟩ := h.out.set hx
  have h8 := h4 0 _ rfl
  have e0 : off + k * slotK.n + 0 = off + k := by show off + k * 1 + 0 = _; omega
  rw [e0] at h8
  exact ⟨g, off, rfl, h2, h3, h8, h.inn x (List.mem_of_getElem? hx)⟩

theorem PlanQ.rebase {w : World} {B B' : Nat} {q : Value} {p : List IRow} (h : PlanQ w B q p) (hB : B' ≤ B) : PlanQ w B' q p :=
  ⟨h.out.rebase hB, fun x hx => (h.inn x hx).rebase hB, h.off, h.apart⟩

/-- A row of nothing behind it. -/
theorem PlanQ.grow {w w' : World} {B : Nat} {q q' : Value} {p : List IRow} (h : PlanQ w B q p) (hq : KQ slotK 25 w' B q' (p ++ [⟨[], none, 0⟩])) (hk : Kept (fun k => q.ownBlock = some k) w w') (hf : Fresh w q q') : PlanQ w' B q' (p ++ [⟨[], none, 0⟩]) := by
  refine ⟨hq, fun x hx => ?_, fun x hx b hb e => ?_, fun i j x y hij hx hy b hb e => ?_⟩
  · rcases List.mem_append.1 hx with hx | hx
    · exact (h.inn x hx).kept hk (fun k e => h.off x hx k e) (fun _ _ _ h => h.elim)
    · simp only [List.mem_cons, List.not_mem_nil, or_false] at hx
      subst hx
      exact KQ.empty _ _ _ _
  · rcases List.mem_append.1 hx with hx | hx
    · rcases hf b e with e2 | e2
      · exact h.off x hx b hb e2
      · have := ((h.inn x hx).lt b hb).2; omega
    · simp only [List.mem_cons, List.not_mem_nil, or_false] at hx
      subst hx
      cases hb
  · have key : ∀ (k : Nat) (z : IRow) (b : Nat), (p ++ [⟨[], none, 0⟩] : List IRow)[k]? = some z → z.v.ownBlock = some b → p[k]? = some z := fun k z b hz hzb => by
      by_cases hk : k < p.length
      · rw [List.getElem?_append_left hk] at hz; exact hz
      · rw [List.getElem?_append_right (by omega)] at hz
        have : z = ⟨[], none, 0⟩ := by
          have h2 := List.mem_of_getElem? hz
          simpa using h2
        subst this
        cases hzb
    exact h.apart i j x y hij (key i x b hx hb) (key j y b hy e) b hb e

/-- Row k is another one: its cell was written. -/
theorem PlanQ.put {w w' : World} {B k : Nat} {ao : Option Addr} {n cap : Nat} {p : List IRow} {x y : IRow} (h : PlanQ w B (.slice ao n cap) p) (hx : p[k]? = some x) (hy : KQ intK 3 w' B y.v y.l) (hk : Kept (fun k => x.v.ownBlock = some k) w w') (hf : Fresh w x.v y.v) :
    ∃ g off, ao = some ⟨g, off, none⟩ ∧ B ≤ g ∧ g < w.heap.size ∧ w'.cell? ⟨g, off + k, none⟩ = some (.slice x.ao x.l.length x.cap) ∧ w'.frozen? ⟨g, off + k, none⟩ = false ∧ PlanQ (w'.setCell ⟨g, off + k, none⟩ y.v) B (.slice ao n cap) (p.set k y) ∧ Kept (fun b => x.v.ownBlock = some b ∨ b = g) w (w'.setCell ⟨g, off + k, none⟩ y.v) := by
  have hxm := List.mem_of_getElem? hx
  have hout := h.out.kept hk (fun b e e2 => h.off x hxm b e2 e) (fun _ _ _ h => h.elim)
  obtain ⟨g, off, rfl, h2, h3, h4, h5, h6⟩ := hout.set hx
  have e0 : off + k * slotK.n + 0 = off + k := by show off + k * 1 + 0 = _; omega
  have h7 := h6 y 0 y.v (by show 0 < 1; decide) rfl trivial (fun _ h => h)
  have h8 := h4 0 _ rfl
  rw [e0] at h7 h8
  have hgx : x.v.ownBlock ≠ some g := fun e => h.off x hxm g e rfl
  have hgw : g < w.heap.size := (h.out.lt g rfl).2
  have hgy : y.v.ownBlock ≠ some g := fun e => by
    rcases hf g e with e2 | e2
    · exact hgx e2
    · omega
  have hk2 : Kept (fun b => b = g) w' (w'.setCell ⟨g, off + k, none⟩ y.v) := Kept.setCell w' ⟨g, off + k, none⟩ y.v
  refine ⟨g, off, rfl, h2, hgw, h8, h5 _, ⟨h7, fun z hz => ?_, fun z hz b hb e => ?_, fun i j a c hij ha hc b hb e => ?_⟩, (hk.mono (fun b _ e => Or.inl e)).trans (hk2.mono (fun b _ e => Or.inr e))⟩
  · rcases List.mem_iff_getElem?.1 hz with ⟨i, hi⟩
    by_cases hik : i = k
    · subst hik
      rw [List.getElem?_set_self (List.getElem?_eq_some_iff.1 hx).1] at hi
      obtain rfl : y = z := by simpa using hi
      exact hy.kept hk2 (fun b e e2 => hgy (by have e2' : b = g := e2; rw [← e2']; exact e)) (fun _ _ _ h => h.elim)
    · rw [List.getElem?_set_ne (by omega)] at hi
      have hzm := List.mem_of_getElem? hi
      exact ((h.inn z hzm).kept hk (fun b e e2 => h.apart i k z x hik hi hx b e e2) (fun _ _ _ h => h.elim)).kept hk2 (fun b e e2 => h.off z hzm b e (by have e2' : b = g := e2; rw [e2']; rfl)) (fun _ _ _ h => h.elim)
  · rcases List.mem_or_eq_of_mem_set hz with hz | rfl
    · exact h.off z hz b hb e
    · have e2 : g = b := by simpa [Value.ownBlock] using e
      exact hgy (by rw [e2]; exact hb)
  · have key : ∀ m z, (p.set k y)[m]? = some z → (m = k ∧ z = y) ∨ (m ≠ k ∧ p[m]? = some z) := fun m z hm => by
      by_cases e : m = k
      · subst e
        rw [List.getElem?_set_self (List.getElem?_eq_some_iff.1 hx).1] at hm
        exact Or.inl ⟨rfl, by simpa using hm.symm⟩
      · rw [List.getElem?_set_ne (by omega)] at hm
        exact Or.inr ⟨e, hm⟩
    have other : ∀ m z, m ≠ k → p[m]? = some z → z.v.ownBlock = some b → y.v.ownBlock ≠ some b := fun m z hm hz hzb e2 => by
      rcases hf b e2 with e3 | e3
      · exact h.apart m k z x hm hz hx b hzb e3
      · have := ((h.inn z (List.mem_of_getElem? hz)).lt b hzb).2; omega
    rcases key i a ha with ⟨e1, e2⟩ | ⟨h1, ha2⟩
    · rcases key j c hc with ⟨e3, e4⟩ | ⟨h1, hc2⟩
      · exact hij (e1.trans e3.symm)
      · exact other j c h1 hc2 e (e2 ▸ hb)
    · rcases key j c hc with ⟨e3, e4⟩ | ⟨h2, hc2⟩
      · exact other i a h1 ha2 hb (e4 ▸ e)
      · exact h.apart i j a c hij ha2 hc2 b hb e

/-- PlanQ.put, the parts by letters. -/
theorem PlanQ.puts {w w' : World} {B k g off : Nat} {n cap : Nat} {p : List IRow} {L : List Int} {xa ya : Option Addr} {xc yc : Nat} {M : List Int} (h : PlanQ w B (.slice (some ⟨g, off, none⟩) n cap) p) (hx : p[k]? = some ⟨L, xa, xc⟩)
    (hy : KQ intK 3 w' B (.slice ya M.length yc) M) (hk : Kept (fun k => (Value.slice xa L.length xc).ownBlock = some k) w w') (hf : Fresh w (.slice xa L.length xc) (.slice ya M.length yc)) :
    w'.cell? ⟨g, off + k, none⟩ = some (.slice xa L.length xc) ∧ w'.frozen? ⟨g, off + k, none⟩ = false ∧ PlanQ (w'.setCell ⟨g, off + k, none⟩ (.slice ya M.length yc)) B (.slice (some ⟨g, off, none⟩) n cap) (p.set k ⟨M, ya, yc⟩) ∧ ∀ A, A ≤ B → B ≤ w.heap.size → Below A w (w'.setCell ⟨g, off + k, none⟩ (.slice ya M.length yc)) := by
  obtain ⟨g2, off2, e2, h2, h3, h4, h5, h6, h7⟩ := h.put (y := ⟨M, ya, yc⟩) hx hy hk hf
  simp only [Option.some.injEq, Addr.mk.injEq, and_true] at e2
  obtain ⟨rfl, rfl⟩ := e2
  refine ⟨h4, h5, h6, fun A hA hB => h7.below (by omega) (fun b e => ?_)⟩
  rcases e with e | e
  · have := ((h.inn _ (List.mem_of_getElem? hx)).lt b e).1; omega
  · omega
end Go.Proofs.YtajpfkenhchafaaDoor

/- What an executor's calls do, however it lies; the order in which a plan is gone through. -/
namespace Go.Proofs.YtajpfkenhchafaaDoor
open Go Go.RowKit
set_option linter.unusedVariables false

theorem Kept.transTo {S T : Nat → Prop} {a b c : World} (h : Kept S a b) (k : Kept T b c) (hT : ∀ j, T j → S j ∨ a.heap.size ≤ j) : Kept S a c :=
  ⟨k.os.trans h.os, k.tape.trans h.tape, k.output.trans h.output, Nat.le_trans h.size k.size, fun j hj hn => (k.block j (Nat.lt_of_lt_of_le hj h.size) (fun e => by rcases hT j e with q | q; exact hn q; omega)).trans (h.block j hj hn)⟩

theorem rw_ad (l : List TxM) : rwL (l.map TxM.a) = (l.map TxM.d).map TxD.rw := by
  unfold rwL
  rw [List.map_map, List.map_map]
  rfl

theorem flatP_step {P : List (List Int)} {j : Nat} {r : List Int} (h : P[j]? = some r) : flatP (P.take (j + 1)) = flatP (P.take j) ++ r.map Int.toNat := by
  unfold flatP
  rw [List.take_add_one, h, Option.toList_some, List.flatten_append, List.map_append]
  simp

theorem take_map_step {r : List Int} {k : Nat} {y : Int} (h : r[k]? = some y) : (r.take (k + 1)).map Int.toNat = (r.take k).map Int.toNat ++ [y.toNat] := by
  rw [List.take_add_one, h, Option.toList_some, List.map_append]
  rfl

/-- Where a plan is gone through. -/
theorem flatP_at {P : List (List Int)} {j k : Nat} {r : List Int} {y : Int} (h : P[j]? = some r) (hy : r[k]? = some y) : ∃ t, flatP P = (flatP (P.take j) ++ (r.take k).map Int.toNat) ++ y.toNat :: t := by
  have e1 : P = P.take j ++ r :: P.drop (j + 1) := by
    obtain ⟨hj, hr⟩ := List.getElem?_eq_some_iff.1 h
    rw [← hr, ← List.drop_eq_getElem_cons hj, List.take_append_drop]
  have e2 : r = r.take k ++ y :: r.drop (k + 1) := by
    obtain ⟨hj, hr⟩ := List.getElem?_eq_some_iff.1 hy
    rw [← hr, ← List.drop_eq_getElem_cons hj, List.take_append_drop]
  refine ⟨(r.drop (k + 1)).map Int.toNat ++ flatP (P.drop (j + 1)), ?_⟩
  have e3 : flatP P = flatP (P.take j) ++ (r.map Int.toNat ++ flatP (P.drop (j + 1))) := by
    conv => lhs; rw [e1]
    unfold flatP
    rw [List.flatten_append, List.flatten_cons, List.map_append, List.map_append]
  have e4 : r.map Int.toNat = (r.take k).map Int.toNat ++ (y.toNat :: (r.drop (k + 1)).map Int.toNat) := by
    conv => lhs; rw [e2]
    rw [List.map_append, List.map_cons]
  rw [e3, e4]
  simp [List.append_assoc]

/-- What Order does, of an executor that lies as X says. -/
def GotOrder (X : World → Nat → (Nat → Prop) → StF → Nat → List Nat → Nat → Prop) (W : World) (x : Nat) (S : Nat → Prop) (l : List TxD) (P : List (List Int)) (s : StF) (N : Nat) (r : List Nat) (n : Nat) (e : Ending) (w : World) : Prop :=
  (chkN (l.map TxD.rw) P ≠ 0 ∧ e = .returned (.tuple #[.slice none 0 0, .int .i64 (chkN (l.map TxD.rw) P : Nat)]) ∧ Below W.heap.size W w) ∨
  (chkN (l.map TxD.rw) P = 0 ∧ ∃ ga gc S', e = .returned (.tuple #[.slice ga l.length gc, .int .i64 0]) ∧ KQ natK 3 w W.heap.size (.slice ga l.length gc) (execR s l) ∧ X w x S' (execS s l) (N + 2 * l.length) (r ++ execR s l) (n + 1) ∧ FreshS W S S' ∧ (∀ k, (Value.slice ga l.length gc).ownBlock = some k → ¬ S' k) ∧ Kept S W w)

/-- What Run does, of an executor that lies as X says. -/
def GotRun (X : World → Nat → (Nat → Prop) → StF → Nat → List Nat → Nat → Prop) (W : World) (x : Nat) (S : Nat → Prop) (l : List TxD) (s : StF) (N : Nat) (r : List Nat) (n : Nat) (e : Ending) (w : World) : Prop :=
  ∃ ga gc S', e = .returned (.slice ga l.length gc) ∧ KQ natK 3 w W.heap.size (.slice ga l.length gc) (execR s l) ∧ X w x S' (execS s l) (N + 2 * l.length) (r ++ execR s l) (n + 1) ∧ FreshS W S S' ∧ (∀ k, (Value.slice ga l.length gc).ownBlock = some k → ¬ S' k) ∧ Kept S W w

/-- A new executor, of the call's own. -/
def GotExe (X : World → Nat → (Nat → Prop) → StF → Nat → List Nat → Nat → Prop) (W : World) (s : StF) (N : Nat) (e : Ending) (w : World) : Prop :=
  ∃ x S, e = .returned (.pointer (some ⟨x, 0, none⟩)) ∧ X w x S s N [] 0 ∧ (∀ k, S k → W.heap.size ≤ k) ∧ Below W.heap.size W w

theorem rwL_rows {W : World} {lo : Option Addr} {l : List TxM} (h : RowsM W lo l) : (rwL (l.map TxM.a)).length ≤ 1000 := by
  rw [rwL_length, List.length_map]
  exact Nat.le_trans h.len (by decide)
end Go.Proofs.YtajpfkenhchafaaDoor
