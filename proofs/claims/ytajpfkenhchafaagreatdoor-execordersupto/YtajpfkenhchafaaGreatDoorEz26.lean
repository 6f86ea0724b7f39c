/- Texts as one: RefStaNew, RefExe, RefAccEdges, RefWavCheck, RefExeOrder, RefExeRun. -/
import Derived.Test.YtajpfkenhchafaaGreatDoorEz25
import Derived.Test.YtajpfkenhchafaaGreatDoorEz08
import Derived.Test.YtajpfkenhchafaaGreatDoorEz23
import Derived.Test.YtajpfkenhchafaaGreatDoorEz06
import Derived.Test.YtajpfkenhchafaaGreatDoorEz13
import Derived.Test.YtajpfkenhchafaaGreatDoorEz14
import Derived.BigQuiet
import Derived.Deep.QuietTactic
import Derived.Deep.RegionHeld3
/- What the reference's New does; Account, Value, Apply of its blocks. -/
namespace Go.Proofs.YtajpfkenhchafaaGreatDoor
open Go Go.RowKit
set_option linter.unusedVariables false

section
variable {w : World} {rb : Nat} {S : Nat → Prop} {s : StF} {N : Nat}

theorem rsApply_any (x : TxM) (hA : x.At w) (hs : TxSizes x.d) (hn : x.d.ws.length ≤ 500) (h : RS w rb S s N) (hN : N ≤ 100000) :
    Calls Tryz.prog 23 #[.pointer (some ⟨rb, 0, none⟩), x.v] w fun e w' => e = .returned (.int .i64 (applyE s x.d : Nat)) ∧ ∃ S', RS w' rb S' (applyF s x.d) (N + 2) ∧ FreshS w S S' ∧ Kept S w w' := by
  by_cases hz : applyE s x.d = 0
  · refine (rsApply_yes x hA hs hn h hN hz).mono ?_
    rintro e w' ⟨rfl, h2⟩
    exact ⟨by rw [hz]; rfl, h2⟩
  · refine (rsApply_no x hA hs hn h hN hz).mono ?_
    rintro e w' ⟨rfl, h2⟩
    exact ⟨rfl, S, by rw [applyF_no hz]; exact (h.below h2).mono (Nat.le_add_right _ _), fun k e => Or.inl e, Kept.of_below h2⟩
end

/-- A new state of the reference's is handed back. -/
def GotStateR (W : World) (s : StF) (N : Nat) (e : Ending) (w : World) : Prop :=
  ∃ rb S, e = .returned (.pointer (some ⟨rb, 0, none⟩)) ∧ RS w rb S s N ∧ (∀ b, S b → W.heap.size ≤ b) ∧ Below W.heap.size W w

theorem RM.nil (N : Nat) : RM [] [] ⟨fun _ => (0, 0), fun _ => none⟩ N :=
  ⟨List.Pairwise.nil, List.Pairwise.nil, fun _ => rfl, fun _ => rfl, Nat.zero_le _, Nat.zero_le _, by have := (StOk.new [] 0).mono (Nat.zero_le N); rwa [newF_none] at this⟩

theorem RSt.nil (w : World) : RSt (w.alloc (.cells #[.slice none 0 0, .slice none 0 0] 90)) w.heap.size (.slice none 0 0) (.slice none 0 0) [] [] :=
  ⟨Arr.new w 90 [.slice none 0 0, .slice none 0 0], KQ.empty _ _ _ _, KQ.empty _ _ _ _, fun k e => by cases e⟩

set_option maxRecDepth 100000 in
set_option maxHeartbeats 4000000 in
theorem refNew22_any (rich : List ByteArray) (ao : Option Addr) (cp : Nat) (funds : Nat) (w : World) (hR : RowAt strK w ao rich) (hz : ∀ s ∈ rich, s.size ≤ maxLen) (hl : rich.length ≤ 1000) :
    Calls Tryz.prog 22 #[.slice ao rich.length cp, .int .u64 (funds : Int)] w fun e w' => GotStateR w (newF rich funds) rich.length e w' := by
  have h0 := RSt.nil w
  have hb0 := belowNew w (.cells #[.slice none 0 0, .slice none 0 0] 90)
  have hM0 : RM [] [] (newF (rich.take 0) funds) 0 := by rw [List.take_zero, newF_none]; exact RM.nil 0
  have hfin : Hid (newF rich funds = newF (rich.take rich.length) funds) := by show newF rich funds = _; rw [List.take_length]
  obtain ⟨wi, hwi⟩ : ∃ q, Hid (w.alloc (.cells #[.slice none 0 0, .slice none 0 0] 90) = q) := ⟨_, rfl⟩
  go_enter Tryz.func22, Tryz.ntmps22
  go_wp2_with fail
  rw [hwi.out] at h0 hb0
  go_loopw [6, 7] (fun v6 _ wr => ∃ (i : Nat) (qa : Value) (A : List (ByteArray × (Nat × Nat))), i ≤ rich.length ∧ v6 = .int .i64 (i : Int) ∧ RSt wr w.heap.size qa (.slice none 0 0) A [] ∧ RM A [] (newF (rich.take i) funds) i ∧ Below w.heap.size w wr) (fun v _ _ => rich.length - (intOf v).toNat)
  case atStart => exact ⟨0, _, _, Nat.zero_le _, rfl, by rw [hwi.out]; exact h0, hM0, by rw [hwi.out]; exact hb0⟩
  case round =>
    obtain ⟨i, qa, A, hi, rfl, hP, hM, hb⟩ := hrel
    clear h0 hb0 hM0
    by_cases hil : i < rich.length
    · have g2 : (i : Int) < (rich.length : Int) := by omega
      obtain ⟨x, hx⟩ : ∃ p, rich[i]? = some p := ⟨_, List.getElem?_eq_getElem hil⟩
      obtain ⟨b2, off, hao, hbl0, hcell0⟩ := hR.strs i (by exact hil)
      have hxi : rich[i] = x := (List.getElem?_eq_some_iff.1 hx).2
      rw [hxi] at hcell0
      subst hao
      have hcW : ∀ w', Below w.heap.size w w' → w'.cell? ⟨b2, off + i, none⟩ = some (.string x) := fun w' hw' => by rw [cell_same (hw'.block _ hbl0)]; exact hcell0
      have hid := hz x (List.mem_of_getElem? hx)
      have hnx : Hid _ := newF_step rich funds hx
      have hok := (StOk.new (rich.take (i + 1)) funds).mono (Nat.zero_le (i + 1))
      have cN := fun w1 => refName_any x w1 hid
      obtain ⟨bb, hbb⟩ : ∃ q, Hid (isNm x = q) := ⟨_, rfl⟩
      rw [hbb.out] at cN
      have hcell := hcW wr hb
      clear hxi hx hbl0 hcell0
      go_wp2_with fail
      refine (cN _).mono ?_
      rintro e w1 ⟨rfl, rfl⟩
      clear cN
      cases bb with
      | false =>
        have hM2 : RM A [] (newF (rich.take (i + 1)) funds) (i + 1) := ⟨hM.ra, hM.rv, fun n => by rw [hM.acc n, hnx.out n, if_neg (by rw [hbb.out]; decide)], fun n => rfl, Nat.le_succ_of_le hM.la, Nat.zero_le _, hok⟩
        clear hnx hM hcell
        go_wp2
        go_roundw
        case rel => exact ⟨i + 1, qa, A, by omega, by go_num, hP, hM2, hb⟩
        case measure => simp [intOf]; omega
      | true =>
        have hRA : RA A (newF (rich.take i) funds).acc i := ⟨hM.ra, hM.acc, hM.la⟩
        have cT := rsAt_at x hP hM.ra (by have := hM.la; omega)
        obtain ⟨hRA5, hx5⟩ := hRA.at x
        obtain ⟨k, hk⟩ : ∃ k, Hid (kAt A x = k) := ⟨_, rfl⟩
        obtain ⟨A1, hA1⟩ : ∃ A1, Hid (atL A x = A1) := ⟨_, rfl⟩
        rw [hk.out] at cT hx5
        rw [hA1.out] at cT hRA5 hx5
        have h2z : ((newF (rich.take i) funds).acc x).2 = 0 := by
          unfold newF
          simp only
          split <;> rfl
        obtain ⟨u1, hu1⟩ : ∃ q, Hid (((newF (rich.take i) funds).acc x).1 = q) := ⟨_, rfl⟩
        have hpu : (newF (rich.take i) funds).acc x = (u1, 0) := by rw [← hu1.out, ← h2z]
        rw [hpu] at hx5
        have hacc : Hid (∀ n, pnF (newF (rich.take i) funds).acc x (min funds 4611686018427387903, 0) n = (newF (rich.take (i + 1)) funds).acc n) := fun n => by rw [hnx.out n, if_pos hbb.out]
        have hRA5' : Hid _ := hRA5
        have hx5' : Hid _ := hx5
        clear hRA hk hA1 hpu h2z hM hnx hRA5 hx5
        go_wp2_with fail
        refine cT.mono ?_
        rintro e w2 ⟨rfl, qa2, h2, hf2, hk2⟩
        have hb2 := hb.trans (hk2.below hb.size (fun j e => by
          have e' : j = w.heap.size := e
          omega))
        obtain ⟨g, off2, cap, rfl, hgl, hgF, c1, c2, hfz, hs1, hs2⟩ := h2.setA hx5'.out
        have c0 := h2.box.cell (i := 0) rfl
        have hkl := (List.getElem?_eq_some_iff.1 hx5'.out).1
        have g1 : (k : Int) < (A1.length : Int) := by omega
        have hfz1 := hfz (off2 + k * 3 + 1)
        have h3 := hs1 (min funds 4611686018427387903)
        obtain ⟨hRA6, -⟩ := hRA5'.out.set hx5'.out (min funds 4611686018427387903, 0)
        have hM2 : RM (A1.set k (x, (min funds 4611686018427387903, 0))) [] (newF (rich.take (i + 1)) funds) (i + 1) := ⟨hRA6.rise, List.Pairwise.nil, fun n => by rw [hRA6.acc n]; exact hacc.out n, fun n => rfl, hRA6.len, Nat.zero_le _, hok⟩
        have hgw : w.heap.size ≤ g := by
          rcases hgF with e | e | e
          · omega
          · have := (h2.ra.lt g e).1; omega
          · cases e
        have hb3 := hb2.trans ((Kept.setCell w2 ⟨g, off2 + k * 3 + 1, none⟩ (.int .u64 ((min funds 4611686018427387903 : Nat) : Int))).below hb2.size (fun j e => by rw [show j = g from e]; exact hgw))
        have hmv := minV funds
        have hl1 : A1.length = (A1.set k (x, (min funds 4611686018427387903, 0))).length := by rw [List.length_set]
        have h3' : Hid _ := h3
        have hb3' : Hid _ := hb3
        have hM2' : Hid _ := hM2
        clear cT hk2 hf2 hs1 hs2 hfz hRA6 hacc hb2 h3 hb3 hM2 hRA5' hx5' hP hb hcell hl1
        go_wp2_with fail
        go_roundw
        case rel => exact ⟨i + 1, _, _, by omega, by go_num, h3'.out, hM2'.out, hb3'.out⟩
        case measure => simp [intOf]; omega
    · have g2 : ¬ (i : Int) < (rich.length : Int) := by omega
      have hir : i = rich.length := by omega
      rw [hir, ← hfin.out] at hM
      clear hir hi hil
      go_wp2
      go_ret
      refine ⟨w.heap.size, RFt w.heap.size qa (.slice none 0 0), rfl, ⟨⟨_, _, _, _, hP, hM, fun k e => e⟩, fun k e => hP.ltF e, fun k e => ?_⟩, fun k e => ?_, hb⟩
      all_goals
        rcases e with e | e | e
        · omega
        · have := (hP.ra.lt k e).1; omega
        · cases e
end Go.Proofs.YtajpfkenhchafaaGreatDoor

/- The document's executor: how it lies, and while a plan is gone through. -/
namespace Go.Proofs.YtajpfkenhchafaaGreatDoor
open Go Go.RowKit
set_option linter.unusedVariables false

/-- Its box, its state, its results: of the blocks S. -/
structure RX (w : World) (x : Nat) (S : Nat → Prop) (s : StF) (N : Nat) (r : List Nat) (n : Nat) : Prop where
  ex : ∃ rb T q, Arr w x 42 [.pointer (some ⟨rb, 0, none⟩), q, .int .i64 (n : Int)] ∧ RS w rb T s N ∧ KQ natK 3 w 0 q r ∧ ¬ T x ∧ (∀ k, q.ownBlock = some k → k ≠ x ∧ ¬ T k) ∧ ∀ k, (k = x ∨ T k ∨ q.ownBlock = some k) → S k
  lt : ∀ k, S k → k < w.heap.size

theorem RX.kept {w w' : World} {x n N : Nat} {S Z : Nat → Prop} {s : StF} {r : List Nat} (h : RX w x S s N r n) (hk : Kept Z w w') (hd : ∀ k, S k → ¬ Z k) : RX w' x S s N r n := by
  obtain ⟨rb, T, q, h1, h2, h3, h4, h5, h6⟩ := h.ex
  exact ⟨⟨rb, T, q, h1.kept hk (hd x (h6 x (Or.inl rfl))), h2.kept hk (fun k e => hd k (h6 k (Or.inr (Or.inl e)))), h3.kept hk (fun k e => hd k (h6 k (Or.inr (Or.inr e)))) (fun _ _ _ h => h.elim), h4, h5, h6⟩, fun k e => Nat.lt_of_lt_of_le (h.lt k e) hk.size⟩

theorem RX.below {w w' : World} {x n N : Nat} {S : Nat → Prop} {s : StF} {r : List Nat} (h : RX w x S s N r n) (hb : Below w.heap.size w w') : RX w' x S s N r n := by
  obtain ⟨rb, T, q, h1, h2, h3, h4, h5, h6⟩ := h.ex
  exact ⟨⟨rb, T, q, h1.below hb h1.lt, h2.below hb, h3.below hb, h4, h5, h6⟩, fun k e => Nat.lt_of_lt_of_le (h.lt k e) hb.size⟩

/-- While a plan is gone through: the executor and the row of results that is filled. -/
structure OX (W w : World) (x rb g : Nat) (S T : Nat → Prop) (q : Value) (s : StF) (N : Nat) (r : List Nat) (n : Nat) (m : Nat) (out : List Nat) : Prop where
  box : Arr w x 42 [.pointer (some ⟨rb, 0, none⟩), q, .int .i64 (n : Int)]
  st : RS w rb T s N
  rs : KQ natK 3 w 0 q r
  out : KQ natK 3 w W.heap.size (.slice (some ⟨g, 0, none⟩) m m) out
  tx : ¬ T x
  tq : ∀ k, q.ownBlock = some k → k ≠ x ∧ ¬ T k ∧ S k
  tg : ¬ T g
  sx : S x
  fr : ∀ k, T k → S k ∨ W.heap.size ≤ k
  lS : ∀ k, S k → k < W.heap.size
  kp : Kept S W w

section
variable {W w w' : World} {x rb g n m N N' z : Nat} {S T T' : Nat → Prop} {q : Value} {s s' : StF} {r out : List Nat}

theorem OX.gW (h : OX W w x rb g S T q s N r n m out) : W.heap.size ≤ g ∧ g < w.heap.size := h.out.lt g rfl

theorem OX.below (h : OX W w x rb g S T q s N r n m out) (hb : Below w.heap.size w w') : OX W w' x rb g S T q s N r n m out :=
  ⟨h.box.below hb h.box.lt, h.st.below hb, h.rs.below hb, h.out.below hb, h.tx, h.tq, h.tg, h.sx, h.fr, h.lS, h.kp.trans (Kept.of_below hb)⟩

/-- One is done. -/
theorem OX.apply (h : OX W w x rb g S T q s N r n m out) (hq : RS w' rb T' s' N') (hf : FreshS w T T') (hk : Kept T w w') : OX W w' x rb g S T' q s' N' r n m out := by
  have hs := h.kp.size
  have hx := h.box.lt
  have hg := h.gW
  refine ⟨h.box.kept hk h.tx, hq, h.rs.kept hk (fun k e => (h.tq k e).2.1) (fun _ _ _ h => h.elim), h.out.kept hk (fun k e => by obtain rfl : g = k := (by simpa [Value.ownBlock] using e); exact h.tg) (fun _ _ _ h => h.elim), fun e => ?_, fun k e => ⟨(h.tq k e).1, fun e2 => ?_, (h.tq k e).2.2⟩, fun e => ?_, h.sx, fun k e => ?_, h.lS, Kept.transTo h.kp hk h.fr⟩
  · rcases hf x e with e | e
    · exact h.tx e
    · omega
  · rcases hf k e2 with e2 | e2
    · exact (h.tq k e).2.1 e2
    · have := (h.rs.lt k e).2; omega
  · rcases hf g e with e | e
    · exact h.tg e
    · omega
  · rcases hf k e with e | e
    · exact h.fr k e
    · exact Or.inr (by omega)

/-- Its answer is written down. -/
theorem OX.put (h : OX W w x rb g S T q s N r n m out) {u : Nat} (hu : out[z]? = some u) (v : Nat) :
    w.cell? ⟨g, z, none⟩ = some (.int .i64 (u : Int)) ∧ w.frozen? ⟨g, z, none⟩ = false ∧ OX W (w.setCell ⟨g, z, none⟩ (.int .i64 (v : Int))) x rb g S T q s N r n m (out.set z v) := by
  obtain ⟨h1, h2, h3, h4, h5⟩ := h.out.natSet hu
  simp only [Nat.zero_add] at h1 h2 h5
  have hk := Kept.setCell w ⟨g, z, none⟩ (.int .i64 (v : Int))
  have hgx : x ≠ g := fun e => by have := h.lS x h.sx; omega
  refine ⟨h1, h2, h.box.kept hk hgx, h.st.kept hk (fun k e e2 => h.tg (by rw [show k = g from e2] at e; exact e)), h.rs.kept hk (fun k e e2 => ?_) (fun _ _ _ h => h.elim), h5 v, h.tx, h.tq, h.tg, h.sx, h.fr, h.lS, Kept.transNew h.kp hk (fun k e => by rw [show k = g from e]; exact h3)⟩
  have e3 : k = g := e2
  have := h.lS k (h.tq k e).2.2
  omega
end

/-- The same when those of σ are done. -/
def OI (W w : World) (x rb g : Nat) (S T : Nat → Prop) (q : Value) (d : Nat → TxD) (s : StF) (N : Nat) (r : List Nat) (n m : Nat) (σ : List Nat) : Prop :=
  OX W w x rb g S T q (runS d s σ) (N + 2 * σ.length) r n m (outL d m s σ)

theorem OI.done {W w w' : World} {x rb g n m N z : Nat} {S T T' : Nat → Prop} {q : Value} {d : Nat → TxD} {s : StF} {r σ : List Nat} {dd : TxD} (h : OI W w x rb g S T q d s N r n m σ) (hz : z < m) (hn : z ∉ σ) (hd : d z = dd)
    (hq : RS w' rb T' (applyF (runS d s σ) dd) (N + 2 * σ.length + 2)) (hf : FreshS w T T') (hk : Kept T w w') :
    w'.cell? ⟨g, z, none⟩ = some (.int .i64 (runR d s σ z : Nat)) ∧ w'.frozen? ⟨g, z, none⟩ = false ∧ OI W (w'.setCell ⟨g, z, none⟩ (.int .i64 (applyE (runS d s σ) dd : Nat))) x rb g S T' q d s N r n m (σ ++ [z]) := by
  subst hd
  have h1 := OX.apply h hq hf hk
  obtain ⟨c1, f1, h2⟩ := h1.put (outL_get hz) (applyE (runS d s σ) (d z))
  refine ⟨c1, f1, ?_⟩
  rw [outL_set hn hz] at h2
  unfold OI
  rw [runS_append]
  have e : N + 2 * (σ ++ [z]).length = N + 2 * σ.length + 2 := by rw [List.length_append, List.length_singleton]; omega
  rw [e]
  exact h2
end Go.Proofs.YtajpfkenhchafaaGreatDoor

/- What tuskref20.Edges does. -/
namespace Go.Proofs.YtajpfkenhchafaaGreatDoor
open Go Go.RowKit
set_option linter.unusedVariables false

theorem pairInfoR : ∃ i z, Tryz.prog.info? 120 = some i ∧ i.zero = some z ∧ i.size = 2 ∧ i.bytes = 16 ∧ z.cells.size = 2 := infoParts (by kernel_rfl)

theorem new_pairR (w : World) (x y : Nat) : ∀ j u, (pairK.c (x, y))[j]? = some u → (w.alloc (.cells #[.int .i64 ((x : Nat) : Int), .int .i64 ((y : Nat) : Int)] 120)).cell? ((⟨w.heap.size, 0, none⟩ : Addr).add j) = some u := by
  intro j u hu
  rw [Go.WideShapes.add_plain, Nat.zero_add]
  exact (Arr.new w 120 [.int .i64 ((x : Nat) : Int), .int .i64 ((y : Nat) : Int)]).cell hu

def GotEdgesR (W : World) (l : List RwD) (e : Ending) (w : World) : Prop :=
  ∃ ao cap, e = .returned (.slice ao (edgesL l).length cap) ∧ KQ pairK 120 w W.heap.size (.slice ao (edgesL l).length cap) (edgesL l) ∧ Below W.heap.size W w

/-- The pairs of the first i members, and those of member i below k. -/
def pairsTo (l : List RwD) (i k : Nat) : List (Nat × Nat) := edgesN l i ++ (wayL l i k).map (fun k => (i, k))

theorem pairsTo_start (l : List RwD) (i : Nat) : pairsTo l i (i + 1) = edgesN l i := by
  unfold pairsTo
  rw [wayL_le l i (i + 1) (Nat.le_refl _)]
  simp

theorem pairsTo_next {l : List RwD} {i k : Nat} (h : i < k) : pairsTo l i (k + 1) = pairsTo l i k ++ (if adjB l i k = true then [(i, k)] else []) := by
  unfold pairsTo
  rw [wayL_succ, decide_eq_true h, Bool.true_and, List.map_append, ← List.append_assoc]
  congr 1
  split <;> rfl

theorem pairsTo_end (l : List RwD) (i : Nat) : pairsTo l i l.length = edgesN l (i + 1) := by
  unfold pairsTo
  rw [edgesN_succ]

theorem pairsTo_len (l : List RwD) (i k : Nat) : (pairsTo l i k).length ≤ i * l.length + k := by
  unfold pairsTo
  rw [List.length_append, List.length_map]
  have := edgesN_length l i
  have := wayL_length l i k
  omega

set_option maxRecDepth 100000 in
set_option maxHeartbeats 4000000 in
theorem refEdges_any (l : List TxA) (ao : Option Addr) (cp : Nat) (w : World) (hl : RowAt txA w ao l) (hf : Few l) :
    Calls Tryz.prog 69 #[.slice ao l.length cp] w fun e w' => GotEdgesR w (rwL l) e w' := by
  have hl1 := hf.1
  have hlen : Hid _ := rwL_length l
  obtain ⟨i0, z0, hi0, hz0, hs0, hb0, hzs0⟩ := pairInfoR
  have hQ0 := KQ.empty pairK 120 w w.heap.size
  go_enter Tryz.func69, Tryz.ntmps69
  go_wp2_with fail
  go_loopw [3, 4] (fun v3 v4 wr => ∃ (i : Nat) (pa : Option Addr) (pc : Nat), i ≤ l.length ∧ v3 = .slice pa (edgesN (rwL l) i).length pc ∧ v4 = .int .i64 (i : Int) ∧ KQ pairK 120 wr w.heap.size (.slice pa (edgesN (rwL l) i).length pc) (edgesN (rwL l) i) ∧ Below w.heap.size w wr) (fun _ v _ => l.length - (intOf v).toNat)
  case atStart => exact ⟨0, none, 0, Nat.zero_le _, rfl, rfl, hQ0, Below.refl _ _⟩
  case round =>
    obtain ⟨i, pa, pc, hi, rfl, rfl, hq, hb⟩ := hrel
    clear hQ0
    by_cases hil : i < l.length
    · have g1 : (i : Int) < (l.length : Int) := by omega
      obtain ⟨x, hx⟩ : ∃ p, l[i]? = some p := ⟨_, List.getElem?_eq_getElem hil⟩
      have hst := pairsTo_start (rwL l) i
      have hq0 : KQ pairK 120 wr w.heap.size (.slice pa (pairsTo (rwL l) i (i + 1)).length pc) (pairsTo (rwL l) i (i + 1)) := by rw [hst]; exact hq
      have hend : Hid (pairsTo (rwL l) i l.length = edgesN (rwL l) (i + 1)) := by
        have := pairsTo_end (rwL l) i
        rw [hlen.out] at this
        exact this
      have hpl : Hid (∀ k, k ≤ l.length → (pairsTo (rwL l) i k).length ≤ 1001000) := fun k hk => by
        have h1 := pairsTo_len (rwL l) i k
        rw [hlen.out] at h1
        have h2 : i * l.length ≤ 1000 * 1000 := Nat.mul_le_mul (by omega) hl1
        omega
      have hst' : Hid _ := hst
      rw [← hst]
      clear hq hst
      go_wp2_with fail
      go_loopw [3, 5] (fun v3 v5 W2 => ∃ (k : Nat) (pa : Option Addr) (pc : Nat), i < k ∧ k ≤ l.length ∧ v3 = .slice pa (pairsTo (rwL l) i k).length pc ∧ v5 = .int .i64 (k : Int) ∧ KQ pairK 120 W2 w.heap.size (.slice pa (pairsTo (rwL l) i k).length pc) (pairsTo (rwL l) i k) ∧ Below w.heap.size w W2) (fun _ v _ => l.length - (intOf v).toNat)
      case atStart => exact ⟨i + 1, pa, pc, by omega, by omega, rfl, by go_num, hq0, hb⟩
      case round =>
        obtain ⟨k, pa, pc, hik, hk, rfl, rfl, hq, hb⟩ := hrel
        clear hq0
        by_cases hkl : k < l.length
        · have g2 : (k : Int) < (l.length : Int) := by omega
          obtain ⟨y, hy⟩ : ∃ p, l[k]? = some p := ⟨_, List.getElem?_eq_getElem hkl⟩
          obtain ⟨hxr, hxw⟩ := hf.2 x (List.mem_of_getElem? hx)
          obtain ⟨hyr, hyw⟩ := hf.2 y (List.mem_of_getElem? hy)
          have hbd : Below wr.heap.size wr wr.drew := below_drewN (Below.refl _ _) 1
          have hbw := hb.trans (hbd.mono hb.size)
          obtain ⟨b, off, rfl, hbl, x0, x1, x2, x3, x4, x5, x6, x7, x8, hA⟩ := (hl.below hbw).tx hx
          obtain ⟨b', off', e', hbl', y0, y1, y2, y3, y4, y5, y6, y7, y8, hB⟩ := (hl.below hbw).tx hy
          simp only [Option.some.injEq, Addr.mk.injEq, and_true] at e'
          obtain ⟨rfl, rfl⟩ := e'
          have cC := refClash_any x y wr.drew hA hB (by omega) (by omega) (by omega) (by omega)
          rw [← adjB_some (rwL_get hx) (rwL_get hy)] at cC
          have hnx := pairsTo_next (l := rwL l) hik
          have hqd := hq.below hbd
          have hx' : Hid _ := hx
          have hy' : Hid _ := hy
          clear hA hB hx hy hq hbl hbl'
          obtain ⟨kind, frm, dst, amt, non, key, val, rs, ws, ra, rc, wa, wc⟩ := x
          obtain ⟨kind', frm', dst', amt', non', key', val', rs', ws', ra', rc', wa', wc'⟩ := y
          unfold TxA.v at cC
          cases hadj : adjB (rwL l) i k with
          | true =>
            rw [hadj] at cC
            rw [hadj, if_pos rfl] at hnx
            have hnx' : Hid _ := hnx
            clear hnx hadj
            obtain ⟨PL, hPL⟩ : ∃ z, z = pairsTo (rwL l) i k := ⟨_, rfl⟩
            have hpl2 := hpl.out k hk
            rw [← hPL] at hqd hpl2 hnx' ⊢
            replace hPL : Hid _ := hPL
            have m1 : PL.length + 1 ≤ maxLen := by unfold maxLen; omega
            have m2 : (PL.length + 1) * 16 ≤ 140737488355328 := by omega
            have hl5 : Hid ((pairsTo (rwL l) i (k + 1)).length = PL.length + 1) := by unfold Hid; rw [hnx'.out]; simp
            go_wp2_with fail
            rename_i K hK
            replace hK : Hid _ := hK
            go_region_law (go_simp; go_at_call 75; refine cC.mono ?_; rintro _ w5 ⟨rfl, hb5⟩)
            all_goals
              refine hK.out _ _ ?_
              have hq5 := hqd.below hb5
              have hb6 := hbw.trans (hb5.mono hbw.size)
              have hnew := belowNew w5 (.cells #[.int .i64 ((i : Nat) : Int), .int .i64 ((k : Nat) : Int)] 120)
              have hNW := new_pairR w5 i k
              have hq6 := hq5.below hnew
              have hb7 := hb6.trans (hnew.mono hb6.size)
              have hbs := hb7.size
              clear hq5 hb6 hnew cC hqd x0 x1 x2 x3 x4 x5 x6 x7 x8 y0 y1 y2 y3 y4 y5 y6 y7 y8 hb5
              go_wp2_with (at_builtin; refine wpList_pushN (K := pairK) rfl _ _ 117 rfl w.heap.size 120 i0 _ 16 Tryz.underlying117 hi0 hz0 hs0 hb0 hzs0 _ PL rfl hq6 (i, k) trivial (fun _ h => h.elim) ⟨w5.heap.size, 0, none⟩ 1 rfl hNW m1 m2 hbs ?_; intro ao3 cap3 w6 hQ6 hk6 hf6)
              have hb8 := hb7.trans (hk6.below hb7.size (fun b e => (hq6.lt b e).1))
              have hQ7 : KQ pairK 120 w6 w.heap.size (.slice ao3 (pairsTo (rwL l) i (k + 1)).length cap3) (pairsTo (rwL l) i (k + 1)) := by
                rw [hnx'.out]
                first | exact hQ6 | (rw [List.length_append, List.length_singleton]; exact hQ6)
              clear hq6 hb7 hk6 hf6 hQ6
              go_roundw
              case rel => exact ⟨k + 1, ao3, cap3, by omega, by omega, by rw [hl5.out], by go_num, hQ7, hb8⟩
              case measure => simp [intOf]; omega
          | false =>
            rw [hadj] at cC
            rw [hadj, if_neg (by decide), List.append_nil] at hnx
            have hnx' : Hid _ := hnx
            have hqn : Hid (KQ pairK 120 wr.drew w.heap.size (.slice pa (pairsTo (rwL l) i (k + 1)).length pc) (pairsTo (rwL l) i (k + 1))) := by unfold Hid; rw [hnx]; exact hqd
            have hl5 : Hid ((pairsTo (rwL l) i (k + 1)).length = (pairsTo (rwL l) i k).length) := by unfold Hid; rw [hnx]
            clear hnx hadj hqd
            go_wp2_with fail
            rename_i K hK
            replace hK : Hid _ := hK
            go_region_law (go_simp; go_at_call 75; refine cC.mono ?_; rintro _ w5 ⟨rfl, hb5⟩)
            all_goals
              refine hK.out _ _ ?_
              have hq5 := hqn.out.below hb5
              have hb6 := hbw.trans (hb5.mono hbw.size)
              clear cC x0 x1 x2 x3 x4 x5 x6 x7 x8 y0 y1 y2 y3 y4 y5 y6 y7 y8 hb5 hqn
              go_wp2
              go_roundw
              case rel => exact ⟨k + 1, pa, pc, by omega, by omega, by rw [hl5.out], by go_num, hq5, hb6⟩
              case measure => simp [intOf]; omega
        · have g2 : ¬ (k : Int) < (l.length : Int) := by omega
          have hkr : k = l.length := by omega
          rw [hkr, hend.out] at hq
          have hle : Hid ((pairsTo (rwL l) i k).length = (edgesN (rwL l) (i + 1)).length) := by unfold Hid; rw [hkr, hend.out]
          clear hkr hend hpl
          go_wp2
          go_roundw
          case rel => exact ⟨i + 1, pa, pc, by omega, by rw [hle.out], by go_num, hq, hb⟩
          case measure => simp [intOf]; omega
    · have g1 : ¬ (i : Int) < (l.length : Int) := by omega
      have hir : i = (rwL l).length := by rw [hlen.out]; omega
      have hq2 : KQ pairK 120 wr w.heap.size (.slice pa (edgesL (rwL l)).length pc) (edgesL (rwL l)) := by
        unfold edgesL
        rw [← hir]
        exact hq
      have hle : Hid ((edgesN (rwL l) i).length = (edgesL (rwL l)).length) := by unfold Hid edgesL; rw [← hir]
      have hfin : GotEdgesR w (rwL l) (.returned (.slice pa (edgesN (rwL l) i).length pc)) wr := ⟨pa, pc, by rw [hle.out], hq2, hb⟩
      clear hir hq hq2
      go_wp2
      go_ret
      exact hfin
end Go.Proofs.YtajpfkenhchafaaGreatDoor

/- What tuskref21.Check does. -/
namespace Go.Proofs.YtajpfkenhchafaaGreatDoor
open Go Go.RowKit
set_option linter.unusedVariables false

theorem chk_err {l : List RwD} {P : List (List Int)} {e : Nat} (h : markP l.length 0 (List.replicate l.length 0) P = .error e) : chkN l P = e := by
  unfold chkN
  rw [h]

theorem chk_of {l : List RwD} {P : List (List Int)} {m : List Nat} (h : markP l.length 0 (List.replicate l.length 0) P = .ok m) : chkN l P = chkM l m := by
  unfold chkN
  rw [h]

theorem chkM_full {l : List RwD} {m : List Nat} (h : ∀ x, x < m.length → m.getD x 0 ≠ 0) : chkM l m = if (edgesL l).any (fun e => decide (m.getD e.1 0 = m.getD e.2 0)) = true then 15 else if (edgesL l).any (fun e => decide (m.getD e.2 0 < m.getD e.1 0)) = true then 9 else 0 := by
  unfold chkM
  rw [if_neg]
  intro h2
  obtain ⟨v, hv, h3⟩ := List.any_eq_true.1 h2
  obtain ⟨x, hx, e⟩ := List.mem_iff_getElem.1 hv
  refine h x hx ?_
  rw [getD_of hx, e]
  exact of_decide_eq_true h3

theorem any_at {α : Type} {l : List α} {f : α → Bool} {i : Nat} {x : α} (hx : l[i]? = some x) (h : f x = true) : l.any f = true := List.any_eq_true.2 ⟨x, List.mem_of_getElem? hx, h⟩

theorem any_none {α : Type} {l : List α} {f : α → Bool} (h : ∀ (i : Nat) (x : α), l[i]? = some x → f x = false) : l.any f = false := by
  rw [List.any_eq_false]
  intro x hx
  obtain ⟨i, hi⟩ := List.mem_iff_getElem?.1 hx
  rw [h i x hi]
  simp

set_option maxRecDepth 100000 in
set_option maxHeartbeats 4000000 in
theorem refCheckP_any (l : List TxA) (ao : Option Addr) (cp : Nat) (p : List IRow) (pa : Option Addr) (pc : Nat) (w : World) (hl : RowAt txA w ao l) (hf : Few l) (hp : RowAt irowK w pa p) (hpf : RowsFit p) :
    Calls Tryz.prog 44 #[.slice ao l.length cp, .slice pa p.length pc] w fun e w' => e = .returned (.int .i64 (chkN (rwL l) (lsP p) : Nat)) ∧ Below w.heap.size w w' := by
  have hl1 := hf.1
  have hlen := rwL_length l
  obtain ⟨hp1, hp2⟩ := hpf
  generalize hGOT : (fun e w' => e = Ending.returned (.int .i64 (chkN (rwL l) (lsP p) : Nat)) ∧ Below w.heap.size w w') = GOT
  have hG : Hid (∀ w' k, Below w.heap.size w w' → chkN (rwL l) (lsP p) = k → GOT (.returned (.int .i64 (k : Int))) w') := by
    intro w' k h1 h2
    rw [← hGOT, h2]
    exact ⟨rfl, h1⟩
  clear hGOT
  obtain ⟨w1, hms, hQ1, hB1, hs1⟩ := make_nats 32 Tryz.underlying32 l.length (by omega) w
  obtain ⟨B, hB⟩ : ∃ B, B = w.heap.size := ⟨_, rfl⟩
  have hQ1' := hQ1.rebase (show B ≤ w.heap.size by omega)
  have hgB : B ≤ w.heap.size := by omega
  generalize hg : w.heap.size = g at hQ1' hms hs1 hgB
  have hMs : Hid (∀ e, markP l.length 0 (List.replicate l.length 0) (lsP p) = .error e → chkN (rwL l) (lsP p) = e) := fun e h => chk_err (by rw [hlen]; exact h)
  have hMo : Hid (∀ m, markP l.length 0 (List.replicate l.length 0) (lsP p) = .ok m → chkN (rwL l) (lsP p) = chkM (rwL l) m) := fun m h => chk_of (by rw [hlen]; exact h)
  clear hQ1
  go_enter Tryz.func44, Tryz.ntmps44
  go_wp2_with fail
  go_loopw [6] (fun v6 wr => ∃ (j : Nat) (m : List Nat), j ≤ p.length ∧ v6 = .int .i64 (j : Int) ∧ KQ natK 3 wr B (.slice (some ⟨g, 0, none⟩) l.length l.length) m ∧ Hid (m.length = l.length) ∧ Hid (markP l.length 0 (List.replicate l.length 0) ((lsP p).take j) = .ok m) ∧ Below w.heap.size w wr) (fun v _ => p.length - (intOf v).toNat)
  case atStart => exact ⟨0, List.replicate l.length 0, Nat.zero_le _, rfl, hQ1', by unfold Hid; rw [List.length_replicate], rfl, hB1⟩
  case round =>
    obtain ⟨j, m, hj, rfl, hq, hml, hmk, hb⟩ := hrel
    clear hQ1' hB1
    by_cases hjl : j < p.length
    · have g1 : (j : Int) < (p.length : Int) := by omega
      obtain ⟨x, hx⟩ : ∃ q, p[j]? = some q := ⟨_, List.getElem?_eq_getElem hjl⟩
      have hx' : Hid _ := hx
      have hri0 := (hp.at_ x (List.mem_of_getElem? hx)).1
      have hxl := hp2 x (List.mem_of_getElem? hx)
      obtain ⟨bp, op, rfl, -, -, -, -⟩ := (hp.below hb).irow hx
      have hrow : Hid (∀ m', markR l.length j m x.l = .ok m' → markP l.length 0 (List.replicate l.length 0) ((lsP p).take (j + 1)) = .ok m') := fun m' h => by
        rw [markP_step hmk.out (lsP_take hx)]; exact h
      have hrer : Hid (∀ e, markR l.length j m x.l = .error e → markP l.length 0 (List.replicate l.length 0) (lsP p) = .error e) := fun e h => by
        refine markP_err (i := j + 1) ?_
        rw [markP_step hmk.out (lsP_take hx)]; exact h
      have hjw : j ≤ 1000 := by omega
      clear hx hmk
      go_wp2_with fail
      go_loopw [7] (fun v7 wr => ∃ (k : Nat) (m' : List Nat), k ≤ x.l.length ∧ v7 = .int .i64 (k : Int) ∧ KQ natK 3 wr B (.slice (some ⟨g, 0, none⟩) l.length l.length) m' ∧ Hid (m'.length = l.length) ∧ Hid (markR l.length j m (x.l.take k) = .ok m') ∧ Below w.heap.size w wr) (fun v _ => x.l.length - (intOf v).toNat)
      case atStart => exact ⟨0, m, Nat.zero_le _, rfl, hq, hml, rfl, hb⟩
      case round =>
        obtain ⟨k, m', hk, rfl, hq, hml, hmk, hb⟩ := hrel
        obtain ⟨bp', op', e1, hbp, cr, hri, _⟩ := (hp.below hb).irow hx'.out
        simp only [Option.some.injEq, Addr.mk.injEq, and_true] at e1
        obtain ⟨rfl, rfl⟩ := e1
        by_cases hkl : k < x.l.length
        · have g2 : (k : Int) < (x.l.length : Int) := by omega
          obtain ⟨y, hy⟩ : ∃ q, x.l[k]? = some q := ⟨_, List.getElem?_eq_getElem hkl⟩
          obtain ⟨br, orr, hxa, hbr, cy⟩ := hri.int hy
          rw [hxa] at cr
          have hst := markR_step hmk.out hy
          have hstep : Hid (∀ m2, mark1 l.length j m' y = .ok m2 → markR l.length j m (x.l.take (k + 1)) = .ok m2) := fun m2 h => by rw [hst]; exact h
          have hserr : Hid (∀ e, mark1 l.length j m' y = .error e → chkN (rwL l) (lsP p) = e) := fun e h => hMs.out e (hrer.out e (markR_err (i := k + 1) (by rw [hst]; exact h)))
          clear hst hy hxa hri
          by_cases hy0 : y < 0
          · have hE := hG.out wr 2 hb (hserr.out 2 (mark1_range (Or.inl hy0)))
            clear hserr hstep hrer hrow hmk hq
            go_wp2_with fail
            exact hE
          · by_cases hyn : (l.length : Int) ≤ y
            · have hE := hG.out wr 2 hb (hserr.out 2 (mark1_range (Or.inr hyn)))
              have g3 : ¬ y < (l.length : Int) := by omega
              clear hserr hstep hrer hrow hmk hq
              go_wp2_with fail
              exact hE
            · obtain ⟨z, rfl⟩ : ∃ z : Nat, y = (z : Int) := ⟨y.toNat, by omega⟩
              have hzn : z < l.length := by omega
              have g4 : ¬ (l.length : Int) ≤ (z : Int) := hyn
              have g3 : (z : Int) < (l.length : Int) := by omega
              obtain ⟨v, hv⟩ : ∃ v, m'[z]? = some v := ⟨_, List.getElem?_eq_getElem (by rw [hml.out]; exact hzn)⟩
              obtain ⟨c1, f1, hBg, hgw, s1⟩ := hq.natSet hv
              simp only [Nat.zero_add] at c1 f1 s1
              by_cases hv0 : v = 0
              · subst hv0
                have h1 := hstep.out _ (mark1_set hzn hv)
                have h2 : Hid (markR l.length j m (x.l.take (k + 1)) = .ok (m'.set z (j + 1))) := h1
                have hq2 := s1 (j + 1)
                have hl2 : Hid ((m'.set z (j + 1)).length = l.length) := by unfold Hid; rw [List.length_set]; exact hml.out
                have hb2 : Below w.heap.size w (wr.setCell ⟨g, z, none⟩ (.int .i64 ((j + 1 : Nat) : Int))) := hb.trans ((Kept.setCell wr ⟨g, z, none⟩ (.int .i64 ((j + 1 : Nat) : Int))).below hb.size (fun k e => by have e' : k = g := e; omega))
                have g6 : ¬ ((0 : Nat) : Int) > 0 := by omega
                clear h1 hserr hstep hrer hrow hmk hml s1 hq hv
                go_wp2_with fail
                go_roundw
                case rel => exact ⟨k + 1, _, by omega, by go_num, hq2, hl2, h2, hb2⟩
                case measure => simp [intOf]; omega
              · have hE := hG.out wr 13 hb (hserr.out 13 (mark1_err hzn hv hv0))
                have g6 : (0 : Int) < (v : Int) := by omega
                clear hserr hstep hrer hrow s1 hq hv hmk
                go_wp2_with fail
                exact hE
        · have g2 : ¬ (k : Int) < (x.l.length : Int) := by omega
          have hkr : k = x.l.length := by omega
          have h1 := hmk.out
          rw [hkr, List.take_length] at h1
          have h2 : Hid (markP l.length 0 (List.replicate l.length 0) ((lsP p).take (j + 1)) = .ok m') := hrow.out _ h1
          clear h1 hkr hmk hrow hrer hri
          go_wp2_with fail
          go_roundw
          case rel => exact ⟨j + 1, m', by omega, by go_num, hq, hml, h2, hb⟩
          case measure => simp [intOf]; omega
    · have g1 : ¬ (j : Int) < (p.length : Int) := by omega
      have hjr : j = p.length := by omega
      have h1 : markP l.length 0 (List.replicate l.length 0) (lsP p) = .ok m := by
        have := hmk.out
        rw [hjr, List.take_of_length_le (by unfold lsP; rw [List.length_map]; exact Nat.le_refl _)] at this
        exact this
      have hch : Hid (chkN (rwL l) (lsP p) = chkM (rwL l) m) := hMo.out m h1
      clear h1 hjr hmk hMs hMo
      go_wp2_with fail
      go_loopw [9] (fun v9 w2 => ∃ (i : Nat), i ≤ l.length ∧ v9 = .int .i64 (i : Int) ∧ Hid (∀ q, q < i → m.getD q 0 ≠ 0) ∧ w2 = wr) (fun v _ => l.length - (intOf v).toNat)
      case atStart => exact ⟨0, Nat.zero_le _, rfl, fun q h => by omega, rfl⟩
      case round =>
        obtain ⟨i, hi, rfl, hno, rfl⟩ := hrel
        by_cases hil : i < l.length
        · have g2 : (i : Int) < (l.length : Int) := by omega
          have him : i < m.length := by rw [hml.out]; exact hil
          have c1 := (hq.natSet (List.getElem?_eq_getElem him)).1
          simp only [Nat.zero_add] at c1
          have hgd : Hid (m.getD i 0 = m[i]) := getD_of him
          by_cases hv0 : m[i] = 0
          · have hE := hG.out wr 12 hb (by rw [hch.out]; exact chkM_few him (by rw [hgd.out, hv0]))
            rw [hv0] at c1
            clear hno hgd
            go_wp2_with fail
            exact hE
          · have g3 : ((m[i] : Int) == 0) = false := by simp; omega
            have hno2 : Hid (∀ q, q < i + 1 → m.getD q 0 ≠ 0) := fun q h => by
              by_cases e : q = i
              · subst e
                rw [hgd.out]
                exact hv0
              · exact hno.out q (by omega)
            generalize m[i] = v at *
            clear hno hgd
            go_wp2_with fail
            go_roundw
            case rel => exact ⟨i + 1, by omega, by go_num, hno2, by first | rfl | trivial⟩
            case measure => simp [intOf]; omega
        · have g2 : ¬ (i : Int) < (l.length : Int) := by omega
          have hch2 : Hid (chkN (rwL l) (lsP p) = if (edgesL (rwL l)).any (fun e => decide (m.getD e.1 0 = m.getD e.2 0)) = true then 15 else if (edgesL (rwL l)).any (fun e => decide (m.getD e.2 0 < m.getD e.1 0)) = true then 9 else 0) := by
            unfold Hid
            rw [hch.out]
            exact chkM_full (fun x hx => hno.out x (by rw [hml.out] at hx; omega))
          have cE := refEdges_any l ao cp wr (hl.below hb) hf
          clear hno hch
          go_wp2_with (go_at_call 69; refine cE.mono ?_; rintro _ w2 ⟨ea, ec, rfl, hqe, hb2⟩)
          have hbb := hb.trans (hb2.mono hb.size)
          have hq2 := hq.below hb2
          have hEl : (edgesL (rwL l)).length ≤ 1000000 := by
            have h1 := edgesN_length (rwL l) (rwL l).length
            have h2 : (rwL l).length * (rwL l).length ≤ 1000 * 1000 := Nat.mul_le_mul (by omega) (by omega)
            unfold edgesL
            omega
          have hEm : Hid (∀ (q : Nat) (x : Nat × Nat), (edgesL (rwL l))[q]? = some x → x.1 < l.length ∧ x.2 < l.length) := fun q x h => by
            obtain ⟨a, b⟩ := x
            obtain ⟨_, h3⟩ := edgesL_mem.1 (List.mem_of_getElem? h)
            have := adjB_lt h3
            rw [hlen] at this
            exact this
          have hre := hqe.rowOf.1
          have hgw2 : g < w2.heap.size := (hq2.lt g rfl).2
          have hmg : Hid (∀ (q : Nat), q < l.length → ∃ v, m.getD q 0 = v ∧ m[q]? = some v) := fun q h => by
            have h2 : q < m.length := by rw [hml.out]; exact h
            exact ⟨m[q], getD_of h2, List.getElem?_eq_getElem h2⟩
          clear cE hq hqe hml hb hb2
          generalize edgesL (rwL l) = E at *
          go_loopw [11] (fun v11 W3 => ∃ (i : Nat), i ≤ E.length ∧ v11 = .int .i64 (i : Int) ∧ Hid (∀ (q : Nat) (x : Nat × Nat), q < i → E[q]? = some x → decide (m.getD x.1 0 = m.getD x.2 0) = false) ∧ Below w2.heap.size w2 W3) (fun v _ => E.length - (intOf v).toNat)
          case atStart => exact ⟨0, Nat.zero_le _, rfl, fun q x h => by omega, Below.refl _ _⟩
          case round =>
            obtain ⟨i, hi, rfl, hno, hb3⟩ := hrel
            have hb4 := hbb.trans (hb3.mono hbb.size)
            by_cases hil : i < E.length
            · have g3 : (i : Int) < (E.length : Int) := by omega
              obtain ⟨⟨x1, x2⟩, hx⟩ : ∃ q, E[i]? = some q := ⟨_, List.getElem?_eq_getElem hil⟩
              obtain ⟨h1, h2⟩ := hEm.out i _ hx
              replace h1 : x1 < l.length := h1
              replace h2 : x2 < l.length := h2
              obtain ⟨be, oe, rfl, hbe, c1, c2⟩ := (hre.below hb3).pair hx
              obtain ⟨v1, d1, e1⟩ := hmg.out x1 h1
              obtain ⟨v2, d2, e2⟩ := hmg.out x2 h2
              have c3 := ((hq2.below hb3).natSet e1).1
              have c4 := ((hq2.below hb3).natSet e2).1
              simp only [Nat.zero_add] at c3 c4
              have g4 : (x1 : Int) < (l.length : Int) := by omega
              have g5 : (x2 : Int) < (l.length : Int) := by omega
              have hx' : Hid _ := hx
              by_cases hv : v1 = v2
              · have hE := hG.out
                have hE2 : Hid (∀ w', Below w.heap.size w w' → GOT (.returned (.int .i64 ((15 : Nat) : Int))) w') := fun w' h => hG.out w' 15 h (by
                  rw [hch2.out, if_pos (any_at hx (decide_eq_true (by show m.getD x1 0 = m.getD x2 0; rw [d1, d2, hv])))])
                subst hv
                clear hE hno d1 d2 e1 e2 hx
                go_wp2_with fail
                go_quiet (fail)
                go_wp2_with fail
                exact hE2.out _ (below_drewN hb4 _)
              · have g6 : ((v1 : Int) == (v2 : Int)) = false := by simp; omega
                have hno2 : Hid (∀ (q : Nat) (x : Nat × Nat), q < i + 1 → E[q]? = some x → decide (m.getD x.1 0 = m.getD x.2 0) = false) := fun q x hq hxq => by
                  by_cases e : q = i
                  · subst e
                    rw [hx] at hxq
                    obtain rfl : (x1, x2) = x := by simpa using hxq
                    exact decide_eq_false (by show ¬ m.getD x1 0 = m.getD x2 0; rw [d1, d2]; exact hv)
                  · exact hno.out q x (by omega) hxq
                clear hno d1 d2 e1 e2 hx
                go_wp2_with fail
                go_quiet (fail)
                go_wp2_with fail
                go_roundw
                case rel => exact ⟨i + 1, by omega, by go_num, hno2, below_drewN hb3 _⟩
                case measure => simp [intOf]; omega
            · have g3 : ¬ (i : Int) < (E.length : Int) := by omega
              have hch3 : Hid (chkN (rwL l) (lsP p) = if E.any (fun e => decide (m.getD e.2 0 < m.getD e.1 0)) = true then 9 else 0) := by
                unfold Hid
                rw [hch2.out, if_neg]
                rw [any_none (fun q x h => hno.out q x (by have := (List.getElem?_eq_some_iff.1 h).1; omega) h)]
                simp
              clear hno hch2
              go_wp2_with fail
              go_loopw [12] (fun v12 W4 => ∃ (i : Nat), i ≤ E.length ∧ v12 = .int .i64 (i : Int) ∧ Hid (∀ (q : Nat) (x : Nat × Nat), q < i → E[q]? = some x → decide (m.getD x.2 0 < m.getD x.1 0) = false) ∧ Below w2.heap.size w2 W4) (fun v _ => E.length - (intOf v).toNat)
              case atStart => exact ⟨0, Nat.zero_le _, rfl, fun q x h => by omega, hb3⟩
              case round =>
                obtain ⟨i, hi, rfl, hno, hb3⟩ := hrel
                have hb4 := hbb.trans (hb3.mono hbb.size)
                by_cases hil : i < E.length
                · have g3 : (i : Int) < (E.length : Int) := by omega
                  obtain ⟨⟨x1, x2⟩, hx⟩ : ∃ q, E[i]? = some q := ⟨_, List.getElem?_eq_getElem hil⟩
                  obtain ⟨h1, h2⟩ := hEm.out i _ hx
                  replace h1 : x1 < l.length := h1
                  replace h2 : x2 < l.length := h2
                  obtain ⟨be, oe, rfl, hbe, c1, c2⟩ := (hre.below hb3).pair hx
                  obtain ⟨v1, d1, e1⟩ := hmg.out x1 h1
                  obtain ⟨v2, d2, e2⟩ := hmg.out x2 h2
                  have c3 := ((hq2.below hb3).natSet e1).1
                  have c4 := ((hq2.below hb3).natSet e2).1
                  simp only [Nat.zero_add] at c3 c4
                  have g4 : (x1 : Int) < (l.length : Int) := by omega
                  have g5 : (x2 : Int) < (l.length : Int) := by omega
                  have hx' : Hid _ := hx
                  by_cases hv : v2 < v1
                  · have hE2 : Hid (∀ w', Below w.heap.size w w' → GOT (.returned (.int .i64 ((9 : Nat) : Int))) w') := fun w' h => hG.out w' 9 h (by
                      rw [hch3.out, if_pos (any_at hx (decide_eq_true (by show m.getD x2 0 < m.getD x1 0; rw [d1, d2]; exact hv)))])
                    have g6 : (v2 : Int) < (v1 : Int) := by omega
                    clear hno d1 d2 e1 e2 hx
                    go_wp2_with fail
                    go_quiet (fail)
                    go_wp2_with fail
                    exact hE2.out _ (below_drewN hb4 _)
                  · have g6 : ¬ (v2 : Int) < (v1 : Int) := by omega
                    have hno2 : Hid (∀ (q : Nat) (x : Nat × Nat), q < i + 1 → E[q]? = some x → decide (m.getD x.2 0 < m.getD x.1 0) = false) := fun q x hq hxq => by
                      by_cases e : q = i
                      · subst e
                        rw [hx] at hxq
                        obtain rfl : (x1, x2) = x := by simpa using hxq
                        exact decide_eq_false (by show ¬ m.getD x2 0 < m.getD x1 0; rw [d1, d2]; exact hv)
                      · exact hno.out q x (by omega) hxq
                    clear hno d1 d2 e1 e2 hx
                    go_wp2_with fail
                    go_quiet (fail)
                    go_wp2_with fail
                    go_roundw
                    case rel => exact ⟨i + 1, by omega, by go_num, hno2, below_drewN hb3 _⟩
                    case measure => simp [intOf]; omega
                · have g3 : ¬ (i : Int) < (E.length : Int) := by omega
                  have hE := hG.out wr 0 hb4 (by
                    rw [hch3.out, if_neg]
                    rw [any_none (fun q x h => hno.out q x (by have := (List.getElem?_eq_some_iff.1 h).1; omega) h)]
                    simp)
                  clear hno hch3
                  go_wp2_with fail
                  exact hE
end Go.Proofs.YtajpfkenhchafaaGreatDoor

/- The document's executor: what Order does. -/
namespace Go.Proofs.YtajpfkenhchafaaGreatDoor
open Go Go.RowKit
set_option linter.unusedVariables false

section
set_option maxRecDepth 100000 in
set_option maxHeartbeats 4000000 in
theorem refOrder_any (l : List TxM) (lo : Option Addr) (lc : Nat) (p : List IRow) (po : Option Addr) (pc : Nat) (W : World) (hl : RowsM W lo l) (hp : RowAt irowK W po p) (hpf : RowsFit p) (x : Nat) (S : Nat → Prop) (s : StF) (N : Nat) (r : List Nat) (n : Nat) (h : RX W x S s N r n)
    (dl : ∀ b, rowFoot txK lo l b → ¬ S b) (dp : ∀ b, rowFoot irowK po p b → ¬ S b) (hN : N + 2 * l.length ≤ 100000) (hr : r.length ≤ 100000) (hn : n ≤ 100000) :
    Calls Tryz.prog 20 #[.pointer (some ⟨x, 0, none⟩), .slice lo l.length lc, .slice po p.length pc] W fun e w' => GotOrder RX W x S (l.map TxM.d) (lsP p) s N r n e w' := by
  have hl1 := hl.len
  have hp1 := hpf.1
  have cC := refCheckP_any (l.map TxM.a) lo lc p po pc W (rows_a hl.row (fun x hx => (hl.fit x hx).1)) hl.few hp hpf
  rw [List.length_map, rw_ad] at cC
  generalize hGOT : (fun e w' => GotOrder RX W x S (l.map TxM.d) (lsP p) s N r n e w') = GOT
  by_cases hz : chkN ((l.map TxM.d).map TxD.rw) (lsP p) = 0
  · have hG : Hid (∀ w' ga gc S', KQ natK 3 w' W.heap.size (.slice ga l.length gc) (execR s (l.map TxM.d)) → RX w' x S' (execS s (l.map TxM.d)) (N + 2 * l.length) (r ++ execR s (l.map TxM.d)) (n + 1) → FreshS W S S' → (∀ k, (Value.slice ga l.length gc).ownBlock = some k → ¬ S' k) → Kept S W w' → GOT (.returned (.tuple #[.slice ga l.length gc, .int .i64 0])) w') := by
      intro w' ga gc S' h1 h2 h3 h4 h5
      rw [← hGOT]
      exact Or.inr ⟨hz, ga, gc, S', by rw [List.length_map], by rw [List.length_map]; exact h1, by rw [List.length_map]; exact h2, h3, by rw [List.length_map]; exact h4, h5⟩
    clear hGOT
    rw [hz] at cC
    obtain ⟨hnd, hin, hlen, hrng⟩ := plan_nums hz
    rw [List.length_map] at hlen hrng
    obtain ⟨ho1, ho2⟩ := plan_out hz s
    rw [List.length_map] at ho1
    obtain ⟨rb, T0, q, hbx, hst, hrs, hTx, hTq, hTS⟩ := h.ex
    have hlS := h.lt
    have hrb : rb < W.heap.size := by obtain ⟨qa, qv, A, V, g1, g2, g3⟩ := hst.ex; exact hst.lt _ (g3 _ (Or.inl rfl))
    generalize hD : l.map TxM.d = D at hz hnd hin hlen hrng ho1 ho2 hG cC
    have hdx : Hid (∀ (i : Nat) (t : TxM), l[i]? = some t → dAt D i = t.d) := fun i t e => dAt_get (by rw [← hD, List.getElem?_map, e]; rfl)
    replace hnd : Hid _ := hnd
    replace hin : Hid _ := hin
    replace hrng : Hid _ := hrng
    replace ho1 : Hid _ := ho1
    replace ho2 : Hid _ := ho2
    replace hlen : Hid _ := hlen
    have hDl : Hid (D.length = l.length) := by unfold Hid; rw [← hD, List.length_map]
    clear hz hD h
    go_enter Tryz.func20, Tryz.ntmps20
    go_wp2_with (go_at_call 44; refine cC.mono ?_; rintro _ w1 ⟨rfl, hb1⟩; obtain ⟨w2, hms, hQ2, hB2, hs2⟩ := make_nats 32 Tryz.underlying32 l.length (by omega) w1)
    have hb12 : Below W.heap.size W w2 := hb1.trans (hB2.mono hb1.size)
    have hI0 : OI W w2 x rb w1.heap.size S T0 q (dAt D) s N r n l.length [] := by
      unfold OI
      rw [outL_nil]
      exact ⟨hbx.below hb12 hbx.lt, hst.below hb12, hrs.below hb12, hQ2.rebase hb1.size, hTx, fun k e => ⟨(hTq k e).1, (hTq k e).2, hTS k (Or.inr (Or.inr e))⟩, fun e => by have := hlS _ (hTS _ (Or.inr (Or.inl e))); have := hb1.size; omega, hTS x (Or.inl rfl), fun k e => Or.inl (hTS k (Or.inr (Or.inl e))), hlS, Kept.of_below hb12⟩
    generalize hg : w1.heap.size = g at hI0 hms hs2
    clear hQ2 hms hB2 hs2 cC hbx hst hrs hTx hTq hTS hb12
    go_loopw [10] (fun v10 wr => ∃ (j : Nat) (T : Nat → Prop), j ≤ p.length ∧ v10 = .int .i64 (j : Int) ∧ OI W wr x rb g S T q (dAt D) s N r n l.length (flatP ((lsP p).take j))) (fun v _ => p.length - (intOf v).toNat)
    case atStart => exact ⟨0, T0, Nat.zero_le _, rfl, hI0⟩
    case round =>
      obtain ⟨j, T, hj, rfl, hI⟩ := hrel
      clear hI0
      by_cases hjl : j < p.length
      · have g1 : (j : Int) < (p.length : Int) := by omega
        obtain ⟨y, hy⟩ : ∃ q, p[j]? = some q := ⟨_, List.getElem?_eq_getElem hjl⟩
        have hPj : Hid ((lsP p)[j]? = some y.l) := by unfold Hid lsP; rw [List.getElem?_map, hy]; rfl
        obtain ⟨bp, op, hpo, hbp, -, -, -⟩ := (hp.kept hI.kp dp).irow hy
        have hyl := hpf.2 y (List.mem_of_getElem? hy)
        go_wp2_with fail
        go_loopw [11] (fun v11 wr => ∃ (k : Nat) (T : Nat → Prop), k ≤ y.l.length ∧ v11 = .int .i64 (k : Int) ∧ OI W wr x rb g S T q (dAt D) s N r n l.length (flatP ((lsP p).take j) ++ (y.l.take k).map Int.toNat)) (fun v _ => y.l.length - (intOf v).toNat)
        case atStart => exact ⟨0, T, Nat.zero_le _, rfl, by rw [List.take_zero, List.map_nil, List.append_nil]; exact hI⟩
        case round =>
          obtain ⟨k, T, hk, rfl, hI⟩ := hrel
          have hPr := hp.kept hI.kp dp
          obtain ⟨bp', op', e1, hbp, cr, hri, -⟩ := hPr.irow hy
          rw [hpo] at e1
          simp only [Option.some.injEq, Addr.mk.injEq, and_true] at e1
          obtain ⟨rfl, rfl⟩ := e1
          by_cases hkl : k < y.l.length
          · have g2 : (k : Int) < (y.l.length : Int) := by omega
            obtain ⟨v, hv⟩ : ∃ q, y.l[k]? = some q := ⟨_, List.getElem?_eq_getElem hkl⟩
            obtain ⟨br, orr, hxa, hbr, cy⟩ := hri.int hv
            rw [hxa] at cr
            have hvr := hrng.out j y.l hPj.out v (List.mem_of_getElem? hv)
            obtain ⟨z, rfl⟩ : ∃ z : Nat, v = (z : Int) := ⟨v.toNat, by omega⟩
            have g3 : (z : Int) < (l.length : Int) := hvr.2
            have hzl : z < l.length := by omega
            obtain ⟨u, hfl⟩ := flatP_at hPj.out hv
            rw [Int.toNat_natCast] at hfl
            have hnd1 := hnd.out
            rw [hfl] at hnd1
            have hzn : z ∉ flatP ((lsP p).take j) ++ (y.l.take k).map Int.toNat := fun e => (List.nodup_append.1 hnd1).2.2 z e z List.mem_cons_self rfl
            have hlt : (flatP ((lsP p).take j) ++ (y.l.take k).map Int.toNat).length < l.length := by
              have h1 := hlen.out
              rw [hfl, List.length_append, List.length_cons] at h1
              omega
            have hst := take_map_step hv
            rw [Int.toNat_natCast] at hst
            have hstep : Hid ((flatP ((lsP p).take j) ++ (y.l.take k).map Int.toNat) ++ [z] = flatP ((lsP p).take j) ++ (y.l.take (k + 1)).map Int.toNat) := by unfold Hid; rw [hst, List.append_assoc]
            generalize hσ : flatP ((lsP p).take j) ++ (y.l.take k).map Int.toNat = σ at hI hzn hlt hstep
            obtain ⟨tx, htx⟩ : ∃ t, l[z]? = some t := ⟨_, List.getElem?_eq_getElem hzl⟩
            obtain ⟨bl, ol, hlo, hbl, t0, t1, t2, t3, t4, t5, t6, t7, t8, hA⟩ := (hl.row.kept hI.kp dl).tx22 htx
            obtain ⟨q1, q2, q3⟩ := hl.fit tx (List.mem_of_getElem? htx)
            have hdz := hdx.out z tx htx
            have hbD : Below wr.heap.size wr wr.drew := below_drewN (Below.refl _ _) 1
            have hID : OI W wr.drew x rb g S T q (dAt D) s N r n l.length σ := OX.below hI hbD
            have cA := rsApply_any tx (hA.below hbD) q1 q3 hID.st (by omega)
            have hkp : ∀ w', (Kept S W w' ∧ Arr w' x 42 [.pointer (some ⟨rb, 0, none⟩), q, .int .i64 (n : Int)]) → (w'.cell? ⟨bp, op + j, none⟩ = some (.slice (some ⟨br, orr, none⟩) y.l.length y.cap) ∧ w'.cell? ⟨br, orr + k, none⟩ = some (.int .i64 (z : Int)) ∧ w'.cell? ⟨x, 0, none⟩ = some (.pointer (some ⟨rb, 0, none⟩)) ∧ w'.cell? ⟨bl, ol + z * 9, none⟩ = some (.int .i64 tx.d.kind) ∧ w'.cell? ⟨bl, ol + z * 9 + 1, none⟩ = some (.string tx.d.frm) ∧ w'.cell? ⟨bl, ol + z * 9 + 2, none⟩ = some (.string tx.d.to) ∧ w'.cell? ⟨bl, ol + z * 9 + 3, none⟩ = some (.int .u64 (tx.d.amt : Int)) ∧ w'.cell? ⟨bl, ol + z * 9 + 4, none⟩ = some (.int .u64 (tx.d.non : Int)) ∧ w'.cell? ⟨bl, ol + z * 9 + 5, none⟩ = some (.string tx.d.key) ∧ w'.cell? ⟨bl, ol + z * 9 + 6, none⟩ = some (.string tx.d.val) ∧ w'.cell? ⟨bl, ol + z * 9 + 7, none⟩ = some (.slice tx.ra tx.d.rs.length tx.rc) ∧ w'.cell? ⟨bl, ol + z * 9 + 8, none⟩ = some (.slice tx.wa tx.d.ws.length tx.wc)) := fun w' h => by
              obtain ⟨bp', op', e1, _, cr', hri', -⟩ := (hp.kept h.1 dp).irow hy
              rw [hpo] at e1
              simp only [Option.some.injEq, Addr.mk.injEq, and_true] at e1
              obtain ⟨rfl, rfl⟩ := e1
              obtain ⟨br', or', e2, _, cy'⟩ := hri'.int hv
              rw [hxa] at e2 cr'
              simp only [Option.some.injEq, Addr.mk.injEq, and_true] at e2
              obtain ⟨rfl, rfl⟩ := e2
              obtain ⟨bl', ol', e3, _, z0, z1, z2, z3, z4, z5, z6, z7, z8, _⟩ := (hl.row.kept h.1 dl).tx22 htx
              rw [hlo] at e3
              simp only [Option.some.injEq, Addr.mk.injEq, and_true] at e3
              obtain ⟨rfl, rfl⟩ := e3
              exact ⟨cr', cy', h.2.cell (i := 0) rfl, z0, z1, z2, z3, z4, z5, z6, z7, z8⟩
            have hK0 : Kept S W wr.drew ∧ Arr wr.drew x 42 [.pointer (some ⟨rb, 0, none⟩), q, .int .i64 (n : Int)] := ⟨hID.kp, hID.box⟩
            have hF0 := hkp _ hK0
            obtain ⟨v', hv'⟩ : ∃ v', Hid (applyE (runS (dAt D) s σ) tx.d = v') := ⟨_, rfl⟩
            unfold TxM.v txV at cA
            subst hpo hlo
            clear hPr hri hfl hnd1 hst hσ htx hA hvr hxa hv t0 t1 t2 t3 t4 t5 t6 t7 t8 cy hI hbD hlt
            go_wp2_with fail
            clear cr
            go_region_held3 (fun w' => (w'.cell? ⟨bp, op + j, none⟩ = some (.slice (some ⟨br, orr, none⟩) y.l.length y.cap) ∧ w'.cell? ⟨br, orr + k, none⟩ = some (.int .i64 (z : Int)) ∧ w'.cell? ⟨x, 0, none⟩ = some (.pointer (some ⟨rb, 0, none⟩)) ∧ w'.cell? ⟨bl, ol + z * 9, none⟩ = some (.int .i64 tx.d.kind) ∧ w'.cell? ⟨bl, ol + z * 9 + 1, none⟩ = some (.string tx.d.frm) ∧ w'.cell? ⟨bl, ol + z * 9 + 2, none⟩ = some (.string tx.d.to) ∧ w'.cell? ⟨bl, ol + z * 9 + 3, none⟩ = some (.int .u64 (tx.d.amt : Int)) ∧ w'.cell? ⟨bl, ol + z * 9 + 4, none⟩ = some (.int .u64 (tx.d.non : Int)) ∧ w'.cell? ⟨bl, ol + z * 9 + 5, none⟩ = some (.string tx.d.key) ∧ w'.cell? ⟨bl, ol + z * 9 + 6, none⟩ = some (.string tx.d.val) ∧ w'.cell? ⟨bl, ol + z * 9 + 7, none⟩ = some (.slice tx.ra tx.d.rs.length tx.rc) ∧ w'.cell? ⟨bl, ol + z * 9 + 8, none⟩ = some (.slice tx.wa tx.d.ws.length tx.wc))) (exact hkp _ (by assumption))
              (first | (go_at_call 23; refine cA.mono ?_; rintro e w5 ⟨rfl, T', hs5, hf5, hk5⟩; obtain ⟨c5, f5, hI5⟩ := hID.done hzl hzn hdz hs5 hf5 hk5; have hI6 := OX.apply hID hs5 hf5 hk5; have hK5 : Kept S W w5 ∧ Arr w5 x 42 [.pointer (some ⟨rb, 0, none⟩), q, .int .i64 (n : Int)] := ⟨hI6.kp, hI6.box⟩; have hK7 : Kept S W (w5.setCell ⟨g, z, none⟩ (.int .i64 (applyE (runS (dAt D) s σ) tx.d : Nat))) ∧ Arr (w5.setCell ⟨g, z, none⟩ (.int .i64 (applyE (runS (dAt D) s σ) tx.d : Nat))) x 42 [.pointer (some ⟨rb, 0, none⟩), q, .int .i64 (n : Int)] := ⟨hI5.kp, hI5.box⟩))
            all_goals (
              rw [hstep.out] at hI5
              go_wp2_with fail
              go_roundw
              case rel => exact ⟨k + 1, T', by omega, by go_num, hI5⟩
              case measure => simp [intOf]; omega)
          · have g2 : ¬ (k : Int) < (y.l.length : Int) := by omega
            have hkr : k = y.l.length := by omega
            have hI9 : OI W wr x rb g S T q (dAt D) s N r n l.length (flatP ((lsP p).take (j + 1))) := by
              rw [hkr, List.take_length, ← flatP_step hPj.out] at hI
              exact hI
            clear hI hkr
            subst hpo
            go_wp2_with fail
            go_roundw
            case rel => exact ⟨j + 1, T, by omega, by go_num, hI9⟩
            case measure => simp [intOf]; omega
      · have g1 : ¬ (j : Int) < (p.length : Int) := by omega
        have hjr : j = (lsP p).length := by unfold lsP; rw [List.length_map]; omega
        have hI9 : OI W wr x rb g S T q (dAt D) s N r n l.length (flatP (lsP p)) := by
          rw [hjr, List.take_length] at hI
          exact hI
        unfold OI at hI9
        rw [ho1.out, ho2.out, hlen.out] at hI9
        clear hI hjr
        obtain ⟨O, hO⟩ : ∃ O, Hid (execR s D = O) := ⟨_, rfl⟩
        rw [hO.out] at hI9 hG
        have hOl : O.length = l.length := by rw [← hO.out, execR_length, hDl.out]
        have hrow : RowAt natK wr (some ⟨g, 0, none⟩) O := hI9.out.rowOf.1
        have hrs := hI9.rs
        have b1 := hI9.box.cell (i := 1) rfl
        have m1 : r.length + O.length ≤ maxLen := by unfold maxLen; omega
        have m2 : (r.length + O.length) * 8 ≤ 140737488355328 := by omega
        obtain ⟨i0, z0, hi0, hz0, hs0, hbb0, hzs0⟩ := intInfoA
        clear hO hdx hnd hin hlen hrng ho1 ho2 hDl
        go_wp2_with (at_builtin; refine wpList_joins (K := natK) rfl _ _ 32 rfl 0 3 i0 _ 8 Tryz.underlying32 hi0 hz0 hs0 hbb0 hzs0 _ r O rfl hrs (fun _ _ h => h.elim) (some ⟨g, 0, none⟩) l.length (by rw [hOl]; rfl) hrow m1 m2 (Nat.zero_le _) ?_; intro ao3 cap3 w6 hQ6 hk6 hf6; have hbx6 := hI9.box.kept hk6 (fun e => (hI9.tq x e).1 rfl); have d1 := hbx6.cell (i := 1) rfl; have e1 := hbx6.frozen 1; have d2 := hbx6.cell (i := 2) rfl; have e2 := hbx6.frozen 2)
        have hkq : Kept (fun k => q.ownBlock = some k) wr w6 := hk6
        have hfq : Fresh wr q (.slice ao3 (r ++ O).length cap3) := hf6
        clear hk6 hf6
        rw [show (r ++ O).length = r.length + l.length by rw [List.length_append, hOl]] at hQ6 hfq
        have hgw := hI9.gW
        have hxw := hI9.box.lt
        have hxW := hlS x hI9.sx
        have hWr := hI9.kp.size
        have hVx : ∀ k, (Value.slice ao3 (r.length + l.length) cap3).ownBlock = some k → k ≠ x ∧ ¬ T k ∧ (S k ∨ W.heap.size ≤ k) ∧ k ≠ g := fun k e => by
          rcases hfq k e with h | h
          · exact ⟨(hI9.tq k h).1, (hI9.tq k h).2.1, Or.inl (hI9.tq k h).2.2, fun e => by have := hlS k (hI9.tq k h).2.2; omega⟩
          · exact ⟨by omega, fun e => by have := hI9.st.lt k e; omega, Or.inr (by omega), by omega⟩
        have hkF : Kept (fun k => k = x) w6 ((w6.setCell ⟨x, 1, none⟩ (.slice ao3 (r.length + l.length) cap3)).setCell ⟨x, 2, none⟩ (.int .i64 ((n : Int) + 1))) := (Kept.setCell w6 ⟨x, 1, none⟩ _).set (p := ⟨x, 2, none⟩) rfl _
        have hbx8 : Arr ((w6.setCell ⟨x, 1, none⟩ (.slice ao3 (r.length + l.length) cap3)).setCell ⟨x, 2, none⟩ (.int .i64 ((n : Int) + 1))) x 42 [.pointer (some ⟨rb, 0, none⟩), .slice ao3 (r.length + l.length) cap3, .int .i64 ((n + 1 : Nat) : Int)] := (hbx6.set 1 (.slice ao3 (r.length + l.length) cap3)).set 2 (.int .i64 ((n : Int) + 1))
        generalize (w6.setCell ⟨x, 1, none⟩ (.slice ao3 (r.length + l.length) cap3)).setCell ⟨x, 2, none⟩ (.int .i64 ((n : Int) + 1)) = wF at hkF hbx8 ⊢
        have hstF : RS wF rb T (execS s D) (N + 2 * l.length) := (hI9.st.kept hkq (fun k e e2 => (hI9.tq k e2).2.1 e)).kept hkF (fun k e e2 => hI9.tx (by rw [← show k = x from e2]; exact e))
        have hQF := hQ6.kept hkF (fun k e e2 => (hVx k e).1 e2) (fun _ _ _ h => h.elim)
        have hOF := (hI9.out.kept hkq (fun k e e2 => by
          obtain rfl : g = k := (by simpa [Value.ownBlock] using e)
          have := hlS g (hI9.tq g e2).2.2
          omega) (fun _ _ _ h => h.elim)).kept hkF (fun k e e2 => by
          obtain rfl : g = k := (by simpa [Value.ownBlock] using e)
          have e3 : g = x := e2
          omega) (fun _ _ _ h => h.elim)
        refine hG.out wF (some ⟨g, 0, none⟩) l.length (fun k => k = x ∨ T k ∨ (Value.slice ao3 (r.length + l.length) cap3).ownBlock = some k) hOF ⟨⟨rb, T, _, hbx8, hstF, hQF, hI9.tx, fun k e => ⟨(hVx k e).1, (hVx k e).2.1⟩, fun k e => e⟩, fun k e => ?_⟩ (fun k e => ?_) (fun k e e2 => ?_) ((hI9.kp.trans (hkq.mono (fun k _ e => (hI9.tq k e).2.2))).trans (hkF.mono (fun k _ e => by rw [show k = x from e]; exact hI9.sx)))
        · rcases e with e | e | e
          · rw [e]; exact hbx8.lt
          · exact hstF.lt k e
          · exact (hQF.lt k e).2
        · rcases e with e | e | e
          · exact Or.inl (by rw [e]; exact hI9.sx)
          · exact hI9.fr k e
          · exact (hVx k e).2.2.1
        · obtain rfl : g = k := (by simpa [Value.ownBlock] using e)
          rcases e2 with e2 | e2 | e2
          · omega
          · exact hI9.tg e2
          · exact (hVx g e2).2.2.2 rfl
  · have hG : Hid (∀ w', Below W.heap.size W w' → GOT (.returned (.tuple #[.slice none 0 0, .int .i64 (chkN ((l.map TxM.d).map TxD.rw) (lsP p) : Nat)])) w') := fun w' h => by
      rw [← hGOT]
      exact Or.inl ⟨hz, rfl, h⟩
    clear hGOT
    generalize chkN ((l.map TxM.d).map TxD.rw) (lsP p) = c at hz hG cC
    have g0 : ((c : Int) != 0) = true := by simp; omega
    have g1 : ¬ (c : Int) = 0 := by omega
    go_enter Tryz.func20, Tryz.ntmps20
    go_wp2_with (go_at_call 44; refine cC.mono ?_; rintro _ w1 ⟨rfl, hb1⟩)
    exact hG.out _ hb1
end
end Go.Proofs.YtajpfkenhchafaaGreatDoor

/- The document's executor: what New and Run do. -/
namespace Go.Proofs.YtajpfkenhchafaaGreatDoor
open Go Go.RowKit
set_option linter.unusedVariables false

set_option maxRecDepth 100000 in
set_option maxHeartbeats 2000000 in
theorem refRun_any (l : List TxM) (lo : Option Addr) (lc : Nat) (W : World) (hl : RowsM W lo l) (x : Nat) (S : Nat → Prop) (s : StF) (N : Nat) (r : List Nat) (n : Nat) (h : RX W x S s N r n)
    (dl : ∀ b, rowFoot txK lo l b → ¬ S b) (hN : N + 2 * l.length ≤ 100000) (hr : r.length ≤ 100000) (hn : n ≤ 100000) :
    Calls Tryz.prog 13 #[.pointer (some ⟨x, 0, none⟩), .slice lo l.length lc] W fun e w' => GotRun RX W x S (l.map TxM.d) s N r n e w' := by
  have cP := refPlan_any (l.map TxM.a) lo lc W (rows_a hl.row (fun x hx => (hl.fit x hx).1)) hl.few
  rw [List.length_map] at cP
  have hlS := h.lt
  generalize hGOT : (fun e w' => GotRun RX W x S (l.map TxM.d) s N r n e w') = GOT
  have hG : Hid (∀ w1 w', Below W.heap.size W w1 → ∀ P, chkN ((l.map TxM.d).map TxD.rw) P = 0 → ∀ ga gc S', KQ natK 3 w' w1.heap.size (.slice ga l.length gc) (execR s (l.map TxM.d)) → RX w' x S' (execS s (l.map TxM.d)) (N + 2 * l.length) (r ++ execR s (l.map TxM.d)) (n + 1) → FreshS w1 S S' → (∀ k, (Value.slice ga l.length gc).ownBlock = some k → ¬ S' k) → Kept S w1 w' → GOT (.returned (.slice ga l.length gc)) w') := by
    intro w1 w' hb P hz ga gc S' h1 h2 h3 h4 h5
    rw [← hGOT]
    refine ⟨ga, gc, S', by rw [List.length_map], by rw [List.length_map]; exact h1.rebase hb.size, by rw [List.length_map]; exact h2, fun k e => ?_, by rw [List.length_map]; exact h4, (Kept.of_below hb).trans h5⟩
    rcases h3 k e with q | q
    · exact Or.inl q
    · exact Or.inr (Nat.le_trans hb.size q)
  clear hGOT
  go_enter Tryz.func13, Tryz.ntmps13
  go_wp2_with (first
    | (go_at_call 29; refine cP.mono ?_; rintro _ w1 ⟨q, p, rfl, hP, hls, hb1⟩
       obtain ⟨qa, qc, rfl, -, hr1⟩ := hP.form
       have hfit := (plan_fit hls (rwL_rows hl)).1
       have hz : chkN ((l.map TxM.d).map TxD.rw) (lsP p) = 0 := by rw [hls, rw_ad]; exact chk_plan _
       have cO := refOrder_any l lo lc p qa qc w1 (hl.below hb1) hr1 hfit x S s N r n (h.below hb1) dl (fun b hb e => by have := hP.foot_ge b hb; have := hlS b e; omega) hN hr hn
       clear cP)
    | (go_at_call 20; refine cO.mono ?_; rintro _ w2 hgot
       rcases hgot with ⟨h1, -, -⟩ | ⟨-, ga, gc, S', rfl, h2, h3, h4, h5, h6⟩
       · exact absurd hz h1
       rw [List.length_map] at h2 h3 h5 ⊢))
  exact hG.out w1 w2 hb1 _ hz ga gc S' h2 h3 h4 h5 h6

set_option maxRecDepth 100000 in
set_option maxHeartbeats 2000000 in
theorem refExeNew_any (rich : List ByteArray) (ao : Option Addr) (cp : Nat) (funds : Nat) (W : World) (hR : RowAt strK W ao rich) (hz : ∀ s ∈ rich, s.size ≤ maxLen) (hl : rich.length ≤ 1000) :
    Calls Tryz.prog 9 #[.slice ao rich.length cp, .int .u64 (funds : Int)] W fun e w' => GotExe RX W (newF rich funds) rich.length e w' := by
  have cN := refNew22_any rich ao cp funds W hR hz hl
  go_enter Tryz.func9, Tryz.ntmps9
  go_wp2_with (go_at_call 22; refine cN.mono ?_; rintro _ w1 ⟨rb, T, rfl, h1, h2, hb1⟩)
  go_ret
  have hX := Arr.new w1 42 [.pointer (some ⟨rb, 0, none⟩), .slice none 0 0, .int .i64 ((0 : Nat) : Int)]
  have hbn := belowNew w1 (.cells #[.pointer (some ⟨rb, 0, none⟩), .slice none 0 0, .int .i64 ((0 : Nat) : Int)] 42)
  have hT1 : ∀ k, T k → k < w1.heap.size := h1.lt
  refine ⟨w1.heap.size, fun k => k = w1.heap.size ∨ T k, rfl, ⟨⟨rb, T, _, hX, h1.below hbn, KQ.empty _ _ _ _, fun e => by have := hT1 _ e; omega, fun k e => by simp [Value.ownBlock] at e, fun k e => ?_⟩, fun k e => ?_⟩, fun k e => ?_, hb1.trans (hbn.mono hb1.size)⟩
  · rcases e with e | e | e
    · exact Or.inl e
    · exact Or.inr e
    · simp [Value.ownBlock] at e
  · rcases e with e | e
    · rw [e]; exact hX.lt
    · exact Nat.lt_of_lt_of_le (hT1 k e) hbn.size
  · rcases e with e | e
    · rw [e]; exact hb1.size
    · exact h2 k e
end Go.Proofs.YtajpfkenhchafaaGreatDoor
