/- ChainSkips: for every input the statement answers true, and each argument reads afterwards as it read before. Condition: the two tables of package mix read as the program's text lays them; no other. -/
import Derived.Test.YthhildeocedpiaaDoorBlkEncode
import Derived.Test.YthhildeocedpiaaDoorMixAll
import Derived.Test.YthhildeocedpiaaDoorChnSee
import Derived.Test.YthhildeocedpiaaDoorStrKind
import Derived.Test.YthhildeocedpiaaDoorRefSame
import Derived.Test.YthhildeocedpiaaDoorBlkOwn
import Derived.Test.YthhildeocedpiaaDoorHdrRows
import Derived.Test.YthhildeocedpiaaDoorAuthAll
import Derived.Test.YthhildeocedpiaaDoorCards
import Derived.Test.YthhildeocedpiaaDoorTie
import Derived.SevenTiedAt
/- What block.Id does; nothing old in memory is turned. -/
namespace Go.Proofs.YthhildeocedpiaaDoor
open Go.RowKit
set_option linter.unusedVariables false

/-- A block's id. -/
def idK (b : BlkD) : ByteArray := Mx.bytes (Mx.sumL (encK b))

theorem idK_size (b : BlkD) : (idK b).size = 32 := by unfold idK; rw [Mx.bytes_size]; exact Mx.keyedL_len [] _

set_option maxRecDepth 100000 in
set_option maxHeartbeats 1000000 in
theorem blkId_any (x : BlkM) (w : World) (hA : x.At w) (hf : x.Enc) (hl : (encK x.d).length ≤ 140737488351232) (hG : Mx.Glob w) :
    Calls Tryd.prog 30 #[x.v] w fun e w' => e = .returned (.string (idK x.d)) ∧ Below w.heap.size w w' := by
  have hX := Arr.new w 39 x.c
  have hB := belowNew w (.cells x.c.toArray 39)
  have cE := blkEncode_any x _ (hA.below hB) hf
  obtain ⟨eb, heb⟩ : ∃ q, q = (⟨(encK x.d).toArray⟩ : ByteArray) := ⟨_, rfl⟩
  have hes : eb.size ≤ 140737488351232 := by rw [heb, size_mk]; exact hl
  have cS := fun w1 hg => Mx.sum_any eb w1 hes hg
  have HE : Hid (idK x.d = Mx.bytes (Mx.sumL eb.data.toList)) := by show idK x.d = _; rw [heb]; rfl
  rw [← heb] at cE
  obtain ⟨out, hout⟩ : ∃ q, Hid (q = idK x.d) := ⟨_, rfl⟩
  rw [← hout.out]
  have hG1 := hG.below hB
  clear heb hes hA hf hl hG
  unfold BlkM.v at cE ⊢
  unfold BlkM.c at hX hB cE hG1
  have x0 := hX.cell (i := 0) rfl
  have x1 := hX.cell (i := 1) rfl
  have x2 := hX.cell (i := 2) rfl
  have x3 := hX.cell (i := 3) rfl
  have x4 := hX.cell (i := 4) rfl
  go_enter Tryd.func30, Tryd.ntmps30
  go_wp2_with fail
  refine cE.mono ?_
  rintro e w1 ⟨rfl, hb1⟩
  have hB1 := hB.trans (hb1.mono hB.size)
  have hG2 := hG1.below hb1
  clear cE hX hB x0 x1 x2 x3 x4 hb1 hG1
  go_wp2_with fail
  refine (cS _ hG2).mono ?_
  rintro e w2 ⟨rfl, hb2⟩
  have hB2 := hB1.trans (hb2.mono hB1.size)
  clear cS hB1 hb2
  go_wp2
  go_ret
  exact ⟨by rw [hout.out, HE.out]; rfl, hB2⟩
end Go.Proofs.YthhildeocedpiaaDoor

/- A block is laid in. -/
namespace Go.Proofs.YthhildeocedpiaaDoor
open Go Go.RowKit
set_option linter.unusedVariables false

theorem blkN_at (u v : Int) (b : ByteArray) (w : World) : (blkN u v b).At w := ⟨⟨nil_row _ _, fun _ => rfl⟩, nil_row _ _, fun _ => rfl⟩

theorem blkN_enc (u v : Int) (b : ByteArray) (hb : b.size ≤ 1000) : (blkN u v b).Enc :=
  ⟨⟨Nat.le_trans hb (by decide), by show (0 : Nat) ≤ _; decide, (fun t ht => by cases ht), by show (tagsB []).length ≤ _; decide +kernel⟩, by show (0 : Nat) ≤ _; decide, by show (lst (bl [])).length ≤ _; decide +kernel⟩

/-- A block upon the last one has the id of the next. -/
structure IdOk (L : LinP) (k : Nat) : Prop where
  id : idK (blkN (L.vw (k + 1) : Int) (L.vw k : Int) (L.ids k)).d = L.ids (k + 1)
  len : (encK (blkN (L.vw (k + 1) : Int) (L.vw k : Int) (L.ids k)).d).length ≤ 1000

section
variable {w w' : World} {L : LinP} {c m k lo lk la hi vt : Nat} {ad : Nat → Nat}

theorem lnC_adP (L : LinP) (ad : Nat → Nat) (la a : Nat) {j : Nat} (h : j ≤ k) : lnC L (adP ad (k + 1) a) la j = lnC L ad la j := by
  unfold lnC
  by_cases h0 : j = 0
  · subst h0
    rfl
  · simp only [if_neg h0, adP_ne ad (show j - 1 ≠ k + 1 by omega)]

theorem newLink (L : LinP) (ad : Nat → Nat) (a : Nat) (h : la ≤ k) : lnC L (adP ad (k + 1) a) la (k + 1) = [.string (L.ids (k + 1)), .int .i64 (L.vw (k + 1) : Int), .int .i64 (L.vw k : Int), .string (L.ids k), .slice none 0 0, .slice none 0 0, ptrL (ad k), .bool false] := by
  unfold lnC
  rw [if_neg (by omega), if_neg (by omega), decide_eq_false (by omega), show k + 1 - 1 = k by omega, adP_ne ad (show k ≠ k + 1 by omega)]

/-- One link more. -/
theorem ChAt.more {K : Nat} (hL : L.Ok K) (hK : k + 1 ≤ K) (h : ChAt w L c m ad k lo lk la hi vt) {w1 w2 : World} {a : Nat} (ha : w.heap.size ≤ a) (hb : Below w.heap.size w w1) (hl : Arr w1 a 112 (lnC L (adP ad (k + 1) a) la (k + 1))) (hm : SMap w2 m (putF (lnF L ad lo k) (L.ids (k + 1)) (ptrL a)) (k + 1 + 1 - lo)) (hk : Kept (fun b => b = m) w1 w2) :
    ChAt w2 L c m (adP ad (k + 1) a) (k + 1) lo lk la hi vt := by
  have hlo : lo ≤ k := Nat.le_trans h.ola (Nat.le_trans h.olk h.okk)
  have hlt : ∀ j, lo ≤ j → j ≤ k → ad j < w.heap.size := fun j p q => (h.ln j p q).lt
  have hcl := h.box.lt
  have hml := h.mp.lt
  have e1 : ∀ j, j ≤ k → adP ad (k + 1) a j = ad j := fun j q => adP_ne ad (by omega)
  have h1 := h.below hb
  refine ⟨?_, ?_, fun j p q => ?_, h.cm, fun j p q => ?_, fun i j p q p' q' e => ?_, h.ola, h.olk, Nat.le_succ_of_le h.okk, Nat.le_succ_of_le h.ohi⟩
  · rw [e1 lk h.okk, e1 la (Nat.le_trans h.olk h.okk)]
    exact h1.box.kept hk (fun e => h.cm e)
  · exact hm.congr (fun id => lnF_put hL hK (by omega) id)
  · by_cases e : j = k + 1
    · subst e
      rw [adP_at]
      exact hl.kept hk (by omega)
    · rw [e1 j (by omega), lnC_adP L ad la a (by omega)]
      exact (h1.ln j p (by omega)).kept hk (h.ac j p (by omega)).2
  · by_cases e : j = k + 1
    · subst e
      rw [adP_at]
      exact ⟨by omega, by omega⟩
    · rw [e1 j (by omega)]
      exact h.ac j p (by omega)
  · by_cases ei : i = k + 1
    · by_cases ej : j = k + 1
      · omega
      · subst ei
        rw [adP_at, e1 j (by omega)] at e
        have := hlt j p' (by omega)
        omega
    · by_cases ej : j = k + 1
      · subst ej
        rw [adP_at, e1 i (by omega)] at e
        have := hlt i p (by omega)
        omega
      · rw [e1 i (by omega), e1 j (by omega)] at e
        exact h.ap i j p (by omega) p' (by omega) e

set_option maxRecDepth 100000 in
set_option maxHeartbeats 4000000 in
theorem addC_any {K : Nat} (hL : L.Ok K) (hK : k + 1 ≤ K) (hI : IdOk L k) (h : ChAt w L c m ad k lo lk la hi vt) (hc0 : lo = 0 → k < 64) (hc1 : 0 < lo → k + 1 - lo < 64) (hk5 : k ≤ 100000) (hG : Mx.Glob w) :
    Calls Tryd.prog 29 #[ptrL c, (blkN (L.vw (k + 1) : Int) (L.vw k : Int) (L.ids k)).v] w fun e w' => ∃ a, e = .returned (.int .i64 0) ∧ w.heap.size ≤ a ∧ ChAt w' L c m (adP ad (k + 1) a) (k + 1) lo lk la hi vt ∧ Kept (ChS c m ad lo k) w w' := by
  have hlo : lo ≤ k := Nat.le_trans h.ola (Nat.le_trans h.olk h.okk)
  have hlak : la ≤ k := Nat.le_trans h.olk h.okk
  have hK0 : k ≤ K := by omega
  have hid := sizeOk hL k
  have hid1 := sizeOk hL (k + 1)
  have hf := lnF_at (ad := ad) (lo := lo) (j := k) hL hK0 hlo (Nat.le_refl _)
  have hv1 : (lnF L ad lo k (L.ids k)).getD (.pointer none) = .pointer (some ⟨ad k, 0, none⟩) := by rw [hf]; rfl
  have hv2 : (lnF L ad lo k (L.ids k)).isSome = true := by rw [hf]; rfl
  have hfn : lnF L ad lo k (L.ids (k + 1)) = none := lnF_none (fun j a b e => by
    have := hL.inj j (k + 1) (by omega) hK e
    omega)
  have hn1 : (lnF L ad lo k (L.ids (k + 1))).getD (.pointer none) = .pointer none := by rw [hfn]; rfl
  have hn2 : (lnF L ad lo k (L.ids (k + 1))).isSome = false := by rw [hfn]; rfl
  have hpn : putN (lnF L ad lo k) (L.ids (k + 1)) (k + 1 - lo) = k + 1 + 1 - lo := by unfold putN; rw [hn2]; simp; omega
  have hX := Arr.new w 39 [.int .i64 (L.vw (k + 1) : Int), .int .i64 (L.vw k : Int), .string (L.ids k), .slice none 0 0, .slice none 0 0]
  have hB := belowNew w (.cells #[.int .i64 (L.vw (k + 1) : Int), .int .i64 (L.vw k : Int), .string (L.ids k), .slice none 0 0, .slice none 0 0] 39)
  -- whatever is read
  have hrd : Hid (∀ w', Below (w.heap.size + 1) (w.alloc (.cells #[.int .i64 (L.vw (k + 1) : Int), .int .i64 (L.vw k : Int), .string (L.ids k), .slice none 0 0, .slice none 0 0] 39)) w' → (w'.cell? ⟨w.heap.size, 0, none⟩ = some (.int .i64 (L.vw (k + 1) : Int)) ∧ w'.cell? ⟨w.heap.size, 1, none⟩ = some (.int .i64 (L.vw k : Int)) ∧ w'.cell? ⟨w.heap.size, 2, none⟩ = some (.string (L.ids k)) ∧ w'.cell? ⟨w.heap.size, 3, none⟩ = some (.slice none 0 0) ∧ w'.cell? ⟨w.heap.size, 4, none⟩ = some (.slice none 0 0)) ∧ (w'.cell? ⟨c, 0, none⟩ = some (.map (some m)) ∧ (Instr.lookup 113 (.map (some m)) (.string (L.ids k)) true).run Tryd.prog w' = .ok (.tuple #[.pointer (some ⟨ad k, 0, none⟩), .bool true]) w') ∧ (Instr.lookup 113 (.map (some m)) (.string (L.ids (k + 1))) true).run Tryd.prog w' = .ok (.tuple #[.pointer none, .bool false]) w' ∧ (w'.cell? ⟨ad k, 1, none⟩ = some (.int .i64 (L.vw k : Int)) ∧ w'.cell? ⟨c, 5, none⟩ = some (.pointer (some ⟨ad la, 0, none⟩)) ∧ w'.cell? ⟨ad la, 1, none⟩ = some (.int .i64 (L.vw la : Int))) ∧ ChAt w' L c m ad k lo lk la hi vt ∧ Below w.heap.size w w') := fun w' hb => by
    have hb1 := hB.trans (hb.mono (Nat.le_succ _))
    have h' := h.below hb1
    have hx' := hX.below hb (by omega)
    have hl' := h'.ln k hlo (Nat.le_refl _)
    have hla' := h'.ln la h.ola hlak
    exact ⟨⟨hx'.cell (i := 0) rfl, hx'.cell (i := 1) rfl, hx'.cell (i := 2) rfl, hx'.cell (i := 3) rfl, hx'.cell (i := 4) rfl⟩, ⟨h'.box.cell (i := 0) rfl, smap_runOk h'.mp Tryd.underlying113 zeroLinkP hid hv1 hv2⟩, smap_runOk h'.mp Tryd.underlying113 zeroLinkP hid1 hn1 hn2, ⟨hl'.cell (i := 1) rfl, h'.box.cell (i := 5) rfl, hla'.cell (i := 1) rfl⟩, h', hb1⟩
  have hG1 := hG.below hB
  have cI := blkId_any (blkN (L.vw (k + 1) : Int) (L.vw k : Int) (L.ids k)) (w.alloc (.cells #[.int .i64 (L.vw (k + 1) : Int), .int .i64 (L.vw k : Int), .string (L.ids k), .slice none 0 0, .slice none 0 0] 39)) (blkN_at _ _ _ _) (blkN_enc _ _ _ (hL.sz k)) (Nat.le_trans hI.len (by decide)) hG1
  rw [hI.id] at cI
  have hsz1 : (w.alloc (.cells #[.int .i64 (L.vw (k + 1) : Int), .int .i64 (L.vw k : Int), .string (L.ids k), .slice none 0 0, .slice none 0 0] 39)).heap.size = w.heap.size + 1 := by rw [alloc_size]
  obtain ⟨w1, hw1⟩ : ∃ q, w.alloc (.cells #[.int .i64 (L.vw (k + 1) : Int), .int .i64 (L.vw k : Int), .string (L.ids k), .slice none 0 0, .slice none 0 0] 39) = q := ⟨_, rfl⟩
  rw [hw1] at hrd hsz1 cI
  have b0 := Below.refl (w.heap.size + 1) w1
  obtain ⟨⟨r0, r1, r2, r3, r4⟩, -, -, -, -, -⟩ := hrd.out _ b0
  have hvw1 : L.vw k < L.vw (k + 1) := hL.up k (by omega)
  have hvw2 : L.vw la < L.vw (k + 1) := hL.lt (by omega) hK
  have hle1 : ¬ (L.vw (k + 1) ≤ L.vw k) := by omega
  have hle2 : ¬ (L.vw (k + 1) ≤ L.vw la) := by omega
  have hle1i : ¬ ((L.vw (k + 1) : Int) ≤ (L.vw k : Int)) := by omega
  have hle2i : ¬ ((L.vw (k + 1) : Int) ≤ (L.vw la : Int)) := by omega
  have cC : Hid (∀ w', ChAt w' L c m ad k lo lk la hi vt → ∃ n : Nat, n < 64 ∧ Calls Tryd.prog 61 #[ptrL c] w' fun e w'' => e = .returned (.int .i64 (n : Int)) ∧ Below w'.heap.size w' w'') := fun w' h' => by
    rcases Nat.eq_zero_or_pos lo with e | e
    · exact ⟨k, hc0 e, countA_any hL hK0 hk5 e h'⟩
    · exact ⟨k + 1 - lo, hc1 e, countB_any hL hK0 hk5 e h'⟩
  have cB := fun w' => copyBlk_nil (L.vw (k + 1) : Int) (L.vw k : Int) (L.ids k) w'
  -- the last step
  have hend : Hid (∀ w', Below (w.heap.size + 1) w1 w' → ∃ w'', (Instr.mapUpdate 113 (.map (some m)) (.string (L.ids (k + 1))) (.pointer (some ⟨w'.heap.size, 0, none⟩))).run Tryd.prog (w'.alloc (.cells #[.string (L.ids (k + 1)), .int .i64 (L.vw (k + 1) : Int), .int .i64 (L.vw k : Int), .string (L.ids k), .slice none 0 0, .slice none 0 0, .pointer (some ⟨ad k, 0, none⟩), .bool false] 112)) = .ok () w'' ∧ (w''.cell? ⟨c, 0, none⟩ = some (.map (some m)) ∧ w''.cell? ⟨w.heap.size, 0, none⟩ = some (.int .i64 (L.vw (k + 1) : Int)) ∧ w''.cell? ⟨w.heap.size, 1, none⟩ = some (.int .i64 (L.vw k : Int)) ∧ w''.cell? ⟨w.heap.size, 2, none⟩ = some (.string (L.ids k)) ∧ w''.cell? ⟨w.heap.size, 3, none⟩ = some (.slice none 0 0) ∧ w''.cell? ⟨w.heap.size, 4, none⟩ = some (.slice none 0 0)) ∧ ∃ a, w.heap.size ≤ a ∧ ChAt w'' L c m (adP ad (k + 1) a) (k + 1) lo lk la hi vt ∧ Kept (ChS c m ad lo k) w w'') := fun w' hb => by
    rw [← hw1] at hb
    have hb1 : Below w.heap.size w w' := hB.trans (hb.mono (Nat.le_succ _))
    have hs' := hb1.size
    have hx0 := hX.below hb (by omega)
    have hA := Arr.new w' 112 [.string (L.ids (k + 1)), .int .i64 (L.vw (k + 1) : Int), .int .i64 (L.vw k : Int), .string (L.ids k), .slice none 0 0, .slice none 0 0, .pointer (some ⟨ad k, 0, none⟩), .bool false]
    have hbA := belowNew w' (.cells #[.string (L.ids (k + 1)), .int .i64 (L.vw (k + 1) : Int), .int .i64 (L.vw k : Int), .string (L.ids k), .slice none 0 0, .slice none 0 0, .pointer (some ⟨ad k, 0, none⟩), .bool false] 112)
    have hb2 := hb1.trans (hbA.mono hs')
    have hM := (h.below hb2).mp
    obtain ⟨w'', hrun, hM2, hk2⟩ := smap_updates hM (Nat.lt_of_le_of_lt (show k + 1 - lo ≤ 100001 by omega) (by unfold maxLen; decide)) Tryd.underlying113 (L.ids (k + 1)) hid1 (ptrL w'.heap.size)
    rw [hpn] at hM2
    have hx1 := (hx0.below hbA hx0.lt).kept hk2 (by have := h.mp.lt; omega)
    have hC2 := ChAt.more hL hK h hs' hb2 (by rw [newLink L ad _ hlak]; exact hA) hM2 hk2
    refine ⟨w'', hrun, ⟨hC2.box.cell (i := 0) rfl, hx1.cell (i := 0) rfl, hx1.cell (i := 1) rfl, hx1.cell (i := 2) rfl, hx1.cell (i := 3) rfl, hx1.cell (i := 4) rfl⟩, w'.heap.size, hs', hC2, (Kept.of_below hb2).trans (hk2.mono (fun b _ e => Or.inr (Or.inl e)))⟩
  replace hsz1 : Hid _ := hsz1
  clear hf hX hB h hv1 hv2 hn1 hn2 hfn hpn hI hG hG1 hc0 hc1
  obtain ⟨idn, hidn⟩ : ∃ z, Hid (L.ids (k + 1) = z) := ⟨_, rfl⟩
  obtain ⟨idk, hidk⟩ : ∃ z, Hid (L.ids k = z) := ⟨_, rfl⟩
  rw [hidn.out] at hrd hend cI
  rw [hidk.out] at hrd hend cI cB r2 hw1 ⊢
  unfold blkN qcN BlkM.v at cB cI ⊢
  clear hid hid1
  generalize hq1 : L.vw (k + 1) = vn at *
  generalize hq2 : L.vw k = vk at *
  generalize hq3 : L.vw la = va at *
  generalize hq4 : ad la = al at *
  unfold ptrL
  go_enter Tryd.func29, Tryd.ntmps29
  go_wp2_with fail
  try rw [hw1]
  refine cI.mono ?_
  rintro e w2 ⟨rfl, hb2⟩
  have b2 : Below (w.heap.size + 1) w1 w2 := b0.trans (hb2.mono (Nat.le_of_eq hsz1.out.symm))
  have hs2 := b2.size
  have b3 : Below (w.heap.size + 1) w1 w2.drew := below_drewN b2 1
  have b4 : Below (w.heap.size + 1) w1 w2.drew.drew := below_drewN b3 1
  have b5 : Below (w.heap.size + 1) w1 w2.drew.drew.drew := below_drewN b4 1
  obtain ⟨-, ⟨c20, -⟩, l2, -, -, -⟩ := hrd.out _ b2
  obtain ⟨⟨-, -, q32, -, -⟩, ⟨c30, l3⟩, -, -, -, -⟩ := hrd.out _ b3
  obtain ⟨⟨q40, q41, -, -, -⟩, -, -, ⟨q42, -, -⟩, -, -⟩ := hrd.out _ b4
  obtain ⟨⟨q50, -, -, -, -⟩, -, -, ⟨-, q51, q52⟩, h5, -⟩ := hrd.out _ b5
  obtain ⟨n, hn, cN⟩ := cC.out _ h5
  have hnn : ¬ (64 ≤ n) := by omega
  have hni : ¬ ((64 : Int) ≤ (n : Int)) := by omega
  have hS3 := And.intro c30 (And.intro q32 l3)
  unfold ptrL at cN
  go_wp2_with fail
  refine wp_region_noPanic ?_
  refine wp_region_held (S := fun w' => w'.cell? ⟨c, 0, none⟩ = some (.map (some m)) ∧ w'.cell? ⟨w.heap.size, 2, none⟩ = some (.string idk) ∧ (Instr.lookup 113 (.map (some m)) (.string idk) true).run Tryd.prog w' = .ok (.tuple #[.pointer (some ⟨ad k, 0, none⟩), .bool true]) w') (by kernel_rfl) ?_
  show wpAnyH _ _ _ _ _ 13 (Array.replicate 13 false) _ w2.drew
  refine wpAnyH_takeD (i := 0) (v := ?_) (some 23) rfl rfl (by kernel_rfl) (by kernel_rfl) (by kernel_rfl) (fun _ _ _ h => h) (Or.inl ⟨by rfl, ?_⟩) (by assumption) ?_
  rotate_left 1
  · intro w' hSw
    (try dsimp only at hSw)
    go_simp
    first | done | with_reducible rfl
  simp only [Act.put, List.setIfInBounds_toArray, List.set_cons_zero, List.set_cons_succ]
  refine wpAnyH_takeD (i := 1) (v := ?_) (some 24) rfl rfl (by kernel_rfl) (by kernel_rfl) (by kernel_rfl) (fun _ _ _ h => h) (Or.inl ⟨by rfl, ?_⟩) (by assumption) ?_
  rotate_left 1
  · intro w' hSw
    (try dsimp only at hSw)
    go_simp
    first | done | with_reducible rfl
  simp only [Act.put, List.setIfInBounds_toArray, List.set_cons_zero, List.set_cons_succ]
  refine wpAnyH_takeD (i := 2) (v := ?_) (some 25) rfl rfl (by kernel_rfl) (by kernel_rfl) (by kernel_rfl) (fun _ _ _ h => h) (Or.inl ⟨by rfl, ?_⟩) (by assumption) ?_
  rotate_left 1
  · intro w' hSw
    (try dsimp only at hSw)
    go_simp
    first | done | with_reducible rfl
  simp only [Act.put, List.setIfInBounds_toArray, List.set_cons_zero, List.set_cons_succ]
  refine wpAnyH_takeD (i := 3) (v := ?_) (some 26) rfl rfl (by kernel_rfl) (by kernel_rfl) (by kernel_rfl) (fun _ _ _ h => h) (Or.inl ⟨by rfl, ?_⟩) (by assumption) ?_
  rotate_left 1
  · intro w' hSw
    (try dsimp only at hSw)
    go_simp
    first | done | with_reducible rfl
  simp only [Act.put, List.setIfInBounds_toArray, List.set_cons_zero, List.set_cons_succ]
  refine wpAnyH_takeD (i := 4) (v := ?_) (some 27) rfl rfl (by kernel_rfl) (by kernel_rfl) (by kernel_rfl) (fun _ _ _ h => h) (Or.inl ⟨by rfl, ?_⟩) (by assumption) ?_
  rotate_left 1
  · intro w' hSw
    (try dsimp only at hSw)
    go_simp
    first | done | with_reducible rfl
  simp only [Act.put, List.setIfInBounds_toArray, List.set_cons_zero, List.set_cons_succ]
  refine wpAnyH_takeD (i := 5) (v := ?_) (some 28) rfl rfl (by kernel_rfl) (by kernel_rfl) (by kernel_rfl) (fun _ _ _ h => h) (Or.inl ⟨by rfl, ?_⟩) (by assumption) ?_
  rotate_left 1
  · intro w' hSw
    (try dsimp only at hSw)
    go_simp
    first | done | with_reducible rfl
  simp only [Act.put, List.setIfInBounds_toArray, List.set_cons_zero, List.set_cons_succ]
  refine wpAnyH_takeD (i := 6) (v := ?_) (some 29) rfl rfl (by kernel_rfl) (by kernel_rfl) (by kernel_rfl) (fun _ _ _ h => h) (Or.inl ⟨by rfl, ?_⟩) (by assumption) ?_
  rotate_left 1
  · intro w' hSw
    (try dsimp only at hSw)
    go_simp
    first | done | with_reducible rfl
  simp only [Act.put, List.setIfInBounds_toArray, List.set_cons_zero, List.set_cons_succ]
  refine wpAnyH_takeD (i := 7) (v := ?_) (some 30) rfl rfl (by kernel_rfl) (by kernel_rfl) (by kernel_rfl) (fun _ _ _ h => h) (Or.inl ⟨by rfl, ?_⟩) (by assumption) ?_
  rotate_left 1
  · intro w' hSw
    (try dsimp only at hSw)
    go_simp
    first | done | with_reducible rfl
  simp only [Act.put, List.setIfInBounds_toArray, List.set_cons_zero, List.set_cons_succ]
  refine wpAnyH_takeD (i := 8) (v := ?_) (some 22) rfl rfl (by kernel_rfl) (by kernel_rfl) (by kernel_rfl) (fun _ _ _ h => h) (Or.inl ⟨by rfl, ?_⟩) (by assumption) ?_
  rotate_left 1
  · intro w' hSw
    (try dsimp only at hSw)
    go_simp
    first | done | with_reducible rfl
  simp only [Act.put, List.setIfInBounds_toArray, List.set_cons_zero, List.set_cons_succ]
  refine wpAnyH_takeD (i := 9) (v := ?_) (some 31) rfl rfl (by kernel_rfl) (by kernel_rfl) (by kernel_rfl) (fun _ _ _ h => h) (Or.inl ⟨by rfl, ?_⟩) (by assumption) ?_
  rotate_left 1
  · intro w' hSw
    (try dsimp only at hSw)
    go_simp
    first | done | with_reducible rfl
  simp only [Act.put, List.setIfInBounds_toArray, List.set_cons_zero, List.set_cons_succ]
  refine wpAnyH_takeD (i := 10) (v := ?_) (some 32) rfl rfl (by kernel_rfl) (by kernel_rfl) (by kernel_rfl) (fun _ _ _ h => h) (Or.inl ⟨by rfl, ?_⟩) (by assumption) ?_
  rotate_left 1
  · intro w' hSw
    (try dsimp only at hSw)
    go_simp
    first | done | with_reducible rfl
  simp only [Act.put, List.setIfInBounds_toArray, List.set_cons_zero, List.set_cons_succ]
  refine wpAnyH_takeD (i := 11) (v := ?_) (some 8) rfl rfl (by kernel_rfl) (by kernel_rfl) (by kernel_rfl) (fun _ _ _ h => h) (Or.inl ⟨by rfl, ?_⟩) (by assumption) ?_
  rotate_left 1
  · intro w' hSw
    (try dsimp only at hSw)
    go_simp
    first | done | with_reducible rfl
  simp only [Act.put, List.setIfInBounds_toArray, List.set_cons_zero, List.set_cons_succ]
  refine wpAnyH_takeD (i := 12) (v := ?_) (some 9) rfl rfl (by kernel_rfl) (by kernel_rfl) (by kernel_rfl) (fun _ _ _ h => h) (Or.inl ⟨by rfl, ?_⟩) (by assumption) ?_
  rotate_left 1
  · intro w' hSw
    (try dsimp only at hSw)
    go_simp
    first | done | with_reducible rfl
  simp only [Act.put, List.setIfInBounds_toArray, List.set_cons_zero, List.set_cons_succ]
  refine wpAnyH_done (by kernel_rfl) ?_ _
  refine NoPanic.normal ?_
  go_wp2_with fail
  go_region_held3 (fun w' => (w'.cell? ⟨w.heap.size, 0, none⟩ = some (.int .i64 (vn : Int)) ∧ w'.cell? ⟨w.heap.size, 1, none⟩ = some (.int .i64 (vk : Int)) ∧ w'.cell? ⟨ad k, 1, none⟩ = some (.int .i64 (vk : Int)))) (first | assumption | exact ⟨q40, q41, q42⟩) (fail)
  go_wp2_with fail
  go_region_held3 (fun w' => (w'.cell? ⟨w.heap.size, 0, none⟩ = some (.int .i64 (vn : Int)) ∧ w'.cell? ⟨c, 5, none⟩ = some (.pointer (some ⟨al, 0, none⟩)) ∧ w'.cell? ⟨al, 1, none⟩ = some (.int .i64 (va : Int)))) (first | assumption | exact ⟨q50, q51, q52⟩) (fail)
  go_wp2_with fail
  refine cN.mono ?_
  rintro e w6 ⟨rfl, hb6⟩
  have b6 : Below (w.heap.size + 1) w1 w6 := b5.trans (hb6.mono (by have := b5.size; have := hsz1.out; omega))
  have b7 : Below (w.heap.size + 1) w1 w6.drew := below_drewN b6 1
  obtain ⟨q7, ⟨c70, -⟩, -, -, -, -⟩ := hrd.out _ b7
  have hS7 := And.intro c70 q7
  go_wp2_with fail
  refine wp_region_noPanic ?_
  refine wp_region_held (S := fun w' => w'.cell? ⟨c, 0, none⟩ = some (.map (some m)) ∧ w'.cell? ⟨w.heap.size, 0, none⟩ = some (.int .i64 (vn : Int)) ∧ w'.cell? ⟨w.heap.size, 1, none⟩ = some (.int .i64 (vk : Int)) ∧ w'.cell? ⟨w.heap.size, 2, none⟩ = some (.string idk) ∧ w'.cell? ⟨w.heap.size, 3, none⟩ = some (.slice none 0 0) ∧ w'.cell? ⟨w.heap.size, 4, none⟩ = some (.slice none 0 0)) (by kernel_rfl) ?_
  show wpAnyH _ _ _ _ _ 12 (Array.replicate 12 false) _ w6.drew
  refine wpAnyH_takeD (i := 0) (v := ?_) (some 66) rfl rfl (by kernel_rfl) (by kernel_rfl) (by kernel_rfl) (fun _ _ _ h => h) (Or.inl ⟨by rfl, ?_⟩) (by assumption) ?_
  rotate_left 1
  · intro w' hSw
    (try dsimp only at hSw)
    go_simp
    first | done | with_reducible rfl
  simp only [Act.put, List.setIfInBounds_toArray, List.set_cons_zero, List.set_cons_succ]
  refine wpAnyH_takeD (i := 1) (v := ?_) (some 67) rfl rfl (by kernel_rfl) (by kernel_rfl) (by kernel_rfl) (fun _ _ _ h => h) (Or.inl ⟨by rfl, ?_⟩) (by assumption) ?_
  rotate_left 1
  · intro w' hSw
    (try dsimp only at hSw)
    go_simp
    first | done | with_reducible rfl
  simp only [Act.put, List.setIfInBounds_toArray, List.set_cons_zero, List.set_cons_succ]
  refine wpAnyH_takeD (i := 2) (v := ?_) (some 68) rfl rfl (by kernel_rfl) (by kernel_rfl) (by kernel_rfl) (fun _ _ _ h => h) (Or.inl ⟨by rfl, ?_⟩) (by assumption) ?_
  rotate_left 1
  · intro w' hSw
    (try dsimp only at hSw)
    go_simp
    first | done | with_reducible rfl
  simp only [Act.put, List.setIfInBounds_toArray, List.set_cons_zero, List.set_cons_succ]
  refine wpAnyH_takeD (i := 3) (v := ?_) (some 69) rfl rfl (by kernel_rfl) (by kernel_rfl) (by kernel_rfl) (fun _ _ _ h => h) (Or.inl ⟨by rfl, ?_⟩) (by assumption) ?_
  rotate_left 1
  · intro w' hSw
    (try dsimp only at hSw)
    go_simp
    first | done | with_reducible rfl
  simp only [Act.put, List.setIfInBounds_toArray, List.set_cons_zero, List.set_cons_succ]
  refine wpAnyH_takeD (i := 4) (v := ?_) (some 70) rfl rfl (by kernel_rfl) (by kernel_rfl) (by kernel_rfl) (fun _ _ _ h => h) (Or.inl ⟨by rfl, ?_⟩) (by assumption) ?_
  rotate_left 1
  · intro w' hSw
    (try dsimp only at hSw)
    go_simp
    first | done | with_reducible rfl
  simp only [Act.put, List.setIfInBounds_toArray, List.set_cons_zero, List.set_cons_succ]
  refine wpAnyH_takeD (i := 5) (v := ?_) (some 71) rfl rfl (by kernel_rfl) (by kernel_rfl) (by kernel_rfl) (fun _ _ _ h => h) (Or.inl ⟨by rfl, ?_⟩) (by assumption) ?_
  rotate_left 1
  · intro w' hSw
    (try dsimp only at hSw)
    go_simp
    first | done | with_reducible rfl
  simp only [Act.put, List.setIfInBounds_toArray, List.set_cons_zero, List.set_cons_succ]
  refine wpAnyH_takeD (i := 6) (v := ?_) (some 72) rfl rfl (by kernel_rfl) (by kernel_rfl) (by kernel_rfl) (fun _ _ _ h => h) (Or.inl ⟨by rfl, ?_⟩) (by assumption) ?_
  rotate_left 1
  · intro w' hSw
    (try dsimp only at hSw)
    go_simp
    first | done | with_reducible rfl
  simp only [Act.put, List.setIfInBounds_toArray, List.set_cons_zero, List.set_cons_succ]
  refine wpAnyH_takeD (i := 8) (v := ?_) (some 74) rfl rfl (by kernel_rfl) (by kernel_rfl) (by kernel_rfl) (fun _ _ _ h => h) (Or.inl ⟨by rfl, ?_⟩) (by assumption) ?_
  rotate_left 1
  · intro w' hSw
    (try dsimp only at hSw)
    go_simp
    first | done | with_reducible rfl
  simp only [Act.put, List.setIfInBounds_toArray, List.set_cons_zero, List.set_cons_succ]
  refine wpAnyH_oneD (i := 7) (some 73) (by kernel_rfl) rfl rfl rfl (fun K' hK' => ?_)
  replace hK' : Hid _ := hK'
  go_simp
  refine (cB _).mono ?_
  rintro e w8 ⟨rfl, hb8⟩
  show K' _ w8
  have b8 : Below (w.heap.size + 1) w1 w8 := b7.trans (hb8.mono (by have := b7.size; have := hsz1.out; omega))
  obtain ⟨q8, ⟨c80, -⟩, -, -, -, -⟩ := hrd.out _ b8
  have hS8 := And.intro c80 q8
  refine hK'.out _ _ hS8 ?_
  clear hK' K'
  simp only [Act.put, List.setIfInBounds_toArray, List.set_cons_zero, List.set_cons_succ]
  refine wpAnyH_takeD (i := 9) (v := ?_) (some 75) rfl rfl (by kernel_rfl) (by kernel_rfl) (by kernel_rfl) (fun _ _ _ h => h) (Or.inl ⟨by rfl, ?_⟩) (by assumption) ?_
  rotate_left 1
  · intro w' hSw
    (try dsimp only at hSw)
    go_simp
    first | done | with_reducible rfl
  simp only [Act.put, List.setIfInBounds_toArray, List.set_cons_zero, List.set_cons_succ]
  have hbL := belowNew w8 (.cells #[.string idn, .int .i64 (vn : Int), .int .i64 (vk : Int), .string idk, .slice none 0 0, .slice none 0 0, .pointer (some ⟨ad k, 0, none⟩), .bool false] 112)
  have b9 := b8.trans (hbL.mono (by have := b8.size; have := hsz1.out; omega))
  obtain ⟨q9, ⟨c90, -⟩, -, -, -, -⟩ := hrd.out _ b9
  have hS9 := And.intro c90 q9
  obtain ⟨wE, hrun, hSE, a, ha, hE, hkE⟩ := hend.out _ b8
  refine wpAnyH_oneD (i := 10) (some 76) (by kernel_rfl) rfl rfl rfl (fun K' hK' => ?_)
  replace hK' : Hid _ := hK'
  go_simp
  refine hK'.out (.pointer (some ⟨w8.heap.size, 0, none⟩)) _ hS9 ?_
  clear hK' K'
  simp only [Act.put, List.setIfInBounds_toArray, List.set_cons_zero, List.set_cons_succ]
  refine wpAnyH_oneD (i := 11) none (by kernel_rfl) rfl rfl rfl (fun K' hK' => ?_)
  replace hK' : Hid _ := hK'
  go_simp
  refine hK'.out undef wE hSE ?_
  clear hK' K'
  refine wpAnyH_done (by kernel_rfl) ?_ _
  refine NoPanic.normal ?_
  go_wp2
  go_ret
  exact ⟨a, rfl, ha, hE, hkE⟩
end
end Go.Proofs.YthhildeocedpiaaDoor

/- The ids of a line of blocks without a gap, written out. -/
namespace Go.Proofs.YthhildeocedpiaaDoor
open Go Go.RowKit
set_option linter.unusedVariables false

def lineB : Nat → List UInt8
  | 0 => [0, 0, 0, 0, 0, 0, 0, 0, 0, 0, 0, 0, 0, 0, 0, 0, 0, 0, 0, 0, 0, 0, 0, 0, 0, 0, 0, 0, 0, 0, 0, 0]
  | 1 => [107, 17, 90, 102, 149, 142, 25, 185, 139, 119, 182, 226, 220, 46, 244, 250, 233, 60, 251, 242, 125, 119, 100, 228, 18, 220, 0, 206, 145, 15, 111, 86]
  | 2 => [145, 142, 39, 35, 17, 103, 16, 224, 191, 213, 94, 102, 241, 104, 132, 25, 123, 57, 182, 199, 86, 225, 130, 10, 247, 184, 54, 193, 44, 127, 88, 143]
  | 3 => [144, 189, 156, 38, 75, 69, 17, 57, 233, 2, 247, 42, 180, 8, 193, 30, 19, 14, 45, 209, 250, 51, 28, 87, 96, 93, 144, 96, 82, 198, 221, 80]
  | 4 => [48, 151, 99, 65, 155, 46, 106, 106, 127, 76, 199, 174, 95, 68, 82, 52, 189, 50, 113, 77, 24, 161, 169, 47, 83, 64, 179, 157, 21, 62, 227, 162]
  | 5 => [63, 219, 127, 67, 90, 165, 85, 102, 236, 190, 60, 194, 217, 15, 233, 91, 27, 172, 51, 87, 93, 14, 244, 8, 158, 166, 146, 146, 206, 255, 128, 58]
  | 6 => [53, 89, 240, 40, 181, 69, 175, 235, 144, 82, 241, 48, 173, 136, 207, 107, 96, 27, 134, 103, 198, 183, 111, 255, 137, 38, 141, 106, 28, 108, 15, 190]
  | 7 => [16, 40, 119, 18, 45, 43, 8, 170, 175, 179, 6, 215, 130, 86, 97, 54, 120, 217, 183, 14, 176, 220, 54, 176, 102, 137, 236, 95, 82, 185, 218, 0]
  | 8 => [144, 176, 145, 232, 214, 13, 225, 194, 47, 61, 48, 115, 148, 93, 131, 72, 42, 71, 137, 185, 17, 102, 74, 250, 32, 140, 94, 226, 123, 38, 178, 134]
  | 9 => [251, 242, 115, 215, 210, 61, 229, 142, 54, 224, 220, 101, 251, 59, 16, 223, 34, 156, 69, 248, 56, 43, 56, 106, 143, 247, 176, 216, 97, 164, 128, 157]
  | 10 => [104, 219, 112, 244, 137, 36, 35, 47, 33, 130, 175, 103, 254, 31, 230, 243, 107, 19, 81, 8, 198, 75, 37, 20, 156, 30, 102, 24, 104, 33, 52, 9]
  | 11 => [233, 252, 220, 133, 197, 49, 230, 171, 248, 125, 206, 48, 104, 162, 93, 233, 183, 93, 2, 137, 30, 51, 7, 92, 225, 158, 143, 95, 114, 14, 81, 104]
  | 12 => [235, 177, 32, 10, 23, 20, 201, 148, 56, 128, 174, 24, 92, 250, 110, 57, 132, 136, 229, 55, 9, 80, 108, 41, 30, 50, 155, 159, 176, 225, 153, 203]
  | 13 => [221, 97, 64, 19, 188, 73, 4, 84, 252, 138, 203, 20, 199, 159, 0, 189, 81, 122, 229, 252, 191, 24, 201, 76, 75, 142, 191, 222, 113, 66, 225, 29]
  | 14 => [205, 160, 43, 28, 116, 102, 137, 159, 96, 82, 56, 188, 104, 182, 40, 48, 42, 162, 6, 112, 75, 241, 39, 23, 136, 9, 62, 34, 123, 182, 239, 106]
  | 15 => [167, 31, 58, 157, 14, 26, 221, 255, 34, 206, 60, 58, 97, 229, 199, 164, 142, 195, 211, 170, 203, 12, 194, 75, 175, 148, 248, 65, 25, 236, 134, 244]
  | 16 => [30, 64, 120, 214, 114, 27, 212, 76, 194, 65, 179, 146, 194, 100, 250, 97, 40, 151, 216, 83, 229, 212, 191, 149, 54, 133, 205, 23, 14, 206, 4, 133]
  | 17 => [115, 88, 31, 19, 241, 139, 231, 140, 60, 150, 255, 49, 110, 33, 33, 165, 120, 236, 8, 4, 162, 236, 26, 226, 220, 55, 11, 87, 36, 252, 148, 40]
  | 18 => [40, 185, 114, 231, 85, 166, 37, 182, 212, 191, 130, 13, 197, 197, 149, 81, 197, 231, 22, 181, 241, 191, 215, 160, 9, 88, 246, 129, 201, 132, 234, 206]
  | 19 => [191, 181, 90, 162, 248, 29, 193, 24, 211, 98, 219, 244, 217, 110, 203, 54, 230, 214, 203, 42, 236, 130, 76, 112, 247, 14, 202, 33, 212, 204, 106, 82]
  | 20 => [228, 225, 103, 4, 104, 8, 210, 16, 49, 171, 16, 66, 93, 41, 201, 66, 126, 55, 134, 237, 125, 164, 235, 51, 47, 77, 242, 61, 181, 120, 107, 163]
  | 21 => [34, 135, 223, 113, 222, 69, 189, 218, 96, 49, 121, 253, 3, 143, 35, 83, 225, 217, 163, 31, 81, 98, 141, 195, 190, 153, 70, 104, 61, 235, 28, 70]
  | 22 => [54, 79, 183, 234, 197, 88, 30, 27, 82, 108, 230, 78, 43, 48, 200, 227, 241, 87, 202, 131, 10, 158, 121, 3, 232, 248, 201, 62, 191, 206, 80, 189]
  | 23 => [23, 227, 233, 233, 162, 132, 126, 83, 145, 160, 39, 107, 100, 70, 51, 38, 226, 137, 210, 160, 30, 243, 180, 199, 242, 69, 42, 100, 6, 7, 145, 13]
  | 24 => [181, 243, 45, 116, 227, 175, 223, 31, 161, 250, 21, 30, 35, 11, 33, 38, 206, 112, 3, 245, 247, 198, 25, 78, 193, 54, 209, 197, 186, 44, 147, 148]
  | 25 => [228, 193, 101, 215, 41, 252, 73, 65, 142, 184, 213, 191, 197, 31, 155, 119, 93, 3, 64, 31, 96, 113, 134, 43, 208, 222, 196, 168, 74, 243, 74, 68]
  | 26 => [218, 143, 76, 155, 248, 94, 102, 45, 210, 194, 99, 76, 87, 100, 16, 183, 117, 154, 126, 90, 98, 214, 184, 6, 180, 241, 248, 58, 208, 61, 205, 104]
  | 27 => [225, 0, 58, 205, 221, 154, 190, 77, 200, 62, 18, 25, 207, 18, 10, 161, 90, 27, 21, 77, 152, 196, 24, 235, 255, 84, 193, 13, 235, 113, 115, 10]
  | 28 => [66, 203, 181, 108, 224, 246, 226, 22, 176, 43, 135, 11, 43, 74, 76, 70, 179, 206, 105, 158, 61, 154, 202, 47, 0, 73, 48, 20, 220, 235, 0, 163]
  | 29 => [217, 40, 225, 160, 189, 160, 211, 239, 202, 146, 192, 205, 225, 36, 156, 218, 57, 154, 110, 49, 252, 122, 69, 208, 11, 154, 188, 101, 230, 199, 103, 108]
  | 30 => [62, 185, 70, 49, 127, 77, 57, 59, 6, 162, 222, 234, 186, 7, 95, 56, 157, 78, 117, 157, 223, 66, 169, 55, 34, 252, 123, 19, 120, 27, 162, 33]
  | 31 => [230, 203, 105, 55, 18, 193, 236, 117, 90, 251, 246, 218, 27, 237, 233, 227, 227, 32, 81, 132, 103, 95, 23, 21, 154, 77, 12, 10, 85, 137, 178, 136]
  | 32 => [196, 121, 55, 55, 70, 231, 208, 78, 233, 12, 187, 249, 185, 88, 159, 97, 165, 16, 226, 51, 229, 161, 156, 233, 14, 42, 132, 86, 130, 57, 166, 60]
  | 33 => [30, 21, 122, 198, 20, 206, 228, 19, 56, 86, 22, 115, 202, 194, 67, 86, 162, 234, 93, 225, 199, 3, 223, 58, 97, 201, 193, 232, 34, 115, 186, 65]
  | 34 => [186, 196, 72, 96, 44, 57, 175, 35, 25, 147, 226, 189, 10, 15, 51, 129, 231, 147, 199, 15, 254, 112, 144, 237, 48, 137, 233, 112, 197, 108, 96, 176]
  | 35 => [243, 225, 150, 154, 226, 230, 233, 123, 113, 33, 63, 4, 194, 172, 242, 180, 255, 229, 158, 106, 163, 177, 153, 35, 101, 205, 94, 7, 140, 227, 139, 145]
  | 36 => [81, 109, 247, 122, 188, 175, 52, 38, 249, 230, 106, 99, 99, 154, 56, 229, 41, 68, 81, 15, 244, 155, 95, 183, 243, 116, 118, 100, 222, 27, 103, 62]
  | 37 => [105, 56, 223, 74, 199, 253, 112, 171, 88, 55, 194, 108, 185, 42, 58, 182, 191, 252, 179, 102, 234, 58, 151, 157, 41, 123, 89, 93, 159, 31, 180, 189]
  | 38 => [199, 253, 6, 239, 162, 66, 71, 16, 182, 163, 227, 122, 148, 123, 131, 20, 80, 161, 164, 216, 34, 207, 188, 37, 48, 253, 167, 198, 197, 46, 42, 202]
  | 39 => [224, 42, 93, 74, 15, 187, 178, 211, 159, 158, 25, 131, 194, 244, 205, 76, 168, 17, 200, 126, 51, 204, 26, 200, 160, 89, 161, 202, 98, 115, 139, 195]
  | 40 => [181, 15, 240, 89, 254, 33, 120, 86, 172, 27, 250, 119, 95, 18, 18, 218, 223, 27, 9, 53, 210, 5, 230, 223, 146, 245, 34, 81, 172, 54, 232, 42]
  | 41 => [225, 67, 119, 146, 85, 166, 168, 103, 227, 157, 143, 109, 140, 187, 112, 128, 112, 30, 187, 107, 244, 229, 255, 153, 129, 89, 202, 51, 35, 192, 174, 86]
  | 42 => [216, 92, 251, 193, 4, 25, 155, 226, 18, 55, 120, 70, 246, 7, 168, 112, 9, 197, 133, 46, 127, 30, 144, 145, 72, 112, 115, 92, 115, 162, 59, 135]
  | 43 => [186, 204, 215, 120, 154, 138, 133, 142, 106, 139, 58, 165, 224, 37, 126, 28, 73, 188, 109, 10, 132, 175, 99, 249, 138, 205, 53, 25, 136, 207, 152, 148]
  | 44 => [100, 59, 91, 111, 127, 63, 246, 195, 118, 126, 126, 197, 9, 187, 34, 133, 6, 3, 41, 22, 228, 39, 79, 17, 218, 151, 135, 85, 144, 132, 21, 115]
  | 45 => [166, 76, 208, 40, 160, 247, 25, 129, 202, 226, 2, 119, 91, 147, 222, 55, 110, 102, 123, 71, 45, 28, 129, 75, 195, 34, 112, 235, 185, 109, 43, 198]
  | 46 => [8, 233, 223, 212, 151, 225, 60, 84, 19, 52, 186, 11, 194, 28, 98, 148, 156, 17, 157, 206, 9, 107, 229, 129, 139, 227, 230, 106, 37, 176, 228, 75]
  | 47 => [195, 239, 186, 8, 40, 248, 110, 36, 40, 172, 155, 93, 136, 69, 76, 175, 198, 170, 141, 108, 42, 11, 120, 233, 2, 251, 211, 149, 130, 150, 201, 43]
  | 48 => [236, 251, 185, 200, 95, 24, 60, 185, 79, 189, 203, 55, 161, 194, 235, 163, 157, 254, 31, 194, 177, 10, 39, 0, 244, 186, 97, 24, 12, 135, 153, 22]
  | 49 => [180, 177, 190, 249, 192, 230, 173, 48, 196, 61, 69, 79, 224, 243, 232, 238, 39, 134, 241, 209, 67, 144, 122, 18, 159, 154, 75, 48, 208, 71, 160, 74]
  | 50 => [46, 181, 27, 29, 147, 113, 79, 187, 179, 133, 204, 55, 53, 53, 80, 32, 2, 189, 196, 243, 144, 140, 47, 160, 201, 168, 163, 63, 91, 228, 62, 37]
  | 51 => [222, 76, 126, 53, 2, 11, 15, 222, 72, 91, 234, 111, 249, 203, 251, 192, 249, 100, 62, 168, 26, 21, 12, 18, 255, 174, 126, 225, 157, 218, 181, 251]
  | 52 => [60, 79, 126, 128, 19, 58, 169, 243, 250, 14, 222, 238, 201, 174, 121, 220, 2, 27, 145, 252, 190, 253, 215, 238, 225, 62, 249, 119, 191, 214, 246, 124]
  | 53 => [100, 197, 169, 60, 243, 99, 97, 240, 219, 12, 14, 170, 250, 222, 137, 106, 167, 57, 37, 178, 43, 162, 90, 33, 82, 145, 25, 13, 100, 60, 88, 173]
  | 54 => [154, 224, 88, 44, 128, 124, 72, 112, 159, 134, 214, 59, 223, 34, 114, 131, 145, 99, 68, 2, 165, 240, 204, 120, 147, 2, 122, 216, 130, 113, 157, 229]
  | 55 => [201, 164, 112, 165, 133, 210, 198, 46, 205, 136, 97, 22, 254, 125, 235, 35, 149, 247, 39, 139, 50, 187, 198, 198, 204, 241, 63, 42, 66, 231, 152, 216]
  | 56 => [72, 101, 193, 156, 12, 212, 86, 21, 145, 201, 37, 91, 214, 115, 205, 30, 115, 86, 122, 2, 82, 130, 130, 205, 132, 63, 93, 130, 186, 132, 192, 41]
  | 57 => [3, 209, 228, 146, 119, 123, 134, 178, 168, 97, 191, 226, 174, 35, 73, 187, 119, 255, 33, 132, 50, 162, 4, 122, 165, 76, 80, 171, 180, 115, 107, 238]
  | 58 => [223, 70, 215, 52, 69, 231, 139, 18, 48, 131, 165, 178, 125, 9, 221, 26, 114, 18, 31, 237, 234, 84, 196, 77, 204, 254, 240, 108, 227, 1, 109, 235]
  | 59 => [66, 214, 158, 84, 134, 99, 189, 38, 189, 144, 65, 86, 221, 16, 26, 6, 153, 85, 180, 234, 162, 158, 148, 236, 141, 183, 191, 58, 174, 20, 129, 34]
  | 60 => [82, 18, 222, 49, 151, 186, 223, 96, 198, 255, 203, 102, 241, 187, 221, 112, 157, 18, 184, 141, 31, 119, 181, 206, 52, 198, 240, 116, 161, 240, 21, 123]
  | 61 => [165, 211, 18, 86, 154, 107, 109, 136, 159, 70, 6, 173, 186, 242, 49, 202, 15, 99, 185, 19, 115, 51, 249, 255, 9, 201, 62, 242, 44, 209, 114, 11]
  | 62 => [46, 37, 60, 34, 181, 111, 162, 239, 158, 133, 89, 125, 18, 227, 92, 87, 51, 156, 109, 219, 228, 225, 230, 121, 87, 200, 249, 98, 156, 224, 93, 200]
  | 63 => [160, 160, 74, 42, 155, 145, 172, 248, 18, 186, 46, 239, 83, 70, 57, 116, 167, 231, 193, 225, 232, 96, 225, 173, 250, 62, 79, 114, 70, 27, 60, 33]
  | 64 => [183, 225, 238, 61, 120, 208, 173, 28, 153, 195, 78, 103, 163, 98, 196, 68, 150, 94, 32, 53, 78, 88, 192, 235, 205, 179, 26, 140, 231, 236, 13, 208]
  | 65 => [148, 230, 234, 226, 44, 88, 146, 6, 108, 129, 57, 13, 125, 99, 180, 20, 211, 153, 41, 58, 92, 72, 250, 130, 159, 97, 97, 106, 171, 0, 216, 27]
  | 66 => [249, 176, 172, 166, 165, 142, 214, 62, 8, 9, 40, 70, 11, 172, 229, 243, 82, 145, 64, 207, 253, 89, 118, 229, 139, 48, 176, 80, 171, 223, 239, 41]
  | 67 => [181, 59, 231, 25, 124, 248, 170, 42, 108, 216, 114, 253, 28, 170, 111, 55, 5, 238, 62, 232, 219, 87, 51, 75, 139, 254, 250, 249, 201, 72, 148, 63]
  | 68 => [191, 25, 213, 246, 129, 59, 152, 10, 29, 55, 176, 229, 147, 147, 150, 59, 167, 149, 13, 35, 71, 4, 227, 248, 234, 57, 46, 111, 76, 141, 95, 124]
  | 69 => [85, 180, 213, 138, 223, 163, 34, 127, 236, 16, 212, 196, 110, 230, 28, 186, 41, 5, 240, 194, 60, 50, 98, 215, 48, 240, 27, 148, 251, 220, 202, 125]
  | 70 => [116, 115, 151, 245, 252, 11, 97, 118, 198, 120, 93, 101, 205, 36, 216, 150, 233, 175, 209, 91, 118, 26, 6, 21, 173, 167, 103, 100, 233, 81, 202, 192]
  | 71 => [38, 173, 180, 18, 77, 72, 225, 251, 70, 110, 65, 108, 46, 68, 65, 11, 35, 131, 165, 240, 140, 118, 192, 27, 177, 52, 198, 62, 7, 22, 50, 231]
  | 72 => [164, 33, 131, 174, 75, 192, 177, 153, 130, 3, 135, 230, 68, 249, 22, 148, 102, 41, 190, 106, 252, 250, 150, 110, 209, 162, 142, 126, 47, 46, 138, 161]
  | 73 => [222, 246, 159, 87, 151, 195, 83, 160, 30, 128, 94, 178, 25, 44, 13, 146, 225, 12, 223, 123, 163, 172, 254, 177, 135, 6, 101, 96, 255, 207, 170, 186]
  | 74 => [204, 55, 117, 141, 232, 191, 9, 183, 100, 178, 95, 85, 240, 214, 87, 179, 217, 29, 179, 41, 162, 58, 225, 192, 144, 65, 223, 153, 80, 99, 141, 83]
  | 75 => [251, 156, 184, 106, 85, 26, 43, 99, 150, 175, 86, 125, 131, 166, 251, 177, 95, 120, 126, 95, 160, 164, 152, 79, 70, 84, 73, 5, 7, 73, 44, 150]
  | 76 => [230, 113, 87, 76, 206, 219, 223, 167, 54, 159, 53, 10, 126, 101, 106, 115, 217, 51, 97, 181, 177, 240, 255, 145, 5, 95, 159, 122, 128, 200, 189, 6]
  | 77 => [174, 121, 43, 142, 35, 228, 26, 106, 96, 23, 53, 76, 28, 78, 165, 226, 183, 53, 7, 42, 44, 27, 107, 56, 87, 146, 90, 142, 5, 154, 189, 141]
  | 78 => [54, 155, 180, 135, 31, 55, 47, 35, 249, 193, 225, 4, 117, 96, 135, 114, 130, 198, 135, 6, 242, 92, 223, 94, 41, 246, 12, 214, 74, 244, 255, 196]
  | 79 => [102, 36, 94, 142, 154, 246, 25, 122, 173, 0, 199, 105, 112, 104, 234, 11, 83, 211, 128, 119, 70, 14, 102, 178, 248, 140, 123, 27, 49, 164, 240, 208]
  | 80 => [148, 190, 7, 79, 107, 4, 128, 97, 145, 209, 162, 210, 174, 213, 217, 0, 4, 159, 69, 202, 115, 173, 9, 221, 101, 25, 102, 155, 138, 108, 170, 226]
  | 81 => [72, 249, 22, 63, 234, 93, 156, 202, 222, 149, 251, 149, 5, 153, 24, 164, 123, 60, 249, 125, 225, 207, 84, 107, 252, 167, 186, 165, 65, 231, 198, 23]
  | 82 => [60, 28, 31, 65, 180, 47, 164, 102, 8, 198, 75, 207, 138, 88, 4, 98, 153, 235, 44, 180, 21, 23, 248, 254, 75, 192, 56, 113, 200, 117, 80, 154]
  | 83 => [206, 35, 198, 54, 229, 154, 103, 49, 1, 236, 72, 23, 132, 183, 116, 45, 13, 80, 64, 56, 102, 6, 84, 243, 20, 147, 66, 92, 243, 232, 155, 128]
  | 84 => [56, 3, 180, 112, 107, 19, 40, 178, 15, 213, 111, 229, 168, 6, 61, 30, 62, 97, 47, 195, 168, 175, 204, 4, 171, 231, 21, 230, 51, 158, 68, 129]
  | 85 => [33, 20, 179, 13, 58, 119, 221, 188, 225, 204, 11, 172, 124, 165, 104, 41, 109, 207, 153, 69, 82, 90, 200, 133, 176, 62, 33, 250, 99, 133, 15, 151]
  | 86 => [56, 24, 103, 22, 39, 238, 95, 73, 213, 36, 20, 125, 177, 135, 149, 15, 121, 0, 185, 178, 117, 31, 46, 40, 250, 81, 17, 123, 233, 76, 170, 177]
  | 87 => [203, 188, 241, 86, 0, 70, 198, 58, 5, 210, 224, 222, 78, 166, 73, 179, 140, 7, 137, 243, 90, 224, 106, 41, 190, 233, 94, 125, 128, 173, 196, 214]
  | 88 => [250, 21, 35, 223, 179, 77, 157, 140, 97, 104, 134, 36, 66, 99, 117, 80, 61, 218, 35, 238, 147, 165, 251, 177, 61, 120, 246, 1, 230, 254, 134, 18]
  | 89 => [185, 1, 207, 242, 207, 66, 12, 103, 87, 7, 237, 218, 3, 167, 8, 159, 243, 186, 123, 84, 87, 174, 115, 248, 128, 37, 104, 111, 129, 112, 60, 211]
  | 90 => [31, 95, 138, 220, 207, 98, 189, 19, 253, 48, 72, 82, 124, 233, 11, 216, 174, 50, 158, 128, 166, 42, 73, 109, 42, 93, 218, 149, 114, 198, 237, 32]
  | 91 => [68, 251, 145, 191, 186, 158, 195, 56, 8, 90, 102, 118, 91, 171, 159, 202, 174, 35, 48, 78, 86, 104, 116, 55, 133, 4, 241, 68, 11, 149, 226, 206]
  | 92 => [90, 231, 101, 76, 141, 80, 102, 111, 134, 251, 30, 224, 236, 102, 80, 197, 142, 201, 28, 104, 25, 242, 88, 202, 106, 26, 213, 247, 87, 237, 224, 117]
  | 93 => [238, 157, 46, 77, 111, 253, 181, 57, 53, 57, 52, 68, 177, 10, 55, 150, 40, 235, 44, 157, 13, 31, 205, 192, 210, 179, 51, 158, 84, 57, 107, 72]
  | 94 => [198, 141, 136, 103, 179, 133, 135, 103, 11, 10, 49, 7, 233, 28, 2, 122, 59, 74, 88, 197, 55, 132, 68, 153, 253, 226, 138, 86, 26, 64, 63, 227]
  | 95 => [155, 13, 181, 157, 106, 0, 51, 105, 11, 105, 117, 232, 207, 214, 197, 132, 160, 190, 198, 146, 159, 220, 62, 202, 126, 32, 76, 21, 42, 5, 193, 217]
  | 96 => [78, 201, 85, 202, 153, 53, 99, 33, 47, 36, 22, 57, 46, 83, 201, 149, 75, 238, 157, 202, 246, 47, 100, 240, 60, 11, 208, 224, 250, 48, 72, 182]
  | 97 => [87, 169, 206, 122, 135, 104, 53, 125, 89, 86, 1, 245, 69, 44, 170, 26, 201, 155, 200, 129, 254, 181, 95, 198, 190, 227, 110, 162, 8, 170, 121, 11]
  | 98 => [68, 219, 165, 176, 104, 93, 59, 56, 129, 48, 1, 175, 98, 181, 192, 33, 118, 140, 121, 234, 234, 36, 80, 147, 121, 74, 77, 87, 23, 34, 116, 181]
  | 99 => [108, 160, 161, 87, 233, 101, 234, 117, 253, 20, 153, 176, 68, 141, 217, 230, 42, 189, 139, 133, 116, 184, 220, 50, 58, 18, 219, 167, 134, 46, 115, 158]
  | 100 => [194, 134, 227, 46, 129, 127, 195, 179, 160, 195, 201, 228, 150, 91, 139, 197, 157, 250, 149, 114, 152, 102, 145, 86, 41, 79, 78, 144, 135, 249, 24, 240]
  | _ => []

def lineId (j : Nat) : ByteArray := ⟨(lineB j).toArray⟩

end Go.Proofs.YthhildeocedpiaaDoor

/- A line's ids, step by step. -/
namespace Go.Proofs.YthhildeocedpiaaDoor
open Go Go.RowKit
set_option linter.unusedVariables false

set_option maxRecDepth 1000000 in
theorem lineS_0 : Mx.sumL (encK (blkN ((0 + 1 : Nat) : Int) ((0 : Nat) : Int) (lineId 0)).d) = lineB (0 + 1) := by decide +kernel

set_option maxRecDepth 1000000 in
theorem lineS_1 : Mx.sumL (encK (blkN ((1 + 1 : Nat) : Int) ((1 : Nat) : Int) (lineId 1)).d) = lineB (1 + 1) := by decide +kernel

set_option maxRecDepth 1000000 in
theorem lineS_2 : Mx.sumL (encK (blkN ((2 + 1 : Nat) : Int) ((2 : Nat) : Int) (lineId 2)).d) = lineB (2 + 1) := by decide +kernel

set_option maxRecDepth 1000000 in
theorem lineS_3 : Mx.sumL (encK (blkN ((3 + 1 : Nat) : Int) ((3 : Nat) : Int) (lineId 3)).d) = lineB (3 + 1) := by decide +kernel

set_option maxRecDepth 1000000 in
theorem lineS_4 : Mx.sumL (encK (blkN ((4 + 1 : Nat) : Int) ((4 : Nat) : Int) (lineId 4)).d) = lineB (4 + 1) := by decide +kernel

set_option maxRecDepth 1000000 in
theorem lineS_5 : Mx.sumL (encK (blkN ((5 + 1 : Nat) : Int) ((5 : Nat) : Int) (lineId 5)).d) = lineB (5 + 1) := by decide +kernel

set_option maxRecDepth 1000000 in
theorem lineS_6 : Mx.sumL (encK (blkN ((6 + 1 : Nat) : Int) ((6 : Nat) : Int) (lineId 6)).d) = lineB (6 + 1) := by decide +kernel

set_option maxRecDepth 1000000 in
theorem lineS_7 : Mx.sumL (encK (blkN ((7 + 1 : Nat) : Int) ((7 : Nat) : Int) (lineId 7)).d) = lineB (7 + 1) := by decide +kernel

set_option maxRecDepth 1000000 in
theorem lineS_8 : Mx.sumL (encK (blkN ((8 + 1 : Nat) : Int) ((8 : Nat) : Int) (lineId 8)).d) = lineB (8 + 1) := by decide +kernel

set_option maxRecDepth 1000000 in
theorem lineS_9 : Mx.sumL (encK (blkN ((9 + 1 : Nat) : Int) ((9 : Nat) : Int) (lineId 9)).d) = lineB (9 + 1) := by decide +kernel

set_option maxRecDepth 1000000 in
theorem lineS_10 : Mx.sumL (encK (blkN ((10 + 1 : Nat) : Int) ((10 : Nat) : Int) (lineId 10)).d) = lineB (10 + 1) := by decide +kernel

set_option maxRecDepth 1000000 in
theorem lineS_11 : Mx.sumL (encK (blkN ((11 + 1 : Nat) : Int) ((11 : Nat) : Int) (lineId 11)).d) = lineB (11 + 1) := by decide +kernel

set_option maxRecDepth 1000000 in
theorem lineS_12 : Mx.sumL (encK (blkN ((12 + 1 : Nat) : Int) ((12 : Nat) : Int) (lineId 12)).d) = lineB (12 + 1) := by decide +kernel

set_option maxRecDepth 1000000 in
theorem lineS_13 : Mx.sumL (encK (blkN ((13 + 1 : Nat) : Int) ((13 : Nat) : Int) (lineId 13)).d) = lineB (13 + 1) := by decide +kernel

set_option maxRecDepth 1000000 in
theorem lineS_14 : Mx.sumL (encK (blkN ((14 + 1 : Nat) : Int) ((14 : Nat) : Int) (lineId 14)).d) = lineB (14 + 1) := by decide +kernel

set_option maxRecDepth 1000000 in
theorem lineS_15 : Mx.sumL (encK (blkN ((15 + 1 : Nat) : Int) ((15 : Nat) : Int) (lineId 15)).d) = lineB (15 + 1) := by decide +kernel

set_option maxRecDepth 1000000 in
theorem lineS_16 : Mx.sumL (encK (blkN ((16 + 1 : Nat) : Int) ((16 : Nat) : Int) (lineId 16)).d) = lineB (16 + 1) := by decide +kernel

set_option maxRecDepth 1000000 in
theorem lineS_17 : Mx.sumL (encK (blkN ((17 + 1 : Nat) : Int) ((17 : Nat) : Int) (lineId 17)).d) = lineB (17 + 1) := by decide +kernel

set_option maxRecDepth 1000000 in
theorem lineS_18 : Mx.sumL (encK (blkN ((18 + 1 : Nat) : Int) ((18 : Nat) : Int) (lineId 18)).d) = lineB (18 + 1) := by decide +kernel

set_option maxRecDepth 1000000 in
theorem lineS_19 : Mx.sumL (encK (blkN ((19 + 1 : Nat) : Int) ((19 : Nat) : Int) (lineId 19)).d) = lineB (19 + 1) := by decide +kernel

set_option maxRecDepth 1000000 in
theorem lineS_20 : Mx.sumL (encK (blkN ((20 + 1 : Nat) : Int) ((20 : Nat) : Int) (lineId 20)).d) = lineB (20 + 1) := by decide +kernel

set_option maxRecDepth 1000000 in
theorem lineS_21 : Mx.sumL (encK (blkN ((21 + 1 : Nat) : Int) ((21 : Nat) : Int) (lineId 21)).d) = lineB (21 + 1) := by decide +kernel

set_option maxRecDepth 1000000 in
theorem lineS_22 : Mx.sumL (encK (blkN ((22 + 1 : Nat) : Int) ((22 : Nat) : Int) (lineId 22)).d) = lineB (22 + 1) := by decide +kernel

set_option maxRecDepth 1000000 in
theorem lineS_23 : Mx.sumL (encK (blkN ((23 + 1 : Nat) : Int) ((23 : Nat) : Int) (lineId 23)).d) = lineB (23 + 1) := by decide +kernel

set_option maxRecDepth 1000000 in
theorem lineS_24 : Mx.sumL (encK (blkN ((24 + 1 : Nat) : Int) ((24 : Nat) : Int) (lineId 24)).d) = lineB (24 + 1) := by decide +kernel

set_option maxRecDepth 1000000 in
theorem lineS_25 : Mx.sumL (encK (blkN ((25 + 1 : Nat) : Int) ((25 : Nat) : Int) (lineId 25)).d) = lineB (25 + 1) := by decide +kernel

set_option maxRecDepth 1000000 in
theorem lineS_26 : Mx.sumL (encK (blkN ((26 + 1 : Nat) : Int) ((26 : Nat) : Int) (lineId 26)).d) = lineB (26 + 1) := by decide +kernel

set_option maxRecDepth 1000000 in
theorem lineS_27 : Mx.sumL (encK (blkN ((27 + 1 : Nat) : Int) ((27 : Nat) : Int) (lineId 27)).d) = lineB (27 + 1) := by decide +kernel

set_option maxRecDepth 1000000 in
theorem lineS_28 : Mx.sumL (encK (blkN ((28 + 1 : Nat) : Int) ((28 : Nat) : Int) (lineId 28)).d) = lineB (28 + 1) := by decide +kernel

set_option maxRecDepth 1000000 in
theorem lineS_29 : Mx.sumL (encK (blkN ((29 + 1 : Nat) : Int) ((29 : Nat) : Int) (lineId 29)).d) = lineB (29 + 1) := by decide +kernel

set_option maxRecDepth 1000000 in
theorem lineS_30 : Mx.sumL (encK (blkN ((30 + 1 : Nat) : Int) ((30 : Nat) : Int) (lineId 30)).d) = lineB (30 + 1) := by decide +kernel

set_option maxRecDepth 1000000 in
theorem lineS_31 : Mx.sumL (encK (blkN ((31 + 1 : Nat) : Int) ((31 : Nat) : Int) (lineId 31)).d) = lineB (31 + 1) := by decide +kernel

set_option maxRecDepth 1000000 in
theorem lineS_32 : Mx.sumL (encK (blkN ((32 + 1 : Nat) : Int) ((32 : Nat) : Int) (lineId 32)).d) = lineB (32 + 1) := by decide +kernel

set_option maxRecDepth 1000000 in
theorem lineS_33 : Mx.sumL (encK (blkN ((33 + 1 : Nat) : Int) ((33 : Nat) : Int) (lineId 33)).d) = lineB (33 + 1) := by decide +kernel

end Go.Proofs.YthhildeocedpiaaDoor

/- A line's ids, step by step. -/
namespace Go.Proofs.YthhildeocedpiaaDoor
open Go Go.RowKit
set_option linter.unusedVariables false

set_option maxRecDepth 1000000 in
theorem lineS_34 : Mx.sumL (encK (blkN ((34 + 1 : Nat) : Int) ((34 : Nat) : Int) (lineId 34)).d) = lineB (34 + 1) := by decide +kernel

set_option maxRecDepth 1000000 in
theorem lineS_35 : Mx.sumL (encK (blkN ((35 + 1 : Nat) : Int) ((35 : Nat) : Int) (lineId 35)).d) = lineB (35 + 1) := by decide +kernel

set_option maxRecDepth 1000000 in
theorem lineS_36 : Mx.sumL (encK (blkN ((36 + 1 : Nat) : Int) ((36 : Nat) : Int) (lineId 36)).d) = lineB (36 + 1) := by decide +kernel

set_option maxRecDepth 1000000 in
theorem lineS_37 : Mx.sumL (encK (blkN ((37 + 1 : Nat) : Int) ((37 : Nat) : Int) (lineId 37)).d) = lineB (37 + 1) := by decide +kernel

set_option maxRecDepth 1000000 in
theorem lineS_38 : Mx.sumL (encK (blkN ((38 + 1 : Nat) : Int) ((38 : Nat) : Int) (lineId 38)).d) = lineB (38 + 1) := by decide +kernel

set_option maxRecDepth 1000000 in
theorem lineS_39 : Mx.sumL (encK (blkN ((39 + 1 : Nat) : Int) ((39 : Nat) : Int) (lineId 39)).d) = lineB (39 + 1) := by decide +kernel

set_option maxRecDepth 1000000 in
theorem lineS_40 : Mx.sumL (encK (blkN ((40 + 1 : Nat) : Int) ((40 : Nat) : Int) (lineId 40)).d) = lineB (40 + 1) := by decide +kernel

set_option maxRecDepth 1000000 in
theorem lineS_41 : Mx.sumL (encK (blkN ((41 + 1 : Nat) : Int) ((41 : Nat) : Int) (lineId 41)).d) = lineB (41 + 1) := by decide +kernel

set_option maxRecDepth 1000000 in
theorem lineS_42 : Mx.sumL (encK (blkN ((42 + 1 : Nat) : Int) ((42 : Nat) : Int) (lineId 42)).d) = lineB (42 + 1) := by decide +kernel

set_option maxRecDepth 1000000 in
theorem lineS_43 : Mx.sumL (encK (blkN ((43 + 1 : Nat) : Int) ((43 : Nat) : Int) (lineId 43)).d) = lineB (43 + 1) := by decide +kernel

set_option maxRecDepth 1000000 in
theorem lineS_44 : Mx.sumL (encK (blkN ((44 + 1 : Nat) : Int) ((44 : Nat) : Int) (lineId 44)).d) = lineB (44 + 1) := by decide +kernel

set_option maxRecDepth 1000000 in
theorem lineS_45 : Mx.sumL (encK (blkN ((45 + 1 : Nat) : Int) ((45 : Nat) : Int) (lineId 45)).d) = lineB (45 + 1) := by decide +kernel

set_option maxRecDepth 1000000 in
theorem lineS_46 : Mx.sumL (encK (blkN ((46 + 1 : Nat) : Int) ((46 : Nat) : Int) (lineId 46)).d) = lineB (46 + 1) := by decide +kernel

set_option maxRecDepth 1000000 in
theorem lineS_47 : Mx.sumL (encK (blkN ((47 + 1 : Nat) : Int) ((47 : Nat) : Int) (lineId 47)).d) = lineB (47 + 1) := by decide +kernel

set_option maxRecDepth 1000000 in
theorem lineS_48 : Mx.sumL (encK (blkN ((48 + 1 : Nat) : Int) ((48 : Nat) : Int) (lineId 48)).d) = lineB (48 + 1) := by decide +kernel

set_option maxRecDepth 1000000 in
theorem lineS_49 : Mx.sumL (encK (blkN ((49 + 1 : Nat) : Int) ((49 : Nat) : Int) (lineId 49)).d) = lineB (49 + 1) := by decide +kernel

set_option maxRecDepth 1000000 in
theorem lineS_50 : Mx.sumL (encK (blkN ((50 + 1 : Nat) : Int) ((50 : Nat) : Int) (lineId 50)).d) = lineB (50 + 1) := by decide +kernel

set_option maxRecDepth 1000000 in
theorem lineS_51 : Mx.sumL (encK (blkN ((51 + 1 : Nat) : Int) ((51 : Nat) : Int) (lineId 51)).d) = lineB (51 + 1) := by decide +kernel

set_option maxRecDepth 1000000 in
theorem lineS_52 : Mx.sumL (encK (blkN ((52 + 1 : Nat) : Int) ((52 : Nat) : Int) (lineId 52)).d) = lineB (52 + 1) := by decide +kernel

set_option maxRecDepth 1000000 in
theorem lineS_53 : Mx.sumL (encK (blkN ((53 + 1 : Nat) : Int) ((53 : Nat) : Int) (lineId 53)).d) = lineB (53 + 1) := by decide +kernel

set_option maxRecDepth 1000000 in
theorem lineS_54 : Mx.sumL (encK (blkN ((54 + 1 : Nat) : Int) ((54 : Nat) : Int) (lineId 54)).d) = lineB (54 + 1) := by decide +kernel

set_option maxRecDepth 1000000 in
theorem lineS_55 : Mx.sumL (encK (blkN ((55 + 1 : Nat) : Int) ((55 : Nat) : Int) (lineId 55)).d) = lineB (55 + 1) := by decide +kernel

set_option maxRecDepth 1000000 in
theorem lineS_56 : Mx.sumL (encK (blkN ((56 + 1 : Nat) : Int) ((56 : Nat) : Int) (lineId 56)).d) = lineB (56 + 1) := by decide +kernel

set_option maxRecDepth 1000000 in
theorem lineS_57 : Mx.sumL (encK (blkN ((57 + 1 : Nat) : Int) ((57 : Nat) : Int) (lineId 57)).d) = lineB (57 + 1) := by decide +kernel

set_option maxRecDepth 1000000 in
theorem lineS_58 : Mx.sumL (encK (blkN ((58 + 1 : Nat) : Int) ((58 : Nat) : Int) (lineId 58)).d) = lineB (58 + 1) := by decide +kernel

set_option maxRecDepth 1000000 in
theorem lineS_59 : Mx.sumL (encK (blkN ((59 + 1 : Nat) : Int) ((59 : Nat) : Int) (lineId 59)).d) = lineB (59 + 1) := by decide +kernel

set_option maxRecDepth 1000000 in
theorem lineS_60 : Mx.sumL (encK (blkN ((60 + 1 : Nat) : Int) ((60 : Nat) : Int) (lineId 60)).d) = lineB (60 + 1) := by decide +kernel

set_option maxRecDepth 1000000 in
theorem lineS_61 : Mx.sumL (encK (blkN ((61 + 1 : Nat) : Int) ((61 : Nat) : Int) (lineId 61)).d) = lineB (61 + 1) := by decide +kernel

set_option maxRecDepth 1000000 in
theorem lineS_62 : Mx.sumL (encK (blkN ((62 + 1 : Nat) : Int) ((62 : Nat) : Int) (lineId 62)).d) = lineB (62 + 1) := by decide +kernel

set_option maxRecDepth 1000000 in
theorem lineS_63 : Mx.sumL (encK (blkN ((63 + 1 : Nat) : Int) ((63 : Nat) : Int) (lineId 63)).d) = lineB (63 + 1) := by decide +kernel

set_option maxRecDepth 1000000 in
theorem lineS_64 : Mx.sumL (encK (blkN ((64 + 1 : Nat) : Int) ((64 : Nat) : Int) (lineId 64)).d) = lineB (64 + 1) := by decide +kernel

set_option maxRecDepth 1000000 in
theorem lineS_65 : Mx.sumL (encK (blkN ((65 + 1 : Nat) : Int) ((65 : Nat) : Int) (lineId 65)).d) = lineB (65 + 1) := by decide +kernel

set_option maxRecDepth 1000000 in
theorem lineS_66 : Mx.sumL (encK (blkN ((66 + 1 : Nat) : Int) ((66 : Nat) : Int) (lineId 66)).d) = lineB (66 + 1) := by decide +kernel

end Go.Proofs.YthhildeocedpiaaDoor

/- A line's ids, step by step. -/
namespace Go.Proofs.YthhildeocedpiaaDoor
open Go Go.RowKit
set_option linter.unusedVariables false

set_option maxRecDepth 1000000 in
theorem lineS_67 : Mx.sumL (encK (blkN ((67 + 1 : Nat) : Int) ((67 : Nat) : Int) (lineId 67)).d) = lineB (67 + 1) := by decide +kernel

set_option maxRecDepth 1000000 in
theorem lineS_68 : Mx.sumL (encK (blkN ((68 + 1 : Nat) : Int) ((68 : Nat) : Int) (lineId 68)).d) = lineB (68 + 1) := by decide +kernel

set_option maxRecDepth 1000000 in
theorem lineS_69 : Mx.sumL (encK (blkN ((69 + 1 : Nat) : Int) ((69 : Nat) : Int) (lineId 69)).d) = lineB (69 + 1) := by decide +kernel

set_option maxRecDepth 1000000 in
theorem lineS_70 : Mx.sumL (encK (blkN ((70 + 1 : Nat) : Int) ((70 : Nat) : Int) (lineId 70)).d) = lineB (70 + 1) := by decide +kernel

set_option maxRecDepth 1000000 in
theorem lineS_71 : Mx.sumL (encK (blkN ((71 + 1 : Nat) : Int) ((71 : Nat) : Int) (lineId 71)).d) = lineB (71 + 1) := by decide +kernel

set_option maxRecDepth 1000000 in
theorem lineS_72 : Mx.sumL (encK (blkN ((72 + 1 : Nat) : Int) ((72 : Nat) : Int) (lineId 72)).d) = lineB (72 + 1) := by decide +kernel

set_option maxRecDepth 1000000 in
theorem lineS_73 : Mx.sumL (encK (blkN ((73 + 1 : Nat) : Int) ((73 : Nat) : Int) (lineId 73)).d) = lineB (73 + 1) := by decide +kernel

set_option maxRecDepth 1000000 in
theorem lineS_74 : Mx.sumL (encK (blkN ((74 + 1 : Nat) : Int) ((74 : Nat) : Int) (lineId 74)).d) = lineB (74 + 1) := by decide +kernel

set_option maxRecDepth 1000000 in
theorem lineS_75 : Mx.sumL (encK (blkN ((75 + 1 : Nat) : Int) ((75 : Nat) : Int) (lineId 75)).d) = lineB (75 + 1) := by decide +kernel

set_option maxRecDepth 1000000 in
theorem lineS_76 : Mx.sumL (encK (blkN ((76 + 1 : Nat) : Int) ((76 : Nat) : Int) (lineId 76)).d) = lineB (76 + 1) := by decide +kernel

set_option maxRecDepth 1000000 in
theorem lineS_77 : Mx.sumL (encK (blkN ((77 + 1 : Nat) : Int) ((77 : Nat) : Int) (lineId 77)).d) = lineB (77 + 1) := by decide +kernel

set_option maxRecDepth 1000000 in
theorem lineS_78 : Mx.sumL (encK (blkN ((78 + 1 : Nat) : Int) ((78 : Nat) : Int) (lineId 78)).d) = lineB (78 + 1) := by decide +kernel

set_option maxRecDepth 1000000 in
theorem lineS_79 : Mx.sumL (encK (blkN ((79 + 1 : Nat) : Int) ((79 : Nat) : Int) (lineId 79)).d) = lineB (79 + 1) := by decide +kernel

set_option maxRecDepth 1000000 in
theorem lineS_80 : Mx.sumL (encK (blkN ((80 + 1 : Nat) : Int) ((80 : Nat) : Int) (lineId 80)).d) = lineB (80 + 1) := by decide +kernel

set_option maxRecDepth 1000000 in
theorem lineS_81 : Mx.sumL (encK (blkN ((81 + 1 : Nat) : Int) ((81 : Nat) : Int) (lineId 81)).d) = lineB (81 + 1) := by decide +kernel

set_option maxRecDepth 1000000 in
theorem lineS_82 : Mx.sumL (encK (blkN ((82 + 1 : Nat) : Int) ((82 : Nat) : Int) (lineId 82)).d) = lineB (82 + 1) := by decide +kernel

set_option maxRecDepth 1000000 in
theorem lineS_83 : Mx.sumL (encK (blkN ((83 + 1 : Nat) : Int) ((83 : Nat) : Int) (lineId 83)).d) = lineB (83 + 1) := by decide +kernel

set_option maxRecDepth 1000000 in
theorem lineS_84 : Mx.sumL (encK (blkN ((84 + 1 : Nat) : Int) ((84 : Nat) : Int) (lineId 84)).d) = lineB (84 + 1) := by decide +kernel

set_option maxRecDepth 1000000 in
theorem lineS_85 : Mx.sumL (encK (blkN ((85 + 1 : Nat) : Int) ((85 : Nat) : Int) (lineId 85)).d) = lineB (85 + 1) := by decide +kernel

set_option maxRecDepth 1000000 in
theorem lineS_86 : Mx.sumL (encK (blkN ((86 + 1 : Nat) : Int) ((86 : Nat) : Int) (lineId 86)).d) = lineB (86 + 1) := by decide +kernel

set_option maxRecDepth 1000000 in
theorem lineS_87 : Mx.sumL (encK (blkN ((87 + 1 : Nat) : Int) ((87 : Nat) : Int) (lineId 87)).d) = lineB (87 + 1) := by decide +kernel

set_option maxRecDepth 1000000 in
theorem lineS_88 : Mx.sumL (encK (blkN ((88 + 1 : Nat) : Int) ((88 : Nat) : Int) (lineId 88)).d) = lineB (88 + 1) := by decide +kernel

set_option maxRecDepth 1000000 in
theorem lineS_89 : Mx.sumL (encK (blkN ((89 + 1 : Nat) : Int) ((89 : Nat) : Int) (lineId 89)).d) = lineB (89 + 1) := by decide +kernel

set_option maxRecDepth 1000000 in
theorem lineS_90 : Mx.sumL (encK (blkN ((90 + 1 : Nat) : Int) ((90 : Nat) : Int) (lineId 90)).d) = lineB (90 + 1) := by decide +kernel

set_option maxRecDepth 1000000 in
theorem lineS_91 : Mx.sumL (encK (blkN ((91 + 1 : Nat) : Int) ((91 : Nat) : Int) (lineId 91)).d) = lineB (91 + 1) := by decide +kernel

set_option maxRecDepth 1000000 in
theorem lineS_92 : Mx.sumL (encK (blkN ((92 + 1 : Nat) : Int) ((92 : Nat) : Int) (lineId 92)).d) = lineB (92 + 1) := by decide +kernel

set_option maxRecDepth 1000000 in
theorem lineS_93 : Mx.sumL (encK (blkN ((93 + 1 : Nat) : Int) ((93 : Nat) : Int) (lineId 93)).d) = lineB (93 + 1) := by decide +kernel

set_option maxRecDepth 1000000 in
theorem lineS_94 : Mx.sumL (encK (blkN ((94 + 1 : Nat) : Int) ((94 : Nat) : Int) (lineId 94)).d) = lineB (94 + 1) := by decide +kernel

set_option maxRecDepth 1000000 in
theorem lineS_95 : Mx.sumL (encK (blkN ((95 + 1 : Nat) : Int) ((95 : Nat) : Int) (lineId 95)).d) = lineB (95 + 1) := by decide +kernel

set_option maxRecDepth 1000000 in
theorem lineS_96 : Mx.sumL (encK (blkN ((96 + 1 : Nat) : Int) ((96 : Nat) : Int) (lineId 96)).d) = lineB (96 + 1) := by decide +kernel

set_option maxRecDepth 1000000 in
theorem lineS_97 : Mx.sumL (encK (blkN ((97 + 1 : Nat) : Int) ((97 : Nat) : Int) (lineId 97)).d) = lineB (97 + 1) := by decide +kernel

set_option maxRecDepth 1000000 in
theorem lineS_98 : Mx.sumL (encK (blkN ((98 + 1 : Nat) : Int) ((98 : Nat) : Int) (lineId 98)).d) = lineB (98 + 1) := by decide +kernel

set_option maxRecDepth 1000000 in
theorem lineS_99 : Mx.sumL (encK (blkN ((99 + 1 : Nat) : Int) ((99 : Nat) : Int) (lineId 99)).d) = lineB (99 + 1) := by decide +kernel

end Go.Proofs.YthhildeocedpiaaDoor

/- Blocks of fifty views upon the first one: their ids are not the first one's. -/
namespace Go.Proofs.YthhildeocedpiaaDoor
open Go Go.RowKit
set_option linter.unusedVariables false

set_option maxRecDepth 1000000 in
theorem skipS_1 : (Mx.sumL (encK (blkN ((1 : Nat) : Int) ((0 : Nat) : Int) gen32).d)).take 1 ≠ [0] := by decide +kernel

set_option maxRecDepth 1000000 in
theorem skipS_2 : (Mx.sumL (encK (blkN ((2 : Nat) : Int) ((0 : Nat) : Int) gen32).d)).take 1 ≠ [0] := by decide +kernel

set_option maxRecDepth 1000000 in
theorem skipS_3 : (Mx.sumL (encK (blkN ((3 : Nat) : Int) ((0 : Nat) : Int) gen32).d)).take 1 ≠ [0] := by decide +kernel

set_option maxRecDepth 1000000 in
theorem skipS_4 : (Mx.sumL (encK (blkN ((4 : Nat) : Int) ((0 : Nat) : Int) gen32).d)).take 1 ≠ [0] := by decide +kernel

set_option maxRecDepth 1000000 in
theorem skipS_5 : (Mx.sumL (encK (blkN ((5 : Nat) : Int) ((0 : Nat) : Int) gen32).d)).take 1 ≠ [0] := by decide +kernel

set_option maxRecDepth 1000000 in
theorem skipS_6 : (Mx.sumL (encK (blkN ((6 : Nat) : Int) ((0 : Nat) : Int) gen32).d)).take 1 ≠ [0] := by decide +kernel

set_option maxRecDepth 1000000 in
theorem skipS_7 : (Mx.sumL (encK (blkN ((7 : Nat) : Int) ((0 : Nat) : Int) gen32).d)).take 1 ≠ [0] := by decide +kernel

set_option maxRecDepth 1000000 in
theorem skipS_8 : (Mx.sumL (encK (blkN ((8 : Nat) : Int) ((0 : Nat) : Int) gen32).d)).take 1 ≠ [0] := by decide +kernel

set_option maxRecDepth 1000000 in
theorem skipS_9 : (Mx.sumL (encK (blkN ((9 : Nat) : Int) ((0 : Nat) : Int) gen32).d)).take 1 ≠ [0] := by decide +kernel

set_option maxRecDepth 1000000 in
theorem skipS_10 : (Mx.sumL (encK (blkN ((10 : Nat) : Int) ((0 : Nat) : Int) gen32).d)).take 1 ≠ [0] := by decide +kernel

set_option maxRecDepth 1000000 in
theorem skipS_11 : (Mx.sumL (encK (blkN ((11 : Nat) : Int) ((0 : Nat) : Int) gen32).d)).take 1 ≠ [0] := by decide +kernel

set_option maxRecDepth 1000000 in
theorem skipS_12 : (Mx.sumL (encK (blkN ((12 : Nat) : Int) ((0 : Nat) : Int) gen32).d)).take 1 ≠ [0] := by decide +kernel

set_option maxRecDepth 1000000 in
theorem skipS_13 : (Mx.sumL (encK (blkN ((13 : Nat) : Int) ((0 : Nat) : Int) gen32).d)).take 1 ≠ [0] := by decide +kernel

set_option maxRecDepth 1000000 in
theorem skipS_14 : (Mx.sumL (encK (blkN ((14 : Nat) : Int) ((0 : Nat) : Int) gen32).d)).take 1 ≠ [0] := by decide +kernel

set_option maxRecDepth 1000000 in
theorem skipS_15 : (Mx.sumL (encK (blkN ((15 : Nat) : Int) ((0 : Nat) : Int) gen32).d)).take 1 ≠ [0] := by decide +kernel

set_option maxRecDepth 1000000 in
theorem skipS_16 : (Mx.sumL (encK (blkN ((16 : Nat) : Int) ((0 : Nat) : Int) gen32).d)).take 1 ≠ [0] := by decide +kernel

set_option maxRecDepth 1000000 in
theorem skipS_17 : (Mx.sumL (encK (blkN ((17 : Nat) : Int) ((0 : Nat) : Int) gen32).d)).take 1 ≠ [0] := by decide +kernel

set_option maxRecDepth 1000000 in
theorem skipS_18 : (Mx.sumL (encK (blkN ((18 : Nat) : Int) ((0 : Nat) : Int) gen32).d)).take 1 ≠ [0] := by decide +kernel

set_option maxRecDepth 1000000 in
theorem skipS_19 : (Mx.sumL (encK (blkN ((19 : Nat) : Int) ((0 : Nat) : Int) gen32).d)).take 1 ≠ [0] := by decide +kernel

set_option maxRecDepth 1000000 in
theorem skipS_20 : (Mx.sumL (encK (blkN ((20 : Nat) : Int) ((0 : Nat) : Int) gen32).d)).take 1 ≠ [0] := by decide +kernel

set_option maxRecDepth 1000000 in
theorem skipS_21 : (Mx.sumL (encK (blkN ((21 : Nat) : Int) ((0 : Nat) : Int) gen32).d)).take 1 ≠ [0] := by decide +kernel

set_option maxRecDepth 1000000 in
theorem skipS_22 : (Mx.sumL (encK (blkN ((22 : Nat) : Int) ((0 : Nat) : Int) gen32).d)).take 1 ≠ [0] := by decide +kernel

set_option maxRecDepth 1000000 in
theorem skipS_23 : (Mx.sumL (encK (blkN ((23 : Nat) : Int) ((0 : Nat) : Int) gen32).d)).take 1 ≠ [0] := by decide +kernel

set_option maxRecDepth 1000000 in
theorem skipS_24 : (Mx.sumL (encK (blkN ((24 : Nat) : Int) ((0 : Nat) : Int) gen32).d)).take 1 ≠ [0] := by decide +kernel

set_option maxRecDepth 1000000 in
theorem skipS_25 : (Mx.sumL (encK (blkN ((25 : Nat) : Int) ((0 : Nat) : Int) gen32).d)).take 1 ≠ [0] := by decide +kernel

set_option maxRecDepth 1000000 in
theorem skipS_26 : (Mx.sumL (encK (blkN ((26 : Nat) : Int) ((0 : Nat) : Int) gen32).d)).take 1 ≠ [0] := by decide +kernel

set_option maxRecDepth 1000000 in
theorem skipS_27 : (Mx.sumL (encK (blkN ((27 : Nat) : Int) ((0 : Nat) : Int) gen32).d)).take 1 ≠ [0] := by decide +kernel

set_option maxRecDepth 1000000 in
theorem skipS_28 : (Mx.sumL (encK (blkN ((28 : Nat) : Int) ((0 : Nat) : Int) gen32).d)).take 1 ≠ [0] := by decide +kernel

set_option maxRecDepth 1000000 in
theorem skipS_29 : (Mx.sumL (encK (blkN ((29 : Nat) : Int) ((0 : Nat) : Int) gen32).d)).take 1 ≠ [0] := by decide +kernel

set_option maxRecDepth 1000000 in
theorem skipS_30 : (Mx.sumL (encK (blkN ((30 : Nat) : Int) ((0 : Nat) : Int) gen32).d)).take 1 ≠ [0] := by decide +kernel

set_option maxRecDepth 1000000 in
theorem skipS_31 : (Mx.sumL (encK (blkN ((31 : Nat) : Int) ((0 : Nat) : Int) gen32).d)).take 1 ≠ [0] := by decide +kernel

set_option maxRecDepth 1000000 in
theorem skipS_32 : (Mx.sumL (encK (blkN ((32 : Nat) : Int) ((0 : Nat) : Int) gen32).d)).take 1 ≠ [0] := by decide +kernel

set_option maxRecDepth 1000000 in
theorem skipS_33 : (Mx.sumL (encK (blkN ((33 : Nat) : Int) ((0 : Nat) : Int) gen32).d)).take 1 ≠ [0] := by decide +kernel

set_option maxRecDepth 1000000 in
theorem skipS_34 : (Mx.sumL (encK (blkN ((34 : Nat) : Int) ((0 : Nat) : Int) gen32).d)).take 1 ≠ [0] := by decide +kernel

set_option maxRecDepth 1000000 in
theorem skipS_35 : (Mx.sumL (encK (blkN ((35 : Nat) : Int) ((0 : Nat) : Int) gen32).d)).take 1 ≠ [0] := by decide +kernel

set_option maxRecDepth 1000000 in
theorem skipS_36 : (Mx.sumL (encK (blkN ((36 : Nat) : Int) ((0 : Nat) : Int) gen32).d)).take 1 ≠ [0] := by decide +kernel

set_option maxRecDepth 1000000 in
theorem skipS_37 : (Mx.sumL (encK (blkN ((37 : Nat) : Int) ((0 : Nat) : Int) gen32).d)).take 1 ≠ [0] := by decide +kernel

set_option maxRecDepth 1000000 in
theorem skipS_38 : (Mx.sumL (encK (blkN ((38 : Nat) : Int) ((0 : Nat) : Int) gen32).d)).take 1 ≠ [0] := by decide +kernel

set_option maxRecDepth 1000000 in
theorem skipS_39 : (Mx.sumL (encK (blkN ((39 : Nat) : Int) ((0 : Nat) : Int) gen32).d)).take 1 ≠ [0] := by decide +kernel

set_option maxRecDepth 1000000 in
theorem skipS_40 : (Mx.sumL (encK (blkN ((40 : Nat) : Int) ((0 : Nat) : Int) gen32).d)).take 1 ≠ [0] := by decide +kernel

set_option maxRecDepth 1000000 in
theorem skipS_41 : (Mx.sumL (encK (blkN ((41 : Nat) : Int) ((0 : Nat) : Int) gen32).d)).take 1 ≠ [0] := by decide +kernel

set_option maxRecDepth 1000000 in
theorem skipS_42 : (Mx.sumL (encK (blkN ((42 : Nat) : Int) ((0 : Nat) : Int) gen32).d)).take 1 ≠ [0] := by decide +kernel

set_option maxRecDepth 1000000 in
theorem skipS_43 : (Mx.sumL (encK (blkN ((43 : Nat) : Int) ((0 : Nat) : Int) gen32).d)).take 1 ≠ [0] := by decide +kernel

set_option maxRecDepth 1000000 in
theorem skipS_44 : (Mx.sumL (encK (blkN ((44 : Nat) : Int) ((0 : Nat) : Int) gen32).d)).take 1 ≠ [0] := by decide +kernel

set_option maxRecDepth 1000000 in
theorem skipS_45 : (Mx.sumL (encK (blkN ((45 : Nat) : Int) ((0 : Nat) : Int) gen32).d)).take 1 ≠ [0] := by decide +kernel

set_option maxRecDepth 1000000 in
theorem skipS_46 : (Mx.sumL (encK (blkN ((46 : Nat) : Int) ((0 : Nat) : Int) gen32).d)).take 1 ≠ [0] := by decide +kernel

set_option maxRecDepth 1000000 in
theorem skipS_47 : (Mx.sumL (encK (blkN ((47 : Nat) : Int) ((0 : Nat) : Int) gen32).d)).take 1 ≠ [0] := by decide +kernel

set_option maxRecDepth 1000000 in
theorem skipS_48 : (Mx.sumL (encK (blkN ((48 : Nat) : Int) ((0 : Nat) : Int) gen32).d)).take 1 ≠ [0] := by decide +kernel

set_option maxRecDepth 1000000 in
theorem skipS_49 : (Mx.sumL (encK (blkN ((49 : Nat) : Int) ((0 : Nat) : Int) gen32).d)).take 1 ≠ [0] := by decide +kernel

set_option maxRecDepth 1000000 in
theorem skipS_50 : (Mx.sumL (encK (blkN ((50 : Nat) : Int) ((0 : Nat) : Int) gen32).d)).take 1 ≠ [0] := by decide +kernel

theorem skipS (v : Nat) (h1 : 1 ≤ v) (h2 : v ≤ 50) : (Mx.sumL (encK (blkN (v : Int) ((0 : Nat) : Int) gen32).d)).take 1 ≠ [0] := by
  match v, h1, h2 with
  | 0, h, _ => exact absurd h (by decide)
  | 1, _, _ => exact skipS_1
  | 2, _, _ => exact skipS_2
  | 3, _, _ => exact skipS_3
  | 4, _, _ => exact skipS_4
  | 5, _, _ => exact skipS_5
  | 6, _, _ => exact skipS_6
  | 7, _, _ => exact skipS_7
  | 8, _, _ => exact skipS_8
  | 9, _, _ => exact skipS_9
  | 10, _, _ => exact skipS_10
  | 11, _, _ => exact skipS_11
  | 12, _, _ => exact skipS_12
  | 13, _, _ => exact skipS_13
  | 14, _, _ => exact skipS_14
  | 15, _, _ => exact skipS_15
  | 16, _, _ => exact skipS_16
  | 17, _, _ => exact skipS_17
  | 18, _, _ => exact skipS_18
  | 19, _, _ => exact skipS_19
  | 20, _, _ => exact skipS_20
  | 21, _, _ => exact skipS_21
  | 22, _, _ => exact skipS_22
  | 23, _, _ => exact skipS_23
  | 24, _, _ => exact skipS_24
  | 25, _, _ => exact skipS_25
  | 26, _, _ => exact skipS_26
  | 27, _, _ => exact skipS_27
  | 28, _, _ => exact skipS_28
  | 29, _, _ => exact skipS_29
  | 30, _, _ => exact skipS_30
  | 31, _, _ => exact skipS_31
  | 32, _, _ => exact skipS_32
  | 33, _, _ => exact skipS_33
  | 34, _, _ => exact skipS_34
  | 35, _, _ => exact skipS_35
  | 36, _, _ => exact skipS_36
  | 37, _, _ => exact skipS_37
  | 38, _, _ => exact skipS_38
  | 39, _, _ => exact skipS_39
  | 40, _, _ => exact skipS_40
  | 41, _, _ => exact skipS_41
  | 42, _, _ => exact skipS_42
  | 43, _, _ => exact skipS_43
  | 44, _, _ => exact skipS_44
  | 45, _, _ => exact skipS_45
  | 46, _, _ => exact skipS_46
  | 47, _, _ => exact skipS_47
  | 48, _, _ => exact skipS_48
  | 49, _, _ => exact skipS_49
  | 50, _, _ => exact skipS_50
  | n + 51, _, h => exact absurd h (by omega)
end Go.Proofs.YthhildeocedpiaaDoor

/- Lines of blocks: one of a hundred without a gap; one of one block. -/
namespace Go.Proofs.YthhildeocedpiaaDoor
open Go Go.RowKit
set_option linter.unusedVariables false

theorem lineS (j : Nat) (h : j < 100) : Mx.sumL (encK (blkN ((j + 1 : Nat) : Int) (j : Int) (lineId j)).d) = lineB (j + 1) := by
  match j, h with
  | 0, _ => exact lineS_0
  | 1, _ => exact lineS_1
  | 2, _ => exact lineS_2
  | 3, _ => exact lineS_3
  | 4, _ => exact lineS_4
  | 5, _ => exact lineS_5
  | 6, _ => exact lineS_6
  | 7, _ => exact lineS_7
  | 8, _ => exact lineS_8
  | 9, _ => exact lineS_9
  | 10, _ => exact lineS_10
  | 11, _ => exact lineS_11
  | 12, _ => exact lineS_12
  | 13, _ => exact lineS_13
  | 14, _ => exact lineS_14
  | 15, _ => exact lineS_15
  | 16, _ => exact lineS_16
  | 17, _ => exact lineS_17
  | 18, _ => exact lineS_18
  | 19, _ => exact lineS_19
  | 20, _ => exact lineS_20
  | 21, _ => exact lineS_21
  | 22, _ => exact lineS_22
  | 23, _ => exact lineS_23
  | 24, _ => exact lineS_24
  | 25, _ => exact lineS_25
  | 26, _ => exact lineS_26
  | 27, _ => exact lineS_27
  | 28, _ => exact lineS_28
  | 29, _ => exact lineS_29
  | 30, _ => exact lineS_30
  | 31, _ => exact lineS_31
  | 32, _ => exact lineS_32
  | 33, _ => exact lineS_33
  | 34, _ => exact lineS_34
  | 35, _ => exact lineS_35
  | 36, _ => exact lineS_36
  | 37, _ => exact lineS_37
  | 38, _ => exact lineS_38
  | 39, _ => exact lineS_39
  | 40, _ => exact lineS_40
  | 41, _ => exact lineS_41
  | 42, _ => exact lineS_42
  | 43, _ => exact lineS_43
  | 44, _ => exact lineS_44
  | 45, _ => exact lineS_45
  | 46, _ => exact lineS_46
  | 47, _ => exact lineS_47
  | 48, _ => exact lineS_48
  | 49, _ => exact lineS_49
  | 50, _ => exact lineS_50
  | 51, _ => exact lineS_51
  | 52, _ => exact lineS_52
  | 53, _ => exact lineS_53
  | 54, _ => exact lineS_54
  | 55, _ => exact lineS_55
  | 56, _ => exact lineS_56
  | 57, _ => exact lineS_57
  | 58, _ => exact lineS_58
  | 59, _ => exact lineS_59
  | 60, _ => exact lineS_60
  | 61, _ => exact lineS_61
  | 62, _ => exact lineS_62
  | 63, _ => exact lineS_63
  | 64, _ => exact lineS_64
  | 65, _ => exact lineS_65
  | 66, _ => exact lineS_66
  | 67, _ => exact lineS_67
  | 68, _ => exact lineS_68
  | 69, _ => exact lineS_69
  | 70, _ => exact lineS_70
  | 71, _ => exact lineS_71
  | 72, _ => exact lineS_72
  | 73, _ => exact lineS_73
  | 74, _ => exact lineS_74
  | 75, _ => exact lineS_75
  | 76, _ => exact lineS_76
  | 77, _ => exact lineS_77
  | 78, _ => exact lineS_78
  | 79, _ => exact lineS_79
  | 80, _ => exact lineS_80
  | 81, _ => exact lineS_81
  | 82, _ => exact lineS_82
  | 83, _ => exact lineS_83
  | 84, _ => exact lineS_84
  | 85, _ => exact lineS_85
  | 86, _ => exact lineS_86
  | 87, _ => exact lineS_87
  | 88, _ => exact lineS_88
  | 89, _ => exact lineS_89
  | 90, _ => exact lineS_90
  | 91, _ => exact lineS_91
  | 92, _ => exact lineS_92
  | 93, _ => exact lineS_93
  | 94, _ => exact lineS_94
  | 95, _ => exact lineS_95
  | 96, _ => exact lineS_96
  | 97, _ => exact lineS_97
  | 98, _ => exact lineS_98
  | 99, _ => exact lineS_99
  | n + 100, h => exact absurd h (by omega)

set_option maxRecDepth 1000000 in
theorem lineB_all : ((List.range 101).all fun j => (lineB j).length == 32) = true := by decide +kernel

set_option maxRecDepth 1000000 in
theorem lineB_apart : ((List.range 101).map lineB).Nodup := by decide +kernel

theorem lineB_len (j : Nat) (h : j ≤ 100) : (lineB j).length = 32 := by
  have := List.all_eq_true.1 lineB_all j (List.mem_range.2 (by omega))
  simpa using this

theorem lineId_size (j : Nat) : (lineId j).size ≤ 1000 := by
  have e : (lineId j).size = (lineB j).length := by unfold lineId; simp [ByteArray.size]
  rw [e]
  rcases Nat.lt_or_ge j 101 with h | h
  · rw [lineB_len j (by omega)]; decide
  · obtain ⟨n, rfl⟩ : ∃ n, j = n + 101 := ⟨j - 101, by omega⟩
    show (0 : Nat) ≤ 1000
    decide

theorem lineId_inj (i j : Nat) (hi : i ≤ 100) (hj : j ≤ 100) (h : lineId i = lineId j) : i = j := by
  have e : lineB i = lineB j := by
    unfold lineId at h
    simpa using h
  have hp := lineB_apart
  unfold List.Nodup at hp
  rw [List.pairwise_map] at hp
  rw [List.pairwise_iff_getElem] at hp
  rcases Nat.lt_trichotomy i j with q | q | q
  · have := hp i j (by simp; omega) (by simp; omega) q
    simp only [List.getElem_range] at this
    exact absurd e this
  · exact q
  · have := hp j i (by simp; omega) (by simp; omega) q
    simp only [List.getElem_range] at this
    exact absurd e.symm this

/-- The line without a gap. -/
def lineL : LinP := ⟨fun j => min j 100, lineId⟩

theorem lineL_vw {j : Nat} (h : j ≤ 100) : lineL.vw j = j := Nat.min_eq_left h

theorem lineL_ok : lineL.Ok 100 where
  v0 := rfl
  up j h := by rw [lineL_vw (by omega), lineL_vw (by omega)]; omega
  inj i j hi hj h := lineId_inj i j hi hj h
  i0 := by decide +kernel
  sz := lineId_size
  top j := Nat.le_trans (Nat.min_le_right _ _) (by decide)

set_option maxRecDepth 1000000 in
theorem lineE_all : ((List.range 100).all fun j => decide ((encK (blkN ((j + 1 : Nat) : Int) (j : Int) (lineId j)).d).length ≤ 1000)) = true := by decide +kernel

theorem lineL_id {j : Nat} (h : j < 100) : IdOk lineL j where
  id := by
    rw [lineL_vw (by omega), lineL_vw (by omega)]
    show Mx.bytes (Mx.sumL (encK (blkN ((j + 1 : Nat) : Int) (j : Int) (lineId j)).d)) = lineId (j + 1)
    rw [lineS j h]
    rfl
  len := by
    rw [lineL_vw (by omega), lineL_vw (by omega)]
    exact of_decide_eq_true (List.all_eq_true.1 lineE_all j (List.mem_range.2 h))

/-- One block upon the first one. -/
def skipL (v : Nat) : LinP := ⟨fun j => if j = 0 then 0 else min v 100, fun j => if j = 0 then gen32 else idK (blkN (v : Int) ((0 : Nat) : Int) gen32).d⟩

theorem skipL_ok {v : Nat} (h1 : 1 ≤ v) (h2 : v ≤ 50) : (skipL v).Ok 1 where
  v0 := rfl
  up j h := by
    have : j = 0 := by omega
    subst this
    show (0 : Nat) < min v 100
    omega
  inj i j hi hj h := by
    have hne : gen32 ≠ idK (blkN (v : Int) ((0 : Nat) : Int) gen32).d := fun e => by
      have e1 : gen32.data.toList.take 1 = (idK (blkN (v : Int) ((0 : Nat) : Int) gen32).d).data.toList.take 1 := by rw [← e]
      have e2 : (idK (blkN (v : Int) ((0 : Nat) : Int) gen32).d).data.toList = Mx.sumL (encK (blkN (v : Int) ((0 : Nat) : Int) gen32).d) := Mx.bytes_list _
      rw [e2] at e1
      exact skipS v h1 h2 (by rw [← e1]; rfl)
    rcases (by omega : i = 0 ∨ i = 1) with rfl | rfl <;> rcases (by omega : j = 0 ∨ j = 1) with rfl | rfl
    · rfl
    · exact absurd h hne
    · exact absurd h.symm hne
    · rfl
  i0 := rfl
  sz j := by
    show (if j = 0 then gen32 else _ : ByteArray).size ≤ 1000
    split
    · rw [gen32_size]; decide
    · rw [idK_size]; decide
  top j := by
    show (if j = 0 then 0 else min v 100) ≤ 1000000
    split <;> omega

set_option maxRecDepth 1000000 in
theorem skipE_all : ((List.range 51).all fun v => decide ((encK (blkN (v : Int) ((0 : Nat) : Int) gen32).d).length ≤ 1000)) = true := by decide +kernel

theorem skipL_id {v : Nat} (h2 : v ≤ 50) : IdOk (skipL v) 0 where
  id := by
    show idK (blkN ((min v 100 : Nat) : Int) ((0 : Nat) : Int) gen32).d = idK (blkN (v : Int) ((0 : Nat) : Int) gen32).d
    rw [Nat.min_eq_left (by omega)]
  len := by
    show (encK (blkN ((min v 100 : Nat) : Int) ((0 : Nat) : Int) gen32).d).length ≤ 1000
    rw [Nat.min_eq_left (by omega)]
    exact of_decide_eq_true (List.all_eq_true.1 skipE_all v (List.mem_range.2 (by omega)))
end Go.Proofs.YthhildeocedpiaaDoor

/- A chain of the walk's own: each call as the laws use it. -/
namespace Go.Proofs.YthhildeocedpiaaDoor
open Go Go.RowKit
set_option linter.unusedVariables false

/-- A chain that was made behind W. -/
structure LW (W w : World) (L : LinP) (c m : Nat) (ad : Nat → Nat) (k lo lk la hi vt : Nat) : Prop where
  ch : ChAt w L c m ad k lo lk la hi vt
  new : ∀ b, ChS c m ad lo k b → W.heap.size ≤ b
  bel : Below W.heap.size W w

/-- A row lies apart from the chain. -/
def RwAp (q : Value) (c m : Nat) (ad : Nat → Nat) (lo k : Nat) : Prop := ∀ g, q.ownBlock = some g → ¬ ChS c m ad lo k g

section
variable {W w w' : World} {L : LinP} {c m k lo lk la hi vt K : Nat} {ad : Nat → Nat}

theorem LW.below (h : LW W w L c m ad k lo lk la hi vt) (hb : Below w.heap.size w w') : LW W w' L c m ad k lo lk la hi vt :=
  ⟨h.ch.below hb, h.new, h.bel.trans (hb.mono h.bel.size)⟩

theorem LW.step {lo' lk' la' hi' vt' : Nat} (h : LW W w L c m ad k lo lk la hi vt) (hC : ChAt w' L c m ad k lo' lk' la' hi' vt') (hlo : lo ≤ lo') (hk : Kept (ChS c m ad lo k) w w') : LW W w' L c m ad k lo' lk' la' hi' vt' := by
  refine ⟨hC, fun b hb => h.new b ?_, h.bel.trans (hk.below h.bel.size h.new)⟩
  rcases hb with e | e | ⟨j, a, b', e⟩
  · exact Or.inl e
  · exact Or.inr (Or.inl e)
  · exact Or.inr (Or.inr ⟨j, by omega, b', e⟩)

theorem LW.kept {S : Nat → Prop} (h : LW W w L c m ad k lo lk la hi vt) (hk : Kept S w w') (hS : ∀ b, S b → W.heap.size ≤ b ∧ ¬ ChS c m ad lo k b) : LW W w' L c m ad k lo lk la hi vt :=
  ⟨h.ch.kept hk (fun b hb hs => (hS b hs).2 hb), h.new, h.bel.trans (hk.below h.bel.size (fun b hs => (hS b hs).1))⟩

theorem LW.lt (h : LW W w L c m ad k lo lk la hi vt) {b : Nat} (hb : ChS c m ad lo k b) : b < w.heap.size := h.ch.lt hb

theorem RwAp.sub {q : Value} {lo' : Nat} (h : RwAp q c m ad lo k) (hlo : lo ≤ lo') : RwAp q c m ad lo' k := fun g hg hs => h g hg (by
  rcases hs with e | e | ⟨j, a, b', e⟩
  · exact Or.inl e
  · exact Or.inr (Or.inl e)
  · exact Or.inr (Or.inr ⟨j, by omega, b', e⟩))

/-- A block more, elsewhere. -/
theorem chs_more {a g : Nat} (h : ¬ ChS c m ad lo k g) (ha : g ≠ a) : ¬ ChS c m (adP ad (k + 1) a) lo (k + 1) g := fun hs => by
  rcases hs with e | e | ⟨j, p, q, e⟩
  · exact h (Or.inl e)
  · exact h (Or.inr (Or.inl e))
  · by_cases ej : j = k + 1
    · subst ej
      rw [adP_at] at e
      exact ha e
    · rw [adP_ne ad ej] at e
      exact h (Or.inr (Or.inr ⟨j, p, by omega, e⟩))

/-- A block more, where the row lies ahead of it. -/
theorem RwAp.more {q : Value} {a : Nat} {T : TypeId} {B : Nat} {α : Type} {KK : Kind α} {l : List α} (h : RwAp q c m ad lo k) (hQ : KQ KK T w B q l) (ha : w.heap.size ≤ a) : RwAp q c m (adP ad (k + 1) a) lo (k + 1) := fun g hg hs => by
  have hlt := (hQ.lt g hg).2
  rcases hs with e | e | ⟨j, p, q', e⟩
  · exact h g hg (Or.inl e)
  · exact h g hg (Or.inr (Or.inl e))
  · by_cases ej : j = k + 1
    · subst ej
      rw [adP_at] at e
      omega
    · rw [adP_ne ad ej] at e
      exact h g hg (Or.inr (Or.inr ⟨j, p, by omega, e⟩))

/-- A row that is new, or as before. -/
theorem RwAp.fresh {q q' : Value} (h : RwAp q c m ad lo k) (hC : ChAt w L c m ad k lo lk la hi vt) (hf : Fresh w q q') : RwAp q' c m ad lo k := fun g hg hs => by
  rcases hf g hg with e | e
  · exact h g e hs
  · have := hC.lt hs
    omega

theorem RwAp.nil (c m : Nat) (ad : Nat → Nat) (lo k : Nat) : RwAp (.slice none 0 0) c m ad lo k := fun g hg => by simp [Value.ownBlock] at hg

theorem textStrs {ao : Option Addr} {l : List ByteArray} (h : RowAt textK w ao l) : StrsAt w ao l := by
  intro j hj
  obtain ⟨b, off, h1, h2, h3⟩ := h.cell j l[j] (List.getElem?_eq_getElem hj)
  refine ⟨b, off, h1, h2, ?_⟩
  have := h3 0 _ rfl
  simpa [show textK.n = 1 from rfl] using this

theorem lwNew (hL : L.Ok K) (h : Below W.heap.size W w) :
    Calls Tryd.prog 27 #[] w fun e w' => ∃ c m ad, e = .returned (.pointer (some ⟨c, 0, none⟩)) ∧ LW W w' L c m ad 0 0 0 0 0 0 ∧ Below w.heap.size w w' ∧ ∀ b, ChS c m ad 0 0 b → w.heap.size ≤ b := by
  refine (newC_any L K hL w).mono ?_
  rintro e w' ⟨c, m, ad, rfl, h1, h2, h3⟩
  exact ⟨c, m, ad, rfl, ⟨h1, fun b hb => Nat.le_trans h.size (h2 b hb), h.trans (h3.mono h.size)⟩, h3, h2⟩

/-- A block is laid in. -/
theorem lwAdd (hL : L.Ok K) (hK : k + 1 ≤ K) (hI : IdOk L k) (h : LW W w L c m ad k lo lk la hi vt) (hc0 : lo = 0 → k < 64) (hc1 : 0 < lo → k + 1 - lo < 64) (hk5 : k ≤ 100000) (hG : Mx.Glob W) (x y : Int) (id : ByteArray) (hx : (L.vw (k + 1) : Int) = x) (hy : (L.vw k : Int) = y) (hid : L.ids k = id) :
    Calls Tryd.prog 29 #[.pointer (some ⟨c, 0, none⟩), .agg #[.int .i64 x, .int .i64 y, .string id, .slice none 0 0, .slice none 0 0]] w fun e w' => ∃ a, e = .returned (.int .i64 0) ∧ w.heap.size ≤ a ∧ LW W w' L c m (adP ad (k + 1) a) (k + 1) lo lk la hi vt ∧ Kept (ChS c m ad lo k) w w' := by
  have h0 := addC_any hL hK hI h.ch hc0 hc1 hk5 (hG.below h.bel)
  rw [hx, hy, hid] at h0
  refine Calls.mono (show Calls Tryd.prog _ _ w _ from h0) ?_
  rintro e w' ⟨a, rfl, ha, hC, hk⟩
  refine ⟨a, rfl, ha, ⟨hC, fun b hb => ?_, h.bel.trans (hk.below h.bel.size h.new)⟩, hk⟩
  rcases hb with e | e | ⟨j, p, q, e⟩
  · exact h.new b (Or.inl e)
  · exact h.new b (Or.inr (Or.inl e))
  · by_cases ej : j = k + 1
    · subst ej
      rw [adP_at] at e
      have := h.bel.size
      omega
    · rw [adP_ne ad ej] at e
      exact h.new b (Or.inr (Or.inr ⟨j, p, by omega, e⟩))

/-- A block's id. -/
theorem lwId (hL : L.Ok K) (hI : IdOk L k) (hG : Mx.Glob W) (hb : Below W.heap.size W w) (x y : Int) (id id' : ByteArray) (hx : (L.vw (k + 1) : Int) = x) (hy : (L.vw k : Int) = y) (hid : L.ids k = id) (hid' : L.ids (k + 1) = id') :
    Calls Tryd.prog 30 #[.agg #[.int .i64 x, .int .i64 y, .string id, .slice none 0 0, .slice none 0 0]] w fun e w' => e = .returned (.string id') ∧ Below w.heap.size w w' := by
  have h0 := blkId_any (blkN (L.vw (k + 1) : Int) (L.vw k : Int) (L.ids k)) w (blkN_at _ _ _ _) (blkN_enc _ _ _ (hL.sz k)) (Nat.le_trans hI.len (by decide)) (hG.below hb)
  rw [hI.id, hx, hy, hid, hid'] at h0
  exact h0

/-- A vote for a block that rests on the lock. -/
theorem lwVote (hL : L.Ok K) (hK : k ≤ K) (h : LW W w L c m ad k lo lk la hi vt) {j : Nat} (h1 : lk ≤ j) (h2 : j ≤ k) (hv : vt < L.vw j) (id : ByteArray) (hid : L.ids j = id) (v : Nat) (hvv : L.vw j = v) :
    Calls Tryd.prog 36 #[.pointer (some ⟨c, 0, none⟩), .string id] w fun e w' => e = .returned (.bool true) ∧ LW W w' L c m ad k lo lk la hi v ∧ Kept (ChS c m ad lo k) w w' := by
  subst hid
  subst hvv
  refine Calls.mono (show Calls Tryd.prog _ _ w _ from voteYes_any hL hK h.ch h1 h2 hv) ?_
  rintro e w' ⟨rfl, hC, hk⟩
  have hk' : Kept (ChS c m ad lo k) w w' := hk.mono (fun b _ e => Or.inl e)
  exact ⟨rfl, h.step hC (Nat.le_refl _) hk', hk'⟩

/-- No vote. -/
theorem lwVoteNo (hL : L.Ok K) (hK : k ≤ K) (h : LW W w L c m ad k lo lk la hi vt) {j : Nat} (h1 : lo ≤ j) (h2 : j ≤ k) (hv : L.vw j ≤ vt) (id : ByteArray) (hid : L.ids j = id) :
    Calls Tryd.prog 36 #[.pointer (some ⟨c, 0, none⟩), .string id] w fun e w' => e = .returned (.bool false) ∧ LW W w' L c m ad k lo lk la hi vt ∧ Below w.heap.size w w' := by
  subst hid
  refine Calls.mono (show Calls Tryd.prog _ _ w _ from voteNo_any hL hK h.ch h1 h2 hv) ?_
  rintro e w' ⟨rfl, hb⟩
  exact ⟨rfl, h.below hb, hb⟩

theorem lwSkip (h : LW W w L c m ad k lo lk la hi vt) (v : Nat) :
    Calls Tryd.prog 35 #[.pointer (some ⟨c, 0, none⟩), .int .i64 (v : Int)] w fun e w' => (∃ u, e = .returned u) ∧ LW W w' L c m ad k lo lk la hi (max vt v) ∧ Kept (ChS c m ad lo k) w w' := by
  refine Calls.mono (show Calls Tryd.prog _ _ w _ from skipC_any h.ch v) ?_
  rintro e w' ⟨he, hC, hk⟩
  have hk' : Kept (ChS c m ad lo k) w w' := hk.mono (fun b _ e => Or.inl e)
  exact ⟨he, h.step hC (Nat.le_refl _) hk', hk'⟩

theorem lwState (h : LW W w L c m ad k lo lk la hi vt) (x z : Int) (hx : (L.vw lk : Int) = x) (hz : (L.vw la : Int) = z) :
    Calls Tryd.prog 32 #[.pointer (some ⟨c, 0, none⟩)] w fun e w' => e = .returned (.tuple #[.int .i64 x, .int .i64 (vt : Int), .int .i64 z]) ∧ LW W w' L c m ad k lo lk la hi vt ∧ Below w.heap.size w w' := by
  subst hx hz
  refine Calls.mono (show Calls Tryd.prog _ _ w _ from stateC_any h.ch) ?_
  rintro e w' ⟨rfl, hb⟩
  exact ⟨rfl, h.below hb, hb⟩

theorem lwHigh (h : LW W w L c m ad k lo lk la hi vt) (x : Int) (id : ByteArray) (hx : (L.vw hi : Int) = x) (hid : L.ids hi = id) :
    Calls Tryd.prog 34 #[.pointer (some ⟨c, 0, none⟩)] w fun e w' => e = .returned (.agg #[.int .i64 x, .string id, .slice none 0 0]) ∧ LW W w' L c m ad k lo lk la hi vt ∧ Below w.heap.size w w' := by
  subst hx hid
  refine Calls.mono (show Calls Tryd.prog _ _ w _ from highC_any h.ch) ?_
  rintro e w' ⟨rfl, hb⟩
  exact ⟨rfl, h.below hb, hb⟩

/-- The first Qc. -/
theorem lwSee1 (hL : L.Ok K) (hK : k ≤ K) (hvw : ∀ j, j ≤ K → L.vw j = j) (h : LW W w L c m ad k lo lk la hi vt) (hlk : lk = 0) (hhi : hi = 0) (hk1 : 1 ≤ k) (x : Int) (id : ByteArray) (hx : (L.vw 1 : Int) = x) (hid : L.ids 1 = id) :
    Calls Tryd.prog 31 #[.pointer (some ⟨c, 0, none⟩), .agg #[.int .i64 x, .string id, .slice none 0 0]] w fun e w' => e = .returned (.slice none 0 0) ∧ LW W w' L c m ad k lo lk la 1 vt ∧ Kept (ChS c m ad lo k) w w' := by
  subst hx hid
  refine Calls.mono (show Calls Tryd.prog _ _ w _ from see1_any hL hK hvw h.ch hlk hhi hk1) ?_
  rintro e w' ⟨rfl, hC, hk⟩
  exact ⟨rfl, h.step hC (Nat.le_refl _) hk, hk⟩

theorem lwSeeA (hL : L.Ok K) (hK : k ≤ K) (hvw : ∀ j, j ≤ K → L.vw j = j) (h : LW W w L c m ad k lo lk la hi vt) {i : Nat} (hi2 : 2 ≤ i) (hik : i ≤ k) (hhi : hi < i) (hlk : lk < i - 1) (hla : la = i - 2) (x : Int) (id : ByteArray) (hx : (L.vw i : Int) = x) (hid : L.ids i = id) :
    Calls Tryd.prog 31 #[.pointer (some ⟨c, 0, none⟩), .agg #[.int .i64 x, .string id, .slice none 0 0]] w fun e w' => e = .returned (.slice none 0 0) ∧ LW W w' L c m ad k la (i - 1) la i vt ∧ Kept (ChS c m ad lo k) w w' := by
  subst hx hid
  refine Calls.mono (show Calls Tryd.prog _ _ w _ from seeA_any hL hK hvw h.ch hi2 hik hhi hlk hla) ?_
  rintro e w' ⟨rfl, hC, hk⟩
  exact ⟨rfl, h.step hC h.ch.ola hk, hk⟩

theorem lwSeeB (hL : L.Ok K) (hK : k ≤ K) (hvw : ∀ j, j ≤ K → L.vw j = j) (h : LW W w L c m ad k lo lk la hi vt) {i : Nat} (hi2 : 2 ≤ i) (hik : i ≤ k) (hhi : hi < i) (hlk : lk < i - 1) (hla : la + 1 = i - 2) (x : Int) (id : ByteArray) (hx : (L.vw i : Int) = x) (hid : L.ids i = id) :
    Calls Tryd.prog 31 #[.pointer (some ⟨c, 0, none⟩), .agg #[.int .i64 x, .string id, .slice none 0 0]] w fun e w' => ∃ ao cap, e = .returned (.slice ao 1 cap) ∧ KQ textK 9 w' w.heap.size (.slice ao 1 cap) [L.ids (i - 2)] ∧ LW W w' L c m ad k la (i - 1) (la + 1) i vt ∧ Kept (ChS c m ad lo k) w w' := by
  subst hx hid
  refine Calls.mono (show Calls Tryd.prog _ _ w _ from seeB_any hL hK hvw h.ch hi2 hik hhi hlk hla) ?_
  rintro e w' ⟨ao, cap, rfl, hQ, hC, hk⟩
  exact ⟨ao, cap, rfl, hQ, h.step hC h.ch.ola hk, hk⟩
end
end Go.Proofs.YthhildeocedpiaaDoor

/- What 'works' of tusklaw17 does: four blocks, three Qcs. -/
namespace Go.Proofs.YthhildeocedpiaaDoor
open Go Go.RowKit
set_option linter.unusedVariables false

/-- The ids of the first blocks of the line. -/
def rowI (j : Nat) : List ByteArray := (List.range j).map (fun i => lineId (i + 1))

theorem rowI_len (j : Nat) : (rowI j).length = j := by unfold rowI; rw [List.length_map, List.length_range]

theorem rowI_succ (j : Nat) : rowI j ++ [lineId (j + 1)] = rowI (j + 1) := by unfold rowI; rw [List.range_succ, List.map_append]; rfl

theorem rowI_get {i j : Nat} (h : i < j) : (rowI j)[i]? = some (lineId (i + 1)) := by unfold rowI; rw [List.getElem?_map, List.getElem?_range h]; rfl

/-- What stands in a row of texts. -/
theorem KQ.txt {w : World} {B : Nat} {T : TypeId} {g off : Nat} {n cap : Nat} {l : List ByteArray} (h : KQ textK T w B (.slice (some ⟨g, off, none⟩) n cap) l) {i : Nat} {x : ByteArray} (hx : l[i]? = some x) : w.cell? ⟨g, off + i, none⟩ = some (.string x) := by
  obtain ⟨g', off', h1, h2, h3⟩ := h.rowOf.1.cell i x hx
  have := h3 0 _ rfl
  simp only [Option.some.injEq, Addr.mk.injEq] at h1
  obtain ⟨rfl, rfl, -⟩ := h1
  simpa [show textK.n = 1 from rfl] using this

/-- One text of a row, as a row of one. -/
theorem KQ.one {w : World} {B : Nat} {T : TypeId} {g off : Nat} {n cap : Nat} {l : List ByteArray} (h : KQ textK T w B (.slice (some ⟨g, off, none⟩) n cap) l) {i : Nat} {x : ByteArray} (hx : l[i]? = some x) : StrsAt w (some ⟨g, off + i, none⟩) [x] := by
  intro j hj
  have hj0 : j = 0 := by simp at hj; omega
  subst hj0
  refine ⟨g, off + i, rfl, (h.lt g rfl).2, ?_⟩
  have := h.txt hx
  simpa using this

set_option maxRecDepth 100000 in
set_option maxHeartbeats 4000000 in
theorem works17_any (w : World) (hG : Mx.Glob w) :
    Calls Tryd.prog 26 #[] w fun e w' => e = .returned (.bool true) ∧ Below w.heap.size w w' := by
  obtain ⟨i0, z0, hi0, hz0, hz1, hz2, hz3⟩ := strInfoT
  have hg0 : gen32 = lineId 0 := lineL_ok.i0.symm
  go_enter Tryd.func26, Tryd.ntmps26
  go_wp2_with fail
  refine (lwNew lineL_ok (Below.refl _ w)).mono ?_
  rintro e w1 ⟨c, m, ad0, rfl, h1, -, -⟩
  go_wp2_with fail
  refine (refGenesis_any w1).mono ?_
  rintro e w2 ⟨rfl, hb2⟩
  have h2 := h1.below hb2
  rw [hg0]
  clear h1 hb2 hg0
  go_wp2_with fail
  go_loopw [2, 3, 4] (fun v2 v3 v4 wr => ∃ (j : Nat) (ad : Nat → Nat) (ao : Option Addr) (cap : Nat), j ≤ 4 ∧ v4 = .int .i64 ((j : Int) + 1) ∧ v2 = .string (lineId j) ∧ v3 = .slice ao j cap ∧ KQ textK 9 wr w.heap.size (.slice ao j cap) (rowI j) ∧ RwAp (.slice ao j cap) c m ad 0 j ∧ LW w wr lineL c m ad j 0 0 0 0 j) (fun _ _ v4 _ => 5 - (intOf v4).toNat)
  case atStart => exact ⟨0, ad0, none, 0, by decide, rfl, rfl, rfl, KQ.empty _ _ _ _, RwAp.nil _ _ _ _ _, h2⟩
  case round =>
    obtain ⟨j, ad, ao, cap, hj, rfl, rfl, rfl, hQ, hA, h⟩ := hrel
    clear h2
    have hw : IntKind.i64.wrap ((j : Int) + 1 - 1) = (j : Int) := by simp [IntKind.wrap, IntKind.bits, IntKind.signed]; omega
    have hw2 : IntKind.i64.wrap ((j : Int) + 1 + 1) = (j : Int) + 1 + 1 := by simp [IntKind.wrap, IntKind.bits, IntKind.signed]; omega
    by_cases hlt : j < 4
    · have hvj : (lineL.vw j : Int) = (j : Int) := by rw [lineL_vw (by omega)]
      have hvj1 : (lineL.vw (j + 1) : Int) = (j : Int) + 1 := by rw [lineL_vw (by omega)]; rfl
      have hvn : lineL.vw (j + 1) = j + 1 := lineL_vw (by omega)
      have hg : (j : Int) + 1 ≤ 4 := by omega
      -- the block
      have hZ := Arr.new wr 39 [.int .i64 ((j : Int) + 1), .int .i64 (j : Int), .string (lineId j), .slice none 0 0, .slice none 0 0]
      have hB := belowNew wr (.cells #[.int .i64 ((j : Int) + 1), .int .i64 (j : Int), .string (lineId j), .slice none 0 0, .slice none 0 0] 39)
      have hS := h.below hB
      have hQS := hQ.below hB
      have y0 := hZ.cell (i := 0) rfl
      have y1 := hZ.cell (i := 1) rfl
      have y2 := hZ.cell (i := 2) rfl
      have y3 := hZ.cell (i := 3) rfl
      have y4 := hZ.cell (i := 4) rfl
      have hnb : ¬ ChS c m ad 0 j wr.heap.size := fun hs => by have := h.lt hs; omega
      have cA := lwAdd lineL_ok (by omega) (lineL_id (by omega)) hS (fun _ => by omega) (fun h0 => by omega) (by omega) hG ((j : Int) + 1) (j : Int) (lineId j) hvj1 hvj rfl
      go_wp2_with fail
      refine cA.mono ?_
      rintro e w5 ⟨a, rfl, ha, h5, hk5⟩
      have hZ5 := hZ.kept hk5 hnb
      have hQ5 := hQS.kept hk5 (fun g e => hA g e) (fun _ _ _ h => h.elim)
      have hA5 : RwAp (.slice ao j cap) c m (adP ad (j + 1) a) 0 (j + 1) := hA.more hQS ha
      have hnb5 : ¬ ChS c m (adP ad (j + 1) a) 0 (j + 1) wr.heap.size := fun hs => by
        rcases hs with e | e | ⟨i, p, q, e⟩
        · exact hnb (Or.inl e)
        · exact hnb (Or.inr (Or.inl e))
        · by_cases ei : i = j + 1
          · subst ei
            rw [adP_at] at e
            have := hZ.lt
            omega
          · rw [adP_ne ad ei] at e
            exact hnb (Or.inr (Or.inr ⟨i, p, by omega, e⟩))
      clear cA hZ hQS hQ hA hS h hB y0 y1 y2 y3 y4 hnb ha hk5
      generalize adP ad (j + 1) a = ad5 at *
      have y0 := hZ5.cell (i := 0) rfl
      have y1 := hZ5.cell (i := 1) rfl
      have y2 := hZ5.cell (i := 2) rfl
      have y3 := hZ5.cell (i := 3) rfl
      have y4 := hZ5.cell (i := 4) rfl
      have cI := lwId lineL_ok (lineL_id (j := j) (by omega)) hG h5.bel ((j : Int) + 1) (j : Int) (lineId j) (lineId (j + 1)) hvj1 hvj rfl rfl
      go_wp2_with fail
      refine cI.mono ?_
      rintro e w6 ⟨rfl, hb6⟩
      have hZ6 := hZ5.below hb6 hZ5.lt
      have h6 := h5.below hb6
      have hQ6 := hQ5.below hb6
      clear cI hZ5 h5 hQ5 hb6 y0 y1 y2 y3 y4
      have cV := lwVote lineL_ok (by omega) h6 (Nat.zero_le (j + 1)) (Nat.le_refl _) (by rw [hvn]; exact Nat.lt_succ_self _) (lineId (j + 1)) rfl (j + 1) hvn
      go_wp2_with fail
      refine cV.mono ?_
      rintro e w7 ⟨rfl, h7, hk7⟩
      have hZ7 := hZ6.kept hk7 hnb5
      have hQ7 := hQ6.kept hk7 (fun g e => hA5 g e) (fun _ _ _ h => h.elim)
      have y0 := hZ7.cell (i := 0) rfl
      have y1 := hZ7.cell (i := 1) rfl
      have y2 := hZ7.cell (i := 2) rfl
      have y3 := hZ7.cell (i := 3) rfl
      have y4 := hZ7.cell (i := 4) rfl
      have cI := lwId lineL_ok (lineL_id (j := j) (by omega)) hG h7.bel ((j : Int) + 1) (j : Int) (lineId j) (lineId (j + 1)) hvj1 hvj rfl rfl
      clear cV hZ6 h6 hQ6 hk7
      go_wp2_with fail
      refine cI.mono ?_
      rintro e w8 ⟨rfl, hb8⟩
      have h8 := h7.below hb8
      have hQ8 := hQ7.below hb8
      have hbn := belowNew w8 (.cells #[.string (lineId (j + 1))] 9)
      have h9 := h8.below hbn
      have hQ9 := hQ8.below hbn
      have hN := new_text w8 (lineId (j + 1))
      have hbs : w.heap.size ≤ (w8.alloc (.cells #[.string (lineId (j + 1))] 9)).heap.size := h9.bel.size
      have m1 : (rowI j).length + 1 ≤ maxLen := by rw [rowI_len]; unfold maxLen; omega
      have m2 : ((rowI j).length + 1) * 16 ≤ 140737488355328 := by rw [rowI_len]; omega
      have hll : (rowI j ++ [lineId (j + 1)]).length = j + 1 := by rw [rowI_succ, rowI_len]
      clear cI hZ7 h7 hQ7 hb8 y0 y1 y2 y3 y4 h8 hQ8
      go_wp2_with (at_builtin; refine wpList_pushN (K := textK) rfl _ _ 23 rfl w.heap.size 9 i0 _ 16 Tryd.underlying23 hi0 hz0 hz1 hz2 hz3 _ (rowI j) rfl hQ9 (lineId (j + 1)) trivial (fun _ h => h.elim) ⟨w8.heap.size, 0, none⟩ 1 rfl hN m1 m2 hbs ?_)
      intro ao3 cap3 w9 hQn hkn hfn
      try rw [hll] at hQn
      try rw [hll] at hfn
      try rw [hll]
      rw [rowI_succ] at hQn
      have hA9 := hA5.fresh h9.ch hfn
      have hF := h9.kept hkn (fun b e => ⟨(hQ9.lt b e).1, hA5 b e⟩)
      clear hN hbn h9 hQ9 hkn hfn hA5
      go_wp2_with fail
      go_roundw
      case rel => exact ⟨j + 1, ad5, ao3, cap3, by omega, by rw [Int.natCast_add]; rfl, rfl, rfl, hQn, hA9, hF⟩
      case measure => simp [intOf]; omega
    · have hj4 : j = 4 := by omega
      subst hj4
      obtain ⟨g, off, rfl, hgB, hgl, -, hcap⟩ := hQ.spot (by rw [rowI_len]; decide)
      clear hw hw2 hlt hj
      have hlt1 : ¬ ((4 : Nat) : Int) + 1 ≤ 4 := by decide
      have hcI : (4 : Int) ≤ (cap : Int) := by omega
      have c1 := hQ.txt (i := 1) (rowI_get (by decide))
      have cS := lwSeeA lineL_ok (by decide) (fun j hj => lineL_vw hj) h (i := 2) (by decide) (by decide) (by decide) (by decide) rfl 2 (lineId 2) rfl rfl
      go_wp2_with fail
      refine cS.mono ?_
      rintro e w3 ⟨rfl, h3, hk3⟩
      have hQ3 := hQ.kept hk3 (fun g e => hA g e) (fun _ _ _ h => h.elim)
      have c2 := hQ3.txt (i := 2) (rowI_get (by decide))
      have cS := lwSeeB lineL_ok (by decide) (fun j hj => lineL_vw hj) h3 (i := 3) (by decide) (by decide) (by decide) (by decide) rfl 3 (lineId 3) rfl rfl
      clear hQ hk3 h c1
      go_wp2_with fail
      refine cS.mono ?_
      rintro e w4 ⟨ao4, cap4, rfl, hR4, h4, hk4⟩
      have hR4A : RwAp (.slice ao4 1 cap4) c m ad 0 4 := fun g' e hs => by
        have := (hR4.lt g' e).1
        have := h3.lt hs
        omega
      have hQ4 := hQ3.kept hk4 (fun g e => hA g e) (fun _ _ _ h => h.elim)
      have c3 := hQ4.txt (i := 3) (rowI_get (by decide))
      have cS := lwSeeB lineL_ok (by decide) (fun j hj => lineL_vw hj) h4 (i := 4) (by decide) (by decide) (by decide) (by decide) rfl 4 (lineId 4) rfl rfl
      clear hQ3 hk4 h3 c2
      go_wp2_with fail
      refine cS.mono ?_
      rintro e w5 ⟨ao5, cap5, rfl, hR5, h5, hk5⟩
      have hR45 := hR4.kept hk5 (fun g e => hR4A g e) (fun _ _ _ h => h.elim)
      have hQ5 := hQ4.kept hk5 (fun g e => hA g e) (fun _ _ _ h => h.elim)
      have cT := lwState h5 3 2 rfl rfl
      clear hQ4 hk5 h4 c3 hR4
      go_wp2_with fail
      refine cT.mono ?_
      rintro e w6 ⟨rfl, h6, hb6⟩
      have hQ6 := hQ5.below hb6
      have hR46 := (hR45.below hb6).rowOf.1
      have hR56 := (hR5.below hb6).rowOf.1
      have s1 := hQ6.one (i := 0) (rowI_get (by decide))
      have cM := same_any ao4 (some ⟨g, off + 0, none⟩) cap4 cap [lineId 1] w6 (textStrs hR46) s1 (by simp)
      rw [Nat.add_zero] at cM
      replace cM : Calls Tryd.prog 33 #[.slice ao4 1 cap4, .slice (some ⟨g, off, none⟩) 1 cap] w6 fun e w' => e = .returned (.bool true) ∧ Below w6.heap.size w6 w' := cM
      clear hQ5 hR45 hR5 hb6 h5
      go_wp2_with fail
      refine cM.mono ?_
      rintro e w7 ⟨rfl, hb7⟩
      have s2 := (hQ6.below hb7).one (i := 1) (rowI_get (by decide))
      have cM := same_any ao5 (some ⟨g, off + 1, none⟩) cap5 (cap - 1) [lineId 2] w7 (textStrs (hR56.below hb7)) s2 (by simp)
      replace cM : Calls Tryd.prog 33 #[.slice ao5 1 cap5, .slice (some ⟨g, off + 1, none⟩) 1 (cap - 1)] w7 fun e w' => e = .returned (.bool true) ∧ Below w7.heap.size w7 w' := cM
      go_wp2_with fail
      refine cM.mono ?_
      rintro e w8 ⟨rfl, hb8⟩
      have hfin : Below w.heap.size w w8 := (h6.below (hb7.trans (hb8.mono hb7.size))).bel
      go_wp2
      go_ret
      exact ⟨rfl, hfin⟩
end Go.Proofs.YthhildeocedpiaaDoor

/- Rows of numbers; a number that is picked out of so many. -/
namespace Go.Proofs.YthhildeocedpiaaDoor
open Go.RowKit
set_option linter.unusedVariables false

/-- Numbers. -/
def intK : Kind Int where
  n := 1
  c v := [.int .i64 v]
  foot _ _ := False
  At _ _ := True
  pos := by decide
  len _ := rfl
  one x u hu := by
    simp only [List.mem_cons, List.not_mem_nil, or_false] at hu
    rcases hu with rfl; rfl
  lt _ h := h.elim
  keep _ _ := trivial

theorem RowAt.int {w : World} {ao : Option Addr} {l : List Int} (h : RowAt intK w ao l) {i : Nat} {v : Int} (hv : l[i]? = some v) :
    ∃ b off, ao = some ⟨b, off, none⟩ ∧ b < w.heap.size ∧ w.cell? ⟨b, off + i, none⟩ = some (.int .i64 v) := by
  obtain ⟨b, off, h1, h2, h3⟩ := h.cell i v hv
  refine ⟨b, off, h1, h2, ?_⟩
  have := h3 0 _ rfl
  have e : off + i * intK.n + 0 = off + i := by show off + i * 1 + 0 = _; omega
  rw [e] at this
  exact this

theorem pick_atC (f : Int) (k : Nat) (hk : 0 < k) (hk2 : k < 9223372036854775808) : ∃ j : Nat, j < k ∧ wrap64 ((IntKind.u64.wrap f).tmod (k : Int)) = (j : Int) := by
  obtain ⟨h0, h1⟩ := Mx.u64_range f
  rw [Int.tmod_eq_emod_of_nonneg h0]
  generalize IntKind.u64.wrap f = m at h0 h1
  have hlt := Int.emod_lt_of_pos m (show (0 : Int) < (k : Int) by omega)
  have hge := Int.emod_nonneg m (show (k : Int) ≠ 0 by omega)
  refine ⟨(m % (k : Int)).toNat, by omega, ?_⟩
  rw [Mx.wrap64_small _ hge (by omega)]
  omega
end Go.Proofs.YthhildeocedpiaaDoor

/- tusklaw17.ChainSkips: behind a skip nothing of that view, or a lesser one, is voted for. -/
namespace Go.Proofs.YthhildeocedpiaaDoor
open Go Go.RowKit
set_option linter.unusedVariables false

set_option maxRecDepth 100000 in
set_option maxHeartbeats 4000000 in
theorem chainSkips_walk (view skip : Int) (w : World) (h0 : (Lit.int .i64 view).wf = true) (h1 : (Lit.int .i64 skip).wf = true) (hG : Mx.Glob w) :
    Calls Tryd.prog 6 #[.int .i64 view, .int .i64 skip] w fun e w' => e = .returned (.bool true) ∧ Below w.heap.size w w' := by
  have cW := works17_any w hG
  obtain ⟨N, hN, hNe⟩ := pick_atC view 50 (by omega) (by omega)
  obtain ⟨M, hM, hMe⟩ := pick_atC skip 60 (by omega) (by omega)
  have hNe' : wrap64 ((IntKind.u64.wrap view).tmod 50) = (N : Int) := hNe
  have hMe' : wrap64 ((IntKind.u64.wrap skip).tmod 60) = (M : Int) := hMe
  obtain ⟨V, hV⟩ : ∃ V : Nat, V = N + 1 := ⟨_, rfl⟩
  have hVI : wrap64 (1 + (N : Int)) = (V : Int) := by subst hV; rw [Mx.wrap64_small _ (by omega) (by omega)]; omega
  have hL := skipL_ok (v := V) (by omega) (by omega)
  have hI := skipL_id (v := V) (by omega)
  clear hNe hMe
  go_enter Tryd.func6, Tryd.ntmps6
  go_wp2_with fail
  refine cW.mono ?_
  rintro e w1 ⟨rfl, hb1⟩
  have cN := lwNew hL hb1
  have hW1 : wrap64 (1 + (N : Int)) = 1 + (N : Int) := Mx.wrap64_small _ (by omega) (by omega)
  go_wp2_with fail
  simp only [hNe', hMe', hW1]
  clear cW hNe' hMe' hVI hW1 h0 h1
  refine cN.mono ?_
  rintro e w2 ⟨c, m, ad, rfl, h2, hb2, -⟩
  clear cN
  go_wp2_with fail
  refine (refGenesis_any w2).mono ?_
  rintro e w3 ⟨rfl, hb3⟩
  have h3 := h2.below hb3
  have hZ := Arr.new w3 39 [.int .i64 (1 + (N : Int)), .int .i64 0, .string gen32, .slice none 0 0, .slice none 0 0]
  have hB := belowNew w3 (.cells #[.int .i64 (1 + (N : Int)), .int .i64 0, .string gen32, .slice none 0 0, .slice none 0 0] 39)
  have hS := h3.below hB
  have y0 := hZ.cell (i := 0) rfl
  have y1 := hZ.cell (i := 1) rfl
  have y2 := hZ.cell (i := 2) rfl
  have y3 := hZ.cell (i := 3) rfl
  have y4 := hZ.cell (i := 4) rfl
  have hnb : ¬ ChS c m ad 0 0 w3.heap.size := fun hs => by have := h3.lt hs; omega
  have hv1 : (skipL V).vw (0 + 1) = V := by show min V 100 = V; omega
  have hx : ((skipL V).vw (0 + 1) : Int) = 1 + (N : Int) := by rw [hv1]; omega
  have hy : ((skipL V).vw 0 : Int) = 0 := rfl
  have cA := lwAdd hL (by decide) hI hS (fun _ => by decide) (fun h => absurd h (by decide)) (by decide) hG (1 + (N : Int)) 0 gen32 hx hy rfl
  obtain ⟨idv, hidv⟩ : ∃ z, (skipL V).ids (0 + 1) = z := ⟨_, rfl⟩
  have cI := fun w' hb => lwId (w := w') hL hI hG hb (1 + (N : Int)) 0 gen32 idv hx hy rfl hidv
  clear h2 hb2 h3 hb3
  obtain ⟨gg, hgg⟩ : ∃ z, z = gen32 := ⟨_, rfl⟩
  rw [← hgg] at hZ hB hS y0 y1 y2 y3 y4 cA cI ⊢
  clear hgg
  go_wp2_with fail
  refine cA.mono ?_
  rintro e w5 ⟨a, rfl, ha, h5, hk5⟩
  have hZ5 := hZ.kept hk5 hnb
  have hnb5 : ¬ ChS c m (adP ad (0 + 1) a) 0 (0 + 1) w3.heap.size := chs_more hnb (Nat.ne_of_lt (Nat.lt_of_lt_of_le hZ.lt ha))
  clear cA hZ hS hB y0 y1 y2 y3 y4 hnb ha hk5
  generalize adP ad (0 + 1) a = ad5 at *
  have cK := lwSkip h5 M
  go_wp2_with fail
  refine cK.mono ?_
  rintro e w6 ⟨⟨u, rfl⟩, h6, hk6⟩
  have hZ6 := hZ5.kept hk6 hnb5
  rw [show max 0 M = M by omega] at h6
  clear cK h5 hZ5 hk6
  have cT := lwState h6 0 0 rfl rfl
  go_wp2_with fail
  refine cT.mono ?_
  rintro e w7 ⟨rfl, h7, hb7⟩
  have hZ7 := hZ6.below hb7 hZ6.lt
  clear cT h6 hZ6 hb7
  have y0 := hZ7.cell (i := 0) rfl
  have y1 := hZ7.cell (i := 1) rfl
  have y2 := hZ7.cell (i := 2) rfl
  have y3 := hZ7.cell (i := 3) rfl
  have y4 := hZ7.cell (i := 4) rfl
  go_wp2_with fail
  refine (cI _ h7.bel).mono ?_
  rintro e w8 ⟨rfl, hb8⟩
  have h8 := h7.below hb8
  have hZ8 := hZ7.below hb8 hZ7.lt
  clear h7 hZ7 hb8 y0 y1 y2 y3 y4
  rcases Nat.lt_or_ge M V with hMV | hMV
  · have cV := lwVote hL (Nat.le_refl _) h8 (Nat.zero_le 1) (Nat.le_refl _) (by rw [hv1]; exact hMV) idv hidv V hv1
    have hgt : (M : Int) < 1 + (N : Int) := by omega
    go_wp2_with fail
    refine cV.mono ?_
    rintro e w9 ⟨rfl, h9, hk9⟩
    have hZ9 := hZ8.kept hk9 hnb5
    have cV2 := fun w' (h' : LW w w' (skipL V) c m ad5 (0 + 1) 0 0 0 0 V) => lwVoteNo hL (Nat.le_refl _) h' (Nat.zero_le 1) (Nat.le_refl _) (by rw [hv1]; exact Nat.le_refl _) idv hidv
    have y0 := hZ9.cell (i := 0) rfl
    have y1 := hZ9.cell (i := 1) rfl
    have y2 := hZ9.cell (i := 2) rfl
    have y3 := hZ9.cell (i := 3) rfl
    have y4 := hZ9.cell (i := 4) rfl
    clear cV hZ8 h8
    go_wp2_with fail
    refine (cI _ h9.bel).mono ?_
    rintro e w10 ⟨rfl, hb10⟩
    have h10 := h9.below hb10
    have cV3 := cV2 _ h10
    clear y0 y1 y2 y3 y4 hZ9 cV2
    go_wp2_with fail
    refine cV3.mono ?_
    rintro e w11 ⟨rfl, h11, hb11⟩
    have hfin := h11.bel
    go_wp2
    go_ret
    exact ⟨rfl, hfin⟩
  · have cV := lwVoteNo hL (Nat.le_refl _) h8 (Nat.zero_le 1) (Nat.le_refl _) (by rw [hv1]; exact hMV) idv hidv
    have hgt : ¬ (M : Int) < 1 + (N : Int) := by omega
    go_wp2_with fail
    refine cV.mono ?_
    rintro e w9 ⟨rfl, h9, hb9⟩
    have hZ9 := hZ8.below hb9 hZ8.lt
    have cV2 := fun w' (h' : LW w w' (skipL V) c m ad5 (0 + 1) 0 0 0 0 M) => lwVoteNo hL (Nat.le_refl _) h' (Nat.zero_le 1) (Nat.le_refl _) (by rw [hv1]; exact hMV) idv hidv
    have y0 := hZ9.cell (i := 0) rfl
    have y1 := hZ9.cell (i := 1) rfl
    have y2 := hZ9.cell (i := 2) rfl
    have y3 := hZ9.cell (i := 3) rfl
    have y4 := hZ9.cell (i := 4) rfl
    clear cV hZ8 h8
    go_wp2_with fail
    refine (cI _ h9.bel).mono ?_
    rintro e w10 ⟨rfl, hb10⟩
    have h10 := h9.below hb10
    have cV3 := cV2 _ h10
    clear y0 y1 y2 y3 y4 hZ9 cV2
    go_wp2_with fail
    refine cV3.mono ?_
    rintro e w11 ⟨rfl, h11, hb11⟩
    have hfin := h11.bel
    go_wp2
    go_ret
    refine ⟨?_, hfin⟩
    show Ending.returned (.bool !decide ((M : Int) < 1 + (N : Int))) = _
    rw [decide_eq_false (by omega)]
    rfl
end Go.Proofs.YthhildeocedpiaaDoor

/- ChainSkips: for every input the statement answers true, and each argument reads afterwards as it read before. Condition: the two tables of package mix read as the program's text lays them; no other. -/
namespace Go.Proofs.YthhildeocedpiaaDoor
open Go.ChangeShapes Go.WideShapes Go.ChangeAt Go.RowKit
open Go.ChangeMaps (open_string shut_string)
set_option linter.unusedVariables false

set_option maxRecDepth 100000 in
theorem chainSkips_lifted (os : Os) (started : os.Started) (H : Type) (enc : TypeId × Value → H) :
    ReturnsInHanded {} Tryd.checked os 6 .any (fun w args => (Rows.chainSkipsSpec.pre enc Tryd.prog Tryd.f6 [] false w args ∧ laidMetH Tryd.prog Mx.laid2 w) ∧ sizedMet enc Tryd.prog Tryd.f6 (OpenSpec.ofChange Rows.chainSkipsSpec) false w args)
      (Rows.chainSkipsSpec.post enc Tryd.prog Tryd.f6 false true false false) := by
  refine returnsInHanded_of_change_and (C := Tryd.checked) (X := fun w _ => laidMetH Tryd.prog Mx.laid2 w) (fun _ _ _ hh h => h.of_heap hh) ownKnob_none started (by kernel_rfl) Tryd.func6
    (ChangeSpec.witness_shaped (enc := enc) (C := Tryd.checked) (os := os) (X := fun w _ => laidMetH Tryd.prog Mx.laid2 w) false (World.doorLaid Tryd.prog 400 os) #[.int .i64 0, .int .i64 0] 8 rfl (World.shaped_of_RefB (by kernel_rfl) (by kernel_rfl)) (by kernel_rfl) (by kernel_rfl) (by kernel_rfl) (Mx.door_met os _)) ?_
  intro W base args ds gs before hval0 hW hcnd hsz0 hL _
  have hval : ∀ (j : Nat) t v, Tryd.f6.params[j]? = some t → args[j]? = some v → Value.okWide Tryd.prog W .any base t v := hval0
  have hsz : (DataW.weightsEach Tryd.prog (Tryd.f6.params.toList ++ Rows.chainSkipsSpec.plain.varTypes Tryd.prog) (ds ++ gs)).all (· ≤ reachBytes) = true := hsz0
  have hW' := hW
  obtain ⟨p, q, hA0, hV, rfl, hfz, hnd⟩ := hW
  have hA : DataW.TrodAll enc Tryd.prog W 0 (fun _ => true) true Tryd.f6.params.toList args.toList ds p := hA0
  rw [Tryd.params6] at hA hval hsz
  obtain ⟨v0, vs0, d0, ds0, p0, q0, hargs, rfl, rfl, h0, r0⟩ := trodAll_cons hA
  obtain ⟨v1, vs1, d1, ds1, p1, q1, rfl, rfl, rfl, h1, r1⟩ := trodAll_cons r0
  obtain ⟨rfl, rfl, rfl⟩ := trodAll_nil r1
  obtain rfl : args = #[v0, v1] := by cases args; simp_all
  obtain ⟨rfl, rfl⟩ := trodVars_none hV
  have k0 := h0
  have lt0 : ∀ x ∈ p0, x.block < W.heap.size := by obtain ⟨m, hm⟩ := k0; exact DataW.trod_lt m _ _ _ hm
  obtain ⟨a0, rfl, hd0, hp0, w0⟩ := open_int Tryd.underlying3 (hval 0 3 v0 rfl rfl) h0
  have k1 := h1
  have lt1 : ∀ x ∈ p1, x.block < W.heap.size := by obtain ⟨m, hm⟩ := k1; exact DataW.trod_lt m _ _ _ hm
  obtain ⟨a1, rfl, hd1, hp1, w1⟩ := open_int Tryd.underlying3 (hval 1 3 v1 rfl rfl) h1
  clear hA0 hval0 hsz0
  refine (chainSkips_walk a0 a1 W w0 w1 (Mx.of_laid hL)).mono fun e W' ⟨he, bel⟩ => ?_
  subst he
  exact ⟨_, rfl, _, _, _, [], _, [], hW', trodAll_mk1 (shut_bool Tryd.underlying4 _), (trodAll_cons_mk (Below.trod laidOut_true (by kernel_rfl) (of_decide_eq_true (by kernel_rfl)) k0 bel lt0) (trodAll_cons_mk (Below.trod laidOut_true (by kernel_rfl) (of_decide_eq_true (by kernel_rfl)) k1 bel lt1) trodAll_mk0)), rfl, bel.frame _, fun h => by cases h⟩

theorem chainSkips_holds : Rows.ChainSkipsSaid :=
  OpenClaim.holds_of_wide 6 Tryd.f6 rfl rfl rfl rfl rfl rfl rfl ⟨rfl, rfl, rfl, rfl, rfl⟩ rfl rfl rfl rfl rfl (by kernel_rfl) Tryd.func6 (by kernel_rfl)
    (of_decide_eq_true (by kernel_rfl)) (by unfold Func.isWrapper; rw [if_neg (of_decide_eq_false (by kernel_rfl))]; exact ⟨rfl, rfl⟩)
    (fun os started H enc _ => chainSkips_lifted os started H enc)

theorem chainSkips_card : Rows.ChainSkipsCardSaid :=
  Claim7.holds_tied_plain_at .later [] [.data, .data] true (true, "fe3a3c82db502ec98a5674e3a663425c087db2b55f1007a894bd4e8753e70f41") false
    chainSkips_holds (fun _ h => by cases h) (by kernel_rfl) (fun _ h => by cases h) chainSkips_row_tie rfl ⟨rfl, rfl⟩ (by kernel_rfl) rfl
    (fun f fn hf hfn => by
      obtain rfl : f = 6 := Option.some.inj ((show Tryd.prog.funcNamed "tusk/tusklaw17.ChainSkips" = some 6 by kernel_rfl).symm.trans hf) |>.symm
      obtain rfl : fn = Tryd.f6 := (Option.some.inj (Tryd.func6.symm.trans hfn)).symm
      exact ⟨by kernel_rfl, fun j t ht => by
        rw [Tryd.params6] at ht
        have hall : ∀ t ∈ (#[3, 3] : Array TypeId).toList, Tryd.prog.wantsStandIn t = false := by
          show ∀ t ∈ ([3, 3] : List TypeId), Tryd.prog.wantsStandIn t = false
          refine List.forall_mem_cons.2 ⟨by kernel_rfl, ?_⟩
          refine List.forall_mem_cons.2 ⟨by kernel_rfl, ?_⟩
          exact fun _ h => by cases h
        exact hall t (Array.mem_toList_iff.2 (Array.mem_of_getElem? ht))⟩)
    (by kernel_rfl)
end Go.Proofs.YthhildeocedpiaaDoor
