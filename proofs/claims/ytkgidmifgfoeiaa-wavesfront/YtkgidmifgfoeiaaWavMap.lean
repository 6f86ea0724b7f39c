/- The map of keys' turns, and what (waves.turns).first and .put do. -/
import Derived.Test.YtkgidmifgfoeiaaWavTurn
import Derived.Test.YtkgidmifgfoeiaaAccClash
namespace Go.Proofs.Ytkgidmifgfoeiaa
open Go Go.RowKit
set_option linter.unusedVariables false

def turnV (p : Nat × Nat) : Value := .agg #[.int .i64 (p.1 : Int), .int .i64 (p.2 : Int)]

theorem zeroTurn (w : World) : (zeroValue 54).run Try.prog w = .ok (.agg #[.int .i64 0, .int .i64 0]) w := by rfl

/-- Block b is a map of turns: what it tells of each key. -/
def TurnAt (w : World) (b : Nat) (g : ByteArray → Nat × Nat) (N : Nat) : Prop :=
  ∃ f n, SMap w b f n ∧ n ≤ N ∧ ∀ k, (f k).getD (turnV (0, 0)) = turnV (g k)

theorem TurnAt.lt {w : World} {b : Nat} {g : ByteArray → Nat × Nat} {N : Nat} (h : TurnAt w b g N) : b < w.heap.size := by
  obtain ⟨f, n, h1, _⟩ := h
  exact h1.lt

theorem TurnAt.kept {S : Nat → Prop} {w w' : World} {b : Nat} {g : ByteArray → Nat × Nat} {N : Nat} (h : TurnAt w b g N) (hk : Kept S w w') (hn : ¬ S b) : TurnAt w' b g N := by
  obtain ⟨f, n, h1, h2⟩ := h
  exact ⟨f, n, h1.kept hk hn, h2⟩

theorem TurnAt.below {w w' : World} {b : Nat} {g : ByteArray → Nat × Nat} {N : Nat} (h : TurnAt w b g N) (hb : Below w.heap.size w w') : TurnAt w' b g N := by
  obtain ⟨f, n, h1, h2⟩ := h
  exact ⟨f, n, h1.below hb, h2⟩

theorem TurnAt.congr {w : World} {b : Nat} {g g' : ByteArray → Nat × Nat} {N : Nat} (h : TurnAt w b g N) (e : ∀ k, g' k = g k) : TurnAt w b g' N := by
  have : g' = g := funext e
  rw [this]
  exact h

theorem TurnAt.mono {w : World} {b : Nat} {g : ByteArray → Nat × Nat} {N M : Nat} (h : TurnAt w b g N) (e : N ≤ M) : TurnAt w b g M := by
  obtain ⟨f, n, h1, h2, h3⟩ := h
  exact ⟨f, n, h1, Nat.le_trans h2 e, h3⟩

theorem TurnAt.new (w : World) : TurnAt (w.alloc (.map #[] 0)) w.heap.size (turnF []) 0 :=
  ⟨_, 0, SMap.new w, Nat.le_refl _, fun k => rfl⟩

theorem TurnAt.put {w' : World} {b : Nat} {g g' : ByteArray → Nat × Nat} {N : Nat} {f : ByteArray → Option Value} {n : Nat} {y : ByteArray} {p : Nat × Nat} (h2 : n ≤ N) (h3 : ∀ k, (f k).getD (turnV (0, 0)) = turnV (g k))
    (hM : SMap w' b (putF f y (turnV p)) (putN f y n)) (e : ∀ k, g' k = if k = y then p else g k) : TurnAt w' b g' (N + 1) := by
  refine ⟨_, _, hM, Nat.le_trans (putN_le f y n) (by omega), fun k => ?_⟩
  rw [e k]
  unfold putF
  by_cases hk : k = y
  · rw [if_pos hk, if_pos hk]; rfl
  · rw [if_neg hk, if_neg hk]; exact h3 k

theorem maxV (m p : Nat) : Value.int .i64 (if m < p then (p : Int) else (m : Int)) = Value.int .i64 ((max m p : Nat) : Int) := by
  split <;> congr 1 <;> omega

set_option maxRecDepth 100000 in
set_option maxHeartbeats 1000000 in
theorem first_any (x : TxA) (w : World) (hA : TxA.At w x) (b : Nat) (g : ByteArray → Nat × Nat) (N : Nat) (hT : TurnAt w b g N) (lr : x.rs.length ≤ 1000000) (lw : x.ws.length ≤ 1000000) :
    Calls Try.prog 18 #[.map (some b), x.v] w fun e w' => e = .returned (.int .i64 (firstN g x.rw : Nat)) ∧ Below w.heap.size w w' := by
  have hX := Arr.new w 38 x.c
  have hB := belowNew w (.cells x.c.toArray 38)
  have hfin : Hid (firstN g x.rw = foldM (fun k => (g k).2) x.ws (foldM (fun k => (g k).1) x.rs 0)) := rfl
  obtain ⟨hrd, hwr, hnr, hnw, hzr, hzw⟩ := hA
  generalize hres : firstN g x.rw = res at *
  clear hres
  obtain ⟨kind, frm, dst, amt, non, key, val, rs, ws, ra, rc, wa, wc⟩ := x
  replace lr : rs.length ≤ 1000000 := lr
  replace lw : ws.length ≤ 1000000 := lw
  replace hrd : RowAt textK w ra rs := hrd
  replace hwr : RowAt textK w wa ws := hwr
  replace hzr : ∀ s ∈ rs, s.size ≤ maxLen := hzr
  replace hzw : ∀ s ∈ ws, s.size ≤ maxLen := hzw
  replace hfin : Hid (res = foldM (fun k => (g k).2) ws (foldM (fun k => (g k).1) rs 0)) := hfin
  have k7 := hX.cell (i := 7) rfl
  have k8 := hX.cell (i := 8) rfl
  clear hX hnr hnw
  unfold TxA.v
  go_enter Try.func18, Try.ntmps18
  go_wp2_with fail
  go_loopw [13, 5] (fun v13 v5 wr => ∃ i m : Nat, i ≤ rs.length ∧ v13 = .int .i64 (i : Int) ∧ v5 = .int .i64 (m : Int) ∧ Hid (m = foldM (fun k => (g k).1) (rs.take i) 0) ∧ wr.cell? ⟨w.heap.size, 8, none⟩ = some (.slice wa ws.length wc) ∧ w.heap.size < wr.heap.size ∧ Below w.heap.size w wr) (fun v _ _ => rs.length - (intOf v).toNat)
  case atStart => exact ⟨0, 0, Nat.zero_le _, rfl, rfl, rfl, k8, by rw [alloc_size]; omega, hB⟩
  case round =>
    obtain ⟨i, m, hi, rfl, rfl, hm, hk8, hlt, hb⟩ := hrel
    clear hB k7 k8
    by_cases hil : i < rs.length
    · have g1 : (i : Int) < (rs.length : Int) := by omega
      obtain ⟨y, hy⟩ : ∃ p, rs[i]? = some p := ⟨_, List.getElem?_eq_getElem hil⟩
      obtain ⟨b2, off, rfl, hbl, hcell⟩ := (hrd.below hb).txt hy
      have hid := hzr y (List.mem_of_getElem? hy)
      obtain ⟨f, n, hS, hn, hg⟩ := hT.below hb
      have hgy : (f y).getD (.agg #[.int .i64 0, .int .i64 0]) = .agg #[.int .i64 ((g y).1 : Int), .int .i64 ((g y).2 : Int)] := hg y
      have hnx : Hid (max m (g y).1 = foldM (fun k => (g k).1) (rs.take (i + 1)) 0) := by
        unfold Hid; rw [foldM_step hy, ← hm.out]
      generalize (g y).1 = p1 at *
      generalize (g y).2 = p2 at *
      clear hm
      go_wp2_with (at_lookup; refine smap_look (by rfl) _ _ 41 rfl 54 Try.underlying41 _ (zeroTurn _) b _ _ rfl hS y hid rfl ?_; rw [hgy])
      rename_i K hK
      refine hK _ _ ?_
      clear hK
      go_wp2
      go_roundw
      case rel => exact ⟨i + 1, max m p1, by omega, by go_num, maxV _ _, hnx, hk8, hlt, hb⟩
      case measure => simp [intOf]; omega
    · have g1 : ¬ (i : Int) < (rs.length : Int) := by omega
      have hir : i = rs.length := by omega
      have hm1 : Hid (m = foldM (fun k => (g k).1) rs 0) := by
        have := hm.out
        rw [hir, List.take_length] at this
        exact this
      clear hir hm hil hi hrd
      go_wp2_with fail
      go_loopw [27, 5] (fun v27 v5 wr => ∃ i n : Nat, i ≤ ws.length ∧ v27 = .int .i64 (i : Int) ∧ v5 = .int .i64 (n : Int) ∧ Hid (n = foldM (fun k => (g k).2) (ws.take i) m) ∧ Below w.heap.size w wr) (fun v _ _ => ws.length - (intOf v).toNat)
      case atStart => exact ⟨0, m, Nat.zero_le _, rfl, rfl, rfl, hb⟩
      case round =>
        obtain ⟨i, n, hi, rfl, rfl, hn, hb⟩ := hrel
        by_cases hil : i < ws.length
        · have g1 : (i : Int) < (ws.length : Int) := by omega
          obtain ⟨y, hy⟩ : ∃ p, ws[i]? = some p := ⟨_, List.getElem?_eq_getElem hil⟩
          obtain ⟨b2, off, rfl, hbl, hcell⟩ := (hwr.below hb).txt hy
          have hid := hzw y (List.mem_of_getElem? hy)
          obtain ⟨f, n2, hS, hn2, hg⟩ := hT.below hb
          have hgy : (f y).getD (.agg #[.int .i64 0, .int .i64 0]) = .agg #[.int .i64 ((g y).1 : Int), .int .i64 ((g y).2 : Int)] := hg y
          have hnx : Hid (max n (g y).2 = foldM (fun k => (g k).2) (ws.take (i + 1)) m) := by
            unfold Hid; rw [foldM_step hy, ← hn.out]
          generalize (g y).1 = p1 at *
          generalize (g y).2 = p2 at *
          clear hn
          go_wp2_with (at_lookup; refine smap_look (by rfl) _ _ 41 rfl 54 Try.underlying41 _ (zeroTurn _) b _ _ rfl hS y hid rfl ?_; rw [hgy])
          rename_i K hK
          refine hK _ _ ?_
          clear hK
          go_wp2
          go_roundw
          case rel => exact ⟨i + 1, max n p2, by omega, by go_num, maxV _ _, hnx, hb⟩
          case measure => simp [intOf]; omega
        · have g1 : ¬ (i : Int) < (ws.length : Int) := by omega
          have hir : i = ws.length := by omega
          have hr : n = res := by
            have := hn.out
            rw [hir, List.take_length, hm1.out] at this
            rw [this, hfin.out]
          clear hir hn hil hi hfin
          subst hr
          go_wp2
          go_ret
          exact ⟨rfl, hb⟩

theorem turnMax (a m v : Nat) : Value.agg #[.int .i64 (a : Int), .int .i64 (if (m : Int) < (v : Int) + 1 then (v : Int) + 1 else (m : Int))] = turnV (a, max m (v + 1)) := by
  have e : (if (m : Int) < (v : Int) + 1 then (v : Int) + 1 else (m : Int)) = ((max m (v + 1) : Nat) : Int) := by split <;> omega
  rw [e]
  rfl

set_option maxRecDepth 100000 in
set_option maxHeartbeats 1000000 in
theorem put_any (x : TxA) (w : World) (hA : TxA.At w x) (hfo : ∀ b, txA.foot x b → b < w.heap.size) (b : Nat) (hxb : ¬ txA.foot x b) (g : ByteArray → Nat × Nat) (N : Nat) (hT : TurnAt w b g N) (hN : N ≤ 1000000000) (v : Nat) (hv : v ≤ 1000000) (lr : x.rs.length ≤ 1000000) (lw : x.ws.length ≤ 1000000) :
    Calls Try.prog 19 #[.map (some b), x.v, .int .i64 (v : Int)] w fun e w' => e = .returned (.tuple #[]) ∧ TurnAt w' b (putG g x.rw v) (N + x.rs.length + x.ws.length) ∧ Kept (fun k => k = b) w w' := by
  have hX := Arr.new w 38 x.c
  have hB := belowNew w (.cells x.c.toArray 38)
  have hfr : ∀ b2, rowFoot textK x.ra x.rs b2 → b2 ≠ b := fun b2 h e => hxb (Or.inl (e ▸ h))
  have hfw : ∀ b2, rowFoot textK x.wa x.ws b2 → b2 ≠ b := fun b2 h e => hxb (Or.inr (e ▸ h))
  have hbw := hT.lt
  have hG : Hid (∀ w', TurnAt w' b (putW (putR g x.rs (v + 1)) x.ws (v + 1)) (N + x.rs.length + x.ws.length) → TurnAt w' b (putG g x.rw v) (N + x.rs.length + x.ws.length)) := fun w' h => h
  have hT1 := hT.below hB
  have hK1 : Kept (fun k => k = b) w _ := Kept.of_below hB
  have hbx : b ≠ w.heap.size := by omega
  obtain ⟨hrd, hwr, hnr, hnw, hzr, hzw⟩ := hA
  generalize hGG : putG g x.rw v = GG at *
  clear hGG
  obtain ⟨kind, frm, dst, amt, non, key, val, rs, ws, ra, rc, wa, wc⟩ := x
  replace lr : rs.length ≤ 1000000 := lr
  replace lw : ws.length ≤ 1000000 := lw
  replace hrd : RowAt textK w ra rs := hrd
  replace hwr : RowAt textK w wa ws := hwr
  replace hzr : ∀ s ∈ rs, s.size ≤ maxLen := hzr
  replace hzw : ∀ s ∈ ws, s.size ≤ maxLen := hzw
  replace hfr : ∀ b2, rowFoot textK ra rs b2 → b2 ≠ b := hfr
  replace hfw : ∀ b2, rowFoot textK wa ws b2 → b2 ≠ b := hfw
  replace hG : Hid (∀ w', TurnAt w' b (putW (putR g rs (v + 1)) ws (v + 1)) (N + rs.length + ws.length) → TurnAt w' b GG (N + rs.length + ws.length)) := hG
  have k7 := hX.cell (i := 7) rfl
  have k8 := hX.cell (i := 8) rfl
  have hsz : w.heap.size < (w.alloc (.cells #[.int .i64 kind, .string frm, .string dst, .int .u64 amt, .int .u64 non, .string key, .string val, .slice ra rs.length rc, .slice wa ws.length wc] 38)).heap.size := by rw [alloc_size]; omega
  clear hX hnr hnw hT hfo hxb hB
  unfold TxA.v
  go_enter Try.func19, Try.ntmps19
  go_wp2_with fail
  go_loopw [17] (fun v17 wr => ∃ i : Nat, i ≤ rs.length ∧ v17 = .int .i64 (i : Int) ∧ TurnAt wr b (putR g (rs.take i) (v + 1)) (N + i) ∧ wr.cell? ⟨w.heap.size, 8, none⟩ = some (.slice wa ws.length wc) ∧ w.heap.size < wr.heap.size ∧ Kept (fun k => k = b) w wr) (fun v _ => rs.length - (intOf v).toNat)
  case atStart => exact ⟨0, Nat.zero_le _, rfl, hT1.congr (fun k => rfl), k8, hsz, hK1⟩
  case round =>
    obtain ⟨i, hi, rfl, hm, hk8, hlt, hk⟩ := hrel
    clear hT1 hK1 k7 k8 hsz
    by_cases hil : i < rs.length
    · have g1 : (i : Int) < (rs.length : Int) := by omega
      obtain ⟨y, hy⟩ : ∃ p, rs[i]? = some p := ⟨_, List.getElem?_eq_getElem hil⟩
      obtain ⟨b2, off, rfl, hbl, hcell⟩ := (hrd.kept hk hfr).txt hy
      have hid := hzr y (List.mem_of_getElem? hy)
      obtain ⟨f, n, hS, hn, hg⟩ := hm
      have hgy : (f y).getD (.agg #[.int .i64 0, .int .i64 0]) = .agg #[.int .i64 ((putR g (rs.take i) (v + 1) y).1 : Int), .int .i64 ((putR g (rs.take i) (v + 1) y).2 : Int)] := hg y
      have hnx : Hid (∀ k, putR g (rs.take (i + 1)) (v + 1) k = if k = y then ((putR g (rs.take i) (v + 1) y).1, max (putR g (rs.take i) (v + 1) y).2 (v + 1)) else putR g (rs.take i) (v + 1) k) := putR_next hy
      have hmx : n < maxLen := by unfold maxLen; omega
      generalize hp1 : (putR g (rs.take i) (v + 1) y).1 = p1 at *
      generalize hp2 : (putR g (rs.take i) (v + 1) y).2 = p2 at *
      clear hp1 hp2
      have hnb := belowNew wr (.cells #[.int .i64 (p1 : Int), .int .i64 (p2 : Int)] 54)
      have hS1 := hS.below hnb
      have hk2 : Kept (fun k => k = b) w (wr.alloc (.cells #[.int .i64 (p1 : Int), .int .i64 (p2 : Int)] 54)) := hk.trans (Kept.of_below hnb)
      have hk82 : (wr.alloc (.cells #[.int .i64 (p1 : Int), .int .i64 (p2 : Int)] 54)).cell? ⟨w.heap.size, 8, none⟩ = some (.slice wa ws.length wc) := by rw [cell_same (hnb.block _ hlt)]; exact hk8
      have hlt2 : w.heap.size < (wr.alloc (.cells #[.int .i64 (p1 : Int), .int .i64 (p2 : Int)] 54)).heap.size := Nat.lt_of_lt_of_le hlt hnb.size
      go_wp2_with (first
        | (at_lookup; refine smap_look (by rfl) _ _ 41 rfl 54 Try.underlying41 _ (zeroTurn _) b _ _ rfl hS y hid rfl ?_; rw [hgy])
        | (at_mapUpdate; refine smap_put rfl _ _ _ 41 rfl 54 Try.underlying41 b _ _ rfl hS1 hmx y hid rfl _ rfl ?_; intro w5 hM5 hk5))
      have hM6 : SMap w5 b (putF f y (turnV (p1, max p2 (v + 1)))) (putN f y n) := by
        rw [← turnMax]
        exact hM5
      have hT6 : TurnAt w5 b (putR g (rs.take (i + 1)) (v + 1)) (N + i + 1) := TurnAt.put hn hg hM6 hnx.out
      have h8 := (hk5.cell (p := ⟨w.heap.size, 8, none⟩) hlt2 (fun e => hbx (by have e' : w.heap.size = b := e; omega))).trans hk82
      clear hM5 hM6 hnx
      go_roundw
      case rel => exact ⟨i + 1, by omega, by go_num, hT6, h8, Nat.lt_of_lt_of_le hlt2 hk5.size, hk2.trans hk5⟩
      case measure => simp [intOf]; omega
    · have g1 : ¬ (i : Int) < (rs.length : Int) := by omega
      have hir : i = rs.length := by omega
      rw [hir, List.take_length] at hm
      clear hir hil hi hrd
      have hm1 : Hid _ := hm
      clear hm
      go_wp2_with fail
      go_loopw [37] (fun v37 wr => ∃ i : Nat, i ≤ ws.length ∧ v37 = .int .i64 (i : Int) ∧ TurnAt wr b (putW (putR g rs (v + 1)) (ws.take i) (v + 1)) (N + rs.length + i) ∧ Kept (fun k => k = b) w wr) (fun v _ => ws.length - (intOf v).toNat)
      case atStart => exact ⟨0, Nat.zero_le _, rfl, TurnAt.congr hm1.out (fun k => rfl), hk⟩
      case round =>
        obtain ⟨i, hi, rfl, hm, hk⟩ := hrel
        clear hm1
        by_cases hil : i < ws.length
        · have g1 : (i : Int) < (ws.length : Int) := by omega
          obtain ⟨y, hy⟩ : ∃ p, ws[i]? = some p := ⟨_, List.getElem?_eq_getElem hil⟩
          obtain ⟨b2, off, rfl, hbl, hcell⟩ := (hwr.kept hk hfw).txt hy
          have hid := hzw y (List.mem_of_getElem? hy)
          obtain ⟨f, n, hS, hn, hg⟩ := hm
          have hnx : Hid (∀ k, putW (putR g rs (v + 1)) (ws.take (i + 1)) (v + 1) k = if k = y then (v + 1, v + 1) else putW (putR g rs (v + 1)) (ws.take i) (v + 1) k) := putW_next hy
          have hmx : n < maxLen := by unfold maxLen; omega
          go_wp2_with (at_mapUpdate; refine smap_put rfl _ _ _ 41 rfl 54 Try.underlying41 b _ _ rfl hS hmx y hid rfl _ rfl ?_; intro w5 hM5 hk5)
          have hM6 : SMap w5 b (putF f y (turnV (v + 1, v + 1))) (putN f y n) := hM5
          have hT6 : TurnAt w5 b (putW (putR g rs (v + 1)) (ws.take (i + 1)) (v + 1)) (N + rs.length + i + 1) := TurnAt.put hn hg hM6 hnx.out
          clear hM5 hM6 hnx
          go_roundw
          case rel => exact ⟨i + 1, by omega, by go_num, hT6, hk.trans hk5⟩
          case measure => simp [intOf]; omega
        · have g1 : ¬ (i : Int) < (ws.length : Int) := by omega
          have hir : i = ws.length := by omega
          rw [hir, List.take_length] at hm
          have hfin := hG.out _ hm
          clear hir hm hil hi hG
          go_wp2
          go_end0
          exact ⟨rfl, hfin, hk⟩
end Go.Proofs.Ytkgidmifgfoeiaa
