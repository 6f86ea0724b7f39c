/- What (access.members).add does. -/
import Derived.Test.YthegadhkhbokkaaAccMem
import Derived.Test.YthegadhkhbokkaaAccGrp
namespace Go.Proofs.Ythegadhkhbokkaa
open Go Go.RowKit
set_option linter.unusedVariables false

theorem zeroSliceA (w : World) : (zeroValue 33).run Try.prog w = .ok (.slice none 0 0) w := by rfl

theorem new_nat (w : World) (x : Nat) : ∀ j u, (natK.c x)[j]? = some u → (w.alloc (.cells #[.int .i64 ((x : Nat) : Int)] 3)).cell? ((⟨w.heap.size, 0, none⟩ : Addr).add j) = some u := by
  intro j u hu
  rw [Go.WideShapes.add_plain, Nat.zero_add]
  exact (Arr.new w 3 [.int .i64 ((x : Nat) : Int)]).cell hu

def GotAdd (W : World) (B mb : Nat) (S : Nat → Prop) (N : Nat) (ls : ByteArray → List Nat) (e : Ending) (w : World) : Prop :=
  e = .returned (.tuple #[]) ∧ ∃ S', Mem w B mb S' N ls ∧ FreshS W S S' ∧ Kept S W w

theorem FreshS.trans {w w' : World} {S S' S'' : Nat → Prop} (h : FreshS w S S') (k : FreshS w' S' S'') (hs : w.heap.size ≤ w'.heap.size) : FreshS w S S'' := fun b hb => by
  rcases k b hb with h1 | h1
  · exact h b h1
  · exact Or.inr (by omega)

theorem Kept.transS {S S' : Nat → Prop} {w w1 w2 : World} (h : Kept S w w1) (k : Kept S' w1 w2) (hf : FreshS w S S') : Kept S w w2 :=
  ⟨k.os.trans h.os, k.tape.trans h.tape, k.output.trans h.output, Nat.le_trans h.size k.size, fun b hb hn => (k.block b (Nat.lt_of_lt_of_le hb h.size) (fun e => by
    rcases hf b e with e | e
    · exact hn e
    · omega)).trans (h.block b hb hn)⟩

set_option maxRecDepth 100000 in
set_option maxHeartbeats 2000000 in
theorem add_any (l : List RwD) (pr : RwD → List ByteArray) (B mb : Nat) (S : Nat → Prop) (N i : Nat) (hi : i ≤ 1000000) (w : World) (hM : Mem w B mb S N (memP l pr i [])) (hBw : B ≤ w.heap.size)
    (ks : List ByteArray) (ka : Option Addr) (kc : Nat) (hks : RowAt textK w ka ks) (hko : ∀ b, rowFoot textK ka ks b → b < B) (hkl : ks.length ≤ 1000) (hN : N ≤ 1000000000) (hkz : ∀ s ∈ ks, s.size ≤ maxLen) :
    Calls Try.prog 24 #[.map (some mb), .int .i64 (i : Int), .slice ka ks.length kc] w fun e w' => GotAdd w B mb S (N + ks.length) (memP l pr i ks) e w' := by
  obtain ⟨i0, hi0, hz0, hs0, hb0⟩ := intZeroA
  have hM0 : Hid (∀ b, S b → B ≤ b) := hM.ge
  generalize hGOT : (fun e w' => GotAdd w B mb S (N + ks.length) (memP l pr i ks) e w') = GOT
  have hG : Hid (∀ w' S', Mem w' B mb S' (N + ks.length) (memP l pr i ks) → FreshS w S S' → Kept S w w' → GOT (.returned (.tuple #[])) w') := by
    intro w' S' h1 h2 h3
    rw [← hGOT]
    exact ⟨rfl, S', h1, h2, h3⟩
  clear hGOT
  go_enter Try.func24, Try.ntmps24
  go_wp2_with fail
  go_loopw [11] (fun v11 wr => ∃ (j : Nat) (S' : Nat → Prop), j ≤ ks.length ∧ v11 = .int .i64 (j : Int) ∧ Mem wr B mb S' (N + j) (memP l pr i (ks.take j)) ∧ FreshS w S S' ∧ Kept S w wr) (fun v _ => ks.length - (intOf v).toNat)
  case atStart => exact ⟨0, S, Nat.zero_le _, rfl, hM, fun _ h => Or.inl h, Kept.refl _ _⟩
  case round =>
    obtain ⟨j, S', hj, rfl, hm, hfs, hk⟩ := hrel
    clear hM
    by_cases hjl : j < ks.length
    · have g1 : (j : Int) < (ks.length : Int) := by omega
      obtain ⟨y, hy⟩ : ∃ p, ks[j]? = some p := ⟨_, List.getElem?_eq_getElem hjl⟩
      have hrow := hks.keep (fun b hb => hk.block b (hks.lt hb) (fun e => by have h1 := hM0.out b e; have h2 := hko b hb; omega))
      obtain ⟨b, o2, rfl, hbl, hcell⟩ := hrow.txt hy
      have hid := hkz y (List.mem_of_getElem? hy)
      obtain ⟨f, n, h1, h2, h3, h4, h5⟩ := hm.ex
      have hBr : B ≤ wr.heap.size := Nat.le_trans hBw hk.size
      have hmx : n < maxLen := by unfold maxLen; omega
      have hlen := memP_length l pr i (ks.take j) y
      obtain ⟨L, hL⟩ : ∃ L, L = memP l pr i (ks.take j) y := ⟨_, rfl⟩
      have hend : Hid (∀ wz S2 N2, Mem wz B mb S2 N2 (memP l pr i (ks.take (j + 1))) → FreshS wr S' S2 → Kept S' wr wz → N2 ≤ N + (j + 1) → FreshS w S S2 ∧ Kept S w wz ∧ Mem wz B mb S2 (N + (j + 1)) (memP l pr i (ks.take (j + 1)))) := by
        intro wz S2 N2 q1 q2 q3 q4
        exact ⟨hfs.trans q2 hk.size, hk.transS q3 hfs, q1.mono q4⟩
      have hput : Hid (∀ (w3 w4 : World) (q : Value) (ao : Option Addr) (cap : Nat), ¬ inK (ks.take j) y = true → (q = .slice none 0 0 ∨ f y = some q) → KQ natK 3 w3 B (.slice ao (L.length + 1) cap) (L ++ [i]) → Kept (fun k => q.ownBlock = some k) wr w3 → Fresh wr q (.slice ao (L.length + 1) cap) → SMap w4 mb (putF f y (.slice ao (L.length + 1) cap)) (putN f y n) → Kept (fun k => k = mb) w3 w4 → ∃ S2, FreshS w S S2 ∧ Kept S w w4 ∧ Mem w4 B mb S2 (N + (j + 1)) (memP l pr i (ks.take (j + 1)))) := by
        intro w3 w4 q ao cap hni q0 q1 q2 q3 q4 q5
        rw [hL] at q1 q3 q4
        obtain ⟨S2, r1, r2, r3⟩ := hm.put h1 h2 h3 h4 h5 q0 q1 q2 q3 q4 q5
        exact ⟨S2, hend.out w4 S2 _ (r1.congr (fun key => memP_put hy hni key)) r2 r3 (by omega)⟩
      have hsame : Hid (inK (ks.take j) y = true → FreshS w S S' ∧ Kept S w wr ∧ Mem wr B mb S' (N + (j + 1)) (memP l pr i (ks.take (j + 1)))) := fun hin =>
        hend.out wr S' _ (hm.congr (fun key => memP_has hy hin key)) (fun _ h => Or.inl h) (Kept.refl _ _) (by omega)
      have hnw := belowNew wr (.cells #[.int .i64 ((i : Nat) : Int)] 3)
      have hNW := new_nat wr i
      have hbs : B ≤ (wr.alloc (.cells #[.int .i64 ((i : Nat) : Int)] 3)).heap.size := Nat.le_trans hBr hnw.size
      have hm1 : SMap (wr.alloc (.cells #[.int .i64 ((i : Nat) : Int)] 3)) mb f n := h1.below hnw
      have hknw : Kept (fun _ => False) wr (wr.alloc (.cells #[.int .i64 ((i : Nat) : Int)] 3)) := Kept.of_below hnw
      have hmlt : mb < wr.heap.size := h1.lt
      have hqm : Hid (∀ q g, f y = some q → q.ownBlock = some g → g ≠ mb) := fun q g hq hg => by
        obtain ⟨g2, off2, cap2, rfl, q1, q2, q3, q4⟩ := h4 y q hq
        simp only [Value.ownBlock, Option.some.injEq] at hg
        omega
      have hfr : Hid (∀ q q' : Value, Fresh (wr.alloc (.cells #[.int .i64 ((i : Nat) : Int)] 3)) q q' → Fresh wr q q') := fun q q' h g hg => by
        rcases h g hg with e | e
        · exact Or.inl e
        · rw [alloc_size] at e; exact Or.inr (by omega)
      cases hf : f y with
      | none =>
        have hLn : L = [] := by rw [hL]; exact h3 y hf
        have hni : ¬ inK (ks.take j) y = true := by
          intro h
          have : i ∈ L := by rw [hL]; unfold memP; rw [if_pos h]; simp
          rw [hLn] at this; cases this
        subst hLn
        have hf' : Hid _ := hf
        have hL' : Hid _ := hL
        have hp1 := fun w3 w4 ao cap => hput.out w3 w4 (.slice none 0 0) ao cap hni (Or.inl rfl)
        clear hf hL h2 h3 h4 h5 hsame hput hend hlen hqm
        have hp2 : Hid _ := hp1
        clear hp1
        have hQ0 := KQ.empty natK 3 (wr.alloc (.cells #[.int .i64 ((i : Nat) : Int)] 3)) B
        go_wp2_with (first
          | (at_lookup; refine smap_look (by rfl) _ _ 54 rfl 33 Try.underlying54 _ (zeroSliceA _) mb _ _ rfl h1 y hid rfl ?_; rw [hf'.out]; simp only [Option.getD_none])
          | (at_builtin; refine wpList_pushN (K := natK) rfl _ _ 33 rfl B 3 i0 _ 8 Try.underlying33 hi0 hz0 hs0 hb0 rfl _ [] rfl hQ0 i trivial (fun _ h => h.elim) ⟨wr.heap.size, 0, none⟩ 1 rfl hNW (by unfold maxLen; simp) (by simp) hbs ?_; intro ao3 cap3 w3 hQ3 hk3 hf3; have hm3 := hm1.kept hk3 (fun e => by cases e))
          | (at_mapUpdate; refine smap_put rfl _ _ _ 54 rfl 33 Try.underlying54 mb _ _ rfl hm3 hmx y hid rfl _ rfl ?_; intro w4 hM4 hk4))
        obtain ⟨S2, q1, q2, q3⟩ := hp2.out w3 w4 ao3 cap3 hQ3 ((hknw.mono (fun _ _ h => h.elim)).trans hk3) (hfr.out _ _ hf3) hM4 hk4
        go_roundw
        case rel => exact ⟨j + 1, S2, by omega, by go_num, q3, q1, q2⟩
        case measure => simp [intOf]; omega
      | some v =>
        obtain ⟨g, off, cap, rfl, hQv, hgS, hgm, hpos⟩ := h4 y v hf
        obtain ⟨n1, hn1⟩ : ∃ n1, (memP l pr i (ks.take j) y).length = n1 + 1 := ⟨(memP l pr i (ks.take j) y).length - 1, by omega⟩
        obtain ⟨z, hz⟩ : ∃ z, (memP l pr i (ks.take j) y)[n1]? = some z := ⟨_, List.getElem?_eq_getElem (by rw [hn1]; exact Nat.lt_succ_self _)⟩
        obtain ⟨hzy, hzn⟩ := memP_last hn1 hz
        have hn2 : n1 ≤ 1000000 := by omega
        have hcz := (hQv.natSet hz).1
        have hQ1 := hQv.below hnw
        have hf' : Hid _ := hf
        rw [← hL] at hn1 hQ1 hf' hz
        have g2 : ((n1 : Int) + 1 == 0) = false := by simp; omega
        by_cases hin : inK (ks.take j) y = true
        · obtain rfl := hzy hin
          obtain ⟨q1, q2, q3⟩ := hsame.out hin
          have hL' : Hid _ := hL
          clear hf hL h2 h3 h4 h5 hsame hput hend hlen hqm hzy hzn hQ1 hz
          go_wp2_with (first
            | (at_lookup; refine smap_look (by rfl) _ _ 54 rfl 33 Try.underlying54 _ (zeroSliceA _) mb _ _ rfl h1 y hid rfl ?_; rw [hf'.out]; simp only [Option.getD_some]))
          go_roundw
          case rel => exact ⟨j + 1, S', by omega, by go_num, q3, q1, q2⟩
          case measure => simp [intOf]; omega
        · have hzi := hzn hin
          have g4 : ((z : Int) == (i : Int)) = false := by simp; omega
          have hp1 := fun w3 w4 ao cap' => hput.out w3 w4 (.slice (some ⟨g, off, none⟩) L.length cap) ao cap' hin (Or.inr hf'.out)
          have hL' : Hid _ := hL
          clear hf hL h2 h3 h4 h5 hsame hput hend hlen hqm hzy hzn hz
          have hp2 : Hid _ := hp1
          have hn3 : Hid _ := hn1
          have hmg : mb ≠ g := fun e => hgm e.symm
          have m1 : L.length + 1 ≤ maxLen := by rw [hn1]; unfold maxLen; omega
          have m2 : (L.length + 1) * 8 ≤ 140737488355328 := by rw [hn1]; omega
          clear hp1
          go_wp2_with (first
            | (at_lookup; refine smap_look (by rfl) _ _ 54 rfl 33 Try.underlying54 _ (zeroSliceA _) mb _ _ rfl h1 y hid rfl ?_; rw [hf'.out]; simp only [Option.getD_some])
            | (at_builtin; refine wpList_pushN (K := natK) rfl _ _ 33 rfl B 3 i0 _ 8 Try.underlying33 hi0 hz0 hs0 hb0 rfl _ L (by rw [hn1]; rfl) hQ1 i trivial (fun _ h => h.elim) ⟨wr.heap.size, 0, none⟩ 1 rfl hNW m1 m2 hbs ?_; intro ao3 cap3 w3 hQ3 hk3 hf3; have hm3 := hm1.kept hk3 (fun e => by simp only [Value.ownBlock, Option.some.injEq] at e; omega))
            | (at_mapUpdate; refine smap_put rfl _ _ _ 54 rfl 33 Try.underlying54 mb _ _ rfl hm3 hmx y hid rfl _ rfl ?_; intro w4 hM4 hk4))
          have e1 : (L ++ [i]).length = L.length + 1 := by simp
          have hM5 : SMap w4 mb (putF f y (.slice ao3 (L ++ [i]).length cap3)) (putN f y n) := hM4
          have hQ5 : KQ natK 3 w3 B (.slice ao3 (L ++ [i]).length cap3) (L ++ [i]) := by first | exact hQ3 | (rw [e1]; exact hQ3)
          have hf5 : Fresh (wr.alloc (.cells #[.int .i64 ((i : Nat) : Int)] 3)) (.slice (some ⟨g, off, none⟩) L.length cap) (.slice ao3 (L ++ [i]).length cap3) := hf3
          rw [e1] at hM5 hQ5 hf5
          obtain ⟨S2, q1, q2, q3⟩ := hp2.out w3 w4 ao3 cap3 hQ5 ((hknw.mono (fun _ _ h => h.elim)).trans hk3) (hfr.out _ _ hf5) hM5 hk4
          clear hM4 hQ3 hf3 hM5 hQ5 hf5 e1
          go_roundw
          case rel => exact ⟨j + 1, S2, by omega, by go_num, q3, q1, q2⟩
          case measure => simp [intOf]; omega
    · have g1 : ¬ (j : Int) < (ks.length : Int) := by omega
      have hjr : j = ks.length := by omega
      have hfin := hG.out wr S' (by rw [hjr, List.take_length] at hm; exact hm) hfs hk
      clear hjr hm
      go_wp2
      go_end0
      exact hfin
end Go.Proofs.Ythegadhkhbokkaa
