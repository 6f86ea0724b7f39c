/- What (*access.search).inWay does. -/
import Derived.Test.YthegadhkhbokkaaAccWaySt
import Derived.Test.YthegadhkhbokkaaSortInt
namespace Go.Proofs.Ythegadhkhbokkaa
open Go Go.RowKit
set_option linter.unusedVariables false

def GotWay (W : World) (B sb rb wb fg n : Nat) (SR SW : Nat → Prop) (N : Nat) (lr lw : ByteArray → List Nat) (i : Nat) (m : List Nat) (e : Ending) (w : World) : Prop :=
  ∃ ao cap fd, e = .returned (.slice ao m.length cap) ∧ KQ natK 3 w W.heap.size (.slice ao m.length cap) m ∧ Srch w B sb rb wb fg n SR SW N lr lw fd ∧ (∃ acc, Fnd fd i n acc) ∧ Kept (fun k => k = fg) W w

set_option maxRecDepth 100000 in
set_option maxHeartbeats 4000000 in
theorem way_any (l : List RwD) (B sb rb wb fg : Nat) (SR SW : Nat → Prop) (N : Nat) (fd : List Nat) (i : Nat) (x : TxA) (w : World)
    (hS : Srch w B sb rb wb fg l.length SR SW N (fun k => memL l RwD.rs k l.length) (fun k => memL l RwD.ws k l.length) fd) (hF : Fnd fd i l.length []) (hl : l.length ≤ 1000) (hx : l[i]? = some x.rw)
    (hA : TxA.At w x) (hxr : x.rs.length ≤ 1000) (hxw : x.ws.length ≤ 1000) (hfo : ∀ b, txA.foot x b → b < B) :
    Calls Try.prog 18 #[.pointer (some ⟨sb, 0, none⟩), .int .i64 (i : Int), x.v] w fun e w' => GotWay w B sb rb wb fg l.length SR SW N (fun k => memL l RwD.rs k l.length) (fun k => memL l RwD.ws k l.length) i (wayL l i l.length) e w' := by
  have hil : i < l.length := (List.getElem?_eq_some_iff.1 hx).1
  obtain ⟨i0, hi0, hz0, hs0, hb0⟩ := intZeroA
  have hbn := belowNew w (.cells x.c.toArray 26)
  have hX := Arr.new w 26 x.c
  have hrd := hA.rd.below hbn
  have hwr := hA.wr.below hbn
  have hzr := hA.zr
  have hzw := hA.zw
  have hall : Hid (∀ acc : List Nat, acc.Nodup → (∀ k, k ∈ acc ↔ i < k ∧ ((∃ key ∈ x.ws, k ∈ memL l RwD.rs key l.length ∨ k ∈ memL l RwD.ws key l.length) ∨ ∃ key ∈ x.rs, k ∈ memL l RwD.ws key l.length)) → acc.Perm (wayL l i l.length)) := fun acc h1 h2 => way_all hx h1 h2
  have hfr : Hid (∀ b, rowFoot textK x.ra x.rs b → b < B) := fun b hb => hfo b (Or.inl hb)
  have hfw : Hid (∀ b, rowFoot textK x.wa x.ws b → b < B) := fun b hb => hfo b (Or.inr hb)
  have hS1 := hS.below hbn
  have hK1 : Kept (fun k => k = fg) w (w.alloc (.cells x.c.toArray 26)) := Kept.of_below hbn
  obtain ⟨w1, hw1⟩ : ∃ q, w.alloc (.cells x.c.toArray 26) = q := ⟨_, rfl⟩
  rw [hw1] at hX hrd hwr hS1 hK1
  have hsB := hS.sge
  have hfB := hS.fge
  have hxlt := hX.lt
  clear hA hx hfo hbn
  obtain ⟨kind, frm, dst, amt, non, key, val, rs, ws, ra, rc, wa, wc⟩ := x
  replace hw1 : w.alloc (.cells #[.int .i64 kind, .string frm, .string dst, .int .u64 amt, .int .u64 non, .string key, .string val, .slice ra rs.length rc, .slice wa ws.length wc] 26) = w1 := hw1
  replace hX : Arr w1 w.heap.size 26 [.int .i64 kind, .string frm, .string dst, .int .u64 amt, .int .u64 non, .string key, .string val, .slice ra rs.length rc, .slice wa ws.length wc] := hX
  replace hrd : RowAt textK w1 ra rs := hrd
  replace hwr : RowAt textK w1 wa ws := hwr
  replace hzr : ∀ s ∈ rs, s.size ≤ maxLen := hzr
  replace hzw : ∀ s ∈ ws, s.size ≤ maxLen := hzw
  replace hxr : rs.length ≤ 1000 := hxr
  replace hxw : ws.length ≤ 1000 := hxw
  replace hall : Hid (∀ acc : List Nat, acc.Nodup → (∀ k, k ∈ acc ↔ i < k ∧ ((∃ key ∈ ws, k ∈ memL l RwD.rs key l.length ∨ k ∈ memL l RwD.ws key l.length) ∨ ∃ key ∈ rs, k ∈ memL l RwD.ws key l.length)) → acc.Perm (wayL l i l.length)) := hall
  replace hfr : Hid (∀ b, rowFoot textK ra rs b → b < B) := hfr
  replace hfw : Hid (∀ b, rowFoot textK wa ws b → b < B) := hfw
  have x7 := hX.cell (i := 7) rfl
  have x8 := hX.cell (i := 8) rfl
  have hW0 : WSt w1 w1 B sb rb wb fg l.length SR SW N (fun k => memL l RwD.rs k l.length) (fun k => memL l RwD.ws k l.length) i (.slice none 0 0) [] fd := ⟨KQ.empty _ _ _ _, hS1, hF, List.nodup_nil, (fun k h => absurd h List.not_mem_nil), Kept.refl _ _⟩
  unfold TxA.v
  go_enter Try.func18, Try.ntmps18
  go_wp2_with fail
  go_loopw [7, 15] (fun v7 v15 wr => ∃ (j : Nat) (ao : Option Addr) (cap : Nat) (acc fd : List Nat), j ≤ ws.length ∧ v7 = .slice ao acc.length cap ∧ v15 = .int .i64 (j : Int) ∧ WSt w1 wr B sb rb wb fg l.length SR SW N (fun k => memL l RwD.rs k l.length) (fun k => memL l RwD.ws k l.length) i (.slice ao acc.length cap) acc fd ∧ Hid (∀ k, k ∈ acc ↔ i < k ∧ ∃ key ∈ ws.take j, k ∈ memL l RwD.rs key l.length ∨ k ∈ memL l RwD.ws key l.length)) (fun _ v _ => ws.length - (intOf v).toNat)
  case atStart => exact ⟨0, none, 0, [], fd, Nat.zero_le _, rfl, rfl, hW0, (fun k => by simp)⟩
  case round =>
    obtain ⟨j, ao, cap, acc, fd, hj, rfl, rfl, hW, hm⟩ := hrel
    clear hW0 hF
    by_cases hjl : j < ws.length
    · have g1 : (j : Int) < (ws.length : Int) := by omega
      obtain ⟨y, hy⟩ : ∃ p, ws[j]? = some p := ⟨_, List.getElem?_eq_getElem hjl⟩
      have hrow := hwr.keep (fun b hb => hW.k.block b (hwr.lt hb) (fun e => by have h1 := hfw.out b hb; have h2 := hwr.lt hb; have h3 : b = fg := e; omega))
      obtain ⟨b, o2, rfl, hbl, hcell⟩ := hrow.txt hy
      have hid := hzw y (List.mem_of_getElem? hy)
      clear hrow
      obtain ⟨fF1, mN1, la1, lc1, hM1, hlk01, hLr1, hLn1, hLc1, hLm1, hLf1⟩ := (hW.s.rd).look y
      have hlk1 : Hid ((fF1 y).getD (.slice none 0 0) = .slice la1 (memL l RwD.rs y l.length).length lc1) := hlk01
      clear hlk01
      have hln1 := memL_length l RwD.rs y l.length
      have hlx1 : Hid (∀ x ∈ memL l RwD.rs y l.length, x < l.length) := fun x h => (memL_mem.1 h).1
      have cB1 := behind_any B sb rb wb fg l.length SR SW N (fun k => memL l RwD.rs k l.length) (fun k => memL l RwD.ws k l.length) fd i acc (memL l RwD.rs y l.length) la1 lc1 wr hW.s hW.f hLr1 hLn1 hLc1 hLm1 (memL_rise l RwD.rs y l.length) hlx1.out hl hil (by omega) (fun b hb e => hW.s.fr (by rw [← e]; exact hLf1 b hb))
      have bx1 := hW.s.box.cell (i := 0) rfl
      have hwl1 := hW.len
      have hbz1 := hW.k.size
      obtain ⟨LL1, hLL1⟩ : ∃ z, z = memL l RwD.rs y l.length := ⟨_, rfl⟩
      rw [← hLL1] at hlk1 hLr1 cB1 hln1 hlx1 hLc1
      replace hLL1 : Hid _ := hLL1
      go_wp2_with (first
        | (at_lookup; refine smap_look (by rfl) _ _ 54 rfl 33 Try.underlying54 _ (zeroSliceA _) rb _ _ rfl hM1 y hid rfl ?_; rw [hlk1.out])
        | (go_at_call 25; refine cB1.mono ?_; rintro _ w61 ⟨fa1, fc1, fl1, fd1, rfl, hqf1, hs61, hf61, hmf1, hnd1, hk61⟩
           have hqa1 := hW.afterCall hS1 hk61
           have hrf1 := hqf1.rowOf.1
           have hbw1 : w1.heap.size ≤ w61.heap.size := Nat.le_trans hbz1 hk61.size
           have hfl1 : fl1.length ≤ l.length := nodup_len hnd1 (fun k h => hlx1.out k ((hmf1 k).1 h).1)
           have m11 : (acc).length + fl1.length ≤ maxLen := by unfold maxLen; omega
           have m21 : ((acc).length + fl1.length) * 8 ≤ 140737488355328 := by omega
           clear cB1 hlk1 hM1)
        | (at_builtin; refine wpList_joins (K := natK) rfl _ _ 33 rfl w1.heap.size 3 i0 _ 8 Try.underlying33 hi0 hz0 hs0 hb0 rfl _ (acc) fl1 rfl hqa1 (fun _ _ h => h.elim) fa1 fc1 rfl hrf1 m11 m21 hbw1 ?_; intro ao1 cap1 w71 hq71 hk71 hf71
           obtain ⟨hW1, hm01⟩ := hW.join hS1 hs61 hf61 hmf1 hnd1 hlx1.out hk61 hq71 hk71
           have hm1 : Hid (∀ k, k ∈ acc ++ fl1 ↔ k ∈ acc ∨ (k ∈ memL l RwD.rs y l.length ∧ i < k)) := by rw [← hLL1.out]; exact hm01
           clear hm01 hs61 hf61 hmf1 hnd1 hk61 hq71 hk71 hf71 hqf1 hrf1 hqa1 hLf1 hLr1
           rw [show (acc ++ fl1).length = acc.length + fl1.length from List.length_append] at hW1
           obtain ⟨fF2, mN2, la2, lc2, hM2, hlk02, hLr2, hLn2, hLc2, hLm2, hLf2⟩ := (hW1.s.wr).look y
           have hlk2 : Hid ((fF2 y).getD (.slice none 0 0) = .slice la2 (memL l RwD.ws y l.length).length lc2) := hlk02
           clear hlk02
           have hln2 := memL_length l RwD.ws y l.length
           have hlx2 : Hid (∀ x ∈ memL l RwD.ws y l.length, x < l.length) := fun x h => (memL_mem.1 h).1
           have cB2 := behind_any B sb rb wb fg l.length SR SW N (fun k => memL l RwD.rs k l.length) (fun k => memL l RwD.ws k l.length) fd1 i (acc ++ fl1) (memL l RwD.ws y l.length) la2 lc2 w71 hW1.s hW1.f hLr2 hLn2 hLc2 hLm2 (memL_rise l RwD.ws y l.length) hlx2.out hl hil (by omega) (fun b hb e => hW1.s.fw (by rw [← e]; exact hLf2 b hb))
           have bx2 := hW1.s.box.cell (i := 1) rfl
           have hwl2 := hW1.len
           have hbz2 := hW1.k.size
           obtain ⟨LL2, hLL2⟩ : ∃ z, z = memL l RwD.ws y l.length := ⟨_, rfl⟩
           rw [← hLL2] at hlk2 hLr2 cB2 hln2 hlx2 hLc2
           replace hLL2 : Hid _ := hLL2)
        | (at_lookup; refine smap_look (by rfl) _ _ 54 rfl 33 Try.underlying54 _ (zeroSliceA _) wb _ _ rfl hM2 y hid rfl ?_; rw [hlk2.out])
        | (go_at_call 25; refine cB2.mono ?_; rintro _ w62 ⟨fa2, fc2, fl2, fd2, rfl, hqf2, hs62, hf62, hmf2, hnd2, hk62⟩
           have hqa2 := hW1.afterCall hS1 hk62
           have hrf2 := hqf2.rowOf.1
           have hbw2 : w1.heap.size ≤ w62.heap.size := Nat.le_trans hbz2 hk62.size
           have hfl2 : fl2.length ≤ l.length := nodup_len hnd2 (fun k h => hlx2.out k ((hmf2 k).1 h).1)
           have m12 : ((acc ++ fl1)).length + fl2.length ≤ maxLen := by unfold maxLen; omega
           have m22 : (((acc ++ fl1)).length + fl2.length) * 8 ≤ 140737488355328 := by omega
           clear cB2 hlk2 hM2)
        | (at_builtin; refine wpList_joins (K := natK) rfl _ _ 33 rfl w1.heap.size 3 i0 _ 8 Try.underlying33 hi0 hz0 hs0 hb0 rfl _ ((acc ++ fl1)) fl2 rfl hqa2 (fun _ _ h => h.elim) fa2 fc2 rfl hrf2 m12 m22 hbw2 ?_; intro ao2 cap2 w72 hq72 hk72 hf72
           obtain ⟨hW2, hm02⟩ := hW1.join hS1 hs62 hf62 hmf2 hnd2 hlx2.out hk62 hq72 hk72
           have hm2 : Hid (∀ k, k ∈ (acc ++ fl1) ++ fl2 ↔ k ∈ (acc ++ fl1) ∨ (k ∈ memL l RwD.ws y l.length ∧ i < k)) := by rw [← hLL2.out]; exact hm02
           clear hm02 hs62 hf62 hmf2 hnd2 hk62 hq72 hk72 hf72 hqf2 hrf2 hqa2 hLf2 hLr2
           skip))
      have hmn : Hid (∀ k, k ∈ acc ++ fl1 ++ fl2 ↔ i < k ∧ ∃ key ∈ ws.take (j + 1), k ∈ memL l RwD.rs key l.length ∨ k ∈ memL l RwD.ws key l.length) := by
        intro k
        rw [hm2.out k, hm1.out k, hm.out k, List.take_add_one, hy]
        simp only [Option.toList_some, List.mem_append, List.mem_singleton]
        constructor
        · rintro ((⟨h1, key, h2, h3⟩ | ⟨h1, h2⟩) | ⟨h1, h2⟩)
          · exact ⟨h1, key, Or.inl h2, h3⟩
          · exact ⟨h2, y, Or.inr rfl, Or.inl h1⟩
          · exact ⟨h2, y, Or.inr rfl, Or.inr h1⟩
        · rintro ⟨h1, key, h2 | h2, h3⟩
          · exact Or.inl (Or.inl ⟨h1, key, h2, h3⟩)
          · subst h2
            rcases h3 with h3 | h3
            · exact Or.inl (Or.inr ⟨h3, h1⟩)
            · exact Or.inr ⟨h3, h1⟩
      clear hm hm1 hm2 hW hW1
      go_roundw
      case rel => exact ⟨j + 1, ao2, cap2, acc ++ fl1 ++ fl2, fd2, by omega, (by simp), by go_num, (by first | exact hW2 | (rw [List.length_append, List.length_append]; rw [List.length_append, List.length_append] at hW2; exact hW2)), hmn⟩
      case measure => simp [intOf]; omega
    · have g1 : ¬ (j : Int) < (ws.length : Int) := by omega
      have hjr : j = ws.length := by omega
      rw [hjr, List.take_length] at hm
      have x7r : wr.cell? ⟨w.heap.size, 7, none⟩ = some (.slice ra rs.length rc) := by
        rw [hW.k.cell (p := ⟨w.heap.size, 7, none⟩) hxlt (fun e => by have h3 : w.heap.size = fg := e; omega)]
        exact x7
      clear hjr hj hjl x7 x8
      go_wp2_with fail
      go_loopw [7, 45] (fun v7 v45 W2 => ∃ (j : Nat) (ao : Option Addr) (cap : Nat) (acc fd : List Nat), j ≤ rs.length ∧ v7 = .slice ao acc.length cap ∧ v45 = .int .i64 (j : Int) ∧ WSt w1 W2 B sb rb wb fg l.length SR SW N (fun k => memL l RwD.rs k l.length) (fun k => memL l RwD.ws k l.length) i (.slice ao acc.length cap) acc fd ∧ Hid (∀ k, k ∈ acc ↔ i < k ∧ ((∃ key ∈ ws, k ∈ memL l RwD.rs key l.length ∨ k ∈ memL l RwD.ws key l.length) ∨ ∃ key ∈ rs.take j, k ∈ memL l RwD.ws key l.length))) (fun _ v _ => rs.length - (intOf v).toNat)
      case atStart => exact ⟨0, ao, cap, acc, fd, Nat.zero_le _, rfl, rfl, hW, (fun k => by rw [hm.out k]; simp)⟩
      case round =>
        obtain ⟨j, ao, cap, acc, fd, hj, rfl, rfl, hW, hm⟩ := hrel
        by_cases hjl : j < rs.length
        · have g1 : (j : Int) < (rs.length : Int) := by omega
          obtain ⟨y, hy⟩ : ∃ p, rs[j]? = some p := ⟨_, List.getElem?_eq_getElem hjl⟩
          have hrow := hrd.keep (fun b hb => hW.k.block b (hrd.lt hb) (fun e => by have h1 := hfr.out b hb; have h2 := hrd.lt hb; have h3 : b = fg := e; omega))
          obtain ⟨b, o2, rfl, hbl, hcell⟩ := hrow.txt hy
          have hid := hzr y (List.mem_of_getElem? hy)
          clear hrow
          obtain ⟨fF1, mN1, la1, lc1, hM1, hlk01, hLr1, hLn1, hLc1, hLm1, hLf1⟩ := (hW.s.wr).look y
          have hlk1 : Hid ((fF1 y).getD (.slice none 0 0) = .slice la1 (memL l RwD.ws y l.length).length lc1) := hlk01
          clear hlk01
          have hln1 := memL_length l RwD.ws y l.length
          have hlx1 : Hid (∀ x ∈ memL l RwD.ws y l.length, x < l.length) := fun x h => (memL_mem.1 h).1
          have cB1 := behind_any B sb rb wb fg l.length SR SW N (fun k => memL l RwD.rs k l.length) (fun k => memL l RwD.ws k l.length) fd i acc (memL l RwD.ws y l.length) la1 lc1 wr hW.s hW.f hLr1 hLn1 hLc1 hLm1 (memL_rise l RwD.ws y l.length) hlx1.out hl hil (by omega) (fun b hb e => hW.s.fw (by rw [← e]; exact hLf1 b hb))
          have bx1 := hW.s.box.cell (i := 1) rfl
          have hwl1 := hW.len
          have hbz1 := hW.k.size
          obtain ⟨LL1, hLL1⟩ : ∃ z, z = memL l RwD.ws y l.length := ⟨_, rfl⟩
          rw [← hLL1] at hlk1 hLr1 cB1 hln1 hlx1 hLc1
          replace hLL1 : Hid _ := hLL1
          go_wp2_with (first
            | (at_lookup; refine smap_look (by rfl) _ _ 54 rfl 33 Try.underlying54 _ (zeroSliceA _) wb _ _ rfl hM1 y hid rfl ?_; rw [hlk1.out])
            | (go_at_call 25; refine cB1.mono ?_; rintro _ w61 ⟨fa1, fc1, fl1, fd1, rfl, hqf1, hs61, hf61, hmf1, hnd1, hk61⟩
               have hqa1 := hW.afterCall hS1 hk61
               have hrf1 := hqf1.rowOf.1
               have hbw1 : w1.heap.size ≤ w61.heap.size := Nat.le_trans hbz1 hk61.size
               have hfl1 : fl1.length ≤ l.length := nodup_len hnd1 (fun k h => hlx1.out k ((hmf1 k).1 h).1)
               have m11 : (acc).length + fl1.length ≤ maxLen := by unfold maxLen; omega
               have m21 : ((acc).length + fl1.length) * 8 ≤ 140737488355328 := by omega
               clear cB1 hlk1 hM1)
            | (at_builtin; refine wpList_joins (K := natK) rfl _ _ 33 rfl w1.heap.size 3 i0 _ 8 Try.underlying33 hi0 hz0 hs0 hb0 rfl _ (acc) fl1 rfl hqa1 (fun _ _ h => h.elim) fa1 fc1 rfl hrf1 m11 m21 hbw1 ?_; intro ao1 cap1 w71 hq71 hk71 hf71
               obtain ⟨hW1, hm01⟩ := hW.join hS1 hs61 hf61 hmf1 hnd1 hlx1.out hk61 hq71 hk71
               have hm1 : Hid (∀ k, k ∈ acc ++ fl1 ↔ k ∈ acc ∨ (k ∈ memL l RwD.ws y l.length ∧ i < k)) := by rw [← hLL1.out]; exact hm01
               clear hm01 hs61 hf61 hmf1 hnd1 hk61 hq71 hk71 hf71 hqf1 hrf1 hqa1 hLf1 hLr1
               skip))
          have hmn : Hid (∀ k, k ∈ acc ++ fl1 ↔ i < k ∧ ((∃ key ∈ ws, k ∈ memL l RwD.rs key l.length ∨ k ∈ memL l RwD.ws key l.length) ∨ ∃ key ∈ rs.take (j + 1), k ∈ memL l RwD.ws key l.length)) := by
            intro k
            rw [hm1.out k, hm.out k, List.take_add_one, hy]
            simp only [Option.toList_some, List.mem_append, List.mem_singleton]
            constructor
            · rintro (⟨h1, h2 | ⟨key, h2, h3⟩⟩ | ⟨h1, h2⟩)
              · exact ⟨h1, Or.inl h2⟩
              · exact ⟨h1, Or.inr ⟨key, Or.inl h2, h3⟩⟩
              · exact ⟨h2, Or.inr ⟨y, Or.inr rfl, h1⟩⟩
            · rintro ⟨h1, h2 | ⟨key, h2 | h2, h3⟩⟩
              · exact Or.inl ⟨h1, Or.inl h2⟩
              · exact Or.inl ⟨h1, Or.inr ⟨key, h2, h3⟩⟩
              · subst h2
                exact Or.inr ⟨h3, h1⟩
          clear hm hm1 hW
          go_roundw
          case rel => exact ⟨j + 1, ao1, cap1, acc ++ fl1, fd1, by omega, (by simp), by go_num, (by first | exact hW1 | (rw [List.length_append]; rw [List.length_append] at hW1; exact hW1)), hmn⟩
          case measure => simp [intOf]; omega
        · have g1 : ¬ (j : Int) < (rs.length : Int) := by omega
          have hjr : j = rs.length := by omega
          rw [hjr, List.take_length] at hm
          have hp := hall.out acc hW.nd hm.out
          have hso : sortN acc = wayL l i l.length := sortN_eq (wayL_rise l i l.length) hp
          have hln := hW.len
          have cS := sortI_any w1.heap.size (.slice ao acc.length cap) acc wr hW.q (by omega)
          rw [hso] at cS
          have hlw : Hid (acc.length = (wayL l i l.length).length) := hp.length_eq
          have hge : Hid (∀ b, (Value.slice ao acc.length cap).ownBlock = some b → w1.heap.size ≤ b) := fun b e => (hW.q.lt b e).1
          clear hjr hm hp hso hall
          go_wp2_with (go_at_call 26; refine cS.mono ?_; rintro _ w9 ⟨rfl, hq9, hk9⟩)
          have hs9 := hS1.keptNew hW.s hk9 hge.out
          have hk10 := hK1.trans (hW.k.transNew hk9 hge.out)
          have hf9 := hW.f
          rw [hlw.out] at hq9
          have hfin : GotWay w B sb rb wb fg l.length SR SW N (fun k => memL l RwD.rs k l.length) (fun k => memL l RwD.ws k l.length) i (wayL l i l.length) (.returned (.slice ao acc.length cap)) w9 := ⟨ao, cap, fd, by rw [hlw.out], hq9.rebase (by omega), hs9, ⟨acc, hf9⟩, hk10⟩
          go_ret
          exact hfin
end Go.Proofs.Ythegadhkhbokkaa
