/- AccessMore: what is in each other's way stays so, whatever more is declared; edges of a beginning are those of the whole. -/
import Derived.Test.YthegadhkhbokkaaAccArgs
import Derived.Test.YthegadhkhbokkaaAccFront
import Derived.Test.YthegadhkhbokkaaAccOwnB
import Derived.BigQuiet
import Derived.Deep.QuietTactic
import Derived.Deep.DeepCutAuto
namespace Go.Proofs.Ythegadhkhbokkaa
open Go Go.RowKit
set_option linter.unusedVariables false

/-- Three boxes. -/
structure Three (W w : World) (pc : Nat) (x y c : TxA) : Prop where
  two : Two20 W w W.heap.size (W.heap.size + 1) x y
  bc : Arr w pc 26 c.c
  ac : TxA.At w c

theorem Three.below {W w w' : World} {pc : Nat} {x y c : TxA} (h : Three W w pc x y c) (hb : Below w.heap.size w w') : Three W w' pc x y c :=
  ⟨h.two.below hb, h.bc.below hb h.bc.lt, h.ac.below hb⟩

set_option maxRecDepth 100000 in
set_option maxHeartbeats 8000000 in
theorem accessMore_walk (ao : Option Addr) (cp : Nat) (l : List TxA) (x y : TxA) (key : ByteArray) (W : World) (hl : RowAt txA W ao l) (hm : l.length ≤ cp) (hw : Wide l) (hx : TxA.At W x) (hxf : Fits x) (hy : TxA.At W y) (hyf : Fits y) (hks : key.size ≤ 140737488351232) :
    Calls Try.prog 6 #[.slice ao l.length cp, x.v, y.v, .string key] W fun e w' => e = .returned (.bool true) ∧ Below W.heap.size W w' := by
  have hT := Two20.new W x y hx hy
  clear hx hy
  obtain ⟨is, zs, hi0, hz0, hz1, hz2, hz3⟩ := strInfoT
  have cO1 : ∀ w, TxA.At w x → x.rs.length ≤ 1000 → x.ws.length ≤ 1000 → Calls Try.prog 14 #[x.v] w fun e w' => GotOwnB w x e w' := fun w h h1 h2 => ownB_any x w h (by omega) (by omega)
  have cO2 : ∀ w, TxA.At w y → y.rs.length ≤ 1000 → y.ws.length ≤ 1000 → Calls Try.prog 14 #[y.v] w fun e w' => GotOwnA w y e w' := fun w h h1 h2 => ownA_any y w h (by omega) (by omega)
  have cG : ∀ (w : World) (cp : Nat), Two20 W w W.heap.size (W.heap.size + 1) x y → Calls Try.prog 7 #[.slice (some ⟨w.heap.size, 0, none⟩) 2 cp] (w.alloc (.cells (x.c ++ y.c).toArray 26)) fun e w' => e = .returned (.bool (greatA [x, y])) ∧ Two20 W w' W.heap.size (W.heap.size + 1) x y := fun w cp h => great_two h hxf hyf cp
  have hks2 : key.size ≤ maxLen := by unfold maxLen; omega
  unfold TxA.v at cO1 cO2 ⊢
  go_enter Try.func6, Try.ntmps6
  go_wp2_with fail
  refine (works20_any _).mono ?_
  rintro _ w0 ⟨rfl, hb0⟩
  replace hT := hT.below hb0
  have cGl := great_any l ao cp _ (hl.below hT.bel) hw
  clear hb0
  go_wp2_with fail
  refine cGl.mono ?_
  rintro _ w1 ⟨rfl, hb1⟩
  replace hT := hT.below hb1
  clear hb1 cGl
  cases hg : greatA l with
  | true =>
    have hB := hT.bel
    go_wp2
    go_ret
    exact ⟨rfl, hB⟩
  | false =>
    have hf := few_of hg
    clear hg
    obtain ⟨x0, x1, x2, x3, x4, x5, x6, x7, x8⟩ := hT.bx.nine
    obtain ⟨y0, y1, y2, y3, y4, y5, y6, y7, y8⟩ := hT.by'.nine
    go_wp2_with fail
    refine (cG w1 2 hT).mono ?_
    rintro _ w2 ⟨rfl, hT2⟩
    clear hT cG x0 x1 x2 x3 x4 x5 x6 x7 x8 y0 y1 y2 y3 y4 y5 y6 y7 y8
    cases hg : greatA [x, y] with
    | true =>
      have hB := hT2.bel
      go_wp2
      go_ret
      exact ⟨rfl, hB⟩
    | false =>
      by_cases hk5 : 500 < key.size
      · have g5 : (500 : Int) < (key.size : Int) := by omega
        have hB := hT2.bel
        clear hg
        go_wp2
        go_ret
        exact ⟨rfl, hB⟩
      · have g5 : ¬ (500 : Int) < (key.size : Int) := by omega
        obtain ⟨⟨fx1, fx2⟩, fy1, fy2⟩ := few_two hg
        clear hg
        obtain ⟨x0, x1, x2, x3, x4, x5, x6, x7, x8⟩ := hT2.bx.nine
        have c1 := cO1 w2 hT2.ax fx1 fx2
        go_wp2_with fail
        refine c1.mono ?_
        rintro _ w3 ⟨a, rfl, a1, a2, aA, aQ, af, aP, hb3⟩
        clear c1 x0 x1 x2 x3 x4 x5 x6 x7 x8
        have hT3 := hT2.below hb3
        have hX := Arr.new w3 26 a.c
        have hnew := belowNew w3 (.cells a.c.toArray 26)
        have hT4 := hT3.below hnew
        have aA4 := aA.below hnew
        have aQ4 := aQ.below hnew
        have haq : Hid (∀ k, (Value.slice a.wa a.ws.length a.wc).ownBlock = some k → w2.heap.size ≤ k ∧ k < w3.heap.size) := fun k e => aQ.lt k e
        have hWlt : W.heap.size + 1 < w2.heap.size := hT2.by'.lt
        have hw23 : w2.heap.size ≤ w3.heap.size := hb3.size
        have hal : a.ws.length ≤ 1000 := by rw [a2]; exact fx2
        have har : a.rs.length ≤ 1000 := by rw [a1]; exact fx1
        have hpc : (w3.alloc (.cells a.c.toArray 26)).heap.size = w3.heap.size + 1 := alloc_size _ _
        obtain ⟨w4, hw4⟩ : ∃ q, w3.alloc (.cells a.c.toArray 26) = q := ⟨_, rfl⟩
        rw [hw4] at hX hT4 aA4 aQ4 hpc
        have hb24 : Below w2.heap.size w2 w4 := by rw [← hw4]; exact hb3.trans (hnew.mono hb3.size)
        have aF : Hid (∀ b, rowFoot textK a.ra a.rs b → b < w3.heap.size) := fun b hb => aA.rd.lt hb
        clear hT3 hnew hb3 aQ aA
        have k8 := hX.cell (i := 8) rfl
        have f8 := hX.frozen 8
        have hnk := belowNew w4 (.cells #[.string key] 9)
        have aQ5 := aQ4.below hnk
        have hX5 := hX.below hnk hX.lt
        have hb25 := hb24.trans (hnk.mono hb24.size)
        have aA5 := aA4.below hnk
        have hNK := new_text w4 key
        have m1 : a.ws.length + 1 ≤ maxLen := by unfold maxLen; omega
        have m2 : (a.ws.length + 1) * 16 ≤ 140737488355328 := by omega
        have hbs : w2.heap.size ≤ (w4.alloc (.cells #[.string key] 9)).heap.size := by rw [alloc_size, hpc]; omega
        have k8b := hX5.cell (i := 8) rfl
        have f8b := hX5.frozen 8
        replace hw4 : w3.alloc (.cells #[.int .i64 a.kind, .string a.frm, .string a.dst, .int .u64 a.amt, .int .u64 a.non, .string a.key, .string a.val, .slice a.ra a.rs.length a.rc, .slice a.wa a.ws.length a.wc] 26) = w4 := hw4
        have ha1 : Hid _ := a1
        have ha2 : Hid _ := a2
        clear a1 a2 hX hT4 aA4 aQ4 hb24
        replace hpc : Hid _ := hpc
        unfold TxA.v
        go_wp2_with (at_builtin; refine wpList_pushN (K := textK) rfl _ _ 24 rfl w2.heap.size 9 is _ 16 Try.underlying24 hi0 hz0 hz1 hz2 hz3 _ a.ws rfl aQ5 key trivial (fun _ h => h.elim) ⟨w4.heap.size, 0, none⟩ 1 rfl hNK m1 m2 hbs ?_; intro ao3 cap3 w6 hQ6 hk6 hf6; have hX6 := hX5.kept hk6 (fun e => by have := (haq.out _ e).2; omega); have f86 := hX6.frozen 8; have k86 := hX6.cell (i := 8) rfl)
        obtain ⟨c, hc⟩ : ∃ c : TxA, c = ⟨a.kind, a.frm, a.dst, a.amt, a.non, a.key, a.val, a.rs, a.ws ++ [key], a.ra, a.rc, ao3, cap3⟩ := ⟨_, rfl⟩
        have hle : (a.ws ++ [key]).length = a.ws.length + 1 := by simp
        have hQ6' : KQ textK 9 w6 w2.heap.size (.slice ao3 (a.ws ++ [key]).length cap3) (a.ws ++ [key]) := by first | exact hQ6 | (rw [hle]; exact hQ6)
        have hf6' : Fresh (w4.alloc (.cells #[.string key] 9)) (.slice a.wa a.ws.length a.wc) (.slice ao3 (a.ws ++ [key]).length cap3) := by first | exact hf6 | (rw [hle]; exact hf6)
        have hpo : ∀ k, (Value.slice ao3 (a.ws ++ [key]).length cap3).ownBlock = some k → k ≠ w3.heap.size := fun k e => by
          rcases hf6' k e with e | e
          · have := (haq.out k e).2; omega
          · rw [alloc_size, hpc.out] at e; omega
        have hks7 := Kept.setCell w6 ⟨w3.heap.size, 8, none⟩ (.slice ao3 (a.ws.length + 1) cap3)
        have hQ7 := hQ6'.kept hks7 hpo (fun _ _ _ h => h.elim)
        have hX7 : Arr (w6.setCell ⟨w3.heap.size, 8, none⟩ (.slice ao3 (a.ws.length + 1) cap3)) w3.heap.size 26 c.c := by
          have h := hX6.set 8 (.slice ao3 (a.ws.length + 1) cap3)
          rw [hc]
          show Arr _ _ _ [.int .i64 a.kind, .string a.frm, .string a.dst, .int .u64 a.amt, .int .u64 a.non, .string a.key, .string a.val, .slice a.ra a.rs.length a.rc, .slice ao3 (a.ws ++ [key]).length cap3]
          rw [hle]
          exact h
        have hrd7 := (aA5.rd.kept hk6 (fun b hb e => aP b hb e)).kept hks7 (fun b hb e => by have h1 := aF.out b hb; have h2 : b = w3.heap.size := e; omega)
        have hcA : TxA.At (w6.setCell ⟨w3.heap.size, 8, none⟩ (.slice ao3 (a.ws.length + 1) cap3)) c := by
          rw [hc]
          exact ⟨hrd7, hQ7.rowOf.1, aA5.nr, (fun e => hQ7.nil (a.ws ++ [key]).length cap3 (by rw [show ao3 = none from e])), aA5.zr, (fun s hs => by
            rcases List.mem_append.1 hs with h | h
            · exact aA5.zw s h
            · rw [List.mem_singleton.1 h]; exact hks2)⟩
        have hb27 : Below w2.heap.size w2 (w6.setCell ⟨w3.heap.size, 8, none⟩ (.slice ao3 (a.ws.length + 1) cap3)) := (hb25.trans (hk6.below hb25.size (fun k e => (haq.out k e).1))).trans (hks7.below (by have := hb25.size; have := hk6.size; omega) (fun k e => by have e' : k = w3.heap.size := e; omega))
        have hT7 : Three W (w6.setCell ⟨w3.heap.size, 8, none⟩ (.slice ao3 (a.ws.length + 1) cap3)) w3.heap.size x y c := ⟨hT2.below hb27, hX7, hcA⟩
        have hcr : c.rs.length ≤ 1000 := by rw [hc]; exact har
        have hcw : c.ws.length ≤ 1001 := by rw [hc]; show (a.ws ++ [key]).length ≤ 1001; rw [hle]; omega
        have hmore : Hid (∀ b : TxA, clashB x.rw y.rw = true → b.rs = y.rs → b.ws = y.ws → clashB c.rw b.rw = true) := fun b h h1 h2 => by
          rw [rw_eq h1 h2]
          have := clash_more (k := key) h
          rw [hc]
          show clashB ⟨a.rs, a.ws ++ [key]⟩ _ = true
          rw [ha1.out, ha2.out]
          exact this
        have hcv : Hid (c.v = .agg #[.int .i64 a.kind, .string a.frm, .string a.dst, .int .u64 a.amt, .int .u64 a.non, .string a.key, .string a.val, .slice a.ra a.rs.length a.rc, .slice ao3 (a.ws.length + 1) cap3]) := by
          unfold Hid
          rw [hc]
          show Value.agg #[.int .i64 a.kind, .string a.frm, .string a.dst, .int .u64 a.amt, .int .u64 a.non, .string a.key, .string a.val, .slice a.ra a.rs.length a.rc, .slice ao3 (a.ws ++ [key]).length cap3] = _
          rw [hle]
        have hcC : Hid (c.c = [.int .i64 a.kind, .string a.frm, .string a.dst, .int .u64 a.amt, .int .u64 a.non, .string a.key, .string a.val, .slice a.ra a.rs.length a.rc, .slice ao3 (a.ws.length + 1) cap3]) := by
          unfold Hid
          rw [hc]
          show [.int .i64 a.kind, .string a.frm, .string a.dst, .int .u64 a.amt, .int .u64 a.non, .string a.key, .string a.val, .slice a.ra a.rs.length a.rc, Value.slice ao3 (a.ws ++ [key]).length cap3] = _
          rw [hle]
        replace hc : Hid _ := hc
        replace hle : Hid _ := hle
        clear hT2 hb27 hX7 hcA hQ7 hks7 hrd7 hpo hf6' hQ6' hQ6 hk6 hf6 hX6 f86 k86 aA5 aP aQ5 hX5 hNK k8 f8 k8b f8b hb25 hnk hw4 haq aF har hal m1 m2 hbs
        generalize (w6.setCell ⟨w3.heap.size, 8, none⟩ (.slice ao3 (a.ws.length + 1) cap3)) = w7 at *
        obtain ⟨pc, hpcd⟩ : ∃ pc, pc = w3.heap.size := ⟨_, rfl⟩
        rw [← hpcd] at hT7 ⊢
        generalize decide ((500 : Int) < (key.size : Int)) = dk
        clear g5 hpc hpcd hw23 hWlt
        have hT0 : Three W w7.drew pc x y c := hT7.below (below_drewN (Below.refl _ _) 1)
        clear hT7
        have hkp : ∀ w', Three W w' pc x y c → (w'.cell? ⟨W.heap.size, 0, none⟩ = some (.int .i64 x.kind) ∧ w'.cell? ⟨W.heap.size, 1, none⟩ = some (.string x.frm) ∧ w'.cell? ⟨W.heap.size, 2, none⟩ = some (.string x.dst) ∧ w'.cell? ⟨W.heap.size, 3, none⟩ = some (.int .u64 x.amt) ∧ w'.cell? ⟨W.heap.size, 4, none⟩ = some (.int .u64 x.non) ∧ w'.cell? ⟨W.heap.size, 5, none⟩ = some (.string x.key) ∧ w'.cell? ⟨W.heap.size, 6, none⟩ = some (.string x.val) ∧ w'.cell? ⟨W.heap.size, 7, none⟩ = some (.slice x.ra x.rs.length x.rc) ∧ w'.cell? ⟨W.heap.size, 8, none⟩ = some (.slice x.wa x.ws.length x.wc)) ∧ (w'.cell? ⟨W.heap.size + 1, 0, none⟩ = some (.int .i64 y.kind) ∧ w'.cell? ⟨W.heap.size + 1, 1, none⟩ = some (.string y.frm) ∧ w'.cell? ⟨W.heap.size + 1, 2, none⟩ = some (.string y.dst) ∧ w'.cell? ⟨W.heap.size + 1, 3, none⟩ = some (.int .u64 y.amt) ∧ w'.cell? ⟨W.heap.size + 1, 4, none⟩ = some (.int .u64 y.non) ∧ w'.cell? ⟨W.heap.size + 1, 5, none⟩ = some (.string y.key) ∧ w'.cell? ⟨W.heap.size + 1, 6, none⟩ = some (.string y.val) ∧ w'.cell? ⟨W.heap.size + 1, 7, none⟩ = some (.slice y.ra y.rs.length y.rc) ∧ w'.cell? ⟨W.heap.size + 1, 8, none⟩ = some (.slice y.wa y.ws.length y.wc)) ∧ (w'.cell? ⟨pc, 0, none⟩ = some (.int .i64 a.kind) ∧ w'.cell? ⟨pc, 1, none⟩ = some (.string a.frm) ∧ w'.cell? ⟨pc, 2, none⟩ = some (.string a.dst) ∧ w'.cell? ⟨pc, 3, none⟩ = some (.int .u64 a.amt) ∧ w'.cell? ⟨pc, 4, none⟩ = some (.int .u64 a.non) ∧ w'.cell? ⟨pc, 5, none⟩ = some (.string a.key) ∧ w'.cell? ⟨pc, 6, none⟩ = some (.string a.val) ∧ w'.cell? ⟨pc, 7, none⟩ = some (.slice a.ra a.rs.length a.rc) ∧ w'.cell? ⟨pc, 8, none⟩ = some (.slice ao3 (a.ws.length + 1) cap3)) := fun w' h => ⟨h.two.bx.nine, h.two.by'.nine, by
          have hb := h.bc
          rw [hcC.out] at hb
          exact ⟨hb.cell (i := 0) rfl, hb.cell (i := 1) rfl, hb.cell (i := 2) rfl, hb.cell (i := 3) rfl, hb.cell (i := 4) rfl, hb.cell (i := 5) rfl, hb.cell (i := 6) rfl, hb.cell (i := 7) rfl, hb.cell (i := 8) rfl⟩⟩
        have hTc := hkp _ hT0
        have cO1' : ∀ w, TxA.At w x → Calls Try.prog 14 #[.agg #[.int .i64 x.kind, .string x.frm, .string x.dst, .int .u64 x.amt, .int .u64 x.non, .string x.key, .string x.val, .slice x.ra x.rs.length x.rc, .slice x.wa x.ws.length x.wc]] w fun e w' => GotOwnB w x e w' := fun w h => cO1 w h fx1 fx2
        have cO2' : ∀ w, TxA.At w y → Calls Try.prog 14 #[.agg #[.int .i64 y.kind, .string y.frm, .string y.dst, .int .u64 y.amt, .int .u64 y.non, .string y.key, .string y.val, .slice y.ra y.rs.length y.rc, .slice y.wa y.ws.length y.wc]] w fun e w' => GotOwnA w y e w' := fun w h => cO2 w h fy1 fy2
        have cC2 : ∀ (w : World) (b : TxA), TxA.At w c → TxA.At w b → b.rs.length ≤ 1000 → b.ws.length ≤ 1000 → Calls Try.prog 13 #[.agg #[.int .i64 a.kind, .string a.frm, .string a.dst, .int .u64 a.amt, .int .u64 a.non, .string a.key, .string a.val, .slice a.ra a.rs.length a.rc, .slice ao3 (a.ws.length + 1) cap3], b.v] w fun e w' => e = .returned (.bool (clashB c.rw b.rw)) ∧ Below w.heap.size w w' := fun w b h1 h2 h3 h4 => by
          have := clashA_any c b w h1 h2 (by omega) (by omega) (by omega) (by omega)
          rw [hcv.out] at this
          exact this
        clear cO1 cO2 hcC hcv
        have hrest : Hid (∃ P : World → Prop, True) := ⟨fun _ => True, trivial⟩
        clear hrest
        go_upto_region 7 with fail
        go_cut [49] (fun s49 wx => s49 = .bool false ∧ Below W.heap.size W wx)
        case first =>
          cases hcl : clashB x.rw y.rw with
          | true =>
            have hm2 := fun b h1 h2 => hmore.out b hcl h1 h2
            replace hm2 : Hid _ := hm2
            replace hcl : Hid _ := hcl
            go_region_held3 (fun w' => (w'.cell? ⟨W.heap.size, 0, none⟩ = some (.int .i64 x.kind) ∧ w'.cell? ⟨W.heap.size, 1, none⟩ = some (.string x.frm) ∧ w'.cell? ⟨W.heap.size, 2, none⟩ = some (.string x.dst) ∧ w'.cell? ⟨W.heap.size, 3, none⟩ = some (.int .u64 x.amt) ∧ w'.cell? ⟨W.heap.size, 4, none⟩ = some (.int .u64 x.non) ∧ w'.cell? ⟨W.heap.size, 5, none⟩ = some (.string x.key) ∧ w'.cell? ⟨W.heap.size, 6, none⟩ = some (.string x.val) ∧ w'.cell? ⟨W.heap.size, 7, none⟩ = some (.slice x.ra x.rs.length x.rc) ∧ w'.cell? ⟨W.heap.size, 8, none⟩ = some (.slice x.wa x.ws.length x.wc)) ∧ (w'.cell? ⟨W.heap.size + 1, 0, none⟩ = some (.int .i64 y.kind) ∧ w'.cell? ⟨W.heap.size + 1, 1, none⟩ = some (.string y.frm) ∧ w'.cell? ⟨W.heap.size + 1, 2, none⟩ = some (.string y.dst) ∧ w'.cell? ⟨W.heap.size + 1, 3, none⟩ = some (.int .u64 y.amt) ∧ w'.cell? ⟨W.heap.size + 1, 4, none⟩ = some (.int .u64 y.non) ∧ w'.cell? ⟨W.heap.size + 1, 5, none⟩ = some (.string y.key) ∧ w'.cell? ⟨W.heap.size + 1, 6, none⟩ = some (.string y.val) ∧ w'.cell? ⟨W.heap.size + 1, 7, none⟩ = some (.slice y.ra y.rs.length y.rc) ∧ w'.cell? ⟨W.heap.size + 1, 8, none⟩ = some (.slice y.wa y.ws.length y.wc)) ∧ (w'.cell? ⟨pc, 0, none⟩ = some (.int .i64 a.kind) ∧ w'.cell? ⟨pc, 1, none⟩ = some (.string a.frm) ∧ w'.cell? ⟨pc, 2, none⟩ = some (.string a.dst) ∧ w'.cell? ⟨pc, 3, none⟩ = some (.int .u64 a.amt) ∧ w'.cell? ⟨pc, 4, none⟩ = some (.int .u64 a.non) ∧ w'.cell? ⟨pc, 5, none⟩ = some (.string a.key) ∧ w'.cell? ⟨pc, 6, none⟩ = some (.string a.val) ∧ w'.cell? ⟨pc, 7, none⟩ = some (.slice a.ra a.rs.length a.rc) ∧ w'.cell? ⟨pc, 8, none⟩ = some (.slice ao3 (a.ws.length + 1) cap3))) (exact hkp _ (by assumption))
              (first
              | (go_at_call 14; refine (cO1' _ hT0.two.ax).mono ?_; rintro _ wA ⟨p, rfl, p1, p2, pA, pQ, pf, pP, hbA⟩; have hTA := Three.below hT0 hbA; clear cO1')
              | (go_at_call 14; refine (cO2' _ hTA.two.ay).mono ?_; rintro _ wB ⟨q, rfl, q1, q2, qA, qQ, qf, hbB⟩; have hTB := Three.below hTA hbB; have pB := pA.below hbB; clear hTA pA)
              | (go_at_call 14; refine (cO2' _ hTC.two.ay).mono ?_; rintro _ wD ⟨r, rfl, r1, r2, rA, rQ, rf, hbD⟩; have hTD := Three.below hTC hbD)
              | (go_at_call 13; refine (clashA_any p q _ pB qA (by rw [p1]; omega) (by rw [p2]; omega) (by rw [q1]; omega) (by rw [q2]; omega)).mono ?_; rintro _ wC ⟨rfl, hbC⟩; have hTC := Three.below hTB hbC; rw [rw_eq p1 p2, rw_eq q1 q2, hcl.out]; clear pB)
              | (go_at_call 13; refine (cC2 _ r hTD.ac rA (by rw [r1]; omega) (by rw [r2]; omega)).mono ?_; rintro _ wE ⟨rfl, hbE⟩; have hTE := Three.below hTD hbE; rw [hm2.out r r1 r2]))
            go_wp2_with fail
            go_meet
            case rel => exact ⟨rfl, hTE.two.bel⟩
          | false =>
            replace hcl : Hid _ := hcl
            obtain ⟨⟨x0, x1, x2, x3, x4, x5, x6, x7, x8⟩, ⟨y0, y1, y2, y3, y4, y5, y6, y7, y8⟩, _⟩ := hTc
            go_region_law (first
              | (go_simp; go_at_call 14; refine (cO1' _ hT0.two.ax).mono ?_; rintro _ wA ⟨p, rfl, p1, p2, pA, pQ, pf, pP, hbA⟩; have hTA := Three.below hT0 hbA; obtain ⟨z0, z1, z2, z3, z4, z5, z6, z7, z8⟩ := hTA.two.by'.nine; clear cO1')
              | (go_simp; go_at_call 14; refine (cO2' _ hTA.two.ay).mono ?_; rintro _ wB ⟨q, rfl, q1, q2, qA, qQ, qf, hbB⟩; have hTB := Three.below hTA hbB; have pB := pA.below hbB)
              | (go_simp; go_at_call 13; refine (clashA_any p q _ pB qA (by rw [p1]; omega) (by rw [p2]; omega) (by rw [q1]; omega) (by rw [q2]; omega)).mono ?_; rintro _ wC ⟨rfl, hbC⟩; have hTC := Three.below hTB hbC; rw [rw_eq p1 p2, rw_eq q1 q2, hcl.out]))
            all_goals
              go_wp2_with fail
              go_meet
              case rel => exact ⟨rfl, hTC.two.bel⟩
        case rest =>
          obtain ⟨rfl, hB⟩ := hcut
          clear cO1' cO2' cC2 hT0 hkp hTc hmore ha1 ha2 hc hle
          generalize wc = w8 at *
          have hln := rwL_length l
          have hl1 := hf.1
          have k1 := ownL_any l ao cp w8 (hl.below hB) hf
          go_wp2_with fail
          refine k1.mono ?_
          rintro _ w9 ⟨ma, mc, m, rfl, hml, hmr, hrw, hb9⟩
          clear hml
          have hB9 := hB.trans (hb9.mono hB.size)
          have k2 := edges_any m ma mc w9 hmr (few_same hf hrw)
          rw [hrw] at k2
          clear k1 hmr hrw hb9 hB
          go_wp2_with fail
          refine k2.mono ?_
          rintro _ w10 ⟨ea, ec, rfl, hE, hb10⟩
          have hB10 := hB9.trans (hb10.mono hB9.size)
          have hEr := hE.rowOf.1
          clear k2 hE hb10 hB9
          obtain ⟨n, hn⟩ : ∃ n, n = l.length / 2 := ⟨_, rfl⟩
          have hnl : n ≤ l.length := by omega
          have hnc : n ≤ cp := by omega
          have hnI : (l.length : Int) / 2 = (n : Int) := by omega
          replace hn : Hid _ := hn
          have hlt : (l.take n).length = n := by rw [List.length_take]; omega
          have hft : Few (l.take n) := ⟨by rw [hlt]; omega, fun z hz => hf.2 z (List.mem_of_mem_take hz)⟩
          have k3 := ownL_any (l.take n) ao cp w10 ((hl.below hB10).take n) hft
          rw [hlt] at k3
          replace hlt : Hid _ := hlt
          go_wp2_with fail
          refine k3.mono ?_
          rintro _ w11 ⟨ma2, mc2, m2, rfl, hml, hmr, hrw, hb11⟩
          clear hml
          have hB11 := hB10.trans (hb11.mono hB10.size)
          have hEr11 := hEr.below hb11
          have k4 := edges_any m2 ma2 mc2 w11 hmr (few_same hft hrw)
          rw [hrw] at k4
          clear k3 hmr hrw hb11 hEr hB10
          go_wp2_with fail
          refine k4.mono ?_
          rintro _ w12 ⟨fa, fc, rfl, hF, hb12⟩
          have hB12 := hB11.trans (hb12.mono hB11.size)
          have hEr12 := hEr11.below hb12
          have hFr := hF.rowOf.1
          have hrt : rwL (l.take n) = (rwL l).take n := by unfold rwL; rw [List.map_take]
          rw [hrt] at hFr ⊢
          have hEl : (edgesL (rwL l)).length ≤ 1000000 := by
            have := edgesN_length (rwL l) (rwL l).length
            unfold edgesL
            rw [hln] at this ⊢
            have h2 : l.length * l.length ≤ 1000 * 1000 := Nat.mul_le_mul hl1 hl1
            omega
          have hfe : (edgesL (rwL l)).filter (fun e => decide (e.2 < n)) = edgesL ((rwL l).take n) := edges_front (by rw [hln]; exact hnl)
          have hin : Hid (∀ (i : Nat) (e : Nat × Nat), (edgesL (rwL l))[i]? = some e → e.1 < e.2 ∧ e.2 < l.length) := fun i e h => by
            have h1 := edgesL_mem.1 (show (e.1, e.2) ∈ edgesL (rwL l) from List.mem_of_getElem? h)
            have h2 := adjB_lt h1.2
            rw [hln] at h2
            exact ⟨h1.1, h2.2⟩
          generalize edgesL ((rwL l).take n) = F at *
          generalize edgesL (rwL l) = E at *
          have hget : Hid (∀ (i : Nat) (e : Nat × Nat), E[i]? = some e → e.2 < n → F[(E.take i).countP (fun e => decide (e.2 < n))]? = some e) := fun i e h1 h2 => by
            rw [← hfe]
            exact filter_get h1 (decide_eq_true h2)
          have hend : Hid (E.countP (fun e => decide (e.2 < n)) = F.length) := by
            unfold Hid
            rw [← hfe, List.countP_eq_length_filter]
          clear k4 hF hb12 hB11 hEr11 hrt hfe hln hft hnI
          have hEq : ∀ (u v : Nat) (V : World), (Op.equalIn 10000 37 (.agg #[.int .i64 (u : Int), .int .i64 (v : Int)]) (.agg #[.int .i64 (u : Int), .int .i64 (v : Int)])).run Try.prog V = .ok true V := fun u v V => by
            have := pair_eqIn V 9998 (u : Int) (v : Int) (u : Int) (v : Int)
            simpa using this
          go_wp2_with fail
          go_loopw [13, 14] (fun v13 v14 wr => ∃ i k : Nat, i ≤ E.length ∧ v13 = .int .i64 (k : Int) ∧ v14 = .int .i64 (i : Int) ∧ Hid (k = (E.take i).countP (fun e => decide (e.2 < n))) ∧ k ≤ i ∧ RowAt pairK wr ea E ∧ RowAt pairK wr fa F ∧ Below W.heap.size W wr) (fun _ v _ => E.length - (intOf v).toNat)
          case atStart => exact ⟨0, 0, Nat.zero_le _, rfl, rfl, rfl, Nat.le_refl _, hEr12, hFr, hB12⟩
          case round =>
            obtain ⟨i, k, hi, rfl, rfl, hkc, hki, hE, hF, hB⟩ := hrel
            clear hEr12 hFr hB12
            by_cases hil : i < E.length
            · have g1 : (i : Int) < (E.length : Int) := by omega
              obtain ⟨e, he⟩ : ∃ p, E[i]? = some p := ⟨_, List.getElem?_eq_getElem hil⟩
              obtain ⟨h1, h2⟩ := hin.out i e he
              obtain ⟨b1, o1, rfl, _, p1, p2⟩ := hE.pair he
              have hcn := count_next (p := fun e : Nat × Nat => decide (e.2 < n)) he
              obtain ⟨u, v⟩ := e
              replace h1 : u < v := h1
              replace h2 : v < l.length := h2
              replace p1 : wr.cell? ⟨b1, o1 + i * 2, none⟩ = some (.int .i64 (u : Int)) := p1
              replace p2 : wr.cell? ⟨b1, o1 + i * 2 + 1, none⟩ = some (.int .i64 (v : Int)) := p2
              have q1 : ¬ (v : Int) ≤ (u : Int) := by omega
              have q2 : ¬ (u : Int) < 0 := by omega
              have q3 : ¬ (l.length : Int) ≤ (v : Int) := by omega
              by_cases hvn : v < n
              · have q4 : (v : Int) < (n : Int) := by omega
                have hfk := hget.out i (u, v) he hvn
                rw [← hkc.out] at hfk
                obtain ⟨b2, o2, rfl, _, r1, r2⟩ := hF.pair hfk
                have hkF : k < F.length := (List.getElem?_eq_some_iff.1 hfk).1
                have q5 : ¬ (F.length : Int) ≤ (k : Int) := by omega
                replace r1 : wr.cell? ⟨b2, o2 + k * 2, none⟩ = some (.int .i64 (u : Int)) := r1
                replace r2 : wr.cell? ⟨b2, o2 + k * 2 + 1, none⟩ = some (.int .i64 (v : Int)) := r2
                have hkn : Hid (k + 1 = (E.take (i + 1)).countP (fun e => decide (e.2 < n))) := by
                  unfold Hid
                  rw [hcn, if_pos (decide_eq_true hvn), ← hkc.out]
                have hEu := hEq u v
                replace he : Hid _ := he
                replace hfk : Hid _ := hfk
                clear hcn hkc
                go_wp2_with fail
                go_quiet (fail)
                have hE2 := hE.below (below_drewN (Below.refl wr.heap.size wr) nq)
                have hF2 := hF.below (below_drewN (Below.refl wr.heap.size wr) nq)
                have hB2 := below_drewN hB nq
                clear p1 p2 r1 r2 hE hF hB
                generalize wr.drewN nq = w13 at *
                obtain ⟨b3, o3, e3, _, p1, p2⟩ := hE2.pair he.out
                obtain ⟨b4, o4, e4, _, r1, r2⟩ := hF2.pair hfk.out
                simp only [Option.some.injEq, Addr.mk.injEq, and_true] at e3 e4
                obtain ⟨rfl, rfl⟩ := e3
                obtain ⟨rfl, rfl⟩ := e4
                replace p1 : w13.cell? ⟨b1, o1 + i * 2, none⟩ = some (.int .i64 (u : Int)) := p1
                replace p2 : w13.cell? ⟨b1, o1 + i * 2 + 1, none⟩ = some (.int .i64 (v : Int)) := p2
                replace r1 : w13.cell? ⟨b2, o2 + k * 2, none⟩ = some (.int .i64 (u : Int)) := r1
                replace r2 : w13.cell? ⟨b2, o2 + k * 2 + 1, none⟩ = some (.int .i64 (v : Int)) := r2
                go_wp2_with fail
                go_quiet (fail)
                have hE3 := hE2.below (below_drewN (Below.refl w13.heap.size w13) nq)
                have hF3 := hF2.below (below_drewN (Below.refl w13.heap.size w13) nq)
                have hB3 := below_drewN hB2 nq
                clear p1 p2 r1 r2 hE2 hF2 hB2 q1 q2 q3 q5 hEu
                go_wp2
                go_roundw
                case rel => exact ⟨i + 1, k + 1, by omega, by go_num, by go_num, hkn, by omega, hE3, hF3, hB3⟩
                case measure => simp [intOf]; omega
              · have q4 : ¬ (v : Int) < (n : Int) := by omega
                have hkn : Hid (k = (E.take (i + 1)).countP (fun e => decide (e.2 < n))) := by
                  unfold Hid
                  rw [hcn, if_neg (by simpa using hvn), ← hkc.out]
                  omega
                replace he : Hid _ := he
                clear hcn hkc
                go_wp2_with fail
                go_quiet (fail)
                have hE2 := hE.below (below_drewN (Below.refl wr.heap.size wr) nq)
                have hF2 := hF.below (below_drewN (Below.refl wr.heap.size wr) nq)
                have hB2 := below_drewN hB nq
                clear p1 p2 hE hF hB
                generalize wr.drewN nq = w13 at *
                obtain ⟨b3, o3, e3, _, p1, p2⟩ := hE2.pair he.out
                simp only [Option.some.injEq, Addr.mk.injEq, and_true] at e3
                obtain ⟨rfl, rfl⟩ := e3
                replace p2 : w13.cell? ⟨b1, o1 + i * 2 + 1, none⟩ = some (.int .i64 (v : Int)) := p2
                clear q1 q2 q3
                go_wp2
                go_roundw
                case rel => exact ⟨i + 1, k, by omega, by go_num, by go_num, hkn, by omega, hE2, hF2, hB2⟩
                case measure => simp [intOf]; omega
            · have g1 : ¬ (i : Int) < (E.length : Int) := by omega
              have hkF : k = F.length := by
                rw [hkc.out, show i = E.length by omega, List.take_length]
                exact hend.out
              subst hkF
              clear hkc hin hget hend hEq
              go_wp2
              go_ret
              exact ⟨by simp, hB⟩
end Go.Proofs.Ythegadhkhbokkaa
