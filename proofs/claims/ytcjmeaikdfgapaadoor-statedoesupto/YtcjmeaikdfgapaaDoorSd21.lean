/- StateDoes: for every input the statement answers true, and each argument reads afterwards as it read before. Condition: the two tables of package mix read as the program's text lays them; and what the arguments hold is together of bulk at most 1048576. -/
import Derived.Test.YtcjmeaikdfgapaaDoorSd11
import Derived.Test.YtcjmeaikdfgapaaDoorSd17
import Derived.Test.YtcjmeaikdfgapaaDoorSd20
import Derived.Deep.DeepCutAuto
import Derived.Deep.CutBlock
import Derived.Deep.RegionHeld3
import Derived.Test.YtcjmeaikdfgapaaDoorSd05
import Derived.JoinedCond
import Derived.Test.YtcjmeaikdfgapaaDoorSd10
import Derived.Test.YtcjmeaikdfgapaaDoorSd18
import Derived.Test.YtcjmeaikdfgapaaDoorCards
import Derived.Test.YtcjmeaikdfgapaaDoorTie
import Derived.SevenTiedAt
import Derived.Deep.DeepHandedRow
/- StateDoes: the walk. -/
namespace Go.Proofs.YtcjmeaikdfgapaaDoor
open Go Go.RowKit
set_option linter.unusedVariables false

/-- The program's state and the document's, side by side. -/
structure Duo22 (W w : World) (p rb : Nat) (S SR : Nat → Prop) (s : StF) (N : Nat) : Prop where
  pa : PS w p S s N
  pb : RS w rb SR s N
  ap : ∀ k, S k → ¬ SR k
  ga : ∀ k, S k → W.heap.size ≤ k
  gb : ∀ k, SR k → W.heap.size ≤ k
  bel : Below W.heap.size W w

section
variable {W w w' w1 w2 : World} {p rb bx : Nat} {S SR SR' : Nat → Prop} {s s' : StF} {N N' : Nat} {x : TxM}

theorem Duo22.below (h : Duo22 W w p rb S SR s N) (hb : Below w.heap.size w w') : Duo22 W w' p rb S SR s N :=
  ⟨h.pa.below hb, h.pb.below hb, h.ap, h.ga, h.gb, h.bel.trans (hb.mono h.bel.size)⟩

theorem Duo22.mono (h : Duo22 W w p rb S SR s N) (hn : N ≤ N') : Duo22 W w p rb S SR s N' := ⟨h.pa.mono hn, h.pb.mono hn, h.ap, h.ga, h.gb, h.bel⟩

theorem Duo22.refAt (h : Duo22 W w p rb S SR s N) (hk : Kept S w w1) : RS w1 rb SR s N := h.pb.kept hk (fun k e e' => h.ap k e' e)

/-- An act on each of them. -/
theorem Duo22.both (h : Duo22 W w p rb S SR s N) (hp : PS w1 p S s' N') (hk : Kept S w w1) (hq : RS w2 rb SR' s' N') (hg : FreshS w1 SR SR') (hl : Kept SR w1 w2) : Duo22 W w2 p rb S SR' s' N' := by
  have hs := h.bel.size
  refine ⟨hp.kept hl (fun k e e' => h.ap k e e'), hq, fun k e e' => ?_, h.ga, fun k e => ?_, (h.bel.trans (hk.below hs (fun k e => h.ga k e))).trans (hl.below (Nat.le_trans hs hk.size) (fun k e => h.gb k e))⟩
  · rcases hg k e' with q | q
    · exact h.ap k e q
    · have := hp.lt e; omega
  · rcases hg k e with q | q
    · exact h.gb k q
    · have := hk.size; omega

/-- With a box that holds a transaction. -/
structure DB (W w : World) (p rb bx : Nat) (S SR : Nat → Prop) (s : StF) (N : Nat) (x : TxM) : Prop where
  duo : Duo22 W w p rb S SR s N
  bxA : Arr w bx 33 x.c
  oS : ¬ S bx
  oR : ¬ SR bx

theorem DB.below (h : DB W w p rb bx S SR s N x) (hb : Below w.heap.size w w') : DB W w' p rb bx S SR s N x := ⟨h.duo.below hb, h.bxA.below hb h.bxA.lt, h.oS, h.oR⟩

theorem DB.both (h : DB W w p rb bx S SR s N x) (hp : PS w1 p S s' N') (hk : Kept S w w1) (hq : RS w2 rb SR' s' N') (hg : FreshS w1 SR SR') (hl : Kept SR w1 w2) : DB W w2 p rb bx S SR' s' N' x :=
  ⟨h.duo.both hp hk hq hg hl, (h.bxA.kept hk h.oS).kept hl h.oR, h.oS, fun e => by
    rcases hg bx e with q | q
    · exact h.oR q
    · have := h.bxA.lt
      have := hk.size
      omega⟩
end

theorem txm_nine22 {w : World} {p : Nat} {x : TxM} (h : Arr w p 33 x.c) : (w.cell? ⟨p, 0, none⟩ = some (.int .i64 x.d.kind) ∧ w.cell? ⟨p, 1, none⟩ = some (.string x.d.frm) ∧ w.cell? ⟨p, 2, none⟩ = some (.string x.d.to) ∧ w.cell? ⟨p, 3, none⟩ = some (.int .u64 (x.d.amt : Int)) ∧ w.cell? ⟨p, 4, none⟩ = some (.int .u64 (x.d.non : Int)) ∧ w.cell? ⟨p, 5, none⟩ = some (.string x.d.key) ∧ w.cell? ⟨p, 6, none⟩ = some (.string x.d.val) ∧ w.cell? ⟨p, 7, none⟩ = some (.slice x.ra x.d.rs.length x.rc) ∧ w.cell? ⟨p, 8, none⟩ = some (.slice x.wa x.d.ws.length x.wc)) :=
  ⟨h.cell (i := 0) rfl, h.cell (i := 1) rfl, h.cell (i := 2) rfl, h.cell (i := 3) rfl, h.cell (i := 4) rfl, h.cell (i := 5) rfl, h.cell (i := 6) rfl, h.cell (i := 7) rfl, h.cell (i := 8) rfl⟩

theorem strs_of_arr {w : World} {g : Nat} {l : List ByteArray} (h : Arr w g 9 (l.map Value.string)) : RowAt strK w (some ⟨g, 0, none⟩) l := by
  refine StrsAt.row (fun j hj => ⟨g, 0, rfl, h.lt, ?_⟩)
  rw [Nat.zero_add]
  refine h.cell ?_
  rw [List.getElem?_map, List.getElem?_eq_getElem hj]
  rfl

set_option maxRecDepth 100000 in
set_option maxHeartbeats 16000000 in
theorem stateDoes_walk (ro : Option Addr) (rc : Nat) (rich : List ByteArray) (funds : Nat) (lo : Option Addr) (lc : Nat) (l : List TxM) (name : ByteArray) (W : World)
    (hR : RowAt strK W ro rich) (hrc : ro = none → rc = 0) (hrn : rich.length ≤ 1048576) (hrz : ∀ s ∈ rich, s.size ≤ 1048576) (hL : RowAt txK W lo l) (hlw : Wide22 l) (hnz : name.size ≤ 140737488351232) (hG : Mx.Glob W) :
    Calls Tryd.prog 3 #[.slice ro rich.length rc, .int .u64 (funds : Int), .slice lo l.length lc, .string name] W fun e w' => e = .returned (.bool true) ∧ Below W.heap.size W w' := by
  have cR := rich_any rich ro rc W hR hrn hrz
  go_enter Tryd.func3, Tryd.ntmps3
  go_wp2_with fail
  refine cR.mono ?_
  rintro e w1 ⟨rfl, hb1⟩
  have cL := greatM_any l lo lc w1 (hL.below hb1) hlw
  clear cR
  by_cases hri : richB rich = true
  · rw [hri]
    clear cL
    go_wp2
    go_ret
    exact ⟨rfl, hb1⟩
  obtain hri := Bool.eq_false_iff.2 hri
  have hrl := few_rich hri
  rw [hri]
  go_wp2_with fail
  refine cL.mono ?_
  rintro e w3 ⟨rfl, hb2⟩
  have hbC := hb1.trans (hb2.mono hb1.size)
  clear cL hb2 hb1
  by_cases hgl : greatM l = true
  · rw [hgl]
    go_wp2
    go_ret
    exact ⟨rfl, hbC⟩
  obtain hgl := Bool.eq_false_iff.2 hgl
  have hLm := RowsM.of hL hlw hgl
  rw [hgl]
  clear hri hgl hlw hL
  have hown := own_made w3 w3.heap.size rfl
  have hbE := belowNew w3 (.cells #[] 9)
  have hS := ((hR.below hbC).below hbE).strs
  have hs3 : w3.heap.size ≤ (w3.alloc (.cells #[] 9)).heap.size := by rw [alloc_size]; omega
  go_wp2_with (at_builtin; refine wpList_append_strs rfl _ _ rfl w3.heap.size _ rfl hown ro rc rich rfl hS hrc (by omega) hs3 ?_)
  intro a1 c1 w4 h4 hn4 hb4
  have hbD := hbC.trans ((hbE.trans hb4).mono hbC.size)
  have hzz : ∀ s ∈ rich, s.size ≤ maxLen := fun s hs => by have := hrz s hs; unfold maxLen; omega
  have cN := new22_any rich a1 c1 funds w4 h4.at.row hzz (by omega)
  have cN2 := fun w5 (hb : Below W.heap.size W w5) => refNew22_any rich ro rc funds w5 (hR.below hb) hzz (by omega)
  clear hown hbE hS hs3 h4 hn4 hb4 hR hrc hrz hbC hzz
  generalize newF rich funds = s0 at *
  go_wp2_with fail
  refine cN.mono ?_
  rintro e w5 ⟨p, S, rfl, h5, hS5, hb5⟩
  have hga : ∀ k, S k → W.heap.size ≤ k := fun k hk => Nat.le_trans hbD.size (hS5 k hk)
  have hbF := hbD.trans (hb5.mono hbD.size)
  have hP5 := h5.mono hrl
  have cN2' := cN2 w5 hbF
  clear cN cN2 hb5 hbD h5 hS5
  go_wp2_with fail
  refine cN2'.mono ?_
  rintro e w6 ⟨rb, SR, rfl, h6, hS6, hb6⟩
  have hD6 : Duo22 W w6 p rb S SR s0 100 := ⟨hP5.below hb6, h6.mono hrl, fun k e1 e2 => by
    have := hP5.lt e1
    have := hS6 k e2
    omega, hga, fun k e => Nat.le_trans hbF.size (hS6 k e), hbF.trans (hb6.mono hbF.size)⟩
  clear cN2' hP5 hga hbF h6 hS6 hb6
  have cD := digest22_any w6 p S s0 100 hD6.pa (by omega) (hG.below hD6.bel)
  go_wp2_with fail
  refine cD.mono ?_
  rintro e w7 ⟨t1, hd1, rfl, hb7⟩
  have hD7 := hD6.below hb7
  have cE := rsDigest_any hD7.pb (by omega)
  clear cD hD6 hb7
  go_wp2_with fail
  refine cE.mono ?_
  rintro e w8 ⟨t2, hd2, rfl, hb8⟩
  obtain rfl := hd1.uniq hd2
  have hD8 := hD7.below hb8
  clear cE hD7 hb8 hd1 hd2
  go_wp2_with fail
  go_loopw [11, 12, 13, 14, 15, 16, 17, 18, 19, 20, 21, 22] (fun v11 _ _ _ _ _ _ _ _ _ _ _ wr => ∃ (i : Nat) (SR : Nat → Prop) (s : StF), i ≤ l.length ∧ i ≤ 60 ∧ v11 = .int .i64 (i : Int) ∧ Duo22 W wr p rb S SR s (100 + 2 * i)) (fun v _ _ _ _ _ _ _ _ _ _ _ _ => l.length - (intOf v).toNat)
  case atStart => exact ⟨0, SR, s0, Nat.zero_le _, by omega, rfl, hD8⟩
  case round =>
    clear hD8
    obtain ⟨i, SR, s, hi, hi2, rfl, hD⟩ := hrel
    by_cases hlt : i < l.length ∧ i < 60
    · obtain ⟨hil, hi60⟩ := hlt
      have g1 : (i : Int) < (l.length : Int) := by omega
      have g2 : (i : Int) < 60 := by omega
      obtain ⟨x, hx⟩ : ∃ x, l[i]? = some x := ⟨_, List.getElem?_eq_getElem hil⟩
      obtain ⟨b, off, hlo, hbl, y0, y1, y2, y3, y4, y5, y6, y7, y8, hxA⟩ := (hLm.below hD.bel).row.tx22 hx
      have hxAW : x.At W := hLm.row.at_ x (List.mem_of_getElem? hx)
      obtain ⟨hxs, hxr⟩ := hLm.fit x (List.mem_of_getElem? hx)
      subst hlo
      have hnb := belowNew wr (.cells #[.int .i64 x.d.kind, .string x.d.frm, .string x.d.to, .int .u64 (x.d.amt : Int), .int .u64 (x.d.non : Int), .string x.d.key, .string x.d.val, .slice x.ra x.d.rs.length x.rc, .slice x.wa x.d.ws.length x.wc] 33)
      have hX : Arr (wr.alloc (.cells #[.int .i64 x.d.kind, .string x.d.frm, .string x.d.to, .int .u64 (x.d.amt : Int), .int .u64 (x.d.non : Int), .string x.d.key, .string x.d.val, .slice x.ra x.d.rs.length x.rc, .slice x.wa x.d.ws.length x.wc] 33)) wr.heap.size 33 x.c := Arr.new wr 33 x.c
      have hB : DB W (wr.alloc (.cells #[.int .i64 x.d.kind, .string x.d.frm, .string x.d.to, .int .u64 (x.d.amt : Int), .int .u64 (x.d.non : Int), .string x.d.key, .string x.d.val, .slice x.ra x.d.rs.length x.rc, .slice x.wa x.d.ws.length x.wc] 33)) p rb wr.heap.size S SR s (100 + 2 * i) x := ⟨hD.below hnb, hX, fun e => by have := hD.pa.lt e; omega, fun e => by have := hD.pb.lt _ e; omega⟩
      clear hx hxA hnb hX hD
      go_upto_region 10 with fail
      clear y0 y1 y2 y3 y4 y5 y6 y7 y8 hbl
      generalize wr.alloc (.cells #[.int .i64 x.d.kind, .string x.d.frm, .string x.d.to, .int .u64 (x.d.amt : Int), .int .u64 (x.d.non : Int), .string x.d.key, .string x.d.val, .slice x.ra x.d.rs.length x.rc, .slice x.wa x.d.ws.length x.wc] 33) = w9 at *
      generalize wr.heap.size = bx at *
      by_cases hv : 1000 < x.d.val.size
      · have g3 : (1000 : Int) < (x.d.val.size : Int) := by omega
        have z6 := hB.bxA.cell (i := 6) rfl
        have hd : decide ((1000 : Int) < (x.d.val.size : Int)) = true := decide_eq_true g3
        have hbF := hB.duo.bel
        clear hB
        go_wp2_with fail
        go_quiet (fail)
        have hbF2 := below_drewN hbF nq
        have z7 : (w9.drewN nq).cell? ⟨bx, 6, none⟩ = some (.string x.d.val) := z6
        generalize w9.drewN nq = wa at *
        clear z6
        go_wp2
        go_ret
        exact ⟨rfl, hbF2⟩
      have g3 : ¬ (1000 : Int) < (x.d.val.size : Int) := by omega
      have hd : decide ((1000 : Int) < (x.d.val.size : Int)) = false := decide_eq_false g3
      obtain ⟨E, hE⟩ : ∃ q : Int, Hid (((applyE s x.d : Nat) : Int) = q) := ⟨_, rfl⟩
      obtain ⟨s', hs'⟩ : ∃ q, Hid (applyF s x.d = q) := ⟨_, rfl⟩
      have cO : ∀ w, Below W.heap.size W w → Calls Tryd.prog 14 #[.agg #[.int .i64 x.d.kind, .string x.d.frm, .string x.d.to, .int .u64 (x.d.amt : Int), .int .u64 (x.d.non : Int), .string x.d.key, .string x.d.val, .slice x.ra x.d.rs.length x.rc, .slice x.wa x.d.ws.length x.wc]] w fun e w' => GotOwn22 w x.d e w' := fun w h => own22_any x w (hxAW.below h) hxr
      have cA : ∀ w (y : TxM), y.d = x.d → y.At w → PS w p S s (100 + 2 * i) → Calls Tryd.prog 13 #[.pointer (some ⟨p, 0, none⟩), y.v] w fun e w' => e = .returned (.int .i64 E) ∧ PS w' p S s' (100 + 2 * i + 2) ∧ Kept S w w' := fun w y h1 h2 h3 => by
        have := applyD_any y h1 w h2 hxs hxr.2 p S (100 + 2 * i) s h3 (by omega) E hE.out
        unfold GotE at this
        rw [hs'.out] at this
        exact this
      have cB : ∀ w SR, Below W.heap.size W w → RS w rb SR s (100 + 2 * i) → Calls Tryd.prog 15 #[.pointer (some ⟨rb, 0, none⟩), .agg #[.int .i64 x.d.kind, .string x.d.frm, .string x.d.to, .int .u64 (x.d.amt : Int), .int .u64 (x.d.non : Int), .string x.d.key, .string x.d.val, .slice x.ra x.d.rs.length x.rc, .slice x.wa x.d.ws.length x.wc]] w fun e w' => e = .returned (.int .i64 E) ∧ ∃ S', RS w' rb S' s' (100 + 2 * i + 2) ∧ FreshS w SR S' ∧ Kept SR w w' := fun w SR h1 h2 => by
        have := rsApply_any x (hxAW.below h1) hxs hxr.2 h2 (by omega)
        rw [hs'.out, hE.out] at this
        exact this
      have hkp : ∀ w', Arr w' bx 33 x.c → (w'.cell? ⟨bx, 0, none⟩ = some (.int .i64 x.d.kind) ∧ w'.cell? ⟨bx, 1, none⟩ = some (.string x.d.frm) ∧ w'.cell? ⟨bx, 2, none⟩ = some (.string x.d.to) ∧ w'.cell? ⟨bx, 3, none⟩ = some (.int .u64 (x.d.amt : Int)) ∧ w'.cell? ⟨bx, 4, none⟩ = some (.int .u64 (x.d.non : Int)) ∧ w'.cell? ⟨bx, 5, none⟩ = some (.string x.d.key) ∧ w'.cell? ⟨bx, 6, none⟩ = some (.string x.d.val) ∧ w'.cell? ⟨bx, 7, none⟩ = some (.slice x.ra x.d.rs.length x.rc) ∧ w'.cell? ⟨bx, 8, none⟩ = some (.slice x.wa x.d.ws.length x.wc)) := fun w' h => txm_nine22 h
      have hz1 := hxs.frm
      have hz2 := hxs.to
      have hz3 := hxs.key
      go_cut [73] (fun s73 wx => s73 = .bool false ∧ ∃ SR', DB W wx p rb bx S SR' s' (100 + 2 * i + 2) x)
      case first =>
        have hB0 := hB.below (below_drewN (Below.refl _ w9) 1)
        replace hB0 : DB W w9.drew p rb bx S SR s (100 + 2 * i) x := hB0
        clear hB
        have hT0 := hB0.bxA
        have hTc := hkp _ hT0
        go_wp2_with fail
        go_region_held3 (fun w' => (w'.cell? ⟨bx, 0, none⟩ = some (.int .i64 x.d.kind) ∧ w'.cell? ⟨bx, 1, none⟩ = some (.string x.d.frm) ∧ w'.cell? ⟨bx, 2, none⟩ = some (.string x.d.to) ∧ w'.cell? ⟨bx, 3, none⟩ = some (.int .u64 (x.d.amt : Int)) ∧ w'.cell? ⟨bx, 4, none⟩ = some (.int .u64 (x.d.non : Int)) ∧ w'.cell? ⟨bx, 5, none⟩ = some (.string x.d.key) ∧ w'.cell? ⟨bx, 6, none⟩ = some (.string x.d.val) ∧ w'.cell? ⟨bx, 7, none⟩ = some (.slice x.ra x.d.rs.length x.rc) ∧ w'.cell? ⟨bx, 8, none⟩ = some (.slice x.wa x.d.ws.length x.wc))) (exact hkp _ (by assumption))
          (first
          | (go_at_call 15; refine (cB _ SR hBD hRD).mono ?_; rintro _ wE ⟨rfl, SR', hRE, hfE, hkE⟩; have hDE := hBA.both hPD hkD hRE hfE hkE; have hTE := hDE.bxA)
          | (go_at_call 13; refine (cA _ ya ea yaA hBA.duo.pa).mono ?_; rintro _ wD ⟨rfl, hPD, hkD⟩; have hRD := hBA.duo.refAt hkD; have hTD := Arr.kept hBA.bxA hkD hBA.oS; have hBD := hBA.duo.bel.trans (hkD.below hBA.duo.bel.size (fun k e => hBA.duo.ga k e)))
          | (go_at_call 14; refine (cO _ hB0.duo.bel).mono ?_; rintro _ wA ⟨ya, rfl, ea, yaA, hbA⟩; have hBA := DB.below hB0 hbA; have hTA := hBA.bxA))
        go_wp2_with fail
        go_meet
        exact ⟨rfl, SR', hDE⟩
      case rest =>
        obtain ⟨rfl, SR', hB⟩ := hcut
        generalize wc = w10 at *
        clear cO cA cB hkp hE hs' hd g3 hv hxAW hxr
        have z1 := hB.bxA.cell (i := 1) rfl
        have z2 := hB.bxA.cell (i := 2) rfl
        have z5 := hB.bxA.cell (i := 5) rfl
        have hnb := belowNew w10 (.cells #[.string x.d.frm, .string x.d.to, .string x.d.key, .string name] 9)
        have hNm : RowAt strK (w10.alloc (.cells #[.string x.d.frm, .string x.d.to, .string x.d.key, .string name] 9)) (some ⟨w10.heap.size, 0, none⟩) [x.d.frm, x.d.to, x.d.key, name] := strs_of_arr (Arr.new w10 9 [.string x.d.frm, .string x.d.to, .string x.d.key, .string name])
        have hDn := hB.duo.below hnb
        have hNz : Hid (∀ n ∈ [x.d.frm, x.d.to, x.d.key, name], n.size ≤ maxLen) := fun n hn => by
          simp only [List.mem_cons, List.not_mem_nil, or_false] at hn
          unfold maxLen at *
          rcases hn with e | e | e | e <;> rw [e] <;> omega
        clear hB hnb hz1 hz2 hz3
        go_upto_region 13 with fail
        clear z1 z2 z5
        generalize w10.alloc (.cells #[.string x.d.frm, .string x.d.to, .string x.d.key, .string name] 9) = w11 at *
        obtain ⟨nb, hnbe⟩ : ∃ q, q = w10.heap.size := ⟨_, rfl⟩
        rw [← hnbe] at hNm ⊢
        clear hnbe
        obtain ⟨NL, hNL, hNlen⟩ : ∃ q, Hid ([x.d.frm, x.d.to, x.d.key, name] = q) ∧ Hid (q.length = 4) := ⟨_, rfl, rfl⟩
        rw [hNL.out] at hNm hNz
        clear hNL
        go_wp2_with fail
        go_loopw [14, 15, 16, 17, 18, 19, 20, 21, 22] (fun v14 _ _ _ _ _ _ _ _ wr => ∃ (k : Nat), k ≤ 4 ∧ v14 = .int .i64 (k : Int) ∧ RowAt strK wr (some ⟨nb, 0, none⟩) NL ∧ Duo22 W wr p rb S SR' s' (100 + 2 * i + 2)) (fun v _ _ _ _ _ _ _ _ _ => 4 - (intOf v).toNat)
        case atStart => exact ⟨0, Nat.zero_le _, rfl, hNm, hDn⟩
        case round =>
          clear hNm hDn
          obtain ⟨k, hk, rfl, hNm, hD⟩ := hrel
          by_cases hkl : k < 4
          · have g5 : (k : Int) < 4 := by omega
            obtain ⟨z, hz⟩ : ∃ z, NL[k]? = some z := ⟨_, List.getElem?_eq_getElem (by have := hNlen.out; omega)⟩
            have hzs := hNz.out z (List.mem_of_getElem? hz)
            obtain ⟨b2, off2, hna, hbl2, hcell0⟩ := hNm.cell k z hz
            simp only [Option.some.injEq, Addr.mk.injEq, and_true] at hna
            obtain ⟨rfl, rfl⟩ := hna
            have hcell1 := hcell0 0 _ rfl
            have eo : 0 + k * strK.n + 0 = 0 + k := by show 0 + k * 1 + 0 = _; omega
            rw [eo] at hcell1
            have hcW : ∀ w', Below wr.heap.size wr w' → w'.cell? ⟨nb, 0 + k, none⟩ = some (.string z) := fun w' hw' => by rw [cell_same (hw'.block _ hbl2)]; exact hcell1
            have hcW' : ∀ w', Below wr.heap.size wr w' → w'.cell? ⟨nb, k, none⟩ = some (.string z) := fun w' hw' => by have := hcW w' hw'; rwa [Nat.zero_add] at this
            clear hcell0 hz hcW hcell1 eo
            have hcell := hcW' wr (Below.refl _ _)
            have c1 := accountS_any z hzs wr p S s' _ hD.pa
            obtain ⟨u1, hu1⟩ : ∃ q, Hid ((s'.acc z).1 = q) := ⟨_, rfl⟩
            obtain ⟨u2, hu2⟩ : ∃ q, Hid ((s'.acc z).2 = q) := ⟨_, rfl⟩
            obtain ⟨u3, hu3⟩ : ∃ q, Hid ((s'.val z).getD ⟨#[]⟩ = q) := ⟨_, rfl⟩
            obtain ⟨u4, hu4⟩ : ∃ q, Hid ((s'.val z).isSome = q) := ⟨_, rfl⟩
            rw [hu1.out, hu2.out] at c1
            go_wp2_with fail
            refine c1.mono ?_
            rintro e wa ⟨rfl, hba⟩
            have hDa := hD.below hba
            have c2 := rsAccount_any z hDa.pb (by omega)
            rw [hu1.out, hu2.out] at c2
            replace hcell := hcW' wa hba
            clear c1
            go_wp2_with fail
            refine c2.mono ?_
            rintro e wb ⟨rfl, hbb⟩
            have hDb := hDa.below hbb
            have hbab := hba.trans (hbb.mono hba.size)
            have c3 := valueS_any z hzs wb p S s' _ hDb.pa
            rw [hu3.out, hu4.out] at c3
            replace hcell := hcW' wb hbab
            clear c2 hDa hba hbb
            go_wp2_with fail
            refine c3.mono ?_
            rintro e wc ⟨rfl, hbc⟩
            have hDc := hDb.below hbc
            have hbac := hbab.trans (hbc.mono hbab.size)
            have c4 := rsValue_any z hDc.pb (by omega)
            rw [hu3.out, hu4.out] at c4
            replace hcell := hcW' wc hbac
            clear c3 hDb hbab hbc
            go_wp2_with fail
            refine c4.mono ?_
            rintro e wd ⟨rfl, hbd⟩
            have hDd := hDc.below hbd
            have hNd := hNm.below (hbac.trans (hbd.mono hbac.size))
            clear c4 hDc hbac hbd hcell hcW' hNm hD hu1 hu2 hu3 hu4
            cases u4
            all_goals (
              go_wp2
              go_roundw
              case rel => exact ⟨k + 1, by omega, by go_num, hNd, hDd⟩
              case measure => simp [intOf]; omega)
          · have g5 : ¬ (k : Int) < 4 := by omega
            have cD := digest22_any wr p S s' _ hD.pa (by omega) (hG.below hD.bel)
            clear hNm
            go_wp2_with fail
            refine cD.mono ?_
            rintro e wa ⟨t1, hd1, rfl, hba⟩
            have hDa := hD.below hba
            have cE := rsDigest_any hDa.pb (by omega)
            clear cD hD hba
            go_wp2_with fail
            refine cE.mono ?_
            rintro e wb ⟨t2, hd2, rfl, hbb⟩
            obtain rfl := hd1.uniq hd2
            have hDb := (hDa.below hbb).mono (show 100 + 2 * i + 2 ≤ 100 + 2 * (i + 1) by omega)
            clear cE hDa hbb hd1 hd2
            go_wp2
            go_roundw
            case rel => exact ⟨i + 1, SR', s', by omega, by omega, by go_num, hDb⟩
            case measure => simp [intOf]; omega
    · have hg : ¬ (i : Int) < (l.length : Int) ∨ ((i : Int) < (l.length : Int) ∧ ¬ (i : Int) < 60) := by omega
      have hbF := hD.bel
      rcases hg with g1 | ⟨g1, g2⟩
      all_goals
        go_wp2
        go_ret
        exact ⟨rfl, hbF⟩
end Go.Proofs.YtcjmeaikdfgapaaDoor

/- What the bound of the second form gives: the sizes of strings, and of slices of strings with all that they hold. -/
namespace Go.Proofs.YtcjmeaikdfgapaaDoor
open Go.ChangeShapes Go.WideShapes Go.ChangeAt Go.RowKit

theorem upto_part {H : Type} {d : DataW H} : ∀ {l : List (DataW H)}, d ∈ l → Rows.uptoBulk d ≤ Rows.uptoBulkAll l
  | [], h => by cases h
  | x :: r, h => by
    simp only [Rows.uptoBulkAll]
    rcases List.mem_cons.1 h with e | e
    · subst e; omega
    · have := upto_part e; omega

theorem upto_bound {H : Type} {l : List (DataW H)} (hk : Rows.uptoSmall H l = true) : Rows.uptoBulkAll l ≤ 1048576 := of_decide_eq_true hk

theorem upto_string {H : Type} {s : ByteArray} {d : DataW H} (hd : d = .lit (.string s.data.toList)) {l : List (DataW H)} (hk : Rows.uptoSmall H l = true) (hm : d ∈ l) : s.size ≤ 1048576 := by
  have h1 := upto_bound hk
  have h2 := upto_part hm
  subst hd
  simp only [Rows.uptoBulk] at h2
  have : s.data.toList.length = s.size := by simp
  omega

/-- How many values and letters a row of strings holds. -/
def strsBulk (ss : List ByteArray) : Nat := (ss.map (fun s => s.size + 1)).sum

theorem bulk_strs {H : Type} : ∀ (ss : List ByteArray), Rows.uptoBulkAll (strs (H := H) ss) = strsBulk ss
  | [] => by simp [strs, strsBulk, Rows.uptoBulkAll]
  | s :: ss => by
    have ih := bulk_strs (H := H) ss
    simp only [strs, strsBulk, List.map_cons, List.sum_cons, Rows.uptoBulkAll, Rows.uptoBulk] at ih ⊢
    rw [ih]
    simp

theorem upto_strs {H : Type} {ss : List ByteArray} {d : DataW H} (hd : StrsDatum d ss) {l : List (DataW H)} (hk : Rows.uptoSmall H l = true) (hm : d ∈ l) : strsBulk ss ≤ 1048576 := by
  have h1 := upto_bound hk
  have h2 := upto_part hm
  rcases hd with ⟨rfl, rfl⟩ | ⟨rest, rfl⟩
  · simp [strsBulk]
  · simp only [Rows.uptoBulk] at h2
    rw [bulk_strs] at h2
    omega

theorem strsBulk_length : ∀ (ss : List ByteArray), ss.length ≤ strsBulk ss
  | [] => by simp
  | s :: ss => by
    have := strsBulk_length ss
    simp only [strsBulk, List.map_cons, List.sum_cons, List.length_cons] at this ⊢
    omega

theorem flat_bulk : ∀ (ss : List ByteArray), ((bl ss).flatMap txt).length ≤ 10 * strsBulk ss
  | [] => by simp [bl]
  | s :: ss => by
    have ih := flat_bulk ss
    have hg := goInt_length s.size
    have e : (bl (s :: ss)).flatMap txt = txt s.data.toList ++ (bl ss).flatMap txt := by simp [bl]
    rw [e, List.length_append]
    have e2 : (txt s.data.toList).length = (goInt s.size).length + s.size := by simp [txt]
    simp only [strsBulk, List.map_cons, List.sum_cons] at ih ⊢
    omega

theorem lst_bulk (ss : List ByteArray) : (lst (bl ss)).length ≤ 9 + 10 * strsBulk ss := by
  have := flat_bulk ss
  have := goInt_length (bl ss).length
  rw [lst, List.length_append]
  omega
end Go.Proofs.YtcjmeaikdfgapaaDoor

/- What comes in, with the bound of the second form. -/
namespace Go.Proofs.YtcjmeaikdfgapaaDoor
open Go.ChangeShapes Go.WideShapes Go.ChangeAt Go.RowKit Go.Joins Go.Deep
set_option linter.unusedVariables false

theorem strs_one : ∀ {ss : List ByteArray} {s : ByteArray}, s ∈ ss → s.size ≤ strsBulk ss
  | [], _, h => by cases h
  | x :: r, s, h => by
    have e : strsBulk (x :: r) = x.size + 1 + strsBulk r := by simp [strsBulk]
    rcases List.mem_cons.1 h with q | q
    · rw [q]; omega
    · have := strs_one q; omega

theorem strs_few {ss : List ByteArray} (h : strsBulk ss ≤ 1048576) : ss.length ≤ 1048576 ∧ ∀ s ∈ ss, s.size ≤ 1048576 :=
  ⟨Nat.le_trans (strsBulk_length ss) h, fun _ hs => Nat.le_trans (strs_one hs) h⟩

theorem nat_of_u64 {n : Int} (h : (Lit.int .u64 n).wf = true) : ∃ k : Nat, n = (k : Int) := ⟨n.toNat, by have := (wf_u64 h).1; omega⟩

set_option maxRecDepth 100000 in
theorem open_tx22 {H : Type} {enc : TypeId × Value → H} {W : World} {r : Reach} {b0 : Nat} {v : Value} {d : DataW H} {p : List MemPlace} (hv : Value.okWide Tryd.prog W r b0 33 v)
    (h : DataW.Trod enc Tryd.prog W 0 (fun _ => true) true 33 v d p) : ∃ x : TxM, v = x.v ∧ x.At W ∧ TxSizes x.d ∧ TxDatum d x.d := by
  obtain ⟨D, ra, rc, wa, wc, h1, h2, h3, h4, h5, h6⟩ := open_tx hv h
  exact ⟨⟨D, ra, rc, wa, wc⟩, h1, ⟨h2, h3, h4⟩, h5, h6⟩
end Go.Proofs.YtcjmeaikdfgapaaDoor

/- StateDoes: for every input the statement answers true, and each argument reads afterwards as it read before. Condition: the two tables of package mix read as the program's text lays them; and what the arguments hold is together of bulk at most 1048576. -/
namespace Go.Proofs.YtcjmeaikdfgapaaDoor
open Go.ChangeShapes Go.WideShapes Go.ChangeAt Go.RowKit
open Go.ChangeMaps (open_string shut_string)
set_option linter.unusedVariables false

set_option maxRecDepth 100000 in
theorem stateDoes_reads (os : Os) {H : Type} (enc : TypeId × Value → H) : ∃ places, DataW.whole enc Tryd.prog ((World.doorLaid Tryd.prog 400 os).forCall (fun _ _ => 0) ⟨#[], #[.slice none 0 0, .int .u64 0, .slice none 0 0, .string ByteArray.empty], []⟩).memory Tryd.f3.params.toList Rows.stateDoesSpec.vars false (#[.slice none 0 0, .int .u64 0, .slice none 0 0, .string ByteArray.empty] : Array Value).toList 8 = some ([.nil, .lit (.int .u64 0), .nil, .lit (.string [])], [], places) :=
  ⟨[], by kernel_rfl⟩

set_option maxRecDepth 100000 in
theorem stateDoes_lifted (os : Os) (started : os.Started) (H : Type) (enc : TypeId × Value → H) (F : Stop.Interp) :
    ReturnsInHanded {} Tryd.checked os 3 .any ((Rows.OpenSpec.upto Rows.stateDoesSpec).preRow enc Tryd.prog Tryd.f3 Rows.stateDoesUptoRow.domain false Rows.stateDoesUptoRow.laid) (((Rows.OpenSpec.upto Rows.stateDoesSpec).at F).post enc Tryd.prog Tryd.f3 false true false false) := by
  obtain ⟨places, hx⟩ := stateDoes_reads os enc
  refine returnsInHanded_of_row (C := Tryd.checked) (s := Rows.OpenSpec.upto Rows.stateDoesSpec) ownKnob_none started (by kernel_rfl) Tryd.func3
    ⟨World.doorLaid Tryd.prog 400 os, fun _ _ => 0, ⟨#[], #[.slice none 0 0, .int .u64 0, .slice none 0 0, .string ByteArray.empty], []⟩, rfl, World.shaped_of_RefB (by kernel_rfl) (by kernel_rfl), rfl, (Input.okWide_of_okWideB (by kernel_rfl)).2,
      OpenSpec.preRow_of_cond 8 hx (by kernel_rfl) (fun k hk => by cases hk; kernel_rfl) (by kernel_rfl) (Mx.door_met os _), by
      simp only [Assume.holds]
      exact ⟨by simp, by simp, fun _ => Modest.zero, by simp, by simp⟩⟩ ?_
  intro W base args ds gs before hval0 hW hcnd hcond hsz0 hL _ _
  have hk : Rows.uptoSmall H (ds ++ gs) = true := hcond _ rfl
  have hval : ∀ (j : Nat) t v, Tryd.f3.params[j]? = some t → args[j]? = some v → Value.okWide Tryd.prog W .any base t v := hval0
  have hsz : (DataW.weightsEach Tryd.prog (Tryd.f3.params.toList ++ Rows.stateDoesSpec.plain.varTypes Tryd.prog) (ds ++ gs)).all (· ≤ reachBytes) = true := hsz0
  have hW' := hW
  obtain ⟨p, q, hA0, hV, rfl, hfz, hnd⟩ := hW
  have hA : DataW.TrodAll enc Tryd.prog W 0 (fun _ => true) true Tryd.f3.params.toList args.toList ds p := hA0
  rw [Tryd.params3] at hA hval hsz
  obtain ⟨v0, vs0, d0, ds0, p0, q0, hargs, rfl, rfl, h0, r0⟩ := trodAll_cons hA
  obtain ⟨v1, vs1, d1, ds1, p1, q1, rfl, rfl, rfl, h1, r1⟩ := trodAll_cons r0
  obtain ⟨v2, vs2, d2, ds2, p2, q2, rfl, rfl, rfl, h2, r2⟩ := trodAll_cons r1
  obtain ⟨v3, vs3, d3, ds3, p3, q3, rfl, rfl, rfl, h3, r3⟩ := trodAll_cons r2
  obtain ⟨rfl, rfl, rfl⟩ := trodAll_nil r3
  obtain rfl : args = #[v0, v1, v2, v3] := by cases args; simp_all
  obtain ⟨rfl, rfl⟩ := trodVars_none hV
  have k0 := h0
  have lt0 : ∀ x ∈ p0, x.block < W.heap.size := by obtain ⟨m, hm⟩ := k0; exact DataW.trod_lt m _ _ _ hm
  obtain ⟨a0, len0, cap0, rfl⟩ := okWide_slice Tryd.underlying22 (hval 0 22 v0 rfl rfl)
  obtain ⟨ss0, sl0, st0, sm0, sd0⟩ := strs_open h0
  subst sl0
  have bk0 := strs_few (upto_strs sd0 hk (by simp))
  have k1 := h1
  have lt1 : ∀ x ∈ p1, x.block < W.heap.size := by obtain ⟨m, hm⟩ := k1; exact DataW.trod_lt m _ _ _ hm
  obtain ⟨b1, rfl, hd1, hp1, w1⟩ := open_int Tryd.underlying23 (hval 1 23 v1 rfl rfl) h1
  obtain ⟨a1, rfl⟩ := nat_of_u64 w1
  have k2 := h2
  have lt2 : ∀ x ∈ p2, x.block < W.heap.size := by obtain ⟨m, hm⟩ := k2; exact DataW.trod_lt m _ _ _ hm
  obtain ⟨a2, len2, cap2, rfl⟩ := okWide_slice Tryd.underlying24 (hval 2 24 v2 rfl rfl)
  obtain ⟨l2, rfl, st2, sm2, sd2⟩ := open_txs22 h2
  have sz2 := txs22_sized hsz (j := 2) rfl rfl sd2
  have k3 := h3
  have lt3 : ∀ x ∈ p3, x.block < W.heap.size := by obtain ⟨m, hm⟩ := k3; exact DataW.trod_lt m _ _ _ hm
  obtain ⟨a3, rfl, hd3, hp3, w3⟩ := open_string Tryd.underlying9 (hval 3 9 v3 rfl rfl) h3
  have s3 : a3.size ≤ 140737488351232 := by
    have := sized_string hsz (j := 3) (t := 9) (bytes := a3.data.toList) rfl (by rw [hd3]; rfl)
    simpa [reachBytes] using this
  clear hA0 hval0 hsz0
  refine (stateDoes_walk a0 cap0 ss0 a1 a2 cap2 l2 a3 W st0.row (strs_cap k0) bk0.1 bk0.2 st2 sz2 s3 (Mx.of_laid hL)).mono fun e W' ⟨he, bel⟩ => ?_
  subst he
  exact ⟨_, rfl, _, _, _, [], _, [], hW', trodAll_mk1 (shut_bool Tryd.underlying4 _), (trodAll_cons_mk (Below.trod laidOut_true (by kernel_rfl) (of_decide_eq_true (by kernel_rfl)) k0 bel lt0) (trodAll_cons_mk (Below.trod laidOut_true (by kernel_rfl) (of_decide_eq_true (by kernel_rfl)) k1 bel lt1) (trodAll_cons_mk (Below.trod laidOut_true (by kernel_rfl) (of_decide_eq_true (by kernel_rfl)) k2 bel lt2) (trodAll_cons_mk (Below.trod laidOut_true (by kernel_rfl) (of_decide_eq_true (by kernel_rfl)) k3 bel lt3) trodAll_mk0)))), rfl, bel.frame _, fun h => by cases h⟩

theorem stateDoesUpto_holds : Rows.StateDoesUptoSaid :=
  OpenClaim.holds_of_cond 3 Tryd.f3 rfl rfl rfl rfl rfl rfl rfl ⟨rfl, rfl, rfl, rfl, rfl⟩ rfl rfl rfl rfl rfl (by kernel_rfl) Tryd.func3 (by kernel_rfl)
    (of_decide_eq_true (by kernel_rfl)) (by unfold Func.isWrapper; rw [if_neg (of_decide_eq_false (by kernel_rfl))]; exact ⟨rfl, rfl⟩)
    (fun os started H enc _ F => by rw [OpenClaim.pre_eq_preRow]; exact stateDoes_lifted os started H enc F)

theorem stateDoesUpto_card : Rows.StateDoesUptoCardSaid :=
  Claim7.holds_tied_plain_at .later [] [.data, .data] true (true, "1e32a5eeb282703e4f3e650c36c45899cefdfcfc426a3c03a79052e441ce46ee") true
    stateDoesUpto_holds (fun _ h => by cases h) (by kernel_rfl) (fun _ h => by cases h) stateDoesUpto_row_tie rfl ⟨rfl, rfl⟩ (by kernel_rfl) rfl
    (fun f fn hf hfn => by
      obtain rfl : f = 3 := Option.some.inj ((show Tryd.prog.funcNamed "tusk/tusklaw22.StateDoes" = some 3 by kernel_rfl).symm.trans hf) |>.symm
      obtain rfl : fn = Tryd.f3 := (Option.some.inj (Tryd.func3.symm.trans hfn)).symm
      exact ⟨by kernel_rfl, fun j t ht => by
        rw [Tryd.params3] at ht
        have hall : ∀ t ∈ (#[22, 23, 24, 9] : Array TypeId).toList, Tryd.prog.wantsStandIn t = false := by
          show ∀ t ∈ ([22, 23, 24, 9] : List TypeId), Tryd.prog.wantsStandIn t = false
          refine List.forall_mem_cons.2 ⟨by kernel_rfl, ?_⟩
          refine List.forall_mem_cons.2 ⟨by kernel_rfl, ?_⟩
          refine List.forall_mem_cons.2 ⟨by kernel_rfl, ?_⟩
          refine List.forall_mem_cons.2 ⟨by kernel_rfl, ?_⟩
          exact fun _ h => by cases h
        exact hall t (Array.mem_toList_iff.2 (Array.mem_of_getElem? ht))⟩)
    (by kernel_rfl)
end Go.Proofs.YtcjmeaikdfgapaaDoor
