/- What batch.Encode does; nothing old in memory is turned. -/
import Derived.Test.YtlfjdbnifhidnaaDoorBatCheck
import Derived.Test.YtlfjdbnifhidnaaDoorTxEncode
import Derived.Test.YtlfjdbnifhidnaaDoorTxOwn
import Derived.Deep.AppendLies
import Derived.Lib.QuietBelow
import Derived.BigQuiet
namespace Go.Proofs.YtlfjdbnifhidnaaDoor
open Go.RowKit Go.Sort
set_option linter.unusedVariables false

/-- A batch's bytes, or none. -/
def encBB (b : BatD) : ByteArray := if checkB b = 0 then ⟨(encBat b).toArray⟩ else ⟨#[]⟩

/-- The members' bytes. -/
def memB (l : List TxM) : List ByteArray := (dl l).map (fun d => ⟨(encL d).toArray⟩)

theorem memB_length (l : List TxM) : (memB l).length = l.length := by simp [memB, dl]

theorem bl_memB (l : List TxM) : bl (memB l) = (dl l).map encL := by simp [bl, memB]

theorem memB_succ (l : List TxM) (k : Nat) (x : TxM) (hx : l[k]? = some x) : memB (l.take (k + 1)) = memB (l.take k) ++ [⟨(encL x.d).toArray⟩] := by
  have hk := (List.getElem?_eq_some_iff.1 hx).1
  have he := (List.getElem?_eq_some_iff.1 hx).2
  rw [List.take_succ_eq_append_getElem hk, he]
  simp [memB, dl]

theorem own_below' {B : Nat} {e : TypeId} {k : Nat} {v : Value} {n : Nat} {xs : List Value} {w w' : World} (h : w.ownsRow B e k v n xs) (hb : Below w.heap.size w w') : w'.ownsRow B e k v n xs := by
  refine ⟨h.1, h.2.imp id ?_⟩
  rintro ⟨g, cap, cur, hv, h1, hg, h2⟩
  refine ⟨g, cap, cur, hv, h1, ?_, h2⟩
  rw [hb.block g ((Array.getElem?_eq_some_iff.1 hg).1), hg]

theorem own_form' {w : World} {B : Nat} {e : TypeId} {k : Nat} {v : Value} {n : Nat} {xs : List Value} (h : w.ownsRow B e k v n xs) : ∃ ao cap, v = .slice ao n cap ∧ (ao = none → cap = 0) := by
  rcases h.2 with ⟨hv, hn⟩ | ⟨g, cap, cur, hv, _⟩
  · exact ⟨none, 0, by rw [hv, hn], fun _ => rfl⟩
  · exact ⟨_, cap, hv, fun e => by cases e⟩

set_option maxRecDepth 100000 in
set_option maxHeartbeats 4000000 in
theorem batEncode_any (a n : Int) (ao : Option Addr) (l : List TxM) (cap : Nat) (w : World) (hA : TxsAt w ao l) :
    Calls Tryd.prog 5 #[batV a n ao l.length cap] w fun e w' => e = .returned (.tuple #[.string (encBB ⟨a, n, dl l⟩), .int .i64 (checkB ⟨a, n, dl l⟩ : Int)]) ∧ Below w.heap.size w w' := by
  have hX : Arr _ _ _ (batC a n ao l.length cap) := Arr.new w 24 (batC a n ao l.length cap)
  have hB := belowNew w (.cells (batC a n ao l.length cap).toArray 24)
  have cC := fun w1 (h : TxsAt w1 ao l) => batCheck_any a n ao l cap w1 h
  have hA0 := hA.below hB
  unfold batV at cC ⊢
  by_cases hz : checkB ⟨a, n, dl l⟩ ≠ 0
  · have H : Hid (encBB ⟨a, n, dl l⟩ = ⟨#[]⟩) := (if_neg hz : _ = _)
    generalize checkB ⟨a, n, dl l⟩ = er at cC hz ⊢
    have hz2 : ((er : Int) != 0) = true := by rw [bne_iff_ne]; omega
    go_enter Tryd.func5, Tryd.ntmps5
    go_wp2_with fail
    refine (cC _ hA0).mono ?_
    rintro e w1 ⟨rfl, hb1⟩
    have hB1 := hB.trans (hb1.mono hB.size)
    clear hb1 hX hB hA0 cC
    go_wp2
    go_ret2
    exact ⟨by rw [H.out]; rfl, hB1⟩
  · have hz' : checkB ⟨a, n, dl l⟩ = 0 := by omega
    obtain ⟨z1, z2, z3, z4, z5, z6, z7⟩ := checkB_zero hz'
    have hlen := encBat_len hz'
    simp only [dl_length] at z5 z6
    have H : Hid (encBB ⟨a, n, dl l⟩ = ⟨(encBat ⟨a, n, dl l⟩).toArray⟩) := (if_pos hz' : _ = _)
    rw [hz'] at cC ⊢
    have hright : ∀ x ∈ l, checkL x.d = 0 := fun x hx => z7 x.d (List.mem_map.2 ⟨x, hx, rfl⟩)
    obtain ⟨i0, hi, hz0, hz1, hz2⟩ := info_parts infoString
    clear z7
    go_enter Tryd.func5, Tryd.ntmps5
    go_wp2_with fail
    refine (cC _ hA0).mono ?_
    rintro e w1 ⟨rfl, hb1⟩
    have hB1 := hB.trans (hb1.mono hB.size)
    have hX1 := hX.below hb1 hX.lt
    clear hb1 hX hB hA0 cC
    have x2 := hX1.cell (i := 2) rfl
    go_wp2
    go_loopw [5, 7, 8, 9, 18] (fun v5 v7 v8 v9 v18 wr => ∃ k : Nat, k ≤ l.length ∧ v18 = .int .i64 (k : Int) ∧ wr.ownsRow (w.heap.size + 1) 9 1 v5 k ((bl (memB (l.take k))).map strVal) ∧ Arr wr w.heap.size 24 (batC a n ao l.length cap) ∧ Below w.heap.size w wr) (fun _ _ _ _ v _ => l.length - (intOf v).toNat)
    case atStart => exact ⟨0, Nat.zero_le _, rfl, World.ownsRow_nil _ _ _ _, hX1, hB1⟩
    case round =>
      obtain ⟨k, hk, rfl, hown, hX2, hb⟩ := hrel
      clear hX1 hB1 x2
      by_cases hlt : k < l.length
      · obtain ⟨x, hx⟩ : ∃ x, l[k]? = some x := ⟨l[k], List.getElem?_eq_getElem hlt⟩
        obtain ⟨b, off, rfl, hbl, y0, y1, y2, y3, y4, y5, y6, y7, y8⟩ := (hA.below hb).cells hx
        have hAt := (hA k x hx).2.below hb
        have cE := fun w1 (h : TxAt w1 x.d x.ra x.wa) => encode_yes x.d x.ra x.rc x.wa x.wc w1 h (hright x (List.mem_of_getElem? hx))
        have hms := memB_succ l k x hx
        clear hx
        have hAt2 := hAt.below (belowNew wr (.cells x.c.toArray 36))
        have hb2 := hb.alloc hb.size (.cells x.c.toArray 36)
        have hX3 := hX2.alloc (.cells x.c.toArray 36)
        have hown2 := hown.alloc (.cells x.c.toArray 36)
        obtain ⟨bb, hbb⟩ : ∃ q, q = (⟨(encL x.d).toArray⟩ : ByteArray) := ⟨_, rfl⟩
        rw [← hbb] at cE hms
        clear hbb
        go_wp2_with fail
        refine (cE _ hAt2.at_).mono ?_
        rintro e w2 ⟨rfl, hb3⟩
        have hb4 := hb2.trans (hb3.mono hb2.size)
        have hX4 := hX3.below hb3 hX3.lt
        have hown4 := own_below' hown2 hb3
        clear hb2 hb3 hAt2 hAt cE y0 y1 y2 y3 y4 y5 y6 y7 y8 hX3 hX2 hb hown hown2
        obtain ⟨ao5, c5, rfl, hn5⟩ := own_form' hown4
        have hsz4 : w.heap.size + 1 ≤ w2.heap.size := hX4.lt
        go_wp2_with (at_builtin; refine wpList_append_own _ rfl _ _ 34 rfl (w.heap.size + 1) 9 i0 (.string ⟨#[]⟩) 1 16 Tryd.underlying34 hi hz0 hz1 hz2 rfl (by decide) _ _ _ rfl (hown4.alloc _) ⟨w2.heap.size, 0, none⟩ 1 1 [.string bb] rfl rfl ?c1 ?c2 ?c3 ?c4 ?c5 ?_)
        case c1 =>
          intro i u hj
          match i, hj with
          | 0, hj => simp at hj; subst hj; simp [Addr.add]
        case c2 => intro u hu; simp at hu; subst hu; rfl
        case c3 => unfold maxLen; omega
        case c4 => omega
        case c5 => simp; omega
        · intro v' w3 hown' hgrow _
          have hb5 : Below w.heap.size w w3 := (hb4.alloc hb4.size _).grown hgrow (by simp; omega) (fun q hq => Nat.le_trans (Nat.le_succ _) (hown4.lt q hq).1)
          have hX5 : Arr w3 w.heap.size 24 (batC a n (some ⟨b, off, none⟩) l.length cap) := (hX4.alloc _).kept (Kept.of_grown hgrow) (fun e => by have := (hown4.lt _ e).1; omega)
          have hown2 : w3.ownsRow (w.heap.size + 1) 9 1 v' (k + 1) ((bl (memB (l.take (k + 1)))).map strVal) := by
            rw [hms]
            simpa [bl, strVal] using hown'
          clear hown' hgrow hown4 hb4 hX4
          go_wp2
          go_roundw
          case rel => exact ⟨k + 1, by omega, by go_num, hown2, hX5, hb5⟩
          case measure => simp [intOf]; omega
      · obtain rfl : k = l.length := by omega
        rw [List.take_length] at hown
        obtain ⟨ao5, c5, rfl, hn5⟩ := own_form' hown
        have hstr : StrsAt wr ao5 (memB l) := (own_far hown (memB_length l).symm).at
        have hlst : Hid ((lst (bl (memB l))).length ≤ 33000) := by
          show _ ≤ _
          rw [bl_memB]
          have := hlen
          unfold encBat at this
          simp only [List.length_append] at this
          omega
        have E : Hid (encBat ⟨a, n, dl l⟩ = goInt a ++ goInt n ++ lst (bl (memB l))) := by show _ = _; rw [bl_memB]; rfl
        have x0 := hX2.cell (i := 0) rfl
        have x1 := hX2.cell (i := 1) rfl
        obtain ⟨ba, hba⟩ : ∃ q, Hid (q = (⟨(goInt a).toArray⟩ : ByteArray)) := ⟨_, rfl⟩
        obtain ⟨bn, hbn⟩ : ∃ q, Hid (q = (⟨(goInt n).toArray⟩ : ByteArray)) := ⟨_, rfl⟩
        obtain ⟨bm, hbm⟩ : ∃ q, Hid (q = (⟨(lst (bl (memB l))).toArray⟩ : ByteArray)) := ⟨_, rfl⟩
        have k1 : ∀ d os, Calls Tryd.prog 14 #[.int .i64 a] (grow (redrawn wr d) os) fun e w'' => e = .returned (.string ba) ∧ ∃ p : Regrown, w'' = grow (redrawn wr p.d) p.os := fun d os => Calls.regrown_of (by rw [hba.out]; exact int_any a _)
        have k2 : ∀ d os, Calls Tryd.prog 14 #[.int .i64 n] (grow (redrawn wr d) os) fun e w'' => e = .returned (.string bn) ∧ ∃ p : Regrown, w'' = grow (redrawn wr p.d) p.os := fun d os => Calls.regrown_of (by rw [hbn.out]; exact int_any n _)
        have k3 : ∀ d os, Calls Tryd.prog 15 #[.slice ao5 l.length c5] (grow (redrawn wr d) os) fun e w'' => e = .returned (.string bm) ∧ ∃ p : Regrown, w'' = grow (redrawn wr p.d) p.os := fun d os => Calls.regrown_of (by
          have h := list_any ao5 c5 (memB l) (grow (redrawn wr d) os) (hstr.below (below_regrown wr d os)) (by have := hlst.out; omega) (by rw [memB_length]; omega)
          rw [memB_length, ← hbm.out] at h
          exact h)
        have sa : ba.size ≤ 9 := by rw [hba.out, size_mk]; exact goInt_length a
        have sn : bn.size ≤ 9 := by rw [hbn.out, size_mk]; exact goInt_length n
        have sm : bm.size ≤ 33000 := by rw [hbm.out, size_mk]; exact hlst.out
        have C0 := cell_regrown x0
        have C1 := cell_regrown x1
        have hbs : Hid (ba ++ bn ++ bm = encBB ⟨a, n, dl l⟩) := by
          show _ = _
          rw [H.out, E.out, hba.out, hbn.out, hbm.out]
          apply ByteArray.ext
          simp
        clear x0 x1 E hlst hstr hown
        go_wp2_with fail
        refine wp_region_quiet_below (by kernel_rfl) (by kernel_rfl) ?_
        iterate 2 (go_big_quiet_step (fail))
        go_big_quiet_step (exact k1 _ _)
        iterate 2 (go_big_quiet_step (fail))
        go_big_quiet_step (exact k2 _ _)
        iterate 2 (go_big_quiet_step (fail))
        go_big_quiet_step (exact k3 _ _)
        iterate 3 (go_big_quiet_step (fail))
        refine wpQuiet_nil ?_
        rintro w' ⟨p, rfl⟩
        have hb' := below_regrown wr p.d p.os
        have hBz := hb.trans (hb'.mono hb.size)
        generalize grow (redrawn wr p.d) p.os = w7 at hBz ⊢
        clear k1 k2 k3 C0 C1
        go_wp2
        go_ret2
        exact ⟨by rw [← hbs.out]; rfl, hBz⟩
end Go.Proofs.YtlfjdbnifhidnaaDoor
