/- What waves.Check does. -/
import Derived.Test.YtkgidmifgfoeiaaWavChkMath
import Derived.Test.YtkgidmifgfoeiaaWavLook
namespace Go.Proofs.Ytkgidmifgfoeiaa
open Go Go.RowKit
set_option linter.unusedVariables false

theorem nodup_few : ∀ {n : Nat} {q : List Nat}, q.Nodup → (∀ x ∈ q, x < n) → q.length ≤ n
  | 0, q, _, h => by
    cases q with
    | nil => exact Nat.le_refl _
    | cons x q => have := h x (List.mem_cons_self ..); omega
  | n + 1, q, hn, h => by
    have h1 := nodup_few (n := n) (q := q.erase n) (hn.erase n) (fun x hx => by
      have h2 := h x (List.mem_of_mem_erase hx)
      have h3 : x ≠ n := fun e => by
        subst e
        exact absurd hx (List.Nodup.not_mem_erase hn)
      omega)
    have h4 := List.length_erase (a := n) (l := q)
    split at h4 <;> omega

theorem mark1_code {n w : Nat} {m : List Nat} {x : Int} {e : Nat} (h : mark1 n w m x = .error e) : e = 2 ∨ e = 13 := by
  unfold mark1 at h
  split at h
  · injection h with h; exact Or.inl h.symm
  · split at h
    · injection h with h; exact Or.inr h.symm
    · cases h

theorem markR_code {n w : Nat} : ∀ {r : List Int} {m : List Nat} {e : Nat}, markR n w m r = .error e → e = 2 ∨ e = 13
  | [], m, e, h => by cases h
  | x :: r, m, e, h => by
    rw [markR_cons] at h
    cases h2 : mark1 n w m x with
    | error e' =>
      rw [h2] at h
      injection h with h
      subst h
      exact mark1_code h2
    | ok m' =>
      rw [h2] at h
      exact markR_code h

theorem markP_code {n : Nat} : ∀ {p : List (List Int)} {w : Nat} {m : List Nat} {e : Nat}, markP n w m p = .error e → e = 2 ∨ e = 13
  | [], w, m, e, h => by cases h
  | r :: p, w, m, e, h => by
    rw [markP_cons] at h
    cases h2 : markR n w m r with
    | error e' =>
      rw [h2] at h
      injection h with h
      subst h
      exact markR_code h2
    | ok m' =>
      rw [h2] at h
      exact markP_code h

theorem lookN_code {n : Nat} {P : List (List Int)} {e : Nat} (h : lookN n P = .error e) : e = 2 ∨ e = 13 ∨ e = 12 := by
  unfold lookN at h
  cases h2 : markP n 0 (List.replicate n 0) P with
  | error e' =>
    rw [h2] at h
    injection h with h
    subst h
    rcases markP_code h2 with h | h
    · exact Or.inl h
    · exact Or.inr (Or.inl h)
  | ok m' =>
    rw [h2] at h
    have h : (if m'.any (fun x => decide (x = 0)) = true then Except.error 12 else Except.ok m' : Except Nat (List Nat)) = .error e := h
    split at h
    · injection h with h; exact Or.inr (Or.inr h.symm)
    · cases h

theorem Marked.wave {n : Nat} {P : List (List Int)} {m : List Nat} (h : Marked n P m) {i : Nat} (hi : i < n) : (markI m)[i]? = some ((atN m i : Nat) : Int) ∧ atN m i < P.length := by
  obtain ⟨k, r, h1, h2, h3⟩ := h.mem i hi
  have hil : i < m.length := by rw [h.len]; exact hi
  rw [getD_of hil] at h3
  have hk := (List.getElem?_eq_some_iff.1 h1).1
  unfold atN
  rw [getD_of hil]
  refine ⟨?_, by omega⟩
  rw [markI_get (List.getElem?_eq_getElem hil)]
  congr 1
  omega

/-- The rows of a plan that look let by. -/
theorem Marked.rowQ {n : Nat} {P : List (List Int)} {m : List Nat} (h : Marked n P m) {k : Nat} {r : List Int} (hk : P[k]? = some r) : r = rowI (r.map Int.toNat) ∧ (∀ x ∈ r.map Int.toNat, x < n) ∧ (r.map Int.toNat).length ≤ n := by
  obtain ⟨c1, c2⟩ := h.row k r hk
  have h1 : ∀ x ∈ r, 0 ≤ x ∧ x < n := fun x hx => ⟨(c1 x hx).1, (c1 x hx).2.1⟩
  have h2 : ∀ x ∈ r.map Int.toNat, x < n := fun x hx => by
    obtain ⟨y, hy, rfl⟩ := List.mem_map.1 hx
    have := h1 y hy
    omega
  exact ⟨rows_nat h1, h2, nodup_few (nodup_map_toNat h1 c2) h2⟩

set_option maxRecDepth 100000 in
set_option maxHeartbeats 4000000 in
theorem check_any (l : List TxA) (ao : Option Addr) (cp : Nat) (p : List IRow) (pa : Option Addr) (pc : Nat) (w : World) (hl : RowAt txA w ao l) (hf : Few l) (hp : RowAt irowK w pa p) (hpf : RowsFit p) :
    Calls Try.prog 15 #[.slice ao l.length cp, .slice pa p.length pc] w fun e w' => e = .returned (.int .i64 (chkN (rwL l) (lsP p) : Nat)) ∧ Below w.heap.size w w' := by
  have hl1 := hf.1
  have hlen := rwL_length l
  have hp1 := hpf.1
  have cL := look_any p pa pc l.length w hp hpf (by omega)
  generalize hGOT : (fun e w' => e = Ending.returned (.int .i64 (chkN (rwL l) (lsP p) : Nat)) ∧ Below w.heap.size w w') = GOT
  have hG : Hid (∀ w' k, Below w.heap.size w w' → chkN (rwL l) (lsP p) = k → GOT (.returned (.int .i64 (k : Int))) w') := by
    intro w' k h1 h2
    rw [← hGOT, h2]
    exact ⟨rfl, h1⟩
  clear hGOT
  cases hlk : lookN l.length (lsP p) with
  | error k =>
    have hcode := lookN_code hlk
    have hE := chkN_err (l := rwL l) (by rw [hlen]; exact hlk)
    have g0 : ((k : Int) == 0) = false := by simp; omega
    unfold GotLook at cL
    rw [hlk] at cL
    go_enter Try.func15, Try.ntmps15
    go_wp2_with (go_at_call 22; refine cL.mono ?_; rintro _ w1 ⟨hb1, rfl⟩)
    exact hG.out w1 k hb1 hE
  | ok m =>
    have hM : Marked (rwL l).length (lsP p) m := Marked.of (by rw [hlen]; exact hlk)
    unfold GotLook at cL
    rw [hlk] at cL
    go_enter Try.func15, Try.ntmps15
    go_wp2_with (go_at_call 22; refine cL.mono ?_; rintro _ w1 ⟨hb1, hml, g, rfl, hq⟩)
    have hlk' : Hid (lookN (rwL l).length (lsP p) = .ok m) := by unfold Hid; rw [hlen]; exact hlk
    have hM' : Hid _ := hM
    have hml' : Hid _ := hml
    clear cL hlk hM hml
    go_loopw [24] (fun v24 wr => ∃ (j : Nat), j ≤ p.length ∧ v24 = .int .i64 (j : Int) ∧ Hid (∀ (k : Nat) (r : List Int), k < j → (lsP p)[k]? = some r → clashR (rwL l) (r.map Int.toNat) = false) ∧ Below w1.heap.size w1 wr) (fun v _ => p.length - (intOf v).toNat)
    case atStart => exact ⟨0, Nat.zero_le _, rfl, fun k r h => by omega, Below.refl _ _⟩
    case round =>
      obtain ⟨j, hj, rfl, hno, hb⟩ := hrel
      have hbb := hb1.trans (hb.mono hb1.size)
      by_cases hjl : j < p.length
      · have g1 : (j : Int) < (p.length : Int) := by omega
        obtain ⟨x, hx⟩ : ∃ q, p[j]? = some q := ⟨_, List.getElem?_eq_getElem hjl⟩
        have hxP := lsP_take hx
        obtain ⟨r1, r2, r3⟩ := hM'.out.rowQ hxP
        obtain ⟨bp, op, rfl, hbp, cr, hri, _⟩ := (hp.below hbb).irow hx
        have hql : (x.l.map Int.toNat).length = x.l.length := by rw [List.length_map]
        rw [r1] at hri
        rw [hlen] at r2 r3
        have cC := clash_any l ao cp (x.l.map Int.toNat) x.ao x.cap wr (hl.below hbb) hf hri r2 (by omega)
        rw [hql] at cC
        have hx' : Hid _ := hx
        cases hc : clashR (rwL l) (x.l.map Int.toNat) with
        | true =>
          have hE : Hid (∀ w', Below w.heap.size w w' → GOT (.returned (.int .i64 ((15 : Nat) : Int))) w') := fun w' hb' => hG.out w' 15 hb' (chkN_clash hlk'.out hxP hc)
          rw [hc] at cC
          clear hx hri r1 r2 r3 hxP hno hql
          go_wp2_with (go_at_call 23; refine cC.mono ?_; rintro _ w2 ⟨rfl, hb2⟩)
          exact hE.out _ (hbb.trans (hb2.mono hbb.size))
        | false =>
          rw [hc] at cC
          have hno2 : Hid (∀ (k : Nat) (r : List Int), k < j + 1 → (lsP p)[k]? = some r → clashR (rwL l) (r.map Int.toNat) = false) := fun k r hk hr => by
            by_cases e : k = j
            · subst e
              rw [hxP] at hr
              obtain rfl : x.l = r := by simpa using hr
              exact hc
            · exact hno.out k r (by omega) hr
          clear hx hri r1 r2 r3 hxP hno hql
          go_wp2_with (go_at_call 23; refine cC.mono ?_; rintro _ w2 ⟨rfl, hb2⟩)
          go_roundw
          case rel => exact ⟨j + 1, by omega, by go_num, hno2, hb.trans (hb2.mono hb.size)⟩
          case measure => simp [intOf]; omega
      · have g1 : ¬ (j : Int) < (p.length : Int) := by omega
        have hnc := no_clash hlk'.out (fun k r hr => hno.out k r (by have := (List.getElem?_eq_some_iff.1 hr).1; unfold lsP at this; rw [List.length_map] at this; omega) hr)
        have hnc' : Hid _ := hnc
        have hnc2 : Hid _ := no_clash2 hnc
        have mk : (Instr.makeMap 41 none).run Try.prog wr = .ok (.map (some wr.heap.size)) (wr.alloc (.map #[] 0)) := rfl
        have hT0 := (TurnAt.new wr).congr (g' := turnF (putL (rwL l) (atN m) 0)) (fun _ => rfl)
        have hb0 := belowNew wr (.map #[] 0)
        have hb2 := hb.trans (hb0.mono hb.size)
        have hbb2 := hbb.trans (hb0.mono hbb.size)
        have hwr : w1.heap.size ≤ wr.heap.size := hb.size
        generalize wr.alloc (.map #[] 0) = w2 at *
        obtain ⟨mb, hmb⟩ : ∃ mb, wr.heap.size = mb := ⟨_, rfl⟩
        rw [hmb] at hT0 mk
        have hq2 := hq.below hb2
        have hgw := (hq.lt g rfl).2
        have hgm : g ≠ mb := by omega
        have hmw : w.heap.size ≤ mb := by have := hb1.size; omega
        clear hno hnc hb hbb hb0
        go_wp2_with fail
        go_loopw [35] (fun v35 wr => ∃ (i : Nat), i ≤ l.length ∧ v35 = .int .i64 (i : Int) ∧ TurnAt wr mb (turnF (putL (rwL l) (atN m) i)) (i * 2000) ∧ KQ intK 3 wr w.heap.size (.slice (some ⟨g, 0, none⟩) l.length l.length) (markI m) ∧ Hid (∀ i', i' < i → ¬ ∃ k, k < i' ∧ adjB (rwL l) k i' = true ∧ m.getD i' 0 < m.getD k 0) ∧ Below w.heap.size w wr) (fun v _ => l.length - (intOf v).toNat)
        case atStart => exact ⟨0, Nat.zero_le _, rfl, hT0, hq2, fun i' h => by omega, hbb2⟩
        case round =>
          obtain ⟨i, hi, rfl, hT, hq, hno, hb⟩ := hrel
          clear hT0 hq2 hbb2 mk
          by_cases hil : i < l.length
          · have g1 : (i : Int) < (l.length : Int) := by omega
            obtain ⟨x, hx⟩ : ∃ p, l[i]? = some p := ⟨_, List.getElem?_eq_getElem hil⟩
            have hfx : ∀ b, txA.foot x b → b < w.heap.size := fun b h => txA.lt (hl.at_ x (List.mem_of_getElem? hx)) h
            obtain ⟨b, off, rfl, hbl, x0, x1, x2, x3, x4, x5, x6, x7, x8, hA⟩ := (hl.below hb).tx hx
            obtain ⟨lr, lw⟩ := hf.2 x (List.mem_of_getElem? hx)
            obtain ⟨hwv, hwlt⟩ := hM'.out.wave (show i < (rwL l).length by rw [hlen]; exact hil)
            have hlate := late_iff hM'.out hnc2.out (rwL_get hx)
            have hpl : (lsP p).length = p.length := by unfold lsP; rw [List.length_map]
            have hbn := belowNew wr (.cells x.c.toArray 38)
            have hX := Arr.new wr 38 x.c
            have hT5 := TurnAt.below hT hbn
            have hq5 := hq.below hbn
            have hA5 := hA.below hbn
            have hb5 := hb.trans (hbn.mono hb.size)
            have hz5 : wr.heap.size < (wr.alloc (.cells x.c.toArray 38)).heap.size := by rw [alloc_size]; omega
            have hmbf : ¬ txA.foot x mb := fun h => by have := hfx mb h; omega
            have hnx : firstN (turnF (putL (rwL l) (atN m) i)) x.rw ≤ atN m i → ∀ k, turnF (putL (rwL l) (atN m) (i + 1)) k = putG (turnF (putL (rwL l) (atN m) i)) x.rw (atN m i) k := put_next (rwL_get hx)
            have hx' : Hid _ := hx
            generalize hfs : firstN (turnF (putL (rwL l) (atN m) i)) x.rw = fs at *
            replace hfs : Hid _ := hfs
            generalize hv : atN m i = v at *
            replace hv : Hid _ := hv
            obtain ⟨cw, _⟩ := hq5.intSet hwv
            simp only [Nat.zero_add] at cw
            have hm1 : Hid (l.length = m.length) := by unfold Hid; rw [hml'.out]
            obtain ⟨w5, hw5⟩ : ∃ q, wr.alloc (.cells x.c.toArray 38) = q := ⟨_, rfl⟩
            rw [hw5] at hX hT5 hq5 hA5 hb5 hz5 cw
            replace hw5 : wr.alloc (.cells #[.int .i64 x.kind, .string x.frm, .string x.dst, .int .u64 x.amt, .int .u64 x.non, .string x.key, .string x.val, .slice x.ra x.rs.length x.rc, .slice x.wa x.ws.length x.wc] 38) = w5 := hw5
            have hbd : Below w5.heap.size w5 w5.drew := below_drewN (Below.refl _ _) 1
            have hT6 := TurnAt.below hT5 hbd
            have hX6 := hX.drew
            have hA6 := TxA.At.below hA5 hbd
            have hq6 := hq5.below hbd
            have hb6 := hb5.trans (hbd.mono hb5.size)
            have hz6 : wr.heap.size < w5.drew.heap.size := Nat.lt_of_lt_of_le hz5 hbd.size
            have cF := first_any x _ hA6 mb _ _ hT6 (by omega) (by omega)
            rw [hfs.out] at cF
            have c6 := (hq6.intSet hwv).1
            simp only [Nat.zero_add] at c6
            have n0 := hX6.cell (i := 0) rfl
            have n1 := hX6.cell (i := 1) rfl
            have n2 := hX6.cell (i := 2) rfl
            have n3 := hX6.cell (i := 3) rfl
            have n4 := hX6.cell (i := 4) rfl
            have n5 := hX6.cell (i := 5) rfl
            have n6 := hX6.cell (i := 6) rfl
            have n7 := hX6.cell (i := 7) rfl
            have n8 := hX6.cell (i := 8) rfl
            have hwv' : Hid _ := hwv
            have hno' : Hid _ := hno
            by_cases hvf : v < fs
            · have g2 : (v : Int) < (fs : Int) := by omega
              obtain ⟨k, hk1, hk2, hk3⟩ := hlate.1 hvf
              have hE : Hid (∀ w', Below w.heap.size w w' → GOT (.returned (.int .i64 ((9 : Nat) : Int))) w') := fun w' hb' => hG.out w' 9 hb' (chkN_late hlk'.out hnc'.out hk1 hk2 hk3)
              clear hT5 hX hA5 hq5 cw hbd hwv hno hlate hnx hx hT hq hA
              go_wp2_with fail
              rename_i K hK
              replace hK : Hid _ := hK
              go_region_law (go_simp; go_at_call 18; refine cF.mono ?_; rintro e w7 ⟨rfl, hb7⟩; have c7 := ((hq6.below hb7).intSet hwv'.out).1; simp only [Nat.zero_add] at c7)
              all_goals
                refine hK.out _ _ ?_
                go_wp2_with fail
                exact hE.out _ (hb6.trans (hb7.mono hb6.size))
            · have g2 : ¬ (v : Int) < (fs : Int) := by omega
              have hnx2 : Hid (∀ k, turnF (putL (rwL l) (atN m) (i + 1)) k = putG (turnF (putL (rwL l) (atN m) i)) x.rw v k) := hnx (by omega)
              have hno2 : Hid (∀ i', i' < i + 1 → ¬ ∃ k, k < i' ∧ adjB (rwL l) k i' = true ∧ m.getD i' 0 < m.getD k 0) := fun i' h => by
                by_cases e : i' = i
                · subst e
                  exact fun h2 => hvf (hlate.2 h2)
                · exact hno.out i' (by omega)
              clear hT5 hX hA5 hq5 cw hbd hwv hno hlate hnx hx hT hq hA
              go_wp2_with fail
              rename_i K3 hK3 K2 hK2 K hK
              replace hK3 : Hid _ := hK3
              replace hK : Hid _ := hK
              replace hK2 : Hid _ := hK2
              go_region_law (go_simp; go_at_call 18; refine cF.mono ?_; rintro e w7 ⟨rfl, hb7⟩; have c7 := ((hq6.below hb7).intSet hwv'.out).1; simp only [Nat.zero_add] at c7)
              all_goals
                refine hK.out _ _ ?_
                have hb77 := hb6.trans (hb7.mono hb6.size)
                have hT7 := TurnAt.below hT6 hb7
                have hX7 := hX6.below hb7 hz6
                have hA7 := TxA.At.below hA6 hb7
                have hq7 := hq6.below hb7
                have hbd : Below w7.heap.size w7 w7.drew := below_drewN (Below.refl _ _) 1
                have hT8 := TurnAt.below hT7 hbd
                have hX8 := hX7.drew
                have hA8 := TxA.At.below hA7 hbd
                have hq8 := hq7.below hbd
                have hb8 := hb77.trans (hbd.mono hb77.size)
                have c8 := (hq8.intSet hwv'.out).1
                simp only [Nat.zero_add] at c8
                have n0 := hX8.cell (i := 0) rfl
                have n1 := hX8.cell (i := 1) rfl
                have n2 := hX8.cell (i := 2) rfl
                have n3 := hX8.cell (i := 3) rfl
                have n4 := hX8.cell (i := 4) rfl
                have n5 := hX8.cell (i := 5) rfl
                have n6 := hX8.cell (i := 6) rfl
                have n7 := hX8.cell (i := 7) rfl
                have n8 := hX8.cell (i := 8) rfl
                have cP := put_any x _ hA8 (fun b h => Nat.lt_of_lt_of_le (hfx b h) hb8.size) mb hmbf _ _ hT8 (by omega) v (by omega) (by omega) (by omega)
                clear hT7 hX7 hA7 hq7 hbd hT6 hX6 hA6 hq6 cF hb6 c6 hb7 hK
                go_wp2_with fail
                refine hK2.out _ _ ?_
                go_wp2_with fail
                go_region_law (go_simp; go_at_call 19; refine cP.mono ?_; rintro e w9 ⟨rfl, hT9, hk9⟩)
                all_goals
                  refine hK3.out _ _ ?_
                  have hq9 := hq8.kept hk9 (fun k e => by simp only [Value.ownBlock, Option.some.injEq] at e; show ¬ k = mb; omega) (fun _ _ _ h => h.elim)
                  have hT10 := (TurnAt.congr hT9 hnx2.out).mono (M := (i + 1) * 2000) (by omega)
                  have hb9 := hb8.trans (hk9.below hb8.size (fun k e => by have e' : k = mb := e; omega))
                  clear cP hT9 hk9 hnx2 hq8 hT8 hX8
                  go_wp2
                  go_roundw
                  case rel => exact ⟨i + 1, by omega, by go_num, hT10, hq9, hno2, hb9⟩
                  case measure => simp [intOf]; omega
          · have g1 : ¬ (i : Int) < (l.length : Int) := by omega
            have hil2 : i = l.length := by omega
            have hE := hG.out wr 0 hb (chkN_right hlk'.out hnc'.out (fun i' h => hno.out i' (by rw [hlen] at h; omega)))
            clear hil2 hno hT hq
            go_wp2_with fail
            exact hE
end Go.Proofs.Ytkgidmifgfoeiaa
