/- What access.newSearch does. -/
import Derived.Test.YthegadhkhbokkaaAccAdd
import Derived.BigRegion
namespace Go.Proofs.Ythegadhkhbokkaa
open Go Go.RowKit
set_option linter.unusedVariables false

/-- A search as it lies. -/
structure Srch (w : World) (B sb rb wb fg n : Nat) (SR SW : Nat → Prop) (N : Nat) (lr lw : ByteArray → List Nat) (fd : List Nat) : Prop where
  box : Arr w sb 56 [.map (some rb), .map (some wb), .slice (some ⟨fg, 0, none⟩) n n]
  rd : Mem w B rb SR N lr
  wr : Mem w B wb SW N lw
  fnd : KQ natK 3 w B (.slice (some ⟨fg, 0, none⟩) n n) fd
  apart : ∀ b, SR b → ¬ SW b
  fr : ¬ SR fg
  fw : ¬ SW fg
  sr : ¬ SR sb
  sw : ¬ SW sb
  sf : sb ≠ fg
  sge : B ≤ sb

theorem Srch.fge {w : World} {B sb rb wb fg n : Nat} {SR SW : Nat → Prop} {N : Nat} {lr lw : ByteArray → List Nat} {fd : List Nat} (h : Srch w B sb rb wb fg n SR SW N lr lw fd) : B ≤ fg ∧ fg < w.heap.size := h.fnd.lt fg rfl

theorem Srch.below {w w' : World} {B sb rb wb fg n : Nat} {SR SW : Nat → Prop} {N : Nat} {lr lw : ByteArray → List Nat} {fd : List Nat} (h : Srch w B sb rb wb fg n SR SW N lr lw fd) (hb : Below w.heap.size w w') : Srch w' B sb rb wb fg n SR SW N lr lw fd :=
  ⟨h.box.below hb h.box.lt, h.rd.below hb, h.wr.below hb, h.fnd.below hb, h.apart, h.fr, h.fw, h.sr, h.sw, h.sf, h.sge⟩

theorem Srch.addR {w w' : World} {B sb rb wb fg n : Nat} {SR SW SR' : Nat → Prop} {N N' : Nat} {lr lw lr' : ByteArray → List Nat} {fd : List Nat} (h : Srch w B sb rb wb fg n SR SW N lr lw fd) (hN : N ≤ N')
    (hm : Mem w' B rb SR' N' lr') (hf : FreshS w SR SR') (hk : Kept SR w w') : Srch w' B sb rb wb fg n SR' SW N' lr' lw fd := by
  have hge := h.fge
  have hsl := h.box.lt
  refine ⟨h.box.kept hk h.sr, hm, (h.wr.kept hk (fun b hb h2 => h.apart b h2 hb)).mono hN, h.fnd.kept hk (fun k e => ?_) (fun _ _ _ h => h.elim), fun b hb h2 => ?_, fun e => ?_, h.fw, fun e => ?_, h.sw, h.sf, h.sge⟩
  · simp only [Value.ownBlock, Option.some.injEq] at e
    subst e
    exact h.fr
  · rcases hf b hb with e | e
    · exact h.apart b e h2
    · have := h.wr.lt b h2; omega
  · rcases hf fg e with e | e
    · exact h.fr e
    · omega
  · rcases hf sb e with e | e
    · exact h.sr e
    · omega

theorem Srch.addW {w w' : World} {B sb rb wb fg n : Nat} {SR SW SW' : Nat → Prop} {N N' : Nat} {lr lw lw' : ByteArray → List Nat} {fd : List Nat} (h : Srch w B sb rb wb fg n SR SW N lr lw fd) (hN : N ≤ N')
    (hm : Mem w' B wb SW' N' lw') (hf : FreshS w SW SW') (hk : Kept SW w w') : Srch w' B sb rb wb fg n SR SW' N' lr lw' fd := by
  have hge := h.fge
  have hsl := h.box.lt
  refine ⟨h.box.kept hk h.sw, (h.rd.kept hk (fun b hb h2 => h.apart b hb h2)).mono hN, hm, h.fnd.kept hk (fun k e => ?_) (fun _ _ _ h => h.elim), fun b hb h2 => ?_, h.fr, fun e => ?_, h.sr, fun e => ?_, h.sf, h.sge⟩
  · simp only [Value.ownBlock, Option.some.injEq] at e
    subst e
    exact h.fw
  · rcases hf b h2 with e | e
    · exact h.apart b hb e
    · have := h.rd.lt b hb; omega
  · rcases hf fg e with e | e
    · exact h.fw e
    · omega
  · rcases hf sb e with e | e
    · exact h.sw e
    · omega

theorem Srch.congr {w : World} {B sb rb wb fg n : Nat} {SR SW : Nat → Prop} {N : Nat} {lr lw lr' lw' : ByteArray → List Nat} {fd : List Nat} (h : Srch w B sb rb wb fg n SR SW N lr lw fd) (e1 : ∀ k, lr' k = lr k) (e2 : ∀ k, lw' k = lw k) : Srch w B sb rb wb fg n SR SW N lr' lw' fd :=
  ⟨h.box, h.rd.congr e1, h.wr.congr e2, h.fnd, h.apart, h.fr, h.fw, h.sr, h.sw, h.sf, h.sge⟩

theorem Srch.mono {w : World} {B sb rb wb fg n : Nat} {SR SW : Nat → Prop} {N N' : Nat} {lr lw : ByteArray → List Nat} {fd : List Nat} (h : Srch w B sb rb wb fg n SR SW N lr lw fd) (e : N ≤ N') : Srch w B sb rb wb fg n SR SW N' lr lw fd :=
  ⟨h.box, h.rd.mono e, h.wr.mono e, h.fnd, h.apart, h.fr, h.fw, h.sr, h.sw, h.sf, h.sge⟩

/-- A search of so many members. -/
def SrchAt (w : World) (B sb n : Nat) (l : List RwD) (m : Nat) (fd : List Nat) : Prop :=
  ∃ rb wb fg SR SW, Srch w B sb rb wb fg n SR SW (m * 2000) (fun k => memL l RwD.rs k m) (fun k => memL l RwD.ws k m) fd

def GotNew (W : World) (l : List RwD) (e : Ending) (w : World) : Prop :=
  ∃ sb, e = .returned (.pointer (some ⟨sb, 0, none⟩)) ∧ SrchAt w W.heap.size sb l.length l l.length (List.replicate l.length 0) ∧ Below W.heap.size W w

set_option maxRecDepth 100000 in
set_option maxHeartbeats 2000000 in
theorem newSearch_any (l : List TxA) (ao : Option Addr) (cp : Nat) (w : World) (hl : RowAt txA w ao l) (hf : Few l) :
    Calls Try.prog 17 #[.slice ao l.length cp] w fun e w' => GotNew w (rwL l) e w' := by
  have hl1 := hf.1
  have mk : ∀ (w : World), (Instr.makeMap 54 none).run Try.prog w = .ok (.map (some w.heap.size)) (w.alloc (.map #[] 0)) := fun w => rfl
  have hmr := Mem.new w
  have hmw := Mem.new (w.alloc (.map #[] 0))
  have hb1 := belowNew w (.map #[] 0)
  have hb2 := belowNew (w.alloc (.map #[] 0)) (.map #[] 0)
  have hmr2 := hmr.below hb2
  obtain ⟨w3, hms, hQ, hb3, hs3⟩ := make_nats 33 Try.underlying33 l.length (by omega) ((w.alloc (.map #[] 0)).alloc (.map #[] 0))
  have hS : Srch (w3.alloc (.cells #[.map (some w.heap.size), .map (some (w.heap.size + 1)), .slice (some ⟨w.heap.size + 1 + 1, 0, none⟩) l.length l.length] 56)) w.heap.size w3.heap.size w.heap.size (w.heap.size + 1) (w.heap.size + 1 + 1) l.length (fun b => b = w.heap.size) (fun b => b = w.heap.size + 1) (0 * 2000) (fun k => memL (rwL l) RwD.rs k 0) (fun k => memL (rwL l) RwD.ws k 0) (List.replicate l.length 0) := by
    have hb4 := belowNew w3 (.cells #[.map (some w.heap.size), .map (some (w.heap.size + 1)), .slice (some ⟨w.heap.size + 1 + 1, 0, none⟩) l.length l.length] 56)
    have hz2 : ((w.alloc (.map #[] 0)).alloc (.map #[] 0)).heap.size = w.heap.size + 1 + 1 := by rw [alloc_size, alloc_size]
    rw [hz2] at hQ hs3
    rw [alloc_size] at hmw
    refine ⟨Arr.new w3 _ _, ((hmr2.below hb3).below hb4).congr (fun k => rfl), ?_, (hQ.below hb4).rebase (by omega), fun b e1 e2 => ?_, fun e => ?_, fun e => ?_, fun e => ?_, fun e => ?_, by omega, by omega⟩
    · have h := ((hmw.below hb3).below hb4).congr (ls' := fun k => memL (rwL l) RwD.ws k 0) (fun k => rfl)
      exact ⟨by
        obtain ⟨f, n, q1, q2, q3, q4, q5⟩ := h.ex
        exact ⟨f, n, q1, q2, q3, fun key v hv => by
          obtain ⟨g, off, cap, q6, q7, q8⟩ := q4 key v hv
          exact ⟨g, off, cap, q6, q7.rebase (by omega), q8⟩, q5⟩, h.mb_in, fun b hb => by have := h.ge b hb; omega, h.lt⟩
    all_goals omega
  have hB4 : Below w.heap.size w (w3.alloc (.cells #[.map (some w.heap.size), .map (some (w.heap.size + 1)), .slice (some ⟨w.heap.size + 1 + 1, 0, none⟩) l.length l.length] 56)) :=
    ((hb1.trans (hb2.mono (by rw [alloc_size]; omega))).trans (hb3.mono (by rw [alloc_size, alloc_size]; omega))).alloc (by rw [alloc_size, alloc_size] at hs3; omega) _
  clear hmr hmw hb1 hb2 hmr2 hQ hb3
  go_enter Try.func17, Try.ntmps17
  go_wp2_with fail
  obtain ⟨sb, hsb⟩ : ∃ sb, w3.heap.size = sb := ⟨_, rfl⟩
  rw [hsb] at hS ⊢
  clear hsb hms hs3 mk
  generalize (w3.alloc (.cells #[.map (some w.heap.size), .map (some (w.heap.size + 1)), .slice (some ⟨w.heap.size + 1 + 1, 0, none⟩) l.length l.length] 56)) = w4 at *
  go_loopw [15] (fun v15 wr => ∃ (i : Nat) (SR SW : Nat → Prop), i ≤ l.length ∧ v15 = .int .i64 (i : Int) ∧ Srch wr w.heap.size sb w.heap.size (w.heap.size + 1) (w.heap.size + 1 + 1) l.length SR SW (i * 2000) (fun k => memL (rwL l) RwD.rs k i) (fun k => memL (rwL l) RwD.ws k i) (List.replicate l.length 0) ∧ Below w.heap.size w wr) (fun v _ => l.length - (intOf v).toNat)
  case atStart => exact ⟨0, _, _, Nat.zero_le _, rfl, hS, hB4⟩
  case round =>
    obtain ⟨i, SR, SW, hi, rfl, hs, hb⟩ := hrel
    clear hS hB4
    by_cases hil : i < l.length
    · have g1 : (i : Int) < (l.length : Int) := by omega
      obtain ⟨x, hx⟩ : ∃ p, l[i]? = some p := ⟨_, List.getElem?_eq_getElem hil⟩
      obtain ⟨b, off, rfl, hbl, x0, x1, x2, x3, x4, x5, x6, x7, x8, hA⟩ := (hl.below hb).tx hx
      have hbn := belowNew wr (.cells x.c.toArray 26)
      have hX := Arr.new wr 26 x.c
      have hz1 : wr.heap.size < (wr.alloc (.cells x.c.toArray 26)).heap.size := by rw [alloc_size]; omega
      have hS1 := hs.below hbn
      have hb1 := hb.trans (hbn.mono hb.size)
      have hrd := hA.rd.below hbn
      have hwr := hA.wr.below hbn
      have hzr := hA.zr
      have hzw := hA.zw
      have hslt := hs.box.lt
      obtain ⟨hfr, hfw⟩ := hf.2 x (List.mem_of_getElem? hx)
      have hfo : Hid ((∀ b, rowFoot textK x.ra x.rs b → b < w.heap.size) ∧ ∀ b, rowFoot textK x.wa x.ws b → b < w.heap.size) := ⟨fun b hb => (hl.at_ x (List.mem_of_getElem? hx)).rd.lt hb, fun b hb => (hl.at_ x (List.mem_of_getElem? hx)).wr.lt hb⟩
      have hnr : Hid (∀ k, memL (rwL l) RwD.rs k (i + 1) = memP (rwL l) RwD.rs i x.rs k) := fun k => memP_end (rwL_get hx) RwD.rs k
      have hnw : Hid (∀ k, memL (rwL l) RwD.ws k (i + 1) = memP (rwL l) RwD.ws i x.ws k) := fun k => memP_end (rwL_get hx) RwD.ws k
      obtain ⟨w5, hw5⟩ : ∃ q, wr.alloc (.cells x.c.toArray 26) = q := ⟨_, rfl⟩
      rw [hw5] at hX hz1 hS1 hb1 hrd hwr
      have hbd : Below w5.heap.size w5 w5.drew := below_drewN (Below.refl _ _) 1
      have hXd := hX.drew
      have hSd := hS1.below hbd
      have hrdd := hrd.below hbd
      have hwrd := hwr.below hbd
      have hbb := hb1.trans (hbd.mono hb1.size)
      have hzd : wr.heap.size < w5.drew.heap.size := Nat.lt_of_lt_of_le hz1 hbd.size
      have hx' : Hid _ := hx
      obtain ⟨kind, frm, dst, amt, non, key, val, rs, ws, ra, rc, wa, wc⟩ := x
      replace hw5 : wr.alloc (.cells #[.int .i64 kind, .string frm, .string dst, .int .u64 amt, .int .u64 non, .string key, .string val, .slice ra rs.length rc, .slice wa ws.length wc] 26) = w5 := hw5
      replace hXd : Arr w5.drew wr.heap.size 26 [.int .i64 kind, .string frm, .string dst, .int .u64 amt, .int .u64 non, .string key, .string val, .slice ra rs.length rc, .slice wa ws.length wc] := hXd
      replace hrdd : RowAt textK w5.drew ra rs := hrdd
      replace hwrd : RowAt textK w5.drew wa ws := hwrd
      replace hzr : ∀ s ∈ rs, s.size ≤ maxLen := hzr
      replace hzw : ∀ s ∈ ws, s.size ≤ maxLen := hzw
      replace hfr : rs.length ≤ 1000 := hfr
      replace hfw : ws.length ≤ 1000 := hfw
      replace hfo : Hid ((∀ b, rowFoot textK ra rs b → b < w.heap.size) ∧ ∀ b, rowFoot textK wa ws b → b < w.heap.size) := hfo
      replace hnr : Hid (∀ k, memL (rwL l) RwD.rs k (i + 1) = memP (rwL l) RwD.rs i rs k) := hnr
      replace hnw : Hid (∀ k, memL (rwL l) RwD.ws k (i + 1) = memP (rwL l) RwD.ws i ws k) := hnw
      clear hA hx hX hS1 hrd hwr hb hbn hbl hz1
      have d0 := hSd.box.cell (i := 0) rfl
      have d7 := hXd.cell (i := 7) rfl
      have cA := add_any (rwL l) RwD.rs w.heap.size w.heap.size SR (i * 2000) i (by omega) w5.drew (hSd.rd.congr (fun k => memP_nil _ _ _ _)) hbb.size rs ra rc hrdd hfo.out.1 hfr (by omega) hzr
      go_wp2_with fail
      rename_i K hK
      replace hK : Hid _ := hK
      go_region_law (go_simp; go_at_call 24; refine cA.mono ?_; rintro e w6 ⟨rfl, SR', hm6, hf6, hk6⟩)
      all_goals
        refine hK.out _ _ ?_
        have hge := hSd.rd.ge
        have hSr := hSd.addR (by omega) hm6 hf6 hk6
        have hX6 := hXd.kept hk6 (fun e => by have h1 := hs.rd.lt _ e; omega)
        have hbd6 : Below w6.heap.size w6 w6.drew := below_drewN (Below.refl _ _) 1
        have hX7 := hX6.drew
        have hS7 := hSr.below hbd6
        have hw7 := (hwrd.keep (fun b hb => hk6.block b (hwrd.lt hb) (fun e => by have h1 := hge b e; have h2 := hfo.out.2 b hb; omega))).below hbd6
        have hb6 := hbb.trans (hk6.below hbb.size (fun k e => hge k e))
        have hbb7 := hb6.trans (hbd6.mono hb6.size)
        have e1 := hS7.box.cell (i := 1) rfl
        have e8 := hX7.cell (i := 8) rfl
        have cW := add_any (rwL l) RwD.ws w.heap.size (w.heap.size + 1) SW (i * 2000 + rs.length) i (by omega) w6.drew (hS7.wr.congr (fun k => memP_nil _ _ _ _)) hbb7.size ws wa wc hw7 hfo.out.2 hfw (by omega) hzw
        clear cA d0 d7 hm6 hf6 hk6 hSr hX6 hSd hXd hrdd hwrd hs hw7 hw5 hbd hb1 hzd hslt
        go_wp2_with fail
        rename_i K2 hK2
        replace hK2 : Hid _ := hK2
        go_region_law (go_simp; go_at_call 24; refine cW.mono ?_; rintro e w8 ⟨rfl, SW', hm8, hf8, hk8⟩)
        all_goals
          refine hK2.out _ _ ?_
          have hge2 := hS7.wr.ge
          have hS8 := ((hS7.addW (by omega) hm8 hf8 hk8).mono (N' := (i + 1) * 2000) (by omega)).congr hnr.out hnw.out
          have hb8 := hbb7.trans (hk8.below hbb7.size (fun k e => hge2 k e))
          clear cW hS7 hm8 hf8 hk8 hX7 hnr hnw
          go_wp2
          go_roundw
          case rel => exact ⟨i + 1, SR', SW', by omega, by go_num, hS8, hb8⟩
          case measure => simp [intOf]; omega
    · have g1 : ¬ (i : Int) < (l.length : Int) := by omega
      have hil2 : i = l.length := by omega
      have hlen := rwL_length l
      have hfin : SrchAt wr w.heap.size sb (rwL l).length (rwL l) (rwL l).length (List.replicate (rwL l).length 0) := by
        rw [hlen, ← hil2]
        rw [← hil2] at hs
        exact ⟨_, _, _, SR, SW, hs⟩
      clear hs hil2 hlen
      go_wp2
      go_ret
      exact ⟨sb, rfl, hfin, hb⟩
end Go.Proofs.Ythegadhkhbokkaa
