/- What Emit of the reference's graph does. -/
import Derived.Test.YtfbpjdjajecajaaRefRising
import Derived.Test.YtfbpjdjajecajaaRefEmitMath
import Derived.Test.YtfbpjdjajecajaaWalkRows
import Derived.Deep.DeepCutAuto
namespace Go.Proofs.Ytfbpjdjajecajaa
open Go Go.RowKit
set_option linter.unusedVariables false

/-- What the reference's Emit answers. -/
def GotEmitR (w : World) (gb : Nat) (S : Nat → Prop) (g : GrD) (id : ByteArray) (e : Ending) (w' : World) : Prop :=
  ∃ (l m : List ByteArray) (al : Option Addr) (cl : Nat) (am : Option Addr) (cm : Nat), e = .returned (.tuple #[.slice al l.length cl, .slice am m.length cm]) ∧ MissOf g id m ∧
    KQ textK 9 w' w.heap.size (.slice al l.length cl) l ∧ KQ textK 9 w' w.heap.size (.slice am m.length cm) m ∧ Kept S w w' ∧
    ((m = [] ∧ l = emitV g id ∧ RG16 w' gb S (doneV g id)) ∨ (m ≠ [] ∧ l = [] ∧ RG16 w' gb S g))

/-- The missing ones among the first i. -/
def MissT (g : GrD) (T : List ByteArray) (i : Nat) (M : List ByteArray) : Prop := ∀ x, x ∈ M ↔ x ∈ T.take i ∧ getV g.L x = none

theorem MissT.zero (g : GrD) (T : List ByteArray) : MissT g T 0 [] := fun x => by simp

theorem MissT.put {g : GrD} {T M : List ByteArray} {i : Nat} {x : ByteArray} (h : MissT g T i M) (hx : T[i]? = some x) (hn : getV g.L x = none) : MissT g T (i + 1) (riseT M x) := fun y => by
  rw [riseT_mem, h y, List.take_add_one, hx, List.mem_append]
  simp only [Option.toList_some, List.mem_singleton]
  constructor
  · rintro (e | ⟨e, e'⟩)
    · exact ⟨Or.inr e, by rw [e]; exact hn⟩
    · exact ⟨Or.inl e, e'⟩
  · rintro ⟨e | e, e'⟩
    · exact Or.inr ⟨e, e'⟩
    · exact Or.inl e

theorem MissT.skip {g : GrD} {T M : List ByteArray} {i : Nat} {x : ByteArray} (h : MissT g T i M) (hx : T[i]? = some x) {v : VtxD} (hn : getV g.L x = some v) : MissT g T (i + 1) M := fun y => by
  rw [h y, List.take_add_one, hx, List.mem_append]
  simp only [Option.toList_some, List.mem_singleton]
  constructor
  · rintro ⟨e, e'⟩; exact ⟨Or.inl e, e'⟩
  · rintro ⟨e | e, e'⟩
    · exact ⟨e, e'⟩
    · rw [e, hn] at e'; cases e'

theorem MissT.more {g : GrD} {T M : List ByteArray} {i : Nat} (h : MissT g T i M) (hi : i ≤ T.length) (p : ByteArray) : MissT g (T ++ [p]) i M := fun y => by rw [h y, List.take_append_of_le_length hi]

/-- A vertex behind the marking. -/
def markV (T : List ByteArray) (x : VtR) : VtR := if inL16 T x.d.id = true then { x with d := { x.d with done := true } } else x

/-- The first i are marked. -/
def ysV (T : List ByteArray) (xs : List VtR) (i : Nat) : List VtR := (xs.take i).map (markV T) ++ xs.drop i

def outsV (T : List ByteArray) (xs : List VtR) (i : Nat) : List ByteArray := ((xs.take i).filter (fun x => inL16 T x.d.id && !x.d.done)).map (·.d.id)

theorem markV_rb (T : List ByteArray) (x : VtR) : (markV T x).rb = x.rb ∧ (markV T x).pa = x.pa ∧ (markV T x).d.parents = x.d.parents := by
  unfold markV; split <;> exact ⟨rfl, rfl, rfl⟩

theorem ysV_mem {T : List ByteArray} {xs : List VtR} {i : Nat} {y : VtR} (h : y ∈ ysV T xs i) : ∃ x ∈ xs, y.rb = x.rb ∧ y.pa = x.pa ∧ y.d.parents = x.d.parents := by
  rcases List.mem_append.1 h with m | m
  · obtain ⟨x, hx, rfl⟩ := List.mem_map.1 m
    exact ⟨x, List.mem_of_mem_take hx, markV_rb T x⟩
  · exact ⟨y, List.mem_of_mem_drop m, rfl, rfl, rfl⟩

theorem ysV_at {T : List ByteArray} {xs : List VtR} {i : Nat} {x : VtR} (hx : xs[i]? = some x) : (ysV T xs i)[i]? = some x := by
  have hi := (List.getElem?_eq_some_iff.1 hx).1
  have hl : ((xs.take i).map (markV T)).length = i := by rw [List.length_map, List.length_take]; omega
  unfold ysV
  rw [List.getElem?_append_right (by omega), hl, Nat.sub_self, List.getElem?_drop, Nat.add_zero]
  exact hx

theorem ysV_step {T : List ByteArray} {xs : List VtR} {i : Nat} {x : VtR} (hx : xs[i]? = some x) : ysV T xs (i + 1) = (ysV T xs i).set i (markV T x) := by
  have hi := (List.getElem?_eq_some_iff.1 hx).1
  have hl : ((xs.take i).map (markV T)).length = i := by rw [List.length_map, List.length_take]; omega
  have hd : xs.drop i = x :: xs.drop (i + 1) := by
    rw [List.drop_eq_getElem_cons hi]
    congr 1
    exact (List.getElem?_eq_some_iff.1 hx).2
  unfold ysV
  rw [List.set_append, if_neg (by omega), hl, Nat.sub_self, hd, List.set_cons_zero, List.take_add_one, hx, List.map_append]
  simp

theorem ysV_same {T : List ByteArray} {xs : List VtR} {i : Nat} {x : VtR} (hx : xs[i]? = some x) (hm : markV T x = x) : ysV T xs (i + 1) = ysV T xs i := by
  rw [ysV_step hx, hm]
  have hh := ysV_at (T := T) hx
  obtain ⟨h1, h2⟩ := List.getElem?_eq_some_iff.1 hh
  conv => lhs; rw [← h2]
  exact List.set_getElem_self h1

theorem ysV_rb (T : List ByteArray) (xs : List VtR) (i : Nat) : (ysV T xs i).map VtR.rb = xs.map VtR.rb := by
  unfold ysV
  rw [List.map_append, List.map_map]
  have : (VtR.rb ∘ markV T) = VtR.rb := funext (fun x => (markV_rb T x).1)
  rw [this, ← List.map_append, List.take_append_drop]

theorem outsV_step {T : List ByteArray} {xs : List VtR} {i : Nat} {x : VtR} (hx : xs[i]? = some x) : outsV T xs (i + 1) = if (inL16 T x.d.id && !x.d.done) = true then outsV T xs i ++ [x.d.id] else outsV T xs i := by
  unfold outsV
  rw [List.take_add_one, hx, List.filter_append, List.map_append]
  by_cases h : (inL16 T x.d.id && !x.d.done) = true
  · rw [if_pos h, Option.toList_some, List.filter_cons, if_pos h]
    rfl
  · rw [if_neg h, Option.toList_some, List.filter_cons, if_neg h]
    exact List.append_nil _

theorem outsV_len (T : List ByteArray) (xs : List VtR) (i : Nat) : (outsV T xs i).length ≤ xs.length := by
  unfold outsV
  rw [List.length_map]
  refine Nat.le_trans (List.length_filter_le _ _) ?_
  rw [List.length_take]
  omega

/-- Behind the last. -/
theorem ysV_done {g : GrD} {id : ByteArray} {T : List ByteArray} {xs : List VtR} (h2 : xs.map (·.d) = g.L) (hT : ∀ x, x ∈ T ↔ Reach g id x) : (ysV T xs xs.length).map (·.d) = (doneV g id).L := by
  unfold ysV doneV
  rw [List.take_length, List.drop_length, List.append_nil, ← h2, List.map_map, List.map_map]
  refine List.map_congr_left (fun x hx => ?_)
  simp only [Function.comp]
  unfold markV
  by_cases hr : x.d.id ∈ T
  · rw [if_pos (inL16_iff.2 hr), if_pos ((hT _).1 hr)]
  · rw [if_neg (fun e => hr (inL16_iff.1 e)), if_neg (fun e => hr ((hT _).2 e))]

open Classical in
theorem outsV_done {g : GrD} {id : ByteArray} {T : List ByteArray} {xs : List VtR} (h2 : xs.map (·.d) = g.L) (hT : ∀ x, x ∈ T ↔ Reach g id x) : outsV T xs xs.length = emitV g id := by
  unfold outsV emitV
  rw [List.take_length, ← h2, List.filter_map, List.map_map]
  have : (fun x : VtR => inL16 T x.d.id && !x.d.done) = ((fun v : VtxD => @decide (Reach g id v.id) (Classical.propDecidable _) && !v.done) ∘ fun x : VtR => x.d) := funext (fun x => by
    simp only [Function.comp]
    congr 1
    by_cases hr : x.d.id ∈ T
    · rw [inL16_iff.2 hr]
      exact (decide_eq_true ((hT _).1 hr)).symm
    · rw [Bool.eq_false_iff.2 (fun e => hr (inL16_iff.1 e))]
      exact (decide_eq_false (fun e => hr ((hT _).2 e))).symm)
  rw [this]
  rfl

theorem RGr.ft {T : List ByteArray} {gb : Nat} {q : Value} {xs : List VtR} {i k : Nat} (h : RGt gb q (ysV T xs i) k) : RGt gb q xs k := by
  rcases h with e | e | ⟨y, hy, e⟩
  · exact Or.inl e
  · exact Or.inr (Or.inl e)
  · obtain ⟨x, hx, e1, e2, e3⟩ := ysV_mem hy
    refine Or.inr (Or.inr ⟨x, hx, ?_⟩)
    rcases e with e | e
    · exact Or.inl (by rw [e]; exact e1)
    · refine Or.inr ?_
      show rowFoot textK x.pa x.d.parents k
      have e' : rowFoot textK y.pa y.d.parents k := e
      rw [e2, e3] at e'
      exact e'

/-- A vertex is marked. -/
theorem RGr.mark {T : List ByteArray} {w : World} {gb : Nat} {q : Value} {low : Int} {xs : List VtR} {i : Nat} {x : VtR} (h : RGr w gb q low (ysV T xs i)) (hx : xs[i]? = some x) (hm : inL16 T x.d.id = true) : RGr (w.setCell ⟨x.rb, 4, none⟩ (.bool true)) gb q low (ysV T xs (i + 1)) := by
  have hh := ysV_at (T := T) hx
  have e : markV T x = { x with d := { x.d with done := true } } := by unfold markV; rw [if_pos hm]
  have hp := h.row.put (y := { x with d := { x.d with done := true } }) (k := 4) (v := .bool true) hh rfl (fun _ => Iff.rfl) (fun _ hr => ⟨hr.row⟩) rfl
  rw [ysV_step hx, e]
  refine ⟨h.box.kept hp.2 (fun e' => ?_), hp.1⟩
  have h1 := h.row.gt x (List.mem_of_getElem? hh)
  have e2 : gb = x.rb := e'
  have e3 : vtR.rb x = x.rb := rfl
  omega

section
variable {w : World} {gb : Nat} {S : Nat → Prop} {g : GrD}

set_option maxRecDepth 100000 in
set_option maxHeartbeats 8000000 in
theorem rgEmit_any (id : ByteArray) (h : RG16 w gb S g) :
    Calls Try.prog 8 #[.pointer (some ⟨gb, 0, none⟩), .string id] w (GotEmitR w gb S g id) := by
  obtain ⟨q, xs, hG, h2, h3⟩ := h.ex
  have hok : Hid (GrOk g) := h.ok
  have hl : xs.length ≤ 256 := by have := h.ok.n; rw [← h2, List.length_map] at this; exact this
  have hgl := hG.box.lt
  obtain ⟨i0, z0, hi0, hz0, hz1, hz2, hz3⟩ := strInfoT
  have cF : ∀ x (w1 : World) (hb : Below w.heap.size w w1), _ := fun x w1 hb => rgFind_any x (hG.below hb) hl
  simp only [h2] at cF
  have cR := fun l s w1 q h hb hl => rgRising_any w.heap.size q l s w1 h hb hl
  have hbA := belowNew w (.cells #[.string id] 9)
  have hQA : KQ textK 9 (w.alloc (.cells #[.string id] 9)) w.heap.size (.slice (some ⟨w.heap.size, 0, none⟩) 1 1) [id] := KQ.of_own (K := textK) (fun _ _ h => h) (fun _ _ => trivial) rfl (World.ownsRow_lit w #[.string id] 1 (Nat.le_refl _) (by decide) rfl)
  have hStart : Hid (Thr g id [id] 0) := Thr.start g id
  have hMz : Hid (MissT g [id] 0 []) := MissT.zero g [id]
  have hrg : Hid (∀ T i, Thr g id T i → T.length ≤ 1793) := fun T i ht => ht.few hok.out
  go_enter Try.func8, Try.ntmps8
  go_wp2_with fail
  obtain ⟨wA, hwA⟩ : ∃ z, w.alloc (.cells #[.string id] 9) = z := ⟨_, rfl⟩
  rw [hwA] at hbA hQA ⊢
  clear hwA
  go_loopw [6, 7, 8, 9, 10] (fun v6 v7 v8 _ _ wr => ∃ (i : Nat) (T M : List ByteArray) (at1 : Option Addr) (ct : Nat) (am : Option Addr) (cm : Nat), i ≤ T.length ∧ T.length ≤ 1793 ∧ v8 = .int .i64 (i : Int) ∧ v7 = .slice at1 T.length ct ∧ v6 = .slice am M.length cm ∧ KQ textK 9 wr w.heap.size (.slice at1 T.length ct) T ∧ KQ textK 9 wr w.heap.size (.slice am M.length cm) M ∧ Hid (∀ k, (Value.slice at1 T.length ct).ownBlock = some k → (Value.slice am M.length cm).ownBlock ≠ some k) ∧ Hid (Thr g id T i) ∧ Hid (M.Pairwise (fun a b => a.toList < b.toList)) ∧ Hid (MissT g T i M) ∧ Hid (M.length ≤ i) ∧ Below w.heap.size w wr) (fun _ _ v _ _ _ => 1793 - (intOf v).toNat)
  case atStart => exact ⟨0, [id], [], _, 1, none, 0, Nat.zero_le _, (by simp), rfl, rfl, rfl, hQA, KQ.empty _ _ _ _, (fun k _ e => by cases e), hStart, (List.Pairwise.nil : List.Pairwise _ _), hMz, Nat.le_refl _, hbA⟩
  case round =>
    obtain ⟨i, T, M, at1, ct, am, cm, hi, hTl, rfl, rfl, rfl, hQT, hQM, hap, hT, hMs, hM, hMl, hbX⟩ := hrel
    by_cases hil : i < T.length
    · have g1 : (i : Int) < (T.length : Int) := by omega
      obtain ⟨x, hx⟩ : ∃ p, T[i]? = some p := ⟨_, List.getElem?_eq_getElem hil⟩
      obtain ⟨b, off, rfl, hbl, t0⟩ := hQT.rowOf.1.txt16 hx
      have cFx := cF x wr hbX
      go_wp2_with fail
      refine cFx.mono ?_
      rintro e w1 ⟨rfl, ⟨hn, rfl⟩ | ⟨j, y, hy, hg, hid, rfl⟩⟩
      · clear cFx cF
        have cRx := cR M x w1 _ hQM hbX.size (by have := hMl.out; omega)
        have hMn : Hid (MissT g T (i + 1) (riseT M x)) := hM.out.put hx hn
        have hMs2 : Hid ((riseT M x).Pairwise (fun a b => a.toList < b.toList)) := riseT_sorted hMs.out
        have hMl2 : Hid ((riseT M x).length ≤ i + 1) := by have := hMl.out; have := riseT_length M x; show _ ≤ i + 1; omega
        have hTn : Hid (Thr g id T (i + 1)) := hT.out.next (fun z hz p hp => by
          rw [hx] at hz
          rw [← Option.some.inj hz] at hp
          unfold upsV at hp
          rw [hn] at hp
          cases hp)
        clear hn hM hMs hMl hT hMz hStart
        obtain ⟨M2, hM2⟩ : ∃ z, riseT M x = z := ⟨_, rfl⟩
        rw [hM2] at hMn hMs2 hMl2 cRx
        clear hM2
        go_wp2_with fail
        refine cRx.mono ?_
        rintro e w2 ⟨q2, rfl, hQ2, hf2, hb2⟩
        obtain ⟨am2, cm2, rfl, _, _⟩ := hQ2.form
        have hQT2 := hQT.below hb2
        have hap2 : Hid (∀ k, (Value.slice (some ⟨b, off, none⟩) T.length ct).ownBlock = some k → (Value.slice am2 M2.length cm2).ownBlock ≠ some k) := fun k e e' => by
          rcases hf2 k e' with e2 | e2
          · exact hap.out k e e2
          · have := (hQT.lt k e).2; omega
        have hbY := hbX.trans (hb2.mono hbX.size)
        clear cRx cR t0 hap hf2 hQM hQT hbX hb2
        go_wp2
        go_roundw
        case rel => exact ⟨i + 1, T, M2, _, ct, am2, cm2, by omega, hTl, by go_num, rfl, rfl, hQT2, hQ2, hap2, hTn, hMs2, hMn, hMl2, hbY⟩
        case measure => simp [intOf]; omega
      · clear cFx cF
        have hym := List.mem_of_getElem? hy
        have hbox0 := hG.row.box y hym
        have hyR0 := (hG.row.at_ y hym).row
        have hpl : Hid (y.d.parents.length ≤ 7) := hok.out.ps y.d (by rw [← h2]; exact List.mem_map_of_mem hym)
        have hgi : Hid (getV g.L x = some y.d) := hg
        obtain ⟨yb, hyb⟩ : ∃ z, Hid (y.rb = z) := ⟨_, rfl⟩
        obtain ⟨yr, hyr⟩ : ∃ z, Hid (y.d.round = z) := ⟨_, rfl⟩
        obtain ⟨yd, hyd⟩ : ∃ z, Hid (y.d.done = z) := ⟨_, rfl⟩
        obtain ⟨ps, hps⟩ : ∃ z, Hid (y.d.parents = z) := ⟨_, rfl⟩
        obtain ⟨pa, hpa⟩ : ∃ z, Hid (y.pa = z) := ⟨_, rfl⟩
        obtain ⟨pc, hpc⟩ : ∃ z, Hid (y.pc = z) := ⟨_, rfl⟩
        obtain ⟨lo, hlo⟩ : ∃ z, Hid (g.low = z) := ⟨_, rfl⟩
        have hbox1 : Arr w yb 55 [.string y.d.id, .int .i64 yr, .int .i64 y.d.author, .slice pa ps.length pc, .bool yd] := by
          rw [← hyb.out, ← hyr.out, ← hyd.out, ← hps.out, ← hpa.out, ← hpc.out]
          exact hbox0
        have hyR : RowAt textK w pa ps := by rw [← hps.out, ← hpa.out]; exact hyR0
        have hgB : Arr w gb 28 [q, .int .i64 lo] := by rw [← hlo.out]; exact hG.box
        have hup : Hid (upsV g x = if lo < yr ∧ yd = false then ps else []) := by
          show _ = _
          unfold upsV
          rw [hgi.out, hlo.out]
          simp only
          rw [hyr.out, hyd.out, hps.out]
        rw [hps.out] at hpl
        have hrbe : y.rb = yb := hyb.out
        clear hbox0 hyR0 hg hyr hyd hps hpa hpc
        simp only [hrbe]
        clear hrbe
        have hxT : Hid (T[i]? = some x) := hx
        have hp7 : ps.length ≤ 7 := hpl.out
        go_wp2_with fail
        go_loopw [7, 10] (fun v7 v10 wr => ∃ (k : Nat) (T2 : List ByteArray) (at2 : Option Addr) (ct2 : Nat), k ≤ ps.length ∧ i < T2.length ∧ T2.length ≤ 1793 ∧ v10 = .int .i64 (k : Int) ∧ v7 = .slice at2 T2.length ct2 ∧ KQ textK 9 wr w.heap.size (.slice at2 T2.length ct2) T2 ∧ KQ textK 9 wr w.heap.size (.slice am M.length cm) M ∧ Hid (∀ k, (Value.slice at2 T2.length ct2).ownBlock = some k → (Value.slice am M.length cm).ownBlock ≠ some k) ∧ Hid (Thr g id T2 i) ∧ Hid (T2[i]? = some x) ∧ Hid (MissT g T2 i M) ∧ Hid (∀ p ∈ ps.take k, p ∈ T2) ∧ Below w.heap.size w wr) (fun _ v _ => ps.length - (intOf v).toNat)
        case atStart => exact ⟨0, T, _, ct, Nat.zero_le _, hil, hTl, rfl, rfl, hQT, hQM, hap, hT, hxT, hM, (fun p hp => by simp at hp), hbX⟩
        case round =>
          clear hQT hQM hap hT hxT hM hbX t0 hx hTl hi hil g1
          obtain ⟨k, T2, at2, ct2, hk, hil, hTl, rfl, rfl, hQT, hQM, hap, hT, hx, hM, hin, hbX⟩ := hrel
          have c1 : wr.cell? ⟨gb, 1, none⟩ = some (.int .i64 lo) := (hgB.below hbX hgl).cell (i := 1) rfl
          have hboxr := hbox1.below hbX hbox1.lt
          have y1 := hboxr.cell (i := 1) rfl
          have y3 := hboxr.cell (i := 3) rfl
          have y4 := hboxr.cell (i := 4) rfl
          by_cases hc : k < ps.length ∧ lo < yr ∧ yd = false
          · obtain ⟨hkl, hlr, rfl⟩ := hc
            have g1 : (k : Int) < (ps.length : Int) := by omega
            have g1d : decide (k < ps.length) = true := decide_eq_true hkl
            have g2d : decide (lo < yr) = true := decide_eq_true hlr
            obtain ⟨p, hp⟩ : ∃ p, ps[k]? = some p := ⟨_, List.getElem?_eq_getElem hkl⟩
            obtain ⟨pb, po, rfl, hpl2, p0⟩ := (hyR.below hbX).txt16 hp
            go_upto_region 10 with fail
            go_quiet (fail)
            have hbq := below_drewN (Below.refl wr.heap.size wr) nq
            have hQT3 := hQT.below hbq
            have hQM3 := hQM.below hbq
            have hbY := hbX.trans (hbq.mono hbX.size)
            generalize wr.drewN nq = w3 at hQT3 hQM3 hbY ⊢
            clear c1 y1 y3 y4 p0 hboxr hQT hQM hbX hbq
            have hbox3 := hbox1.below hbY hbox1.lt
            have y3 := hbox3.cell (i := 3) rfl
            obtain ⟨pb', po', ep, -, p0⟩ := (hyR.below hbY).txt16 hp
            simp only [Option.some.injEq, Addr.mk.injEq, and_true] at ep
            obtain ⟨rfl, rfl⟩ := ep
            have cH := rgHas_any at2 ct2 T2 p w3 hQT3.rowOf.1 (by omega)
            have hpm : Hid (p ∈ upsV g x) := by
              show p ∈ _
              rw [hup.out, if_pos ⟨hlr, rfl⟩]
              exact List.mem_of_getElem? hp
            have hin1 : Hid (∀ z ∈ ps.take (k + 1), z = p ∨ z ∈ T2) := fun z hz => by
              rw [List.take_add_one, hp, List.mem_append] at hz
              rcases hz with hz | hz
              · exact Or.inr (hin.out z hz)
              · exact Or.inl (by simpa using hz)
            clear hin hp hup
            go_wp2_with fail
            refine cH.mono ?_
            rintro e w4 ⟨rfl, rfl⟩
            clear cH
            cases hB : inL16 T2 p with
            | true =>
              have hpT := inL16_iff.1 hB
              have hin2 : Hid (∀ z ∈ ps.take (k + 1), z ∈ T2) := fun z hz => (hin1.out z hz).elim (fun e => by rw [e]; exact hpT) (fun e => e)
              clear hin1 hpT hB
              go_wp2
              go_roundw
              case rel => exact ⟨k + 1, T2, at2, ct2, by omega, hil, hTl, by go_num, rfl, hQT3, hQM3, hap, hT, hx, hM, hin2, hbY⟩
              case measure => simp [intOf]; omega
            | false =>
              have hpn : p ∉ T2 := fun e => by rw [inL16_iff.2 e] at hB; cases hB
              have hT2 : Hid (Thr g id (T2 ++ [p]) i) := hT.out.more (List.mem_of_getElem? hx.out) hpm.out hpn (by omega)
              have hl2 : Hid ((T2 ++ [p]).length ≤ 1793) := hrg.out _ _ hT2.out
              have hx2 : Hid ((T2 ++ [p])[i]? = some x) := by show _ = _; rw [List.getElem?_append_left hil]; exact hx.out
              have hM2 : Hid (MissT g (T2 ++ [p]) i M) := hM.out.more (by omega) p
              have hin2 : Hid (∀ z ∈ ps.take (k + 1), z ∈ T2 ++ [p]) := fun z hz => List.mem_append.2 ((hin1.out z hz).elim (fun e => Or.inr (List.mem_singleton.2 e)) Or.inl)
              have hbn := belowNew w4 (.cells #[.string p] 9)
              have hQT4 := hQT3.below hbn
              have hQM4 := hQM3.below hbn
              have hbZ := hbY.trans (hbn.mono hbY.size)
              have hbs := hbZ.size
              have hN := new_text w4 p
              have m1 : T2.length + 1 ≤ maxLen := by unfold maxLen; omega
              have m2 : (T2.length + 1) * 16 ≤ 140737488355328 := by omega
              clear hin1 hpn hT hx hM hpm hB hQT3 hQM3 hbn
              go_wp2_with (at_builtin; refine wpList_pushN (K := textK) rfl _ _ 29 rfl w.heap.size 9 i0 _ 16 Try.underlying29 hi0 hz0 hz1 hz2 hz3 _ T2 rfl hQT4 p trivial (fun _ h => h.elim) ⟨w4.heap.size, 0, none⟩ 1 rfl hN m1 m2 hbs ?_)
              intro at5 ct5 w5 hQT5 hk5 hf5
              obtain ⟨n5, hn5⟩ : ∃ z, T2.length + 1 = z := ⟨_, rfl⟩
              rw [hn5] at hQT5 hf5 ⊢
              have hn6 : n5 = (T2 ++ [p]).length := by rw [List.length_append, List.length_singleton, hn5]
              clear hn5
              subst hn6
              have hQM5 := hQM4.kept hk5 (fun j e e' => hap.out j e' e) (fun _ _ _ h => h.elim)
              have hb5 := hbZ.trans (hk5.below hbs (fun j e => (hQT4.lt j e).1))
              have hap5 : Hid (∀ j, (Value.slice at5 (T2 ++ [p]).length ct5).ownBlock = some j → (Value.slice am M.length cm).ownBlock ≠ some j) := fun j e e' => by
                rcases hf5 j e with e2 | e2
                · exact hap.out j e2 e'
                · have := (hQM4.lt j e').2; omega
              have hl3 : (T2 ++ [p]).length ≤ 1793 := hl2.out
              have hi3 : i < (T2 ++ [p]).length := by rw [List.length_append]; omega
              clear hap hk5 hf5 hQT4 hQM4 hbZ hbs hN m1 m2 y3 p0 hbox3 hbY
              obtain ⟨T5, hT5⟩ : ∃ z, T2 ++ [p] = z := ⟨_, rfl⟩
              rw [hT5] at hT2 hl2 hx2 hM2 hin2 hQT5 hap5 hl3 hi3 ⊢
              clear hT5
              go_wp2
              go_roundw
              case rel => exact ⟨k + 1, T5, at5, ct5, by omega, hi3, hl3, by go_num, rfl, hQT5, hQM5, hap5, hT2, hx2, hM2, hin2, hb5⟩
              case measure => simp [intOf]; omega
          · have hcl : Hid (∀ p ∈ upsV g x, p ∈ T2) := fun p hp => by
              rw [hup.out] at hp
              split at hp
              · rename_i hc2
                have : ¬ k < ps.length := fun e => hc ⟨e, hc2⟩
                exact hin.out p (by rw [List.take_of_length_le (by omega)]; exact hp)
              · cases hp
            have hTn : Hid (Thr g id T2 (i + 1)) := hT.out.next (fun z hz p hp => by
              rw [hx.out] at hz
              rw [← Option.some.inj hz] at hp
              exact hcl.out p hp)
            have hMn : Hid (MissT g T2 (i + 1) M) := hM.out.skip hx.out hgi.out
            have hMs2 : Hid _ := hMs.out
            have hMl2 : Hid (M.length ≤ i + 1) := by have := hMl.out; show _ ≤ i + 1; omega
            clear hcl hin hT hM hup hx
            by_cases hkl : k < ps.length
            · have g1 : (k : Int) < (ps.length : Int) := by omega
              have g1d : decide (k < ps.length) = true := decide_eq_true hkl
              by_cases hlr : lo < yr
              · have g2d : decide (lo < yr) = true := decide_eq_true hlr
                have hyd2 : yd = true := by
                  cases yd with
                  | true => rfl
                  | false => exact (hc ⟨hkl, hlr, rfl⟩).elim
                subst hyd2
                go_upto_region 10 with fail
                go_quiet (fail)
                have hbq := below_drewN (Below.refl wr.heap.size wr) nq
                have hQT3 := hQT.below hbq
                have hQM3 := hQM.below hbq
                have hbY := hbX.trans (hbq.mono hbX.size)
                generalize wr.drewN nq = w3 at hQT3 hQM3 hbY ⊢
                clear c1 y1 y3 y4 hboxr hQT hQM hbX hbq
                go_wp2
                go_roundw
                case rel => exact ⟨i + 1, T2, M, at2, ct2, am, cm, hil, hTl, by go_num, rfl, rfl, hQT3, hQM3, hap, hTn, hMs2, hMn, hMl2, hbY⟩
                case measure => simp [intOf]; omega
              · have g2d : decide (lo < yr) = false := decide_eq_false hlr
                go_upto_region 10 with fail
                go_quiet (fail)
                have hbq := below_drewN (Below.refl wr.heap.size wr) nq
                have hQT3 := hQT.below hbq
                have hQM3 := hQM.below hbq
                have hbY := hbX.trans (hbq.mono hbX.size)
                generalize wr.drewN nq = w3 at hQT3 hQM3 hbY ⊢
                clear c1 y1 y3 y4 hboxr hQT hQM hbX hbq
                go_wp2
                go_roundw
                case rel => exact ⟨i + 1, T2, M, at2, ct2, am, cm, hil, hTl, by go_num, rfl, rfl, hQT3, hQM3, hap, hTn, hMs2, hMn, hMl2, hbY⟩
                case measure => simp [intOf]; omega
            · have g1 : ¬ (k : Int) < (ps.length : Int) := by omega
              have g1d : decide (k < ps.length) = false := decide_eq_false hkl
              go_upto_region 10 with fail
              go_quiet (fail)
              have hbq := below_drewN (Below.refl wr.heap.size wr) nq
              have hQT3 := hQT.below hbq
              have hQM3 := hQM.below hbq
              have hbY := hbX.trans (hbq.mono hbX.size)
              generalize wr.drewN nq = w3 at hQT3 hQM3 hbY ⊢
              clear c1 y1 y3 y4 hboxr hQT hQM hbX hbq
              go_wp2
              go_roundw
              case rel => exact ⟨i + 1, T2, M, at2, ct2, am, cm, hil, hTl, by go_num, rfl, rfl, hQT3, hQM3, hap, hTn, hMs2, hMn, hMl2, hbY⟩
              case measure => simp [intOf]; omega
    · obtain rfl : i = T.length := by omega
      have g1 : ¬ ((T.length : Nat) : Int) < (T.length : Int) := by omega
      have hTr : Hid (∀ x, x ∈ T ↔ Reach g id x) := hT.out.ends (Nat.le_refl _)
      have hMO : Hid (MissOf g id M) := ⟨hMs.out, fun x => by rw [hM.out x, List.take_length, hTr.out x]⟩
      clear hT hMs hM cF cR hMz hStart hrg
      by_cases hM0 : M = []
      · have g2 : ¬ (0 : Int) < (M.length : Int) := by rw [hM0]; simp
        have hMO2 : Hid (MissOf g id []) := by rw [← hM0]; exact hMO.out
        have hk0 : Hid (Kept S w wr) := Kept.of_below hbX
        have hGr := hG.below hbX
        obtain ⟨qa, qc, rfl, -, -⟩ := hG.row.row.form
        rw [List.length_map] at hGr h3
        have hS3 : Hid (∀ k, RGt gb (.slice qa xs.length qc) xs k → S k ∧ k < w.heap.size) := fun k hk => ⟨h3 k hk, h.lt k (h3 k hk)⟩
        have hrest : Hid (∀ W, RGr W gb (.slice qa xs.length qc) g.low (ysV T xs xs.length) → w.heap.size ≤ W.heap.size → RG16 W gb S (doneV g id)) := fun W hW hs =>
          ⟨⟨_, _, hW, ysV_done h2 hTr.out, fun k hk => h3 k (RGr.ft hk)⟩, hok.out.done id, fun k hk => Nat.lt_of_lt_of_le (h.lt k hk) hs, h.ge⟩
        have hov : Hid (outsV T xs xs.length = emitV g id) := outsV_done h2 hTr.out
        have hws := hbX.size
        have hTlt : Hid (∀ k, (Value.slice at1 T.length ct).ownBlock = some k → w.heap.size ≤ k ∧ k < wr.heap.size) := fun k e => hQT.lt k e
        obtain ⟨lw, hlw⟩ : ∃ z, Hid (g.low = z) := ⟨_, rfl⟩
        rw [hlw.out] at hGr hrest
        clear hG h h2 h3 hok hTr hMO hMl hap hbX hQM hM0 hlw
        obtain ⟨wB, hwB⟩ : ∃ z, z = wr := ⟨_, rfl⟩
        subst hwB
        go_wp2_with fail
        go_loopw [11, 12] (fun v11 v12 W => ∃ (i : Nat) (al : Option Addr) (cl : Nat), i ≤ xs.length ∧ v12 = .int .i64 (i : Int) ∧ v11 = .slice al (outsV T xs i).length cl ∧ KQ textK 9 W wB.heap.size (.slice al (outsV T xs i).length cl) (outsV T xs i) ∧ RGr W gb (.slice qa xs.length qc) lw (ysV T xs i) ∧ KQ textK 9 W w.heap.size (.slice at1 T.length ct) T ∧ Hid (Kept S wB W) ∧ wB.heap.size ≤ W.heap.size) (fun _ v _ => xs.length - (intOf v).toNat)
        case atStart => exact ⟨0, none, 0, Nat.zero_le _, rfl, rfl, KQ.empty _ _ _ _, hGr, hQT, Kept.refl _ _, Nat.le_refl _⟩
        case round =>
          clear hQT hGr
          obtain ⟨i, al, cl, hi, rfl, rfl, hQ, hGr, hQT, hkB, hbs0⟩ := hrel
          have d0 := hGr.box.cell (i := 0) rfl
          have d0f := hGr.box.frozen 0
          by_cases hil : i < xs.length
          · have g1 : (i : Int) < (xs.length : Int) := by omega
            obtain ⟨x, hx⟩ : ∃ p, xs[i]? = some p := ⟨_, List.getElem?_eq_getElem hil⟩
            have hxm := List.mem_of_getElem? hx
            have hxy := List.mem_of_getElem? (ysV_at (T := T) hx)
            have hol := outsV_len T xs i
            obtain ⟨b, off, rfl, hbl, y0⟩ := ((hGr.row.row.rowOf).1).pointer (i := i) (x := x.rb) (by
              show ((ysV T xs i).map VtR.rb)[i]? = _
              rw [List.getElem?_map, ysV_at hx]; rfl)
            have z0' : wr.cell? ⟨x.rb, 0, none⟩ = some (.string x.d.id) := (hGr.row.box x hxy).cell (i := 0) rfl
            have z4 : wr.cell? ⟨x.rb, 4, none⟩ = some (.bool x.d.done) := (hGr.row.box x hxy).cell (i := 4) rfl
            have hxS : Hid (S x.rb ∧ x.rb < w.heap.size) := hS3.out x.rb (Or.inr (Or.inr ⟨x, hxm, Or.inl rfl⟩))
            have hst := outsV_step (T := T) hx
            have hmk : inL16 T x.d.id = true → ∀ U, RGr U gb (.slice (some ⟨b, off, none⟩) xs.length qc) lw (ysV T xs i) → RGr (U.setCell ⟨x.rb, 4, none⟩ (.bool true)) gb (.slice (some ⟨b, off, none⟩) xs.length qc) lw (ysV T xs (i + 1)) := fun hm U hU => hU.mark hx hm
            have hpt : Hid (∀ U, RGr U gb (.slice (some ⟨b, off, none⟩) xs.length qc) lw (ysV T xs i) → U.cell? ⟨b, off + i, none⟩ = some (.pointer (some ⟨x.rb, 0, none⟩)) ∧ U.cell? ⟨gb, 0, none⟩ = some (.slice (some ⟨b, off, none⟩) xs.length qc) ∧ U.frozen? ⟨x.rb, 4, none⟩ = false ∧ U.cell? ⟨x.rb, 4, none⟩ = some (.bool x.d.done)) := fun U hU => by
              obtain ⟨b', off', e', _, y'⟩ := ((hU.row.row.rowOf).1).pointer (i := i) (x := x.rb) (by
                show ((ysV T xs i).map VtR.rb)[i]? = _
                rw [List.getElem?_map, ysV_at hx]; rfl)
              simp only [Option.some.injEq, Addr.mk.injEq, and_true] at e'
              obtain ⟨rfl, rfl⟩ := e'
              exact ⟨y', hU.box.cell (i := 0) rfl, (hU.row.box x hxy).frozen 4, (hU.row.box x hxy).cell (i := 4) rfl⟩
            have hsm : (inL16 T x.d.id = false ∨ x.d.done = true) → ysV T xs (i + 1) = ysV T xs i := fun hh => ysV_same hx (by
              unfold markV
              split
              · rename_i he
                rcases hh with e | e
                · rw [he] at e; cases e
                · obtain ⟨⟨a1, a2, a3, a4, a5⟩, a6, a7, a8⟩ := x
                  simp only at e
                  subst e
                  rfl
              · rfl)
            have cH := rgHas_any at1 ct T x.d.id wr hQT.rowOf.1 (by omega)
            obtain ⟨xi, hxi⟩ : ∃ z, Hid (x.d.id = z) := ⟨_, rfl⟩
            obtain ⟨xd, hxd⟩ : ∃ z, Hid (x.d.done = z) := ⟨_, rfl⟩
            rw [hxi.out] at cH hst hmk hsm z0'
            rw [hxd.out] at hst hsm z4
            go_wp2_with fail
            refine cH.mono ?_
            rintro e w1 ⟨rfl, rfl⟩
            clear cH
            cases hB : inL16 T xi with
            | false =>
              rw [hB, Bool.false_and, if_neg (by decide)] at hst
              have hys := hsm (Or.inl hB)
              have hnn : Hid (∀ P : List ByteArray → List VtR → Prop, P (outsV T xs i) (ysV T xs i) → P (outsV T xs (i + 1)) (ysV T xs (i + 1))) := fun P hP => by rw [hst, hys]; exact hP
              clear hst hys hsm hmk hB
              go_wp2
              go_roundw
              case rel => exact ⟨i + 1, al, cl, by omega, by go_num, hnn.out (fun L _ => _ = Value.slice al L.length cl) rfl, hnn.out (fun L _ => KQ textK 9 w1 wB.heap.size (.slice al L.length cl) L) hQ, hnn.out (fun _ Y => RGr w1 gb _ lw Y) hGr, hQT, hkB, hbs0⟩
              case measure => simp [intOf]; omega
            | true =>
              cases xd with
              | true =>
                rw [Bool.not_true, Bool.and_false, if_neg (by decide)] at hst
                have hys := hsm (Or.inr rfl)
                have hnn : Hid (∀ P : List ByteArray → List VtR → Prop, P (outsV T xs i) (ysV T xs i) → P (outsV T xs (i + 1)) (ysV T xs (i + 1))) := fun P hP => by rw [hst, hys]; exact hP
                clear hst hys hsm hmk hB
                go_wp2
                go_roundw
                case rel => exact ⟨i + 1, al, cl, by omega, by go_num, hnn.out (fun L _ => _ = Value.slice al L.length cl) rfl, hnn.out (fun L _ => KQ textK 9 w1 wB.heap.size (.slice al L.length cl) L) hQ, hnn.out (fun _ Y => RGr w1 gb _ lw Y) hGr, hQT, hkB, hbs0⟩
                case measure => simp [intOf]; omega
              | false =>
                rw [hB, Bool.not_false, Bool.and_true, if_pos rfl] at hst
                have hmk2 : Hid _ := hmk hB
                obtain ⟨xb, hxb⟩ : ∃ z, Hid (x.rb = z) := ⟨_, rfl⟩
                rw [hxb.out] at hmk2 hpt z4 z0' y0 hxS
                rw [hxd.out] at hpt
                have hbn := belowNew w1 (.cells #[.string xi] 9)
                have hQ3 := hQ.below hbn
                have hQT3 := hQT.below hbn
                have hG3 := hGr.below hbn
                have hN := new_text w1 xi
                have hbs : wB.heap.size ≤ (w1.alloc (.cells #[.string xi] 9)).heap.size := Nat.le_trans hbs0 hbn.size
                have m1 : (outsV T xs i).length + 1 ≤ maxLen := by unfold maxLen; omega
                have m2 : ((outsV T xs i).length + 1) * 16 ≤ 140737488355328 := by omega
                have hkB3 : Hid (Kept S wB (w1.alloc (.cells #[.string xi] 9))) := hkB.out.trans (Kept.of_below hbn)
                have hst' : Hid _ := hst
                have hlo' : Hid (∀ k, RGt gb (.slice (some ⟨b, off, none⟩) xs.length qc) (ysV T xs i) k → S k ∧ k < w.heap.size) := fun k hk => hS3.out k (RGr.ft hk)
                clear hst hmk hsm hB hQ hQT hGr hbn hkB hx hxm hxy
                obtain ⟨ol, hol2⟩ : ∃ z, Hid (outsV T xs i = z) := ⟨_, rfl⟩
                rw [hol2.out] at hst' hQ3 m1 m2 hol ⊢
                go_wp2_with (at_builtin; refine wpList_pushN (K := textK) rfl _ _ 29 rfl wB.heap.size 9 i0 _ 16 Try.underlying29 hi0 hz0 hz1 hz2 hz3 _ ol rfl hQ3 xi trivial (fun _ h => h.elim) ⟨w1.heap.size, 0, none⟩ 1 rfl hN m1 m2 hbs ?_)
                intro al5 cl5 w5 hQ5 hk5 hf5
                have hown : Hid (∀ k, (Value.slice al ol.length cl).ownBlock = some k → wB.heap.size ≤ k) := fun k e => (hQ3.lt k e).1
                have hG5 := hG3.kept hk5 (fun k hk e => by have := hown.out k e; have := (hlo'.out k hk).2; omega)
                have hT5 := hQT3.kept hk5 (fun k hk e => by have := hown.out k e; have := (hTlt.out k hk).2; omega) (fun _ _ _ h => h.elim)
                have hkB5 : Hid (Kept S wB w5) := hkB3.out.transNew hk5 (fun k e => hown.out k e)
                have hbs5 : wB.heap.size ≤ w5.heap.size := Nat.le_trans hbs hk5.size
                have hks := Kept.setCell w5 ⟨xb, 4, none⟩ (.bool true)
                have hQ6 := hQ5.kept hks (fun k e e' => by have := (hQ5.lt k e).1; have e2 : k = xb := e'; have := hxS.out.2; omega) (fun _ _ _ h => h.elim)
                have hT6 := hT5.kept hks (fun k e e' => by have := (hT5.lt k e).1; have e2 : k = xb := e'; have := hxS.out.2; omega) (fun _ _ _ h => h.elim)
                have hkB6 : Hid (Kept S wB (w5.setCell ⟨xb, 4, none⟩ (.bool true))) := hkB5.out.set (p := ⟨xb, 4, none⟩) hxS.out.1 _
                have hbs6 : wB.heap.size ≤ (w5.setCell ⟨xb, 4, none⟩ (.bool true)).heap.size := Nat.le_trans hbs5 hks.size
                have hG6 := hmk2.out w5 hG5
                obtain ⟨y5, d5, f5, e5⟩ := hpt.out w5 hG5
                obtain ⟨n5, hn5⟩ : ∃ z, Hid ((outsV T xs (i + 1)).length = z) := ⟨_, rfl⟩
                have hl5 : Hid (ol.length + 1 = (outsV T xs (i + 1)).length) := by show _ = _; rw [hst'.out, List.length_append, List.length_singleton]
                try rw [hl5.out] at hQ6
                try rw [hl5.out]
                rw [← hst'.out] at hQ6
                clear hQ5 hT5 hks hkB5 hkB3 hk5 hf5 hQ3 hQT3 hG3 hN m1 m2 hbs hG5 hpt hmk2 hst' hol2 hown hl5 hn5 d0 d0f y0 z0' z4
                go_wp2
                go_roundw
                case rel => exact ⟨i + 1, al5, cl5, by omega, by go_num, rfl, hQ6, hG6, hT6, hkB6, hbs6⟩
                case measure => simp [intOf]; omega
          · obtain rfl : i = xs.length := by omega
            have g1 : ¬ ((xs.length : Nat) : Int) < (xs.length : Int) := by omega
            have hfin := hrest.out wr hGr (Nat.le_trans hws hbs0)
            have hkF := hk0.out.trans hkB.out
            have hQF := hQ.rebase hws
            have hou := hov.out
            have hall : Hid (GotEmitR w gb S g id (.returned (.tuple #[.slice al (outsV T xs xs.length).length cl, .slice none 0 0])) wr) := by
              refine ⟨outsV T xs xs.length, [], al, cl, none, 0, rfl, hMO2.out, hQF, KQ.empty _ _ _ _, hkF, Or.inl ⟨rfl, hou, hfin⟩⟩
            clear hfin hkF hQF hou hQ hGr hQT hkB
            go_wp2
            go_ret2
            exact hall.out
      · have g2 : (0 : Int) < (M.length : Int) := by
          have := List.length_pos_iff.2 hM0
          omega
        have hG2 : Hid (RG16 wr gb S g) := h.kept (Kept.of_below (S := fun _ => False) hbX) (fun _ _ e => e)
        have hkS : Hid (Kept S w wr) := Kept.of_below hbX
        clear hG hQT hap hbX h h2 h3 hok
        go_wp2
        go_ret2
        exact ⟨[], M, none, 0, am, cm, rfl, hMO.out, KQ.empty _ _ _ _, hQM, hkS.out, Or.inr ⟨hM0, rfl, hG2.out⟩⟩
end
end Go.Proofs.Ytfbpjdjajecajaa
