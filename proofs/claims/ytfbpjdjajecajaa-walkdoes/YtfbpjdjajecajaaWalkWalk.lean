/- What walk of the program's graph does. -/
import Derived.Test.YtfbpjdjajecajaaWalkAdd
import Derived.Test.YtfbpjdjajecajaaSortCplx
import Derived.Test.YtfbpjdjajecajaaWalkRows
namespace Go.Proofs.Ytfbpjdjajecajaa
open Go Go.RowKit Go.Maps
set_option linter.unusedVariables false

/-- What is seen. -/
def seenC (G : List PlI) (p : PlD) : Option Value := if p ∈ G.map (·.1) then some (.agg #[]) else none

/-- The block of a row. -/
def ownA (ao : Option Addr) : Option Nat := (Value.slice ao 0 0).ownBlock

theorem ownA_eq (ao : Option Addr) (n c : Nat) : (Value.slice ao n c).ownBlock = ownA ao := by cases ao <;> rfl

/-- The rows of the way, and what is seen, new since w. -/
structure WMem (w wr : World) (sb : Nat) (ao4 : Option Addr) (nF c4 : Nat) (ao5 : Option Addr) (nM c5 : Nat) (ao7 : Option Addr) (nA c7 : Nat) (F G : List PlI) (M A : List ByteArray) : Prop where
  k4 : KQ cK 45 wr w.heap.size (.slice ao4 nF c4) F
  k5 : KQ textK 9 wr w.heap.size (.slice ao5 nM c5) M
  k7 : KQ textK 9 wr w.heap.size (.slice ao7 nA c7) A
  lF : nF = F.length
  lM : nM = M.length
  lA : nA = A.length
  sm : CMap wr sb (seenC G) G.length
  sB : w.heap.size ≤ sb
  a45 : ∀ k, ownA ao4 = some k → ownA ao5 ≠ some k
  a47 : ∀ k, ownA ao4 = some k → ownA ao7 ≠ some k
  a57 : ∀ k, ownA ao5 = some k → ownA ao7 ≠ some k
  a4 : ownA ao4 ≠ some sb
  a5 : ownA ao5 ≠ some sb
  a7 : ownA ao7 ≠ some sb
  szA : ∀ x ∈ A, x.size ≤ maxLen
  szM : ∀ x ∈ M, x.size ≤ maxLen
  bel : Below w.heap.size w wr

section
variable {w wr w' : World} {sb : Nat} {ao4 : Option Addr} {nF c4 : Nat} {ao5 : Option Addr} {nM c5 : Nat} {ao7 : Option Addr} {nA c7 : Nat} {F G : List PlI} {M A : List ByteArray}

theorem noFootC (x : PlI) (b : Nat) : ¬ cK.foot x b := fun h => h.elim
theorem noFootT (x : ByteArray) (b : Nat) : ¬ textK.foot x b := fun h => h.elim

theorem WMem.lt4 (h : WMem w wr sb ao4 nF c4 ao5 nM c5 ao7 nA c7 F G M A) {k : Nat} (hk : ownA ao4 = some k) : w.heap.size ≤ k ∧ k < wr.heap.size := h.k4.lt k (by rw [ownA_eq]; exact hk)
theorem WMem.lt5 (h : WMem w wr sb ao4 nF c4 ao5 nM c5 ao7 nA c7 F G M A) {k : Nat} (hk : ownA ao5 = some k) : w.heap.size ≤ k ∧ k < wr.heap.size := h.k5.lt k (by rw [ownA_eq]; exact hk)
theorem WMem.lt7 (h : WMem w wr sb ao4 nF c4 ao5 nM c5 ao7 nA c7 F G M A) {k : Nat} (hk : ownA ao7 = some k) : w.heap.size ≤ k ∧ k < wr.heap.size := h.k7.lt k (by rw [ownA_eq]; exact hk)

theorem WMem.below (h : WMem w wr sb ao4 nF c4 ao5 nM c5 ao7 nA c7 F G M A) (hb : Below wr.heap.size wr w') : WMem w w' sb ao4 nF c4 ao5 nM c5 ao7 nA c7 F G M A :=
  { h with k4 := h.k4.below hb, k5 := h.k5.below hb, k7 := h.k7.below hb, sm := h.sm.below hb, bel := h.bel.trans (hb.mono h.bel.size) }

theorem WMem.cutA (h : WMem w wr sb ao4 nF c4 ao5 nM c5 ao7 nA c7 F G M A) (m : Nat) (hm : m ≤ A.length) : WMem w wr sb ao4 nF c4 ao5 nM c5 ao7 m c7 F G M (A.take m) :=
  { h with k7 := h.k7.cutEnd noFootT m hm, lA := by rw [List.length_take]; omega, szA := fun x hx => h.szA x (List.mem_of_mem_take hx) }

theorem WMem.pushM (h : WMem w wr sb ao4 nF c4 ao5 nM c5 ao7 nA c7 F G M A) {x : ByteArray} (hx : x.size ≤ maxLen) {ao' : Option Addr} {n' c' : Nat} (hk : KQ textK 9 w' w.heap.size (.slice ao' n' c') (M ++ [x])) (hn : n' = (M ++ [x]).length) (hkept : Kept (fun k => (Value.slice ao5 nM c5).ownBlock = some k) wr w') (hf : Fresh wr (.slice ao5 nM c5) (.slice ao' n' c')) :
    WMem w w' sb ao4 nF c4 ao' n' c' ao7 nA c7 F G (M ++ [x]) A := by
  have hfr : ∀ k, ownA ao' = some k → ownA ao5 = some k ∨ wr.heap.size ≤ k := fun k e => by have := hf k (by rw [ownA_eq]; exact e); rwa [ownA_eq] at this
  simp only [ownA_eq] at hkept
  have hsb := h.sm.lt
  exact { k4 := h.k4.kept hkept (fun k e => by rw [ownA_eq] at e; exact h.a45 k e) (fun x _ b hb => absurd hb (noFootC x b))
          k5 := hk
          k7 := h.k7.kept hkept (fun k e e' => by rw [ownA_eq] at e; exact h.a57 k e' e) (fun x _ b hb => absurd hb (noFootT x b))
          lF := h.lF, lM := hn, lA := h.lA
          sm := h.sm.kept hkept (fun e => h.a5 e), sB := h.sB
          a45 := fun k e e' => by rcases hfr k e' with q | q; exact h.a45 k e q; have := h.lt4 e; omega
          a47 := h.a47
          a57 := fun k e e' => by rcases hfr k e with q | q; exact h.a57 k q e'; have := h.lt7 e'; omega
          a4 := h.a4
          a5 := fun e => by rcases hfr sb e with q | q; exact h.a5 q; omega
          a7 := h.a7
          szA := h.szA
          szM := fun y hy => by rcases List.mem_append.1 hy with e | e; exact h.szM y e; rw [List.mem_singleton.1 e]; exact hx
          bel := h.bel.trans (hkept.below h.bel.size (fun k e => (h.lt5 e).1)) }

theorem WMem.pushF (h : WMem w wr sb ao4 nF c4 ao5 nM c5 ao7 nA c7 F G M A) {x : PlI} {ao' : Option Addr} {n' c' : Nat} (hk : KQ cK 45 w' w.heap.size (.slice ao' n' c') (F ++ [x])) (hn : n' = (F ++ [x]).length) (hkept : Kept (fun k => (Value.slice ao4 nF c4).ownBlock = some k) wr w') (hf : Fresh wr (.slice ao4 nF c4) (.slice ao' n' c')) :
    WMem w w' sb ao' n' c' ao5 nM c5 ao7 nA c7 (F ++ [x]) G M A := by
  have hfr : ∀ k, ownA ao' = some k → ownA ao4 = some k ∨ wr.heap.size ≤ k := fun k e => by have := hf k (by rw [ownA_eq]; exact e); rwa [ownA_eq] at this
  simp only [ownA_eq] at hkept
  have hsb := h.sm.lt
  exact { k4 := hk
          k5 := h.k5.kept hkept (fun k e e' => by rw [ownA_eq] at e; exact h.a45 k e' e) (fun x _ b hb => absurd hb (noFootT x b))
          k7 := h.k7.kept hkept (fun k e e' => by rw [ownA_eq] at e; exact h.a47 k e' e) (fun x _ b hb => absurd hb (noFootT x b))
          lF := hn, lM := h.lM, lA := h.lA
          sm := h.sm.kept hkept (fun e => h.a4 e), sB := h.sB
          a45 := fun k e e' => by rcases hfr k e with q | q; exact h.a45 k q e'; have := h.lt5 e'; omega
          a47 := fun k e e' => by rcases hfr k e with q | q; exact h.a47 k q e'; have := h.lt7 e'; omega
          a57 := h.a57
          a4 := fun e => by rcases hfr sb e with q | q; exact h.a4 q; omega
          a5 := h.a5
          a7 := h.a7
          szA := h.szA, szM := h.szM
          bel := h.bel.trans (hkept.below h.bel.size (fun k e => (h.lt4 e).1)) }

theorem WMem.joinA (h : WMem w wr sb ao4 nF c4 ao5 nM c5 ao7 nA c7 F G M A) {m : List ByteArray} (hm : ∀ x ∈ m, x.size ≤ maxLen) {ao' : Option Addr} {n' c' : Nat} (hk : KQ textK 9 w' w.heap.size (.slice ao' n' c') (A ++ m)) (hn : n' = (A ++ m).length) (hkept : Kept (fun k => (Value.slice ao7 nA c7).ownBlock = some k) wr w') (hf : Fresh wr (.slice ao7 nA c7) (.slice ao' n' c')) :
    WMem w w' sb ao4 nF c4 ao5 nM c5 ao' n' c' F G M (A ++ m) := by
  have hfr : ∀ k, ownA ao' = some k → ownA ao7 = some k ∨ wr.heap.size ≤ k := fun k e => by have := hf k (by rw [ownA_eq]; exact e); rwa [ownA_eq] at this
  simp only [ownA_eq] at hkept
  have hsb := h.sm.lt
  exact { k4 := h.k4.kept hkept (fun k e e' => by rw [ownA_eq] at e; exact h.a47 k e e') (fun x _ b hb => absurd hb (noFootC x b))
          k5 := h.k5.kept hkept (fun k e e' => by rw [ownA_eq] at e; exact h.a57 k e e') (fun x _ b hb => absurd hb (noFootT x b))
          k7 := hk
          lF := h.lF, lM := h.lM, lA := hn
          sm := h.sm.kept hkept (fun e => h.a7 e), sB := h.sB
          a45 := h.a45
          a47 := fun k e e' => by rcases hfr k e' with q | q; exact h.a47 k e q; have := h.lt4 e; omega
          a57 := fun k e e' => by rcases hfr k e' with q | q; exact h.a57 k e q; have := h.lt5 e; omega
          a4 := h.a4
          a5 := h.a5
          a7 := fun e => by rcases hfr sb e with q | q; exact h.a7 q; omega
          szA := fun y hy => by rcases List.mem_append.1 hy with e | e; exact h.szA y e; exact hm y e
          szM := h.szM
          bel := h.bel.trans (hkept.below h.bel.size (fun k e => (h.lt7 e).1)) }

theorem seenC_put {G : List PlI} {x : PlI} (p : PlD) : seenC (G ++ [x]) p = putC (seenC G) x.1 (.agg #[]) p := by
  unfold seenC putC
  by_cases e : p = x.1
  · rw [if_pos e, if_pos (by rw [List.map_append]; simp [e])]
  · rw [if_neg e]
    congr 1
    rw [List.map_append, List.mem_append]
    simp [e]

theorem WMem.see (h : WMem w wr sb ao4 nF c4 ao5 nM c5 ao7 nA c7 F G M A) {x : PlI} (hx : x.1 ∉ G.map (·.1)) (hs : CMap w' sb (putC (seenC G) x.1 (.agg #[])) (putNC (seenC G) x.1 G.length)) (hkept : Kept (fun k => k = sb) wr w') :
    WMem w w' sb ao4 nF c4 ao5 nM c5 ao7 nA c7 F (G ++ [x]) M A := by
  have e1 : putNC (seenC G) x.1 G.length = (G ++ [x]).length := by
    unfold putNC seenC
    rw [if_neg hx]
    simp
  rw [e1] at hs
  exact { h with
          k4 := h.k4.kept hkept (fun k e e' => by rw [ownA_eq] at e; exact h.a4 (by rw [e]; congr)) (fun x _ b hb => absurd hb (noFootC x b))
          k5 := h.k5.kept hkept (fun k e e' => by rw [ownA_eq] at e; exact h.a5 (by rw [e]; congr)) (fun x _ b hb => absurd hb (noFootT x b))
          k7 := h.k7.kept hkept (fun k e e' => by rw [ownA_eq] at e; exact h.a7 (by rw [e]; congr)) (fun x _ b hb => absurd hb (noFootT x b))
          sm := hs.congr (fun p _ => seenC_put p)
          bel := h.bel.trans (hkept.below h.bel.size (fun k e => by have := h.sB; have e' : k = sb := e; omega)) }
end

def sliceLen : Value → Nat
  | .slice _ n _ => n
  | _ => 0

theorem zeroUnit (w : World) : (zeroValue 67).run Try.prog w = .ok (.agg #[]) w := by kernel_rfl

/-- What walk answers. -/
def GotWalk (w : World) (g : GrD) (id : ByteArray) (e : Ending) (w' : World) : Prop :=
  ∃ (pr : List ByteArray) (F : List PlI) (M : List ByteArray) (ao4 : Option Addr) (c4 : Nat) (ao5 : Option Addr) (c5 : Nat), e = .returned (.tuple #[.slice ao4 F.length c4, .slice ao5 M.length c5]) ∧ DfsI g id pr (F.map (·.1)) M [] ∧
    KQ cK 45 w' w.heap.size (.slice ao4 F.length c4) F ∧ KQ textK 9 w' w.heap.size (.slice ao5 M.length c5) M ∧ (∀ k, ownA ao4 = some k → ownA ao5 ≠ some k) ∧ (∀ x ∈ M, x.size ≤ maxLen) ∧ Below w.heap.size w w'

/-- How it stands at the label. -/
inductive WJ (gb sb : Nat) (w : World) (g : GrD) (id : ByteArray) : Act → World → Prop
  | mk (u1 u8 u9 u10 u11 u12 u13 u14 u15 u16 u17 u18 u19 u20 u21 u22 u23 u24 u25 u26 u27 u28 u29 u30 u31 u32 u33 u34 u35 u36 u37 u38 u39 u40 u41 u42 u43 u44 u45 u46 u47 u48 u49 u50 u51 u52 u53 u54 u55 u56 u57 u58 u59 u60 u61 u62 u63 u64 u65 u66 u67 u68 u69 u70 u71 u72 u73 u74 u75 u76 : Value) (ao4 : Option Addr) (nF c4 : Nat) (ao5 : Option Addr) (nM c5 : Nat) (ao7 : Option Addr) (nA c7 : Nat) (F : List PlI) (M A pr : List ByteArray) (wr : World) (hW : WMem w wr sb ao4 nF c4 ao5 nM c5 ao7 nA c7 F F M A) (hD : DfsI g id pr (F.map (·.1)) M A) : WJ gb sb w g id { tmps := #[.pointer (some ⟨gb, 0, none⟩), u1, undef, undef, .slice ao4 nF c4, .slice ao5 nM c5, .map (some sb), .slice ao7 nA c7, u8, u9, u10, u11, u12, u13, u14, u15, u16, u17, u18, u19, u20, u21, u22, u23, u24, u25, u26, u27, u28, u29, u30, u31, u32, u33, u34, u35, u36, u37, u38, u39, u40, u41, u42, u43, u44, u45, u46, u47, u48, u49, u50, u51, u52, u53, u54, u55, u56, u57, u58, u59, u60, u61, u62, u63, u64, u65, u66, u67, u68, u69, u70, u71, u72, u73, u74, u75, u76], defers := [] } wr

theorem WJ.of {gb sb : Nat} {w : World} {g : GrD} {id : ByteArray} {wr : World} {u1 u8 u9 u10 u11 u12 u13 u14 u15 u16 u17 u18 u19 u20 u21 u22 u23 u24 u25 u26 u27 u28 u29 u30 u31 u32 u33 u34 u35 u36 u37 u38 u39 u40 u41 u42 u43 u44 u45 u46 u47 u48 u49 u50 u51 u52 u53 u54 u55 u56 u57 u58 u59 u60 u61 u62 u63 u64 u65 u66 u67 u68 u69 u70 u71 u72 u73 u74 u75 u76 : Value} {ao4 : Option Addr} {nF c4 : Nat} {ao5 : Option Addr} {nM c5 : Nat} {ao7 : Option Addr} {nA c7 : Nat} {F : List PlI} {M A pr : List ByteArray} (hW : WMem w wr sb ao4 nF c4 ao5 nM c5 ao7 nA c7 F F M A) (hD : DfsI g id pr (F.map (·.1)) M A) : WJ gb sb w g id { tmps := #[.pointer (some ⟨gb, 0, none⟩), u1, undef, undef, .slice ao4 nF c4, .slice ao5 nM c5, .map (some sb), .slice ao7 nA c7, u8, u9, u10, u11, u12, u13, u14, u15, u16, u17, u18, u19, u20, u21, u22, u23, u24, u25, u26, u27, u28, u29, u30, u31, u32, u33, u34, u35, u36, u37, u38, u39, u40, u41, u42, u43, u44, u45, u46, u47, u48, u49, u50, u51, u52, u53, u54, u55, u56, u57, u58, u59, u60, u61, u62, u63, u64, u65, u66, u67, u68, u69, u70, u71, u72, u73, u74, u75, u76], defers := [] } wr :=
  WJ.mk u1 u8 u9 u10 u11 u12 u13 u14 u15 u16 u17 u18 u19 u20 u21 u22 u23 u24 u25 u26 u27 u28 u29 u30 u31 u32 u33 u34 u35 u36 u37 u38 u39 u40 u41 u42 u43 u44 u45 u46 u47 u48 u49 u50 u51 u52 u53 u54 u55 u56 u57 u58 u59 u60 u61 u62 u63 u64 u65 u66 u67 u68 u69 u70 u71 u72 u73 u74 u75 u76 ao4 nF c4 ao5 nM c5 ao7 nA c7 F M A pr wr hW hD

set_option maxRecDepth 100000 in
theorem pgRests_at {w : World} {gb pb vb : Nat} {S : Nat → Prop} {g : GrD} {f : PlD → Option Value} (h : PGr w gb pb vb S g f) (p : PlD) (hp : p.In) :
    Calls Try.prog 25 #[.pointer (some ⟨gb, 0, none⟩), .complex .f64 (plX p) (plY p)] w fun e w' => e = .returned (.bool (decide (g.low < (p.r : Int)))) ∧ w' = w := by
  have c0 := h.box.cell (i := 0) rfl
  have cR := plRound_any (plX p) (plY p) w
  rw [plXY hp.1 hp.2] at cR
  simp only [Option.map_some, Option.getD_some, Option.isSome_some] at cR
  go_enter Try.func25, Try.ntmps25
  go_wp2_with fail
  refine cR.mono ?_
  rintro e w1 ⟨rfl, rfl⟩
  go_wp2
  go_ret
  exact ⟨rfl, rfl⟩

set_option maxRecDepth 100000 in
set_option maxHeartbeats 4000000 in
theorem pgWalk_at {w : World} {gb pb vb : Nat} {S : Nat → Prop} {g : GrD} {f : PlD → Option Value} (h : PGr w gb pb vb S g f) (id : ByteArray) (hid : id.size ≤ maxLen) :
    Calls Try.prog 18 #[.pointer (some ⟨gb, 0, none⟩), .string id] w fun e w' => GotWalk w g id e w' := by
  have hmm := @run_makeMap Try.prog
  go_enter Try.func18, Try.ntmps18
  go_wp2
  refine wp_scope_next 0 (WJ gb w.heap.size w g id) (fun a' _ => 8 * (g.L.length - sliceLen (a'.tmps.getD 4 undef)) + sliceLen (a'.tmps.getD 7 undef)) rfl ?_ ?_
  · intro a' wr hJ
    obtain @⟨u1, u8, u9, u10, u11, u12, u13, u14, u15, u16, u17, u18, u19, u20, u21, u22, u23, u24, u25, u26, u27, u28, u29, u30, u31, u32, u33, u34, u35, u36, u37, u38, u39, u40, u41, u42, u43, u44, u45, u46, u47, u48, u49, u50, u51, u52, u53, u54, u55, u56, u57, u58, u59, u60, u61, u62, u63, u64, u65, u66, u67, u68, u69, u70, u71, u72, u73, u74, u75, u76, ao4, nF, c4, ao5, nM, c5, ao7, nA, c7, F, M, A, pr, _, hW, hD⟩ := hJ
    have hG := h.below hW.bel
    have hlF := hD.lenF
    rw [List.length_map] at hlF
    have hg256 := h.ok.n
    have hfew := hD.few
    have hfewM := hD.fewM
    rw [List.length_map] at hfew
    have hbsz := hW.bel.size
    have q1 : Hid (nF = F.length) := hW.lF
    have q2 : Hid (nM = M.length) := hW.lM
    rcases List.eq_nil_or_concat A with hA | ⟨A', x, hA⟩
    · subst hA
      have hfin : GotWalk w g id (.returned (.tuple #[.slice ao4 nF c4, .slice ao5 nM c5])) wr := by
        obtain rfl := q1.out
        obtain rfl := q2.out
        exact ⟨pr, F, M, ao4, c4, ao5, c5, rfl, hD, hW.k4, hW.k5, hW.a45, hW.szM, hW.bel⟩
      have q3 : nA = 0 := hW.lA
      subst q3
      clear q1 q2 hW hD hlF hfew hfewM hG
      go_wp2
      simp only [Exit.jump]
      go_ret2
      exact hfin
    · rw [List.concat_eq_append] at hA
      subst hA
      obtain ⟨n, hn⟩ : ∃ n, Hid (A'.length = n) := ⟨_, rfl⟩
      have q3 : nA = n + 1 := by have := hW.lA; have := hn.out; rw [hW.lA, List.length_append]; simp; omega
      subst q3
      rw [List.length_append, List.length_cons, List.length_nil] at hfew
      have hn1 := hn.out
      have hn2 : n ≤ 1793 := by omega
      clear hn1
      have hRow := hW.k7.rowOf.1
      obtain ⟨g7, off7, hao, hg7, cx⟩ := hRow.text (i := n) (x := x) (by rw [List.getElem?_append_right (Nat.le_of_eq hn.out), hn.out, Nat.sub_self]; rfl)
      subst hao
      obtain ⟨hcap, hcapm⟩ := hW.k7.capOf
      have hlen7 : (A' ++ [x]).length = n + 1 := by rw [List.length_append, hn.out]; rfl
      rw [hlen7] at hcap
      have hcut := hW.cutA n (by rw [hlen7]; omega)
      rw [List.take_left' hn.out] at hcut
      have hxs := hW.szA x (by simp)
      clear hRow hlen7
      have i1 : ¬ (n : Int) < 0 := by omega
      have i2 : (n : Int) ≤ (c7 : Int) := by omega
      have i3 : (n : Int) < (n : Int) + 1 := by omega
      have i4 : c7 ≤ 9223372036854775807 := by unfold maxLen at hcapm; exact hcapm
      clear hW hcap hcapm
      go_wp2_with fail
      go_quiet (fail)
      have hcut2 := hcut.below (below_drewN (Below.refl wr.heap.size wr) nq)
      have hG2 := hG.below (below_drewN (Below.refl wr.heap.size wr) nq)
      have hbs2 : w.heap.size ≤ (wr.drewN nq).heap.size := hbsz
      generalize wr.drewN nq = w2 at hcut2 hG2 hbs2 ⊢
      clear hcut hG hbsz cx hg7 i1 i2 i3 i4
      have x1 := hG2.box.cell (i := 1) rfl
      have x2 := hG2.box.cell (i := 2) rfl
      have hM := hG2.pl
      have hz := zeroCplx w2
      have hzv := zeroVtx w2
      cases hgv : getV g.L x with
      | none =>
        have hD2 := hD.miss hgv
        have e1 : plF g.L x = none := by unfold plF; rw [hgv]; rfl
        have e2 : Hid ((plF g.L x).getD (.complex .f64 0 0) = .complex .f64 0 0) := by show _ = _; rw [e1]; rfl
        have e3 : Hid ((plF g.L x).isSome = false) := by show _ = _; rw [e1]; rfl
        clear e1
        obtain ⟨i0, z0, hi0, hz0, hz1, hz2, hz3⟩ := strInfoT
        have hb3 := belowNew w2 (.cells #[.string x] 9)
        have hW3 := hcut2.below hb3
        have hN := new_text w2 x
        have m1 : M.length + 1 ≤ maxLen := by unfold maxLen; omega
        have m2 : (M.length + 1) * 16 ≤ 140737488355328 := by omega
        have m3 : w.heap.size ≤ (w2.alloc (.cells #[.string x] 9)).heap.size := by have := hb3.size; omega
        have hq5 := hW3.k5
        have hW3' : Hid _ := hW3
        clear hW3 hcut2 hD
        go_wp2_with (first
          | (at_lookup; refine smap_look_ok (by rfl) _ _ 41 rfl 45 Try.underlying41 _ hz pb _ _ rfl hM x hxs rfl ?_; rw [e2.out, e3.out])
          | (at_builtin; refine wpList_pushN (K := textK) rfl _ _ 29 rfl w.heap.size 9 i0 _ 16 Try.underlying29 hi0 hz0 hz1 hz2 hz3 (.slice ao5 nM c5) M rfl hq5 x trivial (fun _ h => h.elim) ⟨w2.heap.size, 0, none⟩ 1 rfl hN m1 m2 m3 ?_; intro ao9 cap9 w9 hQ9 hk9 hf9))
        have el : (M ++ [x]).length = M.length + 1 := by simp
        rw [el] at hQ9 hf9
        have hW9 := hW3'.out.pushM hxs hQ9 el.symm hk9 hf9
        go_step3
        refine ⟨rfl, WJ.of hW9 hD2, ?_⟩
        simp [sliceLen]
      | some v =>
        obtain ⟨hv, hvi⟩ := getV_some hgv
        have hin := plV_in h.ok hv
        have hpar : upsV g x = if g.low < v.round ∧ v.done = false then v.parents else [] := by unfold upsV; rw [hgv]
        obtain ⟨aov, nv, capv, hfv, hpv⟩ := hG2.yes v hv
        have hC := hG2.vx
        have hids := h.ids v hv
        have e1 : plF g.L x = some (kC (plV v)) := by unfold plF; rw [hgv]; rfl
        have e2 : Hid ((plF g.L x).getD (.complex .f64 0 0) = .complex .f64 (plX (plV v)) (plY (plV v))) := by show _ = _; rw [e1]; rfl
        have e3 : Hid ((plF g.L x).isSome = true) := by show _ = _; rw [e1]; rfl
        have e4 : Hid ((f (plV v)).getD (.agg #[.string ⟨#[]⟩, .slice none 0 0, .bool false]) = .agg #[.string x, .slice aov nv capv, .bool v.done]) := by show _ = _; rw [hfv]; unfold vtxV; rw [hvi]; rfl
        clear e1 hfv hvi
        have hb3 := belowNew w2 (.cells #[.string x, .slice aov nv capv, .bool v.done] 49)
        have hX3 := Arr.new w2 49 [.string x, .slice aov nv capv, .bool v.done]
        have hW3 := hcut2.below hb3
        have hG3 := hG2.below hb3
        have hzu := zeroUnit (w2.alloc (.cells #[.string x, .slice aov nv capv, .bool v.done] 49))
        have hS3 := hW3.sm
        have hb4 := belowNew (w2.alloc (.cells #[.string x, .slice aov nv capv, .bool v.done] 49)) (.cells #[] 67)
        have hX4 := hX3.below hb4 hX3.lt
        have hW4 := hW3.below hb4
        have hG4 := hG3.below hb4
        have y1 := hX4.cell (i := 1) rfl
        have y2 := hX4.cell (i := 2) rfl
        have hlow : g.low < v.round ↔ g.low < ((plV v).r : Int) := by have := h.ok.rng v hv; unfold plV; simp only; omega
        have x0 := hG4.box.cell (i := 0) rfl
        by_cases hseen : plV v ∈ F.map (·.1)
        · have s1 : Hid ((seenC F (plV v)).getD (.agg #[]) = .agg #[]) := by show _ = _; unfold seenC; rw [if_pos hseen]; rfl
          have s2 : Hid ((seenC F (plV v)).isSome = true) := by show _ = _; unfold seenC; rw [if_pos hseen]; rfl
          have hD2 := hD.again h.ok hgv (Or.inl hseen)
          have hW4' : Hid _ := hW4
          clear hW4 hcut2 hD hW3 hG3 hG4 x0 hlow hpar
          go_wp2_with (first
            | (at_lookup; refine smap_look_ok (by rfl) _ _ 41 rfl 45 Try.underlying41 _ hz pb _ _ rfl hM x hxs rfl ?_; rw [e2.out, e3.out])
            | (at_lookup; refine cmap_look (by rfl) _ _ 42 rfl 49 Try.underlying42 _ hzv vb _ _ rfl hC (plV v) hin rfl ?_; rw [e4.out])
            | (at_lookup; refine cmap_look_ok (by rfl) _ _ 66 rfl 67 Try.underlying66 _ hzu w.heap.size _ _ rfl hS3 (plV v) hin rfl ?_; rw [s1.out, s2.out]))
          go_step3
          refine ⟨rfl, WJ.of hW4'.out hD2, ?_⟩
          simp [sliceLen]
        · have s1 : Hid ((seenC F (plV v)).getD (.agg #[]) = .agg #[]) := by show _ = _; unfold seenC; rw [if_neg hseen]; rfl
          have s2 : Hid ((seenC F (plV v)).isSome = false) := by show _ = _; unfold seenC; rw [if_neg hseen]; rfl
          cases hdn : v.done with
          | true =>
            have hD2 := hD.again h.ok hgv (Or.inr hdn)
            rw [hdn] at e4 y2 hW4 hS3 hzu
            have hW4' : Hid _ := hW4
            clear hW4 hcut2 hD hW3 hG3 hG4 x0 hlow hpar hdn hX3 hX4
            go_wp2_with (first
              | (at_lookup; refine smap_look_ok (by rfl) _ _ 41 rfl 45 Try.underlying41 _ hz pb _ _ rfl hM x hxs rfl ?_; rw [e2.out, e3.out])
              | (at_lookup; refine cmap_look (by rfl) _ _ 42 rfl 49 Try.underlying42 _ hzv vb _ _ rfl hC (plV v) hin rfl ?_; rw [e4.out])
              | (at_lookup; refine cmap_look_ok (by rfl) _ _ 66 rfl 67 Try.underlying66 _ hzu w.heap.size _ _ rfl hS3 (plV v) hin rfl ?_; rw [s1.out, s2.out]))
            go_step3
            refine ⟨rfl, WJ.of hW4'.out hD2, ?_⟩
            simp [sliceLen]
          | false =>
            have hD2 := hD.new h.ok hgv hseen hdn
            have hDF := hD2.lenF
            rw [List.length_append, List.length_map] at hDF
            have hDF' : F.length + 1 ≤ g.L.length := hDF
            clear hDF
            obtain ⟨pn, prow, pft⟩ := hpv hdn
            rw [hdn] at e4 hX4 hW4 hS3 hzu hb4
            have hS4 := hW4.sm
            have hlt7 : ∀ k, ownA ao4 = some k → k < w2.heap.size := fun k e => (hcut2.lt4 e).2
            have hblk2 := hcut2.bel
            have hsb2 := hcut2.sm.lt
            have hplen := h.ok.ps v hv
            subst pn
            obtain ⟨j0, zz0, hj0, hj1, hj2, hj3, hj4⟩ := cplxInfo
            have mm1 : F.length + 1 ≤ maxLen := by unfold maxLen; omega
            have mm2 : (F.length + 1) * 16 ≤ 140737488355328 := by omega
            clear hcut2 hD hW3 hG3 hG4 x0 hpar hdn hX3 y1 y2 hpv
            have y1 := hX4.cell (i := 1) rfl
            have y2 := hX4.cell (i := 2) rfl
            go_wp2_with (first
              | (at_lookup; refine smap_look_ok (by rfl) _ _ 41 rfl 45 Try.underlying41 _ hz pb _ _ rfl hM x hxs rfl ?_; rw [e2.out, e3.out])
              | (at_lookup; refine cmap_look (by rfl) _ _ 42 rfl 49 Try.underlying42 _ hzv vb _ _ rfl hC (plV v) hin rfl ?_; rw [e4.out])
              | (at_lookup; refine cmap_look_ok (by rfl) _ _ 66 rfl 67 Try.underlying66 _ hzu w.heap.size _ _ rfl hS3 (plV v) hin rfl ?_; rw [s1.out, s2.out])
              | (at_mapUpdate; refine cmap_put rfl _ _ _ 66 rfl 67 Try.underlying66 w.heap.size _ _ rfl hS4 (plV v) hin rfl (.agg #[]) rfl ?_; intro w5 hS5 hk5 hs5; clear hs5; have hW5 := hW4.see (x := ⟨plV v, hin⟩) hseen hS5 hk5; have hX5 := hX4.kept hk5 (fun e => by have e' : w2.heap.size = w.heap.size := e; omega); have hb6 := belowNew w5 (.cells #[.complex .f64 (plX (plV v)) (plY (plV v))] 45); have hW6 := hW5.below hb6; have hX6 := hX5.below hb6 hX5.lt; have hN6 := new_pl w5 ⟨plV v, hin⟩; have hq4 := hW6.k4; have m3 : w.heap.size ≤ (w5.alloc (.cells #[.complex .f64 (plX (plV v)) (plY (plV v))] 45)).heap.size := by have := hb6.size; have := hW5.bel.size; omega)
              | (at_builtin; refine wpList_pushN (K := cK) rfl _ _ 56 rfl w.heap.size 45 j0 _ 16 Try.underlying56 hj0 hj1 hj2 hj3 hj4 (.slice ao4 nF c4) F rfl hq4 ⟨plV v, hin⟩ trivial (fun _ h => h.elim) ⟨w5.heap.size, 0, none⟩ 1 rfl hN6 mm1 mm2 m3 ?_; intro ao9 cap9 w9 hQ9 hk9 hf9))
            have elF : (F ++ [(⟨plV v, hin⟩ : PlI)]).length = F.length + 1 := by simp
            rw [elF] at hQ9 hf9
            have hW9 := hW6.pushF hQ9 elF.symm hk9 hf9
            have hX9 := hX6.kept hk9 (fun e => by have e' : (Value.slice ao4 nF c4).ownBlock = some w2.heap.size := e; rw [ownA_eq] at e'; have := hlt7 _ e'; omega)
            have hG9 := h.below hW9.bel
            have cR := pgRests_at hG9 (plV v) hin
            have hrow9 : RowAt textK w9 aov v.parents := prow.keep (fun b hb => (hW9.bel.block b (h.lt b (pft b hb).1)).trans (hblk2.block b (h.lt b (pft b hb).1)).symm)
            clear hS5 hk5 hS4 hW4 hX4 y1 y2 hS3 hzu s1 s2 e2 e3 e4 hz hzv hC hM x1 x2 hW5 hX5 hb6 hW6 hX6 hN6 hq4 m3 hQ9 hk9 hf9 hb4
            have hmapF : (F ++ [(⟨plV v, hin⟩ : PlI)]).map (·.1) = F.map (·.1) ++ [plV v] := by simp
            rw [← hmapF] at hD2
            by_cases hlw : g.low < v.round
            · rw [if_pos hlw] at hD2
              rw [decide_eq_true (hlow.1 hlw)] at cR
              have y1 := hX9.cell (i := 1) rfl
              have n1 : A'.length + v.parents.length ≤ maxLen := by rw [hn.out]; unfold maxLen; omega
              have n2 : (A'.length + v.parents.length) * 16 ≤ 140737488355328 := by rw [hn.out]; omega
              have n3 : w.heap.size ≤ w9.heap.size := hW9.bel.size
              have hq7 := hW9.k7
              obtain ⟨i0, z0, hi0, hz0, hz1, hz2, hz3⟩ := strInfoT
              have hW9' : Hid _ := hW9
              clear hW9 hG9 hX9 hlow
              go_wp2_with fail
              refine cR.mono ?_
              rintro e wz ⟨rfl, rfl⟩
              go_wp2_with (at_builtin; refine wpList_joins (K := textK) rfl _ _ 29 rfl w.heap.size 9 i0 _ 16 Try.underlying29 hi0 hz0 hz1 hz2 hz3 (.slice (some ⟨g7, off7, none⟩) n c7) A' v.parents rfl hq7 noFootT aov capv rfl hrow9 n1 n2 n3 ?_; intro ao8 cap8 w8 hQ8 hk8 hf8)
              have elA : (A' ++ v.parents).length = A'.length + v.parents.length := List.length_append
              rw [elA] at hQ8 hf8
              have hW8 := hW9'.out.joinA hids.2 hQ8 elA.symm hk8 hf8
              go_step3
              refine ⟨rfl, WJ.of hW8 hD2, ?_⟩
              have := q1.out
              have := hn.out
              simp [sliceLen]
              omega
            · rw [if_neg hlw, List.append_nil] at hD2
              rw [decide_eq_false (fun q => hlw (hlow.2 q))] at cR
              have hW9' : Hid _ := hW9
              clear hW9 hG9 hX9 hlow hrow9
              go_wp2_with fail
              refine cR.mono ?_
              rintro e wz ⟨rfl, rfl⟩
              go_wp2
              go_step3
              refine ⟨rfl, WJ.of hW9'.out hD2, ?_⟩
              have := q1.out
              simp [sliceLen]
              omega
  · intro K1 hK1
    have hC := CMap.new w
    have hb1 := belowNew w (.map #[] 0)
    have hs1 : (w.alloc (.map #[] 0)).heap.size = w.heap.size + 1 := alloc_size _ _
    obtain ⟨w1, hw1⟩ : ∃ q, w.alloc (.map #[] 0) = q := ⟨_, rfl⟩
    rw [hw1] at hC hb1 hs1
    have hA := Arr.new w1 9 [.string id]
    have hb2 := belowNew w1 (.cells #[.string id] 9)
    have hMem : WMem w (w1.alloc (.cells #[.string id] 9)) w.heap.size none 0 0 none 0 0 (some ⟨w1.heap.size, 0, none⟩) 1 1 [] [] [] [id] := by
      have hC2 := (hC.below hb2).congr (g := seenC []) (fun p _ => rfl)
      exact { k4 := KQ.empty _ _ _ _, k5 := KQ.empty _ _ _ _
              k7 := KQ.of_own noFootT (fun _ _ => trivial) rfl (World.ownsRow_lit w1 #[.string id] 1 (by omega) (by decide) rfl)
              lF := rfl, lM := rfl, lA := rfl, sm := hC2, sB := Nat.le_refl _
              a45 := (fun k e => by cases e), a47 := (fun k e => by cases e), a57 := (fun k e => by cases e), a4 := (fun e => by cases e), a5 := (fun e => by cases e)
              a7 := (fun e => by have e' : some w1.heap.size = some w.heap.size := e; simp only [Option.some.injEq] at e'; omega)
              szA := (fun x hx => by rw [List.mem_singleton.1 hx]; exact hid), szM := (fun x hx => by cases hx), bel := hb1.trans (hb2.mono (by omega)) }
    have hJ := DfsI.zero g id
    clear hs1
    go_wp2
    exact WJ.of (F := []) hMem hJ
end Go.Proofs.Ytfbpjdjajecajaa
