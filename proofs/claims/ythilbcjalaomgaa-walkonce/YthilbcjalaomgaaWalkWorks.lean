/- The laws' own example of a graph. -/
import Derived.Test.YthilbcjalaomgaaWalkEmit
import Derived.Test.YthilbcjalaomgaaWalkSameFn
namespace Go.Proofs.Ythilbcjalaomgaa
open Go Go.RowKit Go.Maps
set_option linter.unusedVariables false

def tA : ByteArray := ⟨#[97]⟩
def tB : ByteArray := ⟨#[98]⟩
def tC : ByteArray := ⟨#[99]⟩

def kg1 : GrD := ⟨[⟨tA, 1, 0, [], false⟩], 0⟩
def kg2 : GrD := ⟨[⟨tA, 1, 0, [], false⟩, ⟨tC, 2, 0, [tA, tB], false⟩], 0⟩
def kg3 : GrD := ⟨[⟨tA, 1, 0, [], false⟩, ⟨tB, 1, 1, [], false⟩, ⟨tC, 2, 0, [tA, tB], false⟩], 0⟩

theorem tAB : tA ≠ tB := by unfold tA tB; simp
theorem tAC : tA ≠ tC := by unfold tA tC; simp
theorem tBC : tB ≠ tC := by unfold tB tC; simp

theorem addGV_ok {g : GrD} {id : ByteArray} {r a : Int} {ps : List ByteArray} (h : addEV g id r a ps.length = 0) : addGV g id r a ps = { g with L := insV g.L ⟨id, r, a, ps, false⟩ } := by unfold addGV; rw [if_pos h]

theorem kw1 : addEV gr0 tA 1 0 0 = 0 ∧ addGV gr0 tA 1 0 [] = kg1 := by
  have h : addEV gr0 tA 1 0 ([] : List ByteArray).length = 0 := addEV_ok.2 ⟨by omega, by simp, (fun v hv => by cases hv), by decide, (fun v hv => by cases hv), by decide⟩
  exact ⟨h, by rw [addGV_ok h]; rfl⟩

theorem kw2 : addEV kg1 tC 2 0 2 = 0 ∧ addGV kg1 tC 2 0 [tA, tB] = kg2 := by
  have hm : ∀ v ∈ kg1.L, v = ⟨tA, 1, 0, [], false⟩ := fun v hv => by simpa [kg1] using hv
  have h : addEV kg1 tC 2 0 [tA, tB].length = 0 := addEV_ok.2 ⟨by omega, by simp, (fun v hv => by rw [hm v hv]; exact tAC), by decide, (fun v hv => by rw [hm v hv]; decide), by decide⟩
  exact ⟨h, by rw [addGV_ok h]; rfl⟩

theorem kw3 : addEV kg2 tB 1 1 0 = 0 ∧ addGV kg2 tB 1 1 [] = kg3 := by
  have hm : ∀ v ∈ kg2.L, v = ⟨tA, 1, 0, [], false⟩ ∨ v = ⟨tC, 2, 0, [tA, tB], false⟩ := fun v hv => by simpa [kg2] using hv
  have h : addEV kg2 tB 1 1 ([] : List ByteArray).length = 0 := addEV_ok.2 ⟨by omega, by simp, (fun v hv => by rcases hm v hv with e | e <;> rw [e]; exact tAB; exact tBC.symm), by decide, (fun v hv => by rcases hm v hv with e | e <;> rw [e] <;> decide), by decide⟩
  exact ⟨h, by rw [addGV_ok h]; rfl⟩

theorem ko2 : GrOk kg2 := by rw [← kw2.2, ← kw1.2]; exact (GrOk.zero.add _ _ _ _).add _ _ _ _
theorem ko3 : GrOk kg3 := by rw [← kw3.2]; exact ko2.add _ _ _ _

theorem upsV_of {g : GrD} (h : GrOk g) {v : VtxD} (hv : v ∈ g.L) (h1 : g.low < v.round) (h2 : v.done = false) : upsV g v.id = v.parents := by
  unfold upsV
  rw [h.get hv]
  simp only
  rw [if_pos ⟨h1, h2⟩]

theorem upsV_none {g : GrD} {x : ByteArray} (h : getV g.L x = none) : upsV g x = [] := by unfold upsV; rw [h]

theorem kb2 : getV kg2.L tB = none := getV_none.2 (fun v hv => by
  have : v = ⟨tA, 1, 0, [], false⟩ ∨ v = ⟨tC, 2, 0, [tA, tB], false⟩ := by simpa [kg2] using hv
  rcases this with e | e <;> rw [e]
  · exact tAB
  · exact tBC.symm)

theorem reach_list {g : GrD} {id : ByteArray} {T : List ByteArray} (h0 : id ∈ T) (hc : ∀ x ∈ T, ∀ p ∈ upsV g x, p ∈ T) (hr : ∀ x ∈ T, Reach g id x) (x : ByteArray) : Reach g id x ↔ x ∈ T := ⟨reach_of_closed h0 hc, hr x⟩

theorem kr2 (x : ByteArray) : Reach kg2 tC x ↔ x ∈ [tC, tA, tB] := by
  have u1 : upsV kg2 tC = [tA, tB] := upsV_of (v := ⟨tC, 2, 0, [tA, tB], false⟩) ko2 (by simp [kg2]) (by decide) rfl
  have u2 : upsV kg2 tA = [] := upsV_of (v := ⟨tA, 1, 0, [], false⟩) ko2 (by simp [kg2]) (by decide) rfl
  have u3 : upsV kg2 tB = [] := upsV_none kb2
  refine reach_list (by simp) (fun y hy p hp => ?_) (fun y hy => ?_) x
  · simp only [List.mem_cons, List.not_mem_nil, or_false] at hy
    rcases hy with rfl | rfl | rfl
    · rw [u1] at hp; exact List.mem_cons_of_mem _ hp
    · rw [u2] at hp; cases hp
    · rw [u3] at hp; cases hp
  · simp only [List.mem_cons, List.not_mem_nil, or_false] at hy
    rcases hy with rfl | rfl | rfl
    · exact Reach.me
    · exact upsV_reach Reach.me (by rw [u1]; simp)
    · exact upsV_reach Reach.me (by rw [u1]; simp)

theorem kr3 (x : ByteArray) : Reach kg3 tC x ↔ x ∈ [tC, tA, tB] := by
  have u1 : upsV kg3 tC = [tA, tB] := upsV_of (v := ⟨tC, 2, 0, [tA, tB], false⟩) ko3 (by simp [kg3]) (by decide) rfl
  have u2 : upsV kg3 tA = [] := upsV_of (v := ⟨tA, 1, 0, [], false⟩) ko3 (by simp [kg3]) (by decide) rfl
  have u3 : upsV kg3 tB = [] := upsV_of (v := ⟨tB, 1, 1, [], false⟩) ko3 (by simp [kg3]) (by decide) rfl
  refine reach_list (by simp) (fun y hy p hp => ?_) (fun y hy => ?_) x
  · simp only [List.mem_cons, List.not_mem_nil, or_false] at hy
    rcases hy with rfl | rfl | rfl
    · rw [u1] at hp; exact List.mem_cons_of_mem _ hp
    · rw [u2] at hp; cases hp
    · rw [u3] at hp; cases hp
  · simp only [List.mem_cons, List.not_mem_nil, or_false] at hy
    rcases hy with rfl | rfl | rfl
    · exact Reach.me
    · exact upsV_reach Reach.me (by rw [u1]; simp)
    · exact upsV_reach Reach.me (by rw [u1]; simp)

theorem km2 : MissOf kg2 tC [tB] := by
  refine ⟨List.pairwise_singleton _ _, fun x => ?_⟩
  rw [kr2, List.mem_singleton]
  constructor
  · rintro rfl
    exact ⟨by simp, kb2⟩
  · rintro ⟨h, hn⟩
    simp only [List.mem_cons, List.not_mem_nil, or_false] at h
    rcases h with rfl | rfl | rfl
    · have : getV kg2.L tC = some ⟨tC, 2, 0, [tA, tB], false⟩ := (getV_iff ko2).2 ⟨by simp [kg2], rfl⟩
      rw [this] at hn; cases hn
    · have : getV kg2.L tA = some ⟨tA, 1, 0, [], false⟩ := (getV_iff ko2).2 ⟨by simp [kg2], rfl⟩
      rw [this] at hn; cases hn
    · rfl

theorem km3 : MissOf kg3 tC [] := by
  refine ⟨List.Pairwise.nil, fun x => ?_⟩
  rw [kr3]
  refine ⟨(fun h => by cases h), ?_⟩
  rintro ⟨h, hn⟩
  simp only [List.mem_cons, List.not_mem_nil, or_false] at h
  rcases h with rfl | rfl | rfl
  · have : getV kg3.L tC = some ⟨tC, 2, 0, [tA, tB], false⟩ := (getV_iff ko3).2 ⟨by simp [kg3], rfl⟩
    rw [this] at hn; cases hn
  · have : getV kg3.L tA = some ⟨tA, 1, 0, [], false⟩ := (getV_iff ko3).2 ⟨by simp [kg3], rfl⟩
    rw [this] at hn; cases hn
  · have : getV kg3.L tB = some ⟨tB, 1, 1, [], false⟩ := (getV_iff ko3).2 ⟨by simp [kg3], rfl⟩
    rw [this] at hn; cases hn

theorem ke3 : emitV kg3 tC = [tA, tB, tC] := by
  rw [emitV_eq]
  have : emitL kg3 tC = kg3.L := by
    unfold emitL
    refine List.filter_eq_self.2 (fun v hv => ?_)
    have hv' : v = ⟨tA, 1, 0, [], false⟩ ∨ v = ⟨tB, 1, 1, [], false⟩ ∨ v = ⟨tC, 2, 0, [tA, tB], false⟩ := by simpa [kg3] using hv
    have hr : Reach kg3 tC v.id := (kr3 _).2 (by rcases hv' with rfl | rfl | rfl <;> simp)
    have hd : v.done = false := by rcases hv' with rfl | rfl | rfl <;> rfl
    simp [hr, hd]
  rw [this]
  rfl

/-- Where a graph's act leaves all else: what is old, and below. -/
theorem below_of_kept {W w w' : World} {S : Nat → Prop} (hb : Below W.heap.size W w) (hS : ∀ k, S k → W.heap.size ≤ k) (hk : Kept S w w') : Below W.heap.size W w' := hb.trans (hk.below hb.size hS)

theorem new2 (w : World) (x y : ByteArray) : RowAt textK (w.alloc (.cells #[.string x, .string y] 9)) (some ⟨w.heap.size, 0, none⟩) [x, y] := (KQ.of_own (K := textK) (base := w.heap.size) (T := 9) noFootT (fun _ _ => trivial) rfl (World.ownsRow_lit w #[.string x, .string y] 2 (Nat.le_refl _) (by decide) rfl)).rowOf.1
theorem new1 (w : World) (x : ByteArray) : RowAt textK (w.alloc (.cells #[.string x] 9)) (some ⟨w.heap.size, 0, none⟩) [x] := (KQ.of_own (K := textK) (base := w.heap.size) (T := 9) noFootT (fun _ _ => trivial) rfl (World.ownsRow_lit w #[.string x] 1 (Nat.le_refl _) (by decide) rfl)).rowOf.1
theorem new3 (w : World) (x y z : ByteArray) : RowAt textK (w.alloc (.cells #[.string x, .string y, .string z] 9)) (some ⟨w.heap.size, 0, none⟩) [x, y, z] := (KQ.of_own (K := textK) (base := w.heap.size) (T := 9) noFootT (fun _ _ => trivial) rfl (World.ownsRow_lit w #[.string x, .string y, .string z] 3 (Nat.le_refl _) (by decide) rfl)).rowOf.1

theorem foot_at {K : Kind ByteArray} {a : Nat} {o : Nat} {l : List ByteArray} (hf : ∀ x b, ¬ K.foot x b) {b : Nat} (h : rowFoot K (some ⟨a, o, none⟩) l b) : b = a := by
  rcases h with ⟨_, off, e⟩ | ⟨x, _, hx⟩
  · simp only [Option.some.injEq, Addr.mk.injEq, and_true] at e
    exact e.1.symm
  · exact absurd hx (hf x b)

set_option maxRecDepth 100000 in
set_option maxHeartbeats 2000000 in
theorem works16_any (W : World) : Calls Try.prog 18 #[] W fun e w' => e = .returned (.bool true) ∧ Below W.heap.size W w' := by
  go_enter Try.func18, Try.ntmps18
  go_wp2_with fail
  refine (pgNew_any W).mono ?_
  rintro e w0 ⟨gb, S0, rfl, hg0, hs0, hb0⟩
  have c1 := pgAdd_any tA 1 0 none 0 [] gb S0 gr0 w0 hg0 (by decide) (fun p hp => by cases hp) (nil_row w0 none) (fun b hb => (nil_foot hb).elim) (by decide)
  rw [kw1.2] at c1
  have c1' : Calls Try.prog 8 #[.pointer (some ⟨gb, 0, none⟩), .string ⟨#[97]⟩, .int .i64 1, .int .i64 0, .slice none 0 0] w0 fun e w' => ∃ S', e = .returned (.int .i64 0) ∧ PG w' gb S' kg1 ∧ FreshS w0 S0 S' ∧ Kept S0 w0 w' := by
    refine c1.mono ?_
    rintro e w' ⟨S', rfl, r⟩
    exact ⟨S', by rw [show addEV gr0 tA 1 0 ([] : List ByteArray).length = 0 from kw1.1]; rfl, r⟩
  clear c1
  go_wp2_with fail
  refine c1'.mono ?_
  rintro e w1 ⟨S1, rfl, hg1, hf1, hk1⟩
  have hs1 : ∀ k, S1 k → W.heap.size ≤ k := fun k hk => by rcases hf1 k hk with e | e; exact hs0 k e; have := hb0.size; omega
  have hb1 := below_of_kept hb0 hs0 hk1
  have hbA := belowNew w1 (.cells #[.string ⟨#[97]⟩, .string ⟨#[98]⟩] 9)
  have hgA := hg1.below hbA
  have hb1A := hb1.trans (hbA.mono hb1.size)
  have c2 := pgAdd_any tC 2 0 (some ⟨w1.heap.size, 0, none⟩) 2 [tA, tB] gb S1 kg1 _ hgA (by decide) (fun p hp => by simp only [List.mem_cons, List.not_mem_nil, or_false] at hp; rcases hp with rfl | rfl <;> decide) (new2 w1 tA tB) (fun b hb hS => by have := foot_at noFootT hb; have := hg1.lt hS; omega) (by decide)
  rw [kw2.2] at c2
  have c2' : Calls Try.prog 8 #[.pointer (some ⟨gb, 0, none⟩), .string ⟨#[99]⟩, .int .i64 2, .int .i64 0, .slice (some ⟨w1.heap.size, 0, none⟩) 2 2] (w1.alloc (.cells #[.string ⟨#[97]⟩, .string ⟨#[98]⟩] 9)) fun e w' => ∃ S', e = .returned (.int .i64 0) ∧ PG w' gb S' kg2 ∧ FreshS (w1.alloc (.cells #[.string ⟨#[97]⟩, .string ⟨#[98]⟩] 9)) S1 S' ∧ Kept S1 (w1.alloc (.cells #[.string ⟨#[97]⟩, .string ⟨#[98]⟩] 9)) w' := by
    refine c2.mono ?_
    rintro e w' ⟨S', rfl, r⟩
    exact ⟨S', by rw [show addEV kg1 tC 2 0 [tA, tB].length = 0 from kw2.1]; rfl, r⟩
  clear c2 c1' hg0 hs0 hb0 hf1 hk1
  go_wp2_with fail
  refine c2'.mono ?_
  rintro e w2 ⟨S2, rfl, hg2, hf2, hk2⟩
  have hs2 : ∀ k, S2 k → W.heap.size ≤ k := fun k hk => by rcases hf2 k hk with e | e; exact hs1 k e; have := hb1A.size; omega
  have hb2 := below_of_kept hb1A hs1 hk2
  have c3 := pgEmit_any tC gb S2 kg2 w2 hg2 (by decide)
  clear c2' hg1 hs1 hb1 hbA hgA hb1A hf2 hk2
  have c3' : Calls Try.prog 10 #[.pointer (some ⟨gb, 0, none⟩), .string ⟨#[99]⟩] w2 fun e w' => ∃ al cl am cm, e = .returned (.tuple #[.slice al 0 cl, .slice am 1 cm]) ∧ RowAt textK w' am [tB] ∧ (∀ b, rowFoot textK am [tB] b → w2.heap.size ≤ b) ∧ PG w' gb S2 kg2 ∧ Kept S2 w2 w' := by
    refine c3.mono ?_
    rintro e w' ⟨l, m, al, cl, am, cm, rfl, hm, hl, hmm, hk, hc⟩
    obtain rfl : m = [tB] := hm.same km2
    rcases hc with ⟨e, _⟩ | ⟨_, rfl, hg⟩
    · cases e
    · exact ⟨al, cl, am, cm, rfl, hmm.rowOf.1, KQ.foot_ge hmm (Nat.le_refl _) (fun x _ b hb => absurd hb (noFootT x b)), hg, hk⟩
  clear c3
  go_wp2_with fail
  refine c3'.mono ?_
  rintro e w3 ⟨al, cl, am, cm, rfl, hRm, hfm, hg3, hk3⟩
  have hb3 := below_of_kept hb2 hs2 hk3
  have c4 := pgAdd_any tB 1 1 none 0 [] gb S2 kg2 w3 hg3 (by decide) (fun p hp => by cases hp) (nil_row w3 none) (fun b hb => (nil_foot hb).elim) (by decide)
  rw [kw3.2] at c4
  have hmo : ∀ b, rowFoot textK am [tB] b → ¬ S2 b := fun b hb hS => by have := hfm b hb; have := hg2.lt hS; omega
  clear c3' hg2 hk3
  go_wp2_with fail
  refine (show Calls Try.prog 8 #[.pointer (some ⟨gb, 0, none⟩), .string ⟨#[98]⟩, .int .i64 1, .int .i64 1, .slice none 0 0] w3 _ from c4).mono ?_
  rintro e w4 ⟨S4, rfl, hg4, hf4, hk4⟩
  have hs4 : ∀ k, S4 k → W.heap.size ≤ k := fun k hk => by rcases hf4 k hk with e | e; exact hs2 k e; have := hb3.size; omega
  have hb4 := below_of_kept hb3 hs2 hk4
  have hRm4 := hRm.kept hk4 hmo
  have hmo4 : ∀ b, rowFoot textK am [tB] b → ¬ S4 b := fun b hb hS => by rcases hf4 b hS with e | e; exact hmo b hb e; have := hRm.lt hb; omega
  have c5 := pgEmit_any tC gb S4 kg3 w4 hg4 (by decide)
  clear c4 hg3 hs2 hb2 hb3 hk4 hf4 hmo hRm hfm
  have c5' : Calls Try.prog 10 #[.pointer (some ⟨gb, 0, none⟩), .string ⟨#[99]⟩] w4 fun e w' => ∃ al cl am cm, e = .returned (.tuple #[.slice al 3 cl, .slice am 0 cm]) ∧ RowAt textK w' al [tA, tB, tC] ∧ Kept S4 w4 w' := by
    refine c5.mono ?_
    rintro e w' ⟨l, m, al, cl, am, cm, rfl, hm, hl, hmm, hk, hc⟩
    obtain rfl : m = [] := hm.same km3
    rcases hc with ⟨_, rfl, hg⟩ | ⟨e, _⟩
    · rw [ke3] at hl ⊢
      exact ⟨al, cl, am, cm, rfl, hl.rowOf.1, hk⟩
    · exact (e rfl).elim
  clear c5
  go_wp2_with fail
  refine c5'.mono ?_
  rintro e w5 ⟨al5, cl5, am5, cm5, rfl, hRl, hk5⟩
  have hb5 := below_of_kept hb4 hs4 hk5
  have hRm5 := hRm4.kept hk5 hmo4
  clear c5' hg4 hs4 hb4 hk5 hRm4 hmo4
  have hb6 := belowNew w5 (.cells #[.string ⟨#[98]⟩] 9)
  have cS1 := sameRows_any am (some ⟨w5.heap.size, 0, none⟩) cm 1 [tB] _ (hRm5.below hb6) (new1 w5 tB) (by decide)
  have hb6W := hb5.trans (hb6.mono hb5.size)
  have hRl6 := hRl.below hb6
  go_wp2_with fail
  refine (show Calls Try.prog 12 #[.slice am 1 cm, .slice (some ⟨w5.heap.size, 0, none⟩) 1 1] (w5.alloc (.cells #[.string ⟨#[98]⟩] 9)) _ from cS1).mono ?_
  rintro e w7 ⟨rfl, hb7⟩
  have hb7W := hb6W.trans (hb7.mono hb6W.size)
  have hRl7 := hRl6.below hb7
  have hb8 := belowNew w7 (.cells #[.string ⟨#[97]⟩, .string ⟨#[98]⟩, .string ⟨#[99]⟩] 9)
  have cS2 := sameRows_any al5 (some ⟨w7.heap.size, 0, none⟩) cl5 3 [tA, tB, tC] _ (hRl7.below hb8) (new3 w7 tA tB tC) (by decide)
  have hb8W := hb7W.trans (hb8.mono hb7W.size)
  clear cS1 hb6 hb6W hRl6 hRl hRm5 hb5 hb7 hb7W hRl7
  go_wp2_with fail
  refine (show Calls Try.prog 12 #[.slice al5 3 cl5, .slice (some ⟨w7.heap.size, 0, none⟩) 3 3] (w7.alloc (.cells #[.string ⟨#[97]⟩, .string ⟨#[98]⟩, .string ⟨#[99]⟩] 9)) _ from cS2).mono ?_
  rintro e w9 ⟨rfl, hb9⟩
  have hb9W := hb8W.trans (hb9.mono hb8W.size)
  go_wp2
  go_ret
  exact ⟨rfl, hb9W⟩
end Go.Proofs.Ythilbcjalaomgaa
