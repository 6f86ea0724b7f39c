/- Texts as one: RefStaDig. -/
import Derived.Test.YtajpfkenhchafaaGreatDoorEz24
import Derived.Test.YtajpfkenhchafaaGreatDoorEz23
import Derived.Test.YtajpfkenhchafaaGreatDoorEz28
import Derived.Test.YtajpfkenhchafaaGreatDoorEz18
import Derived.Lib.QuietBelow
import Derived.BigQuiet
import Derived.Deep.QuietTactic
/- What the reference's Digest does. -/
namespace Go.Proofs.YtajpfkenhchafaaGreatDoor
open Go Go.RowKit Go.Sort
set_option linter.unusedVariables false

/-- What is written of accounts that stand in a row. -/
def digA (f : ByteArray → Nat × Nat) (l : List (ByteArray × (Nat × Nat))) : List UInt8 := l.flatMap (fun z => if z.2 = (0, 0) then [] else accT f z.1)

def digV (g : ByteArray → Option ByteArray) (l : List (ByteArray × ByteArray)) : List UInt8 := l.flatMap (fun z => valT g z.1)

theorem digA_eq (f : ByteArray → Nat × Nat) : ∀ l : List (ByteArray × (Nat × Nat)), digA f l = ((l.filter (fun z => decide (z.2 ≠ (0, 0)))).map (·.1)).flatMap (accT f)
  | [] => rfl
  | z :: r => by
    have ih := digA_eq f r
    unfold digA at ih ⊢
    rw [List.flatMap_cons, ih]
    by_cases h : z.2 = (0, 0)
    · rw [if_pos h, List.filter_cons_of_neg (by simp [h])]
      rfl
    · rw [if_neg h, List.filter_cons_of_pos (by simp [h]), List.map_cons, List.flatMap_cons]

theorem digV_eq (g : ByteArray → Option ByteArray) (l : List (ByteArray × ByteArray)) : digV g l = (l.map (·.1)).flatMap (valT g) := by
  unfold digV
  rw [List.flatMap_map]

theorem digA_next {f : ByteArray → Nat × Nat} {l : List (ByteArray × (Nat × Nat))} {i : Nat} {x : ByteArray × (Nat × Nat)} (hx : l[i]? = some x) : digA f (l.take (i + 1)) = digA f (l.take i) ++ if x.2 = (0, 0) then [] else accT f x.1 := by
  unfold digA
  rw [List.take_add_one, hx, List.flatMap_append]
  simp

theorem digV_next {g : ByteArray → Option ByteArray} {l : List (ByteArray × ByteArray)} {i : Nat} {x : ByteArray × ByteArray} (hx : l[i]? = some x) : digV g (l.take (i + 1)) = digV g (l.take i) ++ valT g x.1 := by
  unfold digV
  rw [List.take_add_one, hx, List.flatMap_append]
  simp

section
variable {A : List (ByteArray × (Nat × Nat))} {V : List (ByteArray × ByteArray)} {s : StF} {N : Nat}

theorem RM.at (h : RM A V s N) {z : ByteArray × (Nat × Nat)} (hz : z ∈ A) : s.acc z.1 = z.2 := by
  have := (kGet_iff h.ra (m := z.1) (x := z.2)).2 hz
  rw [← h.acc z.1, this]
  rfl

theorem RM.atV (h : RM A V s N) {z : ByteArray × ByteArray} (hz : z ∈ V) : s.val z.1 = some z.2 := by
  rw [← h.val z.1]
  exact (kGet_iff h.rv (m := z.1) (x := z.2)).2 hz

theorem RM.isDig (h : RM A V s N) : IsDig s (digA s.acc A ++ digV s.val V) := by
  refine ⟨(A.filter (fun z => decide (z.2 ≠ (0, 0)))).map (·.1), V.map (·.1), ?_, ?_, fun n => ?_, fun n => ?_, by rw [digA_eq, digV_eq]⟩
  · have := h.ra.sublist (List.filter_sublist (p := fun z => decide (z.2 ≠ (0, 0))))
    exact List.pairwise_map.2 this
  · exact List.pairwise_map.2 h.rv
  · rw [List.mem_map]
    constructor
    · rintro ⟨z, hz, rfl⟩
      obtain ⟨h1, h2⟩ := List.mem_filter.1 hz
      rw [h.at h1]
      exact of_decide_eq_true h2
    · intro hn
      cases hg : kGet A n with
      | none =>
        have := h.acc n
        rw [hg] at this
        exact absurd this.symm hn
      | some v =>
        have hv := h.acc n
        rw [hg] at hv
        have hv' : v = s.acc n := hv
        refine ⟨(n, v), List.mem_filter.2 ⟨kGet_some hg, ?_⟩, rfl⟩
        rw [hv']
        exact decide_eq_true hn
  · rw [List.mem_map]
    constructor
    · rintro ⟨z, hz, rfl⟩
      rw [h.atV hz]
      simp
    · intro hn
      obtain ⟨v, hv⟩ := Option.ne_none_iff_exists'.1 hn
      rw [← h.val n] at hv
      exact ⟨(n, v), kGet_some hv, rfl⟩

theorem RM.lenA (h : RM A V s N) (i : Nat) : (digA s.acc (A.take i)).length ≤ N * 100 := by
  have h1 : (digA s.acc (A.take i)).length ≤ (A.take i).length * 100 := flat_len _ 100 _ (fun z hz => by
    split
    · exact Nat.zero_le _
    · rename_i hne
      refine accT_len h.ok ?_
      rw [h.at (List.mem_of_mem_take hz)]
      exact hne)
  have h2 : (A.take i).length ≤ N := by rw [List.length_take]; have := h.la; omega
  omega

theorem RM.lenV (h : RM A V s N) (i : Nat) : (digV s.val (V.take i)).length ≤ N * 200 := by
  have h1 : (digV s.val (V.take i)).length ≤ (V.take i).length * 200 := flat_len _ 200 _ (fun z hz => valT_len h.ok (by rw [h.atV (List.mem_of_mem_take hz)]; simp))
  have h2 : (V.take i).length ≤ N := by rw [List.length_take]; have := h.lv; omega
  omega
end

theorem joinsR (l m : List UInt8) : (⟨l.toArray⟩ ++ ⟨m.toArray⟩ : ByteArray) = ⟨(l ++ m).toArray⟩ := ByteArray.mk_append_mk l m

section
variable {w : World} {rb : Nat} {S : Nat → Prop} {s : StF} {N : Nat}

set_option maxRecDepth 100000 in
set_option maxHeartbeats 8000000 in
theorem rsDigest_any (h : RS w rb S s N) (hN : N ≤ 100000) :
    Calls Tryz.prog 17 #[.pointer (some ⟨rb, 0, none⟩)] w fun e w' => GotDig w s e w' := by
  obtain ⟨qa, qv, A, V, h1, hM, -⟩ := h.ex
  have hlA := hM.la
  have hlV := hM.lv
  obtain ⟨ao, cap, rfl, -, hRow0⟩ := h1.ra.form
  obtain ⟨vo, vcap, rfl, -, hRowV0⟩ := h1.rv.form
  have hbx0 := h1.box
  have hdig := hM.isDig
  have hsA : Hid (∀ i, (digA s.acc (A.take i)).length ≤ 10000000) := fun i => by have := hM.lenA i; omega
  have hsV : Hid (∀ i, (digV s.val (V.take i)).length ≤ 20000000) := fun i => by have := hM.lenV i; omega
  have hendA : Hid (digA s.acc (A.take A.length) = digA s.acc A) := by show _ = _; rw [List.take_length]
  have hendV : Hid (digV s.val (V.take V.length) = digV s.val V) := by show _ = _; rw [List.take_length]
  replace hdig : Hid _ := hdig
  clear h h1
  generalize hGG : GotDig w s = GG
  replace hGG : Hid _ := hGG
  go_enter Tryz.func17, Tryz.ntmps17
  go_wp2_with fail
  go_loopw [3, 4, 5] (fun v3 v4 _ wr => ∃ i : Nat, i ≤ A.length ∧ v4 = .int .i64 (i : Int) ∧ v3 = .string ⟨(digA s.acc (A.take i)).toArray⟩ ∧ Below w.heap.size w wr) (fun _ v _ _ => A.length - (intOf v).toNat)
  case atStart => exact ⟨0, Nat.zero_le _, rfl, rfl, Below.refl _ _⟩
  case round =>
    obtain ⟨i, hi, rfl, rfl, hb⟩ := hrel
    have c0 := (hbx0.below hb hbx0.lt).cell (i := 0) rfl
    by_cases hil : i < A.length
    · have g1 : (i : Int) < (A.length : Int) := by omega
      obtain ⟨x, hx⟩ : ∃ x, A[i]? = some x := ⟨_, List.getElem?_eq_getElem hil⟩
      obtain ⟨b, off, hao, hbl, y0, y1, y2⟩ := (hRow0.below hb).acc hx
      subst hao
      have hat := hM.at (List.mem_of_getElem? hx)
      have hst := digA_next (f := s.acc) hx
      have hs1 := hsA.out i
      have hnm := hM.ok.nm x.1
      have hX := Arr.new wr 92 [.string x.1, .int .u64 (x.2.1 : Int), .int .u64 (x.2.2 : Int)]
      have hnb := belowNew wr (.cells #[.string x.1, .int .u64 (x.2.1 : Int), .int .u64 (x.2.2 : Int)] 92)
      have hb2 := hb.trans (hnb.mono hb.size)
      have ho1 := hM.ok.amt x.1
      have ho2 := hM.ok.num x.1
      rw [hat] at ho1 ho2 hnm
      obtain ⟨n, u1, u2⟩ := x
      replace ho1 : u1 ≤ 4611686018427387903 := ho1
      replace ho2 : u2 ≤ N := ho2
      replace hX : Arr (wr.alloc (.cells #[.string n, .int .u64 (u1 : Int), .int .u64 (u2 : Int)] 92)) wr.heap.size 92 [.string n, .int .u64 (u1 : Int), .int .u64 (u2 : Int)] := hX
      replace y0 : wr.cell? ⟨b, off + i * 3, none⟩ = some (.string n) := y0
      replace y1 : wr.cell? ⟨b, off + i * 3 + 1, none⟩ = some (.int .u64 (u1 : Int)) := y1
      replace y2 : wr.cell? ⟨b, off + i * 3 + 2, none⟩ = some (.int .u64 (u2 : Int)) := y2
      have hat' : Hid (s.acc n = (u1, u2)) := hat
      have hst' : Hid (digA s.acc (A.take (i + 1)) = digA s.acc (A.take i) ++ if ((u1, u2) : Nat × Nat) = (0, 0) then [] else accT s.acc n) := hst
      have hnm' : Hid ((u1, u2) ≠ ((0, 0) : Nat × Nat) → isNm n = true) := hnm
      obtain ⟨l0, hl0⟩ : ∃ q, Hid (digA s.acc (A.take i) = q) := ⟨_, rfl⟩
      obtain ⟨l9, hl9⟩ : ∃ q, Hid (digA s.acc (A.take (i + 1)) = q) := ⟨_, rfl⟩
      rw [hl0.out] at hst' hs1 ⊢
      rw [hl9.out] at hst'
      clear hat hst hnm hx hnb
      go_upto_region 6 with fail
      clear y0 y1 y2 c0 hbl hb
      generalize wr.alloc (.cells #[.string n, .int .u64 (u1 : Int), .int .u64 (u2 : Int)] 92) = w4 at *
      generalize wr.heap.size = xb at *
      have z0 := hX.cell (i := 0) rfl
      have z1 := hX.cell (i := 1) rfl
      have z2 := hX.cell (i := 2) rfl
      by_cases hzz : u1 = 0 ∧ u2 = 0
      · obtain ⟨rfl, rfl⟩ := hzz
        have he : Hid (l9 = l0) := by show _ = _; rw [hst'.out, if_pos rfl, List.append_nil]
        clear hst' hnm'
        go_wp2
        go_roundw
        case rel => exact ⟨i + 1, by omega, by go_num, by rw [hl9.out, he.out], hb2⟩
        case measure => simp [intOf]; omega
      · have hne : ((u1, u2) : Nat × Nat) ≠ (0, 0) := fun e => hzz ⟨congrArg Prod.fst e, congrArg Prod.snd e⟩
        have hnn := hnm'.out hne
        have hn32 := isNm_size hnn
        have he : Hid (l9 = l0 ++ txt (aP ++ n).data.toList ++ goInt (u1 : Nat) ++ goInt (u2 : Nat)) := by
          show _ = _
          rw [hst'.out, if_neg hne]
          unfold accT
          rw [hat'.out, List.append_assoc, List.append_assoc, List.append_assoc]
        have hsz1 : (⟨#[97, 58]⟩ : ByteArray).size + n.size ≤ 9223372036854775807 := by
          have : (⟨#[97, 58]⟩ : ByteArray).size = 2 := rfl
          omega
        have e1 := txt_le (aP ++ n).data.toList
        have e2 := goInt_length (u1 : Int)
        have e3 := goInt_length (u2 : Int)
        have e4 := dlen (aP ++ n)
        have e5 := apP_size n
        have kT : ∀ d os, Calls Tryz.prog 40 #[.string (⟨#[97, 58]⟩ ++ n)] (grow (redrawn w4 d) os) fun e w'' => e = .returned (.string ⟨(txt (aP ++ n).data.toList).toArray⟩) ∧ ∃ p : Regrown, w'' = grow (redrawn w4 p.d) p.os := fun d os => Calls.regrown_of (refText_any (aP ++ n) _ (by omega))
        have kI1 : ∀ d os, Calls Tryz.prog 41 #[.int .i64 (u1 : Int)] (grow (redrawn w4 d) os) fun e w'' => e = .returned (.string ⟨(goInt (u1 : Int)).toArray⟩) ∧ ∃ p : Regrown, w'' = grow (redrawn w4 p.d) p.os := fun d os => Calls.regrown_of (refInt_any (u1 : Int) _)
        have kI2 : ∀ d os, Calls Tryz.prog 41 #[.int .i64 (u2 : Int)] (grow (redrawn w4 d) os) fun e w'' => e = .returned (.string ⟨(goInt (u2 : Int)).toArray⟩) ∧ ∃ p : Regrown, w'' = grow (redrawn w4 p.d) p.os := fun d os => Calls.regrown_of (refInt_any (u2 : Int) _)
        have hw1 := wrap64i u1 ho1
        have hw2 := wrap64i u2 (by omega)
        generalize txt (aP ++ n).data.toList = T0 at *
        generalize goInt (u1 : Int) = T1 at *
        generalize goInt (u2 : Int) = T2 at *
        have j0 := joinsR l0 T0
        have j1 := joinsR (l0 ++ T0) T1
        have j2 := joinsR (l0 ++ T0 ++ T1) T2
        have m1 : (l0 ++ T0).length ≤ 20000000 := by rw [List.length_append]; omega
        have m2 : (l0 ++ T0 ++ T1).length ≤ 30000000 := by rw [List.length_append, List.length_append]; omega
        obtain ⟨l3, hl3⟩ : ∃ q, Hid (l0 ++ T0 ++ T1 ++ T2 = q) := ⟨_, rfl⟩
        rw [hl3.out] at j2 he
        obtain ⟨l2, hl2⟩ : ∃ q, Hid (l0 ++ T0 ++ T1 = q) := ⟨_, rfl⟩
        rw [hl2.out] at j1 j2 m2
        obtain ⟨l1, hl1⟩ : ∃ q, Hid (l0 ++ T0 = q) := ⟨_, rfl⟩
        rw [hl1.out] at j0 j1 m1
        clear hl1 hl2 hl3
        have hq0 : (⟨l0.toArray⟩ : ByteArray).size + (⟨T0.toArray⟩ : ByteArray).size ≤ 9223372036854775807 := by rw [size_mk, size_mk]; omega
        have hq1 : (⟨l1.toArray⟩ : ByteArray).size + (⟨T1.toArray⟩ : ByteArray).size ≤ 9223372036854775807 := by rw [size_mk, size_mk]; omega
        have hq2 : (⟨l2.toArray⟩ : ByteArray).size + (⟨T2.toArray⟩ : ByteArray).size ≤ 9223372036854775807 := by rw [size_mk, size_mk]; omega
        have Z0 := cell_regrown z0
        have Z1 := cell_regrown z1
        have Z2 := cell_regrown z2
        have HBF : Hid (∀ d os, Below w.heap.size w (grow (redrawn w4 d) os)) := fun d os => hb2.trans ((below_regrown w4 d os).mono hb2.size)
        have g6 : ((u1 : Int) != 0) = true ∨ (((u1 : Int) != 0) = false ∧ ((u2 : Int) != 0) = true) := by
          by_cases hu : u1 = 0
          · right
            have : u2 ≠ 0 := fun e => hzz ⟨hu, e⟩
            exact ⟨by rw [hu]; rfl, by rw [bne_iff_ne]; omega⟩
          · left
            rw [bne_iff_ne]; omega
        clear hnn hn32 hnm' hst' e1 e2 e3 e4 e5 hne hat' hzz
        rcases g6 with g6 | ⟨g6, g7⟩
        all_goals
          go_wp2_with fail
          clear z0 z1 z2
          refine wp_region_quiet_below (by kernel_rfl) (by kernel_rfl) ?_
          iterate 4 (go_big_quiet_step (fail))
          go_big_quiet_step (exact kT _ _)
          iterate 4 (go_big_quiet_step (fail))
          go_big_quiet_step (exact kI1 _ _)
          iterate 4 (go_big_quiet_step (fail))
          go_big_quiet_step (exact kI2 _ _)
          iterate 2 (go_big_quiet_step (fail))
          refine wpQuiet_nil ?_
          rintro w' ⟨pp, rfl⟩
          have hBF := HBF.out pp.d pp.os
          generalize grow (redrawn w4 pp.d) pp.os = w6 at hBF ⊢
          clear kT kI1 kI2 HBF Z0 Z1 Z2 hb2 hX
          go_wp2
          go_roundw
          case rel => exact ⟨i + 1, by omega, by go_num, by rw [hl9.out, he.out], hBF⟩
          case measure => simp [intOf]; omega
    · have g1 : ¬ (i : Int) < (A.length : Int) := by omega
      have hir : i = A.length := by omega
      subst hir
      have hsA2 := hsA.out A.length
      rw [hendA.out] at hsA2 ⊢
      obtain ⟨la, hla⟩ : ∃ q, Hid (digA s.acc A = q) := ⟨_, rfl⟩
      rw [hla.out] at hsA2 hdig ⊢
      clear hsA hendA hi hil hla
      go_wp2_with fail
      clear c0
      go_loopw [3, 6] (fun v3 v6 wr => ∃ i : Nat, i ≤ V.length ∧ v6 = .int .i64 (i : Int) ∧ v3 = .string ⟨(la ++ digV s.val (V.take i)).toArray⟩ ∧ Below w.heap.size w wr) (fun _ v _ => V.length - (intOf v).toNat)
      case atStart => exact ⟨0, Nat.zero_le _, rfl, by rw [List.take_zero]; unfold digV; rw [List.flatMap_nil, List.append_nil], hb⟩
      case round =>
        clear hb
        obtain ⟨i, hi, rfl, rfl, hb⟩ := hrel
        have c1 := (hbx0.below hb hbx0.lt).cell (i := 1) rfl
        by_cases hil : i < V.length
        · have g1 : (i : Int) < (V.length : Int) := by omega
          have g0 : (0 : Int) ≤ (i : Int) := by omega
          obtain ⟨x, hx⟩ : ∃ x, V[i]? = some x := ⟨_, List.getElem?_eq_getElem hil⟩
          obtain ⟨b, off, hao, hbl, y0, y1⟩ := (hRowV0.below hb).val hx
          subst hao
          have hat := hM.atV (List.mem_of_getElem? hx)
          have hst := digV_next (g := s.val) hx
          have hs1 := hsV.out i
          obtain ⟨hnm, hvz⟩ := hM.ok.vnm x.1 x.2 hat
          have hn32 := isNm_size hnm
          obtain ⟨n, t⟩ := x
          replace hn32 : n.size ≤ 32 := hn32
          replace hvz : t.size ≤ 64 := hvz
          replace y0 : wr.cell? ⟨b, off + i * 2, none⟩ = some (.string n) := y0
          replace y1 : wr.cell? ⟨b, off + i * 2 + 1, none⟩ = some (.string t) := y1
          have he : Hid (la ++ digV s.val (V.take (i + 1)) = la ++ digV s.val (V.take i) ++ txt (kP ++ n).data.toList ++ txt t.data.toList) := by
            show _ = _
            have hat' : s.val n = some t := hat
            rw [hst]
            unfold valT
            rw [hat', List.append_assoc, List.append_assoc]
            rfl
          have hll : (la ++ digV s.val (V.take i)).length ≤ 30000000 := by rw [List.length_append]; omega
          obtain ⟨l0, hl0⟩ : ∃ q, Hid (la ++ digV s.val (V.take i) = q) := ⟨_, rfl⟩
          obtain ⟨l9, hl9⟩ : ∃ q, Hid (la ++ digV s.val (V.take (i + 1)) = q) := ⟨_, rfl⟩
          rw [hl0.out] at he hll ⊢
          rw [hl9.out] at he
          have hsz1 : (⟨#[107, 58]⟩ : ByteArray).size + n.size ≤ 9223372036854775807 := by
            have : (⟨#[107, 58]⟩ : ByteArray).size = 2 := rfl
            omega
          have e1 := txt_le (kP ++ n).data.toList
          have e2 := txt_le t.data.toList
          have e4 := dlen (kP ++ n)
          have e5 := kpP_size n
          have e6 := dlen t
          have kT : ∀ d os, Calls Tryz.prog 40 #[.string (⟨#[107, 58]⟩ ++ n)] (grow (redrawn wr d) os) fun e w'' => e = .returned (.string ⟨(txt (kP ++ n).data.toList).toArray⟩) ∧ ∃ p : Regrown, w'' = grow (redrawn wr p.d) p.os := fun d os => Calls.regrown_of (refText_any (kP ++ n) _ (by omega))
          have kY : ∀ d os, Calls Tryz.prog 40 #[.string t] (grow (redrawn wr d) os) fun e w'' => e = .returned (.string ⟨(txt t.data.toList).toArray⟩) ∧ ∃ p : Regrown, w'' = grow (redrawn wr p.d) p.os := fun d os => Calls.regrown_of (refText_any t _ (by omega))
          generalize txt (kP ++ n).data.toList = T0 at *
          generalize txt t.data.toList = T1 at *
          have j0 := joinsR l0 T0
          have j1 := joinsR (l0 ++ T0) T1
          have m1 : (l0 ++ T0).length ≤ 40000000 := by rw [List.length_append]; omega
          obtain ⟨l2, hl2⟩ : ∃ q, Hid (l0 ++ T0 ++ T1 = q) := ⟨_, rfl⟩
          rw [hl2.out] at j1 he
          obtain ⟨l1, hl1⟩ : ∃ q, Hid (l0 ++ T0 = q) := ⟨_, rfl⟩
          rw [hl1.out] at j0 j1 m1
          clear hl1 hl2
          have hq0 : (⟨l0.toArray⟩ : ByteArray).size + (⟨T0.toArray⟩ : ByteArray).size ≤ 9223372036854775807 := by rw [size_mk, size_mk]; omega
          have hq1 : (⟨l1.toArray⟩ : ByteArray).size + (⟨T1.toArray⟩ : ByteArray).size ≤ 9223372036854775807 := by rw [size_mk, size_mk]; omega
          have Z0 := cell_regrown y0
          have Z1 := cell_regrown y1
          have ZC := cell_regrown c1
          have HBF : Hid (∀ d os, Below w.heap.size w (grow (redrawn wr d) os)) := fun d os => hb.trans ((below_regrown wr d os).mono hb.size)
          clear hat hst hs1 hnm hvz hn32 hx e1 e2 e4 e5 e6 hl0
          go_wp2_with fail
          clear y0 y1 c1
          refine wp_region_quiet_below (by kernel_rfl) (by kernel_rfl) ?_
          iterate 10 (go_big_quiet_step (fail))
          go_big_quiet_step (exact kT _ _)
          iterate 9 (go_big_quiet_step (fail))
          go_big_quiet_step (exact kY _ _)
          iterate 2 (go_big_quiet_step (fail))
          refine wpQuiet_nil ?_
          rintro w' ⟨pp, rfl⟩
          have hBF := HBF.out pp.d pp.os
          generalize grow (redrawn wr pp.d) pp.os = w6 at hBF ⊢
          clear kT kY HBF Z0 Z1 ZC hb
          go_wp2
          go_roundw
          case rel => exact ⟨i + 1, by omega, by go_num, by rw [hl9.out, he.out], hBF⟩
          case measure => simp [intOf]; omega
        · have g1 : ¬ (i : Int) < (V.length : Int) := by omega
          have hir : i = V.length := by omega
          subst hir
          have hsV2 := hsV.out V.length
          rw [hendV.out] at hsV2 ⊢
          have hll : (la ++ digV s.val V).length ≤ 30000000 := by rw [List.length_append]; omega
          obtain ⟨t, ht⟩ : ∃ q, Hid (la ++ digV s.val V = q) := ⟨_, rfl⟩
          rw [ht.out] at hll hdig ⊢
          have cM := Mx.refSum_any ⟨t.toArray⟩ wr (by rw [size_mk]; omega)
          clear hsV hendV hi hil hsV2 ht
          go_wp2_with fail
          refine cM.mono ?_
          rintro e w6 ⟨rfl, hb6⟩
          have hfin : GG (.returned (.string (Mx.bytes (Mx.sumL t)))) w6 := by
            rw [← hGG.out]
            exact ⟨t, hdig.out, rfl, hb.trans (hb6.mono hb.size)⟩
          clear cM hdig hGG
          go_wp2
          exact hfin
end
end Go.Proofs.YtajpfkenhchafaaGreatDoor
