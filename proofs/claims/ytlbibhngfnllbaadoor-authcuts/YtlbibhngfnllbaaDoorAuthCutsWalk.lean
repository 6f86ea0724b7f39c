/- tusklaw03.AuthCuts answers true; nothing old in memory is turned. -/
import Derived.Test.YtlbibhngfnllbaaDoorAuthWorks
import Derived.Deep.RegionLaw
import Derived.Deep.RegionHeld3
namespace Go.Proofs.YtlbibhngfnllbaaDoor
open Go.RowKit Go.Sort
set_option linter.unusedVariables false

/-- Which error numbers' own tags give. -/
def goN : Int → List Nat → Nat
  | _, [] => 0
  | a, i :: l => if (i : Int) ≤ a then 9 else goN (i : Int) l

theorem go_nat {ks : List ByteArray} {kind word : ByteArray} : ∀ (l : List Nat) (a : Int), (∀ i ∈ l, i < ks.length) → enoughGo ks kind word a (l.map (tagOf ks kind word)) = goN a l
  | [], _, _ => rfl
  | i :: l, a, h => by
    have hi := h i (by simp)
    rw [List.map_cons, enoughGo, goN]
    by_cases ha : (i : Int) ≤ a
    · have : tagErr ks kind word a (tagOf ks kind word i) = 9 := by
        unfold tagErr tagOf
        simp only
        rw [if_neg (by omega), if_pos ha]
      rw [this, if_neg (by decide), if_pos ha]
    · rw [if_pos (tagErr_own hi (by omega)), if_neg ha]
      exact go_nat l _ (fun j hj => h j (by simp [hj]))

theorem enough_nat {ks : List ByteArray} {kind word : ByteArray} (f : Nat) (l : List Nat) (h : ∀ i ∈ l, i < ks.length) : enoughL ks f kind word (l.map (tagOf ks kind word)) = if goN (-1) l = 0 then (if l.length < 2 * f + 1 then 12 else 0) else goN (-1) l := by
  unfold enoughL
  rw [go_nat l (-1) h, List.length_map]

def fewL (L i : Nat) : List Nat := (List.range L).take i ++ (List.range L).drop (i + 1)
def twiceL (L i : Nat) : List Nat := (List.range L).take (i + 1) ++ [i] ++ (List.range L).drop (i + 1)
def swapL (L i k : Nat) : List Nat := ((List.range L).set i k).set k i

theorem cuts_all : ∀ f : Fin 3, 1 ≤ f.val → ∀ i : Fin 5, ∀ k : Fin 5, i.val < 2 * f.val + 1 → k.val < 2 * f.val + 1 →
    (goN (-1) (fewL (2 * f.val + 1) i.val) = 0 ∧ (fewL (2 * f.val + 1) i.val).length < 2 * f.val + 1 ∧ goN (-1) (twiceL (2 * f.val + 1) i.val) = 9 ∧ goN (-1) (swapL (2 * f.val + 1) i.val k.val) = (if i.val = k.val then 0 else 9) ∧ (swapL (2 * f.val + 1) i.val k.val).length = 2 * f.val + 1
      ∧ (∀ j ∈ fewL (2 * f.val + 1) i.val, j < 2 * f.val + 1) ∧ (∀ j ∈ twiceL (2 * f.val + 1) i.val, j < 2 * f.val + 1) ∧ (∀ j ∈ swapL (2 * f.val + 1) i.val k.val, j < 2 * f.val + 1)) := by decide +kernel

theorem cuts_enough {ks : List ByteArray} {kind word : ByteArray} {f L i k : Nat} (f1 : 1 ≤ f) (f2 : f ≤ 2) (hL : L = 2 * f + 1) (hk : L ≤ ks.length) (hi : i < L) (hk2 : k < L) :
    enoughL ks f kind word ((fewL L i).map (tagOf ks kind word)) = 12 ∧ enoughL ks f kind word ((twiceL L i).map (tagOf ks kind word)) = 9 ∧ enoughL ks f kind word ((swapL L i k).map (tagOf ks kind word)) = (if i = k then 0 else 9) := by
  subst hL
  obtain ⟨a1, a2, a3, a4, a5, m1, m2, m3⟩ := cuts_all ⟨f, by omega⟩ f1 ⟨i, by omega⟩ ⟨k, by omega⟩ hi hk2
  simp only at a1 a2 a3 a4 a5 m1 m2 m3
  refine ⟨?_, ?_, ?_⟩
  · rw [enough_nat f _ (fun j hj => Nat.lt_of_lt_of_le (m1 j hj) hk), a1, if_pos rfl, if_pos a2]
  · rw [enough_nat f _ (fun j hj => Nat.lt_of_lt_of_le (m2 j hj) hk), a3, if_neg (by decide)]
  · rw [enough_nat f _ (fun j hj => Nat.lt_of_lt_of_le (m3 j hj) hk), a4, a5]
    by_cases h : i = k
    · rw [if_pos h, if_pos rfl, if_neg (by omega)]
    · rw [if_neg h, if_neg (by decide)]

theorem flatT_set : ∀ (l : List (Int × ByteArray)) (i : Nat) (x : Int × ByteArray), flatT (l.set i x) = ((flatT l).set (i * 2) (.int .i64 x.1)).set (i * 2 + 1) (.string x.2)
  | [], i, x => by simp [flatT]
  | y :: l, 0, x => rfl
  | y :: l, i + 1, x => by
    rw [List.set_cons_succ, flatT, flatT_set l i x, flatT, show (i + 1) * 2 = i * 2 + 1 + 1 by omega]
    rfl

theorem step_append_own {P : Program} (w : World) {ops : Array Oper} {o : Oper} {a : Act} {K : Act → World → Prop} {Q : Exit → Act → World → Prop} {E : Prop} (hgd : o.guard = none) (s x : Operand) (t : TypeId)
    (ho : o.op = .call { callee := .builtin .append, args := #[s, x], argTypes := #[t, t] })
    (base : Nat) (e : TypeId) (i : TypeInfo) (z : Value) (size bytes : Nat) (ht : P.underlying t = some (.slice e)) (hi : P.info? e = some i) (hz : i.zero = some z)
    (hsize : i.size = size) (hby : i.bytes = bytes) (hzs : z.cells.size = size) (hsz : 0 < size)
    (v : Value) (n : Nat) (xs : List Value) (hs : a.eval s = v) (hown : w.ownsRow base e size v n xs)
    (ad : Addr) (m c : Nat) (news : List Value) (hx : a.eval x = .slice (some ad) m c) (hl : news.length = m * size) (hnews : ∀ j u, news[j]? = some u → w.cell? (ad.add j) = some u) (h1 : ∀ u ∈ news, u.oneCell' = true)
    (h63 : n + m ≤ maxLen) (hbytes : (n + m) * bytes ≤ 140737488355328) (hbase : base ≤ w.heap.size)
    (h : ∀ v' w', w'.ownsRow base e size v' (n + m) (xs ++ news) → w.grownBy w' v.ownBlock → K (a.put o.dst v') w') : if Region.wanted o (yielded ops a.tmps) = true then Oper.wp P o a w K Q else E := by
  rw [if_pos (by simp [Region.wanted, hgd])]
  exact wp_append_own w s x t ho base e i z size bytes ht hi hz hsize hby hzs hsz v n xs hs hown ad m c news hx hl hnews h1 h63 hbytes hbase fun v' w' h2 h3 _ => h v' w' h2 h3

theorem flatT_take : ∀ (l : List (Int × ByteArray)) (i : Nat), flatT (l.take i) = (flatT l).take (i * 2)
  | [], i => by simp [flatT]
  | x :: l, 0 => rfl
  | x :: l, i + 1 => by rw [List.take_succ_cons, flatT, flatT_take l i, flatT, show (i + 1) * 2 = i * 2 + 1 + 1 by omega]; rfl

theorem flatT_drop : ∀ (l : List (Int × ByteArray)) (i : Nat), flatT (l.drop i) = (flatT l).drop (i * 2)
  | [], i => by simp [flatT]
  | x :: l, 0 => rfl
  | x :: l, i + 1 => by rw [List.drop_succ_cons, flatT_drop l i, flatT, show (i + 1) * 2 = i * 2 + 1 + 1 by omega]; rfl

/-- The cells of the head of a row. -/
theorem news_take {w : World} {g : Nat} {l : List (Int × ByteArray)} (h : ∀ p u, (flatT l)[p]? = some u → w.cell? ⟨g, p, none⟩ = some u) (i : Nat) : ∀ p u, (flatT (l.take i))[p]? = some u → w.cell? ((⟨g, 0, none⟩ : Addr).add p) = some u := by
  intro p u hp
  rw [flatT_take, List.getElem?_take] at hp
  split at hp
  · rw [Addr.add_mid, Nat.zero_add]
    exact h p u hp
  · cases hp

/-- The cells of its rest. -/
theorem news_drop {w : World} {g : Nat} {l : List (Int × ByteArray)} (h : ∀ p u, (flatT l)[p]? = some u → w.cell? ⟨g, p, none⟩ = some u) (i : Nat) : ∀ p u, (flatT (l.drop i))[p]? = some u → w.cell? ((⟨g, i * 2, none⟩ : Addr).add p) = some u := by
  intro p u hp
  rw [flatT_drop, List.getElem?_drop] at hp
  rw [Addr.add_mid]
  exact h _ u hp

theorem TagsAt.far {w : World} {ao : Option Addr} {l : List (Int × ByteArray)} {g p : Nat} (h : TagsAt w ao l) (hb : ∀ q o, ao = some ⟨q, o, none⟩ → g < q) (u : Value) : TagsAt (w.setCell ⟨g, p, none⟩ u) ao l := by
  intro j x hj
  obtain ⟨b, off, h1, h2, h3, h4⟩ := h j x hj
  have hne : g ≠ b := Nat.ne_of_lt (hb b off h1)
  refine ⟨b, off, h1, ?_, ?_, ?_⟩
  · exact Nat.lt_of_lt_of_le h2 ((Below.refl 0 w).setCell (p := ⟨g, p, none⟩) (Nat.zero_le _) u).size
  · rw [World.cell?_setCell_far w ⟨g, p, none⟩ ⟨b, off + j * 2, none⟩ u hne]; exact h3
  · rw [World.cell?_setCell_far w ⟨g, p, none⟩ ⟨b, off + j * 2 + 1, none⟩ u hne]; exact h4

theorem own_there {w : World} {B : Nat} {e : TypeId} {s g n cap : Nat} {xs : List Value} (h : w.ownsRow B e s (.slice (some ⟨g, 0, none⟩) n cap) n xs) {p : Nat} (hp : p < n * s) : ∃ u, w.cell? ⟨g, p, none⟩ = some u := by
  have hl := h.1
  rw [h.cellAt p hp]
  exact ⟨xs[p]'(by rw [hl]; exact hp), List.getElem?_eq_getElem (by rw [hl]; exact hp)⟩

theorem small_len {a : Nat} (h : a ≤ 100) : a ≤ maxLen := Nat.le_trans h (by decide)

theorem swap_tags (ks : List ByteArray) (kind word : ByteArray) (L j k : Nat) : (((List.range L).map (tagOf ks kind word)).set j (tagOf ks kind word k)).set k (tagOf ks kind word j) = (swapL L j k).map (tagOf ks kind word) := by
  unfold swapL
  rw [List.map_set, List.map_set]

theorem few_tags (ks : List ByteArray) (kind word : ByteArray) (L j : Nat) : ((List.range L).map (tagOf ks kind word)).take j ++ ((List.range L).map (tagOf ks kind word)).drop (j + 1) = (fewL L j).map (tagOf ks kind word) := by
  unfold fewL
  rw [List.map_append, List.map_take, List.map_drop]

theorem twice_tags (ks : List ByteArray) (kind word : ByteArray) (L j : Nat) : ((List.range L).map (tagOf ks kind word)).take (j + 1) ++ [tagOf ks kind word j] ++ ((List.range L).map (tagOf ks kind word)).drop (j + 1) = (twiceL L j).map (tagOf ks kind word) := by
  unfold twiceL
  rw [List.map_append, List.map_append, List.map_take, List.map_drop]
  rfl

theorem Hid.mk {p : Prop} (h : p) : Hid p := h

theorem own_zero {w : World} {B : Nat} {e : TypeId} {s : Nat} {v : Value} {n : Nat} {xs : List Value} (h : w.ownsRow B e s v (0 + n) ([] ++ xs)) : w.ownsRow B e s v n xs := by simpa using h

theorem cells_kept {w w' : World} {q : Nat} {xs : List Value} {row : Option Nat} (h : ∀ p u, xs[p]? = some u → w.cell? ((⟨q, 0, none⟩ : Addr).add p) = some u) (hg : w.grownBy w' row) (hq : q < w.heap.size) (hr : ¬ some q = row) : ∀ p u, xs[p]? = some u → w'.cell? ((⟨q, 0, none⟩ : Addr).add p) = some u := by
  intro p u hp
  have := h p u hp
  rw [Addr.add_mid] at this ⊢
  rw [World.cell?_of_block (w := w) (a := ⟨q, 0 + p, none⟩) (hg.block q hq hr)]
  exact this

set_option maxRecDepth 100000 in
set_option maxHeartbeats 10000000 in
theorem authCuts_walk (f atv wth : Int) (w : World) (hwf : (Lit.int .i64 f).wf = true) (hwf2 : (Lit.int .i64 atv).wf = true) (hwf3 : (Lit.int .i64 wth).wf = true) (hG : Glob w) :
    Calls Tryd.prog 7 #[.int .i64 f, .int .i64 atv, .int .i64 wth] w fun e w' => e = .returned (.bool true) ∧ Below w.heap.size w w' := by
  obtain ⟨i0, hi, hz0, hz1, hz2⟩ := info_parts infoTagAll
  go_enter Tryd.func7, Tryd.ntmps7
  go_wp2_with fail
  refine (works_any w hG).mono ?_
  rintro e w1 ⟨rfl, hB1⟩
  have hG1 := hG.below hB1
  obtain ⟨n, n1, n2, hn⟩ := pick_f f
  go_wp2_with fail
  refine (new_yes n _ w1 n1 n2 (by decide) hG1).mono ?_
  rintro e w2 ⟨b, rfl, hb1, hT, hB2⟩
  have hG2 := hG1.below hB2
  have hB3 := hB1.trans (hB2.mono hB1.size)
  clear hB1 hB2 hG1 hb1
  obtain ⟨ks, hks⟩ : ∃ z, Hid (z = keysL ⟨#[115, 101, 101, 100]⟩ (3 * n + 1)) := ⟨_, rfl⟩
  rw [← hks.out] at hT
  have hk32 : ∀ k ∈ ks, k.size ≤ 32 := by rw [hks.out]; exact keysL_size _ _
  have hkl : ks.length = 3 * n + 1 := by rw [hks.out, keysL_len]
  obtain ⟨L, hL⟩ : ∃ z, Hid (z = 2 * n + 1) := ⟨_, rfl⟩
  have hL5 : L ≤ 5 := by have := hL.out; omega
  have hL0 : 0 < L := by have := hL.out; omega
  have hLk : L ≤ ks.length := by have := hL.out; omega
  have hLe : 2 * (n : Int) + 1 = (L : Int) := by have := hL.out; omega
  have k0 : ∀ w', TabAt w' b n ks → Calls Tryd.prog 13 #[.pointer (some ⟨b, 0, none⟩)] w' fun e w'' => e = .returned (.int .i64 (L : Int)) ∧ w'' = w' := fun w' h => by
    rw [hL.out]
    exact need_any b n ks w' h n2
  go_wp2_with fail
  refine (k0 _ hT).mono ?_
  rintro e w' ⟨rfl, rfl⟩
  go_wp2
  go_loopw [9, 10, 11, 12] (fun v9 v10 v11 v12 wr => ∃ (i : Nat) (ao : Option Addr) (cap : Nat), i ≤ L ∧ v10 = .int .i64 (i : Int) ∧ v9 = .slice ao i cap ∧ wr.ownsRow w'.heap.size 32 2 (.slice ao i cap) i (flatT ((List.range i).map (tagOf ks ⟨#[107]⟩ ⟨#[119]⟩))) ∧ Below w'.heap.size w' wr) (fun _ v10 _ _ _ => L - (intOf v10).toNat)
  case atStart => exact ⟨0, none, 0, Nat.zero_le _, rfl, rfl, World.ownsRow_nil _ _ _ _, Below.refl _ _⟩
  case round =>
    obtain ⟨i, ao, cap, hiL, rfl, rfl, hown, hBr⟩ := hrel
    by_cases hlt : i < L
    · have h1 : (i : Int) < (L : Int) := by omega
      have hkj := getD_some (ks := ks) (i := i) (by omega)
      have hTr := hT.below hBr
      have sg := sign_yes b n ks i ⟨#[107]⟩ ⟨#[119]⟩ wr hTr _ hkj hk32 (by decide) (by decide) (hG2.below hBr)
      obtain ⟨x, hx⟩ : ∃ z, Hid (z = macOf (ks.getD i ⟨#[]⟩) ⟨#[107]⟩ ⟨#[119]⟩) := ⟨_, rfl⟩
      rw [← hx.out] at sg
      unfold tagV at sg
      have hcc3 : i + 1 ≤ maxLen := by unfold maxLen; omega
      have hcc4 : (i + 1) * 24 ≤ 140737488355328 := by omega
      go_wp2_with fail
      refine (k0 _ hTr).mono ?_
      rintro e w3 ⟨rfl, rfl⟩
      go_wp2_with fail
      refine sg.mono ?_
      rintro e w4 ⟨rfl, hB4⟩
      clear sg
      have hB5 := hB4.alloc hB4.size (.cells #[.int .i64 (i : Int), .string x] 32)
      have hB6 := hBr.trans (hB5.mono hBr.size)
      have hown3 := own_below hown hB5
      have hownA := hown3.alloc (.cells #[.int .i64 (i : Int), .string x] 32)
      have hN1 := new_tag (w4.alloc (.cells #[.int .i64 (i : Int), .string x] 32)) ((i : Int), x)
      rw [alloc_size] at hN1
      have hB7 := hB6.alloc hB6.size (.cells #[.int .i64 (i : Int), .string x] 32)
      have hszA := hB7.size
      go_wp2_with (at_builtin; refine wpList_append_own _ rfl _ _ 37 rfl w'.heap.size 32 i0 (.agg #[.int .i64 0, .string ⟨#[]⟩]) 2 24 Tryd.underlying37 hi hz0 hz1 hz2 rfl (by decide) _ i (flatT ((List.range i).map (tagOf ks ⟨#[107]⟩ ⟨#[119]⟩))) rfl hownA ⟨w4.heap.size + 1, 0, none⟩ 1 1 (flatT [((i : Int), x)]) rfl rfl hN1 (flatT_one _) ?c3 ?c4 ?c5 ?_)
      case c3 => exact hcc3
      case c4 => exact hcc4
      case c5 => exact hszA
      intro v' w5 hown' hgrow _
      have hB8 : Below w'.heap.size w' w5 := hB7.grown hgrow hszA (fun k hk => (hownA.lt k hk).1)
      rw [← flatT_append, hx.out, show [((i : Int), macOf (ks.getD i ⟨#[]⟩) ⟨#[107]⟩ ⟨#[119]⟩)] = [i].map (tagOf ks ⟨#[107]⟩ ⟨#[119]⟩) from rfl, ← List.map_append, ← List.range_succ] at hown'
      obtain ⟨ao', cap', rfl⟩ := own_form hown'
      clear hown hownA hown3 hN1 hgrow hB4 hB5 hB6 hB7 hszA hBr hTr
      go_wp2
      go_roundw
      case rel => exact ⟨i + 1, ao', cap', by omega, by go_num, rfl, hown', hB8⟩
      case measure => simp [intOf]; omega
    · obtain rfl : i = L := by omega
      have h1 : ¬ (i : Int) < (i : Int) := by omega
      obtain ⟨g, cap', hv, hg1, hg2⟩ := hown.form hL0
      obtain ⟨rfl, rfl⟩ : ao = some ⟨g, 0, none⟩ ∧ cap = cap' := by simpa using hv
      have hcap := own_cap hown
      obtain ⟨j, hj, hje⟩ := pick_j atv i hL0 (by omega)
      obtain ⟨k, hk, hke⟩ := pick_j wth i hL0 (by omega)
      have hnw : IntKind.u64.wrap (i : Int) = (i : Int) := by rw [wrap_u64]; omega
      have hiz : ¬ (i : Int) = 0 := by omega
      have hizb : ((i : Int) == 0) = false := by simpa using hiz
      go_wp2_with fail
      refine (k0 _ (hT.below hBr)).mono ?_
      rintro e w3 ⟨rfl, rfl⟩
      go_wp2_with fail
      go_big_quiet (fail)
      have hbq := below_drewN (Below.refl w3.heap.size w3) nq
      have hown3 := own_below hown hbq
      have hB4 := hBr.trans (hbq.mono hBr.size)
      generalize w3.drewN nq = w4 at hown3 hB4 ⊢
      clear hbq hown hBr
      simp only [hje, hke]
      obtain ⟨lt, hlt'⟩ : ∃ z, Hid (z = (List.range i).map (tagOf ks ⟨#[107]⟩ ⟨#[119]⟩)) := ⟨_, rfl⟩
      rw [← hlt'.out] at hown3
      have hll : lt.length = i := by rw [hlt'.out]; simp
      have hcells : Hid (∀ p u, (flatT lt)[p]? = some u → w4.cell? ⟨g, p, none⟩ = some u) := fun p u hp => by
        have := hown3.cells rfl p u hp
        rw [Addr.add_mid, Nat.zero_add] at this
        exact this
      have hg4 : g < w4.heap.size := (hown3.lt g rfl).2
      have hj1 : (j : Int) ≤ (cap : Int) := by omega
      have hj0 : (0 : Int) ≤ (j : Int) := by omega
      have hj2 : (j : Int) + 1 ≤ (i : Int) := by omega
      have hj3 : (0 : Int) ≤ (j : Int) + 1 := by omega
      have hO1 : ((w4.alloc (.cells #[] 32)).drew).ownsRow w4.heap.size 32 2 (.slice (some ⟨w4.heap.size, 0, none⟩) 0 0) 0 [] := World.ownsRow_lit w4 #[] 0 (Nat.le_refl _) (Nat.zero_le _) rfl
      have he3 : Hid (0 + (j + 1) ≤ maxLen) := by show _ ≤ _; unfold maxLen; omega
      have he4 : Hid ((0 + (j + 1)) * 24 ≤ 140737488355328) := by show _ ≤ _; omega
      have he5 : Hid (j + 1 + 1 ≤ maxLen) := by show _ ≤ _; unfold maxLen; omega
      have he6 : Hid ((j + 1 + 1) * 24 ≤ 140737488355328) := by show _ ≤ _; omega
      have he7 : Hid (j + 1 + 1 + (i - (j + 1)) ≤ maxLen) := by show _ ≤ _; unfold maxLen; omega
      have he8 : Hid ((j + 1 + 1 + (i - (j + 1))) * 24 ≤ 140737488355328) := by show _ ≤ _; omega
      have hk0 : (0 : Int) ≤ (k : Int) := by omega
      have hk1 : (k : Int) < (i : Int) := by omega
      have hj4 : (j : Int) < (i : Int) := by omega
      have hj5 : (j : Int) + 1 ≤ (cap : Int) := by omega
      have hp1 : Hid (j * 2 < i * 2 ∧ j * 2 + 1 < i * 2 ∧ k * 2 < i * 2 ∧ k * 2 + 1 < i * 2) := by show _ ∧ _; omega
      have hjle : j + 1 ≤ i := by omega
      have hL2 : Hid (i = 2 * n + 1) := hL
      have hcut := cuts_enough (ks := ks) (kind := ⟨#[107]⟩) (word := ⟨#[119]⟩) n1 n2 hL2.out hLk hj hk
      have hcut' : Hid (enoughL ks n ⟨#[107]⟩ ⟨#[119]⟩ ((fewL i j).map (tagOf ks ⟨#[107]⟩ ⟨#[119]⟩)) = 12 ∧ enoughL ks n ⟨#[107]⟩ ⟨#[119]⟩ ((twiceL i j).map (tagOf ks ⟨#[107]⟩ ⟨#[119]⟩)) = 9 ∧ enoughL ks n ⟨#[107]⟩ ⟨#[119]⟩ ((swapL i j k).map (tagOf ks ⟨#[107]⟩ ⟨#[119]⟩)) = (if j = k then 0 else 9)) := hcut
      clear hcut
      have hi100 : i ≤ 100 := by omega
      have hs1 : Hid (j + (i - (j + 1)) ≤ 100 ∧ j + 1 + 1 + (i - (j + 1)) ≤ 100) := by show _ ∧ _; omega
      have hjw : IntKind.i64.wrap ((j : Int) + 1) = (j : Int) + 1 := by simp [IntKind.wrap, IntKind.bits, IntKind.signed]; omega
      have hnt : ∀ p u, (flatT (lt.take j))[p]? = some u → ((w4.alloc (.cells #[] 32)).drew).cell? ((⟨g, 0, none⟩ : Addr).add p) = some u := news_take (fun p u hp => by
        show (w4.alloc (.cells #[] 32)).cell? _ = _
        rw [((Below.refl w4.heap.size w4).alloc (Nat.le_refl _) (.cells #[] 32)).cell (p := ⟨g, p, none⟩) hg4]
        exact hcells.out p u hp) j
      have hlt1 : (flatT (lt.take j)).length = j * 2 := by rw [flatT_length, List.length_take, hll, Nat.min_eq_left (by omega)]
      have hc3 : 0 + j ≤ maxLen := by unfold maxLen; omega
      have hc4 : (0 + j) * 24 ≤ 140737488355328 := by omega
      have hc5 : w4.heap.size ≤ ((w4.alloc (.cells #[] 32)).drew).heap.size := ((Below.refl w4.heap.size w4).alloc (Nat.le_refl _) (.cells #[] 32)).size
      obtain ⟨A, hA, hdA⟩ : ∃ A : Addr, (if cap = j + 1 then some (⟨g, 0, none⟩ : Addr) else some ⟨g, (j + 1) * 2, none⟩) = some A ∧ Hid (∀ w' : World, (∀ p u, (flatT lt)[p]? = some u → w'.cell? ⟨g, p, none⟩ = some u) → ∀ p u, (flatT (lt.drop (j + 1)))[p]? = some u → w'.cell? (A.add p) = some u) := by
        by_cases hce : cap = j + 1
        · refine ⟨⟨g, 0, none⟩, by rw [if_pos hce], fun w' _ p u hp => ?_⟩
          rw [List.drop_eq_nil_of_le (by omega)] at hp
          simp [flatT] at hp
        · exact ⟨⟨g, (j + 1) * 2, none⟩, by rw [if_neg hce], fun w' h => news_drop h (j + 1)⟩
      have hlt2 : (flatT (lt.drop (j + 1))).length = (i - (j + 1)) * 2 := by rw [flatT_length, List.length_drop, hll]
      have hc6 : j + (i - (j + 1)) ≤ maxLen := by unfold maxLen; omega
      have hc7 : (j + (i - (j + 1))) * 24 ≤ 140737488355328 := by omega
      go_wp2_with fail
      go_region_law (first
        | (refine step_append_own _ (by rfl) _ _ 37 (by rfl) w4.heap.size 32 i0 (.agg #[.int .i64 0, .string ⟨#[]⟩]) 2 24 Tryd.underlying37 hi hz0 hz1 hz2 rfl (by decide) _ 0 [] (by rfl) hO1 ⟨g, 0, none⟩ j cap (flatT (lt.take j)) (by rfl) hlt1 hnt (flatT_one _) hc3 hc4 hc5 ?_; intro v5 w5 hown5 hgrow5; have hown5' : w5.ownsRow w4.heap.size 32 2 v5 j (flatT (lt.take j)) := (by simpa using hown5); have hb5 : Below w4.heap.size w4 w5 := (((Below.refl w4.heap.size w4).alloc (Nat.le_refl _) (.cells #[] 32)).drew).grown hgrow5 hc5 (fun k hk => (hO1.lt k hk).1); have hd5 := hdA.out w5 (fun p u hp => (hb5.cell (p := ⟨g, p, none⟩) hg4).trans (hcells.out p u hp)))
        | (refine step_append_own _ (by rfl) _ _ 37 (by rfl) w4.heap.size 32 i0 (.agg #[.int .i64 0, .string ⟨#[]⟩]) 2 24 Tryd.underlying37 hi hz0 hz1 hz2 rfl (by decide) _ j (flatT (lt.take j)) (by rfl) hown5' A (i - (j + 1)) (cap - (j + 1)) (flatT (lt.drop (j + 1))) (by rfl) hlt2 hd5 (flatT_one _) hc6 hc7 hb5.size ?_; intro v6 w6 hown6 hgrow6))
      have hown7 : w6.ownsRow w4.heap.size 32 2 v6 (j + (i - (j + 1))) (flatT (lt.take j ++ lt.drop (j + 1))) := by
        rw [flatT_append]; exact hown6
      have hb6 : Below w4.heap.size w4 w6 := hb5.grown hgrow6 hb5.size (fun k hk => (hown5'.lt k hk).1)
      obtain ⟨fo, fcap, rfl⟩ := own_form hown7
      have hfl : (lt.take j ++ lt.drop (j + 1)).length = j + (i - (j + 1)) := by rw [List.length_append, List.length_take, List.length_drop, hll, Nat.min_eq_left (by omega)]
      have htf := own_tags_at hfl hown7
      have hfb : Hid (∀ q o, fo = some ⟨q, o, none⟩ → w4.heap.size ≤ q) := fun q o e => by subst e; exact (hown7.lt q rfl).1
      have hown8 := own_below hown3 hb6
      have hB6 := hB4.trans (hb6.mono hB4.size)
      have hcells6 : Hid (∀ p u, (flatT lt)[p]? = some u → w6.cell? ⟨g, p, none⟩ = some u) := fun p u hp => (hb6.cell (p := ⟨g, p, none⟩) hg4).trans (hcells.out p u hp)
      have hg6 : g < w6.heap.size := Nat.lt_of_lt_of_le hg4 hb6.size
      have hsz6 := hb6.size
      clear hown5 hown5' hgrow5 hb5 hd5 hown6 hgrow6 hO1 hnt hc3 hc4 hc5 hc6 hc7 hlt1 hb6 hcells hB4 hown3 hown7
      obtain ⟨x, hx⟩ : ∃ z, Hid (z = macOf (ks.getD j ⟨#[]⟩) ⟨#[107]⟩ ⟨#[119]⟩) := ⟨_, rfl⟩
      have hltj : Hid (lt[j]? = some ((j : Int), x)) := by
        show _ = _
        rw [hlt'.out, List.getElem?_map, List.getElem?_range hj, hx.out]
        rfl
      obtain ⟨y, hy⟩ : ∃ z, Hid (z = macOf (ks.getD k ⟨#[]⟩) ⟨#[107]⟩ ⟨#[119]⟩) := ⟨_, rfl⟩
      have ex : ((j : Int), x) = tagOf ks ⟨#[107]⟩ ⟨#[119]⟩ j := by rw [hx.out]; rfl
      have ey : ((k : Int), y) = tagOf ks ⟨#[107]⟩ ⟨#[119]⟩ k := by rw [hy.out]; rfl
      have q1 : Hid (enoughL ks n ⟨#[107]⟩ ⟨#[119]⟩ (lt.take j ++ lt.drop (j + 1)) = 12) := by show _ = _; rw [hlt'.out, few_tags]; exact hcut'.out.1
      have q2 : Hid (enoughL ks n ⟨#[107]⟩ ⟨#[119]⟩ (lt.take (j + 1) ++ [((j : Int), x)] ++ lt.drop (j + 1)) = 9) := by show _ = _; rw [hlt'.out, ex, twice_tags]; exact hcut'.out.2.1
      have q3 : Hid (enoughL ks n ⟨#[107]⟩ ⟨#[119]⟩ ((lt.set j ((k : Int), y)).set k ((j : Int), x)) = if j = k then 0 else 9) := by show _ = _; rw [hlt'.out, ex, ey, swap_tags]; exact hcut'.out.2.2
      have htl : Hid ((lt.take (j + 1) ++ [((j : Int), x)] ++ lt.drop (j + 1)).length = j + 1 + 1 + (i - (j + 1))) := by
        show _ = _
        rw [List.length_append, List.length_append, List.length_take, List.length_drop, hll, Nat.min_eq_left hjle]; rfl
      have hff : Hid (∀ q o, fo = some ⟨q, o, none⟩ → g < q) := fun q o e => Nat.lt_of_lt_of_le hg4 (hfb.out q o e)
      clear ex ey hcut'
      have cj : w6.cell? ⟨g, j * 2, none⟩ = some (.int .i64 (j : Int)) ∧ w6.cell? ⟨g, j * 2 + 1, none⟩ = some (.string x) := ⟨hcells6.out _ _ (flatT_get lt j _ hltj.out).1, hcells6.out _ _ (flatT_get lt j _ hltj.out).2⟩
      have hlt1 : Hid ((flatT (lt.take (j + 1))).length = (j + 1) * 2) := by show _ = _; rw [flatT_length, List.length_take, hll, Nat.min_eq_left (by omega)]
      have hOa : ((w6.alloc (.cells #[] 32)).drew).ownsRow w6.heap.size 32 2 (.slice (some ⟨w6.heap.size, 0, none⟩) 0 0) 0 [] := World.ownsRow_lit w6 #[] 0 (Nat.le_refl _) (Nat.zero_le _) rfl
      have hOb : (((w6.alloc (.cells #[] 32)).alloc (.cells #[.int .i64 (j : Int), .string x] 32)).drew).ownsRow w6.heap.size 32 2 (.slice (some ⟨w6.heap.size, 0, none⟩) 0 0) 0 [] := (World.ownsRow_lit w6 #[] 0 (Nat.le_refl _) (Nat.zero_le _) rfl).alloc _
      have hOc0 := World.ownsRow_lit (base := w6.heap.size) (e := 32) (size := 2) (w6.alloc (.cells #[.int .i64 (j : Int), .string x] 32)) #[] 0 (by rw [alloc_size]; omega) (Nat.zero_le _) rfl
      rw [alloc_size] at hOc0
      have hOc : (((w6.alloc (.cells #[.int .i64 (j : Int), .string x] 32)).alloc (.cells #[] 32)).drew).ownsRow w6.heap.size 32 2 (.slice (some ⟨w6.heap.size + 1, 0, none⟩) 0 0) 0 [] := hOc0
      have hB0 : Below w6.heap.size w6 w6.drew := (Below.refl w6.heap.size w6).drew
      have S0 : w6.drew.cell? ⟨g, j * 2, none⟩ = some (.int .i64 (j : Int)) ∧ w6.drew.cell? ⟨g, j * 2 + 1, none⟩ = some (.string x) := ⟨(hB0.cell (p := ⟨g, j * 2, none⟩) hg6).trans cj.1, (hB0.cell (p := ⟨g, j * 2 + 1, none⟩) hg6).trans cj.2⟩
      have hBa : Below w6.heap.size w6 ((w6.alloc (.cells #[] 32)).drew) := ((Below.refl w6.heap.size w6).alloc (Nat.le_refl _) (.cells #[] 32)).drew
      have Sa : ((w6.alloc (.cells #[] 32)).drew).cell? ⟨g, j * 2, none⟩ = some (.int .i64 (j : Int)) ∧ ((w6.alloc (.cells #[] 32)).drew).cell? ⟨g, j * 2 + 1, none⟩ = some (.string x) := ⟨(hBa.cell (p := ⟨g, j * 2, none⟩) hg6).trans cj.1, (hBa.cell (p := ⟨g, j * 2 + 1, none⟩) hg6).trans cj.2⟩
      have hBx : Below w6.heap.size w6 ((w6.alloc (.cells #[.int .i64 (j : Int), .string x] 32)).drew) := ((Below.refl w6.heap.size w6).alloc (Nat.le_refl _) (.cells #[.int .i64 (j : Int), .string x] 32)).drew
      have Sx : ((w6.alloc (.cells #[.int .i64 (j : Int), .string x] 32)).drew).cell? ⟨g, j * 2, none⟩ = some (.int .i64 (j : Int)) ∧ ((w6.alloc (.cells #[.int .i64 (j : Int), .string x] 32)).drew).cell? ⟨g, j * 2 + 1, none⟩ = some (.string x) := ⟨(hBx.cell (p := ⟨g, j * 2, none⟩) hg6).trans cj.1, (hBx.cell (p := ⟨g, j * 2 + 1, none⟩) hg6).trans cj.2⟩
      have hBb : Below w6.heap.size w6 (((w6.alloc (.cells #[] 32)).alloc (.cells #[.int .i64 (j : Int), .string x] 32)).drew) := (((Below.refl w6.heap.size w6).alloc (Nat.le_refl _) (.cells #[] 32)).alloc (by rw [alloc_size]; omega) (.cells #[.int .i64 (j : Int), .string x] 32)).drew
      have Sb : (((w6.alloc (.cells #[] 32)).alloc (.cells #[.int .i64 (j : Int), .string x] 32)).drew).cell? ⟨g, j * 2, none⟩ = some (.int .i64 (j : Int)) ∧ (((w6.alloc (.cells #[] 32)).alloc (.cells #[.int .i64 (j : Int), .string x] 32)).drew).cell? ⟨g, j * 2 + 1, none⟩ = some (.string x) := ⟨(hBb.cell (p := ⟨g, j * 2, none⟩) hg6).trans cj.1, (hBb.cell (p := ⟨g, j * 2 + 1, none⟩) hg6).trans cj.2⟩
      have hBc : Below w6.heap.size w6 (((w6.alloc (.cells #[.int .i64 (j : Int), .string x] 32)).alloc (.cells #[] 32)).drew) := (((Below.refl w6.heap.size w6).alloc (Nat.le_refl _) (.cells #[.int .i64 (j : Int), .string x] 32)).alloc (by rw [alloc_size]; omega) (.cells #[] 32)).drew
      have Sc : (((w6.alloc (.cells #[.int .i64 (j : Int), .string x] 32)).alloc (.cells #[] 32)).drew).cell? ⟨g, j * 2, none⟩ = some (.int .i64 (j : Int)) ∧ (((w6.alloc (.cells #[.int .i64 (j : Int), .string x] 32)).alloc (.cells #[] 32)).drew).cell? ⟨g, j * 2 + 1, none⟩ = some (.string x) := ⟨(hBc.cell (p := ⟨g, j * 2, none⟩) hg6).trans cj.1, (hBc.cell (p := ⟨g, j * 2 + 1, none⟩) hg6).trans cj.2⟩
      have hna := Hid.mk (news_take (w := ((w6.alloc (.cells #[] 32)).drew)) (g := g) (l := lt) (fun p u hp => (hBa.cell (p := ⟨g, p, none⟩) hg6).trans (hcells6.out p u hp)) (j + 1))
      have hnb := Hid.mk (news_take (w := (((w6.alloc (.cells #[] 32)).alloc (.cells #[.int .i64 (j : Int), .string x] 32)).drew)) (g := g) (l := lt) (fun p u hp => (hBb.cell (p := ⟨g, p, none⟩) hg6).trans (hcells6.out p u hp)) (j + 1))
      have hnc := Hid.mk (news_take (w := (((w6.alloc (.cells #[.int .i64 (j : Int), .string x] 32)).alloc (.cells #[] 32)).drew)) (g := g) (l := lt) (fun p u hp => (hBc.cell (p := ⟨g, p, none⟩) hg6).trans (hcells6.out p u hp)) (j + 1))
      have hXb : Hid (∀ p u, (flatT [((j : Int), x)])[p]? = some u → (((w6.alloc (.cells #[] 32)).alloc (.cells #[.int .i64 (j : Int), .string x] 32)).drew).cell? ((⟨w6.heap.size + 1, 0, none⟩ : Addr).add p) = some u) := by
        have hXb0 := new_tag (w6.alloc (.cells #[] 32)) ((j : Int), x)
        rw [alloc_size] at hXb0
        exact hXb0
      have hXb1 : Hid (w6.heap.size + 1 < (((w6.alloc (.cells #[] 32)).alloc (.cells #[.int .i64 (j : Int), .string x] 32)).drew).heap.size) := by show _ < ((w6.alloc (.cells #[] 32)).alloc (.cells #[.int .i64 (j : Int), .string x] 32)).heap.size; rw [alloc_size, alloc_size]; omega
      have hXc : Hid (∀ p u, (flatT [((j : Int), x)])[p]? = some u → (((w6.alloc (.cells #[.int .i64 (j : Int), .string x] 32)).alloc (.cells #[] 32)).drew).cell? ((⟨w6.heap.size, 0, none⟩ : Addr).add p) = some u) := fun p u hp => by
        rw [Addr.add_mid]
        show ((w6.alloc (.cells #[.int .i64 (j : Int), .string x] 32)).alloc (.cells #[] 32)).cell? _ = _
        have h0 := new_tag w6 ((j : Int), x) p u hp
        rw [Addr.add_mid] at h0
        rw [((Below.refl (w6.alloc (.cells #[.int .i64 (j : Int), .string x] 32)).heap.size (w6.alloc (.cells #[.int .i64 (j : Int), .string x] 32))).alloc (Nat.le_refl _) (.cells #[] 32)).cell (p := ⟨w6.heap.size, 0 + p, none⟩) (by show w6.heap.size < _; rw [alloc_size]; omega)]
        exact h0
      have hXc1 : Hid (w6.heap.size < (((w6.alloc (.cells #[.int .i64 (j : Int), .string x] 32)).alloc (.cells #[] 32)).drew).heap.size) := by show _ < ((w6.alloc (.cells #[.int .i64 (j : Int), .string x] 32)).alloc (.cells #[] 32)).heap.size; rw [alloc_size, alloc_size]; omega
      try simp only [Act.put]
      go_wp2_with fail
      go_region_held3 (fun w' => w'.cell? ⟨g, j * 2, none⟩ = some (.int .i64 (j : Int)) ∧ w'.cell? ⟨g, j * 2 + 1, none⟩ = some (.string x)) (assumption)
        (first
        | ((with_reducible show if Region.wanted { dst := some 89, op := _, type := _, pos := _, after := _, guard := _ } _ = true then Oper.wp _ _ _ ((w6.alloc (.cells #[] 32)).drew) _ _ else _); refine step_append_own _ (by rfl) _ _ 37 (by rfl) w6.heap.size 32 i0 (.agg #[.int .i64 0, .string ⟨#[]⟩]) 2 24 Tryd.underlying37 hi hz0 hz1 hz2 rfl (by decide) _ 0 [] (by rfl) hOa ⟨g, 0, none⟩ (j + 1) cap (flatT (lt.take (j + 1))) (by rfl) hlt1.out hna.out (flatT_one _) he3.out he4.out hBa.size ?_; intro v7 w7 hown7 hgrow7; have own7 := own_zero hown7; have hb7 : Below w6.heap.size w6 w7 := hBa.grown hgrow7 hBa.size (fun k hk => (hOa.lt k hk).1); have S7 := (⟨(hb7.cell (p := ⟨g, j * 2, none⟩) hg6).trans cj.1, (hb7.cell (p := ⟨g, j * 2 + 1, none⟩) hg6).trans cj.2⟩ : w7.cell? ⟨g, j * 2, none⟩ = some (.int .i64 (j : Int)) ∧ w7.cell? ⟨g, j * 2 + 1, none⟩ = some (.string x)); have S7x := (hb7.alloc hb7.size (.cells #[.int .i64 (j : Int), .string x] 32)); have S7y := (⟨(S7x.cell (p := ⟨g, j * 2, none⟩) hg6).trans cj.1, (S7x.cell (p := ⟨g, j * 2 + 1, none⟩) hg6).trans cj.2⟩ : (w7.alloc (.cells #[.int .i64 (j : Int), .string x] 32)).cell? ⟨g, j * 2, none⟩ = some (.int .i64 (j : Int)) ∧ (w7.alloc (.cells #[.int .i64 (j : Int), .string x] 32)).cell? ⟨g, j * 2 + 1, none⟩ = some (.string x)))
        | ((with_reducible show if Region.wanted { dst := some 89, op := _, type := _, pos := _, after := _, guard := _ } _ = true then Oper.wp _ _ _ (((w6.alloc (.cells #[] 32)).alloc (.cells #[.int .i64 (j : Int), .string x] 32)).drew) _ _ else _); refine step_append_own _ (by rfl) _ _ 37 (by rfl) w6.heap.size 32 i0 (.agg #[.int .i64 0, .string ⟨#[]⟩]) 2 24 Tryd.underlying37 hi hz0 hz1 hz2 rfl (by decide) _ 0 [] (by rfl) hOb ⟨g, 0, none⟩ (j + 1) cap (flatT (lt.take (j + 1))) (by rfl) hlt1.out hnb.out (flatT_one _) he3.out he4.out hBb.size ?_; intro v7 w7 hown7 hgrow7; have own7 := own_zero hown7; have hb7 : Below w6.heap.size w6 w7 := hBb.grown hgrow7 hBb.size (fun k hk => (hOb.lt k hk).1); have S7 := (⟨(hb7.cell (p := ⟨g, j * 2, none⟩) hg6).trans cj.1, (hb7.cell (p := ⟨g, j * 2 + 1, none⟩) hg6).trans cj.2⟩ : w7.cell? ⟨g, j * 2, none⟩ = some (.int .i64 (j : Int)) ∧ w7.cell? ⟨g, j * 2 + 1, none⟩ = some (.string x)); have hX7 := Hid.mk (cells_kept hXb.out hgrow7 hXb1.out (fun e => by simp [Value.ownBlock] at e)))
        | ((with_reducible show if Region.wanted { dst := some 89, op := _, type := _, pos := _, after := _, guard := _ } _ = true then Oper.wp _ _ _ (((w6.alloc (.cells #[.int .i64 (j : Int), .string x] 32)).alloc (.cells #[] 32)).drew) _ _ else _); refine step_append_own _ (by rfl) _ _ 37 (by rfl) w6.heap.size 32 i0 (.agg #[.int .i64 0, .string ⟨#[]⟩]) 2 24 Tryd.underlying37 hi hz0 hz1 hz2 rfl (by decide) _ 0 [] (by rfl) hOc ⟨g, 0, none⟩ (j + 1) cap (flatT (lt.take (j + 1))) (by rfl) hlt1.out hnc.out (flatT_one _) he3.out he4.out hBc.size ?_; intro v7 w7 hown7 hgrow7; have own7 := own_zero hown7; have hb7 : Below w6.heap.size w6 w7 := hBc.grown hgrow7 hBc.size (fun k hk => (hOc.lt k hk).1); have S7 := (⟨(hb7.cell (p := ⟨g, j * 2, none⟩) hg6).trans cj.1, (hb7.cell (p := ⟨g, j * 2 + 1, none⟩) hg6).trans cj.2⟩ : w7.cell? ⟨g, j * 2, none⟩ = some (.int .i64 (j : Int)) ∧ w7.cell? ⟨g, j * 2 + 1, none⟩ = some (.string x)); have hX7 := Hid.mk (cells_kept hXc.out hgrow7 hXc1.out (fun e => by simp [Value.ownBlock] at e)))
        | ((with_reducible show if Region.wanted { dst := some 95, op := _, type := _, pos := _, after := _, guard := _ } _ = true then Oper.wp _ _ _ (w7.alloc (.cells #[.int .i64 (j : Int), .string x] 32)) _ _ else _); refine step_append_own _ (by rfl) _ _ 37 (by rfl) w6.heap.size 32 i0 (.agg #[.int .i64 0, .string ⟨#[]⟩]) 2 24 Tryd.underlying37 hi hz0 hz1 hz2 rfl (by decide) _ (j + 1) (flatT (lt.take (j + 1))) (by rfl) (own7.alloc (.cells #[.int .i64 (j : Int), .string x] 32)) ⟨w7.heap.size, 0, none⟩ 1 1 (flatT [((j : Int), x)]) (by rfl) rfl (new_tag w7 ((j : Int), x)) (flatT_one _) he5.out he6.out S7x.size ?_; intro v8 w8 own8 hgrow8; have hb8 : Below w6.heap.size w6 w8 := S7x.grown hgrow8 S7x.size (fun k hk => (own7.lt k hk).1); have S8 := (⟨(hb8.cell (p := ⟨g, j * 2, none⟩) hg6).trans cj.1, (hb8.cell (p := ⟨g, j * 2 + 1, none⟩) hg6).trans cj.2⟩ : w8.cell? ⟨g, j * 2, none⟩ = some (.int .i64 (j : Int)) ∧ w8.cell? ⟨g, j * 2 + 1, none⟩ = some (.string x)); have hd8 := Hid.mk (hdA.out w8 (fun p u hp => (hb8.cell (p := ⟨g, p, none⟩) hg6).trans (hcells6.out p u hp))))
        | ((with_reducible show if Region.wanted { dst := some 95, op := _, type := _, pos := _, after := _, guard := _ } _ = true then Oper.wp _ _ _ w7 _ _ else _); refine step_append_own _ (by rfl) _ _ 37 (by rfl) w6.heap.size 32 i0 (.agg #[.int .i64 0, .string ⟨#[]⟩]) 2 24 Tryd.underlying37 hi hz0 hz1 hz2 rfl (by decide) _ (j + 1) (flatT (lt.take (j + 1))) (by rfl) own7 ⟨w6.heap.size + 1, 0, none⟩ 1 1 (flatT [((j : Int), x)]) (by rfl) rfl hX7.out (flatT_one _) he5.out he6.out hb7.size ?_; intro v8 w8 own8 hgrow8; have hb8 : Below w6.heap.size w6 w8 := hb7.grown hgrow8 hb7.size (fun k hk => (own7.lt k hk).1); have S8 := (⟨(hb8.cell (p := ⟨g, j * 2, none⟩) hg6).trans cj.1, (hb8.cell (p := ⟨g, j * 2 + 1, none⟩) hg6).trans cj.2⟩ : w8.cell? ⟨g, j * 2, none⟩ = some (.int .i64 (j : Int)) ∧ w8.cell? ⟨g, j * 2 + 1, none⟩ = some (.string x)); have hd8 := Hid.mk (hdA.out w8 (fun p u hp => (hb8.cell (p := ⟨g, p, none⟩) hg6).trans (hcells6.out p u hp))))
        | ((with_reducible show if Region.wanted { dst := some 95, op := _, type := _, pos := _, after := _, guard := _ } _ = true then Oper.wp _ _ _ w7 _ _ else _); refine step_append_own _ (by rfl) _ _ 37 (by rfl) w6.heap.size 32 i0 (.agg #[.int .i64 0, .string ⟨#[]⟩]) 2 24 Tryd.underlying37 hi hz0 hz1 hz2 rfl (by decide) _ (j + 1) (flatT (lt.take (j + 1))) (by rfl) own7 ⟨w6.heap.size, 0, none⟩ 1 1 (flatT [((j : Int), x)]) (by rfl) rfl hX7.out (flatT_one _) he5.out he6.out hb7.size ?_; intro v8 w8 own8 hgrow8; have hb8 : Below w6.heap.size w6 w8 := hb7.grown hgrow8 hb7.size (fun k hk => (own7.lt k hk).1); have S8 := (⟨(hb8.cell (p := ⟨g, j * 2, none⟩) hg6).trans cj.1, (hb8.cell (p := ⟨g, j * 2 + 1, none⟩) hg6).trans cj.2⟩ : w8.cell? ⟨g, j * 2, none⟩ = some (.int .i64 (j : Int)) ∧ w8.cell? ⟨g, j * 2 + 1, none⟩ = some (.string x)); have hd8 := Hid.mk (hdA.out w8 (fun p u hp => (hb8.cell (p := ⟨g, p, none⟩) hg6).trans (hcells6.out p u hp))))
        | ((with_reducible show if Region.wanted { dst := some 100, op := _, type := _, pos := _, after := _, guard := _ } _ = true then Oper.wp _ _ _ w8 _ _ else _); refine step_append_own _ (by rfl) _ _ 37 (by rfl) w6.heap.size 32 i0 (.agg #[.int .i64 0, .string ⟨#[]⟩]) 2 24 Tryd.underlying37 hi hz0 hz1 hz2 rfl (by decide) _ (j + 1 + 1) (flatT (lt.take (j + 1)) ++ flatT [((j : Int), x)]) (by rfl) own8 A (i - (j + 1)) (cap - (j + 1)) (flatT (lt.drop (j + 1))) (by rfl) hlt2 hd8.out (flatT_one _) he7.out he8.out hb8.size ?_; intro v9 w9 own9 hgrow9; have hb9 : Below w6.heap.size w6 w9 := hb8.grown hgrow9 hb8.size (fun k hk => (own8.lt k hk).1); have S9 := (⟨(hb9.cell (p := ⟨g, j * 2, none⟩) hg6).trans cj.1, (hb9.cell (p := ⟨g, j * 2 + 1, none⟩) hg6).trans cj.2⟩ : w9.cell? ⟨g, j * 2, none⟩ = some (.int .i64 (j : Int)) ∧ w9.cell? ⟨g, j * 2 + 1, none⟩ = some (.string x))))
      all_goals
        have ownT : w9.ownsRow w6.heap.size 32 2 v9 (j + 1 + 1 + (i - (j + 1))) (flatT (lt.take (j + 1) ++ [((j : Int), x)] ++ lt.drop (j + 1))) := by
          rw [flatT_append, flatT_append]; exact own9
        obtain ⟨to, tcap, rfl⟩ := own_form ownT
        have htt := own_tags_at htl.out ownT
        have htb : Hid (∀ q o, to = some ⟨q, o, none⟩ → w6.heap.size ≤ q) := fun q o e => by subst e; exact (ownT.lt q rfl).1
        have htg : Hid (∀ q o, to = some ⟨q, o, none⟩ → g < q) := fun q o e => Nat.lt_of_lt_of_le hg6 (htb.out q o e)
        have ownL := own_below hown8 hb9
        have hB9 := hB6.trans (hb9.mono hB6.size)
        have htf9 := htf.below hb9
        clear ownT own9 own8 own7 hown8 hb9 hb8 hb7 hd8 hgrow7 hgrow8 hgrow9 S7 S8 S9 hown7 hB6 htf cj S0 Sa Sb Sc Sx hB0 hBa hBb hBc hBx hOa hOb hOc hOc0 hna hnb hnc hXb hXb1 hXc hXc1 he3 he4 he5 he6 he7 he8 hltj hcells6 hA hdA hlt1 hlt2
        have hltj : lt[j]? = some ((j : Int), x) := by
          rw [hlt'.out, List.getElem?_map, List.getElem?_range hj, hx.out]
          rfl
        have hltk : lt[k]? = some ((k : Int), y) := by
          rw [hlt'.out, List.getElem?_map, List.getElem?_range hk, hy.out]
          rfl
        have cj0 := (ownL.cellAt (j * 2) hp1.out.1).trans (flatT_get lt j _ hltj).1
        have cj1 := (ownL.cellAt (j * 2 + 1) hp1.out.2.1).trans (flatT_get lt j _ hltj).2
        have ck0 := (ownL.cellAt (k * 2) hp1.out.2.2.1).trans (flatT_get lt k _ hltk).1
        have ck1 := (ownL.cellAt (k * 2 + 1) hp1.out.2.2.2).trans (flatT_get lt k _ hltk).2
        clear hltj hltk
        have o1 := (ownL.stored (j * 2) (.int .i64 (k : Int))).1
        have o2 := (o1.stored (j * 2 + 1) (.string y)).1
        have o3 := (o2.stored (k * 2) (.int .i64 (j : Int))).1
        have o4 := (o3.stored (k * 2 + 1) (.string x)).1
        have z0 := ownL.frozenAt (j * 2)
        have z1 := o1.frozenAt (j * 2 + 1)
        have z2 := o2.frozenAt (k * 2)
        have z3 := o3.frozenAt (k * 2 + 1)
        obtain ⟨u1, d1⟩ := own_there o1 hp1.out.2.1
        obtain ⟨u2, d2⟩ := own_there o2 hp1.out.2.2.1
        obtain ⟨u3, d3⟩ := own_there o3 hp1.out.2.2.2
        try simp only [Act.put]
        go_wp2_with fail
        go_region_law (fail)
        all_goals
          have hB10 := ((((hB9.setCell (p := ⟨g, j * 2, none⟩) hg1 (.int .i64 (k : Int))).setCell (p := ⟨g, j * 2 + 1, none⟩) hg1 (.string y)).setCell (p := ⟨g, k * 2, none⟩) hg1 (.int .i64 (j : Int))).setCell (p := ⟨g, k * 2 + 1, none⟩) hg1 (.string x)).drew
          have tf10 : TagsAt (((((w9.setCell ⟨g, j * 2, none⟩ (.int .i64 (k : Int))).setCell ⟨g, j * 2 + 1, none⟩ (.string y)).setCell ⟨g, k * 2, none⟩ (.int .i64 (j : Int))).setCell ⟨g, k * 2 + 1, none⟩ (.string x)).drew) fo (lt.take j ++ lt.drop (j + 1)) := (((htf9.far hff.out _).far hff.out _).far hff.out _).far hff.out _
          have tt10 : TagsAt (((((w9.setCell ⟨g, j * 2, none⟩ (.int .i64 (k : Int))).setCell ⟨g, j * 2 + 1, none⟩ (.string y)).setCell ⟨g, k * 2, none⟩ (.int .i64 (j : Int))).setCell ⟨g, k * 2 + 1, none⟩ (.string x)).drew) to (lt.take (j + 1) ++ [((j : Int), x)] ++ lt.drop (j + 1)) := (((htt.far htg.out _).far htg.out _).far htg.out _).far htg.out _
          have o5 : (((((w9.setCell ⟨g, j * 2, none⟩ (.int .i64 (k : Int))).setCell ⟨g, j * 2 + 1, none⟩ (.string y)).setCell ⟨g, k * 2, none⟩ (.int .i64 (j : Int))).setCell ⟨g, k * 2 + 1, none⟩ (.string x)).drew).ownsRow w'.heap.size 32 2 (.slice (some ⟨g, 0, none⟩) i cap) i (flatT ((lt.set j ((k : Int), y)).set k ((j : Int), x))) := by
            rw [flatT_set, flatT_set]; exact o4
          generalize ((((w9.setCell ⟨g, j * 2, none⟩ (.int .i64 (k : Int))).setCell ⟨g, j * 2 + 1, none⟩ (.string y)).setCell ⟨g, k * 2, none⟩ (.int .i64 (j : Int))).setCell ⟨g, k * 2 + 1, none⟩ (.string x)).drew = w10 at hB10 tf10 tt10 o5 ⊢
          have hlen : ((lt.set j ((k : Int), y)).set k ((j : Int), x)).length = i := by rw [List.length_set, List.length_set, hll]
          have tl10 := own_tags_at hlen o5
          have hT10 := hT.below hB10
          have hG10 := hG2.below hB10
          have e1 := enough_any b n ks (some ⟨g, 0, none⟩) cap _ ⟨#[107]⟩ ⟨#[119]⟩ w10 hT10 n2 hk32 tl10 (small_len (by rw [hlen]; exact hi100)) (by decide) (by decide) hG10
          rw [hlen, q3.out] at e1
          clear o1 o2 o3 o4 o5 z0 z1 z2 z3 d1 d2 d3 hlen tl10 hB9 htf9 htt ownL cj0 cj1 ck0 ck1
          by_cases hjk : j = k
          · rw [if_pos hjk] at e1
            subst hjk
            go_wp2_with fail
            refine e1.mono ?_
            rintro e w11 ⟨rfl, hb11⟩
            have hT11 := hT10.below hb11
            have hG11 := hG10.below hb11
            have hB11 := hB10.trans (hb11.mono hB10.size)
            have tt11 := tt10.below hb11
            have e2 := enough_any b n ks fo fcap _ ⟨#[107]⟩ ⟨#[119]⟩ w11 hT11 n2 hk32 (tf10.below hb11) (small_len (by rw [hfl]; exact hs1.out.1)) (by decide) (by decide) hG11
            rw [hfl, q1.out] at e2
            clear e1 hb11 hT10 hG10 hB10 tt10 tf10
            go_wp2_with fail
            refine e2.mono ?_
            rintro e w12 ⟨rfl, hb12⟩
            have hB12 := hB11.trans (hb12.mono hB11.size)
            have e3 := enough_any b n ks to tcap _ ⟨#[107]⟩ ⟨#[119]⟩ w12 (hT11.below hb12) n2 hk32 (tt11.below hb12) (small_len (by rw [htl.out]; exact hs1.out.2)) (by decide) (by decide) (hG11.below hb12)
            rw [htl.out, q2.out] at e3
            clear e2 hb12 hT11 hG11 hB11 tt11
            go_wp2_with fail
            refine e3.mono ?_
            rintro e w13 ⟨rfl, hb13⟩
            have hBz := hB3.trans ((hB12.trans (hb13.mono hB12.size)).mono hB3.size)
            clear e3 hb13 hB12
            go_wp2
            go_ret
            exact ⟨by simp, hBz⟩
          · rw [if_neg hjk] at e1
            have hji : ¬ (j : Int) = (k : Int) := fun e => hjk (Int.ofNat.inj e)
            go_wp2_with fail
            refine e1.mono ?_
            rintro e w11 ⟨rfl, hb11⟩
            have hT11 := hT10.below hb11
            have hG11 := hG10.below hb11
            have hB11 := hB10.trans (hb11.mono hB10.size)
            have tt11 := tt10.below hb11
            have e2 := enough_any b n ks fo fcap _ ⟨#[107]⟩ ⟨#[119]⟩ w11 hT11 n2 hk32 (tf10.below hb11) (small_len (by rw [hfl]; exact hs1.out.1)) (by decide) (by decide) hG11
            rw [hfl, q1.out] at e2
            clear e1 hb11 hT10 hG10 hB10 tt10 tf10
            go_wp2_with fail
            refine e2.mono ?_
            rintro e w12 ⟨rfl, hb12⟩
            have hB12 := hB11.trans (hb12.mono hB11.size)
            have e3 := enough_any b n ks to tcap _ ⟨#[107]⟩ ⟨#[119]⟩ w12 (hT11.below hb12) n2 hk32 (tt11.below hb12) (small_len (by rw [htl.out]; exact hs1.out.2)) (by decide) (by decide) (hG11.below hb12)
            rw [htl.out, q2.out] at e3
            clear e2 hb12 hT11 hG11 hB11 tt11
            go_wp2_with fail
            refine e3.mono ?_
            rintro e w13 ⟨rfl, hb13⟩
            have hBz := hB3.trans ((hB12.trans (hb13.mono hB12.size)).mono hB3.size)
            clear e3 hb13 hB12
            go_wp2
            go_ret
            exact ⟨by simp; exact fun e => hjk (Int.ofNat.inj e), hBz⟩
end Go.Proofs.YtlbibhngfnllbaaDoor
