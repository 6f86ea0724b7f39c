/- tusklaw03.AuthMeet answers true; nothing old in memory is turned. -/
import Derived.Test.YtlbibhngfnllbaaDoorAuthWorks
import Derived.Test.YtlbibhngfnllbaaDoorAuthFrame
namespace Go.Proofs.YtlbibhngfnllbaaDoor
open Go.RowKit Go.Sort
set_option linter.unusedVariables false

/-- Whether a place of a row of bools is there and true. -/
def isIn (l : List Bool) (i : Nat) : Bool := l.getD i false

/-- The tags of those that are in. -/
def tagsIn (ks : List ByteArray) (word : ByteArray) (p : Nat → Bool) (i : Nat) : List (Int × ByteArray) := ((List.range i).filter p).map (tagOf ks ⟨#[107]⟩ word)

theorem tagsIn_yes {ks : List ByteArray} {word : ByteArray} {p : Nat → Bool} {i : Nat} (h : p i = true) : tagsIn ks word p (i + 1) = tagsIn ks word p i ++ [tagOf ks ⟨#[107]⟩ word i] := by
  simp [tagsIn, List.range_succ, List.filter_append, h]

theorem tagsIn_no {ks : List ByteArray} {word : ByteArray} {p : Nat → Bool} {i : Nat} (h : p i = false) : tagsIn ks word p (i + 1) = tagsIn ks word p i := by
  simp [tagsIn, List.range_succ, List.filter_append, h]

theorem tagsIn_length (ks : List ByteArray) (word : ByteArray) (p : Nat → Bool) (i : Nat) : (tagsIn ks word p i).length = ((List.range i).filter p).length := by simp [tagsIn]

theorem tagsIn_le (ks : List ByteArray) (word : ByteArray) (p : Nat → Bool) (i : Nat) : (tagsIn ks word p i).length ≤ i := by
  rw [tagsIn_length]
  have := List.length_filter_le p (List.range i)
  simpa using this

def bothIn (p q : Nat → Bool) (i : Nat) : Nat := ((List.range i).filter fun x => p x && q x).length

theorem bothIn_yes {p q : Nat → Bool} {i : Nat} (h : p i = true) (h2 : q i = true) : bothIn p q (i + 1) = bothIn p q i + 1 := by
  simp [bothIn, List.range_succ, List.filter_append, h, h2]

theorem bothIn_no {p q : Nat → Bool} {i : Nat} (h : (p i && q i) = false) : bothIn p q (i + 1) = bothIn p q i := by
  simp [bothIn, List.range_succ, List.filter_append, h]

theorem tagsIn_enough {ks : List ByteArray} {word : ByteArray} {p : Nat → Bool} {f n : Nat} (hk : ks.length = n) : enoughL ks f ⟨#[107]⟩ word (tagsIn ks word p n) = if (tagsIn ks word p n).length < 2 * f + 1 then 12 else 0 := by
  rw [tagsIn_length]
  exact enough_rising f _ (fun i hi => by rw [hk]; exact List.mem_range.1 (List.mem_filter.1 hi).1) ((range_rising n).sublist List.filter_sublist)

theorem meet {ks : List ByteArray} {w1 w2 : ByteArray} {p q : Nat → Bool} (n : Nat) : (tagsIn ks w1 p n).length + (tagsIn ks w2 q n).length ≤ bothIn p q n + n := by
  rw [tagsIn_length, tagsIn_length]
  have := both_le p q (List.range n)
  simpa [bothIn] using this

/-- A row of the call's own. -/
structure RowOf (w : World) (B : Nat) (v : Value) (l : List (Int × ByteArray)) : Prop where
  form : ∃ ao cap, v = .slice ao l.length cap
  own : w.ownsRow B 32 2 v l.length (flatT l)

/-- Two rows of the call's own, in blocks of their own. -/
structure Two (w : World) (B : Nat) (vx vy : Value) (lx ly : List (Int × ByteArray)) : Prop where
  x : w.ownsRow B 32 2 vx lx.length (flatT lx)
  y : w.ownsRow B 32 2 vy ly.length (flatT ly)
  ne : ∀ k, vx.ownBlock = some k → vy.ownBlock = some k → False

theorem Two.swap {w : World} {B : Nat} {vx vy : Value} {lx ly : List (Int × ByteArray)} (h : Two w B vx vy lx ly) : Two w B vy vx ly lx := ⟨h.y, h.x, fun k h1 h2 => h.ne k h2 h1⟩

theorem Two.left {w w' : World} {B : Nat} {vx vy : Value} {lx ly : List (Int × ByteArray)} {o : Obj} (h : Two w B vx vy lx ly) (x : Int × ByteArray) {g cap : Nat} (hown : w'.ownsRow B 32 2 (.slice (some ⟨g, 0, none⟩) (lx.length + 1) cap) (lx.length + 1) (flatT lx ++ flatT [x]))
    (hg : (w.alloc o).grownBy w' vx.ownBlock) (hat : vx.ownBlock = some g ∨ g = w.heap.size + 1) : Two w' B (.slice (some ⟨g, 0, none⟩) (lx.length + 1) cap) vy (lx ++ [x]) ly := by
  refine ⟨?_, ?_, ?_⟩
  · rw [flatT_append, List.length_append]
    exact hown
  · refine (h.y.alloc o).kept hg ?_
    cases hv : vy.ownBlock with
    | none => exact Or.inl rfl
    | some k => exact Or.inr fun e => h.ne k e.symm hv
  · intro k h1 h2
    obtain rfl : g = k := by simpa [Value.ownBlock] using h1
    rcases hat with e | e
    · exact h.ne g e h2
    · have := (h.y.lt g h2).2
      omega

theorem arr_grown {w w' : World} {q : Nat} {t : TypeId} {cs : List Value} {row : Option Nat} (h : Arr w q t cs) (hg : w.grownBy w' row) (hq : ∀ k, row = some k → k < q) : Arr w' q t cs := by
  have hlt := h.lt
  unfold Arr at h ⊢
  rw [hg.block q hlt (fun e => by have := hq q e.symm; omega), h]

set_option maxRecDepth 100000 in
set_option maxHeartbeats 4000000 in
theorem authMeet_walk (f : Int) (aa : Option Addr) (ca : Nat) (la : List Bool) (ab : Option Addr) (cb : Nat) (lb : List Bool) (w : World) (hwf : (Lit.int .i64 f).wf = true) (ha : BoolsAt w aa la) (ham : la.length ≤ maxLen) (hb : BoolsAt w ab lb) (hbm : lb.length ≤ maxLen) (hG : Glob w) :
    Calls Tryd.prog 6 #[.int .i64 f, .slice aa la.length ca, .slice ab lb.length cb] w fun e w' => e = .returned (.bool true) ∧ Below w.heap.size w w' := by
  obtain ⟨i0, hi, hz0, hz1, hz2⟩ := info_parts infoTagAll
  go_enter Tryd.func6, Tryd.ntmps6
  go_wp2_with fail
  refine (works_any w hG).mono ?_
  rintro e w1 ⟨rfl, hB1⟩
  have hG1 := hG.below hB1
  obtain ⟨n, n1, n2, hn⟩ := pick_f f
  go_wp2_with fail
  refine (new_yes n _ w1 n1 n2 (by decide) hG1).mono ?_
  rintro e w2 ⟨b, rfl, hb1, hT, hB2⟩
  have hG2 := hG1.below hB2
  have hB3 := hB1.trans (hB2.mono hB1.size)
  have ha2 := ha.below hB3
  have hb2 := hb.below hB3
  clear hB1 hB2 hG1 ha hb hb1
  obtain ⟨ks, hks⟩ : ∃ z, Hid (z = keysL ⟨#[115, 101, 101, 100]⟩ (3 * n + 1)) := ⟨_, rfl⟩
  rw [← hks.out] at hT
  have hk32 : ∀ k ∈ ks, k.size ≤ 32 := by rw [hks.out]; exact keysL_size _ _
  obtain ⟨nn, hnn⟩ : ∃ z, Hid (z = 3 * n + 1) := ⟨_, rfl⟩
  have hkl : ks.length = nn := by rw [hks.out, keysL_len, hnn.out]
  have hn7 : nn ≤ 7 := by have := hnn.out; omega
  unfold maxLen at ham hbm
  go_wp2
  go_loopw [9, 10, 11, 12, 13, 14, 15, 16, 17, 18] (fun v9 v10 v11 v12 v13 v14 v15 v16 v17 v18 wr => ∃ (i : Nat), i ≤ nn ∧ v12 = .int .i64 (i : Int) ∧ v11 = .int .i64 (bothIn (isIn la) (isIn lb) i : Int) ∧ RowOf wr w2.heap.size v9 (tagsIn ks ⟨#[119]⟩ (isIn la) i) ∧ RowOf wr w2.heap.size v10 (tagsIn ks ⟨#[118]⟩ (isIn lb) i) ∧ (∀ k, v9.ownBlock = some k → v10.ownBlock = some k → False) ∧ Below w2.heap.size w2 wr) (fun _ _ _ v12 _ _ _ _ _ _ _ => nn - (intOf v12).toNat)
  case atStart => exact ⟨0, Nat.zero_le _, rfl, rfl, ⟨⟨none, 0, rfl⟩, World.ownsRow_nil _ _ _ _⟩, ⟨⟨none, 0, rfl⟩, World.ownsRow_nil _ _ _ _⟩, (fun k h => by cases h), Below.refl _ _⟩
  case round =>
    obtain ⟨i, hin, rfl, rfl, ⟨⟨ao, cap, rfl⟩, hX⟩, ⟨⟨bo, bap, rfl⟩, hY⟩, hne, hBr⟩ := hrel
    have hTr := hT.below hBr
    have hGr := hG2.below hBr
    by_cases hlt : i < nn
    · have h1 : (i : Int) < (nn : Int) := by omega
      have h0 : (0 : Int) ≤ (i : Int) := by omega
      have k0 := n_any b n ks wr hTr n2
      rw [← hnn.out] at k0
      have hkj := getD_some (ks := ks) (i := i) (by omega)
      obtain ⟨x, hx⟩ : ∃ z, Hid (z = macOf (ks.getD i ⟨#[]⟩) ⟨#[107]⟩ ⟨#[119]⟩) := ⟨_, rfl⟩
      obtain ⟨y, hy⟩ : ∃ z, Hid (z = macOf (ks.getD i ⟨#[]⟩) ⟨#[107]⟩ ⟨#[118]⟩) := ⟨_, rfl⟩
      have s1 := sign_yes b n ks i ⟨#[107]⟩ ⟨#[119]⟩ wr hTr _ hkj hk32 (by decide) (by decide) hGr
      rw [← hx.out] at s1
      unfold tagV at s1
      go_wp2_with fail
      refine k0.mono ?_
      rintro e w' ⟨rfl, rfl⟩
      go_wp2_with fail
      refine s1.mono ?_
      rintro e w3 ⟨rfl, hB4⟩
      clear s1 k0
      have hB5 := hB4.alloc hB4.size (.cells #[.int .i64 (i : Int), .string x] 32)
      have hP := Arr.new w3 32 [.int .i64 (i : Int), .string x]
      have hq1 : w'.heap.size ≤ w3.heap.size := hB4.size
      clear hB4
      go_wp2_with fail
      generalize w3.alloc (.cells #[.int .i64 (i : Int), .string x] 32) = w4 at hP hB5 ⊢
      generalize w3.heap.size = q1 at hP hq1 ⊢
      have s1 := sign_yes b n ks i ⟨#[107]⟩ ⟨#[118]⟩ w4 (hTr.below hB5) _ hkj hk32 (by decide) (by decide) (hGr.below hB5)
      rw [← hy.out] at s1
      unfold tagV at s1
      refine s1.mono ?_
      rintro e w5 ⟨rfl, hB6⟩
      clear s1
      have hB7 := hB6.alloc hB6.size (.cells #[.int .i64 (i : Int), .string y] 32)
      have hP7 := hP.below hB7 hP.lt
      have hQ7 := Arr.new w5 32 [.int .i64 (i : Int), .string y]
      have hB8 := hB5.trans (hB7.mono hB5.size)
      have hq2 : w'.heap.size ≤ w5.heap.size := Nat.le_trans hB5.size hB6.size
      have h2 : Two (w5.alloc (.cells #[.int .i64 (i : Int), .string y] 32)) w2.heap.size (.slice ao (tagsIn ks ⟨#[119]⟩ (isIn la) i).length cap) (.slice bo (tagsIn ks ⟨#[118]⟩ (isIn lb) i).length bap) (tagsIn ks ⟨#[119]⟩ (isIn la) i) (tagsIn ks ⟨#[118]⟩ (isIn lb) i) := ⟨own_below hX hB8, own_below hY hB8, hne⟩
      have hB9 := hBr.trans (hB8.mono hBr.size)
      have ha9 := ha2.below hB9
      have hb9 := hb2.below hB9
      have hXlt : ∀ k, (Value.slice ao (tagsIn ks ⟨#[119]⟩ (isIn la) i).length cap).ownBlock = some k → k < w'.heap.size := fun k hk => (hX.lt k hk).2
      have hYlt : ∀ k, (Value.slice bo (tagsIn ks ⟨#[118]⟩ (isIn lb) i).length bap).ownBlock = some k → k < w'.heap.size := fun k hk => (hY.lt k hk).2
      have hlx := tagsIn_le ks ⟨#[119]⟩ (isIn la) i
      have hly := tagsIn_le ks ⟨#[118]⟩ (isIn lb) i
      clear hB5 hB6 hB7 hB8 hP hX hY hTr hGr hne
      obtain ⟨lx, hlxd⟩ : ∃ z, Hid (z = tagsIn ks ⟨#[119]⟩ (isIn la) i) := ⟨_, rfl⟩
      obtain ⟨ly, hlyd⟩ : ∃ z, Hid (z = tagsIn ks ⟨#[118]⟩ (isIn lb) i) := ⟨_, rfl⟩
      rw [← hlxd.out, ← hlyd.out] at h2
      rw [← hlxd.out] at hlx hXlt
      rw [← hlyd.out] at hly hYlt
      rw [← hlxd.out, ← hlyd.out]
      obtain ⟨bi, hbi⟩ : ∃ z, Hid (z = bothIn (isIn la) (isIn lb) i) := ⟨_, rfl⟩
      have hbi8 : bi ≤ 7 := by
        rw [hbi.out]
        have := List.length_filter_le (fun x => isIn la x && isIn lb x) (List.range i)
        unfold bothIn
        simp at this
        omega
      rw [← hbi.out]
      by_cases hra : la.length ≤ i
      · by_cases hrb : lb.length ≤ i
        · have hia : ¬ (i : Int) < (la.length : Int) := by omega
          have hpa : Hid (isIn la i = false) := by
            show _ = _
            unfold isIn
            simp [List.getD, List.getElem?_eq_none (show la.length ≤ i by omega)]
          have hib : ¬ (i : Int) < (lb.length : Int) := by omega
          have hpb : Hid (isIn lb i = false) := by
            show _ = _
            unfold isIn
            simp [List.getD, List.getElem?_eq_none (show lb.length ≤ i by omega)]
          clear ha9 hb9
          go_wp2
          go_roundw
          case rel => exact ⟨i + 1, by omega, by go_num, by rw [bothIn_no (by rw [hpa.out, hpb.out]; rfl), ← hbi.out], by rw [tagsIn_no hpa.out, ← hlxd.out]; exact ⟨⟨ao, cap, rfl⟩, h2.x⟩, by rw [tagsIn_no hpb.out, ← hlyd.out]; exact ⟨⟨bo, bap, rfl⟩, h2.y⟩, h2.ne, hB9⟩
          case measure => simp [intOf]; omega
        · obtain ⟨vb, hgb⟩ : ∃ x, lb[i]? = some x := ⟨_, List.getElem?_eq_getElem (by omega)⟩
          cases vb with
          | true =>
            have hia : ¬ (i : Int) < (la.length : Int) := by omega
            have hpa : Hid (isIn la i = false) := by
              show _ = _
              unfold isIn
              simp [List.getD, List.getElem?_eq_none (show la.length ≤ i by omega)]
            have hib : (i : Int) < (lb.length : Int) := by omega
            obtain ⟨gb, ob, rfl, _, ccb⟩ := hb9 i true hgb
            have hpb : Hid (isIn lb i = true) := by
              show _ = _
              unfold isIn
              simp [List.getD, hgb]
            clear ha9 hb9
            have hN7 := new_tag (w5.alloc (.cells #[.int .i64 (i : Int), .string y] 32)) ((i : Int), y)
            have hS7 := alloc_size (w5.alloc (.cells #[.int .i64 (i : Int), .string y] 32)) (.cells #[.int .i64 (i : Int), .string y] 32)
            have hO7 := h2.y.alloc (.cells #[.int .i64 (i : Int), .string y] 32)
            have hZ7 := (hB9.alloc hB9.size (.cells #[.int .i64 (i : Int), .string y] 32))
            rw [alloc_size w5] at hN7 hS7
            go_wp2_with (at_builtin; refine wpList_append_lies _ rfl _ _ 37 rfl w2.heap.size 32 i0 (.agg #[.int .i64 0, .string ⟨#[]⟩]) 2 24 Tryd.underlying37 hi hz0 hz1 hz2 rfl (by decide) _ ly.length (flatT ly) rfl hO7 ⟨(w5.heap.size + 1), 0, none⟩ 1 1 (flatT [((i : Int), y)]) rfl rfl hN7 (flatT_one _) (by decide) ?c3 ?c4 ?c5 ((w5.heap.size + 1) + 1) hS7 ?_)
            case c3 => unfold maxLen; omega
            case c4 => omega
            case c5 => first | exact hZ7.size | (have := hZ7.size; rw [hS7] at this; exact this)
            intro g7 cap7 w7 hown7 hgrow7 hat7 _
            have h4 := (h2.swap.left ((i : Int), y) hown7 hgrow7 (by rw [alloc_size w5]; exact hat7)).swap
            have hB11 : Below w2.heap.size w2 w7 := hZ7.grown hgrow7 hZ7.size (fun k hk => (hO7.lt k hk).1)
            clear hN7 hS7 hO7 hZ7 hown7 hgrow7 hat7 h2 hB9 hP7 hQ7
            go_wp2
            go_roundw
            case rel => exact ⟨i + 1, by omega, by go_num, by rw [bothIn_no (by rw [hpa.out, hpb.out]; rfl), ← hbi.out], by rw [tagsIn_no hpa.out, ← hlxd.out]; exact ⟨⟨ao, cap, rfl⟩, h4.x⟩, by rw [tagsIn_yes hpb.out, ← hlyd.out, show tagOf ks ⟨#[107]⟩ ⟨#[118]⟩ i = ((i : Int), y) from by rw [hy.out]; rfl]; exact ⟨⟨(some ⟨g7, 0, none⟩), cap7, by rw [List.length_append]; rfl⟩, h4.y⟩, h4.ne, hB11⟩
            case measure => simp [intOf]; omega
          | false =>
            have hia : ¬ (i : Int) < (la.length : Int) := by omega
            have hpa : Hid (isIn la i = false) := by
              show _ = _
              unfold isIn
              simp [List.getD, List.getElem?_eq_none (show la.length ≤ i by omega)]
            have hib : (i : Int) < (lb.length : Int) := by omega
            obtain ⟨gb, ob, rfl, _, ccb⟩ := hb9 i false hgb
            have hpb : Hid (isIn lb i = false) := by
              show _ = _
              unfold isIn
              simp [List.getD, hgb]
            clear ha9 hb9
            go_wp2
            go_roundw
            case rel => exact ⟨i + 1, by omega, by go_num, by rw [bothIn_no (by rw [hpa.out, hpb.out]; rfl), ← hbi.out], by rw [tagsIn_no hpa.out, ← hlxd.out]; exact ⟨⟨ao, cap, rfl⟩, h2.x⟩, by rw [tagsIn_no hpb.out, ← hlyd.out]; exact ⟨⟨bo, bap, rfl⟩, h2.y⟩, h2.ne, hB9⟩
            case measure => simp [intOf]; omega
      · obtain ⟨va, hga⟩ : ∃ x, la[i]? = some x := ⟨_, List.getElem?_eq_getElem (by omega)⟩
        cases va with
        | true =>
          by_cases hrb : lb.length ≤ i
          · have hia : (i : Int) < (la.length : Int) := by omega
            obtain ⟨ga, oa, rfl, _, cca⟩ := ha9 i true hga
            have hpa : Hid (isIn la i = true) := by
              show _ = _
              unfold isIn
              simp [List.getD, hga]
            have hib : ¬ (i : Int) < (lb.length : Int) := by omega
            have hpb : Hid (isIn lb i = false) := by
              show _ = _
              unfold isIn
              simp [List.getD, List.getElem?_eq_none (show lb.length ≤ i by omega)]
            clear ha9 hb9
            have t0 := hP7.cell (i := 0) (v := .int .i64 (i : Int)) rfl
            have t1 := hP7.cell (i := 1) (v := .string x) rfl
            have hN6 := new_tag (w5.alloc (.cells #[.int .i64 (i : Int), .string y] 32)) ((i : Int), x)
            have hS6 := alloc_size (w5.alloc (.cells #[.int .i64 (i : Int), .string y] 32)) (.cells #[.int .i64 (i : Int), .string x] 32)
            have hO6 := h2.x.alloc (.cells #[.int .i64 (i : Int), .string x] 32)
            have hZ6 := (hB9.alloc hB9.size (.cells #[.int .i64 (i : Int), .string x] 32))
            rw [alloc_size w5] at hN6 hS6
            go_wp2_with (at_builtin; refine wpList_append_lies _ rfl _ _ 37 rfl w2.heap.size 32 i0 (.agg #[.int .i64 0, .string ⟨#[]⟩]) 2 24 Tryd.underlying37 hi hz0 hz1 hz2 rfl (by decide) _ lx.length (flatT lx) rfl hO6 ⟨(w5.heap.size + 1), 0, none⟩ 1 1 (flatT [((i : Int), x)]) rfl rfl hN6 (flatT_one _) (by decide) ?c3 ?c4 ?c5 ((w5.heap.size + 1) + 1) hS6 ?_)
            case c3 => unfold maxLen; omega
            case c4 => omega
            case c5 => first | exact hZ6.size | (have := hZ6.size; rw [hS6] at this; exact this)
            intro g6 cap6 w6 hown6 hgrow6 hat6 _
            have h3 := h2.left ((i : Int), x) hown6 hgrow6 (by rw [alloc_size w5]; exact hat6)
            have hB10 : Below w2.heap.size w2 w6 := hZ6.grown hgrow6 hZ6.size (fun k hk => (hO6.lt k hk).1)
            have hQ8 := arr_grown (hQ7.alloc (.cells #[.int .i64 (i : Int), .string x] 32)) hgrow6 (fun k hk => Nat.lt_of_lt_of_le (hXlt k hk) hq2)
            clear hN6 hS6 hO6 hZ6 hown6 hgrow6 hat6 t0 t1 h2 hB9 hP7 hQ7
            go_wp2
            go_roundw
            case rel => exact ⟨i + 1, by omega, by go_num, by rw [bothIn_no (by rw [hpa.out, hpb.out]; rfl), ← hbi.out], by rw [tagsIn_yes hpa.out, ← hlxd.out, show tagOf ks ⟨#[107]⟩ ⟨#[119]⟩ i = ((i : Int), x) from by rw [hx.out]; rfl]; exact ⟨⟨(some ⟨g6, 0, none⟩), cap6, by rw [List.length_append]; rfl⟩, h3.x⟩, by rw [tagsIn_no hpb.out, ← hlyd.out]; exact ⟨⟨bo, bap, rfl⟩, h3.y⟩, h3.ne, hB10⟩
            case measure => simp [intOf]; omega
          · obtain ⟨vb, hgb⟩ : ∃ x, lb[i]? = some x := ⟨_, List.getElem?_eq_getElem (by omega)⟩
            cases vb with
            | true =>
              have hia : (i : Int) < (la.length : Int) := by omega
              obtain ⟨ga, oa, rfl, _, cca⟩ := ha9 i true hga
              have hpa : Hid (isIn la i = true) := by
                show _ = _
                unfold isIn
                simp [List.getD, hga]
              have hib : (i : Int) < (lb.length : Int) := by omega
              obtain ⟨gb, ob, rfl, _, ccb⟩ := hb9 i true hgb
              have hpb : Hid (isIn lb i = true) := by
                show _ = _
                unfold isIn
                simp [List.getD, hgb]
              clear ha9 hb9
              have t0 := hP7.cell (i := 0) (v := .int .i64 (i : Int)) rfl
              have t1 := hP7.cell (i := 1) (v := .string x) rfl
              have hN6 := new_tag (w5.alloc (.cells #[.int .i64 (i : Int), .string y] 32)) ((i : Int), x)
              have hS6 := alloc_size (w5.alloc (.cells #[.int .i64 (i : Int), .string y] 32)) (.cells #[.int .i64 (i : Int), .string x] 32)
              have hO6 := h2.x.alloc (.cells #[.int .i64 (i : Int), .string x] 32)
              have hZ6 := (hB9.alloc hB9.size (.cells #[.int .i64 (i : Int), .string x] 32))
              rw [alloc_size w5] at hN6 hS6
              go_wp2_with (at_builtin; refine wpList_append_lies _ rfl _ _ 37 rfl w2.heap.size 32 i0 (.agg #[.int .i64 0, .string ⟨#[]⟩]) 2 24 Tryd.underlying37 hi hz0 hz1 hz2 rfl (by decide) _ lx.length (flatT lx) rfl hO6 ⟨(w5.heap.size + 1), 0, none⟩ 1 1 (flatT [((i : Int), x)]) rfl rfl hN6 (flatT_one _) (by decide) ?c3 ?c4 ?c5 ((w5.heap.size + 1) + 1) hS6 ?_)
              case c3 => unfold maxLen; omega
              case c4 => omega
              case c5 => first | exact hZ6.size | (have := hZ6.size; rw [hS6] at this; exact this)
              intro g6 cap6 w6 hown6 hgrow6 hat6 _
              have h3 := h2.left ((i : Int), x) hown6 hgrow6 (by rw [alloc_size w5]; exact hat6)
              have hB10 : Below w2.heap.size w2 w6 := hZ6.grown hgrow6 hZ6.size (fun k hk => (hO6.lt k hk).1)
              have hQ8 := arr_grown (hQ7.alloc (.cells #[.int .i64 (i : Int), .string x] 32)) hgrow6 (fun k hk => Nat.lt_of_lt_of_le (hXlt k hk) hq2)
              clear hN6 hS6 hO6 hZ6 hown6 hgrow6 hat6 t0 t1 h2 hB9 hP7 hQ7
              have t0 := hQ8.cell (i := 0) (v := .int .i64 (i : Int)) rfl
              have t1 := hQ8.cell (i := 1) (v := .string y) rfl
              have hN7 := new_tag w6 ((i : Int), y)
              have hS7 := alloc_size w6 (.cells #[.int .i64 (i : Int), .string y] 32)
              have hO7 := h3.y.alloc (.cells #[.int .i64 (i : Int), .string y] 32)
              have hZ7 := (hB10.alloc hB10.size (.cells #[.int .i64 (i : Int), .string y] 32))
              go_wp2_with (at_builtin; refine wpList_append_lies _ rfl _ _ 37 rfl w2.heap.size 32 i0 (.agg #[.int .i64 0, .string ⟨#[]⟩]) 2 24 Tryd.underlying37 hi hz0 hz1 hz2 rfl (by decide) _ ly.length (flatT ly) rfl hO7 ⟨w6.heap.size, 0, none⟩ 1 1 (flatT [((i : Int), y)]) rfl rfl hN7 (flatT_one _) (by decide) ?c3 ?c4 ?c5 (w6.heap.size + 1) hS7 ?_)
              case c3 => unfold maxLen; omega
              case c4 => omega
              case c5 => first | exact hZ7.size | (have := hZ7.size; rw [hS7] at this; exact this)
              intro g7 cap7 w7 hown7 hgrow7 hat7 _
              have h4 := (h3.swap.left ((i : Int), y) hown7 hgrow7 hat7).swap
              have hB11 : Below w2.heap.size w2 w7 := hZ7.grown hgrow7 hZ7.size (fun k hk => (hO7.lt k hk).1)
              clear hN7 hS7 hO7 hZ7 hown7 hgrow7 hat7 t0 t1 h3 hB10 hQ8
              go_wp2
              go_roundw
              case rel => exact ⟨i + 1, by omega, by go_num, by rw [bothIn_yes hpa.out hpb.out, ← hbi.out]; go_num, by rw [tagsIn_yes hpa.out, ← hlxd.out, show tagOf ks ⟨#[107]⟩ ⟨#[119]⟩ i = ((i : Int), x) from by rw [hx.out]; rfl]; exact ⟨⟨(some ⟨g6, 0, none⟩), cap6, by rw [List.length_append]; rfl⟩, h4.x⟩, by rw [tagsIn_yes hpb.out, ← hlyd.out, show tagOf ks ⟨#[107]⟩ ⟨#[118]⟩ i = ((i : Int), y) from by rw [hy.out]; rfl]; exact ⟨⟨(some ⟨g7, 0, none⟩), cap7, by rw [List.length_append]; rfl⟩, h4.y⟩, h4.ne, hB11⟩
              case measure => simp [intOf]; omega
            | false =>
              have hia : (i : Int) < (la.length : Int) := by omega
              obtain ⟨ga, oa, rfl, _, cca⟩ := ha9 i true hga
              have hpa : Hid (isIn la i = true) := by
                show _ = _
                unfold isIn
                simp [List.getD, hga]
              have hib : (i : Int) < (lb.length : Int) := by omega
              obtain ⟨gb, ob, rfl, _, ccb⟩ := hb9 i false hgb
              have hpb : Hid (isIn lb i = false) := by
                show _ = _
                unfold isIn
                simp [List.getD, hgb]
              clear ha9 hb9
              have t0 := hP7.cell (i := 0) (v := .int .i64 (i : Int)) rfl
              have t1 := hP7.cell (i := 1) (v := .string x) rfl
              have hN6 := new_tag (w5.alloc (.cells #[.int .i64 (i : Int), .string y] 32)) ((i : Int), x)
              have hS6 := alloc_size (w5.alloc (.cells #[.int .i64 (i : Int), .string y] 32)) (.cells #[.int .i64 (i : Int), .string x] 32)
              have hO6 := h2.x.alloc (.cells #[.int .i64 (i : Int), .string x] 32)
              have hZ6 := (hB9.alloc hB9.size (.cells #[.int .i64 (i : Int), .string x] 32))
              rw [alloc_size w5] at hN6 hS6
              go_wp2_with (at_builtin; refine wpList_append_lies _ rfl _ _ 37 rfl w2.heap.size 32 i0 (.agg #[.int .i64 0, .string ⟨#[]⟩]) 2 24 Tryd.underlying37 hi hz0 hz1 hz2 rfl (by decide) _ lx.length (flatT lx) rfl hO6 ⟨(w5.heap.size + 1), 0, none⟩ 1 1 (flatT [((i : Int), x)]) rfl rfl hN6 (flatT_one _) (by decide) ?c3 ?c4 ?c5 ((w5.heap.size + 1) + 1) hS6 ?_)
              case c3 => unfold maxLen; omega
              case c4 => omega
              case c5 => first | exact hZ6.size | (have := hZ6.size; rw [hS6] at this; exact this)
              intro g6 cap6 w6 hown6 hgrow6 hat6 _
              have h3 := h2.left ((i : Int), x) hown6 hgrow6 (by rw [alloc_size w5]; exact hat6)
              have hB10 : Below w2.heap.size w2 w6 := hZ6.grown hgrow6 hZ6.size (fun k hk => (hO6.lt k hk).1)
              have hQ8 := arr_grown (hQ7.alloc (.cells #[.int .i64 (i : Int), .string x] 32)) hgrow6 (fun k hk => Nat.lt_of_lt_of_le (hXlt k hk) hq2)
              clear hN6 hS6 hO6 hZ6 hown6 hgrow6 hat6 t0 t1 h2 hB9 hP7 hQ7
              go_wp2
              go_roundw
              case rel => exact ⟨i + 1, by omega, by go_num, by rw [bothIn_no (by rw [hpa.out, hpb.out]; rfl), ← hbi.out], by rw [tagsIn_yes hpa.out, ← hlxd.out, show tagOf ks ⟨#[107]⟩ ⟨#[119]⟩ i = ((i : Int), x) from by rw [hx.out]; rfl]; exact ⟨⟨(some ⟨g6, 0, none⟩), cap6, by rw [List.length_append]; rfl⟩, h3.x⟩, by rw [tagsIn_no hpb.out, ← hlyd.out]; exact ⟨⟨bo, bap, rfl⟩, h3.y⟩, h3.ne, hB10⟩
              case measure => simp [intOf]; omega
        | false =>
          by_cases hrb : lb.length ≤ i
          · have hia : (i : Int) < (la.length : Int) := by omega
            obtain ⟨ga, oa, rfl, _, cca⟩ := ha9 i false hga
            have hpa : Hid (isIn la i = false) := by
              show _ = _
              unfold isIn
              simp [List.getD, hga]
            have hib : ¬ (i : Int) < (lb.length : Int) := by omega
            have hpb : Hid (isIn lb i = false) := by
              show _ = _
              unfold isIn
              simp [List.getD, List.getElem?_eq_none (show lb.length ≤ i by omega)]
            clear ha9 hb9
            go_wp2
            go_roundw
            case rel => exact ⟨i + 1, by omega, by go_num, by rw [bothIn_no (by rw [hpa.out, hpb.out]; rfl), ← hbi.out], by rw [tagsIn_no hpa.out, ← hlxd.out]; exact ⟨⟨ao, cap, rfl⟩, h2.x⟩, by rw [tagsIn_no hpb.out, ← hlyd.out]; exact ⟨⟨bo, bap, rfl⟩, h2.y⟩, h2.ne, hB9⟩
            case measure => simp [intOf]; omega
          · obtain ⟨vb, hgb⟩ : ∃ x, lb[i]? = some x := ⟨_, List.getElem?_eq_getElem (by omega)⟩
            cases vb with
            | true =>
              have hia : (i : Int) < (la.length : Int) := by omega
              obtain ⟨ga, oa, rfl, _, cca⟩ := ha9 i false hga
              have hpa : Hid (isIn la i = false) := by
                show _ = _
                unfold isIn
                simp [List.getD, hga]
              have hib : (i : Int) < (lb.length : Int) := by omega
              obtain ⟨gb, ob, rfl, _, ccb⟩ := hb9 i true hgb
              have hpb : Hid (isIn lb i = true) := by
                show _ = _
                unfold isIn
                simp [List.getD, hgb]
              clear ha9 hb9
              have hN7 := new_tag (w5.alloc (.cells #[.int .i64 (i : Int), .string y] 32)) ((i : Int), y)
              have hS7 := alloc_size (w5.alloc (.cells #[.int .i64 (i : Int), .string y] 32)) (.cells #[.int .i64 (i : Int), .string y] 32)
              have hO7 := h2.y.alloc (.cells #[.int .i64 (i : Int), .string y] 32)
              have hZ7 := (hB9.alloc hB9.size (.cells #[.int .i64 (i : Int), .string y] 32))
              rw [alloc_size w5] at hN7 hS7
              go_wp2_with (at_builtin; refine wpList_append_lies _ rfl _ _ 37 rfl w2.heap.size 32 i0 (.agg #[.int .i64 0, .string ⟨#[]⟩]) 2 24 Tryd.underlying37 hi hz0 hz1 hz2 rfl (by decide) _ ly.length (flatT ly) rfl hO7 ⟨(w5.heap.size + 1), 0, none⟩ 1 1 (flatT [((i : Int), y)]) rfl rfl hN7 (flatT_one _) (by decide) ?c3 ?c4 ?c5 ((w5.heap.size + 1) + 1) hS7 ?_)
              case c3 => unfold maxLen; omega
              case c4 => omega
              case c5 => first | exact hZ7.size | (have := hZ7.size; rw [hS7] at this; exact this)
              intro g7 cap7 w7 hown7 hgrow7 hat7 _
              have h4 := (h2.swap.left ((i : Int), y) hown7 hgrow7 (by rw [alloc_size w5]; exact hat7)).swap
              have hB11 : Below w2.heap.size w2 w7 := hZ7.grown hgrow7 hZ7.size (fun k hk => (hO7.lt k hk).1)
              clear hN7 hS7 hO7 hZ7 hown7 hgrow7 hat7 h2 hB9 hP7 hQ7
              go_wp2
              go_roundw
              case rel => exact ⟨i + 1, by omega, by go_num, by rw [bothIn_no (by rw [hpa.out, hpb.out]; rfl), ← hbi.out], by rw [tagsIn_no hpa.out, ← hlxd.out]; exact ⟨⟨ao, cap, rfl⟩, h4.x⟩, by rw [tagsIn_yes hpb.out, ← hlyd.out, show tagOf ks ⟨#[107]⟩ ⟨#[118]⟩ i = ((i : Int), y) from by rw [hy.out]; rfl]; exact ⟨⟨(some ⟨g7, 0, none⟩), cap7, by rw [List.length_append]; rfl⟩, h4.y⟩, h4.ne, hB11⟩
              case measure => simp [intOf]; omega
            | false =>
              have hia : (i : Int) < (la.length : Int) := by omega
              obtain ⟨ga, oa, rfl, _, cca⟩ := ha9 i false hga
              have hpa : Hid (isIn la i = false) := by
                show _ = _
                unfold isIn
                simp [List.getD, hga]
              have hib : (i : Int) < (lb.length : Int) := by omega
              obtain ⟨gb, ob, rfl, _, ccb⟩ := hb9 i false hgb
              have hpb : Hid (isIn lb i = false) := by
                show _ = _
                unfold isIn
                simp [List.getD, hgb]
              clear ha9 hb9
              go_wp2
              go_roundw
              case rel => exact ⟨i + 1, by omega, by go_num, by rw [bothIn_no (by rw [hpa.out, hpb.out]; rfl), ← hbi.out], by rw [tagsIn_no hpa.out, ← hlxd.out]; exact ⟨⟨ao, cap, rfl⟩, h2.x⟩, by rw [tagsIn_no hpb.out, ← hlyd.out]; exact ⟨⟨bo, bap, rfl⟩, h2.y⟩, h2.ne, hB9⟩
              case measure => simp [intOf]; omega
    · obtain rfl : i = nn := by omega
      have h1 : ¬ (i : Int) < (i : Int) := by omega
      have k0 := n_any b n ks wr hTr n2
      rw [← hnn.out] at k0
      have htx := own_tags_at rfl hX
      have hty := own_tags_at rfl hY
      have qx := tagsIn_enough (word := ⟨#[119]⟩) (p := isIn la) (f := n) hkl
      have qy := tagsIn_enough (word := ⟨#[118]⟩) (p := isIn lb) (f := n) hkl
      have hm := meet (ks := ks) (w1 := ⟨#[119]⟩) (w2 := ⟨#[118]⟩) (p := isIn la) (q := isIn lb) i
      have hlx := tagsIn_le ks ⟨#[119]⟩ (isIn la) i
      have hly := tagsIn_le ks ⟨#[118]⟩ (isIn lb) i
      generalize tagsIn ks ⟨#[119]⟩ (isIn la) i = lx at hX htx qx hm hlx ⊢
      generalize tagsIn ks ⟨#[118]⟩ (isIn lb) i = ly at hY hty qy hm hly ⊢
      generalize bothIn (isIn la) (isIn lb) i = bi at hm ⊢
      have hB4 := hB3.trans (hBr.mono hB3.size)
      clear hX hY hne hT hBr ha2 hb2
      go_wp2_with fail
      refine k0.mono ?_
      rintro e w' ⟨rfl, rfl⟩
      clear k0
      obtain ⟨nd, hnd⟩ : ∃ z, Hid (z = 2 * n + 1) := ⟨_, rfl⟩
      have e1 := enough_any b n ks ao cap lx ⟨#[107]⟩ ⟨#[119]⟩ w' hTr n2 hk32 htx (by unfold maxLen; omega) (by decide) (by decide) hGr
      by_cases cx : lx.length < 2 * n + 1
      · by_cases cy : ly.length < 2 * n + 1
        · rw [qx, if_pos cx] at e1
          have dx : ¬ (nd : Int) ≤ (lx.length : Int) := by have := hnd.out; omega
          rw [if_pos cy] at qy
          have dy : ¬ (nd : Int) ≤ (ly.length : Int) := by have := hnd.out; omega
          have hq : Hid (enoughL ks n ⟨#[107]⟩ ⟨#[118]⟩ ly = 12) := qy
          clear qx qy hm cx cy
          go_wp2_with fail
          refine e1.mono ?_
          rintro e w3 ⟨rfl, hB5⟩
          have hT5 := hTr.below hB5
          have hG5 := hGr.below hB5
          have hB6 := hB4.trans (hB5.mono hB4.size)
          have e2 := enough_any b n ks bo bap ly ⟨#[107]⟩ ⟨#[118]⟩ w3 hT5 n2 hk32 (hty.below hB5) (by unfold maxLen; omega) (by decide) (by decide) hG5
          rw [hq.out] at e2
          clear e1 hB5 hTr hGr hB4 htx hty
          go_wp2_with fail
          refine e2.mono ?_
          rintro e w4 ⟨rfl, hB7⟩
          have hT6 := hT5.below hB7
          have hB8 := hB6.trans (hB7.mono hB6.size)
          clear e2 hB7 hT5 hG5 hB6
          have k1 := need_any b n ks w4 hT6 n2
          rw [← hnd.out] at k1
          go_wp2_with fail
          refine k1.mono ?_
          rintro e w' ⟨rfl, rfl⟩
          go_wp2_with fail
          refine k1.mono ?_
          rintro e w' ⟨rfl, rfl⟩
          clear k1
          go_wp2
          go_ret
          exact ⟨by simp, hB8⟩
        · rw [qx, if_pos cx] at e1
          have dx : ¬ (nd : Int) ≤ (lx.length : Int) := by have := hnd.out; omega
          rw [if_neg cy] at qy
          have dy : (nd : Int) ≤ (ly.length : Int) := by have := hnd.out; omega
          have hq : Hid (enoughL ks n ⟨#[107]⟩ ⟨#[118]⟩ ly = 0) := qy
          clear qx qy hm cx cy
          go_wp2_with fail
          refine e1.mono ?_
          rintro e w3 ⟨rfl, hB5⟩
          have hT5 := hTr.below hB5
          have hG5 := hGr.below hB5
          have hB6 := hB4.trans (hB5.mono hB4.size)
          have e2 := enough_any b n ks bo bap ly ⟨#[107]⟩ ⟨#[118]⟩ w3 hT5 n2 hk32 (hty.below hB5) (by unfold maxLen; omega) (by decide) (by decide) hG5
          rw [hq.out] at e2
          clear e1 hB5 hTr hGr hB4 htx hty
          go_wp2_with fail
          refine e2.mono ?_
          rintro e w4 ⟨rfl, hB7⟩
          have hT6 := hT5.below hB7
          have hB8 := hB6.trans (hB7.mono hB6.size)
          clear e2 hB7 hT5 hG5 hB6
          have k1 := need_any b n ks w4 hT6 n2
          rw [← hnd.out] at k1
          go_wp2_with fail
          refine k1.mono ?_
          rintro e w' ⟨rfl, rfl⟩
          go_wp2_with fail
          refine k1.mono ?_
          rintro e w' ⟨rfl, rfl⟩
          clear k1
          go_wp2
          go_ret
          exact ⟨by simp, hB8⟩
      · by_cases cy : ly.length < 2 * n + 1
        · rw [qx, if_neg cx] at e1
          have dx : (nd : Int) ≤ (lx.length : Int) := by have := hnd.out; omega
          rw [if_pos cy] at qy
          have dy : ¬ (nd : Int) ≤ (ly.length : Int) := by have := hnd.out; omega
          have hq : Hid (enoughL ks n ⟨#[107]⟩ ⟨#[118]⟩ ly = 12) := qy
          clear qx qy hm cx cy
          go_wp2_with fail
          refine e1.mono ?_
          rintro e w3 ⟨rfl, hB5⟩
          have hT5 := hTr.below hB5
          have hG5 := hGr.below hB5
          have hB6 := hB4.trans (hB5.mono hB4.size)
          have e2 := enough_any b n ks bo bap ly ⟨#[107]⟩ ⟨#[118]⟩ w3 hT5 n2 hk32 (hty.below hB5) (by unfold maxLen; omega) (by decide) (by decide) hG5
          rw [hq.out] at e2
          clear e1 hB5 hTr hGr hB4 htx hty
          go_wp2_with fail
          refine e2.mono ?_
          rintro e w4 ⟨rfl, hB7⟩
          have hT6 := hT5.below hB7
          have hB8 := hB6.trans (hB7.mono hB6.size)
          clear e2 hB7 hT5 hG5 hB6
          have k1 := need_any b n ks w4 hT6 n2
          rw [← hnd.out] at k1
          go_wp2_with fail
          refine k1.mono ?_
          rintro e w' ⟨rfl, rfl⟩
          go_wp2_with fail
          refine k1.mono ?_
          rintro e w' ⟨rfl, rfl⟩
          clear k1
          go_wp2
          go_ret
          exact ⟨by simp, hB8⟩
        · rw [qx, if_neg cx] at e1
          have dx : (nd : Int) ≤ (lx.length : Int) := by have := hnd.out; omega
          rw [if_neg cy] at qy
          have dy : (nd : Int) ≤ (ly.length : Int) := by have := hnd.out; omega
          have db : (n : Int) + 1 ≤ (bi : Int) := by have := hnn.out; omega
          have hq : Hid (enoughL ks n ⟨#[107]⟩ ⟨#[118]⟩ ly = 0) := qy
          clear qx qy hm cx cy
          go_wp2_with fail
          refine e1.mono ?_
          rintro e w3 ⟨rfl, hB5⟩
          have hT5 := hTr.below hB5
          have hG5 := hGr.below hB5
          have hB6 := hB4.trans (hB5.mono hB4.size)
          have e2 := enough_any b n ks bo bap ly ⟨#[107]⟩ ⟨#[118]⟩ w3 hT5 n2 hk32 (hty.below hB5) (by unfold maxLen; omega) (by decide) (by decide) hG5
          rw [hq.out] at e2
          clear e1 hB5 hTr hGr hB4 htx hty
          go_wp2_with fail
          refine e2.mono ?_
          rintro e w4 ⟨rfl, hB7⟩
          have hT6 := hT5.below hB7
          have hB8 := hB6.trans (hB7.mono hB6.size)
          clear e2 hB7 hT5 hG5 hB6
          have k1 := need_any b n ks w4 hT6 n2
          rw [← hnd.out] at k1
          go_wp2_with fail
          refine k1.mono ?_
          rintro e w' ⟨rfl, rfl⟩
          go_wp2_with fail
          refine k1.mono ?_
          rintro e w' ⟨rfl, rfl⟩
          clear k1
          go_wp2
          go_ret
          exact ⟨by simp, hB8⟩
end Go.Proofs.YtlbibhngfnllbaaDoor
