/- What the reader's tx does: the transaction that the bytes are, or the first error, thrown. -/
import Derived.Test.YtibfnefdpbdkoaaTxReader
namespace Go.Proofs.Ytibfnefdpbdkoaa
open Go.RowKit
set_option linter.unusedVariables false

/-- What the reader's tx hands back, or throws. -/
def Read (W : World) (rb : Nat) (r : TxD × Nat) (e : Ending) (w : World) : Prop :=
  (r.2 = 0 ∧ ∃ ra rc wa wc, e = .returned (txV r.1 ra rc wa wc) ∧ OwnStrs (rb + 1) w ra r.1.rs ∧ OwnStrs (rb + 1) w wa r.1.ws ∧ (ra = none → rc = 0) ∧ (wa = none → wc = 0) ∧ Below rb W w) ∨ (r.2 ≠ 0 ∧ e = .panicked (thrown r.2) ∧ Below rb W w)

theorem Read.err {W w : World} {rb er : Nat} {r : TxD × Nat} (h : r = (.none, er)) (he : er ≠ 0) (hb : Below rb W w) : Read W rb r (.panicked (thrown er)) w := by
  subst h
  exact Or.inr ⟨he, rfl, hb⟩

theorem rest_size (r : ByteArray) (k : Nat) (h : r.size ≤ maxLen) : (r.extract k r.size).size ≤ maxLen := by
  rw [ByteArray.size_extract]
  omega

theorem conv_u64 (n : Nat) (h : n ≤ 4611686018427387903) : (n : Int) ≤ 4611686018427387903 := by omega

set_option maxRecDepth 100000 in
set_option maxHeartbeats 4000000 in
theorem tx_any (s : ByteArray) (rb : Nat) (W : World) (hR : Arr W rb 95 [.string s]) (hs : s.size ≤ maxLen) :
    Calls Try.prog 48 #[.pointer (some ⟨rb, 0, none⟩)] W fun e w' => Read W rb (decL s.data.toList) e w' := by
  have hlt := hR.lt
  have hz1 := Arr.new W 33 zeroC
  have hz2 := Arr.new (W.alloc (.cells zeroC.toArray 33)) 33 zeroC
  rw [alloc_size] at hz2
  have st : RdSt W rb rb W.heap.size (W.heap.size + 1) (W.heap.size + 1 + 1) 95 [] ((W.alloc (.cells zeroC.toArray 33)).alloc (.cells zeroC.toArray 33)) [.string s] zeroC :=
    ⟨(hR.alloc _).alloc _, hz1.alloc _, hz2, by omega, by omega, by omega, by omega, by omega, by omega, by omega, by omega, by omega, by rw [alloc_size, alloc_size]; omega, (fun p hp => by cases hp),
      ((Below.refl rb W).alloc (Nat.le_of_lt hlt) _).alloc (by rw [alloc_size]; omega) _⟩
  clear hz1 hz2 hR
  have H0 : Hid (decL s.data.toList = _) := (rfl : decL s.data.toList = decL s.data.toList)
  obtain ⟨out, hout⟩ : ∃ out, out = decL s.data.toList := ⟨_, rfl⟩
  rw [← hout]
  unfold decL at hout
  have H : Hid (out = _) := hout
  clear hout H0
  have r0s : Hid (s.size ≤ maxLen) := hs
  clear hs
  go_enter Try.func48, Try.ntmps48
  rcases h0 : getInt s.data.toList with ⟨v0, k0, e0⟩
  by_cases z : e0 ≠ 0
  · have H1 : Hid (out = (.none, e0)) := (H.out.trans (bindI_err h0 z) : _ = _)
    have cE := number_err st r0s.out v0 k0 e0 h0 z
    have hb := st.bel
    clear h0 H st
    go_wp2_with fail
    refine cE.mono ?_
    rintro e w1 ⟨rfl, hw1⟩
    subst hw1
    clear cE
    go_wp2
    exact ⟨rfl, Read.err H1.out z hb⟩
  replace z : e0 = 0 := by omega
  subst z
  have bk := (getInt_bounds _ _ _ h0).1
  have cE := number_ok st r0s.out v0 k0 h0
  have hx := H.out.trans (bindI_ok h0)
  try dsimp only at hx
  rw [← extract_drop] at hx
  have r1s : Hid (((s.extract k0 s.size) : ByteArray).size ≤ maxLen) := rest_size s k0 r0s.out
  obtain ⟨r1, hr⟩ : ∃ q, q = s.extract k0 s.size := ⟨_, rfl⟩
  rw [← hr] at hx r1s
  replace H : Hid (out = _) := hx
  clear hx h0
  rw [← hr] at cE
  clear hr st r0s
  have n0 : (v0 : Int) ≤ 4611686018427387903 := by omega
  clear bk
  go_wp2_with fail
  refine cE.mono ?_
  rintro e w1 ⟨rfl, st⟩
  clear cE
  rcases h1 : getText r1.data.toList with ⟨v1, k1, e1⟩
  by_cases z : e1 ≠ 0
  · have H1 : Hid (out = (.none, e1)) := (H.out.trans (bindT_err h1 z) : _ = _)
    have cE := text_err st r1s.out v1 k1 e1 h1 z
    have hb := st.bel
    clear h1 H st
    go_wp2_with fail
    refine cE.mono ?_
    rintro e w1 ⟨rfl, hw1⟩
    subst hw1
    clear cE
    go_wp2
    exact ⟨rfl, Read.err H1.out z hb⟩
  replace z : e1 = 0 := by omega
  subst z
  have cE := text_ok st r1s.out v1 k1 h1
  have hx := H.out.trans (bindT_ok h1)
  try dsimp only at hx
  rw [← extract_drop] at hx
  have r2s : Hid (((r1.extract k1 r1.size) : ByteArray).size ≤ maxLen) := rest_size r1 k1 r1s.out
  obtain ⟨r2, hr⟩ : ∃ q, q = r1.extract k1 r1.size := ⟨_, rfl⟩
  rw [← hr] at hx r2s
  replace H : Hid (out = _) := hx
  clear hx h1
  rw [← hr] at cE
  clear hr st r1s
  have hx := H.out
  generalize (⟨v1.toArray⟩ : ByteArray) = b1 at cE hx
  replace H : Hid (out = _) := hx
  clear hx
  go_wp2_with fail
  refine cE.mono ?_
  rintro e w2 ⟨rfl, st⟩
  clear cE
  have y := st.tx.cell (i := 1) rfl
  have f := st.tx.frozen 1
  have st' := st.setT 1 (.string b1)
  obtain ⟨w3, hw⟩ : ∃ q, w2.setCell ⟨W.heap.size + 1, 1, none⟩ (.string b1) = q := ⟨_, rfl⟩
  rw [hw] at st'
  replace st' : RdSt W rb rb W.heap.size (W.heap.size + 1) (W.heap.size + 1 + 1) 95 [] w3 [.string r2] [.int .i64 0, .string b1, .string ⟨#[]⟩, .int .u64 0, .int .u64 0, .string ⟨#[]⟩, .string ⟨#[]⟩, .slice none 0 0, .slice none 0 0] := st'
  clear st
  have st := st'
  clear st'
  rcases h2 : getText r2.data.toList with ⟨v2, k2, e2⟩
  by_cases z : e2 ≠ 0
  · have H1 : Hid (out = (.none, e2)) := (H.out.trans (bindT_err h2 z) : _ = _)
    have cE := text_err st r2s.out v2 k2 e2 h2 z
    have hb := st.bel
    clear h2 H st
    go_wp2_with fail
    refine cE.mono ?_
    rintro e w1 ⟨rfl, hw1⟩
    subst hw1
    clear cE
    go_wp2
    exact ⟨rfl, Read.err H1.out z hb⟩
  replace z : e2 = 0 := by omega
  subst z
  have cE := text_ok st r2s.out v2 k2 h2
  have hx := H.out.trans (bindT_ok h2)
  try dsimp only at hx
  rw [← extract_drop] at hx
  have r3s : Hid (((r2.extract k2 r2.size) : ByteArray).size ≤ maxLen) := rest_size r2 k2 r2s.out
  obtain ⟨r3, hr⟩ : ∃ q, q = r2.extract k2 r2.size := ⟨_, rfl⟩
  rw [← hr] at hx r3s
  replace H : Hid (out = _) := hx
  clear hx h2
  rw [← hr] at cE
  clear hr st r2s
  have hx := H.out
  generalize (⟨v2.toArray⟩ : ByteArray) = b2 at cE hx
  replace H : Hid (out = _) := hx
  clear hx
  go_wp2_with fail
  refine cE.mono ?_
  rintro e w4 ⟨rfl, st⟩
  clear cE
  have y := st.tx.cell (i := 2) rfl
  have f := st.tx.frozen 2
  have st' := st.setT 2 (.string b2)
  obtain ⟨w5, hw⟩ : ∃ q, w4.setCell ⟨W.heap.size + 1, 2, none⟩ (.string b2) = q := ⟨_, rfl⟩
  rw [hw] at st'
  replace st' : RdSt W rb rb W.heap.size (W.heap.size + 1) (W.heap.size + 1 + 1) 95 [] w5 [.string r3] [.int .i64 0, .string b1, .string b2, .int .u64 0, .int .u64 0, .string ⟨#[]⟩, .string ⟨#[]⟩, .slice none 0 0, .slice none 0 0] := st'
  clear st
  have st := st'
  clear st'
  rcases h3 : getInt r3.data.toList with ⟨v3, k3, e3⟩
  by_cases z : e3 ≠ 0
  · have H1 : Hid (out = (.none, e3)) := (H.out.trans (bindI_err h3 z) : _ = _)
    have cE := number_err st r3s.out v3 k3 e3 h3 z
    have hb := st.bel
    clear h3 H st
    go_wp2_with fail
    refine cE.mono ?_
    rintro e w1 ⟨rfl, hw1⟩
    subst hw1
    clear cE
    go_wp2
    exact ⟨rfl, Read.err H1.out z hb⟩
  replace z : e3 = 0 := by omega
  subst z
  have bk := (getInt_bounds _ _ _ h3).1
  have cE := number_ok st r3s.out v3 k3 h3
  have hx := H.out.trans (bindI_ok h3)
  try dsimp only at hx
  rw [← extract_drop] at hx
  have r4s : Hid (((r3.extract k3 r3.size) : ByteArray).size ≤ maxLen) := rest_size r3 k3 r3s.out
  obtain ⟨r4, hr⟩ : ∃ q, q = r3.extract k3 r3.size := ⟨_, rfl⟩
  rw [← hr] at hx r4s
  replace H : Hid (out = _) := hx
  clear hx h3
  rw [← hr] at cE
  clear hr st r3s
  have n3 : (v3 : Int) ≤ 4611686018427387903 := by omega
  clear bk
  go_wp2_with fail
  refine cE.mono ?_
  rintro e w6 ⟨rfl, st⟩
  clear cE
  have y := st.tx.cell (i := 3) rfl
  have f := st.tx.frozen 3
  have st' := st.setT 3 (.int .u64 (v3 : Int))
  obtain ⟨w7, hw⟩ : ∃ q, w6.setCell ⟨W.heap.size + 1, 3, none⟩ (.int .u64 (v3 : Int)) = q := ⟨_, rfl⟩
  rw [hw] at st'
  replace st' : RdSt W rb rb W.heap.size (W.heap.size + 1) (W.heap.size + 1 + 1) 95 [] w7 [.string r4] [.int .i64 0, .string b1, .string b2, .int .u64 (v3 : Int), .int .u64 0, .string ⟨#[]⟩, .string ⟨#[]⟩, .slice none 0 0, .slice none 0 0] := st'
  clear st
  have st := st'
  clear st'
  rcases h4 : getInt r4.data.toList with ⟨v4, k4, e4⟩
  by_cases z : e4 ≠ 0
  · have H1 : Hid (out = (.none, e4)) := (H.out.trans (bindI_err h4 z) : _ = _)
    have cE := number_err st r4s.out v4 k4 e4 h4 z
    have hb := st.bel
    clear h4 H st
    go_wp2_with fail
    refine cE.mono ?_
    rintro e w1 ⟨rfl, hw1⟩
    subst hw1
    clear cE
    go_wp2
    exact ⟨rfl, Read.err H1.out z hb⟩
  replace z : e4 = 0 := by omega
  subst z
  have bk := (getInt_bounds _ _ _ h4).1
  have cE := number_ok st r4s.out v4 k4 h4
  have hx := H.out.trans (bindI_ok h4)
  try dsimp only at hx
  rw [← extract_drop] at hx
  have r5s : Hid (((r4.extract k4 r4.size) : ByteArray).size ≤ maxLen) := rest_size r4 k4 r4s.out
  obtain ⟨r5, hr⟩ : ∃ q, q = r4.extract k4 r4.size := ⟨_, rfl⟩
  rw [← hr] at hx r5s
  replace H : Hid (out = _) := hx
  clear hx h4
  rw [← hr] at cE
  clear hr st r4s
  have n4 : (v4 : Int) ≤ 4611686018427387903 := by omega
  clear bk
  go_wp2_with fail
  refine cE.mono ?_
  rintro e w8 ⟨rfl, st⟩
  clear cE
  have y := st.tx.cell (i := 4) rfl
  have f := st.tx.frozen 4
  have st' := st.setT 4 (.int .u64 (v4 : Int))
  obtain ⟨w9, hw⟩ : ∃ q, w8.setCell ⟨W.heap.size + 1, 4, none⟩ (.int .u64 (v4 : Int)) = q := ⟨_, rfl⟩
  rw [hw] at st'
  replace st' : RdSt W rb rb W.heap.size (W.heap.size + 1) (W.heap.size + 1 + 1) 95 [] w9 [.string r5] [.int .i64 0, .string b1, .string b2, .int .u64 (v3 : Int), .int .u64 (v4 : Int), .string ⟨#[]⟩, .string ⟨#[]⟩, .slice none 0 0, .slice none 0 0] := st'
  clear st
  have st := st'
  clear st'
  rcases h5 : getText r5.data.toList with ⟨v5, k5, e5⟩
  by_cases z : e5 ≠ 0
  · have H1 : Hid (out = (.none, e5)) := (H.out.trans (bindT_err h5 z) : _ = _)
    have cE := text_err st r5s.out v5 k5 e5 h5 z
    have hb := st.bel
    clear h5 H st
    go_wp2_with fail
    refine cE.mono ?_
    rintro e w1 ⟨rfl, hw1⟩
    subst hw1
    clear cE
    go_wp2
    exact ⟨rfl, Read.err H1.out z hb⟩
  replace z : e5 = 0 := by omega
  subst z
  have cE := text_ok st r5s.out v5 k5 h5
  have hx := H.out.trans (bindT_ok h5)
  try dsimp only at hx
  rw [← extract_drop] at hx
  have r6s : Hid (((r5.extract k5 r5.size) : ByteArray).size ≤ maxLen) := rest_size r5 k5 r5s.out
  obtain ⟨r6, hr⟩ : ∃ q, q = r5.extract k5 r5.size := ⟨_, rfl⟩
  rw [← hr] at hx r6s
  replace H : Hid (out = _) := hx
  clear hx h5
  rw [← hr] at cE
  clear hr st r5s
  have hx := H.out
  generalize (⟨v5.toArray⟩ : ByteArray) = b5 at cE hx
  replace H : Hid (out = _) := hx
  clear hx
  go_wp2_with fail
  refine cE.mono ?_
  rintro e w10 ⟨rfl, st⟩
  clear cE
  have y := st.tx.cell (i := 5) rfl
  have f := st.tx.frozen 5
  have st' := st.setT 5 (.string b5)
  obtain ⟨w11, hw⟩ : ∃ q, w10.setCell ⟨W.heap.size + 1, 5, none⟩ (.string b5) = q := ⟨_, rfl⟩
  rw [hw] at st'
  replace st' : RdSt W rb rb W.heap.size (W.heap.size + 1) (W.heap.size + 1 + 1) 95 [] w11 [.string r6] [.int .i64 0, .string b1, .string b2, .int .u64 (v3 : Int), .int .u64 (v4 : Int), .string b5, .string ⟨#[]⟩, .slice none 0 0, .slice none 0 0] := st'
  clear st
  have st := st'
  clear st'
  rcases h6 : getText r6.data.toList with ⟨v6, k6, e6⟩
  by_cases z : e6 ≠ 0
  · have H1 : Hid (out = (.none, e6)) := (H.out.trans (bindT_err h6 z) : _ = _)
    have cE := text_err st r6s.out v6 k6 e6 h6 z
    have hb := st.bel
    clear h6 H st
    go_wp2_with fail
    refine cE.mono ?_
    rintro e w1 ⟨rfl, hw1⟩
    subst hw1
    clear cE
    go_wp2
    exact ⟨rfl, Read.err H1.out z hb⟩
  replace z : e6 = 0 := by omega
  subst z
  have cE := text_ok st r6s.out v6 k6 h6
  have hx := H.out.trans (bindT_ok h6)
  try dsimp only at hx
  rw [← extract_drop] at hx
  have r7s : Hid (((r6.extract k6 r6.size) : ByteArray).size ≤ maxLen) := rest_size r6 k6 r6s.out
  obtain ⟨r7, hr⟩ : ∃ q, q = r6.extract k6 r6.size := ⟨_, rfl⟩
  rw [← hr] at hx r7s
  replace H : Hid (out = _) := hx
  clear hx h6
  rw [← hr] at cE
  clear hr st r6s
  have hx := H.out
  generalize (⟨v6.toArray⟩ : ByteArray) = b6 at cE hx
  replace H : Hid (out = _) := hx
  clear hx
  go_wp2_with fail
  refine cE.mono ?_
  rintro e w12 ⟨rfl, st⟩
  clear cE
  have y := st.tx.cell (i := 6) rfl
  have f := st.tx.frozen 6
  have st' := st.setT 6 (.string b6)
  obtain ⟨w13, hw⟩ : ∃ q, w12.setCell ⟨W.heap.size + 1, 6, none⟩ (.string b6) = q := ⟨_, rfl⟩
  rw [hw] at st'
  replace st' : RdSt W rb rb W.heap.size (W.heap.size + 1) (W.heap.size + 1 + 1) 95 [] w13 [.string r7] [.int .i64 0, .string b1, .string b2, .int .u64 (v3 : Int), .int .u64 (v4 : Int), .string b5, .string b6, .slice none 0 0, .slice none 0 0] := st'
  clear st
  have st := st'
  clear st'
  rcases h7 : getList r7.data.toList 8 with ⟨v7, k7, e7⟩
  by_cases z : e7 ≠ 0
  · have H1 : Hid (out = (.none, e7)) := (H.out.trans (bindL_err h7 z) : _ = _)
    have cE := keys_err st r7s.out v7 k7 e7 h7 z
    have hb := st.bel
    have hb' := fun w1 (h : Below _ _ w1) => (st.below h).bel
    clear h7 H st
    go_wp2_with fail
    refine cE.mono ?_
    rintro e w1 ⟨rfl, hbb⟩
    replace hb := hb' w1 hbb
    clear cE hb' hbb
    go_wp2
    exact ⟨rfl, Read.err H1.out z hb⟩
  replace z : e7 = 0 := by omega
  subst z
  have bk := getList_back h7
  have bl7 : r7.data.toList.length = r7.size := by simp
  have cE := keys_ok st r7s.out v7 k7 h7 (by omega)
  have hx := H.out.trans (bindL_ok h7)
  try dsimp only at hx
  rw [← extract_drop] at hx
  have r8s : Hid (((r7.extract k7 r7.size) : ByteArray).size ≤ maxLen) := rest_size r7 k7 r7s.out
  obtain ⟨r8, hr⟩ : ∃ q, q = r7.extract k7 r7.size := ⟨_, rfl⟩
  rw [← hr] at hx r8s
  replace H : Hid (out = _) := hx
  clear hx h7
  rw [← hr] at cE
  clear hr st r7s bl7 bk
  have hx := H.out
  generalize mks v7 = m7 at cE hx
  replace H : Hid (out = _) := hx
  clear hx
  go_wp2_with fail
  refine cE.mono ?_
  rintro e w14 ⟨a7, c7, rfl, nn7, st⟩
  clear cE
  have y := st.tx.cell (i := 7) rfl
  have f := st.tx.frozen 7
  have st' := st.setT 7 (.slice a7 m7.length c7)
  obtain ⟨w15, hw⟩ : ∃ q, w14.setCell ⟨W.heap.size + 1, 7, none⟩ (.slice a7 m7.length c7) = q := ⟨_, rfl⟩
  rw [hw] at st'
  replace st' : RdSt W rb rb W.heap.size (W.heap.size + 1) (W.heap.size + 1 + 1) 95 ((a7, m7) :: []) w15 [.string r8] [.int .i64 0, .string b1, .string b2, .int .u64 (v3 : Int), .int .u64 (v4 : Int), .string b5, .string b6, .slice a7 m7.length c7, .slice none 0 0] := st'
  clear st
  have st := st'
  clear st'
  rcases h8 : getList r8.data.toList 8 with ⟨v8, k8, e8⟩
  by_cases z : e8 ≠ 0
  · have H1 : Hid (out = (.none, e8)) := (H.out.trans (bindL_err h8 z) : _ = _)
    have cE := keys_err st r8s.out v8 k8 e8 h8 z
    have hb := st.bel
    have hb' := fun w1 (h : Below _ _ w1) => (st.below h).bel
    clear h8 H st
    go_wp2_with fail
    refine cE.mono ?_
    rintro e w1 ⟨rfl, hbb⟩
    replace hb := hb' w1 hbb
    clear cE hb' hbb
    go_wp2
    exact ⟨rfl, Read.err H1.out z hb⟩
  replace z : e8 = 0 := by omega
  subst z
  have bk := getList_back h8
  have bl8 : r8.data.toList.length = r8.size := by simp
  have cE := keys_ok st r8s.out v8 k8 h8 (by omega)
  have hx := H.out.trans (bindL_ok h8)
  try dsimp only at hx
  rw [← extract_drop] at hx
  have r9s : Hid (((r8.extract k8 r8.size) : ByteArray).size ≤ maxLen) := rest_size r8 k8 r8s.out
  obtain ⟨r9, hr⟩ : ∃ q, q = r8.extract k8 r8.size := ⟨_, rfl⟩
  rw [← hr] at hx r9s
  replace H : Hid (out = _) := hx
  clear hx h8
  rw [← hr] at cE
  clear hr st r8s bl8 bk
  have hx := H.out
  generalize mks v8 = m8 at cE hx
  replace H : Hid (out = _) := hx
  clear hx
  go_wp2_with fail
  refine cE.mono ?_
  rintro e w16 ⟨a8, c8, rfl, nn8, st⟩
  clear cE
  have y := st.tx.cell (i := 8) rfl
  have f := st.tx.frozen 8
  have st' := st.setT 8 (.slice a8 m8.length c8)
  obtain ⟨w17, hw⟩ : ∃ q, w16.setCell ⟨W.heap.size + 1, 8, none⟩ (.slice a8 m8.length c8) = q := ⟨_, rfl⟩
  rw [hw] at st'
  replace st' : RdSt W rb rb W.heap.size (W.heap.size + 1) (W.heap.size + 1 + 1) 95 ((a8, m8) :: ((a7, m7) :: [])) w17 [.string r9] [.int .i64 0, .string b1, .string b2, .int .u64 (v3 : Int), .int .u64 (v4 : Int), .string b5, .string b6, .slice a7 m7.length c7, .slice a8 m8.length c8] := st'
  clear st
  have st := st'
  clear st'
  replace H : Hid (out = finTx ⟨(v0 : Int), b1, b2, v3, v4, b5, b6, m7, m8⟩ r9.data.toList) := H
  unfold finTx at H
  by_cases hk : (2 : Int) < (v0 : Int)
  · have H1 : Hid (out = (.none, 2)) := (H.out.trans (if_pos hk) : _ = _)
    have hb := st.bel
    clear H st
    go_wp2
    exact ⟨rfl, Read.err (er := 2) H1.out (by decide) hb⟩
  replace H : Hid (out = _) := (H.out.trans (if_neg hk) : _ = _)
  have hk' : (v0 : Int) ≤ 2 := by omega
  clear hk
  have y := st.tx.cell (i := 0) rfl
  have f := st.tx.frozen 0
  have st' := st.setT 0 (.int .i64 (v0 : Int))
  obtain ⟨wz, hw⟩ : ∃ q, w17.setCell ⟨W.heap.size + 1, 0, none⟩ (.int .i64 (v0 : Int)) = q := ⟨_, rfl⟩
  rw [hw] at st'
  replace st' : RdSt W rb rb W.heap.size (W.heap.size + 1) (W.heap.size + 1 + 1) 95 ((a8, m8) :: ((a7, m7) :: [])) wz [.string r9] [.int .i64 (v0 : Int), .string b1, .string b2, .int .u64 (v3 : Int), .int .u64 (v4 : Int), .string b5, .string b6, .slice a7 m7.length c7, .slice a8 m8.length c8] := st'
  clear st
  have st := st'
  clear st'
  have yr := st.rd.cell (i := 0) rfl
  by_cases hr : r9.data.toList ≠ []
  · have H1 : Hid (out = (.none, 6)) := (H.out.trans (if_pos hr) : _ = _)
    have hb := st.bel
    have hr1 : r9.toList.isEmpty = false := by rw [ByteArray.toList_eq]; simpa using hr
    clear H st hr
    go_wp2
    exact ⟨rfl, Read.err (er := 6) H1.out (by decide) hb⟩
  replace H : Hid (out = _) := (H.out.trans (if_neg hr) : _ = _)
  have hr1 : r9.toList.isEmpty = true := by rw [ByteArray.toList_eq]; simpa using hr
  clear hr
  have hA : TxAt wz ⟨(v0 : Int), b1, b2, v3, v4, b5, b6, m7, m8⟩ a7 a8 := ⟨(st.rows (a7, m7) (by simp)).at, (st.rows (a8, m8) (by simp)).at⟩
  have cC := check_any ⟨(v0 : Int), b1, b2, v3, v4, b5, b6, m7, m8⟩ a7 c7 a8 c8 wz hA
  obtain ⟨x0, x1, x2, x3, x4, x5, x6, x7, x8⟩ := st.tx.cells9
  by_cases hc : checkL ⟨(v0 : Int), b1, b2, v3, v4, b5, b6, m7, m8⟩ ≠ 0
  · have H1 : Hid (out = (.none, checkL ⟨(v0 : Int), b1, b2, v3, v4, b5, b6, m7, m8⟩)) := (H.out.trans (if_pos hc) : _ = _)
    have cM := must_err _ hc
    generalize checkL ⟨(v0 : Int), b1, b2, v3, v4, b5, b6, m7, m8⟩ = er at cC cM H1 hc
    have hb' := fun w1 (h : Below _ _ w1) => (st.below h).bel
    clear H st hA
    go_wp2_with fail
    refine cC.mono ?_
    rintro e wy ⟨rfl, hbb⟩
    replace hb' := hb' wy hbb
    clear cC hbb
    go_wp2_with fail
    refine (cM _).mono ?_
    rintro e wx ⟨rfl, rfl⟩
    go_wp2
    exact ⟨rfl, Read.err H1.out hc hb'⟩
  replace H : Hid (out = (⟨(v0 : Int), b1, b2, v3, v4, b5, b6, m7, m8⟩, 0)) := (H.out.trans (if_neg hc) : _ = _)
  replace hc : checkL ⟨(v0 : Int), b1, b2, v3, v4, b5, b6, m7, m8⟩ = 0 := by omega
  rw [hc] at cC
  clear hc hA
  go_wp2_with fail
  refine cC.mono ?_
  rintro e wy ⟨rfl, hbb⟩
  replace st := st.below hbb
  clear cC hbb
  go_wp2_with fail
  refine (must_ok _).mono ?_
  rintro e wx ⟨rfl, rfl⟩
  clear x0 x1 x2 x3 x4 x5 x6 x7 x8
  obtain ⟨x0, x1, x2, x3, x4, x5, x6, x7, x8⟩ := st.tx.cells9
  obtain ⟨q0, q1, q2, q3, q4, q5, q6, q7, q8⟩ := st.res.cells9
  have f0 := st.res.frozen 0
  have f1 := st.res.frozen 1
  have f2 := st.res.frozen 2
  have f3 := st.res.frozen 3
  have f4 := st.res.frozen 4
  have f5 := st.res.frozen 5
  have f6 := st.res.frozen 6
  have f7 := st.res.frozen 7
  have f8 := st.res.frozen 8
  go_wp2
  have hF := st.res.set9 (.int .i64 (v0 : Int)) (.string b1) (.string b2) (.int .u64 (v3 : Int)) (.int .u64 (v4 : Int)) (.string b5) (.string b6) (.slice a7 m7.length c7) (.slice a8 m8.length c8)
  have hBF := below_set9 st.bel (g := W.heap.size) (Nat.le_of_lt hlt) (.int .i64 (v0 : Int)) (.string b1) (.string b2) (.int .u64 (v3 : Int)) (.int .u64 (v4 : Int)) (.string b5) (.string b6) (.slice a7 m7.length c7) (.slice a8 m8.length c8)
  have hSF := (st.rows (a7, m7) (by simp)).set9 (g := W.heap.size) (by omega) (.int .i64 (v0 : Int)) (.string b1) (.string b2) (.int .u64 (v3 : Int)) (.int .u64 (v4 : Int)) (.string b5) (.string b6) (.slice a7 m7.length c7) (.slice a8 m8.length c8)
  have hTF := (st.rows (a8, m8) (by simp)).set9 (g := W.heap.size) (by omega) (.int .i64 (v0 : Int)) (.string b1) (.string b2) (.int .u64 (v3 : Int)) (.int .u64 (v4 : Int)) (.string b5) (.string b6) (.slice a7 m7.length c7) (.slice a8 m8.length c8)
  unfold set9 at hF hBF hSF hTF
  refine bodyPost_ret (v := txV ⟨(v0 : Int), b1, b2, v3, v4, b5, b6, m7, m8⟩ a7 c7 a8 c8) ?x1 ?x2 ?x3
  case x1 => exact results_tx rfl _ _ W.heap.size 33 ⟨(v0 : Int), b1, b2, v3, v4, b5, b6, m7, m8⟩ _ _ _ _ rfl hF
  case x2 => rfl
  rw [H.out]
  exact Or.inl ⟨rfl, a7, c7, a8, c8, rfl, hSF.mono (by omega), hTF.mono (by omega), nn7, nn8, hBF⟩
end Go.Proofs.Ytibfnefdpbdkoaa
