/- Texts as one: ReadMath, BatchMath, BatCheck, HeaderMath, QueueStep, Kinds. -/
import Derived.Test.YtmngiekobmhpaaaGreatRk05
import Derived.Test.YtmngiekobmhpaaaGreatRk03
import Derived.Test.YtmngiekobmhpaaaGreatRk04
import Derived.Deep.AppendLies
import Derived.Deep.RegionLaw
/- Reading field by field, whatever is read: the first error, or what follows. -/
namespace Go.Proofs.YtmngiekobmhpaaaGreat
open Go.RowKit
set_option linter.unusedVariables false

/-- A transaction out of bytes, as what is read or the error. -/
def decE (l : List UInt8) : Except Nat TxD := if (decL l).2 ≠ 0 then .error (decL l).2 else .ok (decL l).1

theorem decE_ok {l : List UInt8} {d : TxD} (h : decE l = .ok d) : decL l = (d, 0) := by
  unfold decE at h
  by_cases he : (decL l).2 ≠ 0
  · rw [if_pos he] at h; cases h
  · rw [if_neg he] at h
    simp only [Except.ok.injEq] at h
    have h0 : (decL l).2 = 0 := by omega
    rw [← h, ← h0]
end Go.Proofs.YtmngiekobmhpaaaGreat

/- Layer 5's mathematics: when a batch is right, its bytes, both ways round. -/
namespace Go.Proofs.YtmngiekobmhpaaaGreat
open Go.RowKit
set_option linter.unusedVariables false

/-- A batch. -/
structure BatD where
  author : Int
  number : Int
  txs : List TxD

/-- The first error of transactions. -/
def firstE : List TxD → Nat
  | [] => 0
  | d :: r => if checkL d ≠ 0 then checkL d else firstE r

def checkB (b : BatD) : Nat :=
  if b.author < 0 ∨ 6 < b.author ∨ b.number < 1 ∨ 4611686018427387903 < b.number then 2 else if b.txs.length = 0 then 12 else if 16 < b.txs.length then 8 else firstE b.txs

/-- A right batch's bytes. -/
def encBat (b : BatD) : List UInt8 := goInt b.author ++ goInt b.number ++ lst (b.txs.map encL)

def finBat (b : BatD) (l : List UInt8) : Except Nat BatD :=
  if l ≠ [] then .error 6 else if 6 < b.author then .error 2 else if checkB b ≠ 0 then .error (checkB b) else .ok b

/-- A batch out of bytes, or the first error. -/
def decBat (l : List UInt8) : Except Nat BatD :=
  rdI l fun a l => rdI l fun n l => rdL 16 l fun ms l => match eachE decE ms with
    | .error e => .error e
    | .ok ts => finBat ⟨(a : Int), (n : Int), ts⟩ l

theorem firstE_zero : ∀ (l : List TxD), firstE l = 0 → ∀ d ∈ l, checkL d = 0
  | [], _ => by simp
  | d :: r, h => by
    rw [firstE] at h
    by_cases h1 : checkL d ≠ 0
    · rw [if_pos h1] at h; exact absurd h h1
    rw [if_neg h1] at h
    intro x hx
    rw [List.mem_cons] at hx
    rcases hx with rfl | hx
    · omega
    · exact firstE_zero r h x hx

theorem checkB_zero {b : BatD} (h : checkB b = 0) : 0 ≤ b.author ∧ b.author ≤ 6 ∧ 1 ≤ b.number ∧ b.number ≤ 4611686018427387903 ∧ 1 ≤ b.txs.length ∧ b.txs.length ≤ 16 ∧ ∀ d ∈ b.txs, checkL d = 0 := by
  unfold checkB at h
  by_cases h1 : b.author < 0 ∨ 6 < b.author ∨ b.number < 1 ∨ 4611686018427387903 < b.number
  · rw [if_pos h1] at h; omega
  rw [if_neg h1] at h
  by_cases h2 : b.txs.length = 0
  · rw [if_pos h2] at h; omega
  rw [if_neg h2] at h
  by_cases h3 : 16 < b.txs.length
  · rw [if_pos h3] at h; omega
  rw [if_neg h3] at h
  exact ⟨by omega, by omega, by omega, by omega, by omega, by omega, firstE_zero _ h⟩

/-- Bytes that are read are written as they were. -/
theorem encBat_dec {l : List UInt8} {b : BatD} (h : decBat l = .ok b) : checkB b = 0 ∧ encBat b = l := by
  unfold decBat at h
  obtain ⟨v0, r0, e0, b0, h⟩ := rdI_back h
  obtain ⟨v1, r1, e1, b1, h⟩ := rdI_back h
  obtain ⟨v2, r2, e2, _, _, h⟩ := rdL_back h
  cases hm : eachE decE v2 with
  | error e => rw [hm] at h; cases h
  | ok ts =>
    rw [hm] at h
    simp only at h
    unfold finBat at h
    by_cases h1 : r2 ≠ []
    · rw [if_pos h1] at h; cases h
    rw [if_neg h1] at h
    split at h
    · cases h
    by_cases h3 : checkB ⟨(v0 : Int), (v1 : Int), ts⟩ ≠ 0
    · rw [if_pos h3] at h; cases h
    rw [if_neg h3] at h
    simp only [Except.ok.injEq] at h
    subst h
    have h1' : r2 = [] := by simpa using h1
    have hb := eachE_back (g := encL) (fun b a hba => (enc_dec (decE_ok hba)).2) v2 ts hm
    refine ⟨by omega, ?_⟩
    unfold encBat
    simp only
    rw [hb, e0, e1, e2, h1', goInt_nat v0 b0, goInt_nat v1 b1]
    simp [List.append_assoc]
end Go.Proofs.YtmngiekobmhpaaaGreat

/- What batch.Check does; nothing old in memory is turned. -/
namespace Go.Proofs.YtmngiekobmhpaaaGreat
open Go.RowKit
set_option linter.unusedVariables false

/-- The data of a row. -/
def dl (l : List TxM) : List TxD := l.map TxM.d

theorem dl_length (l : List TxM) : (dl l).length = l.length := by simp [dl]

/-- A batch's cells. -/
def batC (a n : Int) (ao : Option Addr) (len cap : Nat) : List Value := [.int .i64 a, .int .i64 n, .slice ao len cap]

theorem firstE_drop (l : List TxM) (k : Nat) (x : TxM) (hx : l[k]? = some x) : firstE (dl (l.drop k)) = if checkL x.d ≠ 0 then checkL x.d else firstE (dl (l.drop (k + 1))) := by
  have hk := (List.getElem?_eq_some_iff.1 hx).1
  have hd : l.drop k = l[k] :: l.drop (k + 1) := List.drop_eq_getElem_cons hk
  have he : l[k] = x := (List.getElem?_eq_some_iff.1 hx).2
  rw [hd, he, dl, List.map_cons, firstE]
  rfl

set_option maxRecDepth 100000 in
theorem isAuthor_any (n : Int) (w : World) : Calls Tryz.prog 110 #[.int .i64 n] w fun e w' => e = .returned (.bool (decide (0 ≤ n) && decide (n ≤ 6))) ∧ w' = w := by
  by_cases h0 : 0 ≤ n
  · by_cases h1 : n ≤ 6
    · rw [decide_eq_true h0, decide_eq_true h1]
      go_enter Tryz.func110, Tryz.ntmps110
      go_wp2
      go_ret
      exact ⟨rfl, rfl⟩
    · rw [decide_eq_true h0, decide_eq_false h1]
      have d1 : decide (n ≤ 6) = false := decide_eq_false h1
      go_enter Tryz.func110, Tryz.ntmps110
      go_wp2
      go_ret
      exact ⟨rfl, rfl⟩
  · rw [decide_eq_false h0]
    have d0 : decide (0 ≤ n) = false := decide_eq_false h0
    go_enter Tryz.func110, Tryz.ntmps110
    go_wp2
    go_ret
    exact ⟨rfl, rfl⟩

set_option maxRecDepth 100000 in
set_option maxHeartbeats 1000000 in
theorem batCheck_any (a n : Int) (ao : Option Addr) (l : List TxM) (cap : Nat) (w : World) (hA : TxsAt w ao l) :
    Calls Tryz.prog 86 #[batV a n ao l.length cap] w fun e w' => e = .returned (.int .i64 (checkB ⟨a, n, dl l⟩ : Int)) ∧ Below w.heap.size w w' := by
  have hX : Arr _ _ _ (batC a n ao l.length cap) := Arr.new w 26 (batC a n ao l.length cap)
  have hB := belowNew w (.cells (batC a n ao l.length cap).toArray 26)
  have x0 := hX.cell (i := 0) rfl
  have x1 := hX.cell (i := 1) rfl
  have x2 := hX.cell (i := 2) rfl
  have cA := isAuthor_any a
  have hdl := dl_length l
  have bad : ∀ {P : Prop}, (a < 0 ∨ 6 < a ∨ n < 1 ∨ 4611686018427387903 < n) → Hid (checkB ⟨a, n, dl l⟩ = 2) := fun h => (if_pos h : _ = _)
  unfold batV
  by_cases h0 : a < 0 ∨ 6 < a
  · have H := bad (P := True) (by omega)
    have d0 : (decide (0 ≤ a) && decide (a ≤ 6)) = false := by rw [Bool.and_eq_false_iff, decide_eq_false_iff_not, decide_eq_false_iff_not]; omega
    rw [d0] at cA
    go_enter Tryz.func86, Tryz.ntmps86
    go_wp2_with fail
    refine (cA _).mono ?_
    rintro e w1 ⟨rfl, rfl⟩
    go_wp2
    go_ret
    exact ⟨by rw [H.out]; rfl, hB⟩
  have d0 : (decide (0 ≤ a) && decide (a ≤ 6)) = true := by rw [Bool.and_eq_true, decide_eq_true_eq, decide_eq_true_eq]; omega
  rw [d0] at cA
  by_cases h1 : n < 1
  · have H := bad (P := True) (by omega)
    go_enter Tryz.func86, Tryz.ntmps86
    go_wp2_with fail
    refine (cA _).mono ?_
    rintro e w1 ⟨rfl, rfl⟩
    go_wp2
    go_ret
    exact ⟨by rw [H.out]; rfl, hB⟩
  have d1 : decide (n < 1) = false := decide_eq_false h1
  by_cases h2 : 4611686018427387903 < n
  · have H := bad (P := True) (by omega)
    go_enter Tryz.func86, Tryz.ntmps86
    go_wp2_with fail
    refine (cA _).mono ?_
    rintro e w1 ⟨rfl, rfl⟩
    go_wp2
    go_ret
    exact ⟨by rw [H.out]; rfl, hB⟩
  have d2 : decide (4611686018427387903 < n) = false := decide_eq_false h2
  have H0 : checkB ⟨a, n, dl l⟩ = _ := if_neg (show ¬ (a < 0 ∨ 6 < a ∨ n < 1 ∨ 4611686018427387903 < n) by omega)
  clear bad
  by_cases h3 : l.length = 0
  · have H : Hid (checkB ⟨a, n, dl l⟩ = 12) := (H0.trans (if_pos (by show (dl l).length = 0; omega)) : _ = _)
    have hn : l = [] := List.eq_nil_of_length_eq_zero h3
    clear H0
    subst hn
    go_enter Tryz.func86, Tryz.ntmps86
    go_wp2_with fail
    refine (cA _).mono ?_
    rintro e w1 ⟨rfl, rfl⟩
    go_wp2
    go_ret
    exact ⟨by rw [H.out]; rfl, hB⟩
  have e3 : ((l.length : Int) == 0) = false := beq_eq_false_iff_ne.2 (by omega)
  replace H0 := H0.trans (if_neg (by show ¬ (dl l).length = 0; omega))
  by_cases h4 : 16 < l.length
  · have H : Hid (checkB ⟨a, n, dl l⟩ = 8) := (H0.trans (if_pos (by show 16 < (dl l).length; omega)) : _ = _)
    have e4 : (16 : Int) < l.length := by omega
    clear H0
    go_enter Tryz.func86, Tryz.ntmps86
    go_wp2_with fail
    refine (cA _).mono ?_
    rintro e w1 ⟨rfl, rfl⟩
    go_wp2
    go_ret
    exact ⟨by rw [H.out]; rfl, hB⟩
  have e4 : decide ((16 : Int) < l.length) = false := decide_eq_false (by omega)
  have H : Hid (checkB ⟨a, n, dl l⟩ = firstE (dl l)) := (H0.trans (if_neg (by show ¬ 16 < (dl l).length; omega)) : _ = _)
  have e5 : l.length ≤ 16 := by omega
  clear H0 h3 h4 h0 h1 h2
  go_enter Tryz.func86, Tryz.ntmps86
  go_wp2_with fail
  refine (cA _).mono ?_
  rintro e w1 ⟨rfl, rfl⟩
  clear cA
  go_wp2
  go_loopw [4, 5, 31] (fun v4 v5 v31 wr => ∃ k : Nat, k ≤ l.length ∧ v31 = .int .i64 (k : Int) ∧ Hid (checkB ⟨a, n, dl l⟩ = firstE (dl (l.drop k))) ∧ Below w.heap.size w wr) (fun _ _ v _ => l.length - (intOf v).toNat)
  case atStart => exact ⟨0, Nat.zero_le _, rfl, H, hB⟩
  case round =>
    obtain ⟨k, hk, rfl, hK, hb⟩ := hrel
    clear H hB hX x0 x1 x2
    by_cases hlt : k < l.length
    · obtain ⟨x, hx⟩ : ∃ x, l[k]? = some x := ⟨l[k], List.getElem?_eq_getElem hlt⟩
      obtain ⟨b, off, rfl, hbl, y0, y1, y2, y3, y4, y5, y6, y7, y8⟩ := (hA.below hb).cells hx
      have hAt := (hA k x hx).2.below hb
      have hstep := hK.out.trans (firstE_drop l k x hx)
      have cC := fun w1 (h : TxAt w1 x.d x.ra x.wa) => check_any x.d x.ra x.rc x.wa x.wc w1 h
      clear hK hx
      have hAt2 := hAt.below (belowNew wr (.cells x.c.toArray 123))
      have hb2 := hb.alloc hb.size (.cells x.c.toArray 123)
      go_wp2_with fail
      refine (cC _ hAt2.at_).mono ?_
      rintro e w2 ⟨rfl, hb3⟩
      have hb4 := hb2.trans (hb3.mono hb2.size)
      clear hb2 hb3 hAt2 hAt cC y0 y1 y2 y3 y4 y5 y6 y7 y8
      by_cases hc : checkL x.d ≠ 0
      · have H : Hid (checkB ⟨a, n, dl l⟩ = checkL x.d) := (hstep.trans (if_pos hc) : _ = _)
        have hc2 : ((checkL x.d : Int) != 0) = true := by rw [bne_iff_ne]; omega
        clear hstep
        go_wp2
        go_ret
        exact ⟨by rw [H.out]; rfl, hb4⟩
      · have H : Hid (checkB ⟨a, n, dl l⟩ = firstE (dl (l.drop (k + 1)))) := (hstep.trans (if_neg hc) : _ = _)
        have hc2 : checkL x.d = 0 := by omega
        clear hstep hc
        go_wp2
        go_roundw
        case rel => exact ⟨k + 1, by omega, by go_num, H, hb4⟩
        case measure => simp [intOf]; omega
    · have H : Hid (checkB ⟨a, n, dl l⟩ = 0) := by show _ = _; rw [hK.out, List.drop_of_length_le (by omega)]; rfl
      clear hK
      go_wp2
      go_ret
      exact ⟨by rw [H.out]; rfl, hb⟩
end Go.Proofs.YtmngiekobmhpaaaGreat

/- Layer 6's mathematics: tags' bytes and a header's, both ways round; when a header is right. -/
namespace Go.Proofs.YtmngiekobmhpaaaGreat
open Go.RowKit
set_option linter.unusedVariables false

/-- A tag. -/
structure TagD where
  who : Int
  mac : ByteArray

def tagB (t : TagD) : List UInt8 := goInt t.who ++ t.mac.data.toList
def tagsB (l : List TagD) : List UInt8 := lst (l.map tagB)

/-- A tag that can be read. -/
structure TagD.Fit (t : TagD) : Prop where
  lo : 0 ≤ t.who
  hi : t.who ≤ 6
  mac : t.mac.size = 16

def getTag (m : List UInt8) : Except Nat TagD :=
  rdI m fun n r => if 6 < n then .error 2 else if r.length ≠ 16 then .error 3 else .ok ⟨(n : Int), ⟨r.toArray⟩⟩

theorem getTag_tag {t : TagD} (h : t.Fit) : getTag (tagB t) = .ok t := by
  obtain ⟨who, mac⟩ := t
  obtain ⟨n, rfl⟩ := Int.eq_ofNat_of_zero_le h.lo
  have hn : n ≤ 6 := by have := h.hi; simp only at this; omega
  have hm : mac.data.toList.length = 16 := by have := h.mac; simpa using this
  unfold getTag tagB
  simp only
  rw [goInt_nat n (by omega), rdI_enc n _ (by omega), if_neg (by omega), if_neg (by rw [hm]; simp), mk_list]

theorem getTag_back {m : List UInt8} {t : TagD} (h : getTag m = .ok t) : tagB t = m ∧ t.Fit := by
  unfold getTag at h
  obtain ⟨n, r, e, hn, h⟩ := rdI_back h
  split at h
  · cases h
  split at h
  · cases h
  rename_i h1 h2
  simp only [Except.ok.injEq] at h
  subst h
  have hr : r.length = 16 := by omega
  refine ⟨?_, by show (0 : Int) ≤ n; omega, by show (n : Int) ≤ 6; omega, by show (⟨r.toArray⟩ : ByteArray).size = 16; rw [size_mk]; exact hr⟩
  unfold tagB
  simp only
  rw [goInt_nat n hn, e]

theorem tagB_len {t : TagD} (h : t.Fit) : (tagB t).length ≤ 25 := by
  have := goInt_length t.who
  have h2 : t.mac.data.toList.length = 16 := by have := h.mac; simpa using this
  unfold tagB
  rw [List.length_append]
  omega

/-- The tags at the front of bytes, in how many, and the error. -/
def getTagsL (l : List UInt8) : List TagD × Nat × Nat :=
  if (getList l 7).2.2 ≠ 0 then ([], 0, (getList l 7).2.2) else match eachE getTag (getList l 7).1 with
    | .error e => ([], 0, e)
    | .ok ts => (ts, (getList l 7).2.1, 0)

theorem getTag_err {m : List UInt8} {e : Nat} (h : getTag m = .error e) : e ≠ 0 := by
  unfold getTag at h
  rcases hg : getInt m with ⟨n, k, er⟩
  by_cases he : er = 0
  · subst he
    rw [rdI_ok hg] at h
    split at h
    · simp only [Except.error.injEq] at h; omega
    split at h
    · simp only [Except.error.injEq] at h; omega
    cases h
  · rw [rdI_err hg he] at h
    simp only [Except.error.injEq] at h
    omega

theorem getTags_tags {l : List TagD} (r : List UInt8) (h : ∀ t ∈ l, t.Fit) (hl : l.length ≤ 7) : getTagsL (tagsB l ++ r) = (l, (tagsB l).length, 0) := by
  have hg : getList (tagsB l ++ r) 7 = (l.map tagB, (lst (l.map tagB)).length, 0) := getList_lst (l.map tagB) r 7 (by
    intro t ht
    obtain ⟨x, hx, rfl⟩ := List.mem_map.1 ht
    have := tagB_len (h x hx)
    omega) (by rw [List.length_map]; omega) (by rw [List.length_map]; omega)
  unfold getTagsL
  rw [hg, if_neg (by simp), eachE_map l (fun t ht => getTag_tag (h t ht))]
  rfl

theorem getTags_back {l : List UInt8} {ts : List TagD} {k : Nat} (h : getTagsL l = (ts, k, 0)) : l.take k = tagsB ts ∧ k = (tagsB ts).length ∧ k ≤ l.length ∧ ts.length ≤ 7 ∧ ∀ t ∈ ts, t.Fit := by
  rcases hg : getList l 7 with ⟨ms, j, e⟩
  unfold getTagsL at h
  rw [hg] at h
  by_cases he : e ≠ 0
  · rw [if_pos he] at h
    simp only [Prod.mk.injEq] at h
    exact absurd h.2.2 he
  rw [if_neg he] at h
  have he0 : e = 0 := by omega
  subst he0
  cases hm : eachE getTag ms with
  | error er =>
    rw [hm] at h
    simp only [Prod.mk.injEq] at h
    exact absurd h.2.2 (eachE_err (fun b e => getTag_err) ms er hm)
  | ok xs =>
    rw [hm] at h
    simp only [Prod.mk.injEq] at h
    obtain ⟨rfl, rfl, _⟩ := h
    obtain ⟨b1, b2, b3, b4, _⟩ := getList_back hg
    have hb := eachE_back (g := tagB) (fun b a hba => (getTag_back hba).1) ms xs hm
    have hf := eachE_all (p := TagD.Fit) (fun b a hba => (getTag_back hba).2) ms xs hm
    have hlen : xs.length = ms.length := by rw [← hb, List.length_map]
    unfold tagsB
    rw [hb]
    exact ⟨b1, b2, b3, by omega, hf⟩

section
variable {α : Type}

def rdG (l : List UInt8) (f : List TagD → List UInt8 → Except Nat α) : Except Nat α := if (getTagsL l).2.2 ≠ 0 then .error (getTagsL l).2.2 else f (getTagsL l).1 (l.drop (getTagsL l).2.1)

theorem rdG_ok {l : List UInt8} {f : List TagD → List UInt8 → Except Nat α} {t : List TagD} {k : Nat} (h : getTagsL l = (t, k, 0)) : rdG l f = f t (l.drop k) := by
  unfold rdG; rw [h]; rfl
theorem rdG_err {l : List UInt8} {f : List TagD → List UInt8 → Except Nat α} {t : List TagD} {k er : Nat} (h : getTagsL l = (t, k, er)) (he : er ≠ 0) : rdG l f = .error er := by
  unfold rdG; rw [h, if_pos he]
theorem rdG_tags {f : List TagD → List UInt8 → Except Nat α} (t : List TagD) (r : List UInt8) (h : ∀ x ∈ t, x.Fit) (hl : t.length ≤ 7) : rdG (tagsB t ++ r) f = f t r := by
  rw [rdG_ok (getTags_tags r h hl), List.drop_left]
theorem rdG_back {l : List UInt8} {f : List TagD → List UInt8 → Except Nat α} {d : α} (h : rdG l f = .ok d) : ∃ t r, l = tagsB t ++ r ∧ t.length ≤ 7 ∧ (∀ x ∈ t, x.Fit) ∧ f t r = .ok d := by
  rcases hg : getTagsL l with ⟨t, k, e⟩
  by_cases he : e = 0
  · subst he
    rw [rdG_ok hg] at h
    obtain ⟨b1, _, _, b4, b5⟩ := getTags_back hg
    exact ⟨t, l.drop k, by rw [← b1, List.take_append_drop], b4, b5, h⟩
  · rw [rdG_err hg he] at h
    cases h
end

/-- A Ref. -/
structure RefD where
  digest : ByteArray
  acks : List TagD

def refB (r : RefD) : List UInt8 := txt r.digest.data.toList ++ tagsB r.acks

/-- A Ref that can be read. -/
structure RefD.Fit (r : RefD) : Prop where
  dig : r.digest.size ≤ 65536
  few : r.acks.length ≤ 7
  all : ∀ t ∈ r.acks, t.Fit

section
variable {α : Type}

def rdRefs : Nat → List UInt8 → (List RefD → List UInt8 → Except Nat α) → Except Nat α
  | 0, l, f => f [] l
  | n + 1, l, f => rdT l fun d l => rdG l fun ts l => rdRefs n l fun rs l => f (⟨⟨d.toArray⟩, ts⟩ :: rs) l

theorem rdRefs_back : ∀ (n : Nat) (l : List UInt8) (f : List RefD → List UInt8 → Except Nat α) (d : α), rdRefs n l f = .ok d → ∃ rs r, l = rs.flatMap refB ++ r ∧ rs.length = n ∧ (∀ x ∈ rs, x.Fit) ∧ f rs r = .ok d
  | 0, l, f, d, h => ⟨[], l, rfl, rfl, by simp, h⟩
  | n + 1, l, f, d, h => by
    rw [rdRefs] at h
    obtain ⟨t, r1, e1, b1, h⟩ := rdT_back h
    obtain ⟨g, r2, e2, b2, b3, h⟩ := rdG_back h
    obtain ⟨rs, r3, e3, b4, b5, h⟩ := rdRefs_back n r2 _ d h
    refine ⟨⟨⟨t.toArray⟩, g⟩ :: rs, r3, ?_, by rw [List.length_cons, b4], ?_, h⟩
    · rw [List.flatMap_cons, refB, e1, e2, e3]
      simp only [List.append_assoc]
    · intro x hx
      rw [List.mem_cons] at hx
      rcases hx with rfl | hx
      · exact ⟨by rw [size_mk]; exact b1, b2, b3⟩
      · exact b5 x hx
end

/-- A header. -/
structure HdrD where
  author : Int
  round : Int
  refs : List RefD
  parents : List ByteArray

def encH (h : HdrD) : List UInt8 := goInt h.author ++ goInt h.round ++ goInt (h.refs.length : Int) ++ h.refs.flatMap refB ++ lst (bl h.parents)

/-- A header from the front of bytes, and what is left. -/
def rdH {α : Type} (l : List UInt8) (f : HdrD → List UInt8 → Except Nat α) : Except Nat α :=
  rdI l fun a l => rdI l fun r l => rdI l fun n l => if 4 < n then .error 8 else rdRefs n l fun rs l => rdL 7 l fun ps l => f ⟨(a : Int), (r : Int), rs, mks ps⟩ l

def decH (l : List UInt8) : Except Nat HdrD := rdH l fun h l => if l ≠ [] then .error 6 else if 6 < h.author then .error 2 else .ok h

/-- A header that can be read. -/
structure HdrD.Fit (h : HdrD) : Prop where
  a0 : 0 ≤ h.author
  a6 : h.author ≤ 6
  r0 : 0 ≤ h.round
  rM : h.round ≤ 4611686018427387903
  few : h.refs.length ≤ 4
  refs : ∀ x ∈ h.refs, x.Fit
  ps : h.parents.length ≤ 7
  pz : ∀ p ∈ h.parents, p.size ≤ 65536

theorem rdH_back {α : Type} {l : List UInt8} {f : HdrD → List UInt8 → Except Nat α} {d : α} (h : rdH l f = .ok d) : ∃ x r, l = encH x ++ r ∧ (0 ≤ x.author ∧ 0 ≤ x.round ∧ x.round ≤ 4611686018427387903 ∧ x.refs.length ≤ 4 ∧ (∀ y ∈ x.refs, y.Fit) ∧ x.parents.length ≤ 7 ∧ ∀ p ∈ x.parents, p.size ≤ 65536) ∧ f x r = .ok d := by
  unfold rdH at h
  obtain ⟨a, r0, e0, b0, h⟩ := rdI_back h
  obtain ⟨n, r1, e1, b1, h⟩ := rdI_back h
  obtain ⟨m, r2, e2, b2, h⟩ := rdI_back h
  split at h
  · cases h
  rename_i hm
  obtain ⟨rs, r3, e3, b3, b4, h⟩ := rdRefs_back m r2 _ d h
  obtain ⟨ps, r4, e4, b5, b6, h⟩ := rdL_back h
  refine ⟨_, r4, ?_, ⟨by show (0 : Int) ≤ a; omega, by show (0 : Int) ≤ n; omega, by show (n : Int) ≤ _; omega, by show rs.length ≤ 4; omega, b4, by show (mks ps).length ≤ 7; simp [mks]; omega, ?_⟩, h⟩
  · unfold encH
    simp only [bl_mks]
    rw [b3, goInt_nat a b0, goInt_nat n b1, goInt_nat m b2, e0, e1, e2, e3, e4]
    simp only [List.append_assoc]
  · intro p hp
    obtain ⟨t, ht, rfl⟩ := List.mem_map.1 hp
    rw [size_mk]
    exact b6 t ht

/-- Bytes that are read are written as they were. -/
theorem encH_dec {l : List UInt8} {h : HdrD} (hd : decH l = .ok h) : encH h = l ∧ h.Fit := by
  unfold decH at hd
  obtain ⟨x, r, e, ⟨b0, b1, b2, b3, b4, b5, b6⟩, hd⟩ := rdH_back hd
  split at hd
  · cases hd
  split at hd
  · cases hd
  rename_i h1 h2
  simp only [Except.ok.injEq] at hd
  subst hd
  have hr : r = [] := by simpa using h1
  subst hr
  exact ⟨by rw [e, List.append_nil], b0, by omega, b1, b2, b3, b4, b5, b6⟩

/-- Texts of 32 bytes, strictly rising, behind one (none ahead of the first: nothing is below every text of 32 bytes). -/
def risingGo : Option ByteArray → List ByteArray → Nat
  | _, [] => 0
  | a, k :: r => if k.size ≠ 32 then 3 else if (match a with | none => false | some x => Op.bytesLess k.toList x.toList || k.toList == x.toList) = true then 9 else risingGo (some k) r

def risingL (l : List ByteArray) : Nat := risingGo none l

/-- Refs: size, order, enough. en: what is wrong with tags of a word. -/
def refsGo (en : List TagD → ByteArray → Nat) : Option ByteArray → List RefD → Nat
  | _, [] => 0
  | a, x :: r => if x.digest.size ≠ 32 then 3 else if (match a with | none => false | some y => Op.bytesLess x.digest.toList y.toList || x.digest.toList == y.toList) = true then 9 else if en x.acks x.digest ≠ 0 then en x.acks x.digest else refsGo en (some x.digest) r

/-- What is wrong with a header, n validators, need of them enough. -/
def checkH (n need : Nat) (en : List TagD → ByteArray → Nat) (h : HdrD) : Nat :=
  if h.author < 0 ∨ (n : Int) ≤ h.author ∨ h.round < 1 ∨ 4611686018427387903 < h.round then 2 else if 4 < h.refs.length then 8 else if refsGo en none h.refs ≠ 0 then refsGo en none h.refs
  else if risingL h.parents ≠ 0 then risingL h.parents else if h.round = 1 ∧ 0 < h.parents.length then 3 else if 1 < h.round ∧ h.parents.length < need then 12 else if n < h.parents.length then 8 else 0
end Go.Proofs.YtmngiekobmhpaaaGreat

/- append onto a row that is cut in front: at a step of a region that draws its order. -/
namespace Go.Proofs.YtmngiekobmhpaaaGreat
open Go.RowKit
set_option linter.unusedVariables false

theorem run_append_q {P : Program} (w : World) (t ty e : TypeId) (i : TypeInfo) (z : Value) (size bytes : Nat) (ht : P.underlying t = some (.slice e)) (hi : P.info? e = some i) (hz : i.zero = some z)
    (hsize : i.size = size) (hby : i.bytes = bytes) (hzs : z.cells.size = size) (hsz : 0 < size) (base : Nat) (v : Value) (n : Nat) (xs : List Value) (hq : QRow w base e size v n xs)
    (ad : Addr) (m c : Nat) (news : List Value) (hm : 0 < m) (hl : news.length = m * size) (hnews : ∀ j u, news[j]? = some u → w.cell? (ad.add j) = some u) (h1 : ∀ u ∈ news, u.oneCell' = true)
    (h63 : n + m ≤ maxLen) (hbytes : (n + m) * bytes ≤ 140737488355328) (hbase : base ≤ w.heap.size) :
    ∃ v' w', (Builtin.append_ #[t, t] ty #[v, .slice (some ad) m c]).run P w = .ok v' w' ∧ QRow w' base e size v' (n + m) (xs ++ news) ∧ w.grownBy w' v.ownBlock ∧ (∀ g, v'.ownBlock = some g → v.ownBlock = some g ∨ w.heap.size ≤ g) := by
  have hmono : ∀ {w' : World} {v' : Value}, w'.ownsRow w.heap.size e size v' (n + m) (xs ++ news) → QRow w' base e size v' (n + m) (xs ++ news) := by
    intro w' v' ho'
    refine QRow.of_own ⟨ho'.1, ho'.2.imp id fun ⟨g, cap, cur, q1, q2, q3⟩ => ⟨g, cap, cur, q1, Nat.le_trans hbase q2, q3⟩⟩
  have hfresh : ∀ {w' : World} {v' : Value}, w'.ownsRow w.heap.size e size v' (n + m) (xs ++ news) → ∀ g, v'.ownBlock = some g → v.ownBlock = some g ∨ w.heap.size ≤ g := by
    intro w' v' ho' g hg
    exact Or.inr (ho'.lt g hg).1
  have hgr : ∀ {w' : World} (r : Option Nat), w.grownBy w' none → w.grownBy w' r := fun r hg => ⟨hg.os, hg.tape, hg.output, hg.size, fun k hk _ => hg.block k hk (by simp)⟩
  rcases hq.2 with ⟨ao, rfl, rfl⟩ | ⟨g, pre, post, cap, rfl, hb, hg, hnc, hcm, hpl⟩
  · have hxs : xs = [] := List.eq_nil_of_length_eq_zero (by simpa using hq.1)
    subst hxs
    cases ao with
    | some b =>
      obtain ⟨v', w', hrun, r1, r2⟩ := run_append_arg_grows (P := P) w t ty e i z size bytes ht hi hz hsize hby hzs hsz b 0 0 [] (by simp) (fun j u hu => by simp at hu) ad m c news hl hnews (by omega) h63 hbytes
      exact ⟨v', w', hrun, hmono r1, hgr _ r2, hfresh r1⟩
    | none =>
      obtain ⟨v', w', hrun, r1, r2, _⟩ := run_append_own (P := P) w w.heap.size t ty e i z size bytes ht hi hz hsize hby hzs hsz (.slice none 0 0) 0 [] (World.ownsRow_nil w _ e size) ad m c news hl hnews h1 h63 hbytes (Nat.le_refl _)
      exact ⟨v', w', hrun, hmono r1, r2, hfresh r1⟩
  · have hcell : ∀ j u, xs[j]? = some u → w.cell? ⟨g, pre.length + j, none⟩ = some u := by
      intro j u hu
      refine hg.cell ?_
      have hj := (List.getElem?_eq_some_iff.1 hu).1
      rw [List.getElem?_append_left (by rw [List.length_append]; omega), List.getElem?_append_right (by omega), Nat.add_sub_cancel_left]
      exact hu
    by_cases hroom : n + m ≤ cap
    · have h2 : m * size ≤ (cap - n) * size := Nat.mul_le_mul_right _ (by omega)
      have hsp : ∀ j, j < news.length → (w.cell? ⟨g, pre.length + n * size + j, none⟩).isSome = true ∧ w.frozen? ⟨g, pre.length + n * size + j, none⟩ = false := by
        intro j hj
        have hlt : pre.length + n * size + j < (pre ++ xs ++ post).length := by
          rw [List.length_append, List.length_append, hq.1, hpl]
          omega
        exact ⟨by rw [hg.cell (List.getElem?_eq_getElem hlt)]; rfl, hg.frozen _⟩
      subst hsize
      have hrun := run_append_room_cells (P := P) w t ty e i ht hi g pre.length n cap ad m c news hl hnews h1 hroom (fun j hj => (hsp j hj).1) (fun j hj => (hsp j hj).2)
      have hA : Arr w g e ((pre ++ xs) ++ post.take news.length ++ post.drop news.length) := by
        rw [List.append_assoc (pre ++ xs), List.take_append_drop]
        exact hg
      have hA2 := Arr.setCells news w (pre ++ xs) (post.take news.length) (post.drop news.length) (by rw [List.length_take]; omega) hA
      have e1 : (pre ++ xs).length = pre.length + n * i.size := by rw [List.length_append, hq.1]
      rw [e1] at hA2
      refine ⟨_, _, hrun, ⟨by rw [List.length_append, hq.1, hl, Nat.add_mul], Or.inr ⟨g, pre, post.drop news.length, cap, rfl, hb, ?_, hroom, hcm, ?_⟩⟩, grown_setCells g news _ w, fun g' hg' => Or.inl hg'⟩
      · rw [← List.append_assoc pre]
        exact hA2
      · rw [List.length_drop, hpl, hl, ← Nat.sub_mul]
        congr 1
        omega
    · obtain ⟨v', w', hrun, r1, r2⟩ := run_append_arg_grows (P := P) w t ty e i z size bytes ht hi hz hsize hby hzs hsz ⟨g, pre.length, none⟩ n cap xs hq.1 (fun j u hj => by rw [Addr.add_lit]; exact hcell j u hj) ad m c news hl hnews (by omega) h63 hbytes
      exact ⟨v', w', hrun, hmono r1, hgr _ r2, hfresh r1⟩

theorem step_append_q {P : Program} (w : World) {ops : Array Oper} {o : Oper} {a : Act} {K : Act → World → Prop} {Q : Exit → Act → World → Prop} {E : Prop} (hgd : o.guard = none) (s x : Operand) (t : TypeId)
    (ho : o.op = .call { callee := .builtin .append, args := #[s, x], argTypes := #[t, t] })
    (e : TypeId) (i : TypeInfo) (z : Value) (size bytes : Nat) (ht : P.underlying t = some (.slice e)) (hi : P.info? e = some i) (hz : i.zero = some z)
    (hsize : i.size = size) (hby : i.bytes = bytes) (hzs : z.cells.size = size) (hsz : 0 < size)
    (base : Nat) (v : Value) (n : Nat) (xs : List Value) (hs : a.eval s = v) (hq : QRow w base e size v n xs)
    (ad : Addr) (m c : Nat) (news : List Value) (hx : a.eval x = .slice (some ad) m c) (hm : 0 < m) (hl : news.length = m * size) (hnews : ∀ j u, news[j]? = some u → w.cell? (ad.add j) = some u) (h1 : ∀ u ∈ news, u.oneCell' = true)
    (h63 : n + m ≤ maxLen) (hbytes : (n + m) * bytes ≤ 140737488355328) (hbase : base ≤ w.heap.size)
    (h : ∀ v' w', QRow w' base e size v' (n + m) (xs ++ news) → w.grownBy w' v.ownBlock → (∀ g, v'.ownBlock = some g → v.ownBlock = some g ∨ w.heap.size ≤ g) → K (a.put o.dst v') w') : if Region.wanted o (yielded ops a.tmps) = true then Oper.wp P o a w K Q else E := by
  rw [if_pos (by simp [Region.wanted, hgd])]
  obtain ⟨v', w', hrun, r1, r2, r3⟩ := run_append_q (P := P) w t o.type e i z size bytes ht hi hz hsize hby hzs hsz base v n xs hq ad m c news hm hl hnews h1 h63 hbytes hbase
  unfold Oper.wp
  simp [execOp, ho, resolve, invoke, builtin, hs, hx, hrun, Result.andThen]
  exact h v' w' r1 r2 r3
end Go.Proofs.YtmngiekobmhpaaaGreat

/- Rows of whatever elements in memory: where they lie, what they reach, how they are appended to. -/
namespace Go.Proofs.YtmngiekobmhpaaaGreat
open Go.RowKit
set_option linter.unusedVariables false

/-- A kind of elements: their cells, the blocks that they reach besides, and that all of it lies there. -/
structure Kind (α : Type) where
  n : Nat
  c : α → List Value
  foot : α → Nat → Prop
  At : World → α → Prop
  pos : 0 < n
  len : ∀ x, (c x).length = n
  one : ∀ x, ∀ u ∈ c x, u.oneCell' = true
  lt : ∀ {w x b}, At w x → foot x b → b < w.heap.size
  keep : ∀ {w w' x}, At w x → (∀ b, foot x b → w'.heap[b]? = w.heap[b]?) → At w' x

theorem cell_same {w w' : World} {b : Nat} (h : w'.heap[b]? = w.heap[b]?) (o : Nat) : w'.cell? ⟨b, o, none⟩ = w.cell? ⟨b, o, none⟩ := by
  simp only [World.cell?, h]

theorem lt_same {w w' : World} {b : Nat} (h : w'.heap[b]? = w.heap[b]?) (hb : b < w.heap.size) : b < w'.heap.size := by
  rw [Array.getElem?_eq_getElem hb] at h
  exact (Array.getElem?_eq_some_iff.1 h).1

section
variable {α : Type} (K : Kind α)

/-- Its cells, one element behind the other. -/
def flatK (l : List α) : List Value := l.flatMap K.c

theorem flatK_length (l : List α) : (flatK K l).length = l.length * K.n := by
  induction l with
  | nil => simp [flatK]
  | cons x r ih => simp only [flatK, List.flatMap_cons, List.length_append, K.len, List.length_cons] at ih ⊢; rw [ih, Nat.add_mul]; omega

theorem flatK_append (l m : List α) : flatK K (l ++ m) = flatK K l ++ flatK K m := by simp [flatK]

theorem flatK_single (x : α) : flatK K [x] = K.c x := by simp [flatK]

theorem flatK_get : ∀ (l : List α) (i : Nat) (x : α), l[i]? = some x → ∀ j, j < K.n → (flatK K l)[i * K.n + j]? = (K.c x)[j]?
  | [], _, _, h, _, _ => by simp at h
  | y :: r, 0, x, h, j, hj => by
    simp at h
    subst h
    have e : flatK K (y :: r) = K.c y ++ flatK K r := by simp [flatK]
    rw [e, List.getElem?_append_left (by rw [K.len]; omega), Nat.zero_mul, Nat.zero_add]
  | y :: r, i + 1, x, h, j, hj => by
    have h' : r[i]? = some x := by simpa using h
    have ih := flatK_get r i x h' j hj
    have e : flatK K (y :: r) = K.c y ++ flatK K r := by simp [flatK]
    rw [e, List.getElem?_append_right (by rw [K.len, Nat.add_mul]; omega), K.len]
    have : (i + 1) * K.n + j - K.n = i * K.n + j := by rw [Nat.add_mul]; omega
    rw [this]
    exact ih

theorem flatK_one (l : List α) : ∀ u ∈ flatK K l, u.oneCell' = true := by
  intro u hu
  obtain ⟨x, _, hx⟩ := List.mem_flatMap.1 hu
  exact K.one x u hx

/-- A row of elements lies at an address (of none: whatever the address). -/
structure RowAt (w : World) (ao : Option Addr) (l : List α) : Prop where
  cell : ∀ i x, l[i]? = some x → ∃ b off, ao = some ⟨b, off, none⟩ ∧ b < w.heap.size ∧ ∀ j v, (K.c x)[j]? = some v → w.cell? ⟨b, off + i * K.n + j, none⟩ = some v
  at_ : ∀ x ∈ l, K.At w x

/-- The blocks that a row reaches. -/
def rowFoot (ao : Option Addr) (l : List α) (b : Nat) : Prop := (l ≠ [] ∧ ∃ off, ao = some ⟨b, off, none⟩) ∨ ∃ x ∈ l, K.foot x b

variable {K}

theorem nil_row (w : World) (ao : Option Addr) : RowAt K w ao [] := ⟨fun i x hx => by simp at hx, fun x hx => by cases hx⟩

theorem nil_foot {ao : Option Addr} {b : Nat} (h : rowFoot K ao [] b) : False := by
  rcases h with ⟨h, _⟩ | ⟨x, hx, _⟩
  · exact h rfl
  · cases hx

theorem RowAt.lt {w : World} {ao : Option Addr} {l : List α} (h : RowAt K w ao l) {b : Nat} (hf : rowFoot K ao l b) : b < w.heap.size := by
  rcases hf with ⟨hl, off, rfl⟩ | ⟨x, hx, hf⟩
  · obtain ⟨x, r, rfl⟩ := List.exists_cons_of_ne_nil hl
    obtain ⟨b', off', e, hb, _⟩ := h.cell 0 x rfl
    simp at e
    omega
  · exact K.lt (h.at_ x hx) hf

theorem RowAt.keep {w w' : World} {ao : Option Addr} {l : List α} (h : RowAt K w ao l) (hk : ∀ b, rowFoot K ao l b → w'.heap[b]? = w.heap[b]?) : RowAt K w' ao l := by
  refine ⟨fun i x hx => ?_, fun x hx => K.keep (h.at_ x hx) (fun b hb => hk b (Or.inr ⟨x, hx, hb⟩))⟩
  obtain ⟨b, off, rfl, hb, hc⟩ := h.cell i x hx
  have e := hk b (Or.inl ⟨fun e => by rw [e] at hx; simp at hx, off, rfl⟩)
  exact ⟨b, off, rfl, lt_same e hb, fun j v hv => by rw [cell_same e]; exact hc j v hv⟩

theorem RowAt.below {w w' : World} {ao : Option Addr} {l : List α} (h : RowAt K w ao l) (hb : Below w.heap.size w w') : RowAt K w' ao l :=
  h.keep (fun b hf => hb.block b (h.lt hf))

theorem RowAt.kept {S : Nat → Prop} {w w' : World} {ao : Option Addr} {l : List α} (h : RowAt K w ao l) (hk : Kept S w w') (hn : ∀ b, rowFoot K ao l b → ¬ S b) : RowAt K w' ao l :=
  h.keep (fun b hf => hk.block b (h.lt hf) (hn b hf))

theorem Kind.below (K : Kind α) {w w' : World} {x : α} (h : K.At w x) (hb : Below w.heap.size w w') : K.At w' x := K.keep h (fun b hf => hb.block b (K.lt h hf))
theorem Kind.kept (K : Kind α) {S : Nat → Prop} {w w' : World} {x : α} (h : K.At w x) (hk : Kept S w w') (hn : ∀ b, K.foot x b → ¬ S b) : K.At w' x := K.keep h (fun b hf => hk.block b (K.lt h hf) (hn b hf))

theorem RowAt.take {w : World} {ao : Option Addr} {l : List α} (h : RowAt K w ao l) (n : Nat) : RowAt K w ao (l.take n) := by
  refine ⟨fun i x hx => h.cell i x ?_, fun x hx => h.at_ x (List.mem_of_mem_take hx)⟩
  rw [List.getElem?_take] at hx
  split at hx
  · exact hx
  · cases hx

/-- q is a row of the call's own that holds l. -/
structure KQ (K : Kind α) (T : TypeId) (w : World) (base : Nat) (q : Value) (l : List α) : Prop where
  row : QRow w base T K.n q l.length (flatK K l)
  at_ : ∀ x ∈ l, K.At w x
  off : ∀ x ∈ l, ∀ b, K.foot x b → q.ownBlock ≠ some b
  lt : ∀ k, q.ownBlock = some k → base ≤ k ∧ k < w.heap.size
  nil : ∀ n cap, q = .slice none n cap → cap = 0

theorem KQ.empty (K : Kind α) (T : TypeId) (w : World) (base : Nat) : KQ K T w base (.slice none 0 0) [] :=
  ⟨QRow.nil _ _ _ _ _, (fun x hx => by cases hx), (fun x hx => by cases hx), (fun k hk => by simp [Value.ownBlock] at hk), fun n cap e => by simp at e; exact e.2.symm⟩

theorem KQ.kept {T : TypeId} {S : Nat → Prop} {w w' : World} {base : Nat} {q : Value} {l : List α} (h : KQ K T w base q l) (hk : Kept S w w') (hq : ∀ k, q.ownBlock = some k → ¬ S k) (ho : ∀ x ∈ l, ∀ b, K.foot x b → ¬ S b) : KQ K T w' base q l :=
  ⟨h.row.kept hk hq, fun x hx => K.kept (h.at_ x hx) hk (ho x hx), h.off, fun k hq => ⟨(h.lt k hq).1, Nat.lt_of_lt_of_le (h.lt k hq).2 hk.size⟩, h.nil⟩

theorem KQ.below {T : TypeId} {w w' : World} {base : Nat} {q : Value} {l : List α} (h : KQ K T w base q l) (hb : Below w.heap.size w w') : KQ K T w' base q l :=
  h.kept (Kept.of_below (S := fun _ => False) hb) (fun _ _ h => h) (fun x _ _ _ h => h)

theorem QRow.rowAt {T : TypeId} {w : World} {base : Nat} {ao : Option Addr} {n cap : Nat} {l : List α} (h : QRow w base T K.n (.slice ao n cap) n (flatK K l)) (hn : n = l.length) (hA : ∀ x ∈ l, K.At w x) : RowAt K w ao l := by
  refine ⟨fun i x hx => ?_, hA⟩
  have hi := (List.getElem?_eq_some_iff.1 hx).1
  obtain ⟨g, off, cap', hv, hb, hlt, hc⟩ := h.cells (by omega)
  simp only [Value.slice.injEq, true_and] at hv
  refine ⟨g, off, hv.1, hlt, fun j v hj => ?_⟩
  have hj9 : j < K.n := by
    have := (List.getElem?_eq_some_iff.1 hj).1
    rw [K.len] at this
    exact this
  have := hc (i * K.n + j) v (by rw [flatK_get K l i x hx j hj9]; exact hj)
  rw [← Nat.add_assoc] at this
  exact this

theorem KQ.form {T : TypeId} {w : World} {base : Nat} {q : Value} {l : List α} (h : KQ K T w base q l) : ∃ ao cap, q = .slice ao l.length cap ∧ (ao = none → cap = 0) ∧ RowAt K w ao l := by
  obtain ⟨ao, cap, rfl, _, _⟩ := h.row.form
  exact ⟨ao, cap, rfl, fun e => h.nil _ _ (by rw [e]), h.row.rowAt rfl h.at_⟩

/-- Where a row of the call's own reaches. -/
theorem KQ.foot_ge {T : TypeId} {w : World} {base B : Nat} {ao : Option Addr} {n cap : Nat} {l : List α} (h : KQ K T w base (.slice ao n cap) l) (hB : B ≤ base) (hf : ∀ x ∈ l, ∀ b, K.foot x b → B ≤ b) : ∀ b, rowFoot K ao l b → B ≤ b := by
  intro b hb
  rcases hb with ⟨hl, off, rfl⟩ | ⟨x, hx, hf'⟩
  · have := (h.lt b rfl).1
    omega
  · exact hf x hx b hf'

/-- More is appended. -/
theorem KQ.push {T : TypeId} {w w' : World} {base : Nat} {q q' : Value} {l m : List α} (h : KQ K T w base q l) (hm : ∀ x ∈ m, K.At w x) (hmo : ∀ x ∈ m, ∀ b, K.foot x b → q.ownBlock ≠ some b) (h0 : 0 < m.length)
    (hrow : QRow w' base T K.n q' (l.length + m.length) (flatK K l ++ flatK K m)) (hgr : w.grownBy w' q.ownBlock) (hfr : ∀ g, q'.ownBlock = some g → q.ownBlock = some g ∨ w.heap.size ≤ g) : KQ K T w' base q' (l ++ m) := by
  have k6 := Kept.of_grown hgr
  have hoff : ∀ x, K.At w x → (∀ b, K.foot x b → q.ownBlock ≠ some b) → ∀ b, K.foot x b → q'.ownBlock ≠ some b := by
    intro x hx ho b hf e
    rcases hfr b e with h1 | h1
    · exact ho b hf h1
    · have := K.lt hx hf
      omega
  refine ⟨by rw [List.length_append, flatK_append]; exact hrow, ?_, ?_, ?_, ?_⟩
  · intro x hx
    rw [List.mem_append] at hx
    rcases hx with hx | hx
    · exact K.kept (h.at_ x hx) k6 (fun b hf e => h.off x hx b hf e)
    · exact K.kept (hm x hx) k6 (fun b hf e => hmo x hx b hf e)
  · intro x hx
    rw [List.mem_append] at hx
    rcases hx with hx | hx
    · exact hoff x (h.at_ x hx) (h.off x hx)
    · exact hoff x (hm x hx) (hmo x hx)
  · intro k hk
    rcases hrow.lt with hl | ⟨g, hg, hb, hl⟩
    · omega
    · rw [hk] at hg
      simp at hg
      subst hg
      exact ⟨hb, hl⟩
  · intro n cap e
    rcases hrow.2 with ⟨ao, hv, hn⟩ | ⟨g, pre, post, c, hv, _⟩
    · omega
    · rw [hv] at e
      cases e

/-- append(q, y). -/
theorem wpList_push {P : Program} {w : World} {ops : Array Oper} {rest : List Oper} {o : Oper} {a : Act} {Q : Exit → Act → World → Prop} (hgd : o.guard = none) (s x : Operand) (t : TypeId)
    (ho : o.op = .call { callee := .builtin .append, args := #[s, x], argTypes := #[t, t] })
    (base : Nat) (e : TypeId) (i : TypeInfo) (z : Value) (bytes : Nat) (ht : P.underlying t = some (.slice e)) (hi : P.info? e = some i) (hz : i.zero = some z)
    (hsize : i.size = K.n) (hby : i.bytes = bytes) (hzs : z.cells.size = K.n)
    (q : Value) (l : List α) (hs : a.eval s = q) (hq : KQ K e w base q l) (y : α) (hy : K.At w y) (hyo : ∀ b, K.foot y b → q.ownBlock ≠ some b)
    (ad : Addr) (c : Nat) (hx : a.eval x = .slice (some ad) 1 c) (hnews : ∀ j u, (K.c y)[j]? = some u → w.cell? (ad.add j) = some u)
    (h63 : l.length + 1 ≤ maxLen) (hbytes : (l.length + 1) * bytes ≤ 140737488355328) (hbase : base ≤ w.heap.size)
    (h : ∀ ao' cap' w', KQ K e w' base (.slice ao' (l.length + 1) cap') (l ++ [y]) → Kept (fun k => q.ownBlock = some k) w w' → wpList P ops Q rest (a.put o.dst (.slice ao' (l.length + 1) cap')) w') : wpList P ops Q (o :: rest) a w := by
  refine wpList_append_q hgd s x t ho base e i z K.n bytes ht hi hz hsize hby hzs K.pos q l.length (flatK K l) hs hq.row ad 1 c (K.c y) hx (by decide) (by rw [K.len]; omega) hnews (K.one y) h63 hbytes hbase ?_
  intro v' w' hrow hgr hfr
  obtain ⟨ao', cap', rfl, _, _⟩ := hrow.form
  refine h ao' cap' w' (hq.push (m := [y]) ?_ ?_ (by simp) (by rw [flatK_single]; exact hrow) hgr hfr) (Kept.of_grown hgr)
  · intro x hx; simp at hx; rw [hx]; exact hy
  · intro x hx; simp at hx; rw [hx]; exact hyo

/-- append(q, y), at a step of a region that draws its order. -/
theorem step_push {P : Program} (w : World) {ops : Array Oper} {o : Oper} {a : Act} {C : Act → World → Prop} {Q : Exit → Act → World → Prop} {E : Prop} (hgd : o.guard = none) (s x : Operand) (t : TypeId)
    (ho : o.op = .call { callee := .builtin .append, args := #[s, x], argTypes := #[t, t] })
    (base : Nat) (e : TypeId) (i : TypeInfo) (z : Value) (bytes : Nat) (ht : P.underlying t = some (.slice e)) (hi : P.info? e = some i) (hz : i.zero = some z)
    (hsize : i.size = K.n) (hby : i.bytes = bytes) (hzs : z.cells.size = K.n)
    (q : Value) (l : List α) (hs : a.eval s = q) (hq : KQ K e w base q l) (y : α) (hy : K.At w y) (hyo : ∀ b, K.foot y b → q.ownBlock ≠ some b)
    (ad : Addr) (c : Nat) (hx : a.eval x = .slice (some ad) 1 c) (hnews : ∀ j u, (K.c y)[j]? = some u → w.cell? (ad.add j) = some u)
    (h63 : l.length + 1 ≤ maxLen) (hbytes : (l.length + 1) * bytes ≤ 140737488355328) (hbase : base ≤ w.heap.size)
    (h : ∀ ao' cap' w', KQ K e w' base (.slice ao' (l.length + 1) cap') (l ++ [y]) → Kept (fun k => q.ownBlock = some k) w w' → C (a.put o.dst (.slice ao' (l.length + 1) cap')) w') : if Region.wanted o (yielded ops a.tmps) = true then Oper.wp P o a w C Q else E := by
  refine step_append_q w hgd s x t ho e i z K.n bytes ht hi hz hsize hby hzs K.pos base q l.length (flatK K l) hs hq.row ad 1 c (K.c y) hx (by decide) (by rw [K.len]; omega) hnews (K.one y) h63 hbytes hbase ?_
  intro v' w' hrow hgr hfr
  obtain ⟨ao', cap', rfl, _, _⟩ := hrow.form
  refine h ao' cap' w' (hq.push (m := [y]) ?_ ?_ (by simp) (by rw [flatK_single]; exact hrow) hgr hfr) (Kept.of_grown hgr)
  · intro x hx; simp at hx; rw [hx]; exact hy
  · intro x hx; simp at hx; rw [hx]; exact hyo

/-- The cells of a row that is copied. -/
theorem RowAt.news {w : World} {ad : Addr} {l : List α} (h : RowAt K w (some ad) l) : ∀ j u, (flatK K l)[j]? = some u → w.cell? (ad.add j) = some u := by
  intro j u hu
  have hj := (List.getElem?_eq_some_iff.1 hu).1
  rw [flatK_length] at hj
  have hi : j / K.n < l.length := (Nat.div_lt_iff_lt_mul K.pos).2 hj
  have hx : l[j / K.n]? = some l[j / K.n] := List.getElem?_eq_getElem hi
  obtain ⟨b, off, e, hb, hc⟩ := h.cell _ _ hx
  simp at e
  subst e
  have hg := flatK_get K l _ _ hx (j % K.n) (Nat.mod_lt _ K.pos)
  have e2 : j / K.n * K.n + j % K.n = j := Nat.div_add_mod' j K.n
  rw [e2, hu] at hg
  have := hc (j % K.n) u hg.symm
  rw [Go.WideShapes.add_plain]
  rw [Nat.add_assoc, e2] at this
  exact this

/-- append(q, xs...), q an empty row of the call's own: a row of the same elements, the call's own. -/
theorem wpList_copy {P : Program} {w : World} {ops : Array Oper} {rest : List Oper} {o : Oper} {a : Act} {Q : Exit → Act → World → Prop} (hgd : o.guard = none) (s x : Operand) (t : TypeId)
    (ho : o.op = .call { callee := .builtin .append, args := #[s, x], argTypes := #[t, t] })
    (base : Nat) (e : TypeId) (i : TypeInfo) (z : Value) (bytes : Nat) (ht : P.underlying t = some (.slice e)) (hi : P.info? e = some i) (hz : i.zero = some z)
    (hsize : i.size = K.n) (hby : i.bytes = bytes) (hzs : z.cells.size = K.n)
    (v : Value) (hs : a.eval s = v) (hown : w.ownsRow base e K.n v 0 []) (ao : Option Addr) (cap : Nat) (l : List α) (hx : a.eval x = .slice ao l.length cap)
    (hS : RowAt K w ao l) (hf : ∀ x ∈ l, ∀ b, K.foot x b → b < base) (hnil : ao = none → cap = 0) (hm : l.length ≤ maxLen) (hlen : l.length * bytes ≤ 140737488355328) (hbase : base ≤ w.heap.size)
    (h : ∀ ao' cap' w', RowAt K w' ao' l → (ao' = none → cap' = 0) → (l ≠ [] → ∀ b off, ao' = some ⟨b, off, none⟩ → base ≤ b) → Below base w w' → wpList P ops Q rest (a.put o.dst (.slice ao' l.length cap')) w') : wpList P ops Q (o :: rest) a w := by
  cases ao with
  | none =>
    have hc0 := hnil rfl
    subst hc0
    have hss : l = [] := by
      cases l with
      | nil => rfl
      | cons y r => obtain ⟨_, _, e, _⟩ := hS.cell 0 y rfl; cases e
    subst hss
    refine wpList_append_own_none hgd s x t ho base e i K.n ht hi v 0 [] hs hown hx ?_
    rcases hown.2 with ⟨hv, _⟩ | ⟨g, c, cur, hv, _⟩
    · rw [hv]
      exact h none 0 w (nil_row _ _) (fun _ => rfl) (fun hne => absurd rfl hne) (Below.refl _ _)
    · rw [hv]
      exact h _ c w (nil_row _ _) (fun e => by cases e) (fun hne => absurd rfl hne) (Below.refl _ _)
  | some ad =>
    refine wpList_append_own w hgd s x t ho base e i z K.n bytes ht hi hz hsize hby hzs K.pos v 0 [] hs hown ad l.length cap (flatK K l) hx (flatK_length K l) hS.news (flatK_one K l) (by omega) (by rw [Nat.zero_add]; exact hlen) hbase ?_
    intro v' w' hown' hgrow _
    have hb := (Below.refl base w).grown hgrow hbase (fun q hq => (hown.lt q hq).1)
    rw [Nat.zero_add, List.nil_append] at hown'
    have hA : ∀ x ∈ l, K.At w' x := fun x hx => K.keep (hS.at_ x hx) (fun b hb' => hb.block b (hf x hx b hb'))
    have hq := QRow.of_own hown'
    obtain ⟨ao', cap', rfl, _, _⟩ := hq.form
    refine h ao' cap' w' (hq.rowAt rfl hA) ?_ ?_ hb
    · intro he
      rcases hown'.2 with ⟨hv, _⟩ | ⟨g, c, cur, hv, _⟩
      · simp at hv; exact hv.2.2
      · simp at hv; rw [hv.1] at he; cases he
    · intro hne b off he
      exact (hown'.lt b (by rw [he]; rfl)).1
end
end Go.Proofs.YtmngiekobmhpaaaGreat
