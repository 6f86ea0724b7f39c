/- Layer 6's mathematics: tags' bytes and a header's, both ways round; when a header is right. -/
import Derived.Test.YthhildeocedpiaaDoorReadBase
namespace Go.Proofs.YthhildeocedpiaaDoor
open Go.RowKit
set_option linter.unusedVariables false

/-- A tag. -/
structure TagD where
  who : Int
  mac : ByteArray

def tagB (t : TagD) : List UInt8 := goInt t.who ++ t.mac.data.toList
def tagsB (l : List TagD) : List UInt8 := lst (l.map tagB)

/-- A tag that can be read. -/
structure TagD.Fit (t : TagD) : Prop where
  lo : 0 ≤ t.who
  hi : t.who ≤ 6
  mac : t.mac.size = 16

def getTag (m : List UInt8) : Except Nat TagD :=
  rdI m fun n r => if 6 < n then .error 2 else if r.length ≠ 16 then .error 3 else .ok ⟨(n : Int), ⟨r.toArray⟩⟩

theorem getTag_tag {t : TagD} (h : t.Fit) : getTag (tagB t) = .ok t := by
  obtain ⟨who, mac⟩ := t
  obtain ⟨n, rfl⟩ := Int.eq_ofNat_of_zero_le h.lo
  have hn : n ≤ 6 := by have := h.hi; simp only at this; omega
  have hm : mac.data.toList.length = 16 := by have := h.mac; simpa using this
  unfold getTag tagB
  simp only
  rw [goInt_nat n (by omega), rdI_enc n _ (by omega), if_neg (by omega), if_neg (by rw [hm]; simp), mk_list]

theorem getTag_back {m : List UInt8} {t : TagD} (h : getTag m = .ok t) : tagB t = m ∧ t.Fit := by
  unfold getTag at h
  obtain ⟨n, r, e, hn, h⟩ := rdI_back h
  split at h
  · cases h
  split at h
  · cases h
  rename_i h1 h2
  simp only [Except.ok.injEq] at h
  subst h
  have hr : r.length = 16 := by omega
  refine ⟨?_, by show (0 : Int) ≤ n; omega, by show (n : Int) ≤ 6; omega, by show (⟨r.toArray⟩ : ByteArray).size = 16; rw [size_mk]; exact hr⟩
  unfold tagB
  simp only
  rw [goInt_nat n hn, e]

theorem tagB_len {t : TagD} (h : t.Fit) : (tagB t).length ≤ 25 := by
  have := goInt_length t.who
  have h2 : t.mac.data.toList.length = 16 := by have := h.mac; simpa using this
  unfold tagB
  rw [List.length_append]
  omega

/-- The tags at the front of bytes, in how many, and the error. -/
def getTagsL (l : List UInt8) : List TagD × Nat × Nat :=
  if (getList l 7).2.2 ≠ 0 then ([], 0, (getList l 7).2.2) else match eachE getTag (getList l 7).1 with
    | .error e => ([], 0, e)
    | .ok ts => (ts, (getList l 7).2.1, 0)

theorem getTag_err {m : List UInt8} {e : Nat} (h : getTag m = .error e) : e ≠ 0 := by
  unfold getTag at h
  rcases hg : getInt m with ⟨n, k, er⟩
  by_cases he : er = 0
  · subst he
    rw [rdI_ok hg] at h
    split at h
    · simp only [Except.error.injEq] at h; omega
    split at h
    · simp only [Except.error.injEq] at h; omega
    cases h
  · rw [rdI_err hg he] at h
    simp only [Except.error.injEq] at h
    omega

theorem getTags_tags {l : List TagD} (r : List UInt8) (h : ∀ t ∈ l, t.Fit) (hl : l.length ≤ 7) : getTagsL (tagsB l ++ r) = (l, (tagsB l).length, 0) := by
  have hg : getList (tagsB l ++ r) 7 = (l.map tagB, (lst (l.map tagB)).length, 0) := getList_lst (l.map tagB) r 7 (by
    intro t ht
    obtain ⟨x, hx, rfl⟩ := List.mem_map.1 ht
    have := tagB_len (h x hx)
    omega) (by rw [List.length_map]; omega) (by rw [List.length_map]; omega)
  unfold getTagsL
  rw [hg, if_neg (by simp), eachE_map l (fun t ht => getTag_tag (h t ht))]
  rfl

theorem getTags_back {l : List UInt8} {ts : List TagD} {k : Nat} (h : getTagsL l = (ts, k, 0)) : l.take k = tagsB ts ∧ k = (tagsB ts).length ∧ k ≤ l.length ∧ ts.length ≤ 7 ∧ ∀ t ∈ ts, t.Fit := by
  rcases hg : getList l 7 with ⟨ms, j, e⟩
  unfold getTagsL at h
  rw [hg] at h
  by_cases he : e ≠ 0
  · rw [if_pos he] at h
    simp only [Prod.mk.injEq] at h
    exact absurd h.2.2 he
  rw [if_neg he] at h
  have he0 : e = 0 := by omega
  subst he0
  cases hm : eachE getTag ms with
  | error er =>
    rw [hm] at h
    simp only [Prod.mk.injEq] at h
    exact absurd h.2.2 (eachE_err (fun b e => getTag_err) ms er hm)
  | ok xs =>
    rw [hm] at h
    simp only [Prod.mk.injEq] at h
    obtain ⟨rfl, rfl, _⟩ := h
    obtain ⟨b1, b2, b3, b4, _⟩ := getList_back hg
    have hb := eachE_back (g := tagB) (fun b a hba => (getTag_back hba).1) ms xs hm
    have hf := eachE_all (p := TagD.Fit) (fun b a hba => (getTag_back hba).2) ms xs hm
    have hlen : xs.length = ms.length := by rw [← hb, List.length_map]
    unfold tagsB
    rw [hb]
    exact ⟨b1, b2, b3, by omega, hf⟩

section
variable {α : Type}

def rdG (l : List UInt8) (f : List TagD → List UInt8 → Except Nat α) : Except Nat α := if (getTagsL l).2.2 ≠ 0 then .error (getTagsL l).2.2 else f (getTagsL l).1 (l.drop (getTagsL l).2.1)

theorem rdG_ok {l : List UInt8} {f : List TagD → List UInt8 → Except Nat α} {t : List TagD} {k : Nat} (h : getTagsL l = (t, k, 0)) : rdG l f = f t (l.drop k) := by
  unfold rdG; rw [h]; rfl
theorem rdG_err {l : List UInt8} {f : List TagD → List UInt8 → Except Nat α} {t : List TagD} {k er : Nat} (h : getTagsL l = (t, k, er)) (he : er ≠ 0) : rdG l f = .error er := by
  unfold rdG; rw [h, if_pos he]
theorem rdG_tags {f : List TagD → List UInt8 → Except Nat α} (t : List TagD) (r : List UInt8) (h : ∀ x ∈ t, x.Fit) (hl : t.length ≤ 7) : rdG (tagsB t ++ r) f = f t r := by
  rw [rdG_ok (getTags_tags r h hl), List.drop_left]
theorem rdG_back {l : List UInt8} {f : List TagD → List UInt8 → Except Nat α} {d : α} (h : rdG l f = .ok d) : ∃ t r, l = tagsB t ++ r ∧ t.length ≤ 7 ∧ (∀ x ∈ t, x.Fit) ∧ f t r = .ok d := by
  rcases hg : getTagsL l with ⟨t, k, e⟩
  by_cases he : e = 0
  · subst he
    rw [rdG_ok hg] at h
    obtain ⟨b1, _, _, b4, b5⟩ := getTags_back hg
    exact ⟨t, l.drop k, by rw [← b1, List.take_append_drop], b4, b5, h⟩
  · rw [rdG_err hg he] at h
    cases h
end

/-- A Ref. -/
structure RefD where
  digest : ByteArray
  acks : List TagD

def refB (r : RefD) : List UInt8 := txt r.digest.data.toList ++ tagsB r.acks

/-- A Ref that can be read. -/
structure RefD.Fit (r : RefD) : Prop where
  dig : r.digest.size ≤ 65536
  few : r.acks.length ≤ 7
  all : ∀ t ∈ r.acks, t.Fit

section
variable {α : Type}

def rdRefs : Nat → List UInt8 → (List RefD → List UInt8 → Except Nat α) → Except Nat α
  | 0, l, f => f [] l
  | n + 1, l, f => rdT l fun d l => rdG l fun ts l => rdRefs n l fun rs l => f (⟨⟨d.toArray⟩, ts⟩ :: rs) l

theorem rdRefs_refs : ∀ (rs : List RefD) (r : List UInt8) (f : List RefD → List UInt8 → Except Nat α), (∀ x ∈ rs, x.Fit) → rdRefs rs.length (rs.flatMap refB ++ r) f = f rs r
  | [], r, f, _ => rfl
  | x :: rs, r, f, h => by
    have hx := h x (by simp)
    have hd : x.digest.data.toList.length ≤ 65536 := by have := hx.dig; simpa using this
    rw [List.length_cons, rdRefs, List.flatMap_cons, refB, List.append_assoc, List.append_assoc, rdT_txt _ _ hd, rdG_tags _ _ hx.all hx.few, rdRefs_refs rs r _ (fun y hy => h y (by simp [hy])), mk_list]

theorem rdRefs_back : ∀ (n : Nat) (l : List UInt8) (f : List RefD → List UInt8 → Except Nat α) (d : α), rdRefs n l f = .ok d → ∃ rs r, l = rs.flatMap refB ++ r ∧ rs.length = n ∧ (∀ x ∈ rs, x.Fit) ∧ f rs r = .ok d
  | 0, l, f, d, h => ⟨[], l, rfl, rfl, by simp, h⟩
  | n + 1, l, f, d, h => by
    rw [rdRefs] at h
    obtain ⟨t, r1, e1, b1, h⟩ := rdT_back h
    obtain ⟨g, r2, e2, b2, b3, h⟩ := rdG_back h
    obtain ⟨rs, r3, e3, b4, b5, h⟩ := rdRefs_back n r2 _ d h
    refine ⟨⟨⟨t.toArray⟩, g⟩ :: rs, r3, ?_, by rw [List.length_cons, b4], ?_, h⟩
    · rw [List.flatMap_cons, refB, e1, e2, e3]
      simp only [List.append_assoc]
    · intro x hx
      rw [List.mem_cons] at hx
      rcases hx with rfl | hx
      · exact ⟨by rw [size_mk]; exact b1, b2, b3⟩
      · exact b5 x hx
end

/-- A header. -/
structure HdrD where
  author : Int
  round : Int
  refs : List RefD
  parents : List ByteArray

def encH (h : HdrD) : List UInt8 := goInt h.author ++ goInt h.round ++ goInt (h.refs.length : Int) ++ h.refs.flatMap refB ++ lst (bl h.parents)

/-- A header from the front of bytes, and what is left. -/
def rdH {α : Type} (l : List UInt8) (f : HdrD → List UInt8 → Except Nat α) : Except Nat α :=
  rdI l fun a l => rdI l fun r l => rdI l fun n l => if 4 < n then .error 8 else rdRefs n l fun rs l => rdL 7 l fun ps l => f ⟨(a : Int), (r : Int), rs, mks ps⟩ l

def decH (l : List UInt8) : Except Nat HdrD := rdH l fun h l => if l ≠ [] then .error 6 else if 6 < h.author then .error 2 else .ok h

/-- A header that can be read. -/
structure HdrD.Fit (h : HdrD) : Prop where
  a0 : 0 ≤ h.author
  a6 : h.author ≤ 6
  r0 : 0 ≤ h.round
  rM : h.round ≤ 4611686018427387903
  few : h.refs.length ≤ 4
  refs : ∀ x ∈ h.refs, x.Fit
  ps : h.parents.length ≤ 7
  pz : ∀ p ∈ h.parents, p.size ≤ 65536

theorem rdH_enc {α : Type} {h : HdrD} (hf : h.Fit) (r : List UInt8) (f : HdrD → List UInt8 → Except Nat α) : rdH (encH h ++ r) f = f h r := by
  obtain ⟨a, ha⟩ := Int.eq_ofNat_of_zero_le hf.a0
  obtain ⟨n, hn⟩ := Int.eq_ofNat_of_zero_le hf.r0
  have h1 := hf.a6
  have h2 := hf.rM
  have h3 := hf.few
  have h4 := hf.ps
  have e : encH h ++ r = enc a ++ (enc n ++ (enc h.refs.length ++ (h.refs.flatMap refB ++ (lst (bl h.parents) ++ r)))) := by
    unfold encH
    rw [ha, hn, goInt_nat a (by omega), goInt_nat n (by omega), goInt_nat h.refs.length (by omega)]
    simp only [List.append_assoc]
  rw [e]
  unfold rdH
  rw [rdI_enc a _ (by omega), rdI_enc n _ (by omega), rdI_enc h.refs.length _ (by omega), if_neg (by omega), rdRefs_refs _ _ _ hf.refs, rdL_lst 7 _ _ ?_ (by simp [bl]; omega) (by simp [bl]; omega)]
  · rw [mks_bl, ← ha, ← hn]
  · intro t ht
    obtain ⟨p, hp, rfl⟩ := List.mem_map.1 ht
    have := hf.pz p hp
    simpa using this

theorem rdH_back {α : Type} {l : List UInt8} {f : HdrD → List UInt8 → Except Nat α} {d : α} (h : rdH l f = .ok d) : ∃ x r, l = encH x ++ r ∧ (0 ≤ x.author ∧ 0 ≤ x.round ∧ x.round ≤ 4611686018427387903 ∧ x.refs.length ≤ 4 ∧ (∀ y ∈ x.refs, y.Fit) ∧ x.parents.length ≤ 7 ∧ ∀ p ∈ x.parents, p.size ≤ 65536) ∧ f x r = .ok d := by
  unfold rdH at h
  obtain ⟨a, r0, e0, b0, h⟩ := rdI_back h
  obtain ⟨n, r1, e1, b1, h⟩ := rdI_back h
  obtain ⟨m, r2, e2, b2, h⟩ := rdI_back h
  split at h
  · cases h
  rename_i hm
  obtain ⟨rs, r3, e3, b3, b4, h⟩ := rdRefs_back m r2 _ d h
  obtain ⟨ps, r4, e4, b5, b6, h⟩ := rdL_back h
  refine ⟨_, r4, ?_, ⟨by show (0 : Int) ≤ a; omega, by show (0 : Int) ≤ n; omega, by show (n : Int) ≤ _; omega, by show rs.length ≤ 4; omega, b4, by show (mks ps).length ≤ 7; simp [mks]; omega, ?_⟩, h⟩
  · unfold encH
    simp only [bl_mks]
    rw [b3, goInt_nat a b0, goInt_nat n b1, goInt_nat m b2, e0, e1, e2, e3, e4]
    simp only [List.append_assoc]
  · intro p hp
    obtain ⟨t, ht, rfl⟩ := List.mem_map.1 hp
    rw [size_mk]
    exact b6 t ht

/-- Bytes that are read are written as they were. -/
theorem encH_dec {l : List UInt8} {h : HdrD} (hd : decH l = .ok h) : encH h = l ∧ h.Fit := by
  unfold decH at hd
  obtain ⟨x, r, e, ⟨b0, b1, b2, b3, b4, b5, b6⟩, hd⟩ := rdH_back hd
  split at hd
  · cases hd
  split at hd
  · cases hd
  rename_i h1 h2
  simp only [Except.ok.injEq] at hd
  subst hd
  have hr : r = [] := by simpa using h1
  subst hr
  exact ⟨by rw [e, List.append_nil], b0, by omega, b1, b2, b3, b4, b5, b6⟩

/-- A header that is written is read as it was; with bytes behind it: too many. -/
theorem decH_enc {h : HdrD} (hf : h.Fit) (r : List UInt8) : decH (encH h ++ r) = if r = [] then .ok h else .error 6 := by
  unfold decH
  rw [rdH_enc hf]
  have h1 := hf.a6
  by_cases hr : r = []
  · rw [if_neg (by simpa using hr), if_neg (by omega), if_pos hr]
  · rw [if_pos hr, if_neg hr]

/-- Texts of 32 bytes, strictly rising, behind one (none ahead of the first: nothing is below every text of 32 bytes). -/
def risingGo : Option ByteArray → List ByteArray → Nat
  | _, [] => 0
  | a, k :: r => if k.size ≠ 32 then 3 else if (match a with | none => false | some x => Op.bytesLess k.toList x.toList || k.toList == x.toList) = true then 9 else risingGo (some k) r

def risingL (l : List ByteArray) : Nat := risingGo none l

/-- Refs: size, order, enough. en: what is wrong with tags of a word. -/
def refsGo (en : List TagD → ByteArray → Nat) : Option ByteArray → List RefD → Nat
  | _, [] => 0
  | a, x :: r => if x.digest.size ≠ 32 then 3 else if (match a with | none => false | some y => Op.bytesLess x.digest.toList y.toList || x.digest.toList == y.toList) = true then 9 else if en x.acks x.digest ≠ 0 then en x.acks x.digest else refsGo en (some x.digest) r

/-- What is wrong with a header, n validators, need of them enough. -/
def checkH (n need : Nat) (en : List TagD → ByteArray → Nat) (h : HdrD) : Nat :=
  if h.author < 0 ∨ (n : Int) ≤ h.author ∨ h.round < 1 ∨ 4611686018427387903 < h.round then 2 else if 4 < h.refs.length then 8 else if refsGo en none h.refs ≠ 0 then refsGo en none h.refs
  else if risingL h.parents ≠ 0 then risingL h.parents else if h.round = 1 ∧ 0 < h.parents.length then 3 else if 1 < h.round ∧ h.parents.length < need then 12 else if n < h.parents.length then 8 else 0
end Go.Proofs.YthhildeocedpiaaDoor
