/- Texts as one: HdrRows, CertMath, Sets, CertRows, BlkRows, MsgMath. -/
import Derived.Test.YtmngiekobmhpaaaGreatBk06
import Derived.Test.YtmngiekobmhpaaaGreatBk03
import Derived.Test.YtmngiekobmhpaaaGreatBk04
/- Tags, Refs and headers as they lie in memory. -/
namespace Go.Proofs.YtmngiekobmhpaaaGreat
open Go.RowKit
set_option linter.unusedVariables false

/-- Tags. -/
def tagK : Kind TagD where
  n := 2
  c t := [.int .i64 t.who, .string t.mac]
  foot _ _ := False
  At _ _ := True
  pos := by decide
  len _ := rfl
  one x u hu := by
    simp only [List.mem_cons, List.not_mem_nil, or_false] at hu
    rcases hu with rfl | rfl <;> rfl
  lt _ h := h.elim
  keep _ _ := trivial

/-- Texts. -/
def strK : Kind ByteArray where
  n := 1
  c s := [.string s]
  foot _ _ := False
  At _ _ := True
  pos := by decide
  len _ := rfl
  one x u hu := by
    simp only [List.mem_cons, List.not_mem_nil, or_false] at hu
    rcases hu with rfl; rfl
  lt _ h := h.elim
  keep _ _ := trivial

theorem RowAt.strs {w : World} {ao : Option Addr} {l : List ByteArray} (h : RowAt strK w ao l) : StrsAt w ao l := by
  intro j hj
  obtain ⟨b, off, h1, h2, h3⟩ := h.cell j l[j] (List.getElem?_eq_getElem hj)
  refine ⟨b, off, h1, h2, ?_⟩
  have := h3 0 (.string l[j]) rfl
  have e : off + j * strK.n + 0 = off + j := by show off + j * 1 + 0 = _; omega
  rw [e] at this
  exact this

theorem StrsAt.row {w : World} {ao : Option Addr} {l : List ByteArray} (h : StrsAt w ao l) : RowAt strK w ao l := by
  refine ⟨fun j x hx => ?_, fun _ _ => trivial⟩
  obtain ⟨hj, rfl⟩ := List.getElem?_eq_some_iff.1 hx
  obtain ⟨b, off, h1, h2, h3⟩ := h j hj
  refine ⟨b, off, h1, h2, fun i v hv => ?_⟩
  match i, hv with
  | 0, hv =>
    simp [strK] at hv
    subst hv
    have e : off + j * strK.n + 0 = off + j := by show off + j * 1 + 0 = _; omega
    rw [e]
    exact h3

theorem strs_foot {ao : Option Addr} {l : List ByteArray} {b : Nat} (h : rowFoot strK ao l b) : 0 < l.length ∧ ∃ off, ao = some ⟨b, off, none⟩ := by
  rcases h with ⟨hl, h⟩ | ⟨_, _, h⟩
  · exact ⟨List.length_pos_iff.2 hl, h⟩
  · exact h.elim

theorem OwnStrs.foot {base : Nat} {w : World} {ao : Option Addr} {l : List ByteArray} (h : OwnStrs base w ao l) {b : Nat} (hf : rowFoot strK ao l b) : base ≤ b := by
  obtain ⟨hl, off, e⟩ := strs_foot hf
  obtain ⟨b', off', e', hb, _⟩ := h 0 hl
  rw [e] at e'
  simp at e'
  omega

/-- A Ref as it lies in memory. -/
structure RefM where
  digest : ByteArray
  acks : List TagD
  ao : Option Addr
  cap : Nat

def RefM.d (x : RefM) : RefD := ⟨x.digest, x.acks⟩

def refK : Kind RefM where
  n := 2
  c x := [.string x.digest, .slice x.ao x.acks.length x.cap]
  foot x := rowFoot tagK x.ao x.acks
  At w x := RowAt tagK w x.ao x.acks ∧ (x.ao = none → x.cap = 0)
  pos := by decide
  len _ := rfl
  one x u hu := by
    simp only [List.mem_cons, List.not_mem_nil, or_false] at hu
    rcases hu with rfl | rfl <;> rfl
  lt h hf := h.1.lt hf
  keep h hk := ⟨h.1.keep hk, h.2⟩

/-- The data of Refs. -/
def rd (l : List RefM) : List RefD := l.map RefM.d

theorem rd_length (l : List RefM) : (rd l).length = l.length := by simp [rd]

/-- A header as it lies in memory. -/
structure HdrM where
  author : Int
  round : Int
  ra : Option Addr
  refs : List RefM
  rc : Nat
  pa : Option Addr
  parents : List ByteArray
  pc : Nat

def HdrM.d (h : HdrM) : HdrD := ⟨h.author, h.round, rd h.refs, h.parents⟩
def HdrM.c (h : HdrM) : List Value := [.int .i64 h.author, .int .i64 h.round, .slice h.ra h.refs.length h.rc, .slice h.pa h.parents.length h.pc]
def HdrM.v (h : HdrM) : Value := .agg #[.int .i64 h.author, .int .i64 h.round, .slice h.ra h.refs.length h.rc, .slice h.pa h.parents.length h.pc]

/-- Its lists lie in memory, and nil is nil. -/
structure HdrM.At (w : World) (h : HdrM) : Prop where
  refs : RowAt refK w h.ra h.refs
  nr : h.ra = none → h.rc = 0
  ps : RowAt strK w h.pa h.parents
  np : h.pa = none → h.pc = 0

def HdrM.foot (h : HdrM) (b : Nat) : Prop := rowFoot refK h.ra h.refs b ∨ rowFoot strK h.pa h.parents b

def hdrK : Kind HdrM where
  n := 4
  c := HdrM.c
  foot := HdrM.foot
  At := HdrM.At
  pos := by decide
  len _ := rfl
  one x u hu := by
    simp only [HdrM.c, List.mem_cons, List.not_mem_nil, or_false] at hu
    rcases hu with rfl | rfl | rfl | rfl <;> rfl
  lt h hf := hf.elim h.refs.lt h.ps.lt
  keep h hk := ⟨h.refs.keep (fun b hb => hk b (Or.inl hb)), h.nr, h.ps.keep (fun b hb => hk b (Or.inr hb)), h.np⟩

theorem HdrM.At.below {w w' : World} {h : HdrM} (ha : h.At w) (hb : Below w.heap.size w w') : h.At w' := Kind.below hdrK ha hb

/-- The two cells of a tag in a row. -/
theorem RowAt.tag {w : World} {ao : Option Addr} {l : List TagD} (h : RowAt tagK w ao l) {i : Nat} {t : TagD} (ht : l[i]? = some t) :
    ∃ b off, ao = some ⟨b, off, none⟩ ∧ b < w.heap.size ∧ w.cell? ⟨b, off + i * 2, none⟩ = some (.int .i64 t.who) ∧ w.cell? ⟨b, off + i * 2 + 1, none⟩ = some (.string t.mac) := by
  obtain ⟨b, off, h1, h2, h3⟩ := h.cell i t ht
  exact ⟨b, off, h1, h2, h3 0 _ rfl, h3 1 _ rfl⟩

/-- The two cells of a Ref in a row. -/
theorem RowAt.ref {w : World} {ao : Option Addr} {l : List RefM} (h : RowAt refK w ao l) {i : Nat} {x : RefM} (hx : l[i]? = some x) :
    ∃ b off, ao = some ⟨b, off, none⟩ ∧ b < w.heap.size ∧ w.cell? ⟨b, off + i * 2, none⟩ = some (.string x.digest) ∧ w.cell? ⟨b, off + i * 2 + 1, none⟩ = some (.slice x.ao x.acks.length x.cap) := by
  obtain ⟨b, off, h1, h2, h3⟩ := h.cell i x hx
  exact ⟨b, off, h1, h2, h3 0 _ rfl, h3 1 _ rfl⟩

theorem infoTag6 : (Tryz.prog.info? 23).map (fun i => (i.zero, i.size, i.bytes)) = some (some (.agg #[.int .i64 0, .string ⟨#[]⟩]), 2, 24) := by kernel_rfl

theorem infoRef6 : (Tryz.prog.info? 126).map (fun i => (i.zero, i.size, i.bytes)) = some (some (.agg #[.string ⟨#[]⟩, .slice none 0 0]), 2, 40) := by kernel_rfl

theorem infoHdr6 : (Tryz.prog.info? 30).map (·.size) = some 4 := by kernel_rfl
end Go.Proofs.YtmngiekobmhpaaaGreat

/- The mathematics of layers 7 and 8: bytes of certificates, of quorums' certificates and of blocks, both ways round. -/
namespace Go.Proofs.YtmngiekobmhpaaaGreat
open Go.RowKit
set_option linter.unusedVariables false

/-- A certificate. -/
structure CertD where
  header : HdrD
  votes : List TagD

def encC (c : CertD) : List UInt8 := txt (encH c.header) ++ tagsB c.votes

def decC (l : List UInt8) : Except Nat CertD :=
  rdT l fun t l => match decH t with
    | .error e => .error e
    | .ok h => rdG l fun v l => if l ≠ [] then .error 6 else .ok ⟨h, v⟩

theorem encC_dec {l : List UInt8} {c : CertD} (h : decC l = .ok c) : encC c = l ∧ c.header.Fit ∧ (encH c.header).length ≤ 65536 ∧ c.votes.length ≤ 7 ∧ ∀ t ∈ c.votes, t.Fit := by
  unfold decC at h
  obtain ⟨t, r, e1, b1, h⟩ := rdT_back h
  cases hd : decH t with
  | error e => rw [hd] at h; cases h
  | ok x =>
    rw [hd] at h
    simp only at h
    obtain ⟨v, r2, e2, b2, b3, h⟩ := rdG_back h
    split at h
    · cases h
    rename_i h1
    simp only [Except.ok.injEq] at h
    subst h
    have hr : r2 = [] := by simpa using h1
    subst hr
    obtain ⟨g1, g2⟩ := encH_dec hd
    refine ⟨?_, g2, by rw [g1]; exact b1, b2, b3⟩
    unfold encC
    simp only
    rw [g1, e1, e2, List.append_nil]

theorem decC_enc {c : CertD} (h1 : c.header.Fit) (h2 : (encH c.header).length ≤ 65536) (h3 : c.votes.length ≤ 7) (h4 : ∀ t ∈ c.votes, t.Fit) (r : List UInt8) : decC (encC c ++ r) = if r = [] then .ok c else .error 6 := by
  have hd := decH_enc h1 []
  rw [List.append_nil, if_pos rfl] at hd
  unfold decC encC
  rw [List.append_assoc, rdT_txt _ _ h2, hd]
  simp only
  rw [rdG_tags _ _ h4 h3]
  by_cases hr : r = []
  · rw [if_neg (by simpa using hr), if_pos hr]
  · rw [if_pos hr, if_neg hr]

/-- That enough have voted for a block of a view. -/
structure QcD where
  view : Int
  block : ByteArray
  votes : List TagD

def encQ (q : QcD) : List UInt8 := goInt q.view ++ txt q.block.data.toList ++ tagsB q.votes

def decQ (l : List UInt8) : Except Nat QcD :=
  rdI l fun v l => rdT l fun b l => rdG l fun t l => if l ≠ [] then .error 6 else .ok ⟨(v : Int), ⟨b.toArray⟩, t⟩

/-- One that can be read. -/
structure QcD.Fit (q : QcD) : Prop where
  v0 : 0 ≤ q.view
  vM : q.view ≤ 4611686018427387903
  blk : q.block.size ≤ 65536
  few : q.votes.length ≤ 7
  all : ∀ t ∈ q.votes, t.Fit

theorem encQ_dec {l : List UInt8} {q : QcD} (h : decQ l = .ok q) : encQ q = l ∧ q.Fit := by
  unfold decQ at h
  obtain ⟨v, r0, e0, b0, h⟩ := rdI_back h
  obtain ⟨b, r1, e1, b1, h⟩ := rdT_back h
  obtain ⟨t, r2, e2, b2, b3, h⟩ := rdG_back h
  split at h
  · cases h
  rename_i h1
  simp only [Except.ok.injEq] at h
  subst h
  have hr : r2 = [] := by simpa using h1
  subst hr
  refine ⟨?_, by show (0 : Int) ≤ v; omega, by show (v : Int) ≤ _; omega, by show (⟨b.toArray⟩ : ByteArray).size ≤ _; rw [size_mk]; exact b1, b2, b3⟩
  unfold encQ
  simp only
  rw [goInt_nat v b0, e0, e1, e2, List.append_nil, List.append_assoc]

theorem decQ_enc {q : QcD} (hf : q.Fit) (r : List UInt8) : decQ (encQ q ++ r) = if r = [] then .ok q else .error 6 := by
  obtain ⟨v, hv⟩ := Int.eq_ofNat_of_zero_le hf.v0
  have h1 := hf.vM
  have hb : q.block.data.toList.length ≤ 65536 := by have := hf.blk; simpa using this
  have e : encQ q ++ r = enc v ++ (txt q.block.data.toList ++ (tagsB q.votes ++ r)) := by
    unfold encQ
    rw [hv, goInt_nat v (by omega)]
    simp only [List.append_assoc]
  rw [e]
  unfold decQ
  rw [rdI_enc v _ (by omega), rdT_txt _ _ hb, rdG_tags _ _ hf.all hf.few, mk_list]
  by_cases hr : r = []
  · rw [if_neg (by simpa using hr), if_pos hr, ← hv]
  · rw [if_pos hr, if_neg hr]

/-- A block. -/
structure BlkD where
  view : Int
  qc : QcD
  certs : List ByteArray

def encK (b : BlkD) : List UInt8 := goInt b.view ++ txt (encQ b.qc) ++ lst (bl b.certs)

def decK (l : List UInt8) : Except Nat BlkD :=
  rdI l fun v l => rdT l fun t l => match decQ t with
    | .error e => .error e
    | .ok q => rdL 8 l fun cs l => if l ≠ [] then .error 6 else .ok ⟨(v : Int), q, mks cs⟩

/-- One that can be read. -/
structure BlkD.Fit (b : BlkD) : Prop where
  v0 : 0 ≤ b.view
  vM : b.view ≤ 4611686018427387903
  qc : b.qc.Fit
  len : (encQ b.qc).length ≤ 65536
  few : b.certs.length ≤ 8
  all : ∀ c ∈ b.certs, c.size ≤ 65536

theorem encK_dec {l : List UInt8} {b : BlkD} (h : decK l = .ok b) : encK b = l ∧ b.Fit := by
  unfold decK at h
  obtain ⟨v, r0, e0, b0, h⟩ := rdI_back h
  obtain ⟨t, r1, e1, b1, h⟩ := rdT_back h
  cases hq : decQ t with
  | error e => rw [hq] at h; cases h
  | ok q =>
    rw [hq] at h
    simp only at h
    obtain ⟨cs, r2, e2, b2, b3, h⟩ := rdL_back h
    split at h
    · cases h
    rename_i h1
    simp only [Except.ok.injEq] at h
    subst h
    have hr : r2 = [] := by simpa using h1
    subst hr
    obtain ⟨g1, g2⟩ := encQ_dec hq
    refine ⟨?_, by show (0 : Int) ≤ v; omega, by show (v : Int) ≤ _; omega, g2, by show (encQ q).length ≤ _; rw [g1]; exact b1, by show (mks cs).length ≤ 8; simp [mks]; omega, ?_⟩
    · unfold encK
      simp only [bl_mks]
      rw [g1, goInt_nat v b0, e0, e1, e2, List.append_nil, List.append_assoc]
    · intro c hc
      obtain ⟨x, hx, rfl⟩ := List.mem_map.1 hc
      rw [size_mk]
      exact b3 x hx

theorem decK_enc {b : BlkD} (hf : b.Fit) (r : List UInt8) : decK (encK b ++ r) = if r = [] then .ok b else .error 6 := by
  obtain ⟨v, hv⟩ := Int.eq_ofNat_of_zero_le hf.v0
  have h1 := hf.vM
  have h2 := hf.few
  have hq := decQ_enc hf.qc []
  rw [List.append_nil, if_pos rfl] at hq
  have e : encK b ++ r = enc v ++ (txt (encQ b.qc) ++ (lst (bl b.certs) ++ r)) := by
    unfold encK
    rw [hv, goInt_nat v (by omega)]
    simp only [List.append_assoc]
  rw [e]
  unfold decK
  rw [rdI_enc v _ (by omega), rdT_txt _ _ hf.len, hq]
  simp only
  rw [rdL_lst 8 _ _ ?_ (by simp [bl]; omega) (by simp [bl]; omega), mks_bl]
  · by_cases hr : r = []
    · rw [if_neg (by simpa using hr), if_pos hr, ← hv]
    · rw [if_pos hr, if_neg hr]
  · intro t ht
    obtain ⟨p, hp, rfl⟩ := List.mem_map.1 ht
    have := hf.all p hp
    simpa using this
end Go.Proofs.YtmngiekobmhpaaaGreat

/- Cells of a block that are written one behind the other. -/
namespace Go.Proofs.YtmngiekobmhpaaaGreat
open Go.RowKit
set_option linter.unusedVariables false

/-- Three cells of a block are written. -/
def set3 (w : World) (g : Nat) (v0 v1 v2 : Value) : World := ((w.setCell ⟨g, 0, none⟩ v0).setCell ⟨g, 1, none⟩ v1).setCell ⟨g, 2, none⟩ v2

theorem Arr.set3 {w : World} {g : Nat} {t : TypeId} {a0 a1 a2 : Value} (h : Arr w g t [a0, a1, a2]) (v0 v1 v2 : Value) : Arr (Proofs.YtmngiekobmhpaaaGreat.set3 w g v0 v1 v2) g t [v0, v1, v2] := ((h.set 0 v0).set 1 v1).set 2 v2

theorem below_set3 {B : Nat} {w w' : World} (h : Below B w w') {g : Nat} (hg : B ≤ g) (v0 v1 v2 : Value) : Below B w (set3 w' g v0 v1 v2) :=
  ((h.setCell (p := ⟨g, 0, none⟩) hg v0).setCell (p := ⟨g, 1, none⟩) hg v1).setCell (p := ⟨g, 2, none⟩) hg v2

theorem kept_set3 (w : World) (g : Nat) (v0 v1 v2 : Value) : Kept (fun k => k = g) w (set3 w g v0 v1 v2) :=
  (((Kept.refl (fun k => k = g) w).set (p := ⟨g, 0, none⟩) rfl v0).set (p := ⟨g, 1, none⟩) rfl v1).set (p := ⟨g, 2, none⟩) rfl v2

/-- Five cells of a block are written. -/
def set5 (w : World) (g : Nat) (v0 v1 v2 v3 v4 : Value) : World := ((((w.setCell ⟨g, 0, none⟩ v0).setCell ⟨g, 1, none⟩ v1).setCell ⟨g, 2, none⟩ v2).setCell ⟨g, 3, none⟩ v3).setCell ⟨g, 4, none⟩ v4

theorem Arr.set5 {w : World} {g : Nat} {t : TypeId} {a0 a1 a2 a3 a4 : Value} (h : Arr w g t [a0, a1, a2, a3, a4]) (v0 v1 v2 v3 v4 : Value) : Arr (Proofs.YtmngiekobmhpaaaGreat.set5 w g v0 v1 v2 v3 v4) g t [v0, v1, v2, v3, v4] := ((((h.set 0 v0).set 1 v1).set 2 v2).set 3 v3).set 4 v4

theorem below_set5 {B : Nat} {w w' : World} (h : Below B w w') {g : Nat} (hg : B ≤ g) (v0 v1 v2 v3 v4 : Value) : Below B w (set5 w' g v0 v1 v2 v3 v4) :=
  ((((h.setCell (p := ⟨g, 0, none⟩) hg v0).setCell (p := ⟨g, 1, none⟩) hg v1).setCell (p := ⟨g, 2, none⟩) hg v2).setCell (p := ⟨g, 3, none⟩) hg v3).setCell (p := ⟨g, 4, none⟩) hg v4

theorem kept_set5 (w : World) (g : Nat) (v0 v1 v2 v3 v4 : Value) : Kept (fun k => k = g) w (set5 w g v0 v1 v2 v3 v4) :=
  (((((Kept.refl (fun k => k = g) w).set (p := ⟨g, 0, none⟩) rfl v0).set (p := ⟨g, 1, none⟩) rfl v1).set (p := ⟨g, 2, none⟩) rfl v2).set (p := ⟨g, 3, none⟩) rfl v3).set (p := ⟨g, 4, none⟩) rfl v4
end Go.Proofs.YtmngiekobmhpaaaGreat

/- Certificates as they lie in memory. -/
namespace Go.Proofs.YtmngiekobmhpaaaGreat
open Go.RowKit
set_option linter.unusedVariables false

/-- A certificate as it lies in memory. -/
structure CertM where
  hdr : HdrM
  va : Option Addr
  votes : List TagD
  vc : Nat

def CertM.d (x : CertM) : CertD := ⟨x.hdr.d, x.votes⟩
def CertM.c (x : CertM) : List Value := [.int .i64 x.hdr.author, .int .i64 x.hdr.round, .slice x.hdr.ra x.hdr.refs.length x.hdr.rc, .slice x.hdr.pa x.hdr.parents.length x.hdr.pc, .slice x.va x.votes.length x.vc]
def CertM.v (x : CertM) : Value := .agg #[.int .i64 x.hdr.author, .int .i64 x.hdr.round, .slice x.hdr.ra x.hdr.refs.length x.hdr.rc, .slice x.hdr.pa x.hdr.parents.length x.hdr.pc, .slice x.va x.votes.length x.vc]

/-- Its lists lie in memory, and nil is nil. -/
structure CertM.At (w : World) (x : CertM) : Prop where
  hdr : x.hdr.At w
  votes : RowAt tagK w x.va x.votes
  nv : x.va = none → x.vc = 0

def CertM.foot (x : CertM) (b : Nat) : Prop := x.hdr.foot b ∨ rowFoot tagK x.va x.votes b

def certK : Kind CertM where
  n := 5
  c := CertM.c
  foot := CertM.foot
  At := CertM.At
  pos := by decide
  len _ := rfl
  one x u hu := by
    simp only [CertM.c, List.mem_cons, List.not_mem_nil, or_false] at hu
    rcases hu with rfl | rfl | rfl | rfl | rfl <;> rfl
  lt h hf := hf.elim (fun q => Kind.lt hdrK h.hdr q) h.votes.lt
  keep h hk := ⟨Kind.keep hdrK h.hdr (fun b hb => hk b (Or.inl hb)), h.votes.keep (fun b hb => hk b (Or.inr hb)), h.nv⟩

theorem CertM.At.below {w w' : World} {x : CertM} (ha : x.At w) (hb : Below w.heap.size w w') : x.At w' := Kind.below certK ha hb

/-- No certificate. -/
def cert0 : CertM := ⟨⟨0, 0, none, [], 0, none, [], 0⟩, none, [], 0⟩

theorem cert0_at (w : World) : cert0.At w := ⟨⟨nil_row _ _, fun _ => rfl, nil_row _ _, fun _ => rfl⟩, nil_row _ _, fun _ => rfl⟩

theorem infoCert7 : (Tryz.prog.info? 33).map (·.size) = some 5 := by kernel_rfl
end Go.Proofs.YtmngiekobmhpaaaGreat

/- Quorums' certificates and blocks as they lie in memory. -/
namespace Go.Proofs.YtmngiekobmhpaaaGreat
open Go.RowKit
set_option linter.unusedVariables false

/-- A quorum's certificate as it lies in memory. -/
structure QcM where
  view : Int
  block : ByteArray
  va : Option Addr
  votes : List TagD
  vc : Nat

def QcM.d (x : QcM) : QcD := ⟨x.view, x.block, x.votes⟩
def QcM.c (x : QcM) : List Value := [.int .i64 x.view, .string x.block, .slice x.va x.votes.length x.vc]
def QcM.v (x : QcM) : Value := .agg #[.int .i64 x.view, .string x.block, .slice x.va x.votes.length x.vc]

/-- Its votes lie in memory, and nil is nil. -/
structure QcM.At (w : World) (x : QcM) : Prop where
  votes : RowAt tagK w x.va x.votes
  nv : x.va = none → x.vc = 0

def QcM.foot (x : QcM) (b : Nat) : Prop := rowFoot tagK x.va x.votes b

def qcK : Kind QcM where
  n := 3
  c := QcM.c
  foot := QcM.foot
  At := QcM.At
  pos := by decide
  len _ := rfl
  one x u hu := by
    simp only [QcM.c, List.mem_cons, List.not_mem_nil, or_false] at hu
    rcases hu with rfl | rfl | rfl <;> rfl
  lt h hf := h.votes.lt hf
  keep h hk := ⟨h.votes.keep hk, h.nv⟩

theorem QcM.At.below {w w' : World} {x : QcM} (ha : x.At w) (hb : Below w.heap.size w w') : x.At w' := Kind.below qcK ha hb

/-- No quorum's certificate. -/
def qc0 : QcM := ⟨0, ⟨#[]⟩, none, [], 0⟩

theorem qc0_at (w : World) : qc0.At w := ⟨nil_row _ _, fun _ => rfl⟩

theorem infoQc8 : (Tryz.prog.info? 35).map (·.size) = some 3 := by kernel_rfl

/-- A block as it lies in memory. -/
structure BlkM where
  view : Int
  qc : QcM
  ca : Option Addr
  certs : List ByteArray
  cc : Nat

def BlkM.d (x : BlkM) : BlkD := ⟨x.view, x.qc.d, x.certs⟩
def BlkM.c (x : BlkM) : List Value := [.int .i64 x.view, .int .i64 x.qc.view, .string x.qc.block, .slice x.qc.va x.qc.votes.length x.qc.vc, .slice x.ca x.certs.length x.cc]
def BlkM.v (x : BlkM) : Value := .agg #[.int .i64 x.view, .int .i64 x.qc.view, .string x.qc.block, .slice x.qc.va x.qc.votes.length x.qc.vc, .slice x.ca x.certs.length x.cc]

/-- Its lists lie in memory, and nil is nil. -/
structure BlkM.At (w : World) (x : BlkM) : Prop where
  qc : x.qc.At w
  certs : RowAt strK w x.ca x.certs
  nc : x.ca = none → x.cc = 0

def BlkM.foot (x : BlkM) (b : Nat) : Prop := x.qc.foot b ∨ rowFoot strK x.ca x.certs b

def blkK : Kind BlkM where
  n := 5
  c := BlkM.c
  foot := BlkM.foot
  At := BlkM.At
  pos := by decide
  len _ := rfl
  one x u hu := by
    simp only [BlkM.c, List.mem_cons, List.not_mem_nil, or_false] at hu
    rcases hu with rfl | rfl | rfl | rfl | rfl <;> rfl
  lt h hf := hf.elim (fun q => Kind.lt qcK h.qc q) h.certs.lt
  keep h hk := ⟨Kind.keep qcK h.qc (fun b hb => hk b (Or.inl hb)), h.certs.keep (fun b hb => hk b (Or.inr hb)), h.nc⟩

theorem BlkM.At.below {w w' : World} {x : BlkM} (ha : x.At w) (hb : Below w.heap.size w w') : x.At w' := Kind.below blkK ha hb

/-- No block. -/
def blk0 : BlkM := ⟨0, qc0, none, [], 0⟩

theorem blk0_at (w : World) : blk0.At w := ⟨qc0_at w, nil_row _ _, fun _ => rfl⟩

theorem infoBlk8 : (Tryz.prog.info? 37).map (·.size) = some 5 := by kernel_rfl
end Go.Proofs.YtmngiekobmhpaaaGreat

/- The mathematics of layer 9: when a message is right, its bytes, both ways round. -/
namespace Go.Proofs.YtmngiekobmhpaaaGreat
open Go.RowKit
set_option linter.unusedVariables false

/-- A message. -/
structure MsgD where
  kind : Int
  digest : ByteArray
  view : Int
  tag : TagD
  batch : BatD
  header : HdrD
  cert : CertD
  block : BlkD
  qc : QcD

def tagZ : TagD := ⟨0, ⟨#[]⟩⟩
def batZ : BatD := ⟨0, 0, []⟩
def hdrZ : HdrD := ⟨0, 0, [], []⟩
def certZ : CertD := ⟨hdrZ, []⟩
def qcZ : QcD := ⟨0, ⟨#[]⟩, []⟩
def blkZ : BlkD := ⟨0, qcZ, []⟩

/-- A message with a kind alone. -/
def msgZ (k : Int) : MsgD := ⟨k, ⟨#[]⟩, 0, tagZ, batZ, hdrZ, certZ, blkZ, qcZ⟩

/-- The fields of a kind: b batch, d digest, v view, t tag, h header, c cert, k block, q Qc. -/
def fieldsK (k : Int) : List UInt8 :=
  if k = 1 then [98] else if k = 2 then [100, 116] else if k = 3 then [104] else if k = 4 then [100, 116] else if k = 5 then [99] else if k = 6 then [107, 116]
  else if k = 7 then [118, 100, 116] else if k = 8 then [118, 113, 116] else if k = 9 then [100] else if k = 10 then [100] else if k = 11 then [100] else []

theorem fieldsK_none {k : Int} (h : k < 1 ∨ 11 < k) : fieldsK k = [] := by
  unfold fieldsK
  rw [if_neg (by omega), if_neg (by omega), if_neg (by omega), if_neg (by omega), if_neg (by omega), if_neg (by omega), if_neg (by omega), if_neg (by omega), if_neg (by omega), if_neg (by omega), if_neg (by omega)]

theorem kind_cases {k : Int} (h : fieldsK k ≠ []) : k = 1 ∨ k = 2 ∨ k = 3 ∨ k = 4 ∨ k = 5 ∨ k = 6 ∨ k = 7 ∨ k = 8 ∨ k = 9 ∨ k = 10 ∨ k = 11 := by
  have h1 : ¬ (k < 1 ∨ 11 < k) := fun hc => h (fieldsK_none hc)
  omega

/-- Fields that hold nothing. -/
abbrev TagD.Nil (t : TagD) : Prop := t.who = 0 ∧ t.mac.size = 0
abbrev BatD.Nil (b : BatD) : Prop := b.author = 0 ∧ b.number = 0 ∧ b.txs.length = 0
abbrev HdrD.Nil (h : HdrD) : Prop := h.author = 0 ∧ h.round = 0 ∧ h.refs.length = 0 ∧ h.parents.length = 0
abbrev CertD.Nil (c : CertD) : Prop := c.header.Nil ∧ c.votes.length = 0
abbrev QcD.Nil (q : QcD) : Prop := q.view = 0 ∧ q.block.size = 0 ∧ q.votes.length = 0
abbrev BlkD.Nil (b : BlkD) : Prop := b.view = 0 ∧ b.qc.Nil ∧ b.certs.length = 0

/-- Fields that do not belong to its kind hold nothing. -/
abbrev MsgD.Bare (m : MsgD) : Prop :=
  (100 ∈ fieldsK m.kind ∨ m.digest.size = 0) ∧ (118 ∈ fieldsK m.kind ∨ m.view = 0) ∧ (116 ∈ fieldsK m.kind ∨ m.tag.Nil) ∧ (98 ∈ fieldsK m.kind ∨ m.batch.Nil) ∧ (104 ∈ fieldsK m.kind ∨ m.header.Nil) ∧
  (99 ∈ fieldsK m.kind ∨ m.cert.Nil) ∧ (107 ∈ fieldsK m.kind ∨ m.block.Nil) ∧ (113 ∈ fieldsK m.kind ∨ m.qc.Nil)

/-- Plain fields. -/
abbrev tagOk (t : TagD) : Prop := 0 ≤ t.who ∧ t.who ≤ 6 ∧ t.mac.size = 16
abbrev tagsOk (l : List TagD) : Prop := (∀ t ∈ l, tagOk t) ∧ l.length ≤ 7

theorem tagOk.fit {t : TagD} (h : tagOk t) : t.Fit := ⟨h.1, h.2.1, h.2.2⟩
abbrev numOk (n : Int) : Prop := 0 ≤ n ∧ n ≤ 4611686018427387903
abbrev HdrD.Plain (h : HdrD) : Prop := (0 ≤ h.author ∧ h.author ≤ 6 ∧ numOk h.round ∧ h.refs.length ≤ 4 ∧ h.parents.length ≤ 7) ∧ (∀ p ∈ h.parents, p.size = 32) ∧ ∀ r ∈ h.refs, r.digest.size = 32 ∧ tagsOk r.acks
abbrev QcD.Plain (q : QcD) : Prop := numOk q.view ∧ q.block.size = 32 ∧ tagsOk q.votes
abbrev BlkD.Plain (b : BlkD) : Prop := numOk b.view ∧ b.qc.Plain ∧ b.certs.length ≤ 8 ∧ ∀ c ∈ b.certs, c.size = 40
abbrev CertD.Plain (c : CertD) : Prop := c.header.Plain ∧ tagsOk c.votes

/-- The fields that belong to its kind are right (a batch aside). -/
structure MsgD.Ok (m : MsgD) : Prop where
  dig : 100 ∈ fieldsK m.kind → m.digest.size = 32
  num : numOk m.view
  tag : 116 ∈ fieldsK m.kind → tagOk m.tag
  hdr : m.header.Plain
  cert : m.cert.Plain
  qc : 113 ∈ fieldsK m.kind → m.qc.Plain
  blk : 107 ∈ fieldsK m.kind → m.block.Plain

def okM (m : MsgD) : Bool :=
  decide (100 ∈ fieldsK m.kind → m.digest.size = 32) && decide (numOk m.view) && decide (116 ∈ fieldsK m.kind → tagOk m.tag) && decide m.header.Plain && decide m.cert.Plain && decide (113 ∈ fieldsK m.kind → m.qc.Plain) && decide (107 ∈ fieldsK m.kind → m.block.Plain)

theorem okM_iff {m : MsgD} : okM m = true ↔ m.Ok := by
  unfold okM
  simp only [Bool.and_eq_true, decide_eq_true_eq]
  constructor
  · rintro ⟨⟨⟨⟨⟨⟨a, b⟩, c⟩, d⟩, e⟩, f⟩, g⟩
    exact ⟨a, b, c, d, e, f, g⟩
  · rintro ⟨a, b, c, d, e, f, g⟩
    exact ⟨⟨⟨⟨⟨⟨a, b⟩, c⟩, d⟩, e⟩, f⟩, g⟩

/-- What is wrong with a message. -/
def chkM (m : MsgD) : Nat := if fieldsK m.kind = [] then 5 else if ¬ m.Bare then 3 else if 98 ∈ fieldsK m.kind then checkB m.batch else if okM m = true then 0 else 3

/-- A field's bytes. -/
def fieldB (m : MsgD) (c : UInt8) : List UInt8 :=
  if c = 118 then goInt m.view else if c = 116 then tagsB [m.tag] else if c = 100 then txt m.digest.data.toList else if c = 98 then txt (encBat m.batch) else if c = 104 then txt (encH m.header)
  else if c = 99 then txt (encC m.cert) else if c = 107 then txt (encK m.block) else txt (encQ m.qc)

/-- A right message's bytes. -/
def encM (m : MsgD) : List UInt8 := goInt m.kind ++ (fieldsK m.kind).flatMap (fieldB m)

/-- One field from the front of bytes. -/
def rdF {α : Type} (c : UInt8) (p : MsgD) (l : List UInt8) (f : MsgD → List UInt8 → Except Nat α) : Except Nat α :=
  if c = 118 then rdI l fun v l => f { p with view := (v : Int) } l
  else if c = 116 then rdG l fun ts l => match ts with
    | [t] => f { p with tag := t } l
    | _ => .error 12
  else rdT l fun t l =>
    if c = 100 then f { p with digest := ⟨t.toArray⟩ } l
    else if c = 98 then match decBat t with
      | .error e => .error e
      | .ok b => f { p with batch := b } l
    else if c = 104 then match decH t with
      | .error e => .error e
      | .ok b => f { p with header := b } l
    else if c = 99 then match decC t with
      | .error e => .error e
      | .ok b => f { p with cert := b } l
    else if c = 107 then match decK t with
      | .error e => .error e
      | .ok b => f { p with block := b } l
    else match decQ t with
      | .error e => .error e
      | .ok b => f { p with qc := b } l

/-- The fields one behind the other. -/
def rdFs {α : Type} : List UInt8 → MsgD → List UInt8 → (MsgD → List UInt8 → Except Nat α) → Except Nat α
  | [], p, l, f => f p l
  | c :: cs, p, l, f => rdF c p l fun p l => rdFs cs p l f

/-- A message out of bytes, or the first error. -/
def decM (l : List UInt8) : Except Nat MsgD :=
  rdI l fun k l => if fieldsK (k : Int) = [] then .error 5 else rdFs (fieldsK (k : Int)) (msgZ (k : Int)) l fun m l => if l ≠ [] then .error 6 else if chkM m ≠ 0 then .error (chkM m) else .ok m

theorem hdr_plain_fit {h : HdrD} (hp : h.Plain) : h.Fit := by
  obtain ⟨⟨a, b, c, d, e⟩, f, g⟩ := hp
  exact ⟨a, b, c.1, c.2, d, fun x hx => ⟨by have := (g x hx).1; omega, (g x hx).2.2, fun t ht => ((g x hx).2.1 t ht).fit⟩, e, fun p hp => by have := f p hp; omega⟩

theorem bytes_nil {b : ByteArray} (h : b.size = 0) : b = ⟨#[]⟩ := by
  obtain ⟨a⟩ := b
  have : a = #[] := Array.eq_empty_of_size_eq_zero h
  rw [this]

theorem TagD.Nil.eq {t : TagD} (h : t.Nil) : t = tagZ := by
  obtain ⟨a, b⟩ := t
  obtain ⟨h1, h2⟩ := h
  have h1' : a = 0 := h1
  have h2' := bytes_nil h2
  simp only at h2'
  rw [h1', h2']
  rfl

theorem BatD.Nil.eq {t : BatD} (h : t.Nil) : t = batZ := by
  obtain ⟨a, b, c⟩ := t
  obtain ⟨h1, h2, h3⟩ := h
  have h1' : a = 0 := h1
  have h2' : b = 0 := h2
  have h3' : c = [] := List.length_eq_zero_iff.1 h3
  rw [h1', h2', h3']
  rfl

theorem HdrD.Nil.eq {t : HdrD} (h : t.Nil) : t = hdrZ := by
  obtain ⟨a, b, c, d⟩ := t
  obtain ⟨h1, h2, h3, h4⟩ := h
  have h1' : a = 0 := h1
  have h2' : b = 0 := h2
  have h3' : c = [] := List.length_eq_zero_iff.1 h3
  have h4' : d = [] := List.length_eq_zero_iff.1 h4
  rw [h1', h2', h3', h4']
  rfl

theorem CertD.Nil.eq {t : CertD} (h : t.Nil) : t = certZ := by
  obtain ⟨a, b⟩ := t
  obtain ⟨h1, h2⟩ := h
  have h1' : a = hdrZ := HdrD.Nil.eq h1
  have h2' : b = [] := List.length_eq_zero_iff.1 h2
  rw [h1', h2']
  rfl

theorem QcD.Nil.eq {t : QcD} (h : t.Nil) : t = qcZ := by
  obtain ⟨a, b, c⟩ := t
  obtain ⟨h1, h2, h3⟩ := h
  have h1' : a = 0 := h1
  have h2' := bytes_nil h2
  have h3' : c = [] := List.length_eq_zero_iff.1 h3
  simp only at h2'
  rw [h1', h2', h3']
  rfl

theorem BlkD.Nil.eq {t : BlkD} (h : t.Nil) : t = blkZ := by
  obtain ⟨a, b, c⟩ := t
  obtain ⟨h1, h2, h3⟩ := h
  have h1' : a = 0 := h1
  have h2' : b = qcZ := QcD.Nil.eq h2
  have h3' : c = [] := List.length_eq_zero_iff.1 h3
  rw [h1', h2', h3']
  rfl

/-- One field out of another message. -/
def setF (c : UInt8) (p m : MsgD) : MsgD :=
  if c = 118 then { p with view := m.view } else if c = 116 then { p with tag := m.tag } else if c = 100 then { p with digest := m.digest } else if c = 98 then { p with batch := m.batch }
  else if c = 104 then { p with header := m.header } else if c = 99 then { p with cert := m.cert } else if c = 107 then { p with block := m.block } else { p with qc := m.qc }

/-- A field that can be read. -/
def fitF (m : MsgD) (c : UInt8) : Prop :=
  if c = 118 then numOk m.view else if c = 116 then m.tag.Fit else if c = 100 then m.digest.size ≤ 65536 else if c = 98 then checkB m.batch = 0 ∧ (encBat m.batch).length ≤ 65536
  else if c = 104 then m.header.Fit ∧ (encH m.header).length ≤ 65536
  else if c = 99 then (m.cert.header.Fit ∧ (encH m.cert.header).length ≤ 65536 ∧ m.cert.votes.length ≤ 7 ∧ ∀ t ∈ m.cert.votes, t.Fit) ∧ (encC m.cert).length ≤ 65536
  else if c = 107 then m.block.Fit ∧ (encK m.block).length ≤ 65536 else m.qc.Fit ∧ (encQ m.qc).length ≤ 65536

theorem rdF_enc {α : Type} {m : MsgD} {c : UInt8} (h : fitF m c) (p : MsgD) (r : List UInt8) (f : MsgD → List UInt8 → Except Nat α) : rdF c p (fieldB m c ++ r) f = f (setF c p m) r := by
  unfold fitF at h
  unfold rdF fieldB setF
  by_cases c1 : c = 118
  · simp only [if_pos c1] at h ⊢
    obtain ⟨v, hv⟩ := Int.eq_ofNat_of_zero_le h.1
    have h2 := h.2
    rw [hv, goInt_nat v (by omega), rdI_enc v _ (by omega)]
  simp only [if_neg c1] at h ⊢
  by_cases c2 : c = 116
  · simp only [if_pos c2] at h ⊢
    rw [rdG_tags [m.tag] r (by simpa using h) (by simp)]
  simp only [if_neg c2] at h ⊢
  by_cases c3 : c = 100
  · simp only [if_pos c3] at h ⊢
    rw [rdT_txt _ _ (by have : m.digest.data.toList.length = m.digest.size := by simp
                        omega), mk_list]
  simp only [if_neg c3] at h ⊢
  by_cases c4 : c = 98
  · simp only [if_pos c4] at h ⊢
    rw [rdT_txt _ _ h.2, decBat_enc h.1]
  simp only [if_neg c4] at h ⊢
  by_cases c5 : c = 104
  · simp only [if_pos c5] at h ⊢
    have hd := decH_enc h.1 []
    rw [List.append_nil, if_pos rfl] at hd
    rw [rdT_txt _ _ h.2, hd]
  simp only [if_neg c5] at h ⊢
  by_cases c6 : c = 99
  · simp only [if_pos c6] at h ⊢
    have hd := decC_enc h.1.1 h.1.2.1 h.1.2.2.1 h.1.2.2.2 []
    rw [List.append_nil, if_pos rfl] at hd
    rw [rdT_txt _ _ h.2, hd]
  simp only [if_neg c6] at h ⊢
  by_cases c7 : c = 107
  · simp only [if_pos c7] at h ⊢
    have hd := decK_enc h.1 []
    rw [List.append_nil, if_pos rfl] at hd
    rw [rdT_txt _ _ h.2, hd]
  simp only [if_neg c7] at h ⊢
  have hd := decQ_enc h.1 []
  rw [List.append_nil, if_pos rfl] at hd
  rw [rdT_txt _ _ h.2, hd]

theorem rdF_back {α : Type} {c : UInt8} {p : MsgD} {l : List UInt8} {f : MsgD → List UInt8 → Except Nat α} {d : α} (h : rdF c p l f = .ok d) : ∃ m r, l = fieldB m c ++ r ∧ fitF m c ∧ m = setF c p m ∧ f m r = .ok d := by
  unfold rdF at h
  unfold fieldB fitF setF
  by_cases c1 : c = 118
  · simp only [if_pos c1] at h ⊢
    obtain ⟨v, r, e, b, h⟩ := rdI_back h
    exact ⟨{ p with view := (v : Int) }, r, by rw [e, goInt_nat v b], ⟨by show (0 : Int) ≤ v; omega, by show (v : Int) ≤ _; omega⟩, rfl, h⟩
  simp only [if_neg c1] at h ⊢
  by_cases c2 : c = 116
  · simp only [if_pos c2] at h ⊢
    obtain ⟨ts, r, e, b, ht, h⟩ := rdG_back h
    rcases ts with _ | ⟨t, _ | ⟨t2, r2⟩⟩
    · cases h
    · exact ⟨{ p with tag := t }, r, e, ht t (List.mem_singleton.2 rfl), rfl, h⟩
    · cases h
  simp only [if_neg c2] at h ⊢
  obtain ⟨t, r, e, b, h⟩ := rdT_back h
  by_cases c3 : c = 100
  · simp only [if_pos c3] at h ⊢
    exact ⟨{ p with digest := ⟨t.toArray⟩ }, r, e, by show (⟨t.toArray⟩ : ByteArray).size ≤ _; rw [size_mk]; exact b, rfl, h⟩
  simp only [if_neg c3] at h ⊢
  by_cases c4 : c = 98
  · simp only [if_pos c4] at h ⊢
    cases hd : decBat t with
    | error e => rw [hd] at h; cases h
    | ok x =>
      rw [hd] at h
      obtain ⟨g1, g2⟩ := encBat_dec hd
      exact ⟨{ p with batch := x }, r, by rw [e]; show _ = txt (encBat x) ++ r; rw [g2], ⟨g1, by show (encBat x).length ≤ _; rw [g2]; exact b⟩, rfl, h⟩
  simp only [if_neg c4] at h ⊢
  by_cases c5 : c = 104
  · simp only [if_pos c5] at h ⊢
    cases hd : decH t with
    | error e => rw [hd] at h; cases h
    | ok x =>
      rw [hd] at h
      obtain ⟨g1, g2⟩ := encH_dec hd
      exact ⟨{ p with header := x }, r, by rw [e]; show _ = txt (encH x) ++ r; rw [g1], ⟨g2, by show (encH x).length ≤ _; rw [g1]; exact b⟩, rfl, h⟩
  simp only [if_neg c5] at h ⊢
  by_cases c6 : c = 99
  · simp only [if_pos c6] at h ⊢
    cases hd : decC t with
    | error e => rw [hd] at h; cases h
    | ok x =>
      rw [hd] at h
      obtain ⟨g1, g2, g3, g4, g5⟩ := encC_dec hd
      exact ⟨{ p with cert := x }, r, by rw [e]; show _ = txt (encC x) ++ r; rw [g1], ⟨⟨g2, g3, g4, g5⟩, by show (encC x).length ≤ _; rw [g1]; exact b⟩, rfl, h⟩
  simp only [if_neg c6] at h ⊢
  by_cases c7 : c = 107
  · simp only [if_pos c7] at h ⊢
    cases hd : decK t with
    | error e => rw [hd] at h; cases h
    | ok x =>
      rw [hd] at h
      obtain ⟨g1, g2⟩ := encK_dec hd
      exact ⟨{ p with block := x }, r, by rw [e]; show _ = txt (encK x) ++ r; rw [g1], ⟨g2, by show (encK x).length ≤ _; rw [g1]; exact b⟩, rfl, h⟩
  simp only [if_neg c7] at h ⊢
  cases hd : decQ t with
  | error e => rw [hd] at h; cases h
  | ok x =>
    rw [hd] at h
    obtain ⟨g1, g2⟩ := encQ_dec hd
    exact ⟨{ p with qc := x }, r, by rw [e]; show _ = txt (encQ x) ++ r; rw [g1], ⟨g2, by show (encQ x).length ≤ _; rw [g1]; exact b⟩, rfl, h⟩

/-- The letters of fields. -/
def letters : List UInt8 := [118, 116, 100, 98, 104, 99, 107, 113]

theorem fieldsK_letters (k : Int) : (fieldsK k).Nodup ∧ ∀ c ∈ fieldsK k, c ∈ letters := by
  by_cases h : fieldsK k = []
  · rw [h]; simp
  · rcases kind_cases h with rfl | rfl | rfl | rfl | rfl | rfl | rfl | rfl | rfl | rfl | rfl <;> decide

theorem setF_at : (∀ p m, setF 118 p m = { p with view := m.view }) ∧ (∀ p m, setF 116 p m = { p with tag := m.tag }) ∧ (∀ p m, setF 100 p m = { p with digest := m.digest }) ∧ (∀ p m, setF 98 p m = { p with batch := m.batch }) ∧
    (∀ p m, setF 104 p m = { p with header := m.header }) ∧ (∀ p m, setF 99 p m = { p with cert := m.cert }) ∧ (∀ p m, setF 107 p m = { p with block := m.block }) ∧ (∀ p m, setF 113 p m = { p with qc := m.qc }) :=
  ⟨fun _ _ => rfl, fun _ _ => rfl, fun _ _ => rfl, fun _ _ => rfl, fun _ _ => rfl, fun _ _ => rfl, fun _ _ => rfl, fun _ _ => rfl⟩

/-- A field is not touched by another one. -/
theorem setF_other {c d : UInt8} (hc : c ∈ letters) (hd : d ∈ letters) (h : c ≠ d) (p m : MsgD) : fieldB (setF c p m) d = fieldB p d ∧ (fitF (setF c p m) d ↔ fitF p d) := by
  obtain ⟨s1, s2, s3, s4, s5, s6, s7, s8⟩ := setF_at
  simp only [letters, List.mem_cons, List.not_mem_nil, or_false] at hc
  rcases hc with rfl | rfl | rfl | rfl | rfl | rfl | rfl | rfl
  · have hne : ¬ d = 118 := fun e => h e.symm
    rw [s1]
    constructor <;> simp only [fieldB, fitF, if_neg hne]
  · have hne : ¬ d = 116 := fun e => h e.symm
    rw [s2]
    constructor <;> simp only [fieldB, fitF, if_neg hne]
  · have hne : ¬ d = 100 := fun e => h e.symm
    rw [s3]
    constructor <;> simp only [fieldB, fitF, if_neg hne]
  · have hne : ¬ d = 98 := fun e => h e.symm
    rw [s4]
    constructor <;> simp only [fieldB, fitF, if_neg hne]
  · have hne : ¬ d = 104 := fun e => h e.symm
    rw [s5]
    constructor <;> simp only [fieldB, fitF, if_neg hne]
  · have hne : ¬ d = 99 := fun e => h e.symm
    rw [s6]
    constructor <;> simp only [fieldB, fitF, if_neg hne]
  · have hne : ¬ d = 107 := fun e => h e.symm
    rw [s7]
    constructor <;> simp only [fieldB, fitF, if_neg hne]
  · have hne : ¬ d = 113 := fun e => h e.symm
    rw [s8]
    simp only [letters, List.mem_cons, List.not_mem_nil, or_false, hne] at hd
    rcases hd with hd | hd | hd | hd | hd | hd | hd
    all_goals (constructor <;> simp only [fieldB, fitF, hd] <;> rfl)

theorem setF_kind (c : UInt8) (p m : MsgD) : (setF c p m).kind = p.kind := by
  unfold setF
  repeat' split
  all_goals rfl

def setFs : List UInt8 → MsgD → MsgD → MsgD
  | [], p, _ => p
  | c :: cs, p, m => setFs cs (setF c p m) m

theorem rdFs_enc {α : Type} {m : MsgD} (f : MsgD → List UInt8 → Except Nat α) (r : List UInt8) : ∀ (cs : List UInt8) (p : MsgD), (∀ c ∈ cs, fitF m c) → rdFs cs p (cs.flatMap (fieldB m) ++ r) f = f (setFs cs p m) r
  | [], p, _ => rfl
  | c :: cs, p, h => by
    rw [List.flatMap_cons, List.append_assoc, rdFs, rdF_enc (h c (by simp))]
    exact rdFs_enc f r cs _ (fun x hx => h x (by simp [hx]))

theorem rdFs_back {α : Type} {f : MsgD → List UInt8 → Except Nat α} {d : α} : ∀ (cs : List UInt8) (p : MsgD) (l : List UInt8), cs.Nodup → (∀ c ∈ cs, c ∈ letters) → rdFs cs p l f = .ok d →
    ∃ m r, l = cs.flatMap (fieldB m) ++ r ∧ (∀ c ∈ cs, fitF m c) ∧ m.kind = p.kind ∧ (∀ c ∈ letters, c ∉ cs → fieldB m c = fieldB p c ∧ (fitF m c ↔ fitF p c)) ∧ f m r = .ok d
  | [], p, l, _, _, h => ⟨p, l, rfl, by simp, rfl, fun _ _ _ => ⟨rfl, Iff.rfl⟩, h⟩
  | c :: cs, p, l, hn, hc, h => by
    rw [rdFs] at h
    obtain ⟨q, r0, e0, f0, s0, h⟩ := rdF_back h
    obtain ⟨hn1, hn2⟩ := List.nodup_cons.1 hn
    obtain ⟨m, r, e1, f1, k1, o1, h⟩ := rdFs_back cs q r0 hn2 (fun x hx => hc x (by simp [hx])) h
    have hcl := hc c (by simp)
    have oc := o1 c hcl hn1
    refine ⟨m, r, by rw [e0, e1, List.flatMap_cons, oc.1, List.append_assoc], fun x hx => ?_, by rw [k1, s0, setF_kind], fun x hx hnx => ?_, h⟩
    · rcases List.mem_cons.1 hx with rfl | hx
      · exact oc.2.2 f0
      · exact f1 x hx
    · rw [List.mem_cons, not_or] at hnx
      obtain ⟨a1, a2⟩ := o1 x hx hnx.2
      obtain ⟨b1, b2⟩ := setF_other hcl hx (fun e => hnx.1 e.symm) p q
      rw [← s0] at b1 b2
      exact ⟨a1.trans b1, a2.trans b2⟩

/-- Bytes that are read are written as they were. -/
theorem encM_dec {l : List UInt8} {m : MsgD} (h : decM l = .ok m) : chkM m = 0 ∧ encM m = l ∧ ∀ c ∈ fieldsK m.kind, fitF m c := by
  unfold decM at h
  obtain ⟨k, r0, e0, b0, h⟩ := rdI_back h
  split at h
  · cases h
  obtain ⟨hn, hc⟩ := fieldsK_letters (k : Int)
  obtain ⟨x, r, e1, f1, k1, _, h⟩ := rdFs_back _ _ _ hn hc h
  split at h
  · cases h
  rename_i hr
  split at h
  · cases h
  rename_i hk
  simp only [Except.ok.injEq] at h
  subst h
  have hr0 : r = [] := by simpa using hr
  subst hr0
  have hkk : x.kind = (k : Int) := k1
  refine ⟨by omega, ?_, by rw [hkk]; exact f1⟩
  unfold encM
  rw [hkk, goInt_nat k b0, e0, e1, List.append_nil]

/-- What was read is a message with the fields of its kind alone. -/
theorem setFs_bare {m : MsgD} (h : m.Bare) (hk : fieldsK m.kind ≠ []) : setFs (fieldsK m.kind) (msgZ m.kind) m = m := by
  obtain ⟨kind, dg, vw, tg, bt, hd, ct, bk, qc⟩ := m
  obtain ⟨h1, h2, h3, h4, h5, h6, h7, h8⟩ := h
  simp only at h1 h2 h3 h4 h5 h6 h7 h8 hk ⊢
  have z1 : 100 ∉ fieldsK kind → dg = ⟨#[]⟩ := fun hn => bytes_nil (h1.resolve_left hn)
  have z2 : 118 ∉ fieldsK kind → vw = 0 := fun hn => h2.resolve_left hn
  have z3 : 116 ∉ fieldsK kind → tg = tagZ := fun hn => (h3.resolve_left hn).eq
  have z4 : 98 ∉ fieldsK kind → bt = batZ := fun hn => (h4.resolve_left hn).eq
  have z5 : 104 ∉ fieldsK kind → hd = hdrZ := fun hn => (h5.resolve_left hn).eq
  have z6 : 99 ∉ fieldsK kind → ct = certZ := fun hn => (h6.resolve_left hn).eq
  have z7 : 107 ∉ fieldsK kind → bk = blkZ := fun hn => (h7.resolve_left hn).eq
  have z8 : 113 ∉ fieldsK kind → qc = qcZ := fun hn => (h8.resolve_left hn).eq
  clear h1 h2 h3 h4 h5 h6 h7 h8
  rcases kind_cases hk with rfl | rfl | rfl | rfl | rfl | rfl | rfl | rfl | rfl | rfl | rfl
  · rw [z1 (by decide), z2 (by decide), z3 (by decide), z5 (by decide), z6 (by decide), z7 (by decide), z8 (by decide)]; rfl
  · rw [z2 (by decide), z4 (by decide), z5 (by decide), z6 (by decide), z7 (by decide), z8 (by decide)]; rfl
  · rw [z1 (by decide), z2 (by decide), z3 (by decide), z4 (by decide), z6 (by decide), z7 (by decide), z8 (by decide)]; rfl
  · rw [z2 (by decide), z4 (by decide), z5 (by decide), z6 (by decide), z7 (by decide), z8 (by decide)]; rfl
  · rw [z1 (by decide), z2 (by decide), z3 (by decide), z4 (by decide), z5 (by decide), z7 (by decide), z8 (by decide)]; rfl
  · rw [z1 (by decide), z2 (by decide), z4 (by decide), z5 (by decide), z6 (by decide), z8 (by decide)]; rfl
  · rw [z4 (by decide), z5 (by decide), z6 (by decide), z7 (by decide), z8 (by decide)]; rfl
  · rw [z1 (by decide), z4 (by decide), z5 (by decide), z6 (by decide), z7 (by decide)]; rfl
  · rw [z2 (by decide), z3 (by decide), z4 (by decide), z5 (by decide), z6 (by decide), z7 (by decide), z8 (by decide)]; rfl
  · rw [z2 (by decide), z3 (by decide), z4 (by decide), z5 (by decide), z6 (by decide), z7 (by decide), z8 (by decide)]; rfl
  · rw [z2 (by decide), z3 (by decide), z4 (by decide), z5 (by decide), z6 (by decide), z7 (by decide), z8 (by decide)]; rfl

theorem flat_ge {f : UInt8 → List UInt8} {c : UInt8} : ∀ {cs : List UInt8}, c ∈ cs → (f c).length ≤ (cs.flatMap f).length
  | [], h => by cases h
  | d :: cs, h => by
    rw [List.flatMap_cons, List.length_append]
    rcases List.mem_cons.1 h with rfl | h
    · omega
    · have := flat_ge (f := f) h
      omega

theorem txt_ge (l : List UInt8) : l.length ≤ (txt l).length := by
  rw [txt, List.length_append]
  omega

theorem chkM_parts {m : MsgD} (h : chkM m = 0) : fieldsK m.kind ≠ [] ∧ m.Bare ∧ (98 ∈ fieldsK m.kind → checkB m.batch = 0) ∧ (98 ∉ fieldsK m.kind → m.Ok) := by
  unfold chkM at h
  split at h
  · cases h
  rename_i h1
  split at h
  · cases h
  rename_i h2
  refine ⟨h1, Decidable.of_not_not h2, fun h3 => ?_, fun h3 => ?_⟩
  · rw [if_pos h3] at h
    exact h
  · rw [if_neg h3] at h
    split at h
    · exact okM_iff.1 (by assumption)
    · cases h

theorem batch_alone {k : Int} {c : UInt8} (hc : c ∈ fieldsK k) (h : c ≠ 98) : 98 ∉ fieldsK k := by
  have hk : fieldsK k ≠ [] := fun e => by rw [e] at hc; cases hc
  rcases kind_cases hk with rfl | rfl | rfl | rfl | rfl | rfl | rfl | rfl | rfl | rfl | rfl
  · have : c ∈ ([98] : List UInt8) := hc
    simp at this
    exact absurd this h
  all_goals decide

/-- A right message's fields can be read, if its bytes are few. -/
theorem right_fitF {m : MsgD} (h : chkM m = 0) (hl : (encM m).length ≤ 65536) : ∀ c ∈ fieldsK m.kind, fitF m c := by
  intro c hc
  obtain ⟨h1, h2, h3, h4⟩ := chkM_parts h
  have hle : (fieldB m c).length ≤ 65536 := by
    have := flat_ge (f := fieldB m) hc
    unfold encM at hl
    rw [List.length_append] at hl
    omega
  unfold fitF
  unfold fieldB at hle
  by_cases c1 : c = 118
  · rw [if_pos c1]
    exact (h4 (batch_alone hc (by rw [c1]; decide))).num
  rw [if_neg c1]
  rw [if_neg c1] at hle
  by_cases c2 : c = 116
  · rw [if_pos c2]
    rw [c2] at hc
    exact ((h4 (batch_alone hc (by decide))).tag hc).fit
  rw [if_neg c2]
  rw [if_neg c2] at hle
  by_cases c3 : c = 100
  · rw [if_pos c3]
    rw [c3] at hc
    have := (h4 (batch_alone hc (by decide))).dig hc
    omega
  rw [if_neg c3]
  rw [if_neg c3] at hle
  by_cases c4 : c = 98
  · rw [if_pos c4]
    rw [if_pos c4] at hle
    rw [c4] at hc
    exact ⟨h3 hc, Nat.le_trans (txt_ge _) hle⟩
  have hok := h4 (batch_alone hc c4)
  rw [if_neg c4]
  rw [if_neg c4] at hle
  by_cases c5 : c = 104
  · rw [if_pos c5]
    rw [if_pos c5] at hle
    exact ⟨hdr_plain_fit hok.hdr, Nat.le_trans (txt_ge _) hle⟩
  rw [if_neg c5]
  rw [if_neg c5] at hle
  by_cases c6 : c = 99
  · rw [if_pos c6]
    rw [if_pos c6] at hle
    have hp := hok.cert
    have he : (encC m.cert).length ≤ 65536 := Nat.le_trans (txt_ge _) hle
    have he2 : (encH m.cert.header).length ≤ 65536 := by
      unfold encC at he
      rw [List.length_append] at he
      have := txt_ge (encH m.cert.header)
      omega
    exact ⟨⟨hdr_plain_fit hp.1, he2, hp.2.2, fun t ht => (hp.2.1 t ht).fit⟩, he⟩
  rw [if_neg c6]
  rw [if_neg c6] at hle
  by_cases c7 : c = 107
  · rw [if_pos c7]
    rw [if_pos c7] at hle
    rw [c7] at hc
    have hp := hok.blk hc
    have he : (encK m.block).length ≤ 65536 := Nat.le_trans (txt_ge _) hle
    have he2 : (encQ m.block.qc).length ≤ 65536 := by
      unfold encK at he
      rw [List.length_append, List.length_append] at he
      have := txt_ge (encQ m.block.qc)
      omega
    exact ⟨⟨hp.1.1, hp.1.2, ⟨hp.2.1.1.1, hp.2.1.1.2, by have := hp.2.1.2.1; omega, hp.2.1.2.2.2, fun t ht => (hp.2.1.2.2.1 t ht).fit⟩, he2, hp.2.2.1, fun c hc => by have := hp.2.2.2 c hc; omega⟩, he⟩
  rw [if_neg c7]
  rw [if_neg c7] at hle
  have hq : 113 ∈ fieldsK m.kind := by
    have := (fieldsK_letters m.kind).2 c hc
    simp only [letters, List.mem_cons, List.not_mem_nil, or_false, c1, c2, c3, c4, c5, c6, c7, false_or] at this
    rw [← this]
    exact hc
  have hp := hok.qc hq
  exact ⟨⟨hp.1.1, hp.1.2, by have := hp.2.1; omega, hp.2.2.2, fun t ht => (hp.2.2.1 t ht).fit⟩, Nat.le_trans (txt_ge _) hle⟩

/-- A message that is written is read as it was; with more behind it that is told. -/
theorem decM_enc {m : MsgD} (h : chkM m = 0) (hf : ∀ c ∈ fieldsK m.kind, fitF m c) (r : List UInt8) : decM (encM m ++ r) = if r = [] then .ok m else .error 6 := by
  obtain ⟨h1, h2, _, _⟩ := chkM_parts h
  have hk := kind_cases h1
  obtain ⟨k, hkk⟩ := Int.eq_ofNat_of_zero_le (show 0 ≤ m.kind by omega)
  have e : encM m ++ r = enc k ++ ((fieldsK m.kind).flatMap (fieldB m) ++ r) := by
    unfold encM
    rw [hkk, goInt_nat k (by omega), List.append_assoc]
  rw [e]
  unfold decM
  rw [rdI_enc k _ (by omega), ← hkk, if_neg h1, rdFs_enc _ r _ _ hf, setFs_bare h2 h1]
  by_cases hr : r = []
  · rw [if_neg (by simpa using hr), if_neg (by rw [h]; simp), if_pos hr]
  · rw [if_pos hr, if_neg hr]

/-- What is cut off is refused. -/
theorem decM_cut {m : MsgD} (h : chkM m = 0) (hf : ∀ c ∈ fieldsK m.kind, fitF m c) {n : Nat} (hn : n < (encM m).length) : ∀ x, decM ((encM m).take n) ≠ .ok x := by
  intro x hx
  obtain ⟨a, b, c⟩ := encM_dec hx
  have h1 := decM_enc a c ((encM m).drop n)
  rw [b, List.take_append_drop, if_neg (by
    intro e
    have := congrArg List.length e
    rw [List.length_drop] at this
    simp at this
    omega)] at h1
  have h2 := decM_enc h hf []
  rw [List.append_nil, if_pos rfl, h1] at h2
  cases h2
end Go.Proofs.YtmngiekobmhpaaaGreat
