/- Texts as one: HdrRows, CertMath, Sets, CertRows, BlkRows, MsgMath. -/
import Derived.Test.YtmngiekobmhpaaaGreatRk06
import Derived.Test.YtmngiekobmhpaaaGreatRk03
import Derived.Test.YtmngiekobmhpaaaGreatRk04
/- Tags, Refs and headers as they lie in memory. -/
namespace Go.Proofs.YtmngiekobmhpaaaGreat
open Go.RowKit
set_option linter.unusedVariables false

/-- Tags. -/
def tagK : Kind TagD where
  n := 2
  c t := [.int .i64 t.who, .string t.mac]
  foot _ _ := False
  At _ _ := True
  pos := by decide
  len _ := rfl
  one x u hu := by
    simp only [List.mem_cons, List.not_mem_nil, or_false] at hu
    rcases hu with rfl | rfl <;> rfl
  lt _ h := h.elim
  keep _ _ := trivial

/-- Texts. -/
def strK : Kind ByteArray where
  n := 1
  c s := [.string s]
  foot _ _ := False
  At _ _ := True
  pos := by decide
  len _ := rfl
  one x u hu := by
    simp only [List.mem_cons, List.not_mem_nil, or_false] at hu
    rcases hu with rfl; rfl
  lt _ h := h.elim
  keep _ _ := trivial

theorem RowAt.strs {w : World} {ao : Option Addr} {l : List ByteArray} (h : RowAt strK w ao l) : StrsAt w ao l := by
  intro j hj
  obtain ⟨b, off, h1, h2, h3⟩ := h.cell j l[j] (List.getElem?_eq_getElem hj)
  refine ⟨b, off, h1, h2, ?_⟩
  have := h3 0 (.string l[j]) rfl
  have e : off + j * strK.n + 0 = off + j := by show off + j * 1 + 0 = _; omega
  rw [e] at this
  exact this

theorem StrsAt.row {w : World} {ao : Option Addr} {l : List ByteArray} (h : StrsAt w ao l) : RowAt strK w ao l := by
  refine ⟨fun j x hx => ?_, fun _ _ => trivial⟩
  obtain ⟨hj, rfl⟩ := List.getElem?_eq_some_iff.1 hx
  obtain ⟨b, off, h1, h2, h3⟩ := h j hj
  refine ⟨b, off, h1, h2, fun i v hv => ?_⟩
  match i, hv with
  | 0, hv =>
    simp [strK] at hv
    subst hv
    have e : off + j * strK.n + 0 = off + j := by show off + j * 1 + 0 = _; omega
    rw [e]
    exact h3

theorem strs_foot {ao : Option Addr} {l : List ByteArray} {b : Nat} (h : rowFoot strK ao l b) : 0 < l.length ∧ ∃ off, ao = some ⟨b, off, none⟩ := by
  rcases h with ⟨hl, h⟩ | ⟨_, _, h⟩
  · exact ⟨List.length_pos_iff.2 hl, h⟩
  · exact h.elim

theorem OwnStrs.foot {base : Nat} {w : World} {ao : Option Addr} {l : List ByteArray} (h : OwnStrs base w ao l) {b : Nat} (hf : rowFoot strK ao l b) : base ≤ b := by
  obtain ⟨hl, off, e⟩ := strs_foot hf
  obtain ⟨b', off', e', hb, _⟩ := h 0 hl
  rw [e] at e'
  simp at e'
  omega

/-- A Ref as it lies in memory. -/
structure RefM where
  digest : ByteArray
  acks : List TagD
  ao : Option Addr
  cap : Nat

def RefM.d (x : RefM) : RefD := ⟨x.digest, x.acks⟩

def refK : Kind RefM where
  n := 2
  c x := [.string x.digest, .slice x.ao x.acks.length x.cap]
  foot x := rowFoot tagK x.ao x.acks
  At w x := RowAt tagK w x.ao x.acks ∧ (x.ao = none → x.cap = 0)
  pos := by decide
  len _ := rfl
  one x u hu := by
    simp only [List.mem_cons, List.not_mem_nil, or_false] at hu
    rcases hu with rfl | rfl <;> rfl
  lt h hf := h.1.lt hf
  keep h hk := ⟨h.1.keep hk, h.2⟩

/-- The data of Refs. -/
def rd (l : List RefM) : List RefD := l.map RefM.d

theorem rd_length (l : List RefM) : (rd l).length = l.length := by simp [rd]

/-- A header as it lies in memory. -/
structure HdrM where
  author : Int
  round : Int
  ra : Option Addr
  refs : List RefM
  rc : Nat
  pa : Option Addr
  parents : List ByteArray
  pc : Nat

def HdrM.d (h : HdrM) : HdrD := ⟨h.author, h.round, rd h.refs, h.parents⟩
def HdrM.c (h : HdrM) : List Value := [.int .i64 h.author, .int .i64 h.round, .slice h.ra h.refs.length h.rc, .slice h.pa h.parents.length h.pc]
def HdrM.v (h : HdrM) : Value := .agg #[.int .i64 h.author, .int .i64 h.round, .slice h.ra h.refs.length h.rc, .slice h.pa h.parents.length h.pc]

/-- Its lists lie in memory, and nil is nil. -/
structure HdrM.At (w : World) (h : HdrM) : Prop where
  refs : RowAt refK w h.ra h.refs
  nr : h.ra = none → h.rc = 0
  ps : RowAt strK w h.pa h.parents
  np : h.pa = none → h.pc = 0

def HdrM.foot (h : HdrM) (b : Nat) : Prop := rowFoot refK h.ra h.refs b ∨ rowFoot strK h.pa h.parents b

def hdrK : Kind HdrM where
  n := 4
  c := HdrM.c
  foot := HdrM.foot
  At := HdrM.At
  pos := by decide
  len _ := rfl
  one x u hu := by
    simp only [HdrM.c, List.mem_cons, List.not_mem_nil, or_false] at hu
    rcases hu with rfl | rfl | rfl | rfl <;> rfl
  lt h hf := hf.elim h.refs.lt h.ps.lt
  keep h hk := ⟨h.refs.keep (fun b hb => hk b (Or.inl hb)), h.nr, h.ps.keep (fun b hb => hk b (Or.inr hb)), h.np⟩

theorem HdrM.At.below {w w' : World} {h : HdrM} (ha : h.At w) (hb : Below w.heap.size w w') : h.At w' := Kind.below hdrK ha hb

/-- The two cells of a tag in a row. -/
theorem RowAt.tag {w : World} {ao : Option Addr} {l : List TagD} (h : RowAt tagK w ao l) {i : Nat} {t : TagD} (ht : l[i]? = some t) :
    ∃ b off, ao = some ⟨b, off, none⟩ ∧ b < w.heap.size ∧ w.cell? ⟨b, off + i * 2, none⟩ = some (.int .i64 t.who) ∧ w.cell? ⟨b, off + i * 2 + 1, none⟩ = some (.string t.mac) := by
  obtain ⟨b, off, h1, h2, h3⟩ := h.cell i t ht
  exact ⟨b, off, h1, h2, h3 0 _ rfl, h3 1 _ rfl⟩

/-- The two cells of a Ref in a row. -/
theorem RowAt.ref {w : World} {ao : Option Addr} {l : List RefM} (h : RowAt refK w ao l) {i : Nat} {x : RefM} (hx : l[i]? = some x) :
    ∃ b off, ao = some ⟨b, off, none⟩ ∧ b < w.heap.size ∧ w.cell? ⟨b, off + i * 2, none⟩ = some (.string x.digest) ∧ w.cell? ⟨b, off + i * 2 + 1, none⟩ = some (.slice x.ao x.acks.length x.cap) := by
  obtain ⟨b, off, h1, h2, h3⟩ := h.cell i x hx
  exact ⟨b, off, h1, h2, h3 0 _ rfl, h3 1 _ rfl⟩

theorem infoTag6 : (Tryz.prog.info? 23).map (fun i => (i.zero, i.size, i.bytes)) = some (some (.agg #[.int .i64 0, .string ⟨#[]⟩]), 2, 24) := by kernel_rfl

theorem infoRef6 : (Tryz.prog.info? 126).map (fun i => (i.zero, i.size, i.bytes)) = some (some (.agg #[.string ⟨#[]⟩, .slice none 0 0]), 2, 40) := by kernel_rfl

theorem infoHdr6 : (Tryz.prog.info? 30).map (·.size) = some 4 := by kernel_rfl
end Go.Proofs.YtmngiekobmhpaaaGreat

/- The mathematics of layers 7 and 8: bytes of certificates, of quorums' certificates and of blocks, both ways round. -/
namespace Go.Proofs.YtmngiekobmhpaaaGreat
open Go.RowKit
set_option linter.unusedVariables false

/-- A certificate. -/
structure CertD where
  header : HdrD
  votes : List TagD

def encC (c : CertD) : List UInt8 := txt (encH c.header) ++ tagsB c.votes

def decC (l : List UInt8) : Except Nat CertD :=
  rdT l fun t l => match decH t with
    | .error e => .error e
    | .ok h => rdG l fun v l => if l ≠ [] then .error 6 else .ok ⟨h, v⟩

theorem encC_dec {l : List UInt8} {c : CertD} (h : decC l = .ok c) : encC c = l ∧ c.header.Fit ∧ (encH c.header).length ≤ 65536 ∧ c.votes.length ≤ 7 ∧ ∀ t ∈ c.votes, t.Fit := by
  unfold decC at h
  obtain ⟨t, r, e1, b1, h⟩ := rdT_back h
  cases hd : decH t with
  | error e => rw [hd] at h; cases h
  | ok x =>
    rw [hd] at h
    simp only at h
    obtain ⟨v, r2, e2, b2, b3, h⟩ := rdG_back h
    split at h
    · cases h
    rename_i h1
    simp only [Except.ok.injEq] at h
    subst h
    have hr : r2 = [] := by simpa using h1
    subst hr
    obtain ⟨g1, g2⟩ := encH_dec hd
    refine ⟨?_, g2, by rw [g1]; exact b1, b2, b3⟩
    unfold encC
    simp only
    rw [g1, e1, e2, List.append_nil]

/-- That enough have voted for a block of a view. -/
structure QcD where
  view : Int
  block : ByteArray
  votes : List TagD

def encQ (q : QcD) : List UInt8 := goInt q.view ++ txt q.block.data.toList ++ tagsB q.votes

def decQ (l : List UInt8) : Except Nat QcD :=
  rdI l fun v l => rdT l fun b l => rdG l fun t l => if l ≠ [] then .error 6 else .ok ⟨(v : Int), ⟨b.toArray⟩, t⟩

/-- One that can be read. -/
structure QcD.Fit (q : QcD) : Prop where
  v0 : 0 ≤ q.view
  vM : q.view ≤ 4611686018427387903
  blk : q.block.size ≤ 65536
  few : q.votes.length ≤ 7
  all : ∀ t ∈ q.votes, t.Fit

theorem encQ_dec {l : List UInt8} {q : QcD} (h : decQ l = .ok q) : encQ q = l ∧ q.Fit := by
  unfold decQ at h
  obtain ⟨v, r0, e0, b0, h⟩ := rdI_back h
  obtain ⟨b, r1, e1, b1, h⟩ := rdT_back h
  obtain ⟨t, r2, e2, b2, b3, h⟩ := rdG_back h
  split at h
  · cases h
  rename_i h1
  simp only [Except.ok.injEq] at h
  subst h
  have hr : r2 = [] := by simpa using h1
  subst hr
  refine ⟨?_, by show (0 : Int) ≤ v; omega, by show (v : Int) ≤ _; omega, by show (⟨b.toArray⟩ : ByteArray).size ≤ _; rw [size_mk]; exact b1, b2, b3⟩
  unfold encQ
  simp only
  rw [goInt_nat v b0, e0, e1, e2, List.append_nil, List.append_assoc]

/-- A block. -/
structure BlkD where
  view : Int
  qc : QcD
  certs : List ByteArray

def encK (b : BlkD) : List UInt8 := goInt b.view ++ txt (encQ b.qc) ++ lst (bl b.certs)

def decK (l : List UInt8) : Except Nat BlkD :=
  rdI l fun v l => rdT l fun t l => match decQ t with
    | .error e => .error e
    | .ok q => rdL 8 l fun cs l => if l ≠ [] then .error 6 else .ok ⟨(v : Int), q, mks cs⟩

/-- One that can be read. -/
structure BlkD.Fit (b : BlkD) : Prop where
  v0 : 0 ≤ b.view
  vM : b.view ≤ 4611686018427387903
  qc : b.qc.Fit
  len : (encQ b.qc).length ≤ 65536
  few : b.certs.length ≤ 8
  all : ∀ c ∈ b.certs, c.size ≤ 65536

theorem encK_dec {l : List UInt8} {b : BlkD} (h : decK l = .ok b) : encK b = l ∧ b.Fit := by
  unfold decK at h
  obtain ⟨v, r0, e0, b0, h⟩ := rdI_back h
  obtain ⟨t, r1, e1, b1, h⟩ := rdT_back h
  cases hq : decQ t with
  | error e => rw [hq] at h; cases h
  | ok q =>
    rw [hq] at h
    simp only at h
    obtain ⟨cs, r2, e2, b2, b3, h⟩ := rdL_back h
    split at h
    · cases h
    rename_i h1
    simp only [Except.ok.injEq] at h
    subst h
    have hr : r2 = [] := by simpa using h1
    subst hr
    obtain ⟨g1, g2⟩ := encQ_dec hq
    refine ⟨?_, by show (0 : Int) ≤ v; omega, by show (v : Int) ≤ _; omega, g2, by show (encQ q).length ≤ _; rw [g1]; exact b1, by show (mks cs).length ≤ 8; simp [mks]; omega, ?_⟩
    · unfold encK
      simp only [bl_mks]
      rw [g1, goInt_nat v b0, e0, e1, e2, List.append_nil, List.append_assoc]
    · intro c hc
      obtain ⟨x, hx, rfl⟩ := List.mem_map.1 hc
      rw [size_mk]
      exact b3 x hx
end Go.Proofs.YtmngiekobmhpaaaGreat

/- Cells of a block that are written one behind the other. -/
namespace Go.Proofs.YtmngiekobmhpaaaGreat
open Go.RowKit
set_option linter.unusedVariables false

/-- Three cells of a block are written. -/
def set3 (w : World) (g : Nat) (v0 v1 v2 : Value) : World := ((w.setCell ⟨g, 0, none⟩ v0).setCell ⟨g, 1, none⟩ v1).setCell ⟨g, 2, none⟩ v2

theorem Arr.set3 {w : World} {g : Nat} {t : TypeId} {a0 a1 a2 : Value} (h : Arr w g t [a0, a1, a2]) (v0 v1 v2 : Value) : Arr (Proofs.YtmngiekobmhpaaaGreat.set3 w g v0 v1 v2) g t [v0, v1, v2] := ((h.set 0 v0).set 1 v1).set 2 v2

theorem below_set3 {B : Nat} {w w' : World} (h : Below B w w') {g : Nat} (hg : B ≤ g) (v0 v1 v2 : Value) : Below B w (set3 w' g v0 v1 v2) :=
  ((h.setCell (p := ⟨g, 0, none⟩) hg v0).setCell (p := ⟨g, 1, none⟩) hg v1).setCell (p := ⟨g, 2, none⟩) hg v2

theorem kept_set3 (w : World) (g : Nat) (v0 v1 v2 : Value) : Kept (fun k => k = g) w (set3 w g v0 v1 v2) :=
  (((Kept.refl (fun k => k = g) w).set (p := ⟨g, 0, none⟩) rfl v0).set (p := ⟨g, 1, none⟩) rfl v1).set (p := ⟨g, 2, none⟩) rfl v2

/-- Five cells of a block are written. -/
def set5 (w : World) (g : Nat) (v0 v1 v2 v3 v4 : Value) : World := ((((w.setCell ⟨g, 0, none⟩ v0).setCell ⟨g, 1, none⟩ v1).setCell ⟨g, 2, none⟩ v2).setCell ⟨g, 3, none⟩ v3).setCell ⟨g, 4, none⟩ v4

theorem Arr.set5 {w : World} {g : Nat} {t : TypeId} {a0 a1 a2 a3 a4 : Value} (h : Arr w g t [a0, a1, a2, a3, a4]) (v0 v1 v2 v3 v4 : Value) : Arr (Proofs.YtmngiekobmhpaaaGreat.set5 w g v0 v1 v2 v3 v4) g t [v0, v1, v2, v3, v4] := ((((h.set 0 v0).set 1 v1).set 2 v2).set 3 v3).set 4 v4

theorem below_set5 {B : Nat} {w w' : World} (h : Below B w w') {g : Nat} (hg : B ≤ g) (v0 v1 v2 v3 v4 : Value) : Below B w (set5 w' g v0 v1 v2 v3 v4) :=
  ((((h.setCell (p := ⟨g, 0, none⟩) hg v0).setCell (p := ⟨g, 1, none⟩) hg v1).setCell (p := ⟨g, 2, none⟩) hg v2).setCell (p := ⟨g, 3, none⟩) hg v3).setCell (p := ⟨g, 4, none⟩) hg v4

theorem kept_set5 (w : World) (g : Nat) (v0 v1 v2 v3 v4 : Value) : Kept (fun k => k = g) w (set5 w g v0 v1 v2 v3 v4) :=
  (((((Kept.refl (fun k => k = g) w).set (p := ⟨g, 0, none⟩) rfl v0).set (p := ⟨g, 1, none⟩) rfl v1).set (p := ⟨g, 2, none⟩) rfl v2).set (p := ⟨g, 3, none⟩) rfl v3).set (p := ⟨g, 4, none⟩) rfl v4
end Go.Proofs.YtmngiekobmhpaaaGreat

/- Certificates as they lie in memory. -/
namespace Go.Proofs.YtmngiekobmhpaaaGreat
open Go.RowKit
set_option linter.unusedVariables false

/-- A certificate as it lies in memory. -/
structure CertM where
  hdr : HdrM
  va : Option Addr
  votes : List TagD
  vc : Nat

def CertM.d (x : CertM) : CertD := ⟨x.hdr.d, x.votes⟩
def CertM.c (x : CertM) : List Value := [.int .i64 x.hdr.author, .int .i64 x.hdr.round, .slice x.hdr.ra x.hdr.refs.length x.hdr.rc, .slice x.hdr.pa x.hdr.parents.length x.hdr.pc, .slice x.va x.votes.length x.vc]
def CertM.v (x : CertM) : Value := .agg #[.int .i64 x.hdr.author, .int .i64 x.hdr.round, .slice x.hdr.ra x.hdr.refs.length x.hdr.rc, .slice x.hdr.pa x.hdr.parents.length x.hdr.pc, .slice x.va x.votes.length x.vc]

/-- Its lists lie in memory, and nil is nil. -/
structure CertM.At (w : World) (x : CertM) : Prop where
  hdr : x.hdr.At w
  votes : RowAt tagK w x.va x.votes
  nv : x.va = none → x.vc = 0

def CertM.foot (x : CertM) (b : Nat) : Prop := x.hdr.foot b ∨ rowFoot tagK x.va x.votes b

def certK : Kind CertM where
  n := 5
  c := CertM.c
  foot := CertM.foot
  At := CertM.At
  pos := by decide
  len _ := rfl
  one x u hu := by
    simp only [CertM.c, List.mem_cons, List.not_mem_nil, or_false] at hu
    rcases hu with rfl | rfl | rfl | rfl | rfl <;> rfl
  lt h hf := hf.elim (fun q => Kind.lt hdrK h.hdr q) h.votes.lt
  keep h hk := ⟨Kind.keep hdrK h.hdr (fun b hb => hk b (Or.inl hb)), h.votes.keep (fun b hb => hk b (Or.inr hb)), h.nv⟩

theorem CertM.At.below {w w' : World} {x : CertM} (ha : x.At w) (hb : Below w.heap.size w w') : x.At w' := Kind.below certK ha hb

/-- No certificate. -/
def cert0 : CertM := ⟨⟨0, 0, none, [], 0, none, [], 0⟩, none, [], 0⟩

theorem cert0_at (w : World) : cert0.At w := ⟨⟨nil_row _ _, fun _ => rfl, nil_row _ _, fun _ => rfl⟩, nil_row _ _, fun _ => rfl⟩

theorem infoCert7 : (Tryz.prog.info? 33).map (·.size) = some 5 := by kernel_rfl
end Go.Proofs.YtmngiekobmhpaaaGreat

/- Quorums' certificates and blocks as they lie in memory. -/
namespace Go.Proofs.YtmngiekobmhpaaaGreat
open Go.RowKit
set_option linter.unusedVariables false

/-- A quorum's certificate as it lies in memory. -/
structure QcM where
  view : Int
  block : ByteArray
  va : Option Addr
  votes : List TagD
  vc : Nat

def QcM.d (x : QcM) : QcD := ⟨x.view, x.block, x.votes⟩
def QcM.c (x : QcM) : List Value := [.int .i64 x.view, .string x.block, .slice x.va x.votes.length x.vc]
def QcM.v (x : QcM) : Value := .agg #[.int .i64 x.view, .string x.block, .slice x.va x.votes.length x.vc]

/-- Its votes lie in memory, and nil is nil. -/
structure QcM.At (w : World) (x : QcM) : Prop where
  votes : RowAt tagK w x.va x.votes
  nv : x.va = none → x.vc = 0

def QcM.foot (x : QcM) (b : Nat) : Prop := rowFoot tagK x.va x.votes b

def qcK : Kind QcM where
  n := 3
  c := QcM.c
  foot := QcM.foot
  At := QcM.At
  pos := by decide
  len _ := rfl
  one x u hu := by
    simp only [QcM.c, List.mem_cons, List.not_mem_nil, or_false] at hu
    rcases hu with rfl | rfl | rfl <;> rfl
  lt h hf := h.votes.lt hf
  keep h hk := ⟨h.votes.keep hk, h.nv⟩

theorem QcM.At.below {w w' : World} {x : QcM} (ha : x.At w) (hb : Below w.heap.size w w') : x.At w' := Kind.below qcK ha hb

/-- No quorum's certificate. -/
def qc0 : QcM := ⟨0, ⟨#[]⟩, none, [], 0⟩

theorem qc0_at (w : World) : qc0.At w := ⟨nil_row _ _, fun _ => rfl⟩

theorem infoQc8 : (Tryz.prog.info? 35).map (·.size) = some 3 := by kernel_rfl

/-- A block as it lies in memory. -/
structure BlkM where
  view : Int
  qc : QcM
  ca : Option Addr
  certs : List ByteArray
  cc : Nat

def BlkM.d (x : BlkM) : BlkD := ⟨x.view, x.qc.d, x.certs⟩
def BlkM.c (x : BlkM) : List Value := [.int .i64 x.view, .int .i64 x.qc.view, .string x.qc.block, .slice x.qc.va x.qc.votes.length x.qc.vc, .slice x.ca x.certs.length x.cc]
def BlkM.v (x : BlkM) : Value := .agg #[.int .i64 x.view, .int .i64 x.qc.view, .string x.qc.block, .slice x.qc.va x.qc.votes.length x.qc.vc, .slice x.ca x.certs.length x.cc]

/-- Its lists lie in memory, and nil is nil. -/
structure BlkM.At (w : World) (x : BlkM) : Prop where
  qc : x.qc.At w
  certs : RowAt strK w x.ca x.certs
  nc : x.ca = none → x.cc = 0

def BlkM.foot (x : BlkM) (b : Nat) : Prop := x.qc.foot b ∨ rowFoot strK x.ca x.certs b

def blkK : Kind BlkM where
  n := 5
  c := BlkM.c
  foot := BlkM.foot
  At := BlkM.At
  pos := by decide
  len _ := rfl
  one x u hu := by
    simp only [BlkM.c, List.mem_cons, List.not_mem_nil, or_false] at hu
    rcases hu with rfl | rfl | rfl | rfl | rfl <;> rfl
  lt h hf := hf.elim (fun q => Kind.lt qcK h.qc q) h.certs.lt
  keep h hk := ⟨Kind.keep qcK h.qc (fun b hb => hk b (Or.inl hb)), h.certs.keep (fun b hb => hk b (Or.inr hb)), h.nc⟩

theorem BlkM.At.below {w w' : World} {x : BlkM} (ha : x.At w) (hb : Below w.heap.size w w') : x.At w' := Kind.below blkK ha hb

/-- No block. -/
def blk0 : BlkM := ⟨0, qc0, none, [], 0⟩

theorem blk0_at (w : World) : blk0.At w := ⟨qc0_at w, nil_row _ _, fun _ => rfl⟩

theorem infoBlk8 : (Tryz.prog.info? 37).map (·.size) = some 5 := by kernel_rfl
end Go.Proofs.YtmngiekobmhpaaaGreat

/- The mathematics of layer 9: when a message is right, its bytes, both ways round. -/
namespace Go.Proofs.YtmngiekobmhpaaaGreat
open Go.RowKit
set_option linter.unusedVariables false

/-- A message. -/
structure MsgD where
  kind : Int
  digest : ByteArray
  view : Int
  tag : TagD
  batch : BatD
  header : HdrD
  cert : CertD
  block : BlkD
  qc : QcD

def tagZ : TagD := ⟨0, ⟨#[]⟩⟩
def batZ : BatD := ⟨0, 0, []⟩
def hdrZ : HdrD := ⟨0, 0, [], []⟩
def certZ : CertD := ⟨hdrZ, []⟩
def qcZ : QcD := ⟨0, ⟨#[]⟩, []⟩
def blkZ : BlkD := ⟨0, qcZ, []⟩

/-- A message with a kind alone. -/
def msgZ (k : Int) : MsgD := ⟨k, ⟨#[]⟩, 0, tagZ, batZ, hdrZ, certZ, blkZ, qcZ⟩

/-- The fields of a kind: b batch, d digest, v view, t tag, h header, c cert, k block, q Qc. -/
def fieldsK (k : Int) : List UInt8 :=
  if k = 1 then [98] else if k = 2 then [100, 116] else if k = 3 then [104] else if k = 4 then [100, 116] else if k = 5 then [99] else if k = 6 then [107, 116]
  else if k = 7 then [118, 100, 116] else if k = 8 then [118, 113, 116] else if k = 9 then [100] else if k = 10 then [100] else if k = 11 then [100] else []

theorem fieldsK_none {k : Int} (h : k < 1 ∨ 11 < k) : fieldsK k = [] := by
  unfold fieldsK
  rw [if_neg (by omega), if_neg (by omega), if_neg (by omega), if_neg (by omega), if_neg (by omega), if_neg (by omega), if_neg (by omega), if_neg (by omega), if_neg (by omega), if_neg (by omega), if_neg (by omega)]

theorem kind_cases {k : Int} (h : fieldsK k ≠ []) : k = 1 ∨ k = 2 ∨ k = 3 ∨ k = 4 ∨ k = 5 ∨ k = 6 ∨ k = 7 ∨ k = 8 ∨ k = 9 ∨ k = 10 ∨ k = 11 := by
  have h1 : ¬ (k < 1 ∨ 11 < k) := fun hc => h (fieldsK_none hc)
  omega

/-- Fields that hold nothing. -/
abbrev TagD.Nil (t : TagD) : Prop := t.who = 0 ∧ t.mac.size = 0
abbrev BatD.Nil (b : BatD) : Prop := b.author = 0 ∧ b.number = 0 ∧ b.txs.length = 0
abbrev HdrD.Nil (h : HdrD) : Prop := h.author = 0 ∧ h.round = 0 ∧ h.refs.length = 0 ∧ h.parents.length = 0
abbrev CertD.Nil (c : CertD) : Prop := c.header.Nil ∧ c.votes.length = 0
abbrev QcD.Nil (q : QcD) : Prop := q.view = 0 ∧ q.block.size = 0 ∧ q.votes.length = 0
abbrev BlkD.Nil (b : BlkD) : Prop := b.view = 0 ∧ b.qc.Nil ∧ b.certs.length = 0

/-- Fields that do not belong to its kind hold nothing. -/
abbrev MsgD.Bare (m : MsgD) : Prop :=
  (100 ∈ fieldsK m.kind ∨ m.digest.size = 0) ∧ (118 ∈ fieldsK m.kind ∨ m.view = 0) ∧ (116 ∈ fieldsK m.kind ∨ m.tag.Nil) ∧ (98 ∈ fieldsK m.kind ∨ m.batch.Nil) ∧ (104 ∈ fieldsK m.kind ∨ m.header.Nil) ∧
  (99 ∈ fieldsK m.kind ∨ m.cert.Nil) ∧ (107 ∈ fieldsK m.kind ∨ m.block.Nil) ∧ (113 ∈ fieldsK m.kind ∨ m.qc.Nil)

/-- Plain fields. -/
abbrev tagOk (t : TagD) : Prop := 0 ≤ t.who ∧ t.who ≤ 6 ∧ t.mac.size = 16
abbrev tagsOk (l : List TagD) : Prop := (∀ t ∈ l, tagOk t) ∧ l.length ≤ 7

theorem tagOk.fit {t : TagD} (h : tagOk t) : t.Fit := ⟨h.1, h.2.1, h.2.2⟩
abbrev numOk (n : Int) : Prop := 0 ≤ n ∧ n ≤ 4611686018427387903
abbrev HdrD.Plain (h : HdrD) : Prop := (0 ≤ h.author ∧ h.author ≤ 6 ∧ numOk h.round ∧ h.refs.length ≤ 4 ∧ h.parents.length ≤ 7) ∧ (∀ p ∈ h.parents, p.size = 32) ∧ ∀ r ∈ h.refs, r.digest.size = 32 ∧ tagsOk r.acks
abbrev QcD.Plain (q : QcD) : Prop := numOk q.view ∧ q.block.size = 32 ∧ tagsOk q.votes
abbrev BlkD.Plain (b : BlkD) : Prop := numOk b.view ∧ b.qc.Plain ∧ b.certs.length ≤ 8 ∧ ∀ c ∈ b.certs, c.size = 40
abbrev CertD.Plain (c : CertD) : Prop := c.header.Plain ∧ tagsOk c.votes

/-- The fields that belong to its kind are right (a batch aside). -/
structure MsgD.Ok (m : MsgD) : Prop where
  dig : 100 ∈ fieldsK m.kind → m.digest.size = 32
  num : numOk m.view
  tag : 116 ∈ fieldsK m.kind → tagOk m.tag
  hdr : m.header.Plain
  cert : m.cert.Plain
  qc : 113 ∈ fieldsK m.kind → m.qc.Plain
  blk : 107 ∈ fieldsK m.kind → m.block.Plain

def okM (m : MsgD) : Bool :=
  decide (100 ∈ fieldsK m.kind → m.digest.size = 32) && decide (numOk m.view) && decide (116 ∈ fieldsK m.kind → tagOk m.tag) && decide m.header.Plain && decide m.cert.Plain && decide (113 ∈ fieldsK m.kind → m.qc.Plain) && decide (107 ∈ fieldsK m.kind → m.block.Plain)

theorem okM_iff {m : MsgD} : okM m = true ↔ m.Ok := by
  unfold okM
  simp only [Bool.and_eq_true, decide_eq_true_eq]
  constructor
  · rintro ⟨⟨⟨⟨⟨⟨a, b⟩, c⟩, d⟩, e⟩, f⟩, g⟩
    exact ⟨a, b, c, d, e, f, g⟩
  · rintro ⟨a, b, c, d, e, f, g⟩
    exact ⟨⟨⟨⟨⟨⟨a, b⟩, c⟩, d⟩, e⟩, f⟩, g⟩

/-- What is wrong with a message. -/
def chkM (m : MsgD) : Nat := if fieldsK m.kind = [] then 5 else if ¬ m.Bare then 3 else if 98 ∈ fieldsK m.kind then checkB m.batch else if okM m = true then 0 else 3

/-- A field's bytes. -/
def fieldB (m : MsgD) (c : UInt8) : List UInt8 :=
  if c = 118 then goInt m.view else if c = 116 then tagsB [m.tag] else if c = 100 then txt m.digest.data.toList else if c = 98 then txt (encBat m.batch) else if c = 104 then txt (encH m.header)
  else if c = 99 then txt (encC m.cert) else if c = 107 then txt (encK m.block) else txt (encQ m.qc)

/-- A right message's bytes. -/
def encM (m : MsgD) : List UInt8 := goInt m.kind ++ (fieldsK m.kind).flatMap (fieldB m)

/-- One field from the front of bytes. -/
def rdF {α : Type} (c : UInt8) (p : MsgD) (l : List UInt8) (f : MsgD → List UInt8 → Except Nat α) : Except Nat α :=
  if c = 118 then rdI l fun v l => f { p with view := (v : Int) } l
  else if c = 116 then rdG l fun ts l => match ts with
    | [t] => f { p with tag := t } l
    | _ => .error 12
  else rdT l fun t l =>
    if c = 100 then f { p with digest := ⟨t.toArray⟩ } l
    else if c = 98 then match decBat t with
      | .error e => .error e
      | .ok b => f { p with batch := b } l
    else if c = 104 then match decH t with
      | .error e => .error e
      | .ok b => f { p with header := b } l
    else if c = 99 then match decC t with
      | .error e => .error e
      | .ok b => f { p with cert := b } l
    else if c = 107 then match decK t with
      | .error e => .error e
      | .ok b => f { p with block := b } l
    else match decQ t with
      | .error e => .error e
      | .ok b => f { p with qc := b } l

/-- The fields one behind the other. -/
def rdFs {α : Type} : List UInt8 → MsgD → List UInt8 → (MsgD → List UInt8 → Except Nat α) → Except Nat α
  | [], p, l, f => f p l
  | c :: cs, p, l, f => rdF c p l fun p l => rdFs cs p l f

/-- A message out of bytes, or the first error. -/
def decM (l : List UInt8) : Except Nat MsgD :=
  rdI l fun k l => if fieldsK (k : Int) = [] then .error 5 else rdFs (fieldsK (k : Int)) (msgZ (k : Int)) l fun m l => if l ≠ [] then .error 6 else if chkM m ≠ 0 then .error (chkM m) else .ok m

theorem bytes_nil {b : ByteArray} (h : b.size = 0) : b = ⟨#[]⟩ := by
  obtain ⟨a⟩ := b
  have : a = #[] := Array.eq_empty_of_size_eq_zero h
  rw [this]

theorem HdrD.Nil.eq {t : HdrD} (h : t.Nil) : t = hdrZ := by
  obtain ⟨a, b, c, d⟩ := t
  obtain ⟨h1, h2, h3, h4⟩ := h
  have h1' : a = 0 := h1
  have h2' : b = 0 := h2
  have h3' : c = [] := List.length_eq_zero_iff.1 h3
  have h4' : d = [] := List.length_eq_zero_iff.1 h4
  rw [h1', h2', h3', h4']
  rfl

theorem CertD.Nil.eq {t : CertD} (h : t.Nil) : t = certZ := by
  obtain ⟨a, b⟩ := t
  obtain ⟨h1, h2⟩ := h
  have h1' : a = hdrZ := HdrD.Nil.eq h1
  have h2' : b = [] := List.length_eq_zero_iff.1 h2
  rw [h1', h2']
  rfl

/-- One field out of another message. -/
def setF (c : UInt8) (p m : MsgD) : MsgD :=
  if c = 118 then { p with view := m.view } else if c = 116 then { p with tag := m.tag } else if c = 100 then { p with digest := m.digest } else if c = 98 then { p with batch := m.batch }
  else if c = 104 then { p with header := m.header } else if c = 99 then { p with cert := m.cert } else if c = 107 then { p with block := m.block } else { p with qc := m.qc }

/-- A field that can be read. -/
def fitF (m : MsgD) (c : UInt8) : Prop :=
  if c = 118 then numOk m.view else if c = 116 then m.tag.Fit else if c = 100 then m.digest.size ≤ 65536 else if c = 98 then checkB m.batch = 0 ∧ (encBat m.batch).length ≤ 65536
  else if c = 104 then m.header.Fit ∧ (encH m.header).length ≤ 65536
  else if c = 99 then (m.cert.header.Fit ∧ (encH m.cert.header).length ≤ 65536 ∧ m.cert.votes.length ≤ 7 ∧ ∀ t ∈ m.cert.votes, t.Fit) ∧ (encC m.cert).length ≤ 65536
  else if c = 107 then m.block.Fit ∧ (encK m.block).length ≤ 65536 else m.qc.Fit ∧ (encQ m.qc).length ≤ 65536

theorem rdF_back {α : Type} {c : UInt8} {p : MsgD} {l : List UInt8} {f : MsgD → List UInt8 → Except Nat α} {d : α} (h : rdF c p l f = .ok d) : ∃ m r, l = fieldB m c ++ r ∧ fitF m c ∧ m = setF c p m ∧ f m r = .ok d := by
  unfold rdF at h
  unfold fieldB fitF setF
  by_cases c1 : c = 118
  · simp only [if_pos c1] at h ⊢
    obtain ⟨v, r, e, b, h⟩ := rdI_back h
    exact ⟨{ p with view := (v : Int) }, r, by rw [e, goInt_nat v b], ⟨by show (0 : Int) ≤ v; omega, by show (v : Int) ≤ _; omega⟩, rfl, h⟩
  simp only [if_neg c1] at h ⊢
  by_cases c2 : c = 116
  · simp only [if_pos c2] at h ⊢
    obtain ⟨ts, r, e, b, ht, h⟩ := rdG_back h
    rcases ts with _ | ⟨t, _ | ⟨t2, r2⟩⟩
    · cases h
    · exact ⟨{ p with tag := t }, r, e, ht t (List.mem_singleton.2 rfl), rfl, h⟩
    · cases h
  simp only [if_neg c2] at h ⊢
  obtain ⟨t, r, e, b, h⟩ := rdT_back h
  by_cases c3 : c = 100
  · simp only [if_pos c3] at h ⊢
    exact ⟨{ p with digest := ⟨t.toArray⟩ }, r, e, by show (⟨t.toArray⟩ : ByteArray).size ≤ _; rw [size_mk]; exact b, rfl, h⟩
  simp only [if_neg c3] at h ⊢
  by_cases c4 : c = 98
  · simp only [if_pos c4] at h ⊢
    cases hd : decBat t with
    | error e => rw [hd] at h; cases h
    | ok x =>
      rw [hd] at h
      obtain ⟨g1, g2⟩ := encBat_dec hd
      exact ⟨{ p with batch := x }, r, by rw [e]; show _ = txt (encBat x) ++ r; rw [g2], ⟨g1, by show (encBat x).length ≤ _; rw [g2]; exact b⟩, rfl, h⟩
  simp only [if_neg c4] at h ⊢
  by_cases c5 : c = 104
  · simp only [if_pos c5] at h ⊢
    cases hd : decH t with
    | error e => rw [hd] at h; cases h
    | ok x =>
      rw [hd] at h
      obtain ⟨g1, g2⟩ := encH_dec hd
      exact ⟨{ p with header := x }, r, by rw [e]; show _ = txt (encH x) ++ r; rw [g1], ⟨g2, by show (encH x).length ≤ _; rw [g1]; exact b⟩, rfl, h⟩
  simp only [if_neg c5] at h ⊢
  by_cases c6 : c = 99
  · simp only [if_pos c6] at h ⊢
    cases hd : decC t with
    | error e => rw [hd] at h; cases h
    | ok x =>
      rw [hd] at h
      obtain ⟨g1, g2, g3, g4, g5⟩ := encC_dec hd
      exact ⟨{ p with cert := x }, r, by rw [e]; show _ = txt (encC x) ++ r; rw [g1], ⟨⟨g2, g3, g4, g5⟩, by show (encC x).length ≤ _; rw [g1]; exact b⟩, rfl, h⟩
  simp only [if_neg c6] at h ⊢
  by_cases c7 : c = 107
  · simp only [if_pos c7] at h ⊢
    cases hd : decK t with
    | error e => rw [hd] at h; cases h
    | ok x =>
      rw [hd] at h
      obtain ⟨g1, g2⟩ := encK_dec hd
      exact ⟨{ p with block := x }, r, by rw [e]; show _ = txt (encK x) ++ r; rw [g1], ⟨g2, by show (encK x).length ≤ _; rw [g1]; exact b⟩, rfl, h⟩
  simp only [if_neg c7] at h ⊢
  cases hd : decQ t with
  | error e => rw [hd] at h; cases h
  | ok x =>
    rw [hd] at h
    obtain ⟨g1, g2⟩ := encQ_dec hd
    exact ⟨{ p with qc := x }, r, by rw [e]; show _ = txt (encQ x) ++ r; rw [g1], ⟨g2, by show (encQ x).length ≤ _; rw [g1]; exact b⟩, rfl, h⟩

/-- The letters of fields. -/
def letters : List UInt8 := [118, 116, 100, 98, 104, 99, 107, 113]

theorem fieldsK_letters (k : Int) : (fieldsK k).Nodup ∧ ∀ c ∈ fieldsK k, c ∈ letters := by
  by_cases h : fieldsK k = []
  · rw [h]; simp
  · rcases kind_cases h with rfl | rfl | rfl | rfl | rfl | rfl | rfl | rfl | rfl | rfl | rfl <;> decide

theorem setF_at : (∀ p m, setF 118 p m = { p with view := m.view }) ∧ (∀ p m, setF 116 p m = { p with tag := m.tag }) ∧ (∀ p m, setF 100 p m = { p with digest := m.digest }) ∧ (∀ p m, setF 98 p m = { p with batch := m.batch }) ∧
    (∀ p m, setF 104 p m = { p with header := m.header }) ∧ (∀ p m, setF 99 p m = { p with cert := m.cert }) ∧ (∀ p m, setF 107 p m = { p with block := m.block }) ∧ (∀ p m, setF 113 p m = { p with qc := m.qc }) :=
  ⟨fun _ _ => rfl, fun _ _ => rfl, fun _ _ => rfl, fun _ _ => rfl, fun _ _ => rfl, fun _ _ => rfl, fun _ _ => rfl, fun _ _ => rfl⟩

def setFs : List UInt8 → MsgD → MsgD → MsgD
  | [], p, _ => p
  | c :: cs, p, m => setFs cs (setF c p m) m
end Go.Proofs.YtmngiekobmhpaaaGreat
