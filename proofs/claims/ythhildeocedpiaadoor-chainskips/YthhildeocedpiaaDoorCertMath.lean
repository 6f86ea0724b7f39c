/- The mathematics of layers 7 and 8: bytes of certificates, of quorums' certificates and of blocks, both ways round. -/
import Derived.Test.YthhildeocedpiaaDoorHeaderMath
namespace Go.Proofs.YthhildeocedpiaaDoor
open Go.RowKit
set_option linter.unusedVariables false

/-- A certificate. -/
structure CertD where
  header : HdrD
  votes : List TagD

def encC (c : CertD) : List UInt8 := txt (encH c.header) ++ tagsB c.votes

def decC (l : List UInt8) : Except Nat CertD :=
  rdT l fun t l => match decH t with
    | .error e => .error e
    | .ok h => rdG l fun v l => if l ≠ [] then .error 6 else .ok ⟨h, v⟩

theorem encC_dec {l : List UInt8} {c : CertD} (h : decC l = .ok c) : encC c = l ∧ c.header.Fit ∧ (encH c.header).length ≤ 65536 ∧ c.votes.length ≤ 7 ∧ ∀ t ∈ c.votes, t.Fit := by
  unfold decC at h
  obtain ⟨t, r, e1, b1, h⟩ := rdT_back h
  cases hd : decH t with
  | error e => rw [hd] at h; cases h
  | ok x =>
    rw [hd] at h
    simp only at h
    obtain ⟨v, r2, e2, b2, b3, h⟩ := rdG_back h
    split at h
    · cases h
    rename_i h1
    simp only [Except.ok.injEq] at h
    subst h
    have hr : r2 = [] := by simpa using h1
    subst hr
    obtain ⟨g1, g2⟩ := encH_dec hd
    refine ⟨?_, g2, by rw [g1]; exact b1, b2, b3⟩
    unfold encC
    simp only
    rw [g1, e1, e2, List.append_nil]

theorem decC_enc {c : CertD} (h1 : c.header.Fit) (h2 : (encH c.header).length ≤ 65536) (h3 : c.votes.length ≤ 7) (h4 : ∀ t ∈ c.votes, t.Fit) (r : List UInt8) : decC (encC c ++ r) = if r = [] then .ok c else .error 6 := by
  have hd := decH_enc h1 []
  rw [List.append_nil, if_pos rfl] at hd
  unfold decC encC
  rw [List.append_assoc, rdT_txt _ _ h2, hd]
  simp only
  rw [rdG_tags _ _ h4 h3]
  by_cases hr : r = []
  · rw [if_neg (by simpa using hr), if_pos hr]
  · rw [if_pos hr, if_neg hr]

/-- That enough have voted for a block of a view. -/
structure QcD where
  view : Int
  block : ByteArray
  votes : List TagD

def encQ (q : QcD) : List UInt8 := goInt q.view ++ txt q.block.data.toList ++ tagsB q.votes

def decQ (l : List UInt8) : Except Nat QcD :=
  rdI l fun v l => rdT l fun b l => rdG l fun t l => if l ≠ [] then .error 6 else .ok ⟨(v : Int), ⟨b.toArray⟩, t⟩

/-- One that can be read. -/
structure QcD.Fit (q : QcD) : Prop where
  v0 : 0 ≤ q.view
  vM : q.view ≤ 4611686018427387903
  blk : q.block.size ≤ 65536
  few : q.votes.length ≤ 7
  all : ∀ t ∈ q.votes, t.Fit

theorem encQ_dec {l : List UInt8} {q : QcD} (h : decQ l = .ok q) : encQ q = l ∧ q.Fit := by
  unfold decQ at h
  obtain ⟨v, r0, e0, b0, h⟩ := rdI_back h
  obtain ⟨b, r1, e1, b1, h⟩ := rdT_back h
  obtain ⟨t, r2, e2, b2, b3, h⟩ := rdG_back h
  split at h
  · cases h
  rename_i h1
  simp only [Except.ok.injEq] at h
  subst h
  have hr : r2 = [] := by simpa using h1
  subst hr
  refine ⟨?_, by show (0 : Int) ≤ v; omega, by show (v : Int) ≤ _; omega, by show (⟨b.toArray⟩ : ByteArray).size ≤ _; rw [size_mk]; exact b1, b2, b3⟩
  unfold encQ
  simp only
  rw [goInt_nat v b0, e0, e1, e2, List.append_nil, List.append_assoc]

theorem decQ_enc {q : QcD} (hf : q.Fit) (r : List UInt8) : decQ (encQ q ++ r) = if r = [] then .ok q else .error 6 := by
  obtain ⟨v, hv⟩ := Int.eq_ofNat_of_zero_le hf.v0
  have h1 := hf.vM
  have hb : q.block.data.toList.length ≤ 65536 := by have := hf.blk; simpa using this
  have e : encQ q ++ r = enc v ++ (txt q.block.data.toList ++ (tagsB q.votes ++ r)) := by
    unfold encQ
    rw [hv, goInt_nat v (by omega)]
    simp only [List.append_assoc]
  rw [e]
  unfold decQ
  rw [rdI_enc v _ (by omega), rdT_txt _ _ hb, rdG_tags _ _ hf.all hf.few, mk_list]
  by_cases hr : r = []
  · rw [if_neg (by simpa using hr), if_pos hr, ← hv]
  · rw [if_pos hr, if_neg hr]

/-- A block. -/
structure BlkD where
  view : Int
  qc : QcD
  certs : List ByteArray

def encK (b : BlkD) : List UInt8 := goInt b.view ++ txt (encQ b.qc) ++ lst (bl b.certs)

def decK (l : List UInt8) : Except Nat BlkD :=
  rdI l fun v l => rdT l fun t l => match decQ t with
    | .error e => .error e
    | .ok q => rdL 8 l fun cs l => if l ≠ [] then .error 6 else .ok ⟨(v : Int), q, mks cs⟩

/-- One that can be read. -/
structure BlkD.Fit (b : BlkD) : Prop where
  v0 : 0 ≤ b.view
  vM : b.view ≤ 4611686018427387903
  qc : b.qc.Fit
  len : (encQ b.qc).length ≤ 65536
  few : b.certs.length ≤ 8
  all : ∀ c ∈ b.certs, c.size ≤ 65536

theorem encK_dec {l : List UInt8} {b : BlkD} (h : decK l = .ok b) : encK b = l ∧ b.Fit := by
  unfold decK at h
  obtain ⟨v, r0, e0, b0, h⟩ := rdI_back h
  obtain ⟨t, r1, e1, b1, h⟩ := rdT_back h
  cases hq : decQ t with
  | error e => rw [hq] at h; cases h
  | ok q =>
    rw [hq] at h
    simp only at h
    obtain ⟨cs, r2, e2, b2, b3, h⟩ := rdL_back h
    split at h
    · cases h
    rename_i h1
    simp only [Except.ok.injEq] at h
    subst h
    have hr : r2 = [] := by simpa using h1
    subst hr
    obtain ⟨g1, g2⟩ := encQ_dec hq
    refine ⟨?_, by show (0 : Int) ≤ v; omega, by show (v : Int) ≤ _; omega, g2, by show (encQ q).length ≤ _; rw [g1]; exact b1, by show (mks cs).length ≤ 8; simp [mks]; omega, ?_⟩
    · unfold encK
      simp only [bl_mks]
      rw [g1, goInt_nat v b0, e0, e1, e2, List.append_nil, List.append_assoc]
    · intro c hc
      obtain ⟨x, hx, rfl⟩ := List.mem_map.1 hc
      rw [size_mk]
      exact b3 x hx

theorem decK_enc {b : BlkD} (hf : b.Fit) (r : List UInt8) : decK (encK b ++ r) = if r = [] then .ok b else .error 6 := by
  obtain ⟨v, hv⟩ := Int.eq_ofNat_of_zero_le hf.v0
  have h1 := hf.vM
  have h2 := hf.few
  have hq := decQ_enc hf.qc []
  rw [List.append_nil, if_pos rfl] at hq
  have e : encK b ++ r = enc v ++ (txt (encQ b.qc) ++ (lst (bl b.certs) ++ r)) := by
    unfold encK
    rw [hv, goInt_nat v (by omega)]
    simp only [List.append_assoc]
  rw [e]
  unfold decK
  rw [rdI_enc v _ (by omega), rdT_txt _ _ hf.len, hq]
  simp only
  rw [rdL_lst 8 _ _ ?_ (by simp [bl]; omega) (by simp [bl]; omega), mks_bl]
  · by_cases hr : r = []
    · rw [if_neg (by simpa using hr), if_pos hr, ← hv]
    · rw [if_pos hr, if_neg hr]
  · intro t ht
    obtain ⟨p, hp, rfl⟩ := List.mem_map.1 ht
    have := hf.all p hp
    simpa using this
end Go.Proofs.YthhildeocedpiaaDoor
