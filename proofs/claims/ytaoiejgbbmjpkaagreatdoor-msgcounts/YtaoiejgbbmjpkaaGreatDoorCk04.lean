/- Texts as one: MsgWordAdd, CertMath, Sets, BlkRows, BlkMath, BlkWord. -/
import Derived.Test.YtaoiejgbbmjpkaaGreatDoorCk03
import Derived.Deep.RegionLaw
import Derived.Test.YtaoiejgbbmjpkaaGreatDoorCk02
/- The words of a message's tags: how they lie in memory, and how they are listed. -/
namespace Go.Proofs.YtaoiejgbbmjpkaaGreatDoor
open Go.RowKit
set_option linter.unusedVariables false

/-- A tag, and what it is of. -/
structure WordD where
  t : TagD
  kind : ByteArray
  word : ByteArray

/-- Words. -/
def wordK : Kind WordD where
  n := 4
  c x := [.int .i64 x.t.who, .string x.t.mac, .string x.kind, .string x.word]
  foot _ _ := False
  At _ _ := True
  pos := by decide
  len _ := rfl
  one x u hu := by
    simp only [List.mem_cons, List.not_mem_nil, or_false] at hu
    rcases hu with rfl | rfl | rfl | rfl <;> rfl
  lt _ h := h.elim
  keep _ _ := trivial

/-- Tags, all of one word. -/
def ofWord (kind word : ByteArray) (l : List TagD) : List WordD := l.map (fun t => ⟨t, kind, word⟩)

theorem ofWord_length (kind word : ByteArray) (l : List TagD) : (ofWord kind word l).length = l.length := by simp [ofWord]

theorem ofWord_succ (kind word : ByteArray) (l : List TagD) (k : Nat) (t : TagD) (h : l[k]? = some t) : ofWord kind word (l.take (k + 1)) = ofWord kind word (l.take k) ++ [⟨t, kind, word⟩] := by
  have hk := (List.getElem?_eq_some_iff.1 h).1
  have he := (List.getElem?_eq_some_iff.1 h).2
  rw [List.take_succ_eq_append_getElem hk, he]
  simp [ofWord]

theorem infoWord : (Tryz.prog.info? 47).map (fun i => (i.zero, i.size, i.bytes)) = some (some (.agg #[.int .i64 0, .string ⟨#[]⟩, .string ⟨#[]⟩, .string ⟨#[]⟩]), 4, 56) := by kernel_rfl

/-- A list of words that is being made lies at block p, its row at block B or behind it. -/
def WAt (w : World) (p B : Nat) (l : List WordD) : Prop := p < B ∧ B ≤ w.heap.size ∧ ∃ q, Arr w p 57 [q] ∧ KQ wordK 47 w B q l

/-- What is turned while it is made. -/
def WS (p B : Nat) (k : Nat) : Prop := k = p ∨ B ≤ k

theorem WAt.lt {w : World} {p B : Nat} {l : List WordD} (h : WAt w p B l) : p < w.heap.size := by
  obtain ⟨_, _, q, hX, _⟩ := h
  exact hX.lt

theorem WAt.below {w w' : World} {p B : Nat} {l : List WordD} (h : WAt w p B l) (hb : Below w.heap.size w w') : WAt w' p B l := by
  obtain ⟨h1, h2, q, hX, hQ⟩ := h
  exact ⟨h1, Nat.le_trans h2 hb.size, q, hX.below hb hX.lt, hQ.below hb⟩

theorem new_word (w : World) (x : WordD) : ∀ j u, (wordK.c x)[j]? = some u → (w.alloc (.cells #[.int .i64 x.t.who, .string x.t.mac, .string x.kind, .string x.word] 47)).cell? ((⟨w.heap.size, 0, none⟩ : Addr).add j) = some u := by
  intro j u hu
  rw [Go.WideShapes.add_plain, Nat.zero_add]
  exact (Arr.new w 47 [.int .i64 x.t.who, .string x.t.mac, .string x.kind, .string x.word]).cell hu

set_option maxRecDepth 100000 in
set_option maxHeartbeats 1000000 in
theorem wordsAdd_any (p B : Nat) (l : List WordD) (kind word : ByteArray) (ao : Option Addr) (cap : Nat) (ts : List TagD) (w : World) (h : WAt w p B l) (hA : RowAt tagK w ao ts) (hO : 2 ≤ ts.length → ∀ w1, Kept (WS p B) w w1 → RowAt tagK w1 ao ts) (hn : l.length + ts.length ≤ 1000000000) :
    Calls Tryz.prog 16 #[.pointer (some ⟨p, 0, none⟩), .string kind, .string word, .slice ao ts.length cap] w fun e w' => e = .returned (.tuple #[]) ∧ WAt w' p B (l ++ ofWord kind word ts) ∧ Kept (WS p B) w w' := by
  obtain ⟨i0, hi, hz0, hz1, hz2⟩ := info_parts infoWord
  go_enter Tryz.func16, Tryz.ntmps16
  go_wp2
  go_loopw [9, 12] (fun v9 v12 wr => ∃ i : Nat, i ≤ ts.length ∧ v12 = .int .i64 (i : Int) ∧ (i < ts.length → RowAt tagK wr ao ts) ∧ WAt wr p B (l ++ ofWord kind word (ts.take i)) ∧ Kept (WS p B) w wr) (fun _ v _ => ts.length - (intOf v).toNat)
  case atStart => exact ⟨0, Nat.zero_le _, rfl, fun _ => hA, by simpa [ofWord] using h, Kept.refl _ _⟩
  case round =>
    obtain ⟨i, hil, rfl, hR, hW, hb⟩ := hrel
    by_cases hlt : i < ts.length
    · obtain ⟨t, ht⟩ : ∃ t, ts[i]? = some t := ⟨ts[i], List.getElem?_eq_getElem hlt⟩
      obtain ⟨b, off, rfl, hbl, y0, y1⟩ := (hR hlt).tag ht
      obtain ⟨hpB, hBs, q, hX, hQ⟩ := hW
      have hms := ofWord_succ kind word ts i t ht
      have hml : (l ++ ofWord kind word (ts.take i)).length = l.length + i := by rw [List.length_append, ofWord_length, List.length_take]; omega
      have Hms : Hid (l ++ ofWord kind word (ts.take (i + 1)) = (l ++ ofWord kind word (ts.take i)) ++ [⟨t, kind, word⟩]) := by show _ = _; rw [hms, List.append_assoc]
      obtain ⟨ms, hmse⟩ : ∃ z, z = l ++ ofWord kind word (ts.take i) := ⟨_, rfl⟩
      rw [← hmse] at hQ hml Hms
      clear hms hmse ht hR hA h
      have hpl := hX.lt
      have hbx := belowNew wr (.cells #[.int .i64 t.who, .string t.mac] 23)
      have hT := Arr.new wr 23 [.int .i64 t.who, .string t.mac]
      have hb2 := hb.trans (Kept.of_below hbx)
      have hBs2 : B ≤ (wr.alloc (.cells #[.int .i64 t.who, .string t.mac] 23)).heap.size := Nat.le_trans hBs hbx.size
      have hX2 := hX.below hbx hX.lt
      have hQ2 := hQ.below hbx
      go_wp2_with fail
      obtain ⟨w1, hw1⟩ : ∃ z, wr.alloc (.cells #[.int .i64 t.who, .string t.mac] 23) = z := ⟨_, rfl⟩
      rw [hw1] at hX2 hb2 hQ2 hT hBs2 ⊢
      clear hw1 hbx hQ hb y0 y1 hX hpl hBs
      have x0 := hT.cell (i := 0) rfl
      have x1 := hT.cell (i := 1) rfl
      have cq := hX2.cell (i := 0) rfl
      have hbA : Below w1.heap.size w1 (w1.alloc (.cells #[.int .i64 t.who, .string t.mac, .string kind, .string word] 47)).drew := ((Below.refl w1.heap.size w1).alloc (Nat.le_refl _) _).drew
      have hX3 := hX2.below hbA hX2.lt
      have hQ3 := hQ2.below hbA
      have cqd : (w1.alloc (.cells #[.int .i64 t.who, .string t.mac, .string kind, .string word] 47)).cell? ⟨p, 0, none⟩ = some q := (hbA.cell (p := ⟨p, 0, none⟩) hX2.lt).trans cq
      have x0d : (w1.alloc (.cells #[.int .i64 t.who, .string t.mac, .string kind, .string word] 47)).cell? ⟨wr.heap.size, 0, none⟩ = some (.int .i64 t.who) := (hbA.cell (p := ⟨wr.heap.size, 0, none⟩) hT.lt).trans x0
      have x1d : (w1.alloc (.cells #[.int .i64 t.who, .string t.mac, .string kind, .string word] 47)).cell? ⟨wr.heap.size, 1, none⟩ = some (.string t.mac) := (hbA.cell (p := ⟨wr.heap.size, 1, none⟩) hT.lt).trans x1
      have hN1 := new_word w1 ⟨t, kind, word⟩
      have hN3 : B ≤ (w1.alloc (.cells #[.int .i64 t.who, .string t.mac, .string kind, .string word] 47)).drew.heap.size := Nat.le_trans hBs2 hbA.size
      have hm1 : ms.length + 1 ≤ maxLen := by rw [hml]; unfold maxLen; omega
      have hm2 : (ms.length + 1) * 56 ≤ 140737488355328 := by rw [hml]; omega
      have hbp := hb2.trans (Kept.of_below hbA)
      clear hml
      go_region_law (first
        | (refine step_push (K := wordK) _ (by rfl) _ _ 41 (by rfl) B 47 i0 _ 56 Tryz.underlying41 hi hz0 hz1 hz2 rfl _ ms (by rfl) hQ3 ⟨t, kind, word⟩ trivial (fun _ h => h.elim) ⟨w1.heap.size, 0, none⟩ 1 (by rfl) hN1 hm1 hm2 hN3 ?_; intro ao8 cap8 w8 hQ8 hk8; have hX8 := hX3.kept hk8 (fun e => by have := (hQ3.lt p e).1; omega); have c4c := hX8.cell (i := 0) rfl; have f4c := hX8.frozen 0))
      all_goals
        have hB8 : Kept (WS p B) _ w8 := hk8.mono (fun k _ hk => Or.inr (hQ3.lt k hk).1)
        have hs8 := Nat.le_trans hN3 hk8.size
        have hX9 := hX8.set 0 (.slice ao8 (ms.length + 1) cap8)
        have hk9 := Kept.setCell w8 ⟨p, 0, none⟩ (.slice ao8 (ms.length + 1) cap8)
        have hQ9 := hQ8.kept hk9 (fun k hk e => by have := (hQ8.lt k hk).1; have e' : k = p := e; omega) (fun _ _ _ h => h.elim)
        have hB9 := (hbp.trans hB8).set (p := ⟨p, 0, none⟩) (Or.inl rfl) (.slice ao8 (ms.length + 1) cap8)
        have hs9 := Nat.le_trans hs8 hk9.size
        generalize w8.setCell _ _ = w9 at hX9 hQ9 hB9 hs9 ⊢
        replace hX9 : Arr w9 p 57 [.slice ao8 (ms.length + 1) cap8] := hX9
        clear hX8 hQ8 hB8 hs8 hBs2 hk8 hk9 c4c f4c hbp hm1 hm2 hN1 hN3 x0d x1d cqd hX3 hQ3 hbA x0 x1 cq hT hQ2 hX2 hb2
        go_wp2
        go_roundw
        case rel => exact ⟨i + 1, by omega, by go_num, fun h2 => hO (by omega) _ hB9, ⟨hpB, hs9, _, hX9, by rw [Hms.out]; exact hQ9⟩, hB9⟩
        case measure => simp [intOf]; omega
    · obtain rfl : i = ts.length := by omega
      rw [List.take_length] at hW
      go_wp2
      go_end0
      exact ⟨rfl, hW, hb⟩
end Go.Proofs.YtaoiejgbbmjpkaaGreatDoor

/- The mathematics of layers 7 and 8: bytes of certificates, of quorums' certificates and of blocks, both ways round. -/
namespace Go.Proofs.YtaoiejgbbmjpkaaGreatDoor
open Go.RowKit
set_option linter.unusedVariables false

/-- A certificate. -/
structure CertD where
  header : HdrD
  votes : List TagD

def encC (c : CertD) : List UInt8 := txt (encH c.header) ++ tagsB c.votes

def decC (l : List UInt8) : Except Nat CertD :=
  rdT l fun t l => match decH t with
    | .error e => .error e
    | .ok h => rdG l fun v l => if l ≠ [] then .error 6 else .ok ⟨h, v⟩

theorem encC_dec {l : List UInt8} {c : CertD} (h : decC l = .ok c) : encC c = l ∧ c.header.Fit ∧ (encH c.header).length ≤ 65536 ∧ c.votes.length ≤ 7 ∧ ∀ t ∈ c.votes, t.Fit := by
  unfold decC at h
  obtain ⟨t, r, e1, b1, h⟩ := rdT_back h
  cases hd : decH t with
  | error e => rw [hd] at h; cases h
  | ok x =>
    rw [hd] at h
    simp only at h
    obtain ⟨v, r2, e2, b2, b3, h⟩ := rdG_back h
    split at h
    · cases h
    rename_i h1
    simp only [Except.ok.injEq] at h
    subst h
    have hr : r2 = [] := by simpa using h1
    subst hr
    obtain ⟨g1, g2⟩ := encH_dec hd
    refine ⟨?_, g2, by rw [g1]; exact b1, b2, b3⟩
    unfold encC
    simp only
    rw [g1, e1, e2, List.append_nil]

theorem decC_enc {c : CertD} (h1 : c.header.Fit) (h2 : (encH c.header).length ≤ 65536) (h3 : c.votes.length ≤ 7) (h4 : ∀ t ∈ c.votes, t.Fit) (r : List UInt8) : decC (encC c ++ r) = if r = [] then .ok c else .error 6 := by
  have hd := decH_enc h1 []
  rw [List.append_nil, if_pos rfl] at hd
  unfold decC encC
  rw [List.append_assoc, rdT_txt _ _ h2, hd]
  simp only
  rw [rdG_tags _ _ h4 h3]
  by_cases hr : r = []
  · rw [if_neg (by simpa using hr), if_pos hr]
  · rw [if_pos hr, if_neg hr]

/-- That enough have voted for a block of a view. -/
structure QcD where
  view : Int
  block : ByteArray
  votes : List TagD

def encQ (q : QcD) : List UInt8 := goInt q.view ++ txt q.block.data.toList ++ tagsB q.votes

def decQ (l : List UInt8) : Except Nat QcD :=
  rdI l fun v l => rdT l fun b l => rdG l fun t l => if l ≠ [] then .error 6 else .ok ⟨(v : Int), ⟨b.toArray⟩, t⟩

/-- One that can be read. -/
structure QcD.Fit (q : QcD) : Prop where
  v0 : 0 ≤ q.view
  vM : q.view ≤ 4611686018427387903
  blk : q.block.size ≤ 65536
  few : q.votes.length ≤ 7
  all : ∀ t ∈ q.votes, t.Fit

theorem encQ_dec {l : List UInt8} {q : QcD} (h : decQ l = .ok q) : encQ q = l ∧ q.Fit := by
  unfold decQ at h
  obtain ⟨v, r0, e0, b0, h⟩ := rdI_back h
  obtain ⟨b, r1, e1, b1, h⟩ := rdT_back h
  obtain ⟨t, r2, e2, b2, b3, h⟩ := rdG_back h
  split at h
  · cases h
  rename_i h1
  simp only [Except.ok.injEq] at h
  subst h
  have hr : r2 = [] := by simpa using h1
  subst hr
  refine ⟨?_, by show (0 : Int) ≤ v; omega, by show (v : Int) ≤ _; omega, by show (⟨b.toArray⟩ : ByteArray).size ≤ _; rw [size_mk]; exact b1, b2, b3⟩
  unfold encQ
  simp only
  rw [goInt_nat v b0, e0, e1, e2, List.append_nil, List.append_assoc]

theorem decQ_enc {q : QcD} (hf : q.Fit) (r : List UInt8) : decQ (encQ q ++ r) = if r = [] then .ok q else .error 6 := by
  obtain ⟨v, hv⟩ := Int.eq_ofNat_of_zero_le hf.v0
  have h1 := hf.vM
  have hb : q.block.data.toList.length ≤ 65536 := by have := hf.blk; simpa using this
  have e : encQ q ++ r = enc v ++ (txt q.block.data.toList ++ (tagsB q.votes ++ r)) := by
    unfold encQ
    rw [hv, goInt_nat v (by omega)]
    simp only [List.append_assoc]
  rw [e]
  unfold decQ
  rw [rdI_enc v _ (by omega), rdT_txt _ _ hb, rdG_tags _ _ hf.all hf.few, mk_list]
  by_cases hr : r = []
  · rw [if_neg (by simpa using hr), if_pos hr, ← hv]
  · rw [if_pos hr, if_neg hr]

/-- A block. -/
structure BlkD where
  view : Int
  qc : QcD
  certs : List ByteArray

def encK (b : BlkD) : List UInt8 := goInt b.view ++ txt (encQ b.qc) ++ lst (bl b.certs)

def decK (l : List UInt8) : Except Nat BlkD :=
  rdI l fun v l => rdT l fun t l => match decQ t with
    | .error e => .error e
    | .ok q => rdL 8 l fun cs l => if l ≠ [] then .error 6 else .ok ⟨(v : Int), q, mks cs⟩

/-- One that can be read. -/
structure BlkD.Fit (b : BlkD) : Prop where
  v0 : 0 ≤ b.view
  vM : b.view ≤ 4611686018427387903
  qc : b.qc.Fit
  len : (encQ b.qc).length ≤ 65536
  few : b.certs.length ≤ 8
  all : ∀ c ∈ b.certs, c.size ≤ 65536

theorem encK_dec {l : List UInt8} {b : BlkD} (h : decK l = .ok b) : encK b = l ∧ b.Fit := by
  unfold decK at h
  obtain ⟨v, r0, e0, b0, h⟩ := rdI_back h
  obtain ⟨t, r1, e1, b1, h⟩ := rdT_back h
  cases hq : decQ t with
  | error e => rw [hq] at h; cases h
  | ok q =>
    rw [hq] at h
    simp only at h
    obtain ⟨cs, r2, e2, b2, b3, h⟩ := rdL_back h
    split at h
    · cases h
    rename_i h1
    simp only [Except.ok.injEq] at h
    subst h
    have hr : r2 = [] := by simpa using h1
    subst hr
    obtain ⟨g1, g2⟩ := encQ_dec hq
    refine ⟨?_, by show (0 : Int) ≤ v; omega, by show (v : Int) ≤ _; omega, g2, by show (encQ q).length ≤ _; rw [g1]; exact b1, by show (mks cs).length ≤ 8; simp [mks]; omega, ?_⟩
    · unfold encK
      simp only [bl_mks]
      rw [g1, goInt_nat v b0, e0, e1, e2, List.append_nil, List.append_assoc]
    · intro c hc
      obtain ⟨x, hx, rfl⟩ := List.mem_map.1 hc
      rw [size_mk]
      exact b3 x hx

theorem decK_enc {b : BlkD} (hf : b.Fit) (r : List UInt8) : decK (encK b ++ r) = if r = [] then .ok b else .error 6 := by
  obtain ⟨v, hv⟩ := Int.eq_ofNat_of_zero_le hf.v0
  have h1 := hf.vM
  have h2 := hf.few
  have hq := decQ_enc hf.qc []
  rw [List.append_nil, if_pos rfl] at hq
  have e : encK b ++ r = enc v ++ (txt (encQ b.qc) ++ (lst (bl b.certs) ++ r)) := by
    unfold encK
    rw [hv, goInt_nat v (by omega)]
    simp only [List.append_assoc]
  rw [e]
  unfold decK
  rw [rdI_enc v _ (by omega), rdT_txt _ _ hf.len, hq]
  simp only
  rw [rdL_lst 8 _ _ ?_ (by simp [bl]; omega) (by simp [bl]; omega), mks_bl]
  · by_cases hr : r = []
    · rw [if_neg (by simpa using hr), if_pos hr, ← hv]
    · rw [if_pos hr, if_neg hr]
  · intro t ht
    obtain ⟨p, hp, rfl⟩ := List.mem_map.1 ht
    have := hf.all p hp
    simpa using this
end Go.Proofs.YtaoiejgbbmjpkaaGreatDoor

/- Cells of a block that are written one behind the other. -/
namespace Go.Proofs.YtaoiejgbbmjpkaaGreatDoor
open Go.RowKit
set_option linter.unusedVariables false

/-- Three cells of a block are written. -/
def set3 (w : World) (g : Nat) (v0 v1 v2 : Value) : World := ((w.setCell ⟨g, 0, none⟩ v0).setCell ⟨g, 1, none⟩ v1).setCell ⟨g, 2, none⟩ v2

theorem Arr.set3 {w : World} {g : Nat} {t : TypeId} {a0 a1 a2 : Value} (h : Arr w g t [a0, a1, a2]) (v0 v1 v2 : Value) : Arr (Proofs.YtaoiejgbbmjpkaaGreatDoor.set3 w g v0 v1 v2) g t [v0, v1, v2] := ((h.set 0 v0).set 1 v1).set 2 v2

theorem below_set3 {B : Nat} {w w' : World} (h : Below B w w') {g : Nat} (hg : B ≤ g) (v0 v1 v2 : Value) : Below B w (set3 w' g v0 v1 v2) :=
  ((h.setCell (p := ⟨g, 0, none⟩) hg v0).setCell (p := ⟨g, 1, none⟩) hg v1).setCell (p := ⟨g, 2, none⟩) hg v2

theorem kept_set3 (w : World) (g : Nat) (v0 v1 v2 : Value) : Kept (fun k => k = g) w (set3 w g v0 v1 v2) :=
  (((Kept.refl (fun k => k = g) w).set (p := ⟨g, 0, none⟩) rfl v0).set (p := ⟨g, 1, none⟩) rfl v1).set (p := ⟨g, 2, none⟩) rfl v2

/-- Five cells of a block are written. -/
def set5 (w : World) (g : Nat) (v0 v1 v2 v3 v4 : Value) : World := ((((w.setCell ⟨g, 0, none⟩ v0).setCell ⟨g, 1, none⟩ v1).setCell ⟨g, 2, none⟩ v2).setCell ⟨g, 3, none⟩ v3).setCell ⟨g, 4, none⟩ v4

theorem Arr.set5 {w : World} {g : Nat} {t : TypeId} {a0 a1 a2 a3 a4 : Value} (h : Arr w g t [a0, a1, a2, a3, a4]) (v0 v1 v2 v3 v4 : Value) : Arr (Proofs.YtaoiejgbbmjpkaaGreatDoor.set5 w g v0 v1 v2 v3 v4) g t [v0, v1, v2, v3, v4] := ((((h.set 0 v0).set 1 v1).set 2 v2).set 3 v3).set 4 v4

theorem below_set5 {B : Nat} {w w' : World} (h : Below B w w') {g : Nat} (hg : B ≤ g) (v0 v1 v2 v3 v4 : Value) : Below B w (set5 w' g v0 v1 v2 v3 v4) :=
  ((((h.setCell (p := ⟨g, 0, none⟩) hg v0).setCell (p := ⟨g, 1, none⟩) hg v1).setCell (p := ⟨g, 2, none⟩) hg v2).setCell (p := ⟨g, 3, none⟩) hg v3).setCell (p := ⟨g, 4, none⟩) hg v4

theorem kept_set5 (w : World) (g : Nat) (v0 v1 v2 v3 v4 : Value) : Kept (fun k => k = g) w (set5 w g v0 v1 v2 v3 v4) :=
  (((((Kept.refl (fun k => k = g) w).set (p := ⟨g, 0, none⟩) rfl v0).set (p := ⟨g, 1, none⟩) rfl v1).set (p := ⟨g, 2, none⟩) rfl v2).set (p := ⟨g, 3, none⟩) rfl v3).set (p := ⟨g, 4, none⟩) rfl v4
end Go.Proofs.YtaoiejgbbmjpkaaGreatDoor

/- Quorums' certificates and blocks as they lie in memory. -/
namespace Go.Proofs.YtaoiejgbbmjpkaaGreatDoor
open Go.RowKit
set_option linter.unusedVariables false

/-- A quorum's certificate as it lies in memory. -/
structure QcM where
  view : Int
  block : ByteArray
  va : Option Addr
  votes : List TagD
  vc : Nat

def QcM.d (x : QcM) : QcD := ⟨x.view, x.block, x.votes⟩
def QcM.c (x : QcM) : List Value := [.int .i64 x.view, .string x.block, .slice x.va x.votes.length x.vc]
def QcM.v (x : QcM) : Value := .agg #[.int .i64 x.view, .string x.block, .slice x.va x.votes.length x.vc]

/-- Its votes lie in memory, and nil is nil. -/
structure QcM.At (w : World) (x : QcM) : Prop where
  votes : RowAt tagK w x.va x.votes
  nv : x.va = none → x.vc = 0

def QcM.foot (x : QcM) (b : Nat) : Prop := rowFoot tagK x.va x.votes b

def qcK : Kind QcM where
  n := 3
  c := QcM.c
  foot := QcM.foot
  At := QcM.At
  pos := by decide
  len _ := rfl
  one x u hu := by
    simp only [QcM.c, List.mem_cons, List.not_mem_nil, or_false] at hu
    rcases hu with rfl | rfl | rfl <;> rfl
  lt h hf := h.votes.lt hf
  keep h hk := ⟨h.votes.keep hk, h.nv⟩

theorem QcM.At.below {w w' : World} {x : QcM} (ha : x.At w) (hb : Below w.heap.size w w') : x.At w' := Kind.below qcK ha hb

/-- No quorum's certificate. -/
def qc0 : QcM := ⟨0, ⟨#[]⟩, none, [], 0⟩

theorem qc0_at (w : World) : qc0.At w := ⟨nil_row _ _, fun _ => rfl⟩

theorem infoQc8 : (Tryz.prog.info? 35).map (·.size) = some 3 := by kernel_rfl

/-- A block as it lies in memory. -/
structure BlkM where
  view : Int
  qc : QcM
  ca : Option Addr
  certs : List ByteArray
  cc : Nat

def BlkM.d (x : BlkM) : BlkD := ⟨x.view, x.qc.d, x.certs⟩
def BlkM.c (x : BlkM) : List Value := [.int .i64 x.view, .int .i64 x.qc.view, .string x.qc.block, .slice x.qc.va x.qc.votes.length x.qc.vc, .slice x.ca x.certs.length x.cc]
def BlkM.v (x : BlkM) : Value := .agg #[.int .i64 x.view, .int .i64 x.qc.view, .string x.qc.block, .slice x.qc.va x.qc.votes.length x.qc.vc, .slice x.ca x.certs.length x.cc]

/-- Its lists lie in memory, and nil is nil. -/
structure BlkM.At (w : World) (x : BlkM) : Prop where
  qc : x.qc.At w
  certs : RowAt strK w x.ca x.certs
  nc : x.ca = none → x.cc = 0

def BlkM.foot (x : BlkM) (b : Nat) : Prop := x.qc.foot b ∨ rowFoot strK x.ca x.certs b

def blkK : Kind BlkM where
  n := 5
  c := BlkM.c
  foot := BlkM.foot
  At := BlkM.At
  pos := by decide
  len _ := rfl
  one x u hu := by
    simp only [BlkM.c, List.mem_cons, List.not_mem_nil, or_false] at hu
    rcases hu with rfl | rfl | rfl | rfl | rfl <;> rfl
  lt h hf := hf.elim (fun q => Kind.lt qcK h.qc q) h.certs.lt
  keep h hk := ⟨Kind.keep qcK h.qc (fun b hb => hk b (Or.inl hb)), h.certs.keep (fun b hb => hk b (Or.inr hb)), h.nc⟩

theorem BlkM.At.below {w w' : World} {x : BlkM} (ha : x.At w) (hb : Below w.heap.size w w') : x.At w' := Kind.below blkK ha hb

/-- No block. -/
def blk0 : BlkM := ⟨0, qc0, none, [], 0⟩

theorem blk0_at (w : World) : blk0.At w := ⟨qc0_at w, nil_row _ _, fun _ => rfl⟩

theorem infoBlk8 : (Tryz.prog.info? 37).map (·.size) = some 5 := by kernel_rfl
end Go.Proofs.YtaoiejgbbmjpkaaGreatDoor

/- The mathematics of layer 8: marks, the first block's id, words, what is wrong with a row of marks. -/
namespace Go.Proofs.YtaoiejgbbmjpkaaGreatDoor
open Go.RowKit
set_option linter.unusedVariables false

/-- A number in k bytes, the highest first. -/
def beN : Nat → Nat → List UInt8
  | 0, _ => []
  | k + 1, n => beN k (n / 256) ++ [UInt8.ofNat n]

theorem beN_length : ∀ (k n : Nat), (beN k n).length = k
  | 0, _ => rfl
  | k + 1, n => by rw [beN, List.length_append, beN_length k]; rfl

/-- The number that bytes say, the highest first. -/
def valL (l : List UInt8) : Nat := l.foldl (fun a b => 256 * a + b.toNat) 0

theorem valL_snoc (l : List UInt8) (b : UInt8) : valL (l ++ [b]) = 256 * valL l + b.toNat := by simp [valL]

theorem u8_lt (b : UInt8) : b.toNat < 256 := b.toNat_lt

theorem ofNat_toNat8 (n : Nat) : (UInt8.ofNat n).toNat = n % 256 := by simp

theorem valL_lt (l : List UInt8) : valL l < 256 ^ l.length := by
  have h : ∀ (k : Nat) (l : List UInt8), l.length = k → valL l < 256 ^ k := by
    intro k
    induction k with
    | zero => intro l hl; rw [List.length_eq_zero_iff.1 hl]; simp [valL]
    | succ k ih =>
      intro l hl
      have hne : l ≠ [] := fun e => by rw [e] at hl; simp at hl
      rw [← List.dropLast_concat_getLast hne, valL_snoc, Nat.pow_succ]
      have := ih l.dropLast (by rw [List.length_dropLast, hl]; rfl)
      have := u8_lt (l.getLast hne)
      omega
  exact h l.length l rfl

theorem val_be : ∀ (k n : Nat), n < 256 ^ k → valL (beN k n) = n
  | 0, n, h => by simp at h; subst h; rfl
  | k + 1, n, h => by
    rw [beN, valL_snoc, val_be k (n / 256) (by rw [Nat.pow_succ] at h; omega), ofNat_toNat8]
    omega

theorem be_val (l : List UInt8) : beN l.length (valL l) = l := by
  have h : ∀ (k : Nat) (l : List UInt8), l.length = k → beN k (valL l) = l := by
    intro k
    induction k with
    | zero => intro l hl; rw [List.length_eq_zero_iff.1 hl]; rfl
    | succ k ih =>
      intro l hl
      have hne : l ≠ [] := fun e => by rw [e] at hl; simp at hl
      have h1 := u8_lt (l.getLast hne)
      conv => lhs; rw [← List.dropLast_concat_getLast hne]
      rw [beN, valL_snoc]
      have e1 : (256 * valL l.dropLast + (l.getLast hne).toNat) / 256 = valL l.dropLast := by omega
      have e2 : UInt8.ofNat (256 * valL l.dropLast + (l.getLast hne).toNat) = l.getLast hne := by
        apply UInt8.toNat_inj.1
        rw [ofNat_toNat8]
        omega
      rw [e1, e2, ih l.dropLast (by rw [List.length_dropLast, hl]; rfl)]
      exact List.dropLast_concat_getLast hne
  exact h l.length l rfl

/-- Is a round one that a mark can have? -/
def roundOk (r : Int) : Prop := ¬ (r < 1 ∨ 4611686018427387903 < r)

/-- A certificate's mark. -/
def markB (r : Int) (id : ByteArray) : ByteArray := if r < 1 ∨ 4611686018427387903 < r ∨ id.size ≠ 32 then ⟨#[]⟩ else ⟨(beN 8 r.toNat ++ id.data.toList).toArray⟩

/-- The round that is in a mark's first eight bytes. -/
def roundOf (s : ByteArray) : Nat := valL (s.data.toList.take 8)

/-- Is it a mark? -/
def isMark (s : ByteArray) : Prop := s.size = 40 ∧ 1 ≤ roundOf s ∧ roundOf s ≤ 4611686018427387903

instance (s : ByteArray) : Decidable (isMark s) := by unfold isMark; infer_instance

/-- What Unmark tells. -/
def unR (s : ByteArray) : Nat := if isMark s then roundOf s else 0
def unI (s : ByteArray) : ByteArray := if isMark s then s.extract 8 s.size else ⟨#[]⟩

theorem mark_size {r : Int} {id : ByteArray} (h : ¬ (r < 1 ∨ 4611686018427387903 < r ∨ id.size ≠ 32)) : (markB r id).size = 40 := by
  rw [markB, if_neg h, size_mk, List.length_append, beN_length]
  have : id.data.toList.length = id.size := by simp
  omega

theorem mark_round {r : Int} {id : ByteArray} (h : ¬ (r < 1 ∨ 4611686018427387903 < r ∨ id.size ≠ 32)) : roundOf (markB r id) = r.toNat := by
  rw [roundOf, markB, if_neg h]
  show valL ((beN 8 r.toNat ++ id.data.toList).take 8) = _
  rw [List.take_append_of_le_length (by rw [beN_length]; omega), List.take_of_length_le (by rw [beN_length]; omega), val_be]
  have : (256 : Nat) ^ 8 = 18446744073709551616 := by decide
  omega

theorem mark_is {r : Int} {id : ByteArray} (h : ¬ (r < 1 ∨ 4611686018427387903 < r ∨ id.size ≠ 32)) : isMark (markB r id) := by
  refine ⟨mark_size h, ?_, ?_⟩ <;> rw [mark_round h] <;> omega

theorem bytes_ext {a b : ByteArray} (h : a.data.toList = b.data.toList) : a = b := by
  cases a; cases b
  simp only [ByteArray.mk.injEq]
  exact Array.ext' h

theorem extract_from (s : ByteArray) (k : Nat) : (s.extract k s.size).data.toList = s.data.toList.drop k := extract_drop s k

theorem mark_id {r : Int} {id : ByteArray} (h : ¬ (r < 1 ∨ 4611686018427387903 < r ∨ id.size ≠ 32)) : (markB r id).extract 8 (markB r id).size = id := by
  apply bytes_ext
  rw [extract_from, markB, if_neg h]
  show (beN 8 r.toNat ++ id.data.toList).drop 8 = _
  rw [List.drop_append_of_le_length (by rw [beN_length]; omega), List.drop_of_length_le (by rw [beN_length]; omega), List.nil_append]

theorem mark_back {s : ByteArray} (h : isMark s) : markB (roundOf s : Int) (s.extract 8 s.size) = s := by
  obtain ⟨h1, h2, h3⟩ := h
  have hl : s.data.toList.length = 40 := by have : s.data.toList.length = s.size := by simp
                                            omega
  rw [markB, if_neg]
  · apply bytes_ext
    show beN 8 (roundOf s : Int).toNat ++ _ = _
    rw [extract_from, Int.toNat_natCast, roundOf]
    have := be_val (s.data.toList.take 8)
    rw [List.length_take, hl] at this
    have e8 : min 8 40 = 8 := by decide
    rw [e8] at this
    rw [this]
    exact List.take_append_drop _ _
  · rw [ByteArray.size_extract]
    omega

/-- The first block's id. -/
def gen32 : ByteArray := ⟨(List.replicate 32 0).toArray⟩

theorem gen32_size : gen32.size = 32 := by rfl

/-- What a vote for a block says. -/
def wordB (v : Int) (id : ByteArray) : ByteArray := ⟨(goInt v ++ id.data.toList).toArray⟩

/-- Is a text among texts? -/
def hasB (l : List ByteArray) (m : ByteArray) : Bool := l.any fun x => x.data.toList == m.data.toList

theorem hasB_iff {l : List ByteArray} {m : ByteArray} : hasB l m = true ↔ m ∈ l := by
  unfold hasB
  rw [List.any_eq_true]
  constructor
  · rintro ⟨x, hx, h⟩
    rw [beq_iff_eq] at h
    rw [← bytes_ext h]
    exact hx
  · intro h
    exact ⟨m, h, by simp⟩

/-- What is wrong with a row of marks, behind those that stood there. -/
def certsP : List ByteArray → List ByteArray → Nat
  | _, [] => 0
  | seen, m :: r => if ¬ isMark m then 3 else if hasB seen m = true then 13 else certsP (seen ++ [m]) r

theorem certsP_at {l : List ByteArray} {k : Nat} {m : ByteArray} (h : l[k]? = some m) : certsP (l.take k) (l.drop k) = if ¬ isMark m then 3 else if hasB (l.take k) m = true then 13 else certsP (l.take (k + 1)) (l.drop (k + 1)) := by
  obtain ⟨hk, rfl⟩ := List.getElem?_eq_some_iff.1 h
  rw [List.drop_eq_getElem_cons hk, certsP, List.take_append_getElem hk]

theorem certsP_all {l : List ByteArray} : ∀ {seen : List ByteArray}, certsP seen l = 0 → (∀ m ∈ l, isMark m) := by
  induction l with
  | nil => intro _ _ m hm; cases hm
  | cons x r ih =>
    intro seen h m hm
    rw [certsP] at h
    split at h
    · cases h
    rename_i h1
    split at h
    · cases h
    rcases List.mem_cons.1 hm with rfl | hm
    · exact Decidable.of_not_not h1
    · exact ih h m hm
end Go.Proofs.YtaoiejgbbmjpkaaGreatDoor

/- What block.Word does; nothing old in memory is turned. -/
namespace Go.Proofs.YtaoiejgbbmjpkaaGreatDoor
open Go.RowKit
set_option linter.unusedVariables false

theorem word_join (v : Int) (id : ByteArray) : (⟨(goInt v).toArray⟩ : ByteArray) ++ id = wordB v id := append_list _ _

set_option maxRecDepth 100000 in
theorem word_any (v : Int) (id : ByteArray) (w : World) (hid : id.size ≤ 140737488351232) :
    Calls Tryz.prog 37 #[.int .i64 v, .string id] w fun e w' => e = .returned (.string (wordB v id)) ∧ Below w.heap.size w w' := by
  have c := int_any v w
  have hg := goInt_length v
  have hjo : Hid _ := word_join v id
  have hz : (⟨(goInt v).toArray⟩ : ByteArray).size ≤ 9 := by rw [size_mk]; exact hg
  generalize (⟨(goInt v).toArray⟩ : ByteArray) = q at *
  generalize wordB v id = out at *
  clear hg
  go_enter Tryz.func37, Tryz.ntmps37
  go_wp2_with fail
  refine c.mono ?_
  rintro e w1 ⟨rfl, hb⟩
  clear c
  go_wp2
  go_ret
  exact ⟨by rw [← hjo.out]; rfl, hb⟩
end Go.Proofs.YtaoiejgbbmjpkaaGreatDoor
