/- Texts as one: MsgSame, MsgFew, HdrPlain, BlkMath, MsgNone, MsgRef. -/
import Derived.Test.YtmngiekobmhpaaaGreatRk08
import Derived.Test.YtmngiekobmhpaaaGreatRk17
import Derived.Test.YtmngiekobmhpaaaGreatRk10
import Derived.Test.YtmngiekobmhpaaaGreatRk07
import Derived.Deep.QuietTactic
import Derived.BigQuiet
/- What tuskref09.Same says of two messages that are the same; nothing old in memory is turned. -/
namespace Go.Proofs.YtmngiekobmhpaaaGreat
open Go.RowKit
set_option linter.unusedVariables false

/-- A message's lists are no longer than a machine's numbers tell. -/
structure MsgM.Num (x : MsgM) : Prop where
  txs : x.bat.txs.length ≤ 4611686018427387903
  keys : ∀ t ∈ x.bat.txs, t.d.rs.length ≤ 9223372036854775807 ∧ t.d.ws.length ≤ 9223372036854775807
  refs : x.hdr.refs.length ≤ 4611686018427387903
  ps : x.hdr.parents.length ≤ 4611686018427387903
  acks : ∀ r ∈ x.hdr.refs, r.acks.length ≤ 4611686018427387903
  crefs : x.cert.hdr.refs.length ≤ 4611686018427387903
  cps : x.cert.hdr.parents.length ≤ 4611686018427387903
  cacks : ∀ r ∈ x.cert.hdr.refs, r.acks.length ≤ 4611686018427387903
  votes : x.cert.votes.length ≤ 4611686018427387903
  bvotes : x.blk.qc.votes.length ≤ 4611686018427387903
  certs : x.blk.certs.length ≤ 4611686018427387903
  qvotes : x.qc.votes.length ≤ 4611686018427387903

set_option maxRecDepth 100000 in
set_option maxHeartbeats 4000000 in
theorem sameM_any (a b : MsgM) (w : World) (hA : a.At w) (hB : b.At w) (hd : a.d = b.d) (hn : a.Num) :
    Calls Tryz.prog 8 #[a.v, b.v] w fun e w' => e = .returned (.bool true) ∧ Below w.heap.size w w' := by
  have d1 : b.kind = a.kind := (congrArg MsgD.kind hd).symm
  have d2 : b.digest = a.digest := (congrArg MsgD.digest hd).symm
  have d3 : b.view = a.view := (congrArg MsgD.view hd).symm
  have d4 : b.tag = a.tag := (congrArg MsgD.tag hd).symm
  have d5 : a.bat.d = b.bat.d := congrArg MsgD.batch hd
  have d6 : a.hdr.d = b.hdr.d := congrArg MsgD.header hd
  have d7 : a.cert.d = b.cert.d := congrArg MsgD.cert hd
  have d8 : a.blk.d = b.blk.d := congrArg MsgD.block hd
  have d9 : a.qc.d = b.qc.d := congrArg MsgD.qc hd
  have e1 : b.bat.author = a.bat.author := (congrArg BatD.author d5).symm
  have e2 : b.bat.number = a.bat.number := (congrArg BatD.number d5).symm
  have e3 : dl a.bat.txs = dl b.bat.txs := congrArg BatD.txs d5
  obtain ⟨hX, hY, hb⟩ := two_new w 39 39 a.c b.c
  have c1 := fun w1 h1 h2 => sameB_any a.bat.author a.bat.number a.bat.ta a.bat.txs a.bat.tc b.bat.ta b.bat.txs b.bat.tc w1 h1 h2 e3 hn.txs hn.keys
  have c2 := fun w1 h1 h2 => sameH_any a.hdr b.hdr w1 h1 h2 d6 hn.refs hn.ps hn.acks
  have c3 := fun w1 h1 h2 => sameC_any a.cert b.cert w1 h1 h2 d7 hn.crefs hn.cps hn.cacks hn.votes
  have c4 := fun w1 h1 h2 => sameK_any a.blk b.blk w1 h1 h2 d8 hn.bvotes hn.certs
  have c5 := fun w1 h1 h2 => sameQ_any a.qc b.qc w1 h1 h2 d9 hn.qvotes
  have hA1 := hA.below hb
  have hB1 := hB.below hb
  unfold MsgM.v
  unfold MsgM.c at hX hY hb hA1 hB1 ⊢
  unfold batV at c1
  unfold HdrM.v at c2
  unfold CertM.v at c3
  unfold BlkM.v at c4
  unfold QcM.v at c5
  rw [d1, d2, d3, d4, e1, e2] at *
  clear hA hB hd hn d1 d2 d3 d4 d5 d6 d7 d8 d9 e1 e2 e3
  generalize hw1 : (w.alloc _).alloc _ = w1 at hX hY hb hA1 hB1
  have x0 := hX.cell (i := 0) rfl
  have x1 := hX.cell (i := 1) rfl
  have x2 := hX.cell (i := 2) rfl
  have x3 := hX.cell (i := 3) rfl
  have x4 := hX.cell (i := 4) rfl
  have x5 := hX.cell (i := 5) rfl
  have x6 := hX.cell (i := 6) rfl
  have x7 := hX.cell (i := 7) rfl
  have y0 := hY.cell (i := 0) rfl
  have y1 := hY.cell (i := 1) rfl
  have y2 := hY.cell (i := 2) rfl
  have y3 := hY.cell (i := 3) rfl
  have y4 := hY.cell (i := 4) rfl
  have y5 := hY.cell (i := 5) rfl
  have y6 := hY.cell (i := 6) rfl
  have y7 := hY.cell (i := 7) rfl
  go_enter Tryz.func8, Tryz.ntmps8
  go_wp2_with fail
  refine (c1 _ hA1.bat.txs.txs hB1.bat.txs.txs).mono ?_
  rintro e w2 ⟨rfl, hb2⟩
  have hB02 := hb.trans (hb2.mono hb.size)
  have hX2 := hX.below hb2 hX.lt
  have hY2 := hY.below hb2 hY.lt
  have hA2 := hA1.below hb2
  have hB2 := hB1.below hb2
  clear c1 hX hY hA1 hB1 hb hb2 x0 x1 x2 x3 x4 x5 x6 x7 y0 y1 y2 y3 y4 y5 y6 y7
  have x8 := hX2.cell (i := 8) rfl
  have x9 := hX2.cell (i := 9) rfl
  have x10 := hX2.cell (i := 10) rfl
  have x11 := hX2.cell (i := 11) rfl
  have y8 := hY2.cell (i := 8) rfl
  have y9 := hY2.cell (i := 9) rfl
  have y10 := hY2.cell (i := 10) rfl
  have y11 := hY2.cell (i := 11) rfl
  go_wp2_with fail
  refine (c2 _ hA2.hdr hB2.hdr).mono ?_
  rintro e w3 ⟨rfl, hb3⟩
  have hB03 := hB02.trans (hb3.mono hB02.size)
  have hX3 := hX2.below hb3 hX2.lt
  have hY3 := hY2.below hb3 hY2.lt
  have hA3 := hA2.below hb3
  have hB3 := hB2.below hb3
  clear c2 hX2 hY2 hA2 hB2 hB02 hb3 x8 x9 x10 x11 y8 y9 y10 y11
  have x12 := hX3.cell (i := 12) rfl
  have x13 := hX3.cell (i := 13) rfl
  have x14 := hX3.cell (i := 14) rfl
  have x15 := hX3.cell (i := 15) rfl
  have x16 := hX3.cell (i := 16) rfl
  have y12 := hY3.cell (i := 12) rfl
  have y13 := hY3.cell (i := 13) rfl
  have y14 := hY3.cell (i := 14) rfl
  have y15 := hY3.cell (i := 15) rfl
  have y16 := hY3.cell (i := 16) rfl
  go_wp2_with fail
  refine (c3 _ hA3.cert hB3.cert).mono ?_
  rintro e w4 ⟨rfl, hb4⟩
  have hB04 := hB03.trans (hb4.mono hB03.size)
  have hX4 := hX3.below hb4 hX3.lt
  have hY4 := hY3.below hb4 hY3.lt
  have hA4 := hA3.below hb4
  have hB4 := hB3.below hb4
  clear c3 hX3 hY3 hA3 hB3 hB03 hb4 x12 x13 x14 x15 x16 y12 y13 y14 y15 y16
  have x17 := hX4.cell (i := 17) rfl
  have x18 := hX4.cell (i := 18) rfl
  have x19 := hX4.cell (i := 19) rfl
  have x20 := hX4.cell (i := 20) rfl
  have x21 := hX4.cell (i := 21) rfl
  have y17 := hY4.cell (i := 17) rfl
  have y18 := hY4.cell (i := 18) rfl
  have y19 := hY4.cell (i := 19) rfl
  have y20 := hY4.cell (i := 20) rfl
  have y21 := hY4.cell (i := 21) rfl
  go_wp2_with fail
  refine (c4 _ hA4.blk hB4.blk).mono ?_
  rintro e w5 ⟨rfl, hb5⟩
  have hB05 := hB04.trans (hb5.mono hB04.size)
  have hX5 := hX4.below hb5 hX4.lt
  have hY5 := hY4.below hb5 hY4.lt
  have hA5 := hA4.below hb5
  have hB5 := hB4.below hb5
  clear c4 hX4 hY4 hA4 hB4 hB04 hb5 x17 x18 x19 x20 x21 y17 y18 y19 y20 y21
  have x22 := hX5.cell (i := 22) rfl
  have x23 := hX5.cell (i := 23) rfl
  have x24 := hX5.cell (i := 24) rfl
  have y22 := hY5.cell (i := 22) rfl
  have y23 := hY5.cell (i := 23) rfl
  have y24 := hY5.cell (i := 24) rfl
  go_wp2_with fail
  refine (c5 _ hA5.qc hB5.qc).mono ?_
  rintro e w6 ⟨rfl, hb6⟩
  have hB06 := hB05.trans (hb6.mono hB05.size)
  clear c5 hX5 hY5 hA5 hB5 hB05 hb6 x22 x23 x24 y22 y23 y24
  go_wp2
  go_ret
  exact ⟨rfl, hB06⟩
end Go.Proofs.YtmngiekobmhpaaaGreat

/- What was read is short. -/
namespace Go.Proofs.YtmngiekobmhpaaaGreat
open Go.RowKit
set_option linter.unusedVariables false

theorem lens_right9 {d : TxD} (h : checkL d = 0) : d.rs.length ≤ 8 ∧ d.ws.length ≤ 8 := by
  unfold checkL at h
  split at h
  · omega
  split at h
  · omega
  split at h
  · omega
  split at h
  · omega
  rename_i h4
  exact ⟨keysL_le _ (by omega), keysL_le _ h⟩

/-- A header's lists are short. -/
structure HdrD.Few (h : HdrD) : Prop where
  refs : h.refs.length ≤ 16
  ps : h.parents.length ≤ 16
  acks : ∀ r ∈ h.refs, r.acks.length ≤ 16

/-- A message's lists are short, its transactions right. -/
structure MsgD.Few (m : MsgD) : Prop where
  txs : m.batch.txs.length ≤ 16
  right : ∀ t ∈ m.batch.txs, checkL t = 0
  hdr : m.header.Few
  chdr : m.cert.header.Few
  votes : m.cert.votes.length ≤ 16
  bvotes : m.block.qc.votes.length ≤ 16
  certs : m.block.certs.length ≤ 16
  qvotes : m.qc.votes.length ≤ 16

theorem hdr_few {h : HdrD} (hf : h.Fit) : h.Few := ⟨by have := hf.few; omega, by have := hf.ps; omega, fun r hr => by have := (hf.refs r hr).few; omega⟩

theorem few_zero (k : Int) : (msgZ k).Few :=
  ⟨Nat.zero_le _, (fun t ht => by cases ht), ⟨Nat.zero_le _, Nat.zero_le _, (fun t ht => by cases ht)⟩, ⟨Nat.zero_le _, Nat.zero_le _, (fun t ht => by cases ht)⟩, Nat.zero_le _, Nat.zero_le _, Nat.zero_le _, Nat.zero_le _⟩

theorem few_step {c : UInt8} (hc : c ∈ letters) {p p' : MsgD} {l l' : List UInt8} (h : stepF c p l = .ok (p', l')) (hp : p.Few) : p'.Few := by
  obtain ⟨m, r, _, hfit, hset, he⟩ := rdF_back h
  simp only [Except.ok.injEq, Prod.mk.injEq] at he
  obtain ⟨rfl, _⟩ := he
  obtain ⟨s1, s2, s3, s4, s5, s6, s7, s8⟩ := setF_at
  simp only [letters, List.mem_cons, List.not_mem_nil, or_false] at hc
  rcases hc with rfl | rfl | rfl | rfl | rfl | rfl | rfl | rfl
  · rw [s1] at hset
    rw [hset]
    exact ⟨hp.txs, hp.right, hp.hdr, hp.chdr, hp.votes, hp.bvotes, hp.certs, hp.qvotes⟩
  · rw [s2] at hset
    rw [hset]
    exact ⟨hp.txs, hp.right, hp.hdr, hp.chdr, hp.votes, hp.bvotes, hp.certs, hp.qvotes⟩
  · rw [s3] at hset
    rw [hset]
    exact ⟨hp.txs, hp.right, hp.hdr, hp.chdr, hp.votes, hp.bvotes, hp.certs, hp.qvotes⟩
  · have hf : checkB m.batch = 0 := hfit.1
    obtain ⟨_, _, _, _, _, h6, h7⟩ := checkB_zero hf
    rw [s4] at hset
    rw [hset]
    exact ⟨h6, h7, hp.hdr, hp.chdr, hp.votes, hp.bvotes, hp.certs, hp.qvotes⟩
  · have hf : m.header.Fit := hfit.1
    rw [s5] at hset
    rw [hset]
    exact ⟨hp.txs, hp.right, hdr_few hf, hp.chdr, hp.votes, hp.bvotes, hp.certs, hp.qvotes⟩
  · have hf : m.cert.header.Fit ∧ (encH m.cert.header).length ≤ 65536 ∧ m.cert.votes.length ≤ 7 ∧ ∀ t ∈ m.cert.votes, t.Fit := hfit.1
    rw [s6] at hset
    rw [hset]
    exact ⟨hp.txs, hp.right, hp.hdr, hdr_few hf.1, by have := hf.2.2.1; show m.cert.votes.length ≤ 16; omega, hp.bvotes, hp.certs, hp.qvotes⟩
  · have hf : m.block.Fit := hfit.1
    rw [s7] at hset
    rw [hset]
    exact ⟨hp.txs, hp.right, hp.hdr, hp.chdr, hp.votes, by have := hf.qc.few; show m.block.qc.votes.length ≤ 16; omega, by have := hf.few; show m.block.certs.length ≤ 16; omega, hp.qvotes⟩
  · have hf : m.qc.Fit := hfit.1
    rw [s8] at hset
    rw [hset]
    exact ⟨hp.txs, hp.right, hp.hdr, hp.chdr, hp.votes, hp.bvotes, hp.certs, by have := hf.few; show m.qc.votes.length ≤ 16; omega⟩

theorem few_hdr {x : HdrM} (h : x.d.Few) : x.refs.length ≤ 16 ∧ x.parents.length ≤ 16 ∧ ∀ r ∈ x.refs, r.acks.length ≤ 16 :=
  ⟨by have := h.refs; rw [show x.d.refs = rd x.refs from rfl, rd_length] at this; exact this, h.ps, fun r hr => h.acks r.d (List.mem_map.2 ⟨r, hr, rfl⟩)⟩

theorem few_num {x : MsgM} (h : x.d.Few) : x.Num := by
  have h1 : x.bat.txs.length ≤ 16 := by have := h.txs; rw [show x.d.batch.txs = dl x.bat.txs from rfl, dl_length] at this; exact this
  have h2 := few_hdr (x := x.hdr) h.hdr
  have h3 := few_hdr (x := x.cert.hdr) h.chdr
  have h4 : x.cert.votes.length ≤ 16 := h.votes
  have h5 : x.blk.qc.votes.length ≤ 16 := h.bvotes
  have h6 : x.blk.certs.length ≤ 16 := h.certs
  have h7 : x.qc.votes.length ≤ 16 := h.qvotes
  exact ⟨by omega, fun t ht => by have := lens_right9 (h.right t.d (List.mem_map.2 ⟨t, ht, rfl⟩)); omega, by omega, by omega, fun r hr => by have := h2.2.2 r hr; omega, by omega, by omega, fun r hr => by have := h3.2.2 r hr; omega, by omega, by omega, by omega, by omega⟩
end Go.Proofs.YtmngiekobmhpaaaGreat

/- What tusklaw06.Great, PlainTags and Plain do; nothing in memory is turned. -/
namespace Go.Proofs.YtmngiekobmhpaaaGreat
open Go.RowKit
set_option linter.unusedVariables false

/-- A bool is handed back that says whether P. -/
def GotBool (P : Prop) (e : Ending) : Prop := ∃ p : Bool, e = .returned (.bool p) ∧ (p = true ↔ P)

theorem gotB_no {P : Prop} (h : ¬ P) {e : Ending} (he : e = .returned (.bool false)) : GotBool P e := ⟨false, he, (fun h => by cases h), fun h' => absurd h' h⟩
theorem gotB_yes {P : Prop} (h : P) {e : Ending} (he : e = .returned (.bool true)) : GotBool P e := ⟨true, he, fun _ => h, fun _ => rfl⟩
end Go.Proofs.YtmngiekobmhpaaaGreat

/- The mathematics of layer 8: marks, the first block's id, words, what is wrong with a row of marks. -/
namespace Go.Proofs.YtmngiekobmhpaaaGreat
open Go.RowKit
set_option linter.unusedVariables false

/-- A number in k bytes, the highest first. -/
def beN : Nat → Nat → List UInt8
  | 0, _ => []
  | k + 1, n => beN k (n / 256) ++ [UInt8.ofNat n]

/-- The number that bytes say, the highest first. -/
def valL (l : List UInt8) : Nat := l.foldl (fun a b => 256 * a + b.toNat) 0

/-- Is a round one that a mark can have? -/
def roundOk (r : Int) : Prop := ¬ (r < 1 ∨ 4611686018427387903 < r)

/-- A certificate's mark. -/
def markB (r : Int) (id : ByteArray) : ByteArray := if r < 1 ∨ 4611686018427387903 < r ∨ id.size ≠ 32 then ⟨#[]⟩ else ⟨(beN 8 r.toNat ++ id.data.toList).toArray⟩

/-- The round that is in a mark's first eight bytes. -/
def roundOf (s : ByteArray) : Nat := valL (s.data.toList.take 8)

/-- Is it a mark? -/
def isMark (s : ByteArray) : Prop := s.size = 40 ∧ 1 ≤ roundOf s ∧ roundOf s ≤ 4611686018427387903

instance (s : ByteArray) : Decidable (isMark s) := by unfold isMark; infer_instance

/-- What Unmark tells. -/
def unR (s : ByteArray) : Nat := if isMark s then roundOf s else 0
def unI (s : ByteArray) : ByteArray := if isMark s then s.extract 8 s.size else ⟨#[]⟩

theorem bytes_ext {a b : ByteArray} (h : a.data.toList = b.data.toList) : a = b := by
  cases a; cases b
  simp only [ByteArray.mk.injEq]
  exact Array.ext' h

/-- The first block's id. -/
def gen32 : ByteArray := ⟨(List.replicate 32 0).toArray⟩

/-- What a vote for a block says. -/
def wordB (v : Int) (id : ByteArray) : ByteArray := ⟨(goInt v ++ id.data.toList).toArray⟩

/-- Is a text among texts? -/
def hasB (l : List ByteArray) (m : ByteArray) : Bool := l.any fun x => x.data.toList == m.data.toList

/-- What is wrong with a row of marks, behind those that stood there. -/
def certsP : List ByteArray → List ByteArray → Nat
  | _, [] => 0
  | seen, m :: r => if ¬ isMark m then 3 else if hasB seen m = true then 13 else certsP (seen ++ [m]) r
end Go.Proofs.YtmngiekobmhpaaaGreat

/- What the reference's Same functions say of something beside nothing: is it nothing? Nothing old in memory is turned. -/
namespace Go.Proofs.YtmngiekobmhpaaaGreat
open Go.RowKit
set_option linter.unusedVariables false

theorem len_zero {α : Type} {l : List α} (h : l ≠ []) : ¬ (l.length : Int) = 0 := fun e => h (List.length_eq_zero_iff.1 (by omega))

theorem dl_nil {l : List TxM} (h : dl l = []) : l = [] := List.length_eq_zero_iff.1 (by rw [← dl_length, h]; rfl)
theorem rd_nil {l : List RefM} (h : rd l = []) : l = [] := List.length_eq_zero_iff.1 (by rw [← rd_length, h]; rfl)

/-- Yes or no as P says, and nothing old is turned. -/
def Told (W : World) (P : Prop) (e : Ending) (w : World) : Prop := GotBool P e ∧ Below W.heap.size W w

theorem told_no {W w : World} {P : Prop} (h : ¬ P) (hb : Below W.heap.size W w) {e : Ending} (he : e = .returned (.bool false)) : Told W P e w := ⟨gotB_no h he, hb⟩
theorem told_yes {W w : World} {P : Prop} (h : P) (hb : Below W.heap.size W w) {e : Ending} (he : e = .returned (.bool true)) : Told W P e w := ⟨gotB_yes h he, hb⟩

theorem Told.iff {W w : World} {P Q : Prop} {e : Ending} (h : Told W P e w) (hq : P ↔ Q) : Told W Q e w := by
  obtain ⟨⟨p, he, hp⟩, hb⟩ := h
  exact ⟨⟨p, he, hp.trans hq⟩, hb⟩

set_option maxRecDepth 100000 in
set_option maxHeartbeats 1000000 in
theorem sameS_none (ao : Option Addr) (c : Nat) (l : List ByteArray) (w : World) :
    Calls Tryz.prog 72 #[.slice ao l.length c, .slice none 0 0] w (Told w (l = [])) := by
  by_cases h : l = []
  · subst h
    exact (same_any ao none c 0 [] w (nil_row (K := strK) w ao).strs (nil_row (K := strK) w none).strs (by decide)).mono (fun e w' h => told_yes rfl h.2 h.1)
  · have h1 := len_zero h
    go_enter Tryz.func72, Tryz.ntmps72
    go_wp2
    go_ret
    exact told_no h (Below.refl _ _) rfl

set_option maxRecDepth 100000 in
set_option maxHeartbeats 1000000 in
theorem sameTags_none (ao : Option Addr) (c : Nat) (l : List TagD) (w : World) :
    Calls Tryz.prog 73 #[.slice ao l.length c, .slice none 0 0] w (Told w (l = [])) := by
  by_cases h : l = []
  · subst h
    exact (sameTags_any ao none c 0 [] w (nil_row w ao) (nil_row w none) (by decide)).mono (fun e w' h => told_yes rfl h.2 h.1)
  · have h1 := len_zero h
    go_enter Tryz.func73, Tryz.ntmps73
    go_wp2
    go_ret
    exact told_no h (Below.refl _ _) rfl

set_option maxRecDepth 100000 in
set_option maxHeartbeats 2000000 in
theorem sameB_none (x : BatM) (w : World) :
    Calls Tryz.prog 23 #[x.v, bat0.v] w (Told w (x.d = bat0.d)) := by
  obtain ⟨a, n, ao, l, c⟩ := x
  have hd : (BatM.d ⟨a, n, ao, l, c⟩ = bat0.d) ↔ (a = 0 ∧ n = 0 ∧ l = []) := by
    show (⟨a, n, dl l⟩ : BatD) = ⟨0, 0, []⟩ ↔ _
    simp only [BatD.mk.injEq]
    exact ⟨fun h => ⟨h.1, h.2.1, dl_nil h.2.2⟩, fun h => ⟨h.1, h.2.1, by rw [h.2.2]; rfl⟩⟩
  generalize (BatM.d ⟨a, n, ao, l, c⟩ = bat0.d) = P at hd ⊢
  unfold BatM.v bat0
  simp only [List.length_nil]
  by_cases h1 : a = 0
  · subst h1
    by_cases h2 : n = 0
    · subst h2
      by_cases h3 : l = []
      · subst h3
        exact (sameB_any 0 0 ao [] c none [] 0 w (fun i x hx => by simp at hx) (fun i x hx => by simp at hx) rfl (by decide) (fun x hx => by cases hx)).mono (fun e w' h => told_yes (hd.2 ⟨rfl, rfl, rfl⟩) h.2 h.1)
      · have h4 := len_zero h3
        have hno : ¬ P := fun h => h3 (hd.1 h).2.2
        clear hd
        obtain ⟨hX, hY, hB⟩ := two_new w 26 26 [.int .i64 0, .int .i64 0, .slice ao l.length c] [.int .i64 0, .int .i64 0, .slice none 0 0]
        have x0 := hX.cell (i := 0) rfl
        have x1 := hX.cell (i := 1) rfl
        have x2 := hX.cell (i := 2) rfl
        have y0 := hY.cell (i := 0) rfl
        have y1 := hY.cell (i := 1) rfl
        have y2 := hY.cell (i := 2) rfl
        go_enter Tryz.func23, Tryz.ntmps23
        go_wp2
        go_ret
        exact told_no hno hB rfl
    · have hno : ¬ P := fun h => h2 (hd.1 h).2.1
      clear hd
      obtain ⟨hX, hY, hB⟩ := two_new w 26 26 [.int .i64 0, .int .i64 n, .slice ao l.length c] [.int .i64 0, .int .i64 0, .slice none 0 0]
      have x0 := hX.cell (i := 0) rfl
      have x1 := hX.cell (i := 1) rfl
      have x2 := hX.cell (i := 2) rfl
      have y0 := hY.cell (i := 0) rfl
      have y1 := hY.cell (i := 1) rfl
      have y2 := hY.cell (i := 2) rfl
      go_enter Tryz.func23, Tryz.ntmps23
      go_wp2
      go_ret
      exact told_no hno hB rfl
  · have hno : ¬ P := fun h => h1 (hd.1 h).1
    clear hd
    obtain ⟨hX, hY, hB⟩ := two_new w 26 26 [.int .i64 a, .int .i64 n, .slice ao l.length c] [.int .i64 0, .int .i64 0, .slice none 0 0]
    have x0 := hX.cell (i := 0) rfl
    have x1 := hX.cell (i := 1) rfl
    have x2 := hX.cell (i := 2) rfl
    have y0 := hY.cell (i := 0) rfl
    have y1 := hY.cell (i := 1) rfl
    have y2 := hY.cell (i := 2) rfl
    go_enter Tryz.func23, Tryz.ntmps23
    go_wp2
    go_ret
    exact told_no hno hB rfl

set_option maxRecDepth 100000 in
set_option maxHeartbeats 2000000 in
theorem sameQ_none (x : QcM) (w : World) :
    Calls Tryz.prog 27 #[x.v, qc0.v] w (Told w (x.d = qc0.d)) := by
  obtain ⟨v, b, va, l, c⟩ := x
  have hd : (QcM.d ⟨v, b, va, l, c⟩ = qc0.d) ↔ (v = 0 ∧ b = ⟨#[]⟩ ∧ l = []) := by
    show (⟨v, b, l⟩ : QcD) = ⟨0, ⟨#[]⟩, []⟩ ↔ _
    simp only [QcD.mk.injEq]
  generalize (QcM.d ⟨v, b, va, l, c⟩ = qc0.d) = P at hd ⊢
  have cV := fun w1 => sameTags_none va c l w1
  unfold QcM.v qc0
  simp only [List.length_nil]
  by_cases h1 : v = 0
  · subst h1
    by_cases h2 : b = ⟨#[]⟩
    · subst h2
      have hl : Hid ((l = []) ↔ P) := ⟨fun h => hd.2 ⟨rfl, rfl, h⟩, fun h => (hd.1 h).2.2⟩
      clear hd
      obtain ⟨hX, hY, hB⟩ := two_new w 35 35 [.int .i64 0, .string ⟨#[]⟩, .slice va l.length c] [.int .i64 0, .string ⟨#[]⟩, .slice none 0 0]
      have x0 := hX.cell (i := 0) rfl
      have x1 := hX.cell (i := 1) rfl
      have x2 := hX.cell (i := 2) rfl
      have y0 := hY.cell (i := 0) rfl
      have y1 := hY.cell (i := 1) rfl
      have y2 := hY.cell (i := 2) rfl
      go_enter Tryz.func27, Tryz.ntmps27
      go_wp2_with fail
      refine (cV _).mono ?_
      rintro e w2 ⟨⟨p, rfl, hp⟩, hb2⟩
      have hB2 := hB.trans (hb2.mono hB.size)
      have fin : ∀ e, e = .returned (.bool p) → Told w P e w2 := fun e he => ⟨⟨p, he, hp.trans hl.out⟩, hB2⟩
      clear cV hp hl hX hY hB hb2 x0 x1 x2 y0 y1 y2
      go_wp2
      go_ret
      exact fin _ rfl
    · have h5 : ¬ b.toList = [] := fun h => h2 (bytes_ext (by rw [← ByteArray.toList_eq, h]))
      have hno : ¬ P := fun h => h2 (hd.1 h).2.1
      clear hd
      obtain ⟨hX, hY, hB⟩ := two_new w 35 35 [.int .i64 0, .string b, .slice va l.length c] [.int .i64 0, .string ⟨#[]⟩, .slice none 0 0]
      have x0 := hX.cell (i := 0) rfl
      have x1 := hX.cell (i := 1) rfl
      have x2 := hX.cell (i := 2) rfl
      have y0 := hY.cell (i := 0) rfl
      have y1 := hY.cell (i := 1) rfl
      have y2 := hY.cell (i := 2) rfl
      go_enter Tryz.func27, Tryz.ntmps27
      go_wp2
      go_ret
      exact told_no hno hB rfl
  · have hno : ¬ P := fun h => h1 (hd.1 h).1
    clear hd
    obtain ⟨hX, hY, hB⟩ := two_new w 35 35 [.int .i64 v, .string b, .slice va l.length c] [.int .i64 0, .string ⟨#[]⟩, .slice none 0 0]
    have x0 := hX.cell (i := 0) rfl
    have x1 := hX.cell (i := 1) rfl
    have x2 := hX.cell (i := 2) rfl
    have y0 := hY.cell (i := 0) rfl
    have y1 := hY.cell (i := 1) rfl
    have y2 := hY.cell (i := 2) rfl
    go_enter Tryz.func27, Tryz.ntmps27
    go_wp2
    go_ret
    exact told_no hno hB rfl

set_option maxRecDepth 100000 in
set_option maxHeartbeats 2000000 in
theorem sameH_none (x : HdrM) (w : World) (hA : x.At w) :
    Calls Tryz.prog 24 #[x.v, hdr9.v] w (Told w (x.d = hdr9.d)) := by
  obtain ⟨au, ro, ra, rs, rc, pa, ps, pc⟩ := x
  have hd : (HdrM.d ⟨au, ro, ra, rs, rc, pa, ps, pc⟩ = hdr9.d) ↔ (au = 0 ∧ ro = 0 ∧ rs = [] ∧ ps = []) := by
    show (⟨au, ro, rd rs, ps⟩ : HdrD) = ⟨0, 0, [], []⟩ ↔ _
    simp only [HdrD.mk.injEq]
    exact ⟨fun h => ⟨h.1, h.2.1, rd_nil h.2.2.1, h.2.2.2⟩, fun h => ⟨h.1, h.2.1, by rw [h.2.2.1]; rfl, h.2.2.2⟩⟩
  generalize (HdrM.d ⟨au, ro, ra, rs, rc, pa, ps, pc⟩ = hdr9.d) = P at hd ⊢
  have cP := fun w1 => sameS_none pa pc ps w1
  by_cases h1 : au = 0
  · subst h1
    by_cases h2 : ro = 0
    · subst h2
      by_cases h3 : rs = []
      · subst h3
        by_cases h4 : ps = []
        · subst h4
          exact (sameH_any ⟨0, 0, ra, [], rc, pa, [], pc⟩ ⟨0, 0, none, [], 0, none, [], 0⟩ w ⟨nil_row _ _, hA.nr, nil_row _ _, hA.np⟩ ⟨nil_row _ _, fun _ => rfl, nil_row _ _, fun _ => rfl⟩ rfl (Nat.zero_le _) (Nat.zero_le _) (fun x hx => by cases hx)).mono (fun e w' h => told_yes (hd.2 ⟨rfl, rfl, rfl, rfl⟩) h.2 h.1)
        · unfold HdrM.v hdr9
          simp only [List.length_nil]
          have hno : ¬ P := fun h => h4 (hd.1 h).2.2.2
          clear hd
          obtain ⟨hX, hY, hB⟩ := two_new w 30 30 [.int .i64 0, .int .i64 0, .slice ra 0 rc, .slice pa ps.length pc] [.int .i64 0, .int .i64 0, .slice none 0 0, .slice none 0 0]
          have x0 := hX.cell (i := 0) rfl
          have x1 := hX.cell (i := 1) rfl
          have x2 := hX.cell (i := 2) rfl
          have x3 := hX.cell (i := 3) rfl
          have y0 := hY.cell (i := 0) rfl
          have y1 := hY.cell (i := 1) rfl
          have y2 := hY.cell (i := 2) rfl
          have y3 := hY.cell (i := 3) rfl
          go_enter Tryz.func24, Tryz.ntmps24
          go_wp2_with fail
          refine (cP _).mono ?_
          rintro e w2 ⟨⟨p, rfl, hp⟩, hb2⟩
          have hB2 := hB.trans (hb2.mono hB.size)
          obtain rfl : p = false := by
            cases p
            · rfl
            · exact absurd (hp.1 rfl) h4
          clear cP hp hX hY hB hb2 x0 x1 x2 x3 y0 y1 y2 y3
          go_wp2
          go_ret
          exact told_no hno hB2 rfl
      · have h4 := len_zero h3
        unfold HdrM.v hdr9
        simp only [List.length_nil]
        have hno : ¬ P := fun h => h3 (hd.1 h).2.2.1
        clear hd
        obtain ⟨hX, hY, hB⟩ := two_new w 30 30 [.int .i64 0, .int .i64 0, .slice ra rs.length rc, .slice pa ps.length pc] [.int .i64 0, .int .i64 0, .slice none 0 0, .slice none 0 0]
        have x0 := hX.cell (i := 0) rfl
        have x1 := hX.cell (i := 1) rfl
        have x2 := hX.cell (i := 2) rfl
        have x3 := hX.cell (i := 3) rfl
        have y0 := hY.cell (i := 0) rfl
        have y1 := hY.cell (i := 1) rfl
        have y2 := hY.cell (i := 2) rfl
        have y3 := hY.cell (i := 3) rfl
        go_enter Tryz.func24, Tryz.ntmps24
        go_wp2
        go_ret
        exact told_no hno hB rfl
    · unfold HdrM.v hdr9
      simp only [List.length_nil]
      have hno : ¬ P := fun h => h2 (hd.1 h).2.1
      clear hd
      obtain ⟨hX, hY, hB⟩ := two_new w 30 30 [.int .i64 0, .int .i64 ro, .slice ra rs.length rc, .slice pa ps.length pc] [.int .i64 0, .int .i64 0, .slice none 0 0, .slice none 0 0]
      have x0 := hX.cell (i := 0) rfl
      have x1 := hX.cell (i := 1) rfl
      have x2 := hX.cell (i := 2) rfl
      have x3 := hX.cell (i := 3) rfl
      have y0 := hY.cell (i := 0) rfl
      have y1 := hY.cell (i := 1) rfl
      have y2 := hY.cell (i := 2) rfl
      have y3 := hY.cell (i := 3) rfl
      go_enter Tryz.func24, Tryz.ntmps24
      go_wp2
      go_ret
      exact told_no hno hB rfl
  · unfold HdrM.v hdr9
    simp only [List.length_nil]
    have hno : ¬ P := fun h => h1 (hd.1 h).1
    clear hd
    obtain ⟨hX, hY, hB⟩ := two_new w 30 30 [.int .i64 au, .int .i64 ro, .slice ra rs.length rc, .slice pa ps.length pc] [.int .i64 0, .int .i64 0, .slice none 0 0, .slice none 0 0]
    have x0 := hX.cell (i := 0) rfl
    have x1 := hX.cell (i := 1) rfl
    have x2 := hX.cell (i := 2) rfl
    have x3 := hX.cell (i := 3) rfl
    have y0 := hY.cell (i := 0) rfl
    have y1 := hY.cell (i := 1) rfl
    have y2 := hY.cell (i := 2) rfl
    have y3 := hY.cell (i := 3) rfl
    go_enter Tryz.func24, Tryz.ntmps24
    go_wp2
    go_ret
    exact told_no hno hB rfl

set_option maxRecDepth 100000 in
set_option maxHeartbeats 2000000 in
theorem sameC_none (x : CertM) (w : World) (hA : x.At w) :
    Calls Tryz.prog 25 #[x.v, cert0.v] w (Told w (x.d = cert0.d)) := by
  obtain ⟨h, va, vs, vc⟩ := x
  have hd : (CertM.d ⟨h, va, vs, vc⟩ = cert0.d) ↔ (h.d = hdr9.d ∧ vs = []) := by
    show (⟨h.d, vs⟩ : CertD) = ⟨hdr9.d, []⟩ ↔ _
    simp only [CertD.mk.injEq]
  generalize (CertM.d ⟨h, va, vs, vc⟩ = cert0.d) = P at hd ⊢
  generalize hQ : (h.d = hdr9.d) = Q at hd
  have cH := fun w1 h1 => sameH_none h w1 h1
  have cV := fun w1 => sameTags_none va vc vs w1
  rw [hQ] at cH
  clear hQ
  have Hd : Hid (P ↔ (Q ∧ vs = [])) := hd
  have hh : HdrM.At w h := hA.hdr
  unfold CertM.v cert0
  unfold HdrM.v hdr9 at cH
  simp only [List.length_nil] at cH ⊢
  clear hd hA
  obtain ⟨hX, hY, hB⟩ := two_new w 33 33 [.int .i64 h.author, .int .i64 h.round, .slice h.ra h.refs.length h.rc, .slice h.pa h.parents.length h.pc, .slice va vs.length vc] [.int .i64 0, .int .i64 0, .slice none 0 0, .slice none 0 0, .slice none 0 0]
  have x0 := hX.cell (i := 0) rfl
  have x1 := hX.cell (i := 1) rfl
  have x2 := hX.cell (i := 2) rfl
  have x3 := hX.cell (i := 3) rfl
  have x4 := hX.cell (i := 4) rfl
  have y0 := hY.cell (i := 0) rfl
  have y1 := hY.cell (i := 1) rfl
  have y2 := hY.cell (i := 2) rfl
  have y3 := hY.cell (i := 3) rfl
  have y4 := hY.cell (i := 4) rfl
  go_enter Tryz.func25, Tryz.ntmps25
  have hh1 := hh.below hB
  go_wp2_with fail
  refine (cH _ hh1).mono ?_
  rintro e w2 ⟨⟨p, rfl, hp⟩, hb2⟩
  have hX2 := hX.below hb2 hX.lt
  have hY2 := hY.below hb2 hY.lt
  have hB2 := hB.trans (hb2.mono hB.size)
  clear cH hh hh1 hX hY hB hb2 x0 x1 x2 x3 x4 y0 y1 y2 y3 y4
  cases p
  case false =>
    have hno : ¬ P := fun h => by have := hp.2 (Hd.out.1 h).1; cases this
    clear Hd hp
    go_wp2
    go_ret
    exact told_no hno hB2 rfl
  have hq : (vs = []) ↔ P := ⟨fun h => Hd.out.2 ⟨hp.1 rfl, h⟩, fun h => (Hd.out.1 h).2⟩
  have x4 := hX2.cell (i := 4) rfl
  have y4 := hY2.cell (i := 4) rfl
  have HQ : Hid ((vs = []) ↔ P) := hq
  clear Hd hp hq
  go_wp2_with fail
  refine (cV _).mono ?_
  rintro e w3 ⟨⟨p, rfl, hp⟩, hb3⟩
  have hB3 := hB2.trans (hb3.mono hB2.size)
  have fin : ∀ e, e = .returned (.bool p) → Told w P e w3 := fun e he => ⟨⟨p, he, hp.trans HQ.out⟩, hB3⟩
  clear cV hp HQ hX2 hY2 hB2 hb3 x4 y4
  go_wp2
  go_ret
  exact fin _ rfl

set_option maxRecDepth 100000 in
set_option maxHeartbeats 2000000 in
theorem sameK_none (x : BlkM) (w : World) :
    Calls Tryz.prog 26 #[x.v, blk0.v] w (Told w (x.d = blk0.d)) := by
  obtain ⟨v, q, ca, l, cc⟩ := x
  have hd : (BlkM.d ⟨v, q, ca, l, cc⟩ = blk0.d) ↔ (v = 0 ∧ q.d = qc0.d ∧ l = []) := by
    show (⟨v, q.d, l⟩ : BlkD) = ⟨0, qc0.d, []⟩ ↔ _
    simp only [BlkD.mk.injEq]
  generalize (BlkM.d ⟨v, q, ca, l, cc⟩ = blk0.d) = P at hd ⊢
  generalize hQ : (q.d = qc0.d) = Q at hd
  have cQ := fun w1 => sameQ_none q w1
  have cS := fun w1 => sameS_none ca cc l w1
  rw [hQ] at cQ
  clear hQ
  unfold BlkM.v blk0 qc0
  unfold QcM.v qc0 at cQ
  simp only [List.length_nil] at cQ ⊢
  by_cases h1 : v = 0
  · subst h1
    have Hd : Hid (P ↔ (Q ∧ l = [])) := ⟨fun h => (hd.1 h).2, fun h => hd.2 ⟨rfl, h⟩⟩
    clear hd
    obtain ⟨hX, hY, hB⟩ := two_new w 37 37 [.int .i64 0, .int .i64 q.view, .string q.block, .slice q.va q.votes.length q.vc, .slice ca l.length cc] [.int .i64 0, .int .i64 0, .string ⟨#[]⟩, .slice none 0 0, .slice none 0 0]
    have x0 := hX.cell (i := 0) rfl
    have x1 := hX.cell (i := 1) rfl
    have x2 := hX.cell (i := 2) rfl
    have x3 := hX.cell (i := 3) rfl
    have x4 := hX.cell (i := 4) rfl
    have y0 := hY.cell (i := 0) rfl
    have y1 := hY.cell (i := 1) rfl
    have y2 := hY.cell (i := 2) rfl
    have y3 := hY.cell (i := 3) rfl
    have y4 := hY.cell (i := 4) rfl
    go_enter Tryz.func26, Tryz.ntmps26
    go_wp2_with fail
    refine (cQ _).mono ?_
    rintro e w2 ⟨⟨p, rfl, hp⟩, hb2⟩
    have hX2 := hX.below hb2 hX.lt
    have hY2 := hY.below hb2 hY.lt
    have hB2 := hB.trans (hb2.mono hB.size)
    clear cQ hX hY hB hb2 x0 x1 x2 x3 x4 y0 y1 y2 y3 y4
    cases p
    case false =>
      have hno : ¬ P := fun h => by have := hp.2 (Hd.out.1 h).1; cases this
      clear Hd hp
      go_wp2
      go_ret
      exact told_no hno hB2 rfl
    have HQ : Hid ((l = []) ↔ P) := ⟨fun h => Hd.out.2 ⟨hp.1 rfl, h⟩, fun h => (Hd.out.1 h).2⟩
    have x4 := hX2.cell (i := 4) rfl
    have y4 := hY2.cell (i := 4) rfl
    clear Hd hp
    go_wp2_with fail
    refine (cS _).mono ?_
    rintro e w3 ⟨⟨p, rfl, hp⟩, hb3⟩
    have hB3 := hB2.trans (hb3.mono hB2.size)
    have fin : ∀ e, e = .returned (.bool p) → Told w P e w3 := fun e he => ⟨⟨p, he, hp.trans HQ.out⟩, hB3⟩
    clear cS hp HQ hX2 hY2 hB2 hb3 x4 y4
    go_wp2
    go_ret
    exact fin _ rfl
  · have hno : ¬ P := fun h => h1 (hd.1 h).1
    clear hd
    obtain ⟨hX, hY, hB⟩ := two_new w 37 37 [.int .i64 v, .int .i64 q.view, .string q.block, .slice q.va q.votes.length q.vc, .slice ca l.length cc] [.int .i64 0, .int .i64 0, .string ⟨#[]⟩, .slice none 0 0, .slice none 0 0]
    have x0 := hX.cell (i := 0) rfl
    have x1 := hX.cell (i := 1) rfl
    have x2 := hX.cell (i := 2) rfl
    have x3 := hX.cell (i := 3) rfl
    have x4 := hX.cell (i := 4) rfl
    have y0 := hY.cell (i := 0) rfl
    have y1 := hY.cell (i := 1) rfl
    have y2 := hY.cell (i := 2) rfl
    have y3 := hY.cell (i := 3) rfl
    have y4 := hY.cell (i := 4) rfl
    go_enter Tryz.func26, Tryz.ntmps26
    go_wp2
    go_ret
    exact told_no hno hB rfl
end Go.Proofs.YtmngiekobmhpaaaGreat

/- What tuskref09.fields and tuskref09.has do; nothing in memory is turned. -/
namespace Go.Proofs.YtmngiekobmhpaaaGreat
open Go.RowKit
set_option linter.unusedVariables false

/-- The fields of a kind, as a text. -/
def fieldsS (k : Int) : ByteArray := ⟨⟨fieldsK k⟩⟩

set_option maxRecDepth 100000 in
set_option maxHeartbeats 4000000 in
theorem refFields_any (k : Int) (w : World) :
    Calls Tryz.prog 20 #[.int .i64 k] w fun e w' => e = .returned (.string (fieldsS k)) ∧ Below w.heap.size w w' := by
  by_cases h : k < 1 ∨ 11 < k
  · have e0 : fieldsS k = ⟨#[]⟩ := by unfold fieldsS; rw [fieldsK_none h]
    rw [e0]
    go_enter Tryz.func20, Tryz.ntmps20
    by_cases h1 : k < 1
    · go_wp2
      go_ret
      exact ⟨rfl, Below.refl _ _⟩
    · have h2 : 11 < k := by omega
      go_wp2
      go_ret
      exact ⟨rfl, Below.refl _ _⟩
  · have hk : k = 1 ∨ k = 2 ∨ k = 3 ∨ k = 4 ∨ k = 5 ∨ k = 6 ∨ k = 7 ∨ k = 8 ∨ k = 9 ∨ k = 10 ∨ k = 11 := by omega
    clear h
    rcases hk with rfl | rfl | rfl | rfl | rfl | rfl | rfl | rfl | rfl | rfl | rfl
    all_goals
      go_enter Tryz.func20, Tryz.ntmps20
      go_wp2
      go_ret
      exact ⟨rfl, belowNew _ _⟩

set_option maxRecDepth 100000 in
set_option maxHeartbeats 1000000 in
theorem refHas_any (s : ByteArray) (c : UInt8) (w : World) (hn : s.size ≤ 4611686018427387903) :
    Calls Tryz.prog 43 #[.string s, .int .u8 (c.toNat : Int)] w fun e w' => e = .returned (.bool (decide (c ∈ s.data.toList))) ∧ w' = w := by
  obtain ⟨out, hout⟩ : ∃ q, Hid (q = decide (c ∈ s.data.toList)) := ⟨_, rfl⟩
  rw [← hout.out]
  have hsz : s.data.toList.length = s.size := rfl
  go_enter Tryz.func43, Tryz.ntmps43
  go_wp2
  go_loopw [5] (fun v5 wr => ∃ k : Nat, k ≤ s.size ∧ v5 = .int .i64 (k : Int) ∧ Hid (c ∉ s.data.toList.take k) ∧ wr = w) (fun v _ => s.size - (intOf v).toNat)
  case atStart => exact ⟨0, Nat.zero_le _, rfl, (fun h => by cases h), rfl⟩
  case round =>
    obtain ⟨k, hk, rfl, hno, rfl⟩ := hrel
    by_cases hlt : k < s.size
    · have hel : s.data.toList[k]'(by rw [hsz]; exact hlt) = s[k] := by rw [Array.getElem_toList]; rfl
      cases he : ((s[k].toNat : Int) == (c.toNat : Int)) with
      | true =>
        have hc : s[k] = c := by
          have h1 : (s[k].toNat : Int) = (c.toNat : Int) := by simpa using he
          exact UInt8.toNat_inj.1 (by omega)
        have hf : Hid (out = true) := by
          show _ = _
          rw [hout.out, ← hc, ← hel]
          simp only [decide_eq_true_eq]
          exact List.getElem_mem _
        clear hno hel hc
        go_wp2
        go_ret
        exact ⟨by rw [hf.out]; rfl, rfl⟩
      | false =>
        have hno2 : Hid (c ∉ s.data.toList.take (k + 1)) := by
          show ¬ _
          rw [List.take_succ_eq_append_getElem (by rw [hsz]; exact hlt), hel, List.mem_append, List.mem_singleton]
          rintro (h | h)
          · exact hno.out h
          · rw [← h] at he
            simp at he
        clear hno hel
        go_wp2
        go_roundw
        case rel => exact ⟨k + 1, by omega, by go_num, hno2, trivial⟩
        case measure => simp [intOf]; omega
    · have hf : Hid (out = false) := by
        show _ = _
        have hno' := hno.out
        rw [List.take_of_length_le (by omega)] at hno'
        rw [hout.out]
        simp [hno']
      clear hno
      go_wp2
      go_ret
      exact ⟨by rw [hf.out]; rfl, rfl⟩
end Go.Proofs.YtmngiekobmhpaaaGreat
