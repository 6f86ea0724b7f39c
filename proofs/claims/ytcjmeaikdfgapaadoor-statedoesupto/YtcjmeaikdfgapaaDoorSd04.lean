/- Texts as one: TxEncode, StaDig, StaPayMath, Queue, MapStr, MapStrOps. -/
import Derived.Test.YtcjmeaikdfgapaaDoorSd03
import Derived.ArgAppend
import Derived.Maps.OwnSet
import Derived.Maps.OwnOps
import Derived.StringKeys
/- What Encode does; nothing old in memory is turned. -/
namespace Go.Proofs.YtcjmeaikdfgapaaDoor
open Go.RowKit
set_option linter.unusedVariables false

theorem isNm_size {s : ByteArray} (h : isNm s = true) : s.size ≤ 32 := by
  unfold isNm at h
  simp only [Bool.and_eq_true, decide_eq_true_eq] at h
  exact h.1.2

theorem isKy_size {s : ByteArray} (h : isKy s = true) : s.size ≤ 34 := by
  unfold isKy at h
  rw [Bool.and_eq_true] at h
  have := isNm_size h.2
  rw [ByteArray.size_extract] at this
  omega

theorem empty_size {s : ByteArray} (h : (s.toList == []) = true) : s.size = 0 := by
  rw [beq_iff_eq, ByteArray.toList_eq] at h
  have : s.data.toList.length = s.size := by simp
  rw [h] at this
  exact this.symm

theorem check_zero {d : TxD} (h : checkL d = 0) : (d.kind = 1 ∨ d.kind = 2) ∧ fieldsR d = true ∧ d.amt ≤ 4611686018427387903 ∧ d.non ≤ 4611686018427387903 ∧ keysL d.rs = 0 ∧ keysL d.ws = 0 := by
  unfold checkL at h
  by_cases h1 : d.kind ≠ 1 ∧ d.kind ≠ 2
  · rw [if_pos h1] at h; omega
  rw [if_neg h1] at h
  by_cases h2 : fieldsR d = false
  · rw [if_pos h2] at h; omega
  rw [if_neg h2] at h
  by_cases h3 : 4611686018427387903 < d.amt ∨ 4611686018427387903 < d.non
  · rw [if_pos h3] at h; omega
  rw [if_neg h3] at h
  by_cases h4 : keysL d.rs ≠ 0
  · rw [if_pos h4] at h; omega
  rw [if_neg h4] at h
  exact ⟨by omega, by simpa using h2, by omega, by omega, by omega, h⟩

theorem fields_sizes {d : TxD} (h : fieldsR d = true) : d.frm.size ≤ 32 ∧ d.to.size ≤ 32 ∧ d.key.size ≤ 32 ∧ d.val.size ≤ 64 := by
  unfold fieldsR at h
  rw [Bool.and_eq_true] at h
  have h1 := isNm_size h.1
  have h2 := h.2
  by_cases hk : d.kind = 1
  · rw [if_pos hk] at h2
    simp only [Bool.and_eq_true] at h2
    have a := isNm_size h2.1.1
    have b := empty_size h2.1.2
    have c := empty_size h2.2
    omega
  · rw [if_neg hk] at h2
    simp only [Bool.and_eq_true, decide_eq_true_eq] at h2
    have a := isNm_size h2.1.1.1
    have b := empty_size h2.1.2
    have c := h2.1.1.2
    omega

theorem keysGo_all : ∀ (l : List ByteArray) (a : ByteArray), keysGo a l = 0 → ∀ k ∈ l, isKy k = true
  | [], _, _ => by simp
  | k :: r, a, h => by
    rw [keysGo] at h
    by_cases h1 : isKy k = false
    · rw [if_pos h1] at h; omega
    rw [if_neg h1] at h
    by_cases h2 : (Op.bytesLess k.toList a.toList || k.toList == a.toList) = true
    · rw [if_pos h2] at h; omega
    rw [if_neg h2] at h
    intro x hx
    rw [List.mem_cons] at hx
    rcases hx with rfl | hx
    · simpa using h1
    · exact keysGo_all r k h x hx

theorem keys_sizes {l : List ByteArray} (h : keysL l = 0) : l.length ≤ 8 ∧ ∀ k ∈ l, isKy k = true := by
  have h8 := keysL_le l h
  unfold keysL at h
  rw [if_neg (by omega)] at h
  exact ⟨h8, keysGo_all l _ h⟩

theorem txt_le (l : List UInt8) : (txt l).length ≤ 9 + l.length := by
  have := goInt_length l.length
  rw [txt, List.length_append]
  omega

theorem flat_le : ∀ (l : List ByteArray), (∀ k ∈ l, k.size ≤ 34) → ((bl l).flatMap txt).length ≤ 43 * l.length
  | [], _ => by simp [bl]
  | k :: r, h => by
    have h1 := flat_le r (fun x hx => h x (by simp [hx]))
    have h2 := txt_le k.data.toList
    have h3 := h k (by simp)
    have h4 : k.data.toList.length = k.size := by simp
    simp only [bl, List.map_cons, List.flatMap_cons, List.length_append, List.length_cons]
    simp only [bl] at h1
    omega

theorem lst_le {l : List ByteArray} (h : keysL l = 0) : (lst (bl l)).length ≤ 353 := by
  obtain ⟨h8, hk⟩ := keys_sizes h
  have h1 := flat_le l (fun k hk' => isKy_size (hk k hk'))
  have h2 := goInt_length (bl l).length
  rw [lst, List.length_append]
  omega
end Go.Proofs.YtcjmeaikdfgapaaDoor

/- What a state's digest is made of: whichever names are gone through. -/
namespace Go.Proofs.YtcjmeaikdfgapaaDoor
open Go
set_option linter.unusedVariables false

def accT (f : ByteArray → Nat × Nat) (n : ByteArray) : List UInt8 := txt (aP ++ n).data.toList ++ goInt ((f n).1 : Nat) ++ goInt ((f n).2 : Nat)
def valT (g : ByteArray → Option ByteArray) (n : ByteArray) : List UInt8 := txt (kP ++ n).data.toList ++ txt ((g n).getD ⟨#[]⟩).data.toList

def RiseN (l : List ByteArray) : Prop := l.Pairwise (fun a b => a.toList < b.toList)

/-- The bytes that are digested. -/
def IsDig (s : StF) (t : List UInt8) : Prop :=
  ∃ L M, RiseN L ∧ RiseN M ∧ (∀ n, n ∈ L ↔ s.acc n ≠ (0, 0)) ∧ (∀ n, n ∈ M ↔ s.val n ≠ none) ∧ t = L.flatMap (accT s.acc) ++ M.flatMap (valT s.val)

theorem IsDig.uniq {s : StF} {t u : List UInt8} (h : IsDig s t) (h' : IsDig s u) : t = u := by
  obtain ⟨L, M, a1, a2, a3, a4, rfl⟩ := h
  obtain ⟨L', M', b1, b2, b3, b4, rfl⟩ := h'
  rw [rise_ext a1 b1 (fun p => (a3 p).trans (b3 p).symm), rise_ext a2 b2 (fun p => (a4 p).trans (b4 p).symm)]

/-- A state that is right: its names are names, its amounts within their bound, its numbers at most N; at most a accounts and v values. -/
structure StOk (s : StF) (N : Nat) : Prop where
  nm : ∀ n, s.acc n ≠ (0, 0) → isNm n = true
  amt : ∀ n, (s.acc n).1 ≤ 4611686018427387903
  num : ∀ n, (s.acc n).2 ≤ N
  vnm : ∀ n x, s.val n = some x → isNm n = true ∧ x.size ≤ 64

theorem StOk.mono {s : StF} {N M : Nat} (h : StOk s N) (hm : N ≤ M) : StOk s M := ⟨h.nm, h.amt, fun n => Nat.le_trans (h.num n) hm, h.vnm⟩

theorem apP_size (n : ByteArray) : (aP ++ n).size = n.size + 2 := by
  rw [ByteArray.size_append, Nat.add_comm]; rfl

theorem kpP_size (n : ByteArray) : (kP ++ n).size = n.size + 2 := by
  rw [ByteArray.size_append, Nat.add_comm]; rfl

theorem dlen (b : ByteArray) : b.data.toList.length = b.size := by simp

theorem accT_len {s : StF} {N : Nat} (h : StOk s N) {n : ByteArray} (hn : s.acc n ≠ (0, 0)) : (accT s.acc n).length ≤ 100 := by
  have h1 := isNm_size (h.nm n hn)
  have h2 := txt_le (aP ++ n).data.toList
  have h3 := goInt_length (((s.acc n).1 : Nat) : Int)
  have h4 := goInt_length (((s.acc n).2 : Nat) : Int)
  have h5 := apP_size n
  have h6 := dlen (aP ++ n)
  unfold accT
  rw [List.length_append, List.length_append]
  omega

theorem valT_len {s : StF} {N : Nat} (h : StOk s N) {n : ByteArray} (hn : s.val n ≠ none) : (valT s.val n).length ≤ 200 := by
  obtain ⟨x, hx⟩ := Option.ne_none_iff_exists'.1 hn
  obtain ⟨v1, v2⟩ := h.vnm n x hx
  have h1 := isNm_size v1
  have h2 := txt_le (kP ++ n).data.toList
  have h5 := kpP_size n
  have h6 := dlen (kP ++ n)
  have h7 := txt_le x.data.toList
  have h8 := dlen x
  unfold valT
  rw [hx, List.length_append]
  show (txt (kP ++ n).data.toList).length + (txt x.data.toList).length ≤ 200
  omega

theorem flat_len {α : Type} (f : α → List UInt8) (k : Nat) : ∀ (l : List α), (∀ x ∈ l, (f x).length ≤ k) → (l.flatMap f).length ≤ l.length * k
  | [], _ => by simp
  | x :: r, h => by
    have h1 := flat_len f k r (fun y hy => h y (List.mem_cons_of_mem _ hy))
    have h2 := h x List.mem_cons_self
    rw [List.flatMap_cons, List.length_append, List.length_cons, Nat.add_mul]
    omega

/-- It stays right. -/
theorem fits_names {d : TxD} (h : fitsL d = true) : isNm d.frm = true ∧ (d.kind = 1 → isNm d.to = true) ∧ (d.kind ≠ 1 → isNm d.key = true ∧ d.val.size ≤ 64) ∧ d.amt ≤ 4611686018427387903 ∧ d.non ≤ 4611686018427387903 ∧ (d.kind ≠ 1 → d.kind = 2 ∧ d.amt = 0) := by
  have hc : checkL d = 0 := by
    unfold fitsL needsL at h
    by_cases hc : checkL d = 0
    · exact hc
    · rw [if_neg hc] at h; cases h
  obtain ⟨z1, z2, z3, z4, _⟩ := check_zero hc
  unfold fieldsR at z2
  rw [Bool.and_eq_true] at z2
  refine ⟨z2.1, fun hk => ?_, fun hk => ?_, z3, z4, fun hk => ⟨z1.resolve_left hk, ?_⟩⟩
  · have := z2.2
    rw [if_pos hk] at this
    simp only [Bool.and_eq_true] at this
    exact this.1.1
  · have := z2.2
    rw [if_neg hk] at this
    simp only [Bool.and_eq_true, decide_eq_true_eq] at this
    exact ⟨this.1.1.1, this.1.1.2⟩
  · have := z2.2
    rw [if_neg hk] at this
    simp only [Bool.and_eq_true, decide_eq_true_eq] at this
    exact this.2

theorem applyE_zero {s : StF} {d : TxD} (h : applyE s d = 0) : fitsL d = true ∧ d.non = (s.acc d.frm).2 ∧ (d.kind = 1 → d.amt ≤ (s.acc d.frm).1) ∧ (d.kind = 1 → d.to ≠ d.frm → (s.acc d.to).1 + d.amt ≤ 4611686018427387903) := by
  unfold applyE at h
  split at h
  · cases h
  · rename_i h1
    split at h
    · cases h
    · rename_i h2
      split at h
      · cases h
      · rename_i h3
        split at h
        · cases h
        · rename_i h4
          refine ⟨by simpa using h1, Decidable.byContradiction h2, fun hk => ?_, fun hk hn => ?_⟩
          · exact Nat.le_of_not_lt (fun e => h3 ⟨hk, e⟩)
          · exact Nat.le_of_not_lt (fun e => h4 ⟨hk, hn, e⟩)

theorem applyE_is1 {s : StF} {d : TxD} (h : fitsL d = false) : applyE s d = 1 := by unfold applyE; rw [if_pos h]

theorem applyE_is2 {s : StF} {d : TxD} (h : fitsL d = true) (h2 : d.non ≠ (s.acc d.frm).2) : applyE s d = 2 := by unfold applyE; rw [if_neg (by simp [h]), if_pos h2]

theorem applyE_is3 {s : StF} {d : TxD} (h : fitsL d = true) (h2 : d.non = (s.acc d.frm).2) (h3 : d.kind = 1) (h4 : (s.acc d.frm).1 < d.amt) : applyE s d = 3 := by
  unfold applyE; rw [if_neg (by simp [h]), if_neg (by simp [h2]), if_pos ⟨h3, h4⟩]

theorem applyE_is4 {s : StF} {d : TxD} (h : fitsL d = true) (h2 : d.non = (s.acc d.frm).2) (h3 : d.kind = 1) (h4 : ¬ (s.acc d.frm).1 < d.amt) (h5 : d.to ≠ d.frm) (h6 : 4611686018427387903 < (s.acc d.to).1 + d.amt) : applyE s d = 4 := by
  unfold applyE; rw [if_neg (by simp [h]), if_neg (by simp [h2]), if_neg (fun e => h4 e.2), if_pos ⟨h3, h5, h6⟩]

theorem applyE_is0 {s : StF} {d : TxD} (h : fitsL d = true) (h2 : d.non = (s.acc d.frm).2) (h4 : d.kind = 1 → ¬ (s.acc d.frm).1 < d.amt) (h6 : d.kind = 1 → d.to ≠ d.frm → ¬ 4611686018427387903 < (s.acc d.to).1 + d.amt) : applyE s d = 0 := by
  unfold applyE; rw [if_neg (by simp [h]), if_neg (by simp [h2]), if_neg (fun e => h4 e.1 e.2), if_neg (fun e => h6 e.1 e.2.1 e.2.2)]

theorem StOk.apply {s : StF} {N : Nat} (h : StOk s N) (d : TxD) : StOk (applyF s d) (N + 1) := by
  by_cases hz : applyE s d = 0
  · obtain ⟨z1, z2, z3, z4⟩ := applyE_zero hz
    obtain ⟨f1, f2, f3, f4, f5, f6⟩ := fits_names z1
    unfold applyF
    rw [if_pos hz]
    have hk1 : ∀ n, accD s.acc d n ≠ (0, 0) → isNm n = true := by
      intro n hn
      by_cases hm : n ∈ nmsD d
      · unfold nmsD at hm
        split at hm
        · rename_i hk
          have : n = d.frm ∨ n = d.to := by simpa using hm
          rcases this with e | e
          · rw [e]; exact f1
          · rw [e]; exact f2 hk
        · rw [List.mem_singleton.1 hm]; exact f1
      · rw [accD_out s.acc hm] at hn
        exact h.nm n hn
    have hk2 : ∀ n, (accD s.acc d n).1 ≤ 4611686018427387903 ∧ (accD s.acc d n).2 ≤ N + 1 := by
      intro n
      have a1 := h.amt n
      have a2 := h.num n
      have b1 := h.amt d.frm
      have b2 := h.num d.frm
      have c2 := h.num d.to
      unfold accD
      split
      · rename_i hk
        have z3' := z3 hk
        by_cases e : n = d.to
        · rw [e, pnF_at]
          by_cases e2 : d.to = d.frm
          · rw [e2, pnF_at]
            simp only
            omega
          · have := z4 hk e2
            rw [pnF_ne _ _ e2]
            simp only
            omega
        · rw [pnF_ne _ _ e]
          by_cases e2 : n = d.frm
          · rw [e2, pnF_at]
            simp only
            omega
          · rw [pnF_ne _ _ e2]
            omega
      · by_cases e2 : n = d.frm
        · rw [e2, pnF_at]
          simp only
          omega
        · rw [pnF_ne _ _ e2]
          omega
    refine ⟨hk1, fun n => (hk2 n).1, fun n => (hk2 n).2, fun n x hx => ?_⟩
    by_cases hk : d.kind = 1
    · rw [if_pos hk] at hx
      exact h.vnm n x hx
    · rw [if_neg hk] at hx
      replace hx : pnF s.val d.key (some d.val) n = some x := hx
      by_cases e : n = d.key
      · rw [e, pnF_at] at hx
        cases hx
        rw [e]
        exact f3 hk
      · rw [pnF_ne _ _ e] at hx
        exact h.vnm n x hx
  · rw [applyF_no hz]
    exact h.mono (Nat.le_succ _)

theorem StOk.new (rich : List ByteArray) (funds : Nat) : StOk (newF rich funds) 0 := by
  refine ⟨fun n hn => ?_, fun n => ?_, fun n => ?_, fun n x hx => by cases hx⟩
  · unfold newF at hn
    simp only at hn
    by_cases h1 : isNm n = true
    · exact h1
    · rw [if_neg (by simp [h1])] at hn
      exact (hn rfl).elim
  · unfold newF
    simp only
    split
    · exact Nat.min_le_right _ _
    · exact Nat.zero_le _
  · unfold newF
    simp only
    split <;> exact Nat.zero_le _
end Go.Proofs.YtcjmeaikdfgapaaDoor

/- The transaction that pays, and what it does to a state whose two accounts are known. -/
namespace Go.Proofs.YtcjmeaikdfgapaaDoor
open Go
set_option linter.unusedVariables false

def nA : ByteArray := ⟨#[97]⟩
def nB : ByteArray := ⟨#[98]⟩
def wA : ByteArray := ⟨#[97, 58, 97]⟩
def wB : ByteArray := ⟨#[97, 58, 98]⟩

def sendD (m n : Nat) : TxD := ⟨1, nA, nB, m, n, ⟨#[]⟩, ⟨#[]⟩, [], [wA, wB]⟩

theorem nA_nm : isNm nA = true := by decide +kernel
theorem nB_nm : isNm nB = true := by decide +kernel
theorem nB_nA : nB ≠ nA := by decide +kernel
theorem keysAB : keysL [wA, wB] = 0 := by decide +kernel
theorem aP_nA : aP ++ nA = wA := by decide +kernel
theorem aP_nB : aP ++ nB = wB := by decide +kernel
theorem lessAB : Op.bytesLess wA.toList wB.toList = true := by decide +kernel
theorem hasAB : ([wA, wB].all (hasL [wA, wB])) = true := by decide +kernel

theorem send_check {m n : Nat} (hm : m ≤ 4611686018427387903) (hn : n ≤ 4611686018427387903) : checkL (sendD m n) = 0 := by
  have h1 : fieldsR (sendD m n) = true := by
    unfold fieldsR
    rw [show (sendD m n).frm = nA from rfl, nA_nm, if_pos (show (sendD m n).kind = 1 from rfl), show (sendD m n).to = nB from rfl, nB_nm, show (sendD m n).key = ⟨#[]⟩ from rfl, show (sendD m n).val = ⟨#[]⟩ from rfl]
    decide +kernel
  unfold checkL
  rw [if_neg (fun e => e.1 rfl), if_neg (by rw [h1]; decide), if_neg (by show ¬ (4611686018427387903 < m ∨ 4611686018427387903 < n); omega), show (sendD m n).rs = [] from rfl, if_neg (show ¬ keysL [] ≠ 0 from fun e => e rfl)]
  exact keysAB

theorem send_fits {m n : Nat} (hm : m ≤ 4611686018427387903) (hn : n ≤ 4611686018427387903) : fitsL (sendD m n) = true := by
  have h1 : needsL (sendD m n) = [wA, wB] := by
    unfold needsL
    rw [if_pos (send_check hm hn), if_neg (show ¬ (sendD m n).kind = 2 by show ¬ (1 : Int) = 2; decide), show (sendD m n).frm = nA from rfl, show (sendD m n).to = nB from rfl, aP_nA, aP_nB, if_pos lessAB]
  unfold fitsL
  rw [h1, show (sendD m n).ws = [wA, wB] from rfl, hasAB]
  rfl

/-- What it is answered, where a has x and the number k, and b has y. -/
theorem send_E {s : StF} {m n x k y z : Nat} (hm : m ≤ 4611686018427387903) (hn : n ≤ 4611686018427387903) (ha : s.acc nA = (x, k)) (hb : s.acc nB = (y, z)) : applyE s (sendD m n) = if n ≠ k then 2 else if x < m then 3 else if 4611686018427387903 < y + m then 4 else 0 := by
  have e1 : (s.acc (sendD m n).frm) = (x, k) := ha
  have e2 : (s.acc (sendD m n).to) = (y, z) := hb
  unfold applyE
  rw [if_neg (by rw [send_fits hm hn]; decide), e1, e2]
  show (if n ≠ k then 2 else if (1 : Int) = 1 ∧ x < m then 3 else if (1 : Int) = 1 ∧ nB ≠ nA ∧ 4611686018427387903 < y + m then 4 else 0) = _
  have := nB_nA
  simp [this]

/-- What they have behind it, if it is done. -/
theorem send_F {s : StF} {m n x k y z : Nat} (h : applyE s (sendD m n) = 0) (ha : s.acc nA = (x, k)) (hb : s.acc nB = (y, z)) : (applyF s (sendD m n)).acc nA = (x - m, k + 1) ∧ (applyF s (sendD m n)).acc nB = (y + m, z) := by
  have e : (applyF s (sendD m n)).acc = accD s.acc (sendD m n) := by unfold applyF; rw [if_pos h]
  rw [e]
  unfold accD
  rw [if_pos (show (sendD m n).kind = 1 from rfl), show (sendD m n).frm = nA from rfl, show (sendD m n).to = nB from rfl, show (sendD m n).amt = m from rfl, ha, pnF_ne _ _ nB_nA, hb, pnF_at, pnF_ne _ _ nB_nA.symm, pnF_at]
  exact ⟨rfl, rfl⟩

/-- The beginning where a alone has something. -/
theorem newA (funds : Nat) (h : funds ≤ 4611686018427387903) : (newF [nA] funds).acc nA = (funds, 0) ∧ (newF [nA] funds).acc nB = (0, 0) := by
  have h1 : (isNm nA && inN [nA] nA) = true := by decide +kernel
  have h2 : (isNm nB && inN [nA] nB) = false := by decide +kernel
  unfold newF
  simp only [h1, h2]
  refine ⟨?_, rfl⟩
  show (min funds 4611686018427387903, 0) = (funds, 0)
  rw [Nat.min_eq_left h]
end Go.Proofs.YtcjmeaikdfgapaaDoor

/- A row at whatever place of a block of the call's own, with room behind it: cut in front, appended to behind. -/
namespace Go.Proofs.YtcjmeaikdfgapaaDoor
open Go.RowKit
set_option linter.unusedVariables false

/-- v is a row of n elements, the cells xs, in a block of the call's own (or it has no room at all). -/
def QRow (w : World) (base : Nat) (e : TypeId) (size : Nat) (v : Value) (n : Nat) (xs : List Value) : Prop :=
  xs.length = n * size ∧
  ((∃ ao, v = .slice ao 0 0 ∧ n = 0) ∨
   ∃ g pre post cap, v = .slice (some ⟨g, pre.length, none⟩) n cap ∧ base ≤ g ∧ Arr w g e (pre ++ xs ++ post) ∧ n ≤ cap ∧ cap ≤ maxLen ∧ post.length = (cap - n) * size)

theorem QRow.nil (w : World) (base : Nat) (e : TypeId) (size : Nat) (ao : Option Addr) : QRow w base e size (.slice ao 0 0) 0 [] :=
  ⟨by simp, Or.inl ⟨ao, rfl, rfl⟩⟩

theorem QRow.of_own {w : World} {base : Nat} {e : TypeId} {size : Nat} {v : Value} {n : Nat} {xs : List Value} (h : w.ownsRow base e size v n xs) : QRow w base e size v n xs := by
  refine ⟨h.1, ?_⟩
  rcases h.2 with ⟨hv, hn⟩ | ⟨g, cap, cur, hv, hb, hg, hnc, hcm, hsz, htk⟩
  · exact Or.inl ⟨none, hv, hn⟩
  · refine Or.inr ⟨g, [], cur.toList.drop (n * size), cap, hv, hb, ?_, hnc, hcm, ?_⟩
    · unfold Arr
      rw [List.nil_append, ← htk, List.take_append_drop]
      exact hg
    · rw [List.length_drop, Array.length_toList, hsz, Nat.sub_mul]

theorem QRow.form {w : World} {base : Nat} {e : TypeId} {size : Nat} {v : Value} {n : Nat} {xs : List Value} (h : QRow w base e size v n xs) : ∃ ao cap, v = .slice ao n cap ∧ n ≤ cap ∧ cap ≤ maxLen := by
  rcases h.2 with ⟨ao, hv, hn⟩ | ⟨g, pre, post, cap, hv, _, _, h1, h2, _⟩
  · subst hn
    exact ⟨ao, 0, hv, Nat.le_refl _, Nat.zero_le _⟩
  · exact ⟨_, cap, hv, h1, h2⟩

/-- Its cells, where it has some. -/
theorem QRow.cells {w : World} {base : Nat} {e : TypeId} {size : Nat} {v : Value} {n : Nat} {xs : List Value} (h : QRow w base e size v n xs) (hn : 0 < n) :
    ∃ g off cap, v = .slice (some ⟨g, off, none⟩) n cap ∧ base ≤ g ∧ g < w.heap.size ∧ ∀ j u, xs[j]? = some u → w.cell? ⟨g, off + j, none⟩ = some u := by
  rcases h.2 with ⟨ao, hv, h0⟩ | ⟨g, pre, post, cap, hv, hb, hg, h1, h2, h3⟩
  · omega
  · refine ⟨g, pre.length, cap, hv, hb, hg.lt, fun j u hu => hg.cell ?_⟩
    have hj := (List.getElem?_eq_some_iff.1 hu).1
    rw [List.getElem?_append_left (by rw [List.length_append]; omega), List.getElem?_append_right (by omega), Nat.add_sub_cancel_left]
    exact hu

/-- What stands elsewhere may turn. -/
theorem QRow.keep {w w' : World} {base : Nat} {e : TypeId} {size : Nat} {v : Value} {n : Nat} {xs : List Value} (h : QRow w base e size v n xs) (hk : ∀ g, v.ownBlock = some g → w'.heap[g]? = w.heap[g]?) : QRow w' base e size v n xs := by
  refine ⟨h.1, ?_⟩
  rcases h.2 with h0 | ⟨g, pre, post, cap, hv, hb, hg, r⟩
  · exact Or.inl h0
  · refine Or.inr ⟨g, pre, post, cap, hv, hb, ?_, r⟩
    unfold Arr at hg ⊢
    rw [hk g (by rw [hv]; rfl)]
    exact hg

/-- s[i:]: the front is cut off. -/
theorem QRow.cut {w : World} {base : Nat} {e : TypeId} {size : Nat} {ao : Option Addr} {n cap : Nat} {xs : List Value} (h : QRow w base e size (.slice ao n cap) n xs) (i : Nat) (hi : i ≤ n) (ao' : Option Addr)
    (hao : ∀ b off, ao = some ⟨b, off, none⟩ → ¬ cap = i → ao' = some ⟨b, off + i * size, none⟩) : QRow w base e size (.slice ao' (n - i) (cap - i)) (n - i) (xs.drop (i * size)) := by
  have hl : (xs.drop (i * size)).length = (n - i) * size := by rw [List.length_drop, h.1, Nat.sub_mul]
  refine ⟨hl, ?_⟩
  rcases h.2 with ⟨ao0, hv, h0⟩ | ⟨g, pre, post, cap0, hv, hb, hg, h1, h2, h3⟩
  · simp only [Value.slice.injEq] at hv
    exact Or.inl ⟨ao', by rw [hv.2.2]; simp; omega, by omega⟩
  · simp only [Value.slice.injEq, true_and] at hv
    obtain ⟨rfl, rfl⟩ := hv
    by_cases hc : cap = i
    · exact Or.inl ⟨ao', by rw [hc]; simp; omega, by omega⟩
    · refine Or.inr ⟨g, pre ++ xs.take (i * size), post, cap - i, ?_, hb, ?_, by omega, by omega, ?_⟩
      · have hm : i * size ≤ xs.length := by rw [h.1]; exact Nat.mul_le_mul_right _ hi
        rw [hao g pre.length rfl hc, List.length_append, List.length_take, Nat.min_eq_left hm]
      · rw [List.append_assoc pre, List.take_append_drop]
        exact hg
      · rw [h3]
        congr 1
        omega

/-- Cells that are written one behind the other. -/
theorem Arr.setCells {g : Nat} {t : TypeId} : ∀ (vs : List Value) (w : World) (pre mid post : List Value), mid.length = vs.length → Arr w g t (pre ++ mid ++ post) → Arr (w.setCells g pre.length vs) g t (pre ++ vs ++ post)
  | [], w, pre, mid, post, hl, h => by
    have : mid = [] := List.eq_nil_of_length_eq_zero hl
    subst this
    exact h
  | v :: vs, w, pre, [], post, hl, h => by simp at hl
  | v :: vs, w, pre, m :: mid, post, hl, h => by
    have h1 := h.set pre.length v
    have e : (pre ++ (m :: mid) ++ post).set pre.length v = (pre ++ [v]) ++ mid ++ post := by
      rw [List.append_assoc, List.set_append_right _ _ (by omega), Nat.sub_self]
      simp
    rw [e] at h1
    have h2 := Arr.setCells vs (w.setCell ⟨g, pre.length, none⟩ v) (pre ++ [v]) mid post (by simpa using hl) h1
    have e2 : (pre ++ [v]).length = pre.length + 1 := by simp
    rw [e2] at h2
    have e3 : pre ++ [v] ++ vs ++ post = pre ++ (v :: vs) ++ post := by simp
    rw [e3] at h2
    exact h2

theorem grown_setCells (g : Nat) : ∀ (vs : List Value) (o : Nat) (w : World), w.grownBy (w.setCells g o vs) (some g)
  | [], _, w => ⟨rfl, rfl, rfl, Nat.le_refl _, fun _ _ _ => rfl⟩
  | v :: vs, o, w => by
    obtain ⟨h1, h2, h3, h4, h5⟩ := grown_setCells g vs (o + 1) (w.setCell ⟨g, o, none⟩ v)
    refine ⟨h1, h2, h3, ?_, fun k hk hne => ?_⟩
    · have : (w.setCell ⟨g, o, none⟩ v).heap.size = w.heap.size := by show (w.heap.modify g _).size = _; simp
      rw [this] at h4
      exact h4
    · have hs : (w.setCell ⟨g, o, none⟩ v).heap.size = w.heap.size := by show (w.heap.modify g _).size = _; simp
      have hk' : k ≠ g := fun e => hne (by rw [e])
      have := h5 k (by rw [hs]; exact hk) hne
      rw [Below.heap_setCell w ⟨g, o, none⟩ v k hk'] at this
      exact this

/-- append(s, x): in the room behind, or in a new row. -/
theorem wpList_append_q {P : Program} {w : World} {ops : Array Oper} {rest : List Oper} {o : Oper} {a : Act} {Q : Exit → Act → World → Prop} (hgd : o.guard = none) (s x : Operand) (t : TypeId)
    (ho : o.op = .call { callee := .builtin .append, args := #[s, x], argTypes := #[t, t] })
    (base : Nat) (e : TypeId) (i : TypeInfo) (z : Value) (size bytes : Nat) (ht : P.underlying t = some (.slice e)) (hi : P.info? e = some i) (hz : i.zero = some z)
    (hsize : i.size = size) (hby : i.bytes = bytes) (hzs : z.cells.size = size) (hsz : 0 < size)
    (v : Value) (n : Nat) (xs : List Value) (hs : a.eval s = v) (hq : QRow w base e size v n xs)
    (ad : Addr) (m c : Nat) (news : List Value) (hx : a.eval x = .slice (some ad) m c) (hm : 0 < m) (hl : news.length = m * size) (hnews : ∀ j u, news[j]? = some u → w.cell? (ad.add j) = some u) (h1 : ∀ u ∈ news, u.oneCell' = true)
    (h63 : n + m ≤ maxLen) (hbytes : (n + m) * bytes ≤ 140737488355328) (hbase : base ≤ w.heap.size)
    (h : ∀ v' w', QRow w' base e size v' (n + m) (xs ++ news) → w.grownBy w' v.ownBlock → (∀ g, v'.ownBlock = some g → v.ownBlock = some g ∨ w.heap.size ≤ g) → wpList P ops Q rest (a.put o.dst v') w') : wpList P ops Q (o :: rest) a w := by
  have hmono : ∀ {w' : World} {v' : Value}, w'.ownsRow w.heap.size e size v' (n + m) (xs ++ news) → QRow w' base e size v' (n + m) (xs ++ news) := by
    intro w' v' ho'
    refine QRow.of_own ⟨ho'.1, ho'.2.imp id fun ⟨g, cap, cur, q1, q2, q3⟩ => ⟨g, cap, cur, q1, Nat.le_trans hbase q2, q3⟩⟩
  have hfresh : ∀ {w' : World} {v' : Value}, w'.ownsRow w.heap.size e size v' (n + m) (xs ++ news) → ∀ g, v'.ownBlock = some g → v.ownBlock = some g ∨ w.heap.size ≤ g := by
    intro w' v' ho' g hg
    exact Or.inr (ho'.lt g hg).1
  have hgr : ∀ {w' : World} (r : Option Nat), w.grownBy w' none → w.grownBy w' r := fun r hg => ⟨hg.os, hg.tape, hg.output, hg.size, fun k hk _ => hg.block k hk (by simp)⟩
  rcases hq.2 with ⟨ao, rfl, rfl⟩ | ⟨g, pre, post, cap, rfl, hb, hg, hnc, hcm, hpl⟩
  · have hxs : xs = [] := List.eq_nil_of_length_eq_zero (by simpa using hq.1)
    subst hxs
    refine wpList_append_grows w hgd s x t ho e i z size bytes ht hi hz hsize hby hzs hsz ao 0 0 [] hs (fun _ => ⟨rfl, rfl⟩) (by simp) (fun b _ j u hu => by simp at hu) ad m c news hx hl hnews h1 (by omega) h63 hbytes ?_
    intro v' w' r1 r2
    exact h v' w' (hmono r1) (hgr _ r2) (hfresh r1)
  · refine wpList_append_arg w hgd s x t ho e i z size bytes ht hi hz hsize hby hzs hsz g pre.length n cap xs hs hq.1 ?_ ad m c news hx hl hnews h1 ?_ h63 hbytes ?_ ?_
    · intro j u hu
      refine hg.cell ?_
      have hj := (List.getElem?_eq_some_iff.1 hu).1
      rw [List.getElem?_append_left (by rw [List.length_append]; omega), List.getElem?_append_right (by omega), Nat.add_sub_cancel_left]
      exact hu
    · intro hroom j hj
      have hlt : pre.length + n * size + j < (pre ++ xs ++ post).length := by
        have h2 : m * size ≤ (cap - n) * size := Nat.mul_le_mul_right _ (by omega)
        rw [List.length_append, List.length_append, hq.1, hpl]
        omega
      exact ⟨by rw [hg.cell (List.getElem?_eq_getElem hlt)]; rfl, hg.frozen _⟩
    · intro hroom
      have h2 : m * size ≤ (cap - n) * size := Nat.mul_le_mul_right _ (by omega)
      have hA : Arr w g e ((pre ++ xs) ++ post.take news.length ++ post.drop news.length) := by
        rw [List.append_assoc (pre ++ xs), List.take_append_drop]
        exact hg
      have hA2 := Arr.setCells news w (pre ++ xs) (post.take news.length) (post.drop news.length) (by rw [List.length_take]; omega) hA
      have e1 : (pre ++ xs).length = pre.length + n * size := by rw [List.length_append, hq.1]
      rw [e1] at hA2
      refine h _ _ ⟨by rw [List.length_append, hq.1, hl, Nat.add_mul], Or.inr ⟨g, pre, post.drop news.length, cap, rfl, hb, ?_, hroom, hcm, ?_⟩⟩ (grown_setCells g news _ w) (fun g' hg' => Or.inl hg')
      · rw [← List.append_assoc pre]
        exact hA2
      · rw [List.length_drop, hpl, hl, ← Nat.sub_mul]
        congr 1
        omega
    · intro _ v' w' r1 r2
      exact h v' w' (hmono r1) (hgr _ r2) (hfresh r1)

/-- All blocks that were there are as they were, but those of S. -/
structure Kept (S : Nat → Prop) (w w' : World) : Prop where
  os : w'.os = w.os
  tape : w'.tape = w.tape
  output : w'.output = w.output
  size : w.heap.size ≤ w'.heap.size
  block : ∀ k, k < w.heap.size → ¬ S k → w'.heap[k]? = w.heap[k]?

theorem Kept.refl (S : Nat → Prop) (w : World) : Kept S w w := ⟨rfl, rfl, rfl, Nat.le_refl _, fun _ _ _ => rfl⟩

theorem Kept.trans {S : Nat → Prop} {a b c : World} (h : Kept S a b) (k : Kept S b c) : Kept S a c :=
  ⟨k.os.trans h.os, k.tape.trans h.tape, k.output.trans h.output, Nat.le_trans h.size k.size, fun i hi hn => (k.block i (Nat.lt_of_lt_of_le hi h.size) hn).trans (h.block i hi hn)⟩

theorem Kept.mono {S T : Nat → Prop} {w w' : World} (h : Kept S w w') (hs : ∀ k, k < w.heap.size → S k → T k) : Kept T w w' :=
  ⟨h.os, h.tape, h.output, h.size, fun k hk hn => h.block k hk (fun hS => hn (hs k hk hS))⟩

theorem Kept.of_below {S : Nat → Prop} {w w' : World} (h : Below w.heap.size w w') : Kept S w w' := ⟨h.os, h.tape, h.output, h.size, fun k hk _ => h.block k hk⟩

theorem Kept.of_grown {w w' : World} {r : Option Nat} (h : w.grownBy w' r) : Kept (fun k => r = some k) w w' := ⟨h.os, h.tape, h.output, h.size, fun k hk hn => h.block k hk (fun e => hn e.symm)⟩

theorem Kept.setCell (w : World) (p : Addr) (v : Value) : Kept (fun k => k = p.block) w (w.setCell p v) :=
  ⟨rfl, rfl, rfl, by show _ ≤ (w.heap.modify p.block _).size; simp, fun k _ hn => Below.heap_setCell w p v k hn⟩

theorem Kept.below {S : Nat → Prop} {w w' : World} (h : Kept S w w') {B : Nat} (hB : B ≤ w.heap.size) (hS : ∀ k, S k → B ≤ k) : Below B w w' :=
  ⟨h.os, h.tape, h.output, h.size, fun k hk => h.block k (by omega) (fun hs => by have := hS k hs; omega)⟩

theorem Kept.cell {S : Nat → Prop} {w w' : World} (h : Kept S w w') {p : Addr} (hp : p.block < w.heap.size) (hn : ¬ S p.block) : w'.cell? p = w.cell? p := by
  have := h.block p.block hp hn
  simp only [World.cell?, this]

theorem Arr.kept {S : Nat → Prop} {w w' : World} {g : Nat} {t : TypeId} {cs : List Value} (h : Arr w g t cs) (hk : Kept S w w') (hn : ¬ S g) : Arr w' g t cs := by
  have hl := h.lt
  unfold Arr at h ⊢
  rw [hk.block g hl hn]
  exact h

theorem QRow.kept {S : Nat → Prop} {w w' : World} {base : Nat} {e : TypeId} {size : Nat} {v : Value} {n : Nat} {xs : List Value} (h : QRow w base e size v n xs) (hk : Kept S w w') (hn : ∀ g, v.ownBlock = some g → ¬ S g) : QRow w' base e size v n xs := by
  refine ⟨h.1, h.2.imp id ?_⟩
  rintro ⟨g, pre, post, cap, hv, hb, hg, r⟩
  exact ⟨g, pre, post, cap, hv, hb, hg.kept hk (hn g (by rw [hv]; rfl)), r⟩

/-- A row of no transactions, or one in memory: its block is there. -/
theorem QRow.lt {w : World} {base : Nat} {e : TypeId} {size : Nat} {v : Value} {n : Nat} {xs : List Value} (h : QRow w base e size v n xs) : n = 0 ∨ ∃ g, v.ownBlock = some g ∧ base ≤ g ∧ g < w.heap.size := by
  rcases h.2 with ⟨ao, hv, hn⟩ | ⟨g, pre, post, cap, hv, hb, hg, r⟩
  · exact Or.inl hn
  · exact Or.inr ⟨g, by rw [hv]; rfl, hb, hg.lt⟩

theorem Kept.transNew {S T : Nat → Prop} {a b c : World} (h : Kept S a b) (k : Kept T b c) (hT : ∀ j, T j → a.heap.size ≤ j) : Kept S a c :=
  ⟨k.os.trans h.os, k.tape.trans h.tape, k.output.trans h.output, Nat.le_trans h.size k.size, fun j hj hn => (k.block j (Nat.lt_of_lt_of_le hj h.size) (fun e => by have := hT j e; omega)).trans (h.block j hj hn)⟩

theorem Kept.setNew {S : Nat → Prop} {w w' : World} (h : Kept S w w') {a : Addr} (ha : w.heap.size ≤ a.block) (v : Value) : Kept S w (w'.setCell a v) :=
  ⟨h.os, h.tape, h.output, by rw [setCell_size]; exact h.size, fun k hk hn => by rw [Below.heap_setCell w' a v k (by omega)]; exact h.block k hk hn⟩

theorem Kept.set {S : Nat → Prop} {w w' : World} (h : Kept S w w') {p : Addr} (hp : S p.block) (v : Value) : Kept S w (w'.setCell p v) :=
  h.trans ((Kept.setCell w' p v).mono (fun k _ e => by rw [e]; exact hp))
end Go.Proofs.YtcjmeaikdfgapaaDoor

/- A map of texts to whatever values: what is in by each text; how it is looked up in, written, and struck from. -/
namespace Go.Proofs.YtcjmeaikdfgapaaDoor
open Go Go.RowKit Go.Maps
set_option linter.unusedVariables false

/-- Values as they are. -/
def heldElem (v : Value) : Option (DataW Value × List MemPlace) := some (.held v, [])

/-- A text as a key. -/
def keyS (id : ByteArray) : Lit := .string id.data.toList

theorem keyS_inj {a b : ByteArray} (h : keyS a = keyS b) : a = b := by
  unfold keyS at h
  simp only [Lit.string.injEq] at h
  cases a
  cases b
  simpa using h

theorem keyS_ok (id : ByteArray) : WideAt.IsKeyLit (keyS id) := trivial

theorem lawStr : Keyed Tryd.prog 9 := string_keyed Tryd.underlying9

theorem keyS_of {id : ByteArray} (h : id.size ≤ maxLen) : keyOf Tryd.prog 9 (.string id) = some (keyS id) := Go.WideMaps.keyOf_string_mk Tryd.underlying9 h

/-- Block b is a map that holds by each text what f tells, n things in all. -/
def SMap (w : World) (b : Nat) (f : ByteArray → Option Value) (n : Nat) : Prop :=
  ∃ D : DataW Value, w.ownsMap Tryd.prog 9 heldElem b n D ∧ Maps.size D = n ∧ (∀ id, Maps.has D (keyS id) = (f id).isSome) ∧ ∀ id z, D.atKey (keyS id) z = match f id with | some v => .held v | none => z

theorem owns_tight {k : TypeId} {R : Value → Option (DataW Value × List MemPlace)} {w : World} {b n : Nat} {D : DataW Value} (h : w.ownsMap Tryd.prog k R b n D) : w.ownsMap Tryd.prog k R b (Maps.size D) D := by
  obtain ⟨es, clock, hb, F, hs, rfl⟩ := h
  refine ⟨es, clock, hb, F, ?_, rfl⟩
  rw [Maps.size_eq, length_read]
  exact Nat.le_refl _

theorem SMap.lt {w : World} {b : Nat} {f : ByteArray → Option Value} {n : Nat} (h : SMap w b f n) : b < w.heap.size := by
  obtain ⟨D, h1, _⟩ := h
  exact h1.lt

theorem SMap.keep {w w' : World} {b : Nat} {f : ByteArray → Option Value} {n : Nat} (h : SMap w b f n) (hk : w'.heap[b]? = w.heap[b]?) : SMap w' b f n := by
  obtain ⟨D, ⟨es, clock, hb, F, hs, hD⟩, h2⟩ := h
  exact ⟨D, ⟨es, clock, hk.trans hb, F, hs, hD⟩, h2⟩

theorem SMap.kept {S : Nat → Prop} {w w' : World} {b : Nat} {f : ByteArray → Option Value} {n : Nat} (h : SMap w b f n) (hk : Kept S w w') (hb : ¬ S b) : SMap w' b f n := h.keep (hk.block b h.lt hb)

theorem SMap.below {w w' : World} {b : Nat} {f : ByteArray → Option Value} {n : Nat} (h : SMap w b f n) (hb : Below w.heap.size w w') : SMap w' b f n := h.keep (hb.block b h.lt)

theorem SMap.congr {w : World} {b : Nat} {f g : ByteArray → Option Value} {n : Nat} (h : SMap w b f n) (e : ∀ id, g id = f id) : SMap w b g n := by
  obtain rfl : g = f := funext e
  exact h

theorem SMap.new (w : World) : SMap (w.alloc (.map #[] 0)) w.heap.size (fun _ => none) 0 :=
  ⟨.map [], World.ownsMap_made w _ _ _, rfl, fun _ => rfl, fun _ _ => rfl⟩

/-- How many there are behind it. -/
def putN (f : ByteArray → Option Value) (id : ByteArray) (n : Nat) : Nat := if (f id).isSome = true then n else n + 1
def delN (f : ByteArray → Option Value) (id : ByteArray) (n : Nat) : Nat := if (f id).isSome = true then n - 1 else n

/-- What is put in. -/
def putF (f : ByteArray → Option Value) (id : ByteArray) (v : Value) (i : ByteArray) : Option Value := if i = id then some v else f i
def delF (f : ByteArray → Option Value) (id : ByteArray) (i : ByteArray) : Option Value := if i = id then none else f i

theorem SMap.puts {w w' : World} {b : Nat} {f : ByteArray → Option Value} {n m : Nat} {D : DataW Value} {id : ByteArray} {v : Value} (ho : w.ownsMap Tryd.prog 9 heldElem b n D) (h1 : Maps.size D = n) (h2 : ∀ id, Maps.has D (keyS id) = (f id).isSome) (h3 : ∀ id z, D.atKey (keyS id) z = match f id with | some v => .held v | none => z)
    (h : w'.ownsMap Tryd.prog 9 heldElem b m (D.put (keyS id) (.held v))) : SMap w' b (putF f id v) (putN f id n) := by
  have hT := ho.tidy lawStr
  have hsz : Maps.size (D.put (keyS id) (.held v)) = putN f id n := by
    unfold putN
    rw [size_put hT, h2, h1]
  refine ⟨_, by rw [← hsz]; exact owns_tight h, hsz, fun i => ?_, fun i z => ?_⟩
  · unfold putF
    by_cases e : i = id
    · subst e
      rw [if_pos rfl]
      exact has_put_same hT.isMap (keyS_ok _) _
    · rw [if_neg e, has_put_other (fun e' => e (keyS_inj e'))]
      exact h2 i
  · unfold putF
    by_cases e : i = id
    · subst e
      rw [if_pos rfl]
      exact atKey_put_same hT.isMap (keyS_ok _) _ _
    · rw [if_neg e, atKey_put_other (fun e' => e (keyS_inj e'))]
      exact h3 i z

theorem SMap.dels {w w' : World} {b : Nat} {f : ByteArray → Option Value} {n m : Nat} {D : DataW Value} {id : ByteArray} (ho : w.ownsMap Tryd.prog 9 heldElem b n D) (h1 : Maps.size D = n) (h2 : ∀ id, Maps.has D (keyS id) = (f id).isSome) (h3 : ∀ id z, D.atKey (keyS id) z = match f id with | some v => .held v | none => z)
    (h : w'.ownsMap Tryd.prog 9 heldElem b m (D.del (keyS id))) : SMap w' b (delF f id) (delN f id n) := by
  have hT := ho.tidy lawStr
  have hsz : Maps.size (D.del (keyS id)) = delN f id n := by
    unfold delN
    have := size_del (k := keyS id) hT
    rw [h2, h1] at this
    cases hc : (f id).isSome <;> rw [hc] at this <;> simp at this ⊢ <;> omega
  refine ⟨_, by rw [← hsz]; exact owns_tight h, hsz, fun i => ?_, fun i z => ?_⟩
  · unfold delF
    by_cases e : i = id
    · subst e
      rw [if_pos rfl]
      exact has_del_same
    · rw [if_neg e, has_del_other (fun e' => e (keyS_inj e'))]
      exact h2 i
  · unfold delF
    by_cases e : i = id
    · subst e
      rw [if_pos rfl]
      exact atKey_del_same _
    · rw [if_neg e, atKey_del_other (fun e' => e (keyS_inj e'))]
      exact h3 i z

section
variable {w : World} {ops : Array Oper} {rest : List Oper} {o : Oper} {a : Act} {Q : Exit → Act → World → Prop}

/-- 'v, ok := m[id]'. -/
theorem smap_look_ok (hw : Region.wanted o (yielded ops a.tmps) = true) (m x : Operand) (t : TypeId) (hop : o.op = Op.lookup t m x true) (e : TypeId) (ht : Tryd.prog.underlying t = some (.map 9 e)) (z : Value) (hz : (zeroValue e).run Tryd.prog w = .ok z w)
    (b : Nat) (f : ByteArray → Option Value) (n : Nat) (hm : a.eval m = .map (some b)) (h : SMap w b f n) (id : ByteArray) (hid : id.size ≤ maxLen) (hx : a.eval x = .string id)
    (hK : wpList Tryd.prog ops Q rest (a.put o.dst (.tuple #[(f id).getD z, .bool (f id).isSome])) w) : wpList Tryd.prog ops Q (o :: rest) a w := by
  obtain ⟨D, ho, h1, h2, h3⟩ := h
  refine wpList_step fun K' hK' => ?_
  rw [if_pos hw]
  obtain ⟨v, ps, hrun, hv⟩ := ho.look_ok lawStr ht hz (zd := .held z) (zp := []) rfl (keyS_of hid)
  have e1 : v = (f id).getD z := by
    have := h3 id (.held z)
    unfold heldElem at hv
    simp only [Option.some.injEq, Prod.mk.injEq] at hv
    rw [this] at hv
    cases hf : f id with
    | none => rw [hf] at hv; simpa using hv.1
    | some u => rw [hf] at hv; simpa using hv.1
  subst e1
  rw [h2] at hrun
  unfold Oper.wp
  simp [execOp, hop, hm, hx, hrun, Result.andThen]
  exact hK' _ _ hK

/-- 'm[id]'. -/
theorem smap_look (hw : Region.wanted o (yielded ops a.tmps) = true) (m x : Operand) (t : TypeId) (hop : o.op = Op.lookup t m x false) (e : TypeId) (ht : Tryd.prog.underlying t = some (.map 9 e)) (z : Value) (hz : (zeroValue e).run Tryd.prog w = .ok z w)
    (b : Nat) (f : ByteArray → Option Value) (n : Nat) (hm : a.eval m = .map (some b)) (h : SMap w b f n) (id : ByteArray) (hid : id.size ≤ maxLen) (hx : a.eval x = .string id)
    (hK : wpList Tryd.prog ops Q rest (a.put o.dst ((f id).getD z)) w) : wpList Tryd.prog ops Q (o :: rest) a w := by
  obtain ⟨D, ho, h1, h2, h3⟩ := h
  refine wpList_step fun K' hK' => ?_
  rw [if_pos hw]
  obtain ⟨v, ps, hrun, hv⟩ := ho.lookup lawStr ht hz (zd := .held z) (zp := []) rfl (keyS_of hid)
  have e1 : v = (f id).getD z := by
    have := h3 id (.held z)
    unfold heldElem at hv
    simp only [Option.some.injEq, Prod.mk.injEq] at hv
    rw [this] at hv
    cases hf : f id with
    | none => rw [hf] at hv; simpa using hv.1
    | some u => rw [hf] at hv; simpa using hv.1
  subst e1
  unfold Oper.wp
  simp [execOp, hop, hm, hx, hrun, Result.andThen]
  exact hK' _ _ hK

/-- 'm[id] = v'. -/
theorem smap_put (hg : o.guard = none) (m x v : Operand) (t : TypeId) (hop : o.op = Op.mapUpdate t m x v) (e : TypeId) (ht : Tryd.prog.underlying t = some (.map 9 e))
    (b : Nat) (f : ByteArray → Option Value) (n : Nat) (hm : a.eval m = .map (some b)) (h : SMap w b f n) (hn : n < maxLen) (id : ByteArray) (hid : id.size ≤ maxLen) (hx : a.eval x = .string id) (u : Value) (hv : a.eval v = u)
    (hK : ∀ w', SMap w' b (putF f id u) (putN f id n) → Kept (fun k => k = b) w w' → wpList Tryd.prog ops Q rest (a.put o.dst undef) w') : wpList Tryd.prog ops Q (o :: rest) a w := by
  obtain ⟨D, ho, h1, h2, h3⟩ := h
  refine wpList_mapUpdate_own w hg m x v t hop 9 e lawStr ht heldElem b n D hm ho hn _ _ _ hx hv (keyS_of hid) (.held u) [] rfl ?_
  intro w' ho' hg'
  refine hK w' (SMap.puts ho h1 h2 h3 ho') ((Kept.of_grown hg').mono (fun k _ e => by simpa using e.symm))

/-- 'delete(m, id)'. -/
theorem smap_del (hg : o.guard = none) (m x : Operand) (t : TypeId) (hop : o.op = Op.call { callee := Callee.builtin Builtin.delete, args := #[m, x], argTypes := #[t, 9] }) (e : TypeId) (ht : Tryd.prog.underlying t = some (.map 9 e))
    (b : Nat) (f : ByteArray → Option Value) (n : Nat) (hm : a.eval m = .map (some b)) (h : SMap w b f n) (id : ByteArray) (hid : id.size ≤ maxLen) (hx : a.eval x = .string id)
    (hK : ∀ w', SMap w' b (delF f id) (delN f id n) → Kept (fun k => k = b) w w' → wpList Tryd.prog ops Q rest (a.put o.dst (.tuple #[])) w') : wpList Tryd.prog ops Q (o :: rest) a w := by
  obtain ⟨D, ho, h1, h2, h3⟩ := h
  refine wpList_delete_own w hg m x t 9 hop e lawStr ht heldElem b n D hm ho _ _ hx (keyS_of hid) ?_
  intro w' ho' ht'
  refine hK w' (SMap.dels ho h1 h2 h3 ho') ((Kept.of_grown ht'.grown).mono (fun k _ e => by simpa using e.symm))

/-- 'len(m)'. -/
theorem smap_len (hw : Region.wanted o (yielded ops a.tmps) = true) (m : Operand) (t : TypeId) (hop : o.op = Op.call { callee := Callee.builtin Builtin.len, args := #[m], argTypes := #[t] }) (e : TypeId) (ht : Tryd.prog.underlying t = some (.map 9 e))
    (b : Nat) (f : ByteArray → Option Value) (n : Nat) (hm : a.eval m = .map (some b)) (h : SMap w b f n) (hK : wpList Tryd.prog ops Q rest (a.put o.dst (.int .i64 (n : Int))) w) : wpList Tryd.prog ops Q (o :: rest) a w := by
  obtain ⟨D, ho, h1, h2, h3⟩ := h
  refine wpList_step fun K' hK' => ?_
  rw [if_pos hw]
  have hl := ho.len ht o.type
  rw [h1] at hl
  unfold Oper.wp
  simp [execOp, hop, resolve, invoke, builtin, hm, hl, Result.andThen]
  exact hK' _ _ hK
end
end Go.Proofs.YtcjmeaikdfgapaaDoor

/- A map of texts at operations of a region that draws its order; copied whole. -/
namespace Go.Proofs.YtcjmeaikdfgapaaDoor
open Go Go.RowKit Go.Maps
set_option linter.unusedVariables false

/-- 'm[k]'. -/
theorem smap_runs {w : World} {b : Nat} {f : ByteArray → Option Value} {n : Nat} (h : SMap w b f n) {t e : TypeId} (ht : Tryd.prog.underlying t = some (.map 9 e)) {z : Value} (hz : ∀ w, (zeroValue e).run Tryd.prog w = .ok z w) {id : ByteArray} (hid : id.size ≤ maxLen) (m : Nat) : (Instr.lookup t (.map (some b)) (.string id) false).run Tryd.prog (w.drewN m) = .ok ((f id).getD z) (w.drewN m) := by
  obtain ⟨D, ho, h1, h2, h3⟩ := h.keep (w' := w.drewN m) rfl
  obtain ⟨v, ps, hrun, hv⟩ := ho.lookup lawStr ht (hz _) (zd := .held z) (zp := []) rfl (keyS_of hid)
  have e1 : v = (f id).getD z := by
    have := h3 id (.held z)
    unfold heldElem at hv
    simp only [Option.some.injEq, Prod.mk.injEq] at hv
    rw [this] at hv
    cases hf : f id with
    | none => rw [hf] at hv; simpa using hv.1
    | some u => rw [hf] at hv; simpa using hv.1
  subst e1
  exact hrun

theorem smap_run1 {w : World} {b : Nat} {f : ByteArray → Option Value} {n : Nat} (h : SMap w b f n) {t e : TypeId} (ht : Tryd.prog.underlying t = some (.map 9 e)) {z : Value} (hz : ∀ w, (zeroValue e).run Tryd.prog w = .ok z w) {id : ByteArray} (hid : id.size ≤ maxLen) : (Instr.lookup t (.map (some b)) (.string id) false).run Tryd.prog w.drew = .ok ((f id).getD z) w.drew := smap_runs h ht hz hid 1

/-- 'm[k] = v'. -/
theorem smap_updates {w : World} {b : Nat} {f : ByteArray → Option Value} {n : Nat} (h : SMap w b f n) (hn : n < maxLen) {t e : TypeId} (ht : Tryd.prog.underlying t = some (.map 9 e)) (id : ByteArray) (hid : id.size ≤ maxLen) (u : Value) :
    ∃ w', (Instr.mapUpdate t (.map (some b)) (.string id) u).run Tryd.prog w = .ok () w' ∧ SMap w' b (putF f id u) (putN f id n) ∧ Kept (fun k => k = b) w w' := by
  obtain ⟨D, ho, h1, h2, h3⟩ := h
  obtain ⟨w', hrun, r1, r2⟩ := ho.update lawStr ht hn (keyS_of hid) (val := u) (d := .held u) (ps := []) rfl
  exact ⟨w', hrun, SMap.puts ho h1 h2 h3 r1, (Kept.of_grown r2).mono (fun k _ e => by simpa using e.symm)⟩

theorem putN_bound (f : ByteArray → Option Value) (id : ByteArray) (n : Nat) : putN f id n ≤ n + 1 := by
  unfold putN
  split <;> omega
end Go.Proofs.YtcjmeaikdfgapaaDoor
