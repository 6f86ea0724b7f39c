/- What a state's digest is made of: whichever names are gone through. -/
import Derived.Test.YtcjmeaikdfgapaaDoorStaMath
import Derived.Test.YtcjmeaikdfgapaaDoorTxEncode
namespace Go.Proofs.YtcjmeaikdfgapaaDoor
open Go
set_option linter.unusedVariables false

def accT (f : ByteArray → Nat × Nat) (n : ByteArray) : List UInt8 := txt (aP ++ n).data.toList ++ goInt ((f n).1 : Nat) ++ goInt ((f n).2 : Nat)
def valT (g : ByteArray → Option ByteArray) (n : ByteArray) : List UInt8 := txt (kP ++ n).data.toList ++ txt ((g n).getD ⟨#[]⟩).data.toList

def RiseN (l : List ByteArray) : Prop := l.Pairwise (fun a b => a.toList < b.toList)

/-- The bytes that are digested. -/
def IsDig (s : StF) (t : List UInt8) : Prop :=
  ∃ L M, RiseN L ∧ RiseN M ∧ (∀ n, n ∈ L ↔ s.acc n ≠ (0, 0)) ∧ (∀ n, n ∈ M ↔ s.val n ≠ none) ∧ t = L.flatMap (accT s.acc) ++ M.flatMap (valT s.val)

theorem IsDig.uniq {s : StF} {t u : List UInt8} (h : IsDig s t) (h' : IsDig s u) : t = u := by
  obtain ⟨L, M, a1, a2, a3, a4, rfl⟩ := h
  obtain ⟨L', M', b1, b2, b3, b4, rfl⟩ := h'
  rw [rise_ext a1 b1 (fun p => (a3 p).trans (b3 p).symm), rise_ext a2 b2 (fun p => (a4 p).trans (b4 p).symm)]

/-- A state that is right: its names are names, its amounts within their bound, its numbers at most N; at most a accounts and v values. -/
structure StOk (s : StF) (N : Nat) : Prop where
  nm : ∀ n, s.acc n ≠ (0, 0) → isNm n = true
  amt : ∀ n, (s.acc n).1 ≤ 4611686018427387903
  num : ∀ n, (s.acc n).2 ≤ N
  vnm : ∀ n x, s.val n = some x → isNm n = true ∧ x.size ≤ 64

theorem StOk.mono {s : StF} {N M : Nat} (h : StOk s N) (hm : N ≤ M) : StOk s M := ⟨h.nm, h.amt, fun n => Nat.le_trans (h.num n) hm, h.vnm⟩

theorem apP_size (n : ByteArray) : (aP ++ n).size = n.size + 2 := by
  rw [ByteArray.size_append, Nat.add_comm]; rfl

theorem kpP_size (n : ByteArray) : (kP ++ n).size = n.size + 2 := by
  rw [ByteArray.size_append, Nat.add_comm]; rfl

theorem dlen (b : ByteArray) : b.data.toList.length = b.size := by simp

theorem accT_len {s : StF} {N : Nat} (h : StOk s N) {n : ByteArray} (hn : s.acc n ≠ (0, 0)) : (accT s.acc n).length ≤ 100 := by
  have h1 := isNm_size (h.nm n hn)
  have h2 := txt_le (aP ++ n).data.toList
  have h3 := goInt_length (((s.acc n).1 : Nat) : Int)
  have h4 := goInt_length (((s.acc n).2 : Nat) : Int)
  have h5 := apP_size n
  have h6 := dlen (aP ++ n)
  unfold accT
  rw [List.length_append, List.length_append]
  omega

theorem valT_len {s : StF} {N : Nat} (h : StOk s N) {n : ByteArray} (hn : s.val n ≠ none) : (valT s.val n).length ≤ 200 := by
  obtain ⟨x, hx⟩ := Option.ne_none_iff_exists'.1 hn
  obtain ⟨v1, v2⟩ := h.vnm n x hx
  have h1 := isNm_size v1
  have h2 := txt_le (kP ++ n).data.toList
  have h5 := kpP_size n
  have h6 := dlen (kP ++ n)
  have h7 := txt_le x.data.toList
  have h8 := dlen x
  unfold valT
  rw [hx, List.length_append]
  show (txt (kP ++ n).data.toList).length + (txt x.data.toList).length ≤ 200
  omega

theorem flat_len {α : Type} (f : α → List UInt8) (k : Nat) : ∀ (l : List α), (∀ x ∈ l, (f x).length ≤ k) → (l.flatMap f).length ≤ l.length * k
  | [], _ => by simp
  | x :: r, h => by
    have h1 := flat_len f k r (fun y hy => h y (List.mem_cons_of_mem _ hy))
    have h2 := h x List.mem_cons_self
    rw [List.flatMap_cons, List.length_append, List.length_cons, Nat.add_mul]
    omega

/-- It stays right. -/
theorem fits_names {d : TxD} (h : fitsL d = true) : isNm d.frm = true ∧ (d.kind = 1 → isNm d.to = true) ∧ (d.kind ≠ 1 → isNm d.key = true ∧ d.val.size ≤ 64) ∧ d.amt ≤ 4611686018427387903 ∧ d.non ≤ 4611686018427387903 ∧ (d.kind ≠ 1 → d.kind = 2 ∧ d.amt = 0) := by
  have hc : checkL d = 0 := by
    unfold fitsL needsL at h
    by_cases hc : checkL d = 0
    · exact hc
    · rw [if_neg hc] at h; cases h
  obtain ⟨z1, z2, z3, z4, _⟩ := check_zero hc
  unfold fieldsR at z2
  rw [Bool.and_eq_true] at z2
  refine ⟨z2.1, fun hk => ?_, fun hk => ?_, z3, z4, fun hk => ⟨z1.resolve_left hk, ?_⟩⟩
  · have := z2.2
    rw [if_pos hk] at this
    simp only [Bool.and_eq_true] at this
    exact this.1.1
  · have := z2.2
    rw [if_neg hk] at this
    simp only [Bool.and_eq_true, decide_eq_true_eq] at this
    exact ⟨this.1.1.1, this.1.1.2⟩
  · have := z2.2
    rw [if_neg hk] at this
    simp only [Bool.and_eq_true, decide_eq_true_eq] at this
    exact this.2

theorem applyE_zero {s : StF} {d : TxD} (h : applyE s d = 0) : fitsL d = true ∧ d.non = (s.acc d.frm).2 ∧ (d.kind = 1 → d.amt ≤ (s.acc d.frm).1) ∧ (d.kind = 1 → d.to ≠ d.frm → (s.acc d.to).1 + d.amt ≤ 4611686018427387903) := by
  unfold applyE at h
  split at h
  · cases h
  · rename_i h1
    split at h
    · cases h
    · rename_i h2
      split at h
      · cases h
      · rename_i h3
        split at h
        · cases h
        · rename_i h4
          refine ⟨by simpa using h1, Decidable.byContradiction h2, fun hk => ?_, fun hk hn => ?_⟩
          · exact Nat.le_of_not_lt (fun e => h3 ⟨hk, e⟩)
          · exact Nat.le_of_not_lt (fun e => h4 ⟨hk, hn, e⟩)

theorem applyE_is1 {s : StF} {d : TxD} (h : fitsL d = false) : applyE s d = 1 := by unfold applyE; rw [if_pos h]

theorem applyE_is2 {s : StF} {d : TxD} (h : fitsL d = true) (h2 : d.non ≠ (s.acc d.frm).2) : applyE s d = 2 := by unfold applyE; rw [if_neg (by simp [h]), if_pos h2]

theorem applyE_is3 {s : StF} {d : TxD} (h : fitsL d = true) (h2 : d.non = (s.acc d.frm).2) (h3 : d.kind = 1) (h4 : (s.acc d.frm).1 < d.amt) : applyE s d = 3 := by
  unfold applyE; rw [if_neg (by simp [h]), if_neg (by simp [h2]), if_pos ⟨h3, h4⟩]

theorem applyE_is4 {s : StF} {d : TxD} (h : fitsL d = true) (h2 : d.non = (s.acc d.frm).2) (h3 : d.kind = 1) (h4 : ¬ (s.acc d.frm).1 < d.amt) (h5 : d.to ≠ d.frm) (h6 : 4611686018427387903 < (s.acc d.to).1 + d.amt) : applyE s d = 4 := by
  unfold applyE; rw [if_neg (by simp [h]), if_neg (by simp [h2]), if_neg (fun e => h4 e.2), if_pos ⟨h3, h5, h6⟩]

theorem applyE_is0 {s : StF} {d : TxD} (h : fitsL d = true) (h2 : d.non = (s.acc d.frm).2) (h4 : d.kind = 1 → ¬ (s.acc d.frm).1 < d.amt) (h6 : d.kind = 1 → d.to ≠ d.frm → ¬ 4611686018427387903 < (s.acc d.to).1 + d.amt) : applyE s d = 0 := by
  unfold applyE; rw [if_neg (by simp [h]), if_neg (by simp [h2]), if_neg (fun e => h4 e.1 e.2), if_neg (fun e => h6 e.1 e.2.1 e.2.2)]

theorem StOk.apply {s : StF} {N : Nat} (h : StOk s N) (d : TxD) : StOk (applyF s d) (N + 1) := by
  by_cases hz : applyE s d = 0
  · obtain ⟨z1, z2, z3, z4⟩ := applyE_zero hz
    obtain ⟨f1, f2, f3, f4, f5, f6⟩ := fits_names z1
    unfold applyF
    rw [if_pos hz]
    have hk1 : ∀ n, accD s.acc d n ≠ (0, 0) → isNm n = true := by
      intro n hn
      by_cases hm : n ∈ nmsD d
      · unfold nmsD at hm
        split at hm
        · rename_i hk
          have : n = d.frm ∨ n = d.to := by simpa using hm
          rcases this with e | e
          · rw [e]; exact f1
          · rw [e]; exact f2 hk
        · rw [List.mem_singleton.1 hm]; exact f1
      · rw [accD_out s.acc hm] at hn
        exact h.nm n hn
    have hk2 : ∀ n, (accD s.acc d n).1 ≤ 4611686018427387903 ∧ (accD s.acc d n).2 ≤ N + 1 := by
      intro n
      have a1 := h.amt n
      have a2 := h.num n
      have b1 := h.amt d.frm
      have b2 := h.num d.frm
      have c2 := h.num d.to
      unfold accD
      split
      · rename_i hk
        have z3' := z3 hk
        by_cases e : n = d.to
        · rw [e, pnF_at]
          by_cases e2 : d.to = d.frm
          · rw [e2, pnF_at]
            simp only
            omega
          · have := z4 hk e2
            rw [pnF_ne _ _ e2]
            simp only
            omega
        · rw [pnF_ne _ _ e]
          by_cases e2 : n = d.frm
          · rw [e2, pnF_at]
            simp only
            omega
          · rw [pnF_ne _ _ e2]
            omega
      · by_cases e2 : n = d.frm
        · rw [e2, pnF_at]
          simp only
          omega
        · rw [pnF_ne _ _ e2]
          omega
    refine ⟨hk1, fun n => (hk2 n).1, fun n => (hk2 n).2, fun n x hx => ?_⟩
    by_cases hk : d.kind = 1
    · rw [if_pos hk] at hx
      exact h.vnm n x hx
    · rw [if_neg hk] at hx
      replace hx : pnF s.val d.key (some d.val) n = some x := hx
      by_cases e : n = d.key
      · rw [e, pnF_at] at hx
        cases hx
        rw [e]
        exact f3 hk
      · rw [pnF_ne _ _ e] at hx
        exact h.vnm n x hx
  · rw [applyF_no hz]
    exact h.mono (Nat.le_succ _)

theorem StOk.new (rich : List ByteArray) (funds : Nat) : StOk (newF rich funds) 0 := by
  refine ⟨fun n hn => ?_, fun n => ?_, fun n => ?_, fun n x hx => by cases hx⟩
  · unfold newF at hn
    simp only at hn
    by_cases h1 : isNm n = true
    · exact h1
    · rw [if_neg (by simp [h1])] at hn
      exact (hn rfl).elim
  · unfold newF
    simp only
    split
    · exact Nat.min_le_right _ _
    · exact Nat.zero_le _
  · unfold newF
    simp only
    split <;> exact Nat.zero_le _
end Go.Proofs.YtcjmeaikdfgapaaDoor
