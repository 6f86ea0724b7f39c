/- Both ways round: bytes of a transaction, and the transaction of bytes. -/
import Derived.Test.YtibfnefdpbdkoaaTxDecMath
namespace Go.Proofs.Ytibfnefdpbdkoaa
open Go.RowKit
set_option linter.unusedVariables false

theorem bindI_back {l : List UInt8} {f : Nat → List UInt8 → TxD × Nat} {d : TxD} (h : bindI l f = (d, 0)) : ∃ n r, l = enc n ++ r ∧ n ≤ 4611686018427387903 ∧ f n r = (d, 0) := by
  rcases hg : getInt l with ⟨n, k, e⟩
  by_cases he : e = 0
  · subst he
    rw [bindI_ok hg] at h
    have hb := getInt_bounds _ n k hg
    have hk := getInt_back _ n k hg
    exact ⟨n, l.drop k, by rw [← hk.1, List.take_append_drop], hb.1, h⟩
  · rw [bindI_err hg he] at h
    exact absurd (Prod.mk.inj h).2 he

theorem bindT_back {l : List UInt8} {f : List UInt8 → List UInt8 → TxD × Nat} {d : TxD} (h : bindT l f = (d, 0)) : ∃ t r, l = txt t ++ r ∧ t.length ≤ 65536 ∧ f t r = (d, 0) := by
  rcases hg : getText l with ⟨t, k, e⟩
  by_cases he : e = 0
  · subst he
    rw [bindT_ok hg] at h
    have hb := getText_bounds _ t k hg
    have hk := getText_back _ t k hg
    exact ⟨t, l.drop k, by rw [hk, List.take_append_drop], hb.2.2.1, h⟩
  · rw [bindT_err hg he] at h
    exact absurd (Prod.mk.inj h).2 he

theorem bindL_back {l : List UInt8} {f : List (List UInt8) → List UInt8 → TxD × Nat} {d : TxD} (h : bindL l f = (d, 0)) : ∃ t r, l = lst t ++ r ∧ f t r = (d, 0) := by
  rcases hg : getList l 8 with ⟨t, k, e⟩
  by_cases he : e = 0
  · subst he
    rw [bindL_ok hg] at h
    have hk := getList_back hg
    exact ⟨t, l.drop k, by rw [← hk.1, List.take_append_drop], h⟩
  · rw [bindL_err hg he] at h
    exact absurd (Prod.mk.inj h).2 he

theorem fin_back {d0 d : TxD} {l : List UInt8} (h : finTx d0 l = (d, 0)) : d0 = d ∧ l = [] ∧ checkL d0 = 0 := by
  unfold finTx at h
  by_cases h1 : 2 < d0.kind
  · rw [if_pos h1] at h; exact absurd (Prod.mk.inj h).2 (by decide)
  rw [if_neg h1] at h
  by_cases h2 : l ≠ []
  · rw [if_pos h2] at h; exact absurd (Prod.mk.inj h).2 (by decide)
  rw [if_neg h2] at h
  by_cases h3 : checkL d0 ≠ 0
  · rw [if_pos h3] at h; exact absurd (Prod.mk.inj h).2 h3
  rw [if_neg h3] at h
  exact ⟨(Prod.mk.inj h).1, by simpa using h2, by omega⟩

/-- Bytes that are read are written as they were. -/
theorem enc_dec {l : List UInt8} {d : TxD} (h : decL l = (d, 0)) : checkL d = 0 ∧ encL d = l := by
  unfold decL at h
  obtain ⟨v0, r0, e0, b0, h⟩ := bindI_back h
  obtain ⟨v1, r1, e1, _, h⟩ := bindT_back h
  obtain ⟨v2, r2, e2, _, h⟩ := bindT_back h
  obtain ⟨v3, r3, e3, b3, h⟩ := bindI_back h
  obtain ⟨v4, r4, e4, b4, h⟩ := bindI_back h
  obtain ⟨v5, r5, e5, _, h⟩ := bindT_back h
  obtain ⟨v6, r6, e6, _, h⟩ := bindT_back h
  obtain ⟨v7, r7, e7, h⟩ := bindL_back h
  obtain ⟨v8, r8, e8, h⟩ := bindL_back h
  obtain ⟨hd, hr, hc⟩ := fin_back h
  subst hd
  refine ⟨hc, ?_⟩
  subst hr
  unfold encL
  simp only [bl_mks]
  rw [e0, e1, e2, e3, e4, e5, e6, e7, e8, goInt_nat v0 b0, goInt_nat v3 b3, goInt_nat v4 b4]
  simp [List.append_assoc]

theorem bytes_len (s : ByteArray) : s.data.toList.length = s.size := by simp

/-- A right transaction's bytes, and what stands behind them. -/
theorem dec_enc {d : TxD} (h : checkL d = 0) (r : List UInt8) : decL (encL d ++ r) = if r = [] then (d, 0) else (.none, 6) := by
  obtain ⟨z1, z2, z3, z4, z5, z6⟩ := check_zero h
  obtain ⟨y1, y2, y3, y4⟩ := fields_sizes z2
  obtain ⟨k7, q7⟩ := keys_sizes z5
  obtain ⟨k8, q8⟩ := keys_sizes z6
  obtain ⟨kd, hkd⟩ : ∃ n : Nat, d.kind = (n : Int) ∧ n ≤ 2 := by
    rcases z1 with e | e
    · exact ⟨1, e, by omega⟩
    · exact ⟨2, e, by omega⟩
  have t1 := bytes_len d.frm
  have t2 := bytes_len d.to
  have t5 := bytes_len d.key
  have t6 := bytes_len d.val
  have hb : ∀ l : List ByteArray, (∀ k ∈ l, isKy k = true) → ∀ t ∈ bl l, t.length ≤ 65536 := by
    intro l hl t ht
    obtain ⟨k, hk, rfl⟩ := List.mem_map.1 ht
    have := isKy_size (hl k hk)
    have := bytes_len k
    omega
  have hbl : ∀ l : List ByteArray, (bl l).length = l.length := fun l => by simp [bl]
  have n7 := hbl d.rs
  have n8 := hbl d.ws
  have e : encL d ++ r = enc kd ++ (txt d.frm.data.toList ++ (txt d.to.data.toList ++ (enc d.amt ++ (enc d.non ++ (txt d.key.data.toList ++ (txt d.val.data.toList ++ (lst (bl d.rs) ++ (lst (bl d.ws) ++ r)))))))) := by
    unfold encL
    rw [hkd.1, goInt_nat kd (by omega), goInt_nat d.amt z3, goInt_nat d.non z4]
    simp only [List.append_assoc]
  rw [e]
  unfold decL
  rw [bindI_ok (getInt_enc kd _ (by omega)), List.drop_left, bindT_ok (getText_txt _ _ (by omega)), List.drop_left, bindT_ok (getText_txt _ _ (by omega)), List.drop_left, bindI_ok (getInt_enc d.amt _ z3), List.drop_left,
    bindI_ok (getInt_enc d.non _ z4), List.drop_left, bindT_ok (getText_txt _ _ (by omega)), List.drop_left, bindT_ok (getText_txt _ _ (by omega)), List.drop_left,
    bindL_ok (getList_lst (bl d.rs) _ 8 (hb _ q7) (by omega) (by omega)), List.drop_left, bindL_ok (getList_lst (bl d.ws) _ 8 (hb _ q8) (by omega) (by omega)), List.drop_left]
  simp only [mk_list, mks_bl]
  have hd : (⟨(kd : Int), d.frm, d.to, d.amt, d.non, d.key, d.val, d.rs, d.ws⟩ : TxD) = d := by rw [← hkd.1]
  rw [hd]
  unfold finTx
  rw [if_neg (by rw [hkd.1]; omega)]
  by_cases hr : r = []
  · rw [if_neg (by simpa using hr), if_neg (by rw [h]; simp), if_pos hr]
  · rw [if_pos hr, if_neg hr]

theorem enc_len {d : TxD} (h : checkL d = 0) : (encL d).length ≤ 2000 := by
  obtain ⟨z1, z2, z3, z4, z5, z6⟩ := check_zero h
  obtain ⟨y1, y2, y3, y4⟩ := fields_sizes z2
  have y5 := lst_le z5
  have y6 := lst_le z6
  have x0 := goInt_length d.kind
  have x1 := txt_le d.frm.data.toList
  have x2 := txt_le d.to.data.toList
  have x3 := goInt_length d.amt
  have x4 := goInt_length d.non
  have x5 := txt_le d.key.data.toList
  have x6 := txt_le d.val.data.toList
  have t1 := bytes_len d.frm
  have t2 := bytes_len d.to
  have t5 := bytes_len d.key
  have t6 := bytes_len d.val
  unfold encL
  simp only [List.length_append]
  omega
end Go.Proofs.Ytibfnefdpbdkoaa
