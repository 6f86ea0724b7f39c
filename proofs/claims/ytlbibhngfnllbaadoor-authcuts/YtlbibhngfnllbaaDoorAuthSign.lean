/- What Sign does; nothing old in memory is turned. -/
import Derived.Test.YtlbibhngfnllbaaDoorAuthNew
import Derived.Laws.ResultCell
namespace Go.Proofs.YtlbibhngfnllbaaDoor
open Go.RowKit Go.Sort
set_option linter.unusedVariables false

/-- A validator's tag of a word. -/
def macOf (key kind word : ByteArray) : ByteArray := (bytes (keyedL key.data.toList (txt kind.data.toList ++ word.data.toList))).extract 0 16

theorem macOf_size (key kind word : ByteArray) : (macOf key kind word).size = 16 := by
  unfold macOf
  rw [ByteArray.size_extract, bytes_size, keyedL_len]
  rfl

theorem keyOf_size (seed : ByteArray) (i : Nat) : (keyOf seed i).size = 32 := by unfold keyOf; rw [bytes_size, keyedL_len]

theorem keysL_size (seed : ByteArray) (n : Nat) : ∀ k ∈ keysL seed n, k.size ≤ 32 := by
  intro k hk
  obtain ⟨i, _, rfl⟩ := List.mem_map.1 hk
  rw [keyOf_size]
  exact Nat.le_refl _

/-- A tag in a value. -/
def tagV (who : Int) (mac : ByteArray) : Value := .agg #[.int .i64 who, .string mac]

theorem infoTag : (Tryd.prog.info? 32).map (·.size) = some 2 := by kernel_rfl

theorem results_tag {fn : Func} {p u : Tmp} (h : fn.results = #[.cell p 32, .tmp u]) (tmps : Array Value) (w : World) (g : Nat) (t : TypeId) (who : Int) (mac : ByteArray)
    (hp : tmps.getD p undef = .pointer (some ⟨g, 0, none⟩)) (hg : Arr w g t [.int .i64 who, .string mac]) (v : Value) (hv : tmps.getD u undef = v) :
    (results fn tmps).run Tryd.prog w = .ok (.tuple #[tagV who mac, v]) w := by
  rw [results_cell_tmp h, hp, hv]
  have hl := run_loadVar_row w g t 32 #[.int .i64 who, .string mac] (0, 0) _ hg Tryd.underlying32 rfl infoTag
  simp [asAddr, hl, tagV, Result.andThen]

set_option maxRecDepth 100000 in
set_option maxHeartbeats 400000 in
theorem sign_no (b f : Nat) (ks : List ByteArray) (who : Int) (kind word : ByteArray) (w : World) (h : TabAt w b f ks) (hn : who < 0 ∨ (ks.length : Int) ≤ who) :
    Calls Tryd.prog 15 #[.pointer (some ⟨b, 0, none⟩), .int .i64 who, .string kind, .string word] w fun e w' => e = .returned (.tuple #[tagV 0 ⟨#[]⟩, .int .i64 2]) ∧ Below w.heap.size w w' := by
  have hA := Arr.new w 32 [.int .i64 0, .string ⟨#[]⟩]
  have hB := (Below.refl w.heap.size w).alloc (Nat.le_refl _) (.cells #[.int .i64 0, .string ⟨#[]⟩] 32)
  go_enter Tryd.func15, Tryd.ntmps15
  go_wp2_with fail
  refine (has_no b f ks who _ (h.below hB) hn).mono ?_
  rintro e w1 ⟨rfl, rfl⟩
  go_wp2
  refine bodyPost_ret (v := .tuple #[tagV 0 ⟨#[]⟩, .int .i64 2]) ?r1 ?r2 ?r3
  case r1 => exact results_tag (p := 8) (u := 9) rfl _ _ w.heap.size 32 0 ⟨#[]⟩ rfl hA _ rfl
  case r2 => rfl
  exact ⟨rfl, hB⟩

theorem txt_size (l : List UInt8) : (txt l).length ≤ l.length + 9 := by
  unfold txt
  have := goInt_length l.length
  simp
  omega

theorem mac_spell (key kind word : ByteArray) : (bytes (keyedL key.data.toList ((⟨(txt kind.data.toList).toArray⟩ ++ word : ByteArray)).data.toList)).extract 0 16 = macOf key kind word := by
  rw [append_list]
  rfl

set_option maxRecDepth 100000 in
set_option maxHeartbeats 400000 in
theorem sign_yes (b f : Nat) (ks : List ByteArray) (j : Nat) (kind word : ByteArray) (w : World) (h : TabAt w b f ks) (kj : ByteArray) (hkj : ks[j]? = some kj) (hks : ∀ k ∈ ks, k.size ≤ 32) (hkd : kind.size ≤ 1000000) (hwd : word.size ≤ 1000000) (hG : Glob w) :
    Calls Tryd.prog 15 #[.pointer (some ⟨b, 0, none⟩), .int .i64 (j : Int), .string kind, .string word] w fun e w' => e = .returned (.tuple #[tagV (j : Int) (macOf kj kind word), .int .i64 0]) ∧ Below w.heap.size w w' := by
  obtain ⟨hj, hkg⟩ := List.getElem?_eq_some_iff.1 hkj
  obtain ⟨mc, hmc⟩ : ∃ z, Hid (z = macOf kj kind word) := ⟨_, rfl⟩
  rw [← hmc.out]
  have hA := Arr.new w 32 [.int .i64 0, .string ⟨#[]⟩]
  have hB := (Below.refl w.heap.size w).alloc (Nat.le_refl _) (.cells #[.int .i64 0, .string ⟨#[]⟩] 32)
  go_enter Tryd.func15, Tryd.ntmps15
  go_wp2_with fail
  refine (has_yes b f ks j _ (h.below hB) (by omega) (by omega)).mono ?_
  rintro e w1 ⟨rfl, rfl⟩
  have hT := h.below hB
  have hG0 := hG.below hB
  generalize w.alloc (.cells #[.int .i64 0, .string ⟨#[]⟩] 32) = w0 at hA hB hT hG0 ⊢
  obtain ⟨a, cap, c1, hst⟩ := hT.c1
  obtain ⟨bs, off, rfl, hbs, cj⟩ := hst j hj
  have hks32 : kj.size ≤ 32 := hks _ (List.mem_of_getElem? hkj)
  rw [hkg] at cj
  have C1 : ∀ d os, (grow (redrawn w0 d) os).cell? ⟨b, 1, none⟩ = some (.slice (some ⟨bs, off, none⟩) ks.length cap) := fun d os => cell_regrown c1 d os
  have CJ : ∀ d os, (grow (redrawn w0 d) os).cell? ⟨bs, off + j, none⟩ = some (.string kj) := fun d os => cell_regrown cj d os
  have hG' : ∀ p : Regrown, Glob (grow (redrawn w0 p.d) p.os) := fun p => hG0.below (below_regrown w0 p.d p.os)
  have hj0 : (0 : Int) ≤ (j : Int) := by omega
  have hj1 : (j : Int) < (ks.length : Int) := by omega
  obtain ⟨tk, htk⟩ : ∃ z, Hid (z = (⟨(txt kind.data.toList).toArray⟩ : ByteArray)) := ⟨_, rfl⟩
  obtain ⟨u, hu⟩ : ∃ z, Hid (z = tk ++ word) := ⟨_, rfl⟩
  have huc : tk ++ word = u := hu.out.symm
  have htks : tk.size ≤ 1000009 := by
    rw [htk.out, ByteArray.size_mk']
    have := txt_size kind.data.toList
    have hl : kind.data.toList.length = kind.size := by simp
    simp only [List.size_toArray]
    omega
  have hus : u.size ≤ 2000009 := by rw [hu.out, ByteArray.size_append]; omega
  have hmx : ¬ (maxLen < tk.size + word.size) := by unfold maxLen; omega
  have cT : ∀ w1, Calls Tryd.prog 28 #[.string kind] w1 fun e w2 => e = .returned (.string tk) ∧ Below w1.heap.size w1 w2 := by
    intro w1
    rw [htk.out]
    exact w_text_any _ _ (by omega)
  have cS : ∀ w1, Glob w1 → Calls Tryd.prog 27 #[.string kj, .string u] w1 fun e w2 => e = .returned (.string mc) ∧ Below w1.heap.size w1 w2 := by
    intro w1 hg
    have h := short_any kj u w1 (by omega) (by omega) hg
    have he : (bytes (keyedL kj.data.toList u.data.toList)).extract 0 16 = mc := by rw [hmc.out, hu.out, htk.out]; exact mac_spell _ _ _
    rw [he] at h
    exact h
  go_wp2_with fail
  refine wp_region_head_below 14 0 (by kernel_rfl) (by kernel_rfl) (fun c a d v w h => by cases d <;> exact h) ?_
  simp only [List.take_succ_cons, List.take_zero, List.drop_succ_cons, List.drop_zero]
  iterate 9 (go_big_quiet_step (fail))
  go_big_quiet_step (exact Calls.regrown_of (cT _))
  iterate 2 (go_big_quiet_step (fail))
  go_big_quiet_step (exact Calls.regrown_of (cS _ (hG' _)))
  go_big_quiet_step (fail)
  refine wpQuiet_nil ?_
  rintro w' ⟨p, rfl⟩
  have hb' := below_regrown w0 p.d p.os
  have hA1 := hA.below hb' hA.lt
  have hB1 := hB.trans (hb'.mono hB.size)
  generalize grow (redrawn w0 p.d) p.os = w2 at hA1 hB1 ⊢
  have t0 := hA1.cell (i := 0) (v := .int .i64 0) rfl
  have t1 := hA1.cell (i := 1) (v := .string ⟨#[]⟩) rfl
  have z0 := hA1.frozen 0
  have z1 := hA1.frozen 1
  try simp only [Act.put]
  go_wp2
  have hA2 := (hA1.set 0 (.int .i64 (j : Int))).set 1 (.string mc)
  have hB2 := (hB1.setCell (p := ⟨w.heap.size, 0, none⟩) (Nat.le_refl _) (.int .i64 (j : Int))).setCell (p := ⟨w.heap.size, 1, none⟩) (Nat.le_refl _) (.string mc)
  refine bodyPost_ret (v := .tuple #[tagV (j : Int) mc, .int .i64 0]) ?r1 ?r2 ?r3
  case r1 => exact results_tag (p := 8) (u := 9) rfl _ _ w.heap.size 32 (j : Int) mc rfl hA2 _ rfl
  case r2 => rfl
  exact ⟨rfl, hB2⟩

end Go.Proofs.YtlbibhngfnllbaaDoor
