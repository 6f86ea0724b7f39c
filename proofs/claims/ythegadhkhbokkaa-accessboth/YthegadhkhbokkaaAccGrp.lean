/- What access.Groups does. -/
import Derived.Test.YthegadhkhbokkaaAccLast
import Derived.Laws.MakeOwn
namespace Go.Proofs.Ythegadhkhbokkaa
open Go Go.RowKit
set_option linter.unusedVariables false

theorem intZeroA : ∃ i, Try.prog.info? 3 = some i ∧ i.zero = some (.int .i64 0) ∧ i.size = 1 ∧ i.bytes = 8 := by
  have h : (Try.prog.info? 3).any (fun i => i.size == 1 && i.bytes == 8 && (match i.zero with | some (.int .i64 0) => true | _ => false)) = true := by kernel_rfl
  cases hi : Try.prog.info? 3 with
  | none => rw [hi] at h; cases h
  | some i =>
    rw [hi] at h
    simp only [Option.any_some, Bool.and_eq_true, beq_iff_eq] at h
    refine ⟨i, rfl, ?_, h.1.1, h.1.2⟩
    have h2 := h.2
    split at h2
    · assumption
    · cases h2

theorem flat_nat0 : ∀ n, flatK natK (List.replicate n 0) = List.replicate n (Value.int .i64 0)
  | 0 => rfl
  | n + 1 => by
    rw [List.replicate_succ, List.replicate_succ, ← flat_nat0 n]
    rfl

theorem made_int (n : Nat) : (madeCells (Value.int .i64 0).cells (n * 1)).toList = List.replicate n (Value.int .i64 0) := by
  apply List.ext_getElem
  · simp [madeCells]
  · intro i h1 h2
    simp [madeCells, Value.cells, Nat.mod_one]

/-- A new row of zeros. -/
theorem make_nats (t : TypeId) (ht : Try.prog.underlying t = some (.slice 3)) (n : Nat) (hn : n ≤ 1000000) (w : World) :
    ∃ w', (Instr.makeSlice t (.int .i64 (n : Int)) (.int .i64 (n : Int))).run Try.prog w = .ok (.slice (some ⟨w.heap.size, 0, none⟩) n n) w' ∧
      KQ natK 3 w' w.heap.size (.slice (some ⟨w.heap.size, 0, none⟩) n n) (List.replicate n 0) ∧ Below w.heap.size w w' ∧ w.heap.size < w'.heap.size := by
  obtain ⟨i, hi, hz, hs, hb⟩ := intZeroA
  obtain ⟨w', h1, h2, h3⟩ := run_make_full (P := Try.prog) w w.heap.size t 3 i (.int .i64 0) 1 ht hi hz hs .i64 .i64 n (by rw [hb]; omega) (by unfold maxLen; omega) (Nat.le_refl _)
  rw [made_int, ← flat_nat0] at h2
  have hQ : KQ natK 3 w' w.heap.size (.slice (some ⟨w.heap.size, 0, none⟩) n n) (List.replicate n 0) := KQ.of_own (K := natK) (fun _ _ h => h) (fun _ _ => trivial) (by rw [List.length_replicate]) h2
  have hk := Kept.of_grown h3
  refine ⟨w', h1, hQ, hk.below (Nat.le_refl _) (fun k e => by cases e), ?_⟩
  exact (hQ.lt w.heap.size rfl).2

def GotGroups (W : World) (l : List RwD) (e : Ending) (w : World) : Prop :=
  ∃ g gl, e = .returned (.slice (some ⟨g, 0, none⟩) l.length l.length) ∧ KQ natK 3 w W.heap.size (.slice (some ⟨g, 0, none⟩) l.length l.length) gl ∧ GSpec l gl ∧ Below W.heap.size W w

theorem range_set {gl : List Nat} {i n : Nat} (h1 : gl.length = n) (h2 : gl.take i = List.range i) (hi : i < n) : (gl.set i i).take (i + 1) = List.range (i + 1) := by
  rw [List.take_set, List.range_succ, List.take_add_one, h2, List.getElem?_eq_getElem (by omega)]
  simp

/-- The first so many point to their ends. -/
def Ends (gl : List Nat) (i : Nat) : Prop := ∀ k, k < i → Root gl k (up gl k)

theorem Ends.stay {l : List RwD} {gl gl' : List Nat} {i : Nat} (h : Ends gl i) (hs : Stay gl gl') (hr : ∀ x s, Root gl x s → Root gl' x s) : Ends gl' i := by
  intro k hk
  have h1 := h k hk
  have := hs k h1.fix
  rw [this]
  exact hr k _ h1

theorem Ends.point {l : List RwD} {gl : List Nat} {i r : Nat} (h : Ends gl i) (hl : i < gl.length) (hr : Root gl i r) (hp : ∀ x s, Root gl x s → Root (gl.set i r) x s) : Ends (gl.set i r) (i + 1) := by
  intro k hk
  rw [up_set hl]
  split
  · rename_i e
    subst e
    exact hp _ _ hr
  · rename_i e
    exact hp _ _ (h k (by omega))

theorem Same2.of_roots {gl gl' : List Nat} (hr : ∀ x s, Root gl x s → Root gl' x s) {x y : Nat} (h : Same2 gl x y) : Same2 gl' x y := by
  obtain ⟨r, h1, h2⟩ := h
  exact ⟨r, hr _ _ h1, hr _ _ h2⟩

set_option maxRecDepth 100000 in
set_option maxHeartbeats 2000000 in
theorem groups_any (l : List TxA) (ao : Option Addr) (cp : Nat) (w : World) (hl : RowAt txA w ao l) (hf : Few l) :
    Calls Try.prog 11 #[.slice ao l.length cp] w fun e w' => GotGroups w (rwL l) e w' := by
  have hl1 := hf.1
  obtain ⟨w1, hms, hQ1, hB1, hs1⟩ := make_nats 46 Try.underlying46 l.length (by omega) w
  have hlen : (rwL l).length = l.length := rwL_length l
  have hLW := fun (w2 : World) (hb : Below w.heap.size w w2) => last_any l ao cp w2 (hl.below hb) hf
  go_enter Try.func11, Try.ntmps11
  go_wp2_with fail
  go_loopw [14] (fun v14 wr => ∃ (i : Nat) (gl : List Nat), i ≤ l.length ∧ v14 = .int .i64 (i : Int) ∧ KQ natK 3 wr w.heap.size (.slice (some ⟨w.heap.size, 0, none⟩) l.length l.length) gl ∧ Hid (gl.length = l.length) ∧ Hid (gl.take i = List.range i) ∧ Kept (fun k => k = w.heap.size) w1 wr) (fun v _ => l.length - (intOf v).toNat)
  case atStart => exact ⟨0, _, Nat.zero_le _, rfl, hQ1, List.length_replicate, rfl, Kept.refl _ _⟩
  case round =>
    obtain ⟨i, gl, hi, rfl, hq, hgl, hgt, hk⟩ := hrel
    clear hQ1
    by_cases hil : i < l.length
    · have g1 : (i : Int) < (l.length : Int) := by omega
      obtain ⟨p, hp⟩ : ∃ p, gl[i]? = some p := ⟨_, List.getElem?_eq_getElem (by rw [hgl.out]; exact hil)⟩
      obtain ⟨c1, f1, hBg, hgw, s1⟩ := hq.natSet hp
      have hQ2 := s1 i
      have hk2 := hk.set (p := ⟨w.heap.size, 0 + i, none⟩) (Eq.refl w.heap.size) (.int .i64 (i : Int))
      have hg2 : Hid ((gl.set i i).length = l.length) := by rw [List.length_set]; exact hgl.out
      have hg3 : Hid ((gl.set i i).take (i + 1) = List.range (i + 1)) := range_set hgl.out hgt.out hil
      rw [Nat.zero_add] at c1 f1 hQ2 hk2
      clear s1 hp hgl hgt hms
      go_wp2
      go_roundw
      case rel => exact ⟨i + 1, gl.set i i, by omega, by go_num, hQ2, hg2, hg3, hk2⟩
      case measure => simp [intOf]; omega
    · have g1 : ¬ (i : Int) < (l.length : Int) := by omega
      have hgr : gl = List.range (rwL l).length := by
        have := hgt.out
        rw [show i = l.length by omega, ← hgl.out, List.take_length] at this
        rw [this, hgl.out, hlen]
      have hb2 : Below w.heap.size w wr := hB1.trans (hk.below (Nat.le_of_lt hs1) (fun k e => by have e' : k = w.heap.size := e; omega))
      have cLW := hLW wr hb2
      have hwz : w.heap.size < wr.heap.size := Nat.lt_of_lt_of_le hs1 hk.size
      clear hgl hgt hk hi hil hms hLW
      subst hgr
      go_wp2_with fail
      refine cLW.mono ?_
      rintro _ w3 ⟨mb, mn, rfl, hM, hmb, hb3⟩
      have hq3 := hq.below hb3
      have hb4 := hb2.trans (hb3.mono hb2.size)
      have hmg : mb ≠ w.heap.size := by omega
      have hu3 := UF.start (rwL l)
      clear cLW hq hmb
      have hj3 : Hid (Jn (rwL l) (List.range (rwL l).length) 0) := fun i t hi => absurd hi (Nat.not_lt_zero _)
      have hwz3 : w.heap.size < w3.heap.size := Nat.lt_of_lt_of_le hwz hb3.size
      clear hB1 hs1 hb2 hb3 hwz
      go_wp2_with fail
      go_loopw [26] (fun v26 wq => ∃ (i : Nat) (gl : List Nat), i ≤ l.length ∧ v26 = .int .i64 (i : Int) ∧ KQ natK 3 wq w.heap.size (.slice (some ⟨w.heap.size, 0, none⟩) l.length l.length) gl ∧ UF (rwL l) gl ∧ Hid (Jn (rwL l) gl i) ∧ SMap wq mb (lastF (rwL l)) mn ∧ Below w.heap.size w wq ∧ w.heap.size < wq.heap.size) (fun v _ => l.length - (intOf v).toNat)
      case atStart => exact ⟨0, _, Nat.zero_le _, rfl, hq3, hu3, hj3, hM, hb4, hwz3⟩
      case round =>
        obtain ⟨i, gl, hi, rfl, hq, hu, hj, hm, hb, hwz⟩ := hrel
        clear hq3 hu3 hj3 hM hb4 hwz3
        by_cases hil : i < l.length
        · have g1 : (i : Int) < (l.length : Int) := by omega
          obtain ⟨x, hx⟩ : ∃ p, l[i]? = some p := ⟨_, List.getElem?_eq_getElem hil⟩
          obtain ⟨b, off, rfl, hbl, x0, x1, x2, x3, x4, x5, x6, x7, x8, hA⟩ := (hl.below hb).tx hx
          have hbn := belowNew wr (.cells x.c.toArray 26)
          have hrd := hA.rd.below hbn
          have hwr := hA.wr.below hbn
          have hzr := hA.zr
          have hzw := hA.zw
          obtain ⟨hfr, hfw⟩ := hf.2 x (List.mem_of_getElem? hx)
          have hcr : Hid (∀ key ∈ x.rs, ∀ v, lastN (rwL l) key (rwL l).length = some v → Conn (rwL l) i v) := fun key hk v hv => last_conn (rwL_get hx) (Or.inl hk) hv
          have hcw : Hid (∀ key ∈ x.ws, ∀ v, lastN (rwL l) key (rwL l).length = some v → Conn (rwL l) i v) := fun key hk v hv => last_conn (rwL_get hx) (Or.inr hk) hv
          have hfo : Hid ((∀ b, rowFoot textK x.ra x.rs b → b < w.heap.size) ∧ ∀ b, rowFoot textK x.wa x.ws b → b < w.heap.size) := ⟨fun b hb => (hl.at_ x (List.mem_of_getElem? hx)).rd.lt hb, fun b hb => (hl.at_ x (List.mem_of_getElem? hx)).wr.lt hb⟩
          have hnx : Hid (∀ g, Jn (rwL l) g i → JnK (rwL l) g i x.rs → JnK (rwL l) g i x.ws → Jn (rwL l) g (i + 1)) := by
            intro g h1 h2 h3 i' t hi' ht key hk v hv
            by_cases e : i' = i
            · subst e
              rw [rwL_get hx] at ht
              cases ht
              rcases hk with hk | hk
              · exact h2 key hk v hv
              · exact h3 key hk v hv
            · exact h1 i' t (by omega) ht key hk v hv
          have hX := Arr.new wr 26 x.c
          obtain ⟨kind, frm, dst, amt, non, key, val, rs, ws, ra, rc, wa, wc⟩ := x
          have hq4 := hq.below hbn
          have hm4 := hm.below hbn
          have hb5 := hb.trans (hbn.mono hb.size)
          have hx' : Hid _ := hx
          replace hbn : Below wr.heap.size wr (wr.alloc (.cells #[.int .i64 kind, .string frm, .string dst, .int .u64 amt, .int .u64 non, .string key, .string val, .slice ra rs.length rc, .slice wa ws.length wc] 26)) := hbn
          replace hX : Arr (wr.alloc (.cells #[.int .i64 kind, .string frm, .string dst, .int .u64 amt, .int .u64 non, .string key, .string val, .slice ra rs.length rc, .slice wa ws.length wc] 26)) wr.heap.size 26 [.int .i64 kind, .string frm, .string dst, .int .u64 amt, .int .u64 non, .string key, .string val, .slice ra rs.length rc, .slice wa ws.length wc] := hX
          replace hrd : RowAt textK (wr.alloc (.cells #[.int .i64 kind, .string frm, .string dst, .int .u64 amt, .int .u64 non, .string key, .string val, .slice ra rs.length rc, .slice wa ws.length wc] 26)) ra rs := hrd
          replace hwr : RowAt textK (wr.alloc (.cells #[.int .i64 kind, .string frm, .string dst, .int .u64 amt, .int .u64 non, .string key, .string val, .slice ra rs.length rc, .slice wa ws.length wc] 26)) wa ws := hwr
          replace hq4 : KQ natK 3 (wr.alloc (.cells #[.int .i64 kind, .string frm, .string dst, .int .u64 amt, .int .u64 non, .string key, .string val, .slice ra rs.length rc, .slice wa ws.length wc] 26)) w.heap.size (.slice (some ⟨w.heap.size, 0, none⟩) l.length l.length) gl := hq4
          replace hm4 : SMap (wr.alloc (.cells #[.int .i64 kind, .string frm, .string dst, .int .u64 amt, .int .u64 non, .string key, .string val, .slice ra rs.length rc, .slice wa ws.length wc] 26)) mb (lastF (rwL l)) mn := hm4
          replace hb5 : Below w.heap.size w (wr.alloc (.cells #[.int .i64 kind, .string frm, .string dst, .int .u64 amt, .int .u64 non, .string key, .string val, .slice ra rs.length rc, .slice wa ws.length wc] 26)) := hb5
          replace hzr : ∀ s ∈ rs, s.size ≤ maxLen := hzr
          replace hzw : ∀ s ∈ ws, s.size ≤ maxLen := hzw
          replace hfr : rs.length ≤ 1000 := hfr
          replace hfw : ws.length ≤ 1000 := hfw
          replace hcr : Hid (∀ key ∈ rs, ∀ v, lastN (rwL l) key (rwL l).length = some v → Conn (rwL l) i v) := hcr
          replace hcw : Hid (∀ key ∈ ws, ∀ v, lastN (rwL l) key (rwL l).length = some v → Conn (rwL l) i v) := hcw
          replace hfo : Hid ((∀ b, rowFoot textK ra rs b → b < w.heap.size) ∧ ∀ b, rowFoot textK wa ws b → b < w.heap.size) := hfo
          replace hnx : Hid (∀ g, Jn (rwL l) g i → JnK (rwL l) g i rs → JnK (rwL l) g i ws → Jn (rwL l) g (i + 1)) := hnx
          clear hA hx hq hm hb
          go_wp2_with fail
          have hgz : wr.heap.size < (wr.alloc (.cells #[.int .i64 kind, .string frm, .string dst, .int .u64 amt, .int .u64 non, .string key, .string val, .slice ra rs.length rc, .slice wa ws.length wc] 26)).heap.size := by rw [alloc_size]; omega
          generalize (wr.alloc (.cells #[.int .i64 kind, .string frm, .string dst, .int .u64 amt, .int .u64 non, .string key, .string val, .slice ra rs.length rc, .slice wa ws.length wc] 26)) = w5 at *
          have c1 := joinBy_any (rwL l) (by rw [hlen]; omega) w.heap.size w.heap.size 0 l.length gl i w5 (by rw [hlen]; exact hq4) hu (by rw [hlen]; exact hil) rs ra rc hrd (fun b hb e => by have := hfo.out.1 b hb; omega) (by omega) hzr mb mn hm4 hmg hcr.out
          rw [hlen] at c1
          refine c1.mono ?_
          rintro _ w6 ⟨rfl, gl6, hq6, hu6, hs6, hj6, hk6⟩
          clear c1
          have hX6 := hX.kept hk6 (fun e => by have e' : wr.heap.size = w.heap.size := e; omega)
          have y8 := hX6.cell (i := 8) rfl
          have c2 := joinBy_any (rwL l) (by rw [hlen]; omega) w.heap.size w.heap.size 0 l.length gl6 i w6 (by rw [hlen]; exact hq6) hu6 (by rw [hlen]; exact hil) ws wa wc (hwr.kept hk6 (fun b hb e => by have := hfo.out.2 b hb; have e' : b = w.heap.size := e; omega)) (fun b hb e => by have := hfo.out.2 b hb; omega) (by omega) hzw mb mn (hm4.kept hk6 hmg) hmg hcw.out
          rw [hlen] at c2
          go_wp2_with fail
          refine c2.mono ?_
          rintro _ w7 ⟨rfl, gl7, hq7, hu7, hs7, hj7, hk7⟩
          clear c2
          have hjn : Hid (Jn (rwL l) gl7 (i + 1)) := hnx.out gl7 ((hj.out.mono hs6).mono hs7) (hj6.mono hs7) hj7
          have hk8 := hk6.trans hk7
          have hm7 := hm4.kept hk8 hmg
          have hb7 := hb5.trans (hk8.below hb5.size (fun k e => by have e' : k = w.heap.size := e; omega))
          have hz7 : w.heap.size < w7.heap.size := by have := hk8.size; omega
          go_wp2
          go_roundw
          case rel => exact ⟨i + 1, gl7, by omega, by go_num, hq7, hu7, hjn, hm7, hb7, hz7⟩
          case measure => simp [intOf]; omega
        · have g1 : ¬ (i : Int) < (l.length : Int) := by omega
          have hjf : Hid (Jn (rwL l) gl (rwL l).length) := by
            have := hj.out
            rw [show i = (rwL l).length by rw [hlen]; omega] at this
            exact this
          clear hj hm hi hil
          go_wp2_with fail
          go_loopw [46] (fun v46 WZ => ∃ (i : Nat) (gl : List Nat), i ≤ l.length ∧ v46 = .int .i64 (i : Int) ∧ KQ natK 3 WZ w.heap.size (.slice (some ⟨w.heap.size, 0, none⟩) l.length l.length) gl ∧ UF (rwL l) gl ∧ Hid (Jn (rwL l) gl (rwL l).length) ∧ Hid (Ends gl i) ∧ Below w.heap.size w WZ ∧ w.heap.size < WZ.heap.size) (fun v _ => l.length - (intOf v).toNat)
          case atStart => exact ⟨0, gl, Nat.zero_le _, rfl, hq, hu, hjf, fun k hk => absurd hk (Nat.not_lt_zero _), hb, hwz⟩
          case round =>
            obtain ⟨i, gl, hi, rfl, hq, hu, hj, he, hb, hwz⟩ := hrel
            by_cases hil : i < l.length
            · have g1 : (i : Int) < (l.length : Int) := by omega
              have c1 := least_any (rwL l) (by rw [hlen]; omega) w.heap.size w.heap.size 0 l.length gl i wr (by rw [hlen]; exact hq) hu (by rw [hlen]; exact hil)
              rw [hlen] at c1
              go_wp2_with fail
              refine c1.mono ?_
              rintro _ w6 ⟨r, gl6, rfl, hr6, hq6, hu6, hs6, ht6, hk6⟩
              have hgl6 : gl6.length = l.length := by rw [hu6.snd.1, hlen]
              have he6 := he.out.stay (l := rwL l) ht6 hs6
              have hr7 := hs6 _ _ hr6
              obtain ⟨hu7, hp7⟩ := hu6.point (by rw [hlen]; exact hil) hr7
              have he7 : Hid (Ends (gl6.set i r) (i + 1)) := he6.point (l := rwL l) (by rw [hgl6]; exact hil) hr7 hp7
              have hj7 : Hid (Jn (rwL l) (gl6.set i r) (rwL l).length) := hj.out.mono (fun x y h => (h.of_roots hs6).of_roots hp7)
              obtain ⟨p, hp⟩ : ∃ p, gl6[i]? = some p := ⟨_, List.getElem?_eq_getElem (by rw [hgl6]; exact hil)⟩
              obtain ⟨c1', f1, hBg, hgw, s1⟩ := hq6.natSet hp
              have hQ2 := s1 r
              have hk7 := hk6.set (p := ⟨w.heap.size, 0 + i, none⟩) (Eq.refl w.heap.size) (.int .i64 (r : Int))
              rw [Nat.zero_add] at c1' f1 hQ2 hk7
              have hb7 := hb.trans (hk7.below hb.size (fun k e => by have e' : k = w.heap.size := e; omega))
              have hz7 : w.heap.size < (w6.setCell ⟨w.heap.size, i, none⟩ (.int .i64 (r : Int))).heap.size := by have := hk7.size; omega
              clear c1 s1 hp hgl6 he6 hr7 hp7 hs6 ht6 hr6
              go_wp2
              go_roundw
              case rel => exact ⟨i + 1, _, by omega, by go_num, hQ2, hu7, hj7, he7, hb7, hz7⟩
              case measure => simp [intOf]; omega
            · have g1 : ¬ (i : Int) < (l.length : Int) := by omega
              have hspec : GSpec (rwL l) gl := hu.groups hj.out (fun k hk => he.out k (by rw [hlen] at hk; omega))
              have hq' : KQ natK 3 wr w.heap.size (.slice (some ⟨w.heap.size, 0, none⟩) (rwL l).length (rwL l).length) gl := by rw [hlen]; exact hq
              have hlen' : Hid _ := hlen
              clear hj he hlen
              go_wp2
              go_ret
              exact ⟨_, gl, by rw [hlen'.out]; rfl, hq', hspec, hb⟩
end Go.Proofs.Ythegadhkhbokkaa
