/- HeaderChecks: for every input the statement answers true, and each argument reads afterwards as it read before. Condition: the two tables of package mix read as the program's text lays them; and what the arguments hold is together of bulk at most 1048576. -/
import Derived.Test.YtoodapbmpbaogaaDoorHdrRows
import Derived.Deep.QuietTactic
import Derived.BigQuiet
import Derived.Test.YtoodapbmpbaogaaDoorHdrWorks
import Derived.Test.YtoodapbmpbaogaaDoorHdrOwn
import Derived.Test.YtoodapbmpbaogaaDoorRefHdrSame
import Derived.Test.YtoodapbmpbaogaaDoorHdrOpen
import Derived.Test.YtoodapbmpbaogaaDoorRefHdrId
import Derived.Test.YtoodapbmpbaogaaDoorRefHdrCheck
import Derived.Lib.QuietBelow
import Derived.Test.YtoodapbmpbaogaaDoorHdrEncode
import Derived.Test.YtoodapbmpbaogaaDoorUpto
import Derived.Test.YtoodapbmpbaogaaDoorMixAll
import Derived.Test.YtoodapbmpbaogaaDoorCards
import Derived.Test.YtoodapbmpbaogaaDoorTie
import Derived.SevenTiedAt
import Derived.Deep.DeepHandedRow
/- What tusklaw06.Great, PlainTags and Plain do; nothing in memory is turned. -/
namespace Go.Proofs.YtoodapbmpbaogaaDoor
open Go.RowKit
set_option linter.unusedVariables false

/-- A bool is handed back that says whether P. -/
def GotBool (P : Prop) (e : Ending) : Prop := ∃ p : Bool, e = .returned (.bool p) ∧ (p = true ↔ P)

theorem gotB_no {P : Prop} (h : ¬ P) {e : Ending} (he : e = .returned (.bool false)) : GotBool P e := ⟨false, he, (fun h => by cases h), fun h' => absurd h' h⟩
theorem gotB_yes {P : Prop} (h : P) {e : Ending} (he : e = .returned (.bool true)) : GotBool P e := ⟨true, he, fun _ => h, fun _ => rfl⟩

set_option maxRecDepth 100000 in
set_option maxHeartbeats 1000000 in
theorem great_any (x : HdrM) (w : World) (hA : x.At w) (hn : x.refs.length ≤ maxLen) (hp : x.parents.length ≤ maxLen) :
    Calls Tryd.prog 33 #[x.v] w fun e w' => (∃ g, e = .returned (.bool g)) ∧ Below w.heap.size w w' := by
  obtain ⟨au, ro, ra, rs, rc, pa, ps, pc⟩ := x
  have hA1 : RowAt refK w ra rs := hA.refs
  have hA2 : RowAt strK w pa ps := hA.ps
  have hn' : rs.length ≤ maxLen := hn
  have hp' : ps.length ≤ maxLen := hp
  have hX := Arr.new w 66 [.int .i64 au, .int .i64 ro, .slice ra rs.length rc, .slice pa ps.length pc]
  have hB := belowNew w (.cells #[.int .i64 au, .int .i64 ro, .slice ra rs.length rc, .slice pa ps.length pc] 66)
  clear hA hn hp
  unfold maxLen at hn' hp'
  unfold HdrM.v
  simp only
  have x3 := hX.cell (i := 3) rfl
  go_enter Tryd.func33, Tryd.ntmps33
  go_wp2
  go_loopw [3, 4] (fun v3 v4 wr => ∃ (k : Nat) (n : Int), k ≤ rs.length ∧ v4 = .int .i64 (k : Int) ∧ v3 = .int .i64 n ∧ Arr wr w.heap.size 66 [.int .i64 au, .int .i64 ro, .slice ra rs.length rc, .slice pa ps.length pc] ∧ Below w.heap.size w wr) (fun _ v _ => rs.length - (intOf v).toNat)
  case atStart => exact ⟨0, _, Nat.zero_le _, rfl, rfl, hX, hB⟩
  case round =>
    clear hX hB x3
    obtain ⟨k, n, hk, rfl, rfl, hX, hb⟩ := hrel
    have x2 := hX.cell (i := 2) rfl
    by_cases hlt : k < rs.length
    · obtain ⟨r, hr⟩ : ∃ r, rs[k]? = some r := ⟨rs[k], List.getElem?_eq_getElem hlt⟩
      obtain ⟨b, off, rfl, hbl, y0, y1⟩ := (hA1.below hb).ref hr
      clear hr
      go_wp2_with fail
      go_big_quiet (fail)
      have hb2 := below_drewN hb nq
      have hX2 := hX.drewN nq
      clear hX hb x2 y0 y1
      generalize wr.drewN nq = w1 at *
      go_wp2
      go_roundw
      case rel => exact ⟨k + 1, _, by omega, by go_num, rfl, hX2, hb2⟩
      case measure => simp [intOf]; omega
    · go_wp2
      go_loopw [3, 5] (fun v3 v5 wr => ∃ (k : Nat) (n : Int), k ≤ ps.length ∧ v5 = .int .i64 (k : Int) ∧ v3 = .int .i64 n ∧ Arr wr w.heap.size 66 [.int .i64 au, .int .i64 ro, .slice ra rs.length rc, .slice pa ps.length pc] ∧ Below w.heap.size w wr) (fun _ v _ => ps.length - (intOf v).toNat)
      case atStart => exact ⟨0, _, Nat.zero_le _, rfl, rfl, hX, hb⟩
      case round =>
        clear hX hb x2
        obtain ⟨j, n, hj, rfl, rfl, hX, hb⟩ := hrel
        have x3 := hX.cell (i := 3) rfl
        by_cases hlt2 : j < ps.length
        · obtain ⟨b, off, rfl, hbl, hc⟩ := (hA2.below hb).strs j hlt2
          go_wp2
          go_roundw
          case rel => exact ⟨j + 1, _, by omega, by go_num, rfl, hX, hb⟩
          case measure => simp [intOf]; omega
        · go_wp2
          go_ret
          exact ⟨⟨_, rfl⟩, hb⟩
end Go.Proofs.YtoodapbmpbaogaaDoor

/- What the walks of HeaderBack, HeaderRight and HeaderCuts share. -/
namespace Go.Proofs.YtoodapbmpbaogaaDoor
open Go.RowKit
set_option linter.unusedVariables false

theorem HdrM.Lens.n' {x : HdrM} (h : x.Lens) : x.refs.length ≤ maxLen := by have := h.n; unfold maxLen; omega
theorem HdrM.Lens.p' {x : HdrM} (h : x.Lens) : x.parents.length ≤ maxLen := by have := h.p; unfold maxLen; omega
theorem HdrM.Lens.acks' {x : HdrM} (h : x.Lens) : ∀ r ∈ x.refs, r.acks.length ≤ maxLen := fun r hr => by have := h.acks r hr; unfold maxLen; omega

theorem flat_tags_fit : ∀ (l : List TagD), (∀ t ∈ l, t.Fit) → ((l.map tagB).flatMap txt).length ≤ 34 * l.length
  | [], _ => by simp
  | t :: l, h => by
    have ih := flat_tags_fit l (fun x hx => h x (by simp [hx]))
    have h1 := txt_len_le (tagB t)
    have h2 := tagB_len (h t (by simp))
    simp only [List.map_cons, List.flatMap_cons, List.length_append, List.length_cons] at ih ⊢
    omega

theorem refB_fit {r : RefD} (h : r.Fit) : (refB r).length ≤ 65800 := by
  have h1 := txt_len_le r.digest.data.toList
  have h2 := flat_tags_fit r.acks h.all
  have h3 := goInt_length ((r.acks.map tagB).length : Int)
  have h4 := h.few
  have h5 := h.dig
  have h6 : r.digest.data.toList.length = r.digest.size := by simp
  rw [refB, List.length_append, tagsB, lst, List.length_append]
  omega

theorem flat_refs_fit : ∀ (l : List RefD), (∀ r ∈ l, r.Fit) → (l.flatMap refB).length ≤ 65800 * l.length
  | [], _ => by simp
  | r :: l, h => by
    have ih := flat_refs_fit l (fun x hx => h x (by simp [hx]))
    have h1 := refB_fit (h r (by simp))
    simp only [List.flatMap_cons, List.length_append, List.length_cons] at ih ⊢
    omega

theorem flat_strs_fit : ∀ (l : List ByteArray), (∀ p ∈ l, p.size ≤ 65536) → ((bl l).flatMap txt).length ≤ 65545 * l.length
  | [], _ => by simp [bl]
  | p :: l, h => by
    have ih := flat_strs_fit l (fun x hx => h x (by simp [hx]))
    have h1 := txt_len_le p.data.toList
    have h2 := h p (by simp)
    have h6 : p.data.toList.length = p.size := by simp
    have e : (bl (p :: l)).flatMap txt = txt p.data.toList ++ (bl l).flatMap txt := by simp [bl]
    rw [e, List.length_append, List.length_cons]
    omega

theorem encH_fit {h : HdrD} (hf : h.Fit) : (encH h).length ≤ 1000000 := by
  have h1 := flat_refs_fit h.refs hf.refs
  have h2 := flat_strs_fit h.parents hf.pz
  have h3 := hf.few
  have h4 := hf.ps
  have g0 := goInt_length h.author
  have g1 := goInt_length h.round
  have g2 := goInt_length (h.refs.length : Int)
  have g3 := goInt_length ((bl h.parents).length : Int)
  unfold encH lst
  simp only [List.length_append]
  omega

theorem hdrFit_of {x : HdrM} (h : x.d.Fit) : x.Fit := by
  have h1 : x.refs.length ≤ 4 := by have := h.few; simpa [HdrM.d, rd] using this
  have h2 : x.parents.length ≤ 7 := h.ps
  have h3 : ∀ r ∈ x.refs, r.d.Fit := fun r hr => h.refs r.d (List.mem_map.2 ⟨r, hr, rfl⟩)
  refine ⟨by omega, by omega, fun r hr => ?_, fun r hr t ht => ?_, by have := encH_fit h; omega⟩
  · have : r.acks.length ≤ 7 := (h3 r hr).few
    omega
  · have : t.mac.size = 16 := ((h3 r hr).all t ht).mac
    omega

theorem fit_lens {x : HdrM} (h : x.d.Fit) : x.refs.length ≤ 4 ∧ x.parents.length ≤ 7 ∧ ∀ r ∈ x.refs, r.acks.length ≤ 7 :=
  ⟨by have := h.few; simpa [HdrM.d, rd] using this, h.ps, fun r hr => (h.refs r.d (List.mem_map.2 ⟨r, hr, rfl⟩)).few⟩
end Go.Proofs.YtoodapbmpbaogaaDoor

/- How a header that came in is opened; its sizes. -/
namespace Go.Proofs.YtoodapbmpbaogaaDoor
open Go.ChangeShapes Go.WideShapes Go.ChangeAt Go.RowKit Go.Joins Go.Deep
set_option linter.unusedVariables false

/-- How a Ref reads. -/
def RefQ {H : Type} (d : DataW H) (r : RefM) : Prop := ∃ y0 y1, d = .agg [y0, y1] ∧ StrQ y0 r.digest ∧ RowD TagQ y1 r.acks

theorem cellsRef6 : Tryd.prog.cellsOf 106 = 2 := by kernel_rfl
theorem cellsHdr6 : Tryd.prog.cellsOf 66 = 4 := by kernel_rfl
theorem cellsRefs6 : Tryd.prog.cellsOf 64 = 1 := by kernel_rfl
theorem bytesRef6 : Tryd.prog.bytesOf 106 = 40 := by kernel_rfl

set_option maxRecDepth 100000 in
theorem open_ref_cells {H : Type} {enc : TypeId × Value → H} {W : World} {fuel : Nat} {cs : List Value} {y : DataW H × List MemPlace}
    (hf : DataW.trod enc Tryd.prog W 0 (fun _ => true) true fuel 106 cs = some y) : ∃ r : RefM, cs = refK.c r ∧ refK.At W r ∧ RefQ y.1 r := by
  obtain ⟨xs, n, _, hx, hcl, hl, hg⟩ := DataW.trod_struct Tryd.underlying106 hf
  obtain ⟨c0, c1, rfl⟩ := list2x (hcl.trans cellsRef6)
  obtain ⟨y0, y1, rfl⟩ := list2x hl
  have g0 := hg 0 _ rfl
  have g1 := hg 1 _ rfl
  simp [cellsTags6, cellsStr6] at g0 g1
  obtain ⟨a0, e0, hy0, s0⟩ := DataW.trod_string Tryd.underlying9 g0
  obtain ⟨ao, len, cap, e1⟩ := slice_form Tryd.underlying22 g1
  simp at e0 e1
  subst e0 e1
  obtain ⟨l, rfl, l1, l2, l3, l4⟩ := open_tagsK g1
  refine ⟨⟨a0, l, ao, cap⟩, rfl, ⟨l1, l2⟩, y0.1, y1.1, ?_, ⟨by rw [hy0], s0⟩, l4⟩
  have := congrArg Prod.fst hx
  simpa using this

/-- How a header reads. -/
def HdrQ {H : Type} (d : DataW H) (x : HdrM) : Prop := ∃ y0 y1 y2 y3, d = .agg [y0, y1, y2, y3] ∧ RowD RefQ y2 x.refs ∧ RowD StrQ y3 x.parents

set_option maxRecDepth 100000 in
theorem open_hdr_cells {H : Type} {enc : TypeId × Value → H} {W : World} {fuel : Nat} {cs : List Value} {y : DataW H × List MemPlace}
    (hf : DataW.trod enc Tryd.prog W 0 (fun _ => true) true fuel 66 cs = some y) : ∃ x : HdrM, cs = hdrK.c x ∧ hdrK.At W x ∧ HdrQ y.1 x := by
  obtain ⟨xs, n, _, hx, hcl, hl, hg⟩ := DataW.trod_struct Tryd.underlying66 hf
  obtain ⟨c0, c1, c2, c3, rfl⟩ := list4x (hcl.trans cellsHdr6)
  obtain ⟨y0, y1, y2, y3, rfl⟩ := list4x hl
  have g0 := hg 0 _ rfl
  have g1 := hg 1 _ rfl
  have g2 := hg 2 _ rfl
  have g3 := hg 3 _ rfl
  simp [cellsInt6, cellsRefs6, cellsStrs6] at g0 g1 g2 g3
  obtain ⟨a0, e0, _, _⟩ := DataW.trod_int Tryd.underlying3 g0
  obtain ⟨a1, e1, _, _⟩ := DataW.trod_int Tryd.underlying3 g1
  obtain ⟨ra, rlen, rc, e2⟩ := slice_form Tryd.underlying64 g2
  obtain ⟨pa, plen, pc, e3⟩ := slice_form Tryd.underlying25 g3
  simp at e0 e1 e2 e3
  subst e0 e1 e2 e3
  obtain ⟨rs, rfl, r1, r2, r3, r4⟩ := open_row refK RefQ Tryd.underlying64 cellsRef6 open_ref_cells g2
  obtain ⟨ps, rfl, p1, p2, p3, p4⟩ := open_row strK StrQ Tryd.underlying25 cellsStr6 open_str_cells g3
  refine ⟨⟨a0, a1, ra, rs, rc, pa, ps, pc⟩, rfl, ⟨r1, r2, p1, p2⟩, y0.1, y1.1, y2.1, y3.1, ?_, r4, p4⟩
  have := congrArg Prod.fst hx
  simpa using this

set_option maxRecDepth 100000 in
theorem open_hdr {H : Type} {enc : TypeId × Value → H} {W : World} {r : Reach} {b0 : Nat} {v : Value} {d : DataW H} {p : List MemPlace} (hv : Value.okWide Tryd.prog W r b0 66 v)
    (h : DataW.Trod enc Tryd.prog W 0 (fun _ => true) true 66 v d p) : ∃ x : HdrM, v = x.v ∧ x.At W ∧ HdrQ d x := by
  obtain ⟨cs, rfl, hsz⟩ := okWide_struct Tryd.underlying66 hv
  obtain ⟨fuel, hf⟩ := h
  have hc : (Value.agg cs).cells.toList = cs.toList := by simp [Value.cells]
  obtain ⟨x, e, hx, hq⟩ := open_hdr_cells hf
  refine ⟨x, ?_, hx, hq⟩
  have e' : cs.toList = x.c := by rw [← hc]; exact e
  have : cs = x.c.toArray := by rw [← e']
  rw [this]
  rfl

set_option maxRecDepth 100000 in
theorem ref_acks_fit {H : Type} {y : DataW H} {r : RefM} (h : RefQ y r) (hw : ∀ n ∈ y.weights Tryd.prog 106, n ≤ reachBytes) : r.acks.length * 24 ≤ 140737488351232 := by
  obtain ⟨y0, y1, rfl, _, h1⟩ := h
  have := (h1.fit Tryd.underlying22 (fun n hn => hw n (by
    rw [DataW.weights, Tryd.underlying106]
    exact DataW.weights_mem_each (ts := [9, 22]) (j := 1) rfl rfl n hn))).1
  rw [bytesTag6] at this
  simpa [reachBytes] using this

set_option maxRecDepth 100000 in
theorem hdr_fit {H : Type} {d : DataW H} {x : HdrM} (h : HdrQ d x) (hw : ∀ n ∈ d.weights Tryd.prog 66, n ≤ reachBytes) : x.Lens := by
  obtain ⟨y0, y1, y2, y3, rfl, h2, h3⟩ := h
  obtain ⟨f1, f2⟩ := h2.fit Tryd.underlying64 (fun n hn => hw n (by
    rw [DataW.weights, Tryd.underlying66]
    exact DataW.weights_mem_each (ts := [3, 3, 64, 25]) (j := 2) rfl rfl n hn))
  obtain ⟨g1, _⟩ := h3.fit Tryd.underlying25 (fun n hn => hw n (by
    rw [DataW.weights, Tryd.underlying66]
    exact DataW.weights_mem_each (ts := [3, 3, 64, 25]) (j := 3) rfl rfl n hn))
  rw [bytesRef6] at f1
  rw [bytesStr6] at g1
  refine ⟨by simpa [reachBytes] using f1, by simpa [reachBytes] using g1, fun r hr => ?_⟩
  obtain ⟨y, hy, hyw⟩ := f2 r hr
  exact ref_acks_fit hy hyw

/-- A header that came in: in sizes that a machine holds. -/
theorem hdr_sized {H : Type} {ts : List TypeId} {ds : List (DataW H)} (h : (DataW.weightsEach Tryd.prog ts ds).all (· ≤ reachBytes) = true) {j : Nat} {d : DataW H} {x : HdrM} (ht : ts[j]? = some 66) (hd : ds[j]? = some d) (hs : HdrQ d x) : x.Lens := hdr_fit hs (weights_of h ht hd)
end Go.Proofs.YtoodapbmpbaogaaDoor

/- tusklaw06.HeaderChecks answers true; nothing old in memory is turned. -/
namespace Go.Proofs.YtoodapbmpbaogaaDoor
open Go.RowKit Go.Sort
set_option linter.unusedVariables false

theorem fit_same {x y : HdrM} (h : y.d = x.d) (hf : x.Fit) : y.Fit := by
  have hr : rd y.refs = rd x.refs := congrArg HdrD.refs h
  have hp : y.parents = x.parents := congrArg HdrD.parents h
  have hl : y.refs.length = x.refs.length := by have := congrArg List.length hr; simpa [rd] using this
  have hm : ∀ r ∈ y.refs, ∃ q ∈ x.refs, q.acks = r.acks := by
    intro r hm
    have h1 : r.d ∈ rd x.refs := by rw [← hr]; exact List.mem_map.2 ⟨r, hm, rfl⟩
    obtain ⟨q, hq, hqr⟩ := List.mem_map.1 h1
    exact ⟨q, hq, congrArg RefD.acks hqr⟩
  refine ⟨by rw [hl]; exact hf.n, by rw [hp]; exact hf.p, fun r hr' => ?_, fun r hr' => ?_, by rw [h]; exact hf.len⟩
  · obtain ⟨q, hq, e⟩ := hm r hr'
    rw [← e]
    exact hf.acks q hq
  · obtain ⟨q, hq, e⟩ := hm r hr'
    rw [← e]
    exact hf.mac q hq

theorem HdrM.Fit.lm {x : HdrM} (h : x.Fit) : ∀ r ∈ x.refs, r.acks.length ≤ maxLen := fun r hr => by have := h.acks r hr; unfold maxLen; omega
theorem HdrM.Fit.pm {x : HdrM} (h : x.Fit) : x.parents.length ≤ maxLen := by have := h.p; unfold maxLen; omega

set_option maxRecDepth 100000 in
set_option maxHeartbeats 4000000 in
theorem headerChecks_walk (f : Int) (x : HdrM) (w : World) (hwf : (Lit.int .i64 f).wf = true) (hA : x.At w) (hL : x.Lens) (hf : x.Fit) (hl : (encH x.d).length ≤ 1073741824) (hG : Mx.Glob w) :
    Calls Tryd.prog 7 #[.int .i64 f, x.v] w fun e w' => e = .returned (.bool true) ∧ Below w.heap.size w w' := by
  have hX := Arr.new w 66 [.int .i64 x.author, .int .i64 x.round, .slice x.ra x.refs.length x.rc, .slice x.pa x.parents.length x.pc]
  have hB := belowNew w (.cells #[.int .i64 x.author, .int .i64 x.round, .slice x.ra x.refs.length x.rc, .slice x.pa x.parents.length x.pc] 66)
  have cB := both_any f _ (hG.below hB)
  have cG := fun w1 h => great_any x w1 h hL.n' hL.p'
  have cO := fun w1 h => own6_any x w1 h hL
  unfold HdrM.v at cG cO ⊢
  go_enter Tryd.func7, Tryd.ntmps7
  go_wp2_with fail
  refine cB.mono ?_
  rintro e w2 ⟨n, tb, rb, n2, n1, rfl, hT2, hR2, hb2⟩
  have hX2 := hX.below hb2 hX.lt
  have hB2 := hB.trans (hb2.mono hB.size)
  have hk32 : ∀ k ∈ Mx.keysL seedW (3 * n + 1), k.size ≤ 32 := Mx.keysL_size _ _
  have hkl : Hid ((Mx.keysL seedW (3 * n + 1)).length = 3 * n + 1) := Mx.keysL_len _ _
  generalize Mx.keysL seedW (3 * n + 1) = ks at *
  clear hX hB hb2 cB
  have x0 := hX2.cell (i := 0) rfl
  have x1 := hX2.cell (i := 1) rfl
  have x2 := hX2.cell (i := 2) rfl
  have x3 := hX2.cell (i := 3) rfl
  go_wp2_with fail
  refine (cG _ (hA.below hB2)).mono ?_
  rintro e w3 ⟨⟨g, rfl⟩, hb3⟩
  have hX3 := hX2.below hb3 hX2.lt
  have hT3 := hT2.below hb3
  have hR3 := hR2.below hb3
  have hB3 := hB2.trans (hb3.mono hB2.size)
  clear hX2 hB2 hb3 cG x0 x1 x2 x3 hT2 hR2
  cases g with
  | true =>
    go_wp2
    go_ret
    exact ⟨rfl, hB3⟩
  | false =>
  have x0 := hX3.cell (i := 0) rfl
  have x1 := hX3.cell (i := 1) rfl
  have x2 := hX3.cell (i := 2) rfl
  have x3 := hX3.cell (i := 3) rfl
  go_wp2_with fail
  refine (cO _ (hA.below hB3)).mono ?_
  rintro e w4 ⟨y, rfl, hyd, hy, hyf, hb4⟩
  unfold HdrM.v
  have hX4 := hX3.below hb4 hX3.lt
  have hT4 := hT3.below hb4
  have hR4 := hR3.below hb4
  have hB4 := hB3.trans (hb4.mono hB3.size)
  have hbx := belowNew w4 (.cells #[.int .i64 y.author, .int .i64 y.round, .slice y.ra y.refs.length y.rc, .slice y.pa y.parents.length y.pc] 66)
  have hY5 := Arr.new w4 66 [.int .i64 y.author, .int .i64 y.round, .slice y.ra y.refs.length y.rc, .slice y.pa y.parents.length y.pc]
  have hX5 := hX4.below hbx hX4.lt
  have hT5 := hT4.below hbx
  have hR5 := hR4.below hbx
  have hB5 := hB4.trans (hbx.mono hB4.size)
  have hy5 := hy.below hbx
  have hx5 := hA.below hB5
  have hG5 := hG.below hB5
  clear hX3 hT3 hR3 hB3 hb4 cO x0 x1 x2 x3 hyf hX4 hT4 hR4 hB4 hbx hy hA hG
  obtain ⟨w5, hw5⟩ : ∃ q, w4.alloc (.cells #[.int .i64 y.author, .int .i64 y.round, .slice y.ra y.refs.length y.rc, .slice y.pa y.parents.length y.pc] 66) = q := ⟨_, rfl⟩
  rw [hw5] at hY5 hX5 hT5 hR5 hB5 hy5 hx5 hG5
  have hfy := fit_same hyd hf
  have hl2 : (encH x.d).length ≤ 140737488351232 := by omega
  have hln : x.refs.length ≤ 4611686018427387903 := by have := hf.n; omega
  have hlp : x.parents.length ≤ 4611686018427387903 := by have := hf.p; omega
  have hyn : y.refs.length ≤ 4611686018427387903 := by have := hfy.n; omega
  have hyp : y.parents.length ≤ 4611686018427387903 := by have := hfy.p; omega
  have hya : ∀ r ∈ y.refs, r.acks.length ≤ 4611686018427387903 := fun r hr => by have := hfy.acks r hr; omega
  have bl := fun d os => below_regrown w5 d os
  obtain ⟨er, her⟩ : ∃ q, Hid (q = chkH (3 * n + 1) (2 * n + 1) (enT ks n) x.d) := ⟨_, rfl⟩
  obtain ⟨eb, heb⟩ : ∃ q, Hid (q = (⟨(encH x.d).toArray⟩ : ByteArray)) := ⟨_, rfl⟩
  obtain ⟨ib, hib⟩ : ∃ q, Hid (q = Mx.bytes (Mx.sumL (encH x.d))) := ⟨_, rfl⟩
  have k1 : ∀ d os, Calls Tryd.prog 35 #[.pointer (some ⟨tb, 0, none⟩), y.v] (grow (redrawn w5 d) os) fun e w'' => e = .returned (.int .i64 (er : Int)) ∧ ∃ p : Regrown, w'' = grow (redrawn w5 p.d) p.os := fun d os => Calls.regrown_of (by
    rw [her.out, ← hyd]
    exact hdrCheck_any tb n ks y _ (hT5.below (bl d os)) n2 hk32 (hy5.below (bl d os)) hfy.lm hfy.pm (hG5.below (bl d os)))
  have k2 : ∀ d os, Calls Tryd.prog 36 #[.pointer (some ⟨rb, 0, none⟩), x.v] (grow (redrawn w5 d) os) fun e w'' => e = .returned (.int .i64 (er : Int)) ∧ ∃ p : Regrown, w'' = grow (redrawn w5 p.d) p.os := fun d os => Calls.regrown_of (by
    rw [her.out]
    exact refHdrCheck_any rb n ks x _ (hR5.below (bl d os)) n2 hkl.out hk32 (hx5.below (bl d os)) hf.lm hf.pm (hG5.below (bl d os)))
  have k3 : ∀ d os, Calls Tryd.prog 37 #[y.v] (grow (redrawn w5 d) os) fun e w'' => e = .returned (.string eb) ∧ ∃ p : Regrown, w'' = grow (redrawn w5 p.d) p.os := fun d os => Calls.regrown_of (by
    rw [heb.out, ← hyd]
    exact hdrEncode_any y _ (hy5.below (bl d os)) hfy)
  have k4 : ∀ d os, Calls Tryd.prog 38 #[x.v] (grow (redrawn w5 d) os) fun e w'' => e = .returned (.string eb) ∧ ∃ p : Regrown, w'' = grow (redrawn w5 p.d) p.os := fun d os => Calls.regrown_of (by
    rw [heb.out]
    exact refHdrEncode_any x _ (hx5.below (bl d os)) hf)
  have k5 : ∀ d os, Calls Tryd.prog 39 #[y.v] (grow (redrawn w5 d) os) fun e w'' => e = .returned (.string ib) ∧ ∃ p : Regrown, w'' = grow (redrawn w5 p.d) p.os := fun d os => Calls.regrown_of (by
    rw [hib.out, ← hyd]
    exact hdrId_any y _ (hy5.below (bl d os)) hfy (by rw [hyd]; exact hl2) (hG5.below (bl d os)))
  have k6 : ∀ d os, Calls Tryd.prog 40 #[x.v] (grow (redrawn w5 d) os) fun e w'' => e = .returned (.string ib) ∧ ∃ p : Regrown, w'' = grow (redrawn w5 p.d) p.os := fun d os => Calls.regrown_of (by
    rw [hib.out]
    exact refHdrId_any x _ (hx5.below (bl d os)) hf hl)
  have k7 : ∀ d os, Calls Tryd.prog 41 #[y.v, x.v] (grow (redrawn w5 d) os) fun e w'' => e = .returned (.bool true) ∧ ∃ p : Regrown, w'' = grow (redrawn w5 p.d) p.os := fun d os => Calls.regrown_of (by
    exact sameH_any y x _ (hy5.below (bl d os)) (hx5.below (bl d os)) hyd hyn hyp hya)
  unfold HdrM.v at k1 k2 k3 k4 k5 k6 k7
  have A0 := cell_regrown (hX5.cell (i := 0) rfl)
  have A1 := cell_regrown (hX5.cell (i := 1) rfl)
  have A2 := cell_regrown (hX5.cell (i := 2) rfl)
  have A3 := cell_regrown (hX5.cell (i := 3) rfl)
  have B0 := cell_regrown (hY5.cell (i := 0) rfl)
  have B1 := cell_regrown (hY5.cell (i := 1) rfl)
  have B2 := cell_regrown (hY5.cell (i := 2) rfl)
  have B3 := cell_regrown (hY5.cell (i := 3) rfl)
  have HBF : Hid (∀ d os, Below w.heap.size w (grow (redrawn w5 d) os)) := fun d os => hB5.trans ((bl d os).mono hB5.size)
  clear hY5 hX5 hT5 hR5 hB5 hy5 hx5 hG5 hyd hfy hl2 hln hlp hyn hyp hya bl hf hl hL hk32
  go_wp2_with fail
  refine wp_region_quiet_below (by kernel_rfl) (by kernel_rfl) ?_
  iterate 2 (go_big_quiet_step (fail))
  go_big_quiet_step (exact k1 _ _)
  iterate 2 (go_big_quiet_step (fail))
  go_big_quiet_step (exact k2 _ _)
  iterate 3 (go_big_quiet_step (fail))
  go_big_quiet_step (exact k3 _ _)
  iterate 1 (go_big_quiet_step (fail))
  go_big_quiet_step (exact k4 _ _)
  iterate 4 (go_big_quiet_step (fail))
  go_big_quiet_step (exact k5 _ _)
  iterate 1 (go_big_quiet_step (fail))
  go_big_quiet_step (exact k6 _ _)
  iterate 5 (go_big_quiet_step (fail))
  go_big_quiet_step (exact k7 _ _)
  iterate 2 (go_big_quiet_step (fail))
  refine wpQuiet_nil ?_
  rintro w' ⟨p, rfl⟩
  have hBF := HBF.out p.d p.os
  generalize grow (redrawn w5 p.d) p.os = w6 at hBF ⊢
  clear k1 k2 k3 k4 k5 k6 k7 A0 A1 A2 A3 B0 B1 B2 B3 HBF
  go_wp2
  go_ret
  exact ⟨rfl, hBF⟩
end Go.Proofs.YtoodapbmpbaogaaDoor

/- What the bound of the second form gives of a header that came in. -/
namespace Go.Proofs.YtoodapbmpbaogaaDoor
open Go.ChangeShapes Go.WideShapes Go.ChangeAt Go.RowKit
set_option linter.unusedVariables false

/-- What a Ref holds. -/
def refBulk (r : RefM) : Nat := r.digest.size + 1 + tagsBulk r.acks

theorem refQ_bulk {H : Type} (y : DataW H) (r : RefM) (h : RefQ y r) : refBulk r ≤ Rows.uptoBulk y := by
  obtain ⟨y0, y1, rfl, h0, h1⟩ := h
  have q0 := h0.bulk
  have q1 := h1.bulk tagQ_bulk
  simp only [Rows.uptoBulk, Rows.uptoBulkAll, refBulk, tagsBulk]
  omega

def refsBulk (l : List RefM) : Nat := (l.map refBulk).sum

theorem refsBulk_len : ∀ (l : List RefM), l.length ≤ refsBulk l
  | [] => by simp
  | r :: l => by
    have := refsBulk_len l
    simp only [refsBulk, refBulk, List.map_cons, List.sum_cons, List.length_cons] at this ⊢
    omega

theorem refsBulk_mem : ∀ {l : List RefM} {r : RefM}, r ∈ l → refBulk r ≤ refsBulk l
  | [], r, h => by cases h
  | x :: l, r, h => by
    simp only [refsBulk, List.map_cons, List.sum_cons]
    rcases List.mem_cons.1 h with rfl | h
    · omega
    · have := refsBulk_mem h
      simp only [refsBulk] at this
      omega

theorem refs_flat_le : ∀ (l : List RefM), ((rd l).flatMap refB).length ≤ 36 * refsBulk l
  | [] => by simp [rd]
  | r :: l => by
    have ih := refs_flat_le l
    have h1 := txt_len_le r.digest.data.toList
    have h2 := tagsB_len_le r.acks
    have h3 : r.digest.data.toList.length = r.digest.size := by simp
    have e : (rd (r :: l)).flatMap refB = refB r.d ++ (rd l).flatMap refB := by simp [rd]
    have e2 : refB r.d = txt r.digest.data.toList ++ tagsB r.acks := rfl
    rw [e, List.length_append, e2, List.length_append]
    simp only [refsBulk, refBulk, List.map_cons, List.sum_cons] at ih ⊢
    omega

theorem hdr_bulk {H : Type} {d : DataW H} {x : HdrM} (h : HdrQ d x) (hk : Rows.uptoBulk d ≤ 1048576) : x.Lens ∧ x.Fit ∧ (encH x.d).length ≤ 1073741824 := by
  obtain ⟨y0, y1, y2, y3, rfl, h2, h3⟩ := h
  have q2 := h2.bulk refQ_bulk
  have q3 := h3.bulk StrQ.bulk
  simp only [Rows.uptoBulk, Rows.uptoBulkAll] at hk
  have b2 : refsBulk x.refs ≤ 1048576 := by unfold refsBulk; omega
  have b3 : strsBulk x.parents ≤ 1048576 := by unfold strsBulk; omega
  have l2 := refsBulk_len x.refs
  have l3 := strsBulk_length x.parents
  have la : ∀ r ∈ x.refs, tagsBulk r.acks ≤ 1048576 := fun r hr => by
    have := refsBulk_mem hr
    unfold refBulk at this
    omega
  have f2 := refs_flat_le x.refs
  have f3 := lst_bulk x.parents
  have g0 := goInt_length x.author
  have g1 := goInt_length x.round
  have g2 := goInt_length ((rd x.refs).length : Int)
  have hl : (encH x.d).length ≤ 1073741824 := by
    show (goInt x.author ++ goInt x.round ++ goInt ((rd x.refs).length : Int) ++ (rd x.refs).flatMap refB ++ lst (bl x.parents)).length ≤ _
    simp only [List.length_append]
    omega
  refine ⟨⟨by omega, by omega, fun r hr => ?_⟩, ⟨by omega, by omega, fun r hr => ?_, fun r hr t ht => ?_, by omega⟩, hl⟩
  · have := la r hr; have := tagsBulk_len r.acks; omega
  · have := la r hr; have := tagsBulk_len r.acks; omega
  · have := la r hr; have := tagsBulk_mem ht; omega
end Go.Proofs.YtoodapbmpbaogaaDoor

/- HeaderChecks: for every input the statement answers true, and each argument reads afterwards as it read before. Condition: the two tables of package mix read as the program's text lays them; and what the arguments hold is together of bulk at most 1048576. -/
namespace Go.Proofs.YtoodapbmpbaogaaDoor
open Go.ChangeShapes Go.WideShapes Go.ChangeAt Go.RowKit
open Go.ChangeMaps (open_string shut_string)
set_option linter.unusedVariables false

set_option maxRecDepth 100000 in
theorem headerChecks_reads (os : Os) {H : Type} (enc : TypeId × Value → H) : ∃ places, DataW.whole enc Tryd.prog ((World.doorLaid Tryd.prog 400 os).forCall (fun _ _ => 0) ⟨#[], #[.int .i64 0, .agg #[.int .i64 0, .int .i64 0, .slice none 0 0, .slice none 0 0]], []⟩).memory Tryd.f7.params.toList Rows.headerChecksSpec.vars false (#[.int .i64 0, .agg #[.int .i64 0, .int .i64 0, .slice none 0 0, .slice none 0 0]] : Array Value).toList 8 = some ([.lit (.int .i64 0), .agg [.lit (.int .i64 0), .lit (.int .i64 0), .nil, .nil]], [], places) :=
  ⟨[], by kernel_rfl⟩

set_option maxRecDepth 100000 in
theorem headerChecks_lifted (os : Os) (started : os.Started) (H : Type) (enc : TypeId × Value → H) (F : Stop.Interp) :
    ReturnsInHanded {} Tryd.checked os 7 .any ((Rows.OpenSpec.upto Rows.headerChecksSpec).preRow enc Tryd.prog Tryd.f7 Rows.headerChecksUptoRow.domain false Rows.headerChecksUptoRow.laid) (((Rows.OpenSpec.upto Rows.headerChecksSpec).at F).post enc Tryd.prog Tryd.f7 false true false false) := by
  obtain ⟨places, hx⟩ := headerChecks_reads os enc
  refine returnsInHanded_of_row (C := Tryd.checked) (s := Rows.OpenSpec.upto Rows.headerChecksSpec) ownKnob_none started (by kernel_rfl) Tryd.func7
    ⟨World.doorLaid Tryd.prog 400 os, fun _ _ => 0, ⟨#[], #[.int .i64 0, .agg #[.int .i64 0, .int .i64 0, .slice none 0 0, .slice none 0 0]], []⟩, rfl, World.shaped_of_RefB (by kernel_rfl) (by kernel_rfl), rfl, (Input.okWide_of_okWideB (by kernel_rfl)).2,
      OpenSpec.preRow_of_cond 8 hx (by kernel_rfl) (fun k hk => by cases hk; kernel_rfl) (by kernel_rfl) (Mx.door_met os _), by
      simp only [Assume.holds]
      exact ⟨by simp, by simp, fun _ => Modest.zero, by simp, by simp⟩⟩ ?_
  intro W base args ds gs before hval0 hW hcnd hcond hsz0 hL _ _
  have hk : Rows.uptoSmall H (ds ++ gs) = true := hcond _ rfl
  have hval : ∀ (j : Nat) t v, Tryd.f7.params[j]? = some t → args[j]? = some v → Value.okWide Tryd.prog W .any base t v := hval0
  have hsz : (DataW.weightsEach Tryd.prog (Tryd.f7.params.toList ++ Rows.headerChecksSpec.plain.varTypes Tryd.prog) (ds ++ gs)).all (· ≤ reachBytes) = true := hsz0
  have hW' := hW
  obtain ⟨p, q, hA0, hV, rfl, hfz, hnd⟩ := hW
  have hA : DataW.TrodAll enc Tryd.prog W 0 (fun _ => true) true Tryd.f7.params.toList args.toList ds p := hA0
  rw [Tryd.params7] at hA hval hsz
  obtain ⟨v0, vs0, d0, ds0, p0, q0, hargs, rfl, rfl, h0, r0⟩ := trodAll_cons hA
  obtain ⟨v1, vs1, d1, ds1, p1, q1, rfl, rfl, rfl, h1, r1⟩ := trodAll_cons r0
  obtain ⟨rfl, rfl, rfl⟩ := trodAll_nil r1
  obtain rfl : args = #[v0, v1] := by cases args; simp_all
  obtain ⟨rfl, rfl⟩ := trodVars_none hV
  have k0 := h0
  have lt0 : ∀ x ∈ p0, x.block < W.heap.size := by obtain ⟨m, hm⟩ := k0; exact DataW.trod_lt m _ _ _ hm
  obtain ⟨a0, rfl, hd0, hp0, w0⟩ := open_int Tryd.underlying3 (hval 0 3 v0 rfl rfl) h0
  have k1 := h1
  have lt1 : ∀ x ∈ p1, x.block < W.heap.size := by obtain ⟨m, hm⟩ := k1; exact DataW.trod_lt m _ _ _ hm
  obtain ⟨x1, rfl, at1, qd1⟩ := open_hdr (hval 1 66 v1 rfl rfl) h1
  obtain ⟨sl1, ft1, eb1⟩ := hdr_bulk qd1 (Nat.le_trans (upto_part (d := d1) (by simp)) (upto_bound hk))
  clear hA0 hval0 hsz0
  refine (headerChecks_walk a0 x1 W w0 at1 sl1 ft1 eb1 (Mx.of_laid hL)).mono fun e W' ⟨he, bel⟩ => ?_
  subst he
  exact ⟨_, rfl, _, _, _, [], _, [], hW', trodAll_mk1 (shut_bool Tryd.underlying4 _), (trodAll_cons_mk (Below.trod laidOut_true (by kernel_rfl) (of_decide_eq_true (by kernel_rfl)) k0 bel lt0) (trodAll_cons_mk (Below.trod laidOut_true (by kernel_rfl) (of_decide_eq_true (by kernel_rfl)) k1 bel lt1) trodAll_mk0)), rfl, bel.frame _, fun h => by cases h⟩

theorem headerChecksUpto_holds : Rows.HeaderChecksUptoSaid :=
  OpenClaim.holds_of_cond 7 Tryd.f7 rfl rfl rfl rfl rfl rfl rfl ⟨rfl, rfl, rfl, rfl, rfl⟩ rfl rfl rfl rfl rfl (by kernel_rfl) Tryd.func7 (by kernel_rfl)
    (of_decide_eq_true (by kernel_rfl)) (by unfold Func.isWrapper; rw [if_neg (of_decide_eq_false (by kernel_rfl))]; exact ⟨rfl, rfl⟩)
    (fun os started H enc _ F => by rw [OpenClaim.pre_eq_preRow]; exact headerChecks_lifted os started H enc F)

theorem headerChecksUpto_card : Rows.HeaderChecksUptoCardSaid :=
  Claim7.holds_tied_plain_at .later [] [.data, .data] true (true, "9b200217b6f6b519613b493f24995ae3180a9199bc923eb04e9d1025e2e0dfcb") false
    headerChecksUpto_holds (fun _ h => by cases h) (by kernel_rfl) (fun _ h => by cases h) headerChecksUpto_row_tie rfl ⟨rfl, rfl⟩ (by kernel_rfl) rfl
    (fun f fn hf hfn => by
      obtain rfl : f = 7 := Option.some.inj ((show Tryd.prog.funcNamed "tusk/tusklaw06.HeaderChecks" = some 7 by kernel_rfl).symm.trans hf) |>.symm
      obtain rfl : fn = Tryd.f7 := (Option.some.inj (Tryd.func7.symm.trans hfn)).symm
      exact ⟨by kernel_rfl, fun j t ht => by
        rw [Tryd.params7] at ht
        have hall : ∀ t ∈ (#[3, 66] : Array TypeId).toList, Tryd.prog.wantsStandIn t = false := by
          show ∀ t ∈ ([3, 66] : List TypeId), Tryd.prog.wantsStandIn t = false
          refine List.forall_mem_cons.2 ⟨by kernel_rfl, ?_⟩
          refine List.forall_mem_cons.2 ⟨by kernel_rfl, ?_⟩
          exact fun _ h => by cases h
        exact hall t (Array.mem_toList_iff.2 (Array.mem_of_getElem? ht))⟩)
    (by kernel_rfl)
end Go.Proofs.YtoodapbmpbaogaaDoor
