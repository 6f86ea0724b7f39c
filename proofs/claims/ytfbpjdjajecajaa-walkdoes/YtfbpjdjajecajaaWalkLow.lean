/- What Low of the program's graph does. -/
import Derived.Test.YtfbpjdjajecajaaWalkAdd
import Derived.Test.YtfbpjdjajecajaaMapStrRange
import Derived.Test.YtfbpjdjajecajaaMapStrSize
namespace Go.Proofs.Ytfbpjdjajecajaa
open Go Go.RowKit Go.Maps
set_option linter.unusedVariables false

/-- What stays of the places, and of the vertices, while they are gone through: those still to come as they were, of the others those that are not below. -/
def lowL (L : List VtxD) (round : Int) (left : PlD → Bool) : List VtxD := L.filter (fun v => left (plV v) || decide (round ≤ v.round))

theorem lowL_strike_stays {L : List VtxD} {round : Int} {left : PlD → Bool} {p : PlD} (h : ∀ v ∈ L, plV v = p → round ≤ v.round) : lowL L round (strikeC left p) = lowL L round left := by
  unfold lowL
  refine List.filter_congr (fun v hv => ?_)
  unfold strikeC
  by_cases e : plV v = p
  · rw [decide_eq_true (h v hv e), Bool.or_true, Bool.or_true]
  · rw [decide_eq_false e]
    simp

theorem lowL_strike_goes {L : List VtxD} {round : Int} {left : PlD → Bool} {p : PlD} (h : ∀ v ∈ L, plV v = p → v.round < round) : lowL L round (strikeC left p) = (lowL L round left).filter (fun v => !decide (plV v = p)) := by
  unfold lowL
  rw [List.filter_filter]
  refine List.filter_congr (fun v hv => ?_)
  unfold strikeC
  by_cases e : plV v = p
  · rw [decide_eq_true e, decide_eq_false (by have := h v hv e; omega : ¬ round ≤ v.round)]
    simp
  · rw [decide_eq_false e]
    simp

theorem lowL_none {L : List VtxD} {round : Int} {left : PlD → Bool} (h : ∀ v ∈ L, left (plV v) = false) : lowL L round left = keepVt L round := by
  unfold lowL keepVt
  refine List.filter_congr (fun v hv => ?_)
  rw [h v hv, Bool.false_or]

theorem lowL_all {L : List VtxD} {round : Int} {left : PlD → Bool} (h : ∀ v ∈ L, left (plV v) = true) : lowL L round left = L := by
  unfold lowL
  exact List.filter_eq_self.2 (fun v hv => by rw [h v hv, Bool.true_or])

/-- 'delete(m, id)' as a run. -/
theorem SMap.delete {w : World} {b : Nat} {f : ByteArray → Option Value} {n : Nat} (h : SMap w b f n) {t e : TypeId} (ht : Try.prog.underlying t = some (.map 9 e)) {id : ByteArray} (hid : id.size ≤ maxLen) (ty : TypeId) :
    ∃ w', (Builtin.delete_ #[t, 9] ty #[.map (some b), .string id]).run Try.prog w = .ok (.tuple #[]) w' ∧ SMap w' b (delF f id) (delN f id n) ∧ Kept (fun k => k = b) w w' := by
  obtain ⟨D, ho, h1, h2, h3⟩ := h
  obtain ⟨w', hrun, ho', ht'⟩ := ho.drop lawStr ht (keyS_of hid) ty
  exact ⟨w', hrun, SMap.dels ho h1 h2 h3 ho', (Kept.of_grown ht'.grown).mono (fun k _ e => by simpa using e.symm)⟩

/-- The vertices that are still there. -/
def onlyF (f : PlD → Option Value) (L : List VtxD) (p : PlD) : Option Value := if (atPl L p).isSome = true then f p else none

theorem getV_sub {g : GrD} (h : GrOk g) {L : List VtxD} (hs : L.Sublist g.L) {x : ByteArray} {v : VtxD} : getV L x = some v ↔ v ∈ L ∧ v.id = x := by
  have h' : GrOk { g with L := L } := ⟨h.rise.sublist hs, h.ids.sublist hs, fun v hv => h.ps v (hs.subset hv), Nat.le_trans hs.length_le h.n, fun v hv => h.rng v (hs.subset hv)⟩
  exact getV_iff h'

theorem subOk {g : GrD} (h : GrOk g) {L : List VtxD} (hs : L.Sublist g.L) : GrOk { g with L := L } := ⟨h.rise.sublist hs, h.ids.sublist hs, fun v hv => h.ps v (hs.subset hv), Nat.le_trans hs.length_le h.n, fun v hv => h.rng v (hs.subset hv)⟩

/-- One less, by its id and by its place. -/
theorem plF_goes {g : GrD} (h : GrOk g) {L : List VtxD} (hs : L.Sublist g.L) {u : VtxD} (hu : u ∈ L) (x : ByteArray) : plF (L.filter (fun v => !decide (plV v = plV u))) x = delF (plF L) u.id x := by
  have hL := subOk h hs
  have hL2 : GrOk { g with L := L.filter (fun v => !decide (plV v = plV u)) } := subOk h (List.filter_sublist.trans hs)
  unfold plF delF
  by_cases e : x = u.id
  · rw [if_pos e]
    have : getV (L.filter (fun v => !decide (plV v = plV u))) x = none := getV_none.2 (fun v hv hx => by
      obtain ⟨h1, h2⟩ := List.mem_filter.1 hv
      have h3 : getV L x = some v := (getV_iff hL).2 ⟨h1, hx⟩
      have h4 : getV L x = some u := (getV_iff hL).2 ⟨hu, e.symm⟩
      rw [h3] at h4
      cases h4
      simp at h2)
    rw [this]
    rfl
  · rw [if_neg e]
    congr 1
    cases hc : getV L x with
    | none => exact getV_none.2 (fun v hv => getV_none.1 hc v (List.mem_filter.1 hv).1)
    | some v =>
      obtain ⟨h1, h2⟩ := (getV_iff hL).1 hc
      refine (getV_iff hL2).2 ⟨List.mem_filter.2 ⟨h1, ?_⟩, h2⟩
      simp only [Bool.not_eq_true', decide_eq_false_iff_not]
      intro e2
      exact e (by rw [← h2, plV_inj hL h1 hu e2])

theorem onlyF_goes {f : PlD → Option Value} {g : GrD} (h : GrOk g) {L : List VtxD} (hs : L.Sublist g.L) {u : VtxD} (hu : u ∈ L) (p : PlD) : onlyF f (L.filter (fun v => !decide (plV v = plV u))) p = delC (onlyF f L) (plV u) p := by
  unfold onlyF delC
  by_cases e : p = plV u
  · rw [if_pos e, if_neg]
    rw [Bool.not_eq_true, Option.isSome_eq_false_iff, Option.isNone_iff_eq_none]
    refine atPl_none.2 (fun v hv hp => ?_)
    have := (List.mem_filter.1 hv).2
    rw [hp, e] at this
    simp at this
  · rw [if_neg e]
    have : (atPl (L.filter (fun v => !decide (plV v = plV u))) p).isSome = (atPl L p).isSome := by
      cases hc : atPl L p with
      | none =>
        have : atPl (L.filter (fun v => !decide (plV v = plV u))) p = none := atPl_none.2 (fun v hv => atPl_none.1 hc v (List.mem_filter.1 hv).1)
        rw [this]
      | some v =>
        obtain ⟨h1, h2⟩ := atPl_some hc
        cases hc2 : atPl (L.filter (fun v => !decide (plV v = plV u))) p with
        | none => exact (atPl_none.1 hc2 v (List.mem_filter.2 ⟨h1, by simp only [Bool.not_eq_true', decide_eq_false_iff_not]; rw [h2]; exact e⟩) h2).elim
        | some _ => rfl
    rw [this]

theorem onlyF_in {f : PlD → Option Value} {g : GrD} (h : GrOk g) {u : VtxD} (hu : u ∈ g.L) : onlyF f g.L (plV u) = f (plV u) := by
  unfold onlyF
  rw [atPl_of h hu]
  rfl

/-- While the vertices are gone through. -/
structure LowSt (w wr : World) (gb pb vb rb : Nat) (S : Nat → Prop) (g : GrD) (f : PlD → Option Value) (round : Int) (left : PlD → Bool) (cnt n1 n2 : Nat) : Prop where
  box : Arr wr gb 44 [.int .i64 round, .map (some pb), .map (some vb)]
  pl : SMap wr pb (plF (lowL g.L round left)) n1
  vx : CRange wr vb rb (onlyF f (lowL g.L round left)) n2 left cnt
  rB : w.heap.size ≤ rb
  kp : Kept (fun k => k = gb ∨ k = pb ∨ k = vb) w wr

theorem LowSt.below {w wr w' : World} {gb pb vb rb : Nat} {S : Nat → Prop} {g : GrD} {f : PlD → Option Value} {round : Int} {left : PlD → Bool} {cnt n1 n2 : Nat} (h : LowSt w wr gb pb vb rb S g f round left cnt n1 n2) (hb : Below wr.heap.size wr w') : LowSt w w' gb pb vb rb S g f round left cnt n1 n2 :=
  ⟨h.box.below hb h.box.lt, h.pl.below hb, h.vx.kept (S := fun _ => False) (Kept.of_below hb) (fun e => e) (fun e => e), h.rB, h.kp.trans (Kept.of_below hb)⟩

theorem lowL_sub (L : List VtxD) (round : Int) (left : PlD → Bool) : (lowL L round left).Sublist L := List.filter_sublist

set_option maxRecDepth 100000 in
set_option maxHeartbeats 2000000 in
theorem pgLow_any (round : Int) (gb : Nat) (S : Nat → Prop) (g : GrD) (w : World) (h : PG w gb S g) :
    Calls Try.prog 10 #[.pointer (some ⟨gb, 0, none⟩), .int .i64 round] w fun e w' => e = .returned (.int .i64 (lowNV g round : Nat)) ∧ PG w' gb S (lowGV g round) ∧ Kept S w w' := by
  have hok := h.ok.low round
  obtain ⟨pb, vb, f, h⟩ := h
  have c0 := h.box.cell (i := 0) rfl
  have f0 := h.box.frozen 0
  unfold lowNV lowGV
  unfold lowGV at hok
  by_cases hlow : round ≤ g.low
  · rw [if_pos hlow, if_pos hlow]
    go_enter Try.func10, Try.ntmps10
    go_wp2
    go_ret
    exact ⟨rfl, ⟨pb, vb, f, h⟩, Kept.refl _ _⟩
  · rw [if_neg hlow, if_neg hlow]
    rw [if_neg hlow] at hok
    have hk1 : Kept (fun k => k = gb) w (w.setCell ⟨gb, 0, none⟩ (.int .i64 round)) := Kept.setCell w ⟨gb, 0, none⟩ _
    have hb1 := h.box.set 0 (.int .i64 round)
    have hp1 := h.pl.kept hk1 (fun e => h.n1 (show pb = gb from e).symm)
    have hv1 := h.vx.kept hk1 (fun e => h.n2 (show vb = gb from e).symm)
    have hLen : ∀ (w' : World) (n : Nat), Arr w' gb 44 [.int .i64 round, .map (some pb), .map (some vb)] → (∃ f', CMap w' vb f' n) → Calls Try.prog 14 #[.pointer (some ⟨gb, 0, none⟩)] w' fun e w'' => e = .returned (.int .i64 (n : Int)) ∧ w'' = w' := by
      rintro w' n hA ⟨f', hC⟩
      have c2 := hA.cell (i := 2) rfl
      go_enter Try.func14, Try.ntmps14
      go_wp2_with (at_len; refine cmap_len (by rfl) _ 42 rfl 49 Try.underlying42 vb _ _ rfl hC ?_)
      go_ret
      exact ⟨rfl, rfl⟩
    have hbox1 : Arr (w.setCell ⟨gb, 0, none⟩ (.int .i64 round)) gb 44 [.int .i64 round, .map (some pb), .map (some vb)] := hb1
    have hsz1 : (w.setCell ⟨gb, 0, none⟩ (.int .i64 round)).heap.size = w.heap.size := setCell_size _ _ _
    have cL1 := hLen _ _ hbox1 ⟨_, hv1⟩
    have hgb := h.lt gb h.sg
    have hpb := h.lt pb h.sp
    have hvb := h.lt vb h.sv
    have hn1 := h.n1
    have hn2 := h.n2
    have hn3 := h.n3
    go_enter Try.func10, Try.ntmps10
    go_wp2_with fail
    refine cL1.mono ?_
    rintro e w1 ⟨rfl, hw1⟩
    rw [hw1]
    clear cL1 hw1 c0 f0 hb1
    generalize w.setCell ⟨gb, 0, none⟩ (.int .i64 round) = w1 at *
    have c2 := hbox1.cell (i := 2) rfl
    go_wp2_with (at_range; refine cmap_range rfl _ 42 rfl 49 Try.underlying42 vb f _ rfl hv1 ?_; intro w2 hR2 hb2 hs2)
    obtain ⟨rb, hrb⟩ : ∃ r, Hid (w1.heap.size = r) := ⟨_, rfl⟩
    rw [hrb.out] at hR2 ⊢
    have hrbw : w.heap.size ≤ rb := by have := hrb.out; omega
    have hall : lowL g.L round (fun p => (f p).isSome) = g.L := lowL_all (fun v hv => by obtain ⟨ao, n, cap, e, _⟩ := h.yes v hv; rw [e]; rfl)
    have hS0 : LowSt w w2 gb pb vb rb S g f round (fun p => (f p).isSome) g.L.length g.L.length g.L.length := by
      refine ⟨hbox1.below hb2 hbox1.lt, by rw [hall]; exact hp1.below hb2, hR2.congr (fun p hp => ?_), hrbw, (hk1.mono (fun k _ e => Or.inl e)).trans (Kept.of_below hb2)⟩
      rw [hall]
      unfold onlyF
      cases hc : atPl g.L p with
      | none => rw [if_neg (by simp), h.no p hp hc]
      | some v => rfl
    clear hR2 c2 hbox1 hp1 hv1 hb2 hs2 hk1 hsz1
    go_frame
    go_loopw [6, 7, 8, 9] (fun _ _ _ _ wr => ∃ (left : PlD → Bool) (cnt n1 n2 : Nat), LowSt w wr gb pb vb rb S g f round left cnt n1 n2) (fun _ _ _ _ wr => wr.rangeLeft vb rb)
    case atStart => exact ⟨_, _, _, _, hS0⟩
    case round =>
      obtain ⟨left, cnt, m1, m2, hT⟩ := hrel
      clear hS0
      have hsub := lowL_sub g.L round left
      go_wp2_with (at_next; refine cmap_next rfl _ rfl vb rb _ _ _ _ rfl hT.vx ?_ ?_)
      · intro hl
        have hkeep : lowL g.L round left = keepVt g.L round := lowL_none (fun v hv => hl _ (plV_in h.ok hv))
        have hks : (keepVt g.L round).Sublist g.L := List.filter_sublist
        have hcount : m2 = (keepVt g.L round).length := by
          have := hT.vx.map.count (L := (keepVt g.L round).map plV) ?_ ?_ ?_
          · rw [this, List.length_map]
          · unfold List.Nodup
            rw [List.pairwise_map]
            have hr := hok.rise
            exact List.Pairwise.imp_of_mem (fun {u v} hu hv huv e => ltP_irrefl (plV v) (by have q := (plV_ltP hok hu hv).2 huv; rwa [e] at q)) hr
          · intro p hp
            obtain ⟨v, hv, rfl⟩ := List.mem_map.1 hp
            exact plV_in hok hv
          · intro p hp
            rw [hkeep]
            unfold onlyF
            rw [List.mem_map]
            constructor
            · intro hx
              cases hc : atPl (keepVt g.L round) p with
              | none => rw [hc] at hx; simp at hx
              | some v => obtain ⟨q1, q2⟩ := atPl_some hc; exact ⟨v, q1, q2⟩
            · rintro ⟨v, hv, rfl⟩
              obtain ⟨ao, n, cap, e, _⟩ := h.yes v (hks.subset hv)
              have := onlyF_in (f := f) hok hv
              unfold onlyF at this
              rw [this, e]
              rfl
        have hcount1 : m1 = (keepVt g.L round).length := by
          have := hT.pl.count (L := (keepVt g.L round).map (·.id)) ?_ ?_
          · rw [this, List.length_map]
          · unfold List.Nodup
            rw [List.pairwise_map]
            exact hok.ids
          · intro x
            rw [hkeep]
            unfold plF
            rw [Option.isSome_map, Option.isSome_iff_exists, List.mem_map]
            constructor
            · rintro ⟨v, hv⟩
              obtain ⟨q1, q2⟩ := getV_some hv
              exact ⟨v, q1, q2⟩
            · rintro ⟨v, q1, q2⟩
              exact ⟨v, (getV_iff hok).2 ⟨q1, q2⟩⟩
        have hfin : PG wr gb S ⟨keepVt g.L round, round⟩ := by
          refine ⟨pb, vb, onlyF f (keepVt g.L round), ?_⟩
          have hpl := hT.pl
          have hvx := hT.vx.map
          rw [hkeep, hcount1] at hpl
          rw [hkeep, hcount] at hvx
          exact { box := hT.box, pl := hpl, vx := hvx
                  no := fun p hp hn => by unfold onlyF; rw [show atPl (keepVt g.L round) p = none from hn]; rfl
                  yes := fun v hv => by
                    obtain ⟨ao, n, cap, e, hpar⟩ := h.yes v (hks.subset hv)
                    refine ⟨ao, n, cap, ?_, hpar.keep hT.kp (fun b hb q1 q2 q3 q4 => by rcases q4 with e | e | e; exact q1 e; exact q2 e; exact q3 e)⟩
                    exact (onlyF_in (f := f) hok hv).trans e
                  ok := hok
                  ids := fun v hv => h.ids v (hks.subset hv)
                  sg := h.sg, sp := h.sp, sv := h.sv, n1 := h.n1, n2 := h.n2, n3 := h.n3
                  lt := fun k hk => Nat.lt_of_lt_of_le (h.lt k hk) hT.kp.size }
        have hkS : Kept S w wr := hT.kp.mono (fun k _ e => by rcases e with e | e | e <;> rw [e]; exact h.sg; exact h.sp; exact h.sv)
        have cL := hLen wr m2 hT.box ⟨_, hT.vx.map⟩
        rw [hcount] at cL
        have hle : (keepVt g.L round).length ≤ g.L.length := hks.length_le
        have h256 := h.ok.n
        have hsubI : ((g.L.length - (keepVt g.L round).length : Nat) : Int) = (g.L.length : Int) - ((keepVt g.L round).length : Int) := by omega
        have hsubI' : Hid _ := hsubI
        clear hsubI
        clear hT hcount hcount1 hkeep hok
        go_wp2_with fail
        refine cL.mono ?_
        rintro e w9 ⟨rfl, rfl⟩
        go_wp2
        go_ret
        exact ⟨by rw [hsubI'.out]; rfl, hfin, hkS⟩
      · intro p v w3 cnt' hp hlp hfp hR3 hlt3 hk3 hsz3 hen
        have hvp : ∃ u ∈ lowL g.L round left, plV u = p := by
          unfold onlyF at hfp
          cases hc : atPl (lowL g.L round left) p with
          | none => rw [hc] at hfp; simp at hfp
          | some u => exact ⟨u, (atPl_some hc).1, (atPl_some hc).2⟩
        obtain ⟨u, hu, hup⟩ := hvp
        subst hup
        have hug := hsub.subset hu
        obtain ⟨ao, n, cap, hfu, hpar⟩ := h.yes u hug
        have hval : v = .agg #[.string u.id, .slice ao n cap, .bool u.done] := by
          rw [onlyF_in (f := f) (subOk h.ok hsub) hu, hfu] at hfp
          exact (Option.some.inj hfp).symm
        subst hval
        have hid := (h.ids u hug).1
        have hru : u.round = ((plV u).r : Int) := by have := h.ok.rng u hug; unfold plV; simp only; omega
        have hLq := hT.vx.left_eq
        have hT3 : LowSt w w3 gb pb vb rb S g f round left cnt' m1 m2 → True := fun _ => trivial
        have hbox3 := hT.box.kept hk3 (fun e => by have e' : gb = rb := e; have := hT.rB; omega)
        have hpl3 := hT.pl.kept hk3 (fun e => by have e' : pb = rb := e; have := hT.rB; omega)
        have hkp3 : Kept (fun k => k = gb ∨ k = pb ∨ k = vb) w w3 := hT.kp.transNew hk3 (fun k e => by have e' : k = rb := e; have := hT.rB; omega)
        have hrB := hT.rB
        have hb4 := belowNew w3 (.cells #[.string u.id, .slice ao n cap, .bool u.done] 49)
        have hX4 := Arr.new w3 49 [.string u.id, .slice ao n cap, .bool u.done]
        have hbox4 := hbox3.below hb4 hbox3.lt
        have hpl4 := hpl3.below hb4
        have hR4 := hR3.kept (S := fun _ => False) (Kept.of_below hb4) (fun e => e) (fun e => e)
        have hkp4 := hkp3.trans (Kept.of_below (S := fun k => k = gb ∨ k = pb ∨ k = vb) hb4)
        have cR := plRound_any (plX (plV u)) (plY (plV u)) (w3.alloc (.cells #[.string u.id, .slice ao n cap, .bool u.done] 49))
        rw [plXY hp.1 hp.2] at cR
        simp only [Option.map_some, Option.getD_some, Option.isSome_some] at cR
        clear hT hT3 hfp hfu hpar hbox3 hpl3 hkp3 hR3 hk3 hsz3
        unfold kC at hen
        by_cases hlr : u.round < round
        · have hgo : lowL g.L round (strikeC left (plV u)) = (lowL g.L round left).filter (fun v => !decide (plV v = plV u)) := lowL_strike_goes (fun v hv e => by rw [plV_inj h.ok hv hug e]; exact hlr)
          have hg : ((plV u).r : Int) < round := by omega
          have x0 := hX4.cell (i := 0) rfl
          have c1 := hbox4.cell (i := 1) rfl
          have hfr0 := hX4.frozen 0
          go_wp2_with fail
          refine cR.mono ?_
          rintro e w5 ⟨rfl, hw5⟩
          rw [hw5]
          clear hw5 cR hen
          go_wp2_with fail
          generalize w3.alloc (.cells #[.string u.id, .slice ao n cap, .bool u.done] 49) = w4 at *
          have hbd : Below w4.heap.size w4 w4.drew := below_drewN (Below.refl _ _) 1
          obtain ⟨w6, hrun6, hM6, hk6⟩ := (hpl4.below hbd).delete Try.underlying41 hid 0
          have hk46 : Kept (fun k => k = pb) w4 w6 := (Kept.of_below hbd).trans hk6
          have hbox6 := hbox4.kept hk46 (fun e => hn1 e)
          have hR6 := hR4.kept hk46 (fun e => hn3 (show vb = pb from e).symm) (fun e => by have e' : rb = pb := e; omega)
          have hkp6 := hkp4.trans (hk46.mono (T := fun k => k = gb ∨ k = pb ∨ k = vb) (fun k _ e => Or.inr (Or.inl e)))
          have c26 := hbox6.cell (i := 2) rfl
          clear hbox4 hpl4 hR4 hkp4 hX4 hk6 hb4
          go_region
          clear c1 x0 hrun6 hbd hfr0
          go_wp2_with (at_delete; refine cmap_del_range rfl _ _ 42 rfl 49 Try.underlying42 vb rb _ _ _ _ rfl hR6 (plV u) hp rfl ?_)
          intro w7 cnt7 hR7 hle7 hk7 hs7
          have htw : strikeC (strikeC left (plV u)) (plV u) = strikeC left (plV u) := by
            funext q
            unfold strikeC
            cases left q <;> cases decide (q = plV u) <;> rfl
          rw [htw] at hR7
          have hT7 : LowSt w w7 gb pb vb rb S g f round (strikeC left (plV u)) cnt7 (delN (plF (lowL g.L round left)) u.id m1) (delNC (onlyF f (lowL g.L round left)) (plV u) m2) :=
            ⟨hbox6.kept hk7 (fun e => hn2 e), by rw [hgo]; exact (hM6.kept hk7 (fun e => hn3 e)).congr (plF_goes h.ok hsub hu), by rw [hgo]; exact hR7.congr (fun q _ => onlyF_goes h.ok hsub hu q), hrB, hkp6.trans (hk7.mono (fun k _ e => Or.inr (Or.inr e)))⟩
          have hL7 := hR7.left_eq
          clear hR7 hR6 hbox6 hM6 hk7 hs7 hkp6 hgo c26 hk46
          go_wp2
          go_roundw
          case rel => exact ⟨_, _, _, _, hT7⟩
          case measure => rw [hL7, hLq]; omega
        · have hst : lowL g.L round (strikeC left (plV u)) = lowL g.L round left := lowL_strike_stays (fun v hv e => by rw [plV_inj h.ok hv hug e]; omega)
          have hg : ¬ ((plV u).r : Int) < round := by omega
          have hT5 : LowSt w _ gb pb vb rb S g f round (strikeC left (plV u)) cnt' m1 m2 := ⟨hbox4, by rw [hst]; exact hpl4, by rw [hst]; exact hR4, hrB, hkp4⟩
          have hT5' : Hid _ := hT5
          have hL5 : Hid _ := hR4.left_eq
          clear hT5 hbox4 hpl4 hR4 hkp4 hX4 hb4 hru
          go_wp2_with fail
          refine cR.mono ?_
          rintro e w5 ⟨rfl, hw5⟩
          rw [hw5]
          go_wp2
          go_roundw
          case rel => exact ⟨_, _, _, _, hT5'.out⟩
          case measure => rw [hL5.out, hLq]; omega
end Go.Proofs.Ytfbpjdjajecajaa
