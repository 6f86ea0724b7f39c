/- Texts as one: GreatFew, DagDoesSt, DagIds, DagRight, DagWorks, RefHdrSame, CertSame, DagDoesWalk, HdrOpenH. -/
import Derived.Test.YtmjkbdgcnoenbaaGreatDoorDd19
import Derived.Test.YtmjkbdgcnoenbaaGreatDoorDd12
import Derived.Test.YtmjkbdgcnoenbaaGreatDoorDd08
import Derived.Test.YtmjkbdgcnoenbaaGreatDoorDd02
import Derived.Deep.RegionHeld3
import Derived.Test.YtmjkbdgcnoenbaaGreatDoorDd03
import Derived.Deep.DeepCutAuto
import Derived.Deep.CutBlock
import Derived.Test.YtmjkbdgcnoenbaaGreatDoorDd06
import Derived.Test.YtmjkbdgcnoenbaaGreatDoorDd09
/- A header that is not great has few parents. -/
namespace Go.Proofs.YtmjkbdgcnoenbaaGreatDoor
open Go.RowKit
set_option linter.unusedVariables false

theorem w64 {x : Int} (h0 : -9223372036854775808 ≤ x) (h1 : x ≤ 9223372036854775807) : wrap64 x = x := by
 unfold wrap64
 omega

set_option maxRecDepth 100000 in
set_option maxHeartbeats 1000000 in
theorem greatF_any (x : HdrM) (w : World) (hA : x.At w) (hn : x.refs.length ≤ 1000000000) (hp : x.parents.length ≤ 1000000000) (ha : ∀ r ∈ x.refs, r.acks.length ≤ 1000000000 ∧ r.digest.size ≤ 1073741824) (hz : ∀ p ∈ x.parents, p.size ≤ 1073741824) :
  Calls Tryz.prog 10 #[x.v] w fun e w' => (∃ g : Bool, e = .returned (.bool g) ∧ (g = false → x.parents.length ≤ 200)) ∧ Below w.heap.size w w' := by
 obtain ⟨au, ro, ra, rs, rc, pa, ps, pc⟩ := x
 have hA1 : RowAt refK w ra rs := hA.refs
 have hA2 : RowAt strK w pa ps := hA.ps
 have hn' : rs.length ≤ 1000000000 := hn
 have hp' : ps.length ≤ 1000000000 := hp
 have ha' : Hid (∀ r ∈ rs, r.acks.length ≤ 1000000000 ∧ r.digest.size ≤ 1073741824) := ha
 have hz' : Hid (∀ p ∈ ps, p.size ≤ 1073741824) := hz
 have hX := Arr.new w 33 [.int .i64 au, .int .i64 ro, .slice ra rs.length rc, .slice pa ps.length pc]
 have hB := belowNew w (.cells #[.int .i64 au, .int .i64 ro, .slice ra rs.length rc, .slice pa ps.length pc] 33)
 clear hA hn hp ha hz
 unfold HdrM.v
 simp only
 have x3 := hX.cell (i := 3) rfl
 go_enter Tryz.func10, Tryz.ntmps10
 go_wp2
 go_loopw [3, 4] (fun v3 v4 wr => ∃ (k : Nat) (n : Int), Hid ((ps.length : Int) ≤ n ∧ n ≤ (ps.length : Int) + (k : Int) * 1200000000) ∧ k ≤ rs.length ∧ v4 = .int .i64 (k : Int) ∧ v3 = .int .i64 n ∧ Arr wr w.heap.size 33 [.int .i64 au, .int .i64 ro, .slice ra rs.length rc, .slice pa ps.length pc] ∧ Below w.heap.size w wr) (fun _ v _ => rs.length - (intOf v).toNat)
 case atStart => exact ⟨0, _, (by show _ ∧ _; omega), Nat.zero_le _, rfl, rfl, hX, hB⟩
 case round =>
  clear hX hB x3
  obtain ⟨k, n, hnn, hk, rfl, rfl, hX, hb⟩ := hrel
  have x2 := hX.cell (i := 2) rfl
  by_cases hlt : k < rs.length
  ·obtain ⟨r, hr⟩ : ∃ r, rs[k]? = some r := ⟨rs[k], List.getElem?_eq_getElem hlt⟩
   obtain ⟨b, off, rfl, hbl, y0, y1⟩ := (hA1.below hb).ref hr
   have har := ha'.out r (List.mem_of_getElem? hr)
   have h0 := hnn.out
   have w1 : IntKind.i64.wrap (n + 1) = n + 1 := wrap_dag (by omega) (by omega)
   have w2 : IntKind.i64.wrap (n + 1 + (r.acks.length : Int)) = n + 1 + (r.acks.length : Int) := wrap_dag (by omega) (by omega)
   clear hr
   go_wp2_with fail
   go_big_quiet (fail)
   have hb2 := below_drewN hb nq
   have hX2 := hX.drewN nq
   clear hX hb x2 y0 y1
   generalize wr.drewN nq = w1 at *
   go_wp2
   go_roundw
   case rel =>
    refine ⟨k + 1, _, ?_, by omega, by go_num, rfl, hX2, hb2⟩
    show _ ∧ _
    omega
   case measure => simp [intOf]; omega
  ·obtain rfl : k = rs.length := by omega
   have hnn' : Hid ((ps.length : Int) ≤ n ∧ n ≤ (ps.length : Int) + (rs.length : Int) * 1200000000 + ((0 : Nat) : Int) * 1200000000) := by show _ ∧ _; have := hnn.out; omega
   go_wp2
   go_loopw [3, 5] (fun v3 v5 wr => ∃ (k : Nat) (n : Int), Hid ((ps.length : Int) ≤ n ∧ n ≤ (ps.length : Int) + (rs.length : Int) * 1200000000 + (k : Int) * 1200000000) ∧ k ≤ ps.length ∧ v5 = .int .i64 (k : Int) ∧ v3 = .int .i64 n ∧ Arr wr w.heap.size 33 [.int .i64 au, .int .i64 ro, .slice ra rs.length rc, .slice pa ps.length pc] ∧ Below w.heap.size w wr) (fun _ v _ => ps.length - (intOf v).toNat)
   case atStart => exact ⟨0, _, hnn', Nat.zero_le _, rfl, rfl, hX, hb⟩
   case round =>
    clear hX hb x2
    obtain ⟨j, n, hnj, hj, rfl, rfl, hX, hb⟩ := hrel
    have x3 := hX.cell (i := 3) rfl
    by_cases hlt2 : j < ps.length
    ·obtain ⟨b, off, rfl, hbl, hc⟩ := (hA2.below hb).strs j hlt2
     go_wp2
     go_roundw
     case rel =>
      refine ⟨j + 1, _, ?_, by omega, by go_num, rfl, hX, hb⟩
      show _ ∧ _
      have h0 := hnj.out
      have h1 := hz'.out ps[j] (List.getElem_mem hlt2)
      have e1 : wrap64 ((ps[j].size : Int) / 100) = (ps[j].size : Int) / 100 := w64 (by omega) (by omega)
      rw [e1, w64 (by omega) (by omega)]
      omega
     case measure => simp [intOf]; omega
    ·go_wp2
     go_ret
     exact ⟨⟨_, rfl, fun e => by have h0 := hnj.out; have e' := of_decide_eq_false e; show ps.length ≤ 200; omega⟩, hb⟩
end Go.Proofs.YtmjkbdgcnoenbaaGreatDoor

/- What DagDoes has at hand in a round. -/
namespace Go.Proofs.YtmjkbdgcnoenbaaGreatDoor
open Go Go.RowKit
set_option linter.unusedVariables false

structure Rd (V : World) (n tb rt db pb gb me xb hb : Nat) (o : OpM) (x : HdrM) (SD SP SG RR : Nat → Prop) (d dg : DagD) (ids : List (List ByteArray)) (w : World) : Prop where
 D : D2 V n tb rt db pb gb me SD SP SG RR d dg ids w
 X : Arr w xb 35 o.c
 H : Arr w hb 33 x.c
 A : x.At w
 xo : V.heap.size ≤ xb ∧ ¬ SD xb ∧ ¬ SP xb ∧ ¬ SG xb
 ho : V.heap.size ≤ hb ∧ ¬ SD hb ∧ ¬ SP hb ∧ ¬ SG hb
 fo : ∀ b, x.foot b → ¬ SD b ∧ ¬ SP b ∧ ¬ SG b

theorem flat_digest : ∀ {l : List RefM} {r : RefM}, r ∈ l → r.digest.size ≤ ((rd l).flatMap refB).length
 | [], _, h => by cases h
 | q :: l, r, h => by
  have e : (rd (q :: l)).flatMap refB = refB q.d ++ (rd l).flatMap refB := by simp [rd]
  rw [e, List.length_append]
  rcases List.mem_cons.1 h with rfl | h
  ·have h1 : r.d.digest.data.toList.length ≤ (refB r.d).length := by unfold refB txt; simp only [List.length_append]; omega
   have e2 : r.d.digest.data.toList.length = r.digest.size := rfl
   omega
  ·have := flat_digest h
   omega

theorem digest_size {x : HdrM} {r : RefM} (hr : r ∈ x.refs) : r.digest.size ≤ (encH x.d).length := by
 have := flat_digest hr
 show _ ≤ (goInt x.author ++ goInt x.round ++ goInt ((rd x.refs).length : Int) ++ (rd x.refs).flatMap refB ++ lst (bl x.parents)).length
 simp only [List.length_append]
 omega

theorem round_le {ks : List ByteArray} {f : Nat} {d : DagD} (h : DagOk ks f d) {need : Nat} : roundC need d.L ≤ 4611686018427387903 := by
 rcases roundC_is need d.L with e | ⟨x, hx, e, _⟩
 ·rw [e]; decide
 ·rw [← e]; exact (chkH_range (chkC_hdr (h.chk x hx)).1).2.2.2

theorem nextH_small {ks : List ByteArray} {f need : Nat} {d : DagD} (h : DagOk ks f d) (hf : f ≤ 2) (me : Int) : (nextH need me d []).refs.length = 0 ∧ (nextH need me d []).parents.length ≤ 1000 := by
 unfold nextH
 split
 ·refine ⟨rfl, ?_⟩
  have := idsC_le d.L (roundC need d.L)
  have := h.few
  show (idsC d.L (roundC need d.L)).length ≤ 1000
  omega
 ·exact ⟨rfl, Nat.zero_le _⟩

theorem certOf_small {ks : List ByteArray} {f : Nat} {d : DagD} (h : DagOk ks f d) (hk : ks.length = 3 * f + 1) (hf : f ≤ 2) (id : ByteArray) : (certOf d.L id).header.refs.length ≤ 4 ∧ (certOf d.L id).header.parents.length ≤ 7 ∧ (∀ q ∈ (certOf d.L id).header.refs, q.acks.length ≤ 7) ∧ (certOf d.L id).votes.length ≤ 7 := by
 unfold certOf
 cases hg : getC d.L id with
 | none => exact ⟨Nat.zero_le _, Nat.zero_le _, (fun q hq => by cases hq), Nat.zero_le _⟩
 | some y =>
  obtain ⟨⟨h1, _⟩, h2, _⟩ := cert_right hk hf (h.chk y (getC_some hg).1)
  exact ⟨h1.few, h1.ps, fun q hq => (h1.refs q hq).few, h2⟩

theorem missD_length (d : DagD) (h : HdrD) : (missD d h).length ≤ h.parents.length := by
 unfold missD
 split
 ·exact Nat.zero_le _
 ·have := missL_length d.L h.parents h.parents.length
  rw [List.take_length] at this
  exact this

theorem hdrO_parents {ks : List ByteArray} {n : Nat} {ids : List (List ByteArray)} {o : OpM} {x : HdrM} {m : Nat} (hx : x.d = hdrO ks n ids o) (h : ∀ l ∈ ids, l.length ≤ m) (hw : o.wild.parents.length ≤ m) : x.parents.length ≤ m := by
 have e : x.parents = (hdrO ks n ids o).parents := congrArg HdrD.parents hx
 rw [e]
 unfold hdrO
 split
 ·unfold hdrA hdrP
  split
  ·exact parP_len h
  ·exact parP_len h
 ·exact hw

structure FewD (d : DagD) (ids : List (List ByteArray)) (i : Nat) : Prop where
 v : d.V.length ≤ i
 l : d.L.length ≤ i
 n : ids.length ≤ i
 m : ∀ l ∈ ids, l.length ≤ i

theorem FewD.more {d : DagD} {ids : List (List ByteArray)} {i : Nat} (h : FewD d ids i) : FewD d ids (i + 1) := ⟨Nat.le_succ_of_le h.v, Nat.le_succ_of_le h.l, Nat.le_succ_of_le h.n, fun l hl => Nat.le_succ_of_le (h.m l hl)⟩

theorem FewD.vote {d : DagD} {ids : List (List ByteArray)} {i : Nat} (h : FewD d ids i) (chk : Nat) (x : HdrD) (id : ByteArray) : FewD (voteD chk d x id) ids (i + 1) := by
 unfold voteD
 split
 ·refine ⟨?_, Nat.le_succ_of_le h.l, Nat.le_succ_of_le h.n, fun l hl => Nat.le_succ_of_le (h.m l hl)⟩
  show (voteV d x id).length ≤ i + 1
  have := h.v
  unfold voteV
  split
  ·omega
  ·rw [List.length_append]; simp; omega
 ·exact h.more

theorem FewD.add {d : DagD} {ids : List (List ByteArray)} {i : Nat} (h : FewD d ids i) (chk n : Nat) (c : CertD) (id : ByteArray) : FewD (addD chk n d c id) ids (i + 1) := by
 unfold addD
 split
 ·refine ⟨Nat.le_succ_of_le h.v, ?_, Nat.le_succ_of_le h.n, fun l hl => Nat.le_succ_of_le (h.m l hl)⟩
  show (insC d.L _).length ≤ i + 1
  rw [insC_length]
  have := h.l
  omega
 ·exact h.more

theorem FewD.next {d : DagD} {ids : List (List ByteArray)} {i : Nat} (h : FewD d ids i) (need : Nat) : FewD (nextD need d) ids (i + 1) := by
 unfold nextD
 split
 ·exact ⟨Nat.le_succ_of_le h.v, Nat.le_succ_of_le h.l, Nat.le_succ_of_le h.n, fun l hl => Nat.le_succ_of_le (h.m l hl)⟩
 ·exact h.more

theorem FewD.lows {d : DagD} {ids : List (List ByteArray)} {i : Nat} (h : FewD d ids i) (r : Int) : FewD (lowD d r) ids (i + 1) := by
 unfold lowD
 split
 ·exact h.more
 ·refine ⟨?_, ?_, Nat.le_succ_of_le h.n, fun l hl => Nat.le_succ_of_le (h.m l hl)⟩
  ·exact Nat.le_trans (List.length_filter_le _ _) (Nat.le_succ_of_le h.v)
  ·exact Nat.le_trans (List.length_filter_le _ _) (Nat.le_succ_of_le h.l)

theorem FewD.ins {d : DagD} {ids : List (List ByteArray)} {i : Nat} (h : FewD d ids (i + 1)) (hn : ids.length ≤ i) (hm : ∀ l ∈ ids, l.length ≤ i) (need r : Nat) (id : ByteArray) : FewD d (inI need ids r id) (i + 1) := by
 have hP : (inP need ids r).length ≤ i + 1 ∧ ∀ l ∈ inP need ids r, l.length ≤ i := by
  unfold inP
  split
  ·refine ⟨by rw [List.length_append]; simp; omega, fun l hl => ?_⟩
   rcases List.mem_append.1 hl with hl | hl
   ·exact hm l hl
   ·rw [List.mem_singleton.1 hl]; simp
  ·exact ⟨by omega, hm⟩
 unfold inI
 split
 ·exact ⟨h.v, h.l, hP.1, fun l hl => Nat.le_succ_of_le (hP.2 l hl)⟩
 ·refine ⟨h.v, h.l, by rw [List.length_set]; exact hP.1, fun l hl => ?_⟩
  rcases List.mem_or_eq_of_mem_set hl with hl | rfl
  ·exact Nat.le_succ_of_le (hP.2 l hl)
  ·rw [insT_length, List.getD_eq_getElem?_getD]
   cases hx : (inP need ids r)[r - 1]? with
   | none => simp
   | some m => have := hP.2 m (List.mem_of_getElem? hx); simp; omega

section
variable {V w w' : World} {n tb rt db pb gb me xb hb : Nat} {o : OpM} {x : HdrM} {SD SP SG RR SD' SP' SG' RR' T : Nat → Prop} {d d' dg dg' : DagD} {ids ids' : List (List ByteArray)}

theorem Rd.below (h : Rd V n tb rt db pb gb me xb hb o x SD SP SG RR d dg ids w) (hb' : Below w.heap.size w w') : Rd V n tb rt db pb gb me xb hb o x SD SP SG RR d dg ids w' :=
 ⟨h.D.below hb', h.X.below hb' h.X.lt, h.H.below hb' h.H.lt, h.A.below hb', h.xo, h.ho, h.fo⟩

theorem off_fresh {S S' : Nat → Prop} {u : World} (hf : FreshS u S S') {k : Nat} (hk : ¬ S k) (hl : k < u.heap.size) : ¬ S' k := fun e => by
 rcases hf k e with e | e
 ·exact hk e
 ·omega

theorem Rd.prog (h : Rd V n tb rt db pb gb me xb hb o x SD SP SG RR d dg ids w) (hA : D1 V n tb rt db pb me SD' SP' d' ids' w') (hf : FreshS w SD SD') (hp : FreshS w SP SP') (hk : Kept T w w') (hT : ∀ k, T k → SD k ∨ SP k) : Rd V n tb rt db pb gb me xb hb o x SD' SP' SG RR d' dg ids' w' :=
 ⟨h.D.prog hA (h.D.fresh hf) (h.D.freshP hp) hk hT,
   h.X.kept hk (fun e => (hT _ e).elim h.xo.2.1 h.xo.2.2.1), h.H.kept hk (fun e => (hT _ e).elim h.ho.2.1 h.ho.2.2.1),
   Kind.kept hdrK h.A hk (fun b hb e => (hT _ e).elim (h.fo b hb).1 (h.fo b hb).2.1),
   ⟨h.xo.1, off_fresh hf h.xo.2.1 h.X.lt, off_fresh hp h.xo.2.2.1 h.X.lt, h.xo.2.2.2⟩, ⟨h.ho.1, off_fresh hf h.ho.2.1 h.H.lt, off_fresh hp h.ho.2.2.1 h.H.lt, h.ho.2.2.2⟩,
   fun b hb => ⟨off_fresh hf (h.fo b hb).1 (Kind.lt hdrK h.A hb), off_fresh hp (h.fo b hb).2.1 (Kind.lt hdrK h.A hb), (h.fo b hb).2.2⟩⟩

theorem Rd.refr (h : Rd V n tb rt db pb gb me xb hb o x SD SP SG RR d dg ids w) (hB : RG w' gb SG' RR' rt (me : Int) dg') (hf : FreshS w SG SG') (hr : ∀ k, RR' k → ¬ SD k ∧ ¬ SP k) (hk : Kept SG w w') : Rd V n tb rt db pb gb me xb hb o x SD SP SG' RR' d dg' ids w' :=
 ⟨h.D.refr hB hf hr hk,
   h.X.kept hk h.xo.2.2.2, h.H.kept hk h.ho.2.2.2, Kind.kept hdrK h.A hk (fun b hb => (h.fo b hb).2.2),
   ⟨h.xo.1, h.xo.2.1, h.xo.2.2.1, off_fresh hf h.xo.2.2.2 h.X.lt⟩, ⟨h.ho.1, h.ho.2.1, h.ho.2.2.1, off_fresh hf h.ho.2.2.2 h.H.lt⟩,
   fun b hb => ⟨(h.fo b hb).1, (h.fo b hb).2.1, off_fresh hf (h.fo b hb).2.2 (Kind.lt hdrK h.A hb)⟩⟩

theorem Rd.added {w0 : World} (h : Rd V n tb rt db pb gb me xb hb o x SD SP SG RR d dg ids w) (hw0 : ∀ k, SG k ∨ RR k ∨ x.foot k ∨ k = xb ∨ k = hb → k < w0.heap.size) (hA : D1 V n tb rt db pb me SD' SP d' ids w') (hf : ∀ k, SD' k → SD k ∨ w0.heap.size ≤ k) (hk : Kept SD w w') : Rd V n tb rt db pb gb me xb hb o x SD' SP SG RR d' dg ids w' := by
 have hno : ∀ k, k < w0.heap.size → ¬ SD k → ¬ SD' k := fun k hl hn e => by
  rcases hf k e with e | e
  ·exact hn e
  ·omega
 refine ⟨h.D.prog hA (fun k e => ⟨fun e' => ?_, fun e' => ?_⟩) (h.D.same).2 hk (fun k e => Or.inl e), h.X.kept hk h.xo.2.1, h.H.kept hk h.ho.2.1, Kind.kept hdrK h.A hk (fun b hb => (h.fo b hb).1), ⟨h.xo.1, hno xb (hw0 xb (by simp)) h.xo.2.1, h.xo.2.2⟩, ⟨h.ho.1, hno hb (hw0 hb (by simp)) h.ho.2.1, h.ho.2.2⟩, fun b hb => ⟨hno b (hw0 b (Or.inr (Or.inr (Or.inl hb)))) (h.fo b hb).1, (h.fo b hb).2⟩⟩
 ·exact hno k (hw0 k (Or.inl e')) (h.D.off k e').1 e
 ·exact hno k (hw0 k (Or.inr (Or.inl e'))) (h.D.roff k e').1 e
end
end Go.Proofs.YtmjkbdgcnoenbaaGreatDoor

/- The ids of the first round's headers differ. -/
namespace Go.Proofs.YtmjkbdgcnoenbaaGreatDoor
open Go Go.RowKit
set_option linter.unusedVariables false

def hdr1 (a : Nat) : HdrD := ⟨(a : Int), 1, [], []⟩

def ids1 : List ByteArray := (List.range 7).map (fun a => idB (hdr1 a))
end Go.Proofs.YtmjkbdgcnoenbaaGreatDoor

/- Certificates that acts make are right; the first round, certificate by certificate. -/
namespace Go.Proofs.YtmjkbdgcnoenbaaGreatDoor
open Go Go.RowKit
set_option linter.unusedVariables false

def certA (ks : List ByteArray) (n a : Nat) : CertD := ⟨hdr1 a, tagsP ks voteW (idB (hdr1 a)) [] (3 * n + 1)⟩

def rowA (ks : List ByteArray) (n a : Nat) : RowC := ⟨idB (hdr1 a), certA ks n a⟩

structure First (ks : List ByteArray) (n : Nat) (qs : List Nat) (d : DagD) : Prop where
 mem : ∀ x, x ∈ d.L ↔ ∃ a ∈ qs, x = rowA ks n a
 len : d.L.length = qs.length
 low : d.low = 1
 nod : qs.Nodup
 lt : ∀ a ∈ qs, a < 3 * n + 1
end Go.Proofs.YtmjkbdgcnoenbaaGreatDoor

/- tusklaw14.works answers true; nothing old in memory is turned. -/
namespace Go.Proofs.YtmjkbdgcnoenbaaGreatDoor
open Go Go.RowKit
set_option linter.unusedVariables false

def opA (a b : Int) : OpM := ⟨0, a, b, 0, none, [], 0, 0, ⟨0, 0, none, [], 0, none, [], 0⟩⟩

theorem fit_same14 {x y : HdrM} (h : y.d = x.d) (hf : x.Fit) : y.Fit := by
 have hr : rd y.refs = rd x.refs := congrArg HdrD.refs h
 have hp : y.parents = x.parents := congrArg HdrD.parents h
 have hl : y.refs.length = x.refs.length := by have := congrArg List.length hr; simpa [rd] using this
 have hm : ∀ r ∈ y.refs, ∃ q ∈ x.refs, q.acks = r.acks := by
  intro r hm
  have h1 : r.d ∈ rd x.refs := by rw [← hr]; exact List.mem_map.2 ⟨r, hm, rfl⟩
  obtain ⟨q, hq, hqr⟩ := List.mem_map.1 h1
  exact ⟨q, hq, congrArg RefD.acks hqr⟩
 refine ⟨by rw [hl]; exact hf.n, by rw [hp]; exact hf.p, fun r hr' => ?_, fun r hr' => ?_, by rw [h]; exact hf.len⟩
 ·obtain ⟨q, hq, e⟩ := hm r hr'
  rw [← e]
  exact hf.acks q hq
 ·obtain ⟨q, hq, e⟩ := hm r hr'
  rw [← e]
  exact hf.mac q hq
end Go.Proofs.YtmjkbdgcnoenbaaGreatDoor

/- tuskref06.SameTags and tuskref06.Same answer true at what reads the same; nothing old in memory is turned. -/
namespace Go.Proofs.YtmjkbdgcnoenbaaGreatDoor
open Go.RowKit
set_option linter.unusedVariables false

theorem RowAt.drewN {α : Type} {K : Kind α} {w : World} {ao : Option Addr} {l : List α} (h : RowAt K w ao l) (n : Nat) : RowAt K (w.drewN n) ao l :=
 h.below (below_drewN (Below.refl _ _) n)

set_option maxRecDepth 100000 in
set_option maxHeartbeats 1000000 in
theorem sameTags_any (a0 a1 : Option Addr) (c0 c1 : Nat) (l : List TagD) (w : World) (h0 : RowAt tagK w a0 l) (h1 : RowAt tagK w a1 l) (hn : l.length ≤ 4611686018427387903) :
  Calls Tryz.prog 63 #[.slice a0 l.length c0, .slice a1 l.length c1] w fun e w' => e = .returned (.bool true) ∧ Below w.heap.size w w' := by
 go_enter Tryz.func63, Tryz.ntmps63
 go_wp2
 go_loopw [5] (fun i wr => ∃ m : Nat, m ≤ l.length ∧ i = .int .i64 m ∧ Below w.heap.size w wr ∧ RowAt tagK wr a0 l ∧ RowAt tagK wr a1 l) (fun i _ => l.length - (intOf i).toNat)
 case atStart => exact ⟨0, Nat.zero_le _, rfl, Below.refl _ _, h0, h1⟩
 case round =>
  clear h0 h1
  obtain ⟨m, hm, rfl, hw, k0, k1⟩ := hrel
  by_cases hlt : m < l.length
  ·obtain ⟨t, ht⟩ : ∃ t, l[m]? = some t := ⟨l[m], List.getElem?_eq_getElem hlt⟩
   obtain ⟨b0, o0, rfl, _, p0, p1⟩ := k0.tag ht
   obtain ⟨b1, o1, rfl, _, q0, q1⟩ := k1.tag ht
   clear ht
   go_wp2_with fail
   go_quiet (fail)
   have hwf := below_drewN hw nq
   have j0 := k0.drewN nq
   have j1 := k1.drewN nq
   clear hw k0 k1 p0 p1 q0 q1
   go_wp2
   go_roundw
   case rel => exact ⟨m + 1, by omega, by go_num, hwf, j0, j1⟩
   case measure => simp [intOf]; omega
  ·go_wp2
   go_ret
   exact ⟨rfl, hw⟩

theorem rd_get {l m : List RefM} (h : rd l = rd m) {k : Nat} {x y : RefM} (hx : l[k]? = some x) (hy : m[k]? = some y) : y.d = x.d := by
 have h1 : (rd l)[k]? = some x.d := by simp [rd, hx]
 have h2 : (rd m)[k]? = some y.d := by simp [rd, hy]
 rw [h, h2] at h1
 simpa using h1

set_option maxRecDepth 100000 in
set_option maxHeartbeats 4000000 in
theorem sameH_any (a b : HdrM) (w : World) (hA : a.At w) (hB : b.At w) (hd : a.d = b.d) (hn : a.refs.length ≤ 4611686018427387903) (hp : a.parents.length ≤ 4611686018427387903) (hL : ∀ x ∈ a.refs, x.acks.length ≤ 4611686018427387903) :
  Calls Tryz.prog 25 #[a.v, b.v] w fun e w' => e = .returned (.bool true) ∧ Below w.heap.size w w' := by
 obtain ⟨au, ro, ra, rs, rc, pa, ps, pc⟩ := a
 obtain ⟨au2, ro2, ra2, rs2, rc2, pa2, ps2, pc2⟩ := b
 simp only [HdrM.d, HdrD.mk.injEq] at hd
 obtain ⟨rfl, rfl, hrd, rfl⟩ := hd
 have hlm : rs2.length = rs.length := by rw [← rd_length rs2, ← hrd, rd_length]
 have hA1 : RowAt refK w ra rs := hA.refs
 have hA2 : RowAt strK w pa ps := hA.ps
 have hB1 : RowAt refK w ra2 rs2 := hB.refs
 have hB2 : RowAt strK w pa2 ps := hB.ps
 unfold HdrM.v
 simp only at hn hp hL ⊢
 rw [hlm]
 have Hlm : Hid (rs2.length = rs.length) := hlm
 clear hlm hA hB
 obtain ⟨hX, hY, hBw⟩ := two_new w 33 33 [.int .i64 au, .int .i64 ro, .slice ra rs.length rc, .slice pa ps.length pc] [.int .i64 au, .int .i64 ro, .slice ra2 rs.length rc2, .slice pa2 ps.length pc2]
 have x0 := hX.cell (i := 0) rfl
 have x1 := hX.cell (i := 1) rfl
 have x2 := hX.cell (i := 2) rfl
 have x3 := hX.cell (i := 3) rfl
 have y0 := hY.cell (i := 0) rfl
 have y1 := hY.cell (i := 1) rfl
 have y2 := hY.cell (i := 2) rfl
 have y3 := hY.cell (i := 3) rfl
 have cP := same_any pa pa2 pc pc2 ps _ (hA2.below hBw).strs (hB2.below hBw).strs (by omega)
 go_enter Tryz.func25, Tryz.ntmps25
 go_wp2_with fail
 refine cP.mono ?_
 rintro e w1 ⟨rfl, hb1⟩
 have hX1 := hX.below hb1 hX.lt
 have hY1 := hY.below hb1 hY.lt
 have hBw1 := hBw.trans (hb1.mono hBw.size)
 clear cP hb1 hX hY hBw x0 x1 x2 x3 y0 y1 y2 y3
 go_wp2
 go_loopw [5] (fun v wr => ∃ k : Nat, k ≤ rs.length ∧ v = .int .i64 (k : Int) ∧ Arr wr w.heap.size 33 [.int .i64 au, .int .i64 ro, .slice ra rs.length rc, .slice pa ps.length pc] ∧ Arr wr (w.heap.size + 1) 33 [.int .i64 au, .int .i64 ro, .slice ra2 rs.length rc2, .slice pa2 ps.length pc2] ∧ Below w.heap.size w wr) (fun v _ => rs.length - (intOf v).toNat)
 case atStart => exact ⟨0, Nat.zero_le _, rfl, hX1, hY1, hBw1⟩
 case round =>
  clear hX1 hY1 hBw1
  obtain ⟨k, hk, rfl, hX1, hY1, hb⟩ := hrel
  have x2 := hX1.cell (i := 2) rfl
  have y2 := hY1.cell (i := 2) rfl
  by_cases hlt : k < rs.length
  ·obtain ⟨x, hx⟩ : ∃ x, rs[k]? = some x := ⟨rs[k], List.getElem?_eq_getElem hlt⟩
   obtain ⟨y, hy⟩ : ∃ y, rs2[k]? = some y := ⟨rs2[k]'(by rw [Hlm.out]; exact hlt), List.getElem?_eq_getElem (by rw [Hlm.out]; exact hlt)⟩
   obtain ⟨b, off, rfl, hbl, p0, p1⟩ := (hA1.below hb).ref hx
   obtain ⟨b2, off2, rfl, hbl2, q0, q1⟩ := (hB1.below hb).ref hy
   have hAt := ((hA1.below hb).at_ x (List.mem_of_getElem? hx)).1
   have hAt2 := ((hB1.below hb).at_ y (List.mem_of_getElem? hy)).1
   have hxy := rd_get hrd hx hy
   simp only [RefM.d, RefD.mk.injEq] at hxy
   have hl1 := hL x (List.mem_of_getElem? hx)
   rw [hxy.1] at q0
   rw [hxy.2] at q1 hAt2
   have cC := fun w1 (h : RowAt tagK w1 x.ao x.acks) (h2 : RowAt tagK w1 y.ao x.acks) => sameTags_any x.ao y.ao x.cap y.cap x.acks w1 h h2 hl1
   have hS : (wr.cell? ⟨b, off + k * 2, none⟩ = some (.string x.digest) ∧ wr.cell? ⟨b, off + k * 2 + 1, none⟩ = some (.slice x.ao x.acks.length x.cap)) ∧ (wr.cell? ⟨b2, off2 + k * 2, none⟩ = some (.string x.digest) ∧ wr.cell? ⟨b2, off2 + k * 2 + 1, none⟩ = some (.slice y.ao x.acks.length y.cap)) ∧ wr.cell? ⟨w.heap.size, 2, none⟩ = some (.slice (some ⟨b, off, none⟩) rs.length rc) ∧ wr.cell? ⟨w.heap.size + 1, 2, none⟩ = some (.slice (some ⟨b2, off2, none⟩) rs.length rc2) := ⟨⟨p0, p1⟩, ⟨q0, q1⟩, x2, y2⟩
   have hcs : ∀ w2, Below wr.heap.size wr w2 → ((w2.cell? ⟨b, off + k * 2, none⟩ = some (.string x.digest) ∧ w2.cell? ⟨b, off + k * 2 + 1, none⟩ = some (.slice x.ao x.acks.length x.cap)) ∧ (w2.cell? ⟨b2, off2 + k * 2, none⟩ = some (.string x.digest) ∧ w2.cell? ⟨b2, off2 + k * 2 + 1, none⟩ = some (.slice y.ao x.acks.length y.cap)) ∧ w2.cell? ⟨w.heap.size, 2, none⟩ = some (.slice (some ⟨b, off, none⟩) rs.length rc) ∧ w2.cell? ⟨w.heap.size + 1, 2, none⟩ = some (.slice (some ⟨b2, off2, none⟩) rs.length rc2)) := by
    intro w2 hb2
    have c := fun (g o : Nat) (v : Value) (h : g < wr.heap.size) (hc : wr.cell? ⟨g, o, none⟩ = some v) => (hb2.cell (p := ⟨g, o, none⟩) h).trans hc
    exact ⟨⟨c _ _ _ hbl p0, c _ _ _ hbl p1⟩, ⟨c _ _ _ hbl2 q0, c _ _ _ hbl2 q1⟩, c _ _ _ hX1.lt x2, c _ _ _ hY1.lt y2⟩
   have hbd : Below wr.heap.size wr wr.drew := below_drewN (Below.refl _ _) 1
   clear p0 p1 q0 q1 hx hy hl1 hxy
   go_wp2_with fail
   go_region_held3 (fun w' => (w'.cell? ⟨b, off + k * 2, none⟩ = some (.string x.digest) ∧ w'.cell? ⟨b, off + k * 2 + 1, none⟩ = some (.slice x.ao x.acks.length x.cap)) ∧ (w'.cell? ⟨b2, off2 + k * 2, none⟩ = some (.string x.digest) ∧ w'.cell? ⟨b2, off2 + k * 2 + 1, none⟩ = some (.slice y.ao x.acks.length y.cap)) ∧ w'.cell? ⟨w.heap.size, 2, none⟩ = some (.slice (some ⟨b, off, none⟩) rs.length rc) ∧ w'.cell? ⟨w.heap.size + 1, 2, none⟩ = some (.slice (some ⟨b2, off2, none⟩) rs.length rc2)) (exact hcs _ (by assumption))
    (first
    | (go_at_call 63; refine (cC _ (hAt.below hbd) (hAt2.below hbd)).mono ?_; rintro e wA ⟨rfl, hbA⟩; have hbA' := hbd.trans (Below.mono hbA hbd.size)))
   have hX2 := hX1.below hbA' hX1.lt
   have hY2 := hY1.below hbA' hY1.lt
   have hb4 := hb.trans (hbA'.mono hb.size)
   clear hcs hS hbd hbA hbA' hX1 hY1 x2 y2 hAt hAt2
   go_wp2
   go_roundw
   case rel => exact ⟨k + 1, by omega, by go_num, hX2, hY2, hb4⟩
   case measure => simp [intOf]; omega
  ·go_wp2
   go_ret
   exact ⟨rfl, hb⟩
end Go.Proofs.YtmjkbdgcnoenbaaGreatDoor

/- What tuskref07.Same says of two certificates that are the same; nothing old in memory is turned. -/
namespace Go.Proofs.YtmjkbdgcnoenbaaGreatDoor
open Go.RowKit
set_option linter.unusedVariables false

set_option maxRecDepth 100000 in
set_option maxHeartbeats 2000000 in
theorem sameC_any (a b : CertM) (w : World) (hA : a.At w) (hB : b.At w) (hd : a.d = b.d) (hn : a.hdr.refs.length ≤ 4611686018427387903) (hp : a.hdr.parents.length ≤ 4611686018427387903) (hL : ∀ x ∈ a.hdr.refs, x.acks.length ≤ 4611686018427387903) (hv : a.votes.length ≤ 4611686018427387903) :
  Calls Tryz.prog 31 #[a.v, b.v] w fun e w' => e = .returned (.bool true) ∧ Below w.heap.size w w' := by
 have hdh : a.hdr.d = b.hdr.d := congrArg CertD.header hd
 have hdv : a.votes = b.votes := congrArg CertD.votes hd
 obtain ⟨hX, hY, hb⟩ := two_new w 48 48 a.c b.c
 have hA1 := hA.below hb
 have hB1 := hB.below hb
 have cH := sameH_any a.hdr b.hdr _ hA1.hdr hB1.hdr hdh hn hp hL
 have cV := fun w1 h0 h1 => sameTags_any a.va b.va a.vc b.vc a.votes w1 h0 h1 hv
 have hV0 := hA1.votes
 have hV1 := hB1.votes
 rw [← hdv] at hV1
 unfold CertM.c at hX hY hb cH hV0 hV1
 unfold CertM.v
 unfold HdrM.v at cH
 rw [← hdv] at *
 clear hA hB hA1 hB1 hd hdh hdv
 obtain ⟨w1, hw1⟩ : ∃ q, (w.alloc (.cells [.int .i64 a.hdr.author, .int .i64 a.hdr.round, .slice a.hdr.ra a.hdr.refs.length a.hdr.rc, .slice a.hdr.pa a.hdr.parents.length a.hdr.pc, .slice a.va a.votes.length a.vc].toArray 48)).alloc (.cells [.int .i64 b.hdr.author, .int .i64 b.hdr.round, .slice b.hdr.ra b.hdr.refs.length b.hdr.rc, .slice b.hdr.pa b.hdr.parents.length b.hdr.pc, .slice b.va a.votes.length b.vc].toArray 48) = q := ⟨_, rfl⟩
 rw [hw1] at hX hY hb cH hV0 hV1
 have x0 := hX.cell (i := 0) rfl
 have x1 := hX.cell (i := 1) rfl
 have x2 := hX.cell (i := 2) rfl
 have x3 := hX.cell (i := 3) rfl
 have x4 := hX.cell (i := 4) rfl
 have y0 := hY.cell (i := 0) rfl
 have y1 := hY.cell (i := 1) rfl
 have y2 := hY.cell (i := 2) rfl
 have y3 := hY.cell (i := 3) rfl
 have y4 := hY.cell (i := 4) rfl
 go_enter Tryz.func31, Tryz.ntmps31
 go_wp2_with fail
 refine cH.mono ?_
 rintro e w2 ⟨rfl, hb2⟩
 have hX2 := hX.below hb2 hX.lt
 have hY2 := hY.below hb2 hY.lt
 have hV02 := hV0.below hb2
 have hV12 := hV1.below hb2
 have hB2 := hb.trans (hb2.mono hb.size)
 clear cH hX hY hV0 hV1 hb hb2 x0 x1 x2 x3 x4 y0 y1 y2 y3 y4
 have x4 := hX2.cell (i := 4) rfl
 have y4 := hY2.cell (i := 4) rfl
 go_wp2_with fail
 refine (cV _ hV02 hV12).mono ?_
 rintro e w3 ⟨rfl, hb3⟩
 have hB3 := hB2.trans (hb3.mono hB2.size)
 clear cV hX2 hY2 hV02 hV12 hB2 hb3 x4 y4
 go_wp2
 go_ret
 exact ⟨rfl, hB3⟩
end Go.Proofs.YtmjkbdgcnoenbaaGreatDoor

/- tusklaw14.DagDoes answers true; nothing old in memory is turned. -/
namespace Go.Proofs.YtmjkbdgcnoenbaaGreatDoor
open Go Go.RowKit
set_option linter.unusedVariables false

set_option maxRecDepth 100000 in
set_option maxHeartbeats 8000000 in
theorem dagDoes_walk (f self : Int) (ao : Option Addr) (cap : Nat) (ls : List OpM) (w : World) (hR : RowAt opK w ao ls) (hI : ∀ o ∈ ls, OpIn w o) (hn : ls.length ≤ maxLen) (hG : Mx.Glob w) :
  Calls Tryz.prog 3 #[.int .i64 f, .int .i64 self, .slice ao ls.length cap] w fun e w' => e = .returned (.bool true) ∧ Below w.heap.size w w' := by
 have hln : (ls.length : Int) ≤ 9223372036854775807 := by unfold maxLen at hn; omega
 have cB := both14_any f self w hG
 generalize nF f = n at cB
 go_enter Tryz.func3, Tryz.ntmps3
 go_wp2_with fail
 refine cB.mono ?_
 rintro e w2 ⟨V, tb, rt, db, gb, pb, S, rfl, hB⟩
 have hE := hB.env
 have h2 := hB.d2
 have hbw := hB.bw
 have hgb : V.heap.size ≤ gb := hB.glt.1
 have hRV := hR.below hbw
 have hIV : ∀ o ∈ ls, OpIn V o := fun o ho => (hI o ho).below hbw
 generalize pickN self (3 * n + 1) = me at *
 have hkl : Hid ((ksF n).length = 3 * n + 1) := hE.T.kl
 have hn2 := hE.T.f2
 have hme : Hid (me < 3 * n + 1) := hE.hs
 clear cB hB hR hI
 go_wp2_with fail
 go_loopw [12, 13, 14, 15, 16, 17, 18, 19, 20, 21, 22, 23, 24, 25, 26, 27, 28, 29] (fun v12 _ _ _ _ _ _ _ _ _ _ _ _ _ _ _ _ _ wr => ∃ (i : Nat) (d : DagD) (ids : List (List ByteArray)) (SD SP SG RR : Nat → Prop), i ≤ 40 ∧ i ≤ ls.length ∧ v12 = .int .i64 (i : Int) ∧ D2 V n tb rt db pb gb me SD SP SG RR d d ids wr ∧ FewD d ids i) (fun v _ _ _ _ _ _ _ _ _ _ _ _ _ _ _ _ _ _ => 40 - (intOf v).toNat)
 case atStart => exact ⟨0, dag0, [], _, _, _, _, by omega, by omega, rfl, h2, Nat.zero_le _, Nat.zero_le _, Nat.zero_le _, fun l hl => by cases hl⟩
 case round =>
  obtain ⟨i, d, ids, SD, SP, SG, RR, hi40, hil, rfl, hD, hFw⟩ := hrel
  clear h2
  by_cases hgo : i < ls.length ∧ i < 40
  ·have g1 : (i : Int) < (ls.length : Int) := by omega
   have g2 : (i : Int) < 40 := by omega
   obtain ⟨o, ho⟩ : ∃ o, ls[i]? = some o := ⟨_, List.getElem?_eq_getElem hgo.1⟩
   have hO := hIV o (List.mem_of_getElem? ho)
   obtain ⟨b, off, hao, hbl, y0, y1, y2, y3, y4, y5, y6, y7, y8, y9⟩ := (hRV.below hD.a.bel).op ho
   subst hao
   have hbn := belowNew wr (.cells o.c.toArray 35)
   have hX := Arr.new wr 35 o.c
   have hD1 := hD.below hbn
   have cGr := greatF_any o.wild _ (hO.wild.below hD1.a.bel) hO.fit.n hO.fit.p (fun r hr => ⟨hO.fit.acks r hr, by have := digest_size hr; have := hO.len; omega⟩) (fun p hp => by have := parent_size (h := o.wild.d) (p := p) hp; have := hO.len; omega)
   have hxb : V.heap.size ≤ wr.heap.size ∧ ¬ SD wr.heap.size ∧ ¬ SP wr.heap.size ∧ ¬ SG wr.heap.size := ⟨hD.a.bel.size, (hD.new (Nat.le_refl _)).1, (hD.new (Nat.le_refl _)).2.1, (hD.new (Nat.le_refl _)).2.2.1⟩
   clear hD ho
   unfold OpM.c at hX hD1 cGr
   unfold HdrM.v at cGr
   have x6 := hX.cell (i := 6) rfl
   have x7 := hX.cell (i := 7) rfl
   have x8 := hX.cell (i := 8) rfl
   have x9 := hX.cell (i := 9) rfl
   go_wp2_with fail
   refine cGr.mono ?_
   rintro e w4 ⟨⟨gr, rfl, hgr⟩, hb4⟩
   have hX4 := hX.below hb4 hX.lt
   have hD4 := hD1.below hb4
   obtain ⟨xb, hxe⟩ : ∃ z, Hid (wr.heap.size = z) := ⟨_, rfl⟩
   rw [hxe.out] at hX4 hxb ⊢
   clear hX hD1 hb4 cGr x6 x7 x8 x9 y0 y1 y2 y3 y4 y5 y6 y7 y8 y9 hbn
   have hgr2 : gr = false → Hid (o.wild.parents.length ≤ 200) := fun e => hgr e
   clear hgr
   cases gr with
   | true =>
    have hbF : Below w.heap.size w w4 := hbw.trans (hD4.a.bel.mono hbw.size)
    go_wp2
    go_ret
    exact ⟨rfl, hbF⟩
   | false =>
   have hgr3 := hgr2 rfl
   clear hgr2
   have cH := hD4.a.header hE hO
   unfold OpM.v at cH
   have x0 := hX4.cell (i := 0) rfl
   have x1 := hX4.cell (i := 1) rfl
   have x2 := hX4.cell (i := 2) rfl
   have x3 := hX4.cell (i := 3) rfl
   have x4 := hX4.cell (i := 4) rfl
   have x5 := hX4.cell (i := 5) rfl
   have x6 := hX4.cell (i := 6) rfl
   have x7 := hX4.cell (i := 7) rfl
   have x8 := hX4.cell (i := 8) rfl
   have x9 := hX4.cell (i := 9) rfl
   go_wp2_with fail
   refine cH.mono ?_
   rintro e w5 ⟨x, rfl, hxd, hxA, hxf, hxl, hxL, hxfo, hb5⟩
   have hxp : x.parents.length ≤ 1000000 := by
    have h8 := hdrO_parents hxd (fun l hl => Nat.le_trans (hFw.m l hl) (show i ≤ 200 by omega)) (hgr3.out)
    omega
   have hX5 := hX4.below hb5 hX4.lt
   have hD5 := hD4.below hb5
   have hbh := belowNew w5 (.cells x.c.toArray 33)
   have hH6 := Arr.new w5 33 x.c
   have hX6 := hX5.below hbh hX5.lt
   have hD6 := hD5.below hbh
   have hxA6 := hxA.below hbh
   have hxo : ∀ b, x.foot b → ¬ SD b ∧ ¬ SP b ∧ ¬ SG b := fun b hf => hD4.old (hxfo b hf)
   have hhb : V.heap.size ≤ w5.heap.size ∧ ¬ SD w5.heap.size ∧ ¬ SP w5.heap.size ∧ ¬ SG w5.heap.size := ⟨hD5.a.bel.size, (hD5.new (Nat.le_refl _)).1, (hD5.new (Nat.le_refl _)).2.1, (hD5.new (Nat.le_refl _)).2.2.1⟩
   have hRd : Rd V n tb rt db pb gb me xb w5.heap.size o x SD SP SG RR d d ids (w5.alloc (.cells x.c.toArray 33)) := ⟨hD6, hX6, hH6, hxA6, hxb, hhb, hxo⟩
   unfold HdrM.c at hRd
   clear cH x0 x1 x2 x3 x4 x5 x6 x7 x8 x9 hX4 hD4 hX5 hD5 hb5 hbh hxA hD6 hX6 hH6 hxA6 hxo hhb hxb
   replace hxd : Hid _ := hxd
   unfold HdrM.v
   go_upto_region 11 with fail
   have hRd : Rd V n tb rt db pb gb me xb w5.heap.size o x SD SP SG RR d d ids (w5.alloc (.cells #[.int .i64 x.author, .int .i64 x.round, .slice x.ra x.refs.length x.rc, .slice x.pa x.parents.length x.pc] 33)) := hRd
   obtain ⟨hb, hhe⟩ : ∃ z, Hid (w5.heap.size = z) := ⟨_, rfl⟩
   generalize w5.alloc (.cells #[.int .i64 x.author, .int .i64 x.round, .slice x.ra x.refs.length x.rc, .slice x.pa x.parents.length x.pc] 33) = w6 at hRd ⊢
   rw [hhe.out] at hRd ⊢
   have hps : ∀ p ∈ x.parents, p.size ≤ maxLen := fun p hp => by have := parent_size (h := x.d) (p := p) hp; unfold maxLen; omega
   go_cut [69] (fun s69 wx => s69 = .bool false ∧ Rd V n tb rt db pb gb me xb hb o x SD SP SG RR d d ids wx)
   case first =>
    have bd : Below w6.heap.size w6 w6.drew := below_drewN (Below.refl _ w6) 1
    obtain ⟨M, hM⟩ : ∃ z, Hid (missD d x.d = z) := ⟨_, rfl⟩
    have hMl : M.length ≤ 1000000 := by
     rw [← hM.out]
     exact Nat.le_trans (missD_length d x.d) hxp
    have cO : ∀ wx, Below w6.heap.size w6 wx → Calls Tryz.prog 14 #[.agg #[.int .i64 x.author, .int .i64 x.round, .slice x.ra x.refs.length x.rc, .slice x.pa x.parents.length x.pc]] wx fun e w' => ∃ y : HdrM, e = .returned y.v ∧ y.d = x.d ∧ y.At w' ∧ Below wx.heap.size wx w' := fun wx hx => (own6_any x wx (hRd.A.below hx) hxL).mono (fun e w' ⟨y, h1, h2, h3, h4, h5⟩ => ⟨y, h1, h2, h3, h5⟩)
    have cM : ∀ (y : HdrM) wx, Below w6.heap.size w6 wx → y.d = x.d → y.At wx → Calls Tryz.prog 13 #[.pointer (some ⟨db, 0, none⟩), y.v] wx fun e w' => ∃ v, e = .returned v ∧ KQ strK 9 w' wx.heap.size v M ∧ Below wx.heap.size wx w' := fun y wx hx hyd hyA => by
     have hpp : y.parents = x.parents := congrArg HdrD.parents hyd
     have h1 := pdMissing_any y (hRd.D.a.dag.below hx) hyA (by rw [hpp]; exact hxp) (by rw [hpp]; exact hps)
     rw [hyd, hM.out] at h1
     exact h1
    have cR : ∀ wx, Below w6.heap.size w6 wx → Calls Tryz.prog 15 #[.pointer (some ⟨gb, 0, none⟩), .agg #[.int .i64 x.author, .int .i64 x.round, .slice x.ra x.refs.length x.rc, .slice x.pa x.parents.length x.pc]] wx fun e w' => ∃ v, e = .returned v ∧ KQ strK 9 w' wx.heap.size v M ∧ Below wx.heap.size wx w' := fun wx hx => by
     have h1 := rgMissing_any x (hRd.D.g.below hx) (hRd.A.below hx) hxp
     rw [hM.out] at h1
     exact h1
    have hkp : ∀ wx, Below w6.heap.size w6 wx → wx.cell? ⟨hb, 0, none⟩ = some (.int .i64 x.author) ∧ wx.cell? ⟨hb, 1, none⟩ = some (.int .i64 x.round) ∧ wx.cell? ⟨hb, 2, none⟩ = some (.slice x.ra x.refs.length x.rc) ∧ wx.cell? ⟨hb, 3, none⟩ = some (.slice x.pa x.parents.length x.pc) := fun wx hx => by
     have := hRd.H.below hx hRd.H.lt
     exact ⟨this.cell (i := 0) rfl, this.cell (i := 1) rfl, this.cell (i := 2) rfl, this.cell (i := 3) rfl⟩
    have hS0 := hkp _ bd
    go_region_held3 (fun w' => w'.cell? ⟨hb, 0, none⟩ = some (.int .i64 x.author) ∧ w'.cell? ⟨hb, 1, none⟩ = some (.int .i64 x.round) ∧ w'.cell? ⟨hb, 2, none⟩ = some (.slice x.ra x.refs.length x.rc) ∧ w'.cell? ⟨hb, 3, none⟩ = some (.slice x.pa x.parents.length x.pc)) (exact hkp _ (by assumption))
     (first
     | (go_at_call 14; refine (cO _ bd).mono ?_; rintro e v1 ⟨y, rfl, hyd, hyA, hb1⟩; have j1 := bd.trans (hb1.mono bd.size))
     | (go_at_call 13; refine (cM y v1 j1 hyd hyA).mono ?_; rintro e v2 ⟨q1, rfl, hQ1, hb2⟩; obtain ⟨a1, c1, rfl, _, hr1⟩ := hQ1.form; have j2 := j1.trans (hb2.mono j1.size))
     | (go_at_call 15; refine (cR _ j2).mono ?_; rintro e v3 ⟨q2, rfl, hQ2, hb3⟩; obtain ⟨a2, c2, rfl, _, hr2⟩ := hQ2.form; have j3 := j2.trans (hb3.mono j2.size); have hr3 := hr1.below hb3)
     | (go_at_call 12; refine (same_any a1 a2 c1 c2 M v3 hr3.strs hr2.strs (by omega)).mono ?_; rintro e v4 ⟨rfl, hb4⟩; have j4 := j3.trans (hb4.mono j3.size)))
    all_goals
     have hRn := hRd.below j4
     clear cO cM cR hkp hQ1 hQ2 hr1 hr2 hr3
     go_wp2_with fail
     go_meet
     exact ⟨rfl, hRn⟩
   case rest =>
    obtain ⟨rfl, hRd⟩ := hcut
    generalize wc = w7 at *
    have x0 := hRd.X.cell (i := 0) rfl
    obtain ⟨kd, hkd⟩ : ∃ z, Hid (o.kind = z) := ⟨_, rfl⟩
    rw [hkd.out] at x0
    go_upto_block 2 with fail
    go_cut [] (fun wx => ∃ (SD' SP' SG' RR' : Nat → Prop) (d' : DagD) (ids' : List (List ByteArray)), Rd V n tb rt db pb gb me xb hb o x SD' SP' SG' RR' d' d' ids' wx ∧ FewD d' ids' (i + 1))
    case first =>
     by_cases k0 : kd = 0
     ·subst k0
      have e0 := hRd.H.cell (i := 0) rfl
      have e1 := hRd.H.cell (i := 1) rfl
      have e2 := hRd.H.cell (i := 2) rfl
      have e3 := hRd.H.cell (i := 3) rfl
      have cO := own6_any x _ hRd.A hxL
      unfold HdrM.v at cO
      go_wp2_with fail
      refine cO.mono ?_
      rintro e v1 ⟨y, rfl, hyd, hyA, hyf, hb1⟩
      have hR1 := hRd.below hb1
      have hyo : ∀ b, y.foot b → ¬ SD b := fun b hf e => by have h1 := hyf b hf; have := hRd.D.a.dag.lt e; omega
      have cV := hR1.D.a.vote hE y hyA (fit_same14 hyd hxf) (by rw [hyd]; exact hxl) hyo (by have := hFw.v; omega)
      rw [hyd] at cV
      obtain ⟨VD, hVD⟩ : ∃ z, Hid (voteD (chkA (ksF n) n x.d) d x.d (idB x.d) = z) := ⟨_, rfl⟩
      obtain ⟨VE, hVE⟩ : ∃ z, Hid (voteE (chkA (ksF n) n x.d) d x.d (idB x.d) = z) := ⟨_, rfl⟩
      have hFv : FewD VD ids (i + 1) := by rw [← hVD.out]; exact hFw.vote _ _ _
      rw [hVD.out, hVE.out] at cV
      obtain ⟨tw, htw⟩ : ∃ z, Hid ((voteT (ksF n) me VE (idB x.d)).who = z) := ⟨_, rfl⟩
      obtain ⟨tm, htm⟩ : ∃ z, Hid ((voteT (ksF n) me VE (idB x.d)).mac = z) := ⟨_, rfl⟩
      rw [htw.out, htm.out] at cV
      clear e0 e1 e2 e3 cO hRd
      go_wp2_with fail
      refine cV.mono ?_
      rintro e v2 ⟨rfl, SD2, hA2, hf2, hk2⟩
      have hR2 := hR1.prog hA2 hf2 (fun k e => Or.inl e) hk2 (fun k e => Or.inl e)
      have hbt := belowNew v2 (.cells #[.int .i64 tw, .string tm] 42)
      have hT1 := Arr.new v2 42 [.int .i64 tw, .string tm]
      have hR3 := hR2.below hbt
      have hto : ¬ SG v2.heap.size := (hR2.D.new (Nat.le_refl _)).2.2.1
      clear cV hR1 hR2 hA2 hf2 hk2 hyo hyA hyf hb1 hyd
      go_upto_region 16 with fail
      obtain ⟨tb1, htb⟩ : ∃ z, Hid (v2.heap.size = z) := ⟨_, rfl⟩
      generalize v2.alloc (.cells #[.int .i64 tw, .string tm] 42) = v3 at hR3 hT1 hbt ⊢
      rw [htb.out] at hT1 hto ⊢
      have cG := rgVote_any x hR3.D.g hE.R hR3.D.a.bel hgb hme.out hR3.A hxf hxl (fun b hf => (hR3.fo b hf).2.2) (by have := hFw.v; omega)
      rw [hVD.out, hVE.out, htw.out, htm.out] at cG
      unfold HdrM.v at cG
      have e0 := hR3.H.cell (i := 0) rfl
      have e1 := hR3.H.cell (i := 1) rfl
      have e2 := hR3.H.cell (i := 2) rfl
      have e3 := hR3.H.cell (i := 3) rfl
      go_wp2_with fail
      refine cG.mono ?_
      rintro e v4 ⟨rfl, SG2, hB4, hf4, hk4⟩
      have hR4 := hR3.refr hB4 hf4 hR3.D.roff hk4
      have hT4 := hT1.kept hk4 hto
      have hbt2 := belowNew v4 (.cells #[.int .i64 tw, .string tm] 42)
      have hT5 := hT4.below hbt2 hT4.lt
      have hU5 := Arr.new v4 42 [.int .i64 tw, .string tm]
      have hR5 := hR4.below hbt2
      have t0 := hT5.cell (i := 0) rfl
      have t1 := hT5.cell (i := 1) rfl
      have u0 := hU5.cell (i := 0) rfl
      have u1 := hU5.cell (i := 1) rfl
      clear cG e0 e1 e2 e3 hR3 hR4 hB4 hf4 hk4 hT4 hT1 hbt hbt2 hT5 hU5
      go_wp2_with fail
      go_meet
      case rel => exact ⟨SD2, SP, SG2, RR, VD, ids, hR5, hFv⟩
     ·by_cases k1 : kd = 1
      ·subst k1
       have cC := hRd.D.a.cert hE hO
       unfold OpM.v at cC
       have x1 := hRd.X.cell (i := 1) rfl
       have x2 := hRd.X.cell (i := 2) rfl
       have x3 := hRd.X.cell (i := 3) rfl
       have x4 := hRd.X.cell (i := 4) rfl
       have x5 := hRd.X.cell (i := 5) rfl
       have x6 := hRd.X.cell (i := 6) rfl
       have x7 := hRd.X.cell (i := 7) rfl
       have x8 := hRd.X.cell (i := 8) rfl
       have x9 := hRd.X.cell (i := 9) rfl
       rw [hkd.out] at cC
       go_wp2_with fail
       refine cC.mono ?_
       rintro e v1 ⟨c, rfl, hcd, hcA, hcf, hcl, hcL, hcv, hcfo, hb1⟩
       have hR1 := hRd.below hb1
       have hbn := belowNew v1 (.cells c.c.toArray 48)
       have hc2 := Arr.new v1 48 c.c
       have hR2 := hR1.below hbn
       have hcA2 := hcA.below hbn
       have cO := own14_any c _ hcA2 hcL (by omega)
       have hco : ∀ b, c.foot b → ¬ SD b ∧ ¬ SP b ∧ ¬ SG b := fun b hf => hRd.D.old (hcfo b hf)
       have hcb : ¬ SD v1.heap.size ∧ ¬ SP v1.heap.size ∧ ¬ SG v1.heap.size ∧ ¬ RR v1.heap.size := hR1.D.new (Nat.le_refl _)
       have hw0 : ∀ k, SG k ∨ RR k ∨ x.foot k ∨ k = xb ∨ k = hb → k < v1.heap.size := fun k hk => by
        rcases hk with e | e | e | e | e
        ·exact (hR1.D.g.lt e).2
        ·exact (hR1.D.g.ltR e).1
        ·exact Kind.lt hdrK hR1.A e
        ·rw [e]; exact hR1.X.lt
        ·rw [e]; exact hR1.H.lt
       have hcl' : ∀ b, c.foot b → b < v1.heap.size := fun b hf => Kind.lt certK hcA hf
       unfold CertM.v at cO ⊢
       unfold CertM.c at hc2 hR2 hcA2 cO
       have k0 := hc2.cell (i := 0) rfl
       have k1 := hc2.cell (i := 1) rfl
       have k2 := hc2.cell (i := 2) rfl
       have k3 := hc2.cell (i := 3) rfl
       have k4 := hc2.cell (i := 4) rfl
       have hcd' : Hid _ := hcd
       clear hcd cC hb1 hcA hbn x1 x2 x3 x4 x5 x6 x7 x8 x9
       go_wp2_with fail
       refine cO.mono ?_
       rintro e v3 ⟨y, rfl, hyd, hyA, hyf, hb3⟩
       have hyh : y.hdr.d = c.hdr.d := congrArg CertD.header hyd
       have hyv : y.votes = c.votes := congrArg CertD.votes hyd
       have hR3 := hR2.below hb3
       have hc3 := hc2.below hb3 hc2.lt
       have hcA3 := hcA2.below hb3
       have hsz2 : V.heap.size ≤ _ := hR2.D.a.bel.size
       have hyo : ∀ b, y.foot b → V.heap.size ≤ b ∧ ¬ SD b ∧ ¬ SP b := fun b hf => by
        have h1 := hyf b hf
        exact ⟨Nat.le_trans hsz2 h1, (hR2.D.new h1).1, (hR2.D.new h1).2.1⟩
       have hym : ∀ b, y.foot b → v1.heap.size ≤ b := fun b hf => by
        have h1 := hyf b hf
        rw [alloc_size] at h1
        omega
       have hv13 : v1.heap.size ≤ v3.heap.size := by
        have h1 := hb3.size
        rw [alloc_size] at h1
        omega
       have cA := hR3.D.a.add hE y hyA (fit_same14 hyh hcf) (by rw [hyh]; exact hcl) (by rw [hyv]; omega) hyo
       rw [hyd, hyh] at cA
       obtain ⟨AE, hAE⟩ : ∃ z, Hid (addE (chkC (ksF n) n c.d) (3 * n + 1) d c.hdr.d (idB c.hdr.d) = z) := ⟨_, rfl⟩
       obtain ⟨AD, hAD⟩ : ∃ z, Hid (addD (chkC (ksF n) n c.d) (3 * n + 1) d c.d (idB c.hdr.d) = z) := ⟨_, rfl⟩
       have hFv : FewD AD ids (i + 1) := by rw [← hAD.out]; exact hFw.add _ _ _ _
       rw [hAE.out, hAD.out] at cA
       clear cO k0 k1 k2 k3 k4 hc2 hR2 hcA2 hb3 hyh hyv hyd
       unfold CertM.v at cA ⊢
       go_wp2_with fail
       refine cA.mono ?_
       rintro e v4 ⟨rfl, SD2, hA4, hf4, hk4⟩
       have hR4 := hR3.added hw0 hA4 (fun k e => by
        rcases hf4 k e with e | e | e
        ·exact Or.inl e
        ·exact Or.inr (hym k e)
        ·exact Or.inr (Nat.le_trans hv13 e)) hk4
       have hc4 := hc3.kept hk4 hcb.1
       have hcA4 := Kind.kept certK hcA3 hk4 (fun b hf => (hco b hf).1)
       have hco4 : ∀ b, c.foot b → ¬ SD2 b ∧ ¬ SP b ∧ ¬ SG b := fun b hf => ⟨fun e => by
        rcases hf4 b e with e | e | e
        ·exact (hco b hf).1 e
        ·have := hym b e; have := hcl' b hf; omega
        ·have := hcl' b hf; omega, (hco b hf).2⟩
       have hcb4 : ¬ SG v1.heap.size := hcb.2.2.1
       clear cA hk4 hc3 hcA3 hR3 hf4 hA4 hyo hym hyA hyf hw0
       have cG := rgAdd_any c hR4.D.g (hE.R.below hR4.D.a.bel) hcA4 hcf hcl (by omega) (fun b hf => (hco4 b hf).2.2) (by have := hFw.l; omega)
       rw [hAE.out, hAD.out] at cG
       have k0 := hc4.cell (i := 0) rfl
       have k1 := hc4.cell (i := 1) rfl
       have k2 := hc4.cell (i := 2) rfl
       have k3 := hc4.cell (i := 3) rfl
       have k4 := hc4.cell (i := 4) rfl
       unfold CertM.v at cG
       go_wp2_with fail
       refine cG.mono ?_
       rintro e v5 ⟨rfl, SG2, RR2, hB5, hf5, hr5, hk5⟩
       have hR5 := hR4.refr hB5 hf5 (fun k e => (hr5 k e).elim (hR4.D.roff k) (fun e => ⟨(hco4 k e).1, (hco4 k e).2.1⟩)) hk5
       have hc5 := hc4.kept hk5 hcb4
       have hcA5 := Kind.kept certK hcA4 hk5 (fun b hf => (hco4 b hf).2.2)
       clear cG k0 k1 k2 k3 k4 hB5 hf5 hr5 hk5 hR4 hc4 hcA4
       by_cases hz0 : AE = 0
       ·subst hz0
        obtain ⟨hchk, _⟩ := addE_ok hAE.out
        have hrg := chkH_range (chkC_hdr hchk).1
        have hrg1 : 1 ≤ c.hdr.round := hrg.2.2.1
        have hrg2 : c.hdr.round ≤ 4611686018427387903 := hrg.2.2.2
        have cI := hR5.D.a.ins hE c hcA5 hrg1 hrg2 hcf hcl (by have := hFw.n; omega) (fun l hl => by have := hFw.m l hl; omega) (fun b hf => (hco4 b (Or.inl hf)).2.1)
        have hFi := hFv.ins hFw.n hFw.m (2 * n + 1) c.hdr.round.toNat (idB c.hdr.d)
        obtain ⟨ids2, hids2⟩ : ∃ z, Hid (inI (2 * n + 1) ids c.hdr.round.toNat (idB c.hdr.d) = z) := ⟨_, rfl⟩
        rw [hids2.out] at cI hFi
        have k0 := hc5.cell (i := 0) rfl
        have k1 := hc5.cell (i := 1) rfl
        have k2 := hc5.cell (i := 2) rfl
        have k3 := hc5.cell (i := 3) rfl
        have k4 := hc5.cell (i := 4) rfl
        unfold CertM.v at cI
        clear hchk hrg hrg1 hrg2
        go_wp2_with fail
        refine cI.mono ?_
        rintro e v6 ⟨rfl, SP2, hA6, hf6, hk6⟩
        have hR6 := hR5.prog hA6 (fun k e => Or.inl e) hf6 hk6 (fun k e => Or.inr e)
        clear cI hk6 hf6 k0 k1 k2 k3 k4 hR5
        go_wp2_with fail
        go_meet
        case rel => exact ⟨SD2, SP2, SG2, RR2, AD, ids2, hR6, hFi⟩
       ·have hne : ((AE : Int) == 0) = false := by simp; omega
        go_wp2_with fail
        go_meet
        case rel => exact ⟨SD2, SP, SG2, RR2, AD, ids, hR5, hFv⟩
      ·by_cases k2 : kd = 2
       ·subst k2
        have cN := hRd.D.a.next hE
        obtain ⟨ND, hND⟩ : ∃ z, Hid (nextD (2 * n + 1) d = z) := ⟨_, rfl⟩
        obtain ⟨NO, hNO⟩ : ∃ z, Hid (nextOk (2 * n + 1) d = z) := ⟨_, rfl⟩
        obtain ⟨NH, hNH⟩ : ∃ z, Hid (nextH (2 * n + 1) (me : Int) d [] = z) := ⟨_, rfl⟩
        have hFv : FewD ND ids (i + 1) := by rw [← hND.out]; exact hFw.next _
        have hrs := round_le hRd.D.a.dag.ok (need := 2 * n + 1)
        have hNl : Hid (NH.refs.length = 0 ∧ NH.parents.length ≤ 1000) := by
         show _ ∧ _
         rw [← hNH.out]
         exact nextH_small hRd.D.a.dag.ok hn2 (me : Int)
        rw [hND.out, hNO.out, hNH.out] at cN
        go_wp2_with fail
        refine cN.mono ?_
        rintro e v1 ⟨y, rfl, hyd, hyA, hyf, SD2, hA2, hf2, hk2⟩
        have hR2 := hRd.prog hA2 hf2 (fun k e => Or.inl e) hk2 (fun k e => Or.inl e)
        have hbt := belowNew v1 (.cells y.c.toArray 33)
        have hT1 := Arr.new v1 33 y.c
        have hR3 := hR2.below hbt
        have hyA3 := hyA.below hbt
        have hto : ¬ SG v1.heap.size := (hR2.D.new (Nat.le_refl _)).2.2.1
        have hyo : ∀ b, y.foot b → ¬ SG b := fun b hf e => by have h1 := hyf b hf; have := (hRd.D.g.lt e).2; omega
        unfold HdrM.v
        unfold HdrM.c at hT1 hR3 hbt hyA3
        clear cN hA2 hf2 hk2 hyA hyf hR2
        go_upto_region 28 with fail
        have hT1 : Arr (v1.alloc (.cells #[.int .i64 y.author, .int .i64 y.round, .slice y.ra y.refs.length y.rc, .slice y.pa y.parents.length y.pc] 33)) v1.heap.size 33 [.int .i64 y.author, .int .i64 y.round, .slice y.ra y.refs.length y.rc, .slice y.pa y.parents.length y.pc] := hT1
        obtain ⟨nb, hnb⟩ : ∃ z, Hid (v1.heap.size = z) := ⟨_, rfl⟩
        obtain ⟨v3, hv3⟩ : ∃ z, v1.alloc (.cells #[.int .i64 y.author, .int .i64 y.round, .slice y.ra y.refs.length y.rc, .slice y.pa y.parents.length y.pc] 33) = z := ⟨_, rfl⟩
        rw [hv3] at hR3 hT1 hyA3 ⊢
        rw [hnb.out] at hT1 hto ⊢
        clear hv3 hbt
        have cG := rgNext_any hR3.D.g (hE.R.below hR3.D.a.bel) hrs
        rw [hND.out, hNO.out, hNH.out] at cG
        go_wp2_with fail
        refine cG.mono ?_
        rintro e v4 ⟨z, rfl, hzd, hzA, hzf, hB4, hk4⟩
        have hR4 := hR3.refr hB4 (fun k e => Or.inl e) hR3.D.roff hk4
        have hT4 := hT1.kept hk4 hto
        have hyA4 := Kind.kept hdrK hyA3 hk4 hyo
        have hbt2 := belowNew v4 (.cells z.c.toArray 33)
        have hT5 := hT4.below hbt2 hT4.lt
        have hU5 := Arr.new v4 33 z.c
        have hR5 := hR4.below hbt2
        have hyA5 := hyA4.below hbt2
        have hzA5 := hzA.below hbt2
        have hyr : y.refs.length = 0 := by have := hNl.out.1; rw [← hyd] at this; simpa [HdrM.d, rd] using this
        have hyp : y.parents.length ≤ 1000 := by have := hNl.out.2; rw [← hyd] at this; exact this
        have cS := sameH_any y z _ hyA5 hzA5 (by rw [hyd, hzd]) (by omega) (by omega) (fun q hq => by rw [List.length_eq_zero_iff.1 hyr] at hq; cases hq)
        unfold HdrM.v at cS ⊢
        unfold HdrM.c at hU5 hR5 cS hT5
        have t0 := hT5.cell (i := 0) rfl
        have t1 := hT5.cell (i := 1) rfl
        have t2 := hT5.cell (i := 2) rfl
        have t3 := hT5.cell (i := 3) rfl
        have u0 := hU5.cell (i := 0) rfl
        have u1 := hU5.cell (i := 1) rfl
        have u2 := hU5.cell (i := 2) rfl
        have u3 := hU5.cell (i := 3) rfl
        have hyr' : Hid _ := hyr
        have hyd' : Hid _ := hyd
        have hzd' : Hid _ := hzd
        clear cG hR3 hR4 hB4 hk4 hT4 hT1 hbt2 hT5 hU5 hyA4 hzA hyA5 hzA5 hyA3 hyr hyd hzd hRd
        go_wp2_with fail
        refine cS.mono ?_
        rintro e v6 ⟨rfl, hb6⟩
        have hR6 := hR5.below hb6
        clear t0 t1 t2 t3 u0 u1 u2 u3 cS hR5
        go_wp2_with fail
        go_meet
        case rel => exact ⟨SD2, SP, SG, RR, ND, ids, hR6, hFv⟩
       ·by_cases k3 : kd = 3
        ·subst k3
         obtain ⟨LD, hLD⟩ : ∃ z, Hid (lowD d o.round = z) := ⟨_, rfl⟩
         obtain ⟨LN, hLN⟩ : ∃ z, Hid (lowN d o.round = z) := ⟨_, rfl⟩
         have hFv : FewD LD ids (i + 1) := by rw [← hLD.out]; exact hFw.lows _
         have bd : Below w7.heap.size w7 w7.drew := below_drewN (Below.refl _ w7) 1
         have hR1 := hRd.below bd
         have cL := hR1.D.a.lows hE o.round
         rw [hLD.out, hLN.out] at cL
         have cG : ∀ wx SD2, Rd V n tb rt db pb gb me xb hb o x SD2 SP SG RR LD d ids wx → Calls Tryz.prog 27 #[.pointer (some ⟨gb, 0, none⟩), .int .i64 o.round] wx fun e w' => e = .returned (.int .i64 (LN : Int)) ∧ ∃ S' R', RG w' gb S' R' rt (me : Int) LD ∧ FreshS wx SG S' ∧ (∀ k, R' k → RR k) ∧ Kept SG wx w' := fun wx SD2 hx => by
          have h1 := rgLow_any o.round hx.D.g
          rw [hLD.out, hLN.out] at h1
          exact h1
         have c5 := hR1.X.cell (i := 5) rfl
         have hkp : ∀ wx SD2 SG2 RR2 dd dg2, Rd V n tb rt db pb gb me xb hb o x SD2 SP SG2 RR2 dd dg2 ids wx → wx.cell? ⟨xb, 5, none⟩ = some (.int .i64 o.round) := fun wx SD2 SG2 RR2 dd dg2 hx => hx.X.cell (i := 5) rfl
         have hS0 : w7.drew.cell? ⟨xb, 5, none⟩ = some (.int .i64 o.round) := c5
         go_upto_region 32 with fail
         go_region_held3 (fun w' => w'.cell? ⟨xb, 5, none⟩ = some (.int .i64 o.round)) (first | assumption | exact hkp _ _ _ _ _ _ (by assumption))
          (first
          | (go_at_call 26; refine cL.mono ?_; rintro e v1 ⟨rfl, SD2, hA2, hf2, hk2⟩; have hR2 := hR1.prog hA2 hf2 (fun k e => Or.inl e) hk2 (fun k e => Or.inl e))
          | (go_at_call 27; refine (cG _ _ hR2).mono ?_; rintro e v2 ⟨rfl, SG2, RR2, hB3, hf3, hr3, hk3⟩; have hR3 := hR2.refr hB3 hf3 (fun k e => hR2.D.roff k (hr3 k e)) hk3))
         all_goals
          clear cL cG hkp
          go_wp2_with fail
          go_meet
          exact ⟨SD2, SP, SG2, RR2, LD, ids, hR3, hFv⟩
        ·go_wp2_with fail
         go_meet
         case rel => exact ⟨SD, SP, SG, RR, d, ids, hRd, ⟨by have := hFw.v; omega, by have := hFw.l; omega, by have := hFw.n; omega, fun l hl => by have := hFw.m l hl; omega⟩⟩
    case rest =>
     obtain ⟨SD', SP', SG', RR', d', ids', hRd', hFw'⟩ := hcut
     generalize wc = w8 at *
     have hTt := hE.T
     have hTr := hE.R
     have cI := refHdrId_any x w8 hRd'.A hxf hxl
     obtain ⟨IV, hIV⟩ : ∃ z, Hid (idB x.d = z) := ⟨_, rfl⟩
     have his : IV.size ≤ maxLen := by rw [← hIV.out, idB_size]; decide
     rw [show Mx.bytes (Mx.sumL (encH x.d)) = IV from hIV.out] at cI
     unfold HdrM.v at cI
     have e0 := hRd'.H.cell (i := 0) rfl
     have e1 := hRd'.H.cell (i := 1) rfl
     have e2 := hRd'.H.cell (i := 2) rfl
     have e3 := hRd'.H.cell (i := 3) rfl
     clear hRd hFw x0
     go_wp2_with fail
     refine cI.mono ?_
     rintro e v1 ⟨rfl, hb1⟩
     have hR1 := hRd'.below hb1
     clear cI e0 e1 e2 e3 hRd' hb1
     have cG := pdGet_any IV his hR1.D.a.dag (hTt.below hR1.D.a.bel)
     obtain ⟨GD, hGD⟩ : ∃ z, Hid (certOf d'.L IV = z) := ⟨_, rfl⟩
     obtain ⟨gb2, hgb2⟩ : ∃ z, Hid ((getC d'.L IV).isSome = z) := ⟨_, rfl⟩
     have hsm := certOf_small hR1.D.a.dag.ok hkl.out hn2 IV
     rw [hGD.out] at cG hsm
     rw [hgb2.out] at cG
     have hsm : Hid _ := hsm
     go_wp2_with fail
     refine cG.mono ?_
     rintro e v2 ⟨c1, rfl, hc1d, hc1A, hc1f, hb2⟩
     have hR2 := hR1.below hb2
     have hbn2 := belowNew v2 (.cells c1.c.toArray 48)
     have hC2 := Arr.new v2 48 c1.c
     have hR3 := hR2.below hbn2
     have hc1A3 := hc1A.below hbn2
     unfold CertM.v
     unfold CertM.c at hC2 hR3 hbn2 hc1A3
     have hc1d : Hid _ := hc1d
     clear cG hR1 hR2 hb2 hc1A hc1f
     go_upto_region 36 with fail
     have hC2 : Arr (v2.alloc (.cells #[.int .i64 c1.hdr.author, .int .i64 c1.hdr.round, .slice c1.hdr.ra c1.hdr.refs.length c1.hdr.rc, .slice c1.hdr.pa c1.hdr.parents.length c1.hdr.pc, .slice c1.va c1.votes.length c1.vc] 48)) v2.heap.size 48 [.int .i64 c1.hdr.author, .int .i64 c1.hdr.round, .slice c1.hdr.ra c1.hdr.refs.length c1.hdr.rc, .slice c1.hdr.pa c1.hdr.parents.length c1.hdr.pc, .slice c1.va c1.votes.length c1.vc] := hC2
     obtain ⟨b1, hb1e⟩ : ∃ z, Hid (v2.heap.size = z) := ⟨_, rfl⟩
     obtain ⟨v3, hv3⟩ : ∃ z, v2.alloc (.cells #[.int .i64 c1.hdr.author, .int .i64 c1.hdr.round, .slice c1.hdr.ra c1.hdr.refs.length c1.hdr.rc, .slice c1.hdr.pa c1.hdr.parents.length c1.hdr.pc, .slice c1.va c1.votes.length c1.vc] 48) = z := ⟨_, rfl⟩
     rw [hv3] at hR3 hC2 hc1A3 ⊢
     rw [hb1e.out] at hC2 ⊢
     clear hv3 hbn2
     have cH := rgGet_any IV hR3.D.g
     rw [hgb2.out] at cH
     go_wp2_with fail
     refine cH.mono ?_
     rintro e v4 ⟨c2, rfl, hc2d, hc2A, hc2f, hb4⟩
     have hc2d : c2.d = GD := hc2d.trans hGD.out
     have hR4 := hR3.below hb4
     have hC4 := hC2.below hb4 hC2.lt
     have hc1A4 := hc1A3.below hb4
     have hbn4 := belowNew v4 (.cells c2.c.toArray 48)
     have hE5 := Arr.new v4 48 c2.c
     have hC5 := hC4.below hbn4 hC4.lt
     have hR5 := hR4.below hbn4
     have hc1A5 := hc1A4.below hbn4
     have hc2A5 := hc2A.below hbn4
     unfold CertM.v
     unfold CertM.c at hE5 hR5 hC5 hc1A5 hc2A5
     have hc2d : Hid _ := hc2d
     clear cH hR3 hR4 hC2 hC4 hc1A3 hc1A4 hb4 hc2A hc2f hbn4
     go_upto_region 37 with fail
     have hE5 : Arr (v4.alloc (.cells #[.int .i64 c2.hdr.author, .int .i64 c2.hdr.round, .slice c2.hdr.ra c2.hdr.refs.length c2.hdr.rc, .slice c2.hdr.pa c2.hdr.parents.length c2.hdr.pc, .slice c2.va c2.votes.length c2.vc] 48)) v4.heap.size 48 [.int .i64 c2.hdr.author, .int .i64 c2.hdr.round, .slice c2.hdr.ra c2.hdr.refs.length c2.hdr.rc, .slice c2.hdr.pa c2.hdr.parents.length c2.hdr.pc, .slice c2.va c2.votes.length c2.vc] := hE5
     obtain ⟨b2, hb2e⟩ : ∃ z, Hid (v4.heap.size = z) := ⟨_, rfl⟩
     obtain ⟨v5, hv5⟩ : ∃ z, v4.alloc (.cells #[.int .i64 c2.hdr.author, .int .i64 c2.hdr.round, .slice c2.hdr.ra c2.hdr.refs.length c2.hdr.rc, .slice c2.hdr.pa c2.hdr.parents.length c2.hdr.pc, .slice c2.va c2.votes.length c2.vc] 48) = z := ⟨_, rfl⟩
     rw [hv5] at hR5 hC5 hE5 hc1A5 hc2A5 ⊢
     rw [hb2e.out] at hE5 ⊢
     clear hv5
     go_cut [187] (fun s wx => s = .bool false ∧ Rd V n tb rt db pb gb me xb hb o x SD' SP' SG' RR' d' d' ids' wx)
     case first =>
      have bd : Below v5.heap.size v5 v5.drew := below_drewN (Below.refl _ v5) 1
      obtain ⟨RN, hRN⟩ : ∃ z, Hid (roundC (2 * n + 1) d'.L = z) := ⟨_, rfl⟩
      obtain ⟨IL, hIL⟩ : ∃ z, Hid (idsC d'.L x.round = z) := ⟨_, rfl⟩
      have hILl : IL.length ≤ 1000000 := by rw [← hIL.out]; have := idsC_le d'.L x.round; have := hR5.D.a.dag.ok.few; omega
      have hdd : c1.d = c2.d := hc1d.out.trans hc2d.out.symm
      have hs1 := hsm.out
      rw [← hc1d.out] at hs1
      have cC : ∀ wx, Below v5.heap.size v5 wx → Calls Tryz.prog 31 #[c1.v, c2.v] wx fun e w' => e = .returned (.bool true) ∧ Below wx.heap.size wx w' := fun wx hx => sameC_any c1 c2 wx (hc1A5.below hx) (hc2A5.below hx) hdd (by have := hs1.1; simp [CertM.d, HdrM.d, rd] at this; omega) (by have := hs1.2.1; have : c1.hdr.parents.length ≤ 7 := this; omega) (fun q hq => by have := hs1.2.2.1 q.d (List.mem_map.2 ⟨q, hq, rfl⟩); have : q.acks.length ≤ 7 := this; omega) (by have := hs1.2.2.2; have : c1.votes.length ≤ 7 := this; omega)
      have cRp : ∀ wx, Below v5.heap.size v5 wx → Calls Tryz.prog 32 #[.pointer (some ⟨db, 0, none⟩)] wx fun e w' => e = .returned (.int .i64 RN) ∧ Below wx.heap.size wx w' := fun wx hx => by
       have h1 := pdRound_any (hR5.below hx).D.a.dag (hTt.below (hR5.below hx).D.a.bel)
       rw [hRN.out] at h1
       exact h1
      have cRg : ∀ wx, Below v5.heap.size v5 wx → Calls Tryz.prog 33 #[.pointer (some ⟨gb, 0, none⟩)] wx fun e w' => e = .returned (.int .i64 RN) ∧ Below wx.heap.size wx w' := fun wx hx => by
       have h1 := rgRound_any (hR5.below hx).D.g (hTr.below (hR5.below hx).D.a.bel)
       rw [hRN.out] at h1
       exact h1
      have cIp : ∀ wx, Below v5.heap.size v5 wx → Calls Tryz.prog 34 #[.pointer (some ⟨db, 0, none⟩), .int .i64 x.round] wx fun e w' => ∃ v, e = .returned v ∧ KQ strK 9 w' wx.heap.size v IL ∧ Below wx.heap.size wx w' := fun wx hx => by
       have h1 := pdIds_any x.round (hR5.below hx).D.a.dag
       rw [hIL.out] at h1
       exact h1
      have cIg : ∀ wx, Below v5.heap.size v5 wx → Calls Tryz.prog 35 #[.pointer (some ⟨gb, 0, none⟩), .int .i64 x.round] wx fun e w' => ∃ v, e = .returned v ∧ KQ strK 9 w' wx.heap.size v IL ∧ Below wx.heap.size wx w' := fun wx hx => by
       have h1 := rgIds_any x.round (hR5.below hx).D.g
       rw [hIL.out] at h1
       exact h1
      unfold CertM.v at cC
      have hkp : ∀ wx, Below v5.heap.size v5 wx → (wx.cell? ⟨b1, 0, none⟩ = some (.int .i64 c1.hdr.author) ∧ wx.cell? ⟨b1, 1, none⟩ = some (.int .i64 c1.hdr.round) ∧ wx.cell? ⟨b1, 2, none⟩ = some (.slice c1.hdr.ra c1.hdr.refs.length c1.hdr.rc) ∧ wx.cell? ⟨b1, 3, none⟩ = some (.slice c1.hdr.pa c1.hdr.parents.length c1.hdr.pc) ∧ wx.cell? ⟨b1, 4, none⟩ = some (.slice c1.va c1.votes.length c1.vc)) ∧ (wx.cell? ⟨b2, 0, none⟩ = some (.int .i64 c2.hdr.author) ∧ wx.cell? ⟨b2, 1, none⟩ = some (.int .i64 c2.hdr.round) ∧ wx.cell? ⟨b2, 2, none⟩ = some (.slice c2.hdr.ra c2.hdr.refs.length c2.hdr.rc) ∧ wx.cell? ⟨b2, 3, none⟩ = some (.slice c2.hdr.pa c2.hdr.parents.length c2.hdr.pc) ∧ wx.cell? ⟨b2, 4, none⟩ = some (.slice c2.va c2.votes.length c2.vc)) ∧ wx.cell? ⟨hb, 1, none⟩ = some (.int .i64 x.round) := fun wx hx => by
       have a1 := hC5.below hx hC5.lt
       have a2 := hE5.below hx hE5.lt
       have a3 := hR5.H.below hx hR5.H.lt
       exact ⟨⟨a1.cell (i := 0) rfl, a1.cell (i := 1) rfl, a1.cell (i := 2) rfl, a1.cell (i := 3) rfl, a1.cell (i := 4) rfl⟩, ⟨a2.cell (i := 0) rfl, a2.cell (i := 1) rfl, a2.cell (i := 2) rfl, a2.cell (i := 3) rfl, a2.cell (i := 4) rfl⟩, a3.cell (i := 1) rfl⟩
      have hS0 := hkp _ bd
      clear hdd hs1
      go_region_held3 (fun wx => (wx.cell? ⟨b1, 0, none⟩ = some (.int .i64 c1.hdr.author) ∧ wx.cell? ⟨b1, 1, none⟩ = some (.int .i64 c1.hdr.round) ∧ wx.cell? ⟨b1, 2, none⟩ = some (.slice c1.hdr.ra c1.hdr.refs.length c1.hdr.rc) ∧ wx.cell? ⟨b1, 3, none⟩ = some (.slice c1.hdr.pa c1.hdr.parents.length c1.hdr.pc) ∧ wx.cell? ⟨b1, 4, none⟩ = some (.slice c1.va c1.votes.length c1.vc)) ∧ (wx.cell? ⟨b2, 0, none⟩ = some (.int .i64 c2.hdr.author) ∧ wx.cell? ⟨b2, 1, none⟩ = some (.int .i64 c2.hdr.round) ∧ wx.cell? ⟨b2, 2, none⟩ = some (.slice c2.hdr.ra c2.hdr.refs.length c2.hdr.rc) ∧ wx.cell? ⟨b2, 3, none⟩ = some (.slice c2.hdr.pa c2.hdr.parents.length c2.hdr.pc) ∧ wx.cell? ⟨b2, 4, none⟩ = some (.slice c2.va c2.votes.length c2.vc)) ∧ wx.cell? ⟨hb, 1, none⟩ = some (.int .i64 x.round)) (exact hkp _ (by assumption))
       (first
       | (go_at_call 31; refine (cC _ bd).mono ?_; rintro e z1 ⟨rfl, hy1⟩; have j1 := bd.trans (hy1.mono bd.size))
       | (go_at_call 32; refine (cRp _ j1).mono ?_; rintro e z2 ⟨rfl, hy2⟩; have j2 := j1.trans (hy2.mono j1.size))
       | (go_at_call 33; refine (cRg _ j2).mono ?_; rintro e z3 ⟨rfl, hy3⟩; have j3 := j2.trans (hy3.mono j2.size))
       | (go_at_call 34; refine (cIp _ j3).mono ?_; rintro e z4 ⟨q1, rfl, hQ1, hy4⟩; obtain ⟨a1, cc1, rfl, _, hr1⟩ := hQ1.form; have j4 := j3.trans (hy4.mono j3.size))
       | (go_at_call 35; refine (cIg _ j4).mono ?_; rintro e z5 ⟨q2, rfl, hQ2, hy5⟩; obtain ⟨a2, cc2, rfl, _, hr2⟩ := hQ2.form; have j5 := j4.trans (hy5.mono j4.size); have hr3 := hr1.below hy5)
       | (go_at_call 12; refine (same_any a1 a2 cc1 cc2 IL z5 hr3.strs hr2.strs (by omega)).mono ?_; rintro e z6 ⟨rfl, hy6⟩; have j6 := j5.trans (hy6.mono j5.size)))
      all_goals
       have hRn := hR5.below j6
       clear cC cRp cRg cIp cIg hkp hQ1 hQ2 hr1 hr2 hr3
       go_wp2_with fail
       go_meet
       exact ⟨rfl, hRn⟩
     case rest =>
      obtain ⟨rfl, hRz⟩ := hcut
      go_wp2
      go_roundw
      case rel => exact ⟨i + 1, d', ids', SD', SP', SG', RR', by omega, by omega, by go_num, hRz.D, hFw'⟩
      case measure => simp [intOf]; omega
  ·have hbF : Below w.heap.size w wr := hbw.trans (hD.a.bel.mono hbw.size)
   by_cases g1 : i < ls.length
   ·have g1' : (i : Int) < (ls.length : Int) := by omega
    have g2 : ¬ (i : Int) < 40 := by omega
    go_wp2
    go_ret
    exact ⟨rfl, hbF⟩
   ·have g1' : ¬ (i : Int) < (ls.length : Int) := by omega
    go_wp2
    go_ret
    exact ⟨rfl, hbF⟩
end Go.Proofs.YtmjkbdgcnoenbaaGreatDoor

/- How a header that came in is opened; its sizes. -/
namespace Go.Proofs.YtmjkbdgcnoenbaaGreatDoor
open Go.ChangeShapes Go.WideShapes Go.ChangeAt Go.RowKit Go.Joins Go.Deep
set_option linter.unusedVariables false

def RefQ {H : Type} (d : DataW H) (r : RefM) : Prop := ∃ y0 y1, d = .agg [y0, y1] ∧ StrQ y0 r.digest ∧ RowD TagQ y1 r.acks

theorem cellsRef6 : Tryz.prog.cellsOf 94 = 2 := by kernel_rfl
theorem cellsHdr6 : Tryz.prog.cellsOf 33 = 4 := by kernel_rfl
theorem cellsRefs6 : Tryz.prog.cellsOf 30 = 1 := by kernel_rfl
theorem bytesRef6 : Tryz.prog.bytesOf 94 = 40 := by kernel_rfl

set_option maxRecDepth 100000 in
theorem open_ref_cells {H : Type} {enc : TypeId × Value → H} {W : World} {fuel : Nat} {cs : List Value} {y : DataW H × List MemPlace}
  (hf : DataW.trod enc Tryz.prog W 0 (fun _ => true) true fuel 94 cs = some y) : ∃ r : RefM, cs = refK.c r ∧ refK.At W r ∧ RefQ y.1 r := by
 obtain ⟨xs, n, _, hx, hcl, hl, hg⟩ := DataW.trod_struct Tryz.underlying94 hf
 obtain ⟨c0, c1, rfl⟩ := list2x (hcl.trans cellsRef6)
 obtain ⟨y0, y1, rfl⟩ := list2x hl
 have g0 := hg 0 _ rfl
 have g1 := hg 1 _ rfl
 simp [cellsTags6, cellsStr6] at g0 g1
 obtain ⟨a0, e0, hy0, s0⟩ := DataW.trod_string Tryz.underlying9 g0
 obtain ⟨ao, len, cap, e1⟩ := slice_form Tryz.underlying46 g1
 simp at e0 e1
 subst e0 e1
 obtain ⟨l, rfl, l1, l2, l3, l4⟩ := open_tagsK g1
 refine ⟨⟨a0, l, ao, cap⟩, rfl, ⟨l1, l2⟩, y0.1, y1.1, ?_, ⟨by rw [hy0], s0⟩, l4⟩
 have := congrArg Prod.fst hx
 simpa using this

def HdrQ {H : Type} (d : DataW H) (x : HdrM) : Prop := ∃ y0 y1 y2 y3, d = .agg [y0, y1, y2, y3] ∧ RowD RefQ y2 x.refs ∧ RowD StrQ y3 x.parents

set_option maxRecDepth 100000 in
theorem open_hdr_cells {H : Type} {enc : TypeId × Value → H} {W : World} {fuel : Nat} {cs : List Value} {y : DataW H × List MemPlace}
  (hf : DataW.trod enc Tryz.prog W 0 (fun _ => true) true fuel 33 cs = some y) : ∃ x : HdrM, cs = hdrK.c x ∧ hdrK.At W x ∧ HdrQ y.1 x := by
 obtain ⟨xs, n, _, hx, hcl, hl, hg⟩ := DataW.trod_struct Tryz.underlying33 hf
 obtain ⟨c0, c1, c2, c3, rfl⟩ := list4x (hcl.trans cellsHdr6)
 obtain ⟨y0, y1, y2, y3, rfl⟩ := list4x hl
 have g0 := hg 0 _ rfl
 have g1 := hg 1 _ rfl
 have g2 := hg 2 _ rfl
 have g3 := hg 3 _ rfl
 simp [cellsInt6, cellsRefs6, cellsStrs6] at g0 g1 g2 g3
 obtain ⟨a0, e0, _, _⟩ := DataW.trod_int Tryz.underlying3 g0
 obtain ⟨a1, e1, _, _⟩ := DataW.trod_int Tryz.underlying3 g1
 obtain ⟨ra, rlen, rc, e2⟩ := slice_form Tryz.underlying30 g2
 obtain ⟨pa, plen, pc, e3⟩ := slice_form Tryz.underlying31 g3
 simp at e0 e1 e2 e3
 subst e0 e1 e2 e3
 obtain ⟨rs, rfl, r1, r2, r3, r4⟩ := open_row refK RefQ Tryz.underlying30 cellsRef6 open_ref_cells g2
 obtain ⟨ps, rfl, p1, p2, p3, p4⟩ := open_row strK StrQ Tryz.underlying31 cellsStr6 open_str_cells g3
 refine ⟨⟨a0, a1, ra, rs, rc, pa, ps, pc⟩, rfl, ⟨r1, r2, p1, p2⟩, y0.1, y1.1, y2.1, y3.1, ?_, r4, p4⟩
 have := congrArg Prod.fst hx
 simpa using this
end Go.Proofs.YtmjkbdgcnoenbaaGreatDoor
