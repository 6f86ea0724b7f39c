/- Texts as one: DagSt, OpRows, DagWorks, KindsWhole, ParSt. -/
import Derived.Test.YtmjkbdgcnoenbaaGreatDoorDz16
import Derived.Test.YtmjkbdgcnoenbaaGreatDoorDz17
import Derived.Test.YtmjkbdgcnoenbaaGreatDoorDz08
import Derived.Test.YtmjkbdgcnoenbaaGreatDoorDz09
import Derived.Test.YtmjkbdgcnoenbaaGreatDoorDz10
import Derived.Deep.MidRow
import Derived.BigRegion
/- The program's dag and the maker side by side, and each act on them. -/
namespace Go.Proofs.YtmjkbdgcnoenbaaGreatDoor
open Go Go.RowKit
set_option linter.unusedVariables false

/-- The program's dag and the maker, apart from each other and from all that was there at V. -/
structure D1 (V : World) (n tb rt db pb me : Nat) (SD SP : Nat → Prop) (d : DagD) (ids : List (List ByteArray)) (w : World) : Prop where
  bel : Below V.heap.size V w
  dag : PD w db SD tb n (ksF n) me d
  ply : Pl w pb SP rt ids
  dlt : ∀ k, SD k → V.heap.size ≤ k
  plt : ∀ k, SP k → V.heap.size ≤ k
  off : ∀ k, SD k → ¬ SP k
  i32 : ∀ l ∈ ids, ∀ p ∈ l, p.size ≤ 1000

/-- What was there. -/
structure DEnv (V : World) (n tb rt me : Nat) : Prop where
  T : TEnv V tb n (ksF n)
  R : TEnv V rt n (ksF n)
  hs : me < 3 * n + 1

/-- What an act has in memory: all of it was there at V. (Its wild header can be written.) -/
structure OpIn (V : World) (o : OpM) : Prop where
  wild : o.wild.At V
  votes : RowAt boolK V o.va o.votes
  vl : o.votes.length ≤ maxLen
  fit : o.wild.Fit
  len : (encH o.wild.d).length ≤ 1073741824
  lens : o.wild.Lens

theorem OpIn.below {V V' : World} {o : OpM} (h : OpIn V o) (hb : Below V.heap.size V V') : OpIn V' o := ⟨h.wild.below hb, h.votes.below hb, h.vl, h.fit, h.len, h.lens⟩

section
variable {V w w' : World} {n tb rt db pb me : Nat} {SD SP : Nat → Prop} {d : DagD} {ids : List (List ByteArray)}

theorem D1.below (h : D1 V n tb rt db pb me SD SP d ids w) (hb : Below w.heap.size w w') : D1 V n tb rt db pb me SD SP d ids w' :=
  ⟨h.bel.trans (hb.mono h.bel.size), h.dag.below hb, h.ply.below hb, h.dlt, h.plt, h.off, h.i32⟩

/-- Something is turned that is neither's. -/
theorem D1.kept {S : Nat → Prop} (h : D1 V n tb rt db pb me SD SP d ids w) (hk : Kept S w w') (hS : ∀ k, S k → V.heap.size ≤ k ∧ ¬ SD k ∧ ¬ SP k) : D1 V n tb rt db pb me SD SP d ids w' :=
  ⟨h.bel.trans (Kept.below hk h.bel.size (fun k e => (hS k e).1)), h.dag.kept hk (fun k e e' => (hS k e').2.1 e), h.ply.kept hk (fun k e e' => (hS k e').2.2 e), h.dlt, h.plt, h.off, h.i32⟩

theorem GotBoth.d1 {W : World} {gb : Nat} {S : Nat → Prop} (h : GotBoth W V n me tb rt db gb pb S w) : D1 V n tb rt db pb me S (fun k => k = pb) dag0 [] w :=
  ⟨h.bel, h.d, h.p, fun k hk => (h.dlt k hk).1, fun k hk => by have := h.glt; omega, fun k hk e => by have := (h.dlt k hk).2; have := h.glt; omega, fun l hl => by cases hl⟩

theorem GotBoth.env {W : World} {gb : Nat} {S : Nat → Prop} (h : GotBoth W V n me tb rt db gb pb S w) : DEnv V n tb rt me := ⟨h.T, h.R, h.hs⟩

/-- A header is made. -/
theorem D1.header (h : D1 V n tb rt db pb me SD SP d ids w) (hE : DEnv V n tb rt me) {o : OpM} (hO : OpIn V o) :
    Calls Tryz.prog 11 #[.pointer (some ⟨pb, 0, none⟩), o.v] w fun e w' => ∃ x : HdrM, e = .returned x.v ∧ x.d = hdrO (ksF n) n ids o ∧ x.At w' ∧ x.Fit ∧ (encH x.d).length ≤ 1073741824 ∧ x.Lens ∧ (∀ b, x.foot b → b < V.heap.size ∨ w.heap.size ≤ b) ∧ Below w.heap.size w w' := by
  obtain ⟨q, xs, hids, hS, hP⟩ := h.ply
  have hi32 : ∀ x ∈ xs, ∀ i ∈ x.l, i.size ≤ 1000 := fun x hx => h.i32 x.l (by rw [hids]; exact List.mem_map_of_mem hx)
  have hR := hE.R.below h.bel
  refine (playHdr_any pb q rt n (ksF n) xs o w hP hR.T hR.f2 hR.f1 hR.kl hR.k32 hi32 (hO.wild.below h.bel) hR.G).mono ?_
  rintro e w' ⟨x, rfl, hxd, hxA, hxo, hb⟩
  rw [← hids] at hxd
  have hsm : x.Fit ∧ (encH x.d).length ≤ 1073741824 ∧ x.Lens := by
    rcases hxo with ⟨h1, rfl⟩ | ⟨h1, _⟩
    · exact ⟨hO.fit, hO.len, hO.lens⟩
    · unfold hdrO at hxd
      rw [if_pos h1] at hxd
      have h2 := hdrP_small (ks := ksF n) (ids := ids) (by have := hR.kl; have := hR.f2; omega) (fun l hl => by
        rw [hids] at hl
        obtain ⟨y, hy, rfl⟩ := List.mem_map.1 hl
        exact hP.few' y hy) h.i32 hxd
      exact ⟨h2.1, by omega, ⟨by have := h2.1.n; omega, by have := h2.1.p; omega, fun r hr => by have := h2.1.acks r hr; omega⟩⟩
  refine ⟨x, rfl, hxd, hxA, hsm.1, hsm.2.1, hsm.2.2, fun b hf => ?_, hb⟩
  rcases hxo with ⟨_, rfl⟩ | ⟨_, hx⟩
  · exact Or.inl (Kind.lt hdrK hO.wild hf)
  · exact Or.inr (hx b hf)

/-- A certificate is made. -/
theorem D1.cert (h : D1 V n tb rt db pb me SD SP d ids w) (hE : DEnv V n tb rt me) {o : OpM} (hO : OpIn V o) :
    Calls Tryz.prog 18 #[.pointer (some ⟨pb, 0, none⟩), o.v] w fun e w' => ∃ x : CertM, e = .returned x.v ∧ x.d = certO (ksF n) n ids o ∧ x.At w' ∧ x.hdr.Fit ∧ (encH x.hdr.d).length ≤ 1073741824 ∧ x.hdr.Lens ∧ x.votes.length ≤ 7 ∧ (∀ b, x.foot b → b < V.heap.size ∨ w.heap.size ≤ b) ∧ Below w.heap.size w w' := by
  obtain ⟨q, xs, hids, hS, hP⟩ := h.ply
  have hi32 : ∀ x ∈ xs, ∀ i ∈ x.l, i.size ≤ 1000 := fun x hx => h.i32 x.l (by rw [hids]; exact List.mem_map_of_mem hx)
  have hR := hE.R.below h.bel
  refine (playCert_any pb q rt n (ksF n) xs o w hP hR.T hR.f2 hR.f1 hR.kl hR.k32 hi32 (hO.wild.below h.bel) (hO.votes.below h.bel) hO.vl (fun _ => ⟨hO.fit, hO.len⟩) hR.G).mono ?_
  rintro e w' ⟨x, rfl, hxd, hxA, hxo, hxv, hb⟩
  rw [← hids] at hxd
  have hxh : x.hdr.d = hdrO (ksF n) n ids o := congrArg CertD.header hxd
  have hxt : x.votes = _ := congrArg CertD.votes hxd
  have hsm : x.hdr.Fit ∧ (encH x.hdr.d).length ≤ 1073741824 ∧ x.hdr.Lens := by
    rcases hxo with ⟨h1, e⟩ | ⟨h1, _⟩
    · rw [e]; exact ⟨hO.fit, hO.len, hO.lens⟩
    · unfold hdrO at hxh
      rw [if_pos h1] at hxh
      have h2 := hdrP_small (ks := ksF n) (ids := ids) (by have := hR.kl; have := hR.f2; omega) (fun l hl => by
        rw [hids] at hl
        obtain ⟨y, hy, rfl⟩ := List.mem_map.1 hl
        exact hP.few' y hy) h.i32 hxh
      exact ⟨h2.1, by omega, ⟨by have := h2.1.n; omega, by have := h2.1.p; omega, fun r hr => by have := h2.1.acks r hr; omega⟩⟩
  refine ⟨x, rfl, hxd, hxA, hsm.1, hsm.2.1, hsm.2.2, ?_, fun b hf => ?_, hb⟩
  · rw [hxt]
    have h1 := tagsP_length (ksF n) voteW (idB (hdrO (ksF n) n ids o)) o.votes (3 * n + 1)
    have h2 : (certO (ksF n) n ids o).votes.length ≤ 3 * n + 1 := h1
    have := hR.f2
    omega
  · rcases hf with hf | hf
    · rcases hxo with ⟨_, e⟩ | ⟨_, hx⟩
      · rw [e] at hf; exact Or.inl (Kind.lt hdrK hO.wild hf)
      · exact Or.inr (hx b hf)
    · exact Or.inr (hxv b hf)

/-- What is neither's, seen from a later world. -/
theorem D1.old (h : D1 V n tb rt db pb me SD SP d ids w) {b : Nat} (hb : b < V.heap.size ∨ w.heap.size ≤ b) : ¬ SD b ∧ ¬ SP b := by
  rcases hb with hb | hb
  · exact ⟨fun e => by have := h.dlt b e; omega, fun e => by have := h.plt b e; omega⟩
  · exact ⟨fun e => by have := h.dag.lt e; omega, fun e => by have := (h.ply.lt e).2; omega⟩

/-- A vote. -/
theorem D1.vote (h : D1 V n tb rt db pb me SD SP d ids w) (hE : DEnv V n tb rt me) (x : HdrM) (hA : x.At w) (hfit : x.Fit) (hlen : (encH x.d).length ≤ 1073741824) (hx : ∀ b, x.foot b → ¬ SD b) (hv : d.V.length < 1000000) :
    Calls Tryz.prog 16 #[.pointer (some ⟨db, 0, none⟩), x.v] w fun e w' => e = .returned (.tuple #[.agg #[.int .i64 (voteT (ksF n) me (voteE (chkA (ksF n) n x.d) d x.d (idB x.d)) (idB x.d)).who, .string (voteT (ksF n) me (voteE (chkA (ksF n) n x.d) d x.d (idB x.d)) (idB x.d)).mac], .int .i64 (voteE (chkA (ksF n) n x.d) d x.d (idB x.d) : Int)]) ∧ ∃ SD', D1 V n tb rt db pb me SD' SP (voteD (chkA (ksF n) n x.d) d x.d (idB x.d)) ids w' ∧ FreshS w SD SD' ∧ Kept SD w w' := by
  refine (pdVote_any x h.dag (hE.T.below h.bel) hE.hs hA hfit hlen hx hv).mono ?_
  rintro e w' ⟨rfl, S', h1, h2, h3⟩
  refine ⟨rfl, S', ⟨h.bel.trans (Kept.below h3 h.bel.size h.dlt), h1, h.ply.kept h3 (fun k e e' => h.off k e' e), fun k hk => ?_, h.plt, fun k hk e => ?_, h.i32⟩, h2, h3⟩
  · rcases h2 k hk with e | e
    · exact h.dlt k e
    · exact Nat.le_trans h.bel.size e
  · rcases h2 k hk with e' | e'
    · exact h.off k e' e
    · have := (h.ply.lt e).2; omega

/-- A certificate is added. -/
theorem D1.add (h : D1 V n tb rt db pb me SD SP d ids w) (hE : DEnv V n tb rt me) (c : CertM) (hA : c.At w) (hfit : c.hdr.Fit) (hlen : (encH c.hdr.d).length ≤ 1073741824) (hv : c.votes.length ≤ 1000) (hx : ∀ b, c.foot b → V.heap.size ≤ b ∧ ¬ SD b ∧ ¬ SP b) :
    Calls Tryz.prog 19 #[.pointer (some ⟨db, 0, none⟩), c.v] w fun e w' => e = .returned (.int .i64 (addE (chkC (ksF n) n c.d) (3 * n + 1) d c.hdr.d (idB c.hdr.d) : Int)) ∧ ∃ SD', D1 V n tb rt db pb me SD' SP (addD (chkC (ksF n) n c.d) (3 * n + 1) d c.d (idB c.hdr.d)) ids w' ∧ (∀ k, SD' k → SD k ∨ c.foot k ∨ w.heap.size ≤ k) ∧ Kept SD w w' := by
  refine (pdAdd_any c h.dag (hE.T.below h.bel) hA hfit hlen hv (fun b hb => (hx b hb).2.1)).mono ?_
  rintro e w' ⟨rfl, S', h1, h2, h3⟩
  refine ⟨rfl, S', ⟨h.bel.trans (Kept.below h3 h.bel.size h.dlt), h1, h.ply.kept h3 (fun k e e' => h.off k e' e), fun k hk => ?_, h.plt, fun k hk e => ?_, h.i32⟩, h2, h3⟩
  · rcases h2 k hk with e | e | e
    · exact h.dlt k e
    · exact (hx k e).1
    · exact Nat.le_trans h.bel.size e
  · rcases h2 k hk with e' | e' | e'
    · exact h.off k e' e
    · exact (hx k e').2.2 e
    · have := (h.ply.lt e).2; omega

/-- The next header. -/
theorem D1.next (h : D1 V n tb rt db pb me SD SP d ids w) (hE : DEnv V n tb rt me) :
    Calls Tryz.prog 23 #[.pointer (some ⟨db, 0, none⟩), .slice none 0 0] w fun e w' => ∃ x : HdrM, e = .returned (.tuple #[x.v, .bool (nextOk (2 * n + 1) d)]) ∧ x.d = nextH (2 * n + 1) (me : Int) d [] ∧ x.At w' ∧ (∀ b, x.foot b → w.heap.size ≤ b) ∧ ∃ SD', D1 V n tb rt db pb me SD' SP (nextD (2 * n + 1) d) ids w' ∧ FreshS w SD SD' ∧ Kept SD w w' := by
  refine (pdNext_any h.dag (hE.T.below h.bel)).mono ?_
  rintro e w' ⟨x, rfl, hxd, hxA, hxf, S', h1, h2, h3⟩
  refine ⟨x, rfl, hxd, hxA, hxf, S', ⟨h.bel.trans (Kept.below h3 h.bel.size h.dlt), h1, h.ply.kept h3 (fun k e e' => h.off k e' e), fun k hk => ?_, h.plt, fun k hk e => ?_, h.i32⟩, h2, h3⟩
  · rcases h2 k hk with e | e
    · exact h.dlt k e
    · exact Nat.le_trans h.bel.size e
  · rcases h2 k hk with e' | e'
    · exact h.off k e' e
    · have := (h.ply.lt e).2; omega

/-- The low rises. -/
theorem D1.lows (h : D1 V n tb rt db pb me SD SP d ids w) (hE : DEnv V n tb rt me) (round : Int) :
    Calls Tryz.prog 26 #[.pointer (some ⟨db, 0, none⟩), .int .i64 round] w fun e w' => e = .returned (.int .i64 (lowN d round : Int)) ∧ ∃ SD', D1 V n tb rt db pb me SD' SP (lowD d round) ids w' ∧ FreshS w SD SD' ∧ Kept SD w w' := by
  refine (pdLow_any round h.dag hE.T.f2).mono ?_
  rintro e w' ⟨rfl, S', h1, h2, h3⟩
  refine ⟨rfl, S', ⟨h.bel.trans (Kept.below h3 h.bel.size h.dlt), h1, h.ply.kept h3 (fun k e e' => h.off k e' e), fun k hk => ?_, h.plt, fun k hk e => ?_, h.i32⟩, h2, h3⟩
  · rcases h2 k hk with e | e
    · exact h.dlt k e
    · exact Nat.le_trans h.bel.size e
  · rcases h2 k hk with e' | e'
    · exact h.off k e' e
    · have := (h.ply.lt e).2; omega

theorem inI_mem {need r : Nat} {ids : List (List ByteArray)} {id : ByteArray} {l : List ByteArray} (h : l ∈ inI need ids r id) : ∀ p ∈ l, p = id ∨ ∃ m ∈ ids, p ∈ m := by
  intro p hp
  have hP : ∀ m ∈ inP need ids r, ∀ q ∈ m, ∃ k ∈ ids, q ∈ k := fun m hm q hq => by
    unfold inP at hm
    split at hm
    · rcases List.mem_append.1 hm with hm | hm
      · exact ⟨m, hm, hq⟩
      · rw [List.mem_singleton.1 hm] at hq; cases hq
    · exact ⟨m, hm, hq⟩
  unfold inI at h
  split at h
  · exact Or.inr (hP l h p hp)
  · rcases List.mem_or_eq_of_mem_set h with h | rfl
    · exact Or.inr (hP l h p hp)
    · have hg : ∀ q ∈ (inP need ids r).getD (r - 1) [], ∃ k ∈ ids, q ∈ k := fun q hq => by
        rw [List.getD_eq_getElem?_getD] at hq
        cases hx : (inP need ids r)[r - 1]? with
        | none => rw [hx] at hq; cases hq
        | some m => rw [hx] at hq; exact hP m (List.mem_of_getElem? hx) q hq
      unfold insT at hp
      rcases List.mem_append.1 hp with hp | hp
      · exact Or.inr (hg p (List.mem_of_mem_take hp))
      · rcases List.mem_cons.1 hp with rfl | hp
        · exact Or.inl rfl
        · exact Or.inr (hg p (List.mem_of_mem_drop hp))

/-- A certificate is in. -/
theorem D1.ins (h : D1 V n tb rt db pb me SD SP d ids w) (hE : DEnv V n tb rt me) (c : CertM) (hA : c.At w) (hr1 : 1 ≤ c.hdr.round) (hr2 : c.hdr.round ≤ 4611686018427387903) (hfit : c.hdr.Fit) (hlen : (encH c.hdr.d).length ≤ 1073741824) (hl1 : ids.length < 1000) (hl2 : ∀ l ∈ ids, l.length < 1000) (hx : ∀ b, c.hdr.foot b → ¬ SP b) :
    Calls Tryz.prog 22 #[.pointer (some ⟨pb, 0, none⟩), c.v] w fun e w' => e = .returned (.tuple #[]) ∧ ∃ SP', D1 V n tb rt db pb me SD SP' d (inI (2 * n + 1) ids c.hdr.round.toNat (idB c.hdr.d)) w' ∧ FreshS w SP SP' ∧ Kept SP w w' := by
  have hR := hE.R.below h.bel
  refine (playIn_any pb SP rt n (ksF n) ids c w h.ply hR.T hR.f2 hA hr1 hr2 hfit hlen hl1 hl2 hx).mono ?_
  rintro e w' ⟨rfl, S', h1, h2, h3⟩
  refine ⟨rfl, S', ⟨h.bel.trans (Kept.below h3 h.bel.size h.plt), h.dag.kept h3 h.off, h1, h.dlt, fun k hk => ?_, fun k hk e => ?_, fun l hl p hp => ?_⟩, h2, h3⟩
  · rcases h2 k hk with e | e
    · exact h.plt k e
    · exact Nat.le_trans h.bel.size e
  · rcases h2 k e with e' | e'
    · exact h.off k hk e'
    · have := h.dag.lt hk; omega
  · rcases inI_mem hl p hp with rfl | ⟨m, hm, hpm⟩
    · rw [idB_size]; decide
    · exact h.i32 m hm p hpm
end
end Go.Proofs.YtmjkbdgcnoenbaaGreatDoor

/- Rows of acts. -/
namespace Go.Proofs.YtmjkbdgcnoenbaaGreatDoor
open Go Go.RowKit
set_option linter.unusedVariables false

def opK : Kind OpM where
  n := 10
  c := OpM.c
  foot o b := o.wild.foot b ∨ rowFoot boolK o.va o.votes b
  At w o := o.wild.At w ∧ RowAt boolK w o.va o.votes
  pos := by decide
  len _ := rfl
  one x u hu := by
    simp only [OpM.c, List.mem_cons, List.not_mem_nil, or_false] at hu
    rcases hu with rfl | rfl | rfl | rfl | rfl | rfl | rfl | rfl | rfl | rfl <;> rfl
  lt h hf := hf.elim (fun q => Kind.lt hdrK h.1 q) h.2.lt
  keep h hk := ⟨Kind.keep hdrK h.1 (fun b hb => hk b (Or.inl hb)), h.2.keep (fun b hb => hk b (Or.inr hb))⟩

/-- The ten cells of an act in a row. -/
theorem RowAt.op {w : World} {ao : Option Addr} {l : List OpM} (h : RowAt opK w ao l) {i : Nat} {o : OpM} (ho : l[i]? = some o) :
    ∃ b off, ao = some ⟨b, off, none⟩ ∧ b < w.heap.size ∧ w.cell? ⟨b, off + i * 10, none⟩ = some (.int .i64 o.kind) ∧ w.cell? ⟨b, off + i * 10 + 1, none⟩ = some (.int .i64 o.author) ∧ w.cell? ⟨b, off + i * 10 + 2, none⟩ = some (.int .i64 o.back) ∧ w.cell? ⟨b, off + i * 10 + 3, none⟩ = some (.int .i64 o.odd) ∧ w.cell? ⟨b, off + i * 10 + 4, none⟩ = some (.slice o.va o.votes.length o.vc) ∧ w.cell? ⟨b, off + i * 10 + 5, none⟩ = some (.int .i64 o.round)
      ∧ w.cell? ⟨b, off + i * 10 + 6, none⟩ = some (.int .i64 o.wild.author) ∧ w.cell? ⟨b, off + i * 10 + 7, none⟩ = some (.int .i64 o.wild.round) ∧ w.cell? ⟨b, off + i * 10 + 8, none⟩ = some (.slice o.wild.ra o.wild.refs.length o.wild.rc) ∧ w.cell? ⟨b, off + i * 10 + 9, none⟩ = some (.slice o.wild.pa o.wild.parents.length o.wild.pc) := by
  obtain ⟨b, off, h1, h2, h3⟩ := h.cell i o ho
  exact ⟨b, off, h1, h2, h3 0 _ rfl, h3 1 _ rfl, h3 2 _ rfl, h3 3 _ rfl, h3 4 _ rfl, h3 5 _ rfl, h3 6 _ rfl, h3 7 _ rfl, h3 8 _ rfl, h3 9 _ rfl⟩
end Go.Proofs.YtmjkbdgcnoenbaaGreatDoor

/- tusklaw14.works answers true; nothing old in memory is turned. -/
namespace Go.Proofs.YtmjkbdgcnoenbaaGreatDoor
open Go Go.RowKit
set_option linter.unusedVariables false

/-- An act of an author that is written out. -/
def opA (a b : Int) : OpM := ⟨0, a, b, 0, none, [], 0, 0, ⟨0, 0, none, [], 0, none, [], 0⟩⟩

theorem opA_in (V : World) (a b : Int) : OpIn V (opA a b) :=
  ⟨⟨nil_row _ _, fun _ => rfl, nil_row _ _, fun _ => rfl⟩, nil_row _ _, Nat.zero_le _, bare_fit 0 0 none 0 [] (fun p hp => by cases hp) (by decide), by show (encH ⟨0, 0, [], []⟩).length ≤ _; decide +kernel, ⟨by show 0 * 40 ≤ _; decide, by show 0 * 16 ≤ _; decide, fun r hr => by cases hr⟩⟩

theorem pickN_small {a k : Nat} (h : a < k) (hk : k ≤ 1000) : pickN (a : Int) k = a := by
  unfold pickN
  have e : IntKind.u64.wrap (a : Int) = (a : Int) := by rw [Mx.wrap_u64]; omega
  rw [e, Int.tmod_eq_emod_of_nonneg (by omega), Int.emod_eq_of_lt (by omega) (by omega)]
  omega

/-- The header of such an act, where nothing is in yet. -/
theorem hdrO_first (ks : List ByteArray) (n a : Nat) (b : Int) (ha : a < 3 * n + 1) (hn : n ≤ 2) : hdrO ks n [] (opA (a : Int) b) = hdr1 a := by
  unfold hdrO opA
  simp only [if_true]
  unfold hdrA hdrP
  have e : pickN 0 3 = 0 := by decide
  rw [if_neg (by rw [e]; decide), pickN_small ha (by omega)]
  unfold hdrP0 parP hdr1
  simp

theorem certO_first (ks : List ByteArray) (n a : Nat) (b : Int) (ha : a < 3 * n + 1) (hn : n ≤ 2) : certO ks n [] (opA (a : Int) b) = certA ks n a := by
  unfold certO certA
  rw [hdrO_first ks n a b ha hn]
  rfl

theorem addD_own (chk n : Nat) (d : DagD) (c : CertD) (id : ByteArray) : (addD chk n d c id).own = d.own := by
  unfold addD
  split <;> rfl

theorem fit_same14 {x y : HdrM} (h : y.d = x.d) (hf : x.Fit) : y.Fit := by
  have hr : rd y.refs = rd x.refs := congrArg HdrD.refs h
  have hp : y.parents = x.parents := congrArg HdrD.parents h
  have hl : y.refs.length = x.refs.length := by have := congrArg List.length hr; simpa [rd] using this
  have hm : ∀ r ∈ y.refs, ∃ q ∈ x.refs, q.acks = r.acks := by
    intro r hm
    have h1 : r.d ∈ rd x.refs := by rw [← hr]; exact List.mem_map.2 ⟨r, hm, rfl⟩
    obtain ⟨q, hq, hqr⟩ := List.mem_map.1 h1
    exact ⟨q, hq, congrArg RefD.acks hqr⟩
  refine ⟨by rw [hl]; exact hf.n, by rw [hp]; exact hf.p, fun r hr' => ?_, fun r hr' => ?_, by rw [h]; exact hf.len⟩
  · obtain ⟨q, hq, e⟩ := hm r hr'
    rw [← e]
    exact hf.acks q hq
  · obtain ⟨q, hq, e⟩ := hm r hr'
    rw [← e]
    exact hf.mac q hq

theorem nF_zero : nF 0 = 1 := by decide +kernel

set_option maxRecDepth 100000 in
set_option maxHeartbeats 4000000 in
theorem works14_any (w : World) (hG : Mx.Glob w) : Calls Tryz.prog 36 #[] w fun e w' => e = .returned (.bool true) ∧ Below w.heap.size w w' := by
  have cB := both14_any 0 0 w hG
  rw [nF_zero] at cB
  go_enter Tryz.func36, Tryz.ntmps36
  go_wp2_with fail
  refine cB.mono ?_
  rintro e w1 ⟨V, tb, rt, db, gb, pb, S, rfl, hB⟩
  have hE := hB.env
  have h1 := hB.d1
  have hbw := hB.bw
  generalize pickN 0 (3 * 1 + 1) = me at *
  have hkl : Hid ((ksF 1).length = 3 * 1 + 1) := hE.T.kl
  clear cB hB
  have cN := h1.next hE
  go_wp2_with fail
  refine cN.mono ?_
  rintro e w2 ⟨x, rfl, hxd, hxA, hxf, SD2, h2, hf2, hk2⟩
  have hok : nextOk (2 * 1 + 1) dag0 = true := by decide
  have hxr : x.round = 1 := by
    have : x.d.round = _ := congrArg HdrD.round hxd
    rw [show x.round = x.d.round from rfl, this]
    unfold nextH
    rw [if_pos hok]
    rfl
  have hd2 : nextD (2 * 1 + 1) dag0 = ⟨[], [], 1, 1⟩ := by unfold nextD; rw [if_pos hok]; rfl
  rw [hok]
  rw [hd2] at h2
  have hF0 : First (ksF 1) 1 [] (⟨[], [], 1, 1⟩ : DagD) := ⟨fun y => by simp, rfl, rfl, List.nodup_nil, fun a ha => by cases ha⟩
  obtain ⟨xa, xr, xra, xrs, xrc, xpa, xps, xpc⟩ := x
  have hxr : xr = 1 := hxr
  subst hxr
  clear hxd hxA hxf hok hd2 hf2 hk2 h1 cN
  unfold HdrM.v
  simp only
  have hbn := belowNew w2 (.cells #[.int .i64 xa, .int .i64 1, .slice xra xrs.length xrc, .slice xpa xps.length xpc] 33)
  have hH2 := Arr.new w2 33 [.int .i64 xa, .int .i64 1, .slice xra xrs.length xrc, .slice xpa xps.length xpc]
  have h3 := h2.below hbn
  have hn1 : ¬ SD2 w2.heap.size ∧ ¬ (w2.heap.size = pb) := ⟨fun e => by have := h2.dag.lt e; omega, fun e => by have := (h2.ply.lt (k := pb) rfl).2; omega⟩
  have hVl : V.heap.size ≤ w2.heap.size := h2.bel.size
  obtain ⟨hb, hhb⟩ : ∃ z, Hid (w2.heap.size = z) := ⟨_, rfl⟩
  have x1 := hH2.cell (i := 1) rfl
  clear h2 hbn
  go_wp2_with fail
  rw [hhb.out] at hH2 hn1 hVl x1 ⊢
  generalize w2.alloc _ = w3 at *
  clear x1
  go_loopw [8, 9] (fun v8 _ wr => ∃ (i : Nat) (d : DagD) (qs : List Nat) (SD : Nat → Prop), i ≤ 3 ∧ v8 = .int .i64 (i : Int) ∧ D1 V 1 tb rt db pb me SD (fun k => k = pb) d [] wr ∧ First (ksF 1) 1 qs d ∧ Hid (qs.length = i) ∧ (∀ a ∈ qs, a < i) ∧ Hid (d.own = 1) ∧ Arr wr hb 33 [.int .i64 xa, .int .i64 1, .slice xra xrs.length xrc, .slice xpa xps.length xpc] ∧ ¬ SD hb) (fun v _ _ => 3 - (intOf v).toNat)
  case atStart => exact ⟨0, _, [], SD2, by omega, rfl, h3, hF0, (rfl : _ = _), (fun a ha => by cases ha), (rfl : _ = _), hH2, hn1.1⟩
  case round =>
    obtain ⟨i, d, qs, SD, hi, rfl, hD, hF, hql, hqa, hown, hH, hnS⟩ := hrel
    clear h3 hH2 hF0
    by_cases hi3 : i < 3
    · have g1 : (i : Int) < 3 := by omega
      have cC := hD.cert hE (opA_in V (i : Int) 3)
      rw [certO_first (ksF 1) 1 i 3 (by omega) (by decide)] at cC
      unfold opA OpM.v at cC
      simp only [List.length_nil] at cC
      go_wp2_with fail
      refine cC.mono ?_
      rintro e w4 ⟨c, rfl, hcd, hcA, hcf, hcl, hcL, hcv, hcfo, hb4⟩
      have hD4 := hD.below hb4
      have hH4 := hH.below hb4 hH.lt
      have hlt4 : hb < w4.heap.size := hH4.lt
      have hbn := belowNew w4 (.cells c.c.toArray 48)
      have hc4 := Arr.new w4 48 c.c
      have hD5 := hD4.below hbn
      have hH5 := hH4.below hbn hH4.lt
      have hcA5 := hcA.below hbn
      have cO := own14_any c _ hcA5 hcL (by omega)
      have hne : i ∉ qs := fun e => by have := hqa i e; omega
      have hch : Hid (c.hdr.d = hdr1 i) := congrArg CertD.header hcd
      have hcd' : Hid _ := hcd
      clear hcd
      have e0 := hF.addE (by decide) hkl.out (a := i) (by omega) hne (by have := hql.out; omega)
      have hF' := hF.add (by decide) hkl.out (a := i) (by omega) hne (by have := hql.out; omega)
      unfold CertM.v at cO ⊢
      unfold CertM.c at hc4 hD5 hH5 hcA5 cO
      have k0 := hc4.cell (i := 0) rfl
      have k1 := hc4.cell (i := 1) rfl
      have k2 := hc4.cell (i := 2) rfl
      have k3 := hc4.cell (i := 3) rfl
      have k4 := hc4.cell (i := 4) rfl
      clear hD hH hb4 cC hD4 hH4 hcA hbn hcA5
      go_wp2_with fail
      refine cO.mono ?_
      rintro e w6 ⟨y, rfl, hyd, hyA, hyf, hb6⟩
      have hyh : y.hdr.d = hdr1 i := by rw [← hch.out]; exact congrArg CertD.header hyd
      have hyd' : y.d = certA (ksF 1) 1 i := hyd.trans hcd'.out
      have hyv : y.votes = c.votes := congrArg CertD.votes hyd
      have hD6 := hD5.below hb6
      have hH6 := hH5.below hb6 hH5.lt
      have hsz5 : V.heap.size ≤ _ := hD5.bel.size
      have cA := hD6.add hE y hyA (fit_same14 (hyh.trans hch.out.symm) hcf) (by rw [hyh, ← hch.out]; exact hcl) (by rw [hyv]; omega) (fun b hf => by
        have h1 := hyf b hf
        exact ⟨Nat.le_trans hsz5 h1, fun e => by have := hD5.dag.lt e; omega, fun e => by have := (hD5.ply.lt e).2; omega⟩)
      rw [hyd', hyh, e0] at cA
      have hnf : ¬ y.foot hb := fun e => by have := hyf hb e; have := hH5.lt; omega
      clear cO k0 k1 k2 k3 k4 hc4 hD5 hH5 hb6 hyh hyd' hyv hyd
      unfold CertM.v at cA ⊢
      go_wp2_with fail
      refine cA.mono ?_
      rintro e w7 ⟨rfl, SD', hD7, hf7, hk7⟩
      have hH7 := hH6.kept hk7 hnS
      have hnS' : ¬ SD' hb := fun e => by
        rcases hf7 hb e with e | e | e
        · exact hnS e
        · exact hnf e
        · have := hH6.lt; omega
      have hown' : Hid ((addD (chkC (ksF 1) 1 (certA (ksF 1) 1 i)) (3 * 1 + 1) d (certA (ksF 1) 1 i) (idB (hdr1 i))).own = 1) := by
        show _ = _
        rw [addD_own]
        exact hown.out
      generalize addD (chkC (ksF 1) 1 (certA (ksF 1) 1 i)) (3 * 1 + 1) d (certA (ksF 1) 1 i) (idB (hdr1 i)) = d' at *
      clear cA hf7 hk7 hnf hD6 hH6
      go_wp2
      go_roundw
      case rel => exact ⟨i + 1, d', i :: qs, SD', by omega, by go_num, hD7, hF', by show _ = _; rw [List.length_cons, hql.out], (fun a ha => by rcases List.mem_cons.1 ha with rfl | ha; omega; have := hqa a ha; omega), hown', hH7, hnS'⟩
      case measure => simp [intOf]; omega
    · obtain rfl : i = 3 := by omega
      have g1 : ¬ ((3 : Int) < 3) := by omega
      have hrd : Hid (roundC (2 * 1 + 1) d.L = 1) := hF.round (by have := hql.out; omega) (by have := hql.out; omega)
      have hil : Hid ((idsC d.L 1).length = 3) := hF.ids.trans hql.out
      have hok : nextOk (2 * 1 + 1) d = true := by
        unfold nextOk
        rw [hrd.out, hown.out, hF.low]
        decide
      have cN := hD.next hE
      rw [hok] at cN
      go_wp2_with fail
      refine cN.mono ?_
      rintro e w4 ⟨x, rfl, hxd, hxA, hxf, SD', h4, hf4, hk4⟩
      have hH4 := hH.kept hk4 hnS
      have hx2 : x.round = 2 := by
        have : x.d.round = _ := congrArg HdrD.round hxd
        rw [show x.round = x.d.round from rfl, this]
        unfold nextH
        rw [if_pos hok, hrd.out]
        rfl
      have hx3 : x.parents.length = 3 := by
        have : x.d.parents = _ := congrArg HdrD.parents hxd
        rw [show x.parents = x.d.parents from rfl, this]
        unfold nextH
        rw [if_pos hok, hrd.out]
        exact hil.out
      have hL4 : Hid (roundC (2 * 1 + 1) (nextD (2 * 1 + 1) d).L = 1) := by
        show _ = _
        unfold nextD
        rw [if_pos hok]
        exact hrd.out
      obtain ⟨ya, yr, yra, yrs, yrc, ypa, yps, ypc⟩ := x
      have hx2 : yr = 2 := hx2
      subst hx2
      replace hx3 : Hid (yps.length = 3) := hx3
      have hnS' : ¬ SD' hb := fun e => by
        rcases hf4 hb e with e | e
        · exact hnS e
        · have := hH.lt; omega
      clear hxd hxA hxf hf4 hk4 cN hok hD hH
      unfold HdrM.v
      simp only
      have z0 := hH4.cell (i := 0) rfl
      have z1 := hH4.cell (i := 1) rfl
      have z2 := hH4.cell (i := 2) rfl
      have z3 := hH4.cell (i := 3) rfl
      have y0 := hH4.frozen 0
      have y1 := hH4.frozen 1
      have y2 := hH4.frozen 2
      have y3 := hH4.frozen 3
      have kF := kept_set4 w4 hb (.int .i64 ya) (.int .i64 2) (.slice yra yrs.length yrc) (.slice ypa yps.length ypc)
      have hZF := hH4.set4 (.int .i64 ya) (.int .i64 2) (.slice yra yrs.length yrc) (.slice ypa yps.length ypc)
      have h5 := h4.kept kF (fun k e => by have e' : k = hb := e; rw [e']; exact ⟨hVl, hnS', hn1.2⟩)
      unfold set4 at hZF h5
      clear kF h4 hH4
      go_upto_region 14 with fail
      generalize World.setCell _ _ _ = w5 at hZF h5 ⊢
      have q1 := hZF.cell (i := 1) rfl
      have q3 := hZF.cell (i := 3) rfl
      rw [hx3.out] at q3
      have cR := pdRound_any h5.dag (hE.T.below h5.bel)
      rw [hL4.out] at cR
      go_wp2_with fail
      refine cR.mono ?_
      rintro e w6 ⟨rfl, hb6⟩
      have hbF : Below w.heap.size w w6 := hbw.trans (((h5.below hb6).bel).mono hbw.size)
      clear cR
      go_wp2
      go_ret
      exact ⟨rfl, hbF⟩
end Go.Proofs.YtmjkbdgcnoenbaaGreatDoor

/- A whole element of a row of the call's own is written. -/
namespace Go.Proofs.YtmjkbdgcnoenbaaGreatDoor
open Go Go.RowKit
set_option linter.unusedVariables false

theorem setCells_kept (g : Nat) : ∀ (vs : List Value) (o : Nat) (w : World), Kept (fun k => k = g) w (w.setCells g o vs)
  | [], _, w => Kept.refl _ _
  | v :: vs, o, w => (Kept.setCell w ⟨g, o, none⟩ v).trans (setCells_kept g vs (o + 1) (w.setCell ⟨g, o, none⟩ v))

section
variable {α : Type} {K : Kind α}

theorem flatK_split : ∀ (l : List α) (i : Nat) (x : α), l[i]? = some x → ∃ a b, a.length = i * K.n ∧ flatK K l = a ++ K.c x ++ b ∧ ∀ y, flatK K (l.set i y) = a ++ K.c y ++ b
  | [], _, _, h => by simp at h
  | z :: r, 0, x, h => by
    simp at h
    subst h
    exact ⟨[], flatK K r, by simp, by simp [flatK], fun y => by simp [flatK]⟩
  | z :: r, i + 1, x, h => by
    obtain ⟨a, b, h1, h2, h3⟩ := flatK_split r i x (by simpa using h)
    have e : ∀ m : List α, flatK K (z :: m) = K.c z ++ flatK K m := fun m => by simp [flatK]
    refine ⟨K.c z ++ a, b, ?_, ?_, fun y => ?_⟩
    · rw [List.length_append, K.len, h1, Nat.add_mul]; omega
    · rw [e, h2]; simp
    · rw [List.set_cons_succ, e, h3]; simp

/-- Where an element of a row of the call's own lies; what becomes of the row when another one is written there. -/
theorem KQ.setWhole {T : TypeId} {w : World} {base : Nat} {ao : Option Addr} {n cap : Nat} {l : List α} (h : KQ K T w base (.slice ao n cap) l) {i : Nat} {x : α} (hx : l[i]? = some x) :
    ∃ g off, ao = some ⟨g, off, none⟩ ∧ base ≤ g ∧ g < w.heap.size ∧ (∀ k v, (K.c x)[k]? = some v → w.cell? ⟨g, off + i * K.n + k, none⟩ = some v) ∧ (∀ o, w.frozen? ⟨g, o, none⟩ = false) ∧
      ∀ y : α, K.At w y → (∀ b, K.foot y b → b ≠ g) → KQ K T (w.setCells g (off + i * K.n) (K.c y)) base (.slice ao n cap) (l.set i y) := by
  obtain ⟨g0, off0, q1, q2, q3, q4, q5, _⟩ := h.set hx
  have hi := (List.getElem?_eq_some_iff.1 hx).1
  refine ⟨g0, off0, q1, q2, q3, q4, q5, fun y hy hf => ?_⟩
  rcases h.row.2 with ⟨ao', hv, hn⟩ | ⟨g, pre, post, cap', hv, hb, hg, hnc, hcm, hpl⟩
  · simp at hv
    omega
  · simp only [Value.slice.injEq] at hv
    obtain ⟨rfl, rfl, rfl⟩ := hv
    simp only [Option.some.injEq, Addr.mk.injEq, and_true] at q1
    obtain ⟨rfl, rfl⟩ := q1
    obtain ⟨a, b, s1, s2, s3⟩ := flatK_split (K := K) l i x hx
    have hA : Arr (w.setCells g (pre.length + i * K.n) (K.c y)) g T (pre ++ flatK K (l.set i y) ++ post) := by
      have h1 : Arr w g T ((pre ++ a) ++ K.c x ++ (b ++ post)) := by
        have e : (pre ++ a) ++ K.c x ++ (b ++ post) = pre ++ flatK K l ++ post := by rw [s2]; simp
        rw [e]; exact hg
      have h2 := Arr.setCells (K.c y) w (pre ++ a) (K.c x) (b ++ post) (by rw [K.len, K.len]) h1
      rw [List.length_append, s1] at h2
      have e : (pre ++ a) ++ K.c y ++ (b ++ post) = pre ++ flatK K (l.set i y) ++ post := by rw [s3]; simp
      rw [← e]; exact h2
    have kk := setCells_kept g (K.c y) (pre.length + i * K.n) w
    have hown : (Value.slice (some ⟨g, pre.length, none⟩) l.length cap).ownBlock = some g := rfl
    refine ⟨⟨by rw [flatK_length, List.length_set], Or.inr ⟨g, pre, post, cap, by rw [List.length_set], hb, hA, by rw [List.length_set]; exact hnc, hcm, by rw [List.length_set]; exact hpl⟩⟩, ?_, ?_, ?_, ?_⟩
    · intro z hz
      rcases List.mem_or_eq_of_mem_set hz with hz | rfl
      · exact K.kept (h.at_ z hz) kk (fun b hb' e => h.off z hz b hb' (by rw [hown, e]))
      · exact K.kept hy kk (fun b hb' e => hf b hb' e)
    · intro z hz b hb'
      rcases List.mem_or_eq_of_mem_set hz with hz | rfl
      · exact h.off z hz b hb'
      · intro e
        have e' : g = b := by simpa [Value.ownBlock] using e
        exact hf b hb' e'.symm
    · intro q hq
      have := h.lt q hq
      exact ⟨this.1, Nat.lt_of_lt_of_le this.2 kk.size⟩
    · exact h.nil
end
end Go.Proofs.YtmjkbdgcnoenbaaGreatDoor

/- DagParents' row of certificates and its header, beside the dag and the maker. -/
namespace Go.Proofs.YtmjkbdgcnoenbaaGreatDoor
open Go Go.RowKit
set_option linter.unusedVariables false

theorem certInfo14 : ∃ i z, Tryz.prog.info? 48 = some i ∧ i.zero = some z ∧ i.size = 5 ∧ i.bytes = 88 ∧ z.cells.size = 5 := by
  have h : (Tryz.prog.info? 48).map (fun i => (i.size, i.bytes, i.zero.map (fun z => z.cells.size))) = some (5, 88, some 5) := by kernel_rfl
  cases hi : Tryz.prog.info? 48 with
  | none => rw [hi] at h; cases h
  | some i =>
    rw [hi] at h
    simp only [Option.map_some, Option.some.injEq, Prod.mk.injEq] at h
    obtain ⟨h1, h2, h3⟩ := h
    cases hz : i.zero with
    | none => rw [hz] at h3; cases h3
    | some z =>
      rw [hz] at h3
      simp only [Option.map_some, Option.some.injEq] at h3
      exact ⟨i, z, rfl, hz, h1, h2, h3⟩

theorem RowAt.cert5 {w : World} {ao : Option Addr} {l : List CertM} (h : RowAt certK w ao l) {i : Nat} {x : CertM} (hx : l[i]? = some x) :
    ∃ b off, ao = some ⟨b, off, none⟩ ∧ b < w.heap.size ∧ w.cell? ⟨b, off + i * 5, none⟩ = some (.int .i64 x.hdr.author) ∧ w.cell? ⟨b, off + i * 5 + 1, none⟩ = some (.int .i64 x.hdr.round) ∧ w.cell? ⟨b, off + i * 5 + 2, none⟩ = some (.slice x.hdr.ra x.hdr.refs.length x.hdr.rc) ∧ w.cell? ⟨b, off + i * 5 + 3, none⟩ = some (.slice x.hdr.pa x.hdr.parents.length x.hdr.pc) ∧ w.cell? ⟨b, off + i * 5 + 4, none⟩ = some (.slice x.va x.votes.length x.vc) := by
  obtain ⟨b, off, h1, h2, h3⟩ := h.cell i x hx
  exact ⟨b, off, h1, h2, h3 0 _ rfl, h3 1 _ rfl, h3 2 _ rfl, h3 3 _ rfl, h3 4 _ rfl⟩

theorem certOne (w : World) (x : CertM) (hA : x.At w) : RowAt certK (w.alloc (.cells #[.int .i64 x.hdr.author, .int .i64 x.hdr.round, .slice x.hdr.ra x.hdr.refs.length x.hdr.rc, .slice x.hdr.pa x.hdr.parents.length x.hdr.pc, .slice x.va x.votes.length x.vc] 48)) (some ⟨w.heap.size, 0, none⟩) [x] := by
  refine ⟨fun i y hy => ?_, fun y hy => ?_⟩
  · have hi := (List.getElem?_eq_some_iff.1 hy).1
    have h0 : i = 0 := by simp at hi; omega
    subst h0
    simp at hy
    subst hy
    refine ⟨w.heap.size, 0, rfl, by rw [alloc_size]; omega, fun k v hv => ?_⟩
    have := (Arr.new w 48 x.c).cell (i := k) hv
    rw [Nat.zero_add]
    have e : 0 * certK.n = 0 := Nat.zero_mul _
    rw [e, Nat.zero_add]
    exact this
  · rw [List.mem_singleton.1 hy]
    exact hA.below (belowNew w _)

section
variable {P : Program} {md : Region.Mode} {ops : Array Oper} {Q : Exit → Act → World → Prop}

theorem wpAny_takeD {i : Nat} {oi : Oper} {v : Value} {fuel : Nat} {listed : Array Bool} {a : Act} {w : World} (d : Option Nat) (hi : ops[i]? = some oi) (hd : oi.dst = d)
    (hs : Region.noSelect ops = true) (hf : Region.free md ops listed i = true) (hr : (Region.ready md ops listed).contains i = true)
    (hQ : ∀ c a w, Q (.panic c) (a.put d v) w → Q (.panic c) a w) (hy : Yields P ops oi v a)
    (h : wpAny P md ops Q fuel (listed.setIfInBounds i true) (a.put d v) w) : wpAny P md ops Q (fuel + 1) listed a w := by
  subst hd
  exact wpAny_take hi hs hf hr hQ hy h

theorem allReady_wantD {fuel : Nat} {listed : Array Bool} {a : Act} {w : World} {i : Nat} {o : Oper} {rs : List Nat} (d : Option Nat) (ho : ops[i]? = some o) (hd : o.dst = d)
    (hw : Region.wanted o (yielded ops a.tmps) = true)
    (h : ∀ K' : Act → World → Prop, (∀ v w, wpAny P md ops Q fuel (listed.setIfInBounds i true) (a.put d v) w → K' (a.put o.dst v) w) → Oper.wp P o a w K' Q)
    (hs : AllReady P md ops Q fuel listed a w rs) : AllReady P md ops Q fuel listed a w (i :: rs) := by
  subst hd
  exact Go.BigFrame.allReady_want ho hw (fun K' hK => h K' (fun v w hW => hK _ _ hW)) hs
end

/-- The header of an act upon the first round. -/
theorem hdrO_up (ks : List ByteArray) (n : Nat) (hn1 : 1 ≤ n) (hn : n ≤ 2) : hdrO ks n [upIds (2 * n + 1)] (opA ((1 : Nat) : Int) 0) = hdrUp (2 * n + 1) := by
  unfold hdrO opA
  simp only [if_true]
  unfold hdrA hdrP
  have e : pickN 0 3 = 0 := by decide
  have e4 : pickN 0 4 = 0 := by decide
  rw [if_neg (by rw [e]; decide), pickN_small (by omega : 1 < 3 * n + 1) (by omega), e4]
  unfold hdrP0 parP hdrUp
  simp

/-- The row of certificates. -/
structure LP (V : World) (n : Nat) (SD SP : Nat → Prop) (v : Value) (L : List CertM) (qs : List Nat) (w : World) : Prop where
  row : KQ certK 48 w V.heap.size v L
  dat : L.map CertM.d = qs.map (certA (ksF n) n)
  fit : ∀ c ∈ L, c.hdr.Fit ∧ (encH c.hdr.d).length ≤ 1073741824 ∧ c.hdr.Lens ∧ c.votes.length ≤ 7
  offq : ∀ k, v.ownBlock = some k → ¬ SD k ∧ ¬ SP k
  off : ∀ c ∈ L, ∀ b, c.foot b → ¬ SD b ∧ ¬ SP b

section
variable {V w w' w0 : World} {n : Nat} {SD SP SD' SP' S : Nat → Prop} {v : Value} {L : List CertM} {qs : List Nat}

theorem LP.below (h : LP V n SD SP v L qs w) (hb : Below w.heap.size w w') : LP V n SD SP v L qs w' := ⟨h.row.below hb, h.dat, h.fit, h.offq, h.off⟩

theorem LP.move (h0 : LP V n SD SP v L qs w0) (h : LP V n SD SP v L qs w) (hk : Kept S w w') (hS : ∀ k, S k → SD k ∨ SP k) (hD : ∀ k, SD' k → SD k ∨ w0.heap.size ≤ k) (hP : ∀ k, SP' k → SP k ∨ w0.heap.size ≤ k) : LP V n SD' SP' v L qs w' := by
  refine ⟨h.row.kept hk (fun k hk' e => (hS k e).elim (h.offq k hk').1 (h.offq k hk').2) (fun x hx b hf e => (hS b e).elim (h.off x hx b hf).1 (h.off x hx b hf).2), h.dat, h.fit, fun k hk' => ⟨fun e => ?_, fun e => ?_⟩, fun c hc b hf => ⟨fun e => ?_, fun e => ?_⟩⟩
  · rcases hD k e with e | e
    · exact (h.offq k hk').1 e
    · have := (h0.row.lt k hk').2; omega
  · rcases hP k e with e | e
    · exact (h.offq k hk').2 e
    · have := (h0.row.lt k hk').2; omega
  · rcases hD b e with e | e
    · exact (h.off c hc b hf).1 e
    · have := Kind.lt certK (h0.row.at_ c hc) hf; omega
  · rcases hP b e with e | e
    · exact (h.off c hc b hf).2 e
    · have := Kind.lt certK (h0.row.at_ c hc) hf; omega

theorem LP.len (h : LP V n SD SP v L qs w) : L.length = qs.length := by
  have := congrArg List.length h.dat
  simpa using this

theorem LP.get (h : LP V n SD SP v L qs w) {i : Nat} (hi : i < L.length) : ∃ c a, L[i]? = some c ∧ qs[i]? = some a ∧ c.d = certA (ksF n) n a := by
  have hi' : i < qs.length := by rw [← h.len]; exact hi
  refine ⟨L[i], qs[i], List.getElem?_eq_getElem hi, List.getElem?_eq_getElem hi', ?_⟩
  have e := congrArg (fun m => m[i]?) h.dat
  simp only [List.getElem?_map, List.getElem?_eq_getElem hi, List.getElem?_eq_getElem hi', Option.map_some, Option.some.injEq] at e
  exact e

/-- The header upon them, in its box. -/
structure HP (V : World) (N : Nat) (SD SP : Nat → Prop) (v : Value) (hb : Nat) (x : HdrM) (w : World) : Prop where
  box : Arr w hb 33 x.c
  at_ : x.At w
  dat : x.d = hdrUp N
  fit : x.Fit
  len : (encH x.d).length ≤ 1073741824
  lens : x.Lens
  offb : V.heap.size ≤ hb ∧ ¬ SD hb ∧ ¬ SP hb ∧ v.ownBlock ≠ some hb
  off : ∀ b, x.foot b → ¬ SD b ∧ ¬ SP b ∧ v.ownBlock ≠ some b

variable {N hb : Nat} {x : HdrM}

theorem HP.below (h : HP V N SD SP v hb x w) (hb' : Below w.heap.size w w') : HP V N SD SP v hb x w' := ⟨h.box.below hb' h.box.lt, h.at_.below hb', h.dat, h.fit, h.len, h.lens, h.offb, h.off⟩

theorem HP.move (h0 : HP V N SD SP v hb x w0) (h : HP V N SD SP v hb x w) (hk : Kept S w w') (hS : ∀ k, S k → SD k ∨ SP k) (hD : ∀ k, SD' k → SD k ∨ w0.heap.size ≤ k) (hP : ∀ k, SP' k → SP k ∨ w0.heap.size ≤ k) : HP V N SD' SP' v hb x w' := by
  refine ⟨h.box.kept hk (fun e => (hS hb e).elim h.offb.2.1 h.offb.2.2.1), Kind.kept hdrK h.at_ hk (fun b hf e => (hS b e).elim (h.off b hf).1 (h.off b hf).2.1), h.dat, h.fit, h.len, h.lens, ⟨h.offb.1, fun e => ?_, fun e => ?_, h.offb.2.2.2⟩, fun b hf => ⟨fun e => ?_, fun e => ?_, (h.off b hf).2.2⟩⟩
  · rcases hD hb e with e | e
    · exact h.offb.2.1 e
    · have := h0.box.lt; omega
  · rcases hP hb e with e | e
    · exact h.offb.2.2.1 e
    · have := h0.box.lt; omega
  · rcases hD b e with e | e
    · exact (h.off b hf).1 e
    · have := Kind.lt hdrK h0.at_ hf; omega
  · rcases hP b e with e | e
    · exact (h.off b hf).2.1 e
    · have := Kind.lt hdrK h0.at_ hf; omega

/-- The row is turned. -/
theorem HP.turned (h : HP V N SD SP v hb x w) (hk : Kept (fun k => v.ownBlock = some k) w w') : HP V N SD SP v hb x w' :=
  ⟨h.box.kept hk h.offb.2.2.2, Kind.kept hdrK h.at_ hk (fun b hf => (h.off b hf).2.2), h.dat, h.fit, h.len, h.lens, h.offb, h.off⟩

/-- Two are put in each other's place. -/
theorem LP.swap {ao : Option Addr} {k cap : Nat} (h : LP V n SD SP (.slice ao k cap) L qs w) {i j : Nat} {c e : CertM} {a b : Nat} (hc : L[i]? = some c) (he : L[j]? = some e) (ha : qs[i]? = some a) (hb : qs[j]? = some b) :
    ∃ g off, ao = some ⟨g, off, none⟩ ∧ g < w.heap.size ∧ (∀ o, w.frozen? ⟨g, o, none⟩ = false) ∧ (∀ m u, e.c[m]? = some u → w.cell? ⟨g, off + j * 5 + m, none⟩ = some u) ∧ (∀ m u, c.c[m]? = some u → w.cell? ⟨g, off + i * 5 + m, none⟩ = some u) ∧ Kept (fun k => k = g) w ((w.setCells g (off + i * 5) e.c).setCells g (off + j * 5) c.c) ∧
      LP V n SD SP (.slice ao k cap) ((L.set i e).set j c) ((qs.set i b).set j a) ((w.setCells g (off + i * 5) e.c).setCells g (off + j * 5) c.c) := by
  have hcm := List.mem_of_getElem? hc
  have hem := List.mem_of_getElem? he
  obtain ⟨g, off, rfl, q2, q3, q4, q5, q6⟩ := h.row.setWhole hc
  have hown : (Value.slice (some ⟨g, off, none⟩) k cap).ownBlock = some g := rfl
  have h1 := q6 e (h.row.at_ e hem) (fun b hb e' => h.row.off e hem b hb (by rw [hown, e']))
  have hj := (List.getElem?_eq_some_iff.1 he).1
  obtain ⟨z, hz⟩ : ∃ z, (L.set i e)[j]? = some z := ⟨_, List.getElem?_eq_getElem (by rw [List.length_set]; exact hj)⟩
  obtain ⟨g', off', r1, r2, r3, r4, r5, r6⟩ := h1.setWhole hz
  simp only [Option.some.injEq, Addr.mk.injEq, and_true] at r1
  obtain ⟨rfl, rfl⟩ := r1
  have kk := setCells_kept g (certK.c e) (off + i * certK.n) w
  have h2 := r6 c (Kind.kept certK (h.row.at_ c hcm) kk (fun b hb e' => h.row.off c hcm b hb (by rw [hown, e']))) (fun b hb e' => h.row.off c hcm b hb (by rw [hown, e']))
  have hmem : ∀ y, y ∈ (L.set i e).set j c → y ∈ L := fun y hy => by
    rcases List.mem_or_eq_of_mem_set hy with hy | rfl
    · rcases List.mem_or_eq_of_mem_set hy with hy | rfl
      · exact hy
      · exact hem
    · exact hcm
  obtain ⟨g2, off2, s1, _, _, s4, _, _⟩ := h.row.setWhole he
  simp only [Option.some.injEq, Addr.mk.injEq, and_true] at s1
  obtain ⟨rfl, rfl⟩ := s1
  refine ⟨g, off, rfl, q3, q5, s4, q4, kk.trans (setCells_kept g (certK.c c) (off + j * certK.n) _), h2, ?_, fun y hy => h.fit y (hmem y hy), h.offq, fun y hy => h.off y (hmem y hy)⟩
  have hd : ∀ (y : CertM) (m : Nat) (p : Nat), L[m]? = some y → qs[m]? = some p → y.d = certA (ksF n) n p := fun y m p h1 h2 => by
    have e := congrArg (fun t => t[m]?) h.dat
    simp only [List.getElem?_map, h1, h2, Option.map_some, Option.some.injEq] at e
    exact e
  rw [List.map_set, List.map_set, h.dat, hd c i a hc ha, hd e j b he hb, List.map_set, List.map_set]
end
end Go.Proofs.YtmjkbdgcnoenbaaGreatDoor
