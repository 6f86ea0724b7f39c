/- Texts as one: DagSt, RefDag, RefDagIds, RefDagLow, RefDagMiss. -/
import Derived.Test.YtmjkbdgcnoenbaaGreatDoorDd15
import Derived.Test.YtmjkbdgcnoenbaaGreatDoorDd16
import Derived.Test.YtmjkbdgcnoenbaaGreatDoorDd08
import Derived.Test.YtmjkbdgcnoenbaaGreatDoorDd09
import Derived.Test.YtmjkbdgcnoenbaaGreatDoorDd03
import Derived.BigQuiet
import Derived.Lib.QuietBelow
import Derived.Test.YtmjkbdgcnoenbaaGreatDoorDd13
import Derived.Test.YtmjkbdgcnoenbaaGreatDoorDd10
import Derived.Deep.RegionHeld3
/- The program's dag and the maker side by side, and each act on them. -/
namespace Go.Proofs.YtmjkbdgcnoenbaaGreatDoor
open Go Go.RowKit
set_option linter.unusedVariables false

structure D1 (V : World) (n tb rt db pb me : Nat) (SD SP : Nat → Prop) (d : DagD) (ids : List (List ByteArray)) (w : World) : Prop where
 bel : Below V.heap.size V w
 dag : PD w db SD tb n (ksF n) me d
 ply : Pl w pb SP rt ids
 dlt : ∀ k, SD k → V.heap.size ≤ k
 plt : ∀ k, SP k → V.heap.size ≤ k
 off : ∀ k, SD k → ¬ SP k
 i32 : ∀ l ∈ ids, ∀ p ∈ l, p.size ≤ 1000

structure DEnv (V : World) (n tb rt me : Nat) : Prop where
 T : TEnv V tb n (ksF n)
 R : TEnv V rt n (ksF n)
 hs : me < 3 * n + 1

structure OpIn (V : World) (o : OpM) : Prop where
 wild : o.wild.At V
 votes : RowAt boolK V o.va o.votes
 vl : o.votes.length ≤ maxLen
 fit : o.wild.Fit
 len : (encH o.wild.d).length ≤ 1073741824
 lens : o.wild.Lens

theorem OpIn.below {V V' : World} {o : OpM} (h : OpIn V o) (hb : Below V.heap.size V V') : OpIn V' o := ⟨h.wild.below hb, h.votes.below hb, h.vl, h.fit, h.len, h.lens⟩

section
variable {V w w' : World} {n tb rt db pb me : Nat} {SD SP : Nat → Prop} {d : DagD} {ids : List (List ByteArray)}

theorem D1.below (h : D1 V n tb rt db pb me SD SP d ids w) (hb : Below w.heap.size w w') : D1 V n tb rt db pb me SD SP d ids w' :=
 ⟨h.bel.trans (hb.mono h.bel.size), h.dag.below hb, h.ply.below hb, h.dlt, h.plt, h.off, h.i32⟩

theorem D1.kept {S : Nat → Prop} (h : D1 V n tb rt db pb me SD SP d ids w) (hk : Kept S w w') (hS : ∀ k, S k → V.heap.size ≤ k ∧ ¬ SD k ∧ ¬ SP k) : D1 V n tb rt db pb me SD SP d ids w' :=
 ⟨h.bel.trans (Kept.below hk h.bel.size (fun k e => (hS k e).1)), h.dag.kept hk (fun k e e' => (hS k e').2.1 e), h.ply.kept hk (fun k e e' => (hS k e').2.2 e), h.dlt, h.plt, h.off, h.i32⟩

theorem GotBoth.d1 {W : World} {gb : Nat} {S : Nat → Prop} (h : GotBoth W V n me tb rt db gb pb S w) : D1 V n tb rt db pb me S (fun k => k = pb) dag0 [] w :=
 ⟨h.bel, h.d, h.p, fun k hk => (h.dlt k hk).1, fun k hk => by have := h.glt; omega, fun k hk e => by have := (h.dlt k hk).2; have := h.glt; omega, fun l hl => by cases hl⟩

theorem GotBoth.env {W : World} {gb : Nat} {S : Nat → Prop} (h : GotBoth W V n me tb rt db gb pb S w) : DEnv V n tb rt me := ⟨h.T, h.R, h.hs⟩

theorem D1.header (h : D1 V n tb rt db pb me SD SP d ids w) (hE : DEnv V n tb rt me) {o : OpM} (hO : OpIn V o) :
  Calls Tryz.prog 11 #[.pointer (some ⟨pb, 0, none⟩), o.v] w fun e w' => ∃ x : HdrM, e = .returned x.v ∧ x.d = hdrO (ksF n) n ids o ∧ x.At w' ∧ x.Fit ∧ (encH x.d).length ≤ 1073741824 ∧ x.Lens ∧ (∀ b, x.foot b → b < V.heap.size ∨ w.heap.size ≤ b) ∧ Below w.heap.size w w' := by
 obtain ⟨q, xs, hids, hS, hP⟩ := h.ply
 have hi32 : ∀ x ∈ xs, ∀ i ∈ x.l, i.size ≤ 1000 := fun x hx => h.i32 x.l (by rw [hids]; exact List.mem_map_of_mem hx)
 have hR := hE.R.below h.bel
 refine (playHdr_any pb q rt n (ksF n) xs o w hP hR.T hR.f2 hR.f1 hR.kl hR.k32 hi32 (hO.wild.below h.bel) hR.G).mono ?_
 rintro e w' ⟨x, rfl, hxd, hxA, hxo, hb⟩
 rw [← hids] at hxd
 have hsm : x.Fit ∧ (encH x.d).length ≤ 1073741824 ∧ x.Lens := by
  rcases hxo with ⟨h1, rfl⟩ | ⟨h1, _⟩
  ·exact ⟨hO.fit, hO.len, hO.lens⟩
  ·unfold hdrO at hxd
   rw [if_pos h1] at hxd
   have h2 := hdrP_small (ks := ksF n) (ids := ids) (by have := hR.kl; have := hR.f2; omega) (fun l hl => by
    rw [hids] at hl
    obtain ⟨y, hy, rfl⟩ := List.mem_map.1 hl
    exact hP.few' y hy) h.i32 hxd
   exact ⟨h2.1, by omega, ⟨by have := h2.1.n; omega, by have := h2.1.p; omega, fun r hr => by have := h2.1.acks r hr; omega⟩⟩
 refine ⟨x, rfl, hxd, hxA, hsm.1, hsm.2.1, hsm.2.2, fun b hf => ?_, hb⟩
 rcases hxo with ⟨_, rfl⟩ | ⟨_, hx⟩
 ·exact Or.inl (Kind.lt hdrK hO.wild hf)
 ·exact Or.inr (hx b hf)

theorem D1.cert (h : D1 V n tb rt db pb me SD SP d ids w) (hE : DEnv V n tb rt me) {o : OpM} (hO : OpIn V o) :
  Calls Tryz.prog 18 #[.pointer (some ⟨pb, 0, none⟩), o.v] w fun e w' => ∃ x : CertM, e = .returned x.v ∧ x.d = certO (ksF n) n ids o ∧ x.At w' ∧ x.hdr.Fit ∧ (encH x.hdr.d).length ≤ 1073741824 ∧ x.hdr.Lens ∧ x.votes.length ≤ 7 ∧ (∀ b, x.foot b → b < V.heap.size ∨ w.heap.size ≤ b) ∧ Below w.heap.size w w' := by
 obtain ⟨q, xs, hids, hS, hP⟩ := h.ply
 have hi32 : ∀ x ∈ xs, ∀ i ∈ x.l, i.size ≤ 1000 := fun x hx => h.i32 x.l (by rw [hids]; exact List.mem_map_of_mem hx)
 have hR := hE.R.below h.bel
 refine (playCert_any pb q rt n (ksF n) xs o w hP hR.T hR.f2 hR.f1 hR.kl hR.k32 hi32 (hO.wild.below h.bel) (hO.votes.below h.bel) hO.vl (fun _ => ⟨hO.fit, hO.len⟩) hR.G).mono ?_
 rintro e w' ⟨x, rfl, hxd, hxA, hxo, hxv, hb⟩
 rw [← hids] at hxd
 have hxh : x.hdr.d = hdrO (ksF n) n ids o := congrArg CertD.header hxd
 have hxt : x.votes = _ := congrArg CertD.votes hxd
 have hsm : x.hdr.Fit ∧ (encH x.hdr.d).length ≤ 1073741824 ∧ x.hdr.Lens := by
  rcases hxo with ⟨h1, e⟩ | ⟨h1, _⟩
  ·rw [e]; exact ⟨hO.fit, hO.len, hO.lens⟩
  ·unfold hdrO at hxh
   rw [if_pos h1] at hxh
   have h2 := hdrP_small (ks := ksF n) (ids := ids) (by have := hR.kl; have := hR.f2; omega) (fun l hl => by
    rw [hids] at hl
    obtain ⟨y, hy, rfl⟩ := List.mem_map.1 hl
    exact hP.few' y hy) h.i32 hxh
   exact ⟨h2.1, by omega, ⟨by have := h2.1.n; omega, by have := h2.1.p; omega, fun r hr => by have := h2.1.acks r hr; omega⟩⟩
 refine ⟨x, rfl, hxd, hxA, hsm.1, hsm.2.1, hsm.2.2, ?_, fun b hf => ?_, hb⟩
 ·rw [hxt]
  have h1 := tagsP_length (ksF n) voteW (idB (hdrO (ksF n) n ids o)) o.votes (3 * n + 1)
  have h2 : (certO (ksF n) n ids o).votes.length ≤ 3 * n + 1 := h1
  have := hR.f2
  omega
 ·rcases hf with hf | hf
  ·rcases hxo with ⟨_, e⟩ | ⟨_, hx⟩
   ·rw [e] at hf; exact Or.inl (Kind.lt hdrK hO.wild hf)
   ·exact Or.inr (hx b hf)
  ·exact Or.inr (hxv b hf)

theorem D1.old (h : D1 V n tb rt db pb me SD SP d ids w) {b : Nat} (hb : b < V.heap.size ∨ w.heap.size ≤ b) : ¬ SD b ∧ ¬ SP b := by
 rcases hb with hb | hb
 ·exact ⟨fun e => by have := h.dlt b e; omega, fun e => by have := h.plt b e; omega⟩
 ·exact ⟨fun e => by have := h.dag.lt e; omega, fun e => by have := (h.ply.lt e).2; omega⟩

theorem D1.vote (h : D1 V n tb rt db pb me SD SP d ids w) (hE : DEnv V n tb rt me) (x : HdrM) (hA : x.At w) (hfit : x.Fit) (hlen : (encH x.d).length ≤ 1073741824) (hx : ∀ b, x.foot b → ¬ SD b) (hv : d.V.length < 1000000) :
  Calls Tryz.prog 16 #[.pointer (some ⟨db, 0, none⟩), x.v] w fun e w' => e = .returned (.tuple #[.agg #[.int .i64 (voteT (ksF n) me (voteE (chkA (ksF n) n x.d) d x.d (idB x.d)) (idB x.d)).who, .string (voteT (ksF n) me (voteE (chkA (ksF n) n x.d) d x.d (idB x.d)) (idB x.d)).mac], .int .i64 (voteE (chkA (ksF n) n x.d) d x.d (idB x.d) : Int)]) ∧ ∃ SD', D1 V n tb rt db pb me SD' SP (voteD (chkA (ksF n) n x.d) d x.d (idB x.d)) ids w' ∧ FreshS w SD SD' ∧ Kept SD w w' := by
 refine (pdVote_any x h.dag (hE.T.below h.bel) hE.hs hA hfit hlen hx hv).mono ?_
 rintro e w' ⟨rfl, S', h1, h2, h3⟩
 refine ⟨rfl, S', ⟨h.bel.trans (Kept.below h3 h.bel.size h.dlt), h1, h.ply.kept h3 (fun k e e' => h.off k e' e), fun k hk => ?_, h.plt, fun k hk e => ?_, h.i32⟩, h2, h3⟩
 ·rcases h2 k hk with e | e
  ·exact h.dlt k e
  ·exact Nat.le_trans h.bel.size e
 ·rcases h2 k hk with e' | e'
  ·exact h.off k e' e
  ·have := (h.ply.lt e).2; omega

theorem D1.add (h : D1 V n tb rt db pb me SD SP d ids w) (hE : DEnv V n tb rt me) (c : CertM) (hA : c.At w) (hfit : c.hdr.Fit) (hlen : (encH c.hdr.d).length ≤ 1073741824) (hv : c.votes.length ≤ 1000) (hx : ∀ b, c.foot b → V.heap.size ≤ b ∧ ¬ SD b ∧ ¬ SP b) :
  Calls Tryz.prog 19 #[.pointer (some ⟨db, 0, none⟩), c.v] w fun e w' => e = .returned (.int .i64 (addE (chkC (ksF n) n c.d) (3 * n + 1) d c.hdr.d (idB c.hdr.d) : Int)) ∧ ∃ SD', D1 V n tb rt db pb me SD' SP (addD (chkC (ksF n) n c.d) (3 * n + 1) d c.d (idB c.hdr.d)) ids w' ∧ (∀ k, SD' k → SD k ∨ c.foot k ∨ w.heap.size ≤ k) ∧ Kept SD w w' := by
 refine (pdAdd_any c h.dag (hE.T.below h.bel) hA hfit hlen hv (fun b hb => (hx b hb).2.1)).mono ?_
 rintro e w' ⟨rfl, S', h1, h2, h3⟩
 refine ⟨rfl, S', ⟨h.bel.trans (Kept.below h3 h.bel.size h.dlt), h1, h.ply.kept h3 (fun k e e' => h.off k e' e), fun k hk => ?_, h.plt, fun k hk e => ?_, h.i32⟩, h2, h3⟩
 ·rcases h2 k hk with e | e | e
  ·exact h.dlt k e
  ·exact (hx k e).1
  ·exact Nat.le_trans h.bel.size e
 ·rcases h2 k hk with e' | e' | e'
  ·exact h.off k e' e
  ·exact (hx k e').2.2 e
  ·have := (h.ply.lt e).2; omega

theorem D1.next (h : D1 V n tb rt db pb me SD SP d ids w) (hE : DEnv V n tb rt me) :
  Calls Tryz.prog 23 #[.pointer (some ⟨db, 0, none⟩), .slice none 0 0] w fun e w' => ∃ x : HdrM, e = .returned (.tuple #[x.v, .bool (nextOk (2 * n + 1) d)]) ∧ x.d = nextH (2 * n + 1) (me : Int) d [] ∧ x.At w' ∧ (∀ b, x.foot b → w.heap.size ≤ b) ∧ ∃ SD', D1 V n tb rt db pb me SD' SP (nextD (2 * n + 1) d) ids w' ∧ FreshS w SD SD' ∧ Kept SD w w' := by
 refine (pdNext_any h.dag (hE.T.below h.bel)).mono ?_
 rintro e w' ⟨x, rfl, hxd, hxA, hxf, S', h1, h2, h3⟩
 refine ⟨x, rfl, hxd, hxA, hxf, S', ⟨h.bel.trans (Kept.below h3 h.bel.size h.dlt), h1, h.ply.kept h3 (fun k e e' => h.off k e' e), fun k hk => ?_, h.plt, fun k hk e => ?_, h.i32⟩, h2, h3⟩
 ·rcases h2 k hk with e | e
  ·exact h.dlt k e
  ·exact Nat.le_trans h.bel.size e
 ·rcases h2 k hk with e' | e'
  ·exact h.off k e' e
  ·have := (h.ply.lt e).2; omega

theorem D1.lows (h : D1 V n tb rt db pb me SD SP d ids w) (hE : DEnv V n tb rt me) (round : Int) :
  Calls Tryz.prog 26 #[.pointer (some ⟨db, 0, none⟩), .int .i64 round] w fun e w' => e = .returned (.int .i64 (lowN d round : Int)) ∧ ∃ SD', D1 V n tb rt db pb me SD' SP (lowD d round) ids w' ∧ FreshS w SD SD' ∧ Kept SD w w' := by
 refine (pdLow_any round h.dag hE.T.f2).mono ?_
 rintro e w' ⟨rfl, S', h1, h2, h3⟩
 refine ⟨rfl, S', ⟨h.bel.trans (Kept.below h3 h.bel.size h.dlt), h1, h.ply.kept h3 (fun k e e' => h.off k e' e), fun k hk => ?_, h.plt, fun k hk e => ?_, h.i32⟩, h2, h3⟩
 ·rcases h2 k hk with e | e
  ·exact h.dlt k e
  ·exact Nat.le_trans h.bel.size e
 ·rcases h2 k hk with e' | e'
  ·exact h.off k e' e
  ·have := (h.ply.lt e).2; omega

theorem inI_mem {need r : Nat} {ids : List (List ByteArray)} {id : ByteArray} {l : List ByteArray} (h : l ∈ inI need ids r id) : ∀ p ∈ l, p = id ∨ ∃ m ∈ ids, p ∈ m := by
 intro p hp
 have hP : ∀ m ∈ inP need ids r, ∀ q ∈ m, ∃ k ∈ ids, q ∈ k := fun m hm q hq => by
  unfold inP at hm
  split at hm
  ·rcases List.mem_append.1 hm with hm | hm
   ·exact ⟨m, hm, hq⟩
   ·rw [List.mem_singleton.1 hm] at hq; cases hq
  ·exact ⟨m, hm, hq⟩
 unfold inI at h
 split at h
 ·exact Or.inr (hP l h p hp)
 ·rcases List.mem_or_eq_of_mem_set h with h | rfl
  ·exact Or.inr (hP l h p hp)
  ·have hg : ∀ q ∈ (inP need ids r).getD (r - 1) [], ∃ k ∈ ids, q ∈ k := fun q hq => by
    rw [List.getD_eq_getElem?_getD] at hq
    cases hx : (inP need ids r)[r - 1]? with
    | none => rw [hx] at hq; cases hq
    | some m => rw [hx] at hq; exact hP m (List.mem_of_getElem? hx) q hq
   unfold insT at hp
   rcases List.mem_append.1 hp with hp | hp
   ·exact Or.inr (hg p (List.mem_of_mem_take hp))
   ·rcases List.mem_cons.1 hp with rfl | hp
    ·exact Or.inl rfl
    ·exact Or.inr (hg p (List.mem_of_mem_drop hp))

theorem D1.ins (h : D1 V n tb rt db pb me SD SP d ids w) (hE : DEnv V n tb rt me) (c : CertM) (hA : c.At w) (hr1 : 1 ≤ c.hdr.round) (hr2 : c.hdr.round ≤ 4611686018427387903) (hfit : c.hdr.Fit) (hlen : (encH c.hdr.d).length ≤ 1073741824) (hl1 : ids.length < 1000) (hl2 : ∀ l ∈ ids, l.length < 1000) (hx : ∀ b, c.hdr.foot b → ¬ SP b) :
  Calls Tryz.prog 22 #[.pointer (some ⟨pb, 0, none⟩), c.v] w fun e w' => e = .returned (.tuple #[]) ∧ ∃ SP', D1 V n tb rt db pb me SD SP' d (inI (2 * n + 1) ids c.hdr.round.toNat (idB c.hdr.d)) w' ∧ FreshS w SP SP' ∧ Kept SP w w' := by
 have hR := hE.R.below h.bel
 refine (playIn_any pb SP rt n (ksF n) ids c w h.ply hR.T hR.f2 hA hr1 hr2 hfit hlen hl1 hl2 hx).mono ?_
 rintro e w' ⟨rfl, S', h1, h2, h3⟩
 refine ⟨rfl, S', ⟨h.bel.trans (Kept.below h3 h.bel.size h.plt), h.dag.kept h3 h.off, h1, h.dlt, fun k hk => ?_, fun k hk e => ?_, fun l hl p hp => ?_⟩, h2, h3⟩
 ·rcases h2 k hk with e | e
  ·exact h.plt k e
  ·exact Nat.le_trans h.bel.size e
 ·rcases h2 k e with e' | e'
  ·exact h.off k hk e'
  ·have := h.dag.lt hk; omega
 ·rcases inI_mem hl p hp with rfl | ⟨m, hm, hpm⟩
  ·rw [idB_size]; decide
  ·exact h.i32 m hm p hpm
end
end Go.Proofs.YtmjkbdgcnoenbaaGreatDoor

/- The document's dag as it lies in memory; Get, Ids, Round. -/
namespace Go.Proofs.YtmjkbdgcnoenbaaGreatDoor
open Go Go.RowKit Go.Sort
set_option linter.unusedVariables false

structure RowM where
 id : ByteArray
 c : CertM

def RowM.d (x : RowM) : RowC := ⟨x.id, x.c.d⟩

def rowK : Kind RowM where
 n := 6
 c x := [.string x.id, .int .i64 x.c.hdr.author, .int .i64 x.c.hdr.round, .slice x.c.hdr.ra x.c.hdr.refs.length x.c.hdr.rc, .slice x.c.hdr.pa x.c.hdr.parents.length x.c.hdr.pc, .slice x.c.va x.c.votes.length x.c.vc]
 foot x := x.c.foot
 At w x := x.c.At w
 pos := by decide
 len _ := rfl
 one x u hu := by
  simp only [List.mem_cons, List.not_mem_nil, or_false] at hu
  rcases hu with rfl | rfl | rfl | rfl | rfl | rfl <;> rfl
 lt h hf := Kind.lt certK h hf
 keep h hk := Kind.keep certK h hk

def votK : Kind VoteD where
 n := 3
 c v := [.int .i64 v.author, .int .i64 v.round, .string v.id]
 foot _ _ := False
 At _ _ := True
 pos := by decide
 len _ := rfl
 one x u hu := by
  simp only [List.mem_cons, List.not_mem_nil, or_false] at hu
  rcases hu with rfl | rfl | rfl <;> rfl
 lt _ h := h.elim
 keep _ _ := trivial

theorem RowAt.rowc {w : World} {ao : Option Addr} {l : List RowM} (h : RowAt rowK w ao l) {i : Nat} {x : RowM} (hx : l[i]? = some x) :
  ∃ b off, ao = some ⟨b, off, none⟩ ∧ b < w.heap.size ∧ w.cell? ⟨b, off + i * 6, none⟩ = some (.string x.id) ∧ w.cell? ⟨b, off + i * 6 + 1, none⟩ = some (.int .i64 x.c.hdr.author) ∧ w.cell? ⟨b, off + i * 6 + 2, none⟩ = some (.int .i64 x.c.hdr.round) ∧ w.cell? ⟨b, off + i * 6 + 3, none⟩ = some (.slice x.c.hdr.ra x.c.hdr.refs.length x.c.hdr.rc) ∧ w.cell? ⟨b, off + i * 6 + 4, none⟩ = some (.slice x.c.hdr.pa x.c.hdr.parents.length x.c.hdr.pc) ∧ w.cell? ⟨b, off + i * 6 + 5, none⟩ = some (.slice x.c.va x.c.votes.length x.c.vc) := by
 obtain ⟨b, off, h1, h2, h3⟩ := h.cell i x hx
 exact ⟨b, off, h1, h2, h3 0 _ rfl, h3 1 _ rfl, h3 2 _ rfl, h3 3 _ rfl, h3 4 _ rfl, h3 5 _ rfl⟩

theorem RowAt.votc {w : World} {ao : Option Addr} {l : List VoteD} (h : RowAt votK w ao l) {i : Nat} {x : VoteD} (hx : l[i]? = some x) :
  ∃ b off, ao = some ⟨b, off, none⟩ ∧ b < w.heap.size ∧ w.cell? ⟨b, off + i * 3, none⟩ = some (.int .i64 x.author) ∧ w.cell? ⟨b, off + i * 3 + 1, none⟩ = some (.int .i64 x.round) ∧ w.cell? ⟨b, off + i * 3 + 2, none⟩ = some (.string x.id) := by
 obtain ⟨b, off, h1, h2, h3⟩ := h.cell i x hx
 exact ⟨b, off, h1, h2, h3 0 _ rfl, h3 1 _ rfl, h3 2 _ rfl⟩

structure RDg (w : World) (gb : Nat) (ql qv : Value) (rt : Nat) (me : Int) (rs : List RowM) (vs : List VoteD) (low own : Int) : Prop where
 box : Arr w gb 107 [.pointer (some ⟨rt, 0, none⟩), .int .i64 me, ql, qv, .int .i64 low, .int .i64 own]
 row : KQ rowK 124 w (gb + 1) ql rs
 vot : KQ votK 117 w (gb + 1) qv vs
 few : rs.length ≤ 1000
 fewv : vs.length ≤ 1000
 ap : ∀ k, ql.ownBlock = some k → qv.ownBlock ≠ some k
 off : ∀ x ∈ rs, ∀ b, x.c.foot b → b ≠ gb ∧ qv.ownBlock ≠ some b

def GFoot (gb : Nat) (ql qv : Value) (k : Nat) : Prop := k = gb ∨ ql.ownBlock = some k ∨ qv.ownBlock = some k

section
variable {w w' : World} {gb : Nat} {ql qv : Value} {rt : Nat} {me : Int} {rs : List RowM} {vs : List VoteD} {low own : Int} {S : Nat → Prop}

theorem RDg.kept (h : RDg w gb ql qv rt me rs vs low own) (hk : Kept S w w') (hS : ∀ k, GFoot gb ql qv k → ¬ S k) (hR : ∀ x ∈ rs, ∀ b, x.c.foot b → ¬ S b) : RDg w' gb ql qv rt me rs vs low own :=
 ⟨h.box.kept hk (hS gb (Or.inl rfl)), h.row.kept hk (fun k e => hS k (Or.inr (Or.inl e))) hR, h.vot.kept hk (fun k e => hS k (Or.inr (Or.inr e))) (fun _ _ _ h => h.elim), h.few, h.fewv, h.ap, h.off⟩

theorem RDg.below (h : RDg w gb ql qv rt me rs vs low own) (hb : Below w.heap.size w w') : RDg w' gb ql qv rt me rs vs low own :=
 h.kept (Kept.of_below (S := fun _ => False) hb) (fun _ _ h => h) (fun _ _ _ _ h => h)

theorem RDg.lt (h : RDg w gb ql qv rt me rs vs low own) {k : Nat} (hk : GFoot gb ql qv k) : gb ≤ k ∧ k < w.heap.size := by
 rcases hk with rfl | e | e
 ·exact ⟨Nat.le_refl _, h.box.lt⟩
 ·have := h.row.lt k e; omega
 ·have := h.vot.lt k e; omega
end

def gotM (rs : List RowM) (id : ByteArray) : Option RowM := rs.find? (fun x => x.id.toList == id.toList)

theorem gotM_d (rs : List RowM) (id : ByteArray) : getC (rs.map RowM.d) id = (gotM rs id).map RowM.d := by
 unfold getC gotM
 rw [List.find?_map]
 rfl

theorem gotM_step {l : List RowM} {id : ByteArray} {i : Nat} {x : RowM} (hx : l[i]? = some x) : gotM (l.drop i) id = if x.id.toList == id.toList then some x else gotM (l.drop (i + 1)) id := by
 have hi := (List.getElem?_eq_some_iff.1 hx).1
 have he := (List.getElem?_eq_some_iff.1 hx).2
 unfold gotM
 rw [List.drop_eq_getElem_cons hi, List.find?_cons, he]
 cases (x.id.toList == id.toList) <;> rfl

def certM (o : Option RowM) : CertM := match o with | some x => x.c | none => cert0

set_option maxRecDepth 100000 in
set_option maxHeartbeats 2000000 in
theorem refGet14_any (id : ByteArray) (gb : Nat) (ql qv : Value) (rt : Nat) (me : Int) (rs : List RowM) (vs : List VoteD) (low own : Int) (w : World) (h : RDg w gb ql qv rt me rs vs low own) :
  Calls Tryz.prog 30 #[.pointer (some ⟨gb, 0, none⟩), .string id] w fun e w' => e = .returned (.tuple #[(certM (gotM rs id)).v, .bool (gotM rs id).isSome]) ∧ Below w.heap.size w w' := by
 obtain ⟨ao, cap, rfl, hnil, hRow⟩ := h.row.form
 have hfew := h.few
 obtain ⟨g, hg⟩ : ∃ g, Hid (gotM rs id = g) := ⟨_, rfl⟩
 rw [hg.out]
 have hbn := belowNew w (.cells #[.int .i64 0, .int .i64 0, .slice none 0 0, .slice none 0 0, .slice none 0 0] 48)
 have hZ := Arr.new w 48 [.int .i64 0, .int .i64 0, .slice none 0 0, .slice none 0 0, .slice none 0 0]
 have h1 := h.below hbn
 have hRow1 := hRow.below hbn
 go_enter Tryz.func30, Tryz.ntmps30
 go_wp2_with fail
 obtain ⟨w1, hw1⟩ : ∃ z, w.alloc (.cells #[.int .i64 0, .int .i64 0, .slice none 0 0, .slice none 0 0, .slice none 0 0] 48) = z := ⟨_, rfl⟩
 rw [hw1] at hbn hZ h1 hRow1 ⊢
 have c2 := h1.box.cell (i := 2) rfl
 go_loopw [6] (fun v6 wr => ∃ i : Nat, i ≤ rs.length ∧ v6 = .int .i64 (i : Int) ∧ Hid (gotM (rs.drop i) id = g) ∧ wr = w1) (fun v _ => rs.length - (intOf v).toNat)
 case atStart => exact ⟨0, Nat.zero_le _, rfl, hg, rfl⟩
 case round =>
  obtain ⟨i, hil, rfl, hgi, rfl⟩ := hrel
  clear hw1
  have z0 := hZ.cell (i := 0) rfl
  have z1 := hZ.cell (i := 1) rfl
  have z2 := hZ.cell (i := 2) rfl
  have z3 := hZ.cell (i := 3) rfl
  have z4 := hZ.cell (i := 4) rfl
  have f0 := hZ.frozen 0
  have f1 := hZ.frozen 1
  have f2 := hZ.frozen 2
  have f3 := hZ.frozen 3
  have f4 := hZ.frozen 4
  by_cases hlt : i < rs.length
  ·have g1 : (i : Int) < (rs.length : Int) := by omega
   obtain ⟨x, hx⟩ : ∃ x, rs[i]? = some x := ⟨_, List.getElem?_eq_getElem hlt⟩
   have hst := gotM_step (id := id) hx
   obtain ⟨b, off, rfl, hbl, y0, y1, y2, y3, y4, y5⟩ := hRow1.rowc hx
   cases he : x.id.toList == id.toList with
   | true =>
    rw [he] at hst
    have hgx : Hid (g = some x) := hgi.out.symm.trans hst
    clear hst hgi
    have hZF := hZ.set5 (.int .i64 x.c.hdr.author) (.int .i64 x.c.hdr.round) (.slice x.c.hdr.ra x.c.hdr.refs.length x.c.hdr.rc) (.slice x.c.hdr.pa x.c.hdr.parents.length x.c.hdr.pc) (.slice x.c.va x.c.votes.length x.c.vc)
    have hBF := below_set5 hbn (Nat.le_refl _) (.int .i64 x.c.hdr.author) (.int .i64 x.c.hdr.round) (.slice x.c.hdr.ra x.c.hdr.refs.length x.c.hdr.rc) (.slice x.c.hdr.pa x.c.hdr.parents.length x.c.hdr.pc) (.slice x.c.va x.c.votes.length x.c.vc)
    have hZF : Arr _ w.heap.size 48 x.c.c := hZF
    unfold set5 at hZF hBF
    clear hbn hZ
    go_wp2
    refine bodyPost_ret (results_cert_tmp14 rfl _ _ w.heap.size x.c rfl hZF _ rfl) rfl ?_
    exact ⟨by rw [hgx.out]; rfl, hBF⟩
   | false =>
    rw [he] at hst
    have hgx : Hid (gotM (rs.drop (i + 1)) id = g) := hst.symm.trans hgi.out
    clear hst hgi
    go_wp2
    go_roundw
    case rel => exact ⟨i + 1, by omega, by go_num, hgx, trivial⟩
    case measure => simp [intOf]; omega
  ·obtain rfl : i = rs.length := by omega
   have g1 : ¬ ((rs.length : Nat) : Int) < (rs.length : Int) := by omega
   have hgx : Hid (g = none) := by
    have := hgi.out
    rw [List.drop_length] at this
    exact this.symm
   have hZF := hZ.set5 (.int .i64 0) (.int .i64 0) (.slice none 0 0) (.slice none 0 0) (.slice none 0 0)
   have hBF := below_set5 hbn (Nat.le_refl _) (.int .i64 0) (.int .i64 0) (.slice none 0 0) (.slice none 0 0) (.slice none 0 0)
   have hZ0 : Arr wr w.heap.size 48 cert0.c := hZ
   have hZF : Arr _ w.heap.size 48 cert0.c := hZF
   have hB0 := hbn
   unfold set5 at hZF hBF
   clear hgi hZ hbn
   go_wp2
   first
    | (refine bodyPost_ret (results_cert_tmp14 rfl _ _ w.heap.size cert0 rfl hZF _ rfl) rfl ?_; exact ⟨by rw [hgx.out]; rfl, hBF⟩)
    | (refine bodyPost_ret (results_cert_tmp14 rfl _ _ w.heap.size cert0 rfl hZ0 _ rfl) rfl ?_; exact ⟨by rw [hgx.out]; rfl, hB0⟩)
end Go.Proofs.YtmjkbdgcnoenbaaGreatDoor

/- What the document's dag tells: Ids, Round. -/
namespace Go.Proofs.YtmjkbdgcnoenbaaGreatDoor
open Go Go.RowKit Go.Sort
set_option linter.unusedVariables false

theorem strOneG (w : World) (x : ByteArray) : RowAt strK (w.alloc (.cells #[.string x] 9)) (some ⟨w.heap.size, 0, none⟩) [x] :=
 rowOne (K := strK) (by rw [alloc_size]; omega) (fun j u hu => (Arr.new w 9 [.string x]).cell hu) trivial

theorem idsM_succ {rs : List RowM} {i : Nat} {x : RowM} (hx : rs[i]? = some x) (round : Int) : idsC ((rs.map RowM.d).take (i + 1)) round = idsC ((rs.map RowM.d).take i) round ++ (if (x.c.hdr.round == round) = true then [x.id] else []) :=
 idsC_succ (l := rs.map RowM.d) (x := x.d) (by rw [List.getElem?_map, hx]; rfl) round

set_option maxRecDepth 100000 in
set_option maxHeartbeats 1000000 in
theorem refIds14_any (round : Int) (gb : Nat) (ql qv : Value) (rt : Nat) (me : Int) (rs : List RowM) (vs : List VoteD) (low own : Int) (w : World) (h : RDg w gb ql qv rt me rs vs low own) :
  Calls Tryz.prog 35 #[.pointer (some ⟨gb, 0, none⟩), .int .i64 round] w fun e w' => ∃ v, e = .returned v ∧ KQ strK 9 w' w.heap.size v (idsC (rs.map RowM.d) round) ∧ Below w.heap.size w w' := by
 obtain ⟨i0, z0, hi0, hz0, hz1, hz2, hz3⟩ := strInfoT
 obtain ⟨ao, cap, rfl, hnil, hRow⟩ := h.row.form
 have hfew := h.few
 obtain ⟨RL, hRL⟩ : ∃ z, Hid (rs.map RowM.d = z) := ⟨_, rfl⟩
 have hsu : Hid (∀ i x, rs[i]? = some x → idsC (RL.take (i + 1)) round = idsC (RL.take i) round ++ (if (x.c.hdr.round == round) = true then [x.id] else [])) := fun i x hx => by rw [← hRL.out]; exact idsM_succ hx round
 have hle : Hid (∀ i, i ≤ rs.length → (idsC (RL.take i) round).length ≤ i) := fun i hi => by
  have h1 := idsC_le (RL.take i) round
  rw [List.length_take] at h1
  omega
 have hend : Hid (RL.take rs.length = RL) := by
  show _ = _
  rw [← hRL.out, show rs.length = (rs.map RowM.d).length from (List.length_map _).symm, List.take_length]
 rw [hRL.out]
 go_enter Tryz.func35, Tryz.ntmps35
 go_wp2_with fail
 go_loopw [5, 6] (fun v5 v6 wr => ∃ i : Nat, i ≤ rs.length ∧ v6 = .int .i64 (i : Int) ∧ KQ strK 9 wr w.heap.size v5 (idsC (RL.take i) round) ∧ Below w.heap.size w wr) (fun _ v _ => rs.length - (intOf v).toNat)
 case atStart => exact ⟨0, Nat.zero_le _, rfl, KQ.empty _ _ _ _, Below.refl _ _⟩
 case round =>
  obtain ⟨i, hi, rfl, hQ, hb⟩ := hrel
  have hB := h.below hb
  have c2 := hB.box.cell (i := 2) rfl
  by_cases hil : i < rs.length
  ·have g1 : (i : Int) < (rs.length : Int) := by omega
   obtain ⟨x, hx⟩ : ∃ x, rs[i]? = some x := ⟨_, List.getElem?_eq_getElem hil⟩
   obtain ⟨b, off, rfl, hbl, y0, y1, y2, y3, y4, y5⟩ := (hRow.below hb).rowc hx
   have hs := hsu.out i x hx
   have hlen := hle.out i hi
   generalize idsC (RL.take i) round = k at *
   cases he : x.c.hdr.round == round with
   | true =>
    rw [he, if_pos rfl] at hs
    have hs' : Hid _ := hs
    have hbx := belowNew wr (.cells #[.string x.id] 9)
    have hQ4 := hQ.below hbx
    have hb4 := hb.trans (hbx.mono hb.size)
    have hN := (strOneG wr x.id).news
    rw [flatK_single] at hN
    have hbs : w.heap.size ≤ (wr.alloc (.cells #[.string x.id] 9)).heap.size := by have := hbx.size; have := hb.size; omega
    have m1 : k.length + 1 ≤ maxLen := by unfold maxLen; omega
    have m2 : (k.length + 1) * 16 ≤ 140737488355328 := by omega
    clear hx hB hs hlen hQ hb
    go_wp2_with (at_builtin; refine wpList_push (K := strK) rfl _ _ 31 rfl w.heap.size 9 i0 _ 16 Tryz.underlying31 hi0 hz0 hz1 hz2 hz3 _ k rfl hQ4 x.id trivial (fun _ h => h.elim) ⟨wr.heap.size, 0, none⟩ 1 rfl hN m1 m2 hbs ?_)
    intro ao3 cap3 w3 hQ5 hk3
    have hb5 := hb4.trans (Kept.below hk3 hb4.size (fun j hj => by have := (hQ4.lt j hj).1; omega))
    rw [← hs'.out] at hQ5
    clear hk3 hQ4 hb4 hbx hN hbs m1 m2 hs'
    go_wp2
    go_roundw
    case rel => exact ⟨i + 1, by omega, by go_num, hQ5, hb5⟩
    case measure => simp [intOf]; omega
   | false =>
    rw [he, if_neg (by decide), List.append_nil] at hs
    rw [← hs] at hQ
    clear hx hB hs hlen
    go_wp2
    go_roundw
    case rel => exact ⟨i + 1, by omega, by go_num, hQ, hb⟩
    case measure => simp [intOf]; omega
  ·obtain rfl : i = rs.length := by omega
   have g1 : ¬ (rs.length : Int) < (rs.length : Int) := by omega
   rw [hend.out] at hQ
   clear hB
   obtain ⟨aoF, capF, rfl, _, _⟩ := hQ.form
   go_wp2
   go_ret
   exact ⟨_, rfl, hQ, hb⟩

theorem roundM_succ {need : Nat} {L : List RowC} {i : Nat} {x : RowC} (hx : L[i]? = some x) : (L.take (i + 1)).foldl (topStep need L) 0 = topStep need L ((L.take i).foldl (topStep need L) 0) x := by
 rw [List.take_add_one, hx, List.foldl_append]
 rfl

set_option maxRecDepth 100000 in
set_option maxHeartbeats 2000000 in
theorem refRound14_any (f : Nat) (ks : List ByteArray) (gb : Nat) (ql qv : Value) (rt : Nat) (me : Int) (rs : List RowM) (vs : List VoteD) (low own : Int) (w : World) (h : RDg w gb ql qv rt me rs vs low own) (hT : TEnv w rt f ks) :
  Calls Tryz.prog 33 #[.pointer (some ⟨gb, 0, none⟩)] w fun e w' => e = .returned (.int .i64 (roundC (2 * f + 1) (rs.map RowM.d))) ∧ Below w.heap.size w w' := by
 obtain ⟨ao, cap, hql, hnil, hRow⟩ := h.row.form
 subst hql
 have hfew := h.few
 obtain ⟨RL, hRL⟩ : ∃ z, Hid (rs.map RowM.d = z) := ⟨_, rfl⟩
 obtain ⟨ND, hND⟩ : ∃ z, Hid (2 * f + 1 = z) := ⟨_, rfl⟩
 obtain ⟨RR, hRR⟩ : ∃ z, Hid (roundC ND RL = z) := ⟨_, rfl⟩
 rw [hRL.out, hND.out, hRR.out]
 have hend : Hid (RL.take rs.length = RL) := by
  show _ = _
  rw [← hRL.out, show rs.length = (rs.map RowM.d).length from (List.length_map _).symm, List.take_length]
 have hsu : Hid (∀ i x, rs[i]? = some x → (RL.take (i + 1)).foldl (topStep ND RL) 0 = topStep ND RL ((RL.take i).foldl (topStep ND RL) 0) x.d) := fun i x hx => roundM_succ (by rw [← hRL.out, List.getElem?_map, hx]; rfl)
 have cD := fun w1 h1 => Mx.refNeed_any rt f ks w1 h1 hT.f2
 rw [hND.out] at cD
 have cI := fun r w1 h1 => refIds14_any r gb (.slice ao rs.length cap) qv rt me rs vs low own w1 h1
 rw [hRL.out] at cI
 go_enter Tryz.func33, Tryz.ntmps33
 go_wp2_with fail
 go_loopw [3, 4, 5] (fun v3 v4 _ wr => ∃ (i : Nat) (top : Int), i ≤ rs.length ∧ v4 = .int .i64 (i : Int) ∧ v3 = .int .i64 top ∧ Hid ((RL.take i).foldl (topStep ND RL) 0 = top) ∧ Below w.heap.size w wr) (fun _ v _ _ => rs.length - (intOf v).toNat)
 case atStart => exact ⟨0, 0, Nat.zero_le _, rfl, rfl, (rfl : _ = _), Below.refl _ _⟩
 case round =>
  obtain ⟨i, top, hi, rfl, rfl, htop, hb⟩ := hrel
  have hB := h.below hb
  have c2 := hB.box.cell (i := 2) rfl
  by_cases hil : i < rs.length
  ·have g1 : (i : Int) < (rs.length : Int) := by omega
   obtain ⟨x, hx⟩ : ∃ x, rs[i]? = some x := ⟨_, List.getElem?_eq_getElem hil⟩
   obtain ⟨b, off, hao, hbl, y0, y1, y2, y3, y4, y5⟩ := (hRow.below hb).rowc hx
   subst hao
   have hs := hsu.out i x hx
   rw [htop.out] at hs
   obtain ⟨xr, hxr⟩ : ∃ z, Hid (x.c.hdr.round = z) := ⟨_, rfl⟩
   rw [hxr.out] at y2
   have hs' : Hid ((RL.take (i + 1)).foldl (topStep ND RL) 0 = if top < xr ∧ ND ≤ (idsC RL xr).length then xr else top) := by
    show _ = _
    rw [hs, ← hxr.out]
    rfl
   clear hs hx
   go_upto_region 6 with fail
   by_cases hgt : top < xr
   ·have gd : decide (top < xr) = true := decide_eq_true hgt
    have hkp : ∀ U, Below wr.heap.size wr U → (U.cell? ⟨gb, 0, none⟩ = some (.pointer (some ⟨rt, 0, none⟩))) := fun U hU => (hB.below hU).box.cell (i := 0) rfl
    have bd : Below wr.heap.size wr wr.drew := below_drewN (Below.refl _ wr) 1
    have hS0 := hkp _ bd
    have hBd := hB.below bd
    have hTd := (hT.below hb).below bd
    obtain ⟨XL, hXL⟩ : ∃ z, Hid (idsC RL xr = z) := ⟨_, rfl⟩
    have cI := fun w1 h1 => cI xr w1 h1
    rw [hXL.out] at cI hs'
    by_cases hen : ND ≤ XL.length
    ·have ge : ((ND : Int) ≤ (XL.length : Int)) := by omega
     rw [if_pos ⟨hgt, hen⟩] at hs'
     go_region_held3 (fun w' => w'.cell? ⟨gb, 0, none⟩ = some (.pointer (some ⟨rt, 0, none⟩))) (exact hkp _ (by assumption))
      (first
      | (go_at_call 35; refine (cI _ hBd).mono ?_; rintro e wI ⟨v, rfl, hQI, bI0⟩; have bI : Below wr.heap.size wr wI := bd.trans bI0; have hTI := (hT.below hb).below bI; obtain ⟨ia, ic, rfl, _, _⟩ := hQI.form)
      | (go_at_call 45; refine (cD _ hTd.T).mono ?_; rintro e wN ⟨rfl, rfl⟩)
      | (go_at_call 45; refine (cD _ hTI.T).mono ?_; rintro e wN ⟨rfl, rfl⟩))
     all_goals
      have hbF := hb.trans (bI.mono hb.size)
      clear hkp hS0 bd hBd hTd c2 y0 y1 y2 y3 y4 y5 hB hQI bI bI0 hTI gd
      go_wp2
      go_roundw
      exact ⟨i + 1, xr, by omega, by go_num, rfl, hs', hbF⟩
      simp [intOf]; omega
    ·have ge : ¬ ((ND : Int) ≤ (XL.length : Int)) := by omega
     rw [if_neg (fun e => hen e.2)] at hs'
     go_region_held3 (fun w' => w'.cell? ⟨gb, 0, none⟩ = some (.pointer (some ⟨rt, 0, none⟩))) (exact hkp _ (by assumption))
      (first
      | (go_at_call 35; refine (cI _ hBd).mono ?_; rintro e wI ⟨v, rfl, hQI, bI0⟩; have bI : Below wr.heap.size wr wI := bd.trans bI0; have hTI := (hT.below hb).below bI; obtain ⟨ia, ic, rfl, _, _⟩ := hQI.form)
      | (go_at_call 45; refine (cD _ hTd.T).mono ?_; rintro e wN ⟨rfl, rfl⟩)
      | (go_at_call 45; refine (cD _ hTI.T).mono ?_; rintro e wN ⟨rfl, rfl⟩))
     all_goals
      have hbF := hb.trans (bI.mono hb.size)
      clear hkp hS0 bd hBd hTd c2 y0 y1 y2 y3 y4 y5 hB hQI bI bI0 hTI gd
      go_wp2
      go_roundw
      exact ⟨i + 1, top, by omega, by go_num, rfl, hs', hbF⟩
      simp [intOf]; omega
   ·have gd : decide (top < xr) = false := decide_eq_false hgt
    rw [if_neg (fun e => hgt e.1)] at hs'
    go_quiet (fail)
    have hbF := hb.trans ((below_drewN (Below.refl wr.heap.size wr) nq).mono hb.size)
    clear c2 y0 y1 y2 y3 y4 y5 hB
    go_wp2
    go_roundw
    case rel => exact ⟨i + 1, top, by omega, by go_num, rfl, hs', hbF⟩
    case measure => simp [intOf]; omega
  ·obtain rfl : i = rs.length := by omega
   have g1 : ¬ (rs.length : Int) < (rs.length : Int) := by omega
   have htr : Hid (top = RR) := by
    show top = RR
    rw [← htop.out, ← hRR.out, hend.out]
    rfl
   clear hB
   go_wp2
   go_ret
   exact ⟨by rw [htr.out]; rfl, hb⟩
end Go.Proofs.YtmjkbdgcnoenbaaGreatDoor

/- What the document's Low does. -/
namespace Go.Proofs.YtmjkbdgcnoenbaaGreatDoor
open Go Go.RowKit
set_option linter.unusedVariables false

theorem infoRow14 : (Tryz.prog.info? 124).any (fun i => i.size == 6 && i.bytes == 104 && (match i.zero with | some z => z.cells.size == 6 | none => false)) = true := by kernel_rfl

theorem rowInfo14 : ∃ i z, Tryz.prog.info? 124 = some i ∧ i.zero = some z ∧ i.size = 6 ∧ i.bytes = 104 ∧ z.cells.size = 6 := by
 have h := infoRow14
 cases hi : Tryz.prog.info? 124 with
 | none => rw [hi] at h; cases h
 | some i =>
  rw [hi] at h
  simp only [Option.any_some, Bool.and_eq_true, beq_iff_eq] at h
  cases hz : i.zero with
  | none => rw [hz] at h; simp at h
  | some z =>
   rw [hz] at h
   exact ⟨i, z, rfl, hz, h.1.1, h.1.2, by simpa using h.2⟩

theorem infoVot14 : (Tryz.prog.info? 117).any (fun i => i.size == 3 && i.bytes == 32 && (match i.zero with | some z => z.cells.size == 3 | none => false)) = true := by kernel_rfl

theorem votInfo14 : ∃ i z, Tryz.prog.info? 117 = some i ∧ i.zero = some z ∧ i.size = 3 ∧ i.bytes = 32 ∧ z.cells.size = 3 := by
 have h := infoVot14
 cases hi : Tryz.prog.info? 117 with
 | none => rw [hi] at h; cases h
 | some i =>
  rw [hi] at h
  simp only [Option.any_some, Bool.and_eq_true, beq_iff_eq] at h
  cases hz : i.zero with
  | none => rw [hz] at h; simp at h
  | some z =>
   rw [hz] at h
   exact ⟨i, z, rfl, hz, h.1.1, h.1.2, by simpa using h.2⟩

theorem new_row14 (w : World) (x : RowM) : ∀ j u, (rowK.c x)[j]? = some u → (w.alloc (.cells #[.string x.id, .int .i64 x.c.hdr.author, .int .i64 x.c.hdr.round, .slice x.c.hdr.ra x.c.hdr.refs.length x.c.hdr.rc, .slice x.c.hdr.pa x.c.hdr.parents.length x.c.hdr.pc, .slice x.c.va x.c.votes.length x.c.vc] 124)).cell? ((⟨w.heap.size, 0, none⟩ : Addr).add j) = some u := by
 intro j u hu
 rw [Go.WideShapes.add_plain, Nat.zero_add]
 exact (Arr.new w 124 (rowK.c x)).cell hu

theorem new_vot14 (w : World) (x : VoteD) : ∀ j u, (votK.c x)[j]? = some u → (w.alloc (.cells #[.int .i64 x.author, .int .i64 x.round, .string x.id] 117)).cell? ((⟨w.heap.size, 0, none⟩ : Addr).add j) = some u := by
 intro j u hu
 rw [Go.WideShapes.add_plain, Nat.zero_add]
 exact (Arr.new w 117 (votK.c x)).cell hu

def keepM (rs : List RowM) (round : Int) : List RowM := rs.filter (fun x => decide (round ≤ x.c.hdr.round))

theorem keepM_d (rs : List RowM) (round : Int) : (keepM rs round).map RowM.d = keepC (rs.map RowM.d) round := by
 unfold keepM keepC
 rw [List.filter_map]
 rfl

theorem keepM_succ {l : List RowM} {i : Nat} {x : RowM} (hx : l[i]? = some x) (round : Int) : keepM (l.take (i + 1)) round = keepM (l.take i) round ++ (if round ≤ x.c.hdr.round then [x] else []) := by
 unfold keepM
 rw [List.take_add_one, hx, List.filter_append]
 congr 1
 simp only [Option.toList_some, List.filter_cons, List.filter_nil, decide_eq_true_eq]

section
variable {w w1 : World} {gb : Nat} {ql qv q' : Value} {rt : Nat} {me : Int} {rs rs' : List RowM} {vs vs' : List VoteD} {low own : Int}

theorem RDg.setLow (h : RDg w gb ql qv rt me rs vs low own) (r : Int) : RDg (w.setCell ⟨gb, 4, none⟩ (.int .i64 r)) gb ql qv rt me rs vs r own := by
 have hk := Kept.setCell w ⟨gb, 4, none⟩ (.int .i64 r)
 refine ⟨h.box.set 4 (.int .i64 r), h.row.kept hk (fun k e e' => by have := (h.row.lt k e).1; have e2 : k = gb := e'; omega) (fun x hx b hf e => (h.off x hx b hf).1 e), h.vot.kept hk (fun k e e' => by have := (h.vot.lt k e).1; have e2 : k = gb := e'; omega) (fun _ _ _ h => h.elim), h.few, h.fewv, h.ap, h.off⟩

theorem RDg.setOwn (h : RDg w gb ql qv rt me rs vs low own) (r : Int) : RDg (w.setCell ⟨gb, 5, none⟩ (.int .i64 r)) gb ql qv rt me rs vs low r := by
 have hk := Kept.setCell w ⟨gb, 5, none⟩ (.int .i64 r)
 refine ⟨h.box.set 5 (.int .i64 r), h.row.kept hk (fun k e e' => by have := (h.row.lt k e).1; have e2 : k = gb := e'; omega) (fun x hx b hf e => (h.off x hx b hf).1 e), h.vot.kept hk (fun k e e' => by have := (h.vot.lt k e).1; have e2 : k = gb := e'; omega) (fun _ _ _ h => h.elim), h.few, h.fewv, h.ap, h.off⟩

theorem RDg.newRow (h : RDg w gb ql qv rt me rs vs low own) (hb : Below w.heap.size w w1) (hq : KQ rowK 124 w1 w.heap.size q' rs') (hl : rs'.length ≤ 1000) (ho : ∀ x ∈ rs', ∀ b, x.c.foot b → b ≠ gb ∧ qv.ownBlock ≠ some b) :
  RDg (w1.setCell ⟨gb, 2, none⟩ q') gb q' qv rt me rs' vs low own ∧ (∀ k, GFoot gb q' qv k → GFoot gb ql qv k ∨ w.heap.size ≤ k) ∧ Kept (GFoot gb ql qv) w (w1.setCell ⟨gb, 2, none⟩ q') := by
 have h1 := h.below hb
 have hlt := h.box.lt
 have hk := Kept.setCell w1 ⟨gb, 2, none⟩ q'
 refine ⟨⟨h1.box.set 2 q', (hq.rebase (by omega)).kept hk (fun k e e' => by have := (hq.lt k e).1; have e2 : k = gb := e'; omega) (fun x hx b hf e => (ho x hx b hf).1 e), h1.vot.kept hk (fun k e e' => by have := (h1.vot.lt k e).1; have e2 : k = gb := e'; omega) (fun _ _ _ h => h.elim), hl, h.fewv, fun k e e' => by have := (hq.lt k e).1; have := (h.vot.lt k e').2; omega, ho⟩, ?_, ?_⟩
 ·rintro k (e | e | e)
  ·exact Or.inl (Or.inl e)
  ·exact Or.inr (hq.lt k e).1
  ·exact Or.inl (Or.inr (Or.inr e))
 ·exact (Kept.of_below hb).set (p := ⟨gb, 2, none⟩) (Or.inl rfl) _

theorem RDg.newVot (h : RDg w gb ql qv rt me rs vs low own) (hb : Below w.heap.size w w1) (hq : KQ votK 117 w1 w.heap.size q' vs') (hl : vs'.length ≤ 1000) :
  RDg (w1.setCell ⟨gb, 3, none⟩ q') gb ql q' rt me rs vs' low own ∧ (∀ k, GFoot gb ql q' k → GFoot gb ql qv k ∨ w.heap.size ≤ k) ∧ Kept (GFoot gb ql qv) w (w1.setCell ⟨gb, 3, none⟩ q') := by
 have h1 := h.below hb
 have hlt := h.box.lt
 have hk := Kept.setCell w1 ⟨gb, 3, none⟩ q'
 refine ⟨⟨h1.box.set 3 q', h1.row.kept hk (fun k e e' => by have := (h1.row.lt k e).1; have e2 : k = gb := e'; omega) (fun x hx b hf e => (h.off x hx b hf).1 e), (hq.rebase (by omega)).kept hk (fun k e e' => by have := (hq.lt k e).1; have e2 : k = gb := e'; omega) (fun _ _ _ h => h.elim), h.few, hl, fun k e e' => by have := (hq.lt k e').1; have := (h.row.lt k e).2; omega, fun x hx b hf => ⟨(h.off x hx b hf).1, fun e => by have := (hq.lt b e).1; have := Kind.lt certK (h.row.at_ x hx) hf; omega⟩⟩, ?_, ?_⟩
 ·rintro k (e | e | e)
  ·exact Or.inl (Or.inl e)
  ·exact Or.inl (Or.inr (Or.inl e))
  ·exact Or.inr (hq.lt k e).1
 ·exact (Kept.of_below hb).set (p := ⟨gb, 3, none⟩) (Or.inl rfl) _
end

set_option maxRecDepth 100000 in
set_option maxHeartbeats 2000000 in
theorem refLet14_any (round : Int) (gb : Nat) (ql qv : Value) (rt : Nat) (me : Int) (rs : List RowM) (vs : List VoteD) (low own : Int) (w : World) (h : RDg w gb ql qv rt me rs vs low own) :
  Calls Tryz.prog 27 #[.pointer (some ⟨gb, 0, none⟩), .int .i64 round] w fun e w' => e = .returned (.int .i64 (if round ≤ low then 0 else (rs.length : Int) - ((keepM rs round).length : Int))) ∧ ∃ ql' qv', RDg w' gb ql' qv' rt me (if round ≤ low then rs else keepM rs round) (if round ≤ low then vs else keepV vs round) (if round ≤ low then low else round) own ∧ (∀ k, GFoot gb ql' qv' k → GFoot gb ql qv k ∨ w.heap.size ≤ k) ∧ Kept (GFoot gb ql qv) w w' := by
 have c4 := h.box.cell (i := 4) rfl
 by_cases hr : round ≤ low
 ·simp only [if_pos hr]
  go_enter Tryz.func27, Tryz.ntmps27
  go_wp2
  go_ret
  exact ⟨rfl, ql, qv, h, fun k hk => Or.inl hk, Kept.refl _ _⟩
 ·simp only [if_neg hr]
  have f4 := h.box.frozen 4
  obtain ⟨i0, z0, hi0, hz0, hz1, hz2, hz3⟩ := rowInfo14
  obtain ⟨j0, y0', hj0, hy0, hy1, hy2, hy3⟩ := votInfo14
  obtain ⟨mF, hmF⟩ : ∃ z, Hid (keepM rs round = z) := ⟨_, rfl⟩
  obtain ⟨vF, hvF⟩ : ∃ z, Hid (keepV vs round = z) := ⟨_, rfl⟩
  rw [hmF.out, hvF.out]
  have h1 := h.setLow round
  have hk1 : Kept (GFoot gb ql qv) w (w.setCell ⟨gb, 4, none⟩ (.int .i64 round)) := (Kept.refl _ w).set (p := ⟨gb, 4, none⟩) (Or.inl rfl) _
  obtain ⟨ao, cap, hql, hnil, hRow⟩ := h1.row.form
  subst hql
  obtain ⟨ao2, cap2, hqv, hnil2, hRow2⟩ := h1.vot.form
  subst hqv
  have hfew := h.few
  have hfewv := h.fewv
  go_enter Tryz.func27, Tryz.ntmps27
  go_wp2_with fail
  obtain ⟨w1, hw1⟩ : ∃ z, w.setCell ⟨gb, 4, none⟩ (.int .i64 round) = z := ⟨_, rfl⟩
  rw [hw1] at h1 hk1 hRow hRow2 ⊢
  clear hw1 c4 f4
  go_loopw [5, 6] (fun v5 v6 wr => ∃ i : Nat, i ≤ rs.length ∧ v6 = .int .i64 (i : Int) ∧ KQ rowK 124 wr w1.heap.size v5 (keepM (rs.take i) round) ∧ Below w1.heap.size w1 wr) (fun _ v _ => rs.length - (intOf v).toNat)
  case atStart => exact ⟨0, Nat.zero_le _, rfl, KQ.empty _ _ _ _, Below.refl _ _⟩
  case round =>
   obtain ⟨i, hil, rfl, hQ, hb⟩ := hrel
   have hB := h1.box.below hb h1.box.lt
   have c2 := hB.cell (i := 2) rfl
   by_cases hlt : i < rs.length
   ·have g1 : (i : Int) < (rs.length : Int) := by omega
    obtain ⟨x, hx⟩ : ∃ x, rs[i]? = some x := ⟨_, List.getElem?_eq_getElem hlt⟩
    have hst := keepM_succ hx round
    have hxA : rowK.At w1 x := h1.row.at_ x (List.mem_of_getElem? hx)
    obtain ⟨b, off, rfl, hbl, y0, y1, y2, y3, y4, y5⟩ := (hRow.below hb).rowc hx
    by_cases he : round ≤ x.c.hdr.round
    ·rw [if_pos he] at hst
     have hst' : Hid (keepM (rs.take (i + 1)) round = keepM (rs.take i) round ++ [x]) := hst
     have hle : (keepM (rs.take i) round).length ≤ i := by
      have := List.length_filter_le (fun x : RowM => decide (round ≤ x.c.hdr.round)) (rs.take i)
      rw [List.length_take] at this
      unfold keepM
      omega
     clear hst hB
     obtain ⟨ms, hms⟩ : ∃ z, Hid (keepM (rs.take i) round = z) := ⟨_, rfl⟩
     rw [hms.out] at hQ hle hst'
     have hbx := belowNew wr (.cells #[.string x.id, .int .i64 x.c.hdr.author, .int .i64 x.c.hdr.round, .slice x.c.hdr.ra x.c.hdr.refs.length x.c.hdr.rc, .slice x.c.hdr.pa x.c.hdr.parents.length x.c.hdr.pc, .slice x.c.va x.c.votes.length x.c.vc] 124)
     have hQ2 := hQ.below hbx
     have hb2 := hb.trans (hbx.mono hb.size)
     have hN := new_row14 wr x
     have hbs := hb2.size
     have hxA2 := rowK.below hxA hb2
     have hxo : ∀ bb, rowK.foot x bb → ∀ v, KQ rowK 124 (wr.alloc (.cells #[.string x.id, .int .i64 x.c.hdr.author, .int .i64 x.c.hdr.round, .slice x.c.hdr.ra x.c.hdr.refs.length x.c.hdr.rc, .slice x.c.hdr.pa x.c.hdr.parents.length x.c.hdr.pc, .slice x.c.va x.c.votes.length x.c.vc] 124)) w1.heap.size v ms → v.ownBlock ≠ some bb := fun bb hf v hv e => by have := (hv.lt bb e).1; have := rowK.lt hxA hf; omega
     have m1 : ms.length + 1 ≤ maxLen := by unfold maxLen; omega
     have m2 : (ms.length + 1) * 104 ≤ 140737488355328 := by omega
     clear hQ hx
     go_wp2_with (at_builtin; refine wpList_push (K := rowK) rfl _ _ 104 rfl w1.heap.size 124 i0 _ 104 Tryz.underlying104 hi0 hz0 hz1 hz2 hz3 _ ms rfl hQ2 x hxA2 (fun bb hf => hxo bb hf _ hQ2) ⟨wr.heap.size, 0, none⟩ 1 rfl hN m1 m2 hbs ?_)
     intro ao3 cap3 w3 hQ3 hk3
     have hbF := hb2.trans (Kept.below hk3 hbs (fun j hj => (hQ2.lt j hj).1))
     clear hk3 hQ2 hb2 hbx hN hbs m1 m2 y0 y1 y2 y3 y4 y5 c2 hxA2 hxo hxA
     go_wp2
     go_roundw
     case rel => exact ⟨i + 1, by omega, by go_num, by rw [hst'.out]; exact hQ3, hbF⟩
     case measure => simp [intOf]; omega
    ·rw [if_neg he] at hst
     have hst' : Hid (keepM (rs.take (i + 1)) round = keepM (rs.take i) round) := hst.trans (List.append_nil _)
     clear hst hB hx hxA
     go_wp2
     go_roundw
     case rel => exact ⟨i + 1, by omega, by go_num, by rw [hst'.out]; exact hQ, hb⟩
     case measure => simp [intOf]; omega
   ·obtain rfl : i = rs.length := by omega
    have g1 : ¬ ((rs.length : Nat) : Int) < (rs.length : Int) := by omega
    rw [List.take_length, hmF.out] at hQ
    have hml : mF.length ≤ rs.length := by rw [← hmF.out]; exact List.length_filter_le _ _
    have hmm : ∀ x ∈ mF, x ∈ rs := fun x hx => by rw [← hmF.out] at hx; exact (List.mem_filter.1 hx).1
    obtain ⟨ao5, cap5, rfl, _, _⟩ := hQ.form
    obtain ⟨h2, hfr2, hk2⟩ := h1.newRow hb hQ (by omega) (fun x hx b hf => h1.off x (hmm x hx) b hf)
    have f2 := hB.frozen 2
    clear hB hQ
    go_wp2_with fail
    obtain ⟨w2, hw2⟩ : ∃ z, wr.setCell ⟨gb, 2, none⟩ (.slice ao5 mF.length cap5) = z := ⟨_, rfl⟩
    rw [hw2] at h2 hk2 ⊢
    clear hw2 c2 f2
    have hRow3 := h2.vot.row.rowAt rfl h2.vot.at_
    go_loopw [8, 9] (fun v8 v9 wr => ∃ i : Nat, i ≤ vs.length ∧ v9 = .int .i64 (i : Int) ∧ KQ votK 117 wr w2.heap.size v8 (keepV (vs.take i) round) ∧ Below w2.heap.size w2 wr) (fun _ v _ => vs.length - (intOf v).toNat)
    case atStart => exact ⟨0, Nat.zero_le _, rfl, KQ.empty _ _ _ _, Below.refl _ _⟩
    case round =>
     obtain ⟨i, hil, rfl, hQ, hb⟩ := hrel
     have hB := h2.box.below hb h2.box.lt
     have c3 := hB.cell (i := 3) rfl
     by_cases hlt : i < vs.length
     ·have g1 : (i : Int) < (vs.length : Int) := by omega
      obtain ⟨x, hx⟩ : ∃ x, vs[i]? = some x := ⟨_, List.getElem?_eq_getElem hlt⟩
      have hst := keepV_succ hx round
      obtain ⟨b, off, hao3, hbl, y0, y1, y2⟩ := (hRow3.below hb).votc hx
      subst hao3
      by_cases he : round ≤ x.round
      ·rw [if_pos he] at hst
       have hst' : Hid (keepV (vs.take (i + 1)) round = keepV (vs.take i) round ++ [x]) := hst
       have hle : (keepV (vs.take i) round).length ≤ i := by
        have := List.length_filter_le (fun x : VoteD => decide (round ≤ x.round)) (vs.take i)
        rw [List.length_take] at this
        unfold keepV
        omega
       clear hst hB
       obtain ⟨ms, hms⟩ : ∃ z, Hid (keepV (vs.take i) round = z) := ⟨_, rfl⟩
       rw [hms.out] at hQ hle hst'
       have hbx := belowNew wr (.cells #[.int .i64 x.author, .int .i64 x.round, .string x.id] 117)
       have hQ2 := hQ.below hbx
       have hb2 := hb.trans (hbx.mono hb.size)
       have hN := new_vot14 wr x
       have hbs := hb2.size
       have m1 : ms.length + 1 ≤ maxLen := by unfold maxLen; omega
       have m2 : (ms.length + 1) * 32 ≤ 140737488355328 := by omega
       clear hQ hx
       go_wp2_with (at_builtin; refine wpList_push (K := votK) rfl _ _ 105 rfl w2.heap.size 117 j0 _ 32 Tryz.underlying105 hj0 hy0 hy1 hy2 hy3 _ ms rfl hQ2 x trivial (fun _ h => h.elim) ⟨wr.heap.size, 0, none⟩ 1 rfl hN m1 m2 hbs ?_)
       intro ao3 cap3 w3 hQ3 hk3
       have hbF := hb2.trans (Kept.below hk3 hbs (fun j hj => (hQ2.lt j hj).1))
       clear hk3 hQ2 hb2 hbx hN hbs m1 m2 y0 y1 y2 c3
       go_wp2
       go_roundw
       case rel => exact ⟨i + 1, by omega, by go_num, by rw [hst'.out]; exact hQ3, hbF⟩
       case measure => simp [intOf]; omega
      ·rw [if_neg he] at hst
       have hst' : Hid (keepV (vs.take (i + 1)) round = keepV (vs.take i) round) := hst.trans (List.append_nil _)
       clear hst hB hx
       go_wp2
       go_roundw
       case rel => exact ⟨i + 1, by omega, by go_num, by rw [hst'.out]; exact hQ, hb⟩
       case measure => simp [intOf]; omega
     ·obtain rfl : i = vs.length := by omega
      have g1 : ¬ ((vs.length : Nat) : Int) < (vs.length : Int) := by omega
      rw [List.take_length, hvF.out] at hQ
      have hvl : vF.length ≤ vs.length := by rw [← hvF.out]; exact List.length_filter_le _ _
      obtain ⟨ao6, cap6, rfl, _, _⟩ := hQ.form
      obtain ⟨h3, hfr3, hk3⟩ := h2.newVot hb hQ (by omega)
      have f3 := hB.frozen 3
      have hs1 := hk1.size
      have hs2 := hk2.size
      have hfr : ∀ k, GFoot gb (.slice ao5 mF.length cap5) (.slice ao6 vF.length cap6) k → GFoot gb (.slice ao rs.length cap) (.slice ao2 vs.length cap2) k ∨ w.heap.size ≤ k := fun k hk => by
       rcases hfr3 k hk with e | e
       ·rcases hfr2 k e with e | e
        ·exact Or.inl e
        ·exact Or.inr (by omega)
       ·exact Or.inr (by omega)
      have hkk := (hk1.trans hk2).transOr hk3 (fun j hj => (hfr2 j hj).imp id (fun e => by omega))
      clear hB hQ hk1 hk2 hk3 hfr2 hfr3
      go_wp2
      go_ret
      exact ⟨rfl, _, _, h3, hfr, hkk⟩
end Go.Proofs.YtmjkbdgcnoenbaaGreatDoor

/- What the document's Missing does. -/
namespace Go.Proofs.YtmjkbdgcnoenbaaGreatDoor
open Go Go.RowKit
set_option linter.unusedVariables false

theorem gotM_some (rs : List RowM) (id : ByteArray) : (getC (rs.map RowM.d) id).isSome = (gotM rs id).isSome := by rw [gotM_d]; simp

set_option maxRecDepth 100000 in
set_option maxHeartbeats 4000000 in
theorem refMissing14_any (x : HdrM) (gb : Nat) (ql qv : Value) (rt : Nat) (me : Int) (rs : List RowM) (vs : List VoteD) (low own : Int) (w : World) (h : RDg w gb ql qv rt me rs vs low own) (hA : x.At w) (hp : x.parents.length ≤ 1000000) :
  Calls Tryz.prog 15 #[.pointer (some ⟨gb, 0, none⟩), x.v] w fun e w' => ∃ v, e = .returned v ∧ KQ strK 9 w' w.heap.size v (missD ⟨rs.map RowM.d, vs, low, own⟩ x.d) ∧ Below w.heap.size w w' := by
 obtain ⟨xa, xr, xra, xrs, xrc, xpa, ps, xpc⟩ := x
 have hpr : RowAt strK w xpa ps := hA.ps
 have hp : ps.length ≤ 1000000 := hp
 obtain ⟨RL, hRL⟩ : ∃ z, Hid (rs.map RowM.d = z) := ⟨_, rfl⟩
 have hmd : missD ⟨rs.map RowM.d, vs, low, own⟩ (HdrM.d ⟨xa, xr, xra, xrs, xrc, xpa, ps, xpc⟩) = if xr ≤ low then [] else missL RL ps := by rw [hRL.out]; rfl
 rw [hmd]
 obtain ⟨MR, hMR0⟩ : ∃ z, Hid ((if xr ≤ low then [] else missL RL ps) = z) := ⟨_, rfl⟩
 rw [hMR0.out]
 clear hmd hA
 have hbx := belowNew w (.cells #[.int .i64 xa, .int .i64 xr, .slice xra xrs.length xrc, .slice xpa ps.length xpc] 33)
 have hX := Arr.new w 33 [.int .i64 xa, .int .i64 xr, .slice xra xrs.length xrc, .slice xpa ps.length xpc]
 have h1 := h.below hbx
 have hpr1 := hpr.below hbx
 unfold HdrM.v
 simp only
 go_enter Tryz.func15, Tryz.ntmps15
 go_upto_region 2 with fail
 obtain ⟨w1, hw1⟩ : ∃ z, w.alloc (.cells #[.int .i64 xa, .int .i64 xr, .slice xra xrs.length xrc, .slice xpa ps.length xpc] 33) = z := ⟨_, rfl⟩
 rw [hw1] at hbx hX h1 hpr1 ⊢
 clear hw1
 have c4 := h1.box.cell (i := 4) rfl
 have x1 := hX.cell (i := 1) rfl
 by_cases hr : xr ≤ low
 ·have hMR : [] = MR := by rw [← hMR0.out, if_pos hr]
  subst hMR
  go_quiet (fail)
  have hbq := hbx.trans ((below_drewN (Below.refl w1.heap.size w1) nq).mono hbx.size)
  have hQ0 := KQ.empty strK 9 (w1.drewN nq) w.heap.size
  generalize w1.drewN nq = w2 at hbq hQ0 ⊢
  clear c4 x1
  go_wp2
  go_ret
  exact ⟨_, rfl, hQ0, hbq⟩
 ·have hMR : Hid (missL RL ps = MR) := by show _ = _; rw [← hMR0.out, if_neg hr]
  clear hMR0
  go_quiet (fail)
  have hbd := below_drewN (Below.refl w1.heap.size w1) nq
  have hX2 := hX.below hbd hX.lt
  have h2 := h1.below hbd
  have hpr2 := hpr1.below hbd
  have hb2 := hbx.trans (hbd.mono hbx.size)
  generalize w1.drewN nq = w2 at hX2 h2 hpr2 hb2 ⊢
  clear c4 x1 hX h1 hpr1 hbd hbx
  obtain ⟨i0, z0, hi0, hz0, hz1, hz2, hz3⟩ := strInfoT
  have cG := fun id w1 h1 => refGet14_any id gb ql qv rt me rs vs low own w1 h1
  go_wp2_with fail
  go_loopw [5, 6, 7, 8, 9] (fun v5 v6 _ _ _ wr => ∃ (i : Nat) (l : List ByteArray), i ≤ ps.length ∧ v6 = .int .i64 (i : Int) ∧ Hid (missL RL (ps.take i) = l) ∧ Hid (l.length ≤ i) ∧ KQ strK 9 wr w.heap.size v5 l ∧ (l = [] → v5 = .slice none 0 0) ∧ Below w2.heap.size w2 wr) (fun _ v _ _ _ _ => ps.length - (intOf v).toNat)
  case atStart => exact ⟨0, [], Nat.zero_le _, rfl, (rfl : _ = _), Nat.le_refl _, KQ.empty _ _ _ _, fun _ => rfl, Below.refl _ _⟩
  case round =>
   obtain ⟨i, l, hi, rfl, hl, hll, hQ, hem, hb⟩ := hrel
   have hXr := hX2.below hb hX2.lt
   have x3 := hXr.cell (i := 3) rfl
   by_cases hil : i < ps.length
   ·have g1 : (i : Int) < (ps.length : Int) := by omega
    obtain ⟨p, hpi⟩ : ∃ p, ps[i]? = some p := ⟨_, List.getElem?_eq_getElem hil⟩
    obtain ⟨b, off, hpa, hbl, y0⟩ := (hpr2.below hb).strs i hil
    rw [(List.getElem?_eq_some_iff.1 hpi).2] at y0
    subst hpa
    have hsu := missL_succ RL ps i p hpi
    rw [hl.out] at hsu
    have hGs : Hid ((getC RL p).isSome = (gotM rs p).isSome) := by show _ = _; rw [← hRL.out]; exact gotM_some rs p
    obtain ⟨gm, hgm⟩ : ∃ z, Hid (gotM rs p = z) := ⟨_, rfl⟩
    have cGp := cG p wr (h2.below hb)
    rw [hgm.out] at cGp hGs
    obtain ⟨cm, hcm⟩ : ∃ z, Hid (certM gm = z) := ⟨_, rfl⟩
    rw [hcm.out] at cGp
    unfold CertM.v at cGp
    obtain ⟨vl, vc, rfl, hvn, hvR⟩ := hQ.form
    go_wp2_with fail
    refine cGp.mono ?_
    rintro e w3 ⟨rfl, hb3⟩
    have hbc := belowNew w3 (.cells #[.int .i64 cm.hdr.author, .int .i64 cm.hdr.round, .slice cm.hdr.ra cm.hdr.refs.length cm.hdr.rc, .slice cm.hdr.pa cm.hdr.parents.length cm.hdr.pc, .slice cm.va cm.votes.length cm.vc] 48)
    have hb4 := hb.trans ((hb3.trans (hbc.mono hb3.size)).mono hb.size)
    have hQ4 := (hQ.below hb3).below hbc
    clear cGp y0 x3 hXr hb3 hb hQ hvR hbc
    cases hg : gm with
    | some y =>
     have hst : Hid (missL RL (ps.take (i + 1)) = l) := by
      show _ = _
      rw [hsu]
      unfold missStep
      rw [hGs.out, hg, if_pos (by rfl)]
     subst hg
     clear hsu hGs hgm hcm
     go_wp2
     go_roundw
     case rel => exact ⟨i + 1, l, by omega, by go_num, hst, (by have := hll.out; show l.length ≤ i + 1; omega), hQ4, hem, hb4⟩
     case measure => simp [intOf]; omega
    | none =>
     have hst : Hid (missL RL (ps.take (i + 1)) = insU l p) := by
      show _ = _
      rw [hsu]
      unfold missStep
      rw [hGs.out, hg, if_neg (by decide)]
     subst hg
     clear hsu hGs hgm hcm
     go_wp2_with fail
     obtain ⟨w4, hw4⟩ : ∃ z, w3.alloc (.cells #[.int .i64 cm.hdr.author, .int .i64 cm.hdr.round, .slice cm.hdr.ra cm.hdr.refs.length cm.hdr.rc, .slice cm.hdr.pa cm.hdr.parents.length cm.hdr.pc, .slice cm.va cm.votes.length cm.vc] 48) = z := ⟨_, rfl⟩
     rw [hw4] at hb4 hQ4 ⊢
     clear hw4
     have hlt4 : l.length ≤ 1000000 := by have := hll.out; omega
     have hFx : ∀ U, Below w4.heap.size w4 U → (U.cell? ⟨w.heap.size, 3, none⟩ = some (.slice (some ⟨b, off, none⟩) ps.length xpc) ∧ U.cell? ⟨b, off + i, none⟩ = some (.string p)) := fun U hU => by
      have hbU := hb4.trans (hU.mono hb4.size)
      refine ⟨(hX2.below hbU hX2.lt).cell (i := 3) rfl, ?_⟩
      obtain ⟨b', off', e', _, c'⟩ := (hpr2.below hbU).strs i hil
      rw [(List.getElem?_eq_some_iff.1 hpi).2] at c'
      simp only [Option.some.injEq, Addr.mk.injEq, and_true] at e'
      obtain ⟨rfl, rfl⟩ := e'
      exact c'
     obtain ⟨lo, hlo⟩ : ∃ z, Hid (insT l p = z) := ⟨_, rfl⟩
     go_loopw [9] (fun v9 wr => ∃ k : Nat, k ≤ insAt l p ∧ v9 = .int .i64 (k : Int) ∧ Below w4.heap.size w4 wr) (fun v _ => insAt l p - (intOf v).toNat)
     case atStart => exact ⟨0, Nat.zero_le _, rfl, Below.refl _ _⟩
     case round =>
      obtain ⟨k, hka, rfl, hbk⟩ := hrel
      have hpl := insAt_le l p
      have hnT : Hid (vl = none → vc = 0) := hvn
      clear hvn
      obtain ⟨e3, y0⟩ := hFx _ hbk
      have hQk := hQ4.below hbk
      rcases (by by_cases h : k < l.length; exact Or.inl h; exact Or.inr h : k < l.length ∨ ¬ k < l.length) with hlt | hlt
      focus
       have gd : decide (k < l.length) = true := decide_eq_true hlt
       obtain ⟨z, hz⟩ : ∃ z, l[k]? = some z := ⟨_, List.getElem?_eq_getElem hlt⟩
       have hst := insAt_step hz hka
       obtain ⟨g, o3, hvl, hg1, hg2, _, hlc⟩ := hQk.spot (by omega)
       have hRk := hQk.row.rowAt rfl hQk.at_
       have q0 := (hRk.strs k hlt)
       obtain ⟨g', o3', e', _, q0⟩ := q0
       rw [(List.getElem?_eq_some_iff.1 hz).2] at q0
       subst hvl
       simp only [Option.some.injEq, Addr.mk.injEq, and_true] at e'
       obtain ⟨rfl, rfl⟩ := e'
       have g2 : (k : Int) < (l.length : Int) := by omega
       rcases Bool.eq_false_or_eq_true (Op.bytesLess z.toList p.toList) with hls | hls
       ·have hlt2 := hst.2 hls
        clear hst hz
        go_upto_region 10 with fail
        go_quiet (fail)
        have hbN := hbk.trans ((below_drewN (Below.refl wr.heap.size wr) nq).mono hbk.size)
        clear e3 y0 q0 hQk hRk
        go_wp2
        go_roundw
        case rel => exact ⟨k + 1, by omega, by go_num, hbN⟩
        case measure => simp [intOf]; omega
       have Hip : Hid (k = insAt l p) := by
        have : ¬ k < insAt l p := fun h => by rw [hst.1 h] at hls; cases hls
        show k = _
        omega
       clear hst hka
       go_upto_region 10 with fail
       go_quiet (fail)
       have hbN := hbk.trans ((below_drewN (Below.refl wr.heap.size wr) nq).mono hbk.size)
       generalize wr.drewN nq = wa at hbN ⊢
       clear e3 y0 q0 hQk hRk hbk
       obtain ⟨e3, y0⟩ := hFx _ hbN
       have hQk := hQ4.below hbN
       have hRk := hQk.row.rowAt rfl hQk.at_
       obtain ⟨g', o3', e', _, q0⟩ := hRk.strs k hlt
       rw [(List.getElem?_eq_some_iff.1 hz).2] at q0
       simp only [Option.some.injEq, Addr.mk.injEq, and_true] at e'
       obtain ⟨rfl, rfl⟩ := e'
       have gn : ((k : Int) == (l.length : Int)) = false := by rw [beq_eq_false_iff_ne]; omega
       have gm : (k == l.length) = false := by rw [beq_eq_false_iff_ne]; omega
       go_upto_region 12 with fail
       rcases Bool.eq_false_or_eq_true (z.toList == p.toList) with hzp | hzp
       ·have hne : (z.toList != p.toList) = false := by simp [bne, hzp]
        have hst2 : Hid (missL RL (ps.take (i + 1)) = l) := by
         show _ = _
         rw [hst.out]
         unfold insU
         rw [← Hip.out, hz, if_pos (by rw [bytes_eq] at hzp; rw [of_decide_eq_true hzp])]
        clear hz
        go_quiet (fail)
        have hbO := hbN.trans ((below_drewN (Below.refl wa.heap.size wa) nq).mono hbN.size)
        have hQF := hQ4.below hbO
        have hbF := hb4.trans (hbO.mono hb4.size)
        clear e3 y0 q0 hQk hRk
        go_wp2
        go_roundw
        case rel => exact ⟨i + 1, l, by omega, by go_num, hst2, (by have := hll.out; show l.length ≤ i + 1; omega), hQF, hem, hbF⟩
        case measure => simp [intOf]; omega
       have hne : (z.toList != p.toList) = true := by simp [bne, hzp]
       have hst2 : Hid (missL RL (ps.take (i + 1)) = lo) := by
        show _ = _
        rw [hst.out]
        unfold insU
        rw [← Hip.out, hz, if_neg (by
         intro e
         simp only [Option.some.injEq] at e
         rw [e] at hzp
         simp at hzp)]
        exact hlo.out
       clear hz
       go_quiet (fail)
       have hbO := hbN.trans ((below_drewN (Below.refl wa.heap.size wa) nq).mono hbN.size)
       generalize wa.drewN nq = wb at hbO ⊢
       clear e3 y0 q0 hQk hRk hbN
       have hQ5 := hQ4.below hbO
       have hRow6 := hQ5.row.rowAt rfl hQ5.at_
       have hci : (vc = k) = False := by simp; omega
       have hrD : ∀ U, Below wb.heap.size wb U → RowAt strK U (some ⟨g, o3 + k, none⟩) (l.drop k) := fun U hb => by have := (hRow6.below hb).dropG k; rw [show k * strK.n = k from Nat.mul_one k] at this; exact this
       have hnD : Hid (some (⟨g, o3 + k, none⟩ : Addr) = none → vc - k = 0) := fun h => by cases h
      rotate_left 1
      focus
       have gd : decide (k < l.length) = false := decide_eq_false hlt
       have g2 : ¬ (k : Int) < (l.length : Int) := by omega
       have Hip : Hid (k = insAt l p) := by show k = _; omega
       have hkl : k = l.length := by have := Hip.out; omega
       have hst2 : Hid (missL RL (ps.take (i + 1)) = lo) := by
        show _ = _
        rw [hst.out]
        unfold insU
        rw [← Hip.out, List.getElem?_eq_none (by omega), if_neg (by simp)]
        exact hlo.out
       clear hka
       go_upto_region 10 with fail
       go_quiet (fail)
       have hbN := hbk.trans ((below_drewN (Below.refl wr.heap.size wr) nq).mono hbk.size)
       generalize wr.drewN nq = wa at hbN ⊢
       clear e3 y0 hQk hbk
       obtain ⟨e3, y0⟩ := hFx _ hbN
       have gn : ((k : Int) == (l.length : Int)) = true := by rw [beq_iff_eq]; omega
       have gm : (k == l.length) = true := by rw [beq_iff_eq]; omega
       go_upto_region 12 with fail
       go_quiet (fail)
       have hbO := hbN.trans ((below_drewN (Below.refl wa.heap.size wa) nq).mono hbN.size)
       generalize wa.drewN nq = wb at hbO ⊢
       clear e3 y0 hbN
       have hQ5 := hQ4.below hbO
       have hRow6 := hQ5.row.rowAt rfl hQ5.at_
       rcases (by cases l with | nil => exact Or.inl rfl | cons z r => exact Or.inr (Nat.succ_pos _) : l = [] ∨ 0 < l.length) with hl0 | hl0
       focus
        have hv0 := hem hl0
        rw [hl0, List.length_nil] at hv0
        simp only [Value.slice.injEq, true_and] at hv0
        obtain ⟨hva, hvc⟩ := hv0
        subst hva
        have hci := eq_true (show vc = k by rw [hvc, hkl, hl0]; rfl)
        have hrD : ∀ U, Below wb.heap.size wb U → RowAt strK U none (l.drop k) := fun U _ => by rw [hl0, List.drop_nil]; exact nil_row _ _
        have hnD : Hid ((none : Option Addr) = none → vc - k = 0) := fun _ => by omega
        have hlc : l.length ≤ vc := by rw [hl0]; exact Nat.zero_le _
        clear hvc hl0 hkl
       rotate_left 1
       obtain ⟨g, o3, hvl, hg1, hg2, _, hlc⟩ := hQ5.spot hl0
       subst hvl
       rcases (by by_cases hcp : vc = k; exact Or.inl hcp; exact Or.inr hcp : vc = k ∨ ¬ vc = k) with hcp | hcp
       focus
        have hci := eq_true hcp
        have hdn : l.drop k = [] := List.drop_of_length_le (by omega)
        have hrD : ∀ U, Below wb.heap.size wb U → RowAt strK U (some ⟨g, o3, none⟩) (l.drop k) := fun U _ => by rw [hdn]; exact nil_row _ _
        have hnD : Hid (some (⟨g, o3, none⟩ : Addr) = none → vc - k = 0) := fun h => by cases h
        clear hdn hcp hkl
       rotate_left 1
       have hci := eq_false hcp
       have hrD : ∀ U, Below wb.heap.size wb U → RowAt strK U (some ⟨g, o3 + k, none⟩) (l.drop k) := fun U hb => by have := (hRow6.below hb).dropG k; rw [show k * strK.n = k from Nat.mul_one k] at this; exact this
       have hnD : Hid (some (⟨g, o3 + k, none⟩ : Addr) = none → vc - k = 0) := fun h => by cases h
       clear hcp hkl
      all_goals
       have hc := fun w' (hb : Below wb.heap.size wb w') => hFx w' (hbO.trans (hb.mono hbO.size))
       have hwb : w.heap.size ≤ wb.heap.size := by have := hb2.size; have := hb4.size; have := hbO.size; omega
       have ji : (0 : Int) ≤ (i : Int) := by omega
       go_upto_region 13 with fail
       have j3 : (0 : Int) ≤ (k : Int) := by omega
       have j4 : (k : Int) ≤ (vc : Int) := by have := Hip.out; omega
       have j5 : (k : Int) ≤ (l.length : Int) := by have := Hip.out; omega
       have hTl : (l.take k).length = k := by rw [List.length_take]; have := Hip.out; omega
       have hDl : (l.drop k).length = l.length - k := List.length_drop
       have hN3 : Hid (k + 1 + (l.length - k) = l.length + 1) := by show k + 1 + (l.length - k) = l.length + 1; have := Hip.out; omega
       have hrT := fun U (hb : Below wb.heap.size wb U) => (hRow6.below hb).take k
       have m1 : k ≤ maxLen := by have := Hip.out; unfold maxLen; omega
       have m2 : k * 16 ≤ 140737488355328 := by have := Hip.out; omega
       have m3 : k + 1 ≤ maxLen := by have := Hip.out; unfold maxLen; omega
       have m4 : (k + 1) * 16 ≤ 140737488355328 := by have := Hip.out; omega
       have m5 : l.length + 1 ≤ maxLen := by unfold maxLen; omega
       have m6 : (l.length + 1) * 16 ≤ 140737488355328 := by omega
       have HL : Hid (lo = l.take k ++ p :: l.drop k) := by show lo = _; rw [← hlo.out]; unfold insT; rw [← Hip.out]
       have HN : Hid (l.length + 1 = lo.length) := by
        show l.length + 1 = lo.length
        rw [HL.out, List.length_append, List.length_cons, hTl, hDl]
        have := Hip.out
        omega
       have hbd : Below wb.heap.size wb wb.drew := below_drewN (Below.refl _ wb) 1
       go_wp2_with fail
       refine wp_region_K (fun w' => Below wb.heap.size wb w') 16 (by kernel_rfl) ?_
       generalize wb.drew = w5 at hbd ⊢
       refine wpAnyK_takeD (i := 1) (v := ?_) (some 70) rfl rfl (by kernel_rfl) (by kernel_rfl) (by kernel_rfl) (by kernel_rfl) (by decide) (fun _ _ _ h => h) (by assumption) (Or.inl ⟨by rfl, ?_⟩) ?_
       rotate_left 1
       ·intro w' hSw
        obtain ⟨cF, cG'⟩ := hc w' hSw
        go_simp
        first | done | with_reducible rfl
       simp only [Act.put, List.setIfInBounds_toArray, List.set_cons_zero, List.set_cons_succ]
       refine wpAnyK_takeD (i := 2) (v := ?_) (some 71) rfl rfl (by kernel_rfl) (by kernel_rfl) (by kernel_rfl) (by kernel_rfl) (by decide) (fun _ _ _ h => h) (by assumption) (Or.inl ⟨by rfl, ?_⟩) ?_
       rotate_left 1
       ·intro w' hSw
        obtain ⟨cF, cG'⟩ := hc w' hSw
        go_simp
        first | done | with_reducible rfl
       simp only [Act.put, List.setIfInBounds_toArray, List.set_cons_zero, List.set_cons_succ]
       refine wpAnyK_takeD (i := 3) (v := ?_) (some 72) rfl rfl (by kernel_rfl) (by kernel_rfl) (by kernel_rfl) (by kernel_rfl) (by decide) (fun _ _ _ h => h) (by assumption) (Or.inl ⟨by rfl, ?_⟩) ?_
       rotate_left 1
       ·intro w' hSw
        obtain ⟨cF, cG'⟩ := hc w' hSw
        go_simp
        first | done | with_reducible rfl
       simp only [Act.put, List.setIfInBounds_toArray, List.set_cons_zero, List.set_cons_succ]
       refine wpAnyK_takeD (i := 5) (v := ?_) (some 74) rfl rfl (by kernel_rfl) (by kernel_rfl) (by kernel_rfl) (by kernel_rfl) (by decide) (fun _ _ _ h => h) (by assumption) (Or.inl ⟨by rfl, ?_⟩) ?_
       rotate_left 1
       ·intro w' hSw
        obtain ⟨cF, cG'⟩ := hc w' hSw
        go_simp
        first | done | with_reducible rfl
       simp only [Act.put, List.setIfInBounds_toArray, List.set_cons_zero, List.set_cons_succ]
       refine wpAnyK_takeD (i := 6) (v := ?_) (some 75) rfl rfl (by kernel_rfl) (by kernel_rfl) (by kernel_rfl) (by kernel_rfl) (by decide) (fun _ _ _ h => h) (by assumption) (Or.inl ⟨by rfl, ?_⟩) ?_
       rotate_left 1
       ·intro w' hSw
        obtain ⟨cF, cG'⟩ := hc w' hSw
        go_simp
        first | done | with_reducible rfl
       simp only [Act.put, List.setIfInBounds_toArray, List.set_cons_zero, List.set_cons_succ]
       refine wpAnyK_takeD (i := 7) (v := ?_) (some 76) rfl rfl (by kernel_rfl) (by kernel_rfl) (by kernel_rfl) (by kernel_rfl) (by decide) (fun _ _ _ h => h) (by assumption) (Or.inl ⟨by rfl, ?_⟩) ?_
       rotate_left 1
       ·intro w' hSw
        obtain ⟨cF, cG'⟩ := hc w' hSw
        go_simp
        first | done | with_reducible rfl
       simp only [Act.put, List.setIfInBounds_toArray, List.set_cons_zero, List.set_cons_succ]
       refine wpAnyK_takeD (i := 8) (v := ?_) (some 77) rfl rfl (by kernel_rfl) (by kernel_rfl) (by kernel_rfl) (by kernel_rfl) (by decide) (fun _ _ _ h => h) (by assumption) (Or.inl ⟨by rfl, ?_⟩) ?_
       rotate_left 1
       ·intro w' hSw
        obtain ⟨cF, cG'⟩ := hc w' hSw
        go_simp
        first | done | with_reducible rfl
       simp only [Act.put, List.setIfInBounds_toArray, List.set_cons_zero, List.set_cons_succ]
       refine wpAnyK_takeD (i := 9) (v := ?_) (some 78) rfl rfl (by kernel_rfl) (by kernel_rfl) (by kernel_rfl) (by kernel_rfl) (by decide) (fun _ _ _ h => h) (by assumption) (Or.inl ⟨by rfl, ?_⟩) ?_
       rotate_left 1
       ·intro w' hSw
        obtain ⟨cF, cG'⟩ := hc w' hSw
        go_simp
        first | done | with_reducible rfl
       simp only [Act.put, List.setIfInBounds_toArray, List.set_cons_zero, List.set_cons_succ]
       refine wpAnyK_takeD (i := 12) (v := ?_) (some 81) rfl rfl (by kernel_rfl) (by kernel_rfl) (by kernel_rfl) (by kernel_rfl) (by decide) (fun _ _ _ h => h) (by assumption) (Or.inl ⟨by rfl, ?_⟩) ?_
       rotate_left 1
       ·intro w' hSw
        obtain ⟨cF, cG'⟩ := hc w' hSw
        go_simp
        first | done | with_reducible rfl
       simp only [Act.put, List.setIfInBounds_toArray, List.set_cons_zero, List.set_cons_succ]
       refine wpAnyK_takeD (i := 13) (v := ?_) (some 82) rfl rfl (by kernel_rfl) (by kernel_rfl) (by kernel_rfl) (by kernel_rfl) (by decide) (fun _ _ _ h => h) (by assumption) (Or.inl ⟨by rfl, ?_⟩) ?_
       rotate_left 1
       ·intro w' hSw
        obtain ⟨cF, cG'⟩ := hc w' hSw
        go_simp
        first | done | with_reducible rfl
       simp only [Act.put, List.setIfInBounds_toArray, List.set_cons_zero, List.set_cons_succ]
       refine wpAnyK_takeD (i := 14) (v := ?_) (some 83) rfl rfl (by kernel_rfl) (by kernel_rfl) (by kernel_rfl) (by kernel_rfl) (by decide) (fun _ _ _ h => h) (by assumption) (Or.inl ⟨by rfl, ?_⟩) ?_
       rotate_left 1
       ·intro w' hSw
        obtain ⟨cF, cG'⟩ := hc w' hSw
        go_simp
        first | done | with_reducible rfl
       simp only [Act.put, List.setIfInBounds_toArray, List.set_cons_zero, List.set_cons_succ]
       refine wpAnyK_ready (rs := [0, 10]) (by kernel_rfl) (by simp) ?_
       refine AllReadyK.cons rfl (fun K' hK => ?_) ?_
       ·go_simp
        have bw6 := hbd.trans ((belowNew w5 (.cells #[] 9)).mono hbd.size)
        have hOw6 : (w5.alloc (.cells #[] 9)).ownsRow wb.heap.size 9 strK.n (.slice (some ⟨w5.heap.size, 0, none⟩) 0 0) 0 [] := World.ownsRow_made w5 #[] 0 hbd.size (by unfold maxLen; omega) (by simp)
        have hsw6 : w5.heap.size < (w5.alloc (.cells #[] 9)).heap.size := by rw [alloc_size]; omega
        obtain ⟨w6, hww6⟩ : ∃ q, w5.alloc (.cells #[] 9) = q := ⟨_, rfl⟩
        rw [hww6] at bw6 hOw6 hsw6 ⊢
        refine hK.out _ _ (fun _ => bw6) ?_
        clear hK K' hww6
        refine wpAnyK_ready (rs := [4, 10]) (by kernel_rfl) (by simp) ?_
        refine AllReadyK.consD (some 73) rfl rfl (fun K' hK => ?_) ?_
        ·refine step_ownR (K := strK) w6 (by rfl) _ _ 31 (by rfl) wb.heap.size 9 i0 _ 16 Tryz.underlying31 hi0 hz0 hz1 hz2 hz3 _ _ _ _ _ (by rfl) hOw6 _ _ _ hTl (Nat.zero_add _) (by rfl) (hrT _ bw6) (fun e => hnT.out (by first | exact e | trivial)) m1 m2 bw6.size ?_
         intro aw7 cw7 w7 hOw7 hkw7
         have bw7 := bw6.trans (Kept.below hkw7 bw6.size (fun k hk => (hOw6.lt k hk).1))
         refine hK.out _ _ (fun _ => bw7) ?_
         clear hK K' hkw7
         simp only [Act.put, List.setIfInBounds_toArray, List.set_cons_zero, List.set_cons_succ]
         refine wpAnyK_ready (rs := [10]) (by kernel_rfl) (by simp) ?_
         refine AllReadyK.cons rfl (fun K' hK => ?_) ?_
         ·go_simp
          have bw8 := bw7.trans ((belowNew w7 (.cells #[.string p] 9)).mono bw7.size)
          have hRw8 := strOneG w7 p
          have hsw8 : w7.heap.size < (w7.alloc (.cells #[.string p] 9)).heap.size := by rw [alloc_size]; omega
          have hOw8 := own_belowT hOw7 (belowNew w7 (.cells #[.string p] 9))
          obtain ⟨w8, hww8⟩ : ∃ q, w7.alloc (.cells #[.string p] 9) = q := ⟨_, rfl⟩
          rw [hww8] at bw8 hRw8 hsw8 hOw8 ⊢
          refine hK.out _ _ (fun _ => bw8) ?_
          clear hK K' hww8
          refine wpAnyK_ready (rs := [11]) (by kernel_rfl) (by simp) ?_
          refine AllReadyK.consD (some 80) rfl rfl (fun K' hK => ?_) ?_
          ·refine step_ownR (K := strK) w8 (by rfl) _ _ 31 (by rfl) wb.heap.size 9 i0 _ 16 Tryz.underlying31 hi0 hz0 hz1 hz2 hz3 _ _ _ _ _ (by rfl) hOw8 _ _ _ rfl rfl (by rfl) hRw8 (fun h => by cases h) m3 m4 bw8.size ?_
           intro aw9 cw9 w9 hOw9 hkw9
           have bw9 := bw8.trans (Kept.below hkw9 bw8.size (fun k hk => (hOw8.lt k hk).1))
           refine hK.out _ _ (fun _ => bw9) ?_
           clear hK K' hkw9
           simp only [Act.put, List.setIfInBounds_toArray, List.set_cons_zero, List.set_cons_succ]
           refine wpAnyK_ready (rs := [15]) (by kernel_rfl) (by simp) ?_
           refine AllReadyK.consD (some 84) rfl rfl (fun K' hK => ?_) ?_
           ·refine step_ownR (K := strK) w9 (by rfl) _ _ 31 (by rfl) wb.heap.size 9 i0 _ 16 Tryz.underlying31 hi0 hz0 hz1 hz2 hz3 _ _ _ _ _ (by rfl) hOw9 _ _ _ hDl hN3.out (by rfl) (hrD _ bw9) (fun e => hnD.out (by first | exact e | trivial)) m5 m6 bw9.size ?_
            intro aw10 cw10 w10 hOw10 hkw10
            have bw10 := bw9.trans (Kept.below hkw10 bw9.size (fun k hk => (hOw9.lt k hk).1))
            refine hK.out _ _ (fun _ => bw10) ?_
            clear hK K' hkw10
            simp only [Act.put, List.setIfInBounds_toArray, List.set_cons_zero, List.set_cons_succ]
            refine wpAnyK_ready (rs := [16]) (by kernel_rfl) (by simp) ?_
            refine AllReadyK.cons rfl (fun K' hK => ?_) AllReadyK.nil
            go_simp
            have hq := (KQ.joined (K := strK) (T := 9) (lo := lo) (fun _ _ h => h.elim) (fun _ => trivial) hOw10 HL.out HN.out).rebase (B' := w.heap.size) hwb
            have hbF := hb4.trans ((hbO.trans (bw10.mono hbO.size)).mono hb4.size)
            refine hK.out _ _ (fun h => absurd rfl h) ?_
            clear hK K'
            refine wpAnyK_done (by kernel_rfl) ?_ _
            go_wp2
            go_roundw
            case rel => exact ⟨i + 1, lo, by omega, by go_num, hst2, (by have := hll.out; have := HN.out; show lo.length ≤ i + 1; omega), hq, (fun e => by rw [e] at HN; have := HN.out; simp at this), hbF⟩
            case measure => simp [intOf]; omega
           exact AllReadyK.nil
          exact AllReadyK.nil
         exact AllReadyK.nil
        refine AllReadyK.cons rfl (fun K' hK => ?_) ?_
        ·go_simp
         have bw11 := bw6.trans ((belowNew w6 (.cells #[.string p] 9)).mono bw6.size)
         have hRw11 := strOneG w6 p
         have hsw11 : w6.heap.size < (w6.alloc (.cells #[.string p] 9)).heap.size := by rw [alloc_size]; omega
         have hOw11 := own_belowT hOw6 (belowNew w6 (.cells #[.string p] 9))
         obtain ⟨w11, hww11⟩ : ∃ q, w6.alloc (.cells #[.string p] 9) = q := ⟨_, rfl⟩
         rw [hww11] at bw11 hRw11 hsw11 hOw11 ⊢
         refine hK.out _ _ (fun _ => bw11) ?_
         clear hK K' hww11
         refine wpAnyK_ready (rs := [4]) (by kernel_rfl) (by simp) ?_
         refine AllReadyK.consD (some 73) rfl rfl (fun K' hK => ?_) ?_
         ·refine step_ownR (K := strK) w11 (by rfl) _ _ 31 (by rfl) wb.heap.size 9 i0 _ 16 Tryz.underlying31 hi0 hz0 hz1 hz2 hz3 _ _ _ _ _ (by rfl) hOw11 _ _ _ hTl (Nat.zero_add _) (by rfl) (hrT _ bw11) (fun e => hnT.out (by first | exact e | trivial)) m1 m2 bw11.size ?_
          intro aw12 cw12 w12 hOw12 hkw12
          have bw12 := bw11.trans (Kept.below hkw12 bw11.size (fun k hk => (hOw11.lt k hk).1))
          have hRw12 := hRw11.kept hkw12 (fun k hk e => by
           rcases hk with ⟨_, off', e'⟩ | ⟨_, _, f'⟩
           ·simp at e'
            simp [Value.ownBlock] at e
            omega
           ·exact f'.elim)
          refine hK.out _ _ (fun _ => bw12) ?_
          clear hK K' hkw12
          simp only [Act.put, List.setIfInBounds_toArray, List.set_cons_zero, List.set_cons_succ]
          refine wpAnyK_ready (rs := [11]) (by kernel_rfl) (by simp) ?_
          refine AllReadyK.consD (some 80) rfl rfl (fun K' hK => ?_) ?_
          ·refine step_ownR (K := strK) w12 (by rfl) _ _ 31 (by rfl) wb.heap.size 9 i0 _ 16 Tryz.underlying31 hi0 hz0 hz1 hz2 hz3 _ _ _ _ _ (by rfl) hOw12 _ _ _ rfl rfl (by rfl) hRw12 (fun h => by cases h) m3 m4 bw12.size ?_
           intro aw13 cw13 w13 hOw13 hkw13
           have bw13 := bw12.trans (Kept.below hkw13 bw12.size (fun k hk => (hOw12.lt k hk).1))
           refine hK.out _ _ (fun _ => bw13) ?_
           clear hK K' hkw13
           simp only [Act.put, List.setIfInBounds_toArray, List.set_cons_zero, List.set_cons_succ]
           refine wpAnyK_ready (rs := [15]) (by kernel_rfl) (by simp) ?_
           refine AllReadyK.consD (some 84) rfl rfl (fun K' hK => ?_) ?_
           ·refine step_ownR (K := strK) w13 (by rfl) _ _ 31 (by rfl) wb.heap.size 9 i0 _ 16 Tryz.underlying31 hi0 hz0 hz1 hz2 hz3 _ _ _ _ _ (by rfl) hOw13 _ _ _ hDl hN3.out (by rfl) (hrD _ bw13) (fun e => hnD.out (by first | exact e | trivial)) m5 m6 bw13.size ?_
            intro aw14 cw14 w14 hOw14 hkw14
            have bw14 := bw13.trans (Kept.below hkw14 bw13.size (fun k hk => (hOw13.lt k hk).1))
            refine hK.out _ _ (fun _ => bw14) ?_
            clear hK K' hkw14
            simp only [Act.put, List.setIfInBounds_toArray, List.set_cons_zero, List.set_cons_succ]
            refine wpAnyK_ready (rs := [16]) (by kernel_rfl) (by simp) ?_
            refine AllReadyK.cons rfl (fun K' hK => ?_) AllReadyK.nil
            go_simp
            have hq := (KQ.joined (K := strK) (T := 9) (lo := lo) (fun _ _ h => h.elim) (fun _ => trivial) hOw14 HL.out HN.out).rebase (B' := w.heap.size) hwb
            have hbF := hb4.trans ((hbO.trans (bw14.mono hbO.size)).mono hb4.size)
            refine hK.out _ _ (fun h => absurd rfl h) ?_
            clear hK K'
            refine wpAnyK_done (by kernel_rfl) ?_ _
            go_wp2
            go_roundw
            case rel => exact ⟨i + 1, lo, by omega, by go_num, hst2, (by have := hll.out; have := HN.out; show lo.length ≤ i + 1; omega), hq, (fun e => by rw [e] at HN; have := HN.out; simp at this), hbF⟩
            case measure => simp [intOf]; omega
           exact AllReadyK.nil
          exact AllReadyK.nil
         exact AllReadyK.nil
        exact AllReadyK.nil
       refine AllReadyK.cons rfl (fun K' hK => ?_) ?_
       ·go_simp
        have bw15 := hbd.trans ((belowNew w5 (.cells #[.string p] 9)).mono hbd.size)
        have hRw15 := strOneG w5 p
        have hsw15 : w5.heap.size < (w5.alloc (.cells #[.string p] 9)).heap.size := by rw [alloc_size]; omega
        obtain ⟨w15, hww15⟩ : ∃ q, w5.alloc (.cells #[.string p] 9) = q := ⟨_, rfl⟩
        rw [hww15] at bw15 hRw15 hsw15 ⊢
        refine hK.out _ _ (fun _ => bw15) ?_
        clear hK K' hww15
        refine wpAnyK_ready (rs := [0]) (by kernel_rfl) (by simp) ?_
        refine AllReadyK.cons rfl (fun K' hK => ?_) ?_
        ·go_simp
         have bw16 := bw15.trans ((belowNew w15 (.cells #[] 9)).mono bw15.size)
         have hOw16 : (w15.alloc (.cells #[] 9)).ownsRow wb.heap.size 9 strK.n (.slice (some ⟨w15.heap.size, 0, none⟩) 0 0) 0 [] := World.ownsRow_made w15 #[] 0 bw15.size (by unfold maxLen; omega) (by simp)
         have hsw16 : w15.heap.size < (w15.alloc (.cells #[] 9)).heap.size := by rw [alloc_size]; omega
         have hRw16 := hRw15.below (belowNew w15 (.cells #[] 9))
         obtain ⟨w16, hww16⟩ : ∃ q, w15.alloc (.cells #[] 9) = q := ⟨_, rfl⟩
         rw [hww16] at bw16 hOw16 hsw16 hRw16 ⊢
         refine hK.out _ _ (fun _ => bw16) ?_
         clear hK K' hww16
         refine wpAnyK_ready (rs := [4]) (by kernel_rfl) (by simp) ?_
         refine AllReadyK.consD (some 73) rfl rfl (fun K' hK => ?_) ?_
         ·refine step_ownR (K := strK) w16 (by rfl) _ _ 31 (by rfl) wb.heap.size 9 i0 _ 16 Tryz.underlying31 hi0 hz0 hz1 hz2 hz3 _ _ _ _ _ (by rfl) hOw16 _ _ _ hTl (Nat.zero_add _) (by rfl) (hrT _ bw16) (fun e => hnT.out (by first | exact e | trivial)) m1 m2 bw16.size ?_
          intro aw17 cw17 w17 hOw17 hkw17
          have bw17 := bw16.trans (Kept.below hkw17 bw16.size (fun k hk => (hOw16.lt k hk).1))
          have hRw17 := hRw16.kept hkw17 (fun k hk e => by
           rcases hk with ⟨_, off', e'⟩ | ⟨_, _, f'⟩
           ·simp at e'
            simp [Value.ownBlock] at e
            omega
           ·exact f'.elim)
          refine hK.out _ _ (fun _ => bw17) ?_
          clear hK K' hkw17
          simp only [Act.put, List.setIfInBounds_toArray, List.set_cons_zero, List.set_cons_succ]
          refine wpAnyK_ready (rs := [11]) (by kernel_rfl) (by simp) ?_
          refine AllReadyK.consD (some 80) rfl rfl (fun K' hK => ?_) ?_
          ·refine step_ownR (K := strK) w17 (by rfl) _ _ 31 (by rfl) wb.heap.size 9 i0 _ 16 Tryz.underlying31 hi0 hz0 hz1 hz2 hz3 _ _ _ _ _ (by rfl) hOw17 _ _ _ rfl rfl (by rfl) hRw17 (fun h => by cases h) m3 m4 bw17.size ?_
           intro aw18 cw18 w18 hOw18 hkw18
           have bw18 := bw17.trans (Kept.below hkw18 bw17.size (fun k hk => (hOw17.lt k hk).1))
           refine hK.out _ _ (fun _ => bw18) ?_
           clear hK K' hkw18
           simp only [Act.put, List.setIfInBounds_toArray, List.set_cons_zero, List.set_cons_succ]
           refine wpAnyK_ready (rs := [15]) (by kernel_rfl) (by simp) ?_
           refine AllReadyK.consD (some 84) rfl rfl (fun K' hK => ?_) ?_
           ·refine step_ownR (K := strK) w18 (by rfl) _ _ 31 (by rfl) wb.heap.size 9 i0 _ 16 Tryz.underlying31 hi0 hz0 hz1 hz2 hz3 _ _ _ _ _ (by rfl) hOw18 _ _ _ hDl hN3.out (by rfl) (hrD _ bw18) (fun e => hnD.out (by first | exact e | trivial)) m5 m6 bw18.size ?_
            intro aw19 cw19 w19 hOw19 hkw19
            have bw19 := bw18.trans (Kept.below hkw19 bw18.size (fun k hk => (hOw18.lt k hk).1))
            refine hK.out _ _ (fun _ => bw19) ?_
            clear hK K' hkw19
            simp only [Act.put, List.setIfInBounds_toArray, List.set_cons_zero, List.set_cons_succ]
            refine wpAnyK_ready (rs := [16]) (by kernel_rfl) (by simp) ?_
            refine AllReadyK.cons rfl (fun K' hK => ?_) AllReadyK.nil
            go_simp
            have hq := (KQ.joined (K := strK) (T := 9) (lo := lo) (fun _ _ h => h.elim) (fun _ => trivial) hOw19 HL.out HN.out).rebase (B' := w.heap.size) hwb
            have hbF := hb4.trans ((hbO.trans (bw19.mono hbO.size)).mono hb4.size)
            refine hK.out _ _ (fun h => absurd rfl h) ?_
            clear hK K'
            refine wpAnyK_done (by kernel_rfl) ?_ _
            go_wp2
            go_roundw
            case rel => exact ⟨i + 1, lo, by omega, by go_num, hst2, (by have := hll.out; have := HN.out; show lo.length ≤ i + 1; omega), hq, (fun e => by rw [e] at HN; have := HN.out; simp at this), hbF⟩
            case measure => simp [intOf]; omega
           exact AllReadyK.nil
          exact AllReadyK.nil
         exact AllReadyK.nil
        exact AllReadyK.nil
       exact AllReadyK.nil
   ·obtain rfl : i = ps.length := by omega
    have g1 : ¬ (ps.length : Int) < (ps.length : Int) := by omega
    have hend : l = MR := by rw [← hl.out, List.take_length, hMR.out]
    subst hend
    obtain ⟨vl, vc, rfl, _, _⟩ := hQ.form
    have hbF := hb2.trans (hb.mono hb2.size)
    go_wp2
    go_ret
    exact ⟨_, rfl, hQ, hbF⟩
end Go.Proofs.YtmjkbdgcnoenbaaGreatDoor
