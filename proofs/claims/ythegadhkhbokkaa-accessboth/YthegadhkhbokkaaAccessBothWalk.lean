/- AccessBoth: whether two are in each other's way does not hang on which is the first; two that only read are never. -/
import Derived.Test.YthegadhkhbokkaaAccArgs
import Derived.Deep.DeepCutAuto
namespace Go.Proofs.Ythegadhkhbokkaa
open Go Go.RowKit
set_option linter.unusedVariables false

theorem arr_next (w : World) : Arr ((w.alloc (.cells #[.int .i64 0, .string ⟨#[]⟩, .string ⟨#[]⟩, .int .u64 0, .int .u64 0, .string ⟨#[]⟩, .string ⟨#[]⟩, .slice none 0 0, .slice none 0 0] 26)).alloc (.cells #[.int .i64 0, .string ⟨#[]⟩, .string ⟨#[]⟩, .int .u64 0, .int .u64 0, .string ⟨#[]⟩, .string ⟨#[]⟩, .slice none 0 0, .slice none 0 0] 26)) (w.heap.size + 1) 26 zeroTxC := by
  have := Arr.new (w.alloc (.cells #[.int .i64 0, .string ⟨#[]⟩, .string ⟨#[]⟩, .int .u64 0, .int .u64 0, .string ⟨#[]⟩, .string ⟨#[]⟩, .slice none 0 0, .slice none 0 0] 26)) 26 zeroTxC
  rw [alloc_size] at this
  exact this

theorem belowDrA {u v : World} (h : Below u.heap.size u v) : Below u.heap.size u v.drew := below_drewN h 1

theorem belowAlA {u v : World} (h : Below u.heap.size u v) (o : Obj) : Below u.heap.size u (v.alloc o) := h.alloc h.size o

theorem belowStA {u v : World} (h : Below u.heap.size u v) (b o : Nat) (z : Value) (hb : u.heap.size ≤ b) : Below u.heap.size u (v.setCell ⟨b, o, none⟩ z) :=
  h.trans (Kept.below (Kept.setCell v ⟨b, o, none⟩ z) h.size (fun k e => by have e' : k = b := e; omega))

/-- A new box of zeros. -/
theorem Arr.zeros {w : World} {p : Nat} (h : Arr w p 26 zeroTxC) : w.cell? ⟨p, 0, none⟩ = some (.int .i64 0) ∧ w.cell? ⟨p, 1, none⟩ = some (.string ⟨#[]⟩) ∧ w.cell? ⟨p, 2, none⟩ = some (.string ⟨#[]⟩) ∧ w.cell? ⟨p, 3, none⟩ = some (.int .u64 0) ∧ w.cell? ⟨p, 4, none⟩ = some (.int .u64 0) ∧ w.cell? ⟨p, 5, none⟩ = some (.string ⟨#[]⟩) ∧ w.cell? ⟨p, 6, none⟩ = some (.string ⟨#[]⟩) ∧ w.cell? ⟨p, 7, none⟩ = some (.slice none 0 0) ∧ w.cell? ⟨p, 8, none⟩ = some (.slice none 0 0) :=
  ⟨h.cell (i := 0) rfl, h.cell (i := 1) rfl, h.cell (i := 2) rfl, h.cell (i := 3) rfl, h.cell (i := 4) rfl, h.cell (i := 5) rfl, h.cell (i := 6) rfl, h.cell (i := 7) rfl, h.cell (i := 8) rfl⟩

theorem Arr.soft {w : World} {p : Nat} (h : Arr w p 26 zeroTxC) : w.frozen? ⟨p, 0, none⟩ = false ∧ w.frozen? ⟨p, 1, none⟩ = false ∧ w.frozen? ⟨p, 2, none⟩ = false ∧ w.frozen? ⟨p, 3, none⟩ = false ∧ w.frozen? ⟨p, 4, none⟩ = false ∧ w.frozen? ⟨p, 5, none⟩ = false ∧ w.frozen? ⟨p, 6, none⟩ = false ∧ w.frozen? ⟨p, 7, none⟩ = false ∧ w.frozen? ⟨p, 8, none⟩ = false :=
  ⟨h.frozen 0, h.frozen 1, h.frozen 2, h.frozen 3, h.frozen 4, h.frozen 5, h.frozen 6, h.frozen 7, h.frozen 8⟩

/-- Two boxes, what they hold, and the rows of Reads of what was handed back. -/
structure Ce (W w : World) (p q : Nat) (cp cq : List Value) (a b : TxA) : Prop where
  ne : p ≠ q
  ap : Arr w p 26 cp
  aq : Arr w q 26 cq
  ra : RowAt textK w a.ra a.rs
  rb : RowAt textK w b.ra b.rs
  fa : ∀ k, rowFoot textK a.ra a.rs k → k ≠ p ∧ k ≠ q
  fb : ∀ k, rowFoot textK b.ra b.rs k → k ≠ p ∧ k ≠ q
  bel : Below W.heap.size W w
  gp : W.heap.size ≤ p
  gq : W.heap.size ≤ q

theorem Ce.setP {W w : World} {p q : Nat} {cq : List Value} {a b : TxA} (h : Ce W w p q zeroTxC cq a b) (v0 v1 v2 v3 v4 v5 v6 v7 v8 : Value) : Ce W (set9A w p v0 v1 v2 v3 v4 v5 v6 v7 v8) p q [v0, v1, v2, v3, v4, v5, v6, v7, v8] cq a b := by
  have hk := kept_set9A w p v0 v1 v2 v3 v4 v5 v6 v7 v8
  have h0 : Arr w p 26 [.int .i64 0, .string ⟨#[]⟩, .string ⟨#[]⟩, .int .u64 0, .int .u64 0, .string ⟨#[]⟩, .string ⟨#[]⟩, .slice none 0 0, .slice none 0 0] := h.ap
  exact ⟨h.ne, h0.set9A _ _ _ _ _ _ _ _ _, h.aq.kept hk (fun e => h.ne (Eq.symm e)), h.ra.kept hk (fun k hb e => (h.fa k hb).1 e), h.rb.kept hk (fun k hb e => (h.fb k hb).1 e), h.fa, h.fb, h.bel.trans (hk.below h.bel.size (fun k e => by have e' : k = p := e; have := h.gp; omega)), h.gp, h.gq⟩

theorem Ce.setQ {W w : World} {p q : Nat} {cp : List Value} {a b : TxA} (h : Ce W w p q cp zeroTxC a b) (v0 v1 v2 v3 v4 v5 v6 v7 v8 : Value) : Ce W (set9A w q v0 v1 v2 v3 v4 v5 v6 v7 v8) p q cp [v0, v1, v2, v3, v4, v5, v6, v7, v8] a b := by
  have hk := kept_set9A w q v0 v1 v2 v3 v4 v5 v6 v7 v8
  have h0 : Arr w q 26 [.int .i64 0, .string ⟨#[]⟩, .string ⟨#[]⟩, .int .u64 0, .int .u64 0, .string ⟨#[]⟩, .string ⟨#[]⟩, .slice none 0 0, .slice none 0 0] := h.aq
  exact ⟨h.ne, h.ap.kept hk (fun e => h.ne e), h0.set9A _ _ _ _ _ _ _ _ _, h.ra.kept hk (fun k hb e => (h.fa k hb).2 e), h.rb.kept hk (fun k hb e => (h.fb k hb).2 e), h.fa, h.fb, h.bel.trans (hk.below h.bel.size (fun k e => by have e' : k = q := e; have := h.gq; omega)), h.gp, h.gq⟩

theorem drew_size (w : World) : w.drew.heap.size = w.heap.size := rfl

set_option maxRecDepth 100000 in
set_option maxHeartbeats 16000000 in
theorem accessBoth_walk (x y : TxA) (W : World) (hx : TxA.At W x) (hxf : Fits x) (hy : TxA.At W y) (hyf : Fits y) :
    Calls Try.prog 4 #[x.v, y.v] W fun e w' => e = .returned (.bool true) ∧ Below W.heap.size W w' := by
  have hT := Two20.new W x y hx hy
  clear hx hy
  have cW := works20_any
  have cG : ∀ (w : World) (cp : Nat), Two20 W w W.heap.size (W.heap.size + 1) x y → Calls Try.prog 7 #[.slice (some ⟨w.heap.size, 0, none⟩) 2 cp] (w.alloc (.cells (x.c ++ y.c).toArray 26)) fun e w' => e = .returned (.bool (greatA [x, y])) ∧ Two20 W w' W.heap.size (W.heap.size + 1) x y := fun w cp h => great_two h hxf hyf cp
  unfold TxA.v
  go_enter Try.func4, Try.ntmps4
  go_wp2_with fail
  refine (cW _).mono ?_
  rintro _ w1 ⟨rfl, hb1⟩
  replace hT := hT.below hb1
  clear hb1 cW
  obtain ⟨x0, x1, x2, x3, x4, x5, x6, x7, x8⟩ := hT.bx.nine
  obtain ⟨y0, y1, y2, y3, y4, y5, y6, y7, y8⟩ := hT.by'.nine
  go_wp2_with fail
  refine (cG w1 2 hT).mono ?_
  rintro _ w2 ⟨rfl, hT2⟩
  clear hT cG x0 x1 x2 x3 x4 x5 x6 x7 x8 y0 y1 y2 y3 y4 y5 y6 y7 y8
  cases hg : greatA [x, y] with
  | true =>
    have hB := hT2.bel
    clear hT2
    go_wp2
    go_ret
    exact ⟨rfl, hB⟩
  | false =>
    obtain ⟨⟨fx1, fx2⟩, fy1, fy2⟩ := few_two hg
    have cO1 : ∀ w, TxA.At w x → Calls Try.prog 14 #[.agg #[.int .i64 x.kind, .string x.frm, .string x.dst, .int .u64 x.amt, .int .u64 x.non, .string x.key, .string x.val, .slice x.ra x.rs.length x.rc, .slice x.wa x.ws.length x.wc]] w fun e w' => GotOwnA w x e w' := fun w h => ownA_any x w h (by omega) (by omega)
    have cO2 : ∀ w, TxA.At w y → Calls Try.prog 14 #[.agg #[.int .i64 y.kind, .string y.frm, .string y.dst, .int .u64 y.amt, .int .u64 y.non, .string y.key, .string y.val, .slice y.ra y.rs.length y.rc, .slice y.wa y.ws.length y.wc]] w fun e w' => GotOwnA w y e w' := fun w h => ownA_any y w h (by omega) (by omega)
    have hcl : Hid (∀ a b : TxA, a.rs = x.rs → a.ws = x.ws → b.rs = y.rs → b.ws = y.ws → clashB a.rw b.rw = clashB x.rw y.rw ∧ clashB b.rw a.rw = clashB x.rw y.rw) := fun a b h1 h2 h3 h4 => by
      rw [rw_eq h1 h2, rw_eq h3 h4]
      exact ⟨rfl, clashB_comm _ _⟩
    clear hg
    have hkp : ∀ w', Two20 W w' W.heap.size (W.heap.size + 1) x y → (w'.cell? ⟨W.heap.size, 0, none⟩ = some (.int .i64 x.kind) ∧ w'.cell? ⟨W.heap.size, 1, none⟩ = some (.string x.frm) ∧ w'.cell? ⟨W.heap.size, 2, none⟩ = some (.string x.dst) ∧ w'.cell? ⟨W.heap.size, 3, none⟩ = some (.int .u64 x.amt) ∧ w'.cell? ⟨W.heap.size, 4, none⟩ = some (.int .u64 x.non) ∧ w'.cell? ⟨W.heap.size, 5, none⟩ = some (.string x.key) ∧ w'.cell? ⟨W.heap.size, 6, none⟩ = some (.string x.val) ∧ w'.cell? ⟨W.heap.size, 7, none⟩ = some (.slice x.ra x.rs.length x.rc) ∧ w'.cell? ⟨W.heap.size, 8, none⟩ = some (.slice x.wa x.ws.length x.wc)) ∧ (w'.cell? ⟨W.heap.size + 1, 0, none⟩ = some (.int .i64 y.kind) ∧ w'.cell? ⟨W.heap.size + 1, 1, none⟩ = some (.string y.frm) ∧ w'.cell? ⟨W.heap.size + 1, 2, none⟩ = some (.string y.dst) ∧ w'.cell? ⟨W.heap.size + 1, 3, none⟩ = some (.int .u64 y.amt) ∧ w'.cell? ⟨W.heap.size + 1, 4, none⟩ = some (.int .u64 y.non) ∧ w'.cell? ⟨W.heap.size + 1, 5, none⟩ = some (.string y.key) ∧ w'.cell? ⟨W.heap.size + 1, 6, none⟩ = some (.string y.val) ∧ w'.cell? ⟨W.heap.size + 1, 7, none⟩ = some (.slice y.ra y.rs.length y.rc) ∧ w'.cell? ⟨W.heap.size + 1, 8, none⟩ = some (.slice y.wa y.ws.length y.wc)) := fun w' h => ⟨h.bx.nine, h.by'.nine⟩
    obtain ⟨cl, hcl0⟩ : ∃ cl, cl = clashB x.rw y.rw := ⟨_, rfl⟩
    rw [← hcl0] at hcl
    replace hcl0 : Hid _ := hcl0
    go_upto_region 5 with fail
    go_cut [5] (fun s5 wx => s5 = .bool cl ∧ Two20 W wx W.heap.size (W.heap.size + 1) x y)
    case first =>
      have hT0 : Two20 W w2.drew W.heap.size (W.heap.size + 1) x y := hT2.drew
      clear hT2
      have hTc := hkp _ hT0
      go_region_held3 (fun w' => (w'.cell? ⟨W.heap.size, 0, none⟩ = some (.int .i64 x.kind) ∧ w'.cell? ⟨W.heap.size, 1, none⟩ = some (.string x.frm) ∧ w'.cell? ⟨W.heap.size, 2, none⟩ = some (.string x.dst) ∧ w'.cell? ⟨W.heap.size, 3, none⟩ = some (.int .u64 x.amt) ∧ w'.cell? ⟨W.heap.size, 4, none⟩ = some (.int .u64 x.non) ∧ w'.cell? ⟨W.heap.size, 5, none⟩ = some (.string x.key) ∧ w'.cell? ⟨W.heap.size, 6, none⟩ = some (.string x.val) ∧ w'.cell? ⟨W.heap.size, 7, none⟩ = some (.slice x.ra x.rs.length x.rc) ∧ w'.cell? ⟨W.heap.size, 8, none⟩ = some (.slice x.wa x.ws.length x.wc)) ∧ (w'.cell? ⟨W.heap.size + 1, 0, none⟩ = some (.int .i64 y.kind) ∧ w'.cell? ⟨W.heap.size + 1, 1, none⟩ = some (.string y.frm) ∧ w'.cell? ⟨W.heap.size + 1, 2, none⟩ = some (.string y.dst) ∧ w'.cell? ⟨W.heap.size + 1, 3, none⟩ = some (.int .u64 y.amt) ∧ w'.cell? ⟨W.heap.size + 1, 4, none⟩ = some (.int .u64 y.non) ∧ w'.cell? ⟨W.heap.size + 1, 5, none⟩ = some (.string y.key) ∧ w'.cell? ⟨W.heap.size + 1, 6, none⟩ = some (.string y.val) ∧ w'.cell? ⟨W.heap.size + 1, 7, none⟩ = some (.slice y.ra y.rs.length y.rc) ∧ w'.cell? ⟨W.heap.size + 1, 8, none⟩ = some (.slice y.wa y.ws.length y.wc))) (exact hkp _ (by assumption))
        (first
        | (go_at_call 14; refine (cO1 _ hT0.ax).mono ?_; rintro _ wA ⟨a, rfl, a1, a2, aA, aQ, af, hbA⟩; have hTA := Two20.below hT0 hbA; clear cO1)
        | (go_at_call 14; refine (cO2 _ hTA.ay).mono ?_; rintro _ wB ⟨b, rfl, b1, b2, bA, bQ, bf, hbB⟩; have hTB := Two20.below hTA hbB; have aB := aA.below hbB)
        | (go_at_call 13; refine (clashA_any a b _ aB bA (by rw [a1]; omega) (by rw [a2]; omega) (by rw [b1]; omega) (by rw [b2]; omega)).mono ?_; rintro _ wC ⟨rfl, hbC⟩; have hTC := Two20.below hTB hbC; rw [(hcl.out a b a1 a2 b1 b2).1]))
      go_wp2_with fail
      go_meet
      case rel => exact ⟨rfl, hTC⟩
    case rest =>
      obtain ⟨rfl, hT3⟩ := hcut
      clear hT2
      generalize wc = w3 at *
      go_upto_region 6 with fail
      go_cut [6] (fun s6 wx => s6 = .bool cl ∧ Two20 W wx W.heap.size (W.heap.size + 1) x y)
      case first =>
        have hT0 : Two20 W w3.drew W.heap.size (W.heap.size + 1) x y := hT3.drew
        clear hT3
        have hTc := hkp _ hT0
        go_region_held3 (fun w' => (w'.cell? ⟨W.heap.size, 0, none⟩ = some (.int .i64 x.kind) ∧ w'.cell? ⟨W.heap.size, 1, none⟩ = some (.string x.frm) ∧ w'.cell? ⟨W.heap.size, 2, none⟩ = some (.string x.dst) ∧ w'.cell? ⟨W.heap.size, 3, none⟩ = some (.int .u64 x.amt) ∧ w'.cell? ⟨W.heap.size, 4, none⟩ = some (.int .u64 x.non) ∧ w'.cell? ⟨W.heap.size, 5, none⟩ = some (.string x.key) ∧ w'.cell? ⟨W.heap.size, 6, none⟩ = some (.string x.val) ∧ w'.cell? ⟨W.heap.size, 7, none⟩ = some (.slice x.ra x.rs.length x.rc) ∧ w'.cell? ⟨W.heap.size, 8, none⟩ = some (.slice x.wa x.ws.length x.wc)) ∧ (w'.cell? ⟨W.heap.size + 1, 0, none⟩ = some (.int .i64 y.kind) ∧ w'.cell? ⟨W.heap.size + 1, 1, none⟩ = some (.string y.frm) ∧ w'.cell? ⟨W.heap.size + 1, 2, none⟩ = some (.string y.dst) ∧ w'.cell? ⟨W.heap.size + 1, 3, none⟩ = some (.int .u64 y.amt) ∧ w'.cell? ⟨W.heap.size + 1, 4, none⟩ = some (.int .u64 y.non) ∧ w'.cell? ⟨W.heap.size + 1, 5, none⟩ = some (.string y.key) ∧ w'.cell? ⟨W.heap.size + 1, 6, none⟩ = some (.string y.val) ∧ w'.cell? ⟨W.heap.size + 1, 7, none⟩ = some (.slice y.ra y.rs.length y.rc) ∧ w'.cell? ⟨W.heap.size + 1, 8, none⟩ = some (.slice y.wa y.ws.length y.wc))) (exact hkp _ (by assumption))
          (first
          | (go_at_call 14; refine (cO2 _ hT0.ay).mono ?_; rintro _ wA ⟨b, rfl, b1, b2, bA, bQ, bf, hbA⟩; have hTA := Two20.below hT0 hbA; clear cO2)
          | (go_at_call 14; refine (cO1 _ hTA.ax).mono ?_; rintro _ wB ⟨a, rfl, a1, a2, aA, aQ, af, hbB⟩; have hTB := Two20.below hTA hbB; have bB := bA.below hbB)
          | (go_at_call 13; refine (clashA_any b a _ bB aA (by rw [b1]; omega) (by rw [b2]; omega) (by rw [a1]; omega) (by rw [a2]; omega)).mono ?_; rintro _ wC ⟨rfl, hbC⟩; have hTC := Two20.below hTB hbC; rw [(hcl.out a b a1 a2 b1 b2).2]))
        go_wp2_with fail
        go_meet
        case rel => exact ⟨rfl, hTC⟩
      case rest =>
        obtain ⟨rfl, hT4⟩ := hcut
        clear hT3
        generalize wc = w4 at *
        go_upto_region 7 with fail
        go_cut [7, 8] (fun s7 s8 wx => ∃ (p q : Nat) (a b : TxA), s7 = .pointer (some ⟨p, 0, none⟩) ∧ s8 = .pointer (some ⟨q, 0, none⟩) ∧ Ce W wx p q a.c b.c a b ∧ a.rs = x.rs ∧ b.rs = y.rs ∧ (a.ra = none → a.rc = 0) ∧ (b.ra = none → b.rc = 0) ∧ (∀ s ∈ a.rs, s.size ≤ maxLen) ∧ (∀ s ∈ b.rs, s.size ≤ maxLen))
        case first =>
          have hT0 : Two20 W w4.drew W.heap.size (W.heap.size + 1) x y := hT4.drew
          have bd : Below w4.heap.size w4 w4.drew := below_drewN (Below.refl _ w4) 1
          have hk4 : ∀ w', Below w4.heap.size w4 w' → (w'.cell? ⟨W.heap.size, 0, none⟩ = some (.int .i64 x.kind) ∧ w'.cell? ⟨W.heap.size, 1, none⟩ = some (.string x.frm) ∧ w'.cell? ⟨W.heap.size, 2, none⟩ = some (.string x.dst) ∧ w'.cell? ⟨W.heap.size, 3, none⟩ = some (.int .u64 x.amt) ∧ w'.cell? ⟨W.heap.size, 4, none⟩ = some (.int .u64 x.non) ∧ w'.cell? ⟨W.heap.size, 5, none⟩ = some (.string x.key) ∧ w'.cell? ⟨W.heap.size, 6, none⟩ = some (.string x.val) ∧ w'.cell? ⟨W.heap.size, 7, none⟩ = some (.slice x.ra x.rs.length x.rc) ∧ w'.cell? ⟨W.heap.size, 8, none⟩ = some (.slice x.wa x.ws.length x.wc)) ∧ (w'.cell? ⟨W.heap.size + 1, 0, none⟩ = some (.int .i64 y.kind) ∧ w'.cell? ⟨W.heap.size + 1, 1, none⟩ = some (.string y.frm) ∧ w'.cell? ⟨W.heap.size + 1, 2, none⟩ = some (.string y.dst) ∧ w'.cell? ⟨W.heap.size + 1, 3, none⟩ = some (.int .u64 y.amt) ∧ w'.cell? ⟨W.heap.size + 1, 4, none⟩ = some (.int .u64 y.non) ∧ w'.cell? ⟨W.heap.size + 1, 5, none⟩ = some (.string y.key) ∧ w'.cell? ⟨W.heap.size + 1, 6, none⟩ = some (.string y.val) ∧ w'.cell? ⟨W.heap.size + 1, 7, none⟩ = some (.slice y.ra y.rs.length y.rc) ∧ w'.cell? ⟨W.heap.size + 1, 8, none⟩ = some (.slice y.wa y.ws.length y.wc)) := fun w' h => ⟨(hT4.bx.below h hT4.bx.lt).nine, (hT4.by'.below h hT4.by'.lt).nine⟩
          clear hT4
          have hTc := hkp _ hT0
          have h1 := hT0.al (.cells #[.int .i64 0, .string ⟨#[]⟩, .string ⟨#[]⟩, .int .u64 0, .int .u64 0, .string ⟨#[]⟩, .string ⟨#[]⟩, .slice none 0 0, .slice none 0 0] 26)
          have h2 := h1.al (.cells #[.int .i64 0, .string ⟨#[]⟩, .string ⟨#[]⟩, .int .u64 0, .int .u64 0, .string ⟨#[]⟩, .string ⟨#[]⟩, .slice none 0 0, .slice none 0 0] 26)
          have n1 : Arr (w4.drew.alloc (.cells #[.int .i64 0, .string ⟨#[]⟩, .string ⟨#[]⟩, .int .u64 0, .int .u64 0, .string ⟨#[]⟩, .string ⟨#[]⟩, .slice none 0 0, .slice none 0 0] 26)) w4.heap.size 26 zeroTxC := Arr.new w4.drew 26 zeroTxC
          have n2 := n1.alloc (.cells #[.int .i64 0, .string ⟨#[]⟩, .string ⟨#[]⟩, .int .u64 0, .int .u64 0, .string ⟨#[]⟩, .string ⟨#[]⟩, .slice none 0 0, .slice none 0 0] 26)
          have n3 : Arr ((w4.drew.alloc (.cells #[.int .i64 0, .string ⟨#[]⟩, .string ⟨#[]⟩, .int .u64 0, .int .u64 0, .string ⟨#[]⟩, .string ⟨#[]⟩, .slice none 0 0, .slice none 0 0] 26)).alloc (.cells #[.int .i64 0, .string ⟨#[]⟩, .string ⟨#[]⟩, .int .u64 0, .int .u64 0, .string ⟨#[]⟩, .string ⟨#[]⟩, .slice none 0 0, .slice none 0 0] 26)) (w4.heap.size + 1) 26 zeroTxC := by
            have := Arr.new (w4.drew.alloc (.cells #[.int .i64 0, .string ⟨#[]⟩, .string ⟨#[]⟩, .int .u64 0, .int .u64 0, .string ⟨#[]⟩, .string ⟨#[]⟩, .slice none 0 0, .slice none 0 0] 26)) 26 zeroTxC
            rw [alloc_size] at this
            exact this
          go_region_held3 (fun w' => (w'.cell? ⟨W.heap.size, 0, none⟩ = some (.int .i64 x.kind) ∧ w'.cell? ⟨W.heap.size, 1, none⟩ = some (.string x.frm) ∧ w'.cell? ⟨W.heap.size, 2, none⟩ = some (.string x.dst) ∧ w'.cell? ⟨W.heap.size, 3, none⟩ = some (.int .u64 x.amt) ∧ w'.cell? ⟨W.heap.size, 4, none⟩ = some (.int .u64 x.non) ∧ w'.cell? ⟨W.heap.size, 5, none⟩ = some (.string x.key) ∧ w'.cell? ⟨W.heap.size, 6, none⟩ = some (.string x.val) ∧ w'.cell? ⟨W.heap.size, 7, none⟩ = some (.slice x.ra x.rs.length x.rc) ∧ w'.cell? ⟨W.heap.size, 8, none⟩ = some (.slice x.wa x.ws.length x.wc)) ∧ (w'.cell? ⟨W.heap.size + 1, 0, none⟩ = some (.int .i64 y.kind) ∧ w'.cell? ⟨W.heap.size + 1, 1, none⟩ = some (.string y.frm) ∧ w'.cell? ⟨W.heap.size + 1, 2, none⟩ = some (.string y.dst) ∧ w'.cell? ⟨W.heap.size + 1, 3, none⟩ = some (.int .u64 y.amt) ∧ w'.cell? ⟨W.heap.size + 1, 4, none⟩ = some (.int .u64 y.non) ∧ w'.cell? ⟨W.heap.size + 1, 5, none⟩ = some (.string y.key) ∧ w'.cell? ⟨W.heap.size + 1, 6, none⟩ = some (.string y.val) ∧ w'.cell? ⟨W.heap.size + 1, 7, none⟩ = some (.slice y.ra y.rs.length y.rc) ∧ w'.cell? ⟨W.heap.size + 1, 8, none⟩ = some (.slice y.wa y.ws.length y.wc))) (exact hk4 _ (by repeat' (first | (with_reducible assumption) | (with_reducible exact Below.refl _ _) | (with_reducible apply belowDrA) | (with_reducible apply belowAlA) | ((with_reducible apply belowStA); rotate_left; omega))))
            (first
            | (go_at_call 14; refine (cO1 _ hT0.ax).mono ?_; rintro _ wA ⟨a, rfl, a1', a2', aA, aQ, af, hbA⟩; have a1 : Hid _ := a1'; clear a1' a2' aQ; unfold TxA.v; have hTA := Two20.below hT0 hbA; have sA : w4.heap.size + 0 ≤ wA.heap.size := (by have h := hbA.size; rw [drew_size] at h; omega); have fA : Hid (∀ k, rowFoot textK a.ra a.rs k → w4.heap.size + 0 ≤ k ∧ k < wA.heap.size) := (fun k hk => ⟨(by have h := af k (Or.inl hk); rw [drew_size] at h; omega), aA.rd.lt hk⟩); have kA : Below w4.heap.size w4 wA := bd.trans (hbA.mono bd.size); have zA : w4.heap.size ≤ wA.heap.size := kA.size; clear cO1)
            | (go_at_call 14; refine (cO1 _ h1.ax).mono ?_; rintro _ wA ⟨a, rfl, a1', a2', aA, aQ, af, hbA⟩; have a1 : Hid _ := a1'; clear a1' a2' aQ; unfold TxA.v; have hTA := Two20.below h1 hbA; have sA : w4.heap.size + 1 ≤ wA.heap.size := (by have h := hbA.size; rw [alloc_size, drew_size] at h; omega); have fA : Hid (∀ k, rowFoot textK a.ra a.rs k → w4.heap.size + 1 ≤ k ∧ k < wA.heap.size) := (fun k hk => ⟨(by have h := af k (Or.inl hk); rw [alloc_size, drew_size] at h; omega), aA.rd.lt hk⟩); have kA : Below w4.heap.size w4 wA := (belowAlA bd (.cells #[.int .i64 0, .string ⟨#[]⟩, .string ⟨#[]⟩, .int .u64 0, .int .u64 0, .string ⟨#[]⟩, .string ⟨#[]⟩, .slice none 0 0, .slice none 0 0] 26)).trans (hbA.mono (belowAlA bd (.cells #[.int .i64 0, .string ⟨#[]⟩, .string ⟨#[]⟩, .int .u64 0, .int .u64 0, .string ⟨#[]⟩, .string ⟨#[]⟩, .slice none 0 0, .slice none 0 0] 26)).size); have zA : w4.heap.size ≤ wA.heap.size := kA.size; have r1 := n1.below hbA n1.lt; have q1 : ¬ w4.heap.size = wA.heap.size := (by have := r1.lt; omega); have q2 : ¬ wA.heap.size = w4.heap.size := (by have := r1.lt; omega); clear cO1)
            | (go_at_call 14; refine (cO1 _ h2.ax).mono ?_; rintro _ wA ⟨a, rfl, a1', a2', aA, aQ, af, hbA⟩; have a1 : Hid _ := a1'; clear a1' a2' aQ; unfold TxA.v; have hTA := Two20.below h2 hbA; have sA : w4.heap.size + 2 ≤ wA.heap.size := (by have h := hbA.size; rw [alloc_size, alloc_size, drew_size] at h; omega); have fA : Hid (∀ k, rowFoot textK a.ra a.rs k → w4.heap.size + 2 ≤ k ∧ k < wA.heap.size) := (fun k hk => ⟨(by have h := af k (Or.inl hk); rw [alloc_size, alloc_size, drew_size] at h; omega), aA.rd.lt hk⟩); have kA : Below w4.heap.size w4 wA := (belowAlA (belowAlA bd (.cells #[.int .i64 0, .string ⟨#[]⟩, .string ⟨#[]⟩, .int .u64 0, .int .u64 0, .string ⟨#[]⟩, .string ⟨#[]⟩, .slice none 0 0, .slice none 0 0] 26)) (.cells #[.int .i64 0, .string ⟨#[]⟩, .string ⟨#[]⟩, .int .u64 0, .int .u64 0, .string ⟨#[]⟩, .string ⟨#[]⟩, .slice none 0 0, .slice none 0 0] 26)).trans (hbA.mono (belowAlA (belowAlA bd (.cells #[.int .i64 0, .string ⟨#[]⟩, .string ⟨#[]⟩, .int .u64 0, .int .u64 0, .string ⟨#[]⟩, .string ⟨#[]⟩, .slice none 0 0, .slice none 0 0] 26)) (.cells #[.int .i64 0, .string ⟨#[]⟩, .string ⟨#[]⟩, .int .u64 0, .int .u64 0, .string ⟨#[]⟩, .string ⟨#[]⟩, .slice none 0 0, .slice none 0 0] 26)).size); have zA : w4.heap.size ≤ wA.heap.size := kA.size; have r1 := n2.below hbA n2.lt; have r2 := n3.below hbA n3.lt; clear cO1)
            | (go_at_call 14; refine (cO2 _ hTA.ay).mono ?_; rintro _ wB ⟨b, rfl, b1', b2', bA, bQ, bf, hbB⟩; have b1 : Hid _ := b1'; clear b1' b2' bQ; unfold TxA.v; have hTB := Two20.below hTA hbB; have aB := aA.below hbB; have sB : wA.heap.size + 0 ≤ wB.heap.size := (by have h := hbB.size;  omega); have fB : Hid (∀ k, rowFoot textK b.ra b.rs k → wA.heap.size + 0 ≤ k ∧ k < wB.heap.size) := (fun k hk => ⟨(by have h := bf k (Or.inl hk);  omega), bA.rd.lt hk⟩); have kB : Below w4.heap.size w4 wB := kA.trans (hbB.mono kA.size); have zB : w4.heap.size ≤ wB.heap.size := kB.size; (try (have s1 := r1.below hbB r1.lt; obtain ⟨uc0, uc1, uc2, uc3, uc4, uc5, uc6, uc7, uc8⟩ := s1.zeros; obtain ⟨uf0, uf1, uf2, uf3, uf4, uf5, uf6, uf7, uf8⟩ := s1.soft; have s1a := s1.alloc (.cells #[.int .i64 0, .string ⟨#[]⟩, .string ⟨#[]⟩, .int .u64 0, .int .u64 0, .string ⟨#[]⟩, .string ⟨#[]⟩, .slice none 0 0, .slice none 0 0] 26); obtain ⟨uac0, uac1, uac2, uac3, uac4, uac5, uac6, uac7, uac8⟩ := s1a.zeros; obtain ⟨uaf0, uaf1, uaf2, uaf3, uaf4, uaf5, uaf6, uaf7, uaf8⟩ := s1a.soft; have s1b := s1.alloc (.cells #[.int .i64 a.kind, .string a.frm, .string a.dst, .int .u64 a.amt, .int .u64 a.non, .string a.key, .string a.val, .slice a.ra a.rs.length a.rc, .slice a.wa a.ws.length a.wc] 26); obtain ⟨ubc0, ubc1, ubc2, ubc3, ubc4, ubc5, ubc6, ubc7, ubc8⟩ := s1b.zeros; obtain ⟨ubf0, ubf1, ubf2, ubf3, ubf4, ubf5, ubf6, ubf7, ubf8⟩ := s1b.soft; have q3 : ¬ w4.heap.size = wB.heap.size := (by have := s1.lt; omega); have q4 : ¬ wB.heap.size = w4.heap.size := (by have := s1.lt; omega))); (try (have s2 := r2.below hbB r2.lt; obtain ⟨vc0, vc1, vc2, vc3, vc4, vc5, vc6, vc7, vc8⟩ := s2.zeros; obtain ⟨vf0, vf1, vf2, vf3, vf4, vf5, vf6, vf7, vf8⟩ := s2.soft)))
            | (go_at_call 14; refine (cO2 _ (hTA.al (.cells #[.int .i64 0, .string ⟨#[]⟩, .string ⟨#[]⟩, .int .u64 0, .int .u64 0, .string ⟨#[]⟩, .string ⟨#[]⟩, .slice none 0 0, .slice none 0 0] 26)).ay).mono ?_; rintro _ wB ⟨b, rfl, b1', b2', bA, bQ, bf, hbB⟩; have b1 : Hid _ := b1'; clear b1' b2' bQ; unfold TxA.v; have hTB := Two20.below (hTA.al (.cells #[.int .i64 0, .string ⟨#[]⟩, .string ⟨#[]⟩, .int .u64 0, .int .u64 0, .string ⟨#[]⟩, .string ⟨#[]⟩, .slice none 0 0, .slice none 0 0] 26)) hbB; have sB : wA.heap.size + 1 ≤ wB.heap.size := (by have h := hbB.size; rw [alloc_size] at h; omega); have fB : Hid (∀ k, rowFoot textK b.ra b.rs k → wA.heap.size + 1 ≤ k ∧ k < wB.heap.size) := (fun k hk => ⟨(by have h := bf k (Or.inl hk); rw [alloc_size] at h; omega), bA.rd.lt hk⟩); have kB : Below w4.heap.size w4 wB := (belowAlA kA (.cells #[.int .i64 0, .string ⟨#[]⟩, .string ⟨#[]⟩, .int .u64 0, .int .u64 0, .string ⟨#[]⟩, .string ⟨#[]⟩, .slice none 0 0, .slice none 0 0] 26)).trans (hbB.mono (belowAlA kA (.cells #[.int .i64 0, .string ⟨#[]⟩, .string ⟨#[]⟩, .int .u64 0, .int .u64 0, .string ⟨#[]⟩, .string ⟨#[]⟩, .slice none 0 0, .slice none 0 0] 26)).size); have zB : w4.heap.size ≤ wB.heap.size := kB.size; have aB := (aA.below (belowNew _ _)).below hbB; (try (have s1 := (r1.alloc (.cells #[.int .i64 0, .string ⟨#[]⟩, .string ⟨#[]⟩, .int .u64 0, .int .u64 0, .string ⟨#[]⟩, .string ⟨#[]⟩, .slice none 0 0, .slice none 0 0] 26)).below hbB (r1.alloc (.cells #[.int .i64 0, .string ⟨#[]⟩, .string ⟨#[]⟩, .int .u64 0, .int .u64 0, .string ⟨#[]⟩, .string ⟨#[]⟩, .slice none 0 0, .slice none 0 0] 26)).lt; obtain ⟨uc0, uc1, uc2, uc3, uc4, uc5, uc6, uc7, uc8⟩ := s1.zeros; obtain ⟨uf0, uf1, uf2, uf3, uf4, uf5, uf6, uf7, uf8⟩ := s1.soft; have s1a := s1.alloc (.cells #[.int .i64 0, .string ⟨#[]⟩, .string ⟨#[]⟩, .int .u64 0, .int .u64 0, .string ⟨#[]⟩, .string ⟨#[]⟩, .slice none 0 0, .slice none 0 0] 26); obtain ⟨uac0, uac1, uac2, uac3, uac4, uac5, uac6, uac7, uac8⟩ := s1a.zeros; obtain ⟨uaf0, uaf1, uaf2, uaf3, uaf4, uaf5, uaf6, uaf7, uaf8⟩ := s1a.soft; have s1b := s1.alloc (.cells #[.int .i64 a.kind, .string a.frm, .string a.dst, .int .u64 a.amt, .int .u64 a.non, .string a.key, .string a.val, .slice a.ra a.rs.length a.rc, .slice a.wa a.ws.length a.wc] 26); obtain ⟨ubc0, ubc1, ubc2, ubc3, ubc4, ubc5, ubc6, ubc7, ubc8⟩ := s1b.zeros; obtain ⟨ubf0, ubf1, ubf2, ubf3, ubf4, ubf5, ubf6, ubf7, ubf8⟩ := s1b.soft; have q3 : ¬ w4.heap.size = wB.heap.size := (by have := s1.lt; omega); have q4 : ¬ wB.heap.size = w4.heap.size := (by have := s1.lt; omega))); (try (have s2 := r2.below hbB r2.lt; obtain ⟨vc0, vc1, vc2, vc3, vc4, vc5, vc6, vc7, vc8⟩ := s2.zeros; obtain ⟨vf0, vf1, vf2, vf3, vf4, vf5, vf6, vf7, vf8⟩ := s2.soft)); have m1 := (Arr.new wA 26 zeroTxC).below hbB (Arr.new wA 26 zeroTxC).lt; obtain ⟨mc0, mc1, mc2, mc3, mc4, mc5, mc6, mc7, mc8⟩ := m1.zeros; obtain ⟨mf0, mf1, mf2, mf3, mf4, mf5, mf6, mf7, mf8⟩ := m1.soft; have m1a := m1.alloc (.cells #[.int .i64 0, .string ⟨#[]⟩, .string ⟨#[]⟩, .int .u64 0, .int .u64 0, .string ⟨#[]⟩, .string ⟨#[]⟩, .slice none 0 0, .slice none 0 0] 26); obtain ⟨mac0, mac1, mac2, mac3, mac4, mac5, mac6, mac7, mac8⟩ := m1a.zeros; obtain ⟨maf0, maf1, maf2, maf3, maf4, maf5, maf6, maf7, maf8⟩ := m1a.soft; have m1b := m1.alloc (.cells #[.int .i64 a.kind, .string a.frm, .string a.dst, .int .u64 a.amt, .int .u64 a.non, .string a.key, .string a.val, .slice a.ra a.rs.length a.rc, .slice a.wa a.ws.length a.wc] 26); obtain ⟨mbc0, mbc1, mbc2, mbc3, mbc4, mbc5, mbc6, mbc7, mbc8⟩ := m1b.zeros; obtain ⟨mbf0, mbf1, mbf2, mbf3, mbf4, mbf5, mbf6, mbf7, mbf8⟩ := m1b.soft; have q5 : ¬ wA.heap.size = wB.heap.size := (by have := m1.lt; omega); have q6 : ¬ wB.heap.size = wA.heap.size := (by have := m1.lt; omega))
            | (go_at_call 14; refine (cO2 _ ((hTA.al (.cells #[.int .i64 0, .string ⟨#[]⟩, .string ⟨#[]⟩, .int .u64 0, .int .u64 0, .string ⟨#[]⟩, .string ⟨#[]⟩, .slice none 0 0, .slice none 0 0] 26)).al (.cells #[.int .i64 0, .string ⟨#[]⟩, .string ⟨#[]⟩, .int .u64 0, .int .u64 0, .string ⟨#[]⟩, .string ⟨#[]⟩, .slice none 0 0, .slice none 0 0] 26)).ay).mono ?_; rintro _ wB ⟨b, rfl, b1', b2', bA, bQ, bf, hbB⟩; have b1 : Hid _ := b1'; clear b1' b2' bQ; unfold TxA.v; have hTB := Two20.below ((hTA.al (.cells #[.int .i64 0, .string ⟨#[]⟩, .string ⟨#[]⟩, .int .u64 0, .int .u64 0, .string ⟨#[]⟩, .string ⟨#[]⟩, .slice none 0 0, .slice none 0 0] 26)).al (.cells #[.int .i64 0, .string ⟨#[]⟩, .string ⟨#[]⟩, .int .u64 0, .int .u64 0, .string ⟨#[]⟩, .string ⟨#[]⟩, .slice none 0 0, .slice none 0 0] 26)) hbB; have sB : wA.heap.size + 2 ≤ wB.heap.size := (by have h := hbB.size; rw [alloc_size, alloc_size] at h; omega); have fB : Hid (∀ k, rowFoot textK b.ra b.rs k → wA.heap.size + 2 ≤ k ∧ k < wB.heap.size) := (fun k hk => ⟨(by have h := bf k (Or.inl hk); rw [alloc_size, alloc_size] at h; omega), bA.rd.lt hk⟩); have kB : Below w4.heap.size w4 wB := (belowAlA (belowAlA kA (.cells #[.int .i64 0, .string ⟨#[]⟩, .string ⟨#[]⟩, .int .u64 0, .int .u64 0, .string ⟨#[]⟩, .string ⟨#[]⟩, .slice none 0 0, .slice none 0 0] 26)) (.cells #[.int .i64 0, .string ⟨#[]⟩, .string ⟨#[]⟩, .int .u64 0, .int .u64 0, .string ⟨#[]⟩, .string ⟨#[]⟩, .slice none 0 0, .slice none 0 0] 26)).trans (hbB.mono (belowAlA (belowAlA kA (.cells #[.int .i64 0, .string ⟨#[]⟩, .string ⟨#[]⟩, .int .u64 0, .int .u64 0, .string ⟨#[]⟩, .string ⟨#[]⟩, .slice none 0 0, .slice none 0 0] 26)) (.cells #[.int .i64 0, .string ⟨#[]⟩, .string ⟨#[]⟩, .int .u64 0, .int .u64 0, .string ⟨#[]⟩, .string ⟨#[]⟩, .slice none 0 0, .slice none 0 0] 26)).size); have zB : w4.heap.size ≤ wB.heap.size := kB.size; have aB := ((aA.below (belowNew _ _)).below (belowNew _ _)).below hbB; have m1 := ((Arr.new wA 26 zeroTxC).alloc (.cells #[.int .i64 0, .string ⟨#[]⟩, .string ⟨#[]⟩, .int .u64 0, .int .u64 0, .string ⟨#[]⟩, .string ⟨#[]⟩, .slice none 0 0, .slice none 0 0] 26)).below hbB ((Arr.new wA 26 zeroTxC).alloc (.cells #[.int .i64 0, .string ⟨#[]⟩, .string ⟨#[]⟩, .int .u64 0, .int .u64 0, .string ⟨#[]⟩, .string ⟨#[]⟩, .slice none 0 0, .slice none 0 0] 26)).lt; have m2 := (arr_next wA).below hbB (arr_next wA).lt; obtain ⟨mc0, mc1, mc2, mc3, mc4, mc5, mc6, mc7, mc8⟩ := m1.zeros; obtain ⟨mf0, mf1, mf2, mf3, mf4, mf5, mf6, mf7, mf8⟩ := m1.soft; obtain ⟨kc0, kc1, kc2, kc3, kc4, kc5, kc6, kc7, kc8⟩ := m2.zeros; obtain ⟨kf0, kf1, kf2, kf3, kf4, kf5, kf6, kf7, kf8⟩ := m2.soft))
          all_goals (go_wp2_with fail)
          all_goals (have zW : W.heap.size ≤ w4.heap.size := hT0.bel.size)
          · have E : Ce W ((wB.alloc (.cells #[.int .i64 a.kind, .string a.frm, .string a.dst, .int .u64 a.amt, .int .u64 a.non, .string a.key, .string a.val, .slice a.ra a.rs.length a.rc, .slice a.wa a.ws.length a.wc] 26)).alloc (.cells #[.int .i64 b.kind, .string b.frm, .string b.dst, .int .u64 b.amt, .int .u64 b.non, .string b.key, .string b.val, .slice b.ra b.rs.length b.rc, .slice b.wa b.ws.length b.wc] 26)) (wB.heap.size) (wB.heap.size + 1) a.c b.c a b := ⟨by omega, (Arr.new wB 26 a.c).alloc _, (by have h := Arr.new (wB.alloc (.cells #[.int .i64 a.kind, .string a.frm, .string a.dst, .int .u64 a.amt, .int .u64 a.non, .string a.key, .string a.val, .slice a.ra a.rs.length a.rc, .slice a.wa a.ws.length a.wc] 26)) 26 b.c; rw [alloc_size] at h; exact h), ((aB.rd.below (belowNew _ _)).below (belowNew _ _)), ((bA.rd.below (belowNew _ _)).below (belowNew _ _)), fun k hk => by have h := fA.out k hk; omega, fun k hk => by have h := fB.out k hk; omega, ((hTB.bel.alloc (hTB.bel.size) _).alloc ((hTB.bel.alloc hTB.bel.size _).size) _), by omega, by omega⟩
            have F := E
            go_meet
            case rel => exact ⟨_, _, a, b, rfl, rfl, F, a1.out, b1.out, aB.nr, bA.nr, aB.zr, bA.zr⟩
          · have E : Ce W ((wB.alloc (.cells #[.int .i64 b.kind, .string b.frm, .string b.dst, .int .u64 b.amt, .int .u64 b.non, .string b.key, .string b.val, .slice b.ra b.rs.length b.rc, .slice b.wa b.ws.length b.wc] 26)).alloc (.cells #[.int .i64 a.kind, .string a.frm, .string a.dst, .int .u64 a.amt, .int .u64 a.non, .string a.key, .string a.val, .slice a.ra a.rs.length a.rc, .slice a.wa a.ws.length a.wc] 26)) (wB.heap.size + 1) (wB.heap.size) a.c b.c a b := ⟨by omega, (by have h := Arr.new (wB.alloc (.cells #[.int .i64 b.kind, .string b.frm, .string b.dst, .int .u64 b.amt, .int .u64 b.non, .string b.key, .string b.val, .slice b.ra b.rs.length b.rc, .slice b.wa b.ws.length b.wc] 26)) 26 a.c; rw [alloc_size] at h; exact h), (Arr.new wB 26 b.c).alloc _, ((aB.rd.below (belowNew _ _)).below (belowNew _ _)), ((bA.rd.below (belowNew _ _)).below (belowNew _ _)), fun k hk => by have h := fA.out k hk; omega, fun k hk => by have h := fB.out k hk; omega, ((hTB.bel.alloc (hTB.bel.size) _).alloc ((hTB.bel.alloc hTB.bel.size _).size) _), by omega, by omega⟩
            have F := E
            go_meet
            case rel => exact ⟨_, _, a, b, rfl, rfl, F, a1.out, b1.out, aB.nr, bA.nr, aB.zr, bA.zr⟩
          · have E : Ce W ((wB.alloc (.cells #[.int .i64 0, .string ⟨#[]⟩, .string ⟨#[]⟩, .int .u64 0, .int .u64 0, .string ⟨#[]⟩, .string ⟨#[]⟩, .slice none 0 0, .slice none 0 0] 26))) (wA.heap.size) (wB.heap.size) zeroTxC zeroTxC a b := ⟨by omega, m1a, (Arr.new wB 26 zeroTxC), (aB.rd.below (belowNew _ _)), (bA.rd.below (belowNew _ _)), fun k hk => by have h := fA.out k hk; omega, fun k hk => by have h := fB.out k hk; omega, (hTB.bel.alloc (hTB.bel.size) _), by omega, by omega⟩
            have F := ((E).setP (.int .i64 a.kind) (.string a.frm) (.string a.dst) (.int .u64 a.amt) (.int .u64 a.non) (.string a.key) (.string a.val) (.slice a.ra a.rs.length a.rc) (.slice a.wa a.ws.length a.wc)).setQ (.int .i64 b.kind) (.string b.frm) (.string b.dst) (.int .u64 b.amt) (.int .u64 b.non) (.string b.key) (.string b.val) (.slice b.ra b.rs.length b.rc) (.slice b.wa b.ws.length b.wc)
            unfold set9A at F
            go_meet
            case rel => exact ⟨_, _, a, b, rfl, rfl, F, a1.out, b1.out, aB.nr, bA.nr, aB.zr, bA.zr⟩
          · have E : Ce W (wB) (wA.heap.size) (wA.heap.size + 1) zeroTxC zeroTxC a b := ⟨by omega, m1, m2, aB.rd, bA.rd, fun k hk => by have h := fA.out k hk; omega, fun k hk => by have h := fB.out k hk; omega, hTB.bel, by omega, by omega⟩
            have F := ((E).setP (.int .i64 a.kind) (.string a.frm) (.string a.dst) (.int .u64 a.amt) (.int .u64 a.non) (.string a.key) (.string a.val) (.slice a.ra a.rs.length a.rc) (.slice a.wa a.ws.length a.wc)).setQ (.int .i64 b.kind) (.string b.frm) (.string b.dst) (.int .u64 b.amt) (.int .u64 b.non) (.string b.key) (.string b.val) (.slice b.ra b.rs.length b.rc) (.slice b.wa b.ws.length b.wc)
            unfold set9A at F
            go_meet
            case rel => exact ⟨_, _, a, b, rfl, rfl, F, a1.out, b1.out, aB.nr, bA.nr, aB.zr, bA.zr⟩
          · have E : Ce W ((wB.alloc (.cells #[.int .i64 a.kind, .string a.frm, .string a.dst, .int .u64 a.amt, .int .u64 a.non, .string a.key, .string a.val, .slice a.ra a.rs.length a.rc, .slice a.wa a.ws.length a.wc] 26))) (wB.heap.size) (wA.heap.size) a.c zeroTxC a b := ⟨by omega, (Arr.new wB 26 a.c), m1b, (aB.rd.below (belowNew _ _)), (bA.rd.below (belowNew _ _)), fun k hk => by have h := fA.out k hk; omega, fun k hk => by have h := fB.out k hk; omega, (hTB.bel.alloc (hTB.bel.size) _), by omega, by omega⟩
            have F := (E).setQ (.int .i64 b.kind) (.string b.frm) (.string b.dst) (.int .u64 b.amt) (.int .u64 b.non) (.string b.key) (.string b.val) (.slice b.ra b.rs.length b.rc) (.slice b.wa b.ws.length b.wc)
            unfold set9A at F
            go_meet
            case rel => exact ⟨_, _, a, b, rfl, rfl, F, a1.out, b1.out, aB.nr, bA.nr, aB.zr, bA.zr⟩
          · have E : Ce W (wB) (wA.heap.size + 1) (wA.heap.size) zeroTxC zeroTxC a b := ⟨by omega, m2, m1, aB.rd, bA.rd, fun k hk => by have h := fA.out k hk; omega, fun k hk => by have h := fB.out k hk; omega, hTB.bel, by omega, by omega⟩
            have F := ((E).setP (.int .i64 a.kind) (.string a.frm) (.string a.dst) (.int .u64 a.amt) (.int .u64 a.non) (.string a.key) (.string a.val) (.slice a.ra a.rs.length a.rc) (.slice a.wa a.ws.length a.wc)).setQ (.int .i64 b.kind) (.string b.frm) (.string b.dst) (.int .u64 b.amt) (.int .u64 b.non) (.string b.key) (.string b.val) (.slice b.ra b.rs.length b.rc) (.slice b.wa b.ws.length b.wc)
            unfold set9A at F
            go_meet
            case rel => exact ⟨_, _, a, b, rfl, rfl, F, a1.out, b1.out, aB.nr, bA.nr, aB.zr, bA.zr⟩
          · have E : Ce W ((wB.alloc (.cells #[.int .i64 0, .string ⟨#[]⟩, .string ⟨#[]⟩, .int .u64 0, .int .u64 0, .string ⟨#[]⟩, .string ⟨#[]⟩, .slice none 0 0, .slice none 0 0] 26))) (w4.heap.size) (wB.heap.size) zeroTxC zeroTxC a b := ⟨by omega, s1a, (Arr.new wB 26 zeroTxC), (aB.rd.below (belowNew _ _)), (bA.rd.below (belowNew _ _)), fun k hk => by have h := fA.out k hk; omega, fun k hk => by have h := fB.out k hk; omega, (hTB.bel.alloc (hTB.bel.size) _), by omega, by omega⟩
            have F := ((E).setP (.int .i64 a.kind) (.string a.frm) (.string a.dst) (.int .u64 a.amt) (.int .u64 a.non) (.string a.key) (.string a.val) (.slice a.ra a.rs.length a.rc) (.slice a.wa a.ws.length a.wc)).setQ (.int .i64 b.kind) (.string b.frm) (.string b.dst) (.int .u64 b.amt) (.int .u64 b.non) (.string b.key) (.string b.val) (.slice b.ra b.rs.length b.rc) (.slice b.wa b.ws.length b.wc)
            unfold set9A at F
            go_meet
            case rel => exact ⟨_, _, a, b, rfl, rfl, F, a1.out, b1.out, aB.nr, bA.nr, aB.zr, bA.zr⟩
          · have E : Ce W (wB) (w4.heap.size) (wA.heap.size) zeroTxC zeroTxC a b := ⟨by omega, s1, m1, aB.rd, bA.rd, fun k hk => by have h := fA.out k hk; omega, fun k hk => by have h := fB.out k hk; omega, hTB.bel, by omega, by omega⟩
            have F := ((E).setP (.int .i64 a.kind) (.string a.frm) (.string a.dst) (.int .u64 a.amt) (.int .u64 a.non) (.string a.key) (.string a.val) (.slice a.ra a.rs.length a.rc) (.slice a.wa a.ws.length a.wc)).setQ (.int .i64 b.kind) (.string b.frm) (.string b.dst) (.int .u64 b.amt) (.int .u64 b.non) (.string b.key) (.string b.val) (.slice b.ra b.rs.length b.rc) (.slice b.wa b.ws.length b.wc)
            unfold set9A at F
            go_meet
            case rel => exact ⟨_, _, a, b, rfl, rfl, F, a1.out, b1.out, aB.nr, bA.nr, aB.zr, bA.zr⟩
          · have E : Ce W (wB) (w4.heap.size) (w4.heap.size + 1) zeroTxC zeroTxC a b := ⟨by omega, s1, s2, aB.rd, bA.rd, fun k hk => by have h := fA.out k hk; omega, fun k hk => by have h := fB.out k hk; omega, hTB.bel, by omega, by omega⟩
            have F := ((E).setP (.int .i64 a.kind) (.string a.frm) (.string a.dst) (.int .u64 a.amt) (.int .u64 a.non) (.string a.key) (.string a.val) (.slice a.ra a.rs.length a.rc) (.slice a.wa a.ws.length a.wc)).setQ (.int .i64 b.kind) (.string b.frm) (.string b.dst) (.int .u64 b.amt) (.int .u64 b.non) (.string b.key) (.string b.val) (.slice b.ra b.rs.length b.rc) (.slice b.wa b.ws.length b.wc)
            unfold set9A at F
            go_meet
            case rel => exact ⟨_, _, a, b, rfl, rfl, F, a1.out, b1.out, aB.nr, bA.nr, aB.zr, bA.zr⟩
          · have E : Ce W ((wB.alloc (.cells #[.int .i64 a.kind, .string a.frm, .string a.dst, .int .u64 a.amt, .int .u64 a.non, .string a.key, .string a.val, .slice a.ra a.rs.length a.rc, .slice a.wa a.ws.length a.wc] 26))) (wB.heap.size) (w4.heap.size) a.c zeroTxC a b := ⟨by omega, (Arr.new wB 26 a.c), s1b, (aB.rd.below (belowNew _ _)), (bA.rd.below (belowNew _ _)), fun k hk => by have h := fA.out k hk; omega, fun k hk => by have h := fB.out k hk; omega, (hTB.bel.alloc (hTB.bel.size) _), by omega, by omega⟩
            have F := (E).setQ (.int .i64 b.kind) (.string b.frm) (.string b.dst) (.int .u64 b.amt) (.int .u64 b.non) (.string b.key) (.string b.val) (.slice b.ra b.rs.length b.rc) (.slice b.wa b.ws.length b.wc)
            unfold set9A at F
            go_meet
            case rel => exact ⟨_, _, a, b, rfl, rfl, F, a1.out, b1.out, aB.nr, bA.nr, aB.zr, bA.zr⟩
          · have E : Ce W (wB) (wA.heap.size) (w4.heap.size) zeroTxC zeroTxC a b := ⟨by omega, m1, s1, aB.rd, bA.rd, fun k hk => by have h := fA.out k hk; omega, fun k hk => by have h := fB.out k hk; omega, hTB.bel, by omega, by omega⟩
            have F := ((E).setP (.int .i64 a.kind) (.string a.frm) (.string a.dst) (.int .u64 a.amt) (.int .u64 a.non) (.string a.key) (.string a.val) (.slice a.ra a.rs.length a.rc) (.slice a.wa a.ws.length a.wc)).setQ (.int .i64 b.kind) (.string b.frm) (.string b.dst) (.int .u64 b.amt) (.int .u64 b.non) (.string b.key) (.string b.val) (.slice b.ra b.rs.length b.rc) (.slice b.wa b.ws.length b.wc)
            unfold set9A at F
            go_meet
            case rel => exact ⟨_, _, a, b, rfl, rfl, F, a1.out, b1.out, aB.nr, bA.nr, aB.zr, bA.zr⟩
          · have E : Ce W (wB) (w4.heap.size + 1) (w4.heap.size) zeroTxC zeroTxC a b := ⟨by omega, s2, s1, aB.rd, bA.rd, fun k hk => by have h := fA.out k hk; omega, fun k hk => by have h := fB.out k hk; omega, hTB.bel, by omega, by omega⟩
            have F := ((E).setP (.int .i64 a.kind) (.string a.frm) (.string a.dst) (.int .u64 a.amt) (.int .u64 a.non) (.string a.key) (.string a.val) (.slice a.ra a.rs.length a.rc) (.slice a.wa a.ws.length a.wc)).setQ (.int .i64 b.kind) (.string b.frm) (.string b.dst) (.int .u64 b.amt) (.int .u64 b.non) (.string b.key) (.string b.val) (.slice b.ra b.rs.length b.rc) (.slice b.wa b.ws.length b.wc)
            unfold set9A at F
            go_meet
            case rel => exact ⟨_, _, a, b, rfl, rfl, F, a1.out, b1.out, aB.nr, bA.nr, aB.zr, bA.zr⟩
        case rest =>
          obtain ⟨p, q, a, b, rfl, rfl, hE, a1, b1, na, nb, za, zb⟩ := hcut
          generalize wc = w5 at *
          clear hkp cO1 cO2 hT4 hcl hcl0
          have hne := hE.ne
          have hne2 : q ≠ p := fun e => hne e.symm
          have p8 := hE.ap.cell (i := 8) rfl
          have q8 := hE.aq.cell (i := 8) rfl
          have pf := hE.ap.frozen 8
          have qf := hE.aq.frozen 8
          have hkk := (Kept.setCell w5 ⟨p, 8, none⟩ (.slice none 0 0)).mono (T := fun k => k = p ∨ k = q) (fun k _ e => Or.inl e)
          have hk2 := hkk.set (p := ⟨q, 8, none⟩) (Or.inr rfl) (.slice none 0 0)
          have hP : Arr ((w5.setCell ⟨p, 8, none⟩ (.slice none 0 0)).setCell ⟨q, 8, none⟩ (.slice none 0 0)) p 26 [.int .i64 a.kind, .string a.frm, .string a.dst, .int .u64 a.amt, .int .u64 a.non, .string a.key, .string a.val, .slice a.ra a.rs.length a.rc, .slice none 0 0] := (hE.ap.set 8 (.slice none 0 0)).other (p := ⟨q, 8, none⟩) hne _
          have hQ : Arr ((w5.setCell ⟨p, 8, none⟩ (.slice none 0 0)).setCell ⟨q, 8, none⟩ (.slice none 0 0)) q 26 [.int .i64 b.kind, .string b.frm, .string b.dst, .int .u64 b.amt, .int .u64 b.non, .string b.key, .string b.val, .slice b.ra b.rs.length b.rc, .slice none 0 0] := (hE.aq.other (p := ⟨p, 8, none⟩) hne2 (.slice none 0 0)).set 8 (.slice none 0 0)
          have hA : TxA.At ((w5.setCell ⟨p, 8, none⟩ (.slice none 0 0)).setCell ⟨q, 8, none⟩ (.slice none 0 0)) ⟨a.kind, a.frm, a.dst, a.amt, a.non, a.key, a.val, a.rs, [], a.ra, a.rc, none, 0⟩ := ⟨hE.ra.kept hk2 (fun k hb e => e.elim (hE.fa k hb).1 (hE.fa k hb).2), nil_row _ _, na, fun _ => rfl, za, fun s hs => absurd hs List.not_mem_nil⟩
          have hBt : TxA.At ((w5.setCell ⟨p, 8, none⟩ (.slice none 0 0)).setCell ⟨q, 8, none⟩ (.slice none 0 0)) ⟨b.kind, b.frm, b.dst, b.amt, b.non, b.key, b.val, b.rs, [], b.ra, b.rc, none, 0⟩ := ⟨hE.rb.kept hk2 (fun k hb e => e.elim (hE.fb k hb).1 (hE.fb k hb).2), nil_row _ _, nb, fun _ => rfl, zb, fun s hs => absurd hs List.not_mem_nil⟩
          have hB := hE.bel.trans (hk2.below hE.bel.size (fun k e => by have := hE.gp; have := hE.gq; omega))
          have cC : Calls Try.prog 13 #[.agg #[.int .i64 a.kind, .string a.frm, .string a.dst, .int .u64 a.amt, .int .u64 a.non, .string a.key, .string a.val, .slice a.ra a.rs.length a.rc, .slice none 0 0], .agg #[.int .i64 b.kind, .string b.frm, .string b.dst, .int .u64 b.amt, .int .u64 b.non, .string b.key, .string b.val, .slice b.ra b.rs.length b.rc, .slice none 0 0]] ((w5.setCell ⟨p, 8, none⟩ (.slice none 0 0)).setCell ⟨q, 8, none⟩ (.slice none 0 0)) fun e w' => e = .returned (.bool false) ∧ Below ((w5.setCell ⟨p, 8, none⟩ (.slice none 0 0)).setCell ⟨q, 8, none⟩ (.slice none 0 0)).heap.size ((w5.setCell ⟨p, 8, none⟩ (.slice none 0 0)).setCell ⟨q, 8, none⟩ (.slice none 0 0)) w' :=
            clashA_any _ _ _ hA hBt (by show a.rs.length ≤ 1000000; rw [a1]; omega) (Nat.zero_le _) (by show b.rs.length ≤ 1000000; rw [b1]; omega) (Nat.zero_le _)
          have u0 := hP.cell (i := 0) rfl
          have u1 := hP.cell (i := 1) rfl
          have u2 := hP.cell (i := 2) rfl
          have u3 := hP.cell (i := 3) rfl
          have u4 := hP.cell (i := 4) rfl
          have u5 := hP.cell (i := 5) rfl
          have u6 := hP.cell (i := 6) rfl
          have u7 := hP.cell (i := 7) rfl
          have u8 := hP.cell (i := 8) rfl
          have v0 := hQ.cell (i := 0) rfl
          have v1 := hQ.cell (i := 1) rfl
          have v2 := hQ.cell (i := 2) rfl
          have v3 := hQ.cell (i := 3) rfl
          have v4 := hQ.cell (i := 4) rfl
          have v5 := hQ.cell (i := 5) rfl
          have v6 := hQ.cell (i := 6) rfl
          have v7 := hQ.cell (i := 7) rfl
          have v8 := hQ.cell (i := 8) rfl
          have e0 := hE.ap.cell (i := 0) rfl
          have e1 := hE.ap.cell (i := 1) rfl
          have e2 := hE.ap.cell (i := 2) rfl
          have e3 := hE.ap.cell (i := 3) rfl
          have e4 := hE.ap.cell (i := 4) rfl
          have e5 := hE.ap.cell (i := 5) rfl
          have e6 := hE.ap.cell (i := 6) rfl
          have e7 := hE.ap.cell (i := 7) rfl
          have f0 := hE.aq.cell (i := 0) rfl
          have f1 := hE.aq.cell (i := 1) rfl
          have f2 := hE.aq.cell (i := 2) rfl
          have f3 := hE.aq.cell (i := 3) rfl
          have f4 := hE.aq.cell (i := 4) rfl
          have f5 := hE.aq.cell (i := 5) rfl
          have f6 := hE.aq.cell (i := 6) rfl
          have f7 := hE.aq.cell (i := 7) rfl
          clear hA hBt hP hQ hkk hk2 hE na nb za zb a1 b1
          go_wp2_with fail
          refine cC.mono ?_
          rintro _ w6 ⟨rfl, hb6⟩
          have hfin := hB.trans (hb6.mono hB.size)
          clear cC hB hb6
          go_wp2
          go_ret
          exact ⟨rfl, hfin⟩
end Go.Proofs.Ythegadhkhbokkaa
