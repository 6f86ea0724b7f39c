/- Texts as one: CertOwn, BlkOwn, MsgOwn, MsgWithin. -/
import Derived.Test.YtmngiekobmhpaaaGreatRk07
import Derived.Test.YtmngiekobmhpaaaGreatRk11
import Derived.Deep.RegionHeld3
import Derived.Test.YtmngiekobmhpaaaGreatRk10
/- What tusklaw07.Own does: a certificate that shares nothing; nothing old in memory is turned. -/
namespace Go.Proofs.YtmngiekobmhpaaaGreat
open Go.RowKit
set_option linter.unusedVariables false

/-- A certificate that shares nothing is handed back. -/
def GotOwnC (W : World) (x : CertM) (e : Ending) (w : World) : Prop :=
  ∃ y : CertM, e = .returned y.v ∧ y.d = x.d ∧ y.At w ∧ (∀ b, y.foot b → W.heap.size ≤ b) ∧ Below W.heap.size W w
end Go.Proofs.YtmngiekobmhpaaaGreat

/- What tusklaw08.OwnQc and tusklaw08.Own do: what shares nothing; nothing old in memory is turned. -/
namespace Go.Proofs.YtmngiekobmhpaaaGreat
open Go.RowKit
set_option linter.unusedVariables false

/-- A Qc that shares nothing is handed back. -/
def GotOwnQ (W : World) (x : QcM) (e : Ending) (w : World) : Prop :=
  ∃ y : QcM, e = .returned y.v ∧ y.d = x.d ∧ y.At w ∧ (∀ b, y.foot b → W.heap.size ≤ b) ∧ Below W.heap.size W w

/-- A block that shares nothing is handed back. -/
def GotOwnB (W : World) (x : BlkM) (e : Ending) (w : World) : Prop :=
  ∃ y : BlkM, e = .returned y.v ∧ y.d = x.d ∧ y.At w ∧ (∀ b, y.foot b → W.heap.size ≤ b) ∧ Below W.heap.size W w
end Go.Proofs.YtmngiekobmhpaaaGreat

/- What tusklaw09.Own does: a message that shares nothing; nothing old in memory is turned. -/
namespace Go.Proofs.YtmngiekobmhpaaaGreat
open Go.RowKit
set_option linter.unusedVariables false

theorem kept_row (w : World) (g : Nat) (c : Array Value) : Kept (fun k => k = g) w (w.setRow g c) := by
  exact ⟨rfl, rfl, rfl, by rw [setRow_size]; exact Nat.le_refl _, fun k _ hk => setRow_other w g k c hk⟩

theorem results_msgO {fn : Func} {p : Tmp} (h : fn.results = #[.cell p 39]) (tmps : Array Value) (w : World) (g : Nat) (x : MsgM)
    (hp : tmps.getD p undef = .pointer (some ⟨g, 0, none⟩)) (hg : Arr w g 39 x.c) :
    (results fn tmps).run Tryz.prog w = .ok x.v w :=
  results_cell_row h tmps w g 39 x.c.toArray (0, 0) _ hp hg Tryz.underlying39 rfl infoMsg9

/-- A message that shares nothing is handed back. -/
def GotOwnM (W : World) (x : MsgM) (e : Ending) (w : World) : Prop :=
  ∃ y : MsgM, e = .returned y.v ∧ y.d = x.d ∧ y.At w ∧ (∀ b, y.foot b → W.heap.size ≤ b) ∧ Below W.heap.size W w

/-- A message's lists are no longer than memory holds. -/
structure MsgM.Lens (x : MsgM) : Prop where
  txs : x.bat.txs.length ≤ 100
  tx : ∀ t ∈ x.bat.txs, TxLens t.d
  hdr : x.hdr.Lens
  cert : x.cert.hdr.Lens
  votes : x.cert.votes.length * 24 ≤ 140737488351232
  bvotes : x.blk.qc.votes.length * 24 ≤ 140737488351232
  certs : x.blk.certs.length * 16 ≤ 140737488351232
  qvotes : x.qc.votes.length * 24 ≤ 140737488351232

/-- A message that lies off two blocks. -/
structure Two (W : Nat) (x : MsgM) (w : World) : Prop where
  at_ : x.At w
  off : ∀ b, x.foot b → b ≠ W ∧ b ≠ W + 1

theorem Two.below {W : Nat} {x : MsgM} {w w' : World} (h : Two W x w) (hb : Below w.heap.size w w') : Two W x w' := ⟨h.at_.below hb, h.off⟩

theorem Two.kept {W : Nat} {x : MsgM} {w w' : World} {S : Nat → Prop} (h : Two W x w) (hk : Kept S w w') (hS : ∀ k, S k → k = W ∨ k = W + 1) : Two W x w' :=
  ⟨Kind.kept msgK h.at_ hk (fun b hb e => by have h1 := h.off b hb; have h2 := hS b e; omega), h.off⟩

theorem Two.bat {W n : Nat} {x : MsgM} {w : World} (h : Two W x w) {y : BatM} (hy : y.At w) (hf : ∀ b, rowFoot txK y.ta y.txs b → n ≤ b) (hn : W + 2 ≤ n) : Two W { x with bat := y } w :=
  ⟨⟨hy, h.at_.hdr, h.at_.cert, h.at_.blk, h.at_.qc⟩, fun b hb => by
    rcases hb with hb | hb
    · have := hf b hb
      omega
    · exact h.off b (Or.inr hb)⟩

theorem Two.hdr {W n : Nat} {x : MsgM} {w : World} (h : Two W x w) {y : HdrM} (hy : y.At w) (hf : ∀ b, y.foot b → n ≤ b) (hn : W + 2 ≤ n) : Two W { x with hdr := y } w :=
  ⟨⟨h.at_.bat, hy, h.at_.cert, h.at_.blk, h.at_.qc⟩, fun b hb => by
    rcases hb with hb | hb | hb
    · exact h.off b (Or.inl hb)
    · have := hf b hb
      omega
    · exact h.off b (Or.inr (Or.inr hb))⟩

theorem Two.cert {W n : Nat} {x : MsgM} {w : World} (h : Two W x w) {y : CertM} (hy : y.At w) (hf : ∀ b, y.foot b → n ≤ b) (hn : W + 2 ≤ n) : Two W { x with cert := y } w :=
  ⟨⟨h.at_.bat, h.at_.hdr, hy, h.at_.blk, h.at_.qc⟩, fun b hb => by
    rcases hb with hb | hb | hb | hb
    · exact h.off b (Or.inl hb)
    · exact h.off b (Or.inr (Or.inl hb))
    · have := hf b hb
      omega
    · exact h.off b (Or.inr (Or.inr (Or.inr hb)))⟩

theorem Two.blk {W n : Nat} {x : MsgM} {w : World} (h : Two W x w) {y : BlkM} (hy : y.At w) (hf : ∀ b, y.foot b → n ≤ b) (hn : W + 2 ≤ n) : Two W { x with blk := y } w :=
  ⟨⟨h.at_.bat, h.at_.hdr, h.at_.cert, hy, h.at_.qc⟩, fun b hb => by
    rcases hb with hb | hb | hb | hb | hb
    · exact h.off b (Or.inl hb)
    · exact h.off b (Or.inr (Or.inl hb))
    · exact h.off b (Or.inr (Or.inr (Or.inl hb)))
    · have := hf b hb
      omega
    · exact h.off b (Or.inr (Or.inr (Or.inr (Or.inr hb))))⟩

theorem Two.qc {W n : Nat} {x : MsgM} {w : World} (h : Two W x w) {y : QcM} (hy : y.At w) (hf : ∀ b, y.foot b → n ≤ b) (hn : W + 2 ≤ n) : Two W { x with qc := y } w :=
  ⟨⟨h.at_.bat, h.at_.hdr, h.at_.cert, h.at_.blk, hy⟩, fun b hb => by
    rcases hb with hb | hb | hb | hb | hb
    · exact h.off b (Or.inl hb)
    · exact h.off b (Or.inr (Or.inl hb))
    · exact h.off b (Or.inr (Or.inr (Or.inl hb)))
    · exact h.off b (Or.inr (Or.inr (Or.inr (Or.inl hb))))
    · have := hf b hb
      omega⟩
end Go.Proofs.YtmngiekobmhpaaaGreat

/- How package msg's reader takes a thing of another layer out of the next text. -/
namespace Go.Proofs.YtmngiekobmhpaaaGreat
open Go.RowKit
set_option linter.unusedVariables false

/-- What within hands back. -/
def GotW {α δ : Type} (K : Kind α) (v : α → Value) (d : α → δ) (rb : Nat) (cs : List Value) (rest : ByteArray) (W : World) (r : Except Nat δ) (e : Ending) (w : World) : Prop :=
  ∃ (x : α) (er : Nat), e = .returned (.tuple #[v x, .int .i64 (er : Int)]) ∧ K.At w x ∧ ((er = 0 ∧ r = .ok (d x)) ∨ (er ≠ 0 ∧ r = .error er)) ∧ (∀ b, K.foot x b → W.heap.size ≤ b) ∧ Arr w rb 58 (.string rest :: cs) ∧ Kept (fun k => k = rb) W w

theorem bat0_none9 (w : World) : batK.At w bat0 ∧ ∀ b, ¬ batK.foot bat0 b := ⟨(msg0_at 0 w).bat, fun b h => nil_foot h⟩

set_option maxRecDepth 100000 in
set_option maxHeartbeats 2000000 in
theorem within_b (rb : Nat) (rest : ByteArray) (cs : List Value) (w : World) (hR : Arr w rb 58 (.string rest :: cs)) (hs : rest.size ≤ maxLen) (t : List UInt8) (n er0 : Nat) (hr : getText rest.data.toList = (t, n, er0)) :
    Calls Tryz.prog 54 #[.pointer (some ⟨rb, 0, none⟩), .func (.func 55) #[] #[]] w fun e w' => GotW batK BatM.v BatM.d rb cs (rest.extract n rest.size) w (if er0 ≠ 0 then .error er0 else decBat t) e w' := by
  have hZ := Arr.new w 26 [.int .i64 0, .int .i64 0, .slice none 0 0]
  have hbn := belowNew w (.cells [.int .i64 0, .int .i64 0, .slice none 0 0].toArray 26)
  have hR1 := hR.below hbn hR.lt
  have hrl := hR.lt
  have k1 : Kept (fun k => k = rb) w (w.alloc (.cells [.int .i64 0, .int .i64 0, .slice none 0 0].toArray 26)) := Kept.of_below hbn
  have cT := rtext_any rb rest cs _ hR1 hs t n er0 hr
  have hR2 := hR1.set 0 (.string (rest.extract n rest.size))
  have hZ2 := hZ.other (p := ⟨rb, 0, none⟩) (by show w.heap.size ≠ rb; omega) (.string (rest.extract n rest.size))
  have k2 := k1.set (p := ⟨rb, 0, none⟩) rfl (.string (rest.extract n rest.size))
  replace hR2 : Arr _ rb 58 (.string (rest.extract n rest.size) :: cs) := hR2
  have hs2 : w.heap.size < ((w.alloc (.cells [.int .i64 0, .int .i64 0, .slice none 0 0].toArray 26)).setCell ⟨rb, 0, none⟩ (.string (rest.extract n rest.size))).heap.size := hZ2.lt
  obtain ⟨w1, hw1⟩ : ∃ q', w.alloc (.cells [.int .i64 0, .int .i64 0, .slice none 0 0].toArray 26) = q' := ⟨_, rfl⟩
  rw [hw1] at cT hR2 hZ2 k2 hs2
  have htl : er0 = 0 → (⟨t.toArray⟩ : ByteArray).size ≤ maxLen := fun h => by subst h; have := getText_bounds _ t n hr; rw [size_mk]; unfold maxLen; omega
  have Htl : Hid _ := htl
  clear hZ hbn hR1 k1 hR htl hr
  obtain ⟨r1, hr1⟩ : ∃ o, o = rest.extract n rest.size := ⟨_, rfl⟩
  rw [← hr1] at cT hR2 hZ2 k2 hs2 ⊢
  obtain ⟨w2, hw2⟩ : ∃ q', w1.setCell ⟨rb, 0, none⟩ (.string r1) = q' := ⟨_, rfl⟩
  rw [hw2] at cT hR2 hZ2 k2 hs2
  clear hr1 hw2
  by_cases he : er0 ≠ 0
  · rw [if_pos he]
    have hne : ((er0 : Int) != 0) = true := by rw [bne_iff_ne]; omega
    generalize (⟨t.toArray⟩ : ByteArray) = tt at cT
    clear Htl
    go_enter Tryz.func54, Tryz.ntmps54
    go_wp2_with fail
    refine cT.mono ?_
    rintro e w2' ⟨rfl, hw2'⟩
    rw [← hw2'] at hR2 hZ2 k2 hs2
    clear hw2' cT hw1
    have hN := Arr.new w2' 26 [.int .i64 0, .int .i64 0, .slice none 0 0]
    have hbn := belowNew w2' (.cells [.int .i64 0, .int .i64 0, .slice none 0 0].toArray 26)
    have hR3 := hR2.below hbn hR2.lt
    have hZ3 := hZ2.below hbn hZ2.lt
    have k3 := k2.trans (Kept.of_below hbn)
    have kr := kept_row (w2'.alloc (.cells [.int .i64 0, .int .i64 0, .slice none 0 0].toArray 26)) w.heap.size [.int .i64 0, .int .i64 0, .slice none 0 0].toArray
    have hZF := hZ3.row [.int .i64 0, .int .i64 0, .slice none 0 0]
    have hRF := hR3.kept kr (by show ¬ rb = w.heap.size; omega)
    have kF := k3.transNew kr (fun j hj => by rw [hj]; exact Nat.le_refl _)
    have h1 : (List.toArray (α := Value) [.int .i64 0, .int .i64 0, .slice none 0 0]).all (·.oneCell') = true := Array.all_eq_true_iff_forall_mem.2 (fun v hv => batK.one bat0 v (List.mem_toArray.1 hv))
    have hfin : ∀ e, e = .returned (.tuple #[BatM.v bat0, .int .i64 (er0 : Int)]) → GotW batK BatM.v BatM.d rb cs r1 w (.error er0) e _ := fun e h => ⟨bat0, er0, h, (bat0_none9 _).1, Or.inr ⟨he, rfl⟩, fun b hb => absurd hb ((bat0_none9 w).2 b), hRF, kF⟩
    clear hRF kF k3 kr hR3 hbn hR2 hZ2 k2
    go_wp2_with (first | refine wpList_load_row (by rfl) 26 _ (by rfl) w2'.heap.size (by rfl) 26 _ (0, 0) _ hN Tryz.underlying26 (by rfl) infoBat ?_ | refine wpList_store_row (by rfl) 26 _ _ (by rfl) w.heap.size [.int .i64 0, .int .i64 0, .slice none 0 0].toArray (by rfl) (by rfl) 26 _ hZ3 infoBat (by rfl) h1 ?_)
    refine bodyPost_ret (v := .tuple #[BatM.v bat0, .int .i64 (er0 : Int)]) (results_row_tmp rfl _ _ w.heap.size [.int .i64 0, .int .i64 0, .slice none 0 0] rfl (run_loadVar_row _ w.heap.size 26 26 _ (0, 0) _ hZF Tryz.underlying26 rfl infoBat) _ rfl) rfl ?_
    exact hfin _ rfl
  replace he : er0 = 0 := by omega
  subst he
  rw [if_neg (by simp)]
  have cD := bat_got ⟨t.toArray⟩ w2 (Htl.out rfl)
  replace cD : Calls Tryz.prog 55 #[.string ⟨t.toArray⟩] w2 fun e w' => GotX batK BatM.v BatM.d w2 (decBat t) e w' := cD
  generalize decBat t = out at cD ⊢
  generalize (⟨t.toArray⟩ : ByteArray) = tt at cT cD
  clear Htl
  go_enter Tryz.func54, Tryz.ntmps54
  go_wp2_with fail
  refine cT.mono ?_
  rintro e w2' ⟨rfl, hw2'⟩
  rw [← hw2'] at hR2 hZ2 k2 hs2 cD
  clear hw2' cT hw1
  go_wp2_with fail
  refine cD.mono ?_
  rintro e w3 ⟨x, er, rfl, hx, hres, hfx, hb3⟩
  have hR3 := hR2.below hb3 hR2.lt
  have hZ3 := hZ2.below hb3 hZ2.lt
  have k3 := k2.trans (Kept.of_below hb3)
  have kr := kept_row w3 w.heap.size [.int .i64 x.author, .int .i64 x.number, .slice x.ta x.txs.length x.tc].toArray
  have hZF := hZ3.row [.int .i64 x.author, .int .i64 x.number, .slice x.ta x.txs.length x.tc]
  have hRF := hR3.kept kr (by show ¬ rb = w.heap.size; omega)
  have kF := k3.transNew kr (fun j hj => by rw [hj]; exact Nat.le_refl _)
  have hxF := Kind.keptX batK hx kr (fun b hb e => by have := hfx b hb; omega)
  have h1 : (List.toArray (α := Value) [.int .i64 x.author, .int .i64 x.number, .slice x.ta x.txs.length x.tc]).all (·.oneCell') = true := Array.all_eq_true_iff_forall_mem.2 (fun v hv => batK.one x v (List.mem_toArray.1 hv))
  have hfin : ∀ e, e = .returned (.tuple #[BatM.v x, .int .i64 (er : Int)]) → GotW batK BatM.v BatM.d rb cs r1 w out e _ := fun e h => ⟨x, er, h, hxF, hres, fun b hb => by have := hfx b hb; omega, hRF, kF⟩
  clear hRF kF k3 kr hR3 hR2 hZ2 k2 hxF hx hres hfx cD hb3
  unfold BatM.v
  go_wp2_with (refine wpList_store_row (by rfl) 26 _ _ (by rfl) w.heap.size [.int .i64 x.author, .int .i64 x.number, .slice x.ta x.txs.length x.tc].toArray (by rfl) (by rfl) 26 _ hZ3 infoBat (by rfl) h1 ?_)
  refine bodyPost_ret (v := .tuple #[BatM.v x, .int .i64 (er : Int)]) (results_row_tmp rfl _ _ w.heap.size [.int .i64 x.author, .int .i64 x.number, .slice x.ta x.txs.length x.tc] rfl (run_loadVar_row _ w.heap.size 26 26 _ (0, 0) _ hZF Tryz.underlying26 rfl infoBat) _ rfl) rfl ?_
  exact hfin _ rfl

theorem hdr9_none9 (w : World) : hdrK.At w hdr9 ∧ ∀ b, ¬ hdrK.foot hdr9 b := ⟨(msg0_at 0 w).hdr, fun b h => h.elim nil_foot nil_foot⟩

set_option maxRecDepth 100000 in
set_option maxHeartbeats 2000000 in
theorem within_h (rb : Nat) (rest : ByteArray) (cs : List Value) (w : World) (hR : Arr w rb 58 (.string rest :: cs)) (hs : rest.size ≤ maxLen) (t : List UInt8) (n er0 : Nat) (hr : getText rest.data.toList = (t, n, er0)) :
    Calls Tryz.prog 56 #[.pointer (some ⟨rb, 0, none⟩), .func (.func 57) #[] #[]] w fun e w' => GotW hdrK HdrM.v HdrM.d rb cs (rest.extract n rest.size) w (if er0 ≠ 0 then .error er0 else decH t) e w' := by
  have hZ := Arr.new w 30 [.int .i64 0, .int .i64 0, .slice none 0 0, .slice none 0 0]
  have hbn := belowNew w (.cells [.int .i64 0, .int .i64 0, .slice none 0 0, .slice none 0 0].toArray 30)
  have hR1 := hR.below hbn hR.lt
  have hrl := hR.lt
  have k1 : Kept (fun k => k = rb) w (w.alloc (.cells [.int .i64 0, .int .i64 0, .slice none 0 0, .slice none 0 0].toArray 30)) := Kept.of_below hbn
  have cT := rtext_any rb rest cs _ hR1 hs t n er0 hr
  have hR2 := hR1.set 0 (.string (rest.extract n rest.size))
  have hZ2 := hZ.other (p := ⟨rb, 0, none⟩) (by show w.heap.size ≠ rb; omega) (.string (rest.extract n rest.size))
  have k2 := k1.set (p := ⟨rb, 0, none⟩) rfl (.string (rest.extract n rest.size))
  replace hR2 : Arr _ rb 58 (.string (rest.extract n rest.size) :: cs) := hR2
  have hs2 : w.heap.size < ((w.alloc (.cells [.int .i64 0, .int .i64 0, .slice none 0 0, .slice none 0 0].toArray 30)).setCell ⟨rb, 0, none⟩ (.string (rest.extract n rest.size))).heap.size := hZ2.lt
  obtain ⟨w1, hw1⟩ : ∃ q', w.alloc (.cells [.int .i64 0, .int .i64 0, .slice none 0 0, .slice none 0 0].toArray 30) = q' := ⟨_, rfl⟩
  rw [hw1] at cT hR2 hZ2 k2 hs2
  have htl : er0 = 0 → (⟨t.toArray⟩ : ByteArray).size ≤ maxLen := fun h => by subst h; have := getText_bounds _ t n hr; rw [size_mk]; unfold maxLen; omega
  have Htl : Hid _ := htl
  clear hZ hbn hR1 k1 hR htl hr
  obtain ⟨r1, hr1⟩ : ∃ o, o = rest.extract n rest.size := ⟨_, rfl⟩
  rw [← hr1] at cT hR2 hZ2 k2 hs2 ⊢
  obtain ⟨w2, hw2⟩ : ∃ q', w1.setCell ⟨rb, 0, none⟩ (.string r1) = q' := ⟨_, rfl⟩
  rw [hw2] at cT hR2 hZ2 k2 hs2
  clear hr1 hw2
  by_cases he : er0 ≠ 0
  · rw [if_pos he]
    have hne : ((er0 : Int) != 0) = true := by rw [bne_iff_ne]; omega
    generalize (⟨t.toArray⟩ : ByteArray) = tt at cT
    clear Htl
    go_enter Tryz.func56, Tryz.ntmps56
    go_wp2_with fail
    refine cT.mono ?_
    rintro e w2' ⟨rfl, hw2'⟩
    rw [← hw2'] at hR2 hZ2 k2 hs2
    clear hw2' cT hw1
    have hN := Arr.new w2' 30 [.int .i64 0, .int .i64 0, .slice none 0 0, .slice none 0 0]
    have hbn := belowNew w2' (.cells [.int .i64 0, .int .i64 0, .slice none 0 0, .slice none 0 0].toArray 30)
    have hR3 := hR2.below hbn hR2.lt
    have hZ3 := hZ2.below hbn hZ2.lt
    have k3 := k2.trans (Kept.of_below hbn)
    have kr := kept_row (w2'.alloc (.cells [.int .i64 0, .int .i64 0, .slice none 0 0, .slice none 0 0].toArray 30)) w.heap.size [.int .i64 0, .int .i64 0, .slice none 0 0, .slice none 0 0].toArray
    have hZF := hZ3.row [.int .i64 0, .int .i64 0, .slice none 0 0, .slice none 0 0]
    have hRF := hR3.kept kr (by show ¬ rb = w.heap.size; omega)
    have kF := k3.transNew kr (fun j hj => by rw [hj]; exact Nat.le_refl _)
    have h1 : (List.toArray (α := Value) [.int .i64 0, .int .i64 0, .slice none 0 0, .slice none 0 0]).all (·.oneCell') = true := Array.all_eq_true_iff_forall_mem.2 (fun v hv => hdrK.one hdr9 v (List.mem_toArray.1 hv))
    have hfin : ∀ e, e = .returned (.tuple #[HdrM.v hdr9, .int .i64 (er0 : Int)]) → GotW hdrK HdrM.v HdrM.d rb cs r1 w (.error er0) e _ := fun e h => ⟨hdr9, er0, h, (hdr9_none9 _).1, Or.inr ⟨he, rfl⟩, fun b hb => absurd hb ((hdr9_none9 w).2 b), hRF, kF⟩
    clear hRF kF k3 kr hR3 hbn hR2 hZ2 k2
    go_wp2_with (first | refine wpList_load_row (by rfl) 30 _ (by rfl) w2'.heap.size (by rfl) 30 _ (0, 0) _ hN Tryz.underlying30 (by rfl) infoHdr6 ?_ | refine wpList_store_row (by rfl) 30 _ _ (by rfl) w.heap.size [.int .i64 0, .int .i64 0, .slice none 0 0, .slice none 0 0].toArray (by rfl) (by rfl) 30 _ hZ3 infoHdr6 (by rfl) h1 ?_)
    refine bodyPost_ret (v := .tuple #[HdrM.v hdr9, .int .i64 (er0 : Int)]) (results_row_tmp rfl _ _ w.heap.size [.int .i64 0, .int .i64 0, .slice none 0 0, .slice none 0 0] rfl (run_loadVar_row _ w.heap.size 30 30 _ (0, 0) _ hZF Tryz.underlying30 rfl infoHdr6) _ rfl) rfl ?_
    exact hfin _ rfl
  replace he : er0 = 0 := by omega
  subst he
  rw [if_neg (by simp)]
  have cD := hdr_got ⟨t.toArray⟩ w2 (Htl.out rfl)
  replace cD : Calls Tryz.prog 57 #[.string ⟨t.toArray⟩] w2 fun e w' => GotX hdrK HdrM.v HdrM.d w2 (decH t) e w' := cD
  generalize decH t = out at cD ⊢
  generalize (⟨t.toArray⟩ : ByteArray) = tt at cT cD
  clear Htl
  go_enter Tryz.func56, Tryz.ntmps56
  go_wp2_with fail
  refine cT.mono ?_
  rintro e w2' ⟨rfl, hw2'⟩
  rw [← hw2'] at hR2 hZ2 k2 hs2 cD
  clear hw2' cT hw1
  go_wp2_with fail
  refine cD.mono ?_
  rintro e w3 ⟨x, er, rfl, hx, hres, hfx, hb3⟩
  have hR3 := hR2.below hb3 hR2.lt
  have hZ3 := hZ2.below hb3 hZ2.lt
  have k3 := k2.trans (Kept.of_below hb3)
  have kr := kept_row w3 w.heap.size [.int .i64 x.author, .int .i64 x.round, .slice x.ra x.refs.length x.rc, .slice x.pa x.parents.length x.pc].toArray
  have hZF := hZ3.row [.int .i64 x.author, .int .i64 x.round, .slice x.ra x.refs.length x.rc, .slice x.pa x.parents.length x.pc]
  have hRF := hR3.kept kr (by show ¬ rb = w.heap.size; omega)
  have kF := k3.transNew kr (fun j hj => by rw [hj]; exact Nat.le_refl _)
  have hxF := Kind.keptX hdrK hx kr (fun b hb e => by have := hfx b hb; omega)
  have h1 : (List.toArray (α := Value) [.int .i64 x.author, .int .i64 x.round, .slice x.ra x.refs.length x.rc, .slice x.pa x.parents.length x.pc]).all (·.oneCell') = true := Array.all_eq_true_iff_forall_mem.2 (fun v hv => hdrK.one x v (List.mem_toArray.1 hv))
  have hfin : ∀ e, e = .returned (.tuple #[HdrM.v x, .int .i64 (er : Int)]) → GotW hdrK HdrM.v HdrM.d rb cs r1 w out e _ := fun e h => ⟨x, er, h, hxF, hres, fun b hb => by have := hfx b hb; omega, hRF, kF⟩
  clear hRF kF k3 kr hR3 hR2 hZ2 k2 hxF hx hres hfx cD hb3
  unfold HdrM.v
  go_wp2_with (refine wpList_store_row (by rfl) 30 _ _ (by rfl) w.heap.size [.int .i64 x.author, .int .i64 x.round, .slice x.ra x.refs.length x.rc, .slice x.pa x.parents.length x.pc].toArray (by rfl) (by rfl) 30 _ hZ3 infoHdr6 (by rfl) h1 ?_)
  refine bodyPost_ret (v := .tuple #[HdrM.v x, .int .i64 (er : Int)]) (results_row_tmp rfl _ _ w.heap.size [.int .i64 x.author, .int .i64 x.round, .slice x.ra x.refs.length x.rc, .slice x.pa x.parents.length x.pc] rfl (run_loadVar_row _ w.heap.size 30 30 _ (0, 0) _ hZF Tryz.underlying30 rfl infoHdr6) _ rfl) rfl ?_
  exact hfin _ rfl

theorem cert0_none9 (w : World) : certK.At w cert0 ∧ ∀ b, ¬ certK.foot cert0 b := ⟨(msg0_at 0 w).cert, fun b h => h.elim (fun h => h.elim nil_foot nil_foot) nil_foot⟩

set_option maxRecDepth 100000 in
set_option maxHeartbeats 2000000 in
theorem within_c (rb : Nat) (rest : ByteArray) (cs : List Value) (w : World) (hR : Arr w rb 58 (.string rest :: cs)) (hs : rest.size ≤ maxLen) (t : List UInt8) (n er0 : Nat) (hr : getText rest.data.toList = (t, n, er0)) :
    Calls Tryz.prog 58 #[.pointer (some ⟨rb, 0, none⟩), .func (.func 59) #[] #[]] w fun e w' => GotW certK CertM.v CertM.d rb cs (rest.extract n rest.size) w (if er0 ≠ 0 then .error er0 else decC t) e w' := by
  have hZ := Arr.new w 33 [.int .i64 0, .int .i64 0, .slice none 0 0, .slice none 0 0, .slice none 0 0]
  have hbn := belowNew w (.cells [.int .i64 0, .int .i64 0, .slice none 0 0, .slice none 0 0, .slice none 0 0].toArray 33)
  have hR1 := hR.below hbn hR.lt
  have hrl := hR.lt
  have k1 : Kept (fun k => k = rb) w (w.alloc (.cells [.int .i64 0, .int .i64 0, .slice none 0 0, .slice none 0 0, .slice none 0 0].toArray 33)) := Kept.of_below hbn
  have cT := rtext_any rb rest cs _ hR1 hs t n er0 hr
  have hR2 := hR1.set 0 (.string (rest.extract n rest.size))
  have hZ2 := hZ.other (p := ⟨rb, 0, none⟩) (by show w.heap.size ≠ rb; omega) (.string (rest.extract n rest.size))
  have k2 := k1.set (p := ⟨rb, 0, none⟩) rfl (.string (rest.extract n rest.size))
  replace hR2 : Arr _ rb 58 (.string (rest.extract n rest.size) :: cs) := hR2
  have hs2 : w.heap.size < ((w.alloc (.cells [.int .i64 0, .int .i64 0, .slice none 0 0, .slice none 0 0, .slice none 0 0].toArray 33)).setCell ⟨rb, 0, none⟩ (.string (rest.extract n rest.size))).heap.size := hZ2.lt
  obtain ⟨w1, hw1⟩ : ∃ q', w.alloc (.cells [.int .i64 0, .int .i64 0, .slice none 0 0, .slice none 0 0, .slice none 0 0].toArray 33) = q' := ⟨_, rfl⟩
  rw [hw1] at cT hR2 hZ2 k2 hs2
  have htl : er0 = 0 → (⟨t.toArray⟩ : ByteArray).size ≤ maxLen := fun h => by subst h; have := getText_bounds _ t n hr; rw [size_mk]; unfold maxLen; omega
  have Htl : Hid _ := htl
  clear hZ hbn hR1 k1 hR htl hr
  obtain ⟨r1, hr1⟩ : ∃ o, o = rest.extract n rest.size := ⟨_, rfl⟩
  rw [← hr1] at cT hR2 hZ2 k2 hs2 ⊢
  obtain ⟨w2, hw2⟩ : ∃ q', w1.setCell ⟨rb, 0, none⟩ (.string r1) = q' := ⟨_, rfl⟩
  rw [hw2] at cT hR2 hZ2 k2 hs2
  clear hr1 hw2
  by_cases he : er0 ≠ 0
  · rw [if_pos he]
    have hne : ((er0 : Int) != 0) = true := by rw [bne_iff_ne]; omega
    generalize (⟨t.toArray⟩ : ByteArray) = tt at cT
    clear Htl
    go_enter Tryz.func58, Tryz.ntmps58
    go_wp2_with fail
    refine cT.mono ?_
    rintro e w2' ⟨rfl, hw2'⟩
    rw [← hw2'] at hR2 hZ2 k2 hs2
    clear hw2' cT hw1
    have hN := Arr.new w2' 33 [.int .i64 0, .int .i64 0, .slice none 0 0, .slice none 0 0, .slice none 0 0]
    have hbn := belowNew w2' (.cells [.int .i64 0, .int .i64 0, .slice none 0 0, .slice none 0 0, .slice none 0 0].toArray 33)
    have hR3 := hR2.below hbn hR2.lt
    have hZ3 := hZ2.below hbn hZ2.lt
    have k3 := k2.trans (Kept.of_below hbn)
    have kr := kept_row (w2'.alloc (.cells [.int .i64 0, .int .i64 0, .slice none 0 0, .slice none 0 0, .slice none 0 0].toArray 33)) w.heap.size [.int .i64 0, .int .i64 0, .slice none 0 0, .slice none 0 0, .slice none 0 0].toArray
    have hZF := hZ3.row [.int .i64 0, .int .i64 0, .slice none 0 0, .slice none 0 0, .slice none 0 0]
    have hRF := hR3.kept kr (by show ¬ rb = w.heap.size; omega)
    have kF := k3.transNew kr (fun j hj => by rw [hj]; exact Nat.le_refl _)
    have h1 : (List.toArray (α := Value) [.int .i64 0, .int .i64 0, .slice none 0 0, .slice none 0 0, .slice none 0 0]).all (·.oneCell') = true := Array.all_eq_true_iff_forall_mem.2 (fun v hv => certK.one cert0 v (List.mem_toArray.1 hv))
    have hfin : ∀ e, e = .returned (.tuple #[CertM.v cert0, .int .i64 (er0 : Int)]) → GotW certK CertM.v CertM.d rb cs r1 w (.error er0) e _ := fun e h => ⟨cert0, er0, h, (cert0_none9 _).1, Or.inr ⟨he, rfl⟩, fun b hb => absurd hb ((cert0_none9 w).2 b), hRF, kF⟩
    clear hRF kF k3 kr hR3 hbn hR2 hZ2 k2
    go_wp2_with (first | refine wpList_load_row (by rfl) 33 _ (by rfl) w2'.heap.size (by rfl) 33 _ (0, 0) _ hN Tryz.underlying33 (by rfl) infoCert7 ?_ | refine wpList_store_row (by rfl) 33 _ _ (by rfl) w.heap.size [.int .i64 0, .int .i64 0, .slice none 0 0, .slice none 0 0, .slice none 0 0].toArray (by rfl) (by rfl) 33 _ hZ3 infoCert7 (by rfl) h1 ?_)
    refine bodyPost_ret (v := .tuple #[CertM.v cert0, .int .i64 (er0 : Int)]) (results_row_tmp rfl _ _ w.heap.size [.int .i64 0, .int .i64 0, .slice none 0 0, .slice none 0 0, .slice none 0 0] rfl (run_loadVar_row _ w.heap.size 33 33 _ (0, 0) _ hZF Tryz.underlying33 rfl infoCert7) _ rfl) rfl ?_
    exact hfin _ rfl
  replace he : er0 = 0 := by omega
  subst he
  rw [if_neg (by simp)]
  have cD := cert_got ⟨t.toArray⟩ w2 (Htl.out rfl)
  replace cD : Calls Tryz.prog 59 #[.string ⟨t.toArray⟩] w2 fun e w' => GotX certK CertM.v CertM.d w2 (decC t) e w' := cD
  generalize decC t = out at cD ⊢
  generalize (⟨t.toArray⟩ : ByteArray) = tt at cT cD
  clear Htl
  go_enter Tryz.func58, Tryz.ntmps58
  go_wp2_with fail
  refine cT.mono ?_
  rintro e w2' ⟨rfl, hw2'⟩
  rw [← hw2'] at hR2 hZ2 k2 hs2 cD
  clear hw2' cT hw1
  go_wp2_with fail
  refine cD.mono ?_
  rintro e w3 ⟨x, er, rfl, hx, hres, hfx, hb3⟩
  have hR3 := hR2.below hb3 hR2.lt
  have hZ3 := hZ2.below hb3 hZ2.lt
  have k3 := k2.trans (Kept.of_below hb3)
  have kr := kept_row w3 w.heap.size [.int .i64 x.hdr.author, .int .i64 x.hdr.round, .slice x.hdr.ra x.hdr.refs.length x.hdr.rc, .slice x.hdr.pa x.hdr.parents.length x.hdr.pc, .slice x.va x.votes.length x.vc].toArray
  have hZF := hZ3.row [.int .i64 x.hdr.author, .int .i64 x.hdr.round, .slice x.hdr.ra x.hdr.refs.length x.hdr.rc, .slice x.hdr.pa x.hdr.parents.length x.hdr.pc, .slice x.va x.votes.length x.vc]
  have hRF := hR3.kept kr (by show ¬ rb = w.heap.size; omega)
  have kF := k3.transNew kr (fun j hj => by rw [hj]; exact Nat.le_refl _)
  have hxF := Kind.keptX certK hx kr (fun b hb e => by have := hfx b hb; omega)
  have h1 : (List.toArray (α := Value) [.int .i64 x.hdr.author, .int .i64 x.hdr.round, .slice x.hdr.ra x.hdr.refs.length x.hdr.rc, .slice x.hdr.pa x.hdr.parents.length x.hdr.pc, .slice x.va x.votes.length x.vc]).all (·.oneCell') = true := Array.all_eq_true_iff_forall_mem.2 (fun v hv => certK.one x v (List.mem_toArray.1 hv))
  have hfin : ∀ e, e = .returned (.tuple #[CertM.v x, .int .i64 (er : Int)]) → GotW certK CertM.v CertM.d rb cs r1 w out e _ := fun e h => ⟨x, er, h, hxF, hres, fun b hb => by have := hfx b hb; omega, hRF, kF⟩
  clear hRF kF k3 kr hR3 hR2 hZ2 k2 hxF hx hres hfx cD hb3
  unfold CertM.v
  go_wp2_with (refine wpList_store_row (by rfl) 33 _ _ (by rfl) w.heap.size [.int .i64 x.hdr.author, .int .i64 x.hdr.round, .slice x.hdr.ra x.hdr.refs.length x.hdr.rc, .slice x.hdr.pa x.hdr.parents.length x.hdr.pc, .slice x.va x.votes.length x.vc].toArray (by rfl) (by rfl) 33 _ hZ3 infoCert7 (by rfl) h1 ?_)
  refine bodyPost_ret (v := .tuple #[CertM.v x, .int .i64 (er : Int)]) (results_row_tmp rfl _ _ w.heap.size [.int .i64 x.hdr.author, .int .i64 x.hdr.round, .slice x.hdr.ra x.hdr.refs.length x.hdr.rc, .slice x.hdr.pa x.hdr.parents.length x.hdr.pc, .slice x.va x.votes.length x.vc] rfl (run_loadVar_row _ w.heap.size 33 33 _ (0, 0) _ hZF Tryz.underlying33 rfl infoCert7) _ rfl) rfl ?_
  exact hfin _ rfl

theorem blk0_none9 (w : World) : blkK.At w blk0 ∧ ∀ b, ¬ blkK.foot blk0 b := ⟨(msg0_at 0 w).blk, fun b h => h.elim nil_foot nil_foot⟩

set_option maxRecDepth 100000 in
set_option maxHeartbeats 2000000 in
theorem within_k (rb : Nat) (rest : ByteArray) (cs : List Value) (w : World) (hR : Arr w rb 58 (.string rest :: cs)) (hs : rest.size ≤ maxLen) (t : List UInt8) (n er0 : Nat) (hr : getText rest.data.toList = (t, n, er0)) :
    Calls Tryz.prog 60 #[.pointer (some ⟨rb, 0, none⟩), .func (.func 61) #[] #[]] w fun e w' => GotW blkK BlkM.v BlkM.d rb cs (rest.extract n rest.size) w (if er0 ≠ 0 then .error er0 else decK t) e w' := by
  have hZ := Arr.new w 37 [.int .i64 0, .int .i64 0, .string ⟨#[]⟩, .slice none 0 0, .slice none 0 0]
  have hbn := belowNew w (.cells [.int .i64 0, .int .i64 0, .string ⟨#[]⟩, .slice none 0 0, .slice none 0 0].toArray 37)
  have hR1 := hR.below hbn hR.lt
  have hrl := hR.lt
  have k1 : Kept (fun k => k = rb) w (w.alloc (.cells [.int .i64 0, .int .i64 0, .string ⟨#[]⟩, .slice none 0 0, .slice none 0 0].toArray 37)) := Kept.of_below hbn
  have cT := rtext_any rb rest cs _ hR1 hs t n er0 hr
  have hR2 := hR1.set 0 (.string (rest.extract n rest.size))
  have hZ2 := hZ.other (p := ⟨rb, 0, none⟩) (by show w.heap.size ≠ rb; omega) (.string (rest.extract n rest.size))
  have k2 := k1.set (p := ⟨rb, 0, none⟩) rfl (.string (rest.extract n rest.size))
  replace hR2 : Arr _ rb 58 (.string (rest.extract n rest.size) :: cs) := hR2
  have hs2 : w.heap.size < ((w.alloc (.cells [.int .i64 0, .int .i64 0, .string ⟨#[]⟩, .slice none 0 0, .slice none 0 0].toArray 37)).setCell ⟨rb, 0, none⟩ (.string (rest.extract n rest.size))).heap.size := hZ2.lt
  obtain ⟨w1, hw1⟩ : ∃ q', w.alloc (.cells [.int .i64 0, .int .i64 0, .string ⟨#[]⟩, .slice none 0 0, .slice none 0 0].toArray 37) = q' := ⟨_, rfl⟩
  rw [hw1] at cT hR2 hZ2 k2 hs2
  have htl : er0 = 0 → (⟨t.toArray⟩ : ByteArray).size ≤ maxLen := fun h => by subst h; have := getText_bounds _ t n hr; rw [size_mk]; unfold maxLen; omega
  have Htl : Hid _ := htl
  clear hZ hbn hR1 k1 hR htl hr
  obtain ⟨r1, hr1⟩ : ∃ o, o = rest.extract n rest.size := ⟨_, rfl⟩
  rw [← hr1] at cT hR2 hZ2 k2 hs2 ⊢
  obtain ⟨w2, hw2⟩ : ∃ q', w1.setCell ⟨rb, 0, none⟩ (.string r1) = q' := ⟨_, rfl⟩
  rw [hw2] at cT hR2 hZ2 k2 hs2
  clear hr1 hw2
  by_cases he : er0 ≠ 0
  · rw [if_pos he]
    have hne : ((er0 : Int) != 0) = true := by rw [bne_iff_ne]; omega
    generalize (⟨t.toArray⟩ : ByteArray) = tt at cT
    clear Htl
    go_enter Tryz.func60, Tryz.ntmps60
    go_wp2_with fail
    refine cT.mono ?_
    rintro e w2' ⟨rfl, hw2'⟩
    rw [← hw2'] at hR2 hZ2 k2 hs2
    clear hw2' cT hw1
    have hN := Arr.new w2' 37 [.int .i64 0, .int .i64 0, .string ⟨#[]⟩, .slice none 0 0, .slice none 0 0]
    have hbn := belowNew w2' (.cells [.int .i64 0, .int .i64 0, .string ⟨#[]⟩, .slice none 0 0, .slice none 0 0].toArray 37)
    have hR3 := hR2.below hbn hR2.lt
    have hZ3 := hZ2.below hbn hZ2.lt
    have k3 := k2.trans (Kept.of_below hbn)
    have kr := kept_row (w2'.alloc (.cells [.int .i64 0, .int .i64 0, .string ⟨#[]⟩, .slice none 0 0, .slice none 0 0].toArray 37)) w.heap.size [.int .i64 0, .int .i64 0, .string ⟨#[]⟩, .slice none 0 0, .slice none 0 0].toArray
    have hZF := hZ3.row [.int .i64 0, .int .i64 0, .string ⟨#[]⟩, .slice none 0 0, .slice none 0 0]
    have hRF := hR3.kept kr (by show ¬ rb = w.heap.size; omega)
    have kF := k3.transNew kr (fun j hj => by rw [hj]; exact Nat.le_refl _)
    have h1 : (List.toArray (α := Value) [.int .i64 0, .int .i64 0, .string ⟨#[]⟩, .slice none 0 0, .slice none 0 0]).all (·.oneCell') = true := Array.all_eq_true_iff_forall_mem.2 (fun v hv => blkK.one blk0 v (List.mem_toArray.1 hv))
    have hfin : ∀ e, e = .returned (.tuple #[BlkM.v blk0, .int .i64 (er0 : Int)]) → GotW blkK BlkM.v BlkM.d rb cs r1 w (.error er0) e _ := fun e h => ⟨blk0, er0, h, (blk0_none9 _).1, Or.inr ⟨he, rfl⟩, fun b hb => absurd hb ((blk0_none9 w).2 b), hRF, kF⟩
    clear hRF kF k3 kr hR3 hbn hR2 hZ2 k2
    go_wp2_with (first | refine wpList_load_row (by rfl) 37 _ (by rfl) w2'.heap.size (by rfl) 37 _ (0, 0) _ hN Tryz.underlying37 (by rfl) infoBlk8 ?_ | refine wpList_store_row (by rfl) 37 _ _ (by rfl) w.heap.size [.int .i64 0, .int .i64 0, .string ⟨#[]⟩, .slice none 0 0, .slice none 0 0].toArray (by rfl) (by rfl) 37 _ hZ3 infoBlk8 (by rfl) h1 ?_)
    refine bodyPost_ret (v := .tuple #[BlkM.v blk0, .int .i64 (er0 : Int)]) (results_row_tmp rfl _ _ w.heap.size [.int .i64 0, .int .i64 0, .string ⟨#[]⟩, .slice none 0 0, .slice none 0 0] rfl (run_loadVar_row _ w.heap.size 37 37 _ (0, 0) _ hZF Tryz.underlying37 rfl infoBlk8) _ rfl) rfl ?_
    exact hfin _ rfl
  replace he : er0 = 0 := by omega
  subst he
  rw [if_neg (by simp)]
  have cD := blk_got ⟨t.toArray⟩ w2 (Htl.out rfl)
  replace cD : Calls Tryz.prog 61 #[.string ⟨t.toArray⟩] w2 fun e w' => GotX blkK BlkM.v BlkM.d w2 (decK t) e w' := cD
  generalize decK t = out at cD ⊢
  generalize (⟨t.toArray⟩ : ByteArray) = tt at cT cD
  clear Htl
  go_enter Tryz.func60, Tryz.ntmps60
  go_wp2_with fail
  refine cT.mono ?_
  rintro e w2' ⟨rfl, hw2'⟩
  rw [← hw2'] at hR2 hZ2 k2 hs2 cD
  clear hw2' cT hw1
  go_wp2_with fail
  refine cD.mono ?_
  rintro e w3 ⟨x, er, rfl, hx, hres, hfx, hb3⟩
  have hR3 := hR2.below hb3 hR2.lt
  have hZ3 := hZ2.below hb3 hZ2.lt
  have k3 := k2.trans (Kept.of_below hb3)
  have kr := kept_row w3 w.heap.size [.int .i64 x.view, .int .i64 x.qc.view, .string x.qc.block, .slice x.qc.va x.qc.votes.length x.qc.vc, .slice x.ca x.certs.length x.cc].toArray
  have hZF := hZ3.row [.int .i64 x.view, .int .i64 x.qc.view, .string x.qc.block, .slice x.qc.va x.qc.votes.length x.qc.vc, .slice x.ca x.certs.length x.cc]
  have hRF := hR3.kept kr (by show ¬ rb = w.heap.size; omega)
  have kF := k3.transNew kr (fun j hj => by rw [hj]; exact Nat.le_refl _)
  have hxF := Kind.keptX blkK hx kr (fun b hb e => by have := hfx b hb; omega)
  have h1 : (List.toArray (α := Value) [.int .i64 x.view, .int .i64 x.qc.view, .string x.qc.block, .slice x.qc.va x.qc.votes.length x.qc.vc, .slice x.ca x.certs.length x.cc]).all (·.oneCell') = true := Array.all_eq_true_iff_forall_mem.2 (fun v hv => blkK.one x v (List.mem_toArray.1 hv))
  have hfin : ∀ e, e = .returned (.tuple #[BlkM.v x, .int .i64 (er : Int)]) → GotW blkK BlkM.v BlkM.d rb cs r1 w out e _ := fun e h => ⟨x, er, h, hxF, hres, fun b hb => by have := hfx b hb; omega, hRF, kF⟩
  clear hRF kF k3 kr hR3 hR2 hZ2 k2 hxF hx hres hfx cD hb3
  unfold BlkM.v
  go_wp2_with (refine wpList_store_row (by rfl) 37 _ _ (by rfl) w.heap.size [.int .i64 x.view, .int .i64 x.qc.view, .string x.qc.block, .slice x.qc.va x.qc.votes.length x.qc.vc, .slice x.ca x.certs.length x.cc].toArray (by rfl) (by rfl) 37 _ hZ3 infoBlk8 (by rfl) h1 ?_)
  refine bodyPost_ret (v := .tuple #[BlkM.v x, .int .i64 (er : Int)]) (results_row_tmp rfl _ _ w.heap.size [.int .i64 x.view, .int .i64 x.qc.view, .string x.qc.block, .slice x.qc.va x.qc.votes.length x.qc.vc, .slice x.ca x.certs.length x.cc] rfl (run_loadVar_row _ w.heap.size 37 37 _ (0, 0) _ hZF Tryz.underlying37 rfl infoBlk8) _ rfl) rfl ?_
  exact hfin _ rfl

theorem qc0_none9 (w : World) : qcK.At w qc0 ∧ ∀ b, ¬ qcK.foot qc0 b := ⟨(msg0_at 0 w).qc, fun b h => nil_foot h⟩

set_option maxRecDepth 100000 in
set_option maxHeartbeats 2000000 in
theorem within_q (rb : Nat) (rest : ByteArray) (cs : List Value) (w : World) (hR : Arr w rb 58 (.string rest :: cs)) (hs : rest.size ≤ maxLen) (t : List UInt8) (n er0 : Nat) (hr : getText rest.data.toList = (t, n, er0)) :
    Calls Tryz.prog 62 #[.pointer (some ⟨rb, 0, none⟩), .func (.func 63) #[] #[]] w fun e w' => GotW qcK QcM.v QcM.d rb cs (rest.extract n rest.size) w (if er0 ≠ 0 then .error er0 else decQ t) e w' := by
  have hZ := Arr.new w 35 [.int .i64 0, .string ⟨#[]⟩, .slice none 0 0]
  have hbn := belowNew w (.cells [.int .i64 0, .string ⟨#[]⟩, .slice none 0 0].toArray 35)
  have hR1 := hR.below hbn hR.lt
  have hrl := hR.lt
  have k1 : Kept (fun k => k = rb) w (w.alloc (.cells [.int .i64 0, .string ⟨#[]⟩, .slice none 0 0].toArray 35)) := Kept.of_below hbn
  have cT := rtext_any rb rest cs _ hR1 hs t n er0 hr
  have hR2 := hR1.set 0 (.string (rest.extract n rest.size))
  have hZ2 := hZ.other (p := ⟨rb, 0, none⟩) (by show w.heap.size ≠ rb; omega) (.string (rest.extract n rest.size))
  have k2 := k1.set (p := ⟨rb, 0, none⟩) rfl (.string (rest.extract n rest.size))
  replace hR2 : Arr _ rb 58 (.string (rest.extract n rest.size) :: cs) := hR2
  have hs2 : w.heap.size < ((w.alloc (.cells [.int .i64 0, .string ⟨#[]⟩, .slice none 0 0].toArray 35)).setCell ⟨rb, 0, none⟩ (.string (rest.extract n rest.size))).heap.size := hZ2.lt
  obtain ⟨w1, hw1⟩ : ∃ q', w.alloc (.cells [.int .i64 0, .string ⟨#[]⟩, .slice none 0 0].toArray 35) = q' := ⟨_, rfl⟩
  rw [hw1] at cT hR2 hZ2 k2 hs2
  have htl : er0 = 0 → (⟨t.toArray⟩ : ByteArray).size ≤ maxLen := fun h => by subst h; have := getText_bounds _ t n hr; rw [size_mk]; unfold maxLen; omega
  have Htl : Hid _ := htl
  clear hZ hbn hR1 k1 hR htl hr
  obtain ⟨r1, hr1⟩ : ∃ o, o = rest.extract n rest.size := ⟨_, rfl⟩
  rw [← hr1] at cT hR2 hZ2 k2 hs2 ⊢
  obtain ⟨w2, hw2⟩ : ∃ q', w1.setCell ⟨rb, 0, none⟩ (.string r1) = q' := ⟨_, rfl⟩
  rw [hw2] at cT hR2 hZ2 k2 hs2
  clear hr1 hw2
  by_cases he : er0 ≠ 0
  · rw [if_pos he]
    have hne : ((er0 : Int) != 0) = true := by rw [bne_iff_ne]; omega
    generalize (⟨t.toArray⟩ : ByteArray) = tt at cT
    clear Htl
    go_enter Tryz.func62, Tryz.ntmps62
    go_wp2_with fail
    refine cT.mono ?_
    rintro e w2' ⟨rfl, hw2'⟩
    rw [← hw2'] at hR2 hZ2 k2 hs2
    clear hw2' cT hw1
    have hN := Arr.new w2' 35 [.int .i64 0, .string ⟨#[]⟩, .slice none 0 0]
    have hbn := belowNew w2' (.cells [.int .i64 0, .string ⟨#[]⟩, .slice none 0 0].toArray 35)
    have hR3 := hR2.below hbn hR2.lt
    have hZ3 := hZ2.below hbn hZ2.lt
    have k3 := k2.trans (Kept.of_below hbn)
    have kr := kept_row (w2'.alloc (.cells [.int .i64 0, .string ⟨#[]⟩, .slice none 0 0].toArray 35)) w.heap.size [.int .i64 0, .string ⟨#[]⟩, .slice none 0 0].toArray
    have hZF := hZ3.row [.int .i64 0, .string ⟨#[]⟩, .slice none 0 0]
    have hRF := hR3.kept kr (by show ¬ rb = w.heap.size; omega)
    have kF := k3.transNew kr (fun j hj => by rw [hj]; exact Nat.le_refl _)
    have h1 : (List.toArray (α := Value) [.int .i64 0, .string ⟨#[]⟩, .slice none 0 0]).all (·.oneCell') = true := Array.all_eq_true_iff_forall_mem.2 (fun v hv => qcK.one qc0 v (List.mem_toArray.1 hv))
    have hfin : ∀ e, e = .returned (.tuple #[QcM.v qc0, .int .i64 (er0 : Int)]) → GotW qcK QcM.v QcM.d rb cs r1 w (.error er0) e _ := fun e h => ⟨qc0, er0, h, (qc0_none9 _).1, Or.inr ⟨he, rfl⟩, fun b hb => absurd hb ((qc0_none9 w).2 b), hRF, kF⟩
    clear hRF kF k3 kr hR3 hbn hR2 hZ2 k2
    go_wp2_with (first | refine wpList_load_row (by rfl) 35 _ (by rfl) w2'.heap.size (by rfl) 35 _ (0, 0) _ hN Tryz.underlying35 (by rfl) infoQc8 ?_ | refine wpList_store_row (by rfl) 35 _ _ (by rfl) w.heap.size [.int .i64 0, .string ⟨#[]⟩, .slice none 0 0].toArray (by rfl) (by rfl) 35 _ hZ3 infoQc8 (by rfl) h1 ?_)
    refine bodyPost_ret (v := .tuple #[QcM.v qc0, .int .i64 (er0 : Int)]) (results_row_tmp rfl _ _ w.heap.size [.int .i64 0, .string ⟨#[]⟩, .slice none 0 0] rfl (run_loadVar_row _ w.heap.size 35 35 _ (0, 0) _ hZF Tryz.underlying35 rfl infoQc8) _ rfl) rfl ?_
    exact hfin _ rfl
  replace he : er0 = 0 := by omega
  subst he
  rw [if_neg (by simp)]
  have cD := qc_got ⟨t.toArray⟩ w2 (Htl.out rfl)
  replace cD : Calls Tryz.prog 63 #[.string ⟨t.toArray⟩] w2 fun e w' => GotX qcK QcM.v QcM.d w2 (decQ t) e w' := cD
  generalize decQ t = out at cD ⊢
  generalize (⟨t.toArray⟩ : ByteArray) = tt at cT cD
  clear Htl
  go_enter Tryz.func62, Tryz.ntmps62
  go_wp2_with fail
  refine cT.mono ?_
  rintro e w2' ⟨rfl, hw2'⟩
  rw [← hw2'] at hR2 hZ2 k2 hs2 cD
  clear hw2' cT hw1
  go_wp2_with fail
  refine cD.mono ?_
  rintro e w3 ⟨x, er, rfl, hx, hres, hfx, hb3⟩
  have hR3 := hR2.below hb3 hR2.lt
  have hZ3 := hZ2.below hb3 hZ2.lt
  have k3 := k2.trans (Kept.of_below hb3)
  have kr := kept_row w3 w.heap.size [.int .i64 x.view, .string x.block, .slice x.va x.votes.length x.vc].toArray
  have hZF := hZ3.row [.int .i64 x.view, .string x.block, .slice x.va x.votes.length x.vc]
  have hRF := hR3.kept kr (by show ¬ rb = w.heap.size; omega)
  have kF := k3.transNew kr (fun j hj => by rw [hj]; exact Nat.le_refl _)
  have hxF := Kind.keptX qcK hx kr (fun b hb e => by have := hfx b hb; omega)
  have h1 : (List.toArray (α := Value) [.int .i64 x.view, .string x.block, .slice x.va x.votes.length x.vc]).all (·.oneCell') = true := Array.all_eq_true_iff_forall_mem.2 (fun v hv => qcK.one x v (List.mem_toArray.1 hv))
  have hfin : ∀ e, e = .returned (.tuple #[QcM.v x, .int .i64 (er : Int)]) → GotW qcK QcM.v QcM.d rb cs r1 w out e _ := fun e h => ⟨x, er, h, hxF, hres, fun b hb => by have := hfx b hb; omega, hRF, kF⟩
  clear hRF kF k3 kr hR3 hR2 hZ2 k2 hxF hx hres hfx cD hb3
  unfold QcM.v
  go_wp2_with (refine wpList_store_row (by rfl) 35 _ _ (by rfl) w.heap.size [.int .i64 x.view, .string x.block, .slice x.va x.votes.length x.vc].toArray (by rfl) (by rfl) 35 _ hZ3 infoQc8 (by rfl) h1 ?_)
  refine bodyPost_ret (v := .tuple #[QcM.v x, .int .i64 (er : Int)]) (results_row_tmp rfl _ _ w.heap.size [.int .i64 x.view, .string x.block, .slice x.va x.votes.length x.vc] rfl (run_loadVar_row _ w.heap.size 35 35 _ (0, 0) _ hZF Tryz.underlying35 rfl infoQc8) _ rfl) rfl ?_
  exact hfin _ rfl
end Go.Proofs.YtmngiekobmhpaaaGreat
