/- What the calls of a bag do: Take, Twice. -/
import Derived.Test.YtmbfidegcebbdaaNetClose
import Derived.Test.YtmbfidegcebbdaaRegionLast
import Derived.BigQuiet
import Derived.BigRegion
import Derived.Deep.QuietTactic
import Derived.Deep.RegionHeld3
import Derived.Laws.ResultCell
namespace Go.Proofs.Ytmbfidegcebbdaa
open Go.RowKit
set_option linter.unusedVariables false

set_option maxRecDepth 100000 in
set_option maxHeartbeats 2000000 in
theorem take_any (i : Int) (bb : Nat) (q : Value) (l : List EnvD) (lost : Nat) (w : World) (h : BagAt 46 w bb q l lost) :
    Calls Try.prog 9 #[.pointer (some ⟨bb, 0, none⟩), .int .i64 i] w fun e w' => ∃ q', e = .returned (.tuple #[(atE l i).v, .bool (atB l i)]) ∧ BagAt 46 w' bb q' (takeL l i) lost ∧ Fresh w q q' ∧ Kept (BagS bb q) w w' := by
  have hb1 := belowNew w (.cells #[.int .i64 0, .int .i64 0, .string ⟨#[]⟩] 30)
  have hA1 : Arr (w.alloc (.cells #[.int .i64 0, .int .i64 0, .string ⟨#[]⟩] 30)) w.heap.size 30 (envK.c env0) := Arr.new w 30 [.int .i64 0, .int .i64 0, .string ⟨#[]⟩]
  have h1 := h.below hb1
  have hs1 : (w.alloc (.cells #[.int .i64 0, .int .i64 0, .string ⟨#[]⟩] 30)).heap.size = w.heap.size + 1 := alloc_size _ _
  obtain ⟨w1, hw1⟩ : ∃ q, w.alloc (.cells #[.int .i64 0, .int .i64 0, .string ⟨#[]⟩] 30) = q := ⟨_, rfl⟩
  rw [hw1] at hb1 hA1 h1 hs1
  have cA := at_any i bb q l lost w1 h1
  obtain ⟨x, hx⟩ : ∃ x, Hid (atE l i = x) := ⟨_, rfl⟩
  obtain ⟨p, hp⟩ : ∃ p, Hid (atB l i = p) := ⟨_, rfl⟩
  rw [hx.out, hp.out] at cA ⊢
  unfold EnvD.v at cA
  have hs1' : Hid (w1.heap.size = w.heap.size + 1) := hs1
  clear hs1
  go_enter Try.func9, Try.ntmps9
  go_wp2_with fail
  refine cA.mono ?_
  rintro e w2 ⟨rfl, hb2⟩
  clear cA hw1
  have hA2 := hA1.below hb2 hA1.lt
  have h2 := h1.below hb2
  have hB2 := hb1.trans (hb2.mono hb1.size)
  have hsz : w.heap.size < w2.heap.size := by have := hb2.size; have := hs1'.out; omega
  clear hb1 hA1 h1 hb2 hs1'
  have hbF := belowNew w2 (.cells #[.int .i64 x.fr, .int .i64 x.to, .string x.by_] 30)
  have hYF : Arr (w2.alloc (.cells #[.int .i64 x.fr, .int .i64 x.to, .string x.by_] 30)) w2.heap.size 30 (envK.c x) := Arr.new w2 30 [.int .i64 x.fr, .int .i64 x.to, .string x.by_]
  have hAF := hA2.below hbF hA2.lt
  have hF := h2.below hbF
  have hBF := hB2.trans (hbF.mono hB2.size)
  have hne : ¬ w2.heap.size = w.heap.size := by omega
  have hbb : bb < w.heap.size := h.box.lt
  cases p with
  | false =>
    have c0 := hA2.cell (i := 0) rfl
    have c1 := hA2.cell (i := 1) rfl
    have c2 := hA2.cell (i := 2) rfl
    have f0 := hA2.frozen 0
    have f1 := hA2.frozen 1
    have f2 := hA2.frozen 2
    have hAG := (hA2.env x).alloc (.cells #[.int .i64 x.fr, .int .i64 x.to, .string x.by_] 30)
    have hKE := kept_env w2 w.heap.size x
    have hB4 := below_env hB2 (Nat.le_refl _) x
    have hBG := hB4.trans ((belowNew _ (.cells #[.int .i64 x.fr, .int .i64 x.to, .string x.by_] 30)).mono hB4.size)
    have hG := (h2.kept hKE (fun e => by have e' : bb = w.heap.size := e; omega) (fun k hk e => by have := (h.ge hk).2; have e' : k = w.heap.size := e; omega)).below (belowNew _ (.cells #[.int .i64 x.fr, .int .i64 x.to, .string x.by_] 30))
    clear hKE hB4
    clear hbF hA2 h2 hB2 hAF hF hBF hYF
    go_wp2
    refine bodyPost_ret (v := .tuple #[x.v, .bool false]) (results_env rfl _ _ w.heap.size x rfl hAG _ rfl) rfl ?_
    refine ⟨q, rfl, ?_, Fresh.refl _ _, Kept.of_below hBG⟩
    unfold takeL
    rw [hp.out]
    exact hG
  | true =>
    obtain ⟨j, rfl, hj, hxj⟩ := at_in hp.out
    have hT : Hid (takeL l (j : Int) = l.eraseIdx j) := by
      show takeL l (j : Int) = l.eraseIdx j
      unfold takeL
      rw [hp.out]
      rfl
    have hBBF := hbF
    go_wp2_with fail
    generalize World.alloc _ _ = w3 at hAF hF hBF hYF hBBF ⊢
    refine (close_any j bb q l lost w3 hF hj).mono ?_
    rintro e wC ⟨qC, rfl, hC, hFC0, hKC0⟩
    have hBS : ∀ k, w.heap.size ≤ k → ¬ BagS bb q k := by
      rintro k hk (e | e)
      · omega
      · have := (h.ge e).2; omega
    have hAC := hAF.kept hKC0 (hBS _ (Nat.le_refl _))
    have hYC := hYF.kept hKC0 (hBS _ (by omega))
    have hKC := (Kept.of_below hBF).trans hKC0
    have hFC : Fresh w q qC := fun k hk => (hFC0 k hk).imp id (fun e => by have := hBF.size; omega)
    have hCn : ∀ k, qC.ownBlock = some k → ¬ k = w.heap.size := fun k hk e => by
      rcases hFC0 k hk with e' | e'
      · have := (h.ge e').2; omega
      · have := hBBF.size; omega
    clear hFC0 hKC0 hBBF
    have hAG := hAC.env x
    have hKG := hKC.transNew (kept_env wC w.heap.size x) (fun k e => by have e' : k = w.heap.size := e; omega)
    have hG := hC.kept (kept_env wC w.heap.size x) (fun e => by have e' : bb = w.heap.size := e; omega) (fun k hk e => by have e' : k = w.heap.size := e; exact hCn k hk e')
    have c0 := hAC.cell (i := 0) rfl
    have c1 := hAC.cell (i := 1) rfl
    have c2 := hAC.cell (i := 2) rfl
    have f0 := hAC.frozen 0
    have f1 := hAC.frozen 1
    have f2 := hAC.frozen 2
    have d0 := hYC.cell (i := 0) rfl
    have d1 := hYC.cell (i := 1) rfl
    have d2 := hYC.cell (i := 2) rfl
    clear hC hKC hCn hAC hYC
    go_wp2
    refine bodyPost_ret (v := .tuple #[x.v, .bool true]) (results_env rfl _ _ w.heap.size x rfl hAG _ rfl) rfl ?_
    refine ⟨_, rfl, ?_, hFC, hKG⟩
    rw [hT.out]
    exact hG

end Go.Proofs.Ytmbfidegcebbdaa
