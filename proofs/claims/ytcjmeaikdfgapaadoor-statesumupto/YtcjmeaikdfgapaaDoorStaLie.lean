/- How the program's state lies in memory. -/
import Derived.Test.YtcjmeaikdfgapaaDoorStaDig
import Derived.Test.YtcjmeaikdfgapaaDoorMapStrOps
import Derived.Test.YtcjmeaikdfgapaaDoorTxKind
namespace Go.Proofs.YtcjmeaikdfgapaaDoor
open Go Go.RowKit
set_option linter.unusedVariables false

def accV (p : Nat × Nat) : Value := .agg #[.int .u64 (p.1 : Int), .int .u64 (p.2 : Int)]
def accM (f : ByteArray → Nat × Nat) (n : ByteArray) : Option Value := if f n = (0, 0) then none else some (accV (f n))
def valM (g : ByteArray → Option ByteArray) (n : ByteArray) : Option Value := (g n).map (fun x => .agg #[.string x])

set_option maxRecDepth 100000 in
theorem zeroAcc (w : World) : (zeroValue 55).run Tryd.prog w = .ok (.agg #[.int .u64 0, .int .u64 0]) w := by rfl
set_option maxRecDepth 100000 in
theorem zeroVal (w : World) : (zeroValue 79).run Tryd.prog w = .ok (.agg #[.string ⟨#[]⟩]) w := by rfl

theorem accM_get (f : ByteArray → Nat × Nat) (n : ByteArray) : (accM f n).getD (.agg #[.int .u64 0, .int .u64 0]) = .agg #[.int .u64 ((f n).1 : Int), .int .u64 ((f n).2 : Int)] := by
  unfold accM
  by_cases h : f n = (0, 0)
  · rw [if_pos h, h]; rfl
  · rw [if_neg h]; rfl

theorem valM_get (g : ByteArray → Option ByteArray) (n : ByteArray) : (valM g n).getD (.agg #[.string ⟨#[]⟩]) = .agg #[.string ((g n).getD ⟨#[]⟩)] := by
  unfold valM
  cases g n <;> rfl

theorem valM_is (g : ByteArray → Option ByteArray) (n : ByteArray) : (valM g n).isSome = (g n).isSome := by
  unfold valM
  cases g n <;> rfl

theorem accM_put (f : ByteArray → Nat × Nat) (n : ByteArray) (p : Nat × Nat) (hp : p ≠ (0, 0)) : ∀ m, accM (pnF f n p) m = putF (accM f) n (accV p) m := by
  intro m
  unfold accM putF pnF
  by_cases h : m = n
  · rw [if_pos h, if_pos h, if_neg hp]
  · rw [if_neg h, if_neg h]

theorem valM_put (g : ByteArray → Option ByteArray) (n x : ByteArray) : ∀ m, valM (pnF g n (some x)) m = putF (valM g) n (.agg #[.string x]) m := by
  intro m
  unfold valM putF pnF
  by_cases h : m = n
  · rw [if_pos h, if_pos h]; rfl
  · rw [if_neg h, if_neg h]

/-- At p stands a state: accounts in map a, values in map v; at most N of them, and at most N transactions from each. -/
structure PSt (w : World) (p a v : Nat) (s : StF) (N : Nat) : Prop where
  box : Arr w p 53 [.map (some a), .map (some v)]
  acc : ∃ n, n ≤ N ∧ SMap w a (accM s.acc) n
  val : ∃ n, n ≤ N ∧ SMap w v (valM s.val) n
  pa : p ≠ a
  pv : p ≠ v
  av : a ≠ v
  ok : StOk s N

theorem PSt.la {w : World} {p a v N : Nat} {s : StF} (h : PSt w p a v s N) : a < w.heap.size := by
  obtain ⟨n, _, h1⟩ := h.acc; exact h1.lt

theorem PSt.lv {w : World} {p a v N : Nat} {s : StF} (h : PSt w p a v s N) : v < w.heap.size := by
  obtain ⟨n, _, h1⟩ := h.val; exact h1.lt

theorem PSt.kept {S : Nat → Prop} {w w' : World} {p a v N : Nat} {s : StF} (h : PSt w p a v s N) (hk : Kept S w w') (h1 : ¬ S p) (h2 : ¬ S a) (h3 : ¬ S v) : PSt w' p a v s N := by
  obtain ⟨n, hn, ha⟩ := h.acc
  obtain ⟨m, hm, hv⟩ := h.val
  exact ⟨h.box.kept hk h1, ⟨n, hn, ha.kept hk h2⟩, ⟨m, hm, hv.kept hk h3⟩, h.pa, h.pv, h.av, h.ok⟩

theorem PSt.below {w w' : World} {p a v N : Nat} {s : StF} (h : PSt w p a v s N) (hb : Below w.heap.size w w') : PSt w' p a v s N := by
  obtain ⟨n, hn, ha⟩ := h.acc
  obtain ⟨m, hm, hv⟩ := h.val
  exact ⟨h.box.below hb h.box.lt, ⟨n, hn, ha.below hb⟩, ⟨m, hm, hv.below hb⟩, h.pa, h.pv, h.av, h.ok⟩

theorem PSt.mono {w : World} {p a v N M : Nat} {s : StF} (h : PSt w p a v s N) (hm : N ≤ M) : PSt w p a v s M := by
  obtain ⟨n, hn, ha⟩ := h.acc
  obtain ⟨m, hm', hv⟩ := h.val
  exact ⟨h.box, ⟨n, Nat.le_trans hn hm, ha⟩, ⟨m, Nat.le_trans hm' hm, hv⟩, h.pa, h.pv, h.av, h.ok.mono hm⟩

/-- The same, of the blocks S that it has. -/
def PS (w : World) (p : Nat) (S : Nat → Prop) (s : StF) (N : Nat) : Prop := ∃ a v, (∀ b, S b ↔ b = p ∨ b = a ∨ b = v) ∧ PSt w p a v s N

theorem PS.kept {S T : Nat → Prop} {w w' : World} {p N : Nat} {s : StF} (h : PS w p S s N) (hk : Kept T w w') (hd : ∀ b, S b → ¬ T b) : PS w' p S s N := by
  obtain ⟨a, v, hS, h1⟩ := h
  exact ⟨a, v, hS, h1.kept hk (hd p ((hS p).2 (Or.inl rfl))) (hd a ((hS a).2 (Or.inr (Or.inl rfl)))) (hd v ((hS v).2 (Or.inr (Or.inr rfl))))⟩

theorem PS.below {S : Nat → Prop} {w w' : World} {p N : Nat} {s : StF} (h : PS w p S s N) (hb : Below w.heap.size w w') : PS w' p S s N := by
  obtain ⟨a, v, hS, h1⟩ := h
  exact ⟨a, v, hS, h1.below hb⟩

theorem PS.mono {S : Nat → Prop} {w : World} {p N M : Nat} {s : StF} (h : PS w p S s N) (hm : N ≤ M) : PS w p S s M := by
  obtain ⟨a, v, hS, h1⟩ := h
  exact ⟨a, v, hS, h1.mono hm⟩

theorem PS.lt {S : Nat → Prop} {w : World} {p N : Nat} {s : StF} (h : PS w p S s N) {b : Nat} (hb : S b) : b < w.heap.size := by
  obtain ⟨a, v, hS, h1⟩ := h
  rcases (hS b).1 hb with e | e | e
  · rw [e]; exact h1.box.lt
  · rw [e]; exact h1.la
  · rw [e]; exact h1.lv

theorem PS.ok {S : Nat → Prop} {w : World} {p N : Nat} {s : StF} (h : PS w p S s N) : StOk s N := by
  obtain ⟨a, v, hS, h1⟩ := h
  exact h1.ok
end Go.Proofs.YtcjmeaikdfgapaaDoor
