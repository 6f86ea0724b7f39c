/- Transactions as a kind of record, and as layer 20's texts have them. -/
import Derived.Test.YtcjmeaikdfgapaaDoorTxRows
import Derived.Test.YtcjmeaikdfgapaaDoorStrKind
namespace Go.Proofs.YtcjmeaikdfgapaaDoor
open Go.RowKit
set_option linter.unusedVariables false

/-- Transactions. -/
def txK : Kind TxM where
  n := 9
  c := TxM.c
  foot x b := rowFoot strK x.ra x.d.rs b ∨ rowFoot strK x.wa x.d.ws b
  At w x := x.At w
  pos := by decide
  len _ := rfl
  one x u hu := by
    simp only [TxM.c, txC, List.mem_cons, List.not_mem_nil, or_false] at hu
    rcases hu with rfl | rfl | rfl | rfl | rfl | rfl | rfl | rfl | rfl <;> rfl
  lt h hf := hf.elim h.at_.rd.row.lt h.at_.wr.row.lt
  keep h hk := ⟨⟨(h.at_.rd.row.keep (fun b hb => hk b (Or.inl hb))).strs, (h.at_.wr.row.keep (fun b hb => hk b (Or.inr hb))).strs⟩, h.nr, h.nw⟩

theorem RowAt.txs {w : World} {ao : Option Addr} {l : List TxM} (h : RowAt txK w ao l) : TxsAt w ao l :=
  fun i x hx => ⟨h.cell i x hx, h.at_ x (List.mem_of_getElem? hx)⟩

theorem TxsAt.rows {w : World} {ao : Option Addr} {l : List TxM} (h : TxsAt w ao l) : RowAt txK w ao l :=
  ⟨fun i x hx => (h i x hx).1, fun x hx => by
    obtain ⟨i, hi⟩ := List.getElem?_of_mem hx
    exact (h i x hi).2⟩
end Go.Proofs.YtcjmeaikdfgapaaDoor
