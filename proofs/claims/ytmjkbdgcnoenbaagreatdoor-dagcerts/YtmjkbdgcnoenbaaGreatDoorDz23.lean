/- Texts as one: CertIds2, DagPlace, HdrPlain, DagOnceWalk, RefHdrCheck. -/
import Derived.Test.YtmjkbdgcnoenbaaGreatDoorDz22
import Derived.Test.YtmjkbdgcnoenbaaGreatDoorDz13
import Derived.Test.YtmjkbdgcnoenbaaGreatDoorDz05
import Derived.Test.YtmjkbdgcnoenbaaGreatDoorDz02
import Derived.Deep.QuietTactic
import Derived.BigQuiet
import Derived.Test.YtmjkbdgcnoenbaaGreatDoorDz18
import Derived.Test.YtmjkbdgcnoenbaaGreatDoorDz09
import Derived.Test.YtmjkbdgcnoenbaaGreatDoorDz06
import Derived.Test.YtmjkbdgcnoenbaaGreatDoorDz08
import Derived.Lib.QuietBelow
/- The ids of the first round's headers differ: seven validators. -/
namespace Go.Proofs.YtmjkbdgcnoenbaaGreatDoor
open Go Go.RowKit
set_option linter.unusedVariables false

def id0 (n a : Nat) (r : Bool) : ByteArray := idB (hdrP (ksF n) (2 * n + 1) [] a 0 0 r)

set_option maxRecDepth 1000000 in
theorem id0_2_0 : (id0 2 0 false).data.toList.take 1 = [161] := by decide +kernel

set_option maxRecDepth 1000000 in
theorem id0_2_1 : (id0 2 0 true).data.toList.take 1 = [191] := by decide +kernel

set_option maxRecDepth 1000000 in
theorem id0_2_2 : (id0 2 1 false).data.toList.take 1 = [210] := by decide +kernel

set_option maxRecDepth 1000000 in
theorem id0_2_3 : (id0 2 1 true).data.toList.take 1 = [128] := by decide +kernel

set_option maxRecDepth 1000000 in
theorem id0_2_4 : (id0 2 2 false).data.toList.take 1 = [110] := by decide +kernel

set_option maxRecDepth 1000000 in
theorem id0_2_5 : (id0 2 2 true).data.toList.take 1 = [107] := by decide +kernel

set_option maxRecDepth 1000000 in
theorem id0_2_6 : (id0 2 3 false).data.toList.take 1 = [26] := by decide +kernel

set_option maxRecDepth 1000000 in
theorem id0_2_7 : (id0 2 3 true).data.toList.take 1 = [136] := by decide +kernel

set_option maxRecDepth 1000000 in
theorem id0_2_8 : (id0 2 4 false).data.toList.take 1 = [175] := by decide +kernel

set_option maxRecDepth 1000000 in
theorem id0_2_9 : (id0 2 4 true).data.toList.take 1 = [72] := by decide +kernel

set_option maxRecDepth 1000000 in
theorem id0_2_10 : (id0 2 5 false).data.toList.take 1 = [46] := by decide +kernel

set_option maxRecDepth 1000000 in
theorem id0_2_11 : (id0 2 5 true).data.toList.take 1 = [212] := by decide +kernel

set_option maxRecDepth 1000000 in
theorem id0_2_12 : (id0 2 6 false).data.toList.take 1 = [41] := by decide +kernel

set_option maxRecDepth 1000000 in
theorem id0_2_13 : (id0 2 6 true).data.toList.take 1 = [51] := by decide +kernel

theorem ids0_id0 (n : Nat) : ids0 n = (List.range (3 * n + 1)).flatMap (fun a => [id0 n a false, id0 n a true]) := by
  unfold ids0 hdrs0
  rw [List.map_flatMap]
  rfl

theorem ids0_2 : (ids0 2).Nodup := by
  have e : (ids0 2).map (fun x => x.data.toList.take 1) = [[161], [191], [210], [128], [110], [107], [26], [136], [175], [72], [46], [212], [41], [51]] := by
    rw [ids0_id0, show 3 * 2 + 1 = 7 from rfl, show List.range 7 = [0, 1, 2, 3, 4, 5, 6] from rfl]
    simp only [List.flatMap_cons, List.flatMap_nil, List.cons_append, List.nil_append, List.append_nil, List.map_cons, List.map_nil, id0_2_0, id0_2_1, id0_2_2, id0_2_3, id0_2_4, id0_2_5, id0_2_6, id0_2_7, id0_2_8, id0_2_9, id0_2_10, id0_2_11, id0_2_12, id0_2_13]
  have h : ((ids0 2).map (fun x => x.data.toList.take 1)).Nodup := by rw [e]; decide
  exact List.Pairwise.imp (fun {a b} hab e => hab (by rw [e])) (List.pairwise_map.1 h)
end Go.Proofs.YtmjkbdgcnoenbaaGreatDoor

/- The places that DagOnce votes by, as keys of a map. -/
namespace Go.Proofs.YtmjkbdgcnoenbaaGreatDoor
open Go Go.RowKit
set_option linter.unusedVariables false
end Go.Proofs.YtmjkbdgcnoenbaaGreatDoor

/- What tusklaw06.Great, PlainTags and Plain do; nothing in memory is turned. -/
namespace Go.Proofs.YtmjkbdgcnoenbaaGreatDoor
open Go.RowKit
set_option linter.unusedVariables false

/-- A bool is handed back that says whether P. -/
def GotBool (P : Prop) (e : Ending) : Prop := ∃ p : Bool, e = .returned (.bool p) ∧ (p = true ↔ P)
end Go.Proofs.YtmjkbdgcnoenbaaGreatDoor

/- tusklaw14.DagOnce answers true; nothing old in memory is turned. -/
namespace Go.Proofs.YtmjkbdgcnoenbaaGreatDoor
open Go Go.RowKit
set_option linter.unusedVariables false

theorem voteV_len (d : DagD) (x : HdrD) (id : ByteArray) : (voteV d x id).length ≤ d.V.length + 1 := by
  unfold voteV
  split
  · omega
  · rw [List.length_append]; simp

theorem voteD_len (chk : Nat) (d : DagD) (x : HdrD) (id : ByteArray) : (voteD chk d x id).V.length ≤ d.V.length + 1 := by
  unfold voteD
  split
  · exact voteV_len d x id
  · omega

/-- The maker's rows are short. -/
def FewI (ids : List (List ByteArray)) (i : Nat) : Prop := ids.length ≤ i ∧ ∀ l ∈ ids, l.length ≤ i

theorem FewI.mono {ids : List (List ByteArray)} {i j : Nat} (h : FewI ids i) (hij : i ≤ j) : FewI ids j := ⟨Nat.le_trans h.1 hij, fun l hl => Nat.le_trans (h.2 l hl) hij⟩

theorem FewI.ins {ids : List (List ByteArray)} {i : Nat} (h : FewI ids i) (need r : Nat) (id : ByteArray) : FewI (inI need ids r id) (i + 1) := by
  have hP : FewI (inP need ids r) (i + 1) ∧ ∀ l ∈ inP need ids r, l.length ≤ i := by
    unfold inP
    split
    · refine ⟨⟨by rw [List.length_append]; have := h.1; simp; omega, fun l hl => ?_⟩, fun l hl => ?_⟩ <;> rcases List.mem_append.1 hl with hl | hl
      · have := h.2 l hl; omega
      · rw [List.mem_singleton.1 hl]; simp
      · exact h.2 l hl
      · rw [List.mem_singleton.1 hl]; simp
    · exact ⟨h.mono (by omega), h.2⟩
  unfold inI
  split
  · exact hP.1
  · refine ⟨by rw [List.length_set]; exact hP.1.1, fun l hl => ?_⟩
    rcases List.mem_or_eq_of_mem_set hl with hl | rfl
    · exact hP.1.2 l hl
    · rw [insT_length, List.getD_eq_getElem?_getD]
      cases hx : (inP need ids r)[r - 1]? with
      | none => simp
      | some m => have := hP.2 m (List.mem_of_getElem? hx); simp; omega

/-- What was voted for, as a map's values. -/
def votF (G : Int → Int → Option ByteArray) (p : PlaceD) : Option Value := (G p.a p.r).map Value.string
end Go.Proofs.YtmjkbdgcnoenbaaGreatDoor

/- What tuskref06.Rising and tuskref06.Check do; nothing old in memory is turned. -/
namespace Go.Proofs.YtmjkbdgcnoenbaaGreatDoor
open Go.RowKit Go.Sort
set_option linter.unusedVariables false

/-- The one ahead. -/
def lastD (a : ByteArray) : List ByteArray → ByteArray
  | [] => a
  | x :: l => lastD x l

/-- The one ahead of the i-th. -/
def aheadOf (l : List ByteArray) (i : Nat) : ByteArray := if i = 0 then ⟨#[]⟩ else l.getD (i - 1) ⟨#[]⟩

/-- The digests of Refs. -/
def digs (l : List RefM) : List ByteArray := l.map RefM.digest
end Go.Proofs.YtmjkbdgcnoenbaaGreatDoor
