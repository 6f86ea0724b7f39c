/- What tuskref01.List and tuskref01.GetList do. -/
import Derived.Test.YtoodapbmpbaogaaDoorRefSame
import Derived.Test.YtoodapbmpbaogaaDoorRefText
namespace Go.Proofs.YtoodapbmpbaogaaDoor
open Go.RowKit

set_option maxRecDepth 100000 in
set_option maxHeartbeats 1000000 in
theorem refList_any (ao : Option Addr) (cap : Nat) (ss : List ByteArray) (w : World) (hc : StrsAt w ao ss) (hlen : (lst (bl ss)).length ≤ 140737488355328) (hn : ss.length ≤ 4611686018427387903) :
    Calls Tryd.prog 57 #[.slice ao ss.length cap] w fun e w' => e = .returned (.string ⟨(lst (bl ss)).toArray⟩) ∧ Below w.heap.size w w' := by
  have hbl : (bl ss).length = ss.length := by simp [bl]
  have HL : Hid (∀ k, k ≤ ss.length → (goInt ss.length ++ ((bl ss).take k).flatMap txt).length ≤ 140737488355328) := by
    intro k _
    have h1 := take_flat_le (bl ss) k
    have h2 : (lst (bl ss)).length = (goInt ss.length).length + ((bl ss).flatMap txt).length := by rw [lst, List.length_append, hbl]
    rw [List.length_append]
    omega
  have Hbl : Hid ((bl ss).length = ss.length) := hbl
  clear hlen hbl
  go_enter Tryd.func57, Tryd.ntmps57
  go_wp2_with fail
  refine (refInt_any _ _).mono ?_
  rintro e w1 ⟨rfl, hb1⟩
  go_wp2
  go_loopw [3, 4] (fun v i wr => ∃ k : Nat, k ≤ ss.length ∧ i = .int .i64 k ∧ v = .string ⟨(goInt ss.length ++ ((bl ss).take k).flatMap txt).toArray⟩ ∧ Below w.heap.size w wr) (fun _ i _ => ss.length - (intOf i).toNat)
  case atStart => exact ⟨0, Nat.zero_le _, rfl, by simp, hb1⟩
  case round =>
    clear hb1
    obtain ⟨k, hk, rfl, rfl, hb⟩ := hrel
    by_cases hlt : k < ss.length
    · obtain ⟨b, off, rfl, hbl, hcell⟩ := (hc.below hb) k hlt
      have hkb : k < (bl ss).length := by rw [Hbl.out]; exact hlt
      have hek : (bl ss)[k] = ss[k].data.toList := by simp [bl]
      have hlen1 := HL.out (k + 1) hlt
      have hlen0 := HL.out k hk
      rw [take_flat _ _ hkb, hek, ← List.append_assoc, List.length_append] at hlen1
      have htl : ss[k].size ≤ (txt ss[k].data.toList).length := by simp [txt]
      have hE : (⟨(goInt ss.length ++ ((bl ss).take k).flatMap txt).toArray⟩ ++ ⟨(txt ss[k].data.toList).toArray⟩ : ByteArray) = ⟨(goInt ss.length ++ ((bl ss).take (k + 1)).flatMap txt).toArray⟩ := by
        rw [ByteArray.mk_append_mk, take_flat _ _ hkb, hek, ← List.append_assoc]
      clear hek hkb
      have hl1 : (⟨(goInt ss.length ++ ((bl ss).take k).flatMap txt).toArray⟩ : ByteArray).size + (⟨(txt ss[k].data.toList).toArray⟩ : ByteArray).size ≤ 140737488355328 := by
        rw [size_mk, size_mk]; exact hlen1
      have hss : ss[k].size ≤ 140737488351232000 := by omega
      clear hlen1 hlen0 htl
      generalize (⟨(goInt ss.length ++ ((bl ss).take k).flatMap txt).toArray⟩ : ByteArray) = s0 at *
      obtain ⟨s1, hs1⟩ : ∃ s1, s1 = (⟨(goInt ss.length ++ ((bl ss).take (k + 1)).flatMap txt).toArray⟩ : ByteArray) := ⟨_, rfl⟩
      rw [← hs1] at hE
      have Hs1 : Hid (s1 = (⟨(goInt ss.length ++ ((bl ss).take (k + 1)).flatMap txt).toArray⟩ : ByteArray)) := hs1
      clear hs1
      go_wp2_with fail
      refine (refText_any _ _ hss).mono ?_
      rintro e w3 ⟨rfl, hb3⟩
      have b3 : Below w.heap.size w w3 := hb.trans (hb3.mono hb.size)
      clear hb hb3
      generalize (⟨(txt ss[k].data.toList).toArray⟩ : ByteArray) = s2 at *
      go_wp2
      go_roundw
      case rel => exact ⟨k + 1, by omega, by go_num, by rw [Hs1.out], b3⟩
      case measure => simp [intOf]; omega
    · go_wp2
      go_ret
      refine ⟨ret_str ?_, hb⟩
      have e1 : k = (bl ss).length := by rw [Hbl.out]; omega
      rw [e1, List.take_length, lst, Hbl.out]
end Go.Proofs.YtoodapbmpbaogaaDoor
