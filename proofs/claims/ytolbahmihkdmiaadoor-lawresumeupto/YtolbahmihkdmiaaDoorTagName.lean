/-
  lexer.tagName: its walk.
-/
import Derived.Test.YtolbahmihkdmiaaDoorLower
namespace Go.Proofs.YtolbahmihkdmiaaDoor
open Go.RowKit Go.Lib Own

def nameC (c : UInt8) : Bool := nextT 3 c == 3
theorem tagName_eq (L : List UInt8) : tagNameL L = (L.takeWhile nameC).map lowC := rfl
set_option maxHeartbeats 1000000 in
theorem tagName_any (s : ByteArray) (w : World) (hs : s.size ≤ 10000000) (hT : TagTabs w) :
    Calls Tryd.prog 66 #[.string s] w fun e w' => e = .returned (.string ⟨(tagNameL s.data.toList).toArray⟩) ∧ Below w.heap.size w w' := by
  obtain ⟨E, hE⟩ : ∃ E, (s.data.toList.takeWhile nameC).length = E := ⟨_, rfl⟩
  have hEs : E ≤ s.size := by
    rw [← hE, size_eq]
    exact (List.takeWhile_prefix (p := nameC) (l := s.data.toList)).length_le
  have hlist : (s.extract 0 E).data.toList = s.data.toList.takeWhile nameC := by
    rw [take_extract, ← hE]
    exact (List.prefix_iff_eq_take.1 (List.takeWhile_prefix nameC)).symm
  have hlow := fun W => lower_any (s.extract 0 E) W (by rw [ByteArray.size_extract]; omega)
  rw [hlist] at hlow
  rw [tagName_eq]
  generalize (s.data.toList.takeWhile nameC).map lowC = N at hlow ⊢
  have HL := hid hlow
  have HE := hid (fun (_ : True) => hE)
  have HT := hid hT
  clear hlow hlist hE hT
  go_enter Tryd.func66, Tryd.ntmps66
  go_wp2
  go_loopw [3] (fun iv wr => ∃ (k m : Nat), iv = .int .i64 k ∧ k ≤ s.size ∧ wr = w.drewN m ∧ Hid (True → k + ((s.data.toList.drop k).takeWhile nameC).length = E)) (fun iv _ => s.size - (RowKit.intOf iv).toNat)
  case atStart => exact ⟨0, 0, rfl, Nat.zero_le _, rfl, hid (fun _ => by rw [Nat.zero_add]; exact HE.out trivial)⟩
  case round =>
    obtain ⟨k, m, rfl, hk, rfl, HA⟩ := hrel
    by_cases hp : k < s.size
    · obtain ⟨x, hx⟩ : ∃ x, s[k]'hp = x := ⟨_, rfl⟩
      have hl := getElem_list hp hx
      have hcall := behind_any 3 x (by omega) (by omega) (w.drewN m) HT.out
      have hnx := next_range 3 (by omega) (by omega) x
      by_cases hn : nameC x = true
      · have h3 : nextT 3 x = 3 := beq_iff_eq.1 hn
        rw [h3] at hcall
        have HC := hid hcall
        have HB : Hid (True → k + 1 + ((s.data.toList.drop (k + 1)).takeWhile nameC).length = E) := by
          have := HA.out trivial
          rw [while_step hl hn, List.length_cons] at this
          exact hid (fun _ => by omega)
        clear hcall hnx h3 hn hl HA
        go_wp2_with (go_at_call 62; refine HC.out.mono ?_; rintro e w' ⟨rfl, nd, rfl⟩)
        go_roundw
        case rel => exact ⟨k + 1, m + nd, rfl, by omega, rfl, HB.out⟩
        case measure => simp [RowKit.intOf]; omega
      · have h3 : ((nextT 3 x : Int) == 3) = false := by
          refine beq_eq_false_iff_ne.2 (fun h => hn ?_)
          exact beq_iff_eq.2 (by omega)
        have hkE : k = E := by
          have := HA.out trivial
          rw [while_stop (fun c hc => by rw [hl] at hc; cases hc; simpa using hn)] at this
          simpa using this
        subst hkE
        generalize nextT 3 x = v at hcall h3 hnx
        have HC := hid hcall
        clear hcall hn hl HA HE
        go_wp2_with (first | (go_at_call 62; refine HC.out.mono ?_; rintro e w' ⟨rfl, nd, rfl⟩) | (go_at_call 81; refine (HL.out _).mono ?_; rintro e w9 ⟨rfl, b9⟩))
        go_ret
        exact ⟨rfl, ⟨b9.os, b9.tape, b9.output, b9.size, b9.block⟩⟩
    · have hkE : k = E := by
        have := HA.out trivial
        rw [List.drop_of_length_le (by rw [← size_eq]; omega)] at this
        simpa using this
      subst hkE
      clear HA HE
      go_wp2_with (go_at_call 81; refine (HL.out _).mono ?_; rintro e w9 ⟨rfl, b9⟩)
      go_ret
      exact ⟨rfl, ⟨b9.os, b9.tape, b9.output, b9.size, b9.block⟩⟩
end Go.Proofs.YtolbahmihkdmiaaDoor
