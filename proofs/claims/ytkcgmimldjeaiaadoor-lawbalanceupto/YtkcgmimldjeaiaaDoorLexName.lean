/-
  The lexer's names: rawName, modeInside, eatsNewline: their walks.
-/
import Derived.Test.YtkcgmimldjeaiaaDoorLexByte
import Derived.Test.YtkcgmimldjeaiaaDoorReferred
namespace Go.Proofs.YtkcgmimldjeaiaaDoor
open Go.RowKit Go.Lib

theorem ins_step {name : List UInt8} {k r : Nat} {x : List UInt8} (hx : rawNames[k]? = some x) (hn : name ≠ x) (h : insF name (k + 1) (rawNames.drop k) = r) : insF name (k + 2) (rawNames.drop (k + 1)) = r := by
  obtain ⟨h1, h2⟩ := List.getElem?_eq_some_iff.1 hx
  rw [List.drop_eq_getElem_cons h1, h2, insF, if_neg hn] at h
  exact h
theorem ins_hit {name : List UInt8} {k r : Nat} {x : List UInt8} (hx : rawNames[k]? = some x) (hn : name = x) (h : insF name (k + 1) (rawNames.drop k) = r) : k + 1 = r := by
  obtain ⟨h1, h2⟩ := List.getElem?_eq_some_iff.1 hx
  rw [List.drop_eq_getElem_cons h1, h2, insF, if_pos hn] at h
  exact h
theorem str_beq (s : ByteArray) (L : List UInt8) : (s.toList == (⟨L.toArray⟩ : ByteArray).toList) = decide (s.data.toList = L) := by
  rw [Lib.toList_data, Lib.toList_data, Bool.eq_iff_iff, beq_iff_eq, decide_eq_true_eq]
theorem eats_any (s : ByteArray) (w : World) :
    Calls Tryd.prog 113 #[.string s] w fun e w' => e = .returned (.bool (eatsL s.data.toList)) ∧ w' = w := by
  have he : eatsL s.data.toList = (decide (s.toList = [112, 114, 101]) || decide (s.toList = [116, 101, 120, 116, 97, 114, 101, 97])) := by
    rw [Lib.toList_data]
    unfold eatsL
    rw [Bool.eq_iff_iff]
    simp
  rw [he]
  clear he
  by_cases h1 : s.toList = [112, 114, 101]
  · have h2 : ¬ s.toList = [116, 101, 120, 116, 97, 114, 101, 97] := by rw [h1]; decide
    rw [decide_eq_true h1, decide_eq_false h2]
    have q1 : (s.toList == [112, 114, 101]) = true := beq_iff_eq.2 h1
    clear h1 h2
    go_enter Tryd.func113, Tryd.ntmps113
    go_wp2
    go_ret
    refine ⟨ret_bool ?_, rfl⟩
    first | rfl | simp [q1]
  · by_cases h2 : s.toList = [116, 101, 120, 116, 97, 114, 101, 97]
    · rw [decide_eq_false h1, decide_eq_true h2]
      have q1 : (s.toList == [112, 114, 101]) = false := beq_eq_false_iff_ne.2 h1
      have q2 : (s.toList == [116, 101, 120, 116, 97, 114, 101, 97]) = true := beq_iff_eq.2 h2
      clear h2
      go_enter Tryd.func113, Tryd.ntmps113
      go_wp2
      go_ret
      refine ⟨ret_bool ?_, rfl⟩
      first | rfl | simp [q1, q2]
    · rw [decide_eq_false h1, decide_eq_false h2]
      have q1 : (s.toList == [112, 114, 101]) = false := beq_eq_false_iff_ne.2 h1
      have q2 : (s.toList == [116, 101, 120, 116, 97, 114, 101, 97]) = false := beq_eq_false_iff_ne.2 h2
      go_enter Tryd.func113, Tryd.ntmps113
      go_wp2
      go_ret
      refine ⟨ret_bool ?_, rfl⟩
      first | rfl | simp [q1, q2]
end Go.Proofs.YtkcgmimldjeaiaaDoor
