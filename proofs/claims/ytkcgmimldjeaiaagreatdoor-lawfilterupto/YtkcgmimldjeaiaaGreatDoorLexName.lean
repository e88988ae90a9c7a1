/-
  The lexer's names: rawName, modeInside, eatsNewline: their walks.
-/
import Derived.Test.YtkcgmimldjeaiaaGreatDoorLexByte
import Derived.Test.YtkcgmimldjeaiaaGreatDoorReferred
namespace Go.Proofs.YtkcgmimldjeaiaaGreatDoor
open Go.RowKit Go.Lib

theorem ins_step {name : List UInt8} {k r : Nat} {x : List UInt8} (hx : rawNames[k]? = some x) (hn : name ≠ x) (h : insF name (k + 1) (rawNames.drop k) = r) : insF name (k + 2) (rawNames.drop (k + 1)) = r := by
  obtain ⟨h1, h2⟩ := List.getElem?_eq_some_iff.1 hx
  rw [List.drop_eq_getElem_cons h1, h2, insF, if_neg hn] at h
  exact h
theorem ins_hit {name : List UInt8} {k r : Nat} {x : List UInt8} (hx : rawNames[k]? = some x) (hn : name = x) (h : insF name (k + 1) (rawNames.drop k) = r) : k + 1 = r := by
  obtain ⟨h1, h2⟩ := List.getElem?_eq_some_iff.1 hx
  rw [List.drop_eq_getElem_cons h1, h2, insF, if_pos hn] at h
  exact h
theorem str_beq (s : ByteArray) (L : List UInt8) : (s.toList == (⟨L.toArray⟩ : ByteArray).toList) = decide (s.data.toList = L) := by
  rw [Lib.toList_data, Lib.toList_data, Bool.eq_iff_iff, beq_iff_eq, decide_eq_true_eq]
end Go.Proofs.YtkcgmimldjeaiaaGreatDoor
