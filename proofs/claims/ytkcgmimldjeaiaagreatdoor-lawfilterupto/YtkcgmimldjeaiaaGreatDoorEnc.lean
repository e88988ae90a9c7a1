/-
  scrubref's encode, isCharacter, isGood: their walks.
-/
import Derived.Test.YtkcgmimldjeaiaaGreatDoorGood
import Derived.Test.YtkcgmimldjeaiaaGreatDoorText
import Derived.LoopN
namespace Go.Proofs.YtkcgmimldjeaiaaGreatDoor
open Go.RowKit Go.Lib

def charB (z : Int) : Bool := decide ((0 ≤ z ∧ z < 55296) ∨ (57344 ≤ z ∧ z < 1114112))

theorem ret_int {a b : Int} (h : a = b) : Ending.returned (.int .i64 a) = .returned (.int .i64 b) := by rw [h]
end Go.Proofs.YtkcgmimldjeaiaaGreatDoor
