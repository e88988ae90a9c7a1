/-
  scrubref's encode, isCharacter, isGood: their walks.
-/
import Derived.Test.YtkcgmimldjeaiaaDoorGood
import Derived.Test.YtkcgmimldjeaiaaDoorText
import Derived.LoopN
namespace Go.Proofs.YtkcgmimldjeaiaaDoor
open Go.RowKit Go.Lib

def charB (z : Int) : Bool := decide ((0 ≤ z ∧ z < 55296) ∨ (57344 ≤ z ∧ z < 1114112))

theorem ret_int {a b : Int} (h : a = b) : Ending.returned (.int .i64 a) = .returned (.int .i64 b) := by rw [h]
end Go.Proofs.YtkcgmimldjeaiaaDoor
