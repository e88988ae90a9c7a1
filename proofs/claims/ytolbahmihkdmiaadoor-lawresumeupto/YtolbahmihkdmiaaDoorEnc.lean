/-
  scrubref's encode, isCharacter, isGood: their walks.
-/
import Derived.Test.YtolbahmihkdmiaaDoorGood
import Derived.Test.YtolbahmihkdmiaaDoorText
import Derived.LoopN
namespace Go.Proofs.YtolbahmihkdmiaaDoor
open Go.RowKit Go.Lib

def charB (z : Int) : Bool := decide ((0 ≤ z ∧ z < 55296) ∨ (57344 ≤ z ∧ z < 1114112))

theorem ret_int {a b : Int} (h : a = b) : Ending.returned (.int .i64 a) = .returned (.int .i64 b) := by rw [h]
end Go.Proofs.YtolbahmihkdmiaaDoor
