/-
  chars.goesOn, findReference: their walks.
-/
import Derived.Test.YtkcgmimldjeaiaaDoorFindName
namespace Go.Proofs.YtkcgmimldjeaiaaDoor
open Go.RowKit Go.Lib

def goesZ (z : Int) : Bool := decide (z = 61 ∨ 48 ≤ z ∧ z ≤ 57 ∨ 65 ≤ z ∧ z ≤ 90 ∨ 97 ≤ z ∧ z ≤ 122)
theorem goesZ_B (c : UInt8) : goesZ (c.toNat : Int) = goesB c := by
  unfold goesZ goesB
  apply decide_eq_decide.2
  omega
theorem name_le (L : List UInt8) : (nameL L).1 ≤ L.length := (names_eq L eitherT closedT eitherT_ok closedT_ok).2.2
theorem prefix_one (L : List UInt8) (c : UInt8) : Lib.hasPrefix L [c] = (L[0]? == some c) := by
  unfold Lib.hasPrefix
  cases L with
  | nil => rfl
  | cons a l =>
    simp only [List.isPrefixOf, Bool.and_true, List.getElem?_cons_zero, Option.some_beq_some]
    exact BEq.comm

end Go.Proofs.YtkcgmimldjeaiaaDoor
