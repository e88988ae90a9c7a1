/-
  Single bytes: scrub/ascii's functions, scrubref's, and what a digit counts: their walks.
-/
import Derived.Test.YtkcgmimldjeaiaaDoorGen
import Derived.Test.YtkcgmimldjeaiaaDoorRefText
import Derived.Test.YtkcgmimldjeaiaaDoorGood
namespace Go.Proofs.YtkcgmimldjeaiaaDoor
open Go.RowKit Go.Lib

theorem ret_u8 {a b : Int} (h : a = b) : Ending.returned (.int .u8 a) = .returned (.int .u8 b) := by rw [h]
def lowZ (z : Int) : Int := if 65 ≤ z ∧ z ≤ 90 then z + 32 else z
def isDigZ (z : Int) : Bool := decide (48 ≤ z ∧ z ≤ 57)
def isLetZ (z : Int) : Bool := decide (65 ≤ z ∧ z ≤ 90 ∨ 97 ≤ z ∧ z ≤ 122)
def digZ (z : Int) : Int := if 48 ≤ z ∧ z ≤ 57 then z - 48 else if 65 ≤ z ∧ z ≤ 70 then z - 55 else if 97 ≤ z ∧ z ≤ 102 then z - 87 else 16

theorem low_any (z : Int) (h0 : 0 ≤ z) (h1 : z ≤ 255) (w : World) :
    Calls Tryd.prog 176 #[.int .u8 z] w fun e w' => e = .returned (.int .u8 (lowZ z)) ∧ w' = w := by
  go_enter Tryd.func176, Tryd.ntmps176
  go_wp2
  all_goals go_ret
  all_goals refine ⟨ret_u8 ?_, rfl⟩
  all_goals (unfold lowZ; split <;> omega)
theorem dig_any (z : Int) (_h0 : 0 ≤ z) (_h1 : z ≤ 255) (w : World) :
    Calls Tryd.prog 137 #[.int .u8 z] w fun e w' => e = .returned (.bool (isDigZ z)) ∧ w' = w := by
  go_enter Tryd.func137, Tryd.ntmps137
  go_wp2
  all_goals go_ret
  all_goals refine ⟨ret_bool ?_, rfl⟩
  all_goals (rw [Bool.eq_iff_iff]; simp [isDigZ]; omega)
theorem low_or (z : Int) : (65 ≤ z ∧ z ≤ 90 ∧ lowZ z = z + 32) ∨ (¬ (65 ≤ z ∧ z ≤ 90) ∧ lowZ z = z) := by
  unfold lowZ
  split <;> omega
end Go.Proofs.YtkcgmimldjeaiaaDoor
