/-
  Single bytes: scrub/ascii's functions, scrubref's, and what a digit counts: their walks.
-/
import Derived.Test.YtndglhflbenloaaGreatDoorGen
import Derived.Test.YtndglhflbenloaaGreatDoorRefText
import Derived.Test.YtndglhflbenloaaGreatDoorGood
namespace Go.Proofs.YtndglhflbenloaaGreatDoor
open Go.RowKit Go.Lib

theorem ret_u8 {a b : Int} (h : a = b) : Ending.returned (.int .u8 a) = .returned (.int .u8 b) := by rw [h]
def lowZ (z : Int) : Int := if 65 ≤ z ∧ z ≤ 90 then z + 32 else z
def isDigZ (z : Int) : Bool := decide (48 ≤ z ∧ z ≤ 57)
def isLetZ (z : Int) : Bool := decide (65 ≤ z ∧ z ≤ 90 ∨ 97 ≤ z ∧ z ≤ 122)
def digZ (z : Int) : Int := if 48 ≤ z ∧ z ≤ 57 then z - 48 else if 65 ≤ z ∧ z ≤ 70 then z - 55 else if 97 ≤ z ∧ z ≤ 102 then z - 87 else 16

theorem low_any (z : Int) (h0 : 0 ≤ z) (h1 : z ≤ 255) (w : World) :
    Calls Tryz.prog 68 #[.int .u8 z] w fun e w' => e = .returned (.int .u8 (lowZ z)) ∧ w' = w := by
  go_enter Tryz.func68, Tryz.ntmps68
  go_wp2
  all_goals go_ret
  all_goals refine ⟨ret_u8 ?_, rfl⟩
  all_goals (unfold lowZ; split <;> omega)
theorem dig_any (z : Int) (_h0 : 0 ≤ z) (_h1 : z ≤ 255) (w : World) :
    Calls Tryz.prog 103 #[.int .u8 z] w fun e w' => e = .returned (.bool (isDigZ z)) ∧ w' = w := by
  go_enter Tryz.func103, Tryz.ntmps103
  go_wp2
  all_goals go_ret
  all_goals refine ⟨ret_bool ?_, rfl⟩
  all_goals (rw [Bool.eq_iff_iff]; simp [isDigZ]; omega)
theorem low_or (z : Int) : (65 ≤ z ∧ z ≤ 90 ∧ lowZ z = z + 32) ∨ (¬ (65 ≤ z ∧ z ≤ 90) ∧ lowZ z = z) := by
  unfold lowZ
  split <;> omega
theorem let_any (z : Int) (h0 : 0 ≤ z) (h1 : z ≤ 255) (w : World) :
    Calls Tryz.prog 101 #[.int .u8 z] w fun e w' => e = .returned (.bool (isLetZ z)) ∧ w' = w := by
  have hc := fun W => low_any z h0 h1 W
  have hl := low_or z
  generalize lowZ z = l at hc hl
  go_enter Tryz.func101, Tryz.ntmps101
  go_wp2_with (go_at_call 68; refine (hc _).mono ?_; rintro e w' ⟨rfl, rfl⟩)
  all_goals go_ret
  all_goals refine ⟨ret_bool ?_, rfl⟩
  all_goals (rw [Bool.eq_iff_iff]; simp [isLetZ]; omega)
theorem refDig_any (z : Int) (_h0 : 0 ≤ z) (_h1 : z ≤ 255) (w : World) :
    Calls Tryz.prog 96 #[.int .u8 z] w fun e w' => e = .returned (.bool (isDigZ z)) ∧ w' = w := by
  go_enter Tryz.func96, Tryz.ntmps96
  go_wp2
  all_goals go_ret
  all_goals refine ⟨ret_bool ?_, rfl⟩
  all_goals (rw [Bool.eq_iff_iff]; simp [isDigZ]; omega)
theorem refLet_any (z : Int) (_h0 : 0 ≤ z) (_h1 : z ≤ 255) (w : World) :
    Calls Tryz.prog 84 #[.int .u8 z] w fun e w' => e = .returned (.bool (isLetZ z)) ∧ w' = w := by
  go_enter Tryz.func84, Tryz.ntmps84
  go_wp2
  all_goals go_ret
  all_goals refine ⟨ret_bool ?_, rfl⟩
  all_goals (rw [Bool.eq_iff_iff]; simp [isLetZ]; omega)
theorem digit_any (z : Int) (h0 : 0 ≤ z) (h1 : z ≤ 255) (w : World) :
    Calls Tryz.prog 115 #[.int .u8 z] w fun e w' => e = .returned (.int .i64 (digZ z)) ∧ w' = w := by
  have hc := fun W => low_any z h0 h1 W
  have hl := low_or z
  generalize lowZ z = l at hc hl
  have hd := fun W => dig_any z h0 h1 W
  have hi : isDigZ z = decide (48 ≤ z ∧ z ≤ 57) := rfl
  generalize isDigZ z = d at hd hi
  go_enter Tryz.func115, Tryz.ntmps115
  go_wp2_with (first | (go_at_call 68; refine (hc _).mono ?_; rintro e w' ⟨rfl, rfl⟩) | (go_at_call 103; refine (hd _).mono ?_; rintro e w' ⟨rfl, rfl⟩))
  all_goals go_ret
  all_goals refine ⟨ret_i64 ?_, rfl⟩
  all_goals (unfold digZ; (repeat' split) <;> omega)
theorem hex_any (z : Int) (h0 : 0 ≤ z) (h1 : z ≤ 255) (h2 : digZ z < 16) (w : World) :
    Calls Tryz.prog 118 #[.int .u8 z] w fun e w' => e = .returned (.int .i64 (digZ z)) ∧ w' = w := by
  have hd := fun W => refDig_any z h0 h1 W
  have hi : isDigZ z = decide (48 ≤ z ∧ z ≤ 57) := rfl
  generalize isDigZ z = d at hd hi
  have hz : (48 ≤ z ∧ z ≤ 57 ∧ digZ z = z - 48) ∨ (65 ≤ z ∧ z ≤ 70 ∧ digZ z = z - 55) ∨ (97 ≤ z ∧ z ≤ 102 ∧ digZ z = z - 87) := by
    unfold digZ at h2 ⊢
    repeat' split at h2
    all_goals (repeat' split)
    all_goals omega
  generalize digZ z = v at hz
  go_enter Tryz.func118, Tryz.ntmps118
  go_wp2_with (go_at_call 96; refine (hd _).mono ?_; rintro e w' ⟨rfl, rfl⟩)
  all_goals go_ret
  all_goals refine ⟨ret_i64 ?_, rfl⟩
  all_goals omega
end Go.Proofs.YtndglhflbenloaaGreatDoor
