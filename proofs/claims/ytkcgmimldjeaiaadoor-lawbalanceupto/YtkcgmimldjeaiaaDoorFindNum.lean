/-
  chars.findNumber: its walk.
-/
import Derived.Test.YtkcgmimldjeaiaaDoorGen
import Derived.Test.YtkcgmimldjeaiaaDoorRefTabs
import Derived.Test.YtkcgmimldjeaiaaDoorHidden
namespace Go.Proofs.YtkcgmimldjeaiaaDoor
open Go.RowKit Go.Lib

theorem digZ_K (c : UInt8) : digZ (c.toNat : Int) = (digK c : Int) := by
  unfold digZ digK
  repeat' split
  all_goals omega
theorem digK_le (c : UInt8) : digK c ≤ 16 := by
  unfold digK
  repeat' split
  all_goals omega
theorem numL_eq (N : List UInt8) : numL N = if digsN N = [] then (0, 0) else (fromN N + (digsN N).length + (if N[fromN N + (digsN N).length]? = some 59 then 1 else 0), numb ((valM (baseN N) 0 (digsN N) : Nat) : Int)) := by
  have h := val_eq (baseN N) (by unfold baseN; split <;> omega) (digsN N) 0
  rw [Nat.min_eq_left (by omega)] at h
  rw [h]
  rfl
/-- what a loop over digits comes to -/
structure DigEnd (N : List UInt8) (F B : Nat) (dig : UInt8 → Bool) (r : Nat × Int) : Prop where
  none : (N.drop F).takeWhile dig = [] → r = (0, 0)
  shut : ∀ E V : Nat, (N.drop F).takeWhile dig ≠ [] → F + ((N.drop F).takeWhile dig).length = E → valM B 0 ((N.drop F).takeWhile dig) = V → N[E]? = some 59 → r = (E + 1, numb V)
  still : ∀ E V : Nat, (N.drop F).takeWhile dig ≠ [] → F + ((N.drop F).takeWhile dig).length = E → valM B 0 ((N.drop F).takeWhile dig) = V → N[E]? ≠ some 59 → r = (E, numb V)
theorem digEnd (N : List UInt8) : DigEnd N (fromN N) (baseN N) (digN N) (numL N) := by
  have h := numL_eq N
  unfold digsN at h
  refine ⟨fun h0 => by rw [h, if_pos h0], fun E V h0 h1 h2 h3 => ?_, fun E V h0 h1 h2 h3 => ?_⟩
  · rw [h, if_neg h0, h1, h2, if_pos h3]
  · rw [h, if_neg h0, h1, h2, if_neg h3]; rfl
theorem getElem_over {s : ByteArray} {e : Nat} (h : ¬ e < s.size) : s.data.toList[e]? = none := by
  rw [List.getElem?_eq_none (by rw [← size_eq]; omega)]
theorem ret_two {a c : Int} {b d : Int} (h : a = b) (k : c = d) : Ending.returned (.tuple #[.int .i64 a, .int .i32 c]) = .returned (.tuple #[.int .i64 b, .int .i32 d]) := by rw [h, k]


end Go.Proofs.YtkcgmimldjeaiaaDoor
