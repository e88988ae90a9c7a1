/-
  chars.findName: its walk.
-/
import Derived.Test.YtkcgmimldjeaiaaDoorGen
import Derived.Test.YtkcgmimldjeaiaaDoorNumAny
import Derived.Test.YtkcgmimldjeaiaaDoorShelf
import Derived.Deep.Cut
import Derived.BigQuiet
namespace Go.Proofs.YtkcgmimldjeaiaaDoor
open Go.RowKit Go.Lib Go.Great

theorem names_len : namesV.length = 78 := by decide +kernel
def allT : List (List UInt8 × Int) := eitherT ++ closedT
theorem flat_at (f : List UInt8 × Int → Value) (g : List UInt8 × Int → Value) : ∀ (T : List (List UInt8 × Int)) (k : Nat) (x : List UInt8 × Int), T[k]? = some x → ((T.flatMap fun t => [f t, g t]).drop (k * 2)).take 2 = [f x, g x]
  | [], k, x, h => by simp at h
  | t :: T, 0, x, h => by
    simp only [List.getElem?_cons_zero, Option.some.injEq] at h
    subst h
    rfl
  | t :: T, k + 1, x, h => by
    rw [List.getElem?_cons_succ] at h
    have := flat_at f g T k x h
    rw [show (k + 1) * 2 = k * 2 + 2 from by omega, List.flatMap_cons, ← List.drop_drop]
    rw [List.drop_drop, show k * 2 + 2 = 2 + k * 2 from by omega, ← List.drop_drop]
    exact this
theorem names_at (k : Nat) (x : List UInt8 × Int) (h : allT[k]? = some x) : (namesV.drop (k * 2)).take 2 = [strV x.1, .int .i32 x.2] :=
  flat_at (fun t => strV t.1) (fun t => .int .i32 t.2) allT k x h
theorem all_small : ∀ t ∈ allT, 0 < t.1.length ∧ t.1.length ≤ 100 := by decide +kernel
end Go.Proofs.YtkcgmimldjeaiaaDoor
