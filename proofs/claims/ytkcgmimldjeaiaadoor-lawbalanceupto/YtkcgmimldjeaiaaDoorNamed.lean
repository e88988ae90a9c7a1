/-
  scrubref.named: its walk.
-/
import Derived.Test.YtkcgmimldjeaiaaDoorNumAny
namespace Go.Proofs.YtkcgmimldjeaiaaDoor
open Go.RowKit Go.Lib

theorem either_small : ∀ t ∈ eitherT, 0 < t.1.length ∧ t.1.length ≤ 20 := by decide +kernel
theorem closed_small : ∀ t ∈ closedT, 0 < t.1.length ∧ t.1.length ≤ 20 := by decide +kernel
theorem map_at {f : List UInt8 × Int → Value} {T : List (List UInt8 × Int)} {k : Nat} {x : List UInt8 × Int} (h : T[k]? = some x) : (T.map f)[k]? = some (f x) := by
  rw [List.getElem?_map, h]; rfl
end Go.Proofs.YtkcgmimldjeaiaaDoor
