/-
  Parts of the walk, joined: RefB.
-/
import Derived.Test.YtcncbhbdpcpkeaaGreatDoorPJAN
/-
  The reference's nesting: words for models and classes, nest, modelOf, impliedCount, isTable: their walks.
-/
namespace Go.Proofs.YtcncbhbdpcpkeaaGreatDoor
open Go.RowKit Go.Lib Own

/-- a model's word -/
def modW : Nat → List UInt8
  | 1 => [102, 108, 111, 119]
  | 2 => [112, 104, 114, 97, 115, 105, 110, 103]
  | 3 => [116, 101, 120, 116]
  | 4 => [108, 105, 115, 116]
  | 5 => [116, 97, 98, 108, 101]
  | 6 => [115, 101, 99, 116, 105, 111, 110]
  | 7 => [114, 111, 119]
  | 8 => [99, 101, 108, 108]
  | 9 => [118, 111, 105, 100]
  | _ => []
/-- a class's word -/
def clsW : Nat → List UInt8
  | 1 => [102, 108, 111, 119]
  | 2 => [112, 104, 114, 97, 115, 105, 110, 103]
  | 3 => [116, 101, 120, 116]
  | 4 => [105, 116, 101, 109]
  | 5 => [115, 101, 99, 116, 105, 111, 110]
  | 6 => [114, 111, 119]
  | 7 => [99, 101, 108, 108]
  | _ => []
theorem class_word (x : List UInt8) : classW (classL x) = clsW (clsX x) := by
  refine elem_all (fun x => classW (classL x) = clsW (clsX x)) (by decide +kernel) (fun x h1 h2 => ?_) x
  have h3 : clsX x = 0 := by unfold clsX; rw [h1]; rfl
  rw [h2, h3]
  rfl
end Go.Proofs.YtcncbhbdpcpkeaaGreatDoor
