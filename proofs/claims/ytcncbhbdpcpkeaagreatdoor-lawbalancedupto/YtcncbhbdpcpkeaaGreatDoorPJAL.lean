/-
  Parts of the walk, joined: PolRef.
-/
import Derived.Laws.Tables
import Derived.Lib.Index
import Derived.Lib.Strings
import Derived.Deep.RegionLaw
import Derived.Test.YtcncbhbdpcpkeaaGreatDoorPJAE
import Derived.Test.YtcncbhbdpcpkeaaGreatDoorPJAD
import Derived.Test.YtcncbhbdpcpkeaaGreatDoorPJAA
/-
  The reference's Check: the walks of what it calls.
-/
namespace Go.Proofs.YtcncbhbdpcpkeaaGreatDoor
open Go.RowKit Go.Lib Own

/-- the elements by their class: 1 phrasing, 2 flow, 3 item, 4 section, 5 row, 6 cell -/
def classT : List (List UInt8 × Nat) := [([97], 1), ([98], 1), ([99, 111, 100, 101], 1), ([101, 109], 1), ([105], 1), ([113], 1), ([115], 1), ([115, 109, 97, 108, 108], 1), ([115, 112, 97, 110], 1), ([115, 116, 114, 111, 110, 103], 1), ([115, 117, 98], 1), ([115, 117, 112], 1), ([117], 1), ([98, 114], 1), ([105, 109, 103], 1), ([116, 101, 120, 116, 97, 114, 101, 97], 1),
  ([104, 49], 2), ([104, 50], 2), ([104, 51], 2), ([104, 52], 2), ([104, 53], 2), ([104, 54], 2), ([112], 2), ([112, 114, 101], 2), ([98, 108, 111, 99, 107, 113, 117, 111, 116, 101], 2), ([100, 105, 118], 2), ([104, 114], 2), ([111, 108], 2), ([117, 108], 2), ([116, 97, 98, 108, 101], 2),
  ([108, 105], 3), ([116, 98, 111, 100, 121], 4), ([116, 102, 111, 111, 116], 4), ([116, 104, 101, 97, 100], 4), ([116, 114], 5), ([116, 100], 6), ([116, 104], 6)]
def findT : List (List UInt8 × Nat) → List UInt8 → Nat
  | [], _ => 0
  | e :: r, x => if (x == e.1) = true then e.2 else findT r x
def classL (x : List UInt8) : Nat := findT classT x
theorem find_none : ∀ (T : List (List UInt8 × Nat)) (x : List UInt8), x ∉ T.map Prod.fst → findT T x = 0
  | [], _, _ => rfl
  | e :: r, x, h => by
    simp only [List.map_cons, List.mem_cons, not_or] at h
    unfold findT
    rw [if_neg (by rw [beq_iff_eq]; exact h.1)]
    exact find_none r x h.2
end Go.Proofs.YtcncbhbdpcpkeaaGreatDoor
