/-
  Parts of the walk, joined: Unf.
-/
import Derived.Test.YtcncbhbdpcpkeaaGreatDoorPJAJ
/-
  What is an unfinished character: by what may come behind it, and by the tables. No program is walked here.
-/
namespace Go.Proofs.YtcncbhbdpcpkeaaGreatDoor
open Go.Lib

/-- something may come behind n bytes, 1 to 3, that makes them a character -/
def comes (m b0 b1 b2 : Nat) : Prop :=
  (m = 1 ∧ ((decodeN 2 b0 128 0 0).2 = 2 ∨ (decodeN 2 b0 191 0 0).2 = 2 ∨ (decodeN 3 b0 128 128 0).2 = 3 ∨ (decodeN 3 b0 191 191 0).2 = 3 ∨ (decodeN 4 b0 128 128 128).2 = 4 ∨ (decodeN 4 b0 191 191 191).2 = 4)) ∨
  (m = 2 ∧ ((decodeN 3 b0 b1 128 0).2 = 3 ∨ (decodeN 3 b0 b1 191 0).2 = 3 ∨ (decodeN 4 b0 b1 128 128).2 = 4 ∨ (decodeN 4 b0 b1 191 191).2 = 4)) ∨
  (m = 3 ∧ ((decodeN 4 b0 b1 b2 128).2 = 4 ∨ (decodeN 4 b0 b1 b2 191).2 = 4))

end Go.Proofs.YtcncbhbdpcpkeaaGreatDoor
