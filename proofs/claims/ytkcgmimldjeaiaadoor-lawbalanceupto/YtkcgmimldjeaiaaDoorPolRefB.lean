/-
  The reference's Check: words, rules, schemes, drops: their walks.
-/
import Derived.Test.YtkcgmimldjeaiaaDoorPolRef
namespace Go.Proofs.YtkcgmimldjeaiaaDoor
open Go.RowKit Go.Lib Own

/-- the reference's attributes -/
def attrT : List (List UInt8) := [[119, 105, 100, 116, 104], [116, 105, 116, 108, 101], [115, 116, 97, 114, 116], [115, 114, 99], [114, 111, 119, 115, 112, 97, 110], [114, 101, 108], [108, 97, 110, 103], [105, 100], [104, 114, 101, 102], [104, 101, 105, 103, 104, 116], [100, 105, 114], [99, 111, 108, 115, 112, 97, 110], [99, 108, 97, 115, 115], [99, 105, 116, 101], [97, 108, 116]]
def attrTabV : List Value := attrT.map fun s => .string (bs s)
def smallL : List UInt8 := [97, 98, 99, 100, 101, 102, 103, 104, 105, 106, 107, 108, 109, 110, 111, 112, 113, 114, 115, 116, 117, 118, 119, 120, 121, 122]
def digitL : List UInt8 := [48, 49, 50, 51, 52, 53, 54, 55, 56, 57]
/-- a word: a small letter first, then bytes of the set -/
def isWordL (set : List UInt8) (L : List UInt8) : Bool := decide (1 ≤ L.length) && (decide (L.length ≤ 32) && (smallL.contains (L.headD 0) && L.all set.contains))
theorem all_while {p : UInt8 → Bool} : ∀ L : List UInt8, (L.takeWhile p).length = L.length ↔ L.all p = true
  | [] => by simp
  | c :: L => by
    cases hc : p c with
    | true =>
      have := all_while (p := p) L
      simp only [List.takeWhile_cons, hc, if_true, List.length_cons, List.all_cons, Bool.true_and, Nat.add_right_cancel_iff]
      exact this
    | false => simp [hc]

end Go.Proofs.YtkcgmimldjeaiaaDoor
