/-
  The reference's Check: schemes, drops, all of them, Check: their walks.
-/
import Derived.Test.YtkcgmimldjeaiaaDoorPolRefC
namespace Go.Proofs.YtkcgmimldjeaiaaDoor
open Go.RowKit Go.Lib Own

def schemeL : List UInt8 := [97, 98, 99, 100, 101, 102, 103, 104, 105, 106, 107, 108, 109, 110, 111, 112, 113, 114, 115, 116, 117, 118, 119, 120, 121, 122, 48, 49, 50, 51, 52, 53, 54, 55, 56, 57, 43, 45, 46]
def dropL : List UInt8 := [97, 98, 99, 100, 101, 102, 103, 104, 105, 106, 107, 108, 109, 110, 111, 112, 113, 114, 115, 116, 117, 118, 119, 120, 121, 122, 48, 49, 50, 51, 52, 53, 54, 55, 56, 57, 45]
def wrongSchemeP (L : List UInt8) : Bool := !isWordL schemeL L || (L == [106, 97, 118, 97, 115, 99, 114, 105, 112, 116] || (L == [118, 98, 115, 99, 114, 105, 112, 116] || L == [100, 97, 116, 97]))
def voidT : List (List UInt8) := [[97, 114, 101, 97], [98, 97, 115, 101], [98, 114], [99, 111, 108], [101, 109, 98, 101, 100], [104, 114], [105, 109, 103], [105, 110, 112, 117, 116], [108, 105, 110, 107], [109, 101, 116, 97], [115, 111, 117, 114, 99, 101], [116, 114, 97, 99, 107], [119, 98, 114]]
def wrongDropP (names : List (List UInt8)) (L : List UInt8) : Bool := voidT.contains L || (!isWordL dropL L || names.contains L)

def anyWrongP (n : Nat) (P : PolP) : Bool := P.rules.any (wrongRuleP n) || ((decide (n = 7) && P.schemes.any wrongSchemeP) || (decide (n = 9) && P.drop.any (wrongDropP (P.rules.map Prod.fst))))
theorem any_step {α : Type} {p : α → Bool} {l : List α} {k : Nat} {x : α} (h : l[k]? = some x) : (l.drop k).any p = (p x || (l.drop (k + 1)).any p) := by rw [drop_at h]; rfl
theorem any_done {α : Type} {p : α → Bool} {l : List α} {k : Nat} (h : l.length ≤ k) : (l.drop k).any p = false := by rw [List.drop_of_length_le h]; rfl

end Go.Proofs.YtkcgmimldjeaiaaDoor
