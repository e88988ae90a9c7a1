/-
  The reference's wrong and Check: their walks.
-/
import Derived.Test.YtkcgmimldjeaiaaDoorPolRefD
namespace Go.Proofs.YtkcgmimldjeaiaaDoor
open Go.RowKit Go.Lib Own

def partsP (N : List (List UInt8)) : Bool := ((N.contains [117, 108] || N.contains [111, 108]) && !N.contains [108, 105]) || (N.contains [116, 97, 98, 108, 101] && !(N.contains [116, 98, 111, 100, 121] && (N.contains [116, 114] && N.contains [116, 100])))
def wrongP (n : Nat) (P : PolP) : Bool :=
  if n = 1 then decide (P.depth < 1 ∨ 256 < P.depth) else if n = 2 then decide (P.window < 32 ∨ 4096 < P.window) else if n = 4 then twiceL (P.rules.map Prod.fst)
  else if n = 7 then decide (32 < P.schemes.length) || anyWrongP 7 P else if n = 8 then twiceL P.schemes else if n = 9 then (decide (64 < P.drop.length) || twiceL P.drop) || anyWrongP 9 P
  else if n = 10 then partsP (P.rules.map Prod.fst) else anyWrongP n P

def checkFrom (P : PolP) : Nat → Nat → Nat
  | _, 0 => 0
  | n, f + 1 => if wrongP n P = true then n else checkFrom P (n + 1) f
/-- the first of the ten lines that is true -/
def checkP (P : PolP) : Nat := checkFrom P 1 10
end Go.Proofs.YtkcgmimldjeaiaaDoor
