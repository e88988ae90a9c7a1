/-
  The tables of the character references, as they lie in memory, and what a number stands for: the walks.
-/
import Derived.Test.YtkcgmimldjeaiaaDoorGen
import Derived.Test.YtkcgmimldjeaiaaDoorByte
import Derived.Test.YtkcgmimldjeaiaaDoorEnc
import Derived.Deep.MidRow
namespace Go.Proofs.YtkcgmimldjeaiaaDoor
open Go.RowKit Go.Lib

def namesV : List Value := (eitherT ++ closedT).flatMap fun t => [strV t.1, .int .i32 t.2]
def replV : List Value := replT.map (Value.int .i32)
def eitherNV : List Value := eitherT.map fun t => strV t.1
def eitherCV : List Value := eitherT.map fun t => .int .i64 t.2
def closedNV : List Value := closedT.map fun t => strV t.1
def closedCV : List Value := closedT.map fun t => .int .i64 t.2

theorem ret_i32 {a b : Int} (h : a = b) : Ending.returned (.int .i32 a) = .returned (.int .i32 b) := by rw [h]
end Go.Proofs.YtkcgmimldjeaiaaDoor
