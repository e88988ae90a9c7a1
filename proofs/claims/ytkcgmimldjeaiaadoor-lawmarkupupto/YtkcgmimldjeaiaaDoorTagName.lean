/-
  lexer.tagName: its walk.
-/
import Derived.Test.YtkcgmimldjeaiaaDoorLower
namespace Go.Proofs.YtkcgmimldjeaiaaDoor
open Go.RowKit Go.Lib Own

def nameC (c : UInt8) : Bool := nextT 3 c == 3
theorem tagName_eq (L : List UInt8) : tagNameL L = (L.takeWhile nameC).map lowC := rfl
end Go.Proofs.YtkcgmimldjeaiaaDoor
