/-
  scrubref.Unref: its walk.
-/
import Derived.Test.YtkcgmimldjeaiaaGreatDoorUnref
import Derived.Test.YtkcgmimldjeaiaaGreatDoorOwn
namespace Go.Proofs.YtkcgmimldjeaiaaGreatDoor
open Go.RowKit Go.Lib Own

end Go.Proofs.YtkcgmimldjeaiaaGreatDoor
