/-
  scrubref.Unref: its walk.
-/
import Derived.Test.YtkcgmimldjeaiaaDoorUnref
import Derived.Test.YtkcgmimldjeaiaaDoorOwn
namespace Go.Proofs.YtkcgmimldjeaiaaDoor
open Go.RowKit Go.Lib Own

end Go.Proofs.YtkcgmimldjeaiaaDoor
