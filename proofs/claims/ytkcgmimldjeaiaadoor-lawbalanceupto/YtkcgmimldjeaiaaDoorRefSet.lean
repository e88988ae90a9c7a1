/-
  scrubref's until and lowered: their walks.
-/
import Derived.Test.YtkcgmimldjeaiaaDoorRefUnref
import Derived.Test.YtkcgmimldjeaiaaDoorLower
import Derived.Test.YtkcgmimldjeaiaaDoorRefRun
namespace Go.Proofs.YtkcgmimldjeaiaaDoor
open Go.RowKit Go.Lib Own

end Go.Proofs.YtkcgmimldjeaiaaDoor
