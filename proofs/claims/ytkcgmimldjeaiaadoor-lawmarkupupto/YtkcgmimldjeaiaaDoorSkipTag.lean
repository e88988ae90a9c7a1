/-
  The reader's skipTag, beginSkip: their walks.
-/
import Derived.Test.YtkcgmimldjeaiaaDoorReadByte
namespace Go.Proofs.YtkcgmimldjeaiaaDoor
open Go.RowKit Go.Lib Own

end Go.Proofs.YtkcgmimldjeaiaaDoor
