/-
  scrubref's among, past and begins: their walks.
-/
import Derived.Test.YtolbahmihkdmiaaDoorFindNum
namespace Go.Proofs.YtolbahmihkdmiaaDoor
open Go.RowKit Go.Lib

end Go.Proofs.YtolbahmihkdmiaaDoor
