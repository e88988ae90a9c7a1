/-
  scrubref's among, past and begins: their walks.
-/
import Derived.Test.YthhdhlehcblghaaDoorFindNum
namespace Go.Proofs.YthhdhlehcblghaaDoor
open Go.RowKit Go.Lib

end Go.Proofs.YthhdhlehcblghaaDoor
