/-
  scrubref.Unref: its walk.
-/
import Derived.Test.YtndlihpjefobcaaDoorUnref
import Derived.Test.YtndlihpjefobcaaDoorOwn
namespace Go.Proofs.YtndlihpjefobcaaDoor
open Go.RowKit Go.Lib Own

end Go.Proofs.YtndlihpjefobcaaDoor
