/-
  The walk of the law GridEdges.
-/
import Derived.Test.YtkfijjjnidiejaaDoorSt
namespace Go.Proofs.YtkfijjjnidiejaaDoor
set_option maxRecDepth 100000
set_option linter.unusedSimpArgs false
open Go.RowKit

end Go.Proofs.YtkfijjjnidiejaaDoor
