/-
  The library's sort: partitionEqualOrdered.
-/
import Derived.Test.YtomhflaofipccaaSortPart
import Derived.Sort.LotC
namespace Go.Proofs.Ytomhflaofipccaa
open Go Go.RowKit Go.Maps
set_option linter.unusedVariables false
end Go.Proofs.Ytomhflaofipccaa
