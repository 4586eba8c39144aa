/-
  The contract of the laws' test that a list ascends.
-/
import Derived.Test.YtpcbplademohnaaDoorTones
import Derived.RegionTactic
namespace Go.Proofs.YtpcbplademohnaaDoor
open Go.RowKit
set_option linter.unusedVariables false

end Go.Proofs.YtpcbplademohnaaDoor
