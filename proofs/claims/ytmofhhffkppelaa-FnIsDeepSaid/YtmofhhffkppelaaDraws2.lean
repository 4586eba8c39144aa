/-
  Contracts of the drawers of arguments of SizesOf, SpreadOf and BeatsOf.
-/
import Derived.Test.YtmofhhffkppelaaDraws
namespace Go.Proofs.Ytmofhhffkppelaa
open Go.RowKit
set_option linter.unusedVariables false

end Go.Proofs.Ytmofhhffkppelaa
