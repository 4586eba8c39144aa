/-
  The walk of the exact law of RatioOf.
-/
import Derived.Test.YtpcbplademohnaaDoorPowIn
import Derived.Test.YtpcbplademohnaaDoorCame
namespace Go.Proofs.YtpcbplademohnaaDoor
open Go.RowKit
set_option linter.unusedVariables false
set_option maxRecDepth 20000

/-- the program's two tables -/
def Tabs (w : World) : Prop := Limits w ∧ Primes w
theorem Tabs.kept {w w' : World} (h : Tabs w) (hb : Below w.heap.size w w') : Tabs w' := ⟨h.1.kept hb, h.2.kept hb⟩
end Go.Proofs.YtpcbplademohnaaDoor
