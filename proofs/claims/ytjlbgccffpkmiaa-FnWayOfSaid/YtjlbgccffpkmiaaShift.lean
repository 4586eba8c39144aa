/-
  Contracts of ShiftSet, TurnSet and OthersOf, of the program and of the model.
-/
import Derived.Test.YtjlbgccffpkmiaaSets
namespace Go.Proofs.Ytjlbgccffpkmiaa
open Go.RowKit




end Go.Proofs.Ytjlbgccffpkmiaa
