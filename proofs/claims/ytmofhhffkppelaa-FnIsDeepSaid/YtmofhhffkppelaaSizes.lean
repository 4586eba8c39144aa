/-
  The program's list of the distances of some steps, and SizesOf of both.
-/
import Derived.Test.YtmofhhffkppelaaGather
import Derived.Test.YtmofhhffkppelaaOnes
namespace Go.Proofs.Ytmofhhffkppelaa
open Go.RowKit
set_option linter.unusedVariables false


/-- the arguments for which SizesOf is asked -/
def SzOk (n s st : Int) : Prop := Tic.Valid n s ∧ 1 ≤ st ∧ st < (Tic.rk s.toNat n.toNat : Int)
theorem rk_valid {n s : Int} (hv : Tic.Valid n s) : Tic.rk s.toNat n.toNat = Tic.wt 12 s.toNat := Tic.rk_wt hv.lt_pow (by have := hv.2.1; omega)
end Go.Proofs.Ytmofhhffkppelaa
