/-
  Contracts of RowsOf, of the program and of the model.
-/
import Derived.Test.YtmofhhffkppelaaSizes
import Derived.Test.YtmofhhffkppelaaRowsNum
import Derived.Test.YtmofhhffkppelaaKind
import Derived.Test.YtmofhhffkppelaaOnes
import Derived.WalkMore
import Derived.Deep.LoopGhost
namespace Go.Proofs.Ytmofhhffkppelaa
open Go.RowKit
set_option linter.unusedVariables false

theorem rowT_int {N x g i : Nat} : (((x : Int) + (i : Int) * (g : Int)) % (N : Int)).toNat = Tic.rowT N x g i := by
  unfold Tic.rowT
  rw [← Int.natCast_mul, ← Int.natCast_add, ← Int.natCast_emod, Int.toNat_natCast]
theorem wrap_small {a : Int} (h0 : 0 ≤ a) (h1 : a ≤ 1000) : wrap64 a = a := IntWalk.wrap64_in a (by omega)
theorem rows4096 {N x g j : Nat} (h : 0 < N) (hN : N ≤ 12) : Tic.rowS N x g j < 4096 := by
  have h1 := Tic.rowS_lt h x g j
  have h3 : 2 ^ N ≤ 2 ^ 12 := Nat.pow_le_pow_right (by omega) hN
  omega


/-- the numbers below k whose row is the set -/
theorem isRow_none {N S g : Nat} (h : ∀ x, x < N → S.testBit x = true → Tic.rowAt N S x g = false) : Tic.isRow N S g = false := by
  cases e : Tic.isRow N S g with
  | false => rfl
  | true =>
    obtain ⟨x, h1, h2, h3⟩ := (Tic.rowTo_iff N S g N).1 e
    rw [h x h1 h2] at h3; cases h3
theorem isRow_some {N S g x : Nat} (h1 : x < N) (h2 : S.testBit x = true) (h3 : Tic.rowAt N S x g = true) : Tic.isRow N S g = true := (Tic.rowTo_iff N S g N).2 ⟨x, h1, h2, h3⟩

theorem or_nat {a b : Nat} (ha : a < 4611686018427387904) (hb : b < 4611686018427387904) : bits .or .i64 (a : Int) (b : Int) = ((a ||| b : Nat) : Int) := i64_or_nat _ _ ha hb


end Go.Proofs.Ytmofhhffkppelaa
