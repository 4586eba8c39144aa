/-
  Two circle sets compared; memory that grows.
-/
import Derived.Test.YtmofhhffkppelaaSets
import Derived.Test.YtmofhhffkppelaaGrow
import Derived.WalkLawsBesides
import Derived.Laws.StructEq
namespace Go.Proofs.Ytmofhhffkppelaa
open Go.RowKit
set_option linter.unusedVariables false

theorem fieldsSet : (Try.prog.fieldsOf 42).toList = [⟨"size", 3, 0, false, "", "loop.example/tonesincircles/impl", 0⟩, ⟨"tones", 3, 1, false, "", "loop.example/tonesincircles/impl", 8⟩] := by kernel_rfl
theorem eql_set (a b c d : Int) (w : World) : (binOp .eql 42 (.agg #[.int .i64 a, .int .i64 b]) (.agg #[.int .i64 c, .int .i64 d])).run Try.prog w = .ok (.bool (a == c && b == d)) w := by
  rw [run_eql_struct, run_equalIn_struct w _ _ _ _ (by kernel_rfl) (by kernel_rfl), fieldsSet]
  simp [Op.eqFields, part]
  rw [run_equalIn_int w _ 3 .i64 .i64 a c Try.underlying3]
  by_cases h : a = c
  · subst h
    simp
    rw [run_equalIn_int w _ 3 .i64 .i64 b d Try.underlying3]
    by_cases h2 : b = d
    · subst h2; simp
    · simp [h2]
  · simp [h]

theorem eqGuard_set (op : BinOp) (x y : Operand) (xs ys : Array Value) (w : World) : (eqGuard op 42 x y (.agg xs) (.agg ys)).run Try.prog w = .ok () w :=
  run_eqGuard_agg w op _ x y xs ys (by kernel_rfl)

end Go.Proofs.Ytmofhhffkppelaa
