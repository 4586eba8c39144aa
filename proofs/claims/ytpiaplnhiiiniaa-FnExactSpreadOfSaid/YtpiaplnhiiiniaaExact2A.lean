/-
  The walk of the exact law of SpreadOf.
-/
import Derived.Test.YtpiaplnhiiiniaaSpread
namespace Go.Proofs.Ytpiaplnhiiiniaa
open Go.RowKit
set_option linter.unusedVariables false

theorem FnExactSpreadOf_walk (a0 a1 a2 : Int) (w0 : (Lit.int .i64 a0).wf = true) (w1 : (Lit.int .i64 a1).wf = true) (w2 : (Lit.int .i64 a2).wf = true) (w : World) :
    Calls Try.prog 3 #[.int .i64 a0, .int .i64 a1, .int .i64 a2] w fun e w' => e = .returned (.bool true) ∧ Below w.heap.size w w' := by
  by_cases h : SpOk a0 a1 a2
  · go_enter Try.func3, Try.ntmps3
    go_wp2_with fail
    refine (sSpreadOf_yes _ _ _ _ h).mono ?_; rintro e w1 ⟨rfl, rfl⟩
    go_wp2_with fail
    refine (iSpreadOf_yes _ _ _ _ h).mono ?_; rintro e w1 ⟨rfl, hb⟩
    go_wp2_with fail
    go_ret
    exact ⟨rfl, hb⟩
  · go_enter Try.func3, Try.ntmps3
    go_wp2_with fail
    refine (sSpreadOf_no _ _ _ _ h).mono ?_; rintro e w1 ⟨rfl, rfl⟩
    go_wp2_with fail
    refine (iSpreadOf_no _ _ _ _ h).mono ?_; rintro e w1 ⟨rfl, rfl⟩
    go_wp2_with fail
    go_ret
    exact ⟨rfl, Below.refl _ _⟩

end Go.Proofs.Ytpiaplnhiiiniaa
