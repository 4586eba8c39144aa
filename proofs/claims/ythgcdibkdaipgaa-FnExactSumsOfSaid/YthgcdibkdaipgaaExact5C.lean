/-
  The walks of the exact laws of SumsOf.
-/
import Derived.Test.YthgcdibkdaipgaaSums
import Derived.Test.YthgcdibkdaipgaaRow
namespace Go.Proofs.Ythgcdibkdaipgaa
open Go.RowKit
set_option linter.unusedVariables false

theorem FnExactSumsOf_walk (a0 a1 a2 : Int) (w0 : (Lit.int .i64 a0).wf = true) (w1 : (Lit.int .i64 a1).wf = true) (w2 : (Lit.int .i64 a2).wf = true) (w : World) :
    Calls Try.prog 5 #[.int .i64 a0, .int .i64 a1, .int .i64 a2] w fun e w' => e = .returned (.bool true) ∧ Below w.heap.size w w' := by
  by_cases h : TwoOk a0 a1 a2
  · go_enter Try.func5, Try.ntmps5
    go_wp2_with fail
    refine (sSumsOf_yes _ _ _ _ h).mono ?_; rintro e w1 ⟨rfl, rfl⟩
    go_wp2_with fail
    refine (iSumsOf_yes _ _ _ _ h).mono ?_; rintro e w1 ⟨rfl, hb⟩
    have HB := Lib.hid hb
    clear hb
    generalize Tic.un a0.toNat a1.toNat a2.toNat a0.toNat = u
    generalize Tic.okk a0.toNat a1.toNat a2.toNat a0.toNat = b
    cases b <;>
    · go_wp2_with fail
      go_ret
      exact ⟨rfl, HB.out⟩
  · go_enter Try.func5, Try.ntmps5
    go_wp2_with fail
    refine (sSumsOf_no _ _ _ _ h).mono ?_; rintro e w1 ⟨rfl, rfl⟩
    go_wp2_with fail
    refine (iSumsOf_no _ _ _ _ h).mono ?_; rintro e w1 ⟨rfl, rfl⟩
    go_wp2_with fail
    go_ret
    exact ⟨rfl, Below.refl _ _⟩
end Go.Proofs.Ythgcdibkdaipgaa
