/-
  The walks of the exact laws of PeriodOf, IsLoose and IsOdd.
-/
import Derived.Test.YthgcdibkdaipgaaPeriod
namespace Go.Proofs.Ythgcdibkdaipgaa
open Go.RowKit
set_option linter.unusedVariables false

theorem FnExactPeriodOf_walk (a0 a1 : Int) (w0 : (Lit.int .i64 a0).wf = true) (w1 : (Lit.int .i64 a1).wf = true) (w : World) :
    Calls Try.prog 3 #[.int .i64 a0, .int .i64 a1] w fun e w' => e = .returned (.bool true) ∧ Below w.heap.size w w' := by
  by_cases h : Tic.Valid a0 a1
  · go_enter Try.func3, Try.ntmps3
    go_wp2_with fail
    refine (sPeriodOf_yes _ _ _ h).mono ?_; rintro e w1 ⟨rfl, rfl⟩
    go_wp2_with fail
    refine (iPeriodOf_yes _ _ _ h).mono ?_; rintro e w1 ⟨rfl, hb⟩
    have HB := Lib.hid hb
    clear hb
    generalize Tic.per a0.toNat a1.toNat = p
    go_wp2_with fail
    go_ret
    exact ⟨rfl, HB.out⟩
  · go_enter Try.func3, Try.ntmps3
    go_wp2_with fail
    refine (sPeriodOf_no _ _ _ h).mono ?_; rintro e w1 ⟨rfl, rfl⟩
    go_wp2_with fail
    refine (iPeriodOf_no _ _ _ h).mono ?_; rintro e w1 ⟨rfl, rfl⟩
    go_wp2_with fail
    go_ret
    exact ⟨rfl, Below.refl _ _⟩
theorem FnExactIsLoose_walk (a0 a1 : Int) (w0 : (Lit.int .i64 a0).wf = true) (w1 : (Lit.int .i64 a1).wf = true) (w : World) :
    Calls Try.prog 8 #[.int .i64 a0, .int .i64 a1] w fun e w' => e = .returned (.bool true) ∧ Below w.heap.size w w' := by
  by_cases h : Tic.Valid a0 a1
  · go_enter Try.func8, Try.ntmps8
    go_wp2_with fail
    refine (sIsLoose_yes _ _ _ h).mono ?_; rintro e w1 ⟨rfl, rfl⟩
    go_wp2_with fail
    refine (iIsLoose_yes _ _ _ h).mono ?_; rintro e w1 ⟨rfl, hb⟩
    have HB := Lib.hid hb
    clear hb
    generalize decide ((Tic.per a0.toNat a1.toNat : Int) < a0) = b
    go_wp2_with fail
    go_ret
    exact ⟨ret_bool (by cases b <;> rfl), HB.out⟩
  · go_enter Try.func8, Try.ntmps8
    go_wp2_with fail
    refine (sIsLoose_no _ _ _ h).mono ?_; rintro e w1 ⟨rfl, rfl⟩
    go_wp2_with fail
    refine (iIsLoose_no _ _ _ h).mono ?_; rintro e w1 ⟨rfl, rfl⟩
    go_wp2_with fail
    go_ret
    exact ⟨rfl, Below.refl _ _⟩
theorem FnExactIsOdd_walk (a0 a1 : Int) (w0 : (Lit.int .i64 a0).wf = true) (w1 : (Lit.int .i64 a1).wf = true) (w : World) :
    Calls Try.prog 4 #[.int .i64 a0, .int .i64 a1] w fun e w' => e = .returned (.bool true) ∧ Below w.heap.size w w' := by
  by_cases h : Tic.Valid a0 a1
  · go_enter Try.func4, Try.ntmps4
    go_wp2_with fail
    refine (sIsOdd_yes _ _ _ h).mono ?_; rintro e w1 ⟨rfl, rfl⟩
    go_wp2_with fail
    refine (iIsOdd_yes _ _ _ h).mono ?_; rintro e w1 ⟨rfl, hb⟩
    have HB := Lib.hid hb
    clear hb
    generalize oddS a0.toNat a1.toNat = b
    go_wp2_with fail
    go_ret
    exact ⟨ret_bool (by cases b <;> rfl), HB.out⟩
  · go_enter Try.func4, Try.ntmps4
    go_wp2_with fail
    refine (sIsOdd_no _ _ _ h).mono ?_; rintro e w1 ⟨rfl, rfl⟩
    go_wp2_with fail
    refine (iIsOdd_no _ _ _ h).mono ?_; rintro e w1 ⟨rfl, rfl⟩
    go_wp2_with fail
    go_ret
    exact ⟨rfl, Below.refl _ _⟩

end Go.Proofs.Ythgcdibkdaipgaa
