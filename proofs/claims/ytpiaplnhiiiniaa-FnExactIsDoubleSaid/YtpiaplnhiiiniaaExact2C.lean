/-
  The walks of the exact laws of IsEven and IsDouble.
-/
import Derived.Test.YtpiaplnhiiiniaaEven
namespace Go.Proofs.Ytpiaplnhiiiniaa
open Go.RowKit
set_option linter.unusedVariables false

theorem FnExactIsEven_walk (a0 a1 : Int) (w0 : (Lit.int .i64 a0).wf = true) (w1 : (Lit.int .i64 a1).wf = true) (w : World) :
    Calls Try.prog 7 #[.int .i64 a0, .int .i64 a1] w fun e w' => e = .returned (.bool true) ∧ Below w.heap.size w w' := by
  by_cases h : EvOk a0 a1
  · go_enter Try.func7, Try.ntmps7
    go_wp2_with fail
    refine (sIsEven_yes _ _ _ h).mono ?_; rintro e w1 ⟨rfl, hb⟩
    go_wp2_with fail
    refine (iIsEven_yes _ _ _ h).mono ?_; rintro e w2 ⟨rfl, hb2⟩
    have HB := Lib.hid (hb.trans (hb2.mono hb.size))
    generalize allL Tic.okL a0.toNat a1.toNat (Tic.rk a1.toNat a0.toNat - 1) = b
    go_wp2_with fail
    go_ret
    exact ⟨ret_bool (by cases b <;> rfl), HB.out⟩
  · go_enter Try.func7, Try.ntmps7
    go_wp2_with fail
    refine (sIsEven_no _ _ _ h).mono ?_; rintro e w1 ⟨rfl, rfl⟩
    go_wp2_with fail
    refine (iIsEven_no _ _ _ h).mono ?_; rintro e w1 ⟨rfl, rfl⟩
    go_wp2_with fail
    go_ret
    exact ⟨rfl, Below.refl _ _⟩
theorem FnExactIsDouble_walk (a0 a1 : Int) (w0 : (Lit.int .i64 a0).wf = true) (w1 : (Lit.int .i64 a1).wf = true) (w : World) :
    Calls Try.prog 9 #[.int .i64 a0, .int .i64 a1] w fun e w' => e = .returned (.bool true) ∧ Below w.heap.size w w' := by
  by_cases h : DbOk a0 a1
  · go_enter Try.func9, Try.ntmps9
    go_wp2_with fail
    refine (sIsDouble_yes _ _ _ h).mono ?_; rintro e w1 ⟨rfl, hb⟩
    go_wp2_with fail
    refine (iIsDouble_yes _ _ _ h).mono ?_; rintro e w2 ⟨rfl, hb2⟩
    have HB := Lib.hid (hb.trans (hb2.mono hb.size))
    generalize allL (fun L => L.length == 2) a0.toNat a1.toNat (Tic.rk a1.toNat a0.toNat - 1) = b
    go_wp2_with fail
    go_ret
    exact ⟨ret_bool (by cases b <;> rfl), HB.out⟩
  · go_enter Try.func9, Try.ntmps9
    go_wp2_with fail
    refine (sIsDouble_no _ _ _ h).mono ?_; rintro e w1 ⟨rfl, rfl⟩
    go_wp2_with fail
    refine (iIsDouble_no _ _ _ h).mono ?_; rintro e w1 ⟨rfl, hb⟩
    go_wp2_with fail
    go_ret
    exact ⟨rfl, hb⟩
end Go.Proofs.Ytpiaplnhiiiniaa
