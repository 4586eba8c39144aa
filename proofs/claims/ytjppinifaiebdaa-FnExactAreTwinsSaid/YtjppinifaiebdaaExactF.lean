/-
  The walk of the exact law of AreTwins.
-/
import Derived.Test.YtjppinifaiebdaaTwins
namespace Go.Proofs.Ytjppinifaiebdaa
open Go.RowKit
set_option linter.unusedVariables false

theorem FnExactAreTwins_walk (a0 a1 a2 : Int) (w0 : (Lit.int .i64 a0).wf = true) (w1 : (Lit.int .i64 a1).wf = true) (w2 : (Lit.int .i64 a2).wf = true) (w : World) :
    Calls Try.prog 11 #[.int .i64 a0, .int .i64 a1, .int .i64 a2] w fun e w' => e = .returned (.bool true) ∧ Below w.heap.size w w' := by
  by_cases h : Tic.Valid a0 a1 ∧ Tic.Valid a0 a2
  · obtain ⟨h1, h2⟩ := h
    go_enter Try.func11, Try.ntmps11
    go_wp2_with fail
    refine (sAreTwins_yes _ _ _ _ h1 h2).mono ?_; rintro e w1 ⟨rfl, hb1⟩
    have HB1 := Lib.hid hb1
    clear hb1
    go_wp2_with fail
    refine (iAreTwins_yes _ _ _ _ h1 h2).mono ?_; rintro e w2 ⟨rfl, hb⟩
    generalize twins a0.toNat a1.toNat a2.toNat = tw
    cases tw
    all_goals
      go_wp2_with fail
      go_ret
      exact ⟨rfl, HB1.out.trans (hb.mono HB1.out.size)⟩
  · go_enter Try.func11, Try.ntmps11
    go_wp2_with fail
    refine (sAreTwins_no _ _ _ _ h).mono ?_; rintro e w1 ⟨rfl, rfl⟩
    go_wp2_with fail
    refine (iAreTwins_no _ _ _ _ h).mono ?_; rintro e w1 ⟨rfl, rfl⟩
    go_wp2_with fail
    go_ret
    exact ⟨rfl, Below.refl _ _⟩
end Go.Proofs.Ytjppinifaiebdaa
