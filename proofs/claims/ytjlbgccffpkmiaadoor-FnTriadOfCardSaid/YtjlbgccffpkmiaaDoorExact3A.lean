/-
  The walks of the exact laws of ValidTriad, ShiftTriad and WalkOf.
-/
import Derived.Test.YtjlbgccffpkmiaaDoorTriWalk
namespace Go.Proofs.YtjlbgccffpkmiaaDoor
open Go.RowKit
set_option linter.unusedVariables false

theorem sValidTriad_yes (t : Int) (w : World) (h : Tic.Tri t) :
    Calls Tryd.prog 11 #[.int .i64 t] w fun e w' => e = .returned (.bool true) ∧ w = w' := by
  have h1 := h.1
  have h2 : t ≤ 23 := by have := h.2; omega
  go_enter Tryd.func11, Tryd.ntmps11
  go_wp2_with fail
  refine (inRange_yes _ _ _ _ h1 h2).mono ?_; rintro e w1 ⟨rfl, rfl⟩
  go_wp2_with fail
  go_ret
  exact ⟨rfl, rfl⟩
theorem sValidTriad_no (t : Int) (w : World) (h : ¬ Tic.Tri t) :
    Calls Tryd.prog 11 #[.int .i64 t] w fun e w' => e = .returned (.bool false) ∧ w = w' := by
  have h2 : t < 0 ∨ 23 < t := by unfold Tic.Tri at h; omega
  clear h
  go_enter Tryd.func11, Tryd.ntmps11
  go_wp2_with fail
  refine (inRange_no _ _ _ _ h2).mono ?_; rintro e w1 ⟨rfl, rfl⟩
  go_wp2_with fail
  go_ret
  exact ⟨rfl, rfl⟩
theorem sShiftTriad_yes (t k : Int) (w : World) (h : Tic.Tri t) (hk : Tic.Turn k) :
    Calls Tryd.prog 24 #[.int .i64 t, .int .i64 k] w fun e w' => e = .returned (.int .i64 (Tic.shT t k)) ∧ w = w' := by
  have h1 := h.1
  have h2 : t ≤ 23 := by have := h.2; omega
  obtain ⟨k1, k2⟩ := hk
  have h5 := Int.emod_nonneg (t / 2 + k) (b := 12) (by omega)
  have h6 := Int.emod_lt_of_pos (t / 2 + k) (b := 12) (by omega)
  go_enter Tryd.func24, Tryd.ntmps24
  go_wp2_with fail
  refine (inRange_yes _ _ _ _ h1 h2).mono ?_; rintro e w1 ⟨rfl, rfl⟩
  go_wp2_with fail
  refine (inRange_yes _ _ _ _ k1 k2).mono ?_; rintro e w1 ⟨rfl, rfl⟩
  go_wp2_with fail
  refine (rest_any _ _ _ (by omega) (by omega) (by omega) (by omega)).mono ?_; rintro e w1 ⟨rfl, rfl⟩
  go_wp2_with fail
  go_ret
  exact ⟨rfl, rfl⟩
theorem sShiftTriad_no (t k : Int) (w : World) (h : ¬ (Tic.Tri t ∧ Tic.Turn k)) :
    Calls Tryd.prog 24 #[.int .i64 t, .int .i64 k] w fun e w' => e = .returned (.int .i64 (-1)) ∧ w = w' := by
  by_cases ht : Tic.Tri t
  · have hk : k < -50 ∨ 50 < k := by
      have : ¬ Tic.Turn k := fun hk => h ⟨ht, hk⟩
      unfold Tic.Turn at this
      omega
    have h1 := ht.1
    have h2 : t ≤ 23 := by have := ht.2; omega
    clear h
    go_enter Tryd.func24, Tryd.ntmps24
    go_wp2_with fail
    refine (inRange_yes _ _ _ _ h1 h2).mono ?_; rintro e w1 ⟨rfl, rfl⟩
    go_wp2_with fail
    refine (inRange_no _ _ _ _ hk).mono ?_; rintro e w1 ⟨rfl, rfl⟩
    go_wp2_with fail
    go_ret
    exact ⟨rfl, rfl⟩
  · have h2 : t < 0 ∨ 23 < t := by unfold Tic.Tri at ht; omega
    clear h
    go_enter Tryd.func24, Tryd.ntmps24
    go_wp2_with fail
    refine (inRange_no _ _ _ _ h2).mono ?_; rintro e w1 ⟨rfl, rfl⟩
    go_wp2_with fail
    go_ret
    exact ⟨rfl, rfl⟩
theorem iShiftTriad_yes (t k : Int) (w : World) (h : Tic.Tri t) (hk : Tic.Turn k) :
    Calls Tryd.prog 23 #[.int .i64 t, .int .i64 k] w fun e w' => e = .returned (.int .i64 (Tic.shT t k)) ∧ w = w' := by
  have h1 := h.1
  have h2 := h.2
  have k1 := hk.1
  have k2 := hk.2
  go_enter Tryd.func23, Tryd.ntmps23
  go_wp2_with fail
  refine (vTri_yes _ _ h).mono ?_; rintro e w1 ⟨rfl, rfl⟩
  go_wp2_with fail
  refine (shiftOk_yes _ _ hk).mono ?_; rintro e w1 ⟨rfl, rfl⟩
  go_wp2_with fail
  refine (root_any _ _ h).mono ?_; rintro e w1 ⟨rfl, rfl⟩
  go_wp2_with fail
  refine (shape_any _ _ h).mono ?_; rintro e w1 ⟨rfl, rfl⟩
  go_wp2_with fail
  refine (triadOn_any _ _ _ (by omega) (by omega) (by omega) (by omega)).mono ?_; rintro e w1 ⟨rfl, rfl⟩
  go_wp2_with fail
  go_ret
  exact ⟨rfl, rfl⟩
theorem iShiftTriad_no (t k : Int) (w : World) (h : ¬ (Tic.Tri t ∧ Tic.Turn k)) :
    Calls Tryd.prog 23 #[.int .i64 t, .int .i64 k] w fun e w' => e = .returned (.int .i64 (-1)) ∧ w = w' := by
  by_cases ht : Tic.Tri t
  · have hk : ¬ Tic.Turn k := fun hk => h ⟨ht, hk⟩
    clear h
    go_enter Tryd.func23, Tryd.ntmps23
    go_wp2_with fail
    refine (vTri_yes _ _ ht).mono ?_; rintro e w1 ⟨rfl, rfl⟩
    go_wp2_with fail
    refine (shiftOk_no _ _ hk).mono ?_; rintro e w1 ⟨rfl, rfl⟩
    go_wp2_with fail
    go_ret
    exact ⟨rfl, rfl⟩
  · clear h
    go_enter Tryd.func23, Tryd.ntmps23
    go_wp2_with fail
    refine (vTri_no _ _ ht).mono ?_; rintro e w1 ⟨rfl, rfl⟩
    go_wp2_with fail
    go_ret
    exact ⟨rfl, rfl⟩
end Go.Proofs.YtjlbgccffpkmiaaDoor
