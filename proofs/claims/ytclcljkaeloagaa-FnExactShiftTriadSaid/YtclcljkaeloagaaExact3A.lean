/-
  The walks of the exact laws of ValidTriad, ShiftTriad and WalkOf.
-/
import Derived.Test.YtclcljkaeloagaaTriWalk
namespace Go.Proofs.Ytclcljkaeloagaa
open Go.RowKit
set_option linter.unusedVariables false

theorem sValidTriad_yes (t : Int) (w : World) (h : Tic.Tri t) :
    Calls Try.prog 8 #[.int .i64 t] w fun e w' => e = .returned (.bool true) ∧ w = w' := by
  have h1 := h.1
  have h2 : t ≤ 23 := by have := h.2; omega
  go_enter Try.func8, Try.ntmps8
  go_wp2_with fail
  refine (inRange_yes _ _ _ _ h1 h2).mono ?_; rintro e w1 ⟨rfl, rfl⟩
  go_wp2_with fail
  go_ret
  exact ⟨rfl, rfl⟩
theorem sValidTriad_no (t : Int) (w : World) (h : ¬ Tic.Tri t) :
    Calls Try.prog 8 #[.int .i64 t] w fun e w' => e = .returned (.bool false) ∧ w = w' := by
  have h2 : t < 0 ∨ 23 < t := by unfold Tic.Tri at h; omega
  clear h
  go_enter Try.func8, Try.ntmps8
  go_wp2_with fail
  refine (inRange_no _ _ _ _ h2).mono ?_; rintro e w1 ⟨rfl, rfl⟩
  go_wp2_with fail
  go_ret
  exact ⟨rfl, rfl⟩
theorem sShiftTriad_yes (t k : Int) (w : World) (h : Tic.Tri t) (hk : Tic.Turn k) :
    Calls Try.prog 12 #[.int .i64 t, .int .i64 k] w fun e w' => e = .returned (.int .i64 (Tic.shT t k)) ∧ w = w' := by
  have h1 := h.1
  have h2 : t ≤ 23 := by have := h.2; omega
  obtain ⟨k1, k2⟩ := hk
  have h5 := Int.emod_nonneg (t / 2 + k) (b := 12) (by omega)
  have h6 := Int.emod_lt_of_pos (t / 2 + k) (b := 12) (by omega)
  go_enter Try.func12, Try.ntmps12
  go_wp2_with fail
  refine (inRange_yes _ _ _ _ h1 h2).mono ?_; rintro e w1 ⟨rfl, rfl⟩
  go_wp2_with fail
  refine (inRange_yes _ _ _ _ k1 k2).mono ?_; rintro e w1 ⟨rfl, rfl⟩
  go_wp2_with fail
  refine (rest_any _ _ _ (by omega) (by omega) (by omega) (by omega)).mono ?_; rintro e w1 ⟨rfl, rfl⟩
  go_wp2_with fail
  go_ret
  exact ⟨rfl, rfl⟩
theorem sShiftTriad_no (t k : Int) (w : World) (h : ¬ (Tic.Tri t ∧ Tic.Turn k)) :
    Calls Try.prog 12 #[.int .i64 t, .int .i64 k] w fun e w' => e = .returned (.int .i64 (-1)) ∧ w = w' := by
  by_cases ht : Tic.Tri t
  · have hk : k < -50 ∨ 50 < k := by
      have : ¬ Tic.Turn k := fun hk => h ⟨ht, hk⟩
      unfold Tic.Turn at this
      omega
    have h1 := ht.1
    have h2 : t ≤ 23 := by have := ht.2; omega
    clear h
    go_enter Try.func12, Try.ntmps12
    go_wp2_with fail
    refine (inRange_yes _ _ _ _ h1 h2).mono ?_; rintro e w1 ⟨rfl, rfl⟩
    go_wp2_with fail
    refine (inRange_no _ _ _ _ hk).mono ?_; rintro e w1 ⟨rfl, rfl⟩
    go_wp2_with fail
    go_ret
    exact ⟨rfl, rfl⟩
  · have h2 : t < 0 ∨ 23 < t := by unfold Tic.Tri at ht; omega
    clear h
    go_enter Try.func12, Try.ntmps12
    go_wp2_with fail
    refine (inRange_no _ _ _ _ h2).mono ?_; rintro e w1 ⟨rfl, rfl⟩
    go_wp2_with fail
    go_ret
    exact ⟨rfl, rfl⟩
theorem iShiftTriad_yes (t k : Int) (w : World) (h : Tic.Tri t) (hk : Tic.Turn k) :
    Calls Try.prog 13 #[.int .i64 t, .int .i64 k] w fun e w' => e = .returned (.int .i64 (Tic.shT t k)) ∧ w = w' := by
  have h1 := h.1
  have h2 := h.2
  have k1 := hk.1
  have k2 := hk.2
  go_enter Try.func13, Try.ntmps13
  go_wp2_with fail
  refine (vTri_yes _ _ h).mono ?_; rintro e w1 ⟨rfl, rfl⟩
  go_wp2_with fail
  refine (shiftOk_yes _ _ hk).mono ?_; rintro e w1 ⟨rfl, rfl⟩
  go_wp2_with fail
  refine (root_any _ _ h).mono ?_; rintro e w1 ⟨rfl, rfl⟩
  go_wp2_with fail
  refine (shape_any _ _ h).mono ?_; rintro e w1 ⟨rfl, rfl⟩
  go_wp2_with fail
  refine (triadOn_any _ _ _ (by omega) (by omega) (by omega) (by omega)).mono ?_; rintro e w1 ⟨rfl, rfl⟩
  go_wp2_with fail
  go_ret
  exact ⟨rfl, rfl⟩
theorem iShiftTriad_no (t k : Int) (w : World) (h : ¬ (Tic.Tri t ∧ Tic.Turn k)) :
    Calls Try.prog 13 #[.int .i64 t, .int .i64 k] w fun e w' => e = .returned (.int .i64 (-1)) ∧ w = w' := by
  by_cases ht : Tic.Tri t
  · have hk : ¬ Tic.Turn k := fun hk => h ⟨ht, hk⟩
    clear h
    go_enter Try.func13, Try.ntmps13
    go_wp2_with fail
    refine (vTri_yes _ _ ht).mono ?_; rintro e w1 ⟨rfl, rfl⟩
    go_wp2_with fail
    refine (shiftOk_no _ _ hk).mono ?_; rintro e w1 ⟨rfl, rfl⟩
    go_wp2_with fail
    go_ret
    exact ⟨rfl, rfl⟩
  · clear h
    go_enter Try.func13, Try.ntmps13
    go_wp2_with fail
    refine (vTri_no _ _ ht).mono ?_; rintro e w1 ⟨rfl, rfl⟩
    go_wp2_with fail
    go_ret
    exact ⟨rfl, rfl⟩
theorem FnExactValidTriad_walk (a0 : Int) (w0 : (Lit.int .i64 a0).wf = true) (w : World) :
    Calls Try.prog 3 #[.int .i64 a0] w fun e w' => e = .returned (.bool true) ∧ Below w.heap.size w w' := by
  by_cases h : Tic.Tri a0
  · go_enter Try.func3, Try.ntmps3
    go_wp2_with fail
    refine (sValidTriad_yes _ _ h).mono ?_; rintro e w1 ⟨rfl, rfl⟩
    go_wp2_with fail
    refine (vTri_yes _ _ h).mono ?_; rintro e w1 ⟨rfl, rfl⟩
    go_wp2_with fail
    go_ret
    exact ⟨rfl, Below.refl _ _⟩
  · go_enter Try.func3, Try.ntmps3
    go_wp2_with fail
    refine (sValidTriad_no _ _ h).mono ?_; rintro e w1 ⟨rfl, rfl⟩
    go_wp2_with fail
    refine (vTri_no _ _ h).mono ?_; rintro e w1 ⟨rfl, rfl⟩
    go_wp2_with fail
    go_ret
    exact ⟨rfl, Below.refl _ _⟩
theorem FnExactShiftTriad_walk (a0 a1 : Int) (w0 : (Lit.int .i64 a0).wf = true) (w1 : (Lit.int .i64 a1).wf = true) (w : World) :
    Calls Try.prog 5 #[.int .i64 a0, .int .i64 a1] w fun e w' => e = .returned (.bool true) ∧ Below w.heap.size w w' := by
  by_cases h : Tic.Tri a0 ∧ Tic.Turn a1
  · go_enter Try.func5, Try.ntmps5
    go_wp2_with fail
    refine (sShiftTriad_yes _ _ _ h.1 h.2).mono ?_; rintro e w1 ⟨rfl, rfl⟩
    go_wp2_with fail
    refine (iShiftTriad_yes _ _ _ h.1 h.2).mono ?_; rintro e w1 ⟨rfl, rfl⟩
    go_wp2_with fail
    go_ret
    exact ⟨rfl, Below.refl _ _⟩
  · go_enter Try.func5, Try.ntmps5
    go_wp2_with fail
    refine (sShiftTriad_no _ _ _ h).mono ?_; rintro e w1 ⟨rfl, rfl⟩
    go_wp2_with fail
    refine (iShiftTriad_no _ _ _ h).mono ?_; rintro e w1 ⟨rfl, rfl⟩
    go_wp2_with fail
    go_ret
    exact ⟨rfl, Below.refl _ _⟩
theorem FnExactWalkOf_walk (a0 : Int) (s : ByteArray) (w0 : (Lit.int .i64 a0).wf = true) (hm : s.size ≤ maxLen) (w : World) :
    Calls Try.prog 4 #[.int .i64 a0, .string s] w fun e w' => e = .returned (.bool true) ∧ Below w.heap.size w w' := by
  by_cases hl : 1048576 < s.size
  · unfold maxLen at hm
    go_enter Try.func4, Try.ntmps4
    go_wp2_with fail
    go_ret
    exact ⟨rfl, Below.refl _ _⟩
  have hlen : s.size ≤ 1048576 := by omega
  clear hl
  by_cases h : Tic.Tri a0
  · have HM := Lib.hid hm
    have HS := Lib.hid (fun w => sWalkOf_yes a0 s w h hm)
    have HI := Lib.hid (fun w => iWalkOf_yes a0 s w h hm)
    clear hm
    generalize (if Tic.Wrd s then Tic.wlk a0 s s.size else -1) = r at HS HI
    go_enter Try.func4, Try.ntmps4
    go_wp2_with fail
    refine (HS.out _).mono ?_; rintro e w1 ⟨rfl, rfl⟩
    go_wp2_with fail
    refine (HI.out _).mono ?_; rintro e w1 ⟨rfl, hb⟩
    go_wp2_with fail
    go_ret
    exact ⟨ret_bool (by simp), hb⟩
  · clear hm
    go_enter Try.func4, Try.ntmps4
    go_wp2_with fail
    refine (sWalkOf_no _ _ _ h).mono ?_; rintro e w1 ⟨rfl, rfl⟩
    go_wp2_with fail
    refine (iWalkOf_tri _ _ _ h).mono ?_; rintro e w1 ⟨rfl, rfl⟩
    go_wp2_with fail
    go_ret
    exact ⟨rfl, Below.refl _ _⟩
end Go.Proofs.Ytclcljkaeloagaa
