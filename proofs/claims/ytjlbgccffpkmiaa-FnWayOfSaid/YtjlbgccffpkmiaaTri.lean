/-
  Contracts of the small functions on triads, of the program and of the model: the three steps and what is behind a letter.
-/
import Derived.Test.YtjlbgccffpkmiaaLow
import Derived.Test.YtjlbgccffpkmiaaTriNum
import Derived.Below
namespace Go.Proofs.Ytjlbgccffpkmiaa
open Go.RowKit
set_option linter.unusedVariables false

theorem vTri_yes (t : Int) (w : World) (h : Tic.Tri t) :
    Calls Try.prog 22 #[.int .i64 t] w fun e w' => e = .returned (.bool true) ∧ w = w' := by
  obtain ⟨h1, h2⟩ := h
  go_enter Try.func22, Try.ntmps22
  go_wp2
  go_ret
  exact ⟨rfl, rfl⟩
theorem vTri_no (t : Int) (w : World) (h : ¬ Tic.Tri t) :
    Calls Try.prog 22 #[.int .i64 t] w fun e w' => e = .returned (.bool false) ∧ w = w' := by
  by_cases h1 : t < 0
  · clear h
    go_enter Try.func22, Try.ntmps22
    go_wp2
    go_ret
    exact ⟨rfl, rfl⟩
  · have h2 : ¬ t < 24 := fun h2 => h ⟨by omega, h2⟩
    clear h
    go_enter Try.func22, Try.ntmps22
    go_wp2
    go_ret
    exact ⟨rfl, rfl⟩
theorem root_any (t : Int) (w : World) (h : Tic.Tri t) :
    Calls Try.prog 34 #[.int .i64 t] w fun e w' => e = .returned (.int .i64 (t / 2)) ∧ w = w' := by
  obtain ⟨h1, h2⟩ := h
  go_enter Try.func34, Try.ntmps34
  go_wp2
  go_ret
  exact ⟨rfl, rfl⟩
theorem shape_any (t : Int) (w : World) (h : Tic.Tri t) :
    Calls Try.prog 32 #[.int .i64 t] w fun e w' => e = .returned (.int .i64 (t % 2)) ∧ w = w' := by
  obtain ⟨h1, h2⟩ := h
  go_enter Try.func32, Try.ntmps32
  go_wp2
  go_ret
  exact ⟨rfl, rfl⟩
theorem triadOn_any (r s : Int) (w : World) (h1 : -1000 ≤ r) (h2 : r ≤ 1000) (h3 : 0 ≤ s) (h4 : s ≤ 1) :
    Calls Try.prog 33 #[.int .i64 r, .int .i64 s] w fun e w' => e = .returned (.int .i64 (2 * (r % 12) + s)) ∧ w = w' := by
  have h5 := Int.emod_nonneg r (b := 12) (by omega)
  have h6 := Int.emod_lt_of_pos r (b := 12) (by omega)
  go_enter Try.func33, Try.ntmps33
  go_wp2_with fail
  refine (roundCircle_any _ _ _ h1 h2 (by omega) (by omega)).mono ?_; rintro e w1 ⟨rfl, rfl⟩
  go_wp2
  go_ret
  exact ⟨rfl, rfl⟩
theorem across_any (t a : Int) (w : World) (h : Tic.Tri t) (h1 : -20 ≤ a) (h2 : a ≤ 20) :
    Calls Try.prog 31 #[.int .i64 t, .int .i64 a] w fun e w' => e = .returned (.int .i64 (Tic.acr t a)) ∧ w = w' := by
  have g1 := h.1
  have g2 := h.2
  by_cases hm : t % 2 = 1
  · have HA := Lib.hid (show Tic.acr t a = 2 * ((t / 2 - a) % 12) by unfold Tic.acr; rw [if_pos hm])
    go_enter Try.func31, Try.ntmps31
    go_wp2_with fail
    refine (shape_any _ _ h).mono ?_; rintro e w1 ⟨rfl, rfl⟩
    go_wp2_with fail
    refine (root_any _ _ h).mono ?_; rintro e w1 ⟨rfl, rfl⟩
    go_wp2_with fail
    refine (triadOn_any _ _ _ (by omega) (by omega) (by omega) (by omega)).mono ?_; rintro e w1 ⟨rfl, rfl⟩
    go_wp2
    go_ret
    exact ⟨ret_int HA.out.symm, rfl⟩
  · have hm0 : t % 2 = 0 := by omega
    have HA := Lib.hid (show Tic.acr t a = 2 * ((t / 2 + a) % 12) + 1 by unfold Tic.acr; rw [if_neg hm])
    clear hm
    go_enter Try.func31, Try.ntmps31
    go_wp2_with fail
    refine (shape_any _ _ h).mono ?_; rintro e w1 ⟨rfl, rfl⟩
    go_wp2_with fail
    refine (root_any _ _ h).mono ?_; rintro e w1 ⟨rfl, rfl⟩
    go_wp2_with fail
    refine (triadOn_any _ _ _ (by omega) (by omega) (by omega) (by omega)).mono ?_; rintro e w1 ⟨rfl, rfl⟩
    go_wp2
    go_ret
    exact ⟨ret_int HA.out.symm, rfl⟩
theorem stepL_any (t : Int) (w : World) (h : Tic.Tri t) :
    Calls Try.prog 28 #[.int .i64 t] w fun e w' => e = .returned (.int .i64 (Tic.stp t 76)) ∧ w = w' := by
  go_enter Try.func28, Try.ntmps28
  go_wp2_with fail
  refine (across_any _ _ _ h (by omega) (by omega)).mono ?_; rintro e w1 ⟨rfl, rfl⟩
  go_wp2
  go_ret
  exact ⟨rfl, rfl⟩
theorem stepP_any (t : Int) (w : World) (h : Tic.Tri t) :
    Calls Try.prog 29 #[.int .i64 t] w fun e w' => e = .returned (.int .i64 (Tic.stp t 80)) ∧ w = w' := by
  go_enter Try.func29, Try.ntmps29
  go_wp2_with fail
  refine (across_any _ _ _ h (by omega) (by omega)).mono ?_; rintro e w1 ⟨rfl, rfl⟩
  go_wp2
  go_ret
  exact ⟨rfl, rfl⟩
theorem stepR_any (t : Int) (w : World) (h : Tic.Tri t) :
    Calls Try.prog 30 #[.int .i64 t] w fun e w' => e = .returned (.int .i64 (Tic.stp t 82)) ∧ w = w' := by
  go_enter Try.func30, Try.ntmps30
  go_wp2_with fail
  refine (across_any _ _ _ h (by omega) (by omega)).mono ?_; rintro e w1 ⟨rfl, rfl⟩
  go_wp2
  go_ret
  exact ⟨rfl, rfl⟩
end Go.Proofs.Ytjlbgccffpkmiaa
