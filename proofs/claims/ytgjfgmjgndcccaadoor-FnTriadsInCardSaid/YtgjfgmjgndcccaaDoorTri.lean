/-
  Contracts of the small functions on triads, of the program and of the model: the three steps and what is behind a letter.
-/
import Derived.Test.YtgjfgmjgndcccaaDoorLow
import Derived.Test.YtgjfgmjgndcccaaDoorTriNum
import Derived.Below
namespace Go.Proofs.YtgjfgmjgndcccaaDoor
open Go.RowKit
set_option linter.unusedVariables false

theorem vTri_yes (t : Int) (w : World) (h : Tic.Tri t) :
    Calls Tryd.prog 19 #[.int .i64 t] w fun e w' => e = .returned (.bool true) ∧ w = w' := by
  obtain ⟨h1, h2⟩ := h
  go_enter Tryd.func19, Tryd.ntmps19
  go_wp2
  go_ret
  exact ⟨rfl, rfl⟩
theorem vTri_no (t : Int) (w : World) (h : ¬ Tic.Tri t) :
    Calls Tryd.prog 19 #[.int .i64 t] w fun e w' => e = .returned (.bool false) ∧ w = w' := by
  by_cases h1 : t < 0
  · clear h
    go_enter Tryd.func19, Tryd.ntmps19
    go_wp2
    go_ret
    exact ⟨rfl, rfl⟩
  · have h2 : ¬ t < 24 := fun h2 => h ⟨by omega, h2⟩
    clear h
    go_enter Tryd.func19, Tryd.ntmps19
    go_wp2
    go_ret
    exact ⟨rfl, rfl⟩
theorem root_any (t : Int) (w : World) (h : Tic.Tri t) :
    Calls Tryd.prog 30 #[.int .i64 t] w fun e w' => e = .returned (.int .i64 (t / 2)) ∧ w = w' := by
  obtain ⟨h1, h2⟩ := h
  go_enter Tryd.func30, Tryd.ntmps30
  go_wp2
  go_ret
  exact ⟨rfl, rfl⟩
theorem shape_any (t : Int) (w : World) (h : Tic.Tri t) :
    Calls Tryd.prog 28 #[.int .i64 t] w fun e w' => e = .returned (.int .i64 (t % 2)) ∧ w = w' := by
  obtain ⟨h1, h2⟩ := h
  go_enter Tryd.func28, Tryd.ntmps28
  go_wp2
  go_ret
  exact ⟨rfl, rfl⟩
end Go.Proofs.YtgjfgmjgndcccaaDoor
