/-
  Contracts of the least prime of a number, of the program and of the model.
-/
import Derived.Test.YtgpbgbcdlebaiaaLow
import Derived.Test.YtgpbgbcdlebaiaaFactNum
namespace Go.Proofs.Ytgpbgbcdlebaiaa
open Go.RowKit
set_option linter.unusedVariables false

set_option maxHeartbeats 1000000 in
theorem leastPrime_any (p : Int) (w : World) (h1 : 2 ≤ p) (h2 : p ≤ 12) :
    Calls Try.prog 68 #[.int .i64 p] w fun e w' => e = .returned (.tuple #[.int .i64 (Tic.lp p.toNat : Int), .bool (Tic.pw p.toNat)]) ∧ w = w' := by
  rcases (show p = 2 ∨ p = 3 ∨ p = 4 ∨ p = 5 ∨ p = 6 ∨ p = 7 ∨ p = 8 ∨ p = 9 ∨ p = 10 ∨ p = 11 ∨ p = 12 by omega) with rfl | rfl | rfl | rfl | rfl | rfl | rfl | rfl | rfl | rfl | rfl
  all_goals
    go_enter Try.func68, Try.ntmps68
    go_wp2
    refine wp_loop_rounds 12 ?_
    repeat (rw [rounds_succ]; go_wp2)
    refine wp_loop_rounds 12 ?_
    repeat (rw [rounds_succ]; go_wp2)
    go_ret2
    exact ⟨rfl, rfl⟩
set_option maxHeartbeats 1000000 in
theorem primeOf_any (p : Int) (w : World) (h1 : 2 ≤ p) (h2 : p ≤ 12) :
    Calls Try.prog 70 #[.int .i64 p] w fun e w' => e = .returned (.int .i64 (if Tic.pw p.toNat then (Tic.lp p.toNat : Int) else 0)) ∧ w = w' := by
  rcases (show p = 2 ∨ p = 3 ∨ p = 4 ∨ p = 5 ∨ p = 6 ∨ p = 7 ∨ p = 8 ∨ p = 9 ∨ p = 10 ∨ p = 11 ∨ p = 12 by omega) with rfl | rfl | rfl | rfl | rfl | rfl | rfl | rfl | rfl | rfl | rfl
  all_goals
    go_enter Try.func70, Try.ntmps70
    go_wp2
    refine wp_loop_rounds 12 ?_
    repeat (rw [rounds_succ]; go_wp2)
    refine wp_loop_rounds 12 ?_
    repeat (rw [rounds_succ]; go_wp2)
    go_ret
    exact ⟨rfl, rfl⟩
end Go.Proofs.Ytgpbgbcdlebaiaa
