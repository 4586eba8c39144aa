/-
  Contracts of StepsFor and StepsBy, of the program and of the model.
-/
import Derived.Test.YtpcbplademohnaaDoorRaise
namespace Go.Proofs.YtpcbplademohnaaDoor
open Go.RowKit
set_option linter.unusedVariables false
set_option maxRecDepth 20000

theorem mul_bd {x y : Int} {X Y : Nat} (h0 : 0 ≤ x) (h1 : x ≤ X) (h2 : -(Y : Int) ≤ y) (h3 : y ≤ Y) : -((X * Y : Nat) : Int) ≤ x * y ∧ x * y ≤ ((X * Y : Nat) : Int) := by
  have a1 : x * y ≤ x * Y := Int.mul_le_mul_of_nonneg_left h3 h0
  have a2 : x * (-(Y : Int)) ≤ x * y := Int.mul_le_mul_of_nonneg_left h2 h0
  have a3 : x * (Y : Int) ≤ X * Y := Int.mul_le_mul_of_nonneg_right h1 (by omega)
  rw [Int.mul_neg] at a2
  rw [Int.natCast_mul]
  omega
/-- what the search for the steps asks -/
theorem stp_pow {P n : Nat} (hp : P = 3 ∨ P = 5) (h0 : 1 ≤ n) (hn : n ≤ 12) : ∃ X : Nat, P ^ (2 * n) = X ∧ Fits X ∧ ∀ k, k ≤ Tic.stp P n → ∃ Y : Nat, 2 ^ (2 * k + 1) = Y ∧ Fits Y ∧ (Y < X ↔ k < Tic.stp P n) := by
  have hb := Tic.stp_le hp hn
  refine ⟨_, rfl, ?_, fun k hk => ⟨_, rfl, ?_, Tic.stp_lt hp h0 hn (by omega)⟩⟩
  · unfold Fits; exact Nat.lt_of_le_of_lt hb.2 (by decide)
  · have : 2 ^ (2 * k + 1) ≤ 2 ^ 57 := Nat.pow_le_pow_right (by decide) (by omega)
    unfold Fits; exact Nat.lt_of_le_of_lt this (by decide)

theorem parts_any (n : Int) (w : World) : Calls Tryd.prog 24 #[.int .i64 n] w fun e w' => e = .returned (.bool (decide (1 ≤ n ∧ n ≤ 12))) ∧ w = w' := by
  by_cases h1 : 1 ≤ n
  · by_cases h2 : n ≤ 12
    · rw [decide_eq_true ⟨h1, h2⟩]
      go_enter Tryd.func24, Tryd.ntmps24
      go_wp2
      go_ret
      exact ⟨rfl, rfl⟩
    · rw [decide_eq_false (fun h => h2 h.2)]
      go_enter Tryd.func24, Tryd.ntmps24
      go_wp2
      go_ret
      exact ⟨rfl, rfl⟩
  · rw [decide_eq_false (fun h => h1 h.1)]
    go_enter Tryd.func24, Tryd.ntmps24
    go_wp2
    go_ret
    exact ⟨rfl, rfl⟩
theorem parts_yes (n : Int) (w : World) (h1 : 1 ≤ n) (h2 : n ≤ 12) : Calls Tryd.prog 24 #[.int .i64 n] w fun e w' => e = .returned (.bool true) ∧ w = w' := by
  have := parts_any n w
  rwa [decide_eq_true ⟨h1, h2⟩] at this
theorem parts_no (n : Int) (w : World) (h : n < 1 ∨ 12 < n) : Calls Tryd.prog 24 #[.int .i64 n] w fun e w' => e = .returned (.bool false) ∧ w = w' := by
  have := parts_any n w
  rwa [decide_eq_false (by omega)] at this
/-- what StepsFor tells -/
def stpI (n p : Int) : Int := if 1 ≤ n ∧ n ≤ 12 ∧ (p = 3 ∨ p = 5) then (Tic.stp p.toNat n.toNat : Int) else -1
end Go.Proofs.YtpcbplademohnaaDoor
