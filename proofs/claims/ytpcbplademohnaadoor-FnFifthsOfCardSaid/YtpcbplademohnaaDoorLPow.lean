/-
  The laws' own powers of 2.
-/
import Derived.Test.YtpcbplademohnaaDoorRaise
namespace Go.Proofs.YtpcbplademohnaaDoor
open Go.RowKit
set_option linter.unusedVariables false

theorem lpow_any (n : Nat) (w : World) (hn : n ≤ 58) :
    Calls Tryd.prog 18 #[.int .i64 n] w fun e w' => e = .returned (.int .i64 ((2 ^ n : Nat) : Int)) ∧ w = w' := by
  have hf : Fits (2 ^ n) := by
    have : 2 ^ n ≤ 2 ^ 58 := Nat.pow_le_pow_right (by decide) hn
    unfold Fits; exact Nat.lt_of_le_of_lt this (by decide)
  have HF := Lib.hid hf
  generalize hR : 2 ^ n = R
  have HR := Lib.hid hR
  clear hf hR
  go_enter Tryd.func18, Tryd.ntmps18
  go_wp2
  go_loop [0, 3] (fun t0 t3 => ∃ k P : Nat, k ≤ n ∧ t0 = .int .i64 k ∧ t3 = .int .i64 P ∧ Hid (P * 2 ^ k = 2 ^ n)) (fun t0 _ => (intOf t0).toNat)
  case atStart => exact ⟨n, 1, Nat.le_refl _, rfl, rfl, Nat.one_mul _⟩
  case round =>
    obtain ⟨k, P, hk, rfl, rfl, hP⟩ := hrel
    by_cases hlt : 0 < k
    · obtain ⟨j, rfl⟩ : ∃ j, k = j + 1 := ⟨k - 1, by omega⟩
      have hb := fits_step (x := 2) (by decide) hP.out HF.out
      have HN := Lib.hid (next_step hP.out)
      unfold Fits at hb
      have hq : 2 * (P : Int) = ((2 * P : Nat) : Int) := by omega
      generalize 2 * P = Q at hb HN hq
      go_wp2
      go_round
      case rel => exact ⟨j, Q, by omega, by go_num, rfl, HN⟩
      case measure => simp [intOf]
    · have : k = 0 := by omega
      subst this
      go_wp2
      go_ret
      have h3 := hP.out
      rw [Nat.pow_zero, Nat.mul_one] at h3
      exact ⟨ret_int (congrArg Int.ofNat (h3.trans HR.out)), rfl⟩
end Go.Proofs.YtpcbplademohnaaDoor
