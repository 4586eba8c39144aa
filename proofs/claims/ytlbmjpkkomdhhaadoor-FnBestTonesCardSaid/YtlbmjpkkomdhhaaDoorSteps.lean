/-
  Contracts of StepsFor and StepsBy, of the program and of the model.
-/
import Derived.Test.YtlbmjpkkomdhhaaDoorRaise
namespace Go.Proofs.YtlbmjpkkomdhhaaDoor
open Go.RowKit
set_option linter.unusedVariables false
set_option maxRecDepth 20000

theorem mul_bd {x y : Int} {X Y : Nat} (h0 : 0 ≤ x) (h1 : x ≤ X) (h2 : -(Y : Int) ≤ y) (h3 : y ≤ Y) : -((X * Y : Nat) : Int) ≤ x * y ∧ x * y ≤ ((X * Y : Nat) : Int) := by
  have a1 : x * y ≤ x * Y := Int.mul_le_mul_of_nonneg_left h3 h0
  have a2 : x * (-(Y : Int)) ≤ x * y := Int.mul_le_mul_of_nonneg_left h2 h0
  have a3 : x * (Y : Int) ≤ X * Y := Int.mul_le_mul_of_nonneg_right h1 (by omega)
  rw [Int.mul_neg] at a2
  rw [Int.natCast_mul]
  omega
/-- what the search for the steps asks -/
theorem stp_pow {P n : Nat} (hp : P = 3 ∨ P = 5) (h0 : 1 ≤ n) (hn : n ≤ 12) : ∃ X : Nat, P ^ (2 * n) = X ∧ Fits X ∧ ∀ k, k ≤ Tic.stp P n → ∃ Y : Nat, 2 ^ (2 * k + 1) = Y ∧ Fits Y ∧ (Y < X ↔ k < Tic.stp P n) := by
  have hb := Tic.stp_le hp hn
  refine ⟨_, rfl, ?_, fun k hk => ⟨_, rfl, ?_, Tic.stp_lt hp h0 hn (by omega)⟩⟩
  · unfold Fits; exact Nat.lt_of_le_of_lt hb.2 (by decide)
  · have : 2 ^ (2 * k + 1) ≤ 2 ^ 57 := Nat.pow_le_pow_right (by decide) (by omega)
    unfold Fits; exact Nat.lt_of_le_of_lt this (by decide)

set_option maxHeartbeats 400000 in
theorem sstepsFor_any (n p : Nat) (w : World) (hp : p = 3 ∨ p = 5) (h1 : 1 ≤ n) (h2 : n ≤ 12) :
    Calls Tryd.prog 59 #[.int .i64 n, .int .i64 p] w fun e w' => e = .returned (.int .i64 (Tic.stp p n : Int)) ∧ w = w' := by
  obtain ⟨X, hX, hf, hk⟩ := stp_pow hp h1 h2
  have hs := (Tic.stp_le hp h2).1
  have hn2 : (2 * (n : Int)).toNat = 2 * n := by omega
  have HT := Lib.hid (fun w => times_any p (2 * n) w (by rcases hp with rfl | rfl <;> decide) (by rcases hp with rfl | rfl <;> decide) (by omega) (by rw [hn2, hX]; exact hf))
  rw [hn2, hX] at HT
  have HK : Hid (∀ k, k ≤ Tic.stp p n → ∃ Y : Nat, Y < 1152921504606846976 ∧ (Y < X ↔ k < Tic.stp p n) ∧ ∀ w, Calls Tryd.prog 56 #[.int .i64 2, .int .i64 (2 * (k : Int) + 1)] w fun e w' => e = .returned (.int .i64 (Y : Int)) ∧ w = w') := Lib.hid (fun k hkl => by
    obtain ⟨Y, hY, hfy, hi⟩ := hk k hkl
    have hk2 : (2 * (k : Int) + 1).toNat = 2 * k + 1 := by omega
    refine ⟨Y, hfy, hi, fun w => ?_⟩
    have := times_any 2 (2 * (k : Int) + 1) w (by decide) (by decide) (by omega) (by rw [hk2, hY]; exact hfy)
    rw [hk2, hY] at this
    exact this)
  clear hk hX hn2
  have hp5 : p ≤ 5 := by omega
  unfold Fits at hf
  generalize Tic.stp p n = T at HK hs ⊢
  clear hp
  go_enter Tryd.func59, Tryd.ntmps59
  go_wp2_with fail
  refine (HT.out _).mono ?_; rintro e w1 ⟨rfl, rfl⟩
  go_wp2
  go_loop [6] (fun t6 => ∃ k : Nat, k ≤ T ∧ t6 = .int .i64 k) (fun t6 => T - (intOf t6).toNat)
  case atStart => exact ⟨0, Nat.zero_le _, rfl⟩
  case round =>
    obtain ⟨k, hk, rfl⟩ := hrel
    obtain ⟨Y, hy, hi, hc⟩ := HK.out k hk
    have HC := Lib.hid hc
    clear hc
    by_cases hlt : k < T
    · have hyx := hi.2 hlt
      clear hi
      go_wp2_with fail
      refine (HC.out _).mono ?_; rintro e w1 ⟨rfl, rfl⟩
      go_wp2
      go_round
      case rel => exact ⟨k + 1, by omega, by go_num⟩
      case measure => simp [intOf]; omega
    · have hyx : ¬ Y < X := fun h => hlt (hi.1 h)
      clear hi
      obtain rfl : k = T := by omega
      go_wp2_with fail
      refine (HC.out _).mono ?_; rintro e w1 ⟨rfl, rfl⟩
      go_wp2
      go_ret
      exact ⟨rfl, rfl⟩
set_option maxHeartbeats 400000 in
theorem nearestSteps_any (n p : Nat) (w : World) (hp : p = 3 ∨ p = 5) (h1 : 1 ≤ n) (h2 : n ≤ 12) :
    Calls Tryd.prog 58 #[.int .i64 n, .int .i64 p] w fun e w' => e = .returned (.int .i64 (Tic.stp p n : Int)) ∧ w = w' := by
  obtain ⟨X, hX, hf, hk⟩ := stp_pow hp h1 h2
  have hs := (Tic.stp_le hp h2).1
  have hn2 : (2 * (n : Int)).toNat = 2 * n := by omega
  have HT := Lib.hid (fun w => raised_any p (2 * n) w (by rcases hp with rfl | rfl <;> decide) (by rcases hp with rfl | rfl <;> decide) (by omega) (by rw [hn2, hX]; exact hf))
  rw [hn2, hX] at HT
  have HK : Hid (∀ k, k ≤ Tic.stp p n → ∃ Y : Nat, Y < 1152921504606846976 ∧ (Y < X ↔ k < Tic.stp p n) ∧ ∀ w, Calls Tryd.prog 69 #[.int .i64 2, .int .i64 (2 * (k : Int) + 1)] w fun e w' => e = .returned (.int .i64 (Y : Int)) ∧ w = w') := Lib.hid (fun k hkl => by
    obtain ⟨Y, hY, hfy, hi⟩ := hk k hkl
    have hk2 : (2 * (k : Int) + 1).toNat = 2 * k + 1 := by omega
    refine ⟨Y, hfy, hi, fun w => ?_⟩
    have := raised_any 2 (2 * (k : Int) + 1) w (by decide) (by decide) (by omega) (by rw [hk2, hY]; exact hfy)
    rw [hk2, hY] at this
    exact this)
  clear hk hX hn2
  have hp5 : p ≤ 5 := by omega
  unfold Fits at hf
  generalize Tic.stp p n = T at HK hs ⊢
  clear hp
  go_enter Tryd.func58, Tryd.ntmps58
  go_wp2
  go_loop [5] (fun t5 => ∃ k : Nat, k ≤ T ∧ t5 = .int .i64 k) (fun t5 => T - (intOf t5).toNat)
  case atStart => exact ⟨0, Nat.zero_le _, rfl⟩
  case round =>
    obtain ⟨k, hk, rfl⟩ := hrel
    obtain ⟨Y, hy, hi, hc⟩ := HK.out k hk
    have HC := Lib.hid hc
    clear hc
    by_cases hlt : k < T
    · have hyx := hi.2 hlt
      clear hi
      go_wp2_with fail
      refine (HC.out _).mono ?_; rintro e w1 ⟨rfl, rfl⟩
      go_wp2_with fail
      refine (HT.out _).mono ?_; rintro e w1 ⟨rfl, rfl⟩
      go_wp2
      go_round
      case rel => exact ⟨k + 1, by omega, by go_num⟩
      case measure => simp [intOf]; omega
    · have hyx : ¬ Y < X := fun h => hlt (hi.1 h)
      clear hi
      obtain rfl : k = T := by omega
      go_wp2_with fail
      refine (HC.out _).mono ?_; rintro e w1 ⟨rfl, rfl⟩
      go_wp2_with fail
      refine (HT.out _).mono ?_; rintro e w1 ⟨rfl, rfl⟩
      go_wp2
      go_ret
      exact ⟨rfl, rfl⟩
theorem parts_any (n : Int) (w : World) : Calls Tryd.prog 57 #[.int .i64 n] w fun e w' => e = .returned (.bool (decide (1 ≤ n ∧ n ≤ 12))) ∧ w = w' := by
  by_cases h1 : 1 ≤ n
  · by_cases h2 : n ≤ 12
    · rw [decide_eq_true ⟨h1, h2⟩]
      go_enter Tryd.func57, Tryd.ntmps57
      go_wp2
      go_ret
      exact ⟨rfl, rfl⟩
    · rw [decide_eq_false (fun h => h2 h.2)]
      go_enter Tryd.func57, Tryd.ntmps57
      go_wp2
      go_ret
      exact ⟨rfl, rfl⟩
  · rw [decide_eq_false (fun h => h1 h.1)]
    go_enter Tryd.func57, Tryd.ntmps57
    go_wp2
    go_ret
    exact ⟨rfl, rfl⟩
theorem parts_yes (n : Int) (w : World) (h1 : 1 ≤ n) (h2 : n ≤ 12) : Calls Tryd.prog 57 #[.int .i64 n] w fun e w' => e = .returned (.bool true) ∧ w = w' := by
  have := parts_any n w
  rwa [decide_eq_true ⟨h1, h2⟩] at this
theorem parts_no (n : Int) (w : World) (h : n < 1 ∨ 12 < n) : Calls Tryd.prog 57 #[.int .i64 n] w fun e w' => e = .returned (.bool false) ∧ w = w' := by
  have := parts_any n w
  rwa [decide_eq_false (by omega)] at this
/-- what StepsFor tells -/
def stpI (n p : Int) : Int := if 1 ≤ n ∧ n ≤ 12 ∧ (p = 3 ∨ p = 5) then (Tic.stp p.toNat n.toNat : Int) else -1
theorem iStepsFor_any (n p : Int) (w : World) :
    Calls Tryd.prog 25 #[.int .i64 n, .int .i64 p] w fun e w' => e = .returned (.int .i64 (stpI n p)) ∧ w = w' := by
  by_cases hn : 1 ≤ n ∧ n ≤ 12
  · by_cases hp : p = 3 ∨ p = 5
    · have HV : Hid (stpI n p = (Tic.stp p.toNat n.toNat : Int)) := by unfold stpI; rw [if_pos ⟨hn.1, hn.2, hp⟩]; rfl
      rw [HV.out]
      obtain ⟨N, rfl⟩ := Int.eq_ofNat_of_zero_le (show 0 ≤ n by omega)
      have HC := Lib.hid (fun w => nearestSteps_any N p.toNat w (by omega) (by omega) (by omega))
      rw [Int.toNat_of_nonneg (by omega : 0 ≤ p)] at HC
      rw [Int.toNat_natCast] at HV ⊢
      generalize Tic.stp p.toNat N = T at HC ⊢
      clear HV
      obtain ⟨h1, h2⟩ := hn
      rcases hp with rfl | rfl
      all_goals
        go_enter Tryd.func25, Tryd.ntmps25
        go_wp2_with fail
        refine (parts_yes _ _ h1 h2).mono ?_; rintro e w' ⟨rfl, rfl⟩
        go_wp2_with fail
        refine (HC.out _).mono ?_; rintro e w' ⟨rfl, rfl⟩
        go_wp2_with fail
        go_ret
        exact ⟨rfl, rfl⟩
    · have HV : Hid (stpI n p = -1) := by unfold stpI; rw [if_neg (fun h => hp h.2.2)]; rfl
      rw [HV.out]
      have h3 : p < 3 ∨ p = 4 ∨ 5 < p := by omega
      obtain ⟨h1, h2⟩ := hn
      clear hp HV
      have q3 : (p != 3) = true := by rw [bne_iff_ne]; omega
      have q5 : (p != 5) = true := by rw [bne_iff_ne]; omega
      rcases h3 with h3 | rfl | h3
      all_goals
        go_enter Tryd.func25, Tryd.ntmps25
        go_wp2_with fail
        refine (parts_yes _ _ h1 h2).mono ?_; rintro e w' ⟨rfl, rfl⟩
        go_wp2_with fail
        go_ret
        exact ⟨rfl, rfl⟩
  · have HV : Hid (stpI n p = -1) := by unfold stpI; rw [if_neg (fun h => hn ⟨h.1, h.2.1⟩)]; rfl
    rw [HV.out]
    have h : n < 1 ∨ 12 < n := by omega
    clear HV hn
    go_enter Tryd.func25, Tryd.ntmps25
    go_wp2_with fail
    refine (parts_no _ _ h).mono ?_; rintro e w' ⟨rfl, rfl⟩
    go_wp2_with fail
    go_ret
    exact ⟨rfl, rfl⟩
end Go.Proofs.YtlbmjpkkomdhhaaDoor
