/-
  Contracts of the small functions on numbers of chapter 6: numbers multiplied by themselves, of the model and of the program; a range.
-/
import Derived.Test.YtpcbplademohnaaDoorLow
import Derived.Test.YtpcbplademohnaaDoorTuneNum
namespace Go.Proofs.YtpcbplademohnaaDoor
open Go.RowKit
set_option linter.unusedVariables false

/-- less than 2 to the power 60 -/
def Fits (x : Nat) : Prop := x < 1152921504606846976
theorem fits_step {x P k N : Nat} (hx : 0 < x) (h : P * x ^ (k + 1) = x ^ N) (hf : Fits (x ^ N)) : Fits (x * P) := by
  unfold Fits at *
  have h1 : x ^ (k + 1) = x * x ^ k := by rw [Nat.pow_succ, Nat.mul_comm]
  have h2 : x * P * 1 ≤ x * P * x ^ k := Nat.mul_le_mul_left _ (Nat.pow_pos hx)
  have h3 : x * P * x ^ k = P * x ^ (k + 1) := by rw [h1]; simp only [Nat.mul_assoc, Nat.mul_left_comm]
  omega
theorem next_step {x P k N : Nat} (h : P * x ^ (k + 1) = x ^ N) : x * P * x ^ k = x ^ N := by
  rw [← h, Nat.pow_succ, Nat.mul_comm x P, Nat.mul_assoc, Nat.mul_comm x]

theorem times_any (x : Nat) (n : Int) (w : World) (hx : 0 < x) (hx2 : x ≤ 5) (hn : n ≤ 1000) (hf : Fits (x ^ n.toNat)) :
    Calls Tryd.prog 49 #[.int .i64 x, .int .i64 n] w fun e w' => e = .returned (.int .i64 ((x ^ n.toNat : Nat) : Int)) ∧ w = w' := by
  by_cases h0 : n ≤ 0
  · rw [show n.toNat = 0 by omega, Nat.pow_zero]
    clear hf
    go_enter Tryd.func49, Tryd.ntmps49
    go_wp2
    refine wp_loop_rounds 1 ?_
    rw [rounds_succ]
    go_wp2
    go_ret
    exact ⟨rfl, rfl⟩
  · obtain ⟨N, rfl⟩ := Int.eq_ofNat_of_zero_le (show 0 ≤ n by omega)
    rw [Int.toNat_natCast] at *
    have HF := Lib.hid hf
    generalize hR : x ^ N = R
    have HR := Lib.hid hR
    clear hf h0 hR
    go_enter Tryd.func49, Tryd.ntmps49
    go_wp2
    go_loop [1, 5] (fun t1 t5 => ∃ k P : Nat, k ≤ N ∧ t1 = .int .i64 k ∧ t5 = .int .i64 P ∧ Hid (P * x ^ k = x ^ N)) (fun t1 _ => (intOf t1).toNat)
    case atStart => exact ⟨N, 1, Nat.le_refl _, rfl, rfl, Nat.one_mul _⟩
    case round =>
      obtain ⟨k, P, hk, rfl, rfl, hP⟩ := hrel
      by_cases hlt : 0 < k
      · obtain ⟨j, rfl⟩ : ∃ j, k = j + 1 := ⟨k - 1, by omega⟩
        have hb := fits_step hx hP.out HF.out
        have HN := Lib.hid (next_step hP.out)
        unfold Fits at hb
        have hq : (P : Int) * (x : Int) = ((x * P : Nat) : Int) := by rw [Nat.mul_comm, Int.natCast_mul]
        generalize x * P = Q at hb HN hq
        go_wp2
        go_round
        case rel => exact ⟨j, Q, by omega, by go_num, rfl, HN⟩
        case measure => simp [intOf]
      · have : k = 0 := by omega
        subst this
        go_wp2
        go_ret
        have h3 := hP.out
        rw [Nat.pow_zero, Nat.mul_one] at h3
        exact ⟨ret_int (congrArg Int.ofNat (h3.trans HR.out)), rfl⟩
theorem raised_any (x : Nat) (n : Int) (w : World) (hx : 0 < x) (hx2 : x ≤ 5) (hn : n ≤ 1000) (hf : Fits (x ^ n.toNat)) :
    Calls Tryd.prog 43 #[.int .i64 x, .int .i64 n] w fun e w' => e = .returned (.int .i64 ((x ^ n.toNat : Nat) : Int)) ∧ w = w' := by
  by_cases h0 : n ≤ 0
  · rw [show n.toNat = 0 by omega, Nat.pow_zero]
    clear hf
    go_enter Tryd.func43, Tryd.ntmps43
    go_wp2
    refine wp_loop_rounds 1 ?_
    rw [rounds_succ]
    go_wp2
    go_ret
    exact ⟨rfl, rfl⟩
  · obtain ⟨N, rfl⟩ := Int.eq_ofNat_of_zero_le (show 0 ≤ n by omega)
    rw [Int.toNat_natCast] at *
    have HF := Lib.hid hf
    generalize hR : x ^ N = R
    have HR := Lib.hid hR
    clear hf h0 hR
    go_enter Tryd.func43, Tryd.ntmps43
    go_wp2
    go_loop [5, 7] (fun t5 t7 => ∃ i k P : Nat, i + k = N ∧ t7 = .int .i64 i ∧ t5 = .int .i64 P ∧ Hid (P * x ^ k = x ^ N)) (fun _ t7 => N - (intOf t7).toNat)
    case atStart => exact ⟨0, N, 1, by omega, rfl, rfl, Nat.one_mul _⟩
    case round =>
      obtain ⟨i, k, P, hk, rfl, rfl, hP⟩ := hrel
      by_cases hlt : 0 < k
      · obtain ⟨j, rfl⟩ : ∃ j, k = j + 1 := ⟨k - 1, by omega⟩
        have hb := fits_step hx hP.out HF.out
        have HN := Lib.hid (next_step hP.out)
        unfold Fits at hb
        have hq : (P : Int) * (x : Int) = ((x * P : Nat) : Int) := by rw [Nat.mul_comm, Int.natCast_mul]
        generalize x * P = Q at hb HN hq
        go_wp2
        go_round
        case rel => exact ⟨i + 1, j, Q, by omega, by go_num, rfl, HN⟩
        case measure => simp [intOf]; omega
      · have : k = 0 := by omega
        subst this
        go_wp2
        go_ret
        have h3 := hP.out
        rw [Nat.pow_zero, Nat.mul_one] at h3
        exact ⟨ret_int (congrArg Int.ofNat (h3.trans HR.out)), rfl⟩
theorem inRange_any (n a b : Int) (w : World) :
    Calls Tryd.prog 21 #[.int .i64 n, .int .i64 a, .int .i64 b] w fun e w' => e = .returned (.bool (decide (a ≤ n ∧ n ≤ b))) ∧ w = w' := by
  by_cases h1 : a ≤ n
  · by_cases h2 : n ≤ b
    · rw [decide_eq_true ⟨h1, h2⟩]
      go_enter Tryd.func21, Tryd.ntmps21
      go_wp2
      go_ret
      exact ⟨rfl, rfl⟩
    · rw [decide_eq_false (fun h => h2 h.2)]
      go_enter Tryd.func21, Tryd.ntmps21
      go_wp2
      go_ret
      exact ⟨rfl, rfl⟩
  · rw [decide_eq_false (fun h => h1 h.1)]
    go_enter Tryd.func21, Tryd.ntmps21
    go_wp2
    go_ret
    exact ⟨rfl, rfl⟩
end Go.Proofs.YtpcbplademohnaaDoor
