/-
  Contracts of the laws' own helpers on numbers.
-/
import Derived.Test.YtgpbgbcdlebaiaaDraws
import Derived.Test.YtgpbgbcdlebaiaaEq
import Derived.Test.YtgpbgbcdlebaiaaOnes
import Derived.Test.YtgpbgbcdlebaiaaLawNum
namespace Go.Proofs.Ytgpbgbcdlebaiaa
open Go.RowKit
set_option linter.unusedVariables false

theorem lpower_any (n : Int) (w : World) (h0 : 0 ≤ n) (h1 : n ≤ 61) :
    Calls Try.prog 32 #[.int .i64 n] w fun e w' => e = .returned (.int .i64 ((2 ^ n.toNat : Nat) : Int)) ∧ w = w' := by
  obtain ⟨N, rfl⟩ := Int.eq_ofNat_of_zero_le h0
  rw [Int.toNat_natCast]
  have HN := Lib.hid (Tic.pow_le_62 (k := N) (by omega))
  go_enter Try.func32, Try.ntmps32
  go_wp2
  go_loop [0, 3] (fun t0 t3 => ∃ k P : Nat, k ≤ N ∧ t0 = .int .i64 k ∧ t3 = .int .i64 P ∧ Hid (P * 2 ^ k = 2 ^ N)) (fun t0 _ => (intOf t0).toNat)
  case atStart => exact ⟨N, 1, Nat.le_refl _, rfl, rfl, Nat.one_mul _⟩
  case round =>
    obtain ⟨k, P, hk, rfl, rfl, hP⟩ := hrel
    by_cases hlt : 0 < k
    · have hb : P ≤ 2305843009213693952 := by
        have h2 : 2 ≤ 2 ^ k := by
          have := Nat.pow_le_pow_right (n := 2) (by omega) hlt
          simpa using this
        have h3 := hP.out
        have h4 := HN.out
        have h5 : P * 2 ≤ P * 2 ^ k := Nat.mul_le_mul_left _ h2
        omega
      go_wp2
      go_round
      case rel =>
        refine ⟨k - 1, 2 * P, by omega, ?_, ?_, ?_⟩
        · have : ((k : Int) - 1) = ((k - 1 : Nat) : Int) := by omega
          rw [this]
        · have : (2 * (P : Int)) = ((2 * P : Nat) : Int) := by omega
          rw [this]
        · have h3 := hP.out
          show 2 * P * 2 ^ (k - 1) = 2 ^ N
          rw [← h3]
          obtain ⟨j, rfl⟩ : ∃ j, k = j + 1 := ⟨k - 1, by omega⟩
          simp only [Nat.add_sub_cancel, Nat.pow_succ]
          rw [Nat.mul_comm 2 P, Nat.mul_assoc, Nat.mul_comm 2]
      case measure => simp [intOf]; omega
    · have : k = 0 := by omega
      subst this
      go_wp2
      go_ret
      have h3 := hP.out
      exact ⟨ret_int (congrArg Int.ofNat (by rw [← h3, Nat.pow_zero, Nat.mul_one])), rfl⟩
theorem lweight_any (x : Int) (w : World) (h0 : 0 ≤ x) (hx : x < 4096) :
    Calls Try.prog 18 #[.int .i64 x] w fun e w' => e = .returned (.int .i64 (Tic.wt 12 x.toNat : Int)) ∧ w = w' := by
  obtain ⟨s, rfl⟩ := Int.eq_ofNat_of_zero_le h0
  rw [Int.toNat_natCast]
  have hle := Tic.wt_le 12 s
  go_enter Try.func18, Try.ntmps18
  go_wp2
  go_loop [0, 3] (fun t0 t3 => ∃ f r c : Nat, f ≤ 12 ∧ c ≤ 12 ∧ r ≤ 4095 ∧ r < 2 ^ f ∧ t0 = .int .i64 r ∧ t3 = .int .i64 c ∧ Hid (c + Tic.wt f r = Tic.wt 12 s)) (fun t0 _ => (intOf t0).toNat)
  case atStart => exact ⟨12, s, 0, by omega, by omega, by omega, by omega, rfl, rfl, Nat.zero_add _⟩
  case round =>
    obtain ⟨f, r, c, hf, hc, hr', hr, rfl, rfl, hP⟩ := hrel
    by_cases hlt : 0 < r
    · obtain ⟨g, rfl⟩ : ∃ g, f = g + 1 := ⟨f - 1, by
        cases f with
        | zero => simp at hr; omega
        | succ f => omega⟩
      have h3 : c + (r % 2 + Tic.wt g (r / 2)) = Tic.wt 12 s := hP.out
      have hm : c + r % 2 ≤ 12 := by omega
      have H3 := Lib.hid h3
      clear h3
      rw [Nat.pow_succ] at hr
      go_wp2
      go_round
      case rel => exact ⟨g, r / 2, c + r % 2, by omega, by omega, by omega, by omega, by go_num, by go_num, by have := H3.out; show c + r % 2 + Tic.wt g (r / 2) = Tic.wt 12 s; omega⟩
      case measure => simp [intOf]; omega
    · have : r = 0 := by omega
      subst this
      go_wp2
      go_ret
      have h3 := hP.out
      rw [Tic.wt_zero] at h3
      exact ⟨ret_int (by omega), rfl⟩

end Go.Proofs.Ytgpbgbcdlebaiaa
