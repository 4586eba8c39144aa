/-
  Plain mathematics: sets with no two tones half a circle apart. No program in sight.
-/
import Derived.Test.YtgpbgbcdlebaiaaPeriod
import Derived.Test.YtgpbgbcdlebaiaaLawNum
namespace Go.Proofs.Ytgpbgbcdlebaiaa
set_option linter.unusedVariables false

theorem odd_gaps {N S : Nat} (h3 : 3 ≤ N) (hn : N ≤ 12) (hs : S < 2 ^ N) (he : N % 2 = 0) : oddS N S = (Tic.gAll N S (N / 2 - 1) == 0) := by
  have hp : 2 ^ N ≤ 2 ^ 12 := Nat.pow_le_pow_right (by omega) hn
  have h1 := Tic.common_gaps (T := N / 2) hs hn (by omega) (by omega)
  rw [show min (N / 2) (N - N / 2) = N / 2 by omega, if_pos (by omega)] at h1
  have h4 : S &&& Tic.shf N (N / 2 : Nat) S < 4096 := Nat.and_lt_two_pow (n := 12) _ (by have := Tic.shf_lt (n := N) (by omega) (N / 2 : Nat) S; omega)
  have h5 := wt_none h4
  rw [odd_even he, Bool.eq_iff_iff, beq_iff_eq, beq_iff_eq, ← h5, h1]
  omega
theorem odd_shf {N S : Nat} (h3 : 3 ≤ N) (hn : N ≤ 12) (hs : S < 2 ^ N) : oddS N (Tic.shf N 1 S) = oddS N S := by
  by_cases he : N % 2 = 0
  · rw [odd_gaps h3 hn hs he, odd_gaps h3 hn (Tic.shf_lt (by omega) 1 S) he]
    unfold Tic.shf
    rw [Tic.gAll_moved hn (by omega) 1 (.inl rfl) 1 (by omega) S]
  · rw [odd_no he, odd_no he]
theorem odd_half {N S : Nat} (h3 : 3 ≤ N) (hn : N ≤ 12) (hs : S < 2 ^ N) (h : oddS N S = true) : 2 * Tic.wt 12 S ≤ N := by
  unfold oddS at h
  rw [Bool.and_eq_true, beq_iff_eq, beq_iff_eq] at h
  have h1 := Tic.wt_shf (n := N) (by omega) hn hs (N / 2 : Nat)
  have hl := Tic.shf_lt (n := N) (by omega) ((N / 2 : Nat) : Int) S
  generalize Tic.shf N ((N / 2 : Nat) : Int) S = X at h h1 hl
  have h2 : Tic.wt N S + Tic.wt N X ≤ N := by
    rw [Tic.wt_sm, Tic.wt_sm, ← Tic.sm_add]
    have := Tic.sm_bd (f := fun x => Tic.b2 (S.testBit x) + Tic.b2 (X.testBit x)) (c := 1) (k := N) (fun x _ => by
      have h5 : (S &&& X).testBit x = false := by rw [h.2]; exact Nat.zero_testBit x
      rw [Nat.testBit_and] at h5
      cases hs1 : S.testBit x <;> cases hs2 : X.testBit x <;> simp_all [Tic.b2])
    simpa using this
  have h3 := Tic.wt_low hs hn
  have h4 := Tic.wt_low hl hn
  omega
end Go.Proofs.Ytgpbgbcdlebaiaa
