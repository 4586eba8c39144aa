/-
  All pairs of twins among the kinds, as a list; the contract of the model's TwinsOf.
-/
import Derived.Test.YtmofhhffkppelaaLists
import Derived.Test.YtmofhhffkppelaaTwins
import Derived.Test.YtmofhhffkppelaaPrimesNum
namespace Go.Proofs.Ytmofhhffkppelaa
open Go.RowKit
set_option linter.unusedVariables false

/-- the pairs of the i-th with those behind it and before the j-th -/
def rowTo (n : Nat) (P : List Int) (i : Nat) : Nat → List (List Int)
  | 0 => []
  | j + 1 => if i < j ∧ twins n (P.getD i 0).toNat (P.getD j 0).toNat = true then rowTo n P i j ++ [[P.getD i 0, P.getD j 0]] else rowTo n P i j
/-- the pairs of those before the i-th -/
def pairsTo (n : Nat) (P : List Int) : Nat → List (List Int)
  | 0 => []
  | i + 1 => pairsTo n P i ++ rowTo n P i P.length
theorem rowTo_yes {n i j : Nat} {P : List Int} (h1 : i < j) (h2 : twins n (P.getD i 0).toNat (P.getD j 0).toNat = true) : rowTo n P i (j + 1) = rowTo n P i j ++ [[P.getD i 0, P.getD j 0]] := by conv => lhs; unfold rowTo; rw [if_pos ⟨h1, h2⟩]
theorem rowTo_no {n i j : Nat} {P : List Int} (h : ¬ (i < j ∧ twins n (P.getD i 0).toNat (P.getD j 0).toNat = true)) : rowTo n P i (j + 1) = rowTo n P i j := by conv => lhs; unfold rowTo; rw [if_neg h]
theorem rowTo_start {n i : Nat} {P : List Int} : ∀ j, j ≤ i + 1 → rowTo n P i j = []
  | 0, _ => rfl
  | j + 1, h => by rw [rowTo_no (by omega)]; exact rowTo_start j (by omega)
theorem rowTo_le (n : Nat) (P : List Int) (i : Nat) : ∀ j, (rowTo n P i j).length ≤ j
  | 0 => Nat.le_refl _
  | j + 1 => by unfold rowTo; have := rowTo_le n P i j; split <;> simp <;> omega
theorem pairsTo_le (n : Nat) (P : List Int) : ∀ i, (pairsTo n P i).length ≤ i * P.length
  | 0 => Nat.zero_le _
  | i + 1 => by unfold pairsTo; have := pairsTo_le n P i; have := rowTo_le n P i P.length; rw [List.length_append, Nat.succ_mul]; omega
theorem pairs_len {n i j : Nat} {P : List Int} (hP : P.length ≤ 4096) (hi : i < P.length) (hj : j < P.length) : (pairsTo n P i ++ rowTo n P i j).length < 16777216 := by
  have h1 := pairsTo_le n P i
  have h2 := rowTo_le n P i j
  rw [List.length_append]
  have h3 : (i + 1) * P.length ≤ 4096 * 4096 := Nat.mul_le_mul (by omega) hP
  rw [Nat.succ_mul] at h3
  omega

theorem told_at {n k i : Nat} (hi : i < (primesTo n k (2 ^ n)).length) : ∃ s : Nat, (primesTo n k (2 ^ n)).getD i 0 = (s : Int) ∧ s < 2 ^ n ∧ Tic.prm n s = s := by
  obtain ⟨s, h1, h2, h3⟩ := (primesTo_mem n k _ _).1 (List.getElem_mem hi)
  unfold told at h2
  refine ⟨s, ?_, h1, (of_decide_eq_true h2).2⟩
  rw [List.getD_eq_getElem?_getD, List.getElem?_eq_getElem hi]
  exact h3
theorem told_ne {n k i j : Nat} (hij : i < j) (hj : j < (primesTo n k (2 ^ n)).length) : (primesTo n k (2 ^ n)).getD i 0 ≠ (primesTo n k (2 ^ n)).getD j 0 := by
  have q := List.pairwise_iff_getElem.1 (primesTo_asc n k (2 ^ n)) i j (by omega) hj hij
  rw [List.getD_eq_getElem?_getD, List.getD_eq_getElem?_getD, List.getElem?_eq_getElem hj, List.getElem?_eq_getElem (show i < _ by omega)]
  simp only [Option.getD_some]
  omega

theorem primes_few (n k : Nat) : ∀ m, (primesTo n k m).length ≤ m
  | 0 => by unfold primesTo; simp
  | m + 1 => by unfold primesTo; have := primes_few n k m; split <;> simp <;> omega
theorem sTwinsOf_no (n k : Int) (w : World) (h : ¬ Counts n k) :
    Calls Try.prog 10 #[.int .i64 n, .int .i64 k] w (GivesLists [] w) := by
  by_cases h1 : n < 3 ∨ 12 < n
  · go_enter Try.func10, Try.ntmps10
    go_wp2_with fail
    refine (inRange_no _ _ _ _ h1).mono ?_; rintro e w1 ⟨rfl, rfl⟩
    go_wp2_with fail
    go_ret
    exact ⟨_, _, rfl, Lists.nil _ _, Below.refl _ _⟩
  · have h2 : 3 ≤ n ∧ n ≤ 12 := by omega
    have h3 : k < 0 ∨ n < k := by unfold Counts at h; omega
    clear h h1
    go_enter Try.func10, Try.ntmps10
    go_wp2_with fail
    refine (inRange_yes _ _ _ _ h2.1 h2.2).mono ?_; rintro e w1 ⟨rfl, rfl⟩
    go_wp2_with fail
    refine (inRange_no _ _ _ _ h3).mono ?_; rintro e w1 ⟨rfl, rfl⟩
    go_wp2_with fail
    go_ret
    exact ⟨_, _, rfl, Lists.nil _ _, Below.refl _ _⟩

end Go.Proofs.Ytmofhhffkppelaa
