/-
  Plain mathematics of what is left between fifths and octaves, and of better numbers of tones. No program in sight.
-/
import Derived.Test.YtpcbplademohnaaDoorTuneNum
namespace Go.Proofs.YtpcbplademohnaaDoor.Tic

/-- the greater and the lesser one of 3 to the power n and of the power of 2 near it -/
def lfU (n : Nat) : Nat := max (3 ^ n) (2 ^ stp 3 n)
def lfD (n : Nat) : Nat := min (3 ^ n) (2 ^ stp 3 n)
theorem left_tab : ∀ n : Fin 13, 1 ≤ lfD n.val ∧ lfU n.val < 1048576 ∧ (0 < n.val → 2 ^ stp 3 n.val ≠ 3 ^ n.val) := by decide +kernel
theorem left_bd {n : Nat} (h : n ≤ 12) : 1 ≤ lfD n ∧ lfU n < 1048576 := ⟨(left_tab ⟨n, by omega⟩).1, (left_tab ⟨n, by omega⟩).2.1⟩
theorem left_ne {n : Nat} (h0 : 0 < n) (h : n ≤ 12) : 2 ^ stp 3 n ≠ 3 ^ n := (left_tab ⟨n, by omega⟩).2.2 h0
theorem lfD_le (n : Nat) : lfD n ≤ lfU n := by unfold lfD lfU; omega
/-- the first m numbers of tones are less near than k -/
def bstI (k : Nat) : Nat → Bool
  | 0 => true
  | m + 1 => bstI k m && decide (lfU k * lfD (m + 1) < lfU (m + 1) * lfD k)
def bst (k : Nat) : Bool := bstI k (k - 1)
/-- the better numbers of tones up to k -/
def bstTo : Nat → List Int
  | 0 => []
  | k + 1 => if bst (k + 1) then bstTo k ++ [((k + 1 : Nat) : Int)] else bstTo k
theorem bstTo_yes {k : Nat} (h : bst (k + 1) = true) : bstTo (k + 1) = bstTo k ++ [((k + 1 : Nat) : Int)] := by conv => lhs; unfold bstTo; rw [if_pos h]
theorem bstTo_no {k : Nat} (h : bst (k + 1) = false) : bstTo (k + 1) = bstTo k := by conv => lhs; unfold bstTo; rw [if_neg (by simp [h])]
theorem bstTo_len : ∀ k, (bstTo k).length ≤ k
  | 0 => Nat.le_refl _
  | k + 1 => by
    have := bstTo_len k
    unfold bstTo
    split
    · rw [List.length_append]; simp; omega
    · omega
/-- the best number of tones up to k -/
def bi : Nat → Nat
  | 0 => 0
  | k + 1 => if bst (k + 1) then k + 1 else bi k
theorem bi_yes {k : Nat} (h : bst (k + 1) = true) : bi (k + 1) = k + 1 := by conv => lhs; unfold bi; rw [if_pos h]
theorem bi_no {k : Nat} (h : bst (k + 1) = false) : bi (k + 1) = bi k := by conv => lhs; unfold bi; rw [if_neg (by simp [h])]
theorem bi_tab : ∀ k : Fin 12, 1 ≤ k.val → (decide (lfU (k.val + 1) * lfD (bi k.val) < lfU (bi k.val) * lfD (k.val + 1)) = bst (k.val + 1)) ∧ 1 ≤ bi k.val ∧ bi k.val ≤ 12 := by decide +kernel
theorem bst_one : bst 1 = true := rfl
/-- products of them stay small -/
theorem left_mul {i j : Nat} (hi : i ≤ 12) (hj : j ≤ 12) : lfU i * lfD j < 1152921504606846976 := by
  have h1 := (left_bd hi).2
  have h2 := (left_bd hj).2
  have h3 := lfD_le j
  have : lfU i * lfD j ≤ 1048576 * 1048576 := Nat.mul_le_mul (by omega) (by omega)
  omega
/-- the powers of what is left -/
def lfA (n : Nat) : Int := if 3 ^ n < 2 ^ stp 3 n then (stp 3 n : Int) else -(stp 3 n : Int)
def lfB (n : Nat) : Int := if 3 ^ n < 2 ^ stp 3 n then -(n : Int) else (n : Int)
theorem rup_left (t n : Nat) : rup (-(t : Int)) n 0 = 3 ^ n ∧ rdn (-(t : Int)) n 0 = 2 ^ t ∧ rup t (-(n : Int)) 0 = 2 ^ t ∧ rdn t (-(n : Int)) 0 = 3 ^ n := by
  unfold rup rdn
  have e1 : (-(t : Int)).toNat = 0 := by omega
  have e2 : (-(n : Int)).toNat = 0 := by omega
  simp [e1, e2]
end Go.Proofs.YtpcbplademohnaaDoor.Tic
