/-
  A table over all searches for tiles: of a set and a tile of it one is loose, and the primes of the set's factors multiplied are its tones. No program in sight.
-/
import Derived.Test.YtgpbgbcdlebaiaaFactTab
namespace Go.Proofs.Ytgpbgbcdlebaiaa.Tic
set_option linter.unusedVariables false

/-- what is asked of a set and a tile -/
def leafOk (n a T : Nat) : Bool := (decide (pr n a < n) || decide (pr n T < n)) && pF n a (n + 1) == wt 12 a
/-- all ends of the search from voices at T, with the sums U, from s on -/
def treeOk (n a : Nat) : Nat → Nat → Nat → Nat → Bool
  | 0, T, U, s => U != 2 ^ n - 1 || leafOk n a T
  | f + 1, T, U, s => (U &&& rl n s a != 0 || treeOk n a f (T ||| 2 ^ s) (U ||| rl n s a) (s + 1)) && treeOk n a f T U (s + 1)
theorem treeOk_at {n a : Nat} (hn : 0 < n) (ha : a < 2 ^ n) : ∀ f T s, s + f = n → T < 2 ^ s → treeOk n a f T (un n a T n) s = true → ∀ y, y ∈ fF n a f T s → ∃ b : Nat, y = b ∧ leafOk n a b = true
  | 0, T, s, e, hT, h, y, hy => by
    unfold treeOk at h
    unfold fF at hy
    split at hy
    · rename_i hu
      rw [List.mem_singleton] at hy
      rw [hu] at h
      exact ⟨T, hy, by simpa using h⟩
    · cases hy
  | f + 1, T, s, e, hT, h, y, hy => by
    unfold treeOk at h
    unfold fF at hy
    rw [rl_shf hn (by omega) ha, Bool.and_eq_true, Bool.or_eq_true] at h
    have hT1 : T < 2 ^ (s + 1) := Nat.lt_of_lt_of_le hT (Nat.pow_le_pow_right (by omega) (by omega))
    split at hy
    · rename_i hf
      rw [List.mem_append] at hy
      rcases hy with hy | hy
      · rcases h.1 with h1 | h1
        · rw [hf] at h1; simp at h1
        · rw [← (un_next n a hT (show s < n by omega)).1] at h1
          exact treeOk_at hn ha f _ _ (by omega) (or_lt hT) h1 y hy
      · exact treeOk_at hn ha f _ _ (by omega) hT1 h.2 y hy
    · exact treeOk_at hn ha f _ _ (by omega) hT1 h.2 y hy
def setTreeOk (n a : Nat) : Bool := treeOk n a (n - 1) 1 (rl n 0 a) 1
def treesOk : Bool := (List.range 10).all fun k => allS (setTreeOk (k + 3)) (k + 3)
set_option maxRecDepth 100000 in
theorem treesOk_true : treesOk = true := by decide +kernel
theorem tile_facts {n a : Nat} (h1 : 3 ≤ n) (h2 : n ≤ 12) (ha : a < 2 ^ n) : ∀ y, y ∈ tlTo n a (2 ^ (n - 1)) → ∃ b : Nat, y = b ∧ b < 2 ^ n ∧ b % 2 = 1 ∧ tile n a b = true ∧ (per n a < n ∨ per n b < n) ∧ prodF (factors n a) = wt 12 a := by
  intro y hy
  obtain ⟨j, hj, hyj, ht⟩ := (mem_tlTo n a _ y).1 hy
  have hp : 2 ^ n = 2 * 2 ^ (n - 1) := by rw [show n = (n - 1) + 1 by omega, Nat.pow_succ]; simp; omega
  have hb : 2 * j + 1 < 2 ^ n := by omega
  rw [← found_sorted (by omega) a] at hy
  have hy2 : y ∈ found n a := (List.mergeSort_perm _ _).mem_iff.1 hy
  have h := List.all_eq_true.1 treesOk_true (n - 3) (List.mem_range.2 (by omega))
  rw [show n - 3 + 3 = n by omega] at h
  have h3 := allS_at h h2 ha
  unfold setTreeOk at h3
  rw [rl_shf (by omega) (Nat.zero_le n) ha] at h3
  have h4 : un n a 1 n = shf n ((0 : Nat) : Int) a := (okk_one n a (m := n) (by omega)).2
  rw [← h4] at h3
  obtain ⟨b, hyb, hl⟩ := treeOk_at (by omega) ha (n - 1) 1 1 (by omega) (by omega) h3 y hy2
  have hbj : b = 2 * j + 1 := by omega
  subst hbj
  unfold leafOk at hl
  rw [Bool.and_eq_true, Bool.or_eq_true, decide_eq_true_eq, decide_eq_true_eq, beq_iff_eq, pr_per (by omega) ha, pr_per (by omega) hb, ← pF_eq] at hl
  exact ⟨2 * j + 1, hyj, hb, by omega, ht, hl.1, hl.2⟩
end Go.Proofs.Ytgpbgbcdlebaiaa.Tic
