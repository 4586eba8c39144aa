/-
  Tables over all sets of all circles of twelve tones at most: periods, moves and odd sets. No program in sight.
-/
import Derived.Test.YtgpbgbcdlebaiaaTileNum
import Derived.Test.YtgpbgbcdlebaiaaGapsNum
namespace Go.Proofs.Ytgpbgbcdlebaiaa.Tic
set_option linter.unusedVariables false

/-- a set shifted, by its bits -/
def rl (n t s : Nat) : Nat := ((s <<< t) ||| (s >>> (n - t))) &&& (2 ^ n - 1)
theorem rl_shf {n t s : Nat} (hn : 0 < n) (ht : t ≤ n) (hs : s < 2 ^ n) : rl n t s = shf n t s := by
  apply Nat.eq_of_testBit_eq
  intro y
  rw [Bool.eq_iff_iff]
  unfold shf rl
  rw [img_testBit, Nat.testBit_and, Nat.testBit_or, Nat.testBit_shiftLeft, Nat.testBit_shiftRight, Nat.testBit_two_pow_sub_one]
  simp only [mvd_nat, Bool.and_eq_true, Bool.or_eq_true, decide_eq_true_eq]
  constructor
  · rintro ⟨h1 | h1, hy⟩
    · exact ⟨y - t, by omega, h1.2, by rw [show t + (y - t) = y by omega, Nat.mod_eq_of_lt hy]⟩
    · by_cases hy2 : n - t + y < n
      · refine ⟨n - t + y, hy2, h1, ?_⟩
        rw [show t + (n - t + y) = y + n by omega, Nat.add_mod_right, Nat.mod_eq_of_lt hy]
      · rw [bit_big hs (by omega)] at h1; cases h1
  · rintro ⟨x, hx, h1, h2⟩
    have hy : y < n := by rw [← h2]; exact Nat.mod_lt _ hn
    refine ⟨?_, hy⟩
    by_cases h3 : t + x < n
    · rw [Nat.mod_eq_of_lt h3] at h2
      exact .inl ⟨by omega, by rw [show y - t = x by omega]; exact h1⟩
    · rw [Nat.mod_eq_sub_mod (by omega), Nat.mod_eq_of_lt (by omega)] at h2
      exact .inr (by rw [show n - t + y = x by omega]; exact h1)
/-- the least shift that leaves a set, by bits -/
def perR (n s : Nat) : Nat → Nat → Nat
  | 0, t => t
  | f + 1, t => if rl n t s == s then t else perR n s f (t + 1)
theorem perR_eq {n s : Nat} (hn : 0 < n) (hs : s < 2 ^ n) : ∀ f t, t + f = n → perR n s f t = perF n s f t
  | 0, t, _ => rfl
  | f + 1, t, e => by
    unfold perR perF
    rw [rl_shf hn (by omega) hs, perR_eq hn hs f (t + 1) (by omega)]
    by_cases h : shf n t s = s
    · rw [if_pos h, if_pos (by simpa using h)]
    · rw [if_neg h, if_neg (by simpa using h)]
def pr (n s : Nat) : Nat := perR n s (n - 1) 1
theorem pr_per {n s : Nat} (hn : 0 < n) (hs : s < 2 ^ n) : pr n s = per n s := perR_eq hn hs (n - 1) 1 (by omega)
theorem cnt_congr {p q : Nat → Bool} : ∀ k, (∀ x, x < k → p x = q x) → cnt p k = cnt q k
  | 0, _ => rfl
  | k + 1, h => by unfold cnt; rw [cnt_congr k (fun x hx => h x (by omega)), h k (by omega)]
def shsR (n s : Nat) : Nat := cnt (fun t => rl n t s == s) n
theorem shsR_eq {n s : Nat} (hn : 0 < n) (hs : s < 2 ^ n) : shsR n s = shs n s n := cnt_congr n fun t ht => by rw [rl_shf hn (by omega) hs]
def trsR (n s : Nat) : Nat := cnt (fun t => rl n t (tur n 0 s) == s) n
theorem trsR_eq {n s : Nat} (hn : 0 < n) : trsR n s = trs n s n := cnt_congr n fun t ht => by rw [rl_shf hn (by omega) (tur_lt hn 0 s), shf_tur0 hn]
/-- all sets of a circle, 64 by 64 -/
def allS (f : Nat → Bool) (n : Nat) : Bool := (List.range 64).all fun a => (List.range 64).all fun b => decide (2 ^ n ≤ 64 * a + b) || f (64 * a + b)
theorem allS_at {f : Nat → Bool} {n s : Nat} (h : allS f n = true) (hn : n ≤ 12) (hs : s < 2 ^ n) : f s = true := by
  have hp : 2 ^ n ≤ 2 ^ 12 := Nat.pow_le_pow_right (by omega) hn
  have h1 := List.all_eq_true.1 (List.all_eq_true.1 h (s / 64) (List.mem_range.2 (by omega))) (s % 64) (List.mem_range.2 (by omega))
  rw [show 64 * (s / 64) + s % 64 = s by omega, Bool.or_eq_true] at h1
  rcases h1 with h1 | h1
  · have := of_decide_eq_true h1; omega
  · exact h1
def movOk (n s : Nat) : Bool := decide (1 ≤ shsR n s) && (n % shsR n s == 0 && ((trsR n s == 0 || trsR n s == shsR n s) && (shsR n s * pr n s == n && (n % pr n s == 0 && (wt 12 s * pr n s % n == 0)))))
def movsOk : Bool := (List.range 10).all fun a => allS (movOk (a + 3)) (a + 3)
set_option maxRecDepth 100000 in
theorem movsOk_true : movsOk = true := by decide +kernel
theorem mov_spec {n s : Nat} (h1 : 3 ≤ n) (h2 : n ≤ 12) (hs : s < 2 ^ n) : 1 ≤ shs n s n ∧ n % shs n s n = 0 ∧ (trs n s n = 0 ∨ trs n s n = shs n s n) ∧ shs n s n * per n s = n ∧ n % per n s = 0 ∧ wt 12 s * per n s % n = 0 := by
  have h := List.all_eq_true.1 movsOk_true (n - 3) (List.mem_range.2 (by omega))
  rw [show n - 3 + 3 = n by omega] at h
  have h3 := allS_at h h2 hs
  unfold movOk at h3
  rw [shsR_eq (by omega) hs, trsR_eq (by omega), pr_per (by omega) hs] at h3
  simp only [Bool.and_eq_true, Bool.or_eq_true, beq_iff_eq, decide_eq_true_eq] at h3
  obtain ⟨a, b, c, d, e, f⟩ := h3
  exact ⟨a, b, c, d, e, f⟩
end Go.Proofs.Ytgpbgbcdlebaiaa.Tic
