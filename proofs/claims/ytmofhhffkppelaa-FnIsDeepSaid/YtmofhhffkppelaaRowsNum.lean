/-
  Plain mathematics of rows: sets x, x plus g, x plus two times g, and so on, round a circle. No program in sight.
-/
import Derived.Test.YtmofhhffkppelaaEvenTab
namespace Go.Proofs.Ytmofhhffkppelaa.Tic
set_option linter.unusedVariables false

def rowT (n x g i : Nat) : Nat := (x + i * g) % n
/-- the first j tones of a row -/
def rowS (n x g : Nat) : Nat → Nat
  | 0 => 0
  | j + 1 => rowS n x g j ||| 2 ^ rowT n x g j
theorem rowT_lt {n : Nat} (h : 0 < n) (x g i : Nat) : rowT n x g i < n := Nat.mod_lt _ h
theorem rowS_lt {n : Nat} (h : 0 < n) (x g : Nat) : ∀ j, rowS n x g j < 2 ^ n
  | 0 => Nat.two_pow_pos n
  | j + 1 => by
    unfold rowS
    exact Nat.or_lt_two_pow (rowS_lt h x g j) (Nat.pow_lt_pow_right (by omega) (rowT_lt h x g j))
theorem rowS_bit (n x g y : Nat) : ∀ j, (rowS n x g j).testBit y = true ↔ ∃ i, i < j ∧ rowT n x g i = y
  | 0 => by simp [rowS]
  | j + 1 => by
    have ih := rowS_bit n x g y j
    unfold rowS
    rw [Nat.testBit_or, Nat.testBit_two_pow]
    simp only [Bool.or_eq_true, decide_eq_true_eq, ih]
    constructor
    · rintro (⟨i, h1, h2⟩ | h)
      · exact ⟨i, by omega, h2⟩
      · exact ⟨j, by omega, h⟩
    · rintro ⟨i, h1, h2⟩
      by_cases e : i = j
      · subst e; exact .inr h2
      · exact .inl ⟨i, by omega, h2⟩
/-- a row that begins with x is the set -/
def rowAt (n s x g : Nat) : Bool := rowS n x g (rk s n) == s
/-- some x of the set begins such a row -/
def rowTo (n s g : Nat) : Nat → Bool
  | 0 => false
  | x + 1 => rowTo n s g x || (s.testBit x && rowAt n s x g)
def isRow (n s g : Nat) : Bool := rowTo n s g n
theorem rowTo_iff (n s g : Nat) : ∀ k, rowTo n s g k = true ↔ ∃ x, x < k ∧ s.testBit x = true ∧ rowAt n s x g = true
  | 0 => by simp [rowTo]
  | k + 1 => by
    unfold rowTo
    rw [Bool.or_eq_true, rowTo_iff n s g k, Bool.and_eq_true]
    constructor
    · rintro (⟨x, h1, h2, h3⟩ | ⟨h2, h3⟩)
      · exact ⟨x, by omega, h2, h3⟩
      · exact ⟨k, by omega, h2, h3⟩
    · rintro ⟨x, h1, h2, h3⟩
      by_cases e : x = k
      · subst e; exact .inr ⟨h2, h3⟩
      · exact .inl ⟨x, by omega, h2, h3⟩
theorem rowAt_bit {n s x g : Nat} (hx : x < n) (hk : 0 < rk s n) (h : rowAt n s x g = true) : s.testBit x = true := by
  have e : rowS n x g (rk s n) = s := by simpa [rowAt] using h
  rw [← e, rowS_bit]
  exact ⟨0, hk, by unfold rowT; rw [Nat.zero_mul, Nat.add_zero, Nat.mod_eq_of_lt hx]⟩
/-- the distances of the rows, as a set -/
def rmask (n s : Nat) : Nat → Nat
  | 0 => 0
  | g + 1 => if g ≠ 0 ∧ isRow n s g = true then rmask n s g ||| 2 ^ g else rmask n s g
theorem rmask_bit (n s y : Nat) : ∀ k, (rmask n s k).testBit y = true ↔ y < k ∧ y ≠ 0 ∧ isRow n s y = true
  | 0 => by simp [rmask]
  | k + 1 => by
    have ih := rmask_bit n s y k
    unfold rmask
    by_cases h : k ≠ 0 ∧ isRow n s k = true
    · rw [if_pos h, Nat.testBit_or, Nat.testBit_two_pow]
      simp only [Bool.or_eq_true, decide_eq_true_eq, ih]
      constructor
      · rintro (⟨a, b, c⟩ | e)
        · exact ⟨by omega, b, c⟩
        · subst e; exact ⟨by omega, h⟩
      · rintro ⟨a, b, c⟩
        by_cases e : y = k
        · exact .inr e.symm
        · exact .inl ⟨by omega, b, c⟩
    · rw [if_neg h, ih]
      constructor
      · rintro ⟨a, b, c⟩; exact ⟨by omega, b, c⟩
      · rintro ⟨a, b, c⟩
        by_cases e : y = k
        · subst e; exact absurd ⟨b, c⟩ h
        · exact ⟨by omega, b, c⟩
def rows (n s : Nat) : Nat := rmask n s n
theorem rows_lt {n s : Nat} : rows n s < 2 ^ n := by
  apply Nat.lt_pow_two_of_testBit
  intro y hy
  cases e : (rows n s).testBit y with
  | false => rfl
  | true => have := ((rmask_bit n s y n).1 e).1; omega
theorem rows_at {n s g : Nat} (h1 : 1 ≤ g) (h2 : g < n) : (rows n s).testBit g = isRow n s g := by
  rw [Bool.eq_iff_iff]
  unfold rows
  rw [rmask_bit]
  exact ⟨fun h => h.2.2, fun h => ⟨h2, by omega, h⟩⟩
theorem rows_zero (n s : Nat) : (rows n s).testBit 0 = false := by
  cases e : (rows n s).testBit 0 with
  | false => rfl
  | true => exact absurd rfl ((rmask_bit n s 0 n).1 e).2.1
theorem rows_empty (n : Nat) : rows n 0 = 0 := by
  apply Nat.eq_of_testBit_eq
  intro y
  cases e : (rows n 0).testBit y with
  | false => simp
  | true =>
    obtain ⟨x, _, h2, _⟩ := (rowTo_iff n 0 y n).1 ((rmask_bit n 0 y n).1 e).2.2
    simp at h2

/-- back from the last tone, and turned round 0 -/
def mirOk : Bool := (List.range 13).all fun n => (List.range n).all fun x => (List.range n).all fun g => (List.range (n + 1)).all fun k => g == 0 || k == 0 || rowS n ((x + (k - 1) * g) % n) (n - g) k == rowS n x g k
theorem mirOk_true : mirOk = true := by decide +kernel
def turOk : Bool := (List.range 13).all fun n => (List.range n).all fun x => (List.range n).all fun g => (List.range (n + 1)).all fun k => g == 0 || rowS n ((n - x) % n) (n - g) k == tur n 0 (rowS n x g k)
theorem turOk_true : turOk = true := by decide +kernel
theorem rowS_back {n x g k : Nat} (hn : n ≤ 12) (hx : x < n) (hg : 0 < g) (hgn : g < n) (hk : 0 < k) (hkn : k ≤ n) : rowS n ((x + (k - 1) * g) % n) (n - g) k = rowS n x g k := by
  have h := mirOk_true
  simp only [mirOk, List.all_eq_true, List.mem_range, Bool.or_eq_true, beq_iff_eq] at h
  rcases h n (by omega) x hx g hgn k (by omega) with (h | h) | h
  · omega
  · omega
  · exact h
theorem rowS_tur {n x g k : Nat} (hn : n ≤ 12) (hx : x < n) (hg : 0 < g) (hgn : g < n) (hkn : k ≤ n) : rowS n ((n - x) % n) (n - g) k = tur n 0 (rowS n x g k) := by
  have h := turOk_true
  simp only [turOk, List.all_eq_true, List.mem_range, Bool.or_eq_true, beq_iff_eq] at h
  rcases h n (by omega) x hx g hgn k (by omega) with h | h
  · omega
  · exact h
theorem rk_le (s : Nat) : ∀ n, rk s n ≤ n
  | 0 => Nat.le_refl _
  | n + 1 => by
    have := rk_le s n
    cases h : s.testBit n with
    | true => rw [rk_yes h]; omega
    | false => rw [rk_no h]; omega
theorem isRow_iff {n s g : Nat} : isRow n s g = true ↔ ∃ x, x < n ∧ s.testBit x = true ∧ rowS n x g (rk s n) = s := by
  unfold isRow
  rw [rowTo_iff]
  constructor
  · rintro ⟨x, h1, h2, h3⟩; exact ⟨x, h1, h2, by simpa [rowAt] using h3⟩
  · rintro ⟨x, h1, h2, h3⟩; exact ⟨x, h1, h2, by simpa [rowAt] using h3⟩
theorem rk_pos {n s x : Nat} (hx : x < n) (h : s.testBit x = true) : 0 < rk s n := by have := rk_lt h hx; omega
theorem isRow_back1 {n s g : Nat} (hn : n ≤ 12) (hg : 0 < g) (hgn : g < n) (h : isRow n s g = true) : isRow n s (n - g) = true := by
  obtain ⟨x, h1, h2, h3⟩ := isRow_iff.1 h
  have hk := rk_pos h1 h2
  have e := rowS_back hn h1 hg hgn hk (rk_le s n)
  rw [h3] at e
  refine isRow_iff.2 ⟨(x + (rk s n - 1) * g) % n, Nat.mod_lt _ (by omega), ?_, e⟩
  refine rowAt_bit (g := n - g) (Nat.mod_lt _ (by omega)) hk ?_
  simpa [rowAt] using e
theorem isRow_back {n s g : Nat} (hn : n ≤ 12) (hg : 0 < g) (hgn : g < n) : isRow n s (n - g) = isRow n s g := by
  rw [Bool.eq_iff_iff]
  constructor
  · intro h
    have := isRow_back1 hn (by omega) (by omega) h
    rwa [show n - (n - g) = g by omega] at this
  · exact isRow_back1 hn hg hgn
theorem rowS_shf {n x g k : Nat} (h : 0 < n) : rowS n ((x + 1) % n) g k = shf n 1 (rowS n x g k) := by
  have hs := rowS_lt h x g k
  apply Nat.eq_of_testBit_eq
  intro y
  rw [Bool.eq_iff_iff, rowS_bit, shf_bit1 h hs]
  have key : ∀ i, rowT n ((x + 1) % n) g i = (rowT n x g i + 1) % n := fun i => by
    unfold rowT
    rw [Nat.mod_add_mod, Nat.mod_add_mod]
    congr 1; omega
  constructor
  · rintro ⟨i, h1, rfl⟩
    exact ⟨rowT n x g i, rowT_lt h x g i, (rowS_bit n x g _ k).2 ⟨i, h1, rfl⟩, key i⟩
  · rintro ⟨z, h1, h2, rfl⟩
    obtain ⟨i, h3, rfl⟩ := (rowS_bit n x g z k).1 h2
    exact ⟨i, h3, key i⟩
theorem isRow_shf {n s g : Nat} (h : 0 < n) (hn : n ≤ 12) (hs : s < 2 ^ n) : isRow n (shf n 1 s) g = isRow n s g := by
  rw [Bool.eq_iff_iff, isRow_iff, isRow_iff, rk_shf_n h hn hs]
  constructor
  · rintro ⟨x', h1, h2, h3⟩
    obtain ⟨x, a1, a2, rfl⟩ := (shf_bit1 h hs).1 h2
    refine ⟨x, a1, a2, ?_⟩
    rw [rowS_shf h] at h3
    rw [← shf_back h (rowS_lt h x g _) 1, h3, shf_back h hs]
  · rintro ⟨x, h1, h2, h3⟩
    exact ⟨(x + 1) % n, Nat.mod_lt _ h, (shf_bit1 h hs).2 ⟨x, h1, h2, rfl⟩, by rw [rowS_shf h, h3]⟩
theorem rk_tur {n s : Nat} (h : 0 < n) (hn : n ≤ 12) (hs : s < 2 ^ n) : rk (tur n 0 s) n = rk s n := by rw [rk_wt (tur_lt h _ _) hn, rk_wt hs hn, wt_tur h hn hs]
theorem isRow_tur1 {n s g : Nat} (hn : n ≤ 12) (hs : s < 2 ^ n) (hg : 0 < g) (hgn : g < n) (h : isRow n s g = true) : isRow n (tur n 0 s) g = true := by
  obtain ⟨x, h1, h2, h3⟩ := isRow_iff.1 h
  have e := rowS_tur (n := n) (x := x) (g := g) hn h1 hg hgn (rk_le s n)
  rw [h3] at e
  have hr : isRow n (tur n 0 s) (n - g) = true := by
    refine isRow_iff.2 ⟨(n - x) % n, Nat.mod_lt _ (by omega), ?_, by rw [rk_tur (by omega) hn hs]; exact e⟩
    refine rowAt_bit (g := n - g) (Nat.mod_lt _ (by omega)) (by rw [rk_tur (by omega) hn hs]; exact rk_pos h1 h2) ?_
    simpa [rowAt, rk_tur (show 0 < n by omega) hn hs] using e
  rwa [isRow_back hn hg hgn] at hr
theorem isRow_tur {n s g : Nat} (hn : n ≤ 12) (hs : s < 2 ^ n) (hg : 0 < g) (hgn : g < n) : isRow n (tur n 0 s) g = isRow n s g := by
  rw [Bool.eq_iff_iff]
  constructor
  · intro h
    have := isRow_tur1 hn (tur_lt (by omega) 0 s) hg hgn h
    rwa [tur_back (by omega) hs] at this
  · exact isRow_tur1 hn hs hg hgn
theorem rows_shf {n s : Nat} (h : 0 < n) (hn : n ≤ 12) (hs : s < 2 ^ n) : rows n (shf n 1 s) = rows n s := by
  apply Nat.eq_of_testBit_eq
  intro y
  rw [Bool.eq_iff_iff]
  unfold rows
  rw [rmask_bit, rmask_bit, isRow_shf h hn hs]
theorem rows_tur {n s : Nat} (h : 0 < n) (hn : n ≤ 12) (hs : s < 2 ^ n) : rows n (tur n 0 s) = rows n s := by
  apply Nat.eq_of_testBit_eq
  intro y
  rw [Bool.eq_iff_iff]
  unfold rows
  rw [rmask_bit, rmask_bit]
  constructor
  · rintro ⟨a, b, c⟩; exact ⟨a, b, by rwa [isRow_tur hn hs (by omega) a] at c⟩
  · rintro ⟨a, b, c⟩; exact ⟨a, b, by rwa [isRow_tur hn hs (by omega) a]⟩
theorem rows_back {n s g : Nat} (hn : n ≤ 12) (hg : 0 < g) (hgn : g < n) : (rows n s).testBit (n - g) = (rows n s).testBit g := by
  rw [rows_at (by omega) (by omega), rows_at hg hgn, isRow_back hn hg hgn]

/-- sets of two sizes of steps are rows -/
def dbOk (n : Nat) : Bool := (List.range (2 ^ n)).all fun s => rk s n < 2 || !dbl n s || (List.range n).any fun g => g != 0 && isRow n s g
theorem dbOk_low : ((List.range 11).all dbOk) = true := by decide +kernel
theorem dbOk_11 : dbOk 11 = true := by decide +kernel
theorem dbOk_12 : dbOk 12 = true := by decide +kernel
end Go.Proofs.Ytmofhhffkppelaa.Tic
