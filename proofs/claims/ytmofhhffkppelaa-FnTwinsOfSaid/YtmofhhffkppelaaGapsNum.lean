/-
  Plain mathematics of gaps: how many pairs of tones are how far apart, counted in two orders. No program in sight.
-/
import Derived.Test.YtmofhhffkppelaaMath
namespace Go.Proofs.Ytmofhhffkppelaa.Tic
set_option linter.unusedVariables false

def gsum (f : Nat → Nat) : Nat → Nat
  | 0 => 0
  | k + 1 => gsum f k + f k
theorem gsum_congr {f g : Nat → Nat} : ∀ k, (∀ x, x < k → f x = g x) → gsum f k = gsum g k
  | 0, _ => rfl
  | k + 1, h => by unfold gsum; rw [gsum_congr k (fun x hx => h x (by omega)), h k (by omega)]
theorem gsum_zero (k : Nat) : gsum (fun _ => 0) k = 0 := by
  induction k with
  | zero => rfl
  | succ k ih => unfold gsum; rw [ih]
theorem gsum_add (f g : Nat → Nat) : ∀ k, gsum (fun x => f x + g x) k = gsum f k + gsum g k
  | 0 => rfl
  | k + 1 => by unfold gsum; rw [gsum_add f g k]; omega
theorem gsum_swap (f : Nat → Nat → Nat) (m : Nat) : ∀ n, gsum (fun x => gsum (fun y => f x y) m) n = gsum (fun y => gsum (fun x => f x y) n) m
  | 0 => by
    show 0 = _
    exact (gsum_zero m).symm
  | n + 1 => by
    show gsum (fun x => gsum (fun y => f x y) m) n + gsum (fun y => f n y) m = _
    rw [gsum_swap f m n, ← gsum_add]
    rfl
theorem gsum_le {f : Nat → Nat} {b : Nat} (h : ∀ x, f x ≤ b) : ∀ k, gsum f k ≤ k * b
  | 0 => by simp [gsum]
  | k + 1 => by unfold gsum; have := gsum_le h k; have := h k; rw [Nat.add_mul]; omega
/-- the sum ends where nothing follows -/
theorem gsum_stop {f : Nat → Nat} {m : Nat} (h : ∀ x, m ≤ x → f x = 0) : ∀ k, m ≤ k → gsum f k = gsum f m
  | 0, hk => by rw [Nat.le_zero.1 hk]
  | k + 1, hk => by
    by_cases e : m = k + 1
    · rw [e]
    · unfold gsum
      rw [gsum_stop h k (by omega), h k (by omega)]
      cases m <;> rfl

/-- the pair of the tones x and y of s is d + 1 apart, in a circle of n -/
def hit (n s d x y : Nat) : Nat := if s.testBit x = true ∧ s.testBit y = true ∧ x < y ∧ min (y - x) (n - (y - x)) = d + 1 then 1 else 0
theorem hit_le (n s d x y : Nat) : hit n s d x y ≤ 1 := by unfold hit; split <;> omega
/-- the pairs with the first tone below x, and with x and the second tone below y -/
def gS (n s x y d : Nat) : Nat := gsum (fun x' => gsum (fun y' => hit n s d x' y') n) x + gsum (fun y' => hit n s d x y') y
/-- the pairs with the second tone below y, and with y and the first tone below x -/
def gI (n s y x d : Nat) : Nat := gsum (fun y' => gsum (fun x' => hit n s d x' y') n) y + gsum (fun x' => hit n s d x' y) x
def gAll (n s d : Nat) : Nat := gsum (fun x' => gsum (fun y' => hit n s d x' y') n) n
theorem gS_end (n s d : Nat) : gS n s n 0 d = gAll n s d := rfl
theorem gI_end (n s d : Nat) : gI n s n 0 d = gAll n s d := by
  show gsum (fun y' => gsum (fun x' => hit n s d x' y') n) n + 0 = _
  rw [Nat.add_zero, gAll, gsum_swap (fun x y => hit n s d x y) n n]
theorem gS_start (n s x d : Nat) : gS n s x (x + 1) d = gS n s x 0 d := by
  unfold gS
  congr 1
  have : gsum (fun y' => hit n s d x y') (x + 1) = gsum (fun _ => 0) (x + 1) := gsum_congr _ fun y hy => by
    unfold hit; rw [if_neg]; rintro ⟨_, _, h, _⟩; omega
  rw [this, gsum_zero]; rfl
theorem gS_row (n s x d : Nat) : gS n s (x + 1) 0 d = gS n s x n d := rfl
theorem gS_next (n s x y d : Nat) : gS n s x (y + 1) d = gS n s x y d + hit n s d x y := by
  unfold gS
  conv => lhs; rhs; unfold gsum
  omega
theorem gI_row (n s y d : Nat) (h : y ≤ n) : gI n s (y + 1) 0 d = gI n s y y d := by
  show gsum (fun y' => gsum (fun x' => hit n s d x' y') n) y + gsum (fun x' => hit n s d x' y) n + 0 = _
  rw [gsum_stop (f := fun x' => hit n s d x' y) (m := y) (fun x hx => by unfold hit; rw [if_neg]; rintro ⟨_, _, h, _⟩; omega) n h]
  rfl
theorem gI_next (n s y x d : Nat) : gI n s y (x + 1) d = gI n s y x d + hit n s d x y := by
  unfold gI
  conv => lhs; rhs; unfold gsum
  omega
theorem gI_skip (n s y x d : Nat) (h : s.testBit x = false) : gI n s y (x + 1) d = gI n s y x d := by
  rw [gI_next]; unfold hit; rw [if_neg (by simp [h])]; omega
theorem gI_none (n s y d : Nat) (hy : y ≤ n) (h : s.testBit y = false) : gI n s (y + 1) 0 d = gI n s y 0 d := by
  rw [gI_row n s y d hy]
  unfold gI
  congr 1
  rw [gsum_congr (g := fun _ => 0) y (fun x _ => by unfold hit; rw [if_neg (by simp [h])]), gsum_zero]; rfl
theorem gS_no (n s x y d : Nat) (h : s.testBit x = false ∨ s.testBit y = false) : gS n s x (y + 1) d = gS n s x y d := by
  rw [gS_next]; unfold hit; rw [if_neg]; omega
  rintro ⟨a, b, _⟩; rcases h with h | h
  · rw [h] at a; cases a
  · rw [h] at b; cases b
theorem hit_at {n s x y i : Nat} (hx : s.testBit x = true) (hy : s.testBit y = true) (h : x < y) (hi : min (y - x) (n - (y - x)) = i + 1) (d : Nat) : hit n s d x y = if d = i then 1 else 0 := by
  unfold hit
  by_cases e : d = i
  · rw [if_pos e, if_pos ⟨hx, hy, h, by omega⟩]
  · rw [if_neg e, if_neg]; rintro ⟨_, _, _, h⟩; omega
theorem gS_le (n s x y d : Nat) (hx : x ≤ 12) (hy : y ≤ 12) (hn : n ≤ 12) : gS n s x y d ≤ 1000 := by
  have h1 : ∀ x', gsum (fun y' => hit n s d x' y') n ≤ 12 := fun x' => by
    have := gsum_le (f := fun y' => hit n s d x' y') (hit_le n s d x') n; omega
  have h2 := gsum_le (f := fun x' => gsum (fun y' => hit n s d x' y') n) h1 x
  have h3 := gsum_le (f := fun y' => hit n s d x y') (hit_le n s d x) y
  unfold gS
  omega
theorem gI_le (n s y x d : Nat) (hx : x ≤ 12) (hy : y ≤ 12) (hn : n ≤ 12) : gI n s y x d ≤ 1000 := by
  have h1 : ∀ y', gsum (fun x' => hit n s d x' y') n ≤ 12 := fun y' => by
    have := gsum_le (f := fun x' => hit n s d x' y') (fun x' => hit_le n s d x' y') n; omega
  have h2 := gsum_le (f := fun y' => gsum (fun x' => hit n s d x' y') n) h1 y
  have h3 := gsum_le (f := fun x' => hit n s d x' y) (fun x' => hit_le n s d x' y) x
  unfold gI
  omega

/-- a list of m counts -/
def cts (m : Nat) (C : Nat → Nat) : List Int := (List.range m).map fun d => (C d : Int)
theorem cts_length (m : Nat) (C : Nat → Nat) : (cts m C).length = m := by simp [cts]
theorem cts_getD {m i : Nat} (C : Nat → Nat) (h : i < m) : (cts m C).getD i 0 = (C i : Int) := by
  simp [cts, List.getD_eq_getElem?_getD, h]
theorem cts_set {m i : Nat} (C C' : Nat → Nat) (h : i < m) (hC : ∀ d, C' d = C d + if d = i then 1 else 0) : (cts m C).set i ((C i : Int) + 1) = cts m C' := by
  apply List.ext_getElem
  · simp [cts]
  · intro j h1 h2
    have hj : j < m := by simpa [cts] using h2
    rw [List.getElem_set]
    simp only [cts, List.getElem_map, List.getElem_range]
    rw [hC j]
    by_cases e : i = j
    · subst e; simp
    · rw [if_neg e, if_neg (fun e2 => e e2.symm)]; simp
theorem cts_congr {m : Nat} {C C' : Nat → Nat} (h : ∀ d, C d = C' d) : cts m C = cts m C' := by
  unfold cts; simp [h]
theorem cts_zero (m : Nat) : cts m (fun _ => 0) = List.replicate m 0 := by
  apply List.ext_getElem
  · simp [cts]
  · intro j h1 h2; simp [cts]
/-- the gaps of a set -/
def gapsOf (n s : Nat) : List Int := cts (n / 2) (gAll n s)
end Go.Proofs.Ytmofhhffkppelaa.Tic
