/-
  Plain mathematics of beats put together as evenly as can be: the groups, and what is left. No program in sight.
-/
import Derived.Test.YtahpjfdecjfpcaaEvenLaw
namespace Go.Proofs.Ytahpjfdecjfpcaa.Tic
set_option linter.unusedVariables false

/-- a list so many times -/
def rep : Nat → List Int → List Int
  | 0, _ => []
  | n + 1, L => rep n L ++ L
theorem rep_length (L : List Int) : ∀ n, (rep n L).length = n * L.length
  | 0 => by simp [rep]
  | n + 1 => by unfold rep; rw [List.length_append, rep_length L n, Nat.succ_mul]
/-- x groups A and y groups B put together, in at most f steps -/
def fin : Nat → List Int → List Int → Nat → Nat → List Int
  | 0, A, B, x, y => rep x A ++ rep y B
  | f + 1, A, B, x, y => if 1 < y then (if x < y then fin f (A ++ B) B x (y - x) else fin f (A ++ B) A y (x - y)) else rep x A ++ rep y B
theorem fin_end {f x y : Nat} (A B : List Int) (h : y ≤ 1) : fin f A B x y = rep x A ++ rep y B := by
  cases f with
  | zero => rfl
  | succ f => unfold fin; rw [if_neg (by omega)]
theorem fin_less {f x y : Nat} (A B : List Int) (h : 1 < y) (hxy : x < y) : fin (f + 1) A B x y = fin f (A ++ B) B x (y - x) := by
  conv => lhs; unfold fin
  rw [if_pos h, if_pos hxy]
theorem fin_more {f x y : Nat} (A B : List Int) (h : 1 < y) (hxy : ¬ x < y) : fin (f + 1) A B x y = fin f (A ++ B) A y (x - y) := by
  conv => lhs; unfold fin
  rw [if_pos h, if_neg hxy]
/-- the state of the putting together -/
def Bt (n : Nat) (T : List Int) (A B : List Int) (x y : Nat) : Prop := 1 ≤ x ∧ x ≤ 12 ∧ y ≤ 12 ∧ A.length ≤ 12 ∧ B.length ≤ 12 ∧ x * A.length + y * B.length = n ∧ fin (x + y) A B x y = T
theorem fin_mono : ∀ (f g : Nat) (A B : List Int) (x y : Nat), 1 ≤ x → x + y ≤ f → x + y ≤ g → fin f A B x y = fin g A B x y
  | 0, g, A, B, x, y, h1, h2, _ => by omega
  | f + 1, 0, A, B, x, y, h1, _, h3 => by omega
  | f + 1, g + 1, A, B, x, y, h1, h2, h3 => by
    by_cases hy : 1 < y
    · by_cases hxy : x < y
      · rw [fin_less A B hy hxy, fin_less A B hy hxy]
        exact fin_mono f g _ _ _ _ h1 (by omega) (by omega)
      · rw [fin_more A B hy hxy, fin_more A B hy hxy]
        exact fin_mono f g _ _ _ _ (by omega) (by omega) (by omega)
    · rw [fin_end A B (by omega), fin_end A B (by omega)]
theorem bt_sum {n : Nat} {T A B : List Int} {x y : Nat} (hn : n ≤ 12) (h : Bt n T A B x y) (hy : 1 < y) : A.length + B.length ≤ 12 := by
  obtain ⟨h1, _, _, _, _, h6, _⟩ := h
  have e1 : 1 * A.length ≤ x * A.length := Nat.mul_le_mul_right _ h1
  have e2 : 1 * B.length ≤ y * B.length := Nat.mul_le_mul_right _ (by omega)
  omega
theorem bt_less {n : Nat} {T A B : List Int} {x y : Nat} (hn : n ≤ 12) (h : Bt n T A B x y) (hy : 1 < y) (hxy : x < y) : Bt n T (A ++ B) B x (y - x) := by
  have hs := bt_sum hn h hy
  obtain ⟨h1, h2, h3, h4, h5, h6, h7⟩ := h
  refine ⟨h1, h2, by omega, by rw [List.length_append]; exact hs, h5, ?_, ?_⟩
  · rw [List.length_append, Nat.mul_add, Nat.sub_mul]
    have : x * B.length ≤ y * B.length := Nat.mul_le_mul_right _ (by omega)
    omega
  · rw [← h7, show x + y = (x + y - 1) + 1 by omega, fin_less A B hy hxy]
    exact fin_mono _ _ _ _ _ _ h1 (by omega) (by omega)
theorem bt_more {n : Nat} {T A B : List Int} {x y : Nat} (hn : n ≤ 12) (h : Bt n T A B x y) (hy : 1 < y) (hxy : ¬ x < y) : Bt n T (A ++ B) A y (x - y) := by
  have hs := bt_sum hn h hy
  obtain ⟨h1, h2, h3, h4, h5, h6, h7⟩ := h
  refine ⟨by omega, h3, by omega, by rw [List.length_append]; exact hs, h4, ?_, ?_⟩
  · rw [List.length_append, Nat.mul_add, Nat.sub_mul]
    have : y * A.length ≤ x * A.length := Nat.mul_le_mul_right _ (by omega)
    omega
  · rw [← h7, show x + y = (x + y - 1) + 1 by omega, fin_more A B hy hxy]
    exact fin_mono _ _ _ _ _ _ (by omega) (by omega) (by omega)
theorem bt_end {n : Nat} {T A B : List Int} {x y : Nat} (h : Bt n T A B x y) (hy : y ≤ 1) : rep x A ++ rep y B = T := by
  rw [← h.2.2.2.2.2.2, fin_end A B hy]
theorem bt_len {n : Nat} {T A B : List Int} {x y : Nat} (h : Bt n T A B x y) : (rep x A).length + (rep y B).length = n := by
  rw [rep_length, rep_length]; exact h.2.2.2.2.2.1
/-- the beats -/
def beats (n k : Nat) : List Int := fin n [1] [0] k (n - k)
theorem bt_start {n k : Nat} (hn : n ≤ 12) (h1 : 1 ≤ k) (h2 : k ≤ n) : Bt n (beats n k) [1] [0] k (n - k) := by
  refine ⟨h1, by omega, by omega, by simp, by simp, by simp; omega, ?_⟩
  rw [show k + (n - k) = n by omega]; rfl

/-- the places of the beats, as a set -/
def bset : List Int → Nat
  | [] => 0
  | b :: r => (if b = 1 then 1 else 0) + 2 * bset r
def btOk : Bool := (List.range 13).all fun n => (List.range (n + 1)).all fun k => k == 0 || ((beats n k).length == n && (beats n k).sum == (k : Int) && (beats n k).all (fun b => b == 0 || b == 1) && (beats n k).getD 0 0 == 1 && evn n (bset (beats n k)) && bset (beats n k) != 0)
theorem btOk_true : btOk = true := by decide +kernel
theorem beats_ok {n k : Nat} (hn : n ≤ 12) (h1 : 1 ≤ k) (h2 : k ≤ n) : (beats n k).length = n ∧ (beats n k).sum = (k : Int) ∧ (∀ b ∈ beats n k, b = 0 ∨ b = 1) ∧ (beats n k).getD 0 0 = 1 ∧ evn n (bset (beats n k)) = true ∧ bset (beats n k) ≠ 0 := by
  have h := btOk_true
  simp only [btOk, List.all_eq_true, List.mem_range, Bool.or_eq_true, Bool.and_eq_true, beq_iff_eq, bne_iff_ne] at h
  rcases h n (by omega) k (by omega) with h | h
  · omega
  · obtain ⟨⟨⟨⟨⟨a, b⟩, c⟩, d⟩, e⟩, f⟩ := h
    exact ⟨a, b, c, d, e, f⟩
theorem bset_lt : ∀ (L : List Int), bset L < 2 ^ L.length
  | [] => by simp [bset]
  | b :: r => by
    unfold bset
    have := bset_lt r
    rw [List.length_cons, Nat.pow_succ]
    split <;> omega
/-- the first j places -/
theorem bset_take (L : List Int) (h : ∀ b ∈ L, b = 0 ∨ b = 1) : ∀ j, j < L.length → bset (L.take (j + 1)) = bset (L.take j) + (if L.getD j 0 = 1 then 2 ^ j else 0) := by
  induction L with
  | nil => intro j hj; simp at hj
  | cons b r ih =>
    intro j hj
    cases j with
    | zero =>
      simp [bset]
    | succ j =>
      have hj' : j < r.length := by simpa using hj
      have := ih (fun c hc => h c (List.mem_cons_of_mem _ hc)) j hj'
      rw [List.take_succ_cons, List.take_succ_cons]
      unfold bset
      rw [this, show (b :: r).getD (j + 1) 0 = r.getD j 0 from rfl]
      by_cases h1 : r.getD j 0 = 1
      · rw [if_pos h1, if_pos h1, Nat.pow_succ]; omega
      · rw [if_neg h1, if_neg h1]; omega
end Go.Proofs.Ytahpjfdecjfpcaa.Tic
