/-
  Plain mathematics of even scales, third part: what the tables say of spread sets, their shifts and the rest of the circle. No program in sight.
-/
import Derived.Test.YtmofhhffkppelaaRowsNum
namespace Go.Proofs.Ytmofhhffkppelaa.Tic
set_option linter.unusedVariables false

/-- the spread set -/
def sp0 (n k : Nat) : Nat := spr n k 0 k
theorem sp_shift {n k m : Nat} (hn : n ≤ 12) (hk : 1 ≤ k) (hkn : k ≤ n) (hm : m < n) : ∃ t : Nat, t < n ∧ shf n t (sp0 n k) = spr n k m k := by
  have h := smOk_true
  simp only [List.all_eq_true, List.mem_range] at h
  have h := h n (by omega)
  simp only [smOk, List.all_eq_true, List.mem_range, Bool.or_eq_true, beq_iff_eq, List.any_eq_true] at h
  rcases h k (by omega) with h | h
  · omega
  · obtain ⟨t, h1, h2⟩ := h m hm
    exact ⟨t, h1, h2⟩
theorem sp_even {n k t : Nat} (hn : n ≤ 12) (hk : 1 ≤ k) (hkn : k ≤ n) (ht : t < n) : evn n (shf n t (sp0 n k)) = true ∧ rk (sp0 n k) n = k ∧ (k = n ∨ evn n (oth n (shf n t (sp0 n k))) = true) := by
  have h := shOk_true
  simp only [List.all_eq_true, List.mem_range] at h
  have h := h n (by omega)
  simp only [shOk, List.all_eq_true, List.mem_range, Bool.or_eq_true, Bool.and_eq_true, beq_iff_eq] at h
  rcases h k (by omega) with h | h
  · omega
  · obtain ⟨⟨h1, h2⟩, h3⟩ := h t ht
    exact ⟨h1, h2, h3⟩
theorem ev_spread {n s : Nat} (h3 : 1 ≤ n) (hn : n ≤ 12) (hs : s < 2 ^ n) (h0 : s ≠ 0) (he : evn n s = true) : ∃ t : Nat, t < n ∧ shf n t (sp0 n (rk s n)) = s := by
  have h : evOk n = true := by
    rcases (show n < 11 ∨ n = 11 ∨ n = 12 by omega) with e | e | e
    · have h := evOk_low
      simp only [List.all_eq_true, List.mem_range] at h
      exact h n e
    · subst e; exact evOk_11
    · subst e; exact evOk_12
  simp only [evOk, List.all_eq_true, List.mem_range, Bool.or_eq_true, Bool.not_eq_true', beq_iff_eq, List.any_eq_true] at h
  rcases h s hs with (h | h) | h
  · exact absurd h h0
  · rw [he] at h; cases h
  · obtain ⟨t, h1, h2⟩ := h
    exact ⟨t, h1, h2⟩
theorem sp0_lt {n : Nat} (h : 0 < n) (k : Nat) : sp0 n k < 2 ^ n := spr_lt h k 0 k
theorem rk_pos_of {n s : Nat} (hs : s < 2 ^ n) (h0 : s ≠ 0) : 0 < rk s n := by
  rcases Nat.eq_zero_or_pos (rk s n) with e | e
  · exfalso
    apply h0
    apply Nat.eq_of_testBit_eq
    intro y
    cases hy : s.testBit y with
    | false => simp
    | true =>
      rcases Nat.lt_or_ge y n with hyn | hyn
      · have := rk_lt hy hyn; omega
      · rw [Nat.testBit_lt_two_pow (Nat.lt_of_lt_of_le hs (Nat.pow_le_pow_right (by omega) hyn))] at hy; cases hy
  · exact e
theorem rk_zero (n : Nat) : rk 0 n = 0 := by
  induction n with
  | zero => rfl
  | succ n ih => rw [rk_no (by simp), ih]
theorem sp_wt {n k m : Nat} (h1 : 1 ≤ n) (hn : n ≤ 12) (hk : 1 ≤ k) (hkn : k ≤ n) (hm : m < n) : wt 12 (spr n k m k) = k := by
  obtain ⟨t, ht, e⟩ := sp_shift hn hk hkn hm
  rw [← e, wt_shf (by omega) hn (sp0_lt (by omega) k), ← rk_wt (sp0_lt (by omega) k) hn]
  exact (sp_even hn hk hkn ht).2.1
theorem sp_evn {n k m : Nat} (hn : n ≤ 12) (hk : 1 ≤ k) (hkn : k ≤ n) (hm : m < n) : evn n (spr n k m k) = true := by
  obtain ⟨t, ht, e⟩ := sp_shift hn hk hkn hm
  rw [← e]
  exact (sp_even hn hk hkn ht).1
theorem sp_prm {n k m : Nat} (h1 : 1 ≤ n) (hn : n ≤ 12) (hk : 1 ≤ k) (hkn : k ≤ n) (hm : m < n) : prm n (spr n k m k) = prm n (spr n k 0 k) := by
  obtain ⟨t, ht, e⟩ := sp_shift hn hk hkn hm
  rw [← e, prm_shf (by omega) (sp0_lt (by omega) k)]
  rfl
theorem sp_pos {n k m : Nat} (h1 : 1 ≤ n) (hn : n ≤ 12) (hk : 1 ≤ k) (hkn : k ≤ n) (hm : m < n) : spr n k m k ≠ 0 := by
  intro e
  have := sp_wt h1 hn hk hkn hm
  rw [e, wt_zero] at this
  omega
/-- a set is even just where it is a shift of the spread one -/
theorem ev_iff {n s : Nat} (h1 : 1 ≤ n) (hn : n ≤ 12) (hs : s < 2 ^ n) (h0 : s ≠ 0) : evn n s = true ↔ ∃ t : Nat, t < n ∧ shf n t (sp0 n (rk s n)) = s := by
  constructor
  · exact ev_spread h1 hn hs h0
  · rintro ⟨t, ht, e⟩
    have := (sp_even hn (rk_pos_of hs h0) (rk_le s n) ht).1
    rwa [e] at this
theorem oth_oth {n s : Nat} (hs : s < 2 ^ n) : oth n (oth n s) = s := by unfold oth; omega
theorem ev_oth1 {n s : Nat} (h1 : 1 ≤ n) (hn : n ≤ 12) (hs : s < 2 ^ n) (h0 : s ≠ 0) (h2 : oth n s ≠ 0) (he : evn n s = true) : evn n (oth n s) = true := by
  obtain ⟨t, ht, e⟩ := ev_spread h1 hn hs h0 he
  rcases (sp_even hn (rk_pos_of hs h0) (rk_le s n) ht).2.2 with h | h
  · exfalso
    apply h2
    have hw := wt_oth hs hn
    rw [rk_wt hs hn] at h
    have hw0 : wt 12 (oth n s) = 0 := by omega
    apply Decidable.byContradiction
    intro h3
    have := rk_pos_of (oth_lt (n := n) (s := s)) h3
    rw [rk_wt oth_lt hn] at this
    omega
  · rwa [e] at h
theorem ev_oth {n s : Nat} (h1 : 1 ≤ n) (hn : n ≤ 12) (hs : s < 2 ^ n) (h0 : s ≠ 0) (h2 : oth n s ≠ 0) : evn n (oth n s) = evn n s := by
  rw [Bool.eq_iff_iff]
  constructor
  · intro h
    have := ev_oth1 h1 hn oth_lt h2 (by rw [oth_oth hs]; exact h0) h
    rwa [oth_oth hs] at this
  · exact ev_oth1 h1 hn hs h0 h2
/-- two sizes of each number of steps: rows -/
theorem db_rows {n s : Nat} (hn : n ≤ 12) (hs : s < 2 ^ n) (h2 : 2 ≤ rk s n) (hd : dbl n s = true) : rows n s ≠ 0 := by
  have h : dbOk n = true := by
    rcases (show n < 11 ∨ n = 11 ∨ n = 12 by omega) with e | e | e
    · have h := dbOk_low
      simp only [List.all_eq_true, List.mem_range] at h
      exact h n e
    · subst e; exact dbOk_11
    · subst e; exact dbOk_12
  simp only [dbOk, List.all_eq_true, List.mem_range, Bool.or_eq_true, Bool.not_eq_true', decide_eq_true_eq, List.any_eq_true, Bool.and_eq_true, bne_iff_ne] at h
  rcases h s hs with (h | h) | h
  · omega
  · rw [hd] at h; cases h
  · obtain ⟨g, h1, h3, h4⟩ := h
    intro e
    have := (rmask_bit n s g n).2 ⟨h1, h3, h4⟩
    rw [show rmask n s n = rows n s from rfl, e] at this
    simp at this
end Go.Proofs.Ytmofhhffkppelaa.Tic
