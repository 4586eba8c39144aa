/-
  Plain mathematics of kinds of sets: shifts and turns composed, and the least of them. No program in sight.
-/
import Derived.Test.YtmofhhffkppelaaMath
namespace Go.Proofs.Ytmofhhffkppelaa.Tic
set_option linter.unusedVariables false
/-- how many t below k have p -/
def cnt (p : Nat → Bool) : Nat → Nat
  | 0 => 0
  | k + 1 => if p k then cnt p k + 1 else cnt p k
theorem cnt_le (p : Nat → Bool) : ∀ k, cnt p k ≤ k
  | 0 => Nat.le_refl _
  | k + 1 => by unfold cnt; have := cnt_le p k; split <;> omega
theorem cnt_yes {p : Nat → Bool} {k : Nat} (h : p k = true) : cnt p (k + 1) = cnt p k + 1 := by conv => lhs; unfold cnt; rw [if_pos h]
theorem cnt_no {p : Nat → Bool} {k : Nat} (h : p k = false) : cnt p (k + 1) = cnt p k := by conv => lhs; unfold cnt; rw [if_neg (by simp [h])]

theorem emod_mul_emod (a b c : Int) (n : Nat) : (a + b * (c % (n : Int))) % (n : Int) = (a + b * c) % (n : Int) := by
  have h := Int.mul_ediv_add_emod c n
  have e : a + b * c = (a + b * (c % (n : Int))) + n * (b * (c / n)) := by
    conv => lhs; rw [← h]
    rw [Int.mul_add, Int.mul_left_comm b]
    omega
  rw [e, Int.add_mul_emod_self_left]

theorem mvd_comp {n : Nat} (h : 0 < n) (w1 t1 w2 t2 : Int) (x : Nat) : mvd n w1 t1 (mvd n w2 t2 x) = mvd n (w1 * w2) (t1 + w1 * t2) x := by
  have h1 := Int.emod_nonneg (t2 + w2 * x) (b := (n : Int)) (by omega)
  unfold mvd
  rw [Int.toNat_of_nonneg h1, emod_mul_emod]
  congr 2
  rw [Int.mul_add, Int.add_assoc, Int.mul_assoc]

theorem img_congr (f g : Nat → Nat) (s : Nat) : ∀ k, (∀ x, x < k → f x = g x) → img f s k = img g s k
  | 0, _ => rfl
  | k + 1, h => by unfold img; rw [img_congr f g s k (fun x hx => h x (by omega)), h k (by omega)]

theorem img_img (f g : Nat → Nat) (s n : Nat) (hg : ∀ x, x < n → g x < n) : img f (img g s n) n = img (fun x => f (g x)) s n := by
  apply Nat.eq_of_testBit_eq
  intro y
  rw [Bool.eq_iff_iff, img_testBit, img_testBit]
  constructor
  · rintro ⟨x, hx, h1, rfl⟩
    obtain ⟨z, hz, h2, rfl⟩ := (img_testBit g s x n).1 h1
    exact ⟨z, hz, h2, rfl⟩
  · rintro ⟨z, hz, h2, rfl⟩
    exact ⟨g z, hg z hz, (img_testBit g s _ n).2 ⟨z, hz, h2, rfl⟩, rfl⟩

theorem img_id {s n : Nat} (hs : s < 2 ^ n) (f : Nat → Nat) (hf : ∀ x, x < n → f x = x) : img f s n = s := by
  apply Nat.eq_of_testBit_eq
  intro y
  rw [Bool.eq_iff_iff, img_testBit]
  constructor
  · rintro ⟨x, hx, h1, rfl⟩; rw [hf x hx]; exact h1
  · intro h
    have hy : y < n := by
      rcases Nat.lt_or_ge y n with g | g
      · exact g
      · have := Nat.testBit_lt_two_pow (Nat.lt_of_lt_of_le hs (Nat.pow_le_pow_right (by omega : 0 < 2) g))
        rw [this] at h; cases h
    exact ⟨y, hy, h, hf y hy⟩

theorem img_mvd_comp {n : Nat} (h : 0 < n) (w1 t1 w2 t2 : Int) (s : Nat) : img (mvd n w1 t1) (img (mvd n w2 t2) s n) n = img (mvd n (w1 * w2) (t1 + w1 * t2)) s n := by
  rw [img_img _ _ _ _ (fun x _ => mvd_lt h _ _ x)]
  exact img_congr _ _ _ _ fun x _ => mvd_comp h _ _ _ _ x

theorem shf_zero {n s : Nat} (h : 0 < n) (hs : s < 2 ^ n) : shf n 0 s = s := by
  refine img_id hs _ fun x hx => ?_
  unfold mvd
  rw [Int.one_mul, Int.zero_add, Int.emod_eq_of_lt (by omega) (by omega)]
  rfl
theorem shf_tur0 {n : Nat} (h : 0 < n) (t : Int) (s : Nat) : shf n t (tur n 0 s) = tur n t s := by
  unfold shf tur
  rw [img_mvd_comp h, show t + 1 * 0 = t from by omega]; rfl
theorem shf_shf {n : Nat} (h : 0 < n) (t u : Int) (s : Nat) : shf n t (shf n u s) = shf n (t + u) s := by
  unfold shf
  rw [img_mvd_comp h, show t + 1 * u = t + u from by omega]; rfl
theorem tur_shf {n : Nat} (h : 0 < n) (t u : Int) (s : Nat) : tur n t (shf n u s) = tur n (t - u) s := by
  unfold tur shf
  rw [img_mvd_comp h, show t + -1 * u = t - u from by omega]; rfl
theorem shf_tur {n : Nat} (h : 0 < n) (t u : Int) (s : Nat) : shf n t (tur n u s) = tur n (t + u) s := by
  unfold tur shf
  rw [img_mvd_comp h, show t + 1 * u = t + u from by omega]; rfl
theorem tur_tur {n : Nat} (h : 0 < n) (t u : Int) (s : Nat) : tur n t (tur n u s) = shf n (t - u) s := by
  unfold tur shf
  rw [img_mvd_comp h, show t + -1 * u = t - u from by omega]; rfl

/-- the least of s and its shifts and turns by all below k -/
def kTo (n s : Nat) : Nat → Nat
  | 0 => s
  | k + 1 => min (min (kTo n s k) (shf n k s)) (tur n k s)
/-- the least of s and its shifts by 1 to k -/
def lTo (n s : Nat) : Nat → Nat
  | 0 => s
  | k + 1 => min (lTo n s k) (shf n (k + 1 : Nat) s)
theorem lTo_next (n s : Nat) {k : Nat} (h : 1 ≤ k) : lTo n s (k + 1 - 1) = min (lTo n s (k - 1)) (shf n k s) := by
  obtain ⟨j, rfl⟩ : ∃ j, k = j + 1 := ⟨k - 1, by omega⟩
  rfl
theorem kTo_le (n s : Nat) : ∀ k, kTo n s k ≤ s
  | 0 => Nat.le_refl _
  | k + 1 => by unfold kTo; have := kTo_le n s k; omega
theorem lTo_le (n s : Nat) : ∀ k, lTo n s k ≤ s
  | 0 => Nat.le_refl _
  | k + 1 => by unfold lTo; have := lTo_le n s k; omega
theorem kTo_shf (n s : Nat) : ∀ k t, t < k → kTo n s k ≤ shf n t s
  | k + 1, t, h => by
    unfold kTo
    by_cases e : t = k
    · subst e; omega
    · have := kTo_shf n s k t (by omega); omega
theorem kTo_tur (n s : Nat) : ∀ k t, t < k → kTo n s k ≤ tur n t s
  | k + 1, t, h => by
    unfold kTo
    by_cases e : t = k
    · subst e; omega
    · have := kTo_tur n s k t (by omega); omega
theorem kTo_mem (n s : Nat) : ∀ k, kTo n s k = s ∨ ∃ t, t < k ∧ (kTo n s k = shf n t s ∨ kTo n s k = tur n t s)
  | 0 => .inl rfl
  | k + 1 => by
    have e : kTo n s (k + 1) = kTo n s k ∨ kTo n s (k + 1) = shf n k s ∨ kTo n s (k + 1) = tur n k s := by
      conv => lhs; lhs; unfold kTo
      conv => rhs; lhs; lhs; unfold kTo
      conv => rhs; rhs; lhs; unfold kTo
      omega
    rcases e with e | e | e
    · rcases kTo_mem n s k with h | ⟨t, ht, h⟩
      · exact .inl (e.trans h)
      · exact .inr ⟨t, by omega, by rw [e]; exact h⟩
    · exact .inr ⟨k, by omega, .inl e⟩
    · exact .inr ⟨k, by omega, .inr e⟩
theorem lTo_shf (n s : Nat) : ∀ k t, 1 ≤ t → t ≤ k → lTo n s k ≤ shf n (t : Nat) s
  | 0, t, h, h2 => by omega
  | k + 1, t, h, h2 => by
    unfold lTo
    by_cases e : t = k + 1
    · subst e; omega
    · have := lTo_shf n s k t h (by omega); omega
theorem lTo_mem (n s : Nat) : ∀ k, lTo n s k = s ∨ ∃ t : Nat, 1 ≤ t ∧ t ≤ k ∧ lTo n s k = shf n t s
  | 0 => .inl rfl
  | k + 1 => by
    have e : lTo n s (k + 1) = lTo n s k ∨ lTo n s (k + 1) = shf n (k + 1 : Nat) s := by
      conv => lhs; lhs; unfold lTo
      conv => rhs; lhs; unfold lTo
      omega
    rcases e with e | e
    · rcases lTo_mem n s k with h | ⟨t, h0, ht, h⟩
      · exact .inl (e.trans h)
      · exact .inr ⟨t, h0, by omega, by rw [e]; exact h⟩
    · exact .inr ⟨k + 1, by omega, by omega, e⟩
/-- the least number of a kind -/
def prm (n s : Nat) : Nat := kTo n s n
theorem prm_spec {n s : Nat} (h : 0 < n) (hs : s < 2 ^ n) : min (lTo n s (n - 1)) (lTo n (tur n 0 s) (n - 1)) = prm n s := by
  apply Nat.le_antisymm
  · unfold prm
    rcases kTo_mem n s n with e | ⟨t, ht, e | e⟩
    · rw [e]; have := lTo_le n s (n - 1); omega
    · rw [e]
      by_cases e0 : t = 0
      · subst e0; rw [show ((0 : Nat) : Int) = 0 from rfl, shf_zero h hs]; have := lTo_le n s (n - 1); omega
      · have := lTo_shf n s (n - 1) t (by omega) (by omega); omega
    · rw [e]
      by_cases e0 : t = 0
      · subst e0; rw [show ((0 : Nat) : Int) = 0 from rfl]; have := lTo_le n (tur n 0 s) (n - 1); omega
      · have := lTo_shf n (tur n 0 s) (n - 1) t (by omega) (by omega); rw [shf_tur0 h] at this; omega
  · have h1 : prm n s ≤ lTo n s (n - 1) := by
      unfold prm
      rcases lTo_mem n s (n - 1) with e | ⟨t, h0, ht, e⟩
      · rw [e]; exact kTo_le _ _ _
      · rw [e]; exact kTo_shf n s n t (by omega)
    have h2 : prm n s ≤ lTo n (tur n 0 s) (n - 1) := by
      unfold prm
      rcases lTo_mem n (tur n 0 s) (n - 1) with e | ⟨t, h0, ht, e⟩
      · rw [e]; exact kTo_tur n s n 0 h
      · rw [e, shf_tur0 h]; exact kTo_tur n s n t (by omega)
    omega
theorem kTo_lt {n s : Nat} (hs : s < 2 ^ n) (k : Nat) : kTo n s k < 2 ^ n := Nat.lt_of_le_of_lt (kTo_le _ _ _) hs
theorem lTo_lt {n s : Nat} (hs : s < 2 ^ n) (k : Nat) : lTo n s k < 2 ^ n := Nat.lt_of_le_of_lt (lTo_le _ _ _) hs
theorem valid_shf {n s : Int} (h : Valid n s) (t : Int) : Valid n (shf n.toNat t s.toNat : Int) :=
  ⟨h.1, h.2.1, Int.natCast_nonneg _, by have := shf_lt (n := n.toNat) (by have := h.1; omega) t s.toNat; exact Int.ofNat_lt.2 this⟩
theorem valid_tur {n s : Int} (h : Valid n s) (t : Int) : Valid n (tur n.toNat t s.toNat : Int) :=
  ⟨h.1, h.2.1, Int.natCast_nonneg _, by have := tur_lt (n := n.toNat) (by have := h.1; omega) t s.toNat; exact Int.ofNat_lt.2 this⟩
theorem Valid.lt_pow {n s : Int} (h : Valid n s) : s.toNat < 2 ^ n.toNat := by
  have h1 := h.2.2.2
  have h2 := h.2.2.1
  omega
theorem valid_prm {n s : Int} (h : Valid n s) : Valid n (prm n.toNat s.toNat : Int) :=
  ⟨h.1, h.2.1, Int.natCast_nonneg _, Int.ofNat_lt.2 (kTo_lt h.lt_pow _)⟩
theorem prm_min {n s : Int} (h : Valid n s) : min (lTo n.toNat s.toNat (n.toNat - 1)) (lTo n.toNat (tur n.toNat 0 s.toNat) (n.toNat - 1)) = prm n.toNat s.toNat :=
  prm_spec (by have := h.1; omega) h.lt_pow
/-- how many shifts, turns below n leave the set -/
def shs (n s : Nat) : Nat → Nat := cnt fun t => shf n t s == s
def trs (n s : Nat) : Nat → Nat := cnt fun t => tur n t s == s
theorem shs_step (N S k : Nat) : ((((img (mvd N 1 k) S N : Nat) : Int) == (S : Int)) = true ∧ shs N S (k + 1) = shs N S k + 1) ∨ ((((img (mvd N 1 k) S N : Nat) : Int) == (S : Int)) = false ∧ shs N S (k + 1) = shs N S k) := by
  by_cases h : shf N k S = S
  · refine .inl ⟨?_, cnt_yes (by simpa using h)⟩
    rw [show img (mvd N 1 k) S N = S from h]; simp
  · refine .inr ⟨?_, cnt_no (by simpa using h)⟩
    have : ((img (mvd N 1 k) S N : Nat) : Int) ≠ (S : Int) := fun e => h (Int.ofNat.inj e)
    simpa using this
theorem trs_step (N S k : Nat) : ((((img (mvd N (-1) k) S N : Nat) : Int) == (S : Int)) = true ∧ trs N S (k + 1) = trs N S k + 1) ∨ ((((img (mvd N (-1) k) S N : Nat) : Int) == (S : Int)) = false ∧ trs N S (k + 1) = trs N S k) := by
  by_cases h : tur N k S = S
  · refine .inl ⟨?_, cnt_yes (by simpa using h)⟩
    rw [show img (mvd N (-1) k) S N = S from h]; simp
  · refine .inr ⟨?_, cnt_no (by simpa using h)⟩
    have : ((img (mvd N (-1) k) S N : Nat) : Int) ≠ (S : Int) := fun e => h (Int.ofNat.inj e)
    simpa using this
theorem shs_le (N S k : Nat) : shs N S k ≤ k := cnt_le _ k
theorem trs_le (N S k : Nat) : trs N S k ≤ k := cnt_le _ k
end Go.Proofs.Ytmofhhffkppelaa.Tic
