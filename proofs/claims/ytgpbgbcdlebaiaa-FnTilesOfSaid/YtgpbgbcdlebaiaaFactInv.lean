/-
  Plain mathematics of factors: they are the same of shifted and turned sets. No program in sight.
-/
import Derived.Test.YtgpbgbcdlebaiaaFactNum
import Derived.Test.YtgpbgbcdlebaiaaLawNum
namespace Go.Proofs.Ytgpbgbcdlebaiaa.Tic
set_option linter.unusedVariables false

/-- with a factor as many for all rests that are the same divided by the part -/
theorem fac_same {n s p d a b : Nat} (h : fac n s p d = true) (ha : a < p) (hb : b < p) (e : a % d = b % d) : wnd s p a n = wnd s p b n := by
  have h1 := (fac_iff n s p d).1 h
  rw [h1 a ha, h1 b hb, e]
theorem fac_of_map {n s s' p d : Nat} (f : Nat → Nat) (hd0 : 0 < d) (hdp : d ∣ p) (hp : 0 < p) (hf : ∀ r, r < p → f r < p) (hw : ∀ r, r < p → wnd s' p r n = wnd s p (f r) n) (hm : ∀ r, r < p → f r % d = f (r % d) % d) (h : fac n s p d = true) : fac n s' p d = true := by
  rw [fac_iff]
  intro r hr
  have h2 : r % d < p := Nat.lt_of_lt_of_le (Nat.mod_lt r hd0) (Nat.le_of_dvd hp hdp)
  rw [hw r hr, hw _ h2]
  exact fac_same h (hf r hr) (hf _ h2) (hm r hr)
theorem fac_shf_imp {n s p d t : Nat} (h0 : 0 < n) (hd0 : 0 < d) (hdp : d ∣ p) (hp : 0 < p) (hpn : p ∣ n) (ht : t ≤ p) (h : fac n s p d = true) : fac n (shf n t s) p d = true := by
  refine fac_of_map (fun r => (r + (p - t)) % p) hd0 hdp hp (fun r _ => Nat.mod_lt _ hp) (fun r hr => wnd_shf h0 hp hpn s r ht hr) ?_ h
  intro r hr
  rw [Nat.mod_mod_of_dvd _ hdp, Nat.mod_mod_of_dvd _ hdp]
  exact (Nat.mod_add_mod r d (p - t)).symm
theorem fac_shf {n s p d : Nat} (h0 : 0 < n) (hd0 : 0 < d) (hdp : d ∣ p) (hp : 0 < p) (hpn : p ∣ n) : fac n (shf n 1 s) p d = fac n s p d := by
  rw [Bool.eq_iff_iff]
  constructor
  · intro h
    have h1 := fac_shf_imp (t := p - 1) h0 hd0 hdp hp hpn (by omega) h
    rw [shf_shf h0, show (((p - 1 : Nat) : Int) + 1) = (p : Nat) by omega] at h1
    rw [fac_iff] at h1 ⊢
    intro r hr
    have h2 : r % d < p := Nat.lt_of_lt_of_le (Nat.mod_lt r hd0) (Nat.le_of_dvd hp hdp)
    have h3 := h1 r hr
    rw [wnd_shf h0 hp hpn s r (Nat.le_refl p) hr, wnd_shf h0 hp hpn s _ (Nat.le_refl p) h2, Nat.sub_self, Nat.add_zero, Nat.add_zero, Nat.mod_eq_of_lt hr, Nat.mod_eq_of_lt h2] at h3
    exact h3
  · intro h
    exact fac_shf_imp (t := 1) h0 hd0 hdp hp hpn (by omega) h
theorem trn_nat {n x : Nat} (hx : x < n) : mvd n (-1) 0 x = (n - x) % n := by
  unfold mvd
  rw [show (0 : Int) + -1 * (x : Int) = ((n - x : Nat) : Int) + n * (-1) by omega, Int.add_mul_emod_self_left, ← Int.natCast_emod, Int.toNat_natCast]
theorem wnd_tur {n p : Nat} (h : 0 < n) (hp : 0 < p) (hd : p ∣ n) (s r : Nat) (hr : r < p) : wnd (tur n 0 s) p r n = wnd s p ((p - r) % p) n := by
  have e1 : wnd (tur n 0 s) p r n = sm (fun y => sm (fun x => b2 (s.testBit x && ((n - x) % n == y && y % p == r))) n) n := by
    refine sm_congr fun y hy => ?_
    refine (sm_eq_b2 (fun x => s.testBit x && ((n - x) % n == y && y % p == r)) _ n ?_ ?_).symm
    · intro x z hx hz h1 h2
      simp only [Bool.and_eq_true, beq_iff_eq] at h1 h2
      exact mvd_inj h (-1) 0 (.inr rfl) x z hx hz (by rw [trn_nat hx, trn_nat hz, h1.2.1, h2.2.1])
    · rw [Bool.and_eq_true]
      unfold tur
      rw [img_testBit]
      constructor
      · rintro ⟨⟨x, hx, h2, h3⟩, h1⟩
        rw [trn_nat hx] at h3
        exact ⟨x, hx, by simp [h2, h3]; simpa using h1⟩
      · rintro ⟨x, hx, h1⟩
        simp only [Bool.and_eq_true, beq_iff_eq] at h1
        exact ⟨⟨x, hx, h1.1, by rw [trn_nat hx]; exact h1.2.1⟩, by simpa using h1.2.2⟩
  rw [e1, sm_swap (fun y x => b2 (s.testBit x && ((n - x) % n == y && y % p == r)))]
  refine sm_congr fun x hx => ?_
  refine sm_eq_b2 (fun y => s.testBit x && ((n - x) % n == y && y % p == r)) _ n ?_ ?_
  · intro y z _ _ h1 h2
    simp only [Bool.and_eq_true, beq_iff_eq] at h1 h2
    exact h1.2.1.symm.trans h2.2.1
  · simp only [Bool.and_eq_true, beq_iff_eq]
    have key : ((n - x) % n) % p = r ↔ x % p = (p - r) % p := by
      rw [Nat.mod_mod_of_dvd _ hd]
      obtain ⟨c, rfl⟩ := hd
      have h1 := Nat.mod_lt x hp
      have h2 : (p * c - x) % p = (p - x % p) % p := by
        have h3 := Nat.div_add_mod x p
        have h4 : x / p < c := Nat.div_lt_of_lt_mul hx
        obtain ⟨k, rfl⟩ : ∃ k, c = x / p + 1 + k := ⟨c - (x / p + 1), by omega⟩
        have h5 : p * (x / p + 1 + k) = p * (x / p) + p + p * k := by rw [Nat.mul_add, Nat.mul_add, Nat.mul_one]
        rw [show p * (x / p + 1 + k) - x = (p - x % p) + p * k by omega, Nat.add_mul_mod_self_left]
      rw [h2]
      generalize x % p = z at h1 ⊢
      by_cases hz : z = 0
      · subst hz
        rw [Nat.sub_zero, Nat.mod_self]
        by_cases hr0 : r = 0
        · subst hr0; rw [Nat.sub_zero, Nat.mod_self]
        · rw [Nat.mod_eq_of_lt (show p - r < p by omega)]; omega
      · rw [Nat.mod_eq_of_lt (show p - z < p by omega)]
        by_cases hr0 : r = 0
        · subst hr0; rw [Nat.sub_zero, Nat.mod_self]; omega
        · rw [Nat.mod_eq_of_lt (show p - r < p by omega)]; omega
    constructor
    · rintro ⟨h1, h2⟩
      exact ⟨(n - x) % n, Nat.mod_lt _ h, h1, rfl, key.2 h2⟩
    · rintro ⟨y, _, h1, h2, h3⟩
      exact ⟨h1, key.1 (by rw [h2]; exact h3)⟩
theorem fac_tur_imp {n s p d : Nat} (h0 : 0 < n) (hd0 : 0 < d) (hdp : d ∣ p) (hp : 0 < p) (hpn : p ∣ n) (h : fac n s p d = true) : fac n (tur n 0 s) p d = true := by
  refine fac_of_map (fun r => (p - r) % p) hd0 hdp hp (fun r _ => Nat.mod_lt _ hp) (fun r hr => wnd_tur h0 hp hpn s r hr) ?_ h
  intro r hr
  rw [Nat.mod_mod_of_dvd _ hdp, Nat.mod_mod_of_dvd _ hdp]
  have h3 := Nat.div_add_mod r d
  have h4 : r % d ≤ r := Nat.mod_le r d
  rw [show p - r % d = (p - r) + d * (r / d) by omega, Nat.add_mul_mod_self_left]
theorem fac_tur {n s p d : Nat} (h0 : 0 < n) (hs : s < 2 ^ n) (hd0 : 0 < d) (hdp : d ∣ p) (hp : 0 < p) (hpn : p ∣ n) : fac n (tur n 0 s) p d = fac n s p d := by
  rw [Bool.eq_iff_iff]
  constructor
  · intro h
    have h1 := fac_tur_imp h0 hd0 hdp hp hpn h
    rw [tur_back h0 hs 0] at h1
    exact h1
  · exact fac_tur_imp h0 hd0 hdp hp hpn
theorem fcond_congr {n s s' k : Nat} (hn : 0 < n) (hk : k ≤ n) (hn2 : n ≤ 12) (h : 2 ≤ k → k ∣ n → fac n s k (k / lp k) = fac n s' k (k / lp k)) : fcond n s k = fcond n s' k := by
  unfold fcond
  by_cases h1 : 2 ≤ k
  · by_cases h2 : n % k = 0
    · rw [h h1 (Nat.dvd_of_mod_eq_zero h2)]
    · rw [beq_eq_false_iff_ne.2 h2]; simp
  · simp [h1]
theorem flTo_congr {n s s' : Nat} : ∀ k, (∀ j, j < k → fcond n s j = fcond n s' j) → flTo n s k = flTo n s' k
  | 0, _ => rfl
  | k + 1, h => by unfold flTo; rw [flTo_congr k (fun j hj => h j (by omega)), h k (by omega)]
theorem factors_shf {n s : Nat} (h0 : 0 < n) (hn : n ≤ 12) : factors n (shf n 1 s) = factors n s :=
  flTo_congr _ fun j hj => fcond_congr h0 (by omega) hn fun h1 h2 => by
    obtain ⟨l1, l2, l3, l4, l5, l6⟩ := lp_spec h1 (by omega)
    exact fac_shf h0 (by omega) l5 (by omega) h2
theorem factors_tur {n s : Nat} (h0 : 0 < n) (hn : n ≤ 12) (hs : s < 2 ^ n) : factors n (tur n 0 s) = factors n s :=
  flTo_congr _ fun j hj => fcond_congr h0 (by omega) hn fun h1 h2 => by
    obtain ⟨l1, l2, l3, l4, l5, l6⟩ := lp_spec h1 (by omega)
    exact fac_tur h0 hs (by omega) l5 (by omega) h2
theorem mem_flTo (n s : Nat) (y : Int) : ∀ k, y ∈ flTo n s k → ∃ j : Nat, y = j ∧ j < k ∧ 2 ≤ j ∧ n % j = 0
  | 0, h => by simp [flTo] at h
  | k + 1, h => by
    unfold flTo at h
    split at h
    · rename_i hc
      rw [List.mem_append, List.mem_singleton] at h
      rcases h with h | h
      · obtain ⟨j, a, b, c⟩ := mem_flTo n s y k h; exact ⟨j, a, by omega, c⟩
      · unfold fcond at hc
        simp only [Bool.and_eq_true, decide_eq_true_eq, beq_iff_eq] at hc
        exact ⟨k, h, by omega, hc.1, hc.2.1⟩
    · obtain ⟨j, a, b, c⟩ := mem_flTo n s y k h; exact ⟨j, a, by omega, c⟩
theorem asc_flTo (n s : Nat) : ∀ k, (flTo n s k).Pairwise (· < ·)
  | 0 => List.Pairwise.nil
  | k + 1 => by
    have ih := asc_flTo n s k
    unfold flTo
    split
    · rw [List.pairwise_append]
      refine ⟨ih, by simp, ?_⟩
      intro y hy z hz
      obtain ⟨j, hj, h1, _⟩ := mem_flTo n s y k hy
      rw [List.mem_singleton] at hz
      omega
    · exact ih
end Go.Proofs.Ytgpbgbcdlebaiaa.Tic
