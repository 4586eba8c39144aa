/-
  Plain mathematics of the search for tiles: all ways to begin voices, tried with each tone first and then without it, are all sets that make all tones once, each once. No program in sight.
-/
import Derived.Test.YtgpbgbcdlebaiaaTileNum
import Derived.Test.YtgpbgbcdlebaiaaSorted
namespace Go.Proofs.Ytgpbgbcdlebaiaa.Tic
set_option linter.unusedVariables false

/-! Low bits of sets -/
theorem mod_bit (b s x : Nat) : (b % 2 ^ s).testBit x = (decide (x < s) && b.testBit x) := Nat.testBit_mod_two_pow b s x
theorem mod_succ_yes {b s : Nat} (h : b.testBit s = true) : b % 2 ^ (s + 1) = b % 2 ^ s ||| 2 ^ s := by
  apply Nat.eq_of_testBit_eq
  intro x
  rw [Nat.testBit_or, mod_bit, mod_bit, Nat.testBit_two_pow]
  by_cases e : x = s
  · subst e; simp [h]
  · by_cases h2 : x < s
    · simp [h2, show x < s + 1 by omega, show ¬ s = x by omega]
    · simp [h2, show ¬ x < s + 1 by omega, show ¬ s = x by omega]
theorem mod_succ_no {b s : Nat} (h : b.testBit s = false) : b % 2 ^ (s + 1) = b % 2 ^ s := by
  apply Nat.eq_of_testBit_eq
  intro x
  rw [mod_bit, mod_bit]
  by_cases e : x = s
  · subst e; simp [h]
  · by_cases h2 : x < s
    · simp [h2, show x < s + 1 by omega]
    · simp [h2, show ¬ x < s + 1 by omega]
theorem or_bit {T s : Nat} (h : T < 2 ^ s) (x : Nat) : (T ||| 2 ^ s).testBit x = (T.testBit x || decide (x = s)) := by
  rw [Nat.testBit_or, Nat.testBit_two_pow]
  congr 1
  exact decide_eq_decide.2 ⟨fun h => h.symm, fun h => h.symm⟩
theorem or_lt {T s : Nat} (h : T < 2 ^ s) : T ||| 2 ^ s < 2 ^ (s + 1) :=
  Nat.or_lt_two_pow (Nat.lt_of_lt_of_le h (Nat.pow_le_pow_right (by omega) (by omega))) (Nat.pow_lt_pow_right (by omega) (by omega))
theorem or_mod {T s : Nat} (h : T < 2 ^ s) : (T ||| 2 ^ s) % 2 ^ s = T := by
  apply Nat.eq_of_testBit_eq
  intro x
  rw [mod_bit, or_bit h]
  by_cases h2 : x < s
  · simp [h2, show ¬ x = s by omega]
  · rw [bit_big h (by omega)]; simp [h2]

theorem un_congr (n a : Nat) {b c : Nat} : ∀ k, (∀ x, x < k → b.testBit x = c.testBit x) → un n a b k = un n a c k ∧ okk n a b k = okk n a c k
  | 0, _ => ⟨rfl, rfl⟩
  | k + 1, h => by
    obtain ⟨h1, h2⟩ := un_congr n a k fun x hx => h x (by omega)
    have h3 := h k (by omega)
    unfold un okk
    rw [h3, h1, h2]; exact ⟨rfl, rfl⟩
theorem un_top (n a : Nat) {b k : Nat} (h : b < 2 ^ k) : ∀ {m}, k ≤ m → un n a b m = un n a b k ∧ okk n a b m = okk n a b k
  | 0, hm => by obtain rfl : k = 0 := by omega
                exact ⟨rfl, rfl⟩
  | m + 1, hm => by
    by_cases e : k = m + 1
    · subst e; exact ⟨rfl, rfl⟩
    · have hb := bit_big h (show k ≤ m by omega)
      rw [un_no hb, okk_no hb]
      exact un_top n a h (by omega)
theorem un_mod (n a : Nat) {b k m : Nat} (h : k ≤ m) : un n a (b % 2 ^ k) m = un n a b k ∧ okk n a (b % 2 ^ k) m = okk n a b k := by
  have h1 := un_top n a (Nat.mod_lt b (Nat.two_pow_pos k)) h
  have h2 := un_congr n a (b := b % 2 ^ k) (c := b) k fun x hx => by rw [mod_bit]; simp [hx]
  exact ⟨h1.1.trans h2.1, h1.2.trans h2.2⟩
/-- a voice more, behind all others -/
theorem un_next (n a : Nat) {T s m : Nat} (h : T < 2 ^ s) (hs : s < m) : un n a (T ||| 2 ^ s) m = un n a T m ||| shf n s a ∧ okk n a (T ||| 2 ^ s) m = (okk n a T m && (un n a T m &&& shf n s a) == 0) := by
  have h1 := un_top n a (or_lt h) (m := m) (by omega)
  have h2 := un_top n a h (m := m) (by omega)
  have hb : (T ||| 2 ^ s).testBit s = true := by rw [or_bit h]; simp
  have h3 := un_congr n a (b := T ||| 2 ^ s) (c := T) s fun x hx => by rw [or_bit h]; simp [show ¬ x = s by omega]
  rw [h1.1, h1.2, un_yes hb, okk_yes hb, h3.1, h3.2, h2.1, h2.2]; exact ⟨rfl, rfl⟩

theorem okk_le {n a b : Nat} : ∀ {k m}, k ≤ m → okk n a b m = true → okk n a b k = true
  | k, 0, h, h1 => by obtain rfl : k = 0 := by omega
                      rfl
  | k, m + 1, h, h1 => by
    by_cases e : k = m + 1
    · subst e; exact h1
    · refine okk_le (m := m) (by omega) ?_
      cases hb : b.testBit m with
      | true => rw [okk_yes hb, Bool.and_eq_true] at h1; exact h1.1
      | false => rw [okk_no hb] at h1; exact h1

/-! The search -/
/-- all tones, each once -/
def tile (n a b : Nat) : Bool := okk n a b n && un n a b n == 2 ^ n - 1
/-- what is found from the voices at T on, the tones from s on still to be tried -/
def fF (n a : Nat) : Nat → Nat → Nat → List Int
  | 0, T, s => if un n a T n = 2 ^ n - 1 then [(T : Int)] else []
  | f + 1, T, s => if un n a T n &&& shf n s a = 0 then fF n a f (T ||| 2 ^ s) (s + 1) ++ fF n a f T (s + 1) else fF n a f T (s + 1)
/-- how many sets are looked at for that -/
def zF (n a : Nat) : Nat → Nat → Nat → Nat
  | 0, T, s => 1
  | f + 1, T, s => if un n a T n &&& shf n s a = 0 then 1 + (zF n a f (T ||| 2 ^ s) (s + 1) + zF n a f T (s + 1)) else 1 + zF n a f T (s + 1)
/-- what is found behind the voices at T: each without its last tone, and with all before it -/
def fP (n a : Nat) : Nat → Nat → List Int
  | 0, _ => []
  | k + 1, T => (if T.testBit (k + 1) then fF n a (n - (k + 2)) (T % 2 ^ (k + 1)) (k + 2) else []) ++ fP n a k (T % 2 ^ (k + 1))
def zP (n a : Nat) : Nat → Nat → Nat
  | 0, _ => 0
  | k + 1, T => (if T.testBit (k + 1) then zF n a (n - (k + 2)) (T % 2 ^ (k + 1)) (k + 2) else 0) + zP n a k (T % 2 ^ (k + 1))
theorem fP_low (n a : Nat) {T j : Nat} (h : T < 2 ^ (j + 1)) : ∀ {k}, j ≤ k → fP n a k T = fP n a j T ∧ zP n a k T = zP n a j T
  | 0, hk => by obtain rfl : j = 0 := by omega
                exact ⟨rfl, rfl⟩
  | k + 1, hk => by
    by_cases e : j = k + 1
    · subst e; exact ⟨rfl, rfl⟩
    · have hb := bit_big h (show j + 1 ≤ k + 1 by omega)
      have hm : T % 2 ^ (k + 1) = T := Nat.mod_eq_of_lt (Nat.lt_of_lt_of_le h (Nat.pow_le_pow_right (by omega) (by omega)))
      have ih := fP_low n a h (k := k) (by omega)
      have e1 : fP n a (k + 1) T = fP n a k T := by conv => { lhs; unfold fP }; rw [hb, hm]; simp
      have e2 : zP n a (k + 1) T = zP n a k T := by conv => { lhs; unfold zP }; rw [hb, hm]; simp
      exact ⟨e1.trans ih.1, e2.trans ih.2⟩
/-- without the last tone -/
theorem fP_back (n a : Nat) {T l : Nat} (h1 : T < 2 ^ (l + 1)) (h2 : T.testBit l = true) (hl : 0 < l) (hn : l < n) :
    fP n a (n - 1) T = fF n a (n - (l + 1)) (T % 2 ^ l) (l + 1) ++ fP n a (n - 1) (T % 2 ^ l) ∧ zP n a (n - 1) T = zF n a (n - (l + 1)) (T % 2 ^ l) (l + 1) + zP n a (n - 1) (T % 2 ^ l) := by
  obtain ⟨j, rfl⟩ : ∃ j, l = j + 1 := ⟨l - 1, by omega⟩
  have e1 := fP_low n a h1 (k := n - 1) (by omega)
  have h3 : T % 2 ^ (j + 1) < 2 ^ (j + 1) := Nat.mod_lt _ (Nat.two_pow_pos _)
  have e2 := fP_low n a h3 (k := n - 1) (by omega)
  rw [e1.1, e1.2, e2.1, e2.2]
  conv => lhs; lhs; unfold fP
  conv => rhs; lhs; unfold zP
  rw [if_pos h2, if_pos h2]
  exact ⟨rfl, rfl⟩
/-- with a tone more -/
theorem fP_next (n a : Nat) {T s : Nat} (h : T < 2 ^ s) (hs : 0 < s) (hn : s < n) :
    fP n a (n - 1) (T ||| 2 ^ s) = fF n a (n - (s + 1)) T (s + 1) ++ fP n a (n - 1) T ∧ zP n a (n - 1) (T ||| 2 ^ s) = zF n a (n - (s + 1)) T (s + 1) + zP n a (n - 1) T := by
  have := fP_back n a (or_lt h) (by rw [or_bit h]; simp) hs hn
  rw [or_mod h] at this
  exact this
theorem fP_one (n a : Nat) : ∀ k, fP n a k 1 = [] ∧ zP n a k 1 = 0
  | 0 => ⟨rfl, rfl⟩
  | k + 1 => by
    have e : (1 : Nat).testBit (k + 1) = false := by rw [Nat.testBit_succ]; simp
    have e2 : 1 % 2 ^ (k + 1) = 1 := Nat.mod_eq_of_lt (Nat.one_lt_two_pow (by omega))
    have ih := fP_one n a k
    unfold fP zP
    rw [e, e2, ih.1, ih.2]; simp

theorem mem_fF {n a : Nat} : ∀ f T s, s + f = n → T < 2 ^ s → okk n a T n = true → ∀ y, y ∈ fF n a f T s ↔ ∃ b : Nat, y = b ∧ b < 2 ^ n ∧ b % 2 ^ s = T ∧ tile n a b = true
  | 0, T, s, e, hT, hok, y => by
    obtain rfl : s = n := by omega
    unfold fF tile
    constructor
    · intro h
      split at h
      · rename_i hu
        rw [List.mem_singleton] at h
        exact ⟨T, h, hT, Nat.mod_eq_of_lt hT, by simp [hok, hu]⟩
      · cases h
    · rintro ⟨b, rfl, hb, hm, ht⟩
      rw [Nat.mod_eq_of_lt hb] at hm
      subst hm
      simp only [Bool.and_eq_true, beq_iff_eq] at ht
      rw [if_pos ht.2]; simp
  | f + 1, T, s, e, hT, hok, y => by
    have hT1 : T < 2 ^ (s + 1) := Nat.lt_of_lt_of_le hT (Nat.pow_le_pow_right (by omega) (by omega))
    have hn := un_next n a hT (show s < n by omega)
    have ih0 := mem_fF f T (s + 1) (by omega) hT1 hok y
    have key : ∀ b : Nat, b % 2 ^ s = T → b.testBit s = true → tile n a b = true → un n a T n &&& shf n s a = 0 := by
      intro b h1 h2 h3
      unfold tile at h3
      rw [Bool.and_eq_true] at h3
      have h4 := okk_le (k := s + 1) (by omega) h3.1
      rw [okk_yes h2, Bool.and_eq_true, beq_iff_eq] at h4
      have h5 := un_mod n a (b := b) (k := s) (m := n) (by omega)
      rw [h1] at h5
      rw [h5.1]; exact h4.2
    unfold fF
    by_cases hf : un n a T n &&& shf n s a = 0
    · have ih1 := mem_fF (n := n) (a := a) f (T ||| 2 ^ s) (s + 1) (by omega) (or_lt hT) (by rw [hn.2, hok, hf]; rfl) y
      rw [if_pos hf, List.mem_append, ih1, ih0]
      constructor
      · rintro (⟨b, hy, hb, hm, ht⟩ | ⟨b, hy, hb, hm, ht⟩)
        · refine ⟨b, hy, hb, ?_, ht⟩
          rw [← or_mod hT, ← hm, Nat.mod_mod_of_dvd _ (Nat.pow_dvd_pow 2 (by omega))]
        · refine ⟨b, hy, hb, ?_, ht⟩
          rw [← Nat.mod_eq_of_lt hT, ← hm, Nat.mod_mod_of_dvd _ (Nat.pow_dvd_pow 2 (by omega))]
      · rintro ⟨b, hy, hb, hm, ht⟩
        cases hbit : b.testBit s with
        | true => exact .inl ⟨b, hy, hb, by rw [mod_succ_yes hbit, hm], ht⟩
        | false => exact .inr ⟨b, hy, hb, by rw [mod_succ_no hbit, hm], ht⟩
    · rw [if_neg hf, ih0]
      constructor
      · rintro ⟨b, hy, hb, hm, ht⟩
        refine ⟨b, hy, hb, ?_, ht⟩
        rw [← Nat.mod_eq_of_lt hT, ← hm, Nat.mod_mod_of_dvd _ (Nat.pow_dvd_pow 2 (by omega))]
      · rintro ⟨b, hy, hb, hm, ht⟩
        cases hbit : b.testBit s with
        | true => exact absurd (key b hm hbit ht) hf
        | false => exact ⟨b, hy, hb, by rw [mod_succ_no hbit, hm], ht⟩
theorem nodup_fF {n a : Nat} : ∀ f T s, s + f = n → T < 2 ^ s → okk n a T n = true → (fF n a f T s).Nodup
  | 0, T, s, e, hT, hok => by unfold fF; split <;> simp
  | f + 1, T, s, e, hT, hok => by
    have hT1 : T < 2 ^ (s + 1) := Nat.lt_of_lt_of_le hT (Nat.pow_le_pow_right (by omega) (by omega))
    have hn := un_next n a hT (show s < n by omega)
    have ih0 := nodup_fF f T (s + 1) (by omega) hT1 hok
    unfold fF
    by_cases hf : un n a T n &&& shf n s a = 0
    · have hok1 : okk n a (T ||| 2 ^ s) n = true := by rw [hn.2, hok, hf]; rfl
      have ih1 := nodup_fF f (T ||| 2 ^ s) (s + 1) (by omega) (or_lt hT) hok1
      rw [if_pos hf, List.nodup_append]
      refine ⟨ih1, ih0, ?_⟩
      intro y hy z hz e
      subst e
      obtain ⟨b, e1, _, hm, _⟩ := (mem_fF f (T ||| 2 ^ s) (s + 1) (by omega) (or_lt hT) hok1 y).1 hy
      obtain ⟨c, e2, _, hm2, _⟩ := (mem_fF f T (s + 1) (by omega) hT1 hok y).1 hz
      have e3 : b = c := Int.ofNat.inj (e1.symm.trans e2)
      rw [e3, hm2] at hm
      have hm2 := hm.symm
      have h1 : (T ||| 2 ^ s).testBit s = true := by rw [or_bit hT]; simp
      rw [hm2, bit_big hT (Nat.le_refl _)] at h1
      cases h1
    · rw [if_neg hf]; exact ih0
/-- all that is found -/
def found (n a : Nat) : List Int := fF n a (n - 1) 1 1
/-- the sets with the tone 0 that make all tones once, ascending: of 1, 3, 5, .. the first k -/
def tlTo (n a : Nat) : Nat → List Int
  | 0 => []
  | k + 1 => if tile n a (2 * k + 1) then tlTo n a k ++ [((2 * k + 1 : Nat) : Int)] else tlTo n a k
theorem tlTo_yes {n a k : Nat} (h : tile n a (2 * k + 1) = true) : tlTo n a (k + 1) = tlTo n a k ++ [((2 * k + 1 : Nat) : Int)] := by conv => lhs; unfold tlTo; rw [if_pos h]
theorem tlTo_no {n a k : Nat} (h : tile n a (2 * k + 1) = false) : tlTo n a (k + 1) = tlTo n a k := by conv => lhs; unfold tlTo; rw [if_neg (by simp [h])]
theorem mem_tlTo (n a : Nat) : ∀ k y, y ∈ tlTo n a k ↔ ∃ j, j < k ∧ y = ((2 * j + 1 : Nat) : Int) ∧ tile n a (2 * j + 1) = true
  | 0, y => by simp [tlTo]
  | k + 1, y => by
    have ih := mem_tlTo n a k y
    unfold tlTo
    split
    · rename_i h
      rw [List.mem_append, ih, List.mem_singleton]
      constructor
      · rintro (⟨j, hj, h1⟩ | h1)
        · exact ⟨j, by omega, h1⟩
        · exact ⟨k, by omega, h1, h⟩
      · rintro ⟨j, hj, h1⟩
        by_cases e : j = k
        · subst e; exact .inr h1.1
        · exact .inl ⟨j, by omega, h1⟩
    · rename_i h
      rw [ih]
      constructor
      · rintro ⟨j, hj, h1⟩; exact ⟨j, by omega, h1⟩
      · rintro ⟨j, hj, h1⟩
        by_cases e : j = k
        · subst e; exact absurd h1.2 h
        · exact ⟨j, by omega, h1⟩
theorem asc_tlTo (n a : Nat) : ∀ k, (tlTo n a k).Pairwise (· < ·)
  | 0 => List.Pairwise.nil
  | k + 1 => by
    have ih := asc_tlTo n a k
    unfold tlTo
    split
    · rw [List.pairwise_append]
      refine ⟨ih, by simp, ?_⟩
      intro y hy z hz
      obtain ⟨j, hj, rfl, _⟩ := (mem_tlTo n a k y).1 hy
      rw [List.mem_singleton] at hz
      omega
    · exact ih
theorem tlTo_len (n a : Nat) : ∀ k, (tlTo n a k).length ≤ k
  | 0 => Nat.le_refl _
  | k + 1 => by unfold tlTo; have := tlTo_len n a k; split <;> simp <;> omega
theorem okk_one (n a : Nat) {m : Nat} (hm : 0 < m) : okk n a 1 m = true ∧ un n a 1 m = shf n 0 a := by
  have h := un_next n a (T := 0) (s := 0) (m := m) (by omega) hm
  have h2 := un_top n a (b := 0) (k := 0) (by omega) (m := m) (by omega)
  simp [un, okk] at h h2
  rw [h2.1, h2.2] at h
  simp at h
  exact ⟨h.2, h.1⟩
/-- the search finds, sorted, the sets as told -/
theorem found_sorted {n : Nat} (h : 0 < n) (a : Nat) : ((found n a).mergeSort fun x y => decide (x ≤ y)) = tlTo n a (2 ^ (n - 1)) := by
  have hok := (okk_one n a h).1
  refine sort_eq (nodup_fF _ _ _ (by omega) (by omega) hok) (asc_tlTo _ _ _) fun y => ?_
  rw [mem_tlTo]
  unfold found
  rw [mem_fF _ _ _ (by omega) (by omega) hok]
  have hp : 2 ^ n = 2 * 2 ^ (n - 1) := by rw [show n = (n - 1) + 1 by omega, Nat.pow_succ]; simp; omega
  constructor
  · rintro ⟨b, rfl, hb, hm, ht⟩
    have e : b = 2 * (b / 2) + 1 := by omega
    exact ⟨b / 2, by omega, by omega, by rw [← e]; exact ht⟩
  · rintro ⟨j, hj, rfl, ht⟩
    exact ⟨2 * j + 1, rfl, by omega, by omega, ht⟩
end Go.Proofs.Ytgpbgbcdlebaiaa.Tic
