/-
  Plain mathematics of even scales: the tones of a set in order, the distances of some steps, and the sets that they make. No program in sight.
-/
import Derived.Test.YtmofhhffkppelaaLawNum
namespace Go.Proofs.Ytmofhhffkppelaa.Tic
set_option linter.unusedVariables false

/-- the tones of s below k, ascending -/
def tn (s : Nat) : Nat → List Nat
  | 0 => []
  | k + 1 => if s.testBit k then tn s k ++ [k] else tn s k
theorem tn_yes {s k : Nat} (h : s.testBit k = true) : tn s (k + 1) = tn s k ++ [k] := by conv => lhs; unfold tn; rw [if_pos h]
theorem tn_no {s k : Nat} (h : s.testBit k = false) : tn s (k + 1) = tn s k := by conv => lhs; unfold tn; rw [if_neg (by simp [h])]
/-- how many tones of s stand below k -/
def rk (s k : Nat) : Nat := (tn s k).length
theorem rk_yes {s k : Nat} (h : s.testBit k = true) : rk s (k + 1) = rk s k + 1 := by unfold rk; rw [tn_yes h]; simp
theorem rk_no {s k : Nat} (h : s.testBit k = false) : rk s (k + 1) = rk s k := by unfold rk; rw [tn_no h]
theorem rk_gsum (s : Nat) : ∀ k, rk s k = gsum (bx s) k
  | 0 => rfl
  | k + 1 => by
    rw [gsum_succ, ← rk_gsum s k]
    cases h : s.testBit k with
    | true => rw [rk_yes h]; simp [bx, h]
    | false => rw [rk_no h]; simp [bx, h]
theorem rk_wt {s n : Nat} (hs : s < 2 ^ n) (hn : n ≤ 12) : rk s n = wt 12 s := by rw [rk_gsum, wt_n hs hn]
theorem rk_mono (s a : Nat) : ∀ b, a ≤ b → rk s a ≤ rk s b
  | 0, h => by have : a = 0 := by omega
               subst this; exact Nat.le_refl _
  | b + 1, h => by
    by_cases e : a = b + 1
    · subst e; exact Nat.le_refl _
    · have ih := rk_mono s a b (by omega)
      cases hb : s.testBit b with
      | true => rw [rk_yes hb]; omega
      | false => rw [rk_no hb]; omega
theorem rk_lt {s x n : Nat} (h : s.testBit x = true) (hx : x < n) : rk s x < rk s n := by
  have := rk_mono s (x + 1) n (by omega)
  rw [rk_yes h] at this
  omega
theorem rk_inj {s x y : Nat} (hx : s.testBit x = true) (hy : s.testBit y = true) (e : rk s x = rk s y) : x = y := by
  rcases Nat.lt_trichotomy x y with h | h | h
  · have := rk_lt hx h; omega
  · exact h
  · have := rk_lt hy h; omega
/-- the tone x stands at its rank -/
theorem tn_rk {s x : Nat} (h : s.testBit x = true) : ∀ n, x < n → (tn s n).getD (rk s x) 0 = x
  | 0, hx => by omega
  | n + 1, hx => by
    by_cases e : x = n
    · subst e
      rw [tn_yes h]
      simp [rk]
    · have ih := tn_rk h n (by omega)
      have hl := rk_lt h (show x < n by omega)
      cases hb : s.testBit n with
      | true =>
        rw [tn_yes hb]
        rw [List.getD_eq_getElem?_getD] at ih ⊢
        rw [List.getElem?_append_left (by unfold rk at hl ⊢; exact hl)]
        exact ih
      | false => rw [tn_no hb]; exact ih
/-- at each place below their number stands a tone -/
theorem tn_at (s : Nat) : ∀ n i, i < rk s n → ∃ x, x < n ∧ s.testBit x = true ∧ rk s x = i ∧ (tn s n).getD i 0 = x
  | 0, i, h => by simp [rk, tn] at h
  | n + 1, i, h => by
    cases hb : s.testBit n with
    | false =>
      rw [rk_no hb] at h
      obtain ⟨x, h1, h2, h3, h4⟩ := tn_at s n i h
      exact ⟨x, by omega, h2, h3, by rw [tn_no hb]; exact h4⟩
    | true =>
      rw [rk_yes hb] at h
      by_cases e : i = rk s n
      · exact ⟨n, by omega, hb, e.symm, by rw [e]; exact tn_rk hb (n + 1) (by omega)⟩
      · obtain ⟨x, h1, h2, h3, h4⟩ := tn_at s n i (by omega)
        exact ⟨x, by omega, h2, h3, by rw [← h3]; exact tn_rk h2 (n + 1) (by omega)⟩

/-- the distance from the i-th tone up to the one st places behind it -/
def dst (n s st i : Nat) : Nat := ((tn s n).getD ((i + st) % rk s n) 0 + n - (tn s n).getD i 0) % n
/-- the distances from the first j tones, as a set -/
def dm (n s st : Nat) : Nat → Nat
  | 0 => 0
  | j + 1 => dm n s st j ||| 2 ^ dst n s st j
theorem dm_bit (n s st d : Nat) : ∀ j, (dm n s st j).testBit d = true ↔ ∃ i, i < j ∧ dst n s st i = d
  | 0 => by simp [dm]
  | j + 1 => by
    have ih := dm_bit n s st d j
    unfold dm
    rw [Nat.testBit_or, Nat.testBit_two_pow]
    simp only [Bool.or_eq_true, decide_eq_true_eq, ih]
    constructor
    · rintro (⟨i, h1, h2⟩ | h)
      · exact ⟨i, by omega, h2⟩
      · exact ⟨j, by omega, h⟩
    · rintro ⟨i, h1, h2⟩
      by_cases e : i = j
      · subst e; exact .inr h2
      · exact .inl ⟨i, by omega, h2⟩
theorem dst_lt {n : Nat} (h : 0 < n) (s st i : Nat) : dst n s st i < n := Nat.mod_lt _ h
theorem dm_lt {n : Nat} (h : 0 < n) (s st j : Nat) : dm n s st j < 2 ^ n := by
  apply Nat.lt_pow_two_of_testBit
  intro d hd
  cases e : (dm n s st j).testBit d with
  | false => rfl
  | true =>
    obtain ⟨i, _, rfl⟩ := (dm_bit n s st d j).1 e
    have := dst_lt h s st i
    omega
/-- the distances of st steps, as a set -/
def dset (n s st : Nat) : Nat := dm n s st (rk s n)
theorem dset_lt {n : Nat} (h : 0 < n) (s st : Nat) : dset n s st < 2 ^ n := dm_lt h _ _ _
theorem dset_bit (n s st d : Nat) : (dset n s st).testBit d = true ↔ ∃ x y, x < n ∧ y < n ∧ s.testBit x = true ∧ s.testBit y = true ∧ rk s y = (rk s x + st) % rk s n ∧ (y + n - x) % n = d := by
  unfold dset
  rw [dm_bit]
  constructor
  · rintro ⟨i, h1, rfl⟩
    obtain ⟨x, a1, a2, a3, a4⟩ := tn_at s n i h1
    obtain ⟨y, b1, b2, b3, b4⟩ := tn_at s n ((i + st) % rk s n) (Nat.mod_lt _ (by omega))
    exact ⟨x, y, a1, b1, a2, b2, by rw [b3, a3], by unfold dst; rw [a4, b4]⟩
  · rintro ⟨x, y, a1, b1, a2, b2, h, rfl⟩
    refine ⟨rk s x, rk_lt a2 a1, ?_⟩
    unfold dst
    rw [← h, tn_rk a2 n a1, tn_rk b2 n b1]
theorem mod_two {u k : Nat} (h : u < 2 * k) : u % k = if u < k then u else u - k := by
  split
  · exact Nat.mod_eq_of_lt (by assumption)
  · rw [Nat.mod_eq_sub_mod (by omega), Nat.mod_eq_of_lt (by omega)]
theorem dset_zero {n s st : Nat} (h1 : 1 ≤ st) (h2 : st < rk s n) : (dset n s st).testBit 0 = false := by
  cases e : (dset n s st).testBit 0 with
  | false => rfl
  | true =>
    obtain ⟨x, y, a1, b1, a2, b2, h, hd⟩ := (dset_bit n s st 0).1 e
    have hx := rk_lt a2 a1
    rw [mod_two (by omega)] at h
    rw [mod_two (by omega)] at hd
    have : x = y := by split at hd <;> omega
    subst this
    split at h <;> omega
theorem dset_one {n s st i : Nat} (h : i < rk s n) : (dset n s st).testBit (dst n s st i) = true := (dm_bit n s st _ _).2 ⟨i, h, rfl⟩
theorem dset_pos {n s st : Nat} (h : 0 < rk s n) : dset n s st ≠ 0 := by
  intro e
  have := dset_one (st := st) h
  rw [e] at this
  simp at this
/-- as many steps the other way: the rest of the circle -/
theorem dset_other {n s st : Nat} (h1 : 1 ≤ st) (h2 : st < rk s n) {d : Nat} (hd : 0 < d) (hdn : d < n) : (dset n s (rk s n - st)).testBit d = (dset n s st).testBit (n - d) := by
  rw [Bool.eq_iff_iff, dset_bit, dset_bit]
  have key : ∀ (st d : Nat), 1 ≤ st → st < rk s n → 0 < d → d < n → (∃ x y, x < n ∧ y < n ∧ s.testBit x = true ∧ s.testBit y = true ∧ rk s y = (rk s x + st) % rk s n ∧ (y + n - x) % n = d) →
      ∃ x y, x < n ∧ y < n ∧ s.testBit x = true ∧ s.testBit y = true ∧ rk s y = (rk s x + (rk s n - st)) % rk s n ∧ (y + n - x) % n = n - d := by
    rintro st d g1 g2 g3 g4 ⟨x, y, a1, b1, a2, b2, h, hd⟩
    have hx := rk_lt a2 a1
    have hy := rk_lt b2 b1
    refine ⟨y, x, b1, a1, b2, a2, ?_, ?_⟩
    · rw [mod_two (by omega)] at h ⊢
      split at h <;> split <;> omega
    · rw [mod_two (by omega)] at hd ⊢
      split at hd <;> split <;> omega
  constructor
  · intro h
    have := key _ _ (by omega) (by omega) hd hdn h
    rw [show rk s n - (rk s n - st) = st by omega] at this
    exact this
  · intro h
    have := key _ _ h1 h2 (by omega) (by omega) h
    rw [show n - (n - d) = d by omega] at this
    exact this
theorem shf_bit1 {n s y : Nat} (h : 0 < n) (hs : s < 2 ^ n) : (shf n 1 s).testBit y = true ↔ ∃ x, x < n ∧ s.testBit x = true ∧ y = (x + 1) % n := by
  unfold shf
  rw [img_testBit]
  have e : ∀ x, mvd n 1 1 x = (x + 1) % n := fun x => by
    unfold mvd
    rw [Int.one_mul, Int.add_comm, show ((x : Int) + 1) = ((x + 1 : Nat) : Int) by omega, ← Int.natCast_emod, Int.toNat_natCast]
  constructor
  · rintro ⟨x, h1, h2, h3⟩; exact ⟨x, h1, h2, by rw [← h3, e]⟩
  · rintro ⟨x, h1, h2, h3⟩; exact ⟨x, h1, h2, by rw [h3, e]⟩
theorem shf_up {n s x : Nat} (h : 0 < n) (hs : s < 2 ^ n) (hx : x + 1 < n) : (shf n 1 s).testBit (x + 1) = s.testBit x := by
  rw [Bool.eq_iff_iff, shf_bit1 h hs]
  constructor
  · rintro ⟨z, h1, h2, h3⟩
    rw [mod_two (by omega)] at h3
    have : z = x := by split at h3 <;> omega
    rw [← this]; exact h2
  · intro hb; exact ⟨x, by omega, hb, (Nat.mod_eq_of_lt hx).symm⟩
theorem shf_top {n s : Nat} (h : 0 < n) (hs : s < 2 ^ n) : (shf n 1 s).testBit 0 = s.testBit (n - 1) := by
  rw [Bool.eq_iff_iff, shf_bit1 h hs]
  constructor
  · rintro ⟨z, h1, h2, h3⟩
    rw [mod_two (by omega)] at h3
    have : z = n - 1 := by split at h3 <;> omega
    rw [← this]; exact h2
  · intro hb; exact ⟨n - 1, by omega, hb, by rw [show n - 1 + 1 = n by omega, Nat.mod_self]⟩
theorem rk_shf {n s : Nat} (h : 0 < n) (hs : s < 2 ^ n) : ∀ x, x < n → rk (shf n 1 s) (x + 1) = rk s x + if s.testBit (n - 1) then 1 else 0
  | 0, _ => by
    cases e : s.testBit (n - 1) with
    | true => rw [rk_yes (by rw [shf_top h hs]; exact e)]; simp [rk, tn]
    | false => rw [rk_no (by rw [shf_top h hs]; exact e)]; simp [rk, tn]
  | x + 1, hx => by
    have ih := rk_shf h hs x (by omega)
    cases e : s.testBit x with
    | true => rw [rk_yes (by rw [shf_up h hs hx]; exact e), ih, rk_yes e]; omega
    | false => rw [rk_no (by rw [shf_up h hs hx]; exact e), ih, rk_no e]
theorem rk_shf_n {n s : Nat} (h : 0 < n) (hn : n ≤ 12) (hs : s < 2 ^ n) : rk (shf n 1 s) n = rk s n := by
  rw [rk_wt (shf_lt h _ _) hn, rk_wt hs hn, wt_shf h hn hs]
/-- the rank of a shifted tone -/
theorem rk_up {n s x : Nat} (h : 0 < n) (hs : s < 2 ^ n) (hx : x < n) (hb : s.testBit x = true) : rk (shf n 1 s) ((x + 1) % n) = (rk s x + if s.testBit (n - 1) then 1 else 0) % rk s n := by
  have hl := rk_lt hb hx
  by_cases e : x + 1 < n
  · rw [Nat.mod_eq_of_lt e, rk_shf h hs x hx]
    cases et : s.testBit (n - 1) with
    | false => simp; exact (Nat.mod_eq_of_lt hl).symm
    | true =>
      have h1 := rk_lt et (show n - 1 < n by omega)
      have h2 := rk_lt hb (show x < n - 1 by omega)
      simp
      exact (Nat.mod_eq_of_lt (by omega)).symm
  · have hx1 : x = n - 1 := by omega
    subst hx1
    rw [show n - 1 + 1 = n by omega, Nat.mod_self, hb]
    have : rk s n = rk s (n - 1) + 1 := by
      have := rk_yes hb
      rwa [show n - 1 + 1 = n by omega] at this
    rw [this]
    simp [rk, tn]
theorem mod_add_of {a b c e k : Nat} (ha : a < k) (hb : b < k) (he : e ≤ 1) (hc : c < k) (h : b = (a + c) % k) : (b + e) % k = ((a + e) % k + c) % k := by
  rw [h, Nat.mod_add_mod, Nat.mod_add_mod]
  congr 1
  omega
/-- distances are the same of a shifted set -/
theorem dset_shf {n s st : Nat} (h : 0 < n) (hn : n ≤ 12) (hs : s < 2 ^ n) (h2 : st < rk s n) : dset n (shf n 1 s) st = dset n s st := by
  apply Nat.eq_of_testBit_eq
  intro d
  rw [Bool.eq_iff_iff, dset_bit, dset_bit, rk_shf_n h hn hs]
  have he : (if s.testBit (n - 1) = true then 1 else 0) ≤ 1 := by split <;> omega
  constructor
  · rintro ⟨x', y', a1, b1, a2, b2, hr, hd⟩
    obtain ⟨x, a3, a4, rfl⟩ := (shf_bit1 h hs).1 a2
    obtain ⟨y, b3, b4, rfl⟩ := (shf_bit1 h hs).1 b2
    have hx := rk_lt a4 a3
    have hy := rk_lt b4 b3
    refine ⟨x, y, a3, b3, a4, b4, ?_, ?_⟩
    · rw [rk_up h hs a3 a4, rk_up h hs b3 b4] at hr
      generalize (if s.testBit (n - 1) = true then 1 else 0) = e at hr he
      rw [Nat.mod_add_mod, show rk s x + e + st = (rk s x + st) + e by omega] at hr
      have e1 : e = 0 ∨ e = 1 := by omega
      rw [mod_two (u := rk s x + st) (by omega)]
      rcases e1 with rfl | rfl
      · rw [Nat.add_zero, Nat.add_zero, Nat.mod_eq_of_lt hy, mod_two (by omega)] at hr
        exact hr
      · rw [mod_two (u := rk s y + 1) (by omega)] at hr
        by_cases e3 : rk s x + st + 1 < 2 * rk s n
        · rw [mod_two e3] at hr
          split at hr <;> split at hr <;> split <;> omega
        · rw [show rk s x + st + 1 = 2 * rk s n by omega, Nat.mul_mod_left] at hr
          split at hr <;> split <;> omega
    · rw [mod_two (u := y + 1) (by omega), mod_two (u := x + 1) (by omega)] at hd
      rw [← hd]
      have g1 : (if y + 1 < n then y + 1 else y + 1 - n) < n := by split <;> omega
      have g2 : (if x + 1 < n then x + 1 else x + 1 - n) < n := by split <;> omega
      rw [mod_two (by omega), mod_two (by omega)]
      split <;> split <;> split <;> split <;> omega
  · rintro ⟨x, y, a1, b1, a2, b2, hr, hd⟩
    have hx := rk_lt a2 a1
    have hy := rk_lt b2 b1
    refine ⟨(x + 1) % n, (y + 1) % n, Nat.mod_lt _ h, Nat.mod_lt _ h, (shf_bit1 h hs).2 ⟨x, a1, a2, rfl⟩, (shf_bit1 h hs).2 ⟨y, b1, b2, rfl⟩, ?_, ?_⟩
    · rw [rk_up h hs a1 a2, rk_up h hs b1 b2]
      exact mod_add_of hx hy he h2 hr
    · rw [mod_two (u := y + 1) (by omega), mod_two (u := x + 1) (by omega), ← hd]
      have g1 : (if y + 1 < n then y + 1 else y + 1 - n) < n := by split <;> omega
      have g2 : (if x + 1 < n then x + 1 else x + 1 - n) < n := by split <;> omega
      rw [mod_two (by omega), mod_two (by omega)]
      split <;> split <;> split <;> split <;> omega
end Go.Proofs.Ytmofhhffkppelaa.Tic
