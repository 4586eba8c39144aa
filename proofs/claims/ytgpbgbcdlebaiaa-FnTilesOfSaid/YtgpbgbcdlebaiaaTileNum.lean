/-
  Plain mathematics of rhythms: periods; how many voices have a beat at each time; sums of two sets. No program in sight.
-/
import Derived.Test.YtgpbgbcdlebaiaaKindNum
namespace Go.Proofs.Ytgpbgbcdlebaiaa.Tic
set_option linter.unusedVariables false

/-! Periods -/
/-- the least shift that leaves a set, from t on, at most f further -/
def perF (n s : Nat) : Nat → Nat → Nat
  | 0, t => t
  | f + 1, t => if shf n t s = s then t else perF n s f (t + 1)
def per (n s : Nat) : Nat := perF n s (n - 1) 1
theorem shf_all {n s : Nat} (h : 0 < n) (hs : s < 2 ^ n) : shf n n s = s := by
  refine img_id hs _ fun x hx => ?_
  unfold mvd
  rw [Int.one_mul, Int.add_emod_left, Int.emod_eq_of_lt (by omega) (by omega)]
  rfl
theorem perF_spec {n s : Nat} (h : 0 < n) (hs : s < 2 ^ n) : ∀ f t, t + f = n → t ≤ perF n s f t ∧ perF n s f t ≤ n ∧ shf n (perF n s f t : Nat) s = s ∧ ∀ u : Nat, t ≤ u → u < perF n s f t → shf n u s ≠ s
  | 0, t, e => by
    unfold perF
    obtain rfl : t = n := by omega
    exact ⟨Nat.le_refl _, Nat.le_refl _, shf_all h hs, fun u h1 h2 => by omega⟩
  | f + 1, t, e => by
    unfold perF
    by_cases h1 : shf n t s = s
    · rw [if_pos h1]; exact ⟨Nat.le_refl _, by omega, h1, fun u h1 h2 => by omega⟩
    · rw [if_neg h1]
      obtain ⟨a, b, c, d⟩ := perF_spec h hs f (t + 1) (by omega)
      refine ⟨by omega, b, c, fun u h2 h3 => ?_⟩
      by_cases e2 : u = t
      · subst e2; exact h1
      · exact d u (by omega) h3
theorem per_spec {n s : Nat} (h : 0 < n) (hs : s < 2 ^ n) : 1 ≤ per n s ∧ per n s ≤ n ∧ shf n (per n s : Nat) s = s ∧ ∀ u : Nat, 1 ≤ u → u < per n s → shf n u s ≠ s :=
  perF_spec h hs (n - 1) 1 (by omega)

/-! Sums over the first numbers -/
def sm (f : Nat → Nat) : Nat → Nat
  | 0 => 0
  | k + 1 => sm f k + f k
theorem sm_congr {f g : Nat → Nat} : ∀ {k}, (∀ x, x < k → f x = g x) → sm f k = sm g k
  | 0, _ => rfl
  | k + 1, h => by unfold sm; rw [sm_congr (fun x hx => h x (by omega)), h k (by omega)]
theorem sm_zero : ∀ k, sm (fun _ => 0) k = 0
  | 0 => rfl
  | k + 1 => by unfold sm; rw [sm_zero k]
theorem sm_add (f g : Nat → Nat) : ∀ k, sm (fun x => f x + g x) k = sm f k + sm g k
  | 0 => rfl
  | k + 1 => by unfold sm; rw [sm_add f g k]; omega
theorem sm_swap (f : Nat → Nat → Nat) (m : Nat) : ∀ k, sm (fun x => sm (fun y => f x y) m) k = sm (fun y => sm (fun x => f x y) k) m
  | 0 => (sm_zero m).symm
  | k + 1 => by
    conv => lhs; unfold sm
    rw [sm_swap f m k, ← sm_add]
    rfl
theorem sm_mul (c : Nat) (f : Nat → Nat) : ∀ k, sm (fun x => c * f x) k = c * sm f k
  | 0 => rfl
  | k + 1 => by unfold sm; rw [sm_mul c f k, Nat.mul_add]
theorem sm_le {f g : Nat → Nat} : ∀ {k}, (∀ x, x < k → f x ≤ g x) → sm f k ≤ sm g k
  | 0, _ => Nat.le_refl _
  | k + 1, h => by unfold sm; have := sm_le (f := f) (g := g) (k := k) (fun x hx => h x (by omega)); have := h k (by omega); omega
theorem sm_bd {f : Nat → Nat} {c : Nat} : ∀ {k}, (∀ x, x < k → f x ≤ c) → sm f k ≤ k * c
  | 0, _ => by simp [sm]
  | k + 1, h => by unfold sm; have := sm_bd (f := f) (c := c) (k := k) (fun x hx => h x (by omega)); have := h k (by omega); rw [Nat.succ_mul]; omega
theorem sm_mono (f : Nat → Nat) {i : Nat} : ∀ {k}, i ≤ k → sm f i ≤ sm f k
  | 0, h => by obtain rfl : i = 0 := by omega
               exact Nat.le_refl _
  | k + 1, h => by
    by_cases e : i = k + 1
    · subst e; exact Nat.le_refl _
    · have := sm_mono f (i := i) (k := k) (by omega)
      have e2 : sm f (k + 1) = sm f k + f k := rfl
      omega
theorem sm_more (f : Nat → Nat) {k m : Nat} (h : k ≤ m) (h0 : ∀ x, k ≤ x → x < m → f x = 0) : sm f m = sm f k := by
  induction m with
  | zero => obtain rfl : k = 0 := by omega
            rfl
  | succ m ih =>
    by_cases e : k = m + 1
    · subst e; rfl
    · have := ih (by omega) (fun x a b => h0 x a (by omega))
      have e2 : sm f (m + 1) = sm f m + f m := rfl
      rw [e2, this, h0 m (by omega) (by omega)]; rfl
/-- 1 for yes, 0 for no -/
def b2 (b : Bool) : Nat := if b then 1 else 0
theorem b2_le (b : Bool) : b2 b ≤ 1 := by cases b <;> decide
theorem b2_true {b : Bool} (h : b = true) : b2 b = 1 := by rw [h]; rfl
theorem b2_false {b : Bool} (h : b = false) : b2 b = 0 := by rw [h]; rfl
theorem sm_pos (p : Nat → Bool) : ∀ k, 0 < sm (fun x => b2 (p x)) k ↔ ∃ x, x < k ∧ p x = true
  | 0 => by simp [sm]
  | k + 1 => by
    unfold sm
    have ih := sm_pos p k
    cases h : p k with
    | true => exact ⟨fun _ => ⟨k, by omega, h⟩, fun _ => by simp [b2]⟩
    | false =>
      simp only [b2, Bool.false_eq_true, if_false, Nat.add_zero]
      simp only [b2] at ih
      rw [ih]
      constructor
      · rintro ⟨x, hx, h1⟩; exact ⟨x, by omega, h1⟩
      · rintro ⟨x, hx, h1⟩
        by_cases e : x = k
        · subst e; rw [h] at h1; cases h1
        · exact ⟨x, by omega, h1⟩
theorem sm_one (p : Nat → Bool) : ∀ k, (∀ x y, x < k → y < k → p x = true → p y = true → x = y) → sm (fun x => b2 (p x)) k ≤ 1
  | 0, _ => by simp [sm]
  | k + 1, h => by
    unfold sm
    have ih := sm_one p k (fun x y hx hy => h x y (by omega) (by omega))
    cases e : p k with
    | false => simpa [b2] using ih
    | true =>
      have h0 : ¬ 0 < sm (fun x => b2 (p x)) k := by
        rw [sm_pos]; rintro ⟨x, hx, h1⟩
        have := h x k (by omega) (by omega) h1 e
        omega
      simp [b2] at h0 ⊢
      omega
theorem sm_eq_b2 (p : Nat → Bool) (q : Bool) (k : Nat) (hi : ∀ x y, x < k → y < k → p x = true → p y = true → x = y) (hq : q = true ↔ ∃ x, x < k ∧ p x = true) : sm (fun x => b2 (p x)) k = b2 q := by
  have h1 := sm_one p k hi
  have h2 := sm_pos p k
  cases e : q with
  | true => have := h2.2 (hq.1 e); simp only [b2, if_true] at *; omega
  | false =>
    have : ¬ 0 < sm (fun x => b2 (p x)) k := fun h => by have := hq.2 (h2.1 h); rw [e] at this; cases this
    simp only [b2, Bool.false_eq_true, if_false] at *; omega
/-- the number of tones of a set -/
theorem wt_succ (f s : Nat) : wt (f + 1) s = wt f s + b2 (s.testBit f) := by
  induction f generalizing s with
  | zero => unfold wt wt; simp only [b2, Nat.testBit_zero, decide_eq_true_eq]; have := Nat.mod_lt s (y := 2) (by omega); split <;> omega
  | succ f ih =>
    conv => lhs; unfold wt
    rw [ih (s / 2)]
    conv => rhs; lhs; unfold wt
    rw [Nat.testBit_succ]; omega
theorem wt_sm (s : Nat) : ∀ k, wt k s = sm (fun x => b2 (s.testBit x)) k
  | 0 => rfl
  | k + 1 => by rw [wt_succ, wt_sm s k]; rfl
theorem bit_big {s n x : Nat} (hs : s < 2 ^ n) (h : n ≤ x) : s.testBit x = false := Nat.testBit_lt_two_pow (Nat.lt_of_lt_of_le hs (Nat.pow_le_pow_right (by omega) h))
theorem wt_low {s n m : Nat} (hs : s < 2 ^ n) (h : n ≤ m) : wt m s = wt n s := by
  rw [wt_sm, wt_sm]
  exact sm_more _ h fun x h1 _ => b2_false (bit_big hs h1)

/-! Voices -/
theorem mvd_nat (n y x : Nat) : mvd n 1 (y : Int) x = (y + x) % n := by
  unfold mvd
  rw [Int.one_mul, ← Int.natCast_add, ← Int.natCast_emod, Int.toNat_natCast]
/-- the tone x of a voice that begins at y is at the time t -/
def vhit (n a b t x y : Nat) : Nat := b2 (a.testBit x && (b.testBit y && (y + x) % n == t))
/-- how many voices that begin at a tone of b below k have a beat at t -/
def cn (n a b t : Nat) : Nat → Nat := sm fun y => b2 (b.testBit y && (shf n y a).testBit t)
theorem cn_yes {n a b t k : Nat} (h : b.testBit k = true) : cn n a b t (k + 1) = cn n a b t k + b2 ((shf n k a).testBit t) := by
  unfold cn; conv => lhs; unfold sm
  rw [h, Bool.true_and]
theorem cn_no {n a b t k : Nat} (h : b.testBit k = false) : cn n a b t (k + 1) = cn n a b t k := by
  unfold cn; conv => lhs; unfold sm
  rw [h, Bool.false_and]; rfl
theorem cn_le (n a b t k : Nat) : cn n a b t k ≤ k := by
  have := sm_bd (f := fun y => b2 (b.testBit y && (shf n y a).testBit t)) (c := 1) (k := k) (fun x _ => b2_le _)
  simpa [cn] using this
theorem voice_hit {n : Nat} (h : 0 < n) (a b t y : Nat) : sm (fun x => vhit n a b t x y) n = b2 (b.testBit y && (shf n y a).testBit t) := by
  refine sm_eq_b2 (fun x => a.testBit x && (b.testBit y && (y + x) % n == t)) _ n ?_ ?_
  · intro x z hx hz h1 h2
    simp only [Bool.and_eq_true, beq_iff_eq] at h1 h2
    have e : mvd n 1 (y : Int) x = mvd n 1 (y : Int) z := by rw [mvd_nat, mvd_nat, h1.2.2, h2.2.2]
    exact mvd_inj h 1 y (.inl rfl) x z hx hz e
  · rw [Bool.and_eq_true]
    unfold shf
    rw [img_testBit]
    constructor
    · rintro ⟨h1, x, hx, h2, h3⟩
      rw [mvd_nat] at h3
      exact ⟨x, hx, by simp [h1, h2, h3]⟩
    · rintro ⟨x, hx, h1⟩
      simp only [Bool.and_eq_true, beq_iff_eq] at h1
      exact ⟨h1.2.1, x, hx, h1.1, by rw [mvd_nat]; exact h1.2.2⟩
theorem cn_hit {n : Nat} (h : 0 < n) (a b t k : Nat) : cn n a b t k = sm (fun y => sm (fun x => vhit n a b t x y) n) k :=
  sm_congr fun y _ => (voice_hit h a b t y).symm
theorem vhit_swap (n a b t x y : Nat) : vhit n a b t x y = vhit n b a t y x := by
  unfold vhit
  rw [Nat.add_comm y x]
  cases a.testBit x <;> cases b.testBit y <;> simp
/-- the other way: by the tones of the voice -/
theorem cn_tones {n : Nat} (h : 0 < n) (a b t : Nat) : cn n a b t n = sm (fun x => sm (fun y => vhit n a b t x y) n) n := by
  rw [cn_hit h, sm_swap]
theorem cn_comm {n : Nat} (h : 0 < n) (a b t : Nat) : cn n a b t n = cn n b a t n := by
  rw [cn_tones h, cn_hit h]
  exact sm_congr fun x _ => sm_congr fun y _ => vhit_swap n a b t x y
theorem cn_big {n : Nat} (h : 0 < n) (a b t k : Nat) (ht : n ≤ t) : cn n a b t k = 0 := by
  unfold cn
  rw [sm_congr (g := fun _ => 0), sm_zero]
  intro x _
  refine b2_false ?_
  rw [bit_big (shf_lt h (x : Int) a) ht, Bool.and_false]
theorem cn_total {n a b : Nat} (h : 0 < n) : sm (fun t => cn n a b t n) n = wt n a * wt n b := by
  rw [sm_congr (g := fun t => sm (fun y => sm (fun x => vhit n a b t x y) n) n) (fun t _ => cn_hit h a b t n), sm_swap (fun t y => sm (fun x => vhit n a b t x y) n)]
  rw [sm_congr (g := fun y => wt n a * b2 (b.testBit y))]
  · rw [sm_mul, wt_sm b]
  · intro y _
    rw [sm_swap (fun t x => vhit n a b t x y), wt_sm a, Nat.mul_comm, ← sm_mul]
    refine sm_congr fun x _ => ?_
    have e : sm (fun t => vhit n a b t x y) n = b2 (a.testBit x && b.testBit y) := by
      refine sm_eq_b2 (fun t => a.testBit x && (b.testBit y && (y + x) % n == t)) _ n ?_ ?_
      · intro t u _ _ h1 h2
        simp only [Bool.and_eq_true, beq_iff_eq] at h1 h2
        exact h1.2.2.symm.trans h2.2.2
      · simp only [Bool.and_eq_true, beq_iff_eq]
        exact ⟨fun h1 => ⟨(y + x) % n, Nat.mod_lt _ h, h1.1, h1.2, rfl⟩, fun ⟨t, _, h1, h2, _⟩ => ⟨h1, h2⟩⟩
    rw [e]
    cases a.testBit x <;> cases b.testBit y <;> rfl

/-! Sums -/
/-- the sums of the tones of a, and those of b below k -/
def un (n a b : Nat) : Nat → Nat
  | 0 => 0
  | k + 1 => if b.testBit k then un n a b k ||| shf n k a else un n a b k
/-- all different -/
def okk (n a b : Nat) : Nat → Bool
  | 0 => true
  | k + 1 => if b.testBit k then okk n a b k && (un n a b k &&& shf n k a) == 0 else okk n a b k
theorem un_yes {n a b k : Nat} (h : b.testBit k = true) : un n a b (k + 1) = un n a b k ||| shf n k a := by conv => lhs; unfold un; rw [if_pos h]
theorem un_no {n a b k : Nat} (h : b.testBit k = false) : un n a b (k + 1) = un n a b k := by conv => lhs; unfold un; rw [if_neg (by simp [h])]
theorem okk_yes {n a b k : Nat} (h : b.testBit k = true) : okk n a b (k + 1) = (okk n a b k && (un n a b k &&& shf n k a) == 0) := by conv => lhs; unfold okk; rw [if_pos h]
theorem okk_no {n a b k : Nat} (h : b.testBit k = false) : okk n a b (k + 1) = okk n a b k := by conv => lhs; unfold okk; rw [if_neg (by simp [h])]
theorem un_lt {n : Nat} (h : 0 < n) (a b : Nat) : ∀ k, un n a b k < 2 ^ n
  | 0 => Nat.two_pow_pos n
  | k + 1 => by
    unfold un
    split
    · exact Nat.or_lt_two_pow (un_lt h a b k) (shf_lt h _ _)
    · exact un_lt h a b k
theorem un_bit (n a b t : Nat) : ∀ k, (un n a b k).testBit t = decide (0 < cn n a b t k)
  | 0 => by simp [un, cn, sm]
  | k + 1 => by
    cases h : b.testBit k with
    | false => rw [un_no h, cn_no h, un_bit n a b t k]
    | true =>
      rw [un_yes h, cn_yes h, Nat.testBit_or, un_bit n a b t k, Bool.eq_iff_iff]
      cases (shf n k a).testBit t <;> simp [b2]
theorem okk_iff (n a b : Nat) : ∀ k, okk n a b k = true ↔ ∀ t, cn n a b t k ≤ 1
  | 0 => by simp [okk, cn, sm]
  | k + 1 => by
    cases h : b.testBit k with
    | false =>
      rw [okk_no h, okk_iff n a b k]
      exact forall_congr' fun t => by rw [cn_no h]
    | true =>
      rw [okk_yes h, Bool.and_eq_true, okk_iff n a b k, beq_iff_eq]
      constructor
      · rintro ⟨h1, h2⟩ t
        rw [cn_yes h]
        cases e : (shf n k a).testBit t with
        | false => simpa [b2] using h1 t
        | true =>
          have h3 : (un n a b k &&& shf n k a).testBit t = false := by rw [h2]; exact Nat.zero_testBit t
          rw [Nat.testBit_and, e, Bool.and_true, un_bit] at h3
          have := of_decide_eq_false h3
          simp [b2]; omega
      · intro h1
        refine ⟨fun t => ?_, ?_⟩
        · have := h1 t; rw [cn_yes h] at this; omega
        · apply Nat.eq_of_testBit_eq
          intro t
          rw [Nat.zero_testBit, Nat.testBit_and, un_bit]
          have := h1 t
          rw [cn_yes h] at this
          cases e : (shf n k a).testBit t with
          | false => simp
          | true => rw [e] at this; simp [b2] at this; simp; omega
theorem un_comm {n : Nat} (h : 0 < n) (a b : Nat) : un n a b n = un n b a n := by
  apply Nat.eq_of_testBit_eq
  intro t
  rw [un_bit, un_bit, cn_comm h]
theorem okk_comm {n : Nat} (h : 0 < n) (a b : Nat) : okk n a b n = okk n b a n := by
  rw [Bool.eq_iff_iff, okk_iff, okk_iff]
  exact forall_congr' fun t => by rw [cn_comm h]
/-- different exactly if they are as many as the product -/
theorem okk_wt {n : Nat} (h : 0 < n) (a b : Nat) : okk n a b n = true ↔ wt n (un n a b n) = wt n a * wt n b := by
  rw [okk_iff, ← cn_total h, wt_sm]
  have e : ∀ t, b2 ((un n a b n).testBit t) = min (cn n a b t n) 1 := by
    intro t
    rw [un_bit]
    unfold b2
    by_cases h : 0 < cn n a b t n
    · simp [h]; omega
    · simp [h]; omega
  rw [sm_congr (g := fun t => min (cn n a b t n) 1) (fun t _ => e t)]
  constructor
  · intro h1
    exact sm_congr fun t _ => by have := h1 t; omega
  · intro h1
    have key : ∀ k, sm (fun t => min (cn n a b t n) 1) k = sm (fun t => cn n a b t n) k → ∀ t, t < k → cn n a b t n ≤ 1 := by
      intro k
      induction k with
      | zero => intro _ t h; omega
      | succ k ih =>
        intro e t ht
        unfold sm at e
        have h3 : sm (fun t => min (cn n a b t n) 1) k ≤ sm (fun t => cn n a b t n) k := sm_le fun x _ => by omega
        by_cases e2 : t = k
        · subst e2; omega
        · exact ih (by omega) t (by omega)
    intro t
    by_cases ht : t < n
    · exact key n h1 t ht
    · rw [cn_big h a b t n (by omega)]; omega
/-- all tones, each once -/
theorem tile_wt {n a b : Nat} (h : 0 < n) (h1 : okk n a b n = true) (h2 : un n a b n = 2 ^ n - 1) : wt n a * wt n b = n := by
  rw [← (okk_wt h a b).1 h1, h2, wt_sm, sm_congr (g := fun _ => 1)]
  · have : ∀ k, sm (fun _ => 1) k = k := by
      intro k; induction k with
      | zero => rfl
      | succ k ih => unfold sm; rw [ih]
    exact this n
  · intro x hx
    refine b2_true ?_
    rw [Nat.testBit_two_pow_sub_one]; simpa using hx

/-! Tones with a rest -/
/-- how many tones of s below k have the rest r, divided by p -/
def wnd (s p r : Nat) : Nat → Nat := sm fun x => b2 (s.testBit x && x % p == r)
theorem wnd_le (s p r k : Nat) : wnd s p r k ≤ k := by
  have := sm_bd (f := fun x => b2 (s.testBit x && x % p == r)) (c := 1) (k := k) (fun x _ => b2_le _)
  simpa [wnd] using this
theorem wnd_big {s p r : Nat} (h : 0 < p) (hr : p ≤ r) (k : Nat) : wnd s p r k = 0 := by
  unfold wnd
  rw [sm_congr (g := fun _ => 0), sm_zero]
  intro x _
  refine b2_false ?_
  have := Nat.mod_lt x h
  rw [beq_eq_false_iff_ne.2 (by omega), Bool.and_false]
/-- round the whole circle each tone is its own rest -/
theorem wnd_all {n s : Nat} (hs : s < 2 ^ n) (t : Nat) : wnd s n t n = b2 (s.testBit t) := by
  refine sm_eq_b2 (fun x => s.testBit x && x % n == t) _ n ?_ ?_
  · intro x y hx hy h1 h2
    simp only [Bool.and_eq_true, beq_iff_eq] at h1 h2
    rw [Nat.mod_eq_of_lt hx] at h1
    rw [Nat.mod_eq_of_lt hy] at h2
    omega
  · constructor
    · intro h
      have ht : t < n := by
        rcases Nat.lt_or_ge t n with g | g
        · exact g
        · rw [bit_big hs g] at h; cases h
      exact ⟨t, ht, by simp [h, Nat.mod_eq_of_lt ht]⟩
    · rintro ⟨x, hx, h⟩
      simp only [Bool.and_eq_true, beq_iff_eq] at h
      rw [Nat.mod_eq_of_lt hx] at h
      rw [← h.2]; exact h.1
/-- the voices make each time once at most, exactly if the sums, counted once, are as many at each time -/
theorem okk_wnd {n : Nat} (h : 0 < n) (hn : n ≤ 12) (a b : Nat) : okk n a b n = true ↔ ∀ t, t < 12 → cn n a b t n = wnd (un n a b n) n t n := by
  have e : ∀ t, wnd (un n a b n) n t n = min (cn n a b t n) 1 := by
    intro t
    rw [wnd_all (un_lt h a b n), un_bit]
    unfold b2
    by_cases h : 0 < cn n a b t n
    · simp [h]; omega
    · simp [h]; omega
  rw [okk_iff]
  constructor
  · intro h1 t _; rw [e]; have := h1 t; omega
  · intro h1 t
    by_cases ht : t < 12
    · have := h1 t ht; rw [e] at this; omega
    · rw [cn_big h a b t n (by omega)]; omega
/-- the rests of a set shifted by d are the rests, d less -/
theorem wnd_shf {n p d : Nat} (h : 0 < n) (hp : 0 < p) (hd : p ∣ n) (s r : Nat) (hdp : d ≤ p) (hr : r < p) : wnd (shf n d s) p r n = wnd s p ((r + (p - d)) % p) n := by
  have e1 : wnd (shf n d s) p r n = sm (fun y => sm (fun x => b2 (s.testBit x && ((d + x) % n == y && y % p == r))) n) n := by
    refine sm_congr fun y hy => ?_
    refine (sm_eq_b2 (fun x => s.testBit x && ((d + x) % n == y && y % p == r)) _ n ?_ ?_).symm
    · intro x z hx hz h1 h2
      simp only [Bool.and_eq_true, beq_iff_eq] at h1 h2
      exact mvd_inj h 1 d (.inl rfl) x z hx hz (by rw [mvd_nat, mvd_nat, h1.2.1, h2.2.1])
    · rw [Bool.and_eq_true]
      unfold shf
      rw [img_testBit]
      constructor
      · rintro ⟨⟨x, hx, h2, h3⟩, h1⟩
        rw [mvd_nat] at h3
        exact ⟨x, hx, by simp [h2, h3]; simpa using h1⟩
      · rintro ⟨x, hx, h1⟩
        simp only [Bool.and_eq_true, beq_iff_eq] at h1
        exact ⟨⟨x, hx, h1.1, by rw [mvd_nat]; exact h1.2.1⟩, by simpa using h1.2.2⟩
  rw [e1, sm_swap (fun y x => b2 (s.testBit x && ((d + x) % n == y && y % p == r)))]
  refine sm_congr fun x hx => ?_
  refine sm_eq_b2 (fun y => s.testBit x && ((d + x) % n == y && y % p == r)) _ n ?_ ?_
  · intro y z _ _ h1 h2
    simp only [Bool.and_eq_true, beq_iff_eq] at h1 h2
    exact h1.2.1.symm.trans h2.2.1
  · simp only [Bool.and_eq_true, beq_iff_eq]
    have key : ((d + x) % n) % p = r ↔ x % p = (r + (p - d)) % p := by
      rw [Nat.mod_mod_of_dvd _ hd]
      have h1 := Nat.mod_lt x hp
      rw [Nat.add_mod]
      generalize x % p = z at h1 ⊢
      by_cases e : d = p
      · subst e
        rw [Nat.mod_self, Nat.zero_add, Nat.mod_eq_of_lt h1, Nat.sub_self, Nat.add_zero, Nat.mod_eq_of_lt hr]
      · rw [Nat.mod_eq_of_lt (show d < p by omega)]
        by_cases c1 : d + z < p
        · rw [Nat.mod_eq_of_lt c1]
          by_cases c2 : r + (p - d) < p
          · rw [Nat.mod_eq_of_lt c2]; omega
          · rw [Nat.mod_eq_sub_mod (by omega), Nat.mod_eq_of_lt (by omega)]; omega
        · rw [Nat.mod_eq_sub_mod (by omega), Nat.mod_eq_of_lt (show d + z - p < p by omega)]
          by_cases c2 : r + (p - d) < p
          · rw [Nat.mod_eq_of_lt c2]; omega
          · rw [Nat.mod_eq_sub_mod (show p ≤ r + (p - d) by omega), Nat.mod_eq_of_lt (by omega)]; omega
    constructor
    · rintro ⟨h1, h2⟩
      exact ⟨(d + x) % n, Nat.mod_lt _ h, h1, rfl, key.2 h2⟩
    · rintro ⟨y, _, h1, h2, h3⟩
      exact ⟨h1, key.1 (by rw [h2]; exact h3)⟩
/-- as many with each rest as with the others that are the same divided by a part: a shift by this part leaves the numbers -/
theorem wnd_part {n p d : Nat} (h : 0 < n) (hn : n ≤ 12) (hd0 : 0 < d) (hdp : d ∣ p) (hp : 0 < p) (hpn : p ∣ n) (s : Nat) :
    (∀ r, r < 12 → wnd s p r n = wnd (shf n d s) p r n) ↔ (∀ r, r < p → r < 12 → wnd s p r n = wnd s p (r % d) n) := by
  have hle : d ≤ p := Nat.le_of_dvd hp hdp
  constructor
  · intro h1 r
    induction r using Nat.strongRecOn with
    | _ r ih =>
      intro hr h12
      by_cases hrd : r < d
      · rw [Nat.mod_eq_of_lt hrd]
      · have h2 := h1 r h12
        rw [wnd_shf h hp hpn s r hle hr, show r + (p - d) = (r - d) + p by omega, Nat.add_mod_right, Nat.mod_eq_of_lt (show r - d < p by omega)] at h2
        rw [h2, ih (r - d) (by omega) (by omega) (by omega), ← Nat.mod_eq_sub_mod (by omega)]
  · intro h1 r h12
    by_cases hr : r < p
    · rw [wnd_shf h hp hpn s r hle hr]
      have h3 : (r + (p - d)) % p < p := Nat.mod_lt _ hp
      have hpn2 : p ≤ n := Nat.le_of_dvd h hpn
      rw [h1 r hr h12, h1 _ h3 (by omega), Nat.mod_mod_of_dvd _ hdp]
      obtain ⟨c, rfl⟩ := hdp
      congr 1
      obtain ⟨e, rfl⟩ : ∃ e, c = e + 1 := ⟨c - 1, by rcases c with _ | c <;> simp_all⟩
      rw [show r + (d * (e + 1) - d) = r + d * e by rw [Nat.mul_succ]; omega, Nat.add_mul_mod_self_left]
    · rw [wnd_big hp (by omega), wnd_big hp (by omega)]
end Go.Proofs.Ytgpbgbcdlebaiaa.Tic
