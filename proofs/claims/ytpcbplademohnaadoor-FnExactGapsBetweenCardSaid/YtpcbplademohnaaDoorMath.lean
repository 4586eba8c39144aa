/-
  Plain mathematics of sets of tones as numbers: images of sets, shifts and turns, the rest round a circle. No program in sight.
-/
import Derived.WalkKit
namespace Go.Proofs.YtpcbplademohnaaDoor.Tic

theorem or_pow_add {a i : Nat} (h : a.testBit i = false) : a ||| 2 ^ i = a + 2 ^ i := by
  have hq : a = 2 ^ (i + 1) * (a / 2 ^ (i + 1)) + a % 2 ^ (i + 1) := (Nat.div_add_mod a _).symm
  have hr : a % 2 ^ (i + 1) < 2 ^ i := by
    rw [Nat.testBit_eq_decide_div_mod_eq] at h
    have h2 : a / 2 ^ i % 2 = 0 := by have := of_decide_eq_false h; omega
    rw [Nat.pow_succ, Nat.mod_mul, h2]
    have := Nat.mod_lt a (Nat.two_pow_pos i)
    omega
  generalize a / 2 ^ (i + 1) = q at *
  generalize a % 2 ^ (i + 1) = r at *
  subst hq
  have e1 : 2 ^ (i + 1) * q + r = 2 ^ (i + 1) * q ||| r := Nat.two_pow_add_eq_or_of_lt (by rw [Nat.pow_succ]; omega) q
  have e2 : 2 ^ i * 1 + r = 2 ^ i * 1 ||| r := Nat.two_pow_add_eq_or_of_lt hr 1
  have e3 : 2 ^ (i + 1) * q + (2 ^ i * 1 + r) = 2 ^ (i + 1) * q ||| (2 ^ i * 1 + r) := Nat.two_pow_add_eq_or_of_lt (by rw [Nat.pow_succ]; omega) q
  rw [e1, Nat.or_assoc, Nat.or_comm r, ← Nat.mul_one (2 ^ i), ← e2, ← e3, ← e1]
  omega

/-- the image of the first k bits of s under f -/
def img (f : Nat → Nat) (s : Nat) : Nat → Nat
  | 0 => 0
  | k + 1 => if s.testBit k then img f s k ||| 2 ^ f k else img f s k

theorem img_no (f : Nat → Nat) {s k : Nat} (h : s.testBit k = false) : img f s (k + 1) = img f s k := by unfold img; rw [if_neg (by simp [h])]; cases k <;> rfl
theorem img_yes (f : Nat → Nat) {s k : Nat} (h : s.testBit k = true) : img f s (k + 1) = img f s k ||| 2 ^ f k := by conv => lhs; unfold img; rw [if_pos h]

theorem img_testBit (f : Nat → Nat) (s y : Nat) : ∀ k, (img f s k).testBit y = true ↔ ∃ x, x < k ∧ s.testBit x = true ∧ f x = y
  | 0 => by simp [img]
  | k + 1 => by
    have ih := img_testBit f s y k
    unfold img
    by_cases h : s.testBit k = true
    · rw [if_pos h, Nat.testBit_or, Nat.testBit_two_pow]
      simp only [Bool.or_eq_true, decide_eq_true_eq, ih]
      constructor
      · rintro (⟨x, hx, hs, hf⟩ | hf)
        · exact ⟨x, by omega, hs, hf⟩
        · exact ⟨k, by omega, h, hf⟩
      · rintro ⟨x, hx, hs, hf⟩
        by_cases e : x = k
        · subst e; exact Or.inr hf
        · exact Or.inl ⟨x, by omega, hs, hf⟩
    · rw [if_neg h, ih]
      constructor
      · rintro ⟨x, hx, hs, hf⟩; exact ⟨x, by omega, hs, hf⟩
      · rintro ⟨x, hx, hs, hf⟩
        by_cases e : x = k
        · subst e; exact absurd hs h
        · exact ⟨x, by omega, hs, hf⟩

theorem img_lt (f : Nat → Nat) (s n k : Nat) (hf : ∀ x, x < k → f x < n) : img f s k < 2 ^ n := by
  apply Nat.lt_pow_two_of_testBit
  intro i hi
  cases h : (img f s k).testBit i with
  | false => rfl
  | true =>
    obtain ⟨x, hx, _, e⟩ := (img_testBit f s i k).1 h
    have := hf x hx
    omega

def sumImg (f : Nat → Nat) (s : Nat) : Nat → Nat
  | 0 => 0
  | k + 1 => if s.testBit k then sumImg f s k + 2 ^ f k else sumImg f s k

theorem sumImg_eq (f : Nat → Nat) (s n : Nat) (inj : ∀ x y, x < n → y < n → f x = f y → x = y) : ∀ k, k ≤ n → sumImg f s k = img f s k
  | 0, _ => rfl
  | k + 1, hk => by
    have ih := sumImg_eq f s n inj k (by omega)
    unfold sumImg img
    by_cases h : s.testBit k = true
    · rw [if_pos h, if_pos h, ih, or_pow_add]
      cases e : (img f s k).testBit (f k) with
      | false => rfl
      | true =>
        obtain ⟨x, hx, _, e⟩ := (img_testBit f s _ k).1 e
        have := inj x k (by omega) (by omega) e
        omega
    · rw [if_neg h, if_neg h, ih]

/-- the tone way * x + t round the circle -/
def mvd (n : Nat) (way t : Int) (x : Nat) : Nat := ((t + way * x) % (n : Int)).toNat

theorem mvd_lt {n : Nat} (h : 0 < n) (way t : Int) (x : Nat) : mvd n way t x < n := by
  unfold mvd
  have h1 := Int.emod_nonneg (t + way * x) (b := (n : Int)) (by omega)
  have h2 := Int.emod_lt_of_pos (t + way * x) (b := (n : Int)) (by omega)
  omega
/-- t + x round a circle of n -/
def rot (n : Nat) (t : Int) (x : Nat) : Nat := ((t + x) % (n : Int)).toNat
/-- t - x round a circle of n -/
def trn (n : Nat) (t : Int) (x : Nat) : Nat := ((t - x) % (n : Int)).toNat

theorem rot_lt {n : Nat} (h : 0 < n) (t : Int) (x : Nat) : rot n t x < n := by
  unfold rot
  have h1 := Int.emod_nonneg (t + x) (b := (n : Int)) (by omega)
  have h2 := Int.emod_lt_of_pos (t + x) (b := (n : Int)) (by omega)
  omega
theorem trn_lt {n : Nat} (h : 0 < n) (t : Int) (x : Nat) : trn n t x < n := by
  unfold trn
  have h1 := Int.emod_nonneg (t - x) (b := (n : Int)) (by omega)
  have h2 := Int.emod_lt_of_pos (t - x) (b := (n : Int)) (by omega)
  omega
theorem emod_eq_of {n : Nat} (h : 0 < n) {a b : Int} (e : (a % (n : Int)).toNat = (b % (n : Int)).toNat) : a % (n : Int) = b % (n : Int) := by
  have h1 := Int.emod_nonneg a (b := (n : Int)) (by omega)
  have h2 := Int.emod_nonneg b (b := (n : Int)) (by omega)
  omega
theorem sub_of_emod {n : Nat} {a b : Int} (e : a % (n : Int) = b % (n : Int)) (h : 0 < n) (h1 : a - b < n) (h2 : b - a < n) : a = b := by
  have d1 := Int.mul_ediv_add_emod a n
  have d2 := Int.mul_ediv_add_emod b n
  have hm : (n : Int) * (a / n) - n * (b / n) = (n : Int) * (a / n - b / n) := by rw [Int.mul_sub]
  have : a / (n : Int) - b / n = 0 := by
    rcases Int.lt_trichotomy (a / (n : Int) - b / n) 0 with g | g | g
    · have : (n : Int) * (a / n - b / n) ≤ n * (-1) := Int.mul_le_mul_of_nonneg_left (by omega) (by omega)
      omega
    · exact g
    · have : (n : Int) * 1 ≤ n * (a / n - b / n) := Int.mul_le_mul_of_nonneg_left (by omega) (by omega)
      omega
  rw [this] at hm
  omega
theorem rot_inj {n : Nat} (h : 0 < n) (t : Int) : ∀ x y, x < n → y < n → rot n t x = rot n t y → x = y := by
  intro x y hx hy e
  have := sub_of_emod (emod_eq_of h e) h (by omega) (by omega)
  omega
theorem trn_inj {n : Nat} (h : 0 < n) (t : Int) : ∀ x y, x < n → y < n → trn n t x = trn n t y → x = y := by
  intro x y hx hy e
  have := sub_of_emod (emod_eq_of h e) h (by omega) (by omega)
  omega
/-- Go's (x%n + n) % n -/
theorem mvd_inj {n : Nat} (h : 0 < n) (way t : Int) (hw : way = 1 ∨ way = -1) : ∀ x y, x < n → y < n → mvd n way t x = mvd n way t y → x = y := by
  intro x y hx hy e
  have := sub_of_emod (emod_eq_of h e) h (by rcases hw with rfl | rfl <;> omega) (by rcases hw with rfl | rfl <;> omega)
  rcases hw with rfl | rfl <;> omega
theorem sumImg_no (f : Nat → Nat) {s k : Nat} (h : s.testBit k = false) : sumImg f s (k + 1) = sumImg f s k := by conv => lhs; unfold sumImg; rw [if_neg (by simp [h])]
theorem sumImg_yes (f : Nat → Nat) {s k : Nat} (h : s.testBit k = true) : sumImg f s (k + 1) = sumImg f s k + 2 ^ f k := by conv => lhs; unfold sumImg; rw [if_pos h]
theorem sum_mvd_lt {n : Nat} (h : 0 < n) (h2 : n ≤ 12) (way t : Int) (hw : way = 1 ∨ way = -1) (s : Nat) {k : Nat} (hk : k ≤ n) : sumImg (mvd n way t) s k < 4096 := by
  rw [sumImg_eq _ s n (mvd_inj h way t hw) k hk]
  have h1 := img_lt (mvd n way t) s n k (fun x _ => mvd_lt h _ _ x)
  have h3 : 2 ^ n ≤ 2 ^ 12 := Nat.pow_le_pow_right (by omega) h2
  omega
/-- the set shifted by t -/
def shf (n : Nat) (t : Int) (s : Nat) : Nat := img (mvd n 1 t) s n
/-- the set turned by t -/
def tur (n : Nat) (t : Int) (s : Nat) : Nat := img (mvd n (-1) t) s n
theorem shf_lt {n : Nat} (h : 0 < n) (t : Int) (s : Nat) : shf n t s < 2 ^ n := img_lt _ _ _ _ (fun x _ => mvd_lt h _ _ x)
theorem tur_lt {n : Nat} (h : 0 < n) (t : Int) (s : Nat) : tur n t s < 2 ^ n := img_lt _ _ _ _ (fun x _ => mvd_lt h _ _ x)
theorem sum_shf {n : Nat} (h : 0 < n) (t : Int) (s : Nat) : sumImg (mvd n 1 t) s n = shf n t s := sumImg_eq _ s n (mvd_inj h 1 t (.inl rfl)) n (Nat.le_refl _)
theorem sum_tur {n : Nat} (h : 0 < n) (t : Int) (s : Nat) : sumImg (mvd n (-1) t) s n = tur n t s := sumImg_eq _ s n (mvd_inj h (-1) t (.inr rfl)) n (Nat.le_refl _)
theorem go_round_mod {n : Nat} (h : 0 < n) (a : Int) : (a.tmod (n : Int) + n).tmod n = a % (n : Int) := by
  have hn : (0 : Int) < n := by omega
  have l1 := Int.lt_tmod_of_pos a hn
  rw [Int.tmod_eq_emod_of_nonneg (by omega), Int.add_emod_right]
  have e : a.tmod n = a - n * (a.tdiv n) := Int.tmod_def a n
  rw [e, Int.sub_emod, Int.mul_emod_right]
  simp

theorem go_round_emod {n a : Int} : (a.tmod n + n) % n = a % n := by
  rw [Int.add_emod_right, Int.tmod_def, Int.sub_emod, Int.mul_emod_right]
  simp

/-- the number of bits of s, at most f of them -/
def wt : Nat → Nat → Nat
  | 0, _ => 0
  | f + 1, s => s % 2 + wt f (s / 2)
theorem wt_zero : ∀ f, wt f 0 = 0
  | 0 => rfl
  | f + 1 => by unfold wt; rw [wt_zero f]
theorem wt_le : ∀ f s, wt f s ≤ f
  | 0, _ => Nat.le_refl _
  | f + 1, s => by unfold wt; have := wt_le f (s / 2); omega

/-- a bit as a number -/
def bitI (s j : Nat) : Int := if s.testBit j then 1 else 0
theorem bitI_eq (s j : Nat) : bitI s j = (((s / 2 ^ j % 2 : Nat)) : Int) := by
  unfold bitI
  rw [Nat.testBit_eq_decide_div_mod_eq]
  have := Nat.mod_lt (s / 2 ^ j) (y := 2) (by omega)
  by_cases h : s / 2 ^ j % 2 = 1
  · simp [h]
  · have h0 : s / 2 ^ j % 2 = 0 := by omega
    simp [h0]
theorem bitI_true {s j : Nat} (h : s.testBit j = true) : bitI s j = 1 := by simp [bitI, h]
theorem bitI_false {s j : Nat} (h : s.testBit j = false) : bitI s j = 0 := by simp [bitI, h]
theorem div_bd (s p : Nat) : 0 ≤ (s : Int) / (p : Int) ∧ (s : Int) / (p : Int) ≤ s := by
  rw [← Int.natCast_ediv]
  exact ⟨Int.natCast_nonneg _, Int.ofNat_le.2 (Nat.div_le_self s p)⟩

/-- a set of tones of a circle of n -/
def Valid (n s : Int) : Prop := 3 ≤ n ∧ n ≤ 12 ∧ 0 ≤ s ∧ s < ((2 ^ n.toNat : Nat) : Int)
/-- a shift -/
def Turn (t : Int) : Prop := -50 ≤ t ∧ t ≤ 50
theorem pow_le_12 {n : Int} (h : n ≤ 12) : 2 ^ n.toNat ≤ 4096 := by
  have : 2 ^ n.toNat ≤ 2 ^ 12 := Nat.pow_le_pow_right (by omega) (by omega)
  simpa using this
theorem Valid.lt {n s : Int} (h : Valid n s) : s < 4096 := by
  have := pow_le_12 h.2.1
  have := h.2.2.2
  omega

theorem shf_lt12 {n s : Int} (h : Valid n s) (t : Int) : shf n.toNat t s.toNat < 4096 := by
  have h1 := shf_lt (n := n.toNat) (by have := h.1; omega) t s.toNat
  have h2 := pow_le_12 h.2.1
  omega
theorem tur_lt12 {n s : Int} (h : Valid n s) (t : Int) : tur n.toNat t s.toNat < 4096 := by
  have h1 := tur_lt (n := n.toNat) (by have := h.1; omega) t s.toNat
  have h2 := pow_le_12 h.2.1
  omega
theorem Valid.cast {n s : Int} (h : Valid n s) : s = (s.toNat : Int) := (Int.toNat_of_nonneg h.2.2.1).symm
theorem Valid.nat {n s : Int} (h : Valid n s) : s.toNat < 4096 := by have := h.lt; omega

theorem pow_split (n k : Nat) (h : k ≤ n) : 2 ^ (n - k) * 2 ^ k = 2 ^ n := by
  rw [← Nat.pow_add]; congr 1; omega
theorem pow_le_62 {k : Nat} (h : k ≤ 62) : 2 ^ k ≤ 4611686018427387904 := by
  have : 2 ^ k ≤ 2 ^ 62 := Nat.pow_le_pow_right (by omega) h
  simpa using this

end Go.Proofs.YtpcbplademohnaaDoor.Tic
