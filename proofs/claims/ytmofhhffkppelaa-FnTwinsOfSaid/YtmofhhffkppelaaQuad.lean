/-
  Plain mathematics: counts of pairs of tones as sums over two tones, under shifts, turns and complements. No program in sight.
-/
import Derived.Test.YtmofhhffkppelaaKindNum
import Derived.Test.YtmofhhffkppelaaGapsNum
namespace Go.Proofs.Ytmofhhffkppelaa.Tic
set_option linter.unusedVariables false

/-- 1 if the tone is in the set -/
def bx (s x : Nat) : Nat := if s.testBit x then 1 else 0
def Q (n : Nat) (F : Nat → Nat → Nat) (s : Nat) : Nat := gsum (fun x => gsum (fun y => F x y * (bx s x * bx s y)) n) n
/-- the pair x < y is d + 1 apart round a circle of n -/
def Ap (n d x y : Nat) : Nat := if x < y ∧ min (y - x) (n - (y - x)) = d + 1 then 1 else 0
theorem gAll_Q (n s d : Nat) : gAll n s d = Q n (Ap n d) s := by
  unfold gAll Q
  refine gsum_congr n fun x _ => gsum_congr n fun y _ => ?_
  unfold hit Ap bx
  cases s.testBit x <;> cases s.testBit y <;> simp

theorem gsum_succ (f : Nat → Nat) (k : Nat) : gsum f (k + 1) = gsum f k + f k := rfl
theorem gsum_mul (f : Nat → Nat) (c : Nat) : ∀ k, gsum (fun x => c * f x) k = c * gsum f k
  | 0 => by simp [gsum]
  | k + 1 => by unfold gsum; rw [gsum_mul f c k, Nat.mul_add]
theorem Q_swap (n : Nat) (F : Nat → Nat → Nat) (s : Nat) : Q n F s = Q n (fun x y => F y x) s := by
  unfold Q
  rw [gsum_swap (fun x y => F x y * (bx s x * bx s y)) n n]
  refine gsum_congr n fun y _ => gsum_congr n fun x _ => ?_
  show F x y * (bx s x * bx s y) = F x y * (bx s y * bx s x)
  rw [Nat.mul_comm (bx s x)]
theorem Q_add (n : Nat) (F G : Nat → Nat → Nat) (s : Nat) : Q n (fun x y => F x y + G x y) s = Q n F s + Q n G s := by
  unfold Q
  rw [← gsum_add]
  refine gsum_congr n fun x _ => ?_
  rw [← gsum_add]
  refine gsum_congr n fun y _ => ?_
  rw [Nat.add_mul]
theorem Q_congr {n : Nat} {F G : Nat → Nat → Nat} (s : Nat) (h : ∀ x y, x < n → y < n → F x y = G x y) : Q n F s = Q n G s := by
  unfold Q
  refine gsum_congr n fun x hx => gsum_congr n fun y hy => ?_
  rw [h x y hx hy]
theorem Q_sym {n : Nat} {F G : Nat → Nat → Nat} (s : Nat) (h : ∀ x y, x < n → y < n → F x y + F y x = G x y + G y x) : Q n F s = Q n G s := by
  have h1 : Q n F s + Q n F s = Q n G s + Q n G s := by
    conv => lhs; rhs; rw [Q_swap]
    conv => rhs; rhs; rw [Q_swap]
    rw [← Q_add, ← Q_add]
    exact Q_congr s h
  omega

/-- a sum over the tones of an image -/
theorem gsum_or (n : Nat) (G : Nat → Nat) {a i : Nat} (hi : i < n) (ha : a.testBit i = false) : gsum (fun x => G x * bx (a ||| 2 ^ i) x) n = gsum (fun x => G x * bx a x) n + G i := by
  have e : ∀ x, G x * bx (a ||| 2 ^ i) x = G x * bx a x + (if x = i then G i else 0) := fun x => by
    unfold bx
    rw [Nat.testBit_or, Nat.testBit_two_pow]
    by_cases h : x = i
    · subst h; simp [ha]
    · have : decide (i = x) = false := by simpa using fun e => h e.symm
      rw [this, if_neg h]; simp
  rw [gsum_congr n (fun x _ => e x), gsum_add]
  congr 1
  clear e ha
  induction n with
  | zero => omega
  | succ n ih =>
    unfold gsum
    by_cases h : n = i
    · subst h
      rw [if_pos rfl, gsum_congr (g := fun _ => 0) n (fun x hx => by rw [if_neg (by omega)]), gsum_zero]; omega
    · rw [ih (by omega), if_neg h]; omega
theorem gsum_img (n s : Nat) (f : Nat → Nat) (G : Nat → Nat) (hf : ∀ x, x < n → f x < n) (inj : ∀ x y, x < n → y < n → f x = f y → x = y) : ∀ k, k ≤ n →
    gsum (fun x => G x * bx (img f s k) x) n = gsum (fun z => G (f z) * bx s z) k
  | 0, _ => by
    rw [gsum_congr (g := fun _ => 0) n (fun x _ => by simp [img, bx]), gsum_zero]; rfl
  | k + 1, hk => by
    have ih := gsum_img n s f G hf inj k (by omega)
    cases h : s.testBit k with
    | false =>
      rw [img_no f h, gsum_succ, ih]; simp [bx, h]
    | true =>
      rw [img_yes f h]
      have hno : (img f s k).testBit (f k) = false := by
        cases e : (img f s k).testBit (f k) with
        | false => rfl
        | true =>
          obtain ⟨x, hx, _, e2⟩ := (img_testBit f s _ k).1 e
          have := inj x k (by omega) (by omega) e2
          omega
      rw [gsum_or n G (hf k (by omega)) hno, ih, gsum_succ]
      simp [bx, h]
theorem Q_img (n s : Nat) (f : Nat → Nat) (F : Nat → Nat → Nat) (hf : ∀ x, x < n → f x < n) (inj : ∀ x y, x < n → y < n → f x = f y → x = y) :
    Q n F (img f s n) = Q n (fun z u => F (f z) (f u)) s := by
  unfold Q
  have e1 : ∀ x, gsum (fun y => F x y * (bx (img f s n) x * bx (img f s n) y)) n = (gsum (fun u => F x (f u) * bx s u) n) * bx (img f s n) x := fun x => by
    have := gsum_img n s f (fun y => F x y) hf inj n (Nat.le_refl _)
    rw [← this, Nat.mul_comm, ← gsum_mul]
    refine gsum_congr n fun y _ => ?_
    rw [Nat.mul_left_comm]
  rw [gsum_congr n (fun x _ => e1 x), gsum_img n s f (fun x => gsum (fun u => F x (f u) * bx s u) n) hf inj n (Nat.le_refl _)]
  refine gsum_congr n fun z _ => ?_
  rw [Nat.mul_comm, ← gsum_mul]
  refine gsum_congr n fun u _ => ?_
  show bx s z * (F (f z) (f u) * bx s u) = F (f z) (f u) * (bx s z * bx s u)
  rw [Nat.mul_left_comm]

theorem mvd_mod (n : Nat) (w t : Int) (x : Nat) : mvd n w t x = mvd n w (t % (n : Int)) x := by
  unfold mvd
  rw [Int.emod_add_emod]
/-- the distance of two tones is that of the tones moved -/
def apOk (w : Int) : Bool := (List.range 13).all fun n => (List.range n).all fun t => (List.range n).all fun x => (List.range n).all fun y => (List.range 6).all fun d =>
  Ap n d (mvd n w t x) (mvd n w t y) + Ap n d (mvd n w t y) (mvd n w t x) == Ap n d x y + Ap n d y x
theorem apOk_up : apOk 1 = true := by decide +kernel
theorem apOk_down : apOk (-1) = true := by decide +kernel
theorem ap_moved {n : Nat} (hn : n ≤ 12) (h0 : 0 < n) (w : Int) (hw : w = 1 ∨ w = -1) (t : Int) {d x y : Nat} (hd : d < 6) (hx : x < n) (hy : y < n) :
    Ap n d (mvd n w t x) (mvd n w t y) + Ap n d (mvd n w t y) (mvd n w t x) = Ap n d x y + Ap n d y x := by
  have ht1 := Int.emod_nonneg t (b := (n : Int)) (by omega)
  have ht2 := Int.emod_lt_of_pos t (b := (n : Int)) (by omega)
  obtain ⟨T, hT⟩ := Int.eq_ofNat_of_zero_le ht1
  have hok : apOk w = true := by rcases hw with rfl | rfl; exact apOk_up; exact apOk_down
  unfold apOk at hok
  simp only [List.all_eq_true, List.mem_range, beq_iff_eq] at hok
  rw [mvd_mod n w t x, mvd_mod n w t y, hT]
  exact hok n (by omega) T (by omega) x hx y hy d hd
theorem gAll_moved {n : Nat} (hn : n ≤ 12) (h0 : 0 < n) (w : Int) (hw : w = 1 ∨ w = -1) (t : Int) {d : Nat} (hd : d < 6) (s : Nat) : gAll n (img (mvd n w t) s n) d = gAll n s d := by
  rw [gAll_Q, gAll_Q, Q_img n s _ _ (fun x _ => mvd_lt h0 w t x) (mvd_inj h0 w t hw)]
  exact Q_sym s fun x y hx hy => ap_moved hn h0 w hw t hd hx hy
theorem cts_congr2 {m : Nat} {C C' : Nat → Nat} (h : ∀ d, d < m → C d = C' d) : cts m C = cts m C' := by
  unfold cts
  refine List.map_congr_left fun d hd => ?_
  rw [h d (List.mem_range.1 hd)]
theorem gaps_shf {n : Nat} (hn : n ≤ 12) (h0 : 0 < n) (t : Int) (s : Nat) : gapsOf n (shf n t s) = gapsOf n s :=
  cts_congr2 fun d hd => gAll_moved hn h0 1 (.inl rfl) t (by omega) s
theorem gaps_tur {n : Nat} (hn : n ≤ 12) (h0 : 0 < n) (t : Int) (s : Nat) : gapsOf n (tur n t s) = gapsOf n s :=
  cts_congr2 fun d hd => gAll_moved hn h0 (-1) (.inr rfl) t (by omega) s
end Go.Proofs.Ytmofhhffkppelaa.Tic
