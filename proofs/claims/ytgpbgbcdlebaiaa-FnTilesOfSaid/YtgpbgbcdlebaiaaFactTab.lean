/-
  Plain mathematics: the primes of the factors, multiplied, divide the number of tones. No program in sight.
-/
import Derived.Test.YtgpbgbcdlebaiaaTileTab
import Derived.Test.YtgpbgbcdlebaiaaFactNum
import Derived.Test.YtgpbgbcdlebaiaaFindNum
namespace Go.Proofs.Ytgpbgbcdlebaiaa.Tic
set_option linter.unusedVariables false

/-- the primes of the factors, multiplied -/
def prodF : List Int → Nat
  | [] => 1
  | y :: L => lp y.toNat * prodF L
/-- .. of the factors below k -/
def pF (n s : Nat) : Nat → Nat
  | 0 => 1
  | k + 1 => if fcond n s k then pF n s k * lp k else pF n s k
theorem prodF_append : ∀ L M : List Int, prodF (L ++ M) = prodF L * prodF M
  | [], M => by simp [prodF]
  | y :: L, M => by simp only [List.cons_append, prodF]; rw [prodF_append L M, Nat.mul_assoc]
theorem pF_eq (n s : Nat) : ∀ k, prodF (flTo n s k) = pF n s k
  | 0 => rfl
  | k + 1 => by
    unfold flTo pF
    split
    · rw [prodF_append, pF_eq n s k]; simp [prodF]
    · exact pF_eq n s k
theorem pF_yes {n s k : Nat} (h : fcond n s k = true) : pF n s (k + 1) = pF n s k * lp k := by conv => lhs; unfold pF; rw [if_pos h]
theorem pF_no {n s k : Nat} (h : fcond n s k = false) : pF n s (k + 1) = pF n s k := by conv => lhs; unfold pF; rw [if_neg (by simp [h])]
/-- the tones with a rest are those with the finer rests -/
theorem wnd_split (n s d q r : Nat) (hd : 0 < d) (hq : 0 < q) (hr : r < d) : wnd s d r n = sm (fun i => wnd s (q * d) (r + i * d) n) q := by
  unfold wnd
  rw [sm_swap (fun i x => b2 (s.testBit x && x % (q * d) == r + i * d))]
  refine sm_congr fun x _ => ?_
  refine (sm_eq_b2 (fun i => s.testBit x && x % (q * d) == r + i * d) _ q ?_ ?_).symm
  · intro i j _ _ h1 h2
    simp only [Bool.and_eq_true, beq_iff_eq] at h1 h2
    have h3 : i * d = j * d := by omega
    exact Nat.eq_of_mul_eq_mul_right hd h3
  · simp only [Bool.and_eq_true, beq_iff_eq]
    have hp : 0 < q * d := Nat.mul_pos hq hd
    constructor
    · rintro ⟨h1, h2⟩
      refine ⟨x % (q * d) / d, Nat.div_lt_of_lt_mul (by rw [Nat.mul_comm d q]; exact Nat.mod_lt x hp), h1, ?_⟩
      have h3 := Nat.div_add_mod (x % (q * d)) d
      rw [Nat.mod_mod_of_dvd _ ⟨q, Nat.mul_comm q d⟩, h2] at h3
      rw [Nat.mul_comm (x % (q * d) / d) d]; omega
    · rintro ⟨i, _, h1, h2⟩
      refine ⟨h1, ?_⟩
      rw [← Nat.mod_mod_of_dvd x ⟨q, Nat.mul_comm q d⟩, h2, Nat.add_mul_mod_self_right, Nat.mod_eq_of_lt hr]
theorem wnd_one (n s : Nat) : wnd s 1 0 n = wt n s := by
  rw [wt_sm]
  exact sm_congr fun x _ => by rw [Nat.mod_one]; simp
theorem fcond_fac {n s k : Nat} (h : fcond n s k = true) : fac n s k (k / lp k) = true := by
  unfold fcond at h
  simp only [Bool.and_eq_true] at h
  exact h.2.2.2
theorem fac_prod_3 (s : Nat) : wt 3 s % pF 3 s 4 = 0 ∧ 1 ≤ pF 3 s 4 ∧ pF 3 s 4 ≤ 12 := by
  rw [← wnd_one]
  have a1_3_0 := wnd_split 3 s 1 3 0 (by decide) (by decide) (by decide)
  simp only [sm, Nat.reduceMul, Nat.zero_mul, Nat.add_zero, Nat.zero_add] at a1_3_0
  have f0 : fcond 3 s 0 = false := by simp [fcond, pw]
  have f1 : fcond 3 s 1 = false := by simp [fcond, pw]
  have f2 : fcond 3 s 2 = false := by simp [fcond, pw]
  have g3 : fcond 3 s 3 = true → wnd s 3 1 3 = wnd s 3 0 3 ∧ wnd s 3 2 3 = wnd s 3 0 3 := fun h => by
    have h1 := (fac_iff 3 s 3 1).1 (fcond_fac h)
    exact ⟨h1 1 (by decide), h1 2 (by decide)⟩
  have e0 : pF 3 s 0 = 1 := rfl
  have e1 := pF_no f0
  rw [e0] at e1
  have e2 := pF_no f1
  rw [e1] at e2
  have e3 := pF_no f2
  rw [e2] at e3
  cases c3 : fcond 3 s 3 with
  | false =>
    have e4 := pF_no c3
    rw [e3] at e4
    rw [e4]
    omega
  | true =>
    have e4 := pF_yes c3
    rw [e3, show lp 3 = 3 from rfl] at e4
    have b3 := g3 c3
    rw [e4]
    omega
theorem fac_prod_4 (s : Nat) : wt 4 s % pF 4 s 5 = 0 ∧ 1 ≤ pF 4 s 5 ∧ pF 4 s 5 ≤ 12 := by
  rw [← wnd_one]
  have a1_2_0 := wnd_split 4 s 1 2 0 (by decide) (by decide) (by decide)
  simp only [sm, Nat.reduceMul, Nat.zero_mul, Nat.add_zero, Nat.zero_add] at a1_2_0
  have a2_2_0 := wnd_split 4 s 2 2 0 (by decide) (by decide) (by decide)
  simp only [sm, Nat.reduceMul, Nat.zero_mul, Nat.add_zero, Nat.zero_add] at a2_2_0
  have a2_2_1 := wnd_split 4 s 2 2 1 (by decide) (by decide) (by decide)
  simp only [sm, Nat.reduceMul, Nat.reduceAdd, Nat.zero_mul, Nat.add_zero, Nat.zero_add] at a2_2_1
  have f0 : fcond 4 s 0 = false := by simp [fcond, pw]
  have f1 : fcond 4 s 1 = false := by simp [fcond, pw]
  have f3 : fcond 4 s 3 = false := by simp [fcond, pw]
  have g2 : fcond 4 s 2 = true → wnd s 2 1 4 = wnd s 2 0 4 := fun h => by
    have h1 := (fac_iff 4 s 2 1).1 (fcond_fac h)
    exact h1 1 (by decide)
  have g4 : fcond 4 s 4 = true → wnd s 4 2 4 = wnd s 4 0 4 ∧ wnd s 4 3 4 = wnd s 4 1 4 := fun h => by
    have h1 := (fac_iff 4 s 4 2).1 (fcond_fac h)
    exact ⟨h1 2 (by decide), h1 3 (by decide)⟩
  have e0 : pF 4 s 0 = 1 := rfl
  have e1 := pF_no f0
  rw [e0] at e1
  have e2 := pF_no f1
  rw [e1] at e2
  cases c2 : fcond 4 s 2 with
  | false =>
    have e3 := pF_no c2
    rw [e2] at e3
    have e4 := pF_no f3
    rw [e3] at e4
    cases c4 : fcond 4 s 4 with
    | false =>
      have e5 := pF_no c4
      rw [e4] at e5
      rw [e5]
      omega
    | true =>
      have e5 := pF_yes c4
      rw [e4, show lp 4 = 2 from rfl] at e5
      have b4 := g4 c4
      rw [e5]
      omega
  | true =>
    have e3 := pF_yes c2
    rw [e2, show lp 2 = 2 from rfl] at e3
    have b2 := g2 c2
    have e4 := pF_no f3
    rw [e3] at e4
    cases c4 : fcond 4 s 4 with
    | false =>
      have e5 := pF_no c4
      rw [e4] at e5
      rw [e5]
      omega
    | true =>
      have e5 := pF_yes c4
      rw [e4, show lp 4 = 2 from rfl] at e5
      have b4 := g4 c4
      rw [e5]
      omega
theorem fac_prod_5 (s : Nat) : wt 5 s % pF 5 s 6 = 0 ∧ 1 ≤ pF 5 s 6 ∧ pF 5 s 6 ≤ 12 := by
  rw [← wnd_one]
  have a1_5_0 := wnd_split 5 s 1 5 0 (by decide) (by decide) (by decide)
  simp only [sm, Nat.reduceMul, Nat.zero_mul, Nat.add_zero, Nat.zero_add] at a1_5_0
  have f0 : fcond 5 s 0 = false := by simp [fcond, pw]
  have f1 : fcond 5 s 1 = false := by simp [fcond, pw]
  have f2 : fcond 5 s 2 = false := by simp [fcond, pw]
  have f3 : fcond 5 s 3 = false := by simp [fcond, pw]
  have f4 : fcond 5 s 4 = false := by simp [fcond, pw]
  have g5 : fcond 5 s 5 = true → wnd s 5 1 5 = wnd s 5 0 5 ∧ wnd s 5 2 5 = wnd s 5 0 5 ∧ wnd s 5 3 5 = wnd s 5 0 5 ∧ wnd s 5 4 5 = wnd s 5 0 5 := fun h => by
    have h1 := (fac_iff 5 s 5 1).1 (fcond_fac h)
    exact ⟨h1 1 (by decide), h1 2 (by decide), h1 3 (by decide), h1 4 (by decide)⟩
  have e0 : pF 5 s 0 = 1 := rfl
  have e1 := pF_no f0
  rw [e0] at e1
  have e2 := pF_no f1
  rw [e1] at e2
  have e3 := pF_no f2
  rw [e2] at e3
  have e4 := pF_no f3
  rw [e3] at e4
  have e5 := pF_no f4
  rw [e4] at e5
  cases c5 : fcond 5 s 5 with
  | false =>
    have e6 := pF_no c5
    rw [e5] at e6
    rw [e6]
    omega
  | true =>
    have e6 := pF_yes c5
    rw [e5, show lp 5 = 5 from rfl] at e6
    have b5 := g5 c5
    rw [e6]
    omega
theorem fac_prod_6 (s : Nat) : wt 6 s % pF 6 s 7 = 0 ∧ 1 ≤ pF 6 s 7 ∧ pF 6 s 7 ≤ 12 := by
  rw [← wnd_one]
  have a1_2_0 := wnd_split 6 s 1 2 0 (by decide) (by decide) (by decide)
  simp only [sm, Nat.reduceMul, Nat.zero_mul, Nat.add_zero, Nat.zero_add] at a1_2_0
  have a1_3_0 := wnd_split 6 s 1 3 0 (by decide) (by decide) (by decide)
  simp only [sm, Nat.reduceMul, Nat.zero_mul, Nat.add_zero, Nat.zero_add] at a1_3_0
  have f0 : fcond 6 s 0 = false := by simp [fcond, pw]
  have f1 : fcond 6 s 1 = false := by simp [fcond, pw]
  have f4 : fcond 6 s 4 = false := by simp [fcond, pw]
  have f5 : fcond 6 s 5 = false := by simp [fcond, pw]
  have f6 : fcond 6 s 6 = false := by simp [fcond, pw]
  have g2 : fcond 6 s 2 = true → wnd s 2 1 6 = wnd s 2 0 6 := fun h => by
    have h1 := (fac_iff 6 s 2 1).1 (fcond_fac h)
    exact h1 1 (by decide)
  have g3 : fcond 6 s 3 = true → wnd s 3 1 6 = wnd s 3 0 6 ∧ wnd s 3 2 6 = wnd s 3 0 6 := fun h => by
    have h1 := (fac_iff 6 s 3 1).1 (fcond_fac h)
    exact ⟨h1 1 (by decide), h1 2 (by decide)⟩
  have e0 : pF 6 s 0 = 1 := rfl
  have e1 := pF_no f0
  rw [e0] at e1
  have e2 := pF_no f1
  rw [e1] at e2
  cases c2 : fcond 6 s 2 with
  | false =>
    have e3 := pF_no c2
    rw [e2] at e3
    cases c3 : fcond 6 s 3 with
    | false =>
      have e4 := pF_no c3
      rw [e3] at e4
      have e5 := pF_no f4
      rw [e4] at e5
      have e6 := pF_no f5
      rw [e5] at e6
      have e7 := pF_no f6
      rw [e6] at e7
      rw [e7]
      omega
    | true =>
      have e4 := pF_yes c3
      rw [e3, show lp 3 = 3 from rfl] at e4
      have b3 := g3 c3
      have e5 := pF_no f4
      rw [e4] at e5
      have e6 := pF_no f5
      rw [e5] at e6
      have e7 := pF_no f6
      rw [e6] at e7
      rw [e7]
      omega
  | true =>
    have e3 := pF_yes c2
    rw [e2, show lp 2 = 2 from rfl] at e3
    have b2 := g2 c2
    cases c3 : fcond 6 s 3 with
    | false =>
      have e4 := pF_no c3
      rw [e3] at e4
      have e5 := pF_no f4
      rw [e4] at e5
      have e6 := pF_no f5
      rw [e5] at e6
      have e7 := pF_no f6
      rw [e6] at e7
      rw [e7]
      omega
    | true =>
      have e4 := pF_yes c3
      rw [e3, show lp 3 = 3 from rfl] at e4
      have b3 := g3 c3
      have e5 := pF_no f4
      rw [e4] at e5
      have e6 := pF_no f5
      rw [e5] at e6
      have e7 := pF_no f6
      rw [e6] at e7
      rw [e7]
      omega
theorem fac_prod_7 (s : Nat) : wt 7 s % pF 7 s 8 = 0 ∧ 1 ≤ pF 7 s 8 ∧ pF 7 s 8 ≤ 12 := by
  rw [← wnd_one]
  have a1_7_0 := wnd_split 7 s 1 7 0 (by decide) (by decide) (by decide)
  simp only [sm, Nat.reduceMul, Nat.zero_mul, Nat.add_zero, Nat.zero_add] at a1_7_0
  have f0 : fcond 7 s 0 = false := by simp [fcond, pw]
  have f1 : fcond 7 s 1 = false := by simp [fcond, pw]
  have f2 : fcond 7 s 2 = false := by simp [fcond, pw]
  have f3 : fcond 7 s 3 = false := by simp [fcond, pw]
  have f4 : fcond 7 s 4 = false := by simp [fcond, pw]
  have f5 : fcond 7 s 5 = false := by simp [fcond, pw]
  have f6 : fcond 7 s 6 = false := by simp [fcond, pw]
  have g7 : fcond 7 s 7 = true → wnd s 7 1 7 = wnd s 7 0 7 ∧ wnd s 7 2 7 = wnd s 7 0 7 ∧ wnd s 7 3 7 = wnd s 7 0 7 ∧ wnd s 7 4 7 = wnd s 7 0 7 ∧ wnd s 7 5 7 = wnd s 7 0 7 ∧ wnd s 7 6 7 = wnd s 7 0 7 := fun h => by
    have h1 := (fac_iff 7 s 7 1).1 (fcond_fac h)
    exact ⟨h1 1 (by decide), h1 2 (by decide), h1 3 (by decide), h1 4 (by decide), h1 5 (by decide), h1 6 (by decide)⟩
  have e0 : pF 7 s 0 = 1 := rfl
  have e1 := pF_no f0
  rw [e0] at e1
  have e2 := pF_no f1
  rw [e1] at e2
  have e3 := pF_no f2
  rw [e2] at e3
  have e4 := pF_no f3
  rw [e3] at e4
  have e5 := pF_no f4
  rw [e4] at e5
  have e6 := pF_no f5
  rw [e5] at e6
  have e7 := pF_no f6
  rw [e6] at e7
  cases c7 : fcond 7 s 7 with
  | false =>
    have e8 := pF_no c7
    rw [e7] at e8
    rw [e8]
    omega
  | true =>
    have e8 := pF_yes c7
    rw [e7, show lp 7 = 7 from rfl] at e8
    have b7 := g7 c7
    rw [e8]
    omega
theorem fac_prod_8 (s : Nat) : wt 8 s % pF 8 s 9 = 0 ∧ 1 ≤ pF 8 s 9 ∧ pF 8 s 9 ≤ 12 := by
  rw [← wnd_one]
  have a1_2_0 := wnd_split 8 s 1 2 0 (by decide) (by decide) (by decide)
  simp only [sm, Nat.reduceMul, Nat.zero_mul, Nat.add_zero, Nat.zero_add] at a1_2_0
  have a2_2_0 := wnd_split 8 s 2 2 0 (by decide) (by decide) (by decide)
  simp only [sm, Nat.reduceMul, Nat.zero_mul, Nat.add_zero, Nat.zero_add] at a2_2_0
  have a2_2_1 := wnd_split 8 s 2 2 1 (by decide) (by decide) (by decide)
  simp only [sm, Nat.reduceMul, Nat.reduceAdd, Nat.zero_mul, Nat.add_zero, Nat.zero_add] at a2_2_1
  have a4_2_0 := wnd_split 8 s 4 2 0 (by decide) (by decide) (by decide)
  simp only [sm, Nat.reduceMul, Nat.zero_mul, Nat.add_zero, Nat.zero_add] at a4_2_0
  have a4_2_1 := wnd_split 8 s 4 2 1 (by decide) (by decide) (by decide)
  simp only [sm, Nat.reduceMul, Nat.reduceAdd, Nat.zero_mul, Nat.add_zero, Nat.zero_add] at a4_2_1
  have a4_2_2 := wnd_split 8 s 4 2 2 (by decide) (by decide) (by decide)
  simp only [sm, Nat.reduceMul, Nat.reduceAdd, Nat.zero_mul, Nat.add_zero, Nat.zero_add] at a4_2_2
  have a4_2_3 := wnd_split 8 s 4 2 3 (by decide) (by decide) (by decide)
  simp only [sm, Nat.reduceMul, Nat.reduceAdd, Nat.zero_mul, Nat.add_zero, Nat.zero_add] at a4_2_3
  have f0 : fcond 8 s 0 = false := by simp [fcond, pw]
  have f1 : fcond 8 s 1 = false := by simp [fcond, pw]
  have f3 : fcond 8 s 3 = false := by simp [fcond, pw]
  have f5 : fcond 8 s 5 = false := by simp [fcond, pw]
  have f6 : fcond 8 s 6 = false := by simp [fcond, pw]
  have f7 : fcond 8 s 7 = false := by simp [fcond, pw]
  have g2 : fcond 8 s 2 = true → wnd s 2 1 8 = wnd s 2 0 8 := fun h => by
    have h1 := (fac_iff 8 s 2 1).1 (fcond_fac h)
    exact h1 1 (by decide)
  have g4 : fcond 8 s 4 = true → wnd s 4 2 8 = wnd s 4 0 8 ∧ wnd s 4 3 8 = wnd s 4 1 8 := fun h => by
    have h1 := (fac_iff 8 s 4 2).1 (fcond_fac h)
    exact ⟨h1 2 (by decide), h1 3 (by decide)⟩
  have g8 : fcond 8 s 8 = true → wnd s 8 4 8 = wnd s 8 0 8 ∧ wnd s 8 5 8 = wnd s 8 1 8 ∧ wnd s 8 6 8 = wnd s 8 2 8 ∧ wnd s 8 7 8 = wnd s 8 3 8 := fun h => by
    have h1 := (fac_iff 8 s 8 4).1 (fcond_fac h)
    exact ⟨h1 4 (by decide), h1 5 (by decide), h1 6 (by decide), h1 7 (by decide)⟩
  have e0 : pF 8 s 0 = 1 := rfl
  have e1 := pF_no f0
  rw [e0] at e1
  have e2 := pF_no f1
  rw [e1] at e2
  cases c2 : fcond 8 s 2 with
  | false =>
    have e3 := pF_no c2
    rw [e2] at e3
    have e4 := pF_no f3
    rw [e3] at e4
    cases c4 : fcond 8 s 4 with
    | false =>
      have e5 := pF_no c4
      rw [e4] at e5
      have e6 := pF_no f5
      rw [e5] at e6
      have e7 := pF_no f6
      rw [e6] at e7
      have e8 := pF_no f7
      rw [e7] at e8
      cases c8 : fcond 8 s 8 with
      | false =>
        have e9 := pF_no c8
        rw [e8] at e9
        rw [e9]
        omega
      | true =>
        have e9 := pF_yes c8
        rw [e8, show lp 8 = 2 from rfl] at e9
        have b8 := g8 c8
        rw [e9]
        omega
    | true =>
      have e5 := pF_yes c4
      rw [e4, show lp 4 = 2 from rfl] at e5
      have b4 := g4 c4
      have e6 := pF_no f5
      rw [e5] at e6
      have e7 := pF_no f6
      rw [e6] at e7
      have e8 := pF_no f7
      rw [e7] at e8
      cases c8 : fcond 8 s 8 with
      | false =>
        have e9 := pF_no c8
        rw [e8] at e9
        rw [e9]
        omega
      | true =>
        have e9 := pF_yes c8
        rw [e8, show lp 8 = 2 from rfl] at e9
        have b8 := g8 c8
        rw [e9]
        omega
  | true =>
    have e3 := pF_yes c2
    rw [e2, show lp 2 = 2 from rfl] at e3
    have b2 := g2 c2
    have e4 := pF_no f3
    rw [e3] at e4
    cases c4 : fcond 8 s 4 with
    | false =>
      have e5 := pF_no c4
      rw [e4] at e5
      have e6 := pF_no f5
      rw [e5] at e6
      have e7 := pF_no f6
      rw [e6] at e7
      have e8 := pF_no f7
      rw [e7] at e8
      cases c8 : fcond 8 s 8 with
      | false =>
        have e9 := pF_no c8
        rw [e8] at e9
        rw [e9]
        omega
      | true =>
        have e9 := pF_yes c8
        rw [e8, show lp 8 = 2 from rfl] at e9
        have b8 := g8 c8
        rw [e9]
        omega
    | true =>
      have e5 := pF_yes c4
      rw [e4, show lp 4 = 2 from rfl] at e5
      have b4 := g4 c4
      have e6 := pF_no f5
      rw [e5] at e6
      have e7 := pF_no f6
      rw [e6] at e7
      have e8 := pF_no f7
      rw [e7] at e8
      cases c8 : fcond 8 s 8 with
      | false =>
        have e9 := pF_no c8
        rw [e8] at e9
        rw [e9]
        omega
      | true =>
        have e9 := pF_yes c8
        rw [e8, show lp 8 = 2 from rfl] at e9
        have b8 := g8 c8
        rw [e9]
        omega
theorem fac_prod_9 (s : Nat) : wt 9 s % pF 9 s 10 = 0 ∧ 1 ≤ pF 9 s 10 ∧ pF 9 s 10 ≤ 12 := by
  rw [← wnd_one]
  have a1_3_0 := wnd_split 9 s 1 3 0 (by decide) (by decide) (by decide)
  simp only [sm, Nat.reduceMul, Nat.zero_mul, Nat.add_zero, Nat.zero_add] at a1_3_0
  have a3_3_0 := wnd_split 9 s 3 3 0 (by decide) (by decide) (by decide)
  simp only [sm, Nat.reduceMul, Nat.zero_mul, Nat.add_zero, Nat.zero_add] at a3_3_0
  have a3_3_1 := wnd_split 9 s 3 3 1 (by decide) (by decide) (by decide)
  simp only [sm, Nat.reduceMul, Nat.reduceAdd, Nat.zero_mul, Nat.add_zero, Nat.zero_add] at a3_3_1
  have a3_3_2 := wnd_split 9 s 3 3 2 (by decide) (by decide) (by decide)
  simp only [sm, Nat.reduceMul, Nat.reduceAdd, Nat.zero_mul, Nat.add_zero, Nat.zero_add] at a3_3_2
  have f0 : fcond 9 s 0 = false := by simp [fcond, pw]
  have f1 : fcond 9 s 1 = false := by simp [fcond, pw]
  have f2 : fcond 9 s 2 = false := by simp [fcond, pw]
  have f4 : fcond 9 s 4 = false := by simp [fcond, pw]
  have f5 : fcond 9 s 5 = false := by simp [fcond, pw]
  have f6 : fcond 9 s 6 = false := by simp [fcond, pw]
  have f7 : fcond 9 s 7 = false := by simp [fcond, pw]
  have f8 : fcond 9 s 8 = false := by simp [fcond, pw]
  have g3 : fcond 9 s 3 = true → wnd s 3 1 9 = wnd s 3 0 9 ∧ wnd s 3 2 9 = wnd s 3 0 9 := fun h => by
    have h1 := (fac_iff 9 s 3 1).1 (fcond_fac h)
    exact ⟨h1 1 (by decide), h1 2 (by decide)⟩
  have g9 : fcond 9 s 9 = true → wnd s 9 3 9 = wnd s 9 0 9 ∧ wnd s 9 4 9 = wnd s 9 1 9 ∧ wnd s 9 5 9 = wnd s 9 2 9 ∧ wnd s 9 6 9 = wnd s 9 0 9 ∧ wnd s 9 7 9 = wnd s 9 1 9 ∧ wnd s 9 8 9 = wnd s 9 2 9 := fun h => by
    have h1 := (fac_iff 9 s 9 3).1 (fcond_fac h)
    exact ⟨h1 3 (by decide), h1 4 (by decide), h1 5 (by decide), h1 6 (by decide), h1 7 (by decide), h1 8 (by decide)⟩
  have e0 : pF 9 s 0 = 1 := rfl
  have e1 := pF_no f0
  rw [e0] at e1
  have e2 := pF_no f1
  rw [e1] at e2
  have e3 := pF_no f2
  rw [e2] at e3
  cases c3 : fcond 9 s 3 with
  | false =>
    have e4 := pF_no c3
    rw [e3] at e4
    have e5 := pF_no f4
    rw [e4] at e5
    have e6 := pF_no f5
    rw [e5] at e6
    have e7 := pF_no f6
    rw [e6] at e7
    have e8 := pF_no f7
    rw [e7] at e8
    have e9 := pF_no f8
    rw [e8] at e9
    cases c9 : fcond 9 s 9 with
    | false =>
      have e10 := pF_no c9
      rw [e9] at e10
      rw [e10]
      omega
    | true =>
      have e10 := pF_yes c9
      rw [e9, show lp 9 = 3 from rfl] at e10
      have b9 := g9 c9
      rw [e10]
      omega
  | true =>
    have e4 := pF_yes c3
    rw [e3, show lp 3 = 3 from rfl] at e4
    have b3 := g3 c3
    have e5 := pF_no f4
    rw [e4] at e5
    have e6 := pF_no f5
    rw [e5] at e6
    have e7 := pF_no f6
    rw [e6] at e7
    have e8 := pF_no f7
    rw [e7] at e8
    have e9 := pF_no f8
    rw [e8] at e9
    cases c9 : fcond 9 s 9 with
    | false =>
      have e10 := pF_no c9
      rw [e9] at e10
      rw [e10]
      omega
    | true =>
      have e10 := pF_yes c9
      rw [e9, show lp 9 = 3 from rfl] at e10
      have b9 := g9 c9
      rw [e10]
      omega
theorem fac_prod_10 (s : Nat) : wt 10 s % pF 10 s 11 = 0 ∧ 1 ≤ pF 10 s 11 ∧ pF 10 s 11 ≤ 12 := by
  rw [← wnd_one]
  have a1_2_0 := wnd_split 10 s 1 2 0 (by decide) (by decide) (by decide)
  simp only [sm, Nat.reduceMul, Nat.zero_mul, Nat.add_zero, Nat.zero_add] at a1_2_0
  have a1_5_0 := wnd_split 10 s 1 5 0 (by decide) (by decide) (by decide)
  simp only [sm, Nat.reduceMul, Nat.zero_mul, Nat.add_zero, Nat.zero_add] at a1_5_0
  have f0 : fcond 10 s 0 = false := by simp [fcond, pw]
  have f1 : fcond 10 s 1 = false := by simp [fcond, pw]
  have f3 : fcond 10 s 3 = false := by simp [fcond, pw]
  have f4 : fcond 10 s 4 = false := by simp [fcond, pw]
  have f6 : fcond 10 s 6 = false := by simp [fcond, pw]
  have f7 : fcond 10 s 7 = false := by simp [fcond, pw]
  have f8 : fcond 10 s 8 = false := by simp [fcond, pw]
  have f9 : fcond 10 s 9 = false := by simp [fcond, pw]
  have f10 : fcond 10 s 10 = false := by simp [fcond, pw]
  have g2 : fcond 10 s 2 = true → wnd s 2 1 10 = wnd s 2 0 10 := fun h => by
    have h1 := (fac_iff 10 s 2 1).1 (fcond_fac h)
    exact h1 1 (by decide)
  have g5 : fcond 10 s 5 = true → wnd s 5 1 10 = wnd s 5 0 10 ∧ wnd s 5 2 10 = wnd s 5 0 10 ∧ wnd s 5 3 10 = wnd s 5 0 10 ∧ wnd s 5 4 10 = wnd s 5 0 10 := fun h => by
    have h1 := (fac_iff 10 s 5 1).1 (fcond_fac h)
    exact ⟨h1 1 (by decide), h1 2 (by decide), h1 3 (by decide), h1 4 (by decide)⟩
  have e0 : pF 10 s 0 = 1 := rfl
  have e1 := pF_no f0
  rw [e0] at e1
  have e2 := pF_no f1
  rw [e1] at e2
  cases c2 : fcond 10 s 2 with
  | false =>
    have e3 := pF_no c2
    rw [e2] at e3
    have e4 := pF_no f3
    rw [e3] at e4
    have e5 := pF_no f4
    rw [e4] at e5
    cases c5 : fcond 10 s 5 with
    | false =>
      have e6 := pF_no c5
      rw [e5] at e6
      have e7 := pF_no f6
      rw [e6] at e7
      have e8 := pF_no f7
      rw [e7] at e8
      have e9 := pF_no f8
      rw [e8] at e9
      have e10 := pF_no f9
      rw [e9] at e10
      have e11 := pF_no f10
      rw [e10] at e11
      rw [e11]
      omega
    | true =>
      have e6 := pF_yes c5
      rw [e5, show lp 5 = 5 from rfl] at e6
      have b5 := g5 c5
      have e7 := pF_no f6
      rw [e6] at e7
      have e8 := pF_no f7
      rw [e7] at e8
      have e9 := pF_no f8
      rw [e8] at e9
      have e10 := pF_no f9
      rw [e9] at e10
      have e11 := pF_no f10
      rw [e10] at e11
      rw [e11]
      omega
  | true =>
    have e3 := pF_yes c2
    rw [e2, show lp 2 = 2 from rfl] at e3
    have b2 := g2 c2
    have e4 := pF_no f3
    rw [e3] at e4
    have e5 := pF_no f4
    rw [e4] at e5
    cases c5 : fcond 10 s 5 with
    | false =>
      have e6 := pF_no c5
      rw [e5] at e6
      have e7 := pF_no f6
      rw [e6] at e7
      have e8 := pF_no f7
      rw [e7] at e8
      have e9 := pF_no f8
      rw [e8] at e9
      have e10 := pF_no f9
      rw [e9] at e10
      have e11 := pF_no f10
      rw [e10] at e11
      rw [e11]
      omega
    | true =>
      have e6 := pF_yes c5
      rw [e5, show lp 5 = 5 from rfl] at e6
      have b5 := g5 c5
      have e7 := pF_no f6
      rw [e6] at e7
      have e8 := pF_no f7
      rw [e7] at e8
      have e9 := pF_no f8
      rw [e8] at e9
      have e10 := pF_no f9
      rw [e9] at e10
      have e11 := pF_no f10
      rw [e10] at e11
      rw [e11]
      omega
theorem fac_prod_11 (s : Nat) : wt 11 s % pF 11 s 12 = 0 ∧ 1 ≤ pF 11 s 12 ∧ pF 11 s 12 ≤ 12 := by
  rw [← wnd_one]
  have a1_11_0 := wnd_split 11 s 1 11 0 (by decide) (by decide) (by decide)
  simp only [sm, Nat.reduceMul, Nat.zero_mul, Nat.add_zero, Nat.zero_add] at a1_11_0
  have f0 : fcond 11 s 0 = false := by simp [fcond, pw]
  have f1 : fcond 11 s 1 = false := by simp [fcond, pw]
  have f2 : fcond 11 s 2 = false := by simp [fcond, pw]
  have f3 : fcond 11 s 3 = false := by simp [fcond, pw]
  have f4 : fcond 11 s 4 = false := by simp [fcond, pw]
  have f5 : fcond 11 s 5 = false := by simp [fcond, pw]
  have f6 : fcond 11 s 6 = false := by simp [fcond, pw]
  have f7 : fcond 11 s 7 = false := by simp [fcond, pw]
  have f8 : fcond 11 s 8 = false := by simp [fcond, pw]
  have f9 : fcond 11 s 9 = false := by simp [fcond, pw]
  have f10 : fcond 11 s 10 = false := by simp [fcond, pw]
  have g11 : fcond 11 s 11 = true → wnd s 11 1 11 = wnd s 11 0 11 ∧ wnd s 11 2 11 = wnd s 11 0 11 ∧ wnd s 11 3 11 = wnd s 11 0 11 ∧ wnd s 11 4 11 = wnd s 11 0 11 ∧ wnd s 11 5 11 = wnd s 11 0 11 ∧ wnd s 11 6 11 = wnd s 11 0 11 ∧ wnd s 11 7 11 = wnd s 11 0 11 ∧ wnd s 11 8 11 = wnd s 11 0 11 ∧ wnd s 11 9 11 = wnd s 11 0 11 ∧ wnd s 11 10 11 = wnd s 11 0 11 := fun h => by
    have h1 := (fac_iff 11 s 11 1).1 (fcond_fac h)
    exact ⟨h1 1 (by decide), h1 2 (by decide), h1 3 (by decide), h1 4 (by decide), h1 5 (by decide), h1 6 (by decide), h1 7 (by decide), h1 8 (by decide), h1 9 (by decide), h1 10 (by decide)⟩
  have e0 : pF 11 s 0 = 1 := rfl
  have e1 := pF_no f0
  rw [e0] at e1
  have e2 := pF_no f1
  rw [e1] at e2
  have e3 := pF_no f2
  rw [e2] at e3
  have e4 := pF_no f3
  rw [e3] at e4
  have e5 := pF_no f4
  rw [e4] at e5
  have e6 := pF_no f5
  rw [e5] at e6
  have e7 := pF_no f6
  rw [e6] at e7
  have e8 := pF_no f7
  rw [e7] at e8
  have e9 := pF_no f8
  rw [e8] at e9
  have e10 := pF_no f9
  rw [e9] at e10
  have e11 := pF_no f10
  rw [e10] at e11
  cases c11 : fcond 11 s 11 with
  | false =>
    have e12 := pF_no c11
    rw [e11] at e12
    rw [e12]
    omega
  | true =>
    have e12 := pF_yes c11
    rw [e11, show lp 11 = 11 from rfl] at e12
    have b11 := g11 c11
    rw [e12]
    omega
theorem fac_prod_12 (s : Nat) : wt 12 s % pF 12 s 13 = 0 ∧ 1 ≤ pF 12 s 13 ∧ pF 12 s 13 ≤ 12 := by
  rw [← wnd_one]
  have a1_2_0 := wnd_split 12 s 1 2 0 (by decide) (by decide) (by decide)
  simp only [sm, Nat.reduceMul, Nat.zero_mul, Nat.add_zero, Nat.zero_add] at a1_2_0
  have a1_3_0 := wnd_split 12 s 1 3 0 (by decide) (by decide) (by decide)
  simp only [sm, Nat.reduceMul, Nat.zero_mul, Nat.add_zero, Nat.zero_add] at a1_3_0
  have a2_2_0 := wnd_split 12 s 2 2 0 (by decide) (by decide) (by decide)
  simp only [sm, Nat.reduceMul, Nat.zero_mul, Nat.add_zero, Nat.zero_add] at a2_2_0
  have a2_2_1 := wnd_split 12 s 2 2 1 (by decide) (by decide) (by decide)
  simp only [sm, Nat.reduceMul, Nat.reduceAdd, Nat.zero_mul, Nat.add_zero, Nat.zero_add] at a2_2_1
  have f0 : fcond 12 s 0 = false := by simp [fcond, pw]
  have f1 : fcond 12 s 1 = false := by simp [fcond, pw]
  have f5 : fcond 12 s 5 = false := by simp [fcond, pw]
  have f6 : fcond 12 s 6 = false := by simp [fcond, pw]
  have f7 : fcond 12 s 7 = false := by simp [fcond, pw]
  have f8 : fcond 12 s 8 = false := by simp [fcond, pw]
  have f9 : fcond 12 s 9 = false := by simp [fcond, pw]
  have f10 : fcond 12 s 10 = false := by simp [fcond, pw]
  have f11 : fcond 12 s 11 = false := by simp [fcond, pw]
  have f12 : fcond 12 s 12 = false := by simp [fcond, pw]
  have g2 : fcond 12 s 2 = true → wnd s 2 1 12 = wnd s 2 0 12 := fun h => by
    have h1 := (fac_iff 12 s 2 1).1 (fcond_fac h)
    exact h1 1 (by decide)
  have g3 : fcond 12 s 3 = true → wnd s 3 1 12 = wnd s 3 0 12 ∧ wnd s 3 2 12 = wnd s 3 0 12 := fun h => by
    have h1 := (fac_iff 12 s 3 1).1 (fcond_fac h)
    exact ⟨h1 1 (by decide), h1 2 (by decide)⟩
  have g4 : fcond 12 s 4 = true → wnd s 4 2 12 = wnd s 4 0 12 ∧ wnd s 4 3 12 = wnd s 4 1 12 := fun h => by
    have h1 := (fac_iff 12 s 4 2).1 (fcond_fac h)
    exact ⟨h1 2 (by decide), h1 3 (by decide)⟩
  have e0 : pF 12 s 0 = 1 := rfl
  have e1 := pF_no f0
  rw [e0] at e1
  have e2 := pF_no f1
  rw [e1] at e2
  cases c2 : fcond 12 s 2 with
  | false =>
    have e3 := pF_no c2
    rw [e2] at e3
    cases c3 : fcond 12 s 3 with
    | false =>
      have e4 := pF_no c3
      rw [e3] at e4
      cases c4 : fcond 12 s 4 with
      | false =>
        have e5 := pF_no c4
        rw [e4] at e5
        have e6 := pF_no f5
        rw [e5] at e6
        have e7 := pF_no f6
        rw [e6] at e7
        have e8 := pF_no f7
        rw [e7] at e8
        have e9 := pF_no f8
        rw [e8] at e9
        have e10 := pF_no f9
        rw [e9] at e10
        have e11 := pF_no f10
        rw [e10] at e11
        have e12 := pF_no f11
        rw [e11] at e12
        have e13 := pF_no f12
        rw [e12] at e13
        rw [e13]
        omega
      | true =>
        have e5 := pF_yes c4
        rw [e4, show lp 4 = 2 from rfl] at e5
        have b4 := g4 c4
        have e6 := pF_no f5
        rw [e5] at e6
        have e7 := pF_no f6
        rw [e6] at e7
        have e8 := pF_no f7
        rw [e7] at e8
        have e9 := pF_no f8
        rw [e8] at e9
        have e10 := pF_no f9
        rw [e9] at e10
        have e11 := pF_no f10
        rw [e10] at e11
        have e12 := pF_no f11
        rw [e11] at e12
        have e13 := pF_no f12
        rw [e12] at e13
        rw [e13]
        omega
    | true =>
      have e4 := pF_yes c3
      rw [e3, show lp 3 = 3 from rfl] at e4
      have b3 := g3 c3
      cases c4 : fcond 12 s 4 with
      | false =>
        have e5 := pF_no c4
        rw [e4] at e5
        have e6 := pF_no f5
        rw [e5] at e6
        have e7 := pF_no f6
        rw [e6] at e7
        have e8 := pF_no f7
        rw [e7] at e8
        have e9 := pF_no f8
        rw [e8] at e9
        have e10 := pF_no f9
        rw [e9] at e10
        have e11 := pF_no f10
        rw [e10] at e11
        have e12 := pF_no f11
        rw [e11] at e12
        have e13 := pF_no f12
        rw [e12] at e13
        rw [e13]
        omega
      | true =>
        have e5 := pF_yes c4
        rw [e4, show lp 4 = 2 from rfl] at e5
        have b4 := g4 c4
        have e6 := pF_no f5
        rw [e5] at e6
        have e7 := pF_no f6
        rw [e6] at e7
        have e8 := pF_no f7
        rw [e7] at e8
        have e9 := pF_no f8
        rw [e8] at e9
        have e10 := pF_no f9
        rw [e9] at e10
        have e11 := pF_no f10
        rw [e10] at e11
        have e12 := pF_no f11
        rw [e11] at e12
        have e13 := pF_no f12
        rw [e12] at e13
        rw [e13]
        omega
  | true =>
    have e3 := pF_yes c2
    rw [e2, show lp 2 = 2 from rfl] at e3
    have b2 := g2 c2
    cases c3 : fcond 12 s 3 with
    | false =>
      have e4 := pF_no c3
      rw [e3] at e4
      cases c4 : fcond 12 s 4 with
      | false =>
        have e5 := pF_no c4
        rw [e4] at e5
        have e6 := pF_no f5
        rw [e5] at e6
        have e7 := pF_no f6
        rw [e6] at e7
        have e8 := pF_no f7
        rw [e7] at e8
        have e9 := pF_no f8
        rw [e8] at e9
        have e10 := pF_no f9
        rw [e9] at e10
        have e11 := pF_no f10
        rw [e10] at e11
        have e12 := pF_no f11
        rw [e11] at e12
        have e13 := pF_no f12
        rw [e12] at e13
        rw [e13]
        omega
      | true =>
        have e5 := pF_yes c4
        rw [e4, show lp 4 = 2 from rfl] at e5
        have b4 := g4 c4
        have e6 := pF_no f5
        rw [e5] at e6
        have e7 := pF_no f6
        rw [e6] at e7
        have e8 := pF_no f7
        rw [e7] at e8
        have e9 := pF_no f8
        rw [e8] at e9
        have e10 := pF_no f9
        rw [e9] at e10
        have e11 := pF_no f10
        rw [e10] at e11
        have e12 := pF_no f11
        rw [e11] at e12
        have e13 := pF_no f12
        rw [e12] at e13
        rw [e13]
        omega
    | true =>
      have e4 := pF_yes c3
      rw [e3, show lp 3 = 3 from rfl] at e4
      have b3 := g3 c3
      cases c4 : fcond 12 s 4 with
      | false =>
        have e5 := pF_no c4
        rw [e4] at e5
        have e6 := pF_no f5
        rw [e5] at e6
        have e7 := pF_no f6
        rw [e6] at e7
        have e8 := pF_no f7
        rw [e7] at e8
        have e9 := pF_no f8
        rw [e8] at e9
        have e10 := pF_no f9
        rw [e9] at e10
        have e11 := pF_no f10
        rw [e10] at e11
        have e12 := pF_no f11
        rw [e11] at e12
        have e13 := pF_no f12
        rw [e12] at e13
        rw [e13]
        omega
      | true =>
        have e5 := pF_yes c4
        rw [e4, show lp 4 = 2 from rfl] at e5
        have b4 := g4 c4
        have e6 := pF_no f5
        rw [e5] at e6
        have e7 := pF_no f6
        rw [e6] at e7
        have e8 := pF_no f7
        rw [e7] at e8
        have e9 := pF_no f8
        rw [e8] at e9
        have e10 := pF_no f9
        rw [e9] at e10
        have e11 := pF_no f10
        rw [e10] at e11
        have e12 := pF_no f11
        rw [e11] at e12
        have e13 := pF_no f12
        rw [e12] at e13
        rw [e13]
        omega
theorem fac_prod {n s : Nat} (h1 : 3 ≤ n) (h2 : n ≤ 12) (hs : s < 2 ^ n) : wt 12 s % prodF (factors n s) = 0 ∧ 1 ≤ prodF (factors n s) ∧ prodF (factors n s) ≤ 12 := by
  have hw := wt_low hs h2
  unfold factors
  rw [pF_eq, hw]
  rcases (show n = 3 ∨ n = 4 ∨ n = 5 ∨ n = 6 ∨ n = 7 ∨ n = 8 ∨ n = 9 ∨ n = 10 ∨ n = 11 ∨ n = 12 by omega) with rfl | rfl | rfl | rfl | rfl | rfl | rfl | rfl | rfl | rfl
  · exact fac_prod_3 s
  · exact fac_prod_4 s
  · exact fac_prod_5 s
  · exact fac_prod_6 s
  · exact fac_prod_7 s
  · exact fac_prod_8 s
  · exact fac_prod_9 s
  · exact fac_prod_10 s
  · exact fac_prod_11 s
  · exact fac_prod_12 s
end Go.Proofs.Ytgpbgbcdlebaiaa.Tic
