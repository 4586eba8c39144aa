/-
  Plain mathematics of near sets: one tone a step away; the program's list, sorted, is the model's.
-/
import Derived.Test.YtgpbgbcdlebaiaaMath
import Derived.Test.YtgpbgbcdlebaiaaSorted
namespace Go.Proofs.Ytgpbgbcdlebaiaa.Tic

/-- the bits of a that are not in b -/
def nd (a b : Nat) : Nat := a ^^^ (a &&& b)
theorem nd_bit (a b i : Nat) : (nd a b).testBit i = (a.testBit i && !b.testBit i) := by
  unfold nd
  rw [Nat.testBit_xor, Nat.testBit_and]
  cases a.testBit i <;> cases b.testBit i <;> rfl
theorem nd_le (a b : Nat) : nd a b ≤ a := by
  refine Nat.le_of_testBit ?_
  intro i hi
  rw [nd_bit] at hi
  revert hi
  cases a.testBit i <;> simp
theorem nd_lt {a b n : Nat} (h : a < n) : nd a b < n := Nat.lt_of_le_of_lt (nd_le a b) h

def up (n x : Nat) : Nat := if x + 1 = n then 0 else x + 1
def dn (n x : Nat) : Nat := if x = 0 then n - 1 else x - 1
theorem up_lt {n x : Nat} (h : x < n) : up n x < n := by unfold up; split <;> omega
theorem dn_lt {n x : Nat} (h : x < n) : dn n x < n := by unfold dn; split <;> omega
theorem up_emod {n x : Nat} (h : x < n) : (((x : Int) + 1) % (n : Int)).toNat = up n x := by
  unfold up
  split
  · rename_i e
    have : (x : Int) + 1 = n := by omega
    rw [this, Int.emod_self]; rfl
  · rw [Int.emod_eq_of_lt (by omega) (by omega)]; omega
theorem dn_emod {n x : Nat} (h : x < n) : (((x : Int) - 1) % (n : Int)).toNat = dn n x := by
  unfold dn
  split
  · rename_i e
    subst e
    have : ((0 : Nat) : Int) - 1 = ((n : Int) - 1) + n * (-1) := by omega
    rw [this, Int.add_mul_emod_self_left, Int.emod_eq_of_lt (by omega) (by omega)]; omega
  · rw [Int.emod_eq_of_lt (by omega) (by omega)]; omega
theorem up_dn {n x y : Nat} (hx : x < n) (hy : y < n) : x = up n y ↔ y = dn n x := by
  unfold up dn
  constructor <;> intro h <;> split at h <;> split <;> omega
theorem up_ne_dn {n x : Nat} (h3 : 3 ≤ n) (_ : x < n) : up n x ≠ dn n x := by
  unfold up dn
  split <;> split <;> omega
theorem mvd_up {n x : Nat} (h : x < n) : mvd n 1 1 x = up n x := by
  unfold mvd
  rw [← up_emod h]
  congr 2
  omega

theorem wt_nought : ∀ f v, v < 2 ^ f → wt f v = 0 → v = 0
  | 0, v, h, _ => by simp at h; omega
  | f + 1, v, h, e => by
    unfold wt at e
    have := wt_nought f (v / 2) (by rw [Nat.pow_succ] at h; omega) (by omega)
    omega
theorem wt_one : ∀ f v, v < 2 ^ f → wt f v = 1 → ∃ i, i < f ∧ v = 2 ^ i
  | 0, v, h, e => by simp [wt] at e
  | f + 1, v, h, e => by
    unfold wt at e
    rw [Nat.pow_succ] at h
    rcases (show v % 2 = 1 ∨ v % 2 = 0 by omega) with h1 | h1
    · have := wt_nought f (v / 2) (by omega) (by omega)
      exact ⟨0, by omega, by rw [Nat.pow_zero]; omega⟩
    · obtain ⟨i, hi, e2⟩ := wt_one f (v / 2) (by omega) (by omega)
      exact ⟨i + 1, by omega, by rw [Nat.pow_succ]; omega⟩
theorem wt_pow : ∀ i, i < 12 → wt 12 (2 ^ i) = 1 := by decide +kernel
theorem pow_inj2 {i j : Nat} (h : 2 ^ i = 2 ^ j) : i = j := by
  have : (2 ^ i).testBit j = true := by rw [h, Nat.testBit_two_pow]; simp
  rw [Nat.testBit_two_pow] at this
  exact of_decide_eq_true this
theorem shf_pow {n x : Nat} (h : x < n) : shf n 1 (2 ^ x) = 2 ^ up n x := by
  refine Nat.eq_of_testBit_eq fun i => ?_
  have := img_testBit (mvd n 1 1) (2 ^ x) i n
  rw [Nat.testBit_two_pow]
  cases hc : (shf n 1 (2 ^ x)).testBit i with
  | true =>
    obtain ⟨x', h1, h2, h3⟩ := this.1 hc
    rw [Nat.testBit_two_pow] at h2
    have h4 := of_decide_eq_true h2
    subst h4
    rw [mvd_up h] at h3
    simp [h3]
  | false =>
    by_cases e : up n x = i
    · have h5 : (shf n 1 (2 ^ x)).testBit i = true := this.2 ⟨x, h, by rw [Nat.testBit_two_pow]; simp, by rw [mvd_up h]; exact e⟩
      rw [h5] at hc; cases hc
    · simp [e]

/-- S with the tone x moved to y -/
def mv1 (S x y : Nat) : Nat := nd S (2 ^ x) ||| 2 ^ y
theorem mv1_bit (S x y i : Nat) : (mv1 S x y).testBit i = ((S.testBit i && !decide (x = i)) || decide (y = i)) := by
  unfold mv1
  rw [Nat.testBit_or, nd_bit, Nat.testBit_two_pow, Nat.testBit_two_pow]
theorem mv1_out {S x y : Nat} (hx : S.testBit x = true) (hy : S.testBit y = false) : nd S (mv1 S x y) = 2 ^ x := by
  refine Nat.eq_of_testBit_eq fun i => ?_
  rw [nd_bit, mv1_bit, Nat.testBit_two_pow]
  by_cases e1 : x = i
  · subst e1
    have : y ≠ x := by rintro rfl; rw [hx] at hy; cases hy
    simp [hx, this]
  · by_cases e2 : y = i
    · subst e2; simp [hy, e1]
    · simp [e1, e2]
theorem mv1_in {S x y : Nat} (_ : S.testBit x = true) (hy : S.testBit y = false) : nd (mv1 S x y) S = 2 ^ y := by
  refine Nat.eq_of_testBit_eq fun i => ?_
  rw [nd_bit, mv1_bit, Nat.testBit_two_pow]
  by_cases e2 : y = i
  · subst e2; simp [hy]
  · cases S.testBit i <;> simp [e2]
theorem mv1_of {S m x y : Nat} (h1 : nd S m = 2 ^ x) (h2 : nd m S = 2 ^ y) : S.testBit x = true ∧ S.testBit y = false ∧ m.testBit y = true ∧ m = mv1 S x y := by
  have b1 : ∀ i, (S.testBit i && !m.testBit i) = decide (x = i) := fun i => by rw [← nd_bit, h1, Nat.testBit_two_pow]
  have b2 : ∀ i, (m.testBit i && !S.testBit i) = decide (y = i) := fun i => by rw [← nd_bit, h2, Nat.testBit_two_pow]
  have hx := b1 x
  have hy := b2 y
  simp at hx hy
  refine ⟨hx.1, hy.2, hy.1, Nat.eq_of_testBit_eq fun i => ?_⟩
  rw [mv1_bit]
  have c1 := b1 i
  have c2 := b2 i
  by_cases e1 : x = i <;> by_cases e2 : y = i <;> simp [e1, e2] at c1 c2 ⊢
  · rw [c1.1] at c2; simp at c2
  · exact c1.2
  · exact c2.1
  · revert c1 c2
    cases S.testBit i <;> cases m.testBit i <;> simp
theorem mv1_lt {S x y n : Nat} (hS : S < 2 ^ n) (hy : y < n) : mv1 S x y < 2 ^ n :=
  Nat.or_lt_two_pow (nd_lt hS) (Nat.pow_lt_pow_right (by omega) hy)

/-- the model's test -/
def isNear (n S m : Nat) : Bool := decide (wt 12 (nd S m) = 1 ∧ wt 12 (nd m S) = 1 ∧ (shf n 1 (nd S m) = nd m S ∨ shf n 1 (nd m S) = nd S m))
theorem isNear_iff {n S m : Nat} (h12 : n ≤ 12) (hS : S < 2 ^ n) (hm : m < 2 ^ n) :
    isNear n S m = true ↔ ∃ x y, x < n ∧ y < n ∧ S.testBit x = true ∧ S.testBit y = false ∧ (y = up n x ∨ y = dn n x) ∧ m = mv1 S x y := by
  have h2 : 2 ^ n ≤ 2 ^ 12 := Nat.pow_le_pow_right (by omega) h12
  constructor
  · intro h
    obtain ⟨h3, h4, h5⟩ := of_decide_eq_true h
    obtain ⟨x, _, e1⟩ := wt_one 12 _ (Nat.lt_of_lt_of_le (nd_lt hS) h2) h3
    obtain ⟨y, _, e2⟩ := wt_one 12 _ (Nat.lt_of_lt_of_le (nd_lt hm) h2) h4
    obtain ⟨hx, hy, hmy, e⟩ := mv1_of e1 e2
    have hxn : x < n := by
      have := Nat.ge_two_pow_of_testBit hx
      exact (Nat.pow_lt_pow_iff_right (by omega : 1 < 2)).1 (Nat.lt_of_le_of_lt this hS)
    have hyn : y < n := by
      have := Nat.ge_two_pow_of_testBit hmy
      exact (Nat.pow_lt_pow_iff_right (by omega : 1 < 2)).1 (Nat.lt_of_le_of_lt this hm)
    refine ⟨x, y, hxn, hyn, hx, hy, ?_, e⟩
    rw [e1, e2, shf_pow hxn, shf_pow hyn] at h5
    rcases h5 with h5 | h5
    · exact .inl (pow_inj2 h5).symm
    · exact .inr ((up_dn hxn hyn).1 (pow_inj2 h5).symm)
  · rintro ⟨x, y, hxn, hyn, hx, hy, h5, rfl⟩
    unfold isNear
    rw [mv1_out hx hy, mv1_in hx hy, wt_pow x (by omega), wt_pow y (by omega), shf_pow hxn, shf_pow hyn]
    refine decide_eq_true ⟨rfl, rfl, ?_⟩
    rcases h5 with rfl | h5
    · exact .inl rfl
    · exact .inr (by rw [← (up_dn hxn hyn).2 h5])

/-- the near sets below m, ascending -/
def nearTo (n S : Nat) : Nat → List Int
  | 0 => []
  | m + 1 => if isNear n S m then nearTo n S m ++ [(m : Int)] else nearTo n S m
theorem nearTo_le (n S : Nat) : ∀ m, (nearTo n S m).length ≤ m
  | 0 => Nat.le_refl _
  | m + 1 => by unfold nearTo; have := nearTo_le n S m; split <;> simp <;> omega
theorem nearTo_yes {n S m : Nat} (h : isNear n S m = true) : nearTo n S (m + 1) = nearTo n S m ++ [(m : Int)] := by conv => lhs; unfold nearTo; rw [if_pos h]
theorem nearTo_no {n S m : Nat} (h : isNear n S m = false) : nearTo n S (m + 1) = nearTo n S m := by conv => lhs; unfold nearTo; rw [if_neg (by simp [h])]
theorem nearTo_mem (n S : Nat) (v : Int) : ∀ k, (v ∈ nearTo n S k ↔ ∃ m : Nat, m < k ∧ isNear n S m = true ∧ v = (m : Int))
  | 0 => by simp [nearTo]
  | k + 1 => by
    have ih := nearTo_mem n S v k
    cases h : isNear n S k
    · rw [nearTo_no h, ih]
      constructor
      · rintro ⟨m, h1, h2, h3⟩; exact ⟨m, by omega, h2, h3⟩
      · rintro ⟨m, h1, h2, h3⟩
        by_cases e : m = k
        · subst e; rw [h] at h2; cases h2
        · exact ⟨m, by omega, h2, h3⟩
    · rw [nearTo_yes h, List.mem_append, ih]
      constructor
      · rintro (⟨m, h1, h2, h3⟩ | h1)
        · exact ⟨m, by omega, h2, h3⟩
        · exact ⟨k, by omega, h, by simpa using h1⟩
      · rintro ⟨m, h1, h2, h3⟩
        by_cases e : m = k
        · subst e; exact .inr (by simp [h3])
        · exact .inl ⟨m, by omega, h2, h3⟩
theorem nearTo_asc (n S : Nat) : ∀ k, (nearTo n S k).Pairwise (· < ·)
  | 0 => List.Pairwise.nil
  | k + 1 => by
    have ih := nearTo_asc n S k
    cases h : isNear n S k
    · rw [nearTo_no h]; exact ih
    · rw [nearTo_yes h, List.pairwise_append]
      refine ⟨ih, List.pairwise_singleton _ _, fun a ha b hb => ?_⟩
      obtain ⟨m, h1, _, rfl⟩ := (nearTo_mem n S a k).1 ha
      simp at hb
      omega

/-- what the program adds for the tone x: the one below, then the one above -/
def near1 (n S x : Nat) : List Int :=
  (if S.testBit (dn n x) then [] else [(mv1 S x (dn n x) : Int)]) ++ (if S.testBit (up n x) then [] else [(mv1 S x (up n x) : Int)])
theorem near1_le (n S x : Nat) : (near1 n S x).length ≤ 2 := by
  unfold near1; split <;> split <;> simp
/-- .. for the tones below k -/
def nearL (n S : Nat) : Nat → List Int
  | 0 => []
  | k + 1 => if S.testBit k then nearL n S k ++ near1 n S k else nearL n S k
theorem nearL_le (n S : Nat) : ∀ k, (nearL n S k).length ≤ 2 * k
  | 0 => Nat.le_refl _
  | k + 1 => by unfold nearL; have := nearL_le n S k; have := near1_le n S k; split <;> simp <;> omega
theorem near1_mem {n S x : Nat} {v : Int} : v ∈ near1 n S x ↔ ∃ y, S.testBit y = false ∧ (y = up n x ∨ y = dn n x) ∧ v = (mv1 S x y : Int) := by
  unfold near1
  rw [List.mem_append]
  constructor
  · rintro (h | h) <;> split at h <;> simp at h
    · rename_i e; exact ⟨dn n x, by simpa using e, .inr rfl, h⟩
    · rename_i e; exact ⟨up n x, by simpa using e, .inl rfl, h⟩
  · rintro ⟨y, h1, rfl | rfl, rfl⟩
    · right; simp [h1]
    · left; simp [h1]
theorem nearL_mem (n S : Nat) (v : Int) : ∀ k, (v ∈ nearL n S k ↔ ∃ x y : Nat, x < k ∧ S.testBit x = true ∧ S.testBit y = false ∧ (y = up n x ∨ y = dn n x) ∧ v = (mv1 S x y : Int))
  | 0 => by simp [nearL]
  | k + 1 => by
    have ih := nearL_mem n S v k
    unfold nearL
    split
    · rename_i hb
      rw [List.mem_append, ih, near1_mem]
      constructor
      · rintro (⟨x, y, h1, h2⟩ | ⟨y, h1⟩)
        · exact ⟨x, y, by omega, h2⟩
        · exact ⟨k, y, by omega, hb, h1⟩
      · rintro ⟨x, y, h1, h2, h3⟩
        by_cases e : x = k
        · subst e; exact .inr ⟨y, h3⟩
        · exact .inl ⟨x, y, by omega, h2, h3⟩
    · rename_i hb
      rw [ih]
      constructor
      · rintro ⟨x, y, h1, h2⟩; exact ⟨x, y, by omega, h2⟩
      · rintro ⟨x, y, h1, h2, h3⟩
        by_cases e : x = k
        · subst e; exact absurd h2 hb
        · exact ⟨x, y, by omega, h2, h3⟩
theorem mv1_inj {S x y x' y' : Nat} (hx : S.testBit x = true) (hy : S.testBit y = false) (hx' : S.testBit x' = true) (hy' : S.testBit y' = false) (e : mv1 S x y = mv1 S x' y') : x = x' ∧ y = y' := by
  have h1 := mv1_out hx hy
  have h2 := mv1_in hx hy
  rw [e] at h1 h2
  rw [mv1_out hx' hy'] at h1
  rw [mv1_in hx' hy'] at h2
  exact ⟨(pow_inj2 h1).symm, (pow_inj2 h2).symm⟩
theorem nearL_nodup {n S : Nat} (h3 : 3 ≤ n) : ∀ k, k ≤ n → (nearL n S k).Nodup
  | 0, _ => List.nodup_nil
  | k + 1, hk => by
    have ih := nearL_nodup (S := S) h3 k (by omega)
    unfold nearL
    split
    · rename_i hb
      rw [List.nodup_append]
      refine ⟨ih, ?_, ?_⟩
      · unfold near1
        split <;> split <;> simp
        rename_i e1 e2
        intro e
        exact up_ne_dn h3 (by omega) (mv1_inj hb (by simpa using e1) hb (by simpa using e2) (Int.ofNat.inj e)).2.symm
      · intro a ha b hb2 e
        subst e
        obtain ⟨x, y, h1, h2, h3, _, rfl⟩ := (nearL_mem n S a k).1 ha
        obtain ⟨y', h4, _, e⟩ := near1_mem.1 hb2
        have := (mv1_inj h2 h3 hb h4 (Int.ofNat.inj e)).1
        omega
    · exact ih
theorem near_sorted {n S : Nat} (h3 : 3 ≤ n) (h12 : n ≤ 12) (hS : S < 2 ^ n) : ((nearL n S n).mergeSort fun x y => decide (x ≤ y)) = nearTo n S (2 ^ n) := by
  refine sort_eq (nearL_nodup h3 n (Nat.le_refl _)) (nearTo_asc _ _ _) fun v => ?_
  rw [nearL_mem, nearTo_mem]
  constructor
  · rintro ⟨x, y, hx, h1, h2, h4, rfl⟩
    have hy : y < n := by
      rcases h4 with rfl | rfl
      · exact up_lt hx
      · exact dn_lt hx
    exact ⟨_, mv1_lt hS hy, (isNear_iff h12 hS (mv1_lt hS hy)).2 ⟨x, y, hx, hy, h1, h2, h4, rfl⟩, rfl⟩
  · rintro ⟨m, hm, h, rfl⟩
    obtain ⟨x, y, hx, hy, h1, h2, h4, rfl⟩ := (isNear_iff h12 hS hm).1 h
    exact ⟨x, y, hx, h1, h2, h4, rfl⟩

end Go.Proofs.Ytgpbgbcdlebaiaa.Tic
