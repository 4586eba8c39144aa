/-
  Plain mathematics of the laws of sets: weights, shifts back, others, common tones. No program in sight.
-/
import Derived.Test.YtmofhhffkppelaaQuad
namespace Go.Proofs.Ytmofhhffkppelaa.Tic
set_option linter.unusedVariables false

theorem gsum_shift (f : Nat → Nat) : ∀ k, gsum f (k + 1) = f 0 + gsum (fun x => f (x + 1)) k
  | 0 => by simp [gsum]
  | k + 1 => by rw [gsum_succ, gsum_shift f k, gsum_succ]; omega
theorem bx_zero (s : Nat) : bx s 0 = s % 2 := by
  unfold bx
  rw [Nat.testBit_zero]
  rcases Nat.mod_two_eq_zero_or_one s with h | h <;> simp [h]
theorem bx_succ (s x : Nat) : bx s (x + 1) = bx (s / 2) x := by unfold bx; rw [Nat.testBit_succ]
theorem wt_gsum : ∀ f s, wt f s = gsum (bx s) f
  | 0, _ => rfl
  | f + 1, s => by
    rw [gsum_shift, bx_zero]
    show s % 2 + wt f (s / 2) = _
    rw [wt_gsum f (s / 2), gsum_congr f (fun x _ => (bx_succ s x).symm)]
theorem bx_big {s n x : Nat} (h : s < 2 ^ n) (hx : n ≤ x) : bx s x = 0 := by
  unfold bx
  rw [Nat.testBit_lt_two_pow (Nat.lt_of_lt_of_le h (Nat.pow_le_pow_right (by omega) hx))]; rfl
theorem wt_n {s n : Nat} (h : s < 2 ^ n) (hn : n ≤ 12) : wt 12 s = gsum (bx s) n := by
  rw [wt_gsum, gsum_stop (f := bx s) (m := n) (fun x hx => bx_big h hx) 12 hn]
theorem wt_img {n s : Nat} (hs : s < 2 ^ n) (hn : n ≤ 12) (f : Nat → Nat) (hf : ∀ x, x < n → f x < n) (inj : ∀ x y, x < n → y < n → f x = f y → x = y) : wt 12 (img f s n) = wt 12 s := by
  rw [wt_n hs hn, wt_n (img_lt f s n n hf) hn]
  have := gsum_img n s f (fun _ => 1) hf inj n (Nat.le_refl _)
  simpa using this
theorem wt_shf {n s : Nat} (h0 : 0 < n) (hn : n ≤ 12) (hs : s < 2 ^ n) (t : Int) : wt 12 (shf n t s) = wt 12 s :=
  wt_img hs hn _ (fun x _ => mvd_lt h0 1 t x) (mvd_inj h0 1 t (.inl rfl))
theorem wt_tur {n s : Nat} (h0 : 0 < n) (hn : n ≤ 12) (hs : s < 2 ^ n) (t : Int) : wt 12 (tur n t s) = wt 12 s :=
  wt_img hs hn _ (fun x _ => mvd_lt h0 (-1) t x) (mvd_inj h0 (-1) t (.inr rfl))
theorem img_mod (n : Nat) (w t : Int) (s k : Nat) : img (mvd n w t) s k = img (mvd n w (t % (n : Int))) s k := img_congr _ _ _ _ fun x _ => mvd_mod n w t x
theorem shf_n {n s : Nat} (h : 0 < n) (hs : s < 2 ^ n) : shf n n s = s := by
  unfold shf
  rw [img_mod, Int.emod_self]
  exact shf_zero h hs
theorem shf_back {n s : Nat} (h : 0 < n) (hs : s < 2 ^ n) (t : Int) : shf n (-t) (shf n t s) = s := by
  rw [shf_shf h, show -t + t = 0 by omega, shf_zero h hs]
theorem tur_back {n s : Nat} (h : 0 < n) (hs : s < 2 ^ n) (t : Int) : tur n t (tur n t s) = s := by
  rw [tur_tur h, show t - t = 0 by omega, shf_zero h hs]

/-- the other tones -/
def oth (n s : Nat) : Nat := 2 ^ n - 1 - s
theorem oth_lt {n s : Nat} : oth n s < 2 ^ n := by unfold oth; have := Nat.two_pow_pos n; omega
theorem oth_bit {n s x : Nat} (hs : s < 2 ^ n) : (oth n s).testBit x = (decide (x < n) && !s.testBit x) := by
  unfold oth
  rw [Nat.sub_sub, Nat.add_comm 1 s]
  exact Nat.testBit_two_pow_sub_succ hs x
theorem oth_and {n s : Nat} (hs : s < 2 ^ n) : oth n s &&& s = 0 := by
  apply Nat.eq_of_testBit_eq
  intro x
  rw [Nat.testBit_and, oth_bit hs, Nat.zero_testBit]
  cases s.testBit x <;> simp
theorem bx_oth {n s x : Nat} (hs : s < 2 ^ n) (hx : x < n) : bx (oth n s) x + bx s x = 1 := by
  unfold bx
  rw [oth_bit hs]
  cases s.testBit x <;> simp [hx]
theorem wt_oth {n s : Nat} (hs : s < 2 ^ n) (hn : n ≤ 12) : wt 12 (oth n s) + wt 12 s = n := by
  rw [wt_n oth_lt hn, wt_n hs hn, ← gsum_add, gsum_congr (g := fun _ => 1) n (fun x hx => bx_oth hs hx)]
  have : ∀ k, gsum (fun _ => 1) k = k := fun k => by
    induction k with
    | zero => rfl
    | succ k ih => rw [gsum_succ, ih]
  exact this n

/-- a mixed sum over two sets -/
def M (n : Nat) (F : Nat → Nat → Nat) (s o : Nat) : Nat := gsum (fun x => gsum (fun y => F x y * (bx s x * bx o y)) n) n
theorem M_swap (n : Nat) (F : Nat → Nat → Nat) (s o : Nat) : M n F s o = M n (fun x y => F y x) o s := by
  unfold M
  rw [gsum_swap (fun x y => F x y * (bx s x * bx o y)) n n]
  refine gsum_congr n fun y _ => gsum_congr n fun x _ => ?_
  show F x y * (bx s x * bx o y) = F x y * (bx o y * bx s x)
  rw [Nat.mul_comm (bx s x)]
theorem M_row {n r : Nat} {F : Nat → Nat → Nat} {s o : Nat} (hs : ∀ x, x < n → bx o x + bx s x = 1) (hr : ∀ x, x < n → gsum (fun y => F x y) n = r) : M n F s s + M n F s o = r * gsum (bx s) n := by
  unfold M
  rw [← gsum_add, ← gsum_mul]
  refine gsum_congr n fun x hx => ?_
  rw [← gsum_add, ← hr x hx, Nat.mul_comm, ← gsum_mul]
  refine gsum_congr n fun y hy => ?_
  have := hs y hy
  show F x y * (bx s x * bx s y) + F x y * (bx s x * bx o y) = bx s x * F x y
  rw [← Nat.mul_add, ← Nat.mul_add, show bx s y + bx o y = 1 by omega, Nat.mul_one, Nat.mul_comm]
/-- both sides of a distance -/
def Ad (n d x y : Nat) : Nat := Ap n d x y + Ap n d y x
def rowsOk : Bool := (List.range 13).all fun n => (List.range (n / 2)).all fun d => (List.range n).all fun x => gsum (fun y => Ad n d x y) n == if 2 * (d + 1) = n then 1 else 2
theorem rowsOk_true : rowsOk = true := by decide +kernel
theorem Ad_row {n d x : Nat} (hn : n ≤ 12) (hd : d < n / 2) (hx : x < n) : gsum (fun y => Ad n d x y) n = if 2 * (d + 1) = n then 1 else 2 := by
  have hok := rowsOk_true
  unfold rowsOk at hok
  simp only [List.all_eq_true, List.mem_range, beq_iff_eq] at hok
  exact hok n (by omega) d hd x hx
theorem two_gAll (n s d : Nat) : 2 * gAll n s d = M n (Ad n d) s s := by
  have h : M n (Ad n d) s s = Q n (Ad n d) s := rfl
  have h2 : Q n (Ad n d) s = Q n (Ap n d) s + Q n (fun x y => Ap n d y x) s := Q_add n (Ap n d) (fun x y => Ap n d y x) s
  have e := Q_swap n (Ap n d) s
  rw [h, h2, gAll_Q]; omega
/-- gaps of others differ by the same -/
theorem gAll_oth {n s d : Nat} (hs : s < 2 ^ n) (hn : n ≤ 12) (hd : d < n / 2) :
    2 * gAll n (oth n s) d + (if 2 * (d + 1) = n then 1 else 2) * wt 12 s = 2 * gAll n s d + (if 2 * (d + 1) = n then 1 else 2) * wt 12 (oth n s) := by
  have e1 := M_row (F := Ad n d) (s := s) (o := oth n s) (fun x hx => bx_oth hs hx) (fun x hx => Ad_row hn hd hx)
  have e2 := M_row (F := Ad n d) (s := oth n s) (o := s) (fun x hx => by rw [Nat.add_comm]; exact bx_oth hs hx) (fun x hx => Ad_row hn hd hx)
  have e3 : M n (Ad n d) s (oth n s) = M n (Ad n d) (oth n s) s := by
    rw [M_swap]
    unfold M
    refine gsum_congr n fun x _ => gsum_congr n fun y _ => ?_
    show Ad n d y x * _ = _
    rw [show Ad n d y x = Ad n d x y from Nat.add_comm _ _]
  rw [two_gAll, two_gAll, wt_n hs hn, wt_n oth_lt hn, ← e1, ← e2, e3]
  omega

/-- common tones of a set and its shift -/
theorem wt_and_shf {n s : Nat} (hs : s < 2 ^ n) (h0 : 0 < n) (hn : n ≤ 12) (t : Int) : wt 12 (s &&& shf n t s) = Q n (fun z y => if mvd n 1 t z = y then 1 else 0) s := by
  have hl : s &&& shf n t s < 2 ^ n := Nat.and_lt_two_pow _ (shf_lt h0 t s)
  rw [wt_n hl hn]
  have e : ∀ x, bx (s &&& shf n t s) x = bx s x * bx (shf n t s) x := fun x => by
    unfold bx; rw [Nat.testBit_and]; cases s.testBit x <;> cases (shf n t s).testBit x <;> rfl
  rw [gsum_congr n (fun x _ => e x)]
  have := gsum_img n s (mvd n 1 t) (fun x => bx s x) (fun x _ => mvd_lt h0 1 t x) (mvd_inj h0 1 t (.inl rfl)) n (Nat.le_refl _)
  unfold shf
  rw [this]
  unfold Q
  refine gsum_congr n fun z _ => ?_
  have hz := mvd_lt h0 1 t z
  show bx s (mvd n 1 t z) * bx s z = gsum (fun y => (if mvd n 1 t z = y then 1 else 0) * (bx s z * bx s y)) n
  generalize mvd n 1 t z = y at hz
  have one : ∀ k, y < k → gsum (fun y' => (if y = y' then 1 else 0) * (bx s z * bx s y')) k = bx s z * bx s y := fun k => by
    induction k with
    | zero => omega
    | succ k ih =>
      intro hk
      rw [gsum_succ]
      by_cases h : y = k
      · subst h
        rw [if_pos rfl, gsum_congr (g := fun _ => 0) y (fun x hx => by rw [if_neg (by omega)]; omega), gsum_zero]; omega
      · rw [ih (by omega), if_neg h]; omega
  rw [one n hz, Nat.mul_comm]
def comOk : Bool := (List.range 13).all fun n => (List.range n).all fun t => (List.range n).all fun x => (List.range n).all fun y =>
  (t == 0) || ((if mvd n 1 t x = y then 1 else 0) + (if mvd n 1 t y = x then 1 else 0) == (if 2 * min t (n - t) = n then 2 else 1) * Ap n (min t (n - t) - 1) x y + (if 2 * min t (n - t) = n then 2 else 1) * Ap n (min t (n - t) - 1) y x)
theorem comOk_true : comOk = true := by decide +kernel
theorem common_gaps {n s T : Nat} (hs : s < 2 ^ n) (hn : n ≤ 12) (h0 : 0 < T) (hT : T < n) : wt 12 (s &&& shf n T s) = (if 2 * min T (n - T) = n then 2 else 1) * gAll n s (min T (n - T) - 1) := by
  rw [wt_and_shf hs (by omega) hn, gAll_Q]
  have e : (if 2 * min T (n - T) = n then 2 else 1) * Q n (Ap n (min T (n - T) - 1)) s = Q n (fun x y => (if 2 * min T (n - T) = n then 2 else 1) * Ap n (min T (n - T) - 1) x y) s := by
    unfold Q
    rw [← gsum_mul]
    refine gsum_congr n fun x _ => ?_
    rw [← gsum_mul]
    refine gsum_congr n fun y _ => ?_
    rw [Nat.mul_assoc]
  rw [e]
  refine Q_sym s fun x y hx hy => ?_
  have hok := comOk_true
  unfold comOk at hok
  simp only [List.all_eq_true, List.mem_range, Bool.or_eq_true, beq_iff_eq] at hok
  rcases hok n (by omega) T hT x hx y hy with h | h
  · omega
  · exact h

/-! ### the least of a kind -/
theorem shf_mod (n s : Nat) (t : Int) : shf n t s = shf n (t % (n : Int)) s := img_mod n 1 t s n
theorem tur_mod (n s : Nat) (t : Int) : tur n t s = tur n (t % (n : Int)) s := img_mod n (-1) t s n
theorem prm_le_shf {n : Nat} (h : 0 < n) (s : Nat) (t : Int) : prm n s ≤ shf n t s := by
  have h1 := Int.emod_nonneg t (b := (n : Int)) (by omega)
  have h2 := Int.emod_lt_of_pos t (b := (n : Int)) (by omega)
  obtain ⟨T, hT⟩ := Int.eq_ofNat_of_zero_le h1
  rw [shf_mod, hT]
  exact kTo_shf n s n T (by omega)
theorem prm_le_tur {n : Nat} (h : 0 < n) (s : Nat) (t : Int) : prm n s ≤ tur n t s := by
  have h1 := Int.emod_nonneg t (b := (n : Int)) (by omega)
  have h2 := Int.emod_lt_of_pos t (b := (n : Int)) (by omega)
  obtain ⟨T, hT⟩ := Int.eq_ofNat_of_zero_le h1
  rw [tur_mod, hT]
  exact kTo_tur n s n T (by omega)
theorem prm_mem {n s : Nat} (h : 0 < n) (hs : s < 2 ^ n) : ∃ t : Int, prm n s = shf n t s ∨ prm n s = tur n t s := by
  rcases kTo_mem n s n with e | ⟨t, _, e⟩
  · exact ⟨0, .inl (by rw [shf_zero h hs]; exact e)⟩
  · exact ⟨t, e⟩
theorem prm_shf {n s : Nat} (h : 0 < n) (hs : s < 2 ^ n) (u : Int) : prm n (shf n u s) = prm n s := by
  apply Nat.le_antisymm
  · obtain ⟨t, e | e⟩ := prm_mem h hs
    · rw [e]
      have := prm_le_shf h (shf n u s) (t - u)
      rw [shf_shf h, show t - u + u = t by omega] at this
      exact this
    · rw [e]
      have := prm_le_tur h (shf n u s) (t + u)
      rw [tur_shf h, show t + u - u = t by omega] at this
      exact this
  · obtain ⟨t, e | e⟩ := prm_mem h (shf_lt h u s)
    · rw [e, shf_shf h]; exact prm_le_shf h s _
    · rw [e, tur_shf h]; exact prm_le_tur h s _
theorem prm_tur {n s : Nat} (h : 0 < n) (hs : s < 2 ^ n) (u : Int) : prm n (tur n u s) = prm n s := by
  apply Nat.le_antisymm
  · obtain ⟨t, e | e⟩ := prm_mem h hs
    · rw [e]
      have := prm_le_tur h (tur n u s) (t + u)
      rw [tur_tur h, show t + u - u = t by omega] at this
      exact this
    · rw [e]
      have := prm_le_shf h (tur n u s) (t - u)
      rw [shf_tur h, show t - u + u = t by omega] at this
      exact this
  · obtain ⟨t, e | e⟩ := prm_mem h (tur_lt h u s)
    · rw [e, shf_tur h]; exact prm_le_tur h s _
    · rw [e, tur_tur h]; exact prm_le_shf h s _
theorem prm_prm {n s : Nat} (h : 0 < n) (hs : s < 2 ^ n) : prm n (prm n s) = prm n s := by
  obtain ⟨t, e | e⟩ := prm_mem h hs
  · conv => lhs; rw [e]
    exact prm_shf h hs t
  · conv => lhs; rw [e]
    exact prm_tur h hs t
theorem prm_gaps {n s : Nat} (h : 0 < n) (hn : n ≤ 12) (hs : s < 2 ^ n) : gapsOf n (prm n s) = gapsOf n s := by
  obtain ⟨t, e | e⟩ := prm_mem h hs
  · rw [e]; exact gaps_shf hn h t s
  · rw [e]; exact gaps_tur hn h t s
theorem prm_le {n s : Nat} : prm n s ≤ s := kTo_le n s n
theorem prm_wt {n s : Nat} (h : 0 < n) (hn : n ≤ 12) (hs : s < 2 ^ n) : wt 12 (prm n s) = wt 12 s := by
  obtain ⟨t, e | e⟩ := prm_mem h hs
  · rw [e]; exact wt_shf h hn hs t
  · rw [e]; exact wt_tur h hn hs t
/-- common tones of a set and any shift -/
theorem common_zero {n s : Nat} (h : 0 < n) (hs : s < 2 ^ n) {t : Int} (ht : t % (n : Int) = 0) : wt 12 (s &&& shf n t s) = wt 12 s := by
  rw [shf_mod, ht, shf_zero h hs, Nat.and_self]
theorem common_at {n s T : Nat} (hs : s < 2 ^ n) (hn : n ≤ 12) {t : Int} (ht : t % (n : Int) = T) (h0 : 0 < T) (hT : T < n) : wt 12 (s &&& shf n t s) = (if 2 * min T (n - T) = n then 2 else 1) * gAll n s (min T (n - T) - 1) := by
  rw [shf_mod, ht]; exact common_gaps hs hn h0 hT

/-! ### all pairs -/
theorem gsum_comm3 (f : Nat → Nat → Nat → Nat) (m n : Nat) : gsum (fun d => gsum (fun x => gsum (fun y => f d x y) n) n) m = gsum (fun x => gsum (fun y => gsum (fun d => f d x y) m) n) n := by
  rw [gsum_swap (fun d x => gsum (fun y => f d x y) n) n m]
  exact gsum_congr n fun x _ => gsum_swap (fun d y => f d x y) n m
def allOk : Bool := (List.range 13).all fun n => (List.range n).all fun x => (List.range n).all fun y => gsum (fun d => Ap n d x y) (n / 2) == if x < y then 1 else 0
theorem allOk_true : allOk = true := by decide +kernel
theorem gaps_total {n s : Nat} (hs : s < 2 ^ n) (hn : n ≤ 12) : 2 * gsum (gAll n s) (n / 2) + wt 12 s = wt 12 s * wt 12 s := by
  have e : gsum (gAll n s) (n / 2) = Q n (fun x y => if x < y then 1 else 0) s := by
    rw [gsum_congr (n / 2) (fun d _ => gAll_Q n s d)]
    unfold Q
    rw [gsum_comm3 (fun d x y => Ap n d x y * (bx s x * bx s y))]
    refine gsum_congr n fun x hx => gsum_congr n fun y hy => ?_
    have hok := allOk_true
    unfold allOk at hok
    simp only [List.all_eq_true, List.mem_range, beq_iff_eq] at hok
    show _ = (if x < y then 1 else 0) * (bx s x * bx s y)
    rw [← hok n (by omega) x hx y hy]
    rw [gsum_congr (g := fun d => (bx s x * bx s y) * Ap n d x y) (n / 2) (fun d _ => Nat.mul_comm _ _), gsum_mul, Nat.mul_comm]
  have h2 : Q n (fun x y => if x < y then 1 else 0) s + Q n (fun x y => if x < y then 1 else 0) s + Q n (fun x y => if x = y then 1 else 0) s = Q n (fun _ _ => 1) s := by
    conv => lhs; lhs; rhs; rw [Q_swap]
    rw [← Q_add, ← Q_add]
    refine Q_congr s fun x y _ _ => ?_
    rcases Nat.lt_trichotomy x y with h | h | h
    · rw [if_pos h, if_neg (by omega), if_neg (by omega)]
    · subst h; simp
    · rw [if_neg (by omega), if_pos h, if_neg (by omega)]
  have h3 : Q n (fun _ _ => 1) s = wt 12 s * wt 12 s := by
    rw [wt_n hs hn]
    unfold Q
    rw [gsum_congr (g := fun x => gsum (bx s) n * bx s x) n (fun x _ => by
      rw [gsum_congr (g := fun y => bx s x * bx s y) n (fun y _ => Nat.one_mul _), gsum_mul, Nat.mul_comm]), gsum_mul]
  have h4 : Q n (fun x y => if x = y then 1 else 0) s = wt 12 s := by
    rw [wt_n hs hn]
    unfold Q
    refine gsum_congr n fun x hx => ?_
    have one : ∀ k, x < k → gsum (fun y => (if x = y then 1 else 0) * (bx s x * bx s y)) k = bx s x := fun k => by
      induction k with
      | zero => omega
      | succ k ih =>
        intro hk
        rw [gsum_succ]
        by_cases h : x = k
        · subst h
          rw [if_pos rfl, gsum_congr (g := fun _ => 0) x (fun z hz => by rw [if_neg (by omega)]; omega), gsum_zero]
          unfold bx; cases s.testBit x <;> rfl
        · rw [ih (by omega), if_neg h]; omega
    exact one n hx
  omega
end Go.Proofs.Ytmofhhffkppelaa.Tic
