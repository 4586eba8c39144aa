/-
  Plain mathematics of how often a prime divides a number, and of the powers of a ratio. No program in sight.
-/
import Derived.Test.YtlbmjpkkomdhhaaDoorTuneNum
namespace Go.Proofs.YtlbmjpkkomdhhaaDoor.Tic

/-- how often p divides x, and what is left -/
def vpF (p : Nat) : Nat → Nat → Nat
  | 0, _ => 0
  | f + 1, x => if x % p = 0 then vpF p f (x / p) + 1 else 0
def lfF (p : Nat) : Nat → Nat → Nat
  | 0, x => x
  | f + 1, x => if x % p = 0 then lfF p f (x / p) else x
theorem half_lt {p x f : Nat} (hp : 2 ≤ p) (h : x < 2 ^ (f + 1)) : x / p < 2 ^ f := by
  have h1 : x / p ≤ x / 2 := Nat.div_le_div_left hp (by decide)
  rw [Nat.pow_succ] at h
  omega
theorem quot_pos {p x : Nat} (hp : 2 ≤ p) (h0 : 0 < x) (hd : x % p = 0) : 0 < x / p := Nat.div_pos (Nat.le_of_dvd h0 (Nat.dvd_of_mod_eq_zero hd)) (by omega)
theorem vp_fuel {p : Nat} (hp : 2 ≤ p) : ∀ f g x, 0 < x → x < 2 ^ f → x < 2 ^ g → vpF p f x = vpF p g x ∧ lfF p f x = lfF p g x
  | 0, _, x, h0, h1, _ => by simp at h1; omega
  | _ + 1, 0, x, h0, _, h2 => by simp at h2; omega
  | f + 1, g + 1, x, h0, h1, h2 => by
    unfold vpF lfF
    by_cases hd : x % p = 0
    · obtain ⟨e1, e2⟩ := vp_fuel hp f g (x / p) (quot_pos hp h0 hd) (half_lt hp h1) (half_lt hp h2)
      rw [if_pos hd, if_pos hd, if_pos hd, if_pos hd, e1, e2]; exact ⟨rfl, rfl⟩
    · rw [if_neg hd, if_neg hd, if_neg hd, if_neg hd]; exact ⟨rfl, rfl⟩
def vp (p x : Nat) : Nat := vpF p 20 x
def lf (p x : Nat) : Nat := lfF p 20 x
/-- a number whose powers are told -/
def Num (x : Nat) : Prop := 0 < x ∧ x ≤ 1000000
theorem Num.quot {p x : Nat} (hp : 2 ≤ p) (h : Num x) (hd : x % p = 0) : Num (x / p) := ⟨quot_pos hp h.1 hd, Nat.le_trans (Nat.div_le_self _ _) h.2⟩
theorem vp_yes {p x : Nat} (hp : 2 ≤ p) (h : Num x) (hd : x % p = 0) : vp p x = vp p (x / p) + 1 ∧ lf p x = lf p (x / p) := by
  obtain ⟨h0, h1⟩ := h
  have h2 : x < 2 ^ 20 := by omega
  obtain ⟨e1, e2⟩ := vp_fuel hp 19 20 (x / p) (quot_pos hp h0 hd) (half_lt hp h2) (Nat.lt_of_le_of_lt (Nat.div_le_self _ _) h2)
  unfold vp lf
  rw [← e1, ← e2]
  constructor
  · conv => lhs; unfold vpF; rw [if_pos hd]
  · conv => lhs; unfold lfF; rw [if_pos hd]
theorem vp_no {p x : Nat} (hd : ¬ x % p = 0) : vp p x = 0 ∧ lf p x = x := by
  unfold vp lf vpF lfF
  rw [if_neg hd, if_neg hd]; exact ⟨rfl, rfl⟩
theorem lf_num {p : Nat} (hp : 2 ≤ p) : ∀ k x, vp p x = k → Num x → Num (lf p x) ∧ ¬ lf p x % p = 0 ∧ x = p ^ k * lf p x ∧ k ≤ 19
  | 0, x, hk, h => by
    by_cases hd : x % p = 0
    · have := (vp_yes hp h hd).1; omega
    · rw [(vp_no hd).2]; exact ⟨h, hd, by simp, by decide⟩
  | k + 1, x, hk, h => by
    by_cases hd : x % p = 0
    · obtain ⟨e1, e2⟩ := vp_yes hp h hd
      obtain ⟨i1, i2, i3, i4⟩ := lf_num hp k (x / p) (by omega) (h.quot hp hd)
      rw [e2]
      have h3 : x = p ^ (k + 1) * lf p (x / p) := by
        rw [Nat.pow_succ, Nat.mul_comm (p ^ k), Nat.mul_assoc, ← i3]
        exact (Nat.mul_div_cancel' (Nat.dvd_of_mod_eq_zero hd)).symm
      refine ⟨i1, i2, h3, ?_⟩
      have h4 : 2 ^ (k + 1) ≤ p ^ (k + 1) := Nat.pow_le_pow_left hp _
      have h5 : p ^ (k + 1) * 1 ≤ p ^ (k + 1) * lf p (x / p) := Nat.mul_le_mul_left _ i1.1
      have h6 := h.2
      rcases Nat.lt_or_ge (k + 1) 20 with h7 | h7
      · omega
      · have : 2 ^ 20 ≤ 2 ^ (k + 1) := Nat.pow_le_pow_right (by decide) h7
        omega
    · have := (vp_no (p := p) hd).1; omega
/-- a number is so often p, times what p does not divide -/
theorem vp_of {p : Nat} (hp : 2 ≤ p) : ∀ k m, Num (p ^ k * m) → ¬ m % p = 0 → vp p (p ^ k * m) = k ∧ lf p (p ^ k * m) = m
  | 0, m, _, hm => by rw [Nat.pow_zero, Nat.one_mul]; exact vp_no hm
  | k + 1, m, h, hm => by
    have e : p ^ (k + 1) * m = p * (p ^ k * m) := by rw [Nat.pow_succ, Nat.mul_comm (p ^ k), Nat.mul_assoc]
    have hd : p ^ (k + 1) * m % p = 0 := by rw [e]; exact Nat.mul_mod_right _ _
    have hq : p ^ (k + 1) * m / p = p ^ k * m := by rw [e]; exact Nat.mul_div_cancel_left _ (by omega)
    obtain ⟨e1, e2⟩ := vp_yes hp h hd
    have h2 := h.quot hp hd
    rw [hq] at e1 e2 h2
    obtain ⟨i1, i2⟩ := vp_of hp k m h2 hm
    exact ⟨by rw [e1, i1], by rw [e2, i2]⟩

/-- the powers of 2, 3 and 5 in a number, and what is left -/
def v2 (x : Nat) : Nat := vp 2 x
def v3 (x : Nat) : Nat := vp 3 (lf 2 x)
def v5 (x : Nat) : Nat := vp 5 (lf 3 (lf 2 x))
def lft (x : Nat) : Nat := lf 5 (lf 3 (lf 2 x))
theorem num_parts {x : Nat} (h : Num x) : Num (lf 2 x) ∧ Num (lf 3 (lf 2 x)) ∧ 0 < lft x ∧ lft x ≤ 1000000 ∧ x = 2 ^ v2 x * (3 ^ v3 x * (5 ^ v5 x * lft x)) ∧ v2 x ≤ 19 ∧ v3 x ≤ 19 ∧ v5 x ≤ 19 := by
  obtain ⟨a1, a2, a3, a4⟩ := lf_num (p := 2) (by decide) _ x rfl h
  obtain ⟨b1, b2, b3, b4⟩ := lf_num (p := 3) (by decide) _ _ rfl a1
  obtain ⟨c1, c2, c3, c4⟩ := lf_num (p := 5) (by decide) _ _ rfl b1
  refine ⟨a1, b1, c1.1, c1.2, ?_, a4, b4, c4⟩
  unfold v2 v3 v5 lft
  rw [← c3, ← b3, ← a3]
/-- the powers that PowersOf tells -/
def pwa (up down : Nat) : Int := (v2 up : Int) - v2 down
def pwb (up down : Nat) : Int := (v3 up : Int) - v3 down
def pwc (up down : Nat) : Int := (v5 up : Int) - v5 down
/-- there are some -/
def Told (up down : Nat) : Prop := lft up = lft down ∧ Pws (pwa up down) (pwb up down) (pwc up down)
instance (up down : Nat) : Decidable (Told up down) := by unfold Told; infer_instance

theorem pow_max (p x y : Nat) : p ^ ((x : Int) - y).toNat * p ^ y = p ^ (-((x : Int) - y)).toNat * p ^ x := by
  rw [← Nat.pow_add, ← Nat.pow_add]; congr 1; omega
theorem told_cross {up down : Nat} (h1 : Num up) (h2 : Num down) (ht : lft up = lft down) :
    rup (pwa up down) (pwb up down) (pwc up down) * down = rdn (pwa up down) (pwb up down) (pwc up down) * up ∧
    rup (pwa up down) (pwb up down) (pwc up down) ≤ up ∧ rdn (pwa up down) (pwb up down) (pwc up down) ≤ down := by
  obtain ⟨_, _, l1, _, e1, _⟩ := num_parts h1
  obtain ⟨_, _, l2, _, e2, _⟩ := num_parts h2
  unfold rup rdn pwa pwb pwc
  rw [ht] at e1
  generalize v2 up = x2 at *
  generalize v3 up = x3 at *
  generalize v5 up = x5 at *
  generalize v2 down = y2 at *
  generalize v3 down = y3 at *
  generalize v5 down = y5 at *
  generalize lft down = L at *
  subst e1 e2
  have r : ∀ A B C a b c : Nat, A * B * C * (a * (b * (c * L))) = (A * a) * ((B * b) * ((C * c) * L)) := fun A B C a b c => by simp only [Nat.mul_comm, Nat.mul_left_comm]
  refine ⟨?_, ?_, ?_⟩
  · rw [r, r, pow_max, pow_max, pow_max]
  · have i1 : 2 ^ ((x2 : Int) - y2).toNat ≤ 2 ^ x2 := pow_le (by decide) (by omega)
    have i2 : 3 ^ ((x3 : Int) - y3).toNat ≤ 3 ^ x3 := pow_le (by decide) (by omega)
    have i3 : 5 ^ ((x5 : Int) - y5).toNat ≤ 5 ^ x5 * L := Nat.le_trans (pow_le (by decide) (by omega)) (Nat.le_mul_of_pos_right _ l2)
    rw [Nat.mul_assoc]
    exact Nat.mul_le_mul i1 (Nat.mul_le_mul i2 i3)
  · have i1 : 2 ^ (-((x2 : Int) - y2)).toNat ≤ 2 ^ y2 := pow_le (by decide) (by omega)
    have i2 : 3 ^ (-((x3 : Int) - y3)).toNat ≤ 3 ^ y3 := pow_le (by decide) (by omega)
    have i3 : 5 ^ (-((x5 : Int) - y5)).toNat ≤ 5 ^ y5 * L := Nat.le_trans (pow_le (by decide) (by omega)) (Nat.le_mul_of_pos_right _ l2)
    rw [Nat.mul_assoc]
    exact Nat.mul_le_mul i1 (Nat.mul_le_mul i2 i3)

theorem pow_odd (p q : Nat) (h : p % q = 1) (hq : 1 < q) : ∀ k, p ^ k % q = 1
  | 0 => Nat.mod_eq_of_lt hq
  | k + 1 => by rw [Nat.pow_succ, Nat.mul_mod, pow_odd p q h hq k, h]; simp [Nat.mod_eq_of_lt hq]
theorem five_mod3 : ∀ k, ¬ 5 ^ k % 3 = 0
  | 0 => by decide
  | k + 1 => by have := five_mod3 k; rw [Nat.pow_succ]; omega
theorem vs_of {a b c : Nat} (h : Num (2 ^ a * 3 ^ b * 5 ^ c)) : v2 (2 ^ a * 3 ^ b * 5 ^ c) = a ∧ v3 (2 ^ a * 3 ^ b * 5 ^ c) = b ∧ v5 (2 ^ a * 3 ^ b * 5 ^ c) = c ∧ lft (2 ^ a * 3 ^ b * 5 ^ c) = 1 := by
  rw [Nat.mul_assoc] at h ⊢
  have o1 : ¬ 3 ^ b * 5 ^ c % 2 = 0 := by rw [Nat.mul_mod, pow_odd 3 2 rfl (by decide), pow_odd 5 2 rfl (by decide)]; decide
  obtain ⟨e1, e2⟩ := vp_of (p := 2) (by decide) a (3 ^ b * 5 ^ c) h o1
  have h2 : Num (3 ^ b * 5 ^ c) := by have := (lf_num (p := 2) (by decide) _ _ rfl h).1; rwa [e2] at this
  obtain ⟨f1, f2⟩ := vp_of (p := 3) (by decide) b (5 ^ c) h2 (five_mod3 c)
  have h3 : Num (5 ^ c * 1) := by have := (lf_num (p := 3) (by decide) _ _ rfl h2).1; rwa [f2, ← Nat.mul_one (5 ^ c)] at this
  obtain ⟨g1, g2⟩ := vp_of (p := 5) (by decide) c 1 h3 (by decide)
  rw [Nat.mul_one] at g1 g2
  unfold v2 v3 v5 lft
  rw [e2, f2]
  exact ⟨e1, f1, g1, g2⟩
theorem told_rup {a b c : Int} (h1 : Num (rup a b c)) (h2 : Num (rdn a b c)) : lft (rup a b c) = lft (rdn a b c) ∧ pwa (rup a b c) (rdn a b c) = a ∧ pwb (rup a b c) (rdn a b c) = b ∧ pwc (rup a b c) (rdn a b c) = c := by
  obtain ⟨a1, a2, a3, a4⟩ := vs_of h1
  obtain ⟨b1, b2, b3, b4⟩ := vs_of h2
  unfold pwa pwb pwc
  have e : ∀ x y z : Int, rup x y z = 2 ^ x.toNat * 3 ^ y.toNat * 5 ^ z.toNat := fun _ _ _ => rfl
  have e2 : ∀ x y z : Int, rdn x y z = 2 ^ (-x).toNat * 3 ^ (-y).toNat * 5 ^ (-z).toNat := fun _ _ _ => rfl
  rw [e, e2, a1, a2, a3, a4, b1, b2, b3, b4]
  refine ⟨rfl, ?_, ?_, ?_⟩ <;> omega
end Go.Proofs.YtlbmjpkkomdhhaaDoor.Tic
