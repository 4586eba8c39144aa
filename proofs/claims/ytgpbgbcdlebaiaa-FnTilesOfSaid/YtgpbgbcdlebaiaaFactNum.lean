/-
  Plain mathematics of factors: powers of primes up to 12, and the rests of the tones. No program in sight.
-/
import Derived.Test.YtgpbgbcdlebaiaaTileNum
namespace Go.Proofs.Ytgpbgbcdlebaiaa.Tic
set_option linter.unusedVariables false

/-- the least prime that divides a number from 2 to 12 -/
def lp : Nat → Nat
  | 4 => 2 | 6 => 2 | 8 => 2 | 10 => 2 | 12 => 2 | 9 => 3
  | n => n
/-- is it a power of a prime -/
def pw : Nat → Bool
  | 2 => true | 3 => true | 4 => true | 5 => true | 7 => true | 8 => true | 9 => true | 11 => true
  | _ => false
theorem lp_dec : ∀ p : Fin 13, 2 ≤ p.val → 2 ≤ lp p ∧ lp p ≤ p ∧ p.val % lp p = 0 ∧ 1 ≤ p.val / lp p ∧ p.val / lp p ∣ p.val ∧ lp p * (p.val / lp p) = p := by decide
theorem lp_spec {p : Nat} (h1 : 2 ≤ p) (h2 : p ≤ 12) : 2 ≤ lp p ∧ lp p ≤ p ∧ p % lp p = 0 ∧ 1 ≤ p / lp p ∧ p / lp p ∣ p ∧ lp p * (p / lp p) = p := lp_dec ⟨p, by omega⟩ h1
/-- as many tones with each rest as with the others that are the same divided by a part -/
def fac (n s p d : Nat) : Bool := (List.range p).all fun r => wnd s p r n == wnd s p (r % d) n
theorem fac_iff (n s p d : Nat) : fac n s p d = true ↔ ∀ r, r < p → wnd s p r n = wnd s p (r % d) n := by
  simp [fac, List.all_eq_true]
/-- the condition of a factor -/
def fcond (n s k : Nat) : Bool := decide (2 ≤ k) && (n % k == 0 && (pw k && fac n s k (k / lp k)))
/-- the factors below k -/
def flTo (n s : Nat) : Nat → List Int
  | 0 => []
  | k + 1 => if fcond n s k then flTo n s k ++ [(k : Int)] else flTo n s k
theorem flTo_yes {n s k : Nat} (h : fcond n s k = true) : flTo n s (k + 1) = flTo n s k ++ [(k : Int)] := by conv => lhs; unfold flTo; rw [if_pos h]
theorem flTo_no {n s k : Nat} (h : fcond n s k = false) : flTo n s (k + 1) = flTo n s k := by conv => lhs; unfold flTo; rw [if_neg (by simp [h])]
theorem flTo_two (n s : Nat) : flTo n s 2 = [] := by
  rw [flTo_no (by simp [fcond]), flTo_no (by simp [fcond])]; rfl
theorem flTo_len (n s : Nat) : ∀ k, (flTo n s k).length ≤ k
  | 0 => Nat.le_refl _
  | k + 1 => by unfold flTo; have := flTo_len n s k; split <;> simp <;> omega
def factors (n s : Nat) : List Int := flTo n s (n + 1)
/-- the shift by the part leaves the numbers of the rests, exactly if it is a factor -/
theorem fac_shift {n p d : Nat} (h : 0 < n) (hn : n ≤ 12) (hd0 : 0 < d) (hdp : d ∣ p) (hp : 0 < p) (hpn : p ∣ n) (s : Nat) :
    (∀ r, r < 12 → wnd s p r n = wnd (shf n d s) p r n) ↔ fac n s p d = true := by
  rw [wnd_part h hn hd0 hdp hp hpn s, fac_iff]
  have := Nat.le_of_dvd h hpn
  exact ⟨fun h1 r hr => h1 r hr (by omega), fun h1 r hr _ => h1 r hr⟩
theorem wnd_next (s p r k : Nat) : wnd s p r (k + 1) = wnd s p r k + b2 (s.testBit k && k % p == r) := rfl
end Go.Proofs.Ytgpbgbcdlebaiaa.Tic
