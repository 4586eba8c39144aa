/-
  Plain mathematics of ratios of powers of 2, 3 and 5: their numbers, the octave that they lie in, steps of octaves. No program in sight.
-/
import Derived.WalkKit
namespace Go.Proofs.YtpcbplademohnaaDoor.Tic

/-- the upper number of a ratio -/
def rup (a b c : Int) : Nat := 2 ^ a.toNat * 3 ^ b.toNat * 5 ^ c.toNat
/-- the lower number of a ratio -/
def rdn (a b c : Int) : Nat := 2 ^ (-a).toNat * 3 ^ (-b).toNat * 5 ^ (-c).toNat
theorem rdn_neg (a b c : Int) : rdn a b c = rup (-a) (-b) (-c) := rfl
theorem rup_neg (a b c : Int) : rup a b c = rdn (-a) (-b) (-c) := by unfold rup rdn; simp
/-- powers within the limits -/
def Pws (a b c : Int) : Prop := -24 ≤ a ∧ a ≤ 24 ∧ -12 ≤ b ∧ b ≤ 12 ∧ -6 ≤ c ∧ c ≤ 6
instance (a b c : Int) : Decidable (Pws a b c) := by unfold Pws; infer_instance
theorem Pws.neg {a b c : Int} (h : Pws a b c) : Pws (-a) (-b) (-c) := by unfold Pws at *; omega

theorem pow_le {x k m : Nat} (hx : 0 < x) (h : k ≤ m) : x ^ k ≤ x ^ m := Nat.pow_le_pow_right hx h
theorem rup_pos (a b c : Int) : 0 < rup a b c :=
  Nat.mul_pos (Nat.mul_pos (Nat.pow_pos (by decide)) (Nat.pow_pos (by decide))) (Nat.pow_pos (by decide))
theorem rdn_pos (a b c : Int) : 0 < rdn a b c := rup_pos _ _ _
/-- with powers of 2 up to m -/
theorem rup_le {a b c : Int} {m : Nat} (ha : a ≤ m) (hb : b ≤ 12) (hc : c ≤ 6) : rup a b c ≤ 2 ^ m * 8303765625 := by
  unfold rup
  have h1 : 2 ^ a.toNat ≤ 2 ^ m := pow_le (by decide) (by omega)
  have h2 : 3 ^ b.toNat ≤ 3 ^ 12 := pow_le (by decide) (by omega)
  have h3 : 5 ^ c.toNat ≤ 5 ^ 6 := pow_le (by decide) (by omega)
  have h4 := Nat.mul_le_mul (Nat.mul_le_mul h1 h2) h3
  rwa [Nat.mul_assoc (2 ^ m)] at h4
theorem rdn_le {a b c : Int} {m : Nat} (ha : -(m : Int) ≤ a) (hb : -12 ≤ b) (hc : -6 ≤ c) : rdn a b c ≤ 2 ^ m * 8303765625 := rup_le (by omega) (by omega) (by omega)
theorem Pws.rup_lt {a b c : Int} (h : Pws a b c) : rup a b c < 144115188075855872 := by
  have h0 := rup_le (a := a) (b := b) (c := c) (m := 24) (by have := h.2.1; omega) h.2.2.2.1 h.2.2.2.2.2
  generalize hm : 2 ^ 24 * 8303765625 = M at h0
  have h1 : M < 144115188075855872 := by rw [← hm]; decide +kernel
  omega
theorem Pws.rdn_lt {a b c : Int} (h : Pws a b c) : rdn a b c < 144115188075855872 := h.neg.rup_lt

/-- U : D as many octaves up that the ratio lies in the octave from 1 to 2 -/
def octOf (U D : Nat) : Int := if D ≤ U then -((Nat.log2 (U / D) : Nat) : Int) else ((Nat.log2 ((D - 1) / U) : Nat) : Int) + 1
def oct (b c : Int) : Int := octOf (rup 0 b c) (rdn 0 b c)

/-- k octaves up, U : D is at least 1 and less than 2 -/
def In8 (U D : Nat) (k : Int) : Prop := 2 ^ (-k).toNat * D ≤ 2 ^ k.toNat * U ∧ 2 ^ k.toNat * U < 2 * (2 ^ (-k).toNat * D)
instance (U D : Nat) (k : Int) : Decidable (In8 U D k) := by unfold In8; infer_instance
theorem oct_tab : ∀ b : Fin 25, ∀ c : Fin 13, In8 (rup 0 ((b.val : Int) - 12) ((c.val : Int) - 6)) (rdn 0 ((b.val : Int) - 12) ((c.val : Int) - 6)) (oct ((b.val : Int) - 12) ((c.val : Int) - 6)) ∧ -32 ≤ oct ((b.val : Int) - 12) ((c.val : Int) - 6) ∧ oct ((b.val : Int) - 12) ((c.val : Int) - 6) ≤ 33 := by decide +kernel
/-- powers of 3 and 5 within the limits -/
def P35 (b c : Int) : Prop := -12 ≤ b ∧ b ≤ 12 ∧ -6 ≤ c ∧ c ≤ 6
theorem Pws.p35 {a b c : Int} (h : Pws a b c) : P35 b c := ⟨h.2.2.1, h.2.2.2.1, h.2.2.2.2.1, h.2.2.2.2.2⟩
theorem oct_spec {b c : Int} (h : P35 b c) : In8 (rup 0 b c) (rdn 0 b c) (oct b c) ∧ -32 ≤ oct b c ∧ oct b c ≤ 33 := by
  obtain ⟨h1, h2, h3, h4⟩ := h
  have := oct_tab ⟨(b + 12).toNat, by omega⟩ ⟨(c + 6).toNat, by omega⟩
  simp only at this
  rw [show (((b + 12).toNat : Nat) : Int) - 12 = b by omega, show (((c + 6).toNat : Nat) : Int) - 6 = c by omega] at this
  exact this

theorem rup_two (a b c : Int) : rup a b c = 2 ^ a.toNat * rup 0 b c := by unfold rup; simp [Nat.mul_assoc]
theorem rdn_two (a b c : Int) : rdn a b c = 2 ^ (-a).toNat * rdn 0 b c := by unfold rdn; simp [Nat.mul_assoc]

/-- below the octave exactly if further octaves up are asked -/
theorem in8_lt {U D : Nat} {o : Int} (h : In8 U D o) (k : Int) : 2 ^ k.toNat * U < 2 ^ (-k).toNat * D ↔ k < o := by
  obtain ⟨h1, h2⟩ := h
  have key : ∀ x y z t : Nat, 2 ^ x * (2 ^ y * z) = 2 ^ (x + y) * z ∧ 2 ^ t * (2 ^ y * z) = 2 ^ (t + y) * z := fun x y z t => by constructor <;> rw [← Nat.mul_assoc, ← Nat.pow_add]
  constructor
  · intro hlt
    rcases Int.lt_or_le k o with h | h
    · exact h
    · exfalso
      -- o ≤ k: 2^k U * 2^(-o) ≥ 2^o U 2^(-k) ..
      have e1 : (-k).toNat + o.toNat ≤ k.toNat + (-o).toNat := by omega
      have a1 : 2 ^ (-o).toNat * (2 ^ k.toNat * U) < 2 ^ (-o).toNat * (2 ^ (-k).toNat * D) := Nat.mul_lt_mul_of_pos_left hlt (Nat.pow_pos (by decide))
      have a2 : 2 ^ (-k).toNat * (2 ^ (-o).toNat * D) ≤ 2 ^ (-k).toNat * (2 ^ o.toNat * U) := Nat.mul_le_mul_left _ h1
      rw [(key _ _ _ 0).1, (key _ _ _ 0).1] at a1 a2
      have a3 : 2 ^ ((-k).toNat + o.toNat) * U ≤ 2 ^ ((-o).toNat + k.toNat) * U := Nat.mul_le_mul_right _ (pow_le (by decide) (by omega))
      rw [Nat.add_comm (-o).toNat (-k).toNat] at a1
      omega
  · intro h
    have e1 : k.toNat + (-o).toNat + 1 ≤ (-k).toNat + o.toNat := by omega
    have hp : 0 < 2 ^ o.toNat := Nat.pow_pos (by decide)
    have a1 : 2 ^ k.toNat * (2 ^ o.toNat * U) < 2 ^ k.toNat * (2 * (2 ^ (-o).toNat * D)) := Nat.mul_lt_mul_of_pos_left h2 (Nat.pow_pos (by decide))
    have a2 : 2 ^ k.toNat * (2 * (2 ^ (-o).toNat * D)) = 2 ^ (k.toNat + (-o).toNat + 1) * D := by
      rw [Nat.pow_succ, Nat.pow_add]; simp only [Nat.mul_comm, Nat.mul_left_comm]
    have a3 : 2 ^ (k.toNat + (-o).toNat + 1) * D ≤ 2 ^ ((-k).toNat + o.toNat) * D := Nat.mul_le_mul_right _ (pow_le (by decide) e1)
    have a4 : 2 ^ ((-k).toNat + o.toNat) * D = 2 ^ o.toNat * (2 ^ (-k).toNat * D) := by
      rw [Nat.pow_add]; simp only [Nat.mul_comm, Nat.mul_left_comm]
    have a5 : 2 ^ k.toNat * (2 ^ o.toNat * U) = 2 ^ o.toNat * (2 ^ k.toNat * U) := by simp only [Nat.mul_left_comm]
    have a6 : 2 ^ o.toNat * (2 ^ k.toNat * U) < 2 ^ o.toNat * (2 ^ (-k).toNat * D) := by omega
    exact Nat.lt_of_mul_lt_mul_left a6
/-- above the octave exactly if fewer octaves up are asked -/
theorem in8_ge {U D : Nat} {o : Int} (h : In8 U D o) (k : Int) : 2 * (2 ^ (-k).toNat * D) ≤ 2 ^ k.toNat * U ↔ o < k := by
  have key : (2 ^ (k - 1).toNat * U < 2 ^ (-(k - 1)).toNat * D) ↔ 2 ^ k.toNat * U < 2 * (2 ^ (-k).toNat * D) := by
    by_cases hk : 1 ≤ k
    · rw [show (-(k - 1)).toNat = 0 by omega, show (-k).toNat = 0 by omega, show k.toNat = (k - 1).toNat + 1 by omega, Nat.pow_succ]
      rw [show 2 ^ (k - 1).toNat * 2 * U = 2 * (2 ^ (k - 1).toNat * U) by simp only [Nat.mul_comm, Nat.mul_left_comm]]
      omega
    · rw [show (k - 1).toNat = 0 by omega, show k.toNat = 0 by omega, show (-(k - 1)).toNat = (-k).toNat + 1 by omega, Nat.pow_succ]
      rw [show 2 ^ (-k).toNat * 2 * D = 2 * (2 ^ (-k).toNat * D) by simp only [Nat.mul_comm, Nat.mul_left_comm]]
  have := in8_lt h (k - 1)
  rw [key] at this
  constructor
  · intro h1
    rcases Int.lt_or_le o k with h2 | h2
    · exact h2
    · have := this.2 (by omega); omega
  · intro h1
    rcases Nat.lt_or_ge (2 ^ k.toNat * U) (2 * (2 ^ (-k).toNat * D)) with h2 | h2
    · have := this.1 h2; omega
    · exact h2

theorem oct_lt {b c : Int} (h : P35 b c) (k : Int) : rup k b c < rdn k b c ↔ k < oct b c := by
  rw [rup_two, rdn_two]; exact in8_lt (oct_spec h).1 k
theorem oct_ge {b c : Int} (h : P35 b c) (k : Int) : 2 * rdn k b c ≤ rup k b c ↔ oct b c < k := by
  rw [rup_two, rdn_two]; exact in8_ge (oct_spec h).1 k
/-- on the way to the octave the numbers stay small -/
theorem way_lt {b c : Int} (h : P35 b c) {k : Int} (h1 : k ≤ 24 ∨ k ≤ oct b c) : rup k b c < 1152921504606846976 := by
  rcases h1 with h1 | h1
  · have := rup_le (a := k) (b := b) (c := c) (m := 24) (by omega) h.2.1 h.2.2.2
    omega
  · by_cases hk : k ≤ 24
    · have := rup_le (a := k) (b := b) (c := c) (m := 24) (by omega) h.2.1 h.2.2.2
      omega
    · have h2 := (oct_lt h (k - 1)).2 (by omega)
      have h3 := rdn_le (a := k - 1) (b := b) (c := c) (m := 0) (by omega) h.1 h.2.2.1
      have h4 : rup k b c = 2 * rup (k - 1) b c := by
        rw [rup_two, rup_two (k - 1), show k.toNat = (k - 1).toNat + 1 by omega, Nat.pow_succ]
        simp only [Nat.mul_assoc, Nat.mul_comm]
      omega
theorem yaw_lt {b c : Int} (h : P35 b c) {k : Int} (h1 : -24 ≤ k ∨ oct b c ≤ k) : rdn k b c < 1152921504606846976 := by
  by_cases hk : -24 ≤ k
  · have := rdn_le (a := k) (b := b) (c := c) (m := 24) (by omega) h.1 h.2.2.1
    omega
  · have h0 : oct b c ≤ k := by omega
    have h2 := (oct_ge h (k + 1)).2 (by omega)
    have h3 := rup_le (a := k + 1) (b := b) (c := c) (m := 0) (by omega) h.2.1 h.2.2.2
    have h4 : rdn k b c = 2 * rdn (k + 1) b c := by
      rw [rdn_two, rdn_two (k + 1), show (-k).toNat = (-(k + 1)).toNat + 1 by omega, Nat.pow_succ]
      simp only [Nat.mul_assoc, Nat.mul_comm]
    omega

/-- the number of steps of an octave of n that are nearest to p -/
def stp (p n : Nat) : Nat := (Nat.log2 (p ^ (2 * n)) + 1) / 2
theorem stp_tab : ∀ n : Fin 13, ∀ k : Fin 29, 0 < n.val → (2 ^ (2 * k.val + 1) < 3 ^ (2 * n.val) ↔ k.val < stp 3 n.val) ∧ (2 ^ (2 * k.val + 1) < 5 ^ (2 * n.val) ↔ k.val < stp 5 n.val) := by decide +kernel
theorem stp_bd : ∀ n : Fin 13, stp 3 n.val ≤ 19 ∧ stp 5 n.val ≤ 28 ∧ 3 ^ (2 * n.val) ≤ 2 ^ 39 ∧ 5 ^ (2 * n.val) ≤ 2 ^ 57 := by decide +kernel
theorem stp_lt {p n k : Nat} (hp : p = 3 ∨ p = 5) (h0 : 0 < n) (hn : n ≤ 12) (hk : k ≤ 28) : (2 ^ (2 * k + 1) < p ^ (2 * n)) ↔ k < stp p n := by
  have := stp_tab ⟨n, by omega⟩ ⟨k, by omega⟩ h0
  rcases hp with rfl | rfl
  · exact this.1
  · exact this.2
theorem stp_le {p n : Nat} (hp : p = 3 ∨ p = 5) (hn : n ≤ 12) : stp p n ≤ 28 ∧ p ^ (2 * n) ≤ 2 ^ 57 := by
  have := stp_bd ⟨n, by omega⟩
  rcases hp with rfl | rfl
  · exact ⟨by have := this.1; simp only at this; omega, Nat.le_trans this.2.2.1 (by decide)⟩
  · exact ⟨this.2.1, this.2.2.2⟩
theorem stp3_le {n : Nat} (hn : n ≤ 12) : stp 3 n ≤ 19 := (stp_bd ⟨n, by omega⟩).1
end Go.Proofs.YtpcbplademohnaaDoor.Tic
