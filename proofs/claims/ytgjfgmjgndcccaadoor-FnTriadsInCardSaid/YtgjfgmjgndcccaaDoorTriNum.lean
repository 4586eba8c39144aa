/-
  Plain mathematics of triads as numbers from 0 to 23: the three steps, shifts, words of steps. No program in sight.
-/
import Derived.WalkKit
import Derived.Test.YtgjfgmjgndcccaaDoorMath
namespace Go.Proofs.YtgjfgmjgndcccaaDoor.Tic
set_option linter.unusedVariables false

/-- a triad -/
def Tri (t : Int) : Prop := 0 ≤ t ∧ t < 24
/-- the triad of the other shape, a above the root of one that is not low, a below that of a low one -/
def acr (t a : Int) : Int := if t % 2 = 1 then 2 * ((t / 2 - a) % 12) else 2 * ((t / 2 + a) % 12) + 1
/-- the triad behind the step of a letter -/
def stp (t : Int) (c : Nat) : Int := if c = 76 then acr t 4 else if c = 80 then acr t 0 else acr t (-3)
/-- a letter of a step -/
def Ltr (c : Nat) : Prop := c = 76 ∨ c = 80 ∨ c = 82

theorem acr_tri (t a : Int) : Tri (acr t a) := by
  have h1 := Int.emod_nonneg (t / 2 - a) (b := 12) (by omega)
  have h2 := Int.emod_lt_of_pos (t / 2 - a) (b := 12) (by omega)
  have h3 := Int.emod_nonneg (t / 2 + a) (b := 12) (by omega)
  have h4 := Int.emod_lt_of_pos (t / 2 + a) (b := 12) (by omega)
  unfold acr Tri
  split <;> omega
theorem stp_tri (t : Int) (c : Nat) : Tri (stp t c) := by
  unfold stp
  split
  · exact acr_tri _ _
  · split <;> exact acr_tri _ _
theorem tri_nat {t : Int} (h : Tri t) : ∃ n : Nat, n < 24 ∧ t = n := ⟨t.toNat, by have := h.1; have := h.2; omega, by have := h.1; omega⟩
/-- what holds of all 24 holds of a triad -/
theorem tri_all {P : Int → Prop} (H : ∀ n : Fin 24, P (n.val : Int)) {t : Int} (h : Tri t) : P t := by
  obtain ⟨n, hn, rfl⟩ := tri_nat h
  exact H ⟨n, hn⟩
/-- the triad k higher -/
def shT (t k : Int) : Int := 2 * ((t / 2 + k) % 12) + t % 2
theorem shT_tri {t : Int} (k : Int) (h : Tri t) : Tri (shT t k) := by
  have h3 := Int.emod_nonneg (t / 2 + k) (b := 12) (by omega)
  have h4 := Int.emod_lt_of_pos (t / 2 + k) (b := 12) (by omega)
  unfold shT Tri
  omega

/-- a byte of a text, 0 behind its end -/
def bt (s : ByteArray) (k : Nat) : Nat := if h : k < s.size then (s[k]'h).toNat else 0
theorem bt_eq {s : ByteArray} {k : Nat} (h : k < s.size) : (s[k]'h).toNat = bt s k := by unfold bt; rw [dif_pos h]
theorem bt_lt (s : ByteArray) (k : Nat) : bt s k < 256 := by
  unfold bt
  split
  · exact UInt8.toNat_lt _
  · omega
/-- a word of steps -/
def Wrd (s : ByteArray) : Prop := s.size ≤ 8 ∧ ∀ k, k < s.size → Ltr (bt s k)
instance (c : Nat) : Decidable (Ltr c) := inferInstanceAs (Decidable (_ ∨ _ ∨ _))
instance (s : ByteArray) : Decidable (Wrd s) := inferInstanceAs (Decidable (_ ∧ _))
/-- the triad behind the first k steps -/
def wlk (t : Int) (s : ByteArray) : Nat → Int
  | 0 => t
  | k + 1 => stp (wlk t s k) (bt s k)
theorem wlk_tri {t : Int} (s : ByteArray) (h : Tri t) : ∀ k, Tri (wlk t s k)
  | 0 => h
  | k + 1 => stp_tri _ _

end Go.Proofs.YtgjfgmjgndcccaaDoor.Tic
