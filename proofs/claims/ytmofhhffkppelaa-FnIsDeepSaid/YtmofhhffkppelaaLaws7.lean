/-
  The walks of the laws of sizes, of sets of two sizes and of rows.
-/
import Derived.Test.YtmofhhffkppelaaLaws6
import Derived.Test.YtmofhhffkppelaaRowsOf
import Derived.Test.YtmofhhffkppelaaEq
import Derived.Test.YtmofhhffkppelaaExact2D
namespace Go.Proofs.Ytmofhhffkppelaa
open Go.RowKit
set_option linter.unusedVariables false

theorem tonesTo_asc (D N : Nat) : ∀ i, i + 1 < (tonesTo D N).length → (tonesTo D N).getD i 0 < (tonesTo D N).getD (i + 1) 0 := by
  intro i hi
  rw [tonesTo_len] at hi
  rw [tonesTo_getD D N i (by omega), tonesTo_getD D N (i + 1) hi]
  obtain ⟨x, h1, h2, h3, h4⟩ := Tic.tn_at D N i (by omega)
  obtain ⟨y, k1, k2, k3, k4⟩ := Tic.tn_at D N (i + 1) hi
  rw [h4, k4]
  have : x < y := by
    rcases Nat.lt_or_ge x y with h | h
    · exact h
    · have := Tic.rk_mono D y x h; omega
  omega
theorem tonesTo_get (D N i : Nat) (hi : i < (tonesTo D N).length) : ∃ x, x < N ∧ D.testBit x = true ∧ Tic.rk D x = i ∧ (tonesTo D N).getD i 0 = (x : Int) := by
  rw [tonesTo_len] at hi
  obtain ⟨x, h1, h2, h3, h4⟩ := Tic.tn_at D N i hi
  exact ⟨x, h1, h2, h3, by rw [tonesTo_getD D N i hi, h4]⟩
theorem tonesTo_put (D N x : Nat) (hx : x < N) (hb : D.testBit x = true) : Tic.rk D x < (tonesTo D N).length ∧ (tonesTo D N).getD (Tic.rk D x) 0 = (x : Int) := by
  have h := Tic.rk_lt hb hx
  refine ⟨by rw [tonesTo_len]; exact h, ?_⟩
  rw [tonesTo_getD D N _ h, Tic.tn_rk hb N hx]
/-- a set and its image in the circle: the ranks -/
theorem rk_mirror {D E n : Nat} (hD : D.testBit 0 = false) (hE : E.testBit 0 = false) (h : ∀ d, 0 < d → d < n → E.testBit d = D.testBit (n - d)) : ∀ k, 1 ≤ k → k ≤ n → Tic.rk E k + Tic.rk D (n - k + 1) = Tic.rk D n
  | 0, h1, _ => by omega
  | k + 1, _, h2 => by
    by_cases e : k = 0
    · subst e
      rw [Tic.rk_no hE, show n - (0 + 1) + 1 = n by omega]
      simp [Tic.rk, Tic.tn]
    · have ih := rk_mirror hD hE h k (by omega) (by omega)
      have hb := h k (by omega) (by omega)
      rw [show n - (k + 1) + 1 = n - k by omega]
      cases hk : D.testBit (n - k) with
      | true => rw [Tic.rk_yes (by rw [hb, hk])]; rw [Tic.rk_yes hk] at ih; omega
      | false => rw [Tic.rk_no (by rw [hb, hk])]; rw [Tic.rk_no hk] at ih; omega

end Go.Proofs.Ytmofhhffkppelaa
