/-
  Plain mathematics of the sets of triads. No program in sight.
-/
import Derived.Test.YtgjfgmjgndcccaaDoorTriNum
namespace Go.Proofs.YtgjfgmjgndcccaaDoor.Tic
set_option linter.unusedVariables false

/-- how far tone k of a triad is above its root -/
def abv (s k : Nat) : Int := if k = 0 then 0 else if k = 1 then 4 - (s : Int) else 7
/-- the first k tones of a triad as a set -/
def prt (t : Int) : Nat → Nat
  | 0 => 0
  | k + 1 => prt t k ||| 2 ^ ((t / 2 + abv (t % 2).toNat k) % 12).toNat
theorem prt_lt (t : Int) : ∀ k, prt t k < 4096
  | 0 => by show (0 : Nat) < 4096; decide
  | k + 1 => by
    have h1 := Int.emod_nonneg (t / 2 + abv (t % 2).toNat k) (b := 12) (by omega)
    have h2 := Int.emod_lt_of_pos (t / 2 + abv (t % 2).toNat k) (b := 12) (by omega)
    have h3 : 2 ^ ((t / 2 + abv (t % 2).toNat k) % 12).toNat < 2 ^ 12 := Nat.pow_lt_pow_right (by omega) (by omega)
    exact Nat.or_lt_two_pow (n := 12) (prt_lt t k) h3
/-- the set of a triad -/
def triSet (t : Int) : Nat := prt t 3
theorem triSet_lt (t : Int) : triSet t < 4096 := prt_lt t 3
theorem abv_bd (s k : Nat) (hs : s ≤ 1) : -20 ≤ abv s k ∧ abv s k ≤ 20 := by
  unfold abv
  split
  · omega
  · split <;> omega
theorem triSet_sum : ∀ t : Fin 24, ((2 ^ ((t.val : Int) / 2).toNat : Nat) : Int) + ((2 ^ (((t.val : Int) / 2 + 4 - (t.val : Int) % 2) % 12).toNat : Nat) : Int) + ((2 ^ (((t.val : Int) / 2 + 7) % 12).toNat : Nat) : Int) = (triSet t : Int) := by decide +kernel
/-- the triad of a set, if there is one -/
def triOf (set : Int) : Option Nat := (List.range 24).find? (fun t => ((triSet t : Nat) : Int) == set)
theorem triOf_some {set : Int} {t : Nat} (h : triOf set = some t) : t < 24 ∧ ((triSet t : Nat) : Int) = set ∧ ∀ j : Nat, j < t → ((triSet j : Nat) : Int) ≠ set := by
  unfold triOf at h
  rw [List.find?_eq_some_iff_getElem] at h
  obtain ⟨h1, i, hi, e, h2⟩ := h
  simp only [List.getElem_range] at e
  subst e
  refine ⟨by simpa using hi, by simpa using h1, fun j hj => ?_⟩
  have := h2 j hj
  simpa using this
theorem triOf_none {set : Int} (h : triOf set = none) : ∀ j : Nat, j < 24 → ((triSet j : Nat) : Int) ≠ set := by
  unfold triOf at h
  rw [List.find?_eq_none] at h
  intro j hj e
  exact h j (by simpa using hj) (by simpa using e)
/-- the triads below k in a set -/
def trisIn (set : Nat) : Nat → List Int
  | 0 => []
  | k + 1 => if triSet k &&& set = triSet k then trisIn set k ++ [(k : Int)] else trisIn set k
theorem trisIn_le (set : Nat) : ∀ k, (trisIn set k).length ≤ k
  | 0 => Nat.le_refl _
  | k + 1 => by unfold trisIn; have := trisIn_le set k; split <;> simp <;> omega
theorem trisIn_yes {set k : Nat} (h : triSet k &&& set = triSet k) : trisIn set (k + 1) = trisIn set k ++ [(k : Int)] := by conv => lhs; unfold trisIn; rw [if_pos h]
theorem trisIn_no {set k : Nat} (h : ¬ triSet k &&& set = triSet k) : trisIn set (k + 1) = trisIn set k := by conv => lhs; unfold trisIn; rw [if_neg h]
end Go.Proofs.YtgjfgmjgndcccaaDoor.Tic
