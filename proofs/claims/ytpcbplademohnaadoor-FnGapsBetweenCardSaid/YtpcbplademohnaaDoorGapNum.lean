/-
  Plain mathematics of the gaps of a chain of fifths. No program in sight.
-/
import Derived.Test.YtpcbplademohnaaDoorChainNum
namespace Go.Proofs.YtpcbplademohnaaDoor.Tic
set_option maxRecDepth 20000

/-- the powers of 2 and of 3 of the tone behind the i-th, the octave behind the last -/
def nxo (n i : Nat) : Int := if i + 1 < n then oc ((chain n).getD (i + 1) 0) else 1
def nxt (n i : Nat) : Int := if i + 1 < n then (((chain n).getD (i + 1) 0).val : Int) else 0
def gap (n i : Nat) : List Int := [nxo n i - oc ((chain n).getD i 0), nxt n i - (((chain n).getD i 0).val : Int), 0]
/-- the gaps behind the first i tones, each once -/
def gps (n : Nat) : Nat → List (List Int)
  | 0 => []
  | i + 1 => if gap n i ∈ gps n i then gps n i else gps n i ++ [gap n i]
theorem gps_yes {n i : Nat} (h : gap n i ∈ gps n i) : gps n (i + 1) = gps n i := by show (if _ then _ else _) = _; rw [if_pos h]
theorem gps_no {n i : Nat} (h : ¬ gap n i ∈ gps n i) : gps n (i + 1) = gps n i ++ [gap n i] := by show (if _ then _ else _) = _; rw [if_neg h]
theorem gps_len (n : Nat) : ∀ i, (gps n i).length ≤ i
  | 0 => Nat.le_refl _
  | i + 1 => by
    have := gps_len n i
    by_cases h : gap n i ∈ gps n i
    · rw [gps_yes h]; omega
    · rw [gps_no h, List.length_append]; simp; omega
theorem gps_three (n : Nat) : ∀ i, ∀ x ∈ gps n i, x.length = 3
  | 0, x, h => by cases h
  | i + 1, x, hx => by
    by_cases h : gap n i ∈ gps n i
    · rw [gps_yes h] at hx; exact gps_three n i x hx
    · rw [gps_no h] at hx
      rcases List.mem_append.1 hx with q | q
      · exact gps_three n i x q
      · simp at q; subst q; rfl
theorem nx_bd (n i : Nat) : -24 ≤ nxo n i ∧ nxo n i ≤ 1 ∧ 0 ≤ nxt n i ∧ nxt n i ≤ 11 := by
  unfold nxo nxt
  split
  · have h := oc_bd ((chain n).getD (i + 1) 0)
    have h2 := ((chain n).getD (i + 1) 0).isLt
    omega
  · omega
end Go.Proofs.YtpcbplademohnaaDoor.Tic
