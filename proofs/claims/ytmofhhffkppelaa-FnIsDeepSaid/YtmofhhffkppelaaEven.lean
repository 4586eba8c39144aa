/-
  Contracts of IsEven and IsDouble, of the program and of the model.
-/
import Derived.Test.YtmofhhffkppelaaSizes
namespace Go.Proofs.Ytmofhhffkppelaa
open Go.RowKit
set_option linter.unusedVariables false

theorem tonesTo_one {D N x : Nat} (h : Tic.tn D N = [x]) : tonesTo D N = [(x : Int)] := by rw [tonesTo_map, h]; rfl
theorem tonesTo_two {D N x y : Nat} (h : Tic.tn D N = [x, y]) : tonesTo D N = [(x : Int), (y : Int)] := by rw [tonesTo_map, h]; rfl
/-- a list of one, of two, or of another length -/
theorem tn_cases (D N : Nat) : (∃ x, Tic.tn D N = [x] ∧ x < N) ∨ (∃ x y, Tic.tn D N = [x, y] ∧ x < N ∧ y < N) ∨ ((Tic.tn D N).length ≠ 1 ∧ (Tic.tn D N).length ≠ 2) := by
  have hl : ∀ i, i < (Tic.tn D N).length → (Tic.tn D N).getD i 0 < N := fun i hi => tn_lt hi
  match h : Tic.tn D N with
  | [] => exact .inr (.inr (by simp))
  | [x] => rw [h] at hl; exact .inl ⟨x, rfl, hl 0 (by simp)⟩
  | [x, y] => rw [h] at hl; exact .inr (.inl ⟨x, y, rfl, hl 0 (by simp), hl 1 (by simp)⟩)
  | x :: y :: z :: r => exact .inr (.inr (by simp))

/-- the sizes of 1 to j steps all fit -/
def allL (p : List Nat → Bool) (n s j : Nat) : Bool := Tic.allTo (fun D => p (Tic.tn D n)) n s j

theorem dset_some {N S i : Nat} (hN : 0 < N) (h : 0 < Tic.rk S N) : 1 ≤ (Tic.tn (Tic.dset N S i) N).length := by
  have h1 := Tic.dset_one (st := i) h
  have h2 := Tic.rk_lt h1 (Tic.dst_lt hN S i 0)
  exact Nat.lt_of_le_of_lt (Nat.zero_le _) h2

/-- the arguments at which IsEven is asked -/
def EvOk (n s : Int) : Prop := Tic.Valid n s ∧ s ≠ 0
end Go.Proofs.Ytmofhhffkppelaa
