/-
  The walk of the exact law of RowsOf.
-/
import Derived.Test.YtmofhhffkppelaaRowsOf
import Derived.Test.YtmofhhffkppelaaRow
namespace Go.Proofs.Ytmofhhffkppelaa
open Go.RowKit
set_option linter.unusedVariables false

theorem gives_same {P : Program} {f : Nat} {args : Array Value} {w : World} (h : Calls P f args w fun e w' => e = .returned (.slice none 0 0) ∧ w = w') : Calls P f args w (Gives [] w) :=
  h.mono fun _ _ ⟨a, b⟩ => ⟨_, a, Row.nil _ _, by rw [← b]; exact Below.refl _ _⟩
theorem gives_below {P : Program} {f : Nat} {args : Array Value} {w : World} (h : Calls P f args w fun e w' => e = .returned (.slice none 0 0) ∧ Below w.heap.size w w') : Calls P f args w (Gives [] w) :=
  h.mono fun _ _ ⟨a, b⟩ => ⟨_, a, Row.nil _ _, b⟩

theorem tonesTo_none (k : Nat) : tonesTo 0 k = [] := by
  induction k with
  | zero => rfl
  | succ k ih => rw [tonesTo_no (by simp), ih]



end Go.Proofs.Ytmofhhffkppelaa
