/-
  The model's list of the distances of some steps.
-/
import Derived.Test.YtmofhhffkppelaaTones
import Derived.Test.YtmofhhffkppelaaEvenTab
import Derived.Deep.QuietTactic
import Derived.BigQuiet
namespace Go.Proofs.Ytmofhhffkppelaa
open Go.RowKit
set_option linter.unusedVariables false

theorem tonesTo_map (s : Nat) : ∀ k, tonesTo s k = (Tic.tn s k).map fun (x : Nat) => (x : Int)
  | 0 => rfl
  | k + 1 => by
    cases h : s.testBit k with
    | true => rw [tonesTo_yes h, Tic.tn_yes h, List.map_append, tonesTo_map s k]; rfl
    | false => rw [tonesTo_no h, Tic.tn_no h, tonesTo_map s k]
theorem tonesTo_len (s k : Nat) : (tonesTo s k).length = Tic.rk s k := by rw [tonesTo_map, List.length_map]; rfl
theorem tonesTo_getD (s k i : Nat) (h : i < Tic.rk s k) : (tonesTo s k).getD i 0 = (((Tic.tn s k).getD i 0 : Nat) : Int) := by
  have h' : i < (Tic.tn s k).length := h
  rw [tonesTo_map]
  simp [List.getD_eq_getElem?_getD, List.getElem?_map, List.getElem?_eq_getElem h']
/-- the tones below n -/
theorem tn_lt {s n i : Nat} (h : i < Tic.rk s n) : (Tic.tn s n).getD i 0 < n := by
  obtain ⟨x, h1, _, _, h4⟩ := Tic.tn_at s n i h
  rw [h4]; exact h1
theorem dst_int {n s st i : Nat} (h : i < Tic.rk s n) : ((((Tic.tn s n).getD ((i + st) % Tic.rk s n) 0 : Nat) : Int) - (((Tic.tn s n).getD i 0 : Nat) : Int)) % (n : Int) = (Tic.dst n s st i : Int) := by
  have h1 := tn_lt h
  unfold Tic.dst
  rw [Int.natCast_emod, Int.natCast_sub (by omega), Int.natCast_add]
  rw [show ((((Tic.tn s n).getD ((i + st) % Tic.rk s n) 0 : Nat) : Int) + (n : Int) - (((Tic.tn s n).getD i 0 : Nat) : Int)) = ((((Tic.tn s n).getD ((i + st) % Tic.rk s n) 0 : Nat) : Int) - (((Tic.tn s n).getD i 0 : Nat) : Int)) + (n : Int) by omega, Int.add_emod_right]
theorem dm_next {n s st i d : Nat} : (Tic.dm n s st (i + 1)).testBit d = false ↔ (Tic.dm n s st i).testBit d = false ∧ Tic.dst n s st i ≠ d := by
  rw [show Tic.dm n s st (i + 1) = Tic.dm n s st i ||| 2 ^ Tic.dst n s st i from rfl, Nat.testBit_or, Nat.testBit_two_pow]
  simp

end Go.Proofs.Ytmofhhffkppelaa
