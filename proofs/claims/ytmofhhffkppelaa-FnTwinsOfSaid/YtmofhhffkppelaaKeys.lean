/-
  Keys of the map of kinds.
-/
import Derived.Test.YtmofhhffkppelaaPrimesSpec
import Derived.Maps.Own
import Derived.Maps.RangeWalk
import Derived.DeepKeys5
namespace Go.Proofs.Ytmofhhffkppelaa
open Go.RowKit Go.Maps
set_option linter.unusedVariables false

theorem laidOutAll : laidOutB Try.prog = true := by kernel_rfl
theorem kindKeyed : Keyed Try.prog 45 := Keyed.of_law (deep_law_gate laidOutAll (of_decide_eq_true (by kernel_rfl)) (of_decide_eq_true (by kernel_rfl)) (by kernel_rfl) (by kernel_rfl))

theorem keyLits_int (d : Nat) (m : Int) (h : (Lit.int .i64 m).wf = true) : Try.prog.keyLits (d + 1) 3 [.int .i64 m] = some [.int .i64 m] := by
  unfold Program.keyLits
  rw [Try.underlying3]
  simp [h]
theorem cellsKind : Try.prog.cellsOf 45 = 2 := by kernel_rfl
theorem cellsInt : Try.prog.cellsOf 3 = 1 := by kernel_rfl
theorem typesPos : decide (0 < Try.prog.types.size) = true := by kernel_rfl
theorem keyTypeKind : Try.prog.keyType 45 = true := by kernel_rfl
theorem formedKind (a b : Value) : Value.formed Try.prog 45 (.agg #[a, b]) = true := by kernel_rfl
/-- the two numbers of a kind, as its key reads -/
theorem keyLits_kind (d : Nat) (n x : Int) (hn : (Lit.int .i64 n).wf = true) (hx : (Lit.int .i64 x).wf = true) : Try.prog.keyLits (d + 1 + 1) 45 [.int .i64 n, .int .i64 x] = some [.int .i64 n, .int .i64 x] := by
  unfold Program.keyLits
  rw [Try.underlying45]
  simp [cellsKind, cellsInt, keyLits_int, hn, hx]
/-- what a kind reads as -/
theorem kind_key (n x : Int) (hn : (Lit.int .i64 n).wf = true) (hx : (Lit.int .i64 x).wf = true) : keyOf Try.prog 45 (.agg #[.int .i64 n, .int .i64 x]) = some (.string (keyBytes [.int .i64 n, .int .i64 x])) := by
  unfold keyOf
  rw [Try.underlying45]
  simp only [keyTypeKind, formedKind, Bool.and_self, if_true]
  have h0 := of_decide_eq_true typesPos
  obtain ⟨d, hd⟩ : ∃ d, Try.prog.types.size = d + 1 := ⟨Try.prog.types.size - 1, by omega⟩
  rw [hd]
  have : (Value.agg #[.int .i64 n, .int .i64 x]).cells.toList = [.int .i64 n, .int .i64 x] := by simp [Value.cells]
  rw [this, keyLits_kind d n x hn hx]
  rfl
end Go.Proofs.Ytmofhhffkppelaa
