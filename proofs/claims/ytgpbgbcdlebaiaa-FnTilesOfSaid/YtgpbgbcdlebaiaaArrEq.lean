/-
  Two arrays of twelve numbers compared.
-/
import Derived.Test.YtgpbgbcdlebaiaaArr
import Derived.WalkLawsBesides
import Derived.Laws.StructEq
import Derived.ChangeKeysEq
namespace Go.Proofs.Ytgpbgbcdlebaiaa
open Go.RowKit
set_option linter.unusedVariables false

/-- the same numbers at the places of a list -/
def eqAt (C D : Nat → Nat) (L : List Nat) : Bool := L.all fun j => C j == D j
theorem part_arr (C : Nat → Nat) {j : Nat} (hj : j < 12) (w : World) : (part 3 (cellsOf C) (j * Try.prog.cellsOf 3)).run Try.prog w = .ok (.int .i64 (C j : Int)) w := by
  have e : Try.prog.cellsOf 3 = 1 := by kernel_rfl
  rw [e, Nat.mul_one]
  simp [part, cellsOf_get C hj]
theorem eqItems_arr (C D : Nat → Nat) (d : Nat) (w : World) : ∀ L : List Nat, (∀ j, j ∈ L → j < 12) → (Op.eqItems (d + 1) 3 (Try.prog.cellsOf 3) (cellsOf C) (cellsOf D) L).run Try.prog w = .ok (eqAt C D L) w
  | [], _ => by simp [Op.eqItems, eqAt]
  | j :: L, h => by
    have hj := h j (by simp)
    have ih := eqItems_arr C D d w L (fun i hi => h i (by simp [hi]))
    simp only [Op.eqItems, Sem.run_bind, part_arr C hj, part_arr D hj, Result.andThen_ok]
    rw [run_equalIn_int w d 3 .i64 .i64 (C j) (D j) Try.underlying3]
    by_cases e : C j = D j
    · have e2 : (((C j : Nat) : Int) == (D j : Int)) = true := by rw [e]; simp
      simp only [Result.andThen_ok, e2, Bool.not_true, Bool.false_eq_true, if_false]
      rw [ih]
      simp [eqAt, e]
    · have e2 : (((C j : Nat) : Int) == (D j : Int)) = false := by rw [beq_eq_false_iff_ne]; omega
      simp only [Result.andThen_ok, e2, Bool.not_false, if_true, Sem.run_pure]
      simp [eqAt, e]
theorem eql_arr (C D : Nat → Nat) (w : World) : (binOp .eql 53 (.agg (cellsOf C)) (.agg (cellsOf D))).run Try.prog w = .ok (.bool (eqAt C D (List.range 12))) w := by
  obtain ⟨i0, hi, _⟩ := info_parts info_int
  rw [run_eql_struct, run_equalIn_array w _ _ _ Try.underlying53 hi]
  rw [eqItems_arr C D _ w (List.range 12) (fun j hj => List.mem_range.1 hj)]
  rfl
theorem eqGuard_arr (op : BinOp) (x y : Operand) (xs ys : Array Value) (w : World) : (eqGuard op 53 x y (.agg xs) (.agg ys)).run Try.prog w = .ok () w :=
  run_eqGuard_agg w op _ x y xs ys (by kernel_rfl)
theorem eqAt_all (C D : Nat → Nat) : eqAt C D (List.range 12) = true ↔ ∀ t, t < 12 → C t = D t := by
  simp [eqAt, List.all_eq_true]
end Go.Proofs.Ytgpbgbcdlebaiaa
