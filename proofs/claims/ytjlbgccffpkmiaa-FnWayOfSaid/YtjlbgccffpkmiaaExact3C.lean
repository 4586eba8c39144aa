/-
  The walk of the exact law of WayOf.
-/
import Derived.Test.YtjlbgccffpkmiaaWaysFrom
import Derived.ChangeKeysEq
namespace Go.Proofs.Ytjlbgccffpkmiaa
open Go.RowKit
set_option linter.unusedVariables false

theorem size_str (w : World) : (sizeOf 9).run Try.prog w = .ok 1 w := by kernel_rfl
theorem plain_str : Try.prog.plainKey 9 = true := by kernel_rfl
theorem index_ways {L : List (List UInt8)} (hL : L.length = 24) {b : Nat} (hb : b < 24) (w : World) :
    (Instr.index 48 (.agg (L.map (fun l => Value.string (str l))).toArray) (.int .i64 (b : Int))).run Try.prog w = .ok (.string (str (L.getD b []))) w := by
  have h1 : (0 : Int) ≤ b ∧ (b : Int) < ((24 : Nat) : Int) := by omega
  have hx : (L.map (fun l => Value.string (str l))).toArray[b * 1]? = some (.string (str (L.getD b []))) := by
    have : b < L.length := by omega
    simp [List.getD_eq_getElem?_getD, List.getElem?_eq_getElem this]
  have hp := run_part_plain (P := Try.prog) (w := w) plain_str hx
  simp only [Instr.index, asIntOf, Sem.run_bind, Sem.run_pure, Result.andThen_ok, run_underlying Try.underlying48, Int.toNat_natCast]
  rw [if_pos h1]
  simp only [Sem.run_bind, size_str, Result.andThen_ok, hp]

theorem bfs_ways (a : Nat) : ∀ i, (Tic.bfs a i).2.length = 24
  | 0 => rfl
  | i + 1 => by
    have hb : ∀ (x : List Nat × List (List UInt8)) (src cur c : Nat), x.2.length = 24 → (Tic.bstep src cur x c).2.length = 24 := fun x src cur c hx => by
      unfold Tic.bstep
      split
      · exact hx
      · show (x.2.set _ _).length = 24
        rw [List.length_set]; exact hx
    exact hb _ _ _ _ (hb _ _ _ _ (hb _ _ _ _ (bfs_ways a i)))
theorem iWayOf_yes (a b : Nat) (w : World) (ha : a < 24) (hb : b < 24) :
    Calls Try.prog 11 #[.int .i64 a, .int .i64 b] w fun e w' => e = .returned (.tuple #[.string (str (Tic.way a b)), .bool true]) ∧ Below w.heap.size w w' := by
  have HIX := Lib.hid (fun w => index_ways (bfs_ways a 24) hb w)
  have HB := Lib.hid ((Tic.bfs_ok ⟨a, ha⟩).2 ⟨b, hb⟩)
  have HW := Lib.hid (fun w => waysFrom_any a w ha)
  have HE : Hid ((Tic.bfs a 24).2.getD b [] = Tic.way a b) := HB
  rw [HE.out] at HIX
  clear HB
  generalize Tic.way a b = x at HIX ⊢
  generalize ((Tic.bfs a 24).2.map (fun l => Value.string (str l))).toArray = cs at HIX HW
  clear HE
  go_enter Try.func11, Try.ntmps11
  go_wp2_with fail
  refine (vTri_yes _ _ ⟨by omega, by omega⟩).mono ?_; rintro e w1 ⟨rfl, rfl⟩
  go_wp2_with fail
  refine (vTri_yes _ _ ⟨by omega, by omega⟩).mono ?_; rintro e w1 ⟨rfl, rfl⟩
  go_wp2_with fail
  refine (HW.out _).mono ?_; rintro e w1 ⟨rfl, hb1⟩
  have hix := HIX.out
  go_wp2_with fail
  go_ret2
  exact ⟨rfl, hb1⟩
theorem iWayOf_no (a b : Int) (w : World) (h : ¬ (Tic.Tri a ∧ Tic.Tri b)) :
    Calls Try.prog 11 #[.int .i64 a, .int .i64 b] w fun e w' => e = .returned (.tuple #[.string ByteArray.empty, .bool false]) ∧ w = w' := by
  by_cases ha : Tic.Tri a
  · have hb : ¬ Tic.Tri b := fun hb => h ⟨ha, hb⟩
    clear h
    go_enter Try.func11, Try.ntmps11
    go_wp2_with fail
    refine (vTri_yes _ _ ha).mono ?_; rintro e w1 ⟨rfl, rfl⟩
    go_wp2_with fail
    refine (vTri_no _ _ hb).mono ?_; rintro e w1 ⟨rfl, rfl⟩
    go_wp2_with fail
    go_ret2
    exact ⟨rfl, rfl⟩
  · clear h
    go_enter Try.func11, Try.ntmps11
    go_wp2_with fail
    refine (vTri_no _ _ ha).mono ?_; rintro e w1 ⟨rfl, rfl⟩
    go_wp2_with fail
    go_ret2
    exact ⟨rfl, rfl⟩
end Go.Proofs.Ytjlbgccffpkmiaa
