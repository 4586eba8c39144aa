/-
  Contracts of the program's steps of a triad as method values in a table, and of what is behind a letter.
-/
import Derived.Test.YtjlbgccffpkmiaaTri
import Derived.Laws.ByValue
import Derived.Laws.Rows
import Derived.Outline
namespace Go.Proofs.Ytjlbgccffpkmiaa
open Go.RowKit
set_option linter.unusedVariables false

theorem below_setRow {B : Nat} {a w : World} (h : Below B a w) {g : Nat} (hg : B ≤ g) (cs : Array Value) : Below B a (w.setRow g cs) :=
  h.trans ⟨rfl, rfl, rfl, by simp, fun i hi => by
    simp only [World.setRow, Array.getElem?_modify]
    rw [if_neg (by omega)]⟩

/-- the three steps as the program's table holds them -/
def stepsV (t : Int) : Value := .agg #[.int .i32 76, .func (.func 28) #[.int .i64 t] #[], .int .i32 80, .func (.func 29) #[.int .i64 t] #[], .int .i32 82, .func (.func 30) #[.int .i64 t] #[]]

theorem steps_any (t : Int) (w : World) :
    Calls Try.prog 26 #[.int .i64 t] w fun e w' => e = .returned (stepsV t) ∧ Below w.heap.size w w' := by
  go_enter Try.func26, Try.ntmps26
  go_wp2_with (refine wpList_store_row rfl 57 _ _ rfl w.heap.size #[.int .i32 76, .func (.func 28) #[.int .i64 t] #[], .int .i32 80, .func (.func 29) #[.int .i64 t] #[], .int .i32 82, .func (.func 30) #[.int .i64 t] #[]] rfl rfl 57 _ (heap_alloc_new _ _) (by kernel_rfl) rfl (by kernel_rfl) ?_)
  refine bodyPost_ret (v := stepsV t) ?_ rfl ⟨rfl, ?_⟩
  · refine results_cell_row Try.results26 _ _ w.heap.size 57 _ (0, 0) _ rfl (setRow_heap _ _ _ _ _ _ (heap_alloc_new _ _)) Try.underlying57 rfl (by kernel_rfl)
  · exact below_setRow ((Below.refl _ _).alloc (Nat.le_refl _) _) (Nat.le_refl _) _
theorem steps_0 (t : Int) (w : World) : (Instr.index 57 (stepsV t) (.int .i64 0)).run Try.prog w = .ok (.agg #[.int .i32 76, .func (.func 28) #[.int .i64 t] #[]]) w := by kernel_rfl
theorem steps_1 (t : Int) (w : World) : (Instr.index 57 (stepsV t) (.int .i64 1)).run Try.prog w = .ok (.agg #[.int .i32 80, .func (.func 29) #[.int .i64 t] #[]]) w := by kernel_rfl
theorem steps_2 (t : Int) (w : World) : (Instr.index 57 (stepsV t) (.int .i64 2)).run Try.prog w = .ok (.agg #[.int .i32 82, .func (.func 30) #[.int .i64 t] #[]]) w := by kernel_rfl

theorem stored_step (w1 : World) (c F : Value) {p : World → Prop} (h : ∀ W, W.cell? ⟨w1.heap.size, 0, none⟩ = some c → W.cell? ⟨w1.heap.size, 1, none⟩ = some F → Below w1.heap.size w1 W → p W) :
    p ((w1.alloc (.cells #[.int .i32 0, .nilFunc] 56)).setRow w1.heap.size #[c, F]) := by
  refine h _ ?_ ?_ (below_setRow ((Below.refl _ _).alloc (Nat.le_refl _) _) (Nat.le_refl _) _)
  · rw [cell_of_row _ _ _ _ _ _ (setRow_heap _ _ _ _ _ _ (heap_alloc_new _ _))]; rfl
  · rw [cell_of_row _ _ _ _ _ _ (setRow_heap _ _ _ _ _ _ (heap_alloc_new _ _))]; rfl

theorem behind_L (t : Int) (w : World) (h : Tic.Tri t) :
    Calls Try.prog 18 #[.int .i64 t, .int .i32 76] w fun e w' => e = .returned (.tuple #[.int .i64 (Tic.stp t 76), .bool true]) ∧ Below w.heap.size w w' := by
  have h0 := steps_0 t
  have h1 := steps_1 t
  have h2 := steps_2 t
  go_enter Try.func18, Try.ntmps18
  go_wp2_with fail
  refine (steps_any _ _).mono ?_; rintro e w1 ⟨rfl, hb⟩
  go_wp2
  refine wp_loop_rounds 1 ?_
  rw [rounds_succ]
  go_wp2_with (refine wpList_store_row rfl 56 _ _ rfl w1.heap.size _ rfl rfl 56 _ (heap_alloc_new _ _) (by kernel_rfl) rfl (by kernel_rfl) (stored_step (p := fun W => wpList _ _ _ _ _ W) w1 _ _ ?_); intro W1 z0 z1 hb1)
  refine (stepL_any _ _ h).mono ?_; rintro e W2 ⟨rfl, rfl⟩
  go_wp2
  go_ret2
  exact ⟨rfl, (hb.trans (hb1.mono hb.size))⟩
theorem behind_P (t : Int) (w : World) (h : Tic.Tri t) :
    Calls Try.prog 18 #[.int .i64 t, .int .i32 80] w fun e w' => e = .returned (.tuple #[.int .i64 (Tic.stp t 80), .bool true]) ∧ Below w.heap.size w w' := by
  have h0 := steps_0 t
  have h1 := steps_1 t
  have h2 := steps_2 t
  go_enter Try.func18, Try.ntmps18
  go_wp2_with fail
  refine (steps_any _ _).mono ?_; rintro e w1 ⟨rfl, hb⟩
  go_wp2
  refine wp_loop_rounds 2 ?_
  rw [rounds_succ]
  go_wp2_with (refine wpList_store_row rfl 56 _ _ rfl w1.heap.size _ rfl rfl 56 _ (heap_alloc_new _ _) (by kernel_rfl) rfl (by kernel_rfl) (stored_step (p := fun W => wpList _ _ _ _ _ W) w1 _ _ ?_); intro W1 z0 z1 hb1)
  rw [rounds_succ]
  go_wp2_with (refine wpList_store_row rfl 56 _ _ rfl W1.heap.size _ rfl rfl 56 _ (heap_alloc_new _ _) (by kernel_rfl) rfl (by kernel_rfl) (stored_step (p := fun W => wpList _ _ _ _ _ W) W1 _ _ ?_); intro W2 z0 z1 hb2)
  refine (stepP_any _ _ h).mono ?_; rintro e W3 ⟨rfl, rfl⟩
  go_wp2
  go_ret2
  exact ⟨rfl, ((hb.trans (hb1.mono hb.size)).trans (hb2.mono (by have := hb.size; have := hb1.size; omega)))⟩
theorem behind_R (t : Int) (w : World) (h : Tic.Tri t) :
    Calls Try.prog 18 #[.int .i64 t, .int .i32 82] w fun e w' => e = .returned (.tuple #[.int .i64 (Tic.stp t 82), .bool true]) ∧ Below w.heap.size w w' := by
  have h0 := steps_0 t
  have h1 := steps_1 t
  have h2 := steps_2 t
  go_enter Try.func18, Try.ntmps18
  go_wp2_with fail
  refine (steps_any _ _).mono ?_; rintro e w1 ⟨rfl, hb⟩
  go_wp2
  refine wp_loop_rounds 3 ?_
  rw [rounds_succ]
  go_wp2_with (refine wpList_store_row rfl 56 _ _ rfl w1.heap.size _ rfl rfl 56 _ (heap_alloc_new _ _) (by kernel_rfl) rfl (by kernel_rfl) (stored_step (p := fun W => wpList _ _ _ _ _ W) w1 _ _ ?_); intro W1 z0 z1 hb1)
  rw [rounds_succ]
  go_wp2_with (refine wpList_store_row rfl 56 _ _ rfl W1.heap.size _ rfl rfl 56 _ (heap_alloc_new _ _) (by kernel_rfl) rfl (by kernel_rfl) (stored_step (p := fun W => wpList _ _ _ _ _ W) W1 _ _ ?_); intro W2 z0 z1 hb2)
  rw [rounds_succ]
  go_wp2_with (refine wpList_store_row rfl 56 _ _ rfl W2.heap.size _ rfl rfl 56 _ (heap_alloc_new _ _) (by kernel_rfl) rfl (by kernel_rfl) (stored_step (p := fun W => wpList _ _ _ _ _ W) W2 _ _ ?_); intro W3 z0 z1 hb3)
  refine (stepR_any _ _ h).mono ?_; rintro e W4 ⟨rfl, rfl⟩
  go_wp2
  go_ret2
  exact ⟨rfl, (((hb.trans (hb1.mono hb.size)).trans (hb2.mono (by have := hb.size; have := hb1.size; omega))).trans (hb3.mono (by have := hb.size; have := hb1.size; have := hb2.size; omega)))⟩
theorem behind_yes (t : Int) (c : Nat) (w : World) (h : Tic.Tri t) (hc : Tic.Ltr c) :
    Calls Try.prog 18 #[.int .i64 t, .int .i32 (c : Int)] w fun e w' => e = .returned (.tuple #[.int .i64 (Tic.stp t c), .bool true]) ∧ Below w.heap.size w w' := by
  rcases hc with rfl | rfl | rfl
  · exact behind_L t w h
  · exact behind_P t w h
  · exact behind_R t w h
theorem behind_no (t c : Int) (w : World) (h1 : c ≠ 76) (h2 : c ≠ 80) (h3 : c ≠ 82) :
    Calls Try.prog 18 #[.int .i64 t, .int .i32 c] w fun e w' => e = .returned (.tuple #[.int .i64 0, .bool false]) ∧ Below w.heap.size w w' := by
  have e1 : ((76 : Int) == c) = false := by simpa using fun h => h1 h.symm
  have e2 : ((80 : Int) == c) = false := by simpa using fun h => h2 h.symm
  have e3 : ((82 : Int) == c) = false := by simpa using fun h => h3 h.symm
  have g0 := steps_0 t
  have g1 := steps_1 t
  have g2 := steps_2 t
  clear h1 h2 h3
  go_enter Try.func18, Try.ntmps18
  go_wp2_with fail
  refine (steps_any _ _).mono ?_; rintro e w1 ⟨rfl, hb⟩
  go_wp2
  refine wp_loop_rounds 4 ?_
  rw [rounds_succ]
  go_wp2_with (refine wpList_store_row rfl 56 _ _ rfl w1.heap.size _ rfl rfl 56 _ (heap_alloc_new _ _) (by kernel_rfl) rfl (by kernel_rfl) (stored_step (p := fun W => wpList _ _ _ _ _ W) w1 _ _ ?_); intro W1 z0 z1 hb1)
  rw [rounds_succ]
  go_wp2_with (refine wpList_store_row rfl 56 _ _ rfl W1.heap.size _ rfl rfl 56 _ (heap_alloc_new _ _) (by kernel_rfl) rfl (by kernel_rfl) (stored_step (p := fun W => wpList _ _ _ _ _ W) W1 _ _ ?_); intro W2 z0 z1 hb2)
  rw [rounds_succ]
  go_wp2_with (refine wpList_store_row rfl 56 _ _ rfl W2.heap.size _ rfl rfl 56 _ (heap_alloc_new _ _) (by kernel_rfl) rfl (by kernel_rfl) (stored_step (p := fun W => wpList _ _ _ _ _ W) W2 _ _ ?_); intro W3 z0 z1 hb3)
  rw [rounds_succ]
  go_wp2
  go_ret2
  exact ⟨rfl, ((hb.trans (hb1.mono hb.size)).trans (hb2.mono (by have := hb.size; have := hb1.size; omega))).trans (hb3.mono (by have := hb.size; have := hb1.size; have := hb2.size; omega))⟩
end Go.Proofs.Ytjlbgccffpkmiaa
