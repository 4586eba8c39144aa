/-
  Contracts of the program's powers: within the limits, read out of a list.
-/
import Derived.Test.YtpcbplademohnaaDoorRatio2
import Derived.Deep.RegionHeld3
namespace Go.Proofs.YtpcbplademohnaaDoor
open Go.RowKit
set_option linter.unusedVariables false
set_option maxRecDepth 20000

theorem grow1p {a b d : World} (h : Below a.heap.size a b) (k : Below b.drew.heap.size b.drew d) : Below a.heap.size a d := h.drew.trans (k.mono h.size)
theorem grow0p {a b d : World} (h : Below a.heap.size a b) (k : Below b.heap.size b d) : Below a.heap.size a d := h.trans (k.mono h.size)
/-- three numbers as the program holds them -/
def pwV (a b c : Int) : Value := .agg #[.int .i64 a, .int .i64 b, .int .i64 c]
/-- block 1 holds the limits -/
def Limits (w : World) : Prop := w.cell? ⟨1, 0, none⟩ = some (.int .i64 24) ∧ w.cell? ⟨1, 1, none⟩ = some (.int .i64 12) ∧ w.cell? ⟨1, 2, none⟩ = some (.int .i64 6)
theorem Limits.pos {w : World} (h : Limits w) : 1 < w.heap.size := block_lt_of_cell h.1
theorem Limits.kept {w w' : World} (h : Limits w) (hb : Below w.heap.size w w') : Limits w' :=
  ⟨(hb.cell (p := ⟨1, 0, none⟩) h.pos).trans h.1, (hb.cell (p := ⟨1, 1, none⟩) h.pos).trans h.2.1, (hb.cell (p := ⟨1, 2, none⟩) h.pos).trans h.2.2⟩
/-- block 0 holds the primes -/
def Primes (w : World) : Prop := w.cell? ⟨0, 0, none⟩ = some (.int .i64 2) ∧ w.cell? ⟨0, 1, none⟩ = some (.int .i64 3) ∧ w.cell? ⟨0, 2, none⟩ = some (.int .i64 5)
theorem Primes.pos {w : World} (h : Primes w) : 0 < w.heap.size := block_lt_of_cell h.1
theorem Primes.kept {w w' : World} (h : Primes w) (hb : Below w.heap.size w w') : Primes w' :=
  ⟨(hb.cell (p := ⟨0, 0, none⟩) h.pos).trans h.1, (hb.cell (p := ⟨0, 1, none⟩) h.pos).trans h.2.1, (hb.cell (p := ⟨0, 2, none⟩) h.pos).trans h.2.2⟩
/-- the block g holds three numbers -/
def Pw3 (w : World) (g : Nat) (a b c : Int) : Prop := w.cell? ⟨g, 0, none⟩ = some (.int .i64 a) ∧ w.cell? ⟨g, 1, none⟩ = some (.int .i64 b) ∧ w.cell? ⟨g, 2, none⟩ = some (.int .i64 c) ∧
  w.frozen? ⟨g, 0, none⟩ = false ∧ w.frozen? ⟨g, 1, none⟩ = false ∧ w.frozen? ⟨g, 2, none⟩ = false
theorem Pw3.new (w : World) (a b c : Int) (t : TypeId) : Pw3 (w.alloc (.cells #[.int .i64 a, .int .i64 b, .int .i64 c] t)) w.heap.size a b c := by
  refine ⟨?_, ?_, ?_, ?_, ?_, ?_⟩ <;> go_simp

theorem limit_at (w : World) : (∀ W, (Instr.index 40 (.agg #[.int .i64 24, .int .i64 12, .int .i64 6]) (.int .i64 0)).run Tryd.prog W = .ok (.int .i64 24) W) ∧ (∀ W, (Instr.index 40 (.agg #[.int .i64 24, .int .i64 12, .int .i64 6]) (.int .i64 1)).run Tryd.prog W = .ok (.int .i64 12) W) ∧
    (∀ W, (Instr.index 40 (.agg #[.int .i64 24, .int .i64 12, .int .i64 6]) (.int .i64 2)).run Tryd.prog W = .ok (.int .i64 6) W) := ⟨fun _ => by kernel_rfl, fun _ => by kernel_rfl, fun _ => by kernel_rfl⟩
set_option maxHeartbeats 800000 in
theorem pvalid_yes (a b c : Int) (w : World) (hl : Limits w) (h : Tic.Pws a b c) :
    Calls Tryd.prog 37 #[pwV a b c] w fun e w' => e = .returned (.bool true) ∧ Below w.heap.size w w' := by
  obtain ⟨h1, h2, h3, h4, h5, h6⟩ := h
  unfold pwV
  have hl0 := hl.kept ((Below.refl _ _).alloc (Nat.le_refl _) (.cells #[.int .i64 a, .int .i64 b, .int .i64 c] 41))
  obtain ⟨l0, l1, l2⟩ := hl0
  have S0 := Lib.hid (Pw3.new w a b c 41)
  have HB := Lib.hid ((Below.refl w.heap.size w).alloc (Nat.le_refl _) (.cells #[.int .i64 a, .int .i64 b, .int .i64 c] 41))
  go_enter Tryd.func37, Tryd.ntmps37
  go_wp2
  generalize w.alloc (.cells #[.int .i64 a, .int .i64 b, .int .i64 c] 41) = W at *
  obtain ⟨c0, c1, c2, _⟩ := S0.out
  obtain ⟨x0, x1, x2⟩ := limit_at w
  refine wp_loop_rounds 4 ?_
  rw [rounds_succ]
  go_wp2
  rw [rounds_succ]
  go_wp2
  rw [rounds_succ]
  go_wp2
  rw [rounds_succ]
  go_wp2
  go_ret
  exact ⟨rfl, HB.out⟩
set_option maxHeartbeats 800000 in
theorem pvalid_no0 (a b c : Int) (w : World) (hl : Limits w) (h : a < -24 ∨ 24 < a) :
    Calls Tryd.prog 37 #[pwV a b c] w fun e w' => e = .returned (.bool false) ∧ Below w.heap.size w w' := by
  rcases h with h1 | h1
  all_goals
    unfold pwV
    have hl0 := hl.kept ((Below.refl _ _).alloc (Nat.le_refl _) (.cells #[.int .i64 a, .int .i64 b, .int .i64 c] 41))
    obtain ⟨l0, l1, l2⟩ := hl0
    have S0 := Lib.hid (Pw3.new w a b c 41)
    have HB := Lib.hid ((Below.refl w.heap.size w).alloc (Nat.le_refl _) (.cells #[.int .i64 a, .int .i64 b, .int .i64 c] 41))
    go_enter Tryd.func37, Tryd.ntmps37
    go_wp2
    generalize w.alloc (.cells #[.int .i64 a, .int .i64 b, .int .i64 c] 41) = W at *
    obtain ⟨c0, c1, c2, _⟩ := S0.out
    obtain ⟨x0, x1, x2⟩ := limit_at w
    refine wp_loop_rounds 4 ?_
    rw [rounds_succ]
    go_wp2
    go_ret
    exact ⟨rfl, HB.out⟩
set_option maxHeartbeats 800000 in
theorem pvalid_no1 (a b c : Int) (w : World) (hl : Limits w) (h1 : -24 ≤ a) (h2 : a ≤ 24) (h : b < -12 ∨ 12 < b) :
    Calls Tryd.prog 37 #[pwV a b c] w fun e w' => e = .returned (.bool false) ∧ Below w.heap.size w w' := by
  rcases h with h3 | h3
  all_goals
    unfold pwV
    have hl0 := hl.kept ((Below.refl _ _).alloc (Nat.le_refl _) (.cells #[.int .i64 a, .int .i64 b, .int .i64 c] 41))
    obtain ⟨l0, l1, l2⟩ := hl0
    have S0 := Lib.hid (Pw3.new w a b c 41)
    have HB := Lib.hid ((Below.refl w.heap.size w).alloc (Nat.le_refl _) (.cells #[.int .i64 a, .int .i64 b, .int .i64 c] 41))
    go_enter Tryd.func37, Tryd.ntmps37
    go_wp2
    generalize w.alloc (.cells #[.int .i64 a, .int .i64 b, .int .i64 c] 41) = W at *
    obtain ⟨c0, c1, c2, _⟩ := S0.out
    obtain ⟨x0, x1, x2⟩ := limit_at w
    refine wp_loop_rounds 4 ?_
    rw [rounds_succ]
    go_wp2
    rw [rounds_succ]
    go_wp2
    go_ret
    exact ⟨rfl, HB.out⟩
set_option maxHeartbeats 800000 in
theorem pvalid_no2 (a b c : Int) (w : World) (hl : Limits w) (h1 : -24 ≤ a) (h2 : a ≤ 24) (h3 : -12 ≤ b) (h4 : b ≤ 12) (h : c < -6 ∨ 6 < c) :
    Calls Tryd.prog 37 #[pwV a b c] w fun e w' => e = .returned (.bool false) ∧ Below w.heap.size w w' := by
  rcases h with h5 | h5
  all_goals
    unfold pwV
    have hl0 := hl.kept ((Below.refl _ _).alloc (Nat.le_refl _) (.cells #[.int .i64 a, .int .i64 b, .int .i64 c] 41))
    obtain ⟨l0, l1, l2⟩ := hl0
    have S0 := Lib.hid (Pw3.new w a b c 41)
    have HB := Lib.hid ((Below.refl w.heap.size w).alloc (Nat.le_refl _) (.cells #[.int .i64 a, .int .i64 b, .int .i64 c] 41))
    go_enter Tryd.func37, Tryd.ntmps37
    go_wp2
    generalize w.alloc (.cells #[.int .i64 a, .int .i64 b, .int .i64 c] 41) = W at *
    obtain ⟨c0, c1, c2, _⟩ := S0.out
    obtain ⟨x0, x1, x2⟩ := limit_at w
    refine wp_loop_rounds 4 ?_
    rw [rounds_succ]
    go_wp2
    rw [rounds_succ]
    go_wp2
    rw [rounds_succ]
    go_wp2
    go_ret
    exact ⟨rfl, HB.out⟩
theorem pvalid_any (a b c : Int) (w : World) (hl : Limits w) :
    Calls Tryd.prog 37 #[pwV a b c] w fun e w' => e = .returned (.bool (decide (Tic.Pws a b c))) ∧ Below w.heap.size w w' := by
  by_cases h : Tic.Pws a b c
  · rw [decide_eq_true h]; exact pvalid_yes a b c w hl h
  · rw [decide_eq_false h]
    by_cases h1 : -24 ≤ a ∧ a ≤ 24
    · by_cases h2 : -12 ≤ b ∧ b ≤ 12
      · exact pvalid_no2 a b c w hl h1.1 h1.2 h2.1 h2.2 (by unfold Tic.Pws at h; omega)
      · exact pvalid_no1 a b c w hl h1.1 h1.2 (by omega)
    · exact pvalid_no0 a b c w hl (by omega)
end Go.Proofs.YtpcbplademohnaaDoor
