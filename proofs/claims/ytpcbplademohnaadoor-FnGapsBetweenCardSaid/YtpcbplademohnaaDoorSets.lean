/-
  Contracts of shifts and turns of sets: the program's own methods and the model's loops; both are the image of a set under a map of tones.
-/
import Derived.Test.YtpcbplademohnaaDoorLow
import Derived.Below
import Derived.StillTailTactics
import Derived.Deep.QuietTactic
import Derived.BigQuiet
namespace Go.Proofs.YtpcbplademohnaaDoor
open Go.RowKit
set_option linter.unusedVariables false

theorem bcell {W w1 : World} (hb : Below W.heap.size W w1) : (∀ b o, b < W.heap.size → w1.cell? ⟨b, o, none⟩ = W.cell? ⟨b, o, none⟩) ∧ (∀ b o, b < W.heap.size → w1.frozen? ⟨b, o, none⟩ = W.frozen? ⟨b, o, none⟩) :=
  ⟨fun b o h => hb.cell (p := ⟨b, o, none⟩) h, fun b o h => hb.frozen (p := ⟨b, o, none⟩) h⟩



theorem way_bd {way : Int} {k : Nat} (h1 : -1 ≤ way) (h2 : way ≤ 1) (hk : k ≤ 12) : -12 ≤ way * k := by
  rcases (show way = -1 ∨ way = 0 ∨ way = 1 by omega) with rfl | rfl | rfl <;> omega
theorem way_bd2 {way : Int} {k : Nat} (h1 : -1 ≤ way) (h2 : way ≤ 1) (hk : k ≤ 12) : way * k ≤ 12 := by
  rcases (show way = -1 ∨ way = 0 ∨ way = 1 by omega) with rfl | rfl | rfl <;> omega
theorem or_pow {S k : Nat} (hS : S < 4096) (hk : k ≤ 12) : bits .or .i64 (S : Int) (wrap64 ((2 : Int) ^ k)) = ((S ||| 2 ^ k : Nat) : Int) := by
  rw [wrap_pow (by omega)]
  have : 2 ^ k ≤ 2 ^ 12 := Nat.pow_le_pow_right (by omega) hk
  exact i64_or_nat _ _ (by omega) (by omega)
theorem still_of {P : Program} {f : Nat} {args : Array Value} {w : World} {v : Value} (h : Calls P f args w fun e w' => e = .returned v ∧ w = w') : Calls P f args w fun e w' => e = .returned v ∧ w' = w :=
  h.mono fun _ _ ⟨a, b⟩ => ⟨a, b.symm⟩

/-- a world in which a new pair of cells is written -/
theorem pair_back {w : World} {b : Nat} {x y u v : Value} (r0 : w.cell? ⟨b, 0, none⟩ = some u) (r1 : w.cell? ⟨b, 1, none⟩ = some v) :
    ((w.setCell ⟨b, 0, none⟩ x).setCell ⟨b, 1, none⟩ y).cell? ⟨b, 0, none⟩ = some x ∧ ((w.setCell ⟨b, 0, none⟩ x).setCell ⟨b, 1, none⟩ y).cell? ⟨b, 1, none⟩ = some y := by
  constructor
  · rw [World.cell?_setCell_other _ _ _ _ (by simp)]; exact World.cell?_setCell_same _ _ _ r0
  · refine World.cell?_setCell_same _ _ _ (u := v) ?_
    rw [World.cell?_setCell_other _ _ _ _ (by simp)]; exact r1
theorem emod_bd (x n : Int) (h : 1 ≤ n) : 0 ≤ x % n ∧ x % n < n := ⟨Int.emod_nonneg x (by omega), Int.emod_lt_of_pos x (by omega)⟩

end Go.Proofs.YtpcbplademohnaaDoor
