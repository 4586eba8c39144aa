/-
  Contracts of LeftOf, of the program and of the model; ratios compared.
-/
import Derived.Test.YtpcbplademohnaaDoorLeftNum
import Derived.Test.YtpcbplademohnaaDoorSteps
import Derived.Test.YtpcbplademohnaaDoorOver
namespace Go.Proofs.YtpcbplademohnaaDoor
open Go.RowKit
set_option linter.unusedVariables false
set_option maxRecDepth 20000

theorem pow_fits {p n : Nat} (hp : p = 2 ∧ n ≤ 28 ∨ p = 3 ∧ n ≤ 12) : Fits (p ^ n) := by
  unfold Fits
  rcases hp with ⟨rfl, h⟩ | ⟨rfl, h⟩
  · exact Nat.lt_of_le_of_lt (Nat.pow_le_pow_right (by decide) h) (by decide)
  · exact Nat.lt_of_le_of_lt (Nat.pow_le_pow_right (by decide) h) (by decide)
/-- what LeftOf tells -/
def leftV (n : Int) : Value := if 1 ≤ n ∧ n ≤ 12 then .tuple #[.int .i64 (Tic.lfU n.toNat : Int), .int .i64 (Tic.lfD n.toNat : Int)] else .tuple #[.int .i64 0, .int .i64 0]
theorem leftV_yes {n : Nat} (h1 : 1 ≤ n) (h2 : n ≤ 12) : leftV n = .tuple #[.int .i64 (Tic.lfU n : Int), .int .i64 (Tic.lfD n : Int)] := by unfold leftV; rw [if_pos (by omega)]; rfl
theorem leftV_no {n : Int} (h : n < 1 ∨ 12 < n) : leftV n = .tuple #[.int .i64 0, .int .i64 0] := by unfold leftV; rw [if_neg (by omega)]
/-- what is left, as the program holds it -/
def lfV (n : Nat) : Value := rtV (Tic.lfA n) (Tic.lfB n) 0 (Tic.lfU n) (Tic.lfD n)
/-- three-way comparison -/
def cmp3 (x y : Int) : Int := if x < y then -1 else if y < x then 1 else 0
theorem cmpInt_any (x y : Int) (w : World) :
    Calls Tryd.prog 52 #[.int .i64 x, .int .i64 y] w fun e w' => e = .returned (.int .i64 (cmp3 x y)) ∧ w = w' := by
  have HN : Hid (∀ (z : Int) w, Calls Tryd.prog 65 #[.int .i64 z] w fun e w' => e = .returned (.bool false) ∧ w = w') := Lib.hid (fun z w => by
    go_enter Tryd.func65, Tryd.ntmps65
    go_wp2
    go_ret
    exact ⟨ret_bool (by simp), rfl⟩)
  unfold cmp3
  rcases Int.lt_trichotomy x y with h | h | h
  · rw [if_pos h]
    go_enter Tryd.func52, Tryd.ntmps52
    go_wp2_with fail
    refine (HN.out _ _).mono ?_; rintro e w1 ⟨rfl, rfl⟩
    go_wp2_with fail
    refine (HN.out _ _).mono ?_; rintro e w1 ⟨rfl, rfl⟩
    go_wp2
    go_ret
    exact ⟨rfl, rfl⟩
  · subst h
    rw [if_neg (by omega), if_neg (by omega)]
    go_enter Tryd.func52, Tryd.ntmps52
    go_wp2_with fail
    refine (HN.out _ _).mono ?_; rintro e w1 ⟨rfl, rfl⟩
    go_wp2_with fail
    refine (HN.out _ _).mono ?_; rintro e w1 ⟨rfl, rfl⟩
    go_wp2
    go_ret
    exact ⟨rfl, rfl⟩
  · rw [if_neg (by omega), if_pos h]
    go_enter Tryd.func52, Tryd.ntmps52
    go_wp2_with fail
    refine (HN.out _ _).mono ?_; rintro e w1 ⟨rfl, rfl⟩
    go_wp2_with fail
    refine (HN.out _ _).mono ?_; rintro e w1 ⟨rfl, rfl⟩
    go_wp2
    go_ret
    exact ⟨rfl, rfl⟩
set_option maxHeartbeats 400000 in
theorem compare_any (a b c a' b' c' : Int) (x y x' y' : Nat) (w : World) (h1 : x * y' < 1152921504606846976) (h2 : x' * y < 1152921504606846976) :
    Calls Tryd.prog 41 #[rtV a b c x y, rtV a' b' c' x' y'] w fun e w' => e = .returned (.int .i64 (cmp3 (x * y' : Nat) (x' * y : Nat))) ∧ Below w.heap.size w w' := by
  unfold rtV
  have e1 : (x : Int) * (y' : Int) = ((x * y' : Nat) : Int) := (Int.natCast_mul _ _).symm
  have e2 : (x' : Int) * (y : Int) = ((x' * y : Nat) : Int) := (Int.natCast_mul _ _).symm
  generalize x * y' = p at *
  generalize x' * y = q at *
  have E1 := Lib.hid e1
  have E2 := Lib.hid e2
  have w1 := IntWalk.i64_in (p : Int) (by omega)
  have w2 := IntWalk.i64_in (q : Int) (by omega)
  have HC := Lib.hid (fun w => cmpInt_any p q w)
  generalize cmp3 p q = r at HC ⊢
  have hB1 := (Below.refl w.heap.size w).alloc (Nat.le_refl _) (.cells #[.int .i64 a, .int .i64 b, .int .i64 c, .int .i64 x, .int .i64 y] 43)
  have hB2 := (Below.refl _ (w.alloc (.cells #[.int .i64 a, .int .i64 b, .int .i64 c, .int .i64 x, .int .i64 y] 43))).alloc (Nat.le_refl _) (.cells #[.int .i64 a', .int .i64 b', .int .i64 c', .int .i64 x', .int .i64 y'] 43)
  have R1 := (Rt.new w a b c x y 43).kept hB2 (by simp)
  have R2 := Rt.new (w.alloc (.cells #[.int .i64 a, .int .i64 b, .int .i64 c, .int .i64 x, .int .i64 y] 43)) a' b' c' x' y' 43
  have HB := Lib.hid (hB1.trans (hB2.mono (by simp)))
  simp only [World.size_alloc] at R2
  obtain ⟨_, _, _, c3, c4, _⟩ := R1
  obtain ⟨_, _, _, d3, d4, _⟩ := R2
  clear hB1 hB2 e1 e2
  go_enter Tryd.func41, Tryd.ntmps41
  have e1 := E1.out
  have e2 := E2.out
  go_wp2_with fail
  clear e1 e2
  refine (HC.out _).mono ?_; rintro e w3 ⟨rfl, rfl⟩
  go_wp2
  go_ret
  exact ⟨rfl, HB.out⟩
end Go.Proofs.YtpcbplademohnaaDoor
