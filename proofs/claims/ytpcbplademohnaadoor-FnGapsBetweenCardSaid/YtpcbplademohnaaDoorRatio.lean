/-
  Contracts of the model's ratios: powers within the limits, the numbers of a ratio; lists that came in, copied.
-/
import Derived.Test.YtpcbplademohnaaDoorTones
import Derived.Test.YtpcbplademohnaaDoorRaise
namespace Go.Proofs.YtpcbplademohnaaDoor
open Go.RowKit
set_option linter.unusedVariables false

/-- a list of powers of 2, 3 and 5 within the limits -/
def PwsL (L : List Int) : Prop := ∃ a b c, L = [a, b, c] ∧ Tic.Pws a b c
theorem Row.three {w : World} {B : Nat} {v : Value} {a b c : Int} (h : Row w B v [a, b, c]) : ∃ g m, v = .slice (some ⟨g, 0, none⟩) 3 m ∧ B ≤ g ∧ g < w.heap.size ∧
    w.cell? ⟨g, 0, none⟩ = some (.int .i64 a) ∧ w.cell? ⟨g, 1, none⟩ = some (.int .i64 b) ∧ w.cell? ⟨g, 2, none⟩ = some (.int .i64 c) := by
  rcases h.cases with ⟨_, e⟩ | ⟨g, m, rfl, h1, h2, h3, _⟩
  · cases e
  · exact ⟨g, m, rfl, h1, h2, h3 0 (by simp), h3 1 (by simp), h3 2 (by simp)⟩
theorem Row.len {w : World} {B : Nat} {v : Value} {L : List Int} (h : Row w B v L) : ∃ p m, v = .slice p L.length m := by
  rcases h.cases with ⟨rfl, rfl⟩ | ⟨g, m, rfl, _⟩
  · exact ⟨none, 0, rfl⟩
  · exact ⟨_, m, rfl⟩
theorem three_of_len {L : List Int} (h : L.length = 3) : ∃ a b c, L = [a, b, c] := by
  match L, h with
  | [a, b, c], _ => exact ⟨a, b, c, rfl⟩

theorem sValidP_yes (v : Value) (B : Nat) (a b c : Int) (w : World) (hr : Row w B v [a, b, c]) (h : Tic.Pws a b c) :
    Calls Tryd.prog 48 #[v] w fun e w' => e = .returned (.bool true) ∧ w = w' := by
  obtain ⟨g, m, rfl, _, _, c0, c1, c2⟩ := hr.three
  obtain ⟨h1, h2, h3, h4, h5, h6⟩ := h
  clear hr
  go_enter Tryd.func48, Tryd.ntmps48
  go_wp2_with fail
  refine (inRange_yes _ _ _ _ h1 h2).mono ?_; rintro e w' ⟨rfl, rfl⟩
  go_wp2_with fail
  refine (inRange_yes _ _ _ _ h3 h4).mono ?_; rintro e w' ⟨rfl, rfl⟩
  go_wp2_with fail
  refine (inRange_yes _ _ _ _ h5 h6).mono ?_; rintro e w' ⟨rfl, rfl⟩
  go_wp2_with fail
  go_ret
  exact ⟨rfl, rfl⟩
theorem sValidP_no (v : Value) (B : Nat) (L : List Int) (w : World) (hr : Row w B v L) (h : ¬ PwsL L) :
    Calls Tryd.prog 48 #[v] w fun e w' => e = .returned (.bool false) ∧ w = w' := by
  by_cases hl : L.length = 3
  · obtain ⟨a, b, c, rfl⟩ := three_of_len hl
    obtain ⟨g, m, rfl, _, _, c0, c1, c2⟩ := hr.three
    have hn : ¬ Tic.Pws a b c := fun hp => h ⟨a, b, c, rfl, hp⟩
    clear hr h
    by_cases h1 : -24 ≤ a ∧ a ≤ 24
    · by_cases h2 : -12 ≤ b ∧ b ≤ 12
      · have h3 : c < -6 ∨ 6 < c := by unfold Tic.Pws at hn; omega
        obtain ⟨h1, h1'⟩ := h1
        obtain ⟨h2, h2'⟩ := h2
        clear hn hl
        go_enter Tryd.func48, Tryd.ntmps48
        go_wp2_with fail
        refine (inRange_yes _ _ _ _ h1 h1').mono ?_; rintro e w' ⟨rfl, rfl⟩
        go_wp2_with fail
        refine (inRange_yes _ _ _ _ h2 h2').mono ?_; rintro e w' ⟨rfl, rfl⟩
        go_wp2_with fail
        refine (inRange_no _ _ _ _ h3).mono ?_; rintro e w' ⟨rfl, rfl⟩
        go_wp2_with fail
        go_ret
        exact ⟨rfl, rfl⟩
      · have h3 : b < -12 ∨ 12 < b := by omega
        obtain ⟨h1, h1'⟩ := h1
        clear hn hl h2
        go_enter Tryd.func48, Tryd.ntmps48
        go_wp2_with fail
        refine (inRange_yes _ _ _ _ h1 h1').mono ?_; rintro e w' ⟨rfl, rfl⟩
        go_wp2_with fail
        refine (inRange_no _ _ _ _ h3).mono ?_; rintro e w' ⟨rfl, rfl⟩
        go_wp2_with fail
        go_ret
        exact ⟨rfl, rfl⟩
    · have h3 : a < -24 ∨ 24 < a := by omega
      clear hn hl h1
      go_enter Tryd.func48, Tryd.ntmps48
      go_wp2_with fail
      refine (inRange_no _ _ _ _ h3).mono ?_; rintro e w' ⟨rfl, rfl⟩
      go_wp2_with fail
      go_ret
      exact ⟨rfl, rfl⟩
  · obtain ⟨p, m, rfl⟩ := hr.len
    have hq : ((L.length : Int) == 3) = false := by rw [beq_eq_false_iff_ne]; omega
    generalize L.length = n at hq
    clear hr h hl
    go_enter Tryd.func48, Tryd.ntmps48
    go_wp2
    go_ret
    exact ⟨rfl, rfl⟩
/-- the numbers of a ratio -/
def ratV (a b c : Int) : Value := .tuple #[.int .i64 (Tic.rup a b c : Int), .int .i64 (Tic.rdn a b c : Int)]
/-- powers whose numbers fit -/
def Fit (a b c : Int) : Prop := -1000 ≤ a ∧ a ≤ 1000 ∧ -1000 ≤ b ∧ b ≤ 1000 ∧ -1000 ≤ c ∧ c ≤ 1000 ∧ Fits (Tic.rup a b c) ∧ Fits (Tic.rdn a b c)
theorem Tic.Pws.fit {a b c : Int} (h : Tic.Pws a b c) : Fit a b c := by
  have h1 := h.rup_lt
  have h2 := h.rdn_lt
  unfold Tic.Pws at h
  exact ⟨by omega, by omega, by omega, by omega, by omega, by omega, by unfold Fits; omega, by unfold Fits; omega⟩
theorem Fit.neg {a b c : Int} (h : Fit a b c) : Fit (-a) (-b) (-c) := by
  obtain ⟨h1, h2, h3, h4, h5, h6, h7, h8⟩ := h
  exact ⟨by omega, by omega, by omega, by omega, by omega, by omega, h8, by rw [Tic.rup_neg] at h7; exact h7⟩
theorem rup_parts {a b c : Int} (h : Fits (Tic.rup a b c)) : Fits (2 ^ a.toNat) ∧ Fits (3 ^ b.toNat) ∧ Fits (5 ^ c.toNat) ∧ Fits (2 ^ a.toNat * 3 ^ b.toNat) := by
  unfold Fits Tic.rup at *
  have p2 : 0 < 2 ^ a.toNat := Nat.pow_pos (by decide)
  have p3 : 0 < 3 ^ b.toNat := Nat.pow_pos (by decide)
  have p5 : 0 < 5 ^ c.toNat := Nat.pow_pos (by decide)
  generalize 2 ^ a.toNat = x at *
  generalize 3 ^ b.toNat = y at *
  generalize 5 ^ c.toNat = z at *
  have i1 : x * y ≤ x * y * z := Nat.le_mul_of_pos_right _ p5
  have i2 : x ≤ x * y := Nat.le_mul_of_pos_right _ p3
  have i3 : y ≤ x * y := Nat.le_mul_of_pos_left _ p2
  have i4 : z ≤ x * y * z := Nat.le_mul_of_pos_left _ (Nat.mul_pos p2 p3)
  exact ⟨by omega, by omega, by omega, by omega⟩
/-- the product of numbers that fit -/
theorem prod_cast {x y : Nat} (h : Fits (x * y)) : (x : Int) * (y : Int) = ((x * y : Nat) : Int) := (Int.natCast_mul x y).symm
end Go.Proofs.YtpcbplademohnaaDoor
