/-
  Contracts of MovesOf, of the program and of the model.
-/
import Derived.Test.YtgpbgbcdlebaiaaSetEq
import Derived.Test.YtgpbgbcdlebaiaaOnes
import Derived.Test.YtgpbgbcdlebaiaaKindNum
namespace Go.Proofs.Ytgpbgbcdlebaiaa
open Go.RowKit
set_option linter.unusedVariables false

theorem iMovesOf_yes (n s : Int) (w : World) (hv : Tic.Valid n s) :
    Calls Try.prog 12 #[.int .i64 n, .int .i64 s] w fun e w' => e = .returned (.tuple #[.int .i64 (Tic.shs n.toNat s.toNat n.toNat : Int), .int .i64 (Tic.trs n.toNat s.toNat n.toNat : Int)]) ∧ Below w.heap.size w w' := by
  have hlt := hv.lt
  have g1 := hv.1
  have g2 := hv.2.1
  obtain ⟨N, rfl⟩ := Int.eq_ofNat_of_zero_le (show 0 ≤ n by omega)
  obtain ⟨S, rfl⟩ := Int.eq_ofNat_of_zero_le hv.2.2.1
  rw [Int.toNat_natCast, Int.toNat_natCast]
  have heq := eql_set
  have hgu := eqGuard_set
  go_enter Try.func12, Try.ntmps12
  go_wp2_with fail
  refine (implValid_yes _ _ _ hv).mono ?_; rintro e w1 ⟨rfl, rfl⟩
  go_wp2
  go_loopw [7, 8, 9, 18] (fun t7 t8 t9 t18 wr => ∃ k : Nat, k ≤ N ∧ t18 = .int .i64 k ∧ t7 = .int .i64 (Tic.shs N S k : Int) ∧ t8 = .int .i64 (Tic.trs N S k : Int) ∧
      wr.cell? ⟨w.heap.size, 0, none⟩ = some (.int .i64 N) ∧ wr.cell? ⟨w.heap.size, 1, none⟩ = some (.int .i64 S) ∧
      w.heap.size < wr.heap.size ∧ Below w.heap.size w wr) (fun _ _ _ t18 _ => N - (intOf t18).toNat)
  case atStart =>
    refine ⟨0, Nat.zero_le _, rfl, rfl, rfl, ?_, ?_, ?_, ?_⟩
    all_goals first | exact (Below.refl _ _).alloc (Nat.le_refl _) _ | go_simp
  case round =>
    obtain ⟨k, hk, rfl, rfl, rfl, a0, a1, hz, hbel⟩ := hrel
    by_cases hlt2 : k < N
    · have ht : Tic.Turn (k : Int) := ⟨by omega, by omega⟩
      have hk0 : Below wr.heap.size wr wr := Below.refl _ _
      have hc1 := Tic.shs_le N S k
      have hc2 := Tic.trs_le N S k
      rcases Tic.shs_step N S k with ⟨E1, H1⟩ | ⟨E1, H1⟩ <;> rcases Tic.trs_step N S k with ⟨E2, H2⟩ | ⟨E2, H2⟩
      all_goals
        have G1 := Lib.hid H1
        have G2 := Lib.hid H2
        clear H1 H2
        go_wp2_with fail
        go_region_held3 (fun w' => w'.cell? ⟨w.heap.size, 0, none⟩ = some (.int .i64 N) ∧ w'.cell? ⟨w.heap.size, 1, none⟩ = some (.int .i64 S))
          (first | go_keep | (refine ⟨?_, ?_⟩ <;> ((refine (hk0.cell ?_).trans ?_) <;> assumption)))
          (first | (go_at_call 48; refine (mshift_any _ _ _ _ hv ht).mono ?_; rintro e w1 ⟨rfl, hb⟩; replace hk0 : Below wr.heap.size wr w1 := (by first | exact grow1 hk0 hb | exact grow0 hk0 hb); clear hb) | (go_at_call 49; refine (mturn_any _ _ _ _ hv ht).mono ?_; rintro e w1 ⟨rfl, hb⟩; replace hk0 : Below wr.heap.size wr w1 := (by first | exact grow1 hk0 hb | exact grow0 hk0 hb); clear hb))
        go_wp2_with fail
        go_region_held3 (fun w' => w'.cell? ⟨w.heap.size, 0, none⟩ = some (.int .i64 N) ∧ w'.cell? ⟨w.heap.size, 1, none⟩ = some (.int .i64 S))
          (first | go_keep | (refine ⟨?_, ?_⟩ <;> ((refine (hk0.cell ?_).trans ?_) <;> assumption)))
          (first | (go_at_call 48; refine (mshift_any _ _ _ _ hv ht).mono ?_; rintro e w1 ⟨rfl, hb⟩; replace hk0 : Below wr.heap.size wr w1 := (by first | exact grow1 hk0 hb | exact grow0 hk0 hb); clear hb) | (go_at_call 49; refine (mturn_any _ _ _ _ hv ht).mono ?_; rintro e w1 ⟨rfl, hb⟩; replace hk0 : Below wr.heap.size wr w1 := (by first | exact grow1 hk0 hb | exact grow0 hk0 hb); clear hb))
        have d0 := (hk0.cell (p := ⟨w.heap.size, 0, none⟩) hz).trans a0
        have d1 := (hk0.cell (p := ⟨w.heap.size, 1, none⟩) hz).trans a1
        have hz1 := hk0.size
        have hb1 := hbel.trans (hk0.mono (by omega))
        clear a0 a1
        go_wp2
        go_roundw
        case rel => exact ⟨k + 1, by omega, by go_num, congrArg (Value.int .i64) (by have := G1.out; omega), congrArg (Value.int .i64) (by have := G2.out; omega), d0, d1, by omega, hb1⟩
        case measure => simp [intOf]; omega
    · have : k = N := by omega
      subst this
      go_wp2
      go_ret2
      exact ⟨rfl, hbel⟩

theorem iMovesOf_no (n s : Int) (w : World) (hv : ¬ Tic.Valid n s) :
    Calls Try.prog 12 #[.int .i64 n, .int .i64 s] w fun e w' => e = .returned (.tuple #[.int .i64 (-1), .int .i64 (-1)]) ∧ w = w' := by
  go_enter Try.func12, Try.ntmps12
  go_wp2_with fail
  refine (implValid_no _ _ _ hv).mono ?_; rintro e w1 ⟨rfl, rfl⟩
  go_wp2_with fail
  go_ret2
  exact ⟨rfl, rfl⟩
theorem sMovesOf_no (n s : Int) (w : World) (hv : ¬ Tic.Valid n s) :
    Calls Try.prog 13 #[.int .i64 n, .int .i64 s] w fun e w' => e = .returned (.tuple #[.int .i64 (-1), .int .i64 (-1)]) ∧ w = w' := by
  go_enter Try.func13, Try.ntmps13
  go_wp2_with fail
  refine (validSet_no _ _ _ hv).mono ?_; rintro e w1 ⟨rfl, rfl⟩
  go_wp2_with fail
  go_ret2
  exact ⟨rfl, rfl⟩
theorem sMovesOf_yes (n s : Int) (w : World) (hv : Tic.Valid n s) :
    Calls Try.prog 13 #[.int .i64 n, .int .i64 s] w fun e w' => e = .returned (.tuple #[.int .i64 (Tic.shs n.toNat s.toNat n.toNat : Int), .int .i64 (Tic.trs n.toNat s.toNat n.toNat : Int)]) ∧ w = w' := by
  have hlt := hv.lt
  have g1 := hv.1
  have g2 := hv.2.1
  obtain ⟨N, rfl⟩ := Int.eq_ofNat_of_zero_le (show 0 ≤ n by omega)
  obtain ⟨S, rfl⟩ := Int.eq_ofNat_of_zero_le hv.2.2.1
  rw [Int.toNat_natCast, Int.toNat_natCast]
  go_enter Try.func13, Try.ntmps13
  go_wp2_with fail
  refine (validSet_yes _ _ _ hv).mono ?_; rintro e w1 ⟨rfl, rfl⟩
  go_wp2
  go_loop [6, 7, 8] (fun t6 t7 t8 => ∃ k : Nat, k ≤ N ∧ t8 = .int .i64 k ∧ t6 = .int .i64 (Tic.shs N S k : Int) ∧ t7 = .int .i64 (Tic.trs N S k : Int)) (fun _ _ t8 => N - (intOf t8).toNat)
  case atStart => exact ⟨0, Nat.zero_le _, rfl, rfl, rfl⟩
  case round =>
    obtain ⟨k, hk, rfl, rfl, rfl⟩ := hrel
    by_cases hlt2 : k < N
    · have ht : Tic.Turn (k : Int) := ⟨by omega, by omega⟩
      have hc1 := Tic.shs_le N S k
      have hc2 := Tic.trs_le N S k
      rcases Tic.shs_step N S k with ⟨E1, H1⟩ | ⟨E1, H1⟩ <;> rcases Tic.trs_step N S k with ⟨E2, H2⟩ | ⟨E2, H2⟩
      all_goals
        change ((((Tic.shf N k S : Nat) : Int) == (S : Int)) = _) at E1
        change ((((Tic.tur N k S : Nat) : Int) == (S : Int)) = _) at E2
        have G1 := Lib.hid H1
        have G2 := Lib.hid H2
        clear H1 H2
        go_wp2_with fail
        refine (sshift_any _ _ _ _ hv ht).mono ?_; rintro e w1 ⟨rfl, rfl⟩
        go_wp2_with fail
        refine (sturn_any _ _ _ _ hv ht).mono ?_; rintro e w1 ⟨rfl, rfl⟩
        go_wp2
        go_round
        case rel => exact ⟨k + 1, by omega, by go_num, congrArg (Value.int .i64) (by have := G1.out; omega), congrArg (Value.int .i64) (by have := G2.out; omega)⟩
        case measure => simp [intOf]; omega
    · have : k = N := by omega
      subst this
      go_wp2
      go_ret2
      exact ⟨rfl, rfl⟩

end Go.Proofs.Ytgpbgbcdlebaiaa
