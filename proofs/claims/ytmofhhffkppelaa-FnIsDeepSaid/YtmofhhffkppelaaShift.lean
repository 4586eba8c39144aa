/-
  Contracts of ShiftSet, TurnSet and OthersOf, of the program and of the model.
-/
import Derived.Test.YtmofhhffkppelaaSets
namespace Go.Proofs.Ytmofhhffkppelaa
open Go.RowKit

theorem sshift_any (n s t : Int) (w : World) (hv : Tic.Valid n s) (ht : Tic.Turn t) :
    Calls Try.prog 80 #[.int .i64 n, .int .i64 s, .int .i64 t] w fun e w' => e = .returned (.int .i64 (Tic.shf n.toNat t s.toNat : Int)) ∧ w = w' := by
  have hlt := hv.lt
  obtain ⟨g1, g2, g3, _⟩ := hv
  obtain ⟨h3, h4⟩ := ht
  obtain ⟨N, rfl⟩ := Int.eq_ofNat_of_zero_le (show 0 ≤ n by omega)
  obtain ⟨S, rfl⟩ := Int.eq_ofNat_of_zero_le g3
  rw [Int.toNat_natCast, Int.toNat_natCast]
  have HF := Lib.hid (Tic.sum_shf (n := N) (by omega) t S)
  go_enter Try.func80, Try.ntmps80
  go_wp2
  go_loop [7, 8] (fun t7 t8 => ∃ k : Nat, k ≤ N ∧ t8 = .int .i64 k ∧ t7 = .int .i64 (Tic.sumImg (Tic.mvd N 1 t) S k : Int)) (fun _ t8 => N - (intOf t8).toNat)
  case atStart => exact ⟨0, Nat.zero_le _, rfl, rfl⟩
  case round =>
    obtain ⟨k, hk, rfl, rfl⟩ := hrel
    have hb := Tic.sum_mvd_lt (n := N) (by omega) (by omega) 1 t (.inl rfl) S hk
    by_cases hlt2 : k < N
    · cases hbit : S.testBit k with
      | false =>
        have HB := Lib.hid hbit
        clear hbit
        go_wp2_with fail
        refine (bit_no _ _ S k _ rfl (by omega) rfl (by omega) HB.out).mono ?_; rintro e w1 ⟨rfl, rfl⟩
        go_wp2
        go_round
        case rel => exact ⟨k + 1, by omega, by go_num, by rw [Tic.sumImg_no _ HB.out]⟩
        case measure => simp [intOf]; omega
      | true =>
        have HB := Lib.hid hbit
        clear hbit
        have hm1 := Int.emod_nonneg (k + t) (b := (N : Int)) (by omega)
        have hm2 := Int.emod_lt_of_pos (k + t) (b := (N : Int)) (by omega)
        have hp : 2 ^ ((k + t) % (N : Int)).toNat ≤ 4096 := Tic.pow_le_12 (by omega)
        go_wp2_with fail
        refine (bit_yes _ _ S k _ rfl (by omega) rfl (by omega) HB.out).mono ?_; rintro e w1 ⟨rfl, rfl⟩
        go_wp2_with fail
        refine (rest_any _ _ _ (by omega) (by omega) (by omega) (by omega)).mono ?_; rintro e w1 ⟨rfl, rfl⟩
        go_wp2_with fail
        refine (power_any _ _ (by omega) (by omega)).mono ?_; rintro e w1 ⟨rfl, rfl⟩
        generalize hg : 2 ^ ((k + t) % (N : Int)).toNat = p at hp
        have HG := Lib.hid hg
        clear hg
        go_wp2
        go_round
        case rel =>
          refine ⟨k + 1, by omega, by go_num, ?_⟩
          rw [Tic.sumImg_yes _ HB.out, ← HG.out]
          rw [show Tic.mvd N 1 t k = ((k + t) % (N : Int)).toNat by unfold Tic.mvd; rw [Int.one_mul, Int.add_comm]]
          rfl
        case measure => simp [intOf]; omega
    · have : k = N := by omega
      subst this
      go_wp2
      go_ret
      exact ⟨ret_int (by rw [HF.out]), rfl⟩

theorem sturn_any (n s t : Int) (w : World) (hv : Tic.Valid n s) (ht : Tic.Turn t) :
    Calls Try.prog 62 #[.int .i64 n, .int .i64 s, .int .i64 t] w fun e w' => e = .returned (.int .i64 (Tic.tur n.toNat t s.toNat : Int)) ∧ w = w' := by
  have hlt := hv.lt
  obtain ⟨g1, g2, g3, _⟩ := hv
  obtain ⟨h3, h4⟩ := ht
  obtain ⟨N, rfl⟩ := Int.eq_ofNat_of_zero_le (show 0 ≤ n by omega)
  obtain ⟨S, rfl⟩ := Int.eq_ofNat_of_zero_le g3
  rw [Int.toNat_natCast, Int.toNat_natCast]
  have HF := Lib.hid (Tic.sum_tur (n := N) (by omega) t S)
  go_enter Try.func62, Try.ntmps62
  go_wp2
  go_loop [7, 8] (fun t7 t8 => ∃ k : Nat, k ≤ N ∧ t8 = .int .i64 k ∧ t7 = .int .i64 (Tic.sumImg (Tic.mvd N (-1) t) S k : Int)) (fun _ t8 => N - (intOf t8).toNat)
  case atStart => exact ⟨0, Nat.zero_le _, rfl, rfl⟩
  case round =>
    obtain ⟨k, hk, rfl, rfl⟩ := hrel
    have hb := Tic.sum_mvd_lt (n := N) (by omega) (by omega) (-1) t (.inr rfl) S hk
    by_cases hlt2 : k < N
    · cases hbit : S.testBit k with
      | false =>
        have HB := Lib.hid hbit
        clear hbit
        go_wp2_with fail
        refine (bit_no _ _ S k _ rfl (by omega) rfl (by omega) HB.out).mono ?_; rintro e w1 ⟨rfl, rfl⟩
        go_wp2
        go_round
        case rel => exact ⟨k + 1, by omega, by go_num, by rw [Tic.sumImg_no _ HB.out]⟩
        case measure => simp [intOf]; omega
      | true =>
        have HB := Lib.hid hbit
        clear hbit
        have hm1 := Int.emod_nonneg (t - k) (b := (N : Int)) (by omega)
        have hm2 := Int.emod_lt_of_pos (t - k) (b := (N : Int)) (by omega)
        have hp : 2 ^ ((t - k) % (N : Int)).toNat ≤ 4096 := Tic.pow_le_12 (by omega)
        go_wp2_with fail
        refine (bit_yes _ _ S k _ rfl (by omega) rfl (by omega) HB.out).mono ?_; rintro e w1 ⟨rfl, rfl⟩
        go_wp2_with fail
        refine (rest_any _ _ _ (by omega) (by omega) (by omega) (by omega)).mono ?_; rintro e w1 ⟨rfl, rfl⟩
        go_wp2_with fail
        refine (power_any _ _ (by omega) (by omega)).mono ?_; rintro e w1 ⟨rfl, rfl⟩
        generalize hg : 2 ^ ((t - k) % (N : Int)).toNat = p at hp
        have HG := Lib.hid hg
        clear hg
        go_wp2
        go_round
        case rel =>
          refine ⟨k + 1, by omega, by go_num, ?_⟩
          rw [Tic.sumImg_yes _ HB.out, ← HG.out]
          rw [show Tic.mvd N (-1) t k = ((t - k) % (N : Int)).toNat by unfold Tic.mvd; rw [Int.neg_one_mul, Int.sub_eq_add_neg]]
          rfl
        case measure => simp [intOf]; omega
    · have : k = N := by omega
      subst this
      go_wp2
      go_ret
      exact ⟨ret_int (by rw [HF.out]), rfl⟩


end Go.Proofs.Ytmofhhffkppelaa
