/-
  Contracts of SpreadOf, of the program and of the model.
-/
import Derived.Test.YtmofhhffkppelaaSets
import Derived.Test.YtmofhhffkppelaaEvenTab
namespace Go.Proofs.Ytmofhhffkppelaa
open Go.RowKit
set_option linter.unusedVariables false

/-- the numbers for which SpreadOf is asked -/
def SpOk (n k m : Int) : Prop := 3 ≤ n ∧ n ≤ 12 ∧ 1 ≤ k ∧ k ≤ n ∧ 0 ≤ m ∧ m < n

theorem spt_int {N K M i : Nat} : ((((i : Int) * (N : Int) + (M : Int)) / (K : Int)) % (N : Int)).toNat = Tic.spt N K M i := by
  unfold Tic.spt
  rw [← Int.natCast_mul, ← Int.natCast_add, ← Int.natCast_ediv, ← Int.natCast_emod, Int.toNat_natCast]

theorem spr4096 {N K M j : Nat} (h : 0 < N) (hN : N ≤ 12) : Tic.spr N K M j < 4096 := by
  have h1 := Tic.spr_lt h K M j
  have h3 : 2 ^ N ≤ 2 ^ 12 := Nat.pow_le_pow_right (by omega) hN
  omega

theorem sspread_any (n k m : Int) (w : World) (h : SpOk n k m) :
    Calls Try.prog 65 #[.int .i64 n, .int .i64 k, .int .i64 m] w fun e w' => e = .returned (.int .i64 (Tic.spr n.toNat k.toNat m.toNat k.toNat : Int)) ∧ w = w' := by
  obtain ⟨h1, h2, h3, h4, h5, h6⟩ := h
  obtain ⟨N, rfl⟩ := Int.eq_ofNat_of_zero_le (show 0 ≤ n by omega)
  obtain ⟨K, rfl⟩ := Int.eq_ofNat_of_zero_le (show 0 ≤ k by omega)
  obtain ⟨M, rfl⟩ := Int.eq_ofNat_of_zero_le h5
  rw [Int.toNat_natCast, Int.toNat_natCast, Int.toNat_natCast]
  go_enter Try.func65, Try.ntmps65
  go_wp2
  go_loop [7, 8] (fun t7 t8 => ∃ i : Nat, i ≤ K ∧ t8 = .int .i64 i ∧ t7 = .int .i64 (Tic.spS N K M i : Int)) (fun _ t8 => K - (intOf t8).toNat)
  case atStart => exact ⟨0, by omega, rfl, rfl⟩
  case round =>
    obtain ⟨i, hi, rfl, rfl⟩ := hrel
    have hb : Tic.spS N K M i < 4096 := by rw [Tic.spr_sum (by omega) (by omega) (by omega) hi]; exact spr4096 (by omega) (by omega)
    by_cases hlt : i < K
    · have a1 : i * N ≤ 144 := by have := Nat.mul_le_mul (show i ≤ 12 by omega) (show N ≤ 12 by omega); omega
      have a2 : (0 : Int) ≤ (i : Int) * (N : Int) := by rw [← Int.natCast_mul]; omega
      have a3 : (i : Int) * (N : Int) ≤ 144 := by rw [← Int.natCast_mul]; omega
      have a4 : 0 ≤ ((i : Int) * (N : Int) + (M : Int)) / (K : Int) := Int.ediv_nonneg (by omega) (by omega)
      have a5 : ((i : Int) * (N : Int) + (M : Int)) / (K : Int) ≤ 200 := by
        have := Int.ediv_le_self (K : Int) (show 0 ≤ (i : Int) * (N : Int) + (M : Int) by omega); omega
      have a6 := Int.emod_nonneg (((i : Int) * (N : Int) + (M : Int)) / (K : Int)) (b := (N : Int)) (by omega)
      have a7 := Int.emod_lt_of_pos (((i : Int) * (N : Int) + (M : Int)) / (K : Int)) (b := (N : Int)) (by omega)
      have hp : 2 ^ (((i : Int) * (N : Int) + (M : Int)) / (K : Int) % (N : Int)).toNat ≤ 4096 := Tic.pow_le_12 (by omega)
      go_wp2_with fail
      refine (power_any _ _ (by omega) (by omega)).mono ?_; rintro e w1 ⟨rfl, rfl⟩
      generalize hg : 2 ^ (((i : Int) * (N : Int) + (M : Int)) / (K : Int) % (N : Int)).toNat = P at hp
      have HG := Lib.hid hg
      clear a1 a2 a3 a4 a5 a6 a7 hg
      go_wp2
      go_round
      case rel => exact ⟨i + 1, by omega, by go_num, congrArg (Value.int .i64) (by have := HG.out; rw [spt_int] at this; rw [← this]; rfl)⟩
      case measure => simp [intOf]; omega
    · have : i = K := by omega
      subst this
      have HS := Lib.hid (Tic.spr_sum (n := N) (k := i) (m := M) (j := i) (by omega) (by omega) (by omega) (by omega))
      go_wp2
      go_ret
      exact ⟨ret_int (by rw [HS.out]), rfl⟩

end Go.Proofs.Ytmofhhffkppelaa
