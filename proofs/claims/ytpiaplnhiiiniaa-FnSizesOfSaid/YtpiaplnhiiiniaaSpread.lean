/-
  Contracts of SpreadOf, of the program and of the model.
-/
import Derived.Test.YtpiaplnhiiiniaaSets
import Derived.Test.YtpiaplnhiiiniaaEvenTab
namespace Go.Proofs.Ytpiaplnhiiiniaa
open Go.RowKit
set_option linter.unusedVariables false

/-- the numbers for which SpreadOf is asked -/
def SpOk (n k m : Int) : Prop := 3 ≤ n ∧ n ≤ 12 ∧ 1 ≤ k ∧ k ≤ n ∧ 0 ≤ m ∧ m < n

theorem spt_int {N K M i : Nat} : ((((i : Int) * (N : Int) + (M : Int)) / (K : Int)) % (N : Int)).toNat = Tic.spt N K M i := by
  unfold Tic.spt
  rw [← Int.natCast_mul, ← Int.natCast_add, ← Int.natCast_ediv, ← Int.natCast_emod, Int.toNat_natCast]

theorem spr4096 {N K M j : Nat} (h : 0 < N) (hN : N ≤ 12) : Tic.spr N K M j < 4096 := by
  have h1 := Tic.spr_lt h K M j
  have h3 : 2 ^ N ≤ 2 ^ 12 := Nat.pow_le_pow_right (by omega) hN
  omega

theorem sspread_any (n k m : Int) (w : World) (h : SpOk n k m) :
    Calls Try.prog 54 #[.int .i64 n, .int .i64 k, .int .i64 m] w fun e w' => e = .returned (.int .i64 (Tic.spr n.toNat k.toNat m.toNat k.toNat : Int)) ∧ w = w' := by
  obtain ⟨h1, h2, h3, h4, h5, h6⟩ := h
  obtain ⟨N, rfl⟩ := Int.eq_ofNat_of_zero_le (show 0 ≤ n by omega)
  obtain ⟨K, rfl⟩ := Int.eq_ofNat_of_zero_le (show 0 ≤ k by omega)
  obtain ⟨M, rfl⟩ := Int.eq_ofNat_of_zero_le h5
  rw [Int.toNat_natCast, Int.toNat_natCast, Int.toNat_natCast]
  go_enter Try.func54, Try.ntmps54
  go_wp2
  go_loop [7, 8] (fun t7 t8 => ∃ i : Nat, i ≤ K ∧ t8 = .int .i64 i ∧ t7 = .int .i64 (Tic.spS N K M i : Int)) (fun _ t8 => K - (intOf t8).toNat)
  case atStart => exact ⟨0, by omega, rfl, rfl⟩
  case round =>
    obtain ⟨i, hi, rfl, rfl⟩ := hrel
    have hb : Tic.spS N K M i < 4096 := by rw [Tic.spr_sum (by omega) (by omega) (by omega) hi]; exact spr4096 (by omega) (by omega)
    by_cases hlt : i < K
    · have a1 : i * N ≤ 144 := by have := Nat.mul_le_mul (show i ≤ 12 by omega) (show N ≤ 12 by omega); omega
      have a2 : (0 : Int) ≤ (i : Int) * (N : Int) := by rw [← Int.natCast_mul]; omega
      have a3 : (i : Int) * (N : Int) ≤ 144 := by rw [← Int.natCast_mul]; omega
      have a4 : 0 ≤ ((i : Int) * (N : Int) + (M : Int)) / (K : Int) := Int.ediv_nonneg (by omega) (by omega)
      have a5 : ((i : Int) * (N : Int) + (M : Int)) / (K : Int) ≤ 200 := by
        have := Int.ediv_le_self (K : Int) (show 0 ≤ (i : Int) * (N : Int) + (M : Int) by omega); omega
      have a6 := Int.emod_nonneg (((i : Int) * (N : Int) + (M : Int)) / (K : Int)) (b := (N : Int)) (by omega)
      have a7 := Int.emod_lt_of_pos (((i : Int) * (N : Int) + (M : Int)) / (K : Int)) (b := (N : Int)) (by omega)
      have hp : 2 ^ (((i : Int) * (N : Int) + (M : Int)) / (K : Int) % (N : Int)).toNat ≤ 4096 := Tic.pow_le_12 (by omega)
      go_wp2_with fail
      refine (power_any _ _ (by omega) (by omega)).mono ?_; rintro e w1 ⟨rfl, rfl⟩
      generalize hg : 2 ^ (((i : Int) * (N : Int) + (M : Int)) / (K : Int) % (N : Int)).toNat = P at hp
      have HG := Lib.hid hg
      clear a1 a2 a3 a4 a5 a6 a7 hg
      go_wp2
      go_round
      case rel => exact ⟨i + 1, by omega, by go_num, congrArg (Value.int .i64) (by have := HG.out; rw [spt_int] at this; rw [← this]; rfl)⟩
      case measure => simp [intOf]; omega
    · have : i = K := by omega
      subst this
      have HS := Lib.hid (Tic.spr_sum (n := N) (k := i) (m := M) (j := i) (by omega) (by omega) (by omega) (by omega))
      go_wp2
      go_ret
      exact ⟨ret_int (by rw [HS.out]), rfl⟩

theorem sSpreadOf_yes (n k m : Int) (w : World) (h : SpOk n k m) :
    Calls Try.prog 17 #[.int .i64 n, .int .i64 k, .int .i64 m] w fun e w' => e = .returned (.int .i64 (Tic.spr n.toNat k.toNat m.toNat k.toNat : Int)) ∧ w = w' := by
  obtain ⟨h1, h2, h3, h4, h5, h6⟩ := h
  go_enter Try.func17, Try.ntmps17
  go_wp2_with fail
  refine (inRange_yes _ _ _ _ h1 h2).mono ?_; rintro e w1 ⟨rfl, rfl⟩
  go_wp2_with fail
  refine (inRange_yes _ _ _ _ h3 h4).mono ?_; rintro e w1 ⟨rfl, rfl⟩
  go_wp2_with fail
  refine (inRange_yes _ _ _ _ h5 (by omega)).mono ?_; rintro e w1 ⟨rfl, rfl⟩
  go_wp2_with fail
  refine (sspread_any _ _ _ _ ⟨h1, h2, h3, h4, h5, h6⟩).mono ?_; rintro e w1 ⟨rfl, rfl⟩
  go_wp2_with fail
  go_ret
  exact ⟨rfl, rfl⟩
theorem sSpreadOf_no (n k m : Int) (w : World) (h : ¬ SpOk n k m) :
    Calls Try.prog 17 #[.int .i64 n, .int .i64 k, .int .i64 m] w fun e w' => e = .returned (.int .i64 (-1)) ∧ w = w' := by
  by_cases h1 : 3 ≤ n ∧ n ≤ 12
  · by_cases h2 : 1 ≤ k ∧ k ≤ n
    · have h3 : m < 0 ∨ n - 1 < m := by
        unfold SpOk at h
        omega
      clear h
      go_enter Try.func17, Try.ntmps17
      go_wp2_with fail
      refine (inRange_yes _ _ _ _ h1.1 h1.2).mono ?_; rintro e w1 ⟨rfl, rfl⟩
      go_wp2_with fail
      refine (inRange_yes _ _ _ _ h2.1 h2.2).mono ?_; rintro e w1 ⟨rfl, rfl⟩
      go_wp2_with fail
      refine (inRange_no _ _ _ _ h3).mono ?_; rintro e w1 ⟨rfl, rfl⟩
      go_wp2_with fail
      go_ret
      exact ⟨rfl, rfl⟩
    · have h3 : k < 1 ∨ n < k := by omega
      clear h
      go_enter Try.func17, Try.ntmps17
      go_wp2_with fail
      refine (inRange_yes _ _ _ _ h1.1 h1.2).mono ?_; rintro e w1 ⟨rfl, rfl⟩
      go_wp2_with fail
      refine (inRange_no _ _ _ _ h3).mono ?_; rintro e w1 ⟨rfl, rfl⟩
      go_wp2_with fail
      go_ret
      exact ⟨rfl, rfl⟩
  · have h3 : n < 3 ∨ 12 < n := by omega
    clear h
    go_enter Try.func17, Try.ntmps17
    go_wp2_with fail
    refine (inRange_no _ _ _ _ h3).mono ?_; rintro e w1 ⟨rfl, rfl⟩
    go_wp2_with fail
    go_ret
    exact ⟨rfl, rfl⟩
set_option maxRecDepth 20000 in
theorem iSpreadOf_yes (n k m : Int) (w : World) (h : SpOk n k m) :
    Calls Try.prog 18 #[.int .i64 n, .int .i64 k, .int .i64 m] w fun e w' => e = .returned (.int .i64 (Tic.spr n.toNat k.toNat m.toNat k.toNat : Int)) ∧ Below w.heap.size w w' := by
  obtain ⟨h1, h2, h3, h4, h5, h6⟩ := h
  obtain ⟨N, rfl⟩ := Int.eq_ofNat_of_zero_le (show 0 ≤ n by omega)
  obtain ⟨K, rfl⟩ := Int.eq_ofNat_of_zero_le (show 0 ≤ k by omega)
  obtain ⟨M, rfl⟩ := Int.eq_ofNat_of_zero_le h5
  rw [Int.toNat_natCast, Int.toNat_natCast, Int.toNat_natCast]
  have hK0 : ¬ K = 0 := by omega
  have hK1 : ¬ (K : Int) < 1 := by omega
  have hM0 : ¬ (M : Int) < 0 := by omega
  have hNK : ¬ N < K := by omega
  have hNM : ¬ N ≤ M := by omega
  go_enter Try.func18, Try.ntmps18
  go_wp2_with fail
  refine (circle_yes _ _ h1 h2).mono ?_; rintro e w1 ⟨rfl, rfl⟩
  go_wp2
  go_loopw [8, 33] (fun t8 t33 wr => ∃ i : Nat, i ≤ K ∧ t33 = .int .i64 i ∧
      wr.cell? ⟨w.heap.size, 0, none⟩ = some (.int .i64 N) ∧ wr.cell? ⟨w.heap.size, 1, none⟩ = some (.int .i64 (Tic.spr N K M i : Int)) ∧
      wr.frozen? ⟨w.heap.size, 0, none⟩ = false ∧ wr.frozen? ⟨w.heap.size, 1, none⟩ = false ∧
      w.heap.size < wr.heap.size ∧ Below w.heap.size w wr) (fun _ t33 _ => K - (intOf t33).toNat)
  case atStart =>
    refine ⟨0, Nat.zero_le _, rfl, ?_, ?_, ?_, ?_, ?_, ?_⟩
    all_goals first | exact (Below.refl _ _).alloc (Nat.le_refl _) _ | go_simp
    rfl
  case round =>
    obtain ⟨i, hi, rfl, a0, a1, q0, q1, hz, hbel⟩ := hrel
    have hb : Tic.spr N K M i < 4096 := spr4096 (by omega) (by omega)
    by_cases hlt : i < K
    · have b1 : i * N ≤ 144 := by have := Nat.mul_le_mul (show i ≤ 12 by omega) (show N ≤ 12 by omega); omega
      have b2 : (0 : Int) ≤ (i : Int) * (N : Int) := by rw [← Int.natCast_mul]; omega
      have b3 : (i : Int) * (N : Int) ≤ 144 := by rw [← Int.natCast_mul]; omega
      have b4 : 0 ≤ ((i : Int) * (N : Int) + (M : Int)) / (K : Int) := Int.ediv_nonneg (by omega) (by omega)
      have b5 : ((i : Int) * (N : Int) + (M : Int)) / (K : Int) ≤ 200 := by
        have := Int.ediv_le_self (K : Int) (show 0 ≤ (i : Int) * (N : Int) + (M : Int) by omega); omega
      go_wp2_with fail
      have hs1 := IntWalk.i64_in ((i : Int) * (N : Int)) (by omega)
      have hs2 := IntWalk.i64_in ((i : Int) * (N : Int) + (M : Int)) (by omega)
      have hs3 := Int.tdiv_eq_ediv_of_nonneg (b := (K : Int)) (show 0 ≤ (i : Int) * (N : Int) + (M : Int) by omega)
      have hs4 := IntWalk.i64_in (((i : Int) * (N : Int) + (M : Int)) / (K : Int)) (by omega)
      refine wp_region_still_tail 8 (by kernel_rfl) (by kernel_rfl) ?_
      simp only [List.take_succ_cons, List.take_zero, List.drop_succ_cons, List.drop_zero]
      still_step
      still_step
      still_step
      still_step
      still_step
      still_step
      still_step
      still_step
      refine wpStill_nil ?_
      change wpList _ _ _ _ _ wr.drew
      clear hs1 hs2 hs3 hs4
      go_wp2_with fail
      refine (with_any _ _ _ _ (by omega) (by omega) (by omega) (by omega) (by omega) (by omega)).mono ?_; rintro e w2 ⟨rfl, hb2⟩
      rw [Int.toNat_natCast, spt_int, show Tic.spr N K M i ||| 2 ^ Tic.spt N K M i = Tic.spr N K M (i + 1) from rfl]
      obtain ⟨hc2, hf2⟩ := bcell hb2
      have s0 := (hc2 w.heap.size 0 (by simpa using hz)).trans a0
      have s1 := (hc2 w.heap.size 1 (by simpa using hz)).trans a1
      have t0 := (hf2 w.heap.size 0 (by simpa using hz)).trans q0
      have t1 := (hf2 w.heap.size 1 (by simpa using hz)).trans q1
      have hz3 := Nat.lt_of_lt_of_le hz hb2.size
      have hbel2 := hbel.drew.trans (hb2.mono (by simpa using Nat.le_of_lt hz))
      clear hc2 hf2 hb2 hbel a0 a1 q0 q1 hz b1 b2 b3 b4 b5
      go_wp2
      obtain ⟨y0, y1⟩ := pair_back (x := .int .i64 N) (y := .int .i64 (Tic.spr N K M (i + 1) : Int)) s0 s1
      go_roundw
      case rel => exact ⟨i + 1, by omega, by go_num, y0, y1, by simpa using t0, by simpa using t1, by simpa using hz3, (hbel2.setCell (by simp) _).setCell (by simp) _⟩
      case measure => simp [intOf]; omega
    · have : i = K := by omega
      subst this
      go_wp2
      go_ret
      exact ⟨rfl, hbel⟩
theorem iSpreadOf_no (n k m : Int) (w : World) (h : ¬ SpOk n k m) :
    Calls Try.prog 18 #[.int .i64 n, .int .i64 k, .int .i64 m] w fun e w' => e = .returned (.int .i64 (-1)) ∧ w = w' := by
  by_cases h1 : 3 ≤ n ∧ n ≤ 12
  · have h3 : k < 1 ∨ n < k ∨ m < 0 ∨ n ≤ m := by
      unfold SpOk at h
      omega
    clear h
    rcases (show k < 1 ∨ (1 ≤ k ∧ n < k) ∨ (1 ≤ k ∧ k ≤ n ∧ m < 0) ∨ (1 ≤ k ∧ k ≤ n ∧ 0 ≤ m ∧ n ≤ m) by omega) with h4 | h4 | h4 | h4
    all_goals
      go_enter Try.func18, Try.ntmps18
      go_wp2_with fail
      refine (circle_yes _ _ h1.1 h1.2).mono ?_; rintro e w1 ⟨rfl, rfl⟩
      go_wp2
      go_ret
      exact ⟨rfl, rfl⟩
  · have h3 : n < 3 ∨ 12 < n := by omega
    clear h
    go_enter Try.func18, Try.ntmps18
    go_wp2_with fail
    refine (circle_no _ _ h3).mono ?_; rintro e w1 ⟨rfl, rfl⟩
    go_wp2
    go_ret
    exact ⟨rfl, rfl⟩
end Go.Proofs.Ytpiaplnhiiiniaa
